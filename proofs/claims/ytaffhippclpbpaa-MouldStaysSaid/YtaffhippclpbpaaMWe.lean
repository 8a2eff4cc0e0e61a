/- Part of a proof by a machine of ones own: see the text with the theorem. -/
import Derived.Test.YtaffhippclpbpaaMWd
namespace Go.Proofs.Ytaffhippclpbpaa.walk
open Go Go.Sh
set_option maxRecDepth 100000
set_option linter.unusedSimpArgs false
set_option linter.unusedVariables false
set_option maxHeartbeats 1000000 in
theorem call31 {ov : Ov} (ho : ∀ args w, ov 31 args w = none) (m : Nat) (h45 : HasP ov 45 S45.F) (h46 : HasP ov 46 S46.F) (h47 : HasP ov 47 S47.F) (r : MRun) (wv nv : Value) (f : Nat) (lv : Value) (ls : List Nat) (w : AW) (hl : w.lim ≤ w.next) (hR : RunV w r wv nv) (hv : RowsV natC w lv ls) (hT : TruthOk r f ls) :
    ∃ v w', (run Try.prog ov (m + 2)).call 31 [.agg ⟨runC r wv nv⟩, .agg ⟨[.int .i64 f, lv]⟩] w .none = .ok (.ret v) w' .none ∧ RowsV natC w' v (plL r ls f r.days.length) ∧ Up w w' := by
  refine call_wp text31 (by simp) (ho _ _) ?_
  have hb := runB_bnd hT.run
  have hd10 := hb.d10
  have hn4 := hb.n4
  have hbx := hb.b1
  have hbx5 := hb.b5
  have hp8 := hb.p8
  obtain ⟨w2, hw2⟩ : ∃ w2, w2 = (⟨(w.heap.put w.next (some (.cells (runC r wv nv) 67 false))).put (w.next + 1) (some (.cells [.int .i64 (f : Int), lv] 30 false)), w.next + 1 + 1, w.lim⟩ : AW) := ⟨_, rfl⟩
  have u2 : Up w w2 := hw2 ▸ ((Up.refl w).add _).add _
  obtain ⟨w3, hw3⟩ : ∃ w3, w3 = (⟨w2.heap.put (w.next + 1 + 1) (some (.cells [.int .i64 (f : Int)] 3 false)), w.next + 1 + 1 + 1, w.lim⟩ : AW) := ⟨_, rfl⟩
  have e2n : w2.next = w.next + 1 + 1 := by rw [hw2]
  have e2l : w2.lim = w.lim := by rw [hw2]
  have u3 : Up w2 w3 := by
    have := (Up.refl w2).add (some (.cells [.int .i64 (f : Int)] 3 false))
    rw [hw3, ← e2n, ← e2l]; exact this
  have g1 : w2.heap.get w.next = some (.cells (runC r wv nv) 67 false) := by rw [hw2, get_put, if_neg (by omega), get_put, if_pos rfl]
  have g2 : w2.heap.get (w.next + 1) = some (.cells [.int .i64 (f : Int), lv] 30 false) := by rw [hw2, get_put, if_pos rfl]
  have hR2 := hR.up u2
  have hv2 := hv.up u2
  have q45 := S45.call (P := Try.prog) h45 (m := m) (w := w3) ⟨r, wv, nv, rfl, hR2.up u3, rfl⟩
  simp only [runC] at g1 q45
  have hacc0 : AccQ natC 3 (w.next + 1) w3 (.slice (some ⟨w.next + 1 + 1, 0, none⟩) 1 1) (plL r ls f 0) (w.next + 1 + 1) := .inr ⟨by simp, by rw [hw3, get_put, if_pos rfl]; simp [plL, plN, natC], by omega, by rw [hw3]; exact Nat.lt_succ_self _, by simp [plL]⟩
  have e3n : w3.next = w.next + 1 + 1 + 1 := by rw [hw3]
  have e3l : w3.lim = w.lim := by rw [hw3]
  have ew3 : (⟨((w.heap.put w.next (some (.cells [.int .i64 r.pods, .int .i64 r.boxes, .int .i64 r.few, .int .i64 r.delay, wv, nv] 67 false))).put (w.next + 1) (some (.cells [.int .i64 (f : Int), lv] 30 false))).put (w.next + 1 + 1) (some (.cells [.int .i64 (f : Int)] 3 false)), w.next + 1 + 1 + 1, w.lim⟩ : AW) = w3 := by rw [hw3, hw2]; rfl
  simp [mc31, cellsOf_agg, runC]
  rw [ew3]
  simp [q45]
  refine wp_seqX (wp_blockX (wp_rounds (fun i t w' => (∀ x, x < w2.next → w'.heap.get x = w2.heap.get x) ∧ w2.next ≤ w'.next ∧ w'.lim = w.lim ∧ tget t 2 = .pointer (some ⟨w.next, 0, none⟩) ∧ tget t 3 = .pointer (some ⟨w.next + 1, 0, none⟩) ∧ (∃ B, AccQ natC 3 (w.next + 1) w' (tget t 5) (plL r ls f i) B) ∧ tget t 11 = .int .i64 (r.days.length : Nat) ∧ tget t 12 = .int .i64 (i : Nat) ∧ i ≤ r.days.length) 20 (by decide) ⟨fun x hx => u3.old x hx, u3.next, e3l, by simp, by simp, ⟨_, by simpa using hacc0⟩, by simp, by simp, by omega⟩ ?_))
  rintro i t w' ⟨hold, hnx, hlm, t2, t3, ⟨B, hacc⟩, t11, t12, hi⟩
  have hw1' : IntKind.wrap .i64 ((i : Int) + 1) = (i : Int) + 1 := wrap64_in (by omega) (by omega)
  have hu : Up w2 w' := ⟨hold, hnx, by rw [hlm, e2l]⟩
  by_cases hlt : i < r.days.length
  · obtain ⟨l, hday⟩ : ∃ x, r.days[i]? = some x := ⟨_, List.getElem?_eq_getElem hlt⟩
    obtain ⟨k, hk⟩ : ∃ x, ls[i]? = some x := ⟨_, List.getElem?_eq_getElem (by rw [hT.len]; exact hlt)⟩
    have hkn := hT.all k (List.mem_of_getElem? hk)
    have hk20 : k < 2 ^ 20 := Nat.lt_of_lt_of_le hkn (Nat.pow_le_pow_right (by decide) (by omega))
    have hll := (hb.day l (List.mem_of_getElem? hday)).1
    have hpl := plN_lt hT i
    have el : l.length = r.pods.toNat := by omega
    rw [← el] at hpl
    have hsp := spB_lt (day := l) hpl r.boxes.toNat
    have hstep : plN r ls f (i + 1) = lkB l (spB l (plN r ls f i) l.length r.boxes.toNat) r.near k l.length r.near.length := by rw [plN, hday, hk]; rfl
    have gg1 := hu.at (b := w.next) (by omega)
    rw [g1] at gg1
    have gg2 := hu.at (b := w.next + 1) (by omega)
    rw [g2] at gg2
    have hRw := hR2.up hu
    have hvw := hv2.up hu
    have hsm := same_runC hRw
    obtain ⟨p, hp⟩ : ∃ p, p = plN r ls f i := ⟨_, rfl⟩
    obtain ⟨s, hs⟩ : ∃ s, s = spB l (plN r ls f i) l.length r.boxes.toNat := ⟨_, rfl⟩
    have r47 := S47.call (P := Try.prog) h47 (m := m) (w := w') ⟨r, wv, nv, i, l, p, rfl, hRw, hday, by omega, ⟨by omega, by omega⟩, by rw [hp]; exact hpl, rfl⟩
    have r46 := S46.call (P := Try.prog) h46 (m := m) (w := w') ⟨r, wv, nv, i, l, s, k, rfl, hRw, hday, by omega, by omega, by rw [hs]; exact hsp, hk20, rfl⟩
    rw [hp, ← hs] at r47
    rw [hs, ← hstep] at r46
    rw [← hs] at r46
    rw [← hp] at r47
    obtain ⟨q, hq⟩ : ∃ q, q = plN r ls f (i + 1) := ⟨_, rfl⟩
    rw [← hq] at r46
    have hrows := hacc.rows
    obtain ⟨b, off, sq, c, hsl, hra⟩ := hrows.at_ i (by rw [plL_len]; omega)
    have hld := hra.rd1 natC_length (plL_at (Nat.le_refl i)) (j := 0) (x := .int .i64 ((plN r ls f i : Nat) : Int)) rfl
    have hia := fun w => ia26 w ⟨b, off, sq⟩ (plL r ls f i).length c .i64 i (by simp)
    rw [← hsl] at hia
    rw [← hp] at hld
    obtain ⟨b', off', sq', c', rfl, hra'⟩ := hvw.at_ i (by rw [hT.len]; exact hlt)
    have hld' := hra'.rd1 natC_length hk (j := 0) (x := .int .i64 (k : Int)) rfl
    have hia' := fun w => ia26 w ⟨b', off', sq'⟩ ls.length c' .i64 i (by rw [hT.len]; exact hlt)
    simp only [Nat.mul_one, Nat.add_zero] at hld hia hld' hia'
    obtain ⟨v', w4, ha, ⟨B', hB', hacc'⟩, hkp, hn4', hlm'⟩ := AccQ.push (P := Try.prog) (st := 26) (sz := 1) list26 elem26 sz3 small3 natC_length (fun _ => rfl) (by decide) hacc (by rw [hlm]; omega) (by omega) (by rw [plL_len]; omega) q
    rw [hq, ← plL_snoc] at hacc'
    simp only [natC] at ha
    simp only [runC] at r46 r47 hsm
    simp [mc31_l0, t2, t3, t11, t12, hlt, gg1, gg2, hia, hld, hia', hld', r47, r46, hsm, sameN_int, sameN_slice, ha, hw1']
    refine ⟨by omega, fun x hx => ?_, by omega, by rw [hlm', hlm], ⟨B', hacc'⟩, by omega⟩
    rw [hkp x (by omega) fun hne => by have := (hacc.lt hne).1; omega]
    exact hold x hx
  · have hi' : i = r.days.length := by omega
    subst hi'
    have hok := hacc.ok
    simp [mc31_l0, t11, t12, hok, tupV]
    exact ⟨hacc.rows, u2.trans hu⟩
theorem call13 {ov : Ov} (ho13 : ∀ args w, ov 13 args w = none) (ho : ∀ args w, ov 31 args w = none) (m : Nat) (h30 : HasP ov 30 S30.F) (h45 : HasP ov 45 S45.F) (h46 : HasP ov 46 S46.F) (h47 : HasP ov 47 S47.F) (r : MRun) (wv nv : Value) (f : Nat) (lv : Value) (ls : List Nat) (w : AW) (hl : w.lim ≤ w.next) (hR : RunV w r wv nv) (hv : RowsV natC w lv ls) (hT : TruthOk r f ls) :
    ∃ v w', (run Try.prog ov (m + 3)).call 13 [.agg ⟨runC r wv nv⟩, .agg ⟨[.int .i64 f, lv]⟩] w .none = .ok (.ret v) w' .none ∧ ∃ x, v = .tuple ⟨[x, .int .i64 0]⟩ ∧ RowsV natC w' x (plL r ls f r.days.length) ∧ Up w w' := by
  refine call_wp text13 (by simp) (ho13 _ _) ?_
  obtain ⟨w2, hw2⟩ : ∃ w2, w2 = (⟨(w.heap.put w.next (some (.cells (runC r wv nv) 25 false))).put (w.next + 1) (some (.cells [.int .i64 (f : Int), lv] 30 false)), w.next + 1 + 1, w.lim⟩ : AW) := ⟨_, rfl⟩
  have u2 : Up w w2 := hw2 ▸ ((Up.refl w).add _).add _
  have e2n : w2.next = w.next + 1 + 1 := by rw [hw2]
  have e2l : w2.lim = w.lim := by rw [hw2]
  have g1 : w2.heap.get w.next = some (.cells (runC r wv nv) 25 false) := by rw [hw2, get_put, if_neg (by omega), get_put, if_pos rfl]
  have g2 : w2.heap.get (w.next + 1) = some (.cells [.int .i64 (f : Int), lv] 30 false) := by rw [hw2, get_put, if_pos rfl]
  have q30 := S30.call (P := Try.prog) h30 (m := m + 1) (w := w2) ⟨r, wv, nv, f, lv, ls, rfl, hR.up u2, hv.up u2, hT, rfl⟩
  obtain ⟨v, w3, hc, hrows, u3⟩ := call31 ho m h45 h46 h47 r wv nv f lv ls w2 (by omega) (hR.up u2) (hv.up u2) hT
  simp only [runC] at q30 hc g1
  have ew : (⟨(w.heap.put w.next (some (.cells [.int .i64 r.pods, .int .i64 r.boxes, .int .i64 r.few, .int .i64 r.delay, wv, nv] 25 false))).put (w.next + 1) (some (.cells [.int .i64 (f : Int), lv] 30 false)), w.next + 1 + 1, w.lim⟩ : AW) = w2 := by rw [hw2]; rfl
  simp [mc13, cellsOf_agg, runC]
  rw [ew]
  have hok : notJunk v = some v := by obtain ⟨a, c, rfl⟩ := hrows.len; rfl
  simp [q30, g1, g2, hc, hok, tupV]
  exact ⟨hrows, u2.trans u3⟩
end Go.Proofs.Ytaffhippclpbpaa.walk

namespace Go.Proofs.Ytaffhippclpbpaa.walk
open Go Go.Sh
set_option maxRecDepth 100000
set_option linter.unusedSimpArgs false
set_option linter.unusedVariables false
/-! what numbers choose -/
def chK (bits : List Int) (pods : Int) (i : Nat) : Nat := (wrapI (nthI bits i) (pods + 1)).toNat
def chF (bits : List Int) (pods : Int) : Nat → Nat
  | 0 => 0
  | i + 1 => if (chK bits pods i : Int) < pods then chF bits pods i ||| 2 ^ chK bits pods i else chF bits pods i
theorem chF_lt (bits : List Int) (pods : Int) : ∀ i : Nat, chF bits pods i < 2 ^ pods.toNat
  | 0 => by simp [chF]; exact Nat.two_pow_pos _
  | i + 1 => by
    unfold chF
    split
    · next h => exact Nat.or_lt_two_pow (chF_lt bits pods i) (Nat.pow_lt_pow_right (by decide) (by omega))
    · exact chF_lt bits pods i
theorem chF_pop (bits : List Int) (pods : Int) (h8 : pods ≤ 8) : ∀ i : Nat, popN (chF bits pods i) ≤ i
  | 0 => by show popN 0 ≤ 0; decide
  | i + 1 => by
    have ih := chF_pop bits pods h8 i
    unfold chF
    split
    · next h =>
      have := pop_or (x := chF bits pods i) (k := chK bits pods i) (Nat.lt_of_lt_of_le (chF_lt bits pods i) (show 2 ^ pods.toNat ≤ 2 ^ 8 from Nat.pow_le_pow_right (by decide) (by omega))) (by omega)
      omega
    · omega
def chY (bits : List Int) (n d : Nat) : Nat := (wrapI (nthI bits (9 + d)) ((2 ^ n : Nat) : Int)).toNat
def chL (bits : List Int) (n i : Nat) : List Nat := (List.range i).map (chY bits n)
theorem chL_snoc (bits : List Int) (n i : Nat) : chL bits n (i + 1) = chL bits n i ++ [chY bits n i] := by
  unfold chL
  rw [List.range_succ, List.map_append]; rfl
@[simp] theorem chL_len (bits : List Int) (n i : Nat) : (chL bits n i).length = i := by simp [chL]
theorem chY_lt (bits : List Int) (n d : Nat) : chY bits n d < 2 ^ n := by
  have h : 0 < 2 ^ n := Nat.two_pow_pos n
  have := wrapI_bd (n := nthI bits (9 + d)) (s := ((2 ^ n : Nat) : Int)) (by omega)
  unfold chY
  omega
theorem truth_ok {r : MRun} (h : runB r = true) (bits : List Int) : TruthOk r (chF bits r.pods r.few.toNat) (chL bits r.near.length r.days.length) := by
  have hb := runB_bnd h
  refine ⟨h, chF_lt _ _ _, ?_, by simp, fun y hy => ?_⟩
  · have := chF_pop bits r.pods hb.p8 r.few.toNat
    have := hb.f0
    omega
  · simp only [chL, List.mem_map] at hy
    obtain ⟨d, _, rfl⟩ := hy
    exact chY_lt _ _ _
noncomputable def ops12 : List MOp := [⟨true, none, some 26, 0, .fieldAddr 30 (.tmp 5) 0⟩, ⟨true, none, some 27, 3, .load 3 (.tmp 26)⟩, ⟨true, none, some 28, 3, .move (.tmp 7)⟩, ⟨true, none, some 29, 3, .binOp .shl 3 (.const (.int .i64 1)) (.tmp 28) 3⟩, ⟨true, none, some 30, 3, .binOp .or 3 (.tmp 27) (.tmp 29) 3⟩, ⟨true, none, some 31, 0, .fieldAddr 30 (.tmp 5) 0⟩, ⟨false, none, none, 0, .store 3 (.tmp 31) (.tmp 30)⟩]
noncomputable def cond12 : MC := .cond (.tmp 25) (.ops ops12) (.skip)
theorem mc12_l0_eq : mc12_l0 = .seq (.seq (.ops [⟨false, none, some 9, 3, .move (.tmp 6)⟩, ⟨false, none, some 10, 0, .fieldAddr 25 (.tmp 2) 2⟩, ⟨false, none, some 11, 3, .load 3 (.tmp 10)⟩, ⟨false, none, some 12, 4, .binOp .lss 3 (.tmp 9) (.tmp 11) 3⟩]) (.cond (.tmp 12) (.skip) (.exit 0))) (.seq (.block 1 (.seq (.seq (.ops [⟨true, none, some 15, 26, .move (.tmp 1)⟩]) (.seq (.ops [⟨true, none, some 16, 3, .move (.tmp 6)⟩]) (.seq (.ops [⟨true, none, some 18, 0, .fieldAddr 25 (.tmp 2) 0⟩]) (.seq (.ops [⟨true, none, some 19, 3, .load 3 (.tmp 18)⟩]) (.seq (.ops [⟨true, none, some 20, 3, .binOp .add 3 (.tmp 19) (.const (.int .i64 1)) 3⟩]) (.seq (.ops [⟨false, none, some 17, 3, .call ⟨.value (.func 29), #[.tmp 15, .tmp 16], #[26, 3]⟩⟩]) (.seq (.chk [⟨true, none, some 19, 3, .load 3 (.tmp 18)⟩]) (.seq (.ops [⟨false, none, some 21, 3, .call ⟨.value (.func 16), #[.tmp 17, .tmp 20], #[3, 3]⟩⟩]) (.seq (.ops [⟨true, none, some 7, 3, .assign (.tmp 21)⟩]) (.chk [])))))))))) (.seq (.ops [⟨false, none, some 22, 3, .move (.tmp 7)⟩, ⟨false, none, some 23, 0, .fieldAddr 25 (.tmp 2) 0⟩, ⟨false, none, some 24, 3, .load 3 (.tmp 23)⟩, ⟨false, none, some 25, 4, .binOp .lss 3 (.tmp 22) (.tmp 24) 3⟩]) cond12))) (.ops [⟨false, none, some 13, 3, .move (.tmp 6)⟩, ⟨false, none, some 14, 3, .binOp .add 3 (.tmp 13) (.const (.int .i64 1)) 3⟩, ⟨false, none, some 6, 3, .assign (.tmp 14)⟩])) := rfl
theorem shl_step {r : Rec} {t : Tm} {w : AW} {rest} (k : Nat) (hk : k ≤ 10) (h : tget t 28 = .int .i64 (k : Int)) : exOps Try.prog r (⟨true, none, some 29, 3, .binOp .shl 3 (.const (.int .i64 1)) (.tmp 28) 3⟩ :: rest) t w = exOps Try.prog r rest (tset t 29 (.int .i64 ((2 ^ k : Nat) : Int))) w := by
  have hsh := fun (w : AW) s c => shl_nat (P := Try.prog) (w := w) s c k hk
  obtain ⟨q, hq⟩ : ∃ q, q = 2 ^ k := ⟨_, rfl⟩
  simp only [← hq] at hsh ⊢
  simp [h, hsh]
theorem or_step {r : Rec} {t : Tm} {w : AW} {rest} (s q : Nat) (hs : s < 2 ^ 20) (hq : q < 2 ^ 20) (h : tget t 27 = .int .i64 (s : Int)) (h' : tget t 29 = .int .i64 (q : Int)) : exOps Try.prog r (⟨true, none, some 30, 3, .binOp .or 3 (.tmp 27) (.tmp 29) 3⟩ :: rest) t w = exOps Try.prog r rest (tset t 30 (.int .i64 ((s ||| q : Nat) : Int))) w := by
  have hor := or_nat hs hq
  obtain ⟨z, hz⟩ : ∃ z, z = s ||| q := ⟨_, rfl⟩
  rw [← hz] at hor ⊢
  simp [h, h', hor]
theorem load_step {r : Rec} {t : Tm} {w : AW} {rest} (D s : Nat) (t5 : tget t 5 = .pointer (some ⟨D, 0, none⟩)) (gD : w.heap.get D = some (.cells [.int .i64 (s : Int), .slice none 0 0] 30 false)) : exOps Try.prog r (⟨true, none, some 26, 0, .fieldAddr 30 (.tmp 5) 0⟩ :: ⟨true, none, some 27, 3, .load 3 (.tmp 26)⟩ :: ⟨true, none, some 28, 3, .move (.tmp 7)⟩ :: rest) t w = exOps Try.prog r rest (tset (tset (tset t 26 (.pointer (some ⟨D, 0, none⟩))) 27 (.int .i64 (s : Int))) 28 (tget t 7)) w := by
  simp [t5, gD]
theorem store_step {r : Rec} {t : Tm} {w : AW} (D s z : Nat) (hl : w.lim ≤ D) (t5 : tget t 5 = .pointer (some ⟨D, 0, none⟩)) (t30 : tget t 30 = .int .i64 (z : Int)) (gD : w.heap.get D = some (.cells [.int .i64 (s : Int), .slice none 0 0] 30 false)) : exOps Try.prog r [⟨true, none, some 31, 0, .fieldAddr 30 (.tmp 5) 0⟩, ⟨false, none, none, 0, .store 3 (.tmp 31) (.tmp 30)⟩] t w = .ok .normal (tset t 31 (.pointer (some ⟨D, 0, none⟩))) ⟨w.heap.put D (some (.cells [.int .i64 (z : Int), .slice none 0 0] 30 false)), w.next, w.lim⟩ := by
  simp [t5, t30, gD, hl]
theorem cond12_wp {r : Rec} {Q : Ex → Tm → AW → Prop} {t : Tm} {w : AW} (D k s : Nat) (b : Bool) (t5 : tget t 5 = .pointer (some ⟨D, 0, none⟩)) (t7 : tget t 7 = .int .i64 (k : Int)) (t25 : tget t 25 = .bool b) (hk : b = true → k ≤ 10) (hs : s < 2 ^ 20) (hl : w.lim ≤ D)
    (gD : w.heap.get D = some (.cells [.int .i64 (s : Int), .slice none 0 0] 30 false))
    (hQ : ∀ t' w', (∀ x, x ≠ D → w'.heap.get x = w.heap.get x) → w'.heap.get D = some (.cells [.int .i64 ((if b = true then s ||| 2 ^ k else s : Nat) : Int), .slice none 0 0] 30 false) → w'.next = w.next → w'.lim = w.lim → (∀ d, d < 26 → tget t' d = tget t d) → Q .normal t' w') : wp (exM Try.prog r cond12 t w) Q := by
  cases b with
  | false =>
    simp [cond12, t25]
    exact hQ _ _ (fun _ _ => rfl) (by simpa using gD) rfl rfl fun _ _ => rfl
  | true =>
    have hk := hk rfl
    have hq20 : 2 ^ k < 2 ^ 20 := Nat.pow_lt_pow_right (by decide) (by omega)
    have hsh := fun (t : Tm) (w : AW) rest h => shl_step (r := r) (t := t) (w := w) (rest := rest) k hk h
    obtain ⟨q, hq⟩ : ∃ q, q = 2 ^ k := ⟨_, rfl⟩
    simp only [← hq, if_true] at hsh hq20 hQ
    have hor := fun (t : Tm) (w : AW) rest h h' => or_step (r := r) (t := t) (w := w) (rest := rest) s q hs hq20 h h'
    obtain ⟨z, hz⟩ : ∃ z, z = s ||| q := ⟨_, rfl⟩
    rw [← hz] at hQ
    simp only [← hz] at hor
    simp [cond12, t25]
    rw [ops12, load_step D s t5 gD, hsh _ _ _ (by simp [t7]), hor _ _ _ (by simp) (by simp), store_step D s z hl (by simp [t5]) (by simp) gD]
    refine hQ _ _ (fun x hx => by simp [hx]) (by simp) rfl rfl fun d hd => ?_
    have hne : ¬ d = 26 ∧ ¬ d = 27 ∧ ¬ d = 28 ∧ ¬ d = 29 ∧ ¬ d = 30 ∧ ¬ d = 31 := by omega
    simp [hne]
theorem d6 (d : Nat) (h : d < 6) : ¬ d = 6 ∧ ¬ d = 7 ∧ ¬ d = 9 ∧ ¬ d = 10 ∧ ¬ d = 11 ∧ ¬ d = 12 ∧ ¬ d = 13 ∧ ¬ d = 14 ∧ ¬ d = 15 ∧ ¬ d = 16 ∧ ¬ d = 17 ∧ ¬ d = 18 ∧ ¬ d = 19 ∧ ¬ d = 20 ∧ ¬ d = 21 ∧ ¬ d = 22 ∧ ¬ d = 23 ∧ ¬ d = 24 ∧ ¬ d = 25 ∧ ¬ d = 26 ∧ ¬ d = 27 ∧ ¬ d = 28 ∧ ¬ d = 29 ∧ ¬ d = 30 ∧ ¬ d = 31 := by omega
theorem loop12a {ov : Ov} {Q : Ex → Tm → AW → Prop} (m : Nat) (h16 : HasP ov 16 S16.F) (h29 : HasP ov 29 S29.F) (r : MRun) (wv nv bv : Value) (bits : List Int) (hbits : bits.length ≤ 2 ^ 60) (B D : Nat) (t : Tm) (w : AW) (hb : Bnd r) (hv : RowsV intC w bv bits) (hBD : B < D) (hlD : w.lim ≤ D) (hvD : ∀ w' : AW, (∀ x, x ≠ D → w'.heap.get x = w.heap.get x) → w'.next = w.next → RowsV intC w' bv bits)
    (g1 : w.heap.get B = some (.cells [.int .i64 r.pods, .int .i64 r.boxes, .int .i64 r.few, .int .i64 r.delay, wv, nv] 25 false)) (g2 : w.heap.get D = some (.cells [.int .i64 0, .slice none 0 0] 30 false))
    (t1 : tget t 1 = bv) (t2 : tget t 2 = .pointer (some ⟨B, 0, none⟩)) (t5 : tget t 5 = .pointer (some ⟨D, 0, none⟩)) (t6 : tget t 6 = .int .i64 0)
    (hQ : ∀ t' w', (∀ x, x ≠ D → w'.heap.get x = w.heap.get x) → w'.heap.get D = some (.cells [.int .i64 (chF bits r.pods r.few.toNat : Nat), .slice none 0 0] 30 false) → w'.next = w.next → w'.lim = w.lim → (∀ d, d < 6 → tget t' d = tget t d) → Q .normal t' w') :
    wp (blockX 0 (exM Try.prog (run Try.prog ov (m + 1)) (.loop mc12_l0) t w)) Q := by
  have p1 := hb.p1
  have p8 := hb.p8
  have f0 := hb.f0
  have fp := hb.fp
  obtain ⟨F, hF⟩ : ∃ F : Nat, r.few = (F : Int) := ⟨r.few.toNat, by omega⟩
  rw [hF] at g1
  rw [hF, Int.toNat_natCast] at hQ
  have F8 : F ≤ 8 := by omega
  refine wp_blockX (wp_rounds (fun i t' w' => (∀ x, x ≠ D → w'.heap.get x = w.heap.get x) ∧ w'.heap.get D = some (.cells [.int .i64 (chF bits r.pods i : Nat), .slice none 0 0] 30 false) ∧ w'.next = w.next ∧ w'.lim = w.lim ∧ (∀ d, d < 6 → tget t' d = tget t d) ∧ tget t' 6 = .int .i64 (i : Nat) ∧ i ≤ F) 20 (by decide) ⟨fun _ _ => rfl, by simpa [chF] using g2, rfl, rfl, fun _ _ => rfl, t6, Nat.zero_le _⟩ ?_)
  rintro i t' w' ⟨hold, gD, hnx, hlm, ht, s6, hi⟩
  have s1 := (ht 1 (by decide)).trans t1
  have s2 := (ht 2 (by decide)).trans t2
  have s5 := (ht 5 (by decide)).trans t5
  have gB := hold B (by omega)
  rw [g1] at gB
  have hw1 : IntKind.wrap .i64 ((i : Int) + 1) = (i : Int) + 1 := wrap64_in (by omega) (by omega)
  have hw2 : IntKind.wrap .i64 (r.pods + 1) = r.pods + 1 := wrap64_in (by omega) (by omega)
  by_cases hlt : i < F
  · have r29 := S29.call (P := Try.prog) h29 (m := m) (w := w') ⟨bv, bits, (i : Int), rfl, hvD w' hold hnx, hbits, rfl⟩
    have r16 := S16.call (P := Try.prog) h16 (m := m) (w := w') ⟨nthI bits i, r.pods + 1, rfl, by omega, rfl⟩
    have hbd := wrapI_bd (n := nthI bits i) (s := r.pods + 1) (by omega)
    have hkk : wrapI (nthI bits i) (r.pods + 1) = (chK bits r.pods i : Nat) := by unfold chK; omega
    rw [hkk] at r16 hbd
    have hnx1 : chF bits r.pods (i + 1) = if (chK bits r.pods i : Int) < r.pods then chF bits r.pods i ||| 2 ^ chK bits r.pods i else chF bits r.pods i := rfl
    obtain ⟨k, hk⟩ : ∃ k, k = chK bits r.pods i := ⟨_, rfl⟩
    obtain ⟨s, hs⟩ : ∃ s, s = chF bits r.pods i := ⟨_, rfl⟩
    have hs20 : s < 2 ^ 20 := by rw [hs]; exact p20 (n := r.pods.toNat) (by omega) (chF_lt _ _ _)
    rw [← hk, ← hs] at hnx1
    rw [← hk] at r16 hbd
    rw [← hs] at gD
    simp [mc12_l0_eq, s1, s2, s5, s6, gB, gD, hlt, r29, r16, hw1, hw2]
    refine wp_seqX (wp_blockX (cond12_wp D k s (decide ((k : Int) < r.pods)) (by simp [s5]) (by simp) (by simp) (fun h => ?_) hs20 (by omega) gD fun t2' w2 hold2 gD2 hnx2 hlm2 ht2 => ?_))
    · have := of_decide_eq_true h; omega
    · have s6' := ht2 6 (by decide)
      simp [s6] at s6'
      simp only [decide_eq_true_eq] at gD2
      rw [← hnx1] at gD2
      simp [s6', hw1]
      refine ⟨by omega, fun x hx => (hold2 x hx).trans (hold x hx), gD2, by omega, by omega, fun d hd => ?_, by omega⟩
      have hne := d6 d hd
      rw [if_neg (by omega), if_neg (by omega), if_neg (by omega), ht2 d (by omega), ← ht d hd]
      simp [hne]
  · have hi' : i = F := by omega
    subst hi'
    simp [mc12_l0, s2, s6, gB]
    refine hQ _ _ hold gD hnx hlm fun d hd => ?_
    have hne : ¬ d = 9 ∧ ¬ d = 10 ∧ ¬ d = 11 ∧ ¬ d = 12 := by omega
    rw [← ht d hd]
    simp [hne]
end Go.Proofs.Ytaffhippclpbpaa.walk

namespace Go.Proofs.Ytaffhippclpbpaa.walk
open Go Go.Sh
set_option maxRecDepth 100000
set_option linter.unusedSimpArgs false
set_option linter.unusedVariables false
theorem d8s (d : Nat) (h : d < 8) : ¬ d = 8 ∧ ¬ d = 32 ∧ ¬ d = 33 ∧ ¬ d = 34 ∧ ¬ d = 35 ∧ ¬ d = 36 ∧ ¬ d = 37 ∧ ¬ d = 38 ∧ ¬ d = 39 ∧ ¬ d = 40 ∧ ¬ d = 41 ∧ ¬ d = 42 ∧ ¬ d = 43 ∧ ¬ d = 44 ∧ ¬ d = 45 ∧ ¬ d = 46 ∧ ¬ d = 47 ∧ ¬ d = 48 ∧ ¬ d = 49 ∧ ¬ d = 50 ∧ ¬ d = 51 ∧ ¬ d = 52 := by omega
theorem loop12b {ov : Ov} {Q : Ex → Tm → AW → Prop} (m : Nat) (h16 : HasP ov 16 S16.F) (h29 : HasP ov 29 S29.F) (r : MRun) (wv nv bv : Value) (bits : List Int) (hbits : bits.length ≤ 2 ^ 60) (F B D : Nat) (t : Tm) (w : AW) (hb : Bnd r) (hBD : B < D) (hDn : D < w.next) (hlD : w.lim ≤ D)
    (hvD : ∀ w' : AW, (∀ x, x < D → w'.heap.get x = w.heap.get x) → w.next ≤ w'.next → RowsV intC w' bv bits) (hwv : ∃ a c, wv = .slice a r.days.length c) (hnv : ∃ a c, nv = .slice a r.near.length c)
    (g1 : w.heap.get B = some (.cells [.int .i64 r.pods, .int .i64 r.boxes, .int .i64 r.few, .int .i64 r.delay, wv, nv] 25 false)) (g2 : w.heap.get D = some (.cells [.int .i64 (F : Int), .slice none 0 0] 30 false))
    (t1 : tget t 1 = bv) (t2 : tget t 2 = .pointer (some ⟨B, 0, none⟩)) (t5 : tget t 5 = .pointer (some ⟨D, 0, none⟩)) (t8 : tget t 8 = .int .i64 0)
    (hQ : ∀ t' w' lv, (∀ x, x < D → w'.heap.get x = w.heap.get x) → w'.heap.get D = some (.cells [.int .i64 (F : Int), lv] 30 false) → (∃ Bk, AccQ natC 3 D w' lv (chL bits r.near.length r.days.length) Bk) → w.next ≤ w'.next → w'.lim = w.lim → (∀ d, d < 8 → tget t' d = tget t d) → Q .normal t' w') :
    wp (blockX 2 (exM Try.prog (run Try.prog ov (m + 1)) (.loop mc12_l1) t w)) Q := by
  have d10 := hb.d10
  have n4 := hb.n4
  refine wp_blockX (wp_rounds (fun i t' w' => (∃ lv Bk, w'.heap.get D = some (.cells [.int .i64 (F : Int), lv] 30 false) ∧ AccQ natC 3 D w' lv (chL bits r.near.length i) Bk) ∧ (∀ x, x < D → w'.heap.get x = w.heap.get x) ∧ w.next ≤ w'.next ∧ w'.lim = w.lim ∧ (∀ d, d < 8 → tget t' d = tget t d) ∧ tget t' 8 = .int .i64 (i : Nat) ∧ i ≤ r.days.length) 20 (by decide) ⟨⟨.slice none 0 0, 0, g2, by simpa [chL] using AccQ.nil⟩, fun _ _ => rfl, Nat.le_refl _, rfl, fun _ _ => rfl, t8, Nat.zero_le _⟩ ?_)
  rintro i t' w' ⟨⟨lv, Bk, gD, hacc⟩, hold, hnx, hlm, ht, s8, hi⟩
  have s1 := (ht 1 (by decide)).trans t1
  have s2 := (ht 2 (by decide)).trans t2
  have s5 := (ht 5 (by decide)).trans t5
  have gB := hold B hBD
  rw [g1] at gB
  obtain ⟨a1, c1, rfl⟩ := hwv
  obtain ⟨a2, c2, rfl⟩ := hnv
  have hw1 : IntKind.wrap .i64 ((i : Int) + 1) = (i : Int) + 1 := wrap64_in (by omega) (by omega)
  have hw9 : IntKind.wrap .i64 (9 + (i : Int)) = 9 + (i : Int) := wrap64_in (by omega) (by omega)
  by_cases hlt : i < r.days.length
  · have hn10 := pow_le10 (a := r.near.length) (by omega)
    have hpow : 0 < 2 ^ r.near.length := Nat.two_pow_pos _
    have hsh := fun (w : AW) s c => shl_nat (P := Try.prog) (w := w) s c r.near.length (by omega)
    have r29 := S29.call (P := Try.prog) h29 (m := m) (w := w') ⟨bv, bits, 9 + (i : Int), rfl, hvD w' hold hnx, hbits, rfl⟩
    have r16 := S16.call (P := Try.prog) h16 (m := m) (w := w') ⟨nthI bits (9 + (i : Int)), ((2 ^ r.near.length : Nat) : Int), rfl, by omega, rfl⟩
    have hbd := wrapI_bd (n := nthI bits (9 + (i : Int))) (s := ((2 ^ r.near.length : Nat) : Int)) (by omega)
    have hy : wrapI (nthI bits (9 + (i : Int))) ((2 ^ r.near.length : Nat) : Int) = (chY bits r.near.length i : Nat) := by unfold chY; omega
    rw [hy] at r16
    obtain ⟨y, hye⟩ : ∃ y, y = chY bits r.near.length i := ⟨_, rfl⟩
    obtain ⟨q, hq⟩ : ∃ q, q = 2 ^ r.near.length := ⟨_, rfl⟩
    rw [← hye] at r16
    simp only [← hq] at hsh r16
    obtain ⟨v', w4, ha, ⟨B', hB', hacc'⟩, hkp, hn4', hlm'⟩ := AccQ.push (P := Try.prog) (st := 26) (sz := 1) list26 elem26 sz3 small3 natC_length (fun _ => rfl) (by decide) hacc (by omega) (by omega) (by rw [chL_len]; omega) y
    rw [hye, ← chL_snoc] at hacc'
    have gD4 : w4.heap.get D = some (.cells [.int .i64 (F : Int), lv] 30 false) := by
      rw [hkp D (by omega) fun hne => by have := (hacc.lt hne).1; omega]; exact gD
    obtain ⟨a', c', hv'⟩ := hacc'.rows.len
    obtain ⟨a0, c0, hlv⟩ := hacc.rows.len
    have hll : w4.lim ≤ D := by omega
    have hDw : ¬ D = w'.next := by omega
    subst hv'
    subst hlv
    simp only [natC, chL_len] at ha hacc' gD4
    simp [mc12_l1, s1, s2, s5, s8, gB, gD, hlt, r29, r16, hw1, hw9, hsh, sameN_int, sameN_slice, hDw, ha, gD4, hll]
    refine ⟨by omega, ⟨B', ?_⟩, fun x hx => ?_, by omega, by omega, fun d hd => ?_, by omega⟩
    · exact hacc'.keep (fun _ _ _ => by show (w4.heap.put D _).get B' = _; rw [get_put, if_neg (by omega)]) (Nat.le_refl _)
    · rw [if_neg (by omega), hkp x (by omega) fun hne => by have := (hacc.lt hne).1; omega]
      exact hold x hx
    · have hne := d8s d hd
      rw [← ht d hd]
      simp [hne]
  · have hi' : i = r.days.length := by omega
    subst hi'
    simp [mc12_l1, s2, s8, gB]
    refine hQ _ _ lv hold gD ⟨Bk, hacc⟩ hnx hlm fun d hd => ?_
    have hne := d8s d hd
    rw [← ht d hd]
    simp [hne]
set_option maxHeartbeats 1000000 in
theorem call12 {ov : Ov} (ho : ∀ args w, ov 12 args w = none) (m : Nat) (h16 : HasP ov 16 S16.F) (h29 : HasP ov 29 S29.F) (r : MRun) (wv nv bv : Value) (bits : List Int) (hbits : bits.length ≤ 2 ^ 60) (w : AW) (hl : w.lim ≤ w.next) (hR : RunV w r wv nv) (hv : RowsV intC w bv bits) (hrun : runB r = true) :
    ∃ v w', (run Try.prog ov (m + 2)).call 12 [.agg ⟨runC r wv nv⟩, bv] w .none = .ok (.ret v) w' .none ∧ ∃ lv, v = .agg ⟨[.int .i64 (chF bits r.pods r.few.toNat : Nat), lv]⟩ ∧ RowsV natC w' lv (chL bits r.near.length r.days.length) ∧ Up w w' := by
  refine call_wp text12 (by simp) (ho _ _) ?_
  have hb := runB_bnd hrun
  obtain ⟨w3, hw3⟩ : ∃ w3, w3 = (⟨((w.heap.put w.next (some (.cells (runC r wv nv) 25 false))).put (w.next + 1) (some (.cells [.int .i64 0, .slice none 0 0] 30 false))).put (w.next + 1 + 1) (some (.cells [.int .i64 0, .slice none 0 0] 30 false)), w.next + 1 + 1 + 1, w.lim⟩ : AW) := ⟨_, rfl⟩
  have u3 : Up w w3 := hw3 ▸ (((Up.refl w).add _).add _).add _
  have e3n : w3.next = w.next + 1 + 1 + 1 := by rw [hw3]
  have e3l : w3.lim = w.lim := by rw [hw3]
  have g1 : w3.heap.get w.next = some (.cells (runC r wv nv) 25 false) := by rw [hw3, get_put, if_neg (by omega), get_put, if_neg (by omega), get_put, if_pos rfl]
  have g2 : w3.heap.get (w.next + 1) = some (.cells [.int .i64 0, .slice none 0 0] 30 false) := by rw [hw3, get_put, if_neg (by omega), get_put, if_pos rfl]
  have g3 : w3.heap.get (w.next + 1 + 1) = some (.cells [.int .i64 0, .slice none 0 0] 30 false) := by rw [hw3, get_put, if_pos rfl]
  obtain ⟨⟨vs, hvs, hrel⟩, hn, _⟩ := hR
  obtain ⟨a1, c1, hwv⟩ := hvs.len
  rw [hrel.len] at hwv
  obtain ⟨a2, c2, hnv⟩ := hn.len
  simp only [runC] at g1 hw3
  simp [mc12, cellsOf_agg, runC]
  rw [← hw3]
  refine wp_seqX (loop12a m h16 h29 r wv nv bv bits hbits w.next (w.next + 1 + 1) _ w3 hb (hv.up u3) (by omega) (by omega) (fun w' h1 h2 => hv.old (fun x hx => (h1 x (by omega)).trans (u3.old x hx)) (by omega)) g1 g3 (by simp) (by simp) (by simp) (by simp) fun t4 w4 k1 k2 k3 k4 k5 => ?_)
  have p1 := k5 1 (by decide)
  have p2 := k5 2 (by decide)
  have p4 := k5 4 (by decide)
  have p5 := k5 5 (by decide)
  simp at p1 p2 p4 p5
  simp
  refine wp_seqX (loop12b m h16 h29 r wv nv bv bits hbits _ w.next (w.next + 1 + 1) _ w4 hb (by omega) (by omega) (by omega) (fun w' h1 h2 => hv.old (fun x hx => (h1 x (by omega)).trans ((k1 x (by omega)).trans (u3.old x hx))) (by omega)) ⟨_, _, hwv⟩ ⟨_, _, hnv⟩ ((k1 _ (by omega)).trans g1) k2 (by simp [p1]) (by simp [p2]) (by simp [p5]) (by simp) fun t6 w6 lv q1 q2 q3 q4 q5 q6 => ?_)
  have r4 := q6 4 (by decide)
  have r5 := q6 5 (by decide)
  simp [p4, p5] at r4 r5
  have gR : w6.heap.get (w.next + 1) = some (.cells [.int .i64 0, .slice none 0 0] 30 false) := (q1 _ (by omega)).trans ((k1 _ (by omega)).trans g2)
  have hll : w6.lim ≤ w.next + 1 := by omega
  obtain ⟨Bk, q3⟩ := q3
  obtain ⟨a0, c0, hlv⟩ := q3.rows.len
  obtain ⟨fz, hfz⟩ : ∃ f, f = chF bits r.pods r.few.toNat := ⟨_, rfl⟩
  rw [← hfz] at q2 ⊢
  subst hlv
  simp [r4, r5, gR, q2, hll, cellsOf_agg, tupV]
  obtain ⟨w7, hw7⟩ : ∃ w7, w7 = (⟨w6.heap.put (w.next + 1) (some (.cells [.int .i64 (fz : Int), .slice a0 r.days.length c0] 30 false)), w6.next, w6.lim⟩ : AW) := ⟨_, rfl⟩
  rw [← hw7]
  simp only [chL_len] at q3
  refine ⟨(q3.keep (w' := w7) (fun _ h1 h2 => by rw [hw7]; show (w6.heap.put _ _).get Bk = _; rw [get_put, if_neg (by omega)]) (by rw [hw7]; exact Nat.le_refl _)).rows, fun x hx => ?_, by rw [hw7]; show w.next ≤ w6.next; omega, by rw [hw7]; show w6.lim = w.lim; omega⟩
  rw [hw7]
  show (w6.heap.put _ _).get x = _
  rw [get_put, if_neg (by omega), q1 x (by omega), k1 x (by omega), u3.old x hx]
end Go.Proofs.Ytaffhippclpbpaa.walk
