/- Part of a proof by a machine of ones own: see the text with the theorem. -/
import Derived.Test.YthfidomphkednaaAWc
namespace Go.Proofs.Ythfidomphkednaa.walk
open Go Go.Sh
set_option maxRecDepth 100000
set_option linter.unusedSimpArgs false
set_option linter.unusedVariables false
/-! the law's own small functions -/
/-! rows that are made and written into -/
def lsC (n : Nat) (x : Int → Int) : List Value := (List.range n).map fun (k : Nat) => .int .i64 (x (k : Int))
theorem lsC_flat (n : Nat) (x : Int → Int) : (lsF n x).flatMap intC = lsC n x := by
  unfold lsF lsC intC
  rw [List.flatMap_def, List.map_map]
  induction (List.range n) with
  | nil => rfl
  | cons a l ih => simp [ih]
@[simp] theorem lsC_len (n : Nat) (x : Int → Int) : (lsC n x).length = n := by simp [lsC]
theorem lsC_get (n : Nat) (x : Int → Int) {k : Nat} (h : k < n) : (lsC n x)[k]? = some (.int .i64 (x (k : Int))) := by simp [lsC, h]
@[simp] theorem lsC_getE (n : Nat) (x : Int → Int) {k : Nat} (h : k < (lsC n x).length) : (lsC n x)[k] = .int .i64 (x (k : Int)) := by simp [lsC]
theorem lsC_set (n : Nat) (x : Int → Int) (v : Int) {k : Nat} (h : k < n) : (lsC n x).take k ++ (.int .i64 v :: (lsC n x).drop (k + 1)) = lsC n (updF x (k : Int) v) := by
  apply List.ext_getElem?
  intro j
  have hl := lsC_len n x
  by_cases h1 : j < k
  · rw [List.getElem?_append_left (by rw [List.length_take]; omega), List.getElem?_take_of_lt h1, lsC_get n x (by omega), lsC_get _ _ (by omega)]
    simp [updF, show ¬ (j : Int) = (k : Int) by omega]
  · rw [List.getElem?_append_right (by rw [List.length_take]; omega)]
    have e1 : ((lsC n x).take k).length = k := by rw [List.length_take]; omega
    rw [e1]
    by_cases h2 : j = k
    · subst h2
      rw [Nat.sub_self, List.getElem?_cons_zero, lsC_get _ _ h]
      simp [updF]
    · obtain ⟨e, rfl⟩ : ∃ e, j = k + 1 + e := ⟨j - (k + 1), by omega⟩
      rw [show k + 1 + e - k = e + 1 by omega, List.getElem?_cons_succ, List.getElem?_drop]
      by_cases h3 : k + 1 + e < n
      · rw [lsC_get n x h3, lsC_get _ _ h3]
        simp [updF, show ¬ ((k + 1 + e : Nat) : Int) = (k : Int) by omega]
        try (intro h; omega)
      · rw [List.getElem?_eq_none (by omega), List.getElem?_eq_none (by rw [lsC_len]; omega)]
theorem rows_ls {w : AW} {B n : Nat} {x : Int → Int} (h : w.heap.get B = some (.cells (lsC n x) 3 false)) (hb : B < w.next) (c : Nat) : RowsV intC w (.slice (some ⟨B, 0, none⟩) n c) (lsF n x) :=
  .inr ⟨B, 0, none, c, by rw [lsF_len], ⟨[], [], 3, false, by rw [h, List.nil_append, List.append_nil, lsC_flat], rfl⟩, hb⟩
theorem st_ls {w : AW} {B n : Nat} {x : Int → Int} {v : Int} {k : Nat} (hk : k < n) (hl : w.lim ≤ B) : wrO w B k [.int .i64 v] (some (.cells (lsC n x) 3 false)) = some ⟨w.heap.put B (some (.cells (lsC n (updF x (k : Int) v)) 3 false)), w.next, w.lim⟩ := by
  rw [wrO_cells (by simp) hl (by simp; omega), ← lsC_set n x v hk]
  rfl
theorem mk26 (n : Nat) (hn : n ≤ 1000) (w : AW) : makeSliceA Try.prog w 26 (.int .i64 (n : Int)) (.int .i64 (n : Int)) = .val (.slice (some ⟨w.next, 0, none⟩) n n) ⟨w.heap.put w.next (some (.cells (lsC n fun _ => 0) 3 false)), w.next + 1, w.lim⟩ := by
  rw [make_eq (z := .int .i64 0) elem26 (by kernel_rfl) small3 n hn w]
  have : repl (cellsOf (.int .i64 0)) n = lsC n fun _ => 0 := by
    show repl (intC 0) n = _
    rw [repl_flat, ← lsC_flat]
    congr 1
    apply List.ext_getElem?
    intro j
    by_cases hj : j < n
    · rw [lsF_at n _ hj]; simp [List.getElem?_replicate, hj]
    · rw [List.getElem?_eq_none (by simp; omega), List.getElem?_eq_none (by simp; omega)]
  rw [this]
def owP (ds : List Dt) (i : Nat) : Int → Int := fun p => sI (fun d => if d.f = p then d.c else 0) (ds.take i)
theorem owP_zero (ds : List Dt) : owP ds 0 = fun _ => 0 := by funext p; simp [owP, sI]
theorem owP_all (ds : List Dt) : owP ds ds.length = owD ds := by funext p; simp [owP, owD]
theorem owP_step {ds : List Dt} {i : Nat} {d : Dt} (h : ds[i]? = some d) : updF (owP ds i) d.f (owP ds i d.f + d.c) = owP ds (i + 1) := by
  funext p
  unfold updF owP
  rw [sI_step h]
  by_cases h1 : p = d.f
  · subst h1
    simp only [if_true]
  · have h2 : ¬ d.f = p := fun e => h1 e.symm
    simp only [if_neg h1, if_neg h2]; omega
theorem owP_bd {ps : List Pt} {ds : List Dt} (h : LK ps ds) (i : Nat) (p : Int) : 0 ≤ owP ds i p ∧ owP ds i p ≤ 1600000 := sI_bd (fun d hd => by
  have := (h.debt d (List.mem_of_mem_take hd)).2.2.2
  show 0 ≤ (if d.f = p then d.c else 0) ∧ (if d.f = p then d.c else 0) ≤ 100000
  split <;> omega) (by have := h.d16; rw [List.length_take]; omega)
theorem call45 {ov : Ov} (m : Nat) (ho : ∀ args w, ov 45 args w = none) (pv dv : Value) (ps : List Pt) (ds : List Dt) (w : AW) (hl : w.lim ≤ w.next) (hL : LedV w pv dv ps ds) (hk : LK ps ds) :
    ∃ v w', (run Try.prog ov (m + 1)).call 45 [.agg ⟨[pv, dv]⟩] w .none = .ok (.ret v) w' .none ∧ ∃ B, v = .slice (some ⟨B, 0, none⟩) ps.length ps.length ∧ w'.heap.get B = some (.cells (lsC ps.length (owD ds)) 3 false) ∧ w.next ≤ B ∧ B < w'.next ∧ Up w w' := by
  refine call_wp text45 (by simp) (ho _ _) ?_
  have h8 := hk.n8
  have h16 := hk.d16
  have hl22 := fun w2 => len22V (w' := w2) hL.p
  have hl23 := fun w2 => len23V (w' := w2) hL.d
  have hmk := fun w => mk26 ps.length (by omega) w
  obtain ⟨w1, hw1⟩ : ∃ w1, w1 = (⟨(w.heap.put w.next (some (.cells [pv, dv] 25 false))).put (w.next + 1) (some (.cells (lsC ps.length fun _ => 0) 3 false)), w.next + 1 + 1, w.lim⟩ : AW) := ⟨_, rfl⟩
  have u1 : Up w w1 := by
    rw [hw1]
    exact ((Up.refl w).put (Nat.le_refl _) (Nat.le_refl _)).put (Nat.le_succ _) (by omega)
  have n1 : w1.next = w.next + 1 + 1 := by rw [hw1]
  have m1 : w1.lim = w.lim := by rw [hw1]
  have g1 : w1.heap.get w.next = some (.cells [pv, dv] 25 false) := by rw [hw1]; simp
  have g2 : w1.heap.get (w.next + 1) = some (.cells (lsC ps.length (owP ds 0)) 3 false) := by rw [hw1, owP_zero]; simp
  simp [mc45, cellsOf_agg, hl22, hmk]
  rw [← hw1]
  refine wp_seqX (wp_blockX (wp_rounds (fun i t w' => Kp (w.next + 1) w1 w' ∧ w'.heap.get (w.next + 1) = some (.cells (lsC ps.length (owP ds i)) 3 false) ∧ tget t 1 = .pointer (some ⟨w.next, 0, none⟩) ∧ tget t 3 = .slice (some ⟨w.next + 1, 0, none⟩) ps.length ps.length ∧ tget t 4 = .int .i64 (i : Nat) ∧ i ≤ ds.length) 20 (by decide) ⟨Kp.refl _ _, g2, by simp, by simp, by simp, Nat.zero_le _⟩ ?_))
  rintro i t w' ⟨hkp, g3, t1, t3, t4, hi⟩
  have hlm := hkp.lim
  have hnx := hkp.next
  have g := hkp.old w.next (by omega) (by omega)
  rw [g1] at g
  by_cases hlt : i < ds.length
  · obtain ⟨d, hd⟩ : ∃ e, ds[i]? = some e := ⟨_, List.getElem?_eq_getElem hlt⟩
    obtain ⟨b, off, sq, c, rfl, hra⟩ := (hL.up (hkp.up u1 (by omega))).d.at_ i hlt
    have hl0 := hra.rd1 (j := 0) dtC_length hd (x := .int .i64 d.f) rfl
    have hl2 := hra.rd1 (j := 2) dtC_length hd (x := .int .i64 d.c) rfl
    have hia := fun w => ia23 w ⟨b, off, sq⟩ ds.length c .i64 i hlt
    have hdb := hk.debt d (List.mem_of_getElem? hd)
    have hbd := owP_bd hk i d.f
    have hst := owP_step hd
    obtain ⟨df, dt, dc⟩ := d
    simp only [Nat.add_zero] at hdb hl0 hl2 hbd hst
    obtain ⟨k, rfl⟩ : ∃ k : Nat, df = (k : Int) := ⟨df.toNat, by omega⟩
    have hkn : k < ps.length := by omega
    have hia6 := fun w => ia26 w ⟨w.next + 1, 0, none⟩ ps.length ps.length .i64 k hkn
    have hia6' := fun w2 => ia26 w2 ⟨w.next + 1, 0, none⟩ ps.length ps.length .i64 k hkn
    simp only [Nat.mul_one] at hia6'
    have hgt := lsC_get ps.length (owP ds i) hkn
    obtain ⟨U, hU⟩ : ∃ U, U = owP ds i (k : Int) := ⟨_, rfl⟩
    rw [← hU] at hgt hbd hst
    have w1' : IntKind.wrap .i64 (U + dc) = U + dc := wrap64_in (by omega) (by omega)
    have w2' : IntKind.wrap .i64 ((i : Int) + 1) = (i : Int) + 1 := wrap64_in (by omega) (by omega)
    have q2 : w'.lim ≤ w.next + 1 := by omega
    have hs' := st_ls (w := w') (B := w.next + 1) (n := ps.length) (x := owP ds i) (v := U + dc) hkn q2
    rw [hst] at hs'
    simp [mc45_l0, t1, t3, t4, g, hl23, hlt, hia, hl0, hl2, hia6', g3, hgt, hU.symm, w1', w2', hs', -wrO_cells]
    exact ⟨by omega, hkp.new (.inr rfl) (Nat.le_refl _), hlt⟩
  · have hi' : i = ds.length := by omega
    subst hi'
    rw [owP_all] at g3
    have nj : ∀ (a : Addr) n c, notJunk (.slice (some a) n c) = some (.slice (some a) n c) := fun _ _ _ => rfl
    simp [mc45_l0, t1, t3, t4, g, hl23, nj, tupV]
    exact ⟨g3, by omega, hkp.up u1 (by omega)⟩
end Go.Proofs.Ythfidomphkednaa.walk

namespace Go.Proofs.Ythfidomphkednaa.walk
open Go Go.Sh
set_option maxRecDepth 100000
set_option linter.unusedSimpArgs false
set_option linter.unusedVariables false
/-! CreditSettled -/
def HasW (ov : Ov) : Prop := ∀ w, ov 19 [] w = some (.ok (.ret (.bool true)) w .none)
theorem ruleW {ov : Ov} (h : HasW ov) (m : Nat) (w : AW) : (run Try.prog ov (m + 1)).call 19 [] w .none = .ok (.ret (.bool true)) w .none := by
  show stepO Try.prog (run Try.prog ov m) 19 [] w .none (ov 19 [] w) = _
  rw [h w]; rfl
/-- the place and the number in a row that is read -/
theorem row_ld {w : AW} {v : Value} {L : List Int} (h : RowsV intC w v L) {i : Nat} {z : Int} (hz : L[i]? = some z) :
    ∃ b off sq c, v = .slice (some ⟨b, off, sq⟩) L.length c ∧ rd1O (w.heap.get b) (off + i) = some (.int .i64 z) ∧ ∀ w2 : AW, indexAddrA Try.prog w2 26 (.slice (some ⟨b, off, sq⟩) L.length c) (.int .i64 (i : Nat)) = .val (.pointer (some ((⟨b, off, sq⟩ : Addr).add i))) w2 := by
  have hlt : i < L.length := (List.getElem?_eq_some_iff.1 hz).1
  obtain ⟨b, off, sq, c, rfl, hra⟩ := h.at_ i hlt
  refine ⟨b, off, sq, c, rfl, hra.int hz, fun w2 => ?_⟩
  have := ia26 w2 ⟨b, off, sq⟩ L.length c .i64 i hlt
  rw [this, Nat.mul_one]
theorem liF_ls {n : Nat} {x : Int → Int} (h : ∀ p, p < 0 ∨ (n : Int) ≤ p → x p = 0) : liF (lsF n x) = x := by
  funext p
  by_cases hp : p < 0 ∨ (n : Int) ≤ p
  · rw [h p hp, liF_out (by rw [lsF_len]; exact hp)]
  · have := liF_at (lsF_at n x (k := p.toNat) (by omega))
    rwa [show ((p.toNat : Nat) : Int) = p by omega] at this
theorem st_out {ps : List Pt} {ds : List Dt} (hk : LK ps ds) {p : Int} (hp : p < 0 ∨ (ps.length : Int) ≤ p) : stF ps ds p = 0 := by
  have h1 := hk.ow_out hp
  have h2 := st_rng hk p
  omega
end Go.Proofs.Ythfidomphkednaa.walk

namespace Go.Proofs.Ythfidomphkednaa.walk
open Go Go.Sh
set_option maxRecDepth 100000
set_option linter.unusedSimpArgs false
set_option linter.unusedVariables false
/-! what is left -/
structure J51 (pv dv : Value) (ds : List Dt) (y : Int → Int) (p : Int) (n2 n3 b5 c6 L : Nat) (lp : ALoop) (x : Int → Int) (w : AW) : Prop where
  g2 : w.heap.get n2 = some (.cells (pv :: dv :: arC (owD ds)) 63 false)
  g3 : w.heap.get n3 = some (.cells (arC y) 61 false)
  g5 : w.heap.get b5 = some (.cells (arC x) 61 false)
  g6 : w.heap.get c6 = some (.cells [.int .i64 p] 3 false)
  lo : w.heap.get L = some (.loop lp)
  ord : w.lim ≤ b5 ∧ n2 < n3 ∧ n3 < b5 ∧ b5 < c6 ∧ c6 < L ∧ L < w.next
theorem J51.stay {pv dv : Value} {ds : List Dt} {y : Int → Int} {p : Int} {n2 n3 b5 c6 L : Nat} {lp : ALoop} (x : Int → Int) (w w' : AW) (h : J51 pv dv ds y p n2 n3 b5 c6 L lp x w) (k : ∀ x, x < w.next → w'.heap.get x = w.heap.get x) (hn : w.next ≤ w'.next) (hl : w'.lim = w.lim) : J51 pv dv ds y p n2 n3 b5 c6 L lp x w' := by
  obtain ⟨h1, h2, h3, h4, h5, o1, o2, o3, o4, o5, o6⟩ := h
  exact ⟨by rw [k _ (by omega)]; exact h1, by rw [k _ (by omega)]; exact h2, by rw [k _ (by omega)]; exact h3, by rw [k _ (by omega)]; exact h4, by rw [k _ (by omega)]; exact h5, by omega, o2, o3, o4, o5, by omega⟩
end Go.Proofs.Ythfidomphkednaa.walk

namespace Go.Proofs.Ythfidomphkednaa.walk
open Go Go.Sh
set_option maxRecDepth 100000
set_option linter.unusedSimpArgs false
set_option linter.unusedVariables false
end Go.Proofs.Ythfidomphkednaa.walk

namespace Go.Proofs.Ythfidomphkednaa.walk
open Go Go.Sh
set_option maxRecDepth 100000
set_option linter.unusedSimpArgs false
set_option linter.unusedVariables false
/-! Left, Short -/
noncomputable def shB (ps : List Pt) (ds : List Dt) (i : Nat) : Bool := decide (stF ps ds (i : Int) < owD ds (i : Int))
noncomputable def shP (ps : List Pt) (ds : List Dt) (i : Nat) : List Int := ((List.range i).filter (shB ps ds)).map fun (k : Nat) => (k : Int)
theorem shP_yes {ps : List Pt} {ds : List Dt} {i : Nat} (h : shB ps ds i = true) : shP ps ds (i + 1) = shP ps ds i ++ [(i : Int)] := by
  unfold shP; rw [List.range_succ, List.filter_append, List.map_append]; simp [h]
theorem shP_no {ps : List Pt} {ds : List Dt} {i : Nat} (h : shB ps ds i = false) : shP ps ds (i + 1) = shP ps ds i := by
  unfold shP; rw [List.range_succ, List.filter_append, List.map_append]; simp [h]
theorem shP_len (ps : List Pt) (ds : List Dt) (i : Nat) : (shP ps ds i).length ≤ i := by
  unfold shP; rw [List.length_map]
  have := List.length_filter_le (shB ps ds) (List.range i)
  rwa [List.length_range] at this
end Go.Proofs.Ythfidomphkednaa.walk

namespace Go.Proofs.Ythfidomphkednaa.walk
open Go Go.Sh
set_option maxRecDepth 100000
set_option linter.unusedSimpArgs false
set_option linter.unusedVariables false
/-! the specification's pay -/
theorem lsF_succ (n : Nat) (x : Int → Int) : lsF (n + 1) x = lsF n x ++ [x (n : Int)] := by simp [lsF, List.range_succ]
theorem loop46a {ov : Ov} (m : Nat) (pv dv lv av : Value) (ps : List Pt) (ds : List Dt) (h8 : ps.length ≤ 8) (w0 : AW) (hL : LedV w0 pv dv ps ds) (n2 : Nat) (hn2 : n2 < w0.next) (hl : w0.lim ≤ n2) (g2 : w0.heap.get n2 = some (.cells [pv, dv] 25 false)) (n0 : Nat) (hn0 : w0.next = n0 + 1)
    (Q : Ex → Tm → AW → Prop) (t : Tm) (t1 : tget t 1 = lv) (t2 : tget t 2 = .pointer (some ⟨n2, 0, none⟩)) (t6 : tget t 6 = av) (t7 : tget t 7 = .slice none 0 0) (t8 : tget t 8 = .slice none 0 0) (t9 : tget t 9 = .int .i64 0)
    (hQ : ∀ t w' B, Up w0 w' → AccQ intC 3 n0 w' (tget t 8) (lsF ps.length (caP ps)) B → tget t 1 = lv → tget t 2 = .pointer (some ⟨n2, 0, none⟩) → tget t 6 = av → tget t 7 = .slice none 0 0 → Q (.exit 0) t w') : wp (exM Try.prog (run Try.prog ov m) (.loop mc46_l0) t w0) Q := by
  refine wp_rounds (fun i t w' => Up w0 w' ∧ (∃ B, AccQ intC 3 n0 w' (tget t 8) (lsF i (caP ps)) B) ∧ tget t 1 = lv ∧ tget t 2 = .pointer (some ⟨n2, 0, none⟩) ∧ tget t 6 = av ∧ tget t 7 = .slice none 0 0 ∧ tget t 9 = .int .i64 (i : Nat) ∧ i ≤ ps.length) 20 (by decide) ⟨Up.refl _, ⟨0, .inl ⟨rfl, t8⟩⟩, t1, t2, t6, t7, by simpa using t9, Nat.zero_le _⟩ ?_
  clear t1 t2 t6 t7 t8 t9
  rintro i t w' ⟨hup, ⟨B, hacc⟩, t1, t2, t6, t7, t9, hi⟩
  have hlm := hup.lim
  have hnx := hup.next
  have hl22 := fun w2 => len22V (w' := w2) hL.p
  have g := hup.at hn2
  rw [g2] at g
  by_cases hlt : i < ps.length
  · obtain ⟨a, ha⟩ : ∃ e, ps[i]? = some e := ⟨_, List.getElem?_eq_getElem hlt⟩
    obtain ⟨b, off, sq, c, rfl, hra⟩ := (hL.up hup).p.at_ i hlt
    have hl1 := hra.rd1 (j := 1) ptC_length ha (x := .int .i64 a.ch) rfl
    have hia := fun w => ia22 w ⟨b, off, sq⟩ ps.length c .i64 i hlt
    have hw1' : IntKind.wrap .i64 ((i : Int) + 1) = (i : Int) + 1 := wrap64_in (by omega) (by omega)
    have hca := ca_at ha
    obtain ⟨v', w4, hap, ⟨B', hB', hacc'⟩, hkp, hn4, hl4⟩ := AccQ.push (P := Try.prog) (st := 26) (sz := 1) list26 elem26 size3 small3 intC_length (fun _ => by simp [intC]) (by decide) hacc (by omega) (by omega) (by rw [lsF_len]; omega) a.ch
    rw [← hca, ← lsF_succ] at hacc'
    simp only [intC] at hap
    simp [mc46_l0, t1, t2, t6, t7, t9, g, hl22, hlt, hia, hl1, hap, hw1']
    exact ⟨by omega, ⟨fun x hx => by rw [hkp x (by omega) (fun hne => by have := hacc.lt hne; omega)]; exact hup.at hx, by omega, by omega⟩, ⟨B', hacc'⟩, hlt⟩
  · have hi' : i = ps.length := by omega
    subst hi'
    simp [mc46_l0, t2, t9, g, hl22]
    exact hQ _ _ B hup (by simpa using hacc) (by simp [t1]) (by simp [t2]) (by simp [t6]) (by simp [t7])
set_option maxHeartbeats 1000000 in
theorem loop46b {ov : Ov} (m : Nat) (h60 : HasP ov 60 S60.F) (pv dv lv av : Value) (ps : List Pt) (ds : List Dt) (hk : LK ps ds) (x : Int → Int) (hx : ∀ p, 0 ≤ x p ∧ x p ≤ owD ds p) (w0 w3 : AW) (hL : LedV w0 pv dv ps ds) (u3 : Up w0 w3) (hlw : w0.lim ≤ w0.next) (hv : RowsV intC w0 lv (lsF ps.length x)) (ha : RowsV intC w0 av (lsF ps.length (owD ds))) (n2 : Nat) (hn2 : n2 < w0.next) (g2 : w0.heap.get n2 = some (.cells [pv, dv] 25 false)) (B : Nat) (hB : w0.next ≤ B) (hB3 : B < w3.next) (gB : w3.heap.get B = some (.cells (lsC ps.length (caP ps)) 3 false))
    (Q : Ex → Tm → AW → Prop) (t : Tm) (t1 : tget t 1 = lv) (t2 : tget t 2 = .pointer (some ⟨n2, 0, none⟩)) (t6 : tget t 6 = av) (t7 : tget t 7 = .slice none 0 0) (t8 : tget t 8 = .slice (some ⟨B, 0, none⟩) ps.length ps.length) (t10 : tget t 10 = .int .i64 0)
    (hQ : ∀ t w', Up w0 w' → (∀ w5 : AW, (∀ y, y < w'.next → y ≠ B → w5.heap.get y = w'.heap.get y) → w'.next ≤ w5.next → RowsV intC w5 (tget t 7) (paF ds x)) → notJunk (tget t 7) = some (tget t 7) → w'.heap.get B = some (.cells (lsC ps.length (haD ps ds x)) 3 false) → B < w'.next → tget t 8 = .slice (some ⟨B, 0, none⟩) ps.length ps.length → Q (.exit 2) t w') : wp (exM Try.prog (run Try.prog ov (m + 1)) (.loop mc46_l1) t w3) Q := by
  have h16 := hk.d16
  have h8 := hk.n8
  obtain ⟨n3, hn3⟩ : ∃ n3, w3.next = n3 + 1 := ⟨w3.next - 1, by omega⟩
  refine wp_rounds (fun i t w' => Kp B w3 w' ∧ w'.heap.get B = some (.cells (lsC ps.length (haF ps (owD ds) x ds i)) 3 false) ∧ (∃ B', AccQ intC 3 n3 w' (tget t 7) (paL ds x i) B') ∧ tget t 1 = lv ∧ tget t 2 = .pointer (some ⟨n2, 0, none⟩) ∧ tget t 6 = av ∧ tget t 8 = .slice (some ⟨B, 0, none⟩) ps.length ps.length ∧ tget t 10 = .int .i64 (i : Nat) ∧ i ≤ ds.length) 20 (by decide) ⟨Kp.refl _ _, by rw [haF_zero]; exact gB, ⟨0, .inl ⟨by simp [paL], t7⟩⟩, t1, t2, t6, t8, by simpa using t10, Nat.zero_le _⟩ ?_
  clear t1 t2 t6 t7 t8 t10
  rintro i t w' ⟨hkp, gb, ⟨B', hacc⟩, t1, t2, t6, t8, t10, hi⟩
  have hup := hkp.up u3 hB
  have hlm := hup.lim
  have hnx := hup.next
  have hk3 := hkp.next
  have hl23 := fun w2 => len23V (w' := w2) hL.d
  have g := hup.at hn2
  rw [g2] at g
  by_cases hlt : i < ds.length
  · obtain ⟨d, hd⟩ : ∃ a, ds[i]? = some a := ⟨_, List.getElem?_eq_getElem hlt⟩
    have hdm := List.mem_of_getElem? hd
    obtain ⟨b, off, sq, c, rfl, hra⟩ := (hL.d.up hup).at_ i hlt
    have hld := hra.rd dtC_length hd
    have hia := fun w => ia23 w ⟨b, off, sq⟩ ds.length c .i64 i hlt
    have hdb := hk.debt d hdm
    have hxf := hx d.f
    have hol := hk.ow_le d.f
    have hop := hk.ow_pos hdm
    have hpb := pt_bd hk hx hdm
    have hhb := haF_bd hk hx i d.t
    have hst0 := haF_step (ps := ps) (o := owD ds) (x := x) hd
    have hpa := paL_step x hd
    have hpt : ptD (owD ds) x d = x d.f * d.c / owD ds d.f := rfl
    obtain ⟨f, tt, cc⟩ := d
    simp only at hdb hxf hol hop hhb hst0 hpt
    obtain ⟨kf, rfl⟩ : ∃ k : Nat, f = (k : Int) := ⟨f.toNat, by omega⟩
    obtain ⟨k, rfl⟩ : ∃ k : Nat, tt = (k : Int) := ⟨tt.toNat, by omega⟩
    have hkn : k < ps.length := by omega
    have hkf : kf < ps.length := by omega
    obtain ⟨b1, o1, s1, c1, rfl, ld1, ia1⟩ := row_ld (hv.up hup) (lsF_at ps.length x hkf)
    obtain ⟨b2, o2, s2, c2, rfl, ld2, ia2⟩ := row_ld (ha.up hup) (lsF_at ps.length (owD ds) hkf)
    have bb1 : b1 < w'.next ∧ b2 < w'.next := by
      obtain ⟨q1, q2, q3, q4, e, hr⟩ := (hv.up hup).at_ kf (by simpa using hkf)
      obtain ⟨p1, p2, p3, p4, e', hr'⟩ := (ha.up hup).at_ kf (by simpa using hkf)
      cases e; cases e'
      exact ⟨hr.2, hr'.2⟩
    have z1 : ¬ b1 = w'.next := by omega
    have z2 : ¬ b2 = w'.next := by omega
    simp only [lsF_len] at ia1 ia2
    obtain ⟨X, hX⟩ : ∃ X, X = x (kf : Int) := ⟨_, rfl⟩
    obtain ⟨O, hO⟩ : ∃ X, X = owD ds (kf : Int) := ⟨_, rfl⟩
    obtain ⟨V, hV⟩ : ∃ X, X = ptD (owD ds) x ⟨(kf : Int), (k : Int), cc⟩ := ⟨_, rfl⟩
    rw [← hX] at ld1 hxf hpt
    rw [← hO] at ld2 hxf hol hop hpt
    rw [← hV] at hpb hst0 hpa hpt
    have m0 : 0 ≤ X * cc := Int.mul_nonneg hxf.1 (by omega)
    have m1 : X * cc ≤ 2000000 * 100000 := Int.mul_le_mul (by omega) (by omega) (by omega) (by omega)
    have ww : IntKind.wrap .i64 (X * cc) = X * cc := wrap64_in (by omega) (by omega)
    have r60 := fun w => S60.call (P := Try.prog) h60 (m := m) (w := w) ⟨X * cc, O, rfl, ⟨m0, by omega⟩, by omega, rfl⟩
    rw [← hpt] at r60
    simp only [dtC] at hld
    have hgt := lsC_get ps.length (haF ps (owD ds) x ds i) hkn
    have hia6 := fun w => ia26 w ⟨B, 0, none⟩ ps.length ps.length .i64 k hkn
    simp only [Nat.mul_one] at hia6
    obtain ⟨U, hU⟩ : ∃ U, U = haF ps (owD ds) x ds i (k : Int) := ⟨_, rfl⟩
    rw [← hU] at hgt hhb hst0
    have w1' : IntKind.wrap .i64 (U + V) = U + V := wrap64_in (by omega) (by omega)
    have w2' : IntKind.wrap .i64 ((i : Int) + 1) = (i : Int) + 1 := wrap64_in (by omega) (by omega)
    have q0 : ¬ B = w'.next := by omega
    have q5 : w'.lim ≤ w'.next := by omega
    obtain ⟨w2, hw2⟩ : ∃ w2, w2 = (⟨(w'.heap.put w'.next (some (.cells [.int .i64 0, .int .i64 0, .int .i64 0] 46 false))).put w'.next (some (.cells [.int .i64 (kf : Int), .int .i64 (k : Int), .int .i64 cc] 46 false)), w'.next + 1, w'.lim⟩ : AW) := ⟨_, rfl⟩
    have u2 : Up w' w2 := hw2 ▸ ((Up.refl w').add _).put (Nat.le_refl _) (Nat.le_refl _)
    have n2' : w2.next = w'.next + 1 := by rw [hw2]
    have m2' : w2.lim = w'.lim := by rw [hw2]
    have hacc2 : AccQ intC 3 n3 w2 (tget t 7) (paL ds x i) B' := hacc.keep (fun _ _ h => u2.at h) u2.next
    obtain ⟨v', w4, hap, ⟨B'', hB'', hacc'⟩, hk4, hn4, hl4⟩ := AccQ.push (P := Try.prog) (st := 26) (sz := 1) list26 elem26 size3 small3 intC_length (fun _ => by simp [intC]) (by decide) hacc2 (by omega) (by omega) (by unfold paL; rw [List.length_map, List.length_take]; omega) V
    rw [← hpa] at hacc'
    rw [hw2] at hap
    simp only [intC] at hap
    have gb4 : w4.heap.get B = some (.cells (lsC ps.length (haF ps (owD ds) x ds i)) 3 false) := by
      rw [hk4 B (by omega) (fun hne => by have := hacc2.lt hne; omega), u2.at (by omega)]; exact gb
    have gd4 : w4.heap.get w'.next = some (.cells [.int .i64 (kf : Int), .int .i64 (k : Int), .int .i64 cc] 46 false) := by
      rw [hk4 w'.next (by omega) (fun hne => by have := hacc.lt hne; omega), hw2]; simp
    have q6 : w4.lim ≤ B := by omega
    have hs' := st_ls (w := w4) (B := B) (n := ps.length) (x := haF ps (owD ds) x ds i) (v := U + V) hkn q6
    rw [hst0] at hs'
    have hsd : ∀ w5 : AW, w5.lim ≤ w'.next → wrO w5 w'.next 0 [.int .i64 (kf : Int), .int .i64 (k : Int), .int .i64 cc] (some (.cells [.int .i64 0, .int .i64 0, .int .i64 0] 46 false)) = some ⟨w5.heap.put w'.next (some (.cells [.int .i64 (kf : Int), .int .i64 (k : Int), .int .i64 cc] 46 false)), w5.next, w5.lim⟩ := fun w5 h => by rw [wrO_cells (by simp) h (by simp)]; rfl
    simp [mc46_l1, t1, t2, t6, t8, t10, g, hl23, hlt, hia, hld, ia1, ia2, ld1, ld2, z1, z2, q0, q5, ww, r60, hap, gd4, gb4, hia6, hgt, hU.symm, w1', hs', w2', hsd, -wrO_cells]
    refine ⟨by omega, ?_, ⟨B'', hacc'.keep (fun _ h2 h3 => by simp [show ¬ B'' = B by omega]) (Nat.le_refl _)⟩, hlt⟩
    refine ⟨fun y h1 h2 => ?_, by show w3.next ≤ w4.next; omega, by show w4.lim = w3.lim; have := u3.lim; omega⟩
    show (w4.heap.put B _).get y = _
    rw [get_put, if_neg h2, hk4 y (by omega) (fun hne => by have := hacc.lt hne; omega), u2.at (by omega)]
    exact hkp.old y h1 h2
  · have hi' : i = ds.length := by omega
    subst hi'
    rw [haF_all] at gb
    rw [paL_all] at hacc
    simp [mc46_l1, t2, t10, g, hl23]
    exact hQ _ _ hup (fun w5 h1 h2 => by simpa using (hacc.keep (w' := w5) (fun _ h3 h4 => h1 _ h4 (by omega)) h2).rows) (by simpa using hacc.ok) gb (by omega) (by simp [t8])
end Go.Proofs.Ythfidomphkednaa.walk

namespace Go.Proofs.Ythfidomphkednaa.walk
open Go Go.Sh
set_option maxRecDepth 100000
set_option linter.unusedSimpArgs false
set_option linter.unusedVariables false
theorem call46 {ov : Ov} (m : Nat) (ho : ∀ args w, ov 46 args w = none) (ho45 : ∀ args w, ov 45 args w = none) (h60 : HasP ov 60 S60.F) (pv dv lv : Value) (ps : List Pt) (ds : List Dt) (hk : LK ps ds) (x : Int → Int) (hx : ∀ p, 0 ≤ x p ∧ x p ≤ owD ds p) (w : AW) (hl : w.lim ≤ w.next) (hL : LedV w pv dv ps ds) (hv : RowsV intC w lv (lsF ps.length x)) :
    ∃ v w', (run Try.prog ov (m + 2)).call 46 [.agg ⟨[pv, dv]⟩, lv] w .none = .ok (.ret v) w' .none ∧ ∃ v1 v2, v = .tuple ⟨[v1, v2]⟩ ∧ RowsV intC w' v1 (paF ds x) ∧ RowsV intC w' v2 (lsF ps.length (haD ps ds x)) ∧ Up w w' ∧ ∃ B, v2 = .slice (some ⟨B, 0, none⟩) ps.length ps.length ∧ w'.heap.get B = some (.cells (lsC ps.length (haD ps ds x)) 3 false) ∧ w.next ≤ B ∧ B < w'.next ∧ ∀ w5 : AW, (∀ y, y < w'.next → y ≠ B → w5.heap.get y = w'.heap.get y) → w'.next ≤ w5.next → RowsV intC w5 v1 (paF ds x) := by
  refine call_wp text46 (by simp) (ho _ _) ?_
  have h8 := hk.n8
  have h1 := hk.n1
  obtain ⟨w1, hw1⟩ : ∃ w1, w1 = (⟨w.heap.put w.next (some (.cells [pv, dv] 25 false)), w.next + 1, w.lim⟩ : AW) := ⟨_, rfl⟩
  have u1 : Up w w1 := hw1 ▸ (Up.refl w).add _
  have n1 : w1.next = w.next + 1 := by rw [hw1]
  have m1 : w1.lim = w.lim := by rw [hw1]
  have g1 : w1.heap.get w.next = some (.cells [pv, dv] 25 false) := by rw [hw1]; simp
  obtain ⟨_, w2, c45, B, rfl, gB, hB1, hB2, u2⟩ := call45 (ov := ov) m ho45 pv dv ps ds w1 (by omega) (hL.up u1) hk
  have n2 := u2.next
  have m2 := u2.lim
  have g2 := u2.at (b := w.next) (by omega)
  rw [g1] at g2
  have ha : RowsV intC w2 (.slice (some ⟨B, 0, none⟩) ps.length ps.length) (lsF ps.length (owD ds)) := rows_ls gB hB2 _
  obtain ⟨n0, hn0⟩ : ∃ n0, w2.next = n0 + 1 := ⟨w2.next - 1, by omega⟩
  rw [hw1] at c45
  have nj : ∀ (a : Addr) n c, notJunk (.slice (some a) n c) = some (.slice (some a) n c) := fun _ _ _ => rfl
  simp [mc46, cellsOf_agg, c45]
  refine wp_seqX (wp_blockX (loop46a (ov := ov) (m + 1) pv dv lv (.slice (some ⟨B, 0, none⟩) ps.length ps.length) ps ds h8 w2 (hL.up (u1.trans u2)) w.next (by omega) (by omega) g2 n0 hn0 _ _ ?_ ?_ ?_ ?_ ?_ ?_ ?_))
  case _ => simp
  case _ => simp
  case _ => simp
  case _ => simp
  case _ => simp
  case _ => simp
  case _ =>
    intro t w3 Bh u3 hacc t1 t2 t6 t7
    have hne : lsF ps.length (caP ps) ≠ [] := fun e => by have := congrArg List.length e; rw [lsF_len, List.length_nil] at this; omega
    rcases hacc with ⟨h, _⟩ | ⟨e8, gH, hB3, hB4, _⟩
    · exact absurd h hne
    · rw [lsC_flat] at gH
      rw [lsF_len] at e8
      simp
      refine wp_seqX (wp_blockX (loop46b (ov := ov) m h60 pv dv lv (.slice (some ⟨B, 0, none⟩) ps.length ps.length) ps ds hk x hx w2 w3 (hL.up (u1.trans u2)) u3 (by omega) (hv.up (u1.trans u2)) ha w.next (by omega) g2 Bh (by omega) hB4 gH _ _ ?_ ?_ ?_ ?_ ?_ ?_ ?_))
      case _ => simp [t1]
      case _ => simp [t2]
      case _ => simp [t6]
      case _ => simp [t7]
      case _ => simp [e8]
      case _ => simp
      case _ =>
        intro t w4 u4 hr7 hj7 gF hF t8
        have hrF := rows_ls gF hF ps.length
        simp [t8, hj7, nj, tupV]
        exact ⟨_, _, ⟨rfl, rfl⟩, hr7 _ (fun _ _ _ => rfl) (Nat.le_refl _), hrF, (u1.trans u2).trans u4, _, rfl, gF, by omega, hF, hr7⟩
/-! the specification's clear -/
theorem loop50b {ov : Ov} (m n : Nat) (hn : n ≤ 8) (x h : Int → Int) (uv hv pv : Value) (w0 : AW) (n0 : Nat) (hn0 : w0.next = n0 + 1) (hl : w0.lim ≤ n0) (hu : RowsV intC w0 uv (lsF n x)) (hh : RowsV intC w0 hv (lsF n h)) (v1 : Value)
    (Q : Ex → Tm → AW → Prop) (t : Tm) (t1 : tget t 1 = v1) (t3 : tget t 3 = uv) (t5 : tget t 5 = hv) (t6 : tget t 6 = .slice none 0 0) (t7 : tget t 7 = .int .i64 0)
    (hQ : ∀ t w', Up w0 w' → RowsV intC w' (tget t 6) (lsF n fun p => min (x p) (h p)) → notJunk (tget t 6) = some (tget t 6) → tget t 1 = v1 → tget t 3 = uv → Q (.exit 2) t w') : wp (exM Try.prog (run Try.prog ov m) (.loop mc50_l1) t w0) Q := by
  refine wp_rounds (fun i t w' => Up w0 w' ∧ (∃ B, AccQ intC 3 n0 w' (tget t 6) (lsF i fun p => min (x p) (h p)) B) ∧ tget t 1 = v1 ∧ tget t 3 = uv ∧ tget t 5 = hv ∧ tget t 7 = .int .i64 (i : Nat) ∧ i ≤ n) 20 (by decide) ⟨Up.refl _, ⟨0, .inl ⟨rfl, t6⟩⟩, t1, t3, t5, by simpa using t7, Nat.zero_le _⟩ ?_
  clear t1 t3 t5 t6 t7
  rintro i t w' ⟨hup, ⟨B, hacc⟩, t1, t3, t5, t7, hi⟩
  have hlm := hup.lim
  have hnx := hup.next
  have hla := fun w2 => len26V (w' := w2) hu
  rw [lsF_len] at hla
  by_cases hlt : i < n
  · obtain ⟨b1, o1, s1, c1, rfl, ld1, ia1⟩ := row_ld (hu.up hup) (lsF_at n x hlt)
    obtain ⟨b2, o2, s2, c2, rfl, ld2, ia2⟩ := row_ld (hh.up hup) (lsF_at n h hlt)
    have bb1 : b1 < w'.next ∧ b2 < w'.next := by
      obtain ⟨q1, q2, q3, q4, e, hr⟩ := (hu.up hup).at_ i (by simpa using hlt)
      obtain ⟨p1, p2, p3, p4, e', hr'⟩ := (hh.up hup).at_ i (by simpa using hlt)
      cases e; cases e'
      exact ⟨hr.2, hr'.2⟩
    have z1 : ¬ b1 = w'.next := by omega
    have z2 : ¬ b2 = w'.next := by omega
    simp only [lsF_len] at ia1 ia2
    have hst := lsF_succ i fun p => min (x p) (h p)
    obtain ⟨X, hX⟩ : ∃ X, X = x (i : Int) := ⟨_, rfl⟩
    obtain ⟨H, hH⟩ : ∃ X, X = h (i : Int) := ⟨_, rfl⟩
    simp only [← hX, ← hH] at hst
    rw [← hX] at ld1
    rw [← hH] at ld2
    have hw1' : IntKind.wrap .i64 ((i : Int) + 1) = (i : Int) + 1 := wrap64_in (by omega) (by omega)
    obtain ⟨v', w4, hap, ⟨B', hB', hacc'⟩, hkp, hn4, hl4⟩ := AccQ.push (P := Try.prog) (st := 26) (sz := 1) list26 elem26 size3 small3 intC_length (fun _ => by simp [intC]) (by decide) hacc (by omega) (by omega) (by rw [lsF_len]; omega) (min X H)
    rw [← hst] at hacc'
    simp only [intC] at hap
    simp [mc50_l1, t1, t3, t5, t7, hla, hlt, ia1, ia2, ld1, ld2, z1, z2, hap, hw1']
    exact ⟨by omega, ⟨fun y hy => by rw [hkp y (by omega) (fun hne => by have := hacc.lt hne; omega)]; exact hup.at hy, by omega, by omega⟩, ⟨B', hacc'⟩, hlt⟩
  · have hi' : i = n := by omega
    subst hi'
    simp [mc50_l1, t3, t7, hla]
    exact hQ _ _ hup (by simpa using hacc.rows) (by simpa using hacc.ok) (by simp [t1]) (by simp [t3])
theorem ls_eq {n : Nat} {x y : Int → Int} (hx : ∀ p, p < 0 ∨ (n : Int) ≤ p → x p = 0) (hy : ∀ p, p < 0 ∨ (n : Int) ≤ p → y p = 0) (h : lsF n x = lsF n y) : x = y := by
  rw [← liF_ls hx, ← liF_ls hy, h]
theorem des_out {ps : List Pt} {ds : List Dt} (hk : LK ps ds) {x : Int → Int} (hx : ∀ p, 0 ≤ x p ∧ x p ≤ owD ds p) (p : Int) (hp : p < 0 ∨ (ps.length : Int) ≤ p) : x p = 0 := by
  have h1 := hk.ow_out hp
  have h2 := hx p
  omega
set_option maxHeartbeats 1000000 in
theorem call50 {ov : Ov} (m : Nat) (ho : ∀ args w, ov 50 args w = none) (ho45 : ∀ args w, ov 45 args w = none) (ho46 : ∀ args w, ov 46 args w = none) (h16 : HasP ov 16 S16.F) (h60 : HasP ov 60 S60.F) (pv dv : Value) (ps : List Pt) (ds : List Dt) (hk : LK ps ds) (w : AW) (hl : w.lim ≤ w.next) (hL : LedV w pv dv ps ds) :
    ∃ v w', (run Try.prog ov (m + 3)).call 50 [.agg ⟨[pv, dv]⟩] w .none = .ok (.ret v) w' .none ∧ RowsV intC w' v (lsF ps.length (stF ps ds)) ∧ Up w w' ∧ notJunk v = some v := by
  refine call_wp text50 (by simp) (ho _ _) ?_
  have h8 := hk.n8
  obtain ⟨w1, hw1⟩ : ∃ w1, w1 = (⟨w.heap.put w.next (some (.cells [pv, dv] 25 false)), w.next + 1, w.lim⟩ : AW) := ⟨_, rfl⟩
  have u1 : Up w w1 := hw1 ▸ (Up.refl w).add _
  have n1 : w1.next = w.next + 1 := by rw [hw1]
  have m1 : w1.lim = w.lim := by rw [hw1]
  have g1 : w1.heap.get w.next = some (.cells [pv, dv] 25 false) := by rw [hw1]; simp
  obtain ⟨_, w2, c45, B, rfl, gB, hB1, hB2, u2⟩ := call45 (ov := ov) (m + 1) ho45 pv dv ps ds w1 (by omega) (hL.up u1) hk
  have n2 := u2.next
  have m2 := u2.lim
  have g2 := u2.at (b := w.next) (by omega)
  rw [g1] at g2
  have ha : RowsV intC w2 (.slice (some ⟨B, 0, none⟩) ps.length ps.length) (lsF ps.length (owD ds)) := rows_ls gB hB2 _
  rw [hw1] at c45
  have hb := tot_in (x := owD ds) fun p => ⟨hk.ow_nonneg p, hk.ow_le p⟩
  have nj : notJunk (.slice (some ⟨B, 0, none⟩) ps.length ps.length) = some (.slice (some ⟨B, 0, none⟩) ps.length ps.length) := rfl
  simp [mc50, cellsOf_agg, c45]
  refine wp_blockX (wp_rounds (fun i t w' => Up w2 w' ∧ ∃ x, RowsV intC w' (tget t 3) (lsF ps.length x) ∧ notJunk (tget t 3) = some (tget t 3) ∧ DescD ps ds x ∧ totD x + i ≤ 12800000 ∧ tget t 1 = .pointer (some ⟨w.next, 0, none⟩)) 12800001 (by decide) ⟨Up.refl _, owD ds, by simpa using ha, by simp [notJunk], hk.desc_ow, by omega, by simp⟩ ?_)
  rintro i t w' ⟨hup, x, hr3, hj3, hd, ht, t1⟩
  have hlm := hup.lim
  have hnx := hup.next
  have g := hup.at (b := w.next) (by omega)
  rw [g2] at g
  obtain ⟨v3, hv3⟩ : ∃ v, v = tget t 3 := ⟨_, rfl⟩
  rw [← hv3] at hr3 hj3
  obtain ⟨_, w3, c46, p1, h1, rfl, hp1, hh1, u3, _⟩ := call46 (ov := ov) m ho46 ho45 h60 pv dv v3 ps ds hk x hd.rng w' (by omega) (hL.up ((u1.trans u2).trans hup)) hr3
  have n3 := u3.next
  have m3 := u3.lim
  obtain ⟨n0, hn0⟩ : ∃ n0, w3.next = n0 + 1 := ⟨w3.next - 1, by omega⟩
  simp [mc50_l0, t1, hv3.symm, g, c46]
  refine wp_blockX (wp_seqX (wp_blockX (loop50b (ov := ov) (m + 2) ps.length h8 x (haD ps ds x) v3 h1 p1 w3 n0 hn0 (by omega) (hr3.up u3) hh1 (.pointer (some ⟨w.next, 0, none⟩)) _ _ ?_ ?_ ?_ ?_ ?_ ?_)))
  case _ => simp [t1]
  case _ => simp [hv3.symm]
  case _ => simp
  case _ => simp
  case _ => simp
  case _ =>
    intro t w4 u4 hr6 hj6 t1 t3
    have en : (fun p => min (x p) (haD ps ds x p)) = nxD ps ds x := funext fun p => hk.nx_ref hd p
    rw [en] at hr6
    obtain ⟨v6, hv6⟩ : ∃ v, v = tget t 6 := ⟨_, rfl⟩
    rw [← hv6] at hr6 hj6
    have r16 := S16.call (P := Try.prog) h16 (m := m + 1) (w := w4) ⟨v6, v3, _, _, rfl, hr6, hr3.up (u3.trans u4), by rw [lsF_len]; omega, rfl⟩
    have hd2 := hk.desc_next hd
    by_cases hE : lsF ps.length (nxD ps ds x) = lsF ps.length x
    · have e := ls_eq (des_out hk hd2.rng) (des_out hk hd.rng) hE
      have es := st_of (hk.desc_gfp hd fun p => by rw [e])
      rw [decide_eq_true hE] at r16
      simp [t1, t3, hv6.symm, r16, hj3, tupV]
      rw [← es]
      exact ⟨hr3.up (u3.trans u4), ((u1.trans u2).trans hup).trans (u3.trans u4)⟩
    · rw [decide_eq_false hE] at r16
      have hlt : totD (nxD ps ds x) < totD x := by
        apply Classical.byContradiction
        intro hn
        have : arE (nxD ps ds x) x = true := by
          cases hq : arE (nxD ps ds x) x with
          | true => rfl
          | false => exact absurd (desc_less hk hd hq) hn
        exact hE (by rw [arC_uniq (hk.nx8 x) (z8_of hk hd.rng) (arE_true this)])
      have h0 := (tot_in (x := nxD ps ds x) fun p => ⟨(hd2.rng p).1, by have := (hd2.rng p).2; have := hk.ow_le p; omega⟩).1
      simp [t1, t3, hv6.symm, r16]
      refine ⟨by omega, hup.trans (u3.trans u4), nxD ps ds x, hr6, hj6, hd2, by omega⟩
end Go.Proofs.Ythfidomphkednaa.walk
