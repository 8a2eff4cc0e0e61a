/- Part of a proof by a machine of ones own: see the text with the theorem. -/
import Derived.Test.YtimnfedgbkgdeaaGreatDoorEWe
import Derived.Test.YtimnfedgbkgdeaaGreatDoorXT2
namespace Go.Proofs.YtimnfedgbkgdeaaGreatDoor.walk
open Go Go.Sh
set_option maxRecDepth 100000
set_option linter.unusedSimpArgs false
set_option linter.unusedVariables false
/-! the specification's flowers: what is added on a way -/
def adS (rs : List Rac) (from_ to back : Int) : Nat → Int
  | 0 => 0
  | k + 1 => adS rs from_ to back k + (match rs[k]? with | some r => if (from_ < r.need ∧ r.need ≤ to) ∧ back < r.fl then 1 else 0 | none => 0)
theorem adS_bd (rs : List Rac) (a b c : Int) : ∀ k, 0 ≤ adS rs a b c k ∧ adS rs a b c k ≤ k
  | 0 => ⟨Int.le_refl _, Int.le_refl _⟩
  | k + 1 => by
    have ih := adS_bd rs a b c k
    unfold adS
    cases rs[k]? with
    | none => simp only; omega
    | some r => simp only; split <;> omega
noncomputable def F61 : PureF := fun args w => match args with | [u, .int .i64 a, .int .i64 b, .int .i64 c] => (rowsIn racC w u).bind fun rs => bif decide (rs.length ≤ 8) then some (.int .i64 (adS rs a b c rs.length)) else none | _ => none
theorem rule61 {ov : Ov} (k : HasP ov 61 F61) {u : Value} {rs : List Rac} (a b c : Int) {w : AW} (h8 : rs.length ≤ 8) (hv : RowsV racC w u rs) (m : Nat) : (run Tryz.prog ov (m + 1)).call 61 [u, .int .i64 a, .int .i64 b, .int .i64 c] w .none = .ok (.ret (.int .i64 (adS rs a b c rs.length))) w .none := k.call (by
  simp [F61, hv.rowsIn (m := 2) racC_length racC_inj, h8])
set_option maxHeartbeats 1000000 in
theorem run61 {ov : Ov} (ho : ∀ args w, ov 61 args w = none) (rs : List Rac) (h8 : rs.length ≤ 8) (a b c : Int) (u : Value) (w : AW) (hv : RowsV racC w u rs) : ∃ x w', (run Tryz.prog ov 2).call 61 [u, .int .i64 a, .int .i64 b, .int .i64 c] w .none = .ok (.ret x) w' .none ∧ x = .int .i64 (adS rs a b c rs.length) := by
  refine call_wp text61 (by simp) (ho _ _) ?_
  have hln := fun w => len30V hv w
  simp [mc61]
  refine wp_seqX (wp_blockX (wp_rounds (fun i t' w' => w' = w ∧ tget t' 0 = u ∧ tget t' 1 = .int .i64 a ∧ tget t' 2 = .int .i64 b ∧ tget t' 3 = .int .i64 c ∧ tget t' 9 = .int .i64 (adS rs a b c i) ∧ tget t' 10 = .int .i64 (i : Nat) ∧ i ≤ rs.length) 200 (by decide) ⟨rfl, by simp, by simp, by simp, by simp, by simp [adS], by simp, Nat.zero_le _⟩ ?_))
  rintro i t' w' ⟨rfl, t0, t1, t2, t3, t9, t10, hi⟩
  by_cases hlt : i < rs.length
  · obtain ⟨r, hd⟩ : ∃ d, rs[i]? = some d := ⟨_, List.getElem?_eq_getElem hlt⟩
    obtain ⟨bl, off, sq, rc, rfl, hr⟩ := hv.at_ i hlt
    have hl0 := hr.rd1 (m := 2) (j := 0) racC_length hd (x := .int .i64 r.need) rfl
    have hl1 := hr.rd1 (m := 2) (j := 1) racC_length hd (x := .int .i64 r.fl) rfl
    simp only [Nat.add_zero] at hl0
    have hia := fun w => ia30 w ⟨bl, off, sq⟩ rs.length rc .i64 i hlt
    have bd := adS_bd rs a b c i
    have hw1 : IntKind.wrap .i64 ((i : Int) + 1) = (i : Int) + 1 := wrap64_in (by omega) (by omega)
    have hw2 : IntKind.wrap .i64 (adS rs a b c i + 1) = adS rs a b c i + 1 := wrap64_in (by omega) (by omega)
    have e : adS rs a b c (i + 1) = adS rs a b c i + (if (a < r.need ∧ r.need ≤ b) ∧ c < r.fl then 1 else 0) := by rw [adS, hd]
    by_cases c1 : a < r.need
    · by_cases c2 : r.need ≤ b
      · by_cases c3 : c < r.fl
        · rw [if_pos ⟨⟨c1, c2⟩, c3⟩] at e
          simp [mc61_l0, t0, t1, t2, t3, t9, t10, hln, hlt, hia, hl0, hl1, c1, c2, c3, hw1, hw2, e]
          omega
        · rw [if_neg (fun h => c3 h.2), Int.add_zero] at e
          simp [mc61_l0, t0, t1, t2, t3, t9, t10, hln, hlt, hia, hl0, hl1, c1, c2, c3, hw1, hw2, e]
          omega
      · rw [if_neg (fun h => c2 h.1.2), Int.add_zero] at e
        simp [mc61_l0, t0, t1, t2, t3, t9, t10, hln, hlt, hia, hl0, hl1, c1, c2, hw1, hw2, e]
        omega
    · rw [if_neg (fun h => c1 h.1.1), Int.add_zero] at e
      simp [mc61_l0, t0, t1, t2, t3, t9, t10, hln, hlt, hia, hl0, hl1, c1, hw1, hw2, e]
      omega
  · have hi' : i = rs.length := by omega
    subst hi'
    simp [mc61_l0, t0, t9, t10, hln, tupV]
/-- the same, as the program says it -/
theorem adS_eq {rs : List Rac} (hr : racB rs = true) (D i u h : Nat) (hi : i ≤ D) (hu : i = 0 → u = 0) : adS rs (if i = 0 then -1 else (u : Nat)) ((u : Int) + (h : Int)) ((D : Int) - (i : Int)) rs.length = adI rs D i u h := by
  simp only [racB, Bool.and_eq_true, decide_eq_true_eq] at hr
  have key : ∀ k, k ≤ rs.length → adS rs (if i = 0 then -1 else (u : Nat)) ((u : Int) + (h : Int)) ((D : Int) - (i : Int)) k = adK rs D i u h k := by
    intro k
    induction k with
    | zero => intro _; rfl
    | succ k ih =>
      intro hk
      obtain ⟨r, hrk⟩ : ∃ r, rs[k]? = some r := ⟨_, List.getElem?_eq_getElem (by omega)⟩
      have hok := rac_of rs.length hr.2 k r (by omega) hrk
      simp only [racOk, inI, Bool.and_eq_true, decide_eq_true_eq] at hok
      rw [adS, adK, ih (by omega), hrk]
      simp only
      congr 1
      have e : adR D r i u h = true ↔ ((if i = 0 then (-1 : Int) else (u : Nat)) < r.need ∧ r.need ≤ (u : Int) + (h : Int)) ∧ (D : Int) - (i : Int) < r.fl := by
        unfold adR
        simp only [Bool.and_eq_true, Bool.or_eq_true, decide_eq_true_eq]
        by_cases h0 : i = 0
        · have hu0 := hu h0
          subst h0
          subst hu0
          rw [if_pos rfl]
          constructor
          · intro hh; omega
          · intro hh; exact ⟨⟨by omega, .inl rfl⟩, by omega⟩
        · simp only [if_neg h0]
          omega
      by_cases hc : adR D r i u h = true
      · rw [if_pos hc, if_pos (e.1 hc)]
      · rw [if_neg hc, if_neg (fun h => hc (e.2 h))]
  exact key rs.length (Nat.le_refl _)
end Go.Proofs.YtimnfedgbkgdeaaGreatDoor.walk

namespace Go.Proofs.YtimnfedgbkgdeaaGreatDoor.walk
open Go Go.Sh
set_option maxRecDepth 100000
set_option linter.unusedSimpArgs false
set_option linter.unusedVariables false
/-! the heats that a day can give, as the specification lists them -/
def addN (g : List Int) (x : Int) : List Int := if x ∈ g then g else g ++ [x]
def gvN (s : Sea) (d : Day) (z : Int) (g : List Int) : Nat → List Int
  | 0 => g
  | k + 1 => addN (gvN s d z g k) (heatI s (d.wl + (k : Nat)) 0 z)
def gvL (s : Sea) (d : Day) (z : Int) : List Int := gvN s d z (if s.wet < d.rh then [0] else []) (if d.rl ≤ s.wet then (d.wh - d.wl + 1).toNat else 0)
theorem addN_len (g : List Int) (x : Int) : (addN g x).length ≤ g.length + 1 := by unfold addN; split <;> simp
theorem gvN_len (s : Sea) (d : Day) (z : Int) (g : List Int) : ∀ k, (gvN s d z g k).length ≤ g.length + k
  | 0 => Nat.le_refl _
  | k + 1 => by have := gvN_len s d z g k; have := addN_len (gvN s d z g k) (heatI s (d.wl + (k : Nat)) 0 z); unfold gvN; omega
theorem find_lt {x : Int} (l : List Int) : findAt x l 0 < 0 ↔ ¬ x ∈ l := by
  rw [← find_some l 0]; omega
structure In27 (w0 : AW) (cs : List Value) (v : Value) (g : List Int) (B : Nat) (w : AW) : Prop where
  old : Old w0.next w0.heap w.heap
  sea : w.heap.get w0.next = some (.cells cs 29 false)
  acc : AccI w0.next w v g B
  next : w0.next < w.next
  lim : w.lim = w0.lim
set_option maxHeartbeats 2000000 in
theorem loop27 {ov : Ov} (m : Nat) (h57 : H50 ov) (h58 : HasP ov 58 F58) (s : Sea) (l : List Day) (h40 : l.length ≤ 40) (i : Nat) (d : Day) (hd : l[i]? = some d) (hdb : dayB d = true) (z : Int) (hok : ∀ a, d.wl ≤ a → a ≤ d.wh → heatB s a z = true) (hwet : 0 ≤ s.wet) (dv cv : Value) (w0 : AW) (hl0 : w0.lim ≤ w0.next) (hv : RowsV dayC w0 dv l)
    (Q : Ex → Tm → AW → Prop) (t : Tm) (w : AW) (g0 : List Int) (hg0 : g0.length ≤ 1) (hI : ∃ B, In27 w0 (seaC s dv cv) (tget t 7) g0 B w) (t1 : tget t 1 = .int .i64 (i : Nat)) (t2 : tget t 2 = .int .i64 z) (t3 : tget t 3 = .pointer (some ⟨w0.next, 0, none⟩)) (t8 : tget t 8 = .int .i64 d.wl)
    (hQ : ∀ t w B, In27 w0 (seaC s dv cv) (tget t 7) (gvN s d z g0 (if d.rl ≤ s.wet then (d.wh - d.wl + 1).toNat else 0)) B w → Q (.exit 0) t w) : wp (exM Tryz.prog (run Tryz.prog ov (m + 1)) (.loop mc27_l0) t w) Q := by
  simp only [dayB, spanB, Bool.and_eq_true, decide_eq_true_eq] at hdb
  refine wp_rounds (fun k t w => (∃ B, In27 w0 (seaC s dv cv) (tget t 7) (gvN s d z g0 k) B w) ∧ tget t 1 = .int .i64 (i : Nat) ∧ tget t 2 = .int .i64 z ∧ tget t 3 = .pointer (some ⟨w0.next, 0, none⟩) ∧ tget t 8 = .int .i64 (d.wl + (k : Nat)) ∧ d.wl + (k : Nat) ≤ d.wh + 1 ∧ (k = 0 ∨ d.rl ≤ s.wet)) 200 (by decide) ⟨hI, t1, t2, t3, by simpa using t8, by omega, .inl rfl⟩ ?_
  clear t1 t2 t3 t8 hI
  rintro k t w ⟨⟨B, hI⟩, t1, t2, t3, t8, hk, hor⟩
  have hlt : i < l.length := (List.getElem?_eq_some_iff.1 hd).1
  obtain ⟨b, off, sq, c, rfl, hr⟩ := hv.at_ i hlt
  have hbl := hr.2
  have r1 := hr.rd1 (m := 4) (j := 1) dayC_length hd (x := .int .i64 d.wh) rfl
  have r2 := hr.rd1 (m := 4) (j := 2) dayC_length hd (x := .int .i64 d.rl) rfl
  rw [← hI.old b hbl] at r1 r2
  have hia := fun w => ia22 w ⟨b, off, sq⟩ l.length c .i64 i hlt
  have hsea := hI.sea
  have hn := hI.next
  have hlm := hI.lim
  have hacc := hI.acc
  obtain ⟨v7, hv7⟩ : ∃ v7, v7 = tget t 7 := ⟨_, rfl⟩
  have t7 := hv7.symm
  rw [← hv7] at hacc hI
  have hrow := acc_rows hacc
  have hlen := gvN_len s d z g0 k
  have done : (k = if d.rl ≤ s.wet then (d.wh - d.wl + 1).toNat else 0) → ∀ t w, In27 w0 (seaC s (.slice (some ⟨b, off, sq⟩) l.length c) cv) (tget t 7) (gvN s d z g0 k) B w → Q (.exit 0) t w := fun e t w h => hQ t w B (by rw [← e]; exact h)
  by_cases hle : d.wl + (k : Nat) ≤ d.wh
  · by_cases hw : d.rl ≤ s.wet
    · have r58 := rule58 h58 s (.slice (some ⟨b, off, sq⟩) l.length c) cv 0 (hok _ (by omega) hle) m w
      obtain ⟨x, hx⟩ : ∃ x, x = heatI s (d.wl + (k : Nat)) 0 z := ⟨_, rfl⟩
      rw [← hx] at r58
      have r57 := h57 m (gvN s d z g0 k) x v7 w (by omega) hrow
      have ww : IntKind.wrap .i64 (d.wl + (k : Nat) + 1) = d.wl + (k : Nat) + 1 := wrap64_in (by omega) (by omega)
      have eg : gvN s d z g0 (k + 1) = addN (gvN s d z g0 k) x := by rw [hx]; rfl
      by_cases hm : x ∈ gvN s d z g0 k
      · have hf : ¬ findAt x (gvN s d z g0 k) 0 < 0 := fun h => (find_lt _).1 h hm
        have eg2 : gvN s d z g0 (k + 1) = gvN s d z g0 k := by rw [eg]; unfold addN; rw [if_pos hm]
        simp only [seaC] at hsea r58
        simp [mc27_l0, t1, t2, t3, t7, t8, hsea, seaC, hia, r1, r2, hle, hw, r58, r57, hf, ww]
        rw [eg2]
        exact ⟨by omega, ⟨B, hI⟩, by omega, by omega⟩
      · have hf : findAt x (gvN s d z g0 k) 0 < 0 := (find_lt _).2 hm
        have eg2 : gvN s d z g0 (k + 1) = gvN s d z g0 k ++ [x] := by rw [eg]; unfold addN; rw [if_neg hm]
        obtain ⟨v', w', B', ha, ac, kk, nb, nx, lm⟩ := int_push hacc (by omega) hn (by omega) x
        have hI' : In27 w0 (seaC s (.slice (some ⟨b, off, sq⟩) l.length c) cv) v' (gvN s d z g0 (k + 1)) B' w' := by
          rw [eg2]
          refine ⟨fun y hy => ?_, ?_, ac, by omega, by omega⟩
          · rw [kk y (by omega) (hacc.nb _ (by omega)), hI.old y hy]
          · rw [kk _ hn (hacc.nb _ (Nat.le_refl _))]; exact hsea
        simp only [seaC] at hsea r58 hI'
        simp [mc27_l0, t1, t2, t3, t7, t8, hsea, seaC, hia, r1, r2, hle, hw, r58, r57, hf, ha, ww]
        exact ⟨by omega, ⟨B', hI'⟩, by omega, by omega⟩
    · have hk0 : k = 0 := by omega
      have e := done (by rw [if_neg hw]; exact hk0)
      simp only [seaC] at hsea e hI
      simp [mc27_l0, t1, t2, t3, t7, t8, hsea, seaC, hia, r1, r2, hle, hw]
      exact e _ _ (by simpa [t7] using hI)
  · have e := done (by split <;> omega)
    simp only [seaC] at hsea e hI
    simp [mc27_l0, t1, t2, t3, t7, t8, hsea, seaC, hia, r1, r2, hle]
    exact e _ _ (by simpa [t7] using hI)
set_option maxHeartbeats 2000000 in
theorem call27 {ov : Ov} (m : Nat) (ho : ∀ args w, ov 27 args w = none) (h57 : H50 ov) (h58 : HasP ov 58 F58) (s : Sea) (l : List Day) (h40 : l.length ≤ 40) (i : Nat) (d : Day) (hd : l[i]? = some d) (hdb : dayB d = true) (z : Int) (hok : ∀ a, d.wl ≤ a → a ≤ d.wh → heatB s a z = true) (hwet : 0 ≤ s.wet) (dv cv : Value) (w : AW) (hl : w.lim ≤ w.next) (hv : RowsV dayC w dv l) :
    ∃ x w', (run Tryz.prog ov (m + 2)).call 27 [.agg ⟨seaC s dv cv⟩, .int .i64 (i : Nat), .int .i64 z] w .none = .ok (.ret x) w' .none ∧ (∃ B, AccI w.next w' x (gvL s d z) B) ∧ Old w.next w.heap w'.heap ∧ w.next ≤ w'.next ∧ w'.lim = w.lim := by
  refine call_wp text27 (by simp) (ho _ _) ?_
  have hlt : i < l.length := (List.getElem?_eq_some_iff.1 hd).1
  have key := fun Q t w1 g0 hg0 hI => loop27 (ov := ov) m h57 h58 s l h40 i d hd hdb z hok hwet dv cv w hl hv Q t w1 g0 hg0 hI
  obtain ⟨b, off, sq, c, rfl, hr⟩ := hv.at_ i hlt
  have hbl := hr.2
  have r0 := hr.rd1 (m := 4) (j := 0) dayC_length hd (x := .int .i64 d.wl) rfl
  have r3 := hr.rd1 (m := 4) (j := 3) dayC_length hd (x := .int .i64 d.rh) rfl
  simp only [Nat.add_zero] at r0
  have m0 : ¬ b = w.next := by omega
  have hia := fun w => ia22 w ⟨b, off, sq⟩ l.length c .i64 i hlt
  obtain ⟨w1, ew1⟩ : ∃ w1 : AW, w1 = ⟨w.heap.put w.next (some (.cells (seaC s (.slice (some ⟨b, off, sq⟩) l.length c) cv) 29 false)), w.next + 1, w.lim⟩ := ⟨_, rfl⟩
  have n1 : w1.next = w.next + 1 := by rw [ew1]
  have l1 : w1.lim = w.lim := by rw [ew1]
  have o1 : Old w.next w.heap w1.heap := by rw [ew1]; exact (Old.refl _ _).put (Nat.le_refl _)
  have g1 : w1.heap.get w.next = some (.cells (seaC s (.slice (some ⟨b, off, sq⟩) l.length c) cv) 29 false) := by rw [ew1]; simp
  have fin : ∀ (g : List Int) (v : Value) B w2, In27 w (seaC s (.slice (some ⟨b, off, sq⟩) l.length c) cv) v g B w2 → notJunk v = some v ∧ (∃ B, AccI w.next w2 v g B) ∧ Old w.next w.heap w2.heap ∧ w.next ≤ w2.next ∧ w2.lim = w.lim := fun g v B w2 h => ⟨row_notJunk (acc_rows h.acc), ⟨_, h.acc⟩, h.old, by have := h.next; omega, h.lim⟩
  by_cases hw : s.wet < d.rh
  · have hac0 : AccI w.next w1 (.slice none 0 0) [] 0 := .inl ⟨rfl, rfl, rfl⟩
    obtain ⟨v', w', B', ha, ac, kk, nb, nx, lm⟩ := int_push hac0 (by omega) (by omega) (by simp) 0
    have hI : In27 w (seaC s (.slice (some ⟨b, off, sq⟩) l.length c) cv) v' [0] B' w' := by
      refine ⟨fun y hy => ?_, ?_, by simpa using ac, by omega, by omega⟩
      · rw [kk y (by omega) (fun _ => rfl), o1 y hy]
      · rw [kk _ (by omega) (fun _ => rfl)]; exact g1
    have hs' := hI.sea
    have r0' : rd1O (w'.heap.get b) (off + i * 4) = some (.int .i64 d.wl) := by rw [hI.old b hbl]; exact r0
    have r3' : rd1O (w1.heap.get b) (off + i * 4 + 3) = some (.int .i64 d.rh) := by rw [o1 b hbl]; exact r3
    have eg : gvL s d z = gvN s d z [0] (if d.rl ≤ s.wet then (d.wh - d.wl + 1).toNat else 0) := by unfold gvL; rw [if_pos hw]
    rw [eg]
    rw [ew1] at ha
    simp only [seaC] at hs' ha key
    simp [mc27, seaC, cellsOf_agg, hia, m0, r3, hw, ha, hs', r0']
    refine wp_seqX (wp_blockX (key _ _ _ [0] (by simp) ⟨B', ?_⟩ ?_ ?_ ?_ ?_ ?_))
    case _ => simpa [seaC] using hI
    case _ => simp
    case _ => simp
    case _ => simp
    case _ => simp
    case _ =>
      intro t w2 B2 h2
      have := fin _ _ _ _ (by simpa [seaC] using h2)
      simp [tupV, this.1]
      exact this.2
  · have hI : In27 w (seaC s (.slice (some ⟨b, off, sq⟩) l.length c) cv) (.slice none 0 0) [] 0 w1 := ⟨o1, g1, .inl ⟨rfl, rfl, rfl⟩, by omega, l1⟩
    have eg : gvL s d z = gvN s d z [] (if d.rl ≤ s.wet then (d.wh - d.wl + 1).toNat else 0) := by unfold gvL; rw [if_neg hw]
    rw [eg]
    rw [ew1] at hI
    simp only [seaC] at hI key
    simp [mc27, seaC, cellsOf_agg, hia, m0, r3, r0, hw]
    refine wp_seqX (wp_blockX (key _ _ _ [] (by simp) ⟨0, ?_⟩ ?_ ?_ ?_ ?_ ?_))
    case _ => simpa [seaC] using hI
    case _ => simp
    case _ => simp
    case _ => simp
    case _ => simp
    case _ =>
      intro t w2 B2 h2
      have := fin _ _ _ _ (by simpa [seaC] using h2)
      simp [tupV, this.1]
      exact this.2
end Go.Proofs.YtimnfedgbkgdeaaGreatDoor.walk

namespace Go.Proofs.YtimnfedgbkgdeaaGreatDoor.walk
open Go Go.Sh
set_option maxRecDepth 100000
set_option linter.unusedSimpArgs false
set_option linter.unusedVariables false
/-! the specification's best number: pairs of a sum and a number -/
abbrev Prs := List (Int × Int)
def b2 (bt : Bool) (x n : Int) : Int := if bt = true then max x n else min x n
theorem b2_or (bt : Bool) (x n : Int) : b2 bt x n = x ∨ b2 bt x n = n := by unfold b2; split <;> omega
theorem b2_l (bt : Bool) (x n : Int) : btB bt x (b2 bt x n) = false := by cases bt <;> simp [btB, b2] <;> omega
theorem b2_r (bt : Bool) (x n : Int) : btB bt n (b2 bt x n) = false := by cases bt <;> simp [btB, b2] <;> omega
def updP (bt : Bool) : Prs → Int → Int → Prs
  | [], t, n => [(t, n)]
  | p :: l, t, n => if p.1 = t then (p.1, b2 bt p.2 n) :: l else p :: updP bt l t n
def foldE (bt : Bool) (es acc : Prs) : Prs := es.foldl (fun a e => updP bt a e.1 e.2) acc
theorem upd_keep (bt : Bool) {t n : Int} (t2 n2 : Int) : ∀ P : Prs, (t, n) ∈ P → ∃ n', (t, n') ∈ updP bt P t2 n2 ∧ btB bt n n' = false
  | p :: l, h => by
    unfold updP
    rcases List.mem_cons.1 h with rfl | h
    · by_cases e : t = t2
      · rw [if_pos e]; exact ⟨_, List.mem_cons_self .., b2_l bt n n2⟩
      · rw [if_neg e]; exact ⟨n, List.mem_cons_self .., bt_irr _ _⟩
    · obtain ⟨n', h1, h2⟩ := upd_keep bt t2 n2 l h
      by_cases e : p.1 = t2
      · rw [if_pos e]; exact ⟨n, List.mem_cons_of_mem _ h, bt_irr _ _⟩
      · rw [if_neg e]; exact ⟨n', List.mem_cons_of_mem _ h1, h2⟩
theorem upd_at (bt : Bool) (t n : Int) : ∀ P : Prs, ∃ n', (t, n') ∈ updP bt P t n ∧ btB bt n n' = false
  | [] => ⟨n, List.mem_singleton.2 rfl, bt_irr _ _⟩
  | p :: l => by
    unfold updP
    by_cases e : p.1 = t
    · rw [if_pos e]; exact ⟨_, by rw [e]; exact List.mem_cons_self .., b2_r bt p.2 n⟩
    · rw [if_neg e]
      obtain ⟨n', h1, h2⟩ := upd_at bt t n l
      exact ⟨n', List.mem_cons_of_mem _ h1, h2⟩
theorem upd_from (bt : Bool) (t n : Int) : ∀ (P : Prs) (q : Int × Int), q ∈ updP bt P t n → q ∈ P ∨ q = (t, n)
  | [], q, h => .inr (List.mem_singleton.1 h)
  | p :: l, q, h => by
    unfold updP at h
    by_cases e : p.1 = t
    · rw [if_pos e] at h
      rcases List.mem_cons.1 h with rfl | h
      · rcases b2_or bt p.2 n with h | h
        · left; rw [h]; exact List.mem_cons_self ..
        · right; rw [h, e]
      · exact .inl (List.mem_cons_of_mem _ h)
    · rw [if_neg e] at h
      rcases List.mem_cons.1 h with rfl | h
      · exact .inl (List.mem_cons_self ..)
      · rcases upd_from bt t n l q h with h | h
        · exact .inl (List.mem_cons_of_mem _ h)
        · exact .inr h
theorem foldE_keep (bt : Bool) : ∀ (es acc : Prs) {t n : Int}, (t, n) ∈ acc → ∃ n', (t, n') ∈ foldE bt es acc ∧ btB bt n n' = false
  | [], acc, t, n, h => ⟨n, h, bt_irr _ _⟩
  | e :: es, acc, t, n, h => by
    obtain ⟨n1, h1, h2⟩ := upd_keep bt e.1 e.2 acc h
    obtain ⟨n2, h3, h4⟩ := foldE_keep bt es (updP bt acc e.1 e.2) h1
    exact ⟨n2, h3, bt_trans h2 h4⟩
theorem foldE_at (bt : Bool) : ∀ (es acc : Prs) {t n : Int}, (t, n) ∈ es → ∃ n', (t, n') ∈ foldE bt es acc ∧ btB bt n n' = false
  | e :: es, acc, t, n, h => by
    rcases List.mem_cons.1 h with rfl | h
    · obtain ⟨n1, h1, h2⟩ := upd_at bt t n acc
      obtain ⟨n2, h3, h4⟩ := foldE_keep bt es (updP bt acc t n) h1
      exact ⟨n2, h3, bt_trans h2 h4⟩
    · exact foldE_at bt es (updP bt acc e.1 e.2) h
theorem foldE_from (bt : Bool) : ∀ (es acc : Prs) (q : Int × Int), q ∈ foldE bt es acc → q ∈ acc ∨ q ∈ es
  | [], acc, q, h => .inl h
  | e :: es, acc, q, h => by
    rcases foldE_from bt es (updP bt acc e.1 e.2) q h with h | h
    · rcases upd_from bt e.1 e.2 acc q h with h | h
      · exact .inl h
      · exact .inr (by rw [h]; exact List.mem_cons_self ..)
    · exact .inr (List.mem_cons_of_mem _ h)
theorem upd_keys (bt : Bool) (t n : Int) : ∀ P : Prs, (updP bt P t n).map (·.1) = if t ∈ P.map (·.1) then P.map (·.1) else P.map (·.1) ++ [t]
  | [] => by simp [updP]
  | p :: l => by
    unfold updP
    by_cases e : p.1 = t
    · rw [if_pos e]; simp [e]
    · rw [if_neg e, List.map_cons, upd_keys bt t n l]
      by_cases h : t ∈ l.map (·.1)
      · rw [if_pos h, if_pos (by rw [List.map_cons]; exact List.mem_cons_of_mem _ h)]; rfl
      · rw [if_neg h, if_neg (by rw [List.map_cons, List.mem_cons]; intro h2; rcases h2 with h2 | h2; exact e h2.symm; exact h h2)]; rfl
theorem upd_nodup (bt : Bool) (t n : Int) (P : Prs) (h : (P.map (·.1)).Nodup) : ((updP bt P t n).map (·.1)).Nodup := by
  rw [upd_keys]
  split
  · exact h
  · rename_i hn
    rw [List.nodup_append]
    refine ⟨h, by simp, fun a ha b hb => ?_⟩
    rw [List.mem_singleton.1 hb]
    intro e
    subst e
    exact hn ha
theorem foldE_nodup (bt : Bool) : ∀ (es acc : Prs), (acc.map (·.1)).Nodup → ((foldE bt es acc).map (·.1)).Nodup
  | [], acc, h => h
  | e :: es, acc, h => foldE_nodup bt es _ (upd_nodup bt e.1 e.2 acc h)
theorem nd_len : ∀ (N : Nat) (l : List Int), l.Nodup → (∀ x ∈ l, 0 ≤ x ∧ x < (N : Int)) → l.length ≤ N
  | 0, l, _, h => by
    cases l with
    | nil => exact Nat.le_refl _
    | cons x l => have := h x (List.mem_cons_self ..); omega
  | N + 1, l, hn, h => by
    have ih := nd_len N (l.erase (N : Int)) (hn.erase _) fun x hx => by
      have h1 := (hn.mem_erase_iff).1 hx
      have h2 := h x h1.2
      have := h1.1
      omega
    have := List.length_erase (a := (N : Int)) (l := l)
    split at this <;> omega
/-! where it is -/
theorem find_none {t : Int} : ∀ (P : Prs) (i : Nat), findAt t (P.map (·.1)) i < 0 → ∀ bt n, updP bt P t n = P ++ [(t, n)]
  | [], i, _, bt, n => rfl
  | p :: l, i, h, bt, n => by
    rw [List.map_cons, findAt] at h
    by_cases e : p.1 = t
    · rw [if_pos e] at h; omega
    · rw [if_neg e] at h
      unfold updP
      rw [if_neg e, find_none l (i + 1) h]; rfl
theorem find_at {t : Int} : ∀ (P : Prs) (i : Nat), 0 ≤ findAt t (P.map (·.1)) i → ∃ (j : Nat) (x : Int), findAt t (P.map (·.1)) i = ((i + j : Nat) : Int) ∧ j < P.length ∧ (P.map (·.2))[j]? = some x ∧ ∀ bt n, (updP bt P t n).map (·.1) = P.map (·.1) ∧ (updP bt P t n).map (·.2) = (P.map (·.2)).set j (b2 bt x n)
  | [], i, h => by simp [findAt] at h
  | p :: l, i, h => by
    rw [List.map_cons, findAt] at h ⊢
    by_cases e : p.1 = t
    · rw [if_pos e]
      refine ⟨0, p.2, rfl, by simp, rfl, fun bt n => ?_⟩
      unfold updP
      rw [if_pos e]
      exact ⟨rfl, rfl⟩
    · rw [if_neg e] at h ⊢
      obtain ⟨j, x, h1, h2, h3, h4⟩ := find_at l (i + 1) h
      refine ⟨j + 1, x, by rw [h1]; omega, by simpa using h2, by simpa using h3, fun bt n => ?_⟩
      unfold updP
      rw [if_neg e]
      have := h4 bt n
      exact ⟨by rw [List.map_cons, this.1], by rw [List.map_cons, this.2]; rfl⟩
end Go.Proofs.YtimnfedgbkgdeaaGreatDoor.walk

namespace Go.Proofs.YtimnfedgbkgdeaaGreatDoor.walk
open Go Go.Sh
set_option maxRecDepth 100000
set_option linter.unusedSimpArgs false
set_option linter.unusedVariables false
/-! the specification's pairs are those of all ways -/
theorem gvN_mem (s : Sea) (d : Day) (z : Int) (g : List Int) (x : Int) : ∀ k, x ∈ gvN s d z g k ↔ x ∈ g ∨ ∃ j : Nat, j < k ∧ x = heatI s (d.wl + (j : Nat)) 0 z
  | 0 => by simp [gvN]
  | k + 1 => by
    have ih := gvN_mem s d z g x k
    unfold gvN addN
    by_cases h : heatI s (d.wl + (k : Nat)) 0 z ∈ gvN s d z g k
    · rw [if_pos h, ih]
      constructor
      · rintro (h1 | ⟨j, h1, h2⟩)
        · exact .inl h1
        · exact .inr ⟨j, by omega, h2⟩
      · rintro (h1 | ⟨j, h1, h2⟩)
        · exact .inl h1
        · by_cases e : j = k
          · subst e
            rw [← h2] at h
            exact ih.1 h
          · exact .inr ⟨j, by omega, h2⟩
    · rw [if_neg h, List.mem_append, ih, List.mem_singleton]
      constructor
      · rintro ((h1 | ⟨j, h1, h2⟩) | h1)
        · exact .inl h1
        · exact .inr ⟨j, by omega, h2⟩
        · exact .inr ⟨k, by omega, h1⟩
      · rintro (h1 | ⟨j, h1, h2⟩)
        · exact .inl (.inl h1)
        · by_cases e : j = k
          · subst e; exact .inr h2
          · exact .inl (.inr ⟨j, by omega, h2⟩)
theorem gvL_mem {s : Sea} {d : Day} {z : Int} (hd : dayB d = true) (hwet : 0 ≤ s.wet) (x : Int) : x ∈ gvL s d z ↔ x ∈ hsL s d z := by
  simp only [dayB, spanB, Bool.and_eq_true, decide_eq_true_eq] at hd
  unfold gvL hsL
  rw [gvN_mem, List.mem_append]
  by_cases hw : d.rl ≤ s.wet
  · rw [if_pos hw]
    have e : ∀ a, heatI s a 0 z = heatI s a d.rl z := fun a => by unfold heatI; rw [if_neg (by omega), if_neg (by omega)]
    constructor
    · rintro (h | ⟨j, h1, h2⟩)
      · exact .inl h
      · right; rw [h2, e]; exact hsN_mem s d z _ _ h1
    · rintro (h | h)
      · exact .inl h
      · obtain ⟨j, h1, h2⟩ := hsN_of s d z _ x h
        exact .inr ⟨j, h1, by rw [h2, e]⟩
  · rw [if_neg hw, if_pos (by omega)]
    constructor
    · rintro (h | ⟨j, h1, _⟩)
      · exact .inl h
      · omega
    · rintro (h | h)
      · exact .inl h
      · obtain ⟨j, h1, h2⟩ := hsN_of s d z _ x h
        left
        rw [h2]
        unfold heatI
        rw [if_pos (by omega)]
        exact List.mem_singleton.2 rfl
def gvH (s : Sea) (l : List Day) (S : List Int) (i : Nat) : List Int := match l[i]?, S[i]? with | some d, some z => gvL s d z | _, _ => []
theorem gvH_mem {s : Sea} {l : List Day} {c : List Int} (hE : seaE s l c = 0) (i h : Nat) : ((h : Nat) : Int) ∈ gvH s l (shL s c l.length) i ↔ h ∈ HsF s l (shL s c l.length) i := by
  obtain ⟨f1, f2⟩ := sea_facts hE
  have hwet : 0 ≤ s.wet := by
    have := (sea_zero hE).2.2.2.2
    simp only [inI, Bool.and_eq_true, decide_eq_true_eq] at this
    exact this.1
  by_cases hi : i < l.length
  · have hd : l[i]? = some l[i] := List.getElem?_eq_getElem hi
    have hz := shL_at s c l.length i hi
    have e : gvH s l (shL s c l.length) i = gvL s l[i] (shB s c (i + 1)) := by unfold gvH; rw [hd, hz]
    rw [e, HsF_eq hd hz, gvL_mem (f2 i _ hd) hwet]
    unfold heatsN
    rw [List.mem_map]
    constructor
    · intro h; exact ⟨_, h, by simp⟩
    · rintro ⟨x, h1, h2⟩
      have := hs_bd (fun a => f1 i _ _ a hd hz) x h1
      rw [← h2, show ((x.toNat : Nat) : Int) = x by omega]; exact h1
  · have hd : l[i]? = none := List.getElem?_eq_none (by omega)
    have e1 : gvH s l (shL s c l.length) i = [] := by unfold gvH; rw [hd]
    have e2 : HsF s l (shL s c l.length) i = [] := by unfold HsF; rw [hd]
    rw [e1, e2]; simp
theorem gvH_nn {s : Sea} {l : List Day} {c : List Int} (hE : seaE s l c = 0) (i : Nat) : ∀ x ∈ gvH s l (shL s c l.length) i, 0 ≤ x ∧ x ≤ 50 := by
  obtain ⟨f1, f2⟩ := sea_facts hE
  have hwet : 0 ≤ s.wet := by
    have := (sea_zero hE).2.2.2.2
    simp only [inI, Bool.and_eq_true, decide_eq_true_eq] at this
    exact this.1
  intro x hx
  unfold gvH at hx
  split at hx
  · rename_i d z hd hz
    rw [gvL_mem (f2 i d hd) hwet] at hx
    exact hs_bd (fun a => f1 i d z a hd hz) x hx
  · simp at hx
def esN (rs : List Rac) (back : Int) (G : List Int) (P : Prs) : Prs := P.flatMap fun p => G.map fun h => (max 0 p.1 + h, p.2 + adS rs p.1 (max 0 p.1 + h) back rs.length)
def PdS (bt : Bool) (rs : List Rac) (D : Nat) (G : Nat → List Int) : Nat → Prs
  | 0 => [(-1, 0)]
  | i + 1 => foldE bt (esN rs ((D : Int) - (i : Nat)) (G i) (PdS bt rs D G i)) []
def keyI (d u : Nat) : Int := if d = 0 then -1 else (u : Nat)
theorem ad_key {rs : List Rac} (hr : racB rs = true) {D i u h : Nat} (hi : i ≤ D) (hu : i = 0 → u = 0) : max 0 (keyI i u) + (h : Int) = ((u + h : Nat) : Int) ∧ adS rs (keyI i u) (max 0 (keyI i u) + (h : Int)) ((D : Int) - (i : Nat)) rs.length = adI rs D i u h := by
  have e : max 0 (keyI i u) = (u : Int) := by
    unfold keyI
    by_cases h0 : i = 0
    · rw [if_pos h0, hu h0]; rfl
    · rw [if_neg h0]; omega
  rw [e]
  exact ⟨by omega, adS_eq hr D i u h hi hu⟩
theorem sum0 (p : Nat → Nat) (i : Nat) : i = 0 → sumP p i = 0 := fun h => by subst h; rfl
theorem way_in {bt : Bool} {s : Sea} {l : List Day} {c : List Int} {rs : List Rac} (hE : seaE s l c = 0) (hr : racB rs = true) {D : Nat} {p : Nat → Nat} : ∀ d, d ≤ D + 1 → (∀ i, i < d → p i ∈ HsF s l (shL s c l.length) i) → ∃ n, (keyI d (sumP p d), n) ∈ PdS bt rs D (gvH s l (shL s c l.length)) d ∧ btB bt (cntP (adI rs D) p d) n = false
  | 0, _, _ => ⟨0, List.mem_singleton.2 rfl, bt_irr _ _⟩
  | d + 1, hd, hp => by
    obtain ⟨b, h1, h2⟩ := way_in (bt := bt) (D := D) hE hr d (by omega) fun i hi => hp i (by omega)
    obtain ⟨e1, e2⟩ := ad_key hr (D := D) (i := d) (u := sumP p d) (h := p d) (by omega) (sum0 p d)
    have hm : (keyI (d + 1) (sumP p (d + 1)), b + adI rs D d (sumP p d) (p d)) ∈ esN rs ((D : Int) - (d : Nat)) (gvH s l (shL s c l.length) d) (PdS bt rs D (gvH s l (shL s c l.length)) d) := by
      unfold esN
      rw [List.mem_flatMap]
      refine ⟨_, h1, List.mem_map.2 ⟨(p d : Nat), (gvH_mem hE d (p d)).2 (hp d (by omega)), ?_⟩⟩
      show (max 0 (keyI d (sumP p d)) + ((p d : Nat) : Int), b + adS rs (keyI d (sumP p d)) (max 0 (keyI d (sumP p d)) + ((p d : Nat) : Int)) ((D : Int) - (d : Nat)) rs.length) = _
      rw [e2, e1]
      unfold keyI
      rw [if_neg (Nat.succ_ne_zero d)]
      rfl
    obtain ⟨n, h3, h4⟩ := foldE_at bt _ [] hm
    exact ⟨n, h3, bt_trans (bt_add _ h2) h4⟩
theorem way_of {bt : Bool} {s : Sea} {l : List Day} {c : List Int} {rs : List Rac} (hE : seaE s l c = 0) (hr : racB rs = true) {D : Nat} : ∀ d, d ≤ D + 1 → ∀ k n, (k, n) ∈ PdS bt rs D (gvH s l (shL s c l.length)) d → ∃ p : Nat → Nat, (∀ i, i < d → p i ∈ HsF s l (shL s c l.length) i) ∧ k = keyI d (sumP p d) ∧ cntP (adI rs D) p d = n
  | 0, _, k, n, h => by
    have h := List.mem_singleton.1 h
    cases h
    exact ⟨fun _ => 0, fun i hi => by omega, rfl, rfl⟩
  | d + 1, hd, k, n, h => by
    rcases foldE_from bt _ [] (k, n) h with h | h
    · cases h
    · unfold esN at h
      rw [List.mem_flatMap] at h
      obtain ⟨⟨k0, b⟩, h1, h⟩ := h
      obtain ⟨x, hx, hq⟩ := List.mem_map.1 h
      obtain ⟨p, h2, rfl, rfl⟩ := way_of (bt := bt) (D := D) hE hr d (by omega) k0 b h1
      have hnn := gvH_nn hE d x hx
      obtain ⟨y, rfl⟩ := Int.eq_ofNat_of_zero_le hnn.1
      obtain ⟨e1, e2⟩ := ad_key hr (D := D) (i := d) (u := sumP p d) (h := y) (by omega) (sum0 p d)
      have hq' : (max 0 (keyI d (sumP p d)) + ((y : Nat) : Int), cntP (adI rs D) p d + adS rs (keyI d (sumP p d)) (max 0 (keyI d (sumP p d)) + ((y : Nat) : Int)) ((D : Int) - (d : Nat)) rs.length) = (k, n) := hq
      rw [e2, e1] at hq'
      cases hq'
      have hqe : ∀ i, i < d → (fun i => if i = d then y else p i) i = p i := fun i hi => by show (if i = d then y else p i) = p i; rw [if_neg (by omega)]
      have hy : (fun i => if i = d then y else p i) d = y := by show (if d = d then y else p d) = y; rw [if_pos rfl]
      refine ⟨fun i => if i = d then y else p i, fun i hi => ?_, ?_, ?_⟩
      · by_cases e : i = d
        · subst e; rw [hy]; exact (gvH_mem hE _ y).1 hx
        · rw [hqe i (by omega)]; exact h2 i (by omega)
      · unfold keyI
        rw [if_neg (Nat.succ_ne_zero d), sumP, sum_congr d hqe, if_pos rfl]
      · rw [cntP, cnt_congr d hqe, sum_congr d hqe, if_pos rfl]
def bstL (bt : Bool) (B : List Int) : Int := B.foldl (b2 bt) (B.headD 0)
theorem fold_b2 (bt : Bool) : ∀ (B : List Int) (x : Int), btB bt x (B.foldl (b2 bt) x) = false ∧ (∀ y ∈ B, btB bt y (B.foldl (b2 bt) x) = false) ∧ (B.foldl (b2 bt) x = x ∨ B.foldl (b2 bt) x ∈ B)
  | [], x => ⟨bt_irr _ _, by simp, .inl rfl⟩
  | y :: B, x => by
    obtain ⟨h1, h2, h3⟩ := fold_b2 bt B (b2 bt x y)
    rw [List.foldl_cons]
    refine ⟨bt_trans (b2_l bt x y) h1, fun w hw => ?_, ?_⟩
    · rcases List.mem_cons.1 hw with rfl | hw
      · exact bt_trans (b2_r bt x w) h1
      · exact h2 w hw
    · rcases h3 with h3 | h3
      · rw [h3]
        rcases b2_or bt x y with h | h
        · exact .inl h
        · rw [h]; exact .inr (List.mem_cons_self ..)
      · exact .inr (List.mem_cons_of_mem _ h3)
theorem end_eq {s : Sea} {l : List Day} {c : List Int} {rs : List Rac} (hE : seaE s l c = 0) (hr : racB rs = true) (bt : Bool) {D : Nat} (hD : D < l.length) : bstL bt ((PdS bt rs D (gvH s l (shL s c l.length)) (D + 1)).map (·.2)) = flG s l c rs bt D := by
  have h40 := (days_len (sea_zero hE).1).2
  obtain ⟨p, h1, h2⟩ := best_from (bt := bt) (ad := adI rs D) (HsF_bd hE) (d := D + 1) (by omega) (fun i hi => HsF_ne hE (by omega))
  obtain ⟨n, h3, h4⟩ := way_in (bt := bt) hE hr (D := D) (D + 1) (Nat.le_refl _) h1
  rw [h2] at h4
  obtain ⟨B, hB⟩ : ∃ B, B = (PdS bt rs D (gvH s l (shL s c l.length)) (D + 1)).map (·.2) := ⟨_, rfl⟩
  have hn : n ∈ B := by rw [hB]; exact List.mem_map.2 ⟨_, h3, rfl⟩
  rw [← hB]
  obtain ⟨g1, g2, g3⟩ := fold_b2 bt B (B.headD 0)
  have hmem : bstL bt B ∈ B := by
    unfold bstL
    rcases g3 with g3 | g3
    · rw [g3]
      cases B with
      | nil => simp at hn
      | cons x B => exact List.mem_cons_self ..
    · exact g3
  have a1 := bt_trans h4 (g2 n hn)
  rw [hB] at hmem
  obtain ⟨⟨k, m⟩, q1, q2⟩ := List.mem_map.1 hmem
  obtain ⟨p', p1, _, p3⟩ := way_of hE hr (D := D) (D + 1) (Nat.le_refl _) k m q1
  have a2 := best_at (bt := bt) (ad := adI rs D) (HsF_bd hE) (d := D + 1) (by omega) p1
  rw [p3] at a2
  rw [← hB] at q2
  have q2' : m = bstL bt B := q2
  rw [q2'] at a2
  have a1' : btB bt (flG s l c rs bt D) (bstL bt B) = false := a1
  have a2' : btB bt (bstL bt B) (flG s l c rs bt D) = false := a2
  cases bt <;> simp [btB] at a1' a2' <;> omega
end Go.Proofs.YtimnfedgbkgdeaaGreatDoor.walk
