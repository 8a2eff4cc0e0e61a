/- Part of a proof by a machine of ones own: see the text with the theorem. -/
import Derived.Test.YthfidomphkednaaAWc
namespace Go.Proofs.Ythfidomphkednaa.walk
open Go Go.Sh
set_option maxRecDepth 100000
set_option linter.unusedSimpArgs false
set_option linter.unusedVariables false
/-! the law's own small functions -/
def S30 : PSpec where
  R args w v := ∃ (pv dv : Value) (ps : List Pt) (ds : List Dt), args = [.agg ⟨[pv, dv]⟩] ∧ LedV w pv dv ps ds ∧ v = .bool (decide (chE ps ds = 0))
  uniq := by
    rintro _ _ _ _ ⟨pv, dv, ps, ds, rfl, h1, rfl⟩ ⟨pv', dv', ps', ds', h, k1, rfl⟩
    simp only [List.cons.injEq, Value.agg.injEq, Array.mk.injEq, and_true] at h
    obtain ⟨rfl, rfl⟩ := h
    rw [h1.uniqP k1, h1.uniqD k1]
  shut := by
    rintro _ _ _ ⟨pv, dv, ps, ds, h1, h2, h3⟩
    exact ⟨pv, dv, ps, ds, h1, h2.shut, h3⟩
theorem run30 {ov : Ov} (ho : ∀ args w, ov 30 args w = none) (h17 : HasP ov 17 S17.F) (h32 : HasP ov 32 S32.F) (pv dv : Value) (ps : List Pt) (ds : List Dt) (w : AW) (hl : w.lim = w.next) (hL : LedV w pv dv ps ds) : ∃ v w', (run Try.prog ov 2).call 30 [.agg ⟨[pv, dv]⟩] w .none = .ok (.ret v) w' .none ∧ v = .bool (decide (chE ps ds = 0)) := by
  refine call_wp text30 (by simp) (ho _ _) ?_
  have hl22 := fun w2 => len22V (w' := w2) hL.p
  have hl23 := fun w2 => len23V (w' := w2) hL.d
  obtain ⟨w1, hw1⟩ : ∃ w1, w1 = (⟨w.heap.put w.next (some (.cells [pv, dv] 25 false)), w.next + 1, w.lim⟩ : AW) := ⟨_, rfl⟩
  have u1 : Up w w1 := hw1 ▸ (Up.refl w).add _
  have n1 : w1.next = w.next + 1 := by rw [hw1]
  have m1 : w1.lim = w.lim := by rw [hw1]
  have g1 : w1.heap.get w.next = some (.cells [pv, dv] 25 false) := by rw [hw1]; simp
  have r17 := S17.call1 (P := Try.prog) h17 ⟨pv, dv, ps, ds, rfl, hL.up u1, rfl⟩
  have r32 := fun n a b w => S32.call1 (P := Try.prog) h32 (w := w) ⟨n, a, b, rfl, rfl⟩
  by_cases hC : chE ps ds = 0
  case neg =>
    rw [hw1] at r17
    simp [mc30, cellsOf_agg, r17, hC]
    refine wp_seqX (wp_blockX (wp_rounds (fun i t w' => tget t 3 = .bool false) 2 (by decide) (by simp) ?_))
    intro i t w' t3
    simp [mc30_l0, t3, tupV]
  case pos =>
    have hO := ch_lk hC
    have h8 := hO.n8
    have h16 := hO.d16
    have hn1 := hO.n1
    have ei : inI 1 (ps.length : Nat) 8 = true := by simp only [inI, Bool.and_eq_true, decide_eq_true_eq]; omega
    have e16 : (ds.length : Int) ≤ 16 := by omega
    rw [hC, hw1] at r17
    simp [mc30, cellsOf_agg, r17, hC, hl22, hl23, r32, ei, e16]
    rw [← hw1]
    refine wp_seqX (wp_blockX (wp_rounds (fun i t w' => Up w1 w' ∧ tget t 1 = .pointer (some ⟨w.next, 0, none⟩) ∧ tget t 3 = .bool true ∧ tget t 4 = .int .i64 (i : Nat) ∧ i ≤ ds.length) 20 (by decide) ⟨Up.refl _, by simp, by simp, by simp, Nat.zero_le _⟩ ?_))
    rintro i t w' ⟨hu, t1, t3, t4, hi⟩
    have hlm := hu.lim
    have hnx := hu.next
    have g := hu.at (b := w.next) (by omega)
    rw [g1] at g
    by_cases hlt : i < ds.length
    · obtain ⟨d, hd⟩ : ∃ e, ds[i]? = some e := ⟨_, List.getElem?_eq_getElem hlt⟩
      obtain ⟨b, off, sq, c, rfl, hra⟩ := (hL.up (u1.trans hu)).d.at_ i hlt
      have hld := hra.rd dtC_length hd
      have hia := fun w => ia23 w ⟨b, off, sq⟩ ds.length c .i64 i hlt
      have hdb := hO.debt d (List.mem_of_getElem? hd)
      obtain ⟨df, dt, dc⟩ := d
      simp only [dtC] at hld
      simp only at hdb
      have q0 : ¬ w.next = w'.next := by omega
      have q5 : w'.lim ≤ w'.next := by omega
      have hw1' : IntKind.wrap .i64 ((i : Int) + 1) = (i : Int) + 1 := wrap64_in (by omega) (by omega)
      have hw2' : IntKind.wrap .i64 ((ps.length : Int) - 1) = (ps.length : Int) - 1 := wrap64_in (by omega) (by omega)
      have k1 : inI 0 df ((ps.length : Int) - 1) = true := by simp only [inI, Bool.and_eq_true, decide_eq_true_eq]; omega
      have k2 : inI 0 dt ((ps.length : Int) - 1) = true := by simp only [inI, Bool.and_eq_true, decide_eq_true_eq]; omega
      have k3 : inI 1 dc 100000 = true := by simp only [inI, Bool.and_eq_true, decide_eq_true_eq]; omega
      simp [mc30_l0, t1, t3, t4, g, hl22, hl23, hlt, hia, hld, q0, q5, r32, k1, k2, k3, hw1', hw2']
      exact ⟨by omega, (hu.add _).put hu.next (Nat.le_refl _), hlt⟩
    · have hi' : i = ds.length := by omega
      subst hi'
      simp [mc30_l0, t1, t3, t4, g, hl23, tupV]
/-! rows that are made and written into -/
def lsC (n : Nat) (x : Int → Int) : List Value := (List.range n).map fun (k : Nat) => .int .i64 (x (k : Int))
@[simp] theorem lsC_len (n : Nat) (x : Int → Int) : (lsC n x).length = n := by simp [lsC]
@[simp] theorem lsC_getE (n : Nat) (x : Int → Int) {k : Nat} (h : k < (lsC n x).length) : (lsC n x)[k] = .int .i64 (x (k : Int)) := by simp [lsC]
end Go.Proofs.Ythfidomphkednaa.walk

namespace Go.Proofs.Ythfidomphkednaa.walk
open Go Go.Sh
set_option maxRecDepth 100000
set_option linter.unusedSimpArgs false
set_option linter.unusedVariables false
/-! CreditSettled -/
def HasW (ov : Ov) : Prop := ∀ w, ov 19 [] w = some (.ok (.ret (.bool true)) w .none)
theorem ruleW {ov : Ov} (h : HasW ov) (m : Nat) (w : AW) : (run Try.prog ov (m + 1)).call 19 [] w .none = .ok (.ret (.bool true)) w .none := by
  show stepO Try.prog (run Try.prog ov m) 19 [] w .none (ov 19 [] w) = _
  rw [h w]; rfl
theorem st_out {ps : List Pt} {ds : List Dt} (hk : LK ps ds) {p : Int} (hp : p < 0 ∨ (ps.length : Int) ≤ p) : stF ps ds p = 0 := by
  have h1 := hk.ow_out hp
  have h2 := st_rng hk p
  omega
end Go.Proofs.Ythfidomphkednaa.walk

namespace Go.Proofs.Ythfidomphkednaa.walk
open Go Go.Sh
set_option maxRecDepth 100000
set_option linter.unusedSimpArgs false
set_option linter.unusedVariables false
/-! what is left -/
structure J51 (pv dv : Value) (ds : List Dt) (y : Int → Int) (p : Int) (n2 n3 b5 c6 L : Nat) (lp : ALoop) (x : Int → Int) (w : AW) : Prop where
  g2 : w.heap.get n2 = some (.cells (pv :: dv :: arC (owD ds)) 63 false)
  g3 : w.heap.get n3 = some (.cells (arC y) 61 false)
  g5 : w.heap.get b5 = some (.cells (arC x) 61 false)
  g6 : w.heap.get c6 = some (.cells [.int .i64 p] 3 false)
  lo : w.heap.get L = some (.loop lp)
  ord : w.lim ≤ b5 ∧ n2 < n3 ∧ n3 < b5 ∧ b5 < c6 ∧ c6 < L ∧ L < w.next
theorem J51.stay {pv dv : Value} {ds : List Dt} {y : Int → Int} {p : Int} {n2 n3 b5 c6 L : Nat} {lp : ALoop} (x : Int → Int) (w w' : AW) (h : J51 pv dv ds y p n2 n3 b5 c6 L lp x w) (k : ∀ x, x < w.next → w'.heap.get x = w.heap.get x) (hn : w.next ≤ w'.next) (hl : w'.lim = w.lim) : J51 pv dv ds y p n2 n3 b5 c6 L lp x w' := by
  obtain ⟨h1, h2, h3, h4, h5, o1, o2, o3, o4, o5, o6⟩ := h
  exact ⟨by rw [k _ (by omega)]; exact h1, by rw [k _ (by omega)]; exact h2, by rw [k _ (by omega)]; exact h3, by rw [k _ (by omega)]; exact h4, by rw [k _ (by omega)]; exact h5, by omega, o2, o3, o4, o5, by omega⟩
end Go.Proofs.Ythfidomphkednaa.walk

namespace Go.Proofs.Ythfidomphkednaa.walk
open Go Go.Sh
set_option maxRecDepth 100000
set_option linter.unusedSimpArgs false
set_option linter.unusedVariables false
end Go.Proofs.Ythfidomphkednaa.walk

namespace Go.Proofs.Ythfidomphkednaa.walk
open Go Go.Sh
set_option maxRecDepth 100000
set_option linter.unusedSimpArgs false
set_option linter.unusedVariables false
/-! Left, Short -/
noncomputable def shB (ps : List Pt) (ds : List Dt) (i : Nat) : Bool := decide (stF ps ds (i : Int) < owD ds (i : Int))
noncomputable def shP (ps : List Pt) (ds : List Dt) (i : Nat) : List Int := ((List.range i).filter (shB ps ds)).map fun (k : Nat) => (k : Int)
theorem shP_yes {ps : List Pt} {ds : List Dt} {i : Nat} (h : shB ps ds i = true) : shP ps ds (i + 1) = shP ps ds i ++ [(i : Int)] := by
  unfold shP; rw [List.range_succ, List.filter_append, List.map_append]; simp [h]
theorem shP_no {ps : List Pt} {ds : List Dt} {i : Nat} (h : shB ps ds i = false) : shP ps ds (i + 1) = shP ps ds i := by
  unfold shP; rw [List.range_succ, List.filter_append, List.map_append]; simp [h]
theorem shP_len (ps : List Pt) (ds : List Dt) (i : Nat) : (shP ps ds i).length ≤ i := by
  unfold shP; rw [List.length_map]
  have := List.length_filter_le (shB ps ds) (List.range i)
  rwa [List.length_range] at this
theorem call52 {ov : Ov} (m : Nat) (ho : ∀ args w, ov 52 args w = none) (h49 : HasP ov 49 S49.F) (pv dv : Value) (ps : List Pt) (ds : List Dt) (w : AW) (hl : w.lim ≤ w.next) (hL : LedV w pv dv ps ds) (hk : LK ps ds) :
    ∃ v w', (run Try.prog ov (m + 2)).call 52 [.agg ⟨l63 pv dv (owD ds)⟩] w .none = .ok (.ret v) w' .none ∧ RowsV intC w' v (shP ps ds ps.length) ∧ Up w w' ∧ notJunk v = some v := by
  refine call_wp text52 (by simp) (ho _ _) ?_
  have hl22 := fun w2 => len22V (w' := w2) hL.p
  have h8 := hk.n8
  obtain ⟨w1, hw1⟩ : ∃ w1, w1 = (⟨w.heap.put w.next (some (.cells (pv :: dv :: arC (owD ds)) 63 false)), w.next + 1, w.lim⟩ : AW) := ⟨_, rfl⟩
  have u1 : Up w w1 := hw1 ▸ (Up.refl w).add _
  have r49 := S49.call (P := Try.prog) h49 (m := m) (w := w1) ⟨pv, dv, ps, ds, rfl, hL.up u1, hk, rfl⟩
  obtain ⟨w2, hw2⟩ : ∃ w2, w2 = (⟨(w1.heap.put (w.next + 1) (some (.cells (arC fun _ => 0) 61 false))).put (w.next + 1) (some (.cells (arC (stF ps ds)) 61 false)), w.next + 1 + 1, w.lim⟩ : AW) := ⟨_, rfl⟩
  have u2 : Up w w2 := by
    rw [hw2, hw1]
    exact (((Up.refl w).put (Nat.le_refl _) (Nat.le_refl _)).put (Nat.le_succ _) (Nat.le_refl _)).put (Nat.le_succ _) (by omega)
  have n2 : w2.next = w.next + 1 + 1 := by rw [hw2]
  have m2 : w2.lim = w.lim := by rw [hw2]
  have a1 : w2.heap.get w.next = some (.cells (pv :: dv :: arC (owD ds)) 63 false) := by rw [hw2, hw1]; simp
  have a4 : w2.heap.get (w.next + 1) = some (.cells (arC (stF ps ds)) 61 false) := by rw [hw2]; simp
  have hle : w.lim ≤ w.next + 1 := by omega
  rw [hw1] at r49 hw2
  simp only [l63] at r49
  simp [mc52, cellsOf_agg, l63, al61', -al61, r49, arC_drop, hle, hl22]
  rw [← hw2]
  refine wp_seqX (wp_blockX (wp_rounds (fun i t w' => Up w2 w' ∧ (∃ B, AccQ intC 3 (w.next + 1) w' (tget t 3) (shP ps ds i) B) ∧ tget t 1 = .pointer (some ⟨w.next, 0, none⟩) ∧ tget t 4 = .pointer (some ⟨w.next + 1, 0, none⟩) ∧ tget t 11 = .int .i64 (ps.length : Nat) ∧ tget t 12 = .int .i64 (i : Nat) ∧ i ≤ ps.length) 20 (by decide) ⟨Up.refl _, ⟨0, .inl ⟨by simp [shP], by simp⟩⟩, by simp, by simp, by simp, by simp, Nat.zero_le _⟩ ?_))
  rintro i t w' ⟨hu, ⟨B, hacc⟩, t1, t4, t11, t12, hi⟩
  have hw1' : IntKind.wrap .i64 ((i : Int) + 1) = (i : Int) + 1 := wrap64_in (by omega) (by omega)
  have hlm := hu.lim
  have hnx := hu.next
  by_cases hlt : i < ps.length
  · have b1 := hu.at (b := w.next) (by omega)
    rw [a1] at b1
    have b4 := hu.at (b := w.next + 1) (by omega)
    rw [a4] at b4
    have hi8 : i < 8 := by omega
    have hia6 := fun w a => ia61 w a .i64 hi8
    have hgt := arC_get (stF ps ds) hi8
    have hgo := l63_at pv dv (owD ds) hi8
    have hb : shB ps ds i = decide (stF ps ds (i : Int) < owD ds (i : Int)) := rfl
    obtain ⟨S, hS⟩ : ∃ S, S = stF ps ds (i : Int) := ⟨_, rfl⟩
    obtain ⟨O, hO⟩ : ∃ S, S = owD ds (i : Int) := ⟨_, rfl⟩
    rw [← hS] at hgt hb
    rw [← hO] at hgo hb
    by_cases hc : S < O
    · rw [decide_eq_true hc] at hb
      have hst := shP_yes hb
      obtain ⟨v', w4, hap, ⟨B', hB', hacc'⟩, hkp, hn4, hl4⟩ := AccQ.push (P := Try.prog) (st := 26) (sz := 1) list26 elem26 size3 small3 intC_length (fun _ => by simp [intC]) (by decide) hacc (by omega) (by omega) (by have := shP_len ps ds i; omega) (i : Int)
      rw [← hst] at hacc'
      simp only [intC] at hap
      simp [mc52_l0, t1, t4, t11, t12, hlt, b1, b4, hia6, hgt, hgo, hS.symm, hO.symm, hc, hap, hw1']
      exact ⟨by omega, ⟨fun x hx => by rw [hkp x (by omega) (fun hne => by have := hacc.lt hne; omega)]; exact hu.at hx, by omega, by omega⟩, ⟨B', hacc'⟩, hlt⟩
    · rw [decide_eq_false hc] at hb
      have hst := shP_no hb
      rw [← hst] at hacc
      simp [mc52_l0, t1, t4, t11, t12, hlt, b1, b4, hia6, hgt, hgo, hS.symm, hO.symm, hc, hw1']
      exact ⟨by omega, hu, ⟨B, hacc⟩, hlt⟩
  · have hi' : i = ps.length := by omega
    subst hi'
    have hok := hacc.ok
    simp [mc52_l0, t11, t12, hok, tupV]
    exact ⟨hacc.rows, u2.trans hu⟩
noncomputable def shL (ps : List Pt) (ds : List Dt) : List Int := if chE ps ds = 0 then shP ps ds ps.length else []
theorem call24 {ov : Ov} (m : Nat) (ho24 : ∀ args w, ov 24 args w = none) (ho40 : ∀ args w, ov 40 args w = none) (ho61 : ∀ args w, ov 61 args w = none) (ho74 : ∀ args w, ov 74 args w = none) (ho52 : ∀ args w, ov 52 args w = none) (h62 : HasP ov 62 S62.F) (h17 : HasP ov 17 S17.F) (h49 : HasP ov 49 S49.F)
    (pv dv : Value) (ps : List Pt) (ds : List Dt) (w : AW) (hl : w.lim ≤ w.next) (hL : LedV w pv dv ps ds) :
    ∃ v w', (run Try.prog ov (m + 4)).call 24 [.agg ⟨[pv, dv]⟩] w .none = .ok (.ret v) w' .none ∧ ∃ v1, v = .tuple ⟨[v1, .int .i64 (chE ps ds)]⟩ ∧ RowsV intC w' v1 (shL ps ds) ∧ Up w w' := by
  refine call_wp text24 (by simp) (ho24 _ _) ?_
  have nn : notJunk (.slice none 0 0) = some (.slice none 0 0) := rfl
  obtain ⟨w1, hw1⟩ : ∃ w1, w1 = (⟨w.heap.put w.next (some (.cells [pv, dv] 25 false)), w.next + 1, w.lim⟩ : AW) := ⟨_, rfl⟩
  have u1 : Up w w1 := hw1 ▸ (Up.refl w).add _
  have n1 : w1.next = w.next + 1 := by rw [hw1]
  have m1 : w1.lim = w.lim := by rw [hw1]
  have r17 := S17.call (P := Try.prog) h17 (m := m + 2) ⟨pv, dv, ps, ds, rfl, hL.up u1, rfl⟩
  by_cases hC : chE ps ds = 0
  case neg =>
    have e2 : shL ps ds = [] := by unfold shL; rw [if_neg hC]
    rw [hw1] at r17
    simp [mc24, cellsOf_agg, r17, hC, nn, tupV, e2]
    rw [hw1] at u1
    exact ⟨.inl ⟨rfl, _, _, rfl⟩, u1⟩
  case pos =>
    have hO := ch_lk hC
    have hk : LK ps ds := hO.up (by decide)
    rw [hC] at r17
    obtain ⟨_, w2, c40, rfl, u2⟩ := call40 (ov := ov) m ho40 ho61 ho74 h62 pv dv ps ds w1 (by omega) (hL.up u1) hk
    have n2 := u2.next
    have m2 := u2.lim
    obtain ⟨v1, w3, c52, hr1, u3, j1⟩ := call52 (ov := ov) (m + 1) ho52 h49 pv dv ps ds w2 (by omega) (hL.up (u1.trans u2)) hk
    have e2 : shL ps ds = shP ps ds ps.length := by unfold shL; rw [if_pos hC]
    rw [hw1] at r17 c40
    simp only [l63] at c40 c52
    simp [mc24, cellsOf_agg, r17, c40, c52, j1, hC, tupV, e2]
    exact ⟨hr1, (u1.trans u2).trans u3⟩
end Go.Proofs.Ythfidomphkednaa.walk
