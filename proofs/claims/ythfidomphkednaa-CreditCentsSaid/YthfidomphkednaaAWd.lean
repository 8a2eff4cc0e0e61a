/- Part of a proof by a machine of ones own: see the text with the theorem. -/
import Derived.Test.YthfidomphkednaaAWc
namespace Go.Proofs.Ythfidomphkednaa.walk
open Go Go.Sh
set_option maxRecDepth 100000
set_option linter.unusedSimpArgs false
set_option linter.unusedVariables false
/-! the law's own small functions -/
def S30 : PSpec where
  R args w v := ∃ (pv dv : Value) (ps : List Pt) (ds : List Dt), args = [.agg ⟨[pv, dv]⟩] ∧ LedV w pv dv ps ds ∧ v = .bool (decide (chE ps ds = 0))
  uniq := by
    rintro _ _ _ _ ⟨pv, dv, ps, ds, rfl, h1, rfl⟩ ⟨pv', dv', ps', ds', h, k1, rfl⟩
    simp only [List.cons.injEq, Value.agg.injEq, Array.mk.injEq, and_true] at h
    obtain ⟨rfl, rfl⟩ := h
    rw [h1.uniqP k1, h1.uniqD k1]
  shut := by
    rintro _ _ _ ⟨pv, dv, ps, ds, h1, h2, h3⟩
    exact ⟨pv, dv, ps, ds, h1, h2.shut, h3⟩
theorem run30 {ov : Ov} (ho : ∀ args w, ov 30 args w = none) (h17 : HasP ov 17 S17.F) (h32 : HasP ov 32 S32.F) (pv dv : Value) (ps : List Pt) (ds : List Dt) (w : AW) (hl : w.lim = w.next) (hL : LedV w pv dv ps ds) : ∃ v w', (run Try.prog ov 2).call 30 [.agg ⟨[pv, dv]⟩] w .none = .ok (.ret v) w' .none ∧ v = .bool (decide (chE ps ds = 0)) := by
  refine call_wp text30 (by simp) (ho _ _) ?_
  have hl22 := fun w2 => len22V (w' := w2) hL.p
  have hl23 := fun w2 => len23V (w' := w2) hL.d
  obtain ⟨w1, hw1⟩ : ∃ w1, w1 = (⟨w.heap.put w.next (some (.cells [pv, dv] 25 false)), w.next + 1, w.lim⟩ : AW) := ⟨_, rfl⟩
  have u1 : Up w w1 := hw1 ▸ (Up.refl w).add _
  have n1 : w1.next = w.next + 1 := by rw [hw1]
  have m1 : w1.lim = w.lim := by rw [hw1]
  have g1 : w1.heap.get w.next = some (.cells [pv, dv] 25 false) := by rw [hw1]; simp
  have r17 := S17.call1 (P := Try.prog) h17 ⟨pv, dv, ps, ds, rfl, hL.up u1, rfl⟩
  have r32 := fun n a b w => S32.call1 (P := Try.prog) h32 (w := w) ⟨n, a, b, rfl, rfl⟩
  by_cases hC : chE ps ds = 0
  case neg =>
    rw [hw1] at r17
    simp [mc30, cellsOf_agg, r17, hC]
    refine wp_seqX (wp_blockX (wp_rounds (fun i t w' => tget t 3 = .bool false) 2 (by decide) (by simp) ?_))
    intro i t w' t3
    simp [mc30_l0, t3, tupV]
  case pos =>
    have hO := ch_lk hC
    have h8 := hO.n8
    have h16 := hO.d16
    have hn1 := hO.n1
    have ei : inI 1 (ps.length : Nat) 8 = true := by simp only [inI, Bool.and_eq_true, decide_eq_true_eq]; omega
    have e16 : (ds.length : Int) ≤ 16 := by omega
    rw [hC, hw1] at r17
    simp [mc30, cellsOf_agg, r17, hC, hl22, hl23, r32, ei, e16]
    rw [← hw1]
    refine wp_seqX (wp_blockX (wp_rounds (fun i t w' => Up w1 w' ∧ tget t 1 = .pointer (some ⟨w.next, 0, none⟩) ∧ tget t 3 = .bool true ∧ tget t 4 = .int .i64 (i : Nat) ∧ i ≤ ds.length) 20 (by decide) ⟨Up.refl _, by simp, by simp, by simp, Nat.zero_le _⟩ ?_))
    rintro i t w' ⟨hu, t1, t3, t4, hi⟩
    have hlm := hu.lim
    have hnx := hu.next
    have g := hu.at (b := w.next) (by omega)
    rw [g1] at g
    by_cases hlt : i < ds.length
    · obtain ⟨d, hd⟩ : ∃ e, ds[i]? = some e := ⟨_, List.getElem?_eq_getElem hlt⟩
      obtain ⟨b, off, sq, c, rfl, hra⟩ := (hL.up (u1.trans hu)).d.at_ i hlt
      have hld := hra.rd dtC_length hd
      have hia := fun w => ia23 w ⟨b, off, sq⟩ ds.length c .i64 i hlt
      have hdb := hO.debt d (List.mem_of_getElem? hd)
      obtain ⟨df, dt, dc⟩ := d
      simp only [dtC] at hld
      simp only at hdb
      have q0 : ¬ w.next = w'.next := by omega
      have q5 : w'.lim ≤ w'.next := by omega
      have hw1' : IntKind.wrap .i64 ((i : Int) + 1) = (i : Int) + 1 := wrap64_in (by omega) (by omega)
      have hw2' : IntKind.wrap .i64 ((ps.length : Int) - 1) = (ps.length : Int) - 1 := wrap64_in (by omega) (by omega)
      have k1 : inI 0 df ((ps.length : Int) - 1) = true := by simp only [inI, Bool.and_eq_true, decide_eq_true_eq]; omega
      have k2 : inI 0 dt ((ps.length : Int) - 1) = true := by simp only [inI, Bool.and_eq_true, decide_eq_true_eq]; omega
      have k3 : inI 1 dc 100000 = true := by simp only [inI, Bool.and_eq_true, decide_eq_true_eq]; omega
      simp [mc30_l0, t1, t3, t4, g, hl22, hl23, hlt, hia, hld, q0, q5, r32, k1, k2, k3, hw1', hw2']
      exact ⟨by omega, (hu.add _).put hu.next (Nat.le_refl _), hlt⟩
    · have hi' : i = ds.length := by omega
      subst hi'
      simp [mc30_l0, t1, t3, t4, g, hl23, tupV]
/-! rows that are made and written into -/
def lsC (n : Nat) (x : Int → Int) : List Value := (List.range n).map fun (k : Nat) => .int .i64 (x (k : Int))
theorem lsC_flat (n : Nat) (x : Int → Int) : (lsF n x).flatMap intC = lsC n x := by
  unfold lsF lsC intC
  rw [List.flatMap_def, List.map_map]
  induction (List.range n) with
  | nil => rfl
  | cons a l ih => simp [ih]
@[simp] theorem lsC_len (n : Nat) (x : Int → Int) : (lsC n x).length = n := by simp [lsC]
theorem lsC_get (n : Nat) (x : Int → Int) {k : Nat} (h : k < n) : (lsC n x)[k]? = some (.int .i64 (x (k : Int))) := by simp [lsC, h]
@[simp] theorem lsC_getE (n : Nat) (x : Int → Int) {k : Nat} (h : k < (lsC n x).length) : (lsC n x)[k] = .int .i64 (x (k : Int)) := by simp [lsC]
theorem lsC_set (n : Nat) (x : Int → Int) (v : Int) {k : Nat} (h : k < n) : (lsC n x).take k ++ (.int .i64 v :: (lsC n x).drop (k + 1)) = lsC n (updF x (k : Int) v) := by
  apply List.ext_getElem?
  intro j
  have hl := lsC_len n x
  by_cases h1 : j < k
  · rw [List.getElem?_append_left (by rw [List.length_take]; omega), List.getElem?_take_of_lt h1, lsC_get n x (by omega), lsC_get _ _ (by omega)]
    simp [updF, show ¬ (j : Int) = (k : Int) by omega]
  · rw [List.getElem?_append_right (by rw [List.length_take]; omega)]
    have e1 : ((lsC n x).take k).length = k := by rw [List.length_take]; omega
    rw [e1]
    by_cases h2 : j = k
    · subst h2
      rw [Nat.sub_self, List.getElem?_cons_zero, lsC_get _ _ h]
      simp [updF]
    · obtain ⟨e, rfl⟩ : ∃ e, j = k + 1 + e := ⟨j - (k + 1), by omega⟩
      rw [show k + 1 + e - k = e + 1 by omega, List.getElem?_cons_succ, List.getElem?_drop]
      by_cases h3 : k + 1 + e < n
      · rw [lsC_get n x h3, lsC_get _ _ h3]
        simp [updF, show ¬ ((k + 1 + e : Nat) : Int) = (k : Int) by omega]
        try (intro h; omega)
      · rw [List.getElem?_eq_none (by omega), List.getElem?_eq_none (by rw [lsC_len]; omega)]
theorem rows_ls {w : AW} {B n : Nat} {x : Int → Int} (h : w.heap.get B = some (.cells (lsC n x) 3 false)) (hb : B < w.next) (c : Nat) : RowsV intC w (.slice (some ⟨B, 0, none⟩) n c) (lsF n x) :=
  .inr ⟨B, 0, none, c, by rw [lsF_len], ⟨[], [], 3, false, by rw [h, List.nil_append, List.append_nil, lsC_flat], rfl⟩, hb⟩
theorem st_ls {w : AW} {B n : Nat} {x : Int → Int} {v : Int} {k : Nat} (hk : k < n) (hl : w.lim ≤ B) : wrO w B k [.int .i64 v] (some (.cells (lsC n x) 3 false)) = some ⟨w.heap.put B (some (.cells (lsC n (updF x (k : Int) v)) 3 false)), w.next, w.lim⟩ := by
  rw [wrO_cells (by simp) hl (by simp; omega), ← lsC_set n x v hk]
  rfl
theorem mk26 (n : Nat) (hn : n ≤ 1000) (w : AW) : makeSliceA Try.prog w 26 (.int .i64 (n : Int)) (.int .i64 (n : Int)) = .val (.slice (some ⟨w.next, 0, none⟩) n n) ⟨w.heap.put w.next (some (.cells (lsC n fun _ => 0) 3 false)), w.next + 1, w.lim⟩ := by
  rw [make_eq (z := .int .i64 0) elem26 (by kernel_rfl) small3 n hn w]
  have : repl (cellsOf (.int .i64 0)) n = lsC n fun _ => 0 := by
    show repl (intC 0) n = _
    rw [repl_flat, ← lsC_flat]
    congr 1
    apply List.ext_getElem?
    intro j
    by_cases hj : j < n
    · rw [lsF_at n _ hj]; simp [List.getElem?_replicate, hj]
    · rw [List.getElem?_eq_none (by simp; omega), List.getElem?_eq_none (by simp; omega)]
  rw [this]
def owP (ds : List Dt) (i : Nat) : Int → Int := fun p => sI (fun d => if d.f = p then d.c else 0) (ds.take i)
theorem owP_zero (ds : List Dt) : owP ds 0 = fun _ => 0 := by funext p; simp [owP, sI]
theorem owP_all (ds : List Dt) : owP ds ds.length = owD ds := by funext p; simp [owP, owD]
theorem owP_step {ds : List Dt} {i : Nat} {d : Dt} (h : ds[i]? = some d) : updF (owP ds i) d.f (owP ds i d.f + d.c) = owP ds (i + 1) := by
  funext p
  unfold updF owP
  rw [sI_step h]
  by_cases h1 : p = d.f
  · subst h1
    simp only [if_true]
  · have h2 : ¬ d.f = p := fun e => h1 e.symm
    simp only [if_neg h1, if_neg h2]; omega
theorem owP_bd {ps : List Pt} {ds : List Dt} (h : LK ps ds) (i : Nat) (p : Int) : 0 ≤ owP ds i p ∧ owP ds i p ≤ 1600000 := sI_bd (fun d hd => by
  have := (h.debt d (List.mem_of_mem_take hd)).2.2.2
  show 0 ≤ (if d.f = p then d.c else 0) ∧ (if d.f = p then d.c else 0) ≤ 100000
  split <;> omega) (by have := h.d16; rw [List.length_take]; omega)
theorem call31 {ov : Ov} (m : Nat) (ho : ∀ args w, ov 31 args w = none) (pv dv : Value) (ps : List Pt) (ds : List Dt) (w : AW) (hl : w.lim ≤ w.next) (hL : LedV w pv dv ps ds) (hk : LK ps ds) :
    ∃ v w', (run Try.prog ov (m + 1)).call 31 [.agg ⟨[pv, dv]⟩] w .none = .ok (.ret v) w' .none ∧ ∃ B, v = .slice (some ⟨B, 0, none⟩) ps.length ps.length ∧ w'.heap.get B = some (.cells (lsC ps.length (owD ds)) 3 false) ∧ w.next ≤ B ∧ B < w'.next ∧ Up w w' := by
  refine call_wp text31 (by simp) (ho _ _) ?_
  have h8 := hk.n8
  have h16 := hk.d16
  have hl22 := fun w2 => len22V (w' := w2) hL.p
  have hl23 := fun w2 => len23V (w' := w2) hL.d
  have hmk := fun w => mk26 ps.length (by omega) w
  obtain ⟨w1, hw1⟩ : ∃ w1, w1 = (⟨(w.heap.put w.next (some (.cells [pv, dv] 25 false))).put (w.next + 1) (some (.cells (lsC ps.length fun _ => 0) 3 false)), w.next + 1 + 1, w.lim⟩ : AW) := ⟨_, rfl⟩
  have u1 : Up w w1 := by
    rw [hw1]
    exact ((Up.refl w).put (Nat.le_refl _) (Nat.le_refl _)).put (Nat.le_succ _) (by omega)
  have n1 : w1.next = w.next + 1 + 1 := by rw [hw1]
  have m1 : w1.lim = w.lim := by rw [hw1]
  have g1 : w1.heap.get w.next = some (.cells [pv, dv] 25 false) := by rw [hw1]; simp
  have g2 : w1.heap.get (w.next + 1) = some (.cells (lsC ps.length (owP ds 0)) 3 false) := by rw [hw1, owP_zero]; simp
  simp [mc31, cellsOf_agg, hl22, hmk]
  rw [← hw1]
  refine wp_seqX (wp_blockX (wp_rounds (fun i t w' => Kp (w.next + 1) w1 w' ∧ w'.heap.get (w.next + 1) = some (.cells (lsC ps.length (owP ds i)) 3 false) ∧ tget t 1 = .pointer (some ⟨w.next, 0, none⟩) ∧ tget t 3 = .slice (some ⟨w.next + 1, 0, none⟩) ps.length ps.length ∧ tget t 4 = .int .i64 (i : Nat) ∧ i ≤ ds.length) 20 (by decide) ⟨Kp.refl _ _, g2, by simp, by simp, by simp, Nat.zero_le _⟩ ?_))
  rintro i t w' ⟨hkp, g3, t1, t3, t4, hi⟩
  have hlm := hkp.lim
  have hnx := hkp.next
  have g := hkp.old w.next (by omega) (by omega)
  rw [g1] at g
  by_cases hlt : i < ds.length
  · obtain ⟨d, hd⟩ : ∃ e, ds[i]? = some e := ⟨_, List.getElem?_eq_getElem hlt⟩
    obtain ⟨b, off, sq, c, rfl, hra⟩ := (hL.up (hkp.up u1 (by omega))).d.at_ i hlt
    have hl0 := hra.rd1 (j := 0) dtC_length hd (x := .int .i64 d.f) rfl
    have hl2 := hra.rd1 (j := 2) dtC_length hd (x := .int .i64 d.c) rfl
    have hia := fun w => ia23 w ⟨b, off, sq⟩ ds.length c .i64 i hlt
    have hdb := hk.debt d (List.mem_of_getElem? hd)
    have hbd := owP_bd hk i d.f
    have hst := owP_step hd
    obtain ⟨df, dt, dc⟩ := d
    simp only [Nat.add_zero] at hdb hl0 hl2 hbd hst
    obtain ⟨k, rfl⟩ : ∃ k : Nat, df = (k : Int) := ⟨df.toNat, by omega⟩
    have hkn : k < ps.length := by omega
    have hia6 := fun w => ia26 w ⟨w.next + 1, 0, none⟩ ps.length ps.length .i64 k hkn
    have hia6' := fun w2 => ia26 w2 ⟨w.next + 1, 0, none⟩ ps.length ps.length .i64 k hkn
    simp only [Nat.mul_one] at hia6'
    have hgt := lsC_get ps.length (owP ds i) hkn
    obtain ⟨U, hU⟩ : ∃ U, U = owP ds i (k : Int) := ⟨_, rfl⟩
    rw [← hU] at hgt hbd hst
    have w1' : IntKind.wrap .i64 (U + dc) = U + dc := wrap64_in (by omega) (by omega)
    have w2' : IntKind.wrap .i64 ((i : Int) + 1) = (i : Int) + 1 := wrap64_in (by omega) (by omega)
    have q2 : w'.lim ≤ w.next + 1 := by omega
    have hs' := st_ls (w := w') (B := w.next + 1) (n := ps.length) (x := owP ds i) (v := U + dc) hkn q2
    rw [hst] at hs'
    simp [mc31_l0, t1, t3, t4, g, hl23, hlt, hia, hl0, hl2, hia6', g3, hgt, hU.symm, w1', w2', hs', -wrO_cells]
    exact ⟨by omega, hkp.new (.inr rfl) (Nat.le_refl _), hlt⟩
  · have hi' : i = ds.length := by omega
    subst hi'
    rw [owP_all] at g3
    have nj : ∀ (a : Addr) n c, notJunk (.slice (some a) n c) = some (.slice (some a) n c) := fun _ _ _ => rfl
    simp [mc31_l0, t1, t3, t4, g, hl23, nj, tupV]
    exact ⟨g3, by omega, hkp.up u1 (by omega)⟩
end Go.Proofs.Ythfidomphkednaa.walk

namespace Go.Proofs.Ythfidomphkednaa.walk
open Go Go.Sh
set_option maxRecDepth 100000
set_option linter.unusedSimpArgs false
set_option linter.unusedVariables false
/-! CreditSettled -/
def HasW (ov : Ov) : Prop := ∀ w, ov 19 [] w = some (.ok (.ret (.bool true)) w .none)
theorem ruleW {ov : Ov} (h : HasW ov) (m : Nat) (w : AW) : (run Try.prog ov (m + 1)).call 19 [] w .none = .ok (.ret (.bool true)) w .none := by
  show stepO Try.prog (run Try.prog ov m) 19 [] w .none (ov 19 [] w) = _
  rw [h w]; rfl
/-- the place and the number in a row that is read -/
theorem row_ld {w : AW} {v : Value} {L : List Int} (h : RowsV intC w v L) {i : Nat} {z : Int} (hz : L[i]? = some z) :
    ∃ b off sq c, v = .slice (some ⟨b, off, sq⟩) L.length c ∧ rd1O (w.heap.get b) (off + i) = some (.int .i64 z) ∧ ∀ w2 : AW, indexAddrA Try.prog w2 26 (.slice (some ⟨b, off, sq⟩) L.length c) (.int .i64 (i : Nat)) = .val (.pointer (some ((⟨b, off, sq⟩ : Addr).add i))) w2 := by
  have hlt : i < L.length := (List.getElem?_eq_some_iff.1 hz).1
  obtain ⟨b, off, sq, c, rfl, hra⟩ := h.at_ i hlt
  refine ⟨b, off, sq, c, rfl, hra.int hz, fun w2 => ?_⟩
  have := ia26 w2 ⟨b, off, sq⟩ L.length c .i64 i hlt
  rw [this, Nat.mul_one]
end Go.Proofs.Ythfidomphkednaa.walk

namespace Go.Proofs.Ythfidomphkednaa.walk
open Go Go.Sh
set_option maxRecDepth 100000
set_option linter.unusedSimpArgs false
set_option linter.unusedVariables false
/-! what is left -/
structure J51 (pv dv : Value) (ds : List Dt) (y : Int → Int) (p : Int) (n2 n3 b5 c6 L : Nat) (lp : ALoop) (x : Int → Int) (w : AW) : Prop where
  g2 : w.heap.get n2 = some (.cells (pv :: dv :: arC (owD ds)) 63 false)
  g3 : w.heap.get n3 = some (.cells (arC y) 61 false)
  g5 : w.heap.get b5 = some (.cells (arC x) 61 false)
  g6 : w.heap.get c6 = some (.cells [.int .i64 p] 3 false)
  lo : w.heap.get L = some (.loop lp)
  ord : w.lim ≤ b5 ∧ n2 < n3 ∧ n3 < b5 ∧ b5 < c6 ∧ c6 < L ∧ L < w.next
theorem J51.stay {pv dv : Value} {ds : List Dt} {y : Int → Int} {p : Int} {n2 n3 b5 c6 L : Nat} {lp : ALoop} (x : Int → Int) (w w' : AW) (h : J51 pv dv ds y p n2 n3 b5 c6 L lp x w) (k : ∀ x, x < w.next → w'.heap.get x = w.heap.get x) (hn : w.next ≤ w'.next) (hl : w'.lim = w.lim) : J51 pv dv ds y p n2 n3 b5 c6 L lp x w' := by
  obtain ⟨h1, h2, h3, h4, h5, o1, o2, o3, o4, o5, o6⟩ := h
  exact ⟨by rw [k _ (by omega)]; exact h1, by rw [k _ (by omega)]; exact h2, by rw [k _ (by omega)]; exact h3, by rw [k _ (by omega)]; exact h4, by rw [k _ (by omega)]; exact h5, by omega, o2, o3, o4, o5, by omega⟩
def lsD (ds : List Dt) (y : Int → Int) (p : Int) (x : Int → Int) (d : Dt) : Int → Int := updF x p (x p - ptD (owD ds) y d)
theorem steps51 {ov : Ov} (m : Nat) (h63 : HasP ov 63 S63.F) (pv dv : Value) (ps : List Pt) (ds : List Dt) (hk : LK ps ds) (y : Int → Int) (hy : ∀ p, 0 ≤ y p ∧ y p ≤ owD ds p) (we : AW) (hL : LedV we pv dv ps ds) (k : Nat) (hk8 : k < 8) (n2 n3 b5 c6 L : Nat) (tm : Tm) (t2 : tget tm 2 = .pointer (some ⟨n2, 0, none⟩)) (t3 : tget tm 3 = .pointer (some ⟨n3, 0, none⟩)) (t5 : tget tm 5 = .pointer (some ⟨b5, 0, none⟩)) (t6 : tget tm 6 = .pointer (some ⟨c6, 0, none⟩)) :
    Steps74 ov (m + 2) L (lsD ds y (k : Int)) (fun x => -10000000 ≤ x (k : Int) ∧ x (k : Int) ≤ 10000000) (J51 pv dv ds y (k : Int) n2 n3 b5 c6 L ⟨33, tm, [21], (rfOf Try.prog 51 0).1, (rfOf Try.prog 51 0).2, none, .ready⟩) (fun x => x = b5 ∨ x = L) ds (k : Int) := by
  intro x d w hd hp hG hG' hJ
  obtain ⟨g2, g3, g5, g6, lo, o1, o2, o3, o4, o5, o6⟩ := hJ
  have hdb := hk.debt d hd
  have hxf := hy d.f
  have hol := hk.ow_le d.f
  have hop := hk.ow_pos hd
  have hpb := pt_bd hk hy hd
  have r63 := fun w => S63.call (P := Try.prog) h63 (m := m) (w := w) ⟨pv, dv, owD ds, y, d, rfl, ⟨hdb.1.1, by omega⟩, hdb.2.2.2, ⟨hxf.1, by omega⟩, by omega, rfl⟩
  obtain ⟨V, hV⟩ : ∃ V, V = ptD (owD ds) y d := ⟨_, rfl⟩
  obtain ⟨U, hU⟩ : ∃ U, U = x (k : Int) := ⟨_, rfl⟩
  have hgt := arC_get x hk8
  have elS : lsD ds y (k : Int) x d = updF x (k : Int) (U - V) := by unfold lsD; rw [← hV, ← hU]
  rw [← hU] at hgt
  simp only [← hU] at hG
  rw [← hV] at r63 hpb
  have w1' : IntKind.wrap .i64 (U - V) = U - V := wrap64_in (by omega) (by omega)
  have hia6 := fun w a => ia61 w a .i64 hk8
  have e1 : ¬ n2 = w.next := by omega
  have e2 : ¬ n3 = w.next := by omega
  have e3 : ¬ b5 = w.next := by omega
  have e4 : ¬ c6 = w.next := by omega
  have e5 : ¬ L = w.next := by omega
  have f1 : ¬ n2 = L := by omega
  have f2 : ¬ n3 = L := by omega
  have f3 : ¬ b5 = L := by omega
  have f4 : ¬ c6 = L := by omega
  have f5 : ¬ w.next = L := by omega
  have f6 : ¬ L = b5 := by omega
  have hlw : w.lim ≤ w.next := by omega
  have hlL : w.lim ≤ L := by omega
  have q7 : k ≤ 7 := by omega
  have s1 := sm61 y
  have s2 := sm63 hL (owD ds)
  have s3 : ∀ a b c : Int, sameVal 5 (.agg ⟨[.int .i64 a, .int .i64 b, .int .i64 c]⟩) (.agg ⟨[.int .i64 a, .int .i64 b, .int .i64 c]⟩) = true := fun a b c => same_agg _ (by
    intro v hv
    simp only [List.mem_cons, List.not_mem_nil, or_false] at hv
    rcases hv with rfl | rfl | rfl <;> exact sameN_int _ _ _)
  obtain ⟨df, dt, dc⟩ := d
  simp only [dtC, l63] at r63
  obtain ⟨j, w', hyl, hQ⟩ := yield_wp (P := Try.prog) (ov := ov) (m := m + 1) (l := L) (args := [.agg ⟨dtC ⟨df, dt, dc⟩⟩]) (w := w) (Q := fun j w' => j = none ∧ w' = ⟨((((w.heap.put w.next (some (.cells [.int .i64 0, .int .i64 0, .int .i64 0] 46 false))).put w.next (some (.cells [.int .i64 df, .int .i64 dt, .int .i64 dc] 46 false))).put L (some (.loop ⟨33, tm, [21], (rfOf Try.prog 51 0).1, (rfOf Try.prog 51 0).2, none, .busy⟩))).put b5 (some (.cells (arC (updF x (k : Int) (U - V))) 61 false))).put L (some (.loop ⟨33, tm, [21], (rfOf Try.prog 51 0).1, (rfOf Try.prog 51 0).2, none, .ready⟩)), w.next + 1, w.lim⟩) lo rfl rfl ta51_0 tb51_0 (by
    simp [mc51_a0, mc51_b0, dtC, lo, hlw, hlL, o1, jumpOf, t2, t3, t5, t6, e1, e2, e3, e4, e5, f1, f2, f3, f4, f5, f6, g2, g3, g5, g6, hia6, hgt, hU.symm, r63, w1', s1, s2, s3, q7, hk8, arC_set])
  obtain ⟨rfl, rfl⟩ := hQ
  refine ⟨_, hyl, ⟨?_, ?_, ?_, ?_, ?_, ⟨o1, o2, o3, o4, o5, by show L < w.next + 1; omega⟩⟩, fun z hz hM => ?_, by show w.next ≤ w.next + 1; omega, rfl⟩
  · simp [e1, f1, g2, show ¬ n2 = b5 by omega]
  · simp [e2, f2, g3, show ¬ n3 = b5 by omega]
  · simp [f3, elS]
  · simp [e4, f4, g6, show ¬ c6 = b5 by omega]
  · simp
  · have q1 : ¬ z = b5 := fun h => hM (.inl h)
    have q2 : ¬ z = L := fun h => hM (.inr h)
    simp [q1, q2, show ¬ z = w.next by omega]
theorem foP51 (ds : List Dt) (y : Int → Int) (p : Int) (x : Int → Int) : ∀ l : List Dt, (ofP l p).foldl (lsD ds y p) x = updF x p (x p - sI (fun d => if d.f = p then ptD (owD ds) y d else 0) l) := by
  intro l
  induction l using snoc_ind with
  | h0 =>
    funext q
    simp [ofP, updF, sI]
    intro h; rw [h]
  | h1 l a ih =>
    unfold ofP at ih ⊢
    rw [List.filter_append, List.foldl_append, ih, sI_app]
    by_cases e : a.f = p
    · simp only [List.filter_cons, List.filter_nil, e, decide_true, if_true, List.foldl_cons, List.foldl_nil, sI]
      funext q
      unfold lsD updF
      by_cases hq : q = p
      · subst hq; simp only [if_true]; omega
      · simp only [if_neg hq]
    · simp only [List.filter_cons, List.filter_nil, decide_eq_false e, sI, if_neg e]
      simp only [Bool.false_eq_true, if_false, List.foldl_nil]
      funext q
      unfold updF
      split <;> omega
def loF (ps : List Pt) (ds : List Dt) (x : Int → Int) (i : Nat) : Int → Int := fun p => if p < (i : Int) then leD ps ds x p else haD ps ds x p
theorem ou_out {ps : List Pt} {ds : List Dt} (hk : LK ps ds) (x : Int → Int) {p : Int} (hp : p < 0 ∨ (ps.length : Int) ≤ p) : ouD ds x p = 0 := by
  unfold ouD
  rw [sI_congr (k := fun _ => 0), sI_zero]
  intro d hd
  have := (hk.debt d hd).1
  rw [if_neg (by omega)]
theorem loF_zero {ps : List Pt} {ds : List Dt} (hk : LK ps ds) (x : Int → Int) : loF ps ds x 0 = haD ps ds x := by
  funext p
  unfold loF
  split
  · unfold leD; rw [ou_out hk x (.inl (by omega))]; omega
  · rfl
theorem loF_all {ps : List Pt} {ds : List Dt} (hk : LK ps ds) (x : Int → Int) : loF ps ds x ps.length = leD ps ds x := by
  funext p
  unfold loF
  split
  · rfl
  · unfold leD; rw [ou_out hk x (.inr (by omega))]; omega
theorem loF_step (ps : List Pt) (ds : List Dt) (x : Int → Int) (i : Nat) : updF (loF ps ds x i) (i : Int) (loF ps ds x i (i : Int) - ouD ds x (i : Int)) = loF ps ds x (i + 1) := by
  funext p
  unfold updF loF
  by_cases h1 : p = (i : Int)
  · subst h1
    rw [if_pos rfl, if_neg (by omega), if_pos (by omega)]; rfl
  · rw [if_neg h1]
    by_cases h2 : p < (i : Int)
    · rw [if_pos h2, if_pos (by omega)]
    · rw [if_neg h2, if_neg (by omega)]
theorem ouT_bd {ps : List Pt} {ds : List Dt} (hk : LK ps ds) {y : Int → Int} (hy : ∀ p, 0 ≤ y p ∧ y p ≤ owD ds p) (p : Int) (j : Nat) : 0 ≤ sI (fun d => if d.f = p then ptD (owD ds) y d else 0) (ds.take j) ∧ sI (fun d => if d.f = p then ptD (owD ds) y d else 0) (ds.take j) ≤ 1600000 := sI_bd (fun d hd => by
  have := pt_bd hk hy (List.mem_of_mem_take hd)
  show 0 ≤ (if d.f = p then ptD (owD ds) y d else 0) ∧ (if d.f = p then ptD (owD ds) y d else 0) ≤ 100000
  split <;> omega) (by have := hk.d16; rw [List.length_take]; omega)
end Go.Proofs.Ythfidomphkednaa.walk

namespace Go.Proofs.Ythfidomphkednaa.walk
open Go Go.Sh
set_option maxRecDepth 100000
set_option linter.unusedSimpArgs false
set_option linter.unusedVariables false
theorem loop51 {ov : Ov} (m : Nat) (ho61 : ∀ args w, ov 61 args w = none) (ho74 : ∀ args w, ov 74 args w = none) (h63 : HasP ov 63 S63.F) (pv dv : Value) (ps : List Pt) (ds : List Dt) (hk : LK ps ds) (y : Int → Int) (hy : ∀ p, 0 ≤ y p ∧ y p ≤ owD ds p) (w w1 : AW) (hL : LedV w pv dv ps ds) (hl : w.lim ≤ w.next) (u1 : Up w w1) (n1 : w1.next = w.next + 4)
    (a2 : w1.heap.get w.next = some (.cells (pv :: dv :: arC (owD ds)) 63 false)) (a3 : w1.heap.get (w.next + 1) = some (.cells (arC y) 61 false)) (a5 : w1.heap.get (w.next + 3) = some (.cells (arC (haD ps ds y)) 61 false))
    (Q : Ex → Tm → AW → Prop) (t : Tm) (t2 : tget t 2 = .pointer (some ⟨w.next, 0, none⟩)) (t3 : tget t 3 = .pointer (some ⟨w.next + 1, 0, none⟩)) (t4 : tget t 4 = .pointer (some ⟨w.next + 2, 0, none⟩)) (t5 : tget t 5 = .pointer (some ⟨w.next + 3, 0, none⟩)) (t14 : tget t 14 = .int .i64 (ps.length : Nat)) (t15 : tget t 15 = .int .i64 0)
    (hQ : ∀ t w', Kp (w.next + 3) w1 w' → w'.heap.get (w.next + 3) = some (.cells (arC (leD ps ds y)) 61 false) → tget t 4 = .pointer (some ⟨w.next + 2, 0, none⟩) → tget t 5 = .pointer (some ⟨w.next + 3, 0, none⟩) → Q (.exit 0) t w') : wp (exY Try.prog (run Try.prog ov (m + 3)) (.loop mc51_l0) t w1) Q := by
  have h8 := hk.n8
  have h16 := hk.d16
  refine wp_roundsY (fun i t w' => Kp (w.next + 3) w1 w' ∧ w'.heap.get (w.next + 3) = some (.cells (arC (loF ps ds y i)) 61 false) ∧ tget t 2 = .pointer (some ⟨w.next, 0, none⟩) ∧ tget t 3 = .pointer (some ⟨w.next + 1, 0, none⟩) ∧ tget t 4 = .pointer (some ⟨w.next + 2, 0, none⟩) ∧ tget t 5 = .pointer (some ⟨w.next + 3, 0, none⟩) ∧ tget t 14 = .int .i64 (ps.length : Nat) ∧ tget t 15 = .int .i64 (i : Nat) ∧ i ≤ ps.length) 20 (by decide) ⟨Kp.refl _ _, by rw [loF_zero hk]; exact a5, t2, t3, t4, t5, t14, by simpa using t15, Nat.zero_le _⟩ ?_
  clear t2 t3 t4 t5 t14 t15
  rintro i t w' ⟨hkp, g5, t2, t3, t4, t5, t14, t15, hi⟩
  have hw1' : IntKind.wrap .i64 ((i : Int) + 1) = (i : Int) + 1 := wrap64_in (by omega) (by omega)
  have hlm := hkp.lim
  have hnx := hkp.next
  have hul := u1.lim
  have hun := u1.next
  by_cases hlt : i < ps.length
  · have b2 := hkp.old w.next (by omega) (by omega)
    rw [a2] at b2
    have b3 := hkp.old (w.next + 1) (by omega) (by omega)
    rw [a3] at b3
    have e1 : ¬ w.next = w'.next := by omega
    have e5 : w'.lim ≤ w'.next := by omega
    obtain ⟨_, _, c61, rfl, rfl⟩ := call61 (ov := ov) (m + 2) ho61 pv dv (owD ds) i ⟨(w'.heap.put w'.next (some (.cells [.int .i64 0] 3 false))).put w'.next (some (.cells [.int .i64 (i : Nat)] 3 false)), w'.next + 1, w'.lim⟩
    simp only [l63, Nat.add_assoc, Nat.reduceAdd] at c61
    simp [mc51_l0, t2, t3, t4, t5, t14, t15, hlt, b2, e1, e5, c61]
    obtain ⟨H, hH⟩ : ∃ H, H = (((w'.heap.put w'.next (some (.cells [.int .i64 0] 3 false))).put w'.next (some (.cells [.int .i64 (i : Nat)] 3 false))).put (w'.next + 1) (some (.cells (pv :: dv :: arC (owD ds)) 63 false))).put (w'.next + 2) (some (.cells [.int .i64 (i : Nat)] 3 false)) := ⟨_, rfl⟩
    rw [← hH]
    have hH' : ∀ x, x < w'.next → H.get x = w'.heap.get x := fun x h1 => by
      rw [hH]; simp [show ¬ x = w'.next by omega, show ¬ x = w'.next + 1 by omega, show ¬ x = w'.next + 2 by omega]
    have g6 : H.get w'.next = some (.cells [.int .i64 (i : Nat)] 3 false) := by rw [hH]; simp
    have gy : H.get (w'.next + 1) = some (.cells (l63 pv dv (owD ds)) 63 false) := by rw [hH]; simp [l63]
    have gi : H.get (w'.next + 2) = some (.cells [.int .i64 (i : Nat)] 3 false) := by rw [hH]; simp
    refine wp_seqX (wp_blockX (wp_blockX (rf_wp (g := 74) (gargs := [.func (.yield (w'.next + 3)) ⟨[]⟩ ⟨[]⟩, .pointer (some ⟨w'.next + 1, 0, none⟩), .pointer (some ⟨w'.next + 2, 0, none⟩)]) ?_ ?_)))
    · simp [callV_func]
    · generalize hTT : tset _ 20 _ = TT
      have v2 : tget TT 2 = .pointer (some ⟨w.next, 0, none⟩) := by rw [← hTT]; simp [t2]
      have v3 : tget TT 3 = .pointer (some ⟨w.next + 1, 0, none⟩) := by rw [← hTT]; simp [t3]
      have v4 : tget TT 4 = .pointer (some ⟨w.next + 2, 0, none⟩) := by rw [← hTT]; simp [t4]
      have v5 : tget TT 5 = .pointer (some ⟨w.next + 3, 0, none⟩) := by rw [← hTT]; simp [t5]
      have v6 : tget TT 6 = .pointer (some ⟨w'.next, 0, none⟩) := by rw [← hTT]; simp
      have v14 : tget TT 14 = .int .i64 (ps.length : Nat) := by rw [← hTT]; simp [t14]
      have v15 : tget TT 15 = .int .i64 (i : Nat) := by rw [← hTT]; simp [t15]
      clear hTT
      have hst := steps51 (ov := ov) m h63 pv dv ps ds hk y hy w hL i (by omega) w.next (w.next + 1) (w.next + 3) w'.next (w'.next + 3) TT v2 v3 v5 v6
      obtain ⟨w0, ew0⟩ : ∃ w0 : AW, w0 = ⟨H.put (w'.next + 3) (some (.loop ⟨33, TT, [21], (rfOf Try.prog 51 0).1, (rfOf Try.prog 51 0).2, none, .ready⟩)), w'.next + 3 + 1, w'.lim⟩ := ⟨_, rfl⟩
      have n0 : w0.next = w'.next + 3 + 1 := by rw [ew0]
      have l0 : w0.lim = w'.lim := by rw [ew0]
      have hgo : ∀ x, x < w'.next + 3 → w0.heap.get x = H.get x := fun x hx => by rw [ew0]; show (H.put _ _).get x = _; rw [get_put, if_neg (by omega)]
      have hJ0 : J51 pv dv ds y (i : Int) w.next (w.next + 1) (w.next + 3) w'.next (w'.next + 3) ⟨33, TT, [21], (rfOf Try.prog 51 0).1, (rfOf Try.prog 51 0).2, none, .ready⟩ (loF ps ds y i) w0 :=
        ⟨by rw [hgo _ (by omega), hH' _ (by omega)]; exact b2, by rw [hgo _ (by omega), hH' _ (by omega)]; exact b3, by rw [hgo _ (by omega), hH' _ (by omega)]; exact g5, by rw [hgo _ (by omega)]; exact g6, by rw [ew0]; show (H.put _ _).get _ = _; rw [get_put, if_pos rfl], by omega, by omega, by omega, by omega, by omega, by omega⟩
      have hfo : ∀ j, foP (lsD ds y (i : Int)) (loF ps ds y i) ds (i : Int) j = updF (loF ps ds y i) (i : Int) (loF ps ds y i (i : Int) - sI (fun d => if d.f = (i : Int) then ptD (owD ds) y d else 0) (ds.take j)) := fun j => by unfold foP; exact foP51 ds y (i : Int) _ _
      have hloi : loF ps ds y i (i : Int) = haD ps ds y (i : Int) := by unfold loF; rw [if_neg (by omega)]
      have hha := hk.ha_in hy (i : Int)
      obtain ⟨v, w2, hc, hJ2, hk2, hn2, hl2⟩ := call74 (ov := ov) (m + 1) ho74 (lsD ds y (i : Int)) (fun x => -10000000 ≤ x (i : Int) ∧ x (i : Int) ≤ 10000000) (J51 pv dv ds y (i : Int) w.next (w.next + 1) (w.next + 3) w'.next (w'.next + 3) ⟨33, TT, [21], (rfOf Try.prog 51 0).1, (rfOf Try.prog 51 0).2, none, .ready⟩) (fun x => x = w.next + 3 ∨ x = w'.next + 3) (w'.next + 3) pv dv (owD ds) ds h16 (i : Int) hst w w0 (by omega) hL.d (by omega) (fun x hx => by omega) (fun x hx => by rw [hgo x (by omega), hH' x (by omega)]; exact (hkp.up u1 (by omega)).at hx) (fun st w w' h k hn hl => J51.stay st w w' h k hn hl) (w'.next + 1) (w'.next + 2) (by rw [hgo _ (by omega)]; exact gy) (by omega) (by omega) (by rw [hgo _ (by omega)]; exact gi) (loF ps ds y i) (fun j hj => by
          have hb := ouT_bd hk hy (i : Int) j
          simp only [hfo, updF, if_true, hloi]
          omega) hJ0
      rw [ew0] at hc
      rw [hfo, List.take_length] at hJ2
      obtain ⟨_, _, k5, _, lo, o1, o2, o3, o4, o5, o6⟩ := hJ2
      have ho := loF_step ps ds y i
      unfold ouD at ho
      rw [ho] at k5
      refine ⟨v, w2, hc, _, lo, rfl, by show w2.lim ≤ w'.next + 3; omega, ?_⟩
      simp [v2, v3, v4, v5, v14, v15, hw1', k5, show ¬ w.next + 3 = w'.next + 3 by omega]
      refine ⟨by omega, ⟨fun x h2 h3 => ?_, by show w1.next ≤ w2.next; omega, by show w2.lim = w1.lim; omega⟩, by omega, hlt⟩
      show (w2.heap.put _ _).get x = _
      rw [get_put, if_neg (by omega), hk2 x (by omega) (by omega), hgo x (by omega), hH' x (by omega)]
      exact hkp.old x h2 h3
  · have hi' : i = ps.length := by omega
    subst hi'
    rw [loF_all hk] at g5
    simp [mc51_l0, t14, t15]
    exact hQ _ _ hkp g5 (by simp [t4]) (by simp [t5])
def S51 : PSpec where
  R args w v := ∃ (pv dv : Value) (ps : List Pt) (ds : List Dt) (x : Int → Int), args = [.agg ⟨l63 pv dv (owD ds)⟩, .agg ⟨arC x⟩] ∧ LedV w pv dv ps ds ∧ LK ps ds ∧ (∀ p, 0 ≤ x p ∧ x p ≤ owD ds p) ∧ v = .agg ⟨arC (leD ps ds x)⟩
  uniq := by
    rintro _ _ _ _ ⟨pv, dv, ps, ds, x, rfl, hL, hk, hx, rfl⟩ ⟨pv', dv', ps', ds', x', e, hL', hk', hx', rfl⟩
    simp only [List.cons.injEq, Value.agg.injEq, Array.mk.injEq, and_true] at e
    obtain ⟨e1, e2⟩ := e
    obtain ⟨rfl, rfl, _⟩ := l63_inj e1
    have := hL.uniqP hL'
    subst this
    have := hL.uniqD hL'
    subst this
    have := arC_uniq (z8_of hk hx) (z8_of hk hx') e2
    subst this; rfl
  shut := by
    rintro _ _ _ ⟨pv, dv, ps, ds, x, h1, h2, h3⟩
    exact ⟨pv, dv, ps, ds, x, h1, h2.shut, h3⟩
theorem run51 {ov : Ov} (ho : ∀ args w, ov 51 args w = none) (ho61 : ∀ args w, ov 61 args w = none) (ho74 : ∀ args w, ov 74 args w = none) (h44 : HasP ov 44 S44.F) (h63 : HasP ov 63 S63.F) (pv dv : Value) (ps : List Pt) (ds : List Dt) (x : Int → Int) (w : AW) (hl : w.lim = w.next) (hL : LedV w pv dv ps ds) (hk : LK ps ds) (hx : ∀ p, 0 ≤ x p ∧ x p ≤ owD ds p) :
    ∃ v w', (run Try.prog ov 4).call 51 [.agg ⟨l63 pv dv (owD ds)⟩, .agg ⟨arC x⟩] w .none = .ok (.ret v) w' .none ∧ v = .agg ⟨arC (leD ps ds x)⟩ := by
  refine call_wpY text51 (by simp) (ho _ _) ?_
  have hl22 := fun w2 => len22V (w' := w2) hL.p
  obtain ⟨w1, hw1⟩ : ∃ w1, w1 = (⟨((w.heap.put w.next (some (.cells (pv :: dv :: arC (owD ds)) 63 false))).put (w.next + 1) (some (.cells (arC x) 61 false))).put (w.next + 1 + 1) (some (.cells (arC fun _ => 0) 61 false)), w.next + 1 + 1 + 1, w.lim⟩ : AW) := ⟨_, rfl⟩
  have u1 : Up w w1 := by
    rw [hw1]
    exact (((Up.refl w).put (Nat.le_refl _) (Nat.le_refl _)).put (Nat.le_succ _) (Nat.le_refl _)).put (by omega) (by omega)
  have r44 := S44.call (P := Try.prog) h44 (m := 2) (w := w1) ⟨pv, dv, ps, ds, x, rfl, hL.up u1, hk, hx, rfl⟩
  have hle3 : w.lim ≤ w.next + 1 + 1 + 1 := by omega
  simp only [l63] at r44
  rw [hw1] at r44
  simp [mc51, cellsOf_agg, l63, al61', -al61, r44, arC_drop, hle3, hl22]
  refine wp_seqX (wp_blockX (loop51 0 ho61 ho74 h63 pv dv ps ds hk x hx w _ hL (Nat.le_of_eq hl) ?_ ?_ ?_ ?_ ?_ _ _ ?_ ?_ ?_ ?_ ?_ ?_ ?_))
  case _ => exact (((((Up.refl w).put (Nat.le_refl _) (Nat.le_refl _)).put (Nat.le_succ _) (Nat.le_refl _)).put (by omega) (Nat.le_refl _)).put (by omega) (Nat.le_refl _)).put (by omega) (by show w.next ≤ w.next + 1 + 1 + 1 + 1; omega)
  case _ => rfl
  case _ => simp
  case _ => simp
  case _ => simp
  case _ => simp
  case _ => simp
  case _ => simp
  case _ => simp
  case _ => simp
  case _ => simp
  case _ =>
    intro t w' hkp g5 t4 t5
    have hlm := hkp.lim
    have hnx : w.next + 4 ≤ w'.next := hkp.next
    have hlm' : w'.lim = w.lim := hlm
    have b4 : w'.heap.get (w.next + 2) = some (.cells (arC fun _ => 0) 61 false) := by
      rw [hkp.old (w.next + 2) (by show w.next + 2 < w.next + 4; omega) (by omega)]
      simp
    have q4 : w'.lim ≤ w.next + 2 := by omega
    simp [t4, t5, g5, b4, q4, cellsOf_agg, arC_drop, tupV]
end Go.Proofs.Ythfidomphkednaa.walk

namespace Go.Proofs.Ythfidomphkednaa.walk
open Go Go.Sh
set_option maxRecDepth 100000
set_option linter.unusedSimpArgs false
set_option linter.unusedVariables false
/-! Left, Short -/
noncomputable def lfL (ps : List Pt) (ds : List Dt) : List Int := if chE ps ds = 0 then lsF ps.length (leD ps ds (stF ps ds)) else []
set_option maxHeartbeats 1000000 in
theorem call22 {ov : Ov} (m : Nat) (ho22 : ∀ args w, ov 22 args w = none) (ho40 : ∀ args w, ov 40 args w = none) (ho61 : ∀ args w, ov 61 args w = none) (ho74 : ∀ args w, ov 74 args w = none) (ho43 : ∀ args w, ov 43 args w = none) (ho64 : ∀ args w, ov 64 args w = none) (h62 : HasP ov 62 S62.F) (h17 : HasP ov 17 S17.F) (h49 : HasP ov 49 S49.F) (h51 : HasP ov 51 S51.F)
    (pv dv : Value) (ps : List Pt) (ds : List Dt) (w : AW) (hl : w.lim ≤ w.next) (hL : LedV w pv dv ps ds) :
    ∃ v w', (run Try.prog ov (m + 4)).call 22 [.agg ⟨[pv, dv]⟩] w .none = .ok (.ret v) w' .none ∧ ∃ v1, v = .tuple ⟨[v1, .int .i64 (chE ps ds)]⟩ ∧ RowsV intC w' v1 (lfL ps ds) ∧ Up w w' := by
  refine call_wp text22 (by simp) (ho22 _ _) ?_
  have nn : notJunk (.slice none 0 0) = some (.slice none 0 0) := rfl
  obtain ⟨w1, hw1⟩ : ∃ w1, w1 = (⟨w.heap.put w.next (some (.cells [pv, dv] 25 false)), w.next + 1, w.lim⟩ : AW) := ⟨_, rfl⟩
  have u1 : Up w w1 := hw1 ▸ (Up.refl w).add _
  have n1 : w1.next = w.next + 1 := by rw [hw1]
  have m1 : w1.lim = w.lim := by rw [hw1]
  have r17 := S17.call (P := Try.prog) h17 (m := m + 2) ⟨pv, dv, ps, ds, rfl, hL.up u1, rfl⟩
  by_cases hC : chE ps ds = 0
  case neg =>
    have e2 : lfL ps ds = [] := by unfold lfL; rw [if_neg hC]
    rw [hw1] at r17
    simp [mc22, cellsOf_agg, r17, hC, nn, tupV, e2]
    rw [hw1] at u1
    exact ⟨.inl ⟨rfl, _, _, rfl⟩, u1⟩
  case pos =>
    have hO := ch_lk hC
    have hk : LK ps ds := hO.up (by decide)
    rw [hC] at r17
    obtain ⟨_, w2, c40, rfl, u2⟩ := call40 (ov := ov) m ho40 ho61 ho74 h62 pv dv ps ds w1 (by omega) (hL.up u1) hk
    have n2 := u2.next
    have m2 := u2.lim
    have q2 : w2.lim ≤ w2.next := by omega
    have key : ∀ cs : List Value, ∀ w4 : AW, w4 = ⟨(w2.heap.put w2.next (some (.cells cs 63 false))).put w2.next (some (.cells (l63 pv dv (owD ds)) 63 false)), w2.next + 1, w2.lim⟩ → Up w w4 ∧ w4.heap.get w2.next = some (.cells (pv :: dv :: arC (owD ds)) 63 false) := fun cs w4 e => by
      rw [e]
      exact ⟨(u1.trans u2).trans (((Up.refl w2).add _).put (Nat.le_refl _) (Nat.le_refl _)), by simp [l63]⟩
    rw [hw1] at r17 c40
    simp only [l63] at c40
    have s3 := sg63 hL (owD ds)
    simp [mc22, cellsOf_agg, r17, c40, q2, s3, l63_take, l63_drop]
    generalize hw4 : (⟨(w2.heap.put w2.next (some (.cells [.slice none 0 0, .slice none 0 0, .int .i64 0, .int .i64 0, .int .i64 0, .int .i64 0, .int .i64 0, .int .i64 0, .int .i64 0, .int .i64 0] 63 false))).put w2.next (some (.cells (pv :: dv :: arC (owD ds)) 63 false)), w2.next + 1, w2.lim⟩ : AW) = w4
    obtain ⟨u4, g4⟩ := key _ w4 hw4.symm
    have n4 : w4.next = w2.next + 1 := by rw [← hw4]
    have m4 : w4.lim = w2.lim := by rw [← hw4]
    have r49 := S49.call (P := Try.prog) h49 (m := m + 2) (w := w4) ⟨pv, dv, ps, ds, rfl, hL.up u4, hk, rfl⟩
    have r51 := S51.call (P := Try.prog) h51 (m := m + 2) (w := w4) ⟨pv, dv, ps, ds, stF ps ds, rfl, hL.up u4, hk, st_rng hk, rfl⟩
    have s2 := sm63 hL (owD ds)
    have e2 : lfL ps ds = lsF ps.length (leD ps ds (stF ps ds)) := by unfold lfL; rw [if_pos hC]
    obtain ⟨v1, w6, c43, hr1, u6, j1⟩ := call43 (ov := ov) (m + 1) ho43 ho64 pv dv (owD ds) (leD ps ds (stF ps ds)) ps ds w4 (by omega) (hL.up u4) hO.n1 hO.n8
    simp only [l63] at r49 r51 c43
    simp [r49, r51, g4, c43, s2, j1, hC, tupV, e2]
    exact ⟨hr1, u4.trans u6⟩
noncomputable def shB (ps : List Pt) (ds : List Dt) (i : Nat) : Bool := decide (stF ps ds (i : Int) < owD ds (i : Int))
noncomputable def shP (ps : List Pt) (ds : List Dt) (i : Nat) : List Int := ((List.range i).filter (shB ps ds)).map fun (k : Nat) => (k : Int)
theorem shP_yes {ps : List Pt} {ds : List Dt} {i : Nat} (h : shB ps ds i = true) : shP ps ds (i + 1) = shP ps ds i ++ [(i : Int)] := by
  unfold shP; rw [List.range_succ, List.filter_append, List.map_append]; simp [h]
theorem shP_no {ps : List Pt} {ds : List Dt} {i : Nat} (h : shB ps ds i = false) : shP ps ds (i + 1) = shP ps ds i := by
  unfold shP; rw [List.range_succ, List.filter_append, List.map_append]; simp [h]
theorem shP_len (ps : List Pt) (ds : List Dt) (i : Nat) : (shP ps ds i).length ≤ i := by
  unfold shP; rw [List.length_map]
  have := List.length_filter_le (shB ps ds) (List.range i)
  rwa [List.length_range] at this
theorem call52 {ov : Ov} (m : Nat) (ho : ∀ args w, ov 52 args w = none) (h49 : HasP ov 49 S49.F) (pv dv : Value) (ps : List Pt) (ds : List Dt) (w : AW) (hl : w.lim ≤ w.next) (hL : LedV w pv dv ps ds) (hk : LK ps ds) :
    ∃ v w', (run Try.prog ov (m + 2)).call 52 [.agg ⟨l63 pv dv (owD ds)⟩] w .none = .ok (.ret v) w' .none ∧ RowsV intC w' v (shP ps ds ps.length) ∧ Up w w' ∧ notJunk v = some v := by
  refine call_wp text52 (by simp) (ho _ _) ?_
  have hl22 := fun w2 => len22V (w' := w2) hL.p
  have h8 := hk.n8
  obtain ⟨w1, hw1⟩ : ∃ w1, w1 = (⟨w.heap.put w.next (some (.cells (pv :: dv :: arC (owD ds)) 63 false)), w.next + 1, w.lim⟩ : AW) := ⟨_, rfl⟩
  have u1 : Up w w1 := hw1 ▸ (Up.refl w).add _
  have r49 := S49.call (P := Try.prog) h49 (m := m) (w := w1) ⟨pv, dv, ps, ds, rfl, hL.up u1, hk, rfl⟩
  obtain ⟨w2, hw2⟩ : ∃ w2, w2 = (⟨(w1.heap.put (w.next + 1) (some (.cells (arC fun _ => 0) 61 false))).put (w.next + 1) (some (.cells (arC (stF ps ds)) 61 false)), w.next + 1 + 1, w.lim⟩ : AW) := ⟨_, rfl⟩
  have u2 : Up w w2 := by
    rw [hw2, hw1]
    exact (((Up.refl w).put (Nat.le_refl _) (Nat.le_refl _)).put (Nat.le_succ _) (Nat.le_refl _)).put (Nat.le_succ _) (by omega)
  have n2 : w2.next = w.next + 1 + 1 := by rw [hw2]
  have m2 : w2.lim = w.lim := by rw [hw2]
  have a1 : w2.heap.get w.next = some (.cells (pv :: dv :: arC (owD ds)) 63 false) := by rw [hw2, hw1]; simp
  have a4 : w2.heap.get (w.next + 1) = some (.cells (arC (stF ps ds)) 61 false) := by rw [hw2]; simp
  have hle : w.lim ≤ w.next + 1 := by omega
  rw [hw1] at r49 hw2
  simp only [l63] at r49
  simp [mc52, cellsOf_agg, l63, al61', -al61, r49, arC_drop, hle, hl22]
  rw [← hw2]
  refine wp_seqX (wp_blockX (wp_rounds (fun i t w' => Up w2 w' ∧ (∃ B, AccQ intC 3 (w.next + 1) w' (tget t 3) (shP ps ds i) B) ∧ tget t 1 = .pointer (some ⟨w.next, 0, none⟩) ∧ tget t 4 = .pointer (some ⟨w.next + 1, 0, none⟩) ∧ tget t 11 = .int .i64 (ps.length : Nat) ∧ tget t 12 = .int .i64 (i : Nat) ∧ i ≤ ps.length) 20 (by decide) ⟨Up.refl _, ⟨0, .inl ⟨by simp [shP], by simp⟩⟩, by simp, by simp, by simp, by simp, Nat.zero_le _⟩ ?_))
  rintro i t w' ⟨hu, ⟨B, hacc⟩, t1, t4, t11, t12, hi⟩
  have hw1' : IntKind.wrap .i64 ((i : Int) + 1) = (i : Int) + 1 := wrap64_in (by omega) (by omega)
  have hlm := hu.lim
  have hnx := hu.next
  by_cases hlt : i < ps.length
  · have b1 := hu.at (b := w.next) (by omega)
    rw [a1] at b1
    have b4 := hu.at (b := w.next + 1) (by omega)
    rw [a4] at b4
    have hi8 : i < 8 := by omega
    have hia6 := fun w a => ia61 w a .i64 hi8
    have hgt := arC_get (stF ps ds) hi8
    have hgo := l63_at pv dv (owD ds) hi8
    have hb : shB ps ds i = decide (stF ps ds (i : Int) < owD ds (i : Int)) := rfl
    obtain ⟨S, hS⟩ : ∃ S, S = stF ps ds (i : Int) := ⟨_, rfl⟩
    obtain ⟨O, hO⟩ : ∃ S, S = owD ds (i : Int) := ⟨_, rfl⟩
    rw [← hS] at hgt hb
    rw [← hO] at hgo hb
    by_cases hc : S < O
    · rw [decide_eq_true hc] at hb
      have hst := shP_yes hb
      obtain ⟨v', w4, hap, ⟨B', hB', hacc'⟩, hkp, hn4, hl4⟩ := AccQ.push (P := Try.prog) (st := 26) (sz := 1) list26 elem26 size3 small3 intC_length (fun _ => by simp [intC]) (by decide) hacc (by omega) (by omega) (by have := shP_len ps ds i; omega) (i : Int)
      rw [← hst] at hacc'
      simp only [intC] at hap
      simp [mc52_l0, t1, t4, t11, t12, hlt, b1, b4, hia6, hgt, hgo, hS.symm, hO.symm, hc, hap, hw1']
      exact ⟨by omega, ⟨fun x hx => by rw [hkp x (by omega) (fun hne => by have := hacc.lt hne; omega)]; exact hu.at hx, by omega, by omega⟩, ⟨B', hacc'⟩, hlt⟩
    · rw [decide_eq_false hc] at hb
      have hst := shP_no hb
      rw [← hst] at hacc
      simp [mc52_l0, t1, t4, t11, t12, hlt, b1, b4, hia6, hgt, hgo, hS.symm, hO.symm, hc, hw1']
      exact ⟨by omega, hu, ⟨B, hacc⟩, hlt⟩
  · have hi' : i = ps.length := by omega
    subst hi'
    have hok := hacc.ok
    simp [mc52_l0, t11, t12, hok, tupV]
    exact ⟨hacc.rows, u2.trans hu⟩
noncomputable def shL (ps : List Pt) (ds : List Dt) : List Int := if chE ps ds = 0 then shP ps ds ps.length else []
theorem call24 {ov : Ov} (m : Nat) (ho24 : ∀ args w, ov 24 args w = none) (ho40 : ∀ args w, ov 40 args w = none) (ho61 : ∀ args w, ov 61 args w = none) (ho74 : ∀ args w, ov 74 args w = none) (ho52 : ∀ args w, ov 52 args w = none) (h62 : HasP ov 62 S62.F) (h17 : HasP ov 17 S17.F) (h49 : HasP ov 49 S49.F)
    (pv dv : Value) (ps : List Pt) (ds : List Dt) (w : AW) (hl : w.lim ≤ w.next) (hL : LedV w pv dv ps ds) :
    ∃ v w', (run Try.prog ov (m + 4)).call 24 [.agg ⟨[pv, dv]⟩] w .none = .ok (.ret v) w' .none ∧ ∃ v1, v = .tuple ⟨[v1, .int .i64 (chE ps ds)]⟩ ∧ RowsV intC w' v1 (shL ps ds) ∧ Up w w' := by
  refine call_wp text24 (by simp) (ho24 _ _) ?_
  have nn : notJunk (.slice none 0 0) = some (.slice none 0 0) := rfl
  obtain ⟨w1, hw1⟩ : ∃ w1, w1 = (⟨w.heap.put w.next (some (.cells [pv, dv] 25 false)), w.next + 1, w.lim⟩ : AW) := ⟨_, rfl⟩
  have u1 : Up w w1 := hw1 ▸ (Up.refl w).add _
  have n1 : w1.next = w.next + 1 := by rw [hw1]
  have m1 : w1.lim = w.lim := by rw [hw1]
  have r17 := S17.call (P := Try.prog) h17 (m := m + 2) ⟨pv, dv, ps, ds, rfl, hL.up u1, rfl⟩
  by_cases hC : chE ps ds = 0
  case neg =>
    have e2 : shL ps ds = [] := by unfold shL; rw [if_neg hC]
    rw [hw1] at r17
    simp [mc24, cellsOf_agg, r17, hC, nn, tupV, e2]
    rw [hw1] at u1
    exact ⟨.inl ⟨rfl, _, _, rfl⟩, u1⟩
  case pos =>
    have hO := ch_lk hC
    have hk : LK ps ds := hO.up (by decide)
    rw [hC] at r17
    obtain ⟨_, w2, c40, rfl, u2⟩ := call40 (ov := ov) m ho40 ho61 ho74 h62 pv dv ps ds w1 (by omega) (hL.up u1) hk
    have n2 := u2.next
    have m2 := u2.lim
    obtain ⟨v1, w3, c52, hr1, u3, j1⟩ := call52 (ov := ov) (m + 1) ho52 h49 pv dv ps ds w2 (by omega) (hL.up (u1.trans u2)) hk
    have e2 : shL ps ds = shP ps ds ps.length := by unfold shL; rw [if_pos hC]
    rw [hw1] at r17 c40
    simp only [l63] at c40 c52
    simp [mc24, cellsOf_agg, r17, c40, c52, j1, hC, tupV, e2]
    exact ⟨hr1, (u1.trans u2).trans u3⟩
end Go.Proofs.Ythfidomphkednaa.walk
