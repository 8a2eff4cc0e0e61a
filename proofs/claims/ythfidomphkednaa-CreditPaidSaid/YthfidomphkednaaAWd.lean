/- Part of a proof by a machine of ones own: see the text with the theorem. -/
import Derived.Test.YthfidomphkednaaAWc
namespace Go.Proofs.Ythfidomphkednaa.walk
open Go Go.Sh
set_option maxRecDepth 100000
set_option linter.unusedSimpArgs false
set_option linter.unusedVariables false
/-! the law's own small functions -/
def S30 : PSpec where
  R args w v := ∃ (pv dv : Value) (ps : List Pt) (ds : List Dt), args = [.agg ⟨[pv, dv]⟩] ∧ LedV w pv dv ps ds ∧ v = .bool (decide (chE ps ds = 0))
  uniq := by
    rintro _ _ _ _ ⟨pv, dv, ps, ds, rfl, h1, rfl⟩ ⟨pv', dv', ps', ds', h, k1, rfl⟩
    simp only [List.cons.injEq, Value.agg.injEq, Array.mk.injEq, and_true] at h
    obtain ⟨rfl, rfl⟩ := h
    rw [h1.uniqP k1, h1.uniqD k1]
  shut := by
    rintro _ _ _ ⟨pv, dv, ps, ds, h1, h2, h3⟩
    exact ⟨pv, dv, ps, ds, h1, h2.shut, h3⟩
theorem run30 {ov : Ov} (ho : ∀ args w, ov 30 args w = none) (h17 : HasP ov 17 S17.F) (h32 : HasP ov 32 S32.F) (pv dv : Value) (ps : List Pt) (ds : List Dt) (w : AW) (hl : w.lim = w.next) (hL : LedV w pv dv ps ds) : ∃ v w', (run Try.prog ov 2).call 30 [.agg ⟨[pv, dv]⟩] w .none = .ok (.ret v) w' .none ∧ v = .bool (decide (chE ps ds = 0)) := by
  refine call_wp text30 (by simp) (ho _ _) ?_
  have hl22 := fun w2 => len22V (w' := w2) hL.p
  have hl23 := fun w2 => len23V (w' := w2) hL.d
  obtain ⟨w1, hw1⟩ : ∃ w1, w1 = (⟨w.heap.put w.next (some (.cells [pv, dv] 25 false)), w.next + 1, w.lim⟩ : AW) := ⟨_, rfl⟩
  have u1 : Up w w1 := hw1 ▸ (Up.refl w).add _
  have n1 : w1.next = w.next + 1 := by rw [hw1]
  have m1 : w1.lim = w.lim := by rw [hw1]
  have g1 : w1.heap.get w.next = some (.cells [pv, dv] 25 false) := by rw [hw1]; simp
  have r17 := S17.call1 (P := Try.prog) h17 ⟨pv, dv, ps, ds, rfl, hL.up u1, rfl⟩
  have r32 := fun n a b w => S32.call1 (P := Try.prog) h32 (w := w) ⟨n, a, b, rfl, rfl⟩
  by_cases hC : chE ps ds = 0
  case neg =>
    rw [hw1] at r17
    simp [mc30, cellsOf_agg, r17, hC]
    refine wp_seqX (wp_blockX (wp_rounds (fun i t w' => tget t 3 = .bool false) 2 (by decide) (by simp) ?_))
    intro i t w' t3
    simp [mc30_l0, t3, tupV]
  case pos =>
    have hO := ch_lk hC
    have h8 := hO.n8
    have h16 := hO.d16
    have hn1 := hO.n1
    have ei : inI 1 (ps.length : Nat) 8 = true := by simp only [inI, Bool.and_eq_true, decide_eq_true_eq]; omega
    have e16 : (ds.length : Int) ≤ 16 := by omega
    rw [hC, hw1] at r17
    simp [mc30, cellsOf_agg, r17, hC, hl22, hl23, r32, ei, e16]
    rw [← hw1]
    refine wp_seqX (wp_blockX (wp_rounds (fun i t w' => Up w1 w' ∧ tget t 1 = .pointer (some ⟨w.next, 0, none⟩) ∧ tget t 3 = .bool true ∧ tget t 4 = .int .i64 (i : Nat) ∧ i ≤ ds.length) 20 (by decide) ⟨Up.refl _, by simp, by simp, by simp, Nat.zero_le _⟩ ?_))
    rintro i t w' ⟨hu, t1, t3, t4, hi⟩
    have hlm := hu.lim
    have hnx := hu.next
    have g := hu.at (b := w.next) (by omega)
    rw [g1] at g
    by_cases hlt : i < ds.length
    · obtain ⟨d, hd⟩ : ∃ e, ds[i]? = some e := ⟨_, List.getElem?_eq_getElem hlt⟩
      obtain ⟨b, off, sq, c, rfl, hra⟩ := (hL.up (u1.trans hu)).d.at_ i hlt
      have hld := hra.rd dtC_length hd
      have hia := fun w => ia23 w ⟨b, off, sq⟩ ds.length c .i64 i hlt
      have hdb := hO.debt d (List.mem_of_getElem? hd)
      obtain ⟨df, dt, dc⟩ := d
      simp only [dtC] at hld
      simp only at hdb
      have q0 : ¬ w.next = w'.next := by omega
      have q5 : w'.lim ≤ w'.next := by omega
      have hw1' : IntKind.wrap .i64 ((i : Int) + 1) = (i : Int) + 1 := wrap64_in (by omega) (by omega)
      have hw2' : IntKind.wrap .i64 ((ps.length : Int) - 1) = (ps.length : Int) - 1 := wrap64_in (by omega) (by omega)
      have k1 : inI 0 df ((ps.length : Int) - 1) = true := by simp only [inI, Bool.and_eq_true, decide_eq_true_eq]; omega
      have k2 : inI 0 dt ((ps.length : Int) - 1) = true := by simp only [inI, Bool.and_eq_true, decide_eq_true_eq]; omega
      have k3 : inI 1 dc 100000 = true := by simp only [inI, Bool.and_eq_true, decide_eq_true_eq]; omega
      simp [mc30_l0, t1, t3, t4, g, hl22, hl23, hlt, hia, hld, q0, q5, r32, k1, k2, k3, hw1', hw2']
      exact ⟨by omega, (hu.add _).put hu.next (Nat.le_refl _), hlt⟩
    · have hi' : i = ds.length := by omega
      subst hi'
      simp [mc30_l0, t1, t3, t4, g, hl23, tupV]
/-! rows that are made and written into -/
def lsC (n : Nat) (x : Int → Int) : List Value := (List.range n).map fun (k : Nat) => .int .i64 (x (k : Int))
theorem lsC_flat (n : Nat) (x : Int → Int) : (lsF n x).flatMap intC = lsC n x := by
  unfold lsF lsC intC
  rw [List.flatMap_def, List.map_map]
  induction (List.range n) with
  | nil => rfl
  | cons a l ih => simp [ih]
@[simp] theorem lsC_len (n : Nat) (x : Int → Int) : (lsC n x).length = n := by simp [lsC]
theorem lsC_get (n : Nat) (x : Int → Int) {k : Nat} (h : k < n) : (lsC n x)[k]? = some (.int .i64 (x (k : Int))) := by simp [lsC, h]
@[simp] theorem lsC_getE (n : Nat) (x : Int → Int) {k : Nat} (h : k < (lsC n x).length) : (lsC n x)[k] = .int .i64 (x (k : Int)) := by simp [lsC]
theorem lsC_set (n : Nat) (x : Int → Int) (v : Int) {k : Nat} (h : k < n) : (lsC n x).take k ++ (.int .i64 v :: (lsC n x).drop (k + 1)) = lsC n (updF x (k : Int) v) := by
  apply List.ext_getElem?
  intro j
  have hl := lsC_len n x
  by_cases h1 : j < k
  · rw [List.getElem?_append_left (by rw [List.length_take]; omega), List.getElem?_take_of_lt h1, lsC_get n x (by omega), lsC_get _ _ (by omega)]
    simp [updF, show ¬ (j : Int) = (k : Int) by omega]
  · rw [List.getElem?_append_right (by rw [List.length_take]; omega)]
    have e1 : ((lsC n x).take k).length = k := by rw [List.length_take]; omega
    rw [e1]
    by_cases h2 : j = k
    · subst h2
      rw [Nat.sub_self, List.getElem?_cons_zero, lsC_get _ _ h]
      simp [updF]
    · obtain ⟨e, rfl⟩ : ∃ e, j = k + 1 + e := ⟨j - (k + 1), by omega⟩
      rw [show k + 1 + e - k = e + 1 by omega, List.getElem?_cons_succ, List.getElem?_drop]
      by_cases h3 : k + 1 + e < n
      · rw [lsC_get n x h3, lsC_get _ _ h3]
        simp [updF, show ¬ ((k + 1 + e : Nat) : Int) = (k : Int) by omega]
        try (intro h; omega)
      · rw [List.getElem?_eq_none (by omega), List.getElem?_eq_none (by rw [lsC_len]; omega)]
theorem rows_ls {w : AW} {B n : Nat} {x : Int → Int} (h : w.heap.get B = some (.cells (lsC n x) 3 false)) (hb : B < w.next) (c : Nat) : RowsV intC w (.slice (some ⟨B, 0, none⟩) n c) (lsF n x) :=
  .inr ⟨B, 0, none, c, by rw [lsF_len], ⟨[], [], 3, false, by rw [h, List.nil_append, List.append_nil, lsC_flat], rfl⟩, hb⟩
theorem st_ls {w : AW} {B n : Nat} {x : Int → Int} {v : Int} {k : Nat} (hk : k < n) (hl : w.lim ≤ B) : wrO w B k [.int .i64 v] (some (.cells (lsC n x) 3 false)) = some ⟨w.heap.put B (some (.cells (lsC n (updF x (k : Int) v)) 3 false)), w.next, w.lim⟩ := by
  rw [wrO_cells (by simp) hl (by simp; omega), ← lsC_set n x v hk]
  rfl
theorem mk26 (n : Nat) (hn : n ≤ 1000) (w : AW) : makeSliceA Try.prog w 26 (.int .i64 (n : Int)) (.int .i64 (n : Int)) = .val (.slice (some ⟨w.next, 0, none⟩) n n) ⟨w.heap.put w.next (some (.cells (lsC n fun _ => 0) 3 false)), w.next + 1, w.lim⟩ := by
  rw [make_eq (z := .int .i64 0) elem26 (by kernel_rfl) small3 n hn w]
  have : repl (cellsOf (.int .i64 0)) n = lsC n fun _ => 0 := by
    show repl (intC 0) n = _
    rw [repl_flat, ← lsC_flat]
    congr 1
    apply List.ext_getElem?
    intro j
    by_cases hj : j < n
    · rw [lsF_at n _ hj]; simp [List.getElem?_replicate, hj]
    · rw [List.getElem?_eq_none (by simp; omega), List.getElem?_eq_none (by simp; omega)]
  rw [this]
def owP (ds : List Dt) (i : Nat) : Int → Int := fun p => sI (fun d => if d.f = p then d.c else 0) (ds.take i)
theorem owP_zero (ds : List Dt) : owP ds 0 = fun _ => 0 := by funext p; simp [owP, sI]
theorem owP_all (ds : List Dt) : owP ds ds.length = owD ds := by funext p; simp [owP, owD]
theorem owP_step {ds : List Dt} {i : Nat} {d : Dt} (h : ds[i]? = some d) : updF (owP ds i) d.f (owP ds i d.f + d.c) = owP ds (i + 1) := by
  funext p
  unfold updF owP
  rw [sI_step h]
  by_cases h1 : p = d.f
  · subst h1
    simp only [if_true]
  · have h2 : ¬ d.f = p := fun e => h1 e.symm
    simp only [if_neg h1, if_neg h2]; omega
theorem owP_bd {ps : List Pt} {ds : List Dt} (h : LK ps ds) (i : Nat) (p : Int) : 0 ≤ owP ds i p ∧ owP ds i p ≤ 1600000 := sI_bd (fun d hd => by
  have := (h.debt d (List.mem_of_mem_take hd)).2.2.2
  show 0 ≤ (if d.f = p then d.c else 0) ∧ (if d.f = p then d.c else 0) ≤ 100000
  split <;> omega) (by have := h.d16; rw [List.length_take]; omega)
theorem call31 {ov : Ov} (m : Nat) (ho : ∀ args w, ov 31 args w = none) (pv dv : Value) (ps : List Pt) (ds : List Dt) (w : AW) (hl : w.lim ≤ w.next) (hL : LedV w pv dv ps ds) (hk : LK ps ds) :
    ∃ v w', (run Try.prog ov (m + 1)).call 31 [.agg ⟨[pv, dv]⟩] w .none = .ok (.ret v) w' .none ∧ ∃ B, v = .slice (some ⟨B, 0, none⟩) ps.length ps.length ∧ w'.heap.get B = some (.cells (lsC ps.length (owD ds)) 3 false) ∧ w.next ≤ B ∧ B < w'.next ∧ Up w w' := by
  refine call_wp text31 (by simp) (ho _ _) ?_
  have h8 := hk.n8
  have h16 := hk.d16
  have hl22 := fun w2 => len22V (w' := w2) hL.p
  have hl23 := fun w2 => len23V (w' := w2) hL.d
  have hmk := fun w => mk26 ps.length (by omega) w
  obtain ⟨w1, hw1⟩ : ∃ w1, w1 = (⟨(w.heap.put w.next (some (.cells [pv, dv] 25 false))).put (w.next + 1) (some (.cells (lsC ps.length fun _ => 0) 3 false)), w.next + 1 + 1, w.lim⟩ : AW) := ⟨_, rfl⟩
  have u1 : Up w w1 := by
    rw [hw1]
    exact ((Up.refl w).put (Nat.le_refl _) (Nat.le_refl _)).put (Nat.le_succ _) (by omega)
  have n1 : w1.next = w.next + 1 + 1 := by rw [hw1]
  have m1 : w1.lim = w.lim := by rw [hw1]
  have g1 : w1.heap.get w.next = some (.cells [pv, dv] 25 false) := by rw [hw1]; simp
  have g2 : w1.heap.get (w.next + 1) = some (.cells (lsC ps.length (owP ds 0)) 3 false) := by rw [hw1, owP_zero]; simp
  simp [mc31, cellsOf_agg, hl22, hmk]
  rw [← hw1]
  refine wp_seqX (wp_blockX (wp_rounds (fun i t w' => Kp (w.next + 1) w1 w' ∧ w'.heap.get (w.next + 1) = some (.cells (lsC ps.length (owP ds i)) 3 false) ∧ tget t 1 = .pointer (some ⟨w.next, 0, none⟩) ∧ tget t 3 = .slice (some ⟨w.next + 1, 0, none⟩) ps.length ps.length ∧ tget t 4 = .int .i64 (i : Nat) ∧ i ≤ ds.length) 20 (by decide) ⟨Kp.refl _ _, g2, by simp, by simp, by simp, Nat.zero_le _⟩ ?_))
  rintro i t w' ⟨hkp, g3, t1, t3, t4, hi⟩
  have hlm := hkp.lim
  have hnx := hkp.next
  have g := hkp.old w.next (by omega) (by omega)
  rw [g1] at g
  by_cases hlt : i < ds.length
  · obtain ⟨d, hd⟩ : ∃ e, ds[i]? = some e := ⟨_, List.getElem?_eq_getElem hlt⟩
    obtain ⟨b, off, sq, c, rfl, hra⟩ := (hL.up (hkp.up u1 (by omega))).d.at_ i hlt
    have hl0 := hra.rd1 (j := 0) dtC_length hd (x := .int .i64 d.f) rfl
    have hl2 := hra.rd1 (j := 2) dtC_length hd (x := .int .i64 d.c) rfl
    have hia := fun w => ia23 w ⟨b, off, sq⟩ ds.length c .i64 i hlt
    have hdb := hk.debt d (List.mem_of_getElem? hd)
    have hbd := owP_bd hk i d.f
    have hst := owP_step hd
    obtain ⟨df, dt, dc⟩ := d
    simp only [Nat.add_zero] at hdb hl0 hl2 hbd hst
    obtain ⟨k, rfl⟩ : ∃ k : Nat, df = (k : Int) := ⟨df.toNat, by omega⟩
    have hkn : k < ps.length := by omega
    have hia6 := fun w => ia26 w ⟨w.next + 1, 0, none⟩ ps.length ps.length .i64 k hkn
    have hia6' := fun w2 => ia26 w2 ⟨w.next + 1, 0, none⟩ ps.length ps.length .i64 k hkn
    simp only [Nat.mul_one] at hia6'
    have hgt := lsC_get ps.length (owP ds i) hkn
    obtain ⟨U, hU⟩ : ∃ U, U = owP ds i (k : Int) := ⟨_, rfl⟩
    rw [← hU] at hgt hbd hst
    have w1' : IntKind.wrap .i64 (U + dc) = U + dc := wrap64_in (by omega) (by omega)
    have w2' : IntKind.wrap .i64 ((i : Int) + 1) = (i : Int) + 1 := wrap64_in (by omega) (by omega)
    have q2 : w'.lim ≤ w.next + 1 := by omega
    have hs' := st_ls (w := w') (B := w.next + 1) (n := ps.length) (x := owP ds i) (v := U + dc) hkn q2
    rw [hst] at hs'
    simp [mc31_l0, t1, t3, t4, g, hl23, hlt, hia, hl0, hl2, hia6', g3, hgt, hU.symm, w1', w2', hs', -wrO_cells]
    exact ⟨by omega, hkp.new (.inr rfl) (Nat.le_refl _), hlt⟩
  · have hi' : i = ds.length := by omega
    subst hi'
    rw [owP_all] at g3
    have nj : ∀ (a : Addr) n c, notJunk (.slice (some a) n c) = some (.slice (some a) n c) := fun _ _ _ => rfl
    simp [mc31_l0, t1, t3, t4, g, hl23, nj, tupV]
    exact ⟨g3, by omega, hkp.up u1 (by omega)⟩
end Go.Proofs.Ythfidomphkednaa.walk

namespace Go.Proofs.Ythfidomphkednaa.walk
open Go Go.Sh
set_option maxRecDepth 100000
set_option linter.unusedSimpArgs false
set_option linter.unusedVariables false
/-! CreditSettled -/
def HasW (ov : Ov) : Prop := ∀ w, ov 19 [] w = some (.ok (.ret (.bool true)) w .none)
theorem ruleW {ov : Ov} (h : HasW ov) (m : Nat) (w : AW) : (run Try.prog ov (m + 1)).call 19 [] w .none = .ok (.ret (.bool true)) w .none := by
  show stepO Try.prog (run Try.prog ov m) 19 [] w .none (ov 19 [] w) = _
  rw [h w]; rfl
/-- the place and the number in a row that is read -/
theorem row_ld {w : AW} {v : Value} {L : List Int} (h : RowsV intC w v L) {i : Nat} {z : Int} (hz : L[i]? = some z) :
    ∃ b off sq c, v = .slice (some ⟨b, off, sq⟩) L.length c ∧ rd1O (w.heap.get b) (off + i) = some (.int .i64 z) ∧ ∀ w2 : AW, indexAddrA Try.prog w2 26 (.slice (some ⟨b, off, sq⟩) L.length c) (.int .i64 (i : Nat)) = .val (.pointer (some ((⟨b, off, sq⟩ : Addr).add i))) w2 := by
  have hlt : i < L.length := (List.getElem?_eq_some_iff.1 hz).1
  obtain ⟨b, off, sq, c, rfl, hra⟩ := h.at_ i hlt
  refine ⟨b, off, sq, c, rfl, hra.int hz, fun w2 => ?_⟩
  have := ia26 w2 ⟨b, off, sq⟩ L.length c .i64 i hlt
  rw [this, Nat.mul_one]
theorem pay_of {ps : List Pt} {ds : List Dt} {L : List Int} (hl : L.length = ps.length) (h : ∀ (i : Nat) z, L[i]? = some z → 0 ≤ z ∧ z ≤ owD ds (i : Int)) : payB ps ds L = true := by
  unfold payB
  rw [decide_eq_true hl, Bool.true_and, List.all_eq_true]
  intro i hi
  have hlt := List.mem_range.1 hi
  have := h i _ (List.getElem?_eq_getElem hlt)
  simp only [pyB, inI, Bool.and_eq_true, decide_eq_true_eq]
  rw [liF_at (List.getElem?_eq_getElem hlt)]
  exact this
end Go.Proofs.Ythfidomphkednaa.walk
