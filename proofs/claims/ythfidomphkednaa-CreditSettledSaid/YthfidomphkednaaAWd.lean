/- Part of a proof by a machine of ones own: see the text with the theorem. -/
import Derived.Test.YthfidomphkednaaAWc
namespace Go.Proofs.Ythfidomphkednaa.walk
open Go Go.Sh
set_option maxRecDepth 100000
set_option linter.unusedSimpArgs false
set_option linter.unusedVariables false
/-! the law's own small functions -/
def S30 : PSpec where
  R args w v := ∃ (pv dv : Value) (ps : List Pt) (ds : List Dt), args = [.agg ⟨[pv, dv]⟩] ∧ LedV w pv dv ps ds ∧ v = .bool (decide (chE ps ds = 0))
  uniq := by
    rintro _ _ _ _ ⟨pv, dv, ps, ds, rfl, h1, rfl⟩ ⟨pv', dv', ps', ds', h, k1, rfl⟩
    simp only [List.cons.injEq, Value.agg.injEq, Array.mk.injEq, and_true] at h
    obtain ⟨rfl, rfl⟩ := h
    rw [h1.uniqP k1, h1.uniqD k1]
  shut := by
    rintro _ _ _ ⟨pv, dv, ps, ds, h1, h2, h3⟩
    exact ⟨pv, dv, ps, ds, h1, h2.shut, h3⟩
theorem run30 {ov : Ov} (ho : ∀ args w, ov 30 args w = none) (h17 : HasP ov 17 S17.F) (h32 : HasP ov 32 S32.F) (pv dv : Value) (ps : List Pt) (ds : List Dt) (w : AW) (hl : w.lim = w.next) (hL : LedV w pv dv ps ds) : ∃ v w', (run Try.prog ov 2).call 30 [.agg ⟨[pv, dv]⟩] w .none = .ok (.ret v) w' .none ∧ v = .bool (decide (chE ps ds = 0)) := by
  refine call_wp text30 (by simp) (ho _ _) ?_
  have hl22 := fun w2 => len22V (w' := w2) hL.p
  have hl23 := fun w2 => len23V (w' := w2) hL.d
  obtain ⟨w1, hw1⟩ : ∃ w1, w1 = (⟨w.heap.put w.next (some (.cells [pv, dv] 25 false)), w.next + 1, w.lim⟩ : AW) := ⟨_, rfl⟩
  have u1 : Up w w1 := hw1 ▸ (Up.refl w).add _
  have n1 : w1.next = w.next + 1 := by rw [hw1]
  have m1 : w1.lim = w.lim := by rw [hw1]
  have g1 : w1.heap.get w.next = some (.cells [pv, dv] 25 false) := by rw [hw1]; simp
  have r17 := S17.call1 (P := Try.prog) h17 ⟨pv, dv, ps, ds, rfl, hL.up u1, rfl⟩
  have r32 := fun n a b w => S32.call1 (P := Try.prog) h32 (w := w) ⟨n, a, b, rfl, rfl⟩
  by_cases hC : chE ps ds = 0
  case neg =>
    rw [hw1] at r17
    simp [mc30, cellsOf_agg, r17, hC]
    refine wp_seqX (wp_blockX (wp_rounds (fun i t w' => tget t 3 = .bool false) 2 (by decide) (by simp) ?_))
    intro i t w' t3
    simp [mc30_l0, t3, tupV]
  case pos =>
    have hO := ch_lk hC
    have h8 := hO.n8
    have h16 := hO.d16
    have hn1 := hO.n1
    have ei : inI 1 (ps.length : Nat) 8 = true := by simp only [inI, Bool.and_eq_true, decide_eq_true_eq]; omega
    have e16 : (ds.length : Int) ≤ 16 := by omega
    rw [hC, hw1] at r17
    simp [mc30, cellsOf_agg, r17, hC, hl22, hl23, r32, ei, e16]
    rw [← hw1]
    refine wp_seqX (wp_blockX (wp_rounds (fun i t w' => Up w1 w' ∧ tget t 1 = .pointer (some ⟨w.next, 0, none⟩) ∧ tget t 3 = .bool true ∧ tget t 4 = .int .i64 (i : Nat) ∧ i ≤ ds.length) 20 (by decide) ⟨Up.refl _, by simp, by simp, by simp, Nat.zero_le _⟩ ?_))
    rintro i t w' ⟨hu, t1, t3, t4, hi⟩
    have hlm := hu.lim
    have hnx := hu.next
    have g := hu.at (b := w.next) (by omega)
    rw [g1] at g
    by_cases hlt : i < ds.length
    · obtain ⟨d, hd⟩ : ∃ e, ds[i]? = some e := ⟨_, List.getElem?_eq_getElem hlt⟩
      obtain ⟨b, off, sq, c, rfl, hra⟩ := (hL.up (u1.trans hu)).d.at_ i hlt
      have hld := hra.rd dtC_length hd
      have hia := fun w => ia23 w ⟨b, off, sq⟩ ds.length c .i64 i hlt
      have hdb := hO.debt d (List.mem_of_getElem? hd)
      obtain ⟨df, dt, dc⟩ := d
      simp only [dtC] at hld
      simp only at hdb
      have q0 : ¬ w.next = w'.next := by omega
      have q5 : w'.lim ≤ w'.next := by omega
      have hw1' : IntKind.wrap .i64 ((i : Int) + 1) = (i : Int) + 1 := wrap64_in (by omega) (by omega)
      have hw2' : IntKind.wrap .i64 ((ps.length : Int) - 1) = (ps.length : Int) - 1 := wrap64_in (by omega) (by omega)
      have k1 : inI 0 df ((ps.length : Int) - 1) = true := by simp only [inI, Bool.and_eq_true, decide_eq_true_eq]; omega
      have k2 : inI 0 dt ((ps.length : Int) - 1) = true := by simp only [inI, Bool.and_eq_true, decide_eq_true_eq]; omega
      have k3 : inI 1 dc 100000 = true := by simp only [inI, Bool.and_eq_true, decide_eq_true_eq]; omega
      simp [mc30_l0, t1, t3, t4, g, hl22, hl23, hlt, hia, hld, q0, q5, r32, k1, k2, k3, hw1', hw2']
      exact ⟨by omega, (hu.add _).put hu.next (Nat.le_refl _), hlt⟩
    · have hi' : i = ds.length := by omega
      subst hi'
      simp [mc30_l0, t1, t3, t4, g, hl23, tupV]
/-! rows that are made and written into -/
def lsC (n : Nat) (x : Int → Int) : List Value := (List.range n).map fun (k : Nat) => .int .i64 (x (k : Int))
theorem lsC_flat (n : Nat) (x : Int → Int) : (lsF n x).flatMap intC = lsC n x := by
  unfold lsF lsC intC
  rw [List.flatMap_def, List.map_map]
  induction (List.range n) with
  | nil => rfl
  | cons a l ih => simp [ih]
@[simp] theorem lsC_len (n : Nat) (x : Int → Int) : (lsC n x).length = n := by simp [lsC]
theorem lsC_get (n : Nat) (x : Int → Int) {k : Nat} (h : k < n) : (lsC n x)[k]? = some (.int .i64 (x (k : Int))) := by simp [lsC, h]
@[simp] theorem lsC_getE (n : Nat) (x : Int → Int) {k : Nat} (h : k < (lsC n x).length) : (lsC n x)[k] = .int .i64 (x (k : Int)) := by simp [lsC]
theorem lsC_set (n : Nat) (x : Int → Int) (v : Int) {k : Nat} (h : k < n) : (lsC n x).take k ++ (.int .i64 v :: (lsC n x).drop (k + 1)) = lsC n (updF x (k : Int) v) := by
  apply List.ext_getElem?
  intro j
  have hl := lsC_len n x
  by_cases h1 : j < k
  · rw [List.getElem?_append_left (by rw [List.length_take]; omega), List.getElem?_take_of_lt h1, lsC_get n x (by omega), lsC_get _ _ (by omega)]
    simp [updF, show ¬ (j : Int) = (k : Int) by omega]
  · rw [List.getElem?_append_right (by rw [List.length_take]; omega)]
    have e1 : ((lsC n x).take k).length = k := by rw [List.length_take]; omega
    rw [e1]
    by_cases h2 : j = k
    · subst h2
      rw [Nat.sub_self, List.getElem?_cons_zero, lsC_get _ _ h]
      simp [updF]
    · obtain ⟨e, rfl⟩ : ∃ e, j = k + 1 + e := ⟨j - (k + 1), by omega⟩
      rw [show k + 1 + e - k = e + 1 by omega, List.getElem?_cons_succ, List.getElem?_drop]
      by_cases h3 : k + 1 + e < n
      · rw [lsC_get n x h3, lsC_get _ _ h3]
        simp [updF, show ¬ ((k + 1 + e : Nat) : Int) = (k : Int) by omega]
        try (intro h; omega)
      · rw [List.getElem?_eq_none (by omega), List.getElem?_eq_none (by rw [lsC_len]; omega)]
theorem rows_ls {w : AW} {B n : Nat} {x : Int → Int} (h : w.heap.get B = some (.cells (lsC n x) 3 false)) (hb : B < w.next) (c : Nat) : RowsV intC w (.slice (some ⟨B, 0, none⟩) n c) (lsF n x) :=
  .inr ⟨B, 0, none, c, by rw [lsF_len], ⟨[], [], 3, false, by rw [h, List.nil_append, List.append_nil, lsC_flat], rfl⟩, hb⟩
theorem st_ls {w : AW} {B n : Nat} {x : Int → Int} {v : Int} {k : Nat} (hk : k < n) (hl : w.lim ≤ B) : wrO w B k [.int .i64 v] (some (.cells (lsC n x) 3 false)) = some ⟨w.heap.put B (some (.cells (lsC n (updF x (k : Int) v)) 3 false)), w.next, w.lim⟩ := by
  rw [wrO_cells (by simp) hl (by simp; omega), ← lsC_set n x v hk]
  rfl
theorem mk26 (n : Nat) (hn : n ≤ 1000) (w : AW) : makeSliceA Try.prog w 26 (.int .i64 (n : Int)) (.int .i64 (n : Int)) = .val (.slice (some ⟨w.next, 0, none⟩) n n) ⟨w.heap.put w.next (some (.cells (lsC n fun _ => 0) 3 false)), w.next + 1, w.lim⟩ := by
  rw [make_eq (z := .int .i64 0) elem26 (by kernel_rfl) small3 n hn w]
  have : repl (cellsOf (.int .i64 0)) n = lsC n fun _ => 0 := by
    show repl (intC 0) n = _
    rw [repl_flat, ← lsC_flat]
    congr 1
    apply List.ext_getElem?
    intro j
    by_cases hj : j < n
    · rw [lsF_at n _ hj]; simp [List.getElem?_replicate, hj]
    · rw [List.getElem?_eq_none (by simp; omega), List.getElem?_eq_none (by simp; omega)]
  rw [this]
def owP (ds : List Dt) (i : Nat) : Int → Int := fun p => sI (fun d => if d.f = p then d.c else 0) (ds.take i)
theorem owP_zero (ds : List Dt) : owP ds 0 = fun _ => 0 := by funext p; simp [owP, sI]
theorem owP_all (ds : List Dt) : owP ds ds.length = owD ds := by funext p; simp [owP, owD]
theorem owP_step {ds : List Dt} {i : Nat} {d : Dt} (h : ds[i]? = some d) : updF (owP ds i) d.f (owP ds i d.f + d.c) = owP ds (i + 1) := by
  funext p
  unfold updF owP
  rw [sI_step h]
  by_cases h1 : p = d.f
  · subst h1
    simp only [if_true]
  · have h2 : ¬ d.f = p := fun e => h1 e.symm
    simp only [if_neg h1, if_neg h2]; omega
theorem owP_bd {ps : List Pt} {ds : List Dt} (h : LK ps ds) (i : Nat) (p : Int) : 0 ≤ owP ds i p ∧ owP ds i p ≤ 1600000 := sI_bd (fun d hd => by
  have := (h.debt d (List.mem_of_mem_take hd)).2.2.2
  show 0 ≤ (if d.f = p then d.c else 0) ∧ (if d.f = p then d.c else 0) ≤ 100000
  split <;> omega) (by have := h.d16; rw [List.length_take]; omega)
theorem call31 {ov : Ov} (m : Nat) (ho : ∀ args w, ov 31 args w = none) (pv dv : Value) (ps : List Pt) (ds : List Dt) (w : AW) (hl : w.lim ≤ w.next) (hL : LedV w pv dv ps ds) (hk : LK ps ds) :
    ∃ v w', (run Try.prog ov (m + 1)).call 31 [.agg ⟨[pv, dv]⟩] w .none = .ok (.ret v) w' .none ∧ ∃ B, v = .slice (some ⟨B, 0, none⟩) ps.length ps.length ∧ w'.heap.get B = some (.cells (lsC ps.length (owD ds)) 3 false) ∧ w.next ≤ B ∧ B < w'.next ∧ Up w w' := by
  refine call_wp text31 (by simp) (ho _ _) ?_
  have h8 := hk.n8
  have h16 := hk.d16
  have hl22 := fun w2 => len22V (w' := w2) hL.p
  have hl23 := fun w2 => len23V (w' := w2) hL.d
  have hmk := fun w => mk26 ps.length (by omega) w
  obtain ⟨w1, hw1⟩ : ∃ w1, w1 = (⟨(w.heap.put w.next (some (.cells [pv, dv] 25 false))).put (w.next + 1) (some (.cells (lsC ps.length fun _ => 0) 3 false)), w.next + 1 + 1, w.lim⟩ : AW) := ⟨_, rfl⟩
  have u1 : Up w w1 := by
    rw [hw1]
    exact ((Up.refl w).put (Nat.le_refl _) (Nat.le_refl _)).put (Nat.le_succ _) (by omega)
  have n1 : w1.next = w.next + 1 + 1 := by rw [hw1]
  have m1 : w1.lim = w.lim := by rw [hw1]
  have g1 : w1.heap.get w.next = some (.cells [pv, dv] 25 false) := by rw [hw1]; simp
  have g2 : w1.heap.get (w.next + 1) = some (.cells (lsC ps.length (owP ds 0)) 3 false) := by rw [hw1, owP_zero]; simp
  simp [mc31, cellsOf_agg, hl22, hmk]
  rw [← hw1]
  refine wp_seqX (wp_blockX (wp_rounds (fun i t w' => Kp (w.next + 1) w1 w' ∧ w'.heap.get (w.next + 1) = some (.cells (lsC ps.length (owP ds i)) 3 false) ∧ tget t 1 = .pointer (some ⟨w.next, 0, none⟩) ∧ tget t 3 = .slice (some ⟨w.next + 1, 0, none⟩) ps.length ps.length ∧ tget t 4 = .int .i64 (i : Nat) ∧ i ≤ ds.length) 20 (by decide) ⟨Kp.refl _ _, g2, by simp, by simp, by simp, Nat.zero_le _⟩ ?_))
  rintro i t w' ⟨hkp, g3, t1, t3, t4, hi⟩
  have hlm := hkp.lim
  have hnx := hkp.next
  have g := hkp.old w.next (by omega) (by omega)
  rw [g1] at g
  by_cases hlt : i < ds.length
  · obtain ⟨d, hd⟩ : ∃ e, ds[i]? = some e := ⟨_, List.getElem?_eq_getElem hlt⟩
    obtain ⟨b, off, sq, c, rfl, hra⟩ := (hL.up (hkp.up u1 (by omega))).d.at_ i hlt
    have hl0 := hra.rd1 (j := 0) dtC_length hd (x := .int .i64 d.f) rfl
    have hl2 := hra.rd1 (j := 2) dtC_length hd (x := .int .i64 d.c) rfl
    have hia := fun w => ia23 w ⟨b, off, sq⟩ ds.length c .i64 i hlt
    have hdb := hk.debt d (List.mem_of_getElem? hd)
    have hbd := owP_bd hk i d.f
    have hst := owP_step hd
    obtain ⟨df, dt, dc⟩ := d
    simp only [Nat.add_zero] at hdb hl0 hl2 hbd hst
    obtain ⟨k, rfl⟩ : ∃ k : Nat, df = (k : Int) := ⟨df.toNat, by omega⟩
    have hkn : k < ps.length := by omega
    have hia6 := fun w => ia26 w ⟨w.next + 1, 0, none⟩ ps.length ps.length .i64 k hkn
    have hia6' := fun w2 => ia26 w2 ⟨w.next + 1, 0, none⟩ ps.length ps.length .i64 k hkn
    simp only [Nat.mul_one] at hia6'
    have hgt := lsC_get ps.length (owP ds i) hkn
    obtain ⟨U, hU⟩ : ∃ U, U = owP ds i (k : Int) := ⟨_, rfl⟩
    rw [← hU] at hgt hbd hst
    have w1' : IntKind.wrap .i64 (U + dc) = U + dc := wrap64_in (by omega) (by omega)
    have w2' : IntKind.wrap .i64 ((i : Int) + 1) = (i : Int) + 1 := wrap64_in (by omega) (by omega)
    have q2 : w'.lim ≤ w.next + 1 := by omega
    have hs' := st_ls (w := w') (B := w.next + 1) (n := ps.length) (x := owP ds i) (v := U + dc) hkn q2
    rw [hst] at hs'
    simp [mc31_l0, t1, t3, t4, g, hl23, hlt, hia, hl0, hl2, hia6', g3, hgt, hU.symm, w1', w2', hs', -wrO_cells]
    exact ⟨by omega, hkp.new (.inr rfl) (Nat.le_refl _), hlt⟩
  · have hi' : i = ds.length := by omega
    subst hi'
    rw [owP_all] at g3
    have nj : ∀ (a : Addr) n c, notJunk (.slice (some a) n c) = some (.slice (some a) n c) := fun _ _ _ => rfl
    simp [mc31_l0, t1, t3, t4, g, hl23, nj, tupV]
    exact ⟨g3, by omega, hkp.up u1 (by omega)⟩
theorem call45 {ov : Ov} (m : Nat) (ho : ∀ args w, ov 45 args w = none) (pv dv : Value) (ps : List Pt) (ds : List Dt) (w : AW) (hl : w.lim ≤ w.next) (hL : LedV w pv dv ps ds) (hk : LK ps ds) :
    ∃ v w', (run Try.prog ov (m + 1)).call 45 [.agg ⟨[pv, dv]⟩] w .none = .ok (.ret v) w' .none ∧ ∃ B, v = .slice (some ⟨B, 0, none⟩) ps.length ps.length ∧ w'.heap.get B = some (.cells (lsC ps.length (owD ds)) 3 false) ∧ w.next ≤ B ∧ B < w'.next ∧ Up w w' := by
  refine call_wp text45 (by simp) (ho _ _) ?_
  have h8 := hk.n8
  have h16 := hk.d16
  have hl22 := fun w2 => len22V (w' := w2) hL.p
  have hl23 := fun w2 => len23V (w' := w2) hL.d
  have hmk := fun w => mk26 ps.length (by omega) w
  obtain ⟨w1, hw1⟩ : ∃ w1, w1 = (⟨(w.heap.put w.next (some (.cells [pv, dv] 25 false))).put (w.next + 1) (some (.cells (lsC ps.length fun _ => 0) 3 false)), w.next + 1 + 1, w.lim⟩ : AW) := ⟨_, rfl⟩
  have u1 : Up w w1 := by
    rw [hw1]
    exact ((Up.refl w).put (Nat.le_refl _) (Nat.le_refl _)).put (Nat.le_succ _) (by omega)
  have n1 : w1.next = w.next + 1 + 1 := by rw [hw1]
  have m1 : w1.lim = w.lim := by rw [hw1]
  have g1 : w1.heap.get w.next = some (.cells [pv, dv] 25 false) := by rw [hw1]; simp
  have g2 : w1.heap.get (w.next + 1) = some (.cells (lsC ps.length (owP ds 0)) 3 false) := by rw [hw1, owP_zero]; simp
  simp [mc45, cellsOf_agg, hl22, hmk]
  rw [← hw1]
  refine wp_seqX (wp_blockX (wp_rounds (fun i t w' => Kp (w.next + 1) w1 w' ∧ w'.heap.get (w.next + 1) = some (.cells (lsC ps.length (owP ds i)) 3 false) ∧ tget t 1 = .pointer (some ⟨w.next, 0, none⟩) ∧ tget t 3 = .slice (some ⟨w.next + 1, 0, none⟩) ps.length ps.length ∧ tget t 4 = .int .i64 (i : Nat) ∧ i ≤ ds.length) 20 (by decide) ⟨Kp.refl _ _, g2, by simp, by simp, by simp, Nat.zero_le _⟩ ?_))
  rintro i t w' ⟨hkp, g3, t1, t3, t4, hi⟩
  have hlm := hkp.lim
  have hnx := hkp.next
  have g := hkp.old w.next (by omega) (by omega)
  rw [g1] at g
  by_cases hlt : i < ds.length
  · obtain ⟨d, hd⟩ : ∃ e, ds[i]? = some e := ⟨_, List.getElem?_eq_getElem hlt⟩
    obtain ⟨b, off, sq, c, rfl, hra⟩ := (hL.up (hkp.up u1 (by omega))).d.at_ i hlt
    have hl0 := hra.rd1 (j := 0) dtC_length hd (x := .int .i64 d.f) rfl
    have hl2 := hra.rd1 (j := 2) dtC_length hd (x := .int .i64 d.c) rfl
    have hia := fun w => ia23 w ⟨b, off, sq⟩ ds.length c .i64 i hlt
    have hdb := hk.debt d (List.mem_of_getElem? hd)
    have hbd := owP_bd hk i d.f
    have hst := owP_step hd
    obtain ⟨df, dt, dc⟩ := d
    simp only [Nat.add_zero] at hdb hl0 hl2 hbd hst
    obtain ⟨k, rfl⟩ : ∃ k : Nat, df = (k : Int) := ⟨df.toNat, by omega⟩
    have hkn : k < ps.length := by omega
    have hia6 := fun w => ia26 w ⟨w.next + 1, 0, none⟩ ps.length ps.length .i64 k hkn
    have hia6' := fun w2 => ia26 w2 ⟨w.next + 1, 0, none⟩ ps.length ps.length .i64 k hkn
    simp only [Nat.mul_one] at hia6'
    have hgt := lsC_get ps.length (owP ds i) hkn
    obtain ⟨U, hU⟩ : ∃ U, U = owP ds i (k : Int) := ⟨_, rfl⟩
    rw [← hU] at hgt hbd hst
    have w1' : IntKind.wrap .i64 (U + dc) = U + dc := wrap64_in (by omega) (by omega)
    have w2' : IntKind.wrap .i64 ((i : Int) + 1) = (i : Int) + 1 := wrap64_in (by omega) (by omega)
    have q2 : w'.lim ≤ w.next + 1 := by omega
    have hs' := st_ls (w := w') (B := w.next + 1) (n := ps.length) (x := owP ds i) (v := U + dc) hkn q2
    rw [hst] at hs'
    simp [mc45_l0, t1, t3, t4, g, hl23, hlt, hia, hl0, hl2, hia6', g3, hgt, hU.symm, w1', w2', hs', -wrO_cells]
    exact ⟨by omega, hkp.new (.inr rfl) (Nat.le_refl _), hlt⟩
  · have hi' : i = ds.length := by omega
    subst hi'
    rw [owP_all] at g3
    have nj : ∀ (a : Addr) n c, notJunk (.slice (some a) n c) = some (.slice (some a) n c) := fun _ _ _ => rfl
    simp [mc45_l0, t1, t3, t4, g, hl23, nj, tupV]
    exact ⟨g3, by omega, hkp.up u1 (by omega)⟩
end Go.Proofs.Ythfidomphkednaa.walk

namespace Go.Proofs.Ythfidomphkednaa.walk
open Go Go.Sh
set_option maxRecDepth 100000
set_option linter.unusedSimpArgs false
set_option linter.unusedVariables false
/-! CreditSettled -/
def HasW (ov : Ov) : Prop := ∀ w, ov 19 [] w = some (.ok (.ret (.bool true)) w .none)
theorem ruleW {ov : Ov} (h : HasW ov) (m : Nat) (w : AW) : (run Try.prog ov (m + 1)).call 19 [] w .none = .ok (.ret (.bool true)) w .none := by
  show stepO Try.prog (run Try.prog ov m) 19 [] w .none (ov 19 [] w) = _
  rw [h w]; rfl
/-- the place and the number in a row that is read -/
theorem row_ld {w : AW} {v : Value} {L : List Int} (h : RowsV intC w v L) {i : Nat} {z : Int} (hz : L[i]? = some z) :
    ∃ b off sq c, v = .slice (some ⟨b, off, sq⟩) L.length c ∧ rd1O (w.heap.get b) (off + i) = some (.int .i64 z) ∧ ∀ w2 : AW, indexAddrA Try.prog w2 26 (.slice (some ⟨b, off, sq⟩) L.length c) (.int .i64 (i : Nat)) = .val (.pointer (some ((⟨b, off, sq⟩ : Addr).add i))) w2 := by
  have hlt : i < L.length := (List.getElem?_eq_some_iff.1 hz).1
  obtain ⟨b, off, sq, c, rfl, hra⟩ := h.at_ i hlt
  refine ⟨b, off, sq, c, rfl, hra.int hz, fun w2 => ?_⟩
  have := ia26 w2 ⟨b, off, sq⟩ L.length c .i64 i hlt
  rw [this, Nat.mul_one]
theorem liF_ls {n : Nat} {x : Int → Int} (h : ∀ p, p < 0 ∨ (n : Int) ≤ p → x p = 0) : liF (lsF n x) = x := by
  funext p
  by_cases hp : p < 0 ∨ (n : Int) ≤ p
  · rw [h p hp, liF_out (by rw [lsF_len]; exact hp)]
  · have := liF_at (lsF_at n x (k := p.toNat) (by omega))
    rwa [show ((p.toNat : Nat) : Int) = p by omega] at this
theorem st_out {ps : List Pt} {ds : List Dt} (hk : LK ps ds) {p : Int} (hp : p < 0 ∨ (ps.length : Int) ≤ p) : stF ps ds p = 0 := by
  have h1 := hk.ow_out hp
  have h2 := st_rng hk p
  omega
theorem pay_of {ps : List Pt} {ds : List Dt} {L : List Int} (hl : L.length = ps.length) (h : ∀ (i : Nat) z, L[i]? = some z → 0 ≤ z ∧ z ≤ owD ds (i : Int)) : payB ps ds L = true := by
  unfold payB
  rw [decide_eq_true hl, Bool.true_and, List.all_eq_true]
  intro i hi
  have hlt := List.mem_range.1 hi
  have := h i _ (List.getElem?_eq_getElem hlt)
  simp only [pyB, inI, Bool.and_eq_true, decide_eq_true_eq]
  rw [liF_at (List.getElem?_eq_getElem hlt)]
  exact this
theorem st_pay {ps : List Pt} {ds : List Dt} (hk : LK ps ds) : payB ps ds (lsF ps.length (stF ps ds)) = true := pay_of (lsF_len _ _) fun i z hz => by
  have hlt : i < ps.length := by have := (List.getElem?_eq_some_iff.1 hz).1; simpa using this
  rw [lsF_at _ _ hlt] at hz
  cases hz
  exact st_rng hk _
noncomputable def otI (bits : List Int) (ps : List Pt) (ds : List Dt) (i : Nat) : Int := if 0 < wrapI (nthI bits (i : Int)) 3 then min (owD ds (i : Int)) (stF ps ds (i : Int) + wrapI (nthI bits ((i : Int) + 1)) 4) else wrapI (nthI bits (i : Int)) (owD ds (i : Int) + 1)
theorem ot_rng {bits : List Int} {ps : List Pt} {ds : List Dt} (hk : LK ps ds) (i : Nat) : 0 ≤ otI bits ps ds i ∧ otI bits ps ds i ≤ owD ds (i : Int) := by
  have h1 := st_rng hk (i : Int)
  have h2 := hk.ow_nonneg (i : Int)
  have h3 := wrapI_bd (n := nthI bits ((i : Int) + 1)) (s := 4) (by decide)
  have h4 := wrapI_bd (n := nthI bits (i : Int)) (s := owD ds (i : Int) + 1) (by omega)
  unfold otI
  split <;> omega
noncomputable def otL (bits : List Int) (ps : List Pt) (ds : List Dt) (i : Nat) : List Int := (List.range i).map (otI bits ps ds)
theorem otL_len (bits : List Int) (ps : List Pt) (ds : List Dt) (i : Nat) : (otL bits ps ds i).length = i := by simp [otL]
theorem otL_step (bits : List Int) (ps : List Pt) (ds : List Dt) (i : Nat) : otL bits ps ds (i + 1) = otL bits ps ds i ++ [otI bits ps ds i] := by simp [otL, List.range_succ]
theorem otL_at (bits : List Int) (ps : List Pt) (ds : List Dt) {i n : Nat} (h : i < n) : (otL bits ps ds n)[i]? = some (otI bits ps ds i) := by simp [otL, h]
set_option maxHeartbeats 1000000 in
theorem loop8a {ov : Ov} (m : Nat) (h33 : HasP ov 33 S33.F) (h35 : HasP ov 35 S35.F) (ps : List Pt) (ds : List Dt) (hk : LK ps ds) (bits : List Int) (hbits : bits.length ≤ 2 ^ 60) (uv av hv bv : Value) (w0 : AW) (n0 : Nat) (hn0 : w0.next = n0 + 1) (hl : w0.lim ≤ n0)
    (hu : RowsV intC w0 uv (lsF ps.length (stF ps ds))) (ha : RowsV intC w0 av (lsF ps.length (owD ds))) (hh : RowsV intC w0 hv (lsF ps.length (haD ps ds (stF ps ds)))) (hb : RowsV intC w0 bv bits) (v2 : Value)
    (Q : Ex → Tm → AW → Prop) (t : Tm) (t1 : tget t 1 = bv) (t2 : tget t 2 = v2) (t5 : tget t 5 = uv) (t8 : tget t 8 = av) (t10 : tget t 10 = hv) (t11 : tget t 11 = .slice none 0 0) (t12 : tget t 12 = .int .i64 0)
    (hQ : ∀ t w' ov', Up w0 w' → RowsV intC w' ov' (otL bits ps ds ps.length) → tget t 2 = v2 → tget t 5 = uv → tget t 8 = av → tget t 11 = ov' → Q (.exit 0) t w') : wp (exM Try.prog (run Try.prog ov (m + 1)) (.loop mc8_l0) t w0) Q := by
  have h8 := hk.n8
  refine wp_rounds (fun i t w' => Up w0 w' ∧ (∃ B, AccQ intC 3 n0 w' (tget t 11) (otL bits ps ds i) B) ∧ tget t 1 = bv ∧ tget t 2 = v2 ∧ tget t 5 = uv ∧ tget t 8 = av ∧ tget t 10 = hv ∧ tget t 12 = .int .i64 (i : Nat) ∧ i ≤ ps.length) 20 (by decide) ⟨Up.refl _, ⟨0, .inl ⟨rfl, t11⟩⟩, t1, t2, t5, t8, t10, by simpa using t12, Nat.zero_le _⟩ ?_
  clear t1 t2 t5 t8 t10 t11 t12
  rintro i t w' ⟨hup, ⟨B, hacc⟩, t1, t2, t5, t8, t10, t12, hi⟩
  have hlm := hup.lim
  have hnx := hup.next
  have hla := fun w2 => len26V (w' := w2) ha
  by_cases hlt : i < ps.length
  · obtain ⟨b1, o1, s1, c1, rfl, ld1, ia1⟩ := row_ld (hu.up hup) (lsF_at ps.length (stF ps ds) hlt)
    obtain ⟨b2, o2, s2, c2, rfl, ld2, ia2⟩ := row_ld (ha.up hup) (lsF_at ps.length (owD ds) hlt)
    obtain ⟨b3, o3, s3, c3, rfl, ld3, ia3⟩ := row_ld (hh.up hup) (lsF_at ps.length (haD ps ds (stF ps ds)) hlt)
    have hs := gfp_settles hk (st_gfp hk) (i : Int)
    have hst := otL_step bits ps ds i
    have hw0 := hk.ow_nonneg (i : Int)
    have hw9 := hk.ow_le (i : Int)
    have hsr := st_rng hk (i : Int)
    have hor := ot_rng (bits := bits) hk i
    have r35 := fun (j : Int) => S35.call (P := Try.prog) h35 (m := m) (w := w') ⟨bv, bits, j, rfl, hb.up hup, hbits, rfl⟩
    have r33 := fun (n s : Int) (w : AW) (hs : s ≤ 2 ^ 60) => S33.call (P := Try.prog) h33 (m := m) (w := w) ⟨n, s, rfl, hs, rfl⟩
    obtain ⟨S, hS⟩ : ∃ S, S = stF ps ds (i : Int) := ⟨_, rfl⟩
    obtain ⟨O, hO⟩ : ∃ S, S = owD ds (i : Int) := ⟨_, rfl⟩
    obtain ⟨H, hH⟩ : ∃ S, S = haD ps ds (stF ps ds) (i : Int) := ⟨_, rfl⟩
    obtain ⟨a, hA⟩ : ∃ S, S = nthI bits (i : Int) := ⟨_, rfl⟩
    obtain ⟨b, hB⟩ : ∃ S, S = nthI bits ((i : Int) + 1) := ⟨_, rfl⟩
    have eo : otI bits ps ds i = if 0 < wrapI a 3 then min O (S + wrapI b 4) else wrapI a (O + 1) := by unfold otI; rw [← hA, ← hB, ← hS, ← hO]
    rw [← hS] at ld1 hs hsr
    rw [← hO] at ld2 hs hw0 hw9 hsr hor
    rw [← hH] at ld3 hs
    have e35a := r35 (i : Int)
    rw [← hA] at e35a
    have e35b := r35 ((i : Int) + 1)
    rw [← hB] at e35b
    have e33a := r33 a (O + 1) w' (by omega)
    have e33b := r33 a 3 w' (by decide)
    have e33c := r33 b 4 w' (by decide)
    have hb4 := wrapI_bd (n := b) (s := 4) (by decide)
    have hw1' : IntKind.wrap .i64 ((i : Int) + 1) = (i : Int) + 1 := wrap64_in (by omega) (by omega)
    have hw2' : IntKind.wrap .i64 (O + 1) = O + 1 := wrap64_in (by omega) (by omega)
    have hw3' : IntKind.wrap .i64 (S + wrapI b 4) = S + wrapI b 4 := wrap64_in (by omega) (by omega)
    obtain ⟨v', w4, hap, ⟨B', hB', hacc'⟩, hkp, hn4, hl4⟩ := AccQ.push (P := Try.prog) (st := 26) (sz := 1) list26 elem26 size3 small3 intC_length (fun _ => by simp [intC]) (by decide) hacc (by omega) (by omega) (by rw [otL_len]; omega) (otI bits ps ds i)
    rw [← hst] at hacc'
    simp only [intC] at hap
    have hup4 : Up w0 w4 := ⟨fun x hx => by rw [hkp x (by omega) (fun hne => by have := hacc.lt hne; omega)]; exact hup.at hx, by omega, by omega⟩
    simp only [lsF_len] at ia1 ia2 ia3 hla
    by_cases hc : 0 < wrapI a 3
    · rw [if_pos hc] at eo
      rw [eo] at hap
      simp [mc8_l0, t1, t2, t5, t8, t10, t12, hla, hlt, ia1, ia2, ia3, ld1, ld2, ld3, hs.symm, e35a, e35b, e33a, e33b, e33c, hw1', hw2', hw3', hc, hap]
      exact ⟨by omega, hup4, ⟨B', hacc'⟩, hlt⟩
    · rw [if_neg hc] at eo
      rw [eo] at hap
      simp [mc8_l0, t1, t2, t5, t8, t10, t12, hla, hlt, ia1, ia2, ia3, ld1, ld2, ld3, hs.symm, e35a, e35b, e33a, e33b, e33c, hw1', hw2', hw3', hc, hap]
      exact ⟨by omega, hup4, ⟨B', hacc'⟩, hlt⟩
  · have hi' : i = ps.length := by omega
    subst hi'
    simp [mc8_l0, t2, t5, t8, t12, hla]
    exact hQ _ _ _ hup hacc.rows (by simp [t2]) (by simp [t5]) (by simp [t8]) (by simp)
end Go.Proofs.Ythfidomphkednaa.walk

namespace Go.Proofs.Ythfidomphkednaa.walk
open Go Go.Sh
set_option maxRecDepth 100000
set_option linter.unusedSimpArgs false
set_option linter.unusedVariables false
/-- have the first ones no more than is there, and is one of them greater? -/
def mdB (A B : List Int) (i : Nat) : Bool := (List.range i).all fun k => decide (A.getD k 0 ≤ B.getD k 0)
def grB (A B : List Int) (i : Nat) : Bool := (List.range i).any fun k => decide (B.getD k 0 < A.getD k 0)
theorem mdB_step {A B : List Int} {i : Nat} {a b : Int} (ha : A[i]? = some a) (hb : B[i]? = some b) : mdB A B (i + 1) = (mdB A B i && decide (a ≤ b)) := by
  unfold mdB
  rw [List.range_succ, List.all_append]
  simp [List.getD_eq_getElem?_getD, ha, hb]
theorem grB_step {A B : List Int} {i : Nat} {a b : Int} (ha : A[i]? = some a) (hb : B[i]? = some b) : grB A B (i + 1) = (grB A B i || decide (b < a)) := by
  unfold grB
  rw [List.range_succ, List.any_append]
  simp [List.getD_eq_getElem?_getD, ha, hb]
theorem loop8b {ov : Ov} (m n : Nat) (hn : n ≤ 8) (A U T all : List Int) (av uv tv ov' : Value) (w0 : AW) (hA : A.length = n) (hU : U.length = n) (hT : T.length = n) (hall : all.length = n)
    (ha : RowsV intC w0 ov' A) (hu : RowsV intC w0 uv U) (ht : RowsV intC w0 tv T) (hv : RowsV intC w0 av all)
    (Q : Ex → Tm → AW → Prop) (t : Tm) (t5 : tget t 5 = uv) (t8 : tget t 8 = av) (t11 : tget t 11 = ov') (t15 : tget t 15 = tv) (t16 : tget t 16 = .bool true) (t17 : tget t 17 = .bool false) (t18 : tget t 18 = .int .i64 0)
    (hQ : ∀ t, tget t 16 = .bool (mdB A T n) → tget t 17 = .bool (grB A U n) → Q (.exit 2) t w0) : wp (exM Try.prog (run Try.prog ov m) (.loop mc8_l1) t w0) Q := by
  refine wp_rounds (fun i t w' => w' = w0 ∧ tget t 5 = uv ∧ tget t 8 = av ∧ tget t 11 = ov' ∧ tget t 15 = tv ∧ tget t 16 = .bool (mdB A T i) ∧ tget t 17 = .bool (grB A U i) ∧ tget t 18 = .int .i64 (i : Nat) ∧ i ≤ n) 20 (by decide) ⟨rfl, t5, t8, t11, t15, by simpa [mdB] using t16, by simpa [grB] using t17, by simpa using t18, Nat.zero_le _⟩ ?_
  clear t5 t8 t11 t15 t16 t17 t18
  rintro i t w' ⟨rfl, t5, t8, t11, t15, t16, t17, t18, hi⟩
  have hla := fun w2 => len26V (w' := w2) hv
  rw [hall] at hla
  by_cases hlt : i < n
  · obtain ⟨a, hza⟩ : ∃ z, A[i]? = some z := ⟨_, List.getElem?_eq_getElem (by omega)⟩
    obtain ⟨u, hzu⟩ : ∃ z, U[i]? = some z := ⟨_, List.getElem?_eq_getElem (by omega)⟩
    obtain ⟨b, hzb⟩ : ∃ z, T[i]? = some z := ⟨_, List.getElem?_eq_getElem (by omega)⟩
    obtain ⟨b1, o1, s1, c1, rfl, ld1, ia1⟩ := row_ld ha hza
    obtain ⟨b2, o2, s2, c2, rfl, ld2, ia2⟩ := row_ld hu hzu
    obtain ⟨b3, o3, s3, c3, rfl, ld3, ia3⟩ := row_ld ht hzb
    have e1 := mdB_step hza hzb
    have e2 := grB_step hza hzu
    rw [hA] at ia1
    rw [hU] at ia2
    rw [hT] at ia3
    have hw1' : IntKind.wrap .i64 ((i : Int) + 1) = (i : Int) + 1 := wrap64_in (by omega) (by omega)
    cases hm : mdB A T i with
    | true =>
      cases hg : grB A U i with
      | true =>
        rw [hm] at e1 t16
        rw [hg] at e2 t17
        simp [mc8_l1, t5, t8, t11, t15, t16, t17, t18, hla, hlt, ia1, ia2, ia3, ld1, ld2, ld3, hA, hU, hT, hw1', e1, e2]
        omega
      | false =>
        rw [hm] at e1 t16
        rw [hg] at e2 t17
        simp [mc8_l1, t5, t8, t11, t15, t16, t17, t18, hla, hlt, ia1, ia2, ia3, ld1, ld2, ld3, hA, hU, hT, hw1', e1, e2]
        omega
    | false =>
      cases hg : grB A U i with
      | true =>
        rw [hm] at e1 t16
        rw [hg] at e2 t17
        simp [mc8_l1, t5, t8, t11, t15, t16, t17, t18, hla, hlt, ia1, ia2, ia3, ld1, ld2, ld3, hA, hU, hT, hw1', e1, e2]
        omega
      | false =>
        rw [hm] at e1 t16
        rw [hg] at e2 t17
        simp [mc8_l1, t5, t8, t11, t15, t16, t17, t18, hla, hlt, ia1, ia2, ia3, ld1, ld2, ld3, hA, hU, hT, hw1', e1, e2]
        omega
  · have hi' : i = n := by omega
    subst hi'
    simp [mc8_l1, t8, t18, hla]
    exact hQ _ (by simp [t16]) (by simp [t17])
theorem settled {ps : List Pt} {ds : List Dt} (hk : LK ps ds) {A : List Int} (hl : A.length = ps.length) (hr : ∀ p, 0 ≤ liF A p ∧ liF A p ≤ owD ds p) : (mdB A (lsF ps.length (haD ps ds (liF A))) ps.length && grB A (lsF ps.length (stF ps ds)) ps.length) = false := by
  cases hm : mdB A (lsF ps.length (haD ps ds (liF A))) ps.length with
  | false => rfl
  | true =>
    have hp : PostD ps ds (liF A) := fun p => by
      refine ⟨(hr p).1, (hr p).2, ?_⟩
      by_cases hp : p < 0 ∨ (ps.length : Int) ≤ p
      · rw [liF_out (by rw [hl]; exact hp)]
        exact (hk.ha_in hr p).1
      · have := List.all_eq_true.1 hm p.toNat (List.mem_range.2 (by omega))
        have e1 : A[p.toNat]? = some (liF A p) := by
          have hx : p.toNat < A.length := by omega
          rw [List.getElem?_eq_getElem hx]
          have := liF_at (List.getElem?_eq_getElem hx)
          rw [show ((p.toNat : Nat) : Int) = p by omega] at this
          rw [this]
        rw [List.getD_eq_getElem?_getD, List.getD_eq_getElem?_getD, e1, lsF_at _ _ (by omega)] at this
        simp only [Option.getD_some, decide_eq_true_eq, show ((p.toNat : Nat) : Int) = p by omega] at this
        exact this
    have htop := (st_gfp hk).2 _ hp
    rw [Bool.true_and]
    cases hg : grB A (lsF ps.length (stF ps ds)) ps.length with
    | false => rfl
    | true =>
      obtain ⟨k, hkm, hkg⟩ := List.any_eq_true.1 hg
      have hlt := List.mem_range.1 hkm
      have e1 : A[k]? = some (liF A (k : Int)) := by
        have hx : k < A.length := by omega
        rw [List.getElem?_eq_getElem hx, liF_at (List.getElem?_eq_getElem hx)]
      rw [List.getD_eq_getElem?_getD, List.getD_eq_getElem?_getD, e1, lsF_at _ _ hlt] at hkg
      simp only [Option.getD_some, decide_eq_true_eq] at hkg
      have := htop (k : Int)
      omega
end Go.Proofs.Ythfidomphkednaa.walk

namespace Go.Proofs.Ythfidomphkednaa.walk
open Go Go.Sh
set_option maxRecDepth 100000
set_option linter.unusedSimpArgs false
set_option linter.unusedVariables false
set_option maxHeartbeats 2000000 in
theorem call8 {ov : Ov} (m : Nat) (ho : ∀ args w, ov 8 args w = none) (ho14 : ∀ args w, ov 14 args w = none) (ho20 : ∀ args w, ov 20 args w = none) (ho31 : ∀ args w, ov 31 args w = none) (ho40 : ∀ args w, ov 40 args w = none) (ho61 : ∀ args w, ov 61 args w = none) (ho74 : ∀ args w, ov 74 args w = none) (ho42 : ∀ args w, ov 42 args w = none) (ho43 : ∀ args w, ov 43 args w = none) (ho64 : ∀ args w, ov 64 args w = none)
    (hW : HasW ov) (h16 : HasP ov 16 S16.F) (h17 : HasP ov 17 S17.F) (h30 : HasP ov 30 S30.F) (h33 : HasP ov 33 S33.F) (h35 : HasP ov 35 S35.F) (h41 : HasP ov 41 S41.F) (h44 : HasP ov 44 S44.F) (h49 : HasP ov 49 S49.F) (h62 : HasP ov 62 S62.F) (h63 : HasP ov 63 S63.F)
    (pv dv bv : Value) (ps : List Pt) (ds : List Dt) (bits : List Int) (hbits : bits.length ≤ 2 ^ 60) (w : AW) (hl : w.lim ≤ w.next) (hL : LedV w pv dv ps ds) (hb : RowsV intC w bv bits) :
    ∃ v w', (run Try.prog ov (m + 5)).call 8 [.agg ⟨[pv, dv]⟩, bv] w .none = .ok (.ret v) w' .none ∧ v = .bool true := by
  refine call_wp text8 (by simp) (ho _ _) ?_
  obtain ⟨w1, hw1⟩ : ∃ w1, w1 = (⟨w.heap.put w.next (some (.cells [pv, dv] 25 false)), w.next + 1, w.lim⟩ : AW) := ⟨_, rfl⟩
  have u1 : Up w w1 := hw1 ▸ (Up.refl w).add _
  have n1 : w1.next = w.next + 1 := by rw [hw1]
  have m1 : w1.lim = w.lim := by rw [hw1]
  have g1 : w1.heap.get w.next = some (.cells [pv, dv] 25 false) := by rw [hw1]; simp
  obtain ⟨_, w2, c20, v1, v2, rfl, hr1, hr2, u2⟩ := call20 (ov := ov) m ho20 ho40 ho61 ho74 ho42 ho43 ho64 h62 h17 h49 h63 pv dv ps ds w1 (by omega) (hL.up u1)
  have n2 := u2.next
  have m2 := u2.lim
  have g2 := u2.at (b := w.next) (by omega)
  rw [g1] at g2
  have rW := fun w => ruleW (m := m + 3) hW w
  have hl1 := fun w2 => len26V (w' := w2) hr1
  have hl2 := fun w2 => len26V (w' := w2) hr2
  rw [hw1] at c20
  by_cases hC : chE ps ds = 0
  case neg =>
    have e2 : clP ps ds = [] := by unfold clP; rw [if_neg hC]
    have e3 : clA ps ds = [] := by unfold clA; rw [if_neg hC]
    rw [e2] at hl1
    rw [e3] at hl2
    simp only [List.length_nil] at hl1 hl2
    have z0 : IntKind.wrap .i64 0 = 0 := by decide
    simp [mc8, cellsOf_agg, c20, hC, hl1, hl2, z0, rW, tupV]
  case pos =>
    have hO := ch_lk hC
    have hk : LK ps ds := hO.up (by decide)
    have h8 := hO.n8
    have e2 : clP ps ds = lsF ps.length (stF ps ds) := by unfold clP; rw [if_pos hC]
    have e3 : clA ps ds = paF ds (stF ps ds) := by unfold clA; rw [if_pos hC]
    rw [e2] at hr1 hl1
    rw [e3] at hr2 hl2
    rw [hC] at c20
    have hL2 := hL.up (u1.trans u2)
    have r30 := S30.call (P := Try.prog) h30 (m := m + 3) (w := w2) ⟨pv, dv, ps, ds, rfl, hL2, rfl⟩
    rw [hC] at r30
    obtain ⟨_, w3, c31, B, rfl, gB, hB1, hB2, u3⟩ := call31 (ov := ov) (m + 3) ho31 pv dv ps ds w2 (by omega) hL2 hk
    have n3 := u3.next
    have m3 := u3.lim
    have g3 := u3.at (b := w.next) (by omega)
    rw [g2] at g3
    have ha3 : RowsV intC w3 (.slice (some ⟨B, 0, none⟩) ps.length ps.length) (lsF ps.length (owD ds)) := rows_ls gB hB2 _
    have hl8 := fun w2 => len26V (w' := w2) ha3
    simp only [lsF_len] at hl8 hl1
    obtain ⟨_, w4, c14, p1, h1, rfl, hp1, hh1, u4⟩ := call14 (ov := ov) m ho14 ho40 ho61 ho74 ho42 ho43 ho64 h62 h17 h41 h44 h63 pv dv v1 ps ds (lsF ps.length (stF ps ds)) w3 (by omega) (hL2.up u3) (hr1.up u3)
    have n4 := u4.next
    have m4 := u4.lim
    have g4 := u4.at (b := w.next) (by omega)
    rw [g3] at g4
    have eL : liF (lsF ps.length (stF ps ds)) = stF ps ds := liF_ls fun p hp => st_out hk hp
    have eE : pyE ps ds (lsF ps.length (stF ps ds)) = 0 := by unfold pyE; rw [if_pos hC, st_pay hk]; rfl
    have eP : pyP ps ds (lsF ps.length (stF ps ds)) = paF ds (stF ps ds) := by unfold pyP; rw [eE, if_pos rfl, eL]
    have eH : pyH ps ds (lsF ps.length (stF ps ds)) = lsF ps.length (haD ps ds (stF ps ds)) := by unfold pyH; rw [eE, if_pos rfl, eL]
    rw [eE] at c14
    rw [eP] at hp1
    rw [eH] at hh1
    have hlh := fun w2 => len26V (w' := w2) hh1
    simp only [lsF_len] at hlh
    have r16 := S16.call (P := Try.prog) h16 (m := m + 3) (w := w4) ⟨p1, v2, _, _, rfl, hp1, hr2.up (u3.trans u4), by unfold paF; rw [List.length_map]; have := hO.d16; omega, rfl⟩
    simp only [decide_true] at r16
    obtain ⟨n0, hn0⟩ : ∃ n0, w4.next = n0 + 1 := ⟨w4.next - 1, by omega⟩
    have key := fun Q t => loop8a (ov := ov) (m + 3) h33 h35 ps ds hk bits hbits v1 (.slice (some ⟨B, 0, none⟩) ps.length ps.length) h1 bv w4 n0 hn0 (by omega) (hr1.up (u3.trans u4)) (ha3.up u4) hh1 (hb.up (((u1.trans u2).trans u3).trans u4)) (.pointer (some ⟨w.next, 0, none⟩)) Q t
    have hnn : ¬ (ps.length : Int) = (ps.length : Int) → False := fun h => h rfl
    simp [mc8, cellsOf_agg, c20, r30, g2, g3, hl1, hl2, hl8, c31, c14, r16, hlh]
    refine wp_seqX (wp_blockX (key _ _ ?_ ?_ ?_ ?_ ?_ ?_ ?_ ?_))
    case _ => simp
    case _ => simp
    case _ => simp
    case _ => simp
    case _ => simp
    case _ => simp
    case _ => simp
    case _ =>
      intro t w5 ov' u5 ho5 t2 t5 t8 t11
      have n5 := u5.next
      have m5 := u5.lim
      have g5 := u5.at (b := w.next) (by omega)
      rw [g4] at g5
      have hpay : payB ps ds (otL bits ps ds ps.length) = true := pay_of (otL_len _ _ _ _) fun i z hz => by
        have hlt : i < ps.length := by have := (List.getElem?_eq_some_iff.1 hz).1; simpa [otL_len] using this
        rw [otL_at _ _ _ hlt] at hz
        cases hz
        exact ot_rng hk i
      have hrg := pay_rng hk hpay
      obtain ⟨_, w6, c14b, p2, h2, rfl, hp2, hh2, u6⟩ := call14 (ov := ov) m ho14 ho40 ho61 ho74 ho42 ho43 ho64 h62 h17 h41 h44 h63 pv dv ov' ps ds (otL bits ps ds ps.length) w5 (by omega) (hL.up ((((u1.trans u2).trans u3).trans u4).trans u5)) ho5
      have eE2 : pyE ps ds (otL bits ps ds ps.length) = 0 := by unfold pyE; rw [if_pos hC, hpay]; rfl
      have eH2 : pyH ps ds (otL bits ps ds ps.length) = lsF ps.length (haD ps ds (liF (otL bits ps ds ps.length))) := by unfold pyH; rw [eE2, if_pos rfl]
      rw [eE2] at c14b
      rw [eH2] at hh2
      have hlh2 := fun w2 => len26V (w' := w2) hh2
      simp only [lsF_len] at hlh2
      have key2 := fun Q t => loop8b (ov := ov) (m + 4) ps.length h8 (otL bits ps ds ps.length) (lsF ps.length (stF ps ds)) (lsF ps.length (haD ps ds (liF (otL bits ps ds ps.length)))) (lsF ps.length (owD ds)) (.slice (some ⟨B, 0, none⟩) ps.length ps.length) v1 h2 ov' w6 (otL_len _ _ _ _) (lsF_len _ _) (lsF_len _ _) (lsF_len _ _) (ho5.up u6) (hr1.up (((u3.trans u4).trans u5).trans u6)) hh2 (ha3.up ((u4.trans u5).trans u6)) Q t
      have hS := settled hk (otL_len bits ps ds ps.length) hrg
      simp [t2, t5, t8, t11, g5, c14b, hlh2, hl8]
      refine wp_seqX (wp_blockX (key2 _ _ ?_ ?_ ?_ ?_ ?_ ?_ ?_ ?_))
      case _ => simp [t5]
      case _ => simp [t8]
      case _ => simp [t11]
      case _ => simp
      case _ => simp
      case _ => simp
      case _ => simp
      case _ =>
        intro t t16 t17
        cases hm : mdB (otL bits ps ds ps.length) (lsF ps.length (haD ps ds (liF (otL bits ps ds ps.length)))) ps.length with
        | false =>
          rw [hm] at t16
          simp [t16, t17, rW, tupV]
        | true =>
          rw [hm, Bool.true_and] at hS
          rw [hm] at t16
          rw [hS] at t17
          simp [t16, t17, rW, tupV]
end Go.Proofs.Ythfidomphkednaa.walk
