/- Part of a proof by a machine of ones own: see the text with the theorem. -/
import Derived.Test.YtaffhippclpbpaaMWc
import Derived.Test.YtaffhippclpbpaaShF
namespace Go.Proofs.Ytaffhippclpbpaa.walk
open Go Go.Sh
set_option maxRecDepth 100000
set_option linter.unusedSimpArgs false
set_option linter.unusedVariables false
theorem take_snoc {α : Type} {l : List α} {i : Nat} {a : α} (h : l[i]? = some a) : l.take (i + 1) = l.take i ++ [a] := by rw [List.take_add_one, h]; rfl
theorem all_take {α : Type} {p : α → Bool} {l : List α} {i : Nat} {a : α} (ha : l[i]? = some a) : (l.take (i + 1)).all p = ((l.take i).all p && p a) := by
  rw [take_snoc ha, List.all_append]; simp
theorem all_bad {α : Type} {p : α → Bool} {l : List α} {i : Nat} {a : α} (ha : l[i]? = some a) (h : p a = false) : l.all p = false := by
  cases hq : l.all p with
  | false => rfl
  | true =>
    have := List.all_eq_true.1 hq a (List.mem_of_getElem? ha)
    rw [h] at this; cases this
def boxOk (r : MRun) (z : Int) : Bool := inI 0 z (r.boxes - 1)
def dayOk (r : MRun) (l : List Int) : Bool := decide ((l.length : Int) = r.pods) && l.all (boxOk r)
def daysB (r : MRun) : Bool := inI 1 (r.days.length : Int) 10 && r.days.all (dayOk r)
theorem loop59 {ov : Ov} {Q : Ex → Tm → AW → Prop} (h48 : HasP ov 48 S24.F) (r : MRun) (wv nv : Value) (l : List Int) (v : Value) (B : Nat) (t : Tm) (w : AW) (hv : RowsV intC w v l) (hlen : l.length ≤ 10) (hB : 0 ≤ r.boxes ∧ r.boxes ≤ 10)
    (t1 : tget t 1 = .pointer (some ⟨B, 0, none⟩)) (g : w.heap.get B = some (.cells [.int .i64 r.pods, .int .i64 r.boxes, .int .i64 r.few, .int .i64 r.delay, wv, nv] 25 false)) (t24 : tget t 24 = v) (t25 : tget t 25 = .int .i64 (l.length : Nat)) (t26 : tget t 26 = .int .i64 0)
    (hgood : l.all (boxOk r) = true → ∀ t', (∀ d, d < 20 → d ≠ 6 → tget t' d = tget t d) → Q .normal t' w) (hbad : l.all (boxOk r) = false → ∀ t', tget t' 2 = .bool false → Q .ret t' w) :
    wp (blockX 2 (exM Try.prog (run Try.prog ov 1) (.loop mc59_l1) t w)) Q := by
  refine wp_blockX (wp_rounds (fun i t' w' => w' = w ∧ (∀ d, d < 26 → d ≠ 6 → tget t' d = tget t d) ∧ tget t' 26 = .int .i64 (i : Nat) ∧ i ≤ l.length ∧ (l.take i).all (boxOk r) = true) 20 (by decide) ⟨rfl, fun _ _ _ => rfl, t26, Nat.zero_le _, rfl⟩ ?_)
  rintro i t' w' ⟨rfl, hold, s26, hi, hall⟩
  have s1 := (hold 1 (by decide) (by decide)).trans t1
  have s24 := (hold 24 (by decide) (by decide)).trans t24
  have s25 := (hold 25 (by decide) (by decide)).trans t25
  have hw1' : IntKind.wrap .i64 ((i : Int) + 1) = (i : Int) + 1 := wrap64_in (by omega) (by omega)
  have hw2 : IntKind.wrap .i64 (r.boxes - 1) = r.boxes - 1 := wrap64_in (by omega) (by omega)
  by_cases hlt : i < l.length
  · obtain ⟨z, hz⟩ : ∃ z, l[i]? = some z := ⟨_, List.getElem?_eq_getElem hlt⟩
    obtain ⟨b, off, sq, c, rfl, hra⟩ := hv.at_ i hlt
    have hld := hra.int hz
    have hia := fun w => ia26 w ⟨b, off, sq⟩ l.length c .i64 i hlt
    simp only [Nat.mul_one] at hia
    have r48 := fun w => S24.call1 (P := Try.prog) h48 (w := w) ⟨z, 0, r.boxes - 1, rfl, rfl⟩
    rw [show inI 0 z (r.boxes - 1) = boxOk r z from rfl] at r48
    cases k : boxOk r z with
    | false =>
      rw [k] at r48
      simp [mc59_l1, s1, s24, s25, s26, hlt, g, hia, hld, r48, hw2]
      exact hbad (all_bad hz k) _ (by simp)
    | true =>
      have hm : (l.take (i + 1)).all (boxOk r) = true := by rw [all_take hz, hall, k]; rfl
      rw [k] at r48
      simp only [List.all_eq_true] at hm
      simp [mc59_l1, s1, s24, s25, s26, hlt, g, hia, hld, r48, hw2, hw1']
      refine ⟨by omega, fun d h1 h2 => ?_, by omega, hm⟩
      rw [← hold d h1 h2]
      simp [h2]
      repeat rw [if_neg (by omega)]
  · have hi' : i = l.length := by omega
    subst hi'
    rw [List.take_length] at hall
    simp [mc59_l1, s25, s26]
    refine hgood hall _ fun d h1 h2 => ?_
    rw [← hold d (by omega) h2]
    simp
    intro e
    omega
def S59 : PSpec where
  R args w v := ∃ (r : MRun) (wv nv : Value), args = [.agg ⟨runC r wv nv⟩] ∧ RunV w r wv nv ∧ (0 ≤ r.boxes ∧ r.boxes ≤ 10) ∧ (0 ≤ r.pods ∧ r.pods ≤ 10) ∧ v = .bool (daysB r)
  uniq := by
    rintro _ _ _ _ ⟨r, wv, nv, rfl, h1, _, _, rfl⟩ ⟨r', wv', nv', h, k1, _, _, rfl⟩
    simp only [List.cons.injEq, Value.agg.injEq, Array.mk.injEq, and_true] at h
    have := RunV.same h h1 k1
    subst this; rfl
  shut := by
    rintro _ _ _ ⟨r, wv, nv, h1, h2, h3⟩
    exact ⟨r, wv, nv, h1, h2.shut, h3⟩
theorem run59 {ov : Ov} (ho : ∀ args w, ov 59 args w = none) (h48 : HasP ov 48 S24.F) (r : MRun) (wv nv : Value) (w : AW) (hl : w.lim = w.next) (hR : RunV w r wv nv) (hB : 0 ≤ r.boxes ∧ r.boxes ≤ 10) (hp : 0 ≤ r.pods ∧ r.pods ≤ 10) : ∃ v w', (run Try.prog ov 2).call 59 [.agg ⟨runC r wv nv⟩] w .none = .ok (.ret v) w' .none ∧ v = .bool (daysB r) := by
  refine call_wp text59 (by simp) (ho _ _) ?_
  obtain ⟨w1, hw1⟩ : ∃ w1, w1 = (⟨w.heap.put w.next (some (.cells (runC r wv nv) 25 false)), w.next + 1, w.lim⟩ : AW) := ⟨_, rfl⟩
  have u1 : Up w w1 := hw1 ▸ (Up.refl w).add _
  have g1 : w1.heap.get w.next = some (.cells (runC r wv nv) 25 false) := by rw [hw1, get_put, if_pos rfl]
  have hR1 := hR.up u1
  obtain ⟨⟨vs, hvs, hrel⟩, _⟩ := hR1
  have hvl := hrel.len
  have hl1 := fun w2 => len22V (w' := w2) hvs
  rw [hvl] at hl1
  have r48 := fun w => S24.call1 (P := Try.prog) h48 (w := w) ⟨(r.days.length : Int), 1, 10, rfl, rfl⟩
  simp only [runC] at g1
  have ew : (⟨w.heap.put w.next (some (.cells [.int .i64 r.pods, .int .i64 r.boxes, .int .i64 r.few, .int .i64 r.delay, wv, nv] 25 false)), w.next + 1, w.lim⟩ : AW) = w1 := by rw [hw1]; rfl
  cases k : inI 1 (r.days.length : Int) 10 with
  | false =>
    rw [k] at r48
    simp [mc59, cellsOf_agg, runC, hl1, r48, daysB, k, tupV]
  | true =>
    rw [k] at r48
    have hn : r.days.length ≤ 10 := by simp [inI] at k; omega
    simp [mc59, cellsOf_agg, runC, hl1, r48]
    rw [ew]
    refine wp_seqX (wp_blockX (wp_rounds (fun i t w' => w' = w1 ∧ tget t 1 = .pointer (some ⟨w.next, 0, none⟩) ∧ tget t 13 = wv ∧ tget t 14 = .int .i64 (r.days.length : Nat) ∧ tget t 15 = .int .i64 (i : Nat) ∧ i ≤ r.days.length ∧ (r.days.take i).all (dayOk r) = true) 20 (by decide) ⟨rfl, by simp, by simp, by simp, by simp, by omega, by simp⟩ ?_))
    rintro i t w' ⟨rfl, t1, t13, t14, t15, hi, hall⟩
    have hw1' : IntKind.wrap .i64 ((i : Int) + 1) = (i : Int) + 1 := wrap64_in (by omega) (by omega)
    by_cases hlt : i < r.days.length
    · obtain ⟨l, hx⟩ : ∃ x, r.days[i]? = some x := ⟨_, List.getElem?_eq_getElem hlt⟩
      obtain ⟨v, hv, hrow⟩ := hrel.at hx
      obtain ⟨b, off, sq, c, rfl, hra⟩ := hvs.at_ i (by omega)
      have hld := hra.rd1 valC_length hv (j := 0) (x := v) rfl
      have hia := fun w => ia22 w ⟨b, off, sq⟩ vs.length c .i64 i (by omega)
      simp only [Nat.mul_one, Nat.add_zero] at hld hia
      have hl2 := fun w2 => len26V (w' := w2) hrow
      have hbad : dayOk r l = false → daysB r = false := fun h => by rw [daysB, all_bad hx h, Bool.and_false]
      by_cases k1 : (l.length : Int) = r.pods
      · have hll : l.length ≤ 10 := by omega
        simp [mc59_l0, t1, t13, t14, t15, hlt, g1, hia, hld, hl2, k1]
        refine wp_seqX (wp_blockX (loop59 h48 r _ nv l v w.next _ w' hrow hll hB (by simp [t1]) g1 (by simp) (by simp [k1]) (by simp) (fun h t' hold => ?_) fun h t' h2 => ?_))
        · have s1 := (hold 1 (by decide) (by decide))
          have s13 := (hold 13 (by decide) (by decide))
          have s14 := (hold 14 (by decide) (by decide))
          have s15 := (hold 15 (by decide) (by decide))
          simp [t1, t13, t14, t15] at s1 s13 s14 s15
          have hm : (r.days.take (i + 1)).all (dayOk r) = true := by rw [all_take hx, hall, dayOk, h, decide_eq_true k1]; rfl
          simp only [List.all_eq_true] at hm
          simp [s1, s13, s14, s15, hw1']
          exact ⟨by omega, by omega, hm⟩
        · have e := hbad (by rw [dayOk, h, Bool.and_false])
          simp [h2, e, tupV]
      · have e := hbad (by rw [dayOk, decide_eq_false k1, Bool.false_and])
        simp [mc59_l0, t1, t13, t14, t15, hlt, g1, hia, hld, hl2, k1, e, tupV]
    · have hi' : i = r.days.length := by omega
      subst hi'
      rw [List.take_length] at hall
      have e : daysB r = true := by rw [daysB, k, hall]; rfl
      simp [mc59_l0, t14, t15, tupV, e]
end Go.Proofs.Ytaffhippclpbpaa.walk

namespace Go.Proofs.Ytaffhippclpbpaa.walk
open Go Go.Sh
set_option maxRecDepth 100000
set_option linter.unusedSimpArgs false
set_option linter.unusedVariables false
def runB (r : MRun) : Bool := inI 1 r.pods 8 && (inI 1 r.boxes 5 && (inI 0 r.few r.pods && (inI 0 r.delay 10 && (daysB r && pairsB r))))
def S43 : PSpec where
  R args w v := ∃ (r : MRun) (wv nv : Value), args = [.agg ⟨runC r wv nv⟩] ∧ RunV w r wv nv ∧ v = .bool (runB r)
  uniq := by
    rintro _ _ _ _ ⟨r, wv, nv, rfl, h1, rfl⟩ ⟨r', wv', nv', h, k1, rfl⟩
    simp only [List.cons.injEq, Value.agg.injEq, Array.mk.injEq, and_true] at h
    have := RunV.same h h1 k1
    subst this; rfl
  shut := by
    rintro _ _ _ ⟨r, wv, nv, h1, h2, h3⟩
    exact ⟨r, wv, nv, h1, h2.shut, h3⟩
theorem run43 {ov : Ov} (ho : ∀ args w, ov 43 args w = none) (h48 : HasP ov 48 S24.F) (h59 : HasP ov 59 S59.F) (h60 : HasP ov 60 S60.F) (r : MRun) (wv nv : Value) (w : AW) (hl : w.lim = w.next) (hR : RunV w r wv nv) : ∃ v w', (run Try.prog ov 2).call 43 [.agg ⟨runC r wv nv⟩] w .none = .ok (.ret v) w' .none ∧ v = .bool (runB r) := by
  refine call_wp text43 (by simp) (ho _ _) ?_
  have u1 : Up w ⟨w.heap.put w.next (some (.cells (runC r wv nv) 25 false)), w.next + 1, w.lim⟩ := (Up.refl w).add _
  have q1 := fun w => S24.call1 (P := Try.prog) h48 (w := w) ⟨r.pods, 1, 8, rfl, rfl⟩
  have q2 := fun w => S24.call1 (P := Try.prog) h48 (w := w) ⟨r.boxes, 1, 5, rfl, rfl⟩
  have q3 := fun w => S24.call1 (P := Try.prog) h48 (w := w) ⟨r.few, 0, r.pods, rfl, rfl⟩
  have q4 := fun w => S24.call1 (P := Try.prog) h48 (w := w) ⟨r.delay, 0, 10, rfl, rfl⟩
  have q6 := S60.call1 (P := Try.prog) h60 ⟨r, wv, nv, rfl, hR.up u1, rfl⟩
  simp only [runC] at q6
  cases k1 : inI 1 r.pods 8 with
  | false => rw [k1] at q1; simp [mc43, cellsOf_agg, runC, q1, runB, k1, tupV]
  | true =>
    rw [k1] at q1
    cases k2 : inI 1 r.boxes 5 with
    | false => rw [k2] at q2; simp [mc43, cellsOf_agg, runC, q1, q2, runB, k1, k2, tupV]
    | true =>
      rw [k2] at q2
      cases k3 : inI 0 r.few r.pods with
      | false => rw [k3] at q3; simp [mc43, cellsOf_agg, runC, q1, q2, q3, runB, k1, k2, k3, tupV]
      | true =>
        rw [k3] at q3
        cases k4 : inI 0 r.delay 10 with
        | false => rw [k4] at q4; simp [mc43, cellsOf_agg, runC, q1, q2, q3, q4, runB, k1, k2, k3, k4, tupV]
        | true =>
          rw [k4] at q4
          have b1 : 0 ≤ r.boxes ∧ r.boxes ≤ 10 := by simp [inI] at k2; omega
          have b2 : 0 ≤ r.pods ∧ r.pods ≤ 10 := by simp [inI] at k1; omega
          have q5 := S59.call1 (P := Try.prog) h59 ⟨r, wv, nv, rfl, hR.up u1, b1, b2, rfl⟩
          simp only [runC] at q5
          cases k5 : daysB r with
          | false => rw [k5] at q5; simp [mc43, cellsOf_agg, runC, q1, q2, q3, q4, q5, runB, k1, k2, k3, k4, k5, tupV]
          | true => rw [k5] at q5; simp [mc43, cellsOf_agg, runC, q1, q2, q3, q4, q5, q6, runB, k1, k2, k3, k4, k5, tupV]
def S27 : PSpec where
  R args w v := ∃ (r : MRun) (wv nv : Value), args = [.agg ⟨runC r wv nv⟩] ∧ RunV w r wv nv ∧ v = .int .i64 (if runB r = true then 0 else 70)
  uniq := by
    rintro _ _ _ _ ⟨r, wv, nv, rfl, h1, rfl⟩ ⟨r', wv', nv', h, k1, rfl⟩
    simp only [List.cons.injEq, Value.agg.injEq, Array.mk.injEq, and_true] at h
    have := RunV.same h h1 k1
    subst this; rfl
  shut := by
    rintro _ _ _ ⟨r, wv, nv, h1, h2, h3⟩
    exact ⟨r, wv, nv, h1, h2.shut, h3⟩
theorem run27 {ov : Ov} (ho : ∀ args w, ov 27 args w = none) (h43 : HasP ov 43 S43.F) (r : MRun) (wv nv : Value) (w : AW) (hl : w.lim = w.next) (hR : RunV w r wv nv) : ∃ v w', (run Try.prog ov 2).call 27 [.agg ⟨runC r wv nv⟩] w .none = .ok (.ret v) w' .none ∧ v = .int .i64 (if runB r = true then 0 else 70) := by
  refine call_wp text27 (by simp) (ho _ _) ?_
  have u1 : Up w ⟨w.heap.put w.next (some (.cells (runC r wv nv) 25 false)), w.next + 1, w.lim⟩ := (Up.refl w).add _
  have q := S43.call1 (P := Try.prog) h43 ⟨r, wv, nv, rfl, hR.up u1, rfl⟩
  simp only [runC] at q
  cases k : runB r with
  | false => rw [k] at q; simp [mc27, cellsOf_agg, runC, q, tupV]
  | true => rw [k] at q; simp [mc27, cellsOf_agg, runC, q, tupV]
theorem runB_days {r : MRun} (h : runB r = true) : inI 1 r.pods 8 = true ∧ inI 1 r.boxes 5 = true ∧ inI 0 r.few r.pods = true ∧ inI 0 r.delay 10 = true ∧ daysB r = true ∧ pairsB r = true := by
  simp only [runB, Bool.and_eq_true] at h
  exact h
def S10 : PSpec where
  R args w v := ∃ (r : MRun) (wv nv : Value), args = [.agg ⟨runC r wv nv⟩] ∧ RunV w r wv nv ∧ v = .bool (runB r)
  uniq := S43.uniq
  shut := S43.shut
theorem run10 {ov : Ov} (ho : ∀ args w, ov 10 args w = none) (h24 : HasP ov 24 S24.F) (h27 : HasP ov 27 S27.F) (r : MRun) (wv nv : Value) (w : AW) (hl : w.lim = w.next) (hR : RunV w r wv nv) : ∃ v w', (run Try.prog ov 2).call 10 [.agg ⟨runC r wv nv⟩] w .none = .ok (.ret v) w' .none ∧ v = .bool (runB r) := by
  refine call_wp text10 (by simp) (ho _ _) ?_
  have u1 : Up w ⟨w.heap.put w.next (some (.cells (runC r wv nv) 25 false)), w.next + 1, w.lim⟩ := (Up.refl w).add _
  have q := S27.call1 (P := Try.prog) h27 ⟨r, wv, nv, rfl, hR.up u1, rfl⟩
  simp only [runC] at q
  cases k : runB r with
  | false => rw [k] at q; simp [mc10, cellsOf_agg, runC, q, tupV]
  | true =>
    rw [k] at q
    obtain ⟨k1, k2, k3, k4, k5, k6⟩ := runB_days k
    obtain ⟨⟨vs, hvs, hrel⟩, hn, _⟩ := hR
    have hl1 := fun w2 => len22V (w' := w2) hvs
    have hl2 := fun w2 => len23V (w' := w2) hn
    rw [hrel.len] at hl1
    have q1 := fun w => S24.call1 (P := Try.prog) h24 (w := w) ⟨r.pods, 1, 8, rfl, rfl⟩
    have q2 := fun w => S24.call1 (P := Try.prog) h24 (w := w) ⟨r.boxes, 1, 5, rfl, rfl⟩
    have q3 := fun w => S24.call1 (P := Try.prog) h24 (w := w) ⟨r.few, 0, r.pods, rfl, rfl⟩
    have q4 := fun w => S24.call1 (P := Try.prog) h24 (w := w) ⟨r.delay, 0, 10, rfl, rfl⟩
    have q5 := fun w => S24.call1 (P := Try.prog) h24 (w := w) ⟨(r.days.length : Int), 1, 10, rfl, rfl⟩
    have k5' : inI 1 (r.days.length : Int) 10 = true := by simp only [daysB, Bool.and_eq_true] at k5; exact k5.1
    have k6' : (r.near.length : Int) ≤ 4 := by simp only [pairsB, Bool.and_eq_true, decide_eq_true_eq] at k6; omega
    rw [k1] at q1; rw [k2] at q2; rw [k3] at q3; rw [k4] at q4; rw [k5'] at q5
    simp [mc10, cellsOf_agg, runC, q, q1, q2, q3, q4, q5, hl1, hl2, k6', tupV]
/-- a truth of a run -/
structure TruthOk (r : MRun) (f : Nat) (ls : List Nat) : Prop where
  run : runB r = true
  first : f < 2 ^ r.pods.toNat
  few : (popN f : Int) ≤ r.few
  len : ls.length = r.days.length
  all : ∀ y ∈ ls, y < 2 ^ r.near.length
structure Bnd (r : MRun) : Prop where
  p1 : 1 ≤ r.pods
  p8 : r.pods ≤ 8
  b1 : 1 ≤ r.boxes
  b5 : r.boxes ≤ 5
  f0 : 0 ≤ r.few
  fp : r.few ≤ r.pods
  d1 : 1 ≤ r.days.length
  d10 : r.days.length ≤ 10
  n4 : r.near.length ≤ 4
  day : ∀ l ∈ r.days, (l.length : Int) = r.pods ∧ ∀ z ∈ l, 0 ≤ z ∧ z < r.boxes
  pair : ∀ q ∈ r.near, 0 ≤ q.1 ∧ q.1 < q.2 ∧ q.2 < r.boxes
theorem runB_bnd {r : MRun} (h : runB r = true) : Bnd r := by
  obtain ⟨k1, k2, k3, k4, k5, k6⟩ := runB_days h
  simp only [daysB, Bool.and_eq_true, List.all_eq_true] at k5
  obtain ⟨k5, k7⟩ := k5
  simp only [pairsB, Bool.and_eq_true, decide_eq_true_eq, List.all_eq_true] at k6
  obtain ⟨k6, k8⟩ := k6
  simp only [inI, Bool.and_eq_true, decide_eq_true_eq] at k1 k2 k3 k4 k5
  refine ⟨by omega, by omega, by omega, by omega, by omega, by omega, by omega, by omega, k6, fun l hl => ?_, fun q hq => ?_⟩
  · have := k7 l hl
    simp only [dayOk, Bool.and_eq_true, decide_eq_true_eq, List.all_eq_true] at this
    refine ⟨this.1, fun z hz => ?_⟩
    have := this.2 z hz
    simp only [boxOk, inI, Bool.and_eq_true, decide_eq_true_eq] at this
    omega
  · obtain ⟨i, hi⟩ := List.getElem?_of_mem hq
    have hlt : i < r.near.length := by
      rw [List.getElem?_eq_some_iff] at hi
      exact hi.1
    have := k8 i (List.mem_range.2 hlt)
    rw [pB, hi] at this
    simp only [Bool.and_eq_true, decide_eq_true_eq] at this
    omega
end Go.Proofs.Ytaffhippclpbpaa.walk

namespace Go.Proofs.Ytaffhippclpbpaa.walk
open Go Go.Sh
set_option maxRecDepth 100000
set_option linter.unusedSimpArgs false
set_option linter.unusedVariables false
/-! a truth is played -/
def S44 : PSpec where
  R args w v := ∃ (r : MRun) (wv nv : Value) (f : Nat) (lv : Value) (ls : List Nat), args = [.agg ⟨runC r wv nv⟩, .agg ⟨[.int .i64 f, lv]⟩] ∧ RunV w r wv nv ∧ RowsV natC w lv ls ∧ TruthOk r f ls ∧ v = .bool true
  uniq := by
    rintro _ _ _ _ ⟨_, _, _, _, _, _, _, _, _, _, rfl⟩ ⟨_, _, _, _, _, _, _, _, _, _, rfl⟩
    rfl
  shut := by
    rintro _ _ _ ⟨r, wv, nv, f, lv, ls, h1, h2, h3⟩
    exact ⟨r, wv, nv, f, lv, ls, h1, h2.shut, h3⟩
theorem pow_int {a b : Nat} (h : a < 2 ^ b) : inI 0 (a : Int) (((2 ^ b : Nat) : Int) - 1) = true := by
  simp only [inI, Bool.and_eq_true, decide_eq_true_eq]
  omega
theorem run44 {ov : Ov} (ho : ∀ args w, ov 44 args w = none) (h61 : HasP ov 61 S61.F) (h62 : HasP ov 62 S62.F) (r : MRun) (wv nv : Value) (f : Nat) (lv : Value) (ls : List Nat) (w : AW) (hl : w.lim = w.next) (hR : RunV w r wv nv) (hv : RowsV natC w lv ls) (hT : TruthOk r f ls) :
    ∃ v w', (run Try.prog ov 2).call 44 [.agg ⟨runC r wv nv⟩, .agg ⟨[.int .i64 f, lv]⟩] w .none = .ok (.ret v) w' .none ∧ v = .bool true := by
  refine call_wp text44 (by simp) (ho _ _) ?_
  have hb := runB_bnd hT.run
  obtain ⟨w2, hw2⟩ : ∃ w2, w2 = (⟨(w.heap.put w.next (some (.cells (runC r wv nv) 25 false))).put (w.next + 1) (some (.cells [.int .i64 (f : Int), lv] 30 false)), w.next + 1 + 1, w.lim⟩ : AW) := ⟨_, rfl⟩
  have u2 : Up w w2 := hw2 ▸ ((Up.refl w).add _).add _
  have g1 : w2.heap.get w.next = some (.cells (runC r wv nv) 25 false) := by rw [hw2, get_put, if_neg (by omega), get_put, if_pos rfl]
  have g2 : w2.heap.get (w.next + 1) = some (.cells [.int .i64 (f : Int), lv] 30 false) := by rw [hw2, get_put, if_pos rfl]
  have hv2 := hv.up u2
  obtain ⟨⟨vs, hvs, hrel⟩, hn, _⟩ := hR
  have hl1 := fun w2 => len22V (w' := w2) hvs
  have hl2 := fun w2 => len23V (w' := w2) hn
  have hl3 := fun w2 => len26V (w' := w2) hv
  rw [hrel.len] at hl1
  rw [hT.len] at hl3
  obtain ⟨P, hP⟩ : ∃ P : Nat, r.pods = (P : Int) := ⟨r.pods.toNat, by have := hb.p1; omega⟩
  have hP8 : P ≤ 8 := by have := hb.p8; omega
  have hf := hT.first
  rw [hP, Int.toNat_natCast] at hf
  have hf256 : f < 256 := Nat.lt_of_lt_of_le hf (Nat.pow_le_pow_right (n := 2) (by decide) hP8)
  have q1 := fun w => S61.call1 (P := Try.prog) h61 (w := w) ⟨(f : Int), P, rfl, by omega, rfl⟩
  rw [pow_int hf] at q1
  have q2 := fun w => S62.call1 (P := Try.prog) h62 (w := w) ⟨f, rfl, hf256, rfl⟩
  have hfew : ¬ r.few < (popN f : Int) := by have := hT.few; omega
  have hd10 := hb.d10
  have hn4 := hb.n4
  simp only [runC] at g1
  have ew : (⟨(w.heap.put w.next (some (.cells [.int .i64 P, .int .i64 r.boxes, .int .i64 r.few, .int .i64 r.delay, wv, nv] 25 false))).put (w.next + 1) (some (.cells [.int .i64 (f : Int), lv] 30 false)), w.next + 1 + 1, w.lim⟩ : AW) = w2 := by rw [hw2, ← hP]; rfl
  simp [mc44, cellsOf_agg, runC, hP, q1, q2, hl1, hl3, hfew, sameN_int, sameN_slice]
  rw [ew]
  refine wp_seqX (wp_blockX (wp_rounds (fun i t w' => w' = w2 ∧ tget t 2 = .pointer (some ⟨w.next, 0, none⟩) ∧ tget t 31 = lv ∧ tget t 32 = .int .i64 (r.days.length : Nat) ∧ tget t 33 = .int .i64 (i : Nat) ∧ i ≤ r.days.length) 20 (by decide) ⟨rfl, by simp, by simp, by simp, by simp, by omega⟩ ?_))
  rintro i t w' ⟨rfl, t2, t31, t32, t33, hi⟩
  have hw1' : IntKind.wrap .i64 ((i : Int) + 1) = (i : Int) + 1 := wrap64_in (by omega) (by omega)
  by_cases hlt : i < r.days.length
  · obtain ⟨y, hy⟩ : ∃ y, ls[i]? = some y := ⟨_, List.getElem?_eq_getElem (by rw [hT.len]; exact hlt)⟩
    obtain ⟨b, off, sq, c, rfl, hra⟩ := hv2.at_ i (by rw [hT.len]; exact hlt)
    have hld := hra.rd1 natC_length hy (j := 0) (x := .int .i64 (y : Int)) rfl
    have hia := fun w => ia26 w ⟨b, off, sq⟩ ls.length c .i64 i (by rw [hT.len]; exact hlt)
    simp only [Nat.mul_one, Nat.add_zero] at hld hia
    have q3 := fun w => S61.call1 (P := Try.prog) h61 (w := w) ⟨(y : Int), r.near.length, rfl, by omega, rfl⟩
    rw [pow_int (hT.all y (List.mem_of_getElem? hy))] at q3
    simp [mc44_l0, t2, t31, t32, t33, hlt, g1, hia, hld, hl2, q3, hw1']
    exact ⟨by omega, by omega⟩
  · have hi' : i = r.days.length := by omega
    subst hi'
    simp [mc44_l0, t32, t33, tupV]
def S30 : PSpec where
  R args w v := ∃ (r : MRun) (wv nv : Value) (f : Nat) (lv : Value) (ls : List Nat), args = [.agg ⟨runC r wv nv⟩, .agg ⟨[.int .i64 f, lv]⟩] ∧ RunV w r wv nv ∧ RowsV natC w lv ls ∧ TruthOk r f ls ∧ v = .int .i64 0
  uniq := by
    rintro _ _ _ _ ⟨_, _, _, _, _, _, _, _, _, _, rfl⟩ ⟨_, _, _, _, _, _, _, _, _, _, rfl⟩
    rfl
  shut := by
    rintro _ _ _ ⟨r, wv, nv, f, lv, ls, h1, h2, h3⟩
    exact ⟨r, wv, nv, f, lv, ls, h1, h2.shut, h3⟩
theorem run30 {ov : Ov} (ho : ∀ args w, ov 30 args w = none) (h27 : HasP ov 27 S27.F) (h44 : HasP ov 44 S44.F) (r : MRun) (wv nv : Value) (f : Nat) (lv : Value) (ls : List Nat) (w : AW) (hl : w.lim = w.next) (hR : RunV w r wv nv) (hv : RowsV natC w lv ls) (hT : TruthOk r f ls) :
    ∃ v w', (run Try.prog ov 2).call 30 [.agg ⟨runC r wv nv⟩, .agg ⟨[.int .i64 f, lv]⟩] w .none = .ok (.ret v) w' .none ∧ v = .int .i64 0 := by
  refine call_wp text30 (by simp) (ho _ _) ?_
  have u2 : Up w ⟨(w.heap.put w.next (some (.cells (runC r wv nv) 25 false))).put (w.next + 1) (some (.cells [.int .i64 (f : Int), lv] 30 false)), w.next + 1 + 1, w.lim⟩ := ((Up.refl w).add _).add _
  have q1 := S27.call1 (P := Try.prog) h27 ⟨r, wv, nv, rfl, hR.up u2, rfl⟩
  have q2 := S44.call1 (P := Try.prog) h44 ⟨r, wv, nv, f, lv, ls, rfl, hR.up u2, hv.up u2, hT, rfl⟩
  rw [hT.run] at q1
  simp only [runC] at q1 q2
  simp [mc30, cellsOf_agg, runC, q1, q2, tupV]
def S45 : PSpec where
  R args w v := ∃ (r : MRun) (wv nv : Value), args = [.agg ⟨runC r wv nv⟩] ∧ RunV w r wv nv ∧ v = .int .i64 (r.days.length : Nat)
  uniq := by
    rintro _ _ _ _ ⟨r, wv, nv, rfl, h1, rfl⟩ ⟨r', wv', nv', h, k1, rfl⟩
    simp only [List.cons.injEq, Value.agg.injEq, Array.mk.injEq, and_true] at h
    have := RunV.same h h1 k1
    subst this; rfl
  shut := by
    rintro _ _ _ ⟨r, wv, nv, h1, h2, h3⟩
    exact ⟨r, wv, nv, h1, h2.shut, h3⟩
theorem run45 {ov : Ov} (ho : ∀ args w, ov 45 args w = none) (r : MRun) (wv nv : Value) (w : AW) (hl : w.lim = w.next) (hR : RunV w r wv nv) : ∃ v w', (run Try.prog ov 2).call 45 [.agg ⟨runC r wv nv⟩] w .none = .ok (.ret v) w' .none ∧ v = .int .i64 (r.days.length : Nat) := by
  refine call_wp text45 (by simp) (ho _ _) ?_
  obtain ⟨⟨vs, hvs, hrel⟩, hn, _⟩ := hR
  have hl1 := fun w2 => len22V (w' := w2) hvs
  rw [hrel.len] at hl1
  simp [mc45, cellsOf_agg, runC, hl1, tupV]
/-- the pods with mould at a time -/
def plN (r : MRun) (ls : List Nat) (f : Nat) : Nat → Nat
  | 0 => f
  | d + 1 => match r.days[d]?, ls[d]? with
    | some l, some k => dayB l r.near l.length r.boxes.toNat k (plN r ls f d)
    | _, _ => plN r ls f d
def plL (r : MRun) (ls : List Nat) (f n : Nat) : List Nat := (List.range (n + 1)).map (plN r ls f)
theorem plL_snoc (r : MRun) (ls : List Nat) (f n : Nat) : plL r ls f (n + 1) = plL r ls f n ++ [plN r ls f (n + 1)] := by
  unfold plL
  rw [List.range_succ (n := n + 1), List.map_append]; rfl
theorem plL_at {r : MRun} {ls : List Nat} {f n i : Nat} (h : i ≤ n) : (plL r ls f n)[i]? = some (plN r ls f i) := by
  unfold plL
  rw [List.getElem?_map, List.getElem?_range (by omega)]; rfl
@[simp] theorem plL_len (r : MRun) (ls : List Nat) (f n : Nat) : (plL r ls f n).length = n + 1 := by simp [plL]
theorem plN_lt {r : MRun} {ls : List Nat} {f : Nat} (hT : TruthOk r f ls) : ∀ i : Nat, plN r ls f i < 2 ^ r.pods.toNat
  | 0 => hT.first
  | d + 1 => by
    unfold plN
    cases h1 : r.days[d]? with
    | none => exact plN_lt hT d
    | some l => cases h2 : ls[d]? with
      | none => exact plN_lt hT d
      | some k =>
        have e : l.length = r.pods.toNat := by have := ((runB_bnd hT.run).day l (List.mem_of_getElem? h1)).1; omega
        show dayB l r.near l.length r.boxes.toNat k (plN r ls f d) < _
        rw [← e]
        exact dayB_lt (e ▸ plN_lt hT d)
theorem list26 : isList Try.prog 26 = true := by kernel_rfl
theorem elem26 : elemA Try.prog 26 = some 3 := by kernel_rfl
theorem sz3 : szOf Try.prog 3 = some 1 := by kernel_rfl
theorem small3 : smallT Try.prog 3 = true := by kernel_rfl
end Go.Proofs.Ytaffhippclpbpaa.walk
