/- Part of a proof by a machine of ones own: see the text with the theorem. -/
import Derived.Test.YtipglpmelgmelaaDoorFT
namespace Go.Proofs.YtipglpmelgmelaaDoor.walk
open Go Go.Sh
open known (partsC laidL noOv)
set_option maxRecDepth 100000
set_option linter.unusedSimpArgs false
/-! PodFewest: windowIn, met -/
theorem rule16m {ov : Ov} (h : HasP ov 16 F16) (p : Pod) (m : Nat) (w : AW) : (run Tryd.prog ov (m + 1)).call 16 [.agg ⟨podC p⟩] w .none = .ok (.ret (.tuple ⟨[.agg ⟨[.int .i64 (wA p), .int .i64 (wB p)]⟩, .int .i64 (wE p)]⟩)) w .none := h.call rfl
def wiL (p : Pod) (a : Int) : Int := max (wA p) a
def wiH (p : Pod) (b : Int) : Int := min (wB p) b
def wiB (p : Pod) (a b : Int) : Bool := decide (wE p = 0) && decide (wiL p a ≤ wiH p b)
noncomputable def F37 : PureF := fun args _ => match args with | [.agg ⟨l⟩, .agg ⟨[.int .i64 a, .int .i64 b]⟩] => (podOf l).map fun p => .tuple ⟨[.agg ⟨[.int .i64 (wiL p a), .int .i64 (wiH p b)]⟩, .bool (wiB p a b)]⟩ | _ => none
theorem rule37 {ov : Ov} (h : HasP ov 37 F37) (p : Pod) (a b : Int) (m : Nat) (w : AW) : (run Tryd.prog ov (m + 1)).call 37 [.agg ⟨podC p⟩, .agg ⟨[.int .i64 a, .int .i64 b]⟩] w .none = .ok (.ret (.tuple ⟨[.agg ⟨[.int .i64 (wiL p a), .int .i64 (wiH p b)]⟩, .bool (wiB p a b)]⟩)) w .none := h.call (by simp [F37, podOf_C])
theorem run37 {ov : Ov} (ho : ∀ args w, ov 37 args w = none) (h16 : HasP ov 16 F16) (h35 : HasP ov 35 F35) (p : Pod) (a b : Int) (w : AW) (hl : w.lim = w.next) : ∃ x w', (run Tryd.prog ov 2).call 37 [.agg ⟨podC p⟩, .agg ⟨[.int .i64 a, .int .i64 b]⟩] w .none = .ok (.ret x) w' .none ∧ x = .tuple ⟨[.agg ⟨[.int .i64 (wiL p a), .int .i64 (wiH p b)]⟩, .bool (wiB p a b)]⟩ := by
  refine call_wp text37 (by simp) (ho _ _) ?_
  have l1 : w.lim ≤ w.next + 2 := by omega
  have l2 : w.lim ≤ w.next + 3 := by omega
  have r16 := fun w => rule16m h16 p 0 w
  have r35 := fun a b w => rule35m h35 a b 0 w
  simp only [Nat.zero_add] at r16 r35
  have sv := fun x y => same_ints [x, y]
  simp only [List.map_cons, List.map_nil] at sv
  have si := fun n k a => sameN_int n k a
  by_cases hE : wE p = 0
  · by_cases hc : wiL p a ≤ wiH p b
    · have hc' : max (wA p) a ≤ min (wB p) b := hc
      simp [mc37, r16, r35, l1, l2, cellsOf_agg, least2, most2, sv, si, hE, hc', tupV, wiL, wiH, wiB]
    · have hc' : ¬ max (wA p) a ≤ min (wB p) b := hc
      simp [mc37, r16, r35, l1, l2, cellsOf_agg, least2, most2, sv, si, hE, hc', tupV, wiL, wiH, wiB]
  · simp [mc37, r16, r35, l1, l2, cellsOf_agg, least2, most2, sv, si, hE, tupV, wiL, wiH, wiB]
def metB (R : List Int) (x y : Int) : Bool := R.any fun d => inI x d y
theorem met_drop {R : List Int} {i : Nat} {d : Int} (h : R[i]? = some d) (x y : Int) : metB (R.drop i) x y = (inI x d y || metB (R.drop (i + 1)) x y) := by
  obtain ⟨hi, he⟩ := List.getElem?_eq_some_iff.1 h
  rw [List.drop_eq_getElem_cons hi, he]
  rfl
theorem loop39 {ov : Ov} (m : Nat) (h33 : HasP ov 33 F33) (R : List Int) (hlen : R.length ≤ 100) (x y : Int) (u : Value) (w : AW) (B : Nat) (hB : w.heap.get B = some (.cells [.int .i64 x, .int .i64 y] 26 false)) (hu : RowsV intC w u R)
    (Q : Ex → Tm → AW → Prop) (t : Tm) (t0 : tget t 0 = u) (t3 : tget t 3 = .pointer (some ⟨B, 0, none⟩)) (t5 : tget t 5 = .int .i64 0)
    (hno : ∀ t, metB R x y = false → Q (.exit 0) t w) (hyes : ∀ t, metB R x y = true → tget t 4 = .bool true → Q .ret t w) : wp (exM Tryd.prog (run Tryd.prog ov (m + 1)) (.loop mc39_l0) t w) Q := by
  have hlu := len33V hu
  refine wp_rounds (fun i t w' => w' = w ∧ tget t 0 = u ∧ tget t 3 = .pointer (some ⟨B, 0, none⟩) ∧ tget t 5 = .int .i64 (i : Nat) ∧ i ≤ R.length ∧ metB R x y = metB (R.drop i) x y) 200 (by decide) ⟨rfl, t0, t3, t5, Nat.zero_le _, rfl⟩ ?_
  clear t0 t3 t5
  rintro i t w' ⟨rfl, t0, t3, t5, hi, hm⟩
  by_cases hlt : i < R.length
  · obtain ⟨d, hd⟩ : ∃ d, R[i]? = some d := ⟨_, List.getElem?_eq_getElem hlt⟩
    obtain ⟨b, off, sq, c, rfl, hr⟩ := hu.at_ i hlt
    have hld := hr.int hd
    have hia := fun w => ia33 w ⟨b, off, sq⟩ R.length c .i64 i hlt
    have hw1 : IntKind.wrap .i64 ((i : Int) + 1) = (i : Int) + 1 := wrap64_in (by omega) (by omega)
    have r33 := fun n a b w => rule33m h33 n a b m w
    rw [met_drop hd] at hm
    cases f1 : inI x d y with
    | true =>
      rw [f1, Bool.true_or] at hm
      simp [mc39_l0, t0, t3, t5, hlt, hlu, hia, hld, hB, r33, f1]
      exact hyes _ hm (by simp)
    | false =>
      rw [f1, Bool.false_or] at hm
      simp [mc39_l0, t0, t3, t5, hlt, hlu, hia, hld, hB, r33, f1, hw1]
      exact ⟨by omega, hlt, hm⟩
  · have hi' : i = R.length := by omega
    subst hi'
    simp [mc39_l0, t0, t5, hlu]
    refine hno _ ?_
    rw [hm, List.drop_length]; rfl
theorem run39 {ov : Ov} (ho : ∀ args w, ov 39 args w = none) (h33 : HasP ov 33 F33) (R : List Int) (hlen : R.length ≤ 100) (x y : Int) (u : Value) (w : AW) (hu : RowsV intC w u R) : ∃ z w', (run Tryd.prog ov 2).call 39 [u, .agg ⟨[.int .i64 x, .int .i64 y]⟩] w .none = .ok (.ret z) w' .none ∧ z = .bool (metB R x y) := by
  refine call_wp text39 (by simp) (ho _ _) ?_
  have o1 : Old w.next w.heap (w.heap.put w.next (some (.cells [.int .i64 x, .int .i64 y] 26 false))) := (Old.refl _ _).put (Nat.le_refl _)
  have hu1 : RowsV intC ⟨w.heap.put w.next (some (.cells [.int .i64 x, .int .i64 y] 26 false)), w.next + 1, w.lim⟩ u R := hu.old o1 (Nat.le_succ _)
  simp [mc39]
  refine wp_seqX (wp_blockX (loop39 0 h33 R hlen x y u _ w.next ?_ hu1 _ _ ?_ ?_ ?_ ?_ ?_))
  case _ => simp
  case _ => simp
  case _ => simp
  case _ => simp
  case _ => intro t h; simp [h, tupV]
  case _ => intro t h h4; simp [h, h4, tupV]
noncomputable def F39 : PureF := fun args w => match args with | [u, .agg ⟨[.int .i64 x, .int .i64 y]⟩] => (rowsIn intC w u).bind fun R => bif decide (R.length ≤ 100) then some (.bool (metB R x y)) else none | _ => none
theorem rule39 {ov : Ov} (k : HasP ov 39 F39) {u : Value} {R : List Int} (hlen : R.length ≤ 100) (x y : Int) {w : AW} (hu : RowsV intC w u R) (m : Nat) : (run Tryd.prog ov (m + 1)).call 39 [u, .agg ⟨[.int .i64 x, .int .i64 y]⟩] w .none = .ok (.ret (.bool (metB R x y))) w .none := k.call (by
  simp [F39, hu.rowsIn (m := 1) intC_length intC_inj, hlen])
end Go.Proofs.YtipglpmelgmelaaDoor.walk

namespace Go.Proofs.YtipglpmelgmelaaDoor.walk
open Go Go.Sh
open known (partsC laidL noOv)
set_option maxRecDepth 100000
set_option linter.unusedSimpArgs false
/-! PodFewest: how many different days there are; as many are needed as pods are apart -/
def dstL (R : List Int) : Nat → List Int
  | 0 => []
  | i + 1 => match R[i]? with | some d => (if d ∈ R.take i then dstL R i else dstL R i ++ [d]) | none => dstL R i
def dstI (R : List Int) (i : Nat) : Int := (dstL R i).length
theorem dst_snoc {R : List Int} {i : Nat} {d : Int} (h : R[i]? = some d) : dstL R (i + 1) = if d ∈ R.take i then dstL R i else dstL R i ++ [d] := by
  show (match R[i]? with | some d => (if d ∈ R.take i then dstL R i else dstL R i ++ [d]) | none => dstL R i) = _
  rw [h]
theorem dst_len {R : List Int} : ∀ i, (dstL R i).length ≤ i
  | 0 => by simp [dstL]
  | i + 1 => by
    have := dst_len (R := R) i
    unfold dstL
    split
    · split
      · omega
      · simp; omega
    · omega
theorem dst_mem {R : List Int} : ∀ (i : Nat) (d : Int), i ≤ R.length → (d ∈ R.take i → d ∈ dstL R i)
  | 0, d, _, h => by simp at h
  | i + 1, d, hi, h => by
    obtain ⟨x, hx⟩ : ∃ x, R[i]? = some x := ⟨_, List.getElem?_eq_getElem (by omega)⟩
    rw [take_snoc hx] at h
    rw [dst_snoc hx]
    have ih := dst_mem (R := R) i d (by omega)
    rcases List.mem_append.1 h with h | h
    · split
      · exact ih h
      · exact List.mem_append_left _ (ih h)
    · simp at h
      subst h
      split
      · rename_i h'; exact ih h'
      · simp
/-- windows that are apart need as many days -/
theorem need_days : ∀ (C : List Off) (E : List Int), C.Pairwise (fun x y => oH x < oL y) → (∀ o ∈ C, ∃ d ∈ E, oL o ≤ d ∧ d ≤ oH o) → C.length ≤ E.length
  | [], _, _, _ => Nat.zero_le _
  | o :: C, E, hp, h => by
    obtain ⟨p1, p2⟩ := List.pairwise_cons.1 hp
    obtain ⟨d, hd, d1, d2⟩ := h o (by simp)
    have ih := need_days C (E.erase d) p2 fun x hx => by
      obtain ⟨e, he, e1, e2⟩ := h x (List.mem_cons_of_mem _ hx)
      have := p1 x hx
      exact ⟨e, (List.mem_erase_of_ne (by omega)).2 he, e1, e2⟩
    rw [List.length_erase_of_mem hd] at ih
    have : 0 < E.length := List.length_pos_of_mem hd
    simp only [List.length_cons]
    omega
theorem slice_head {P : Program} {st e : TypeId} {sz : Nat} (h1 : elemA P st = some e) (h2 : szOf P e = some sz) {w : AW} {a : Addr} {n c hi : Nat} {cs : List Value} {e' : TypeId} {ro : Bool} (hg : w.heap.get a.block = some (.cells cs e' ro)) (hhi : hi ≤ c) :
    ∃ sq, sliceA P w st (.slice (some a) n c) none (some (.int .i64 (hi : Int))) none = .val (.slice (some ⟨a.block, a.off, sq⟩) hi c) w := by
  have hb : Nat.ble hi c = true := Nat.ble_eq_true_of_le hhi
  refine ⟨bif Nat.beq e e' && a.spot.isNone then none else some 1, ?_⟩
  show sliceA P w st (.slice (some a) n c) none (some (.int .i64 (Int.ofNat hi))) none = _
  simp [sliceA, sliceB1, h1, h2, sliceRow, boundA, hb, cutR, cutAddr, rowElem, hg]
theorem loop40 {ov : Ov} (m : Nat) (h64 : HasP ov 64 F96) (R : List Int) (hlen : R.length ≤ 100) (B : Nat) (w : AW) (hB : w.heap.get B = some (.cells (R.flatMap intC) 3 false)) (hlt0 : B < w.next)
    (Q : Ex → Tm → AW → Prop) (t : Tm) (t0 : tget t 0 = .slice (some ⟨B, 0, none⟩) R.length R.length) (t3 : tget t 3 = .int .i64 0) (t4 : tget t 4 = .int .i64 0)
    (hQ : ∀ t, tget t 3 = .int .i64 (dstI R R.length) → Q (.exit 0) t w) : wp (exM Tryd.prog (run Tryd.prog ov (m + 1)) (.loop mc40_l0) t w) Q := by
  have hra : RowsA intC w.heap w.next B 0 R := ⟨⟨[], [], 3, false, by simpa using hB, rfl⟩, hlt0⟩
  refine wp_rounds (fun i t w' => w' = w ∧ tget t 0 = .slice (some ⟨B, 0, none⟩) R.length R.length ∧ tget t 3 = .int .i64 (dstI R i) ∧ tget t 4 = .int .i64 (i : Nat) ∧ i ≤ R.length) 200 (by decide) ⟨rfl, t0, t3, t4, Nat.zero_le _⟩ ?_
  clear t0 t3 t4
  rintro i t w' ⟨rfl, t0, t3, t4, hi⟩
  by_cases hlt : i < R.length
  · obtain ⟨d, hd⟩ : ∃ d, R[i]? = some d := ⟨_, List.getElem?_eq_getElem hlt⟩
    have hld := hra.int hd
    rw [Nat.zero_add] at hld
    have hia := fun w => ia33 w ⟨B, 0, none⟩ R.length R.length .i64 i hlt
    have hw1 : IntKind.wrap .i64 ((i : Int) + 1) = (i : Int) + 1 := wrap64_in (by omega) (by omega)
    obtain ⟨sq, hsl⟩ := slice_head (P := Tryd.prog) (st := 33) elem33r sz3r (w := w') (a := ⟨B, 0, none⟩) (n := R.length) (c := R.length) (hi := i) hB (by omega)
    have hrow : RowsV intC w' (.slice (some ⟨B, 0, sq⟩) i R.length) (R.take i) := by
      have hl : (R.take i).length = i := by rw [List.length_take]; omega
      refine .inr ⟨B, 0, sq, R.length, by rw [hl], ⟨[], (R.drop i).flatMap intC, 3, false, ?_, rfl⟩, hlt0⟩
      rw [hB, List.nil_append, ← List.flatMap_append, List.take_append_drop]
    have r64 := rule96 (f := 64) h64 (L := R.take i) (by rw [List.length_take]; omega) d hrow m
    obtain ⟨k1, k2⟩ := fnd_mem (R.take i) d 0 (Int.le_refl 0)
    have hdl := dst_len (R := R) i
    have hs := dst_snoc hd
    by_cases hm : d ∈ R.take i
    · have hge : ¬ fnd (R.take i) d 0 < 0 := by have := k1 hm; omega
      rw [if_pos hm] at hs
      have hs' : dstI R (i + 1) = dstI R i := by unfold dstI; rw [hs]
      simp [mc40_l0, t0, t3, t4, hlt, hia, hld, hsl, r64, hge, hw1]
      exact ⟨by omega, hs'.symm, hlt⟩
    · have hneg : fnd (R.take i) d 0 < 0 := by have := k2 hm; omega
      rw [if_neg hm] at hs
      have hs' : dstI R (i + 1) = dstI R i + 1 := by unfold dstI; rw [hs, List.length_append]; simp
      have hw2 : IntKind.wrap .i64 (dstI R i + 1) = dstI R i + 1 := by unfold dstI; exact wrap64_in (by omega) (by omega)
      simp [mc40_l0, t0, t3, t4, hlt, hia, hld, hsl, r64, hneg, hw1, hw2]
      exact ⟨by omega, hs'.symm, hlt⟩
  · have hi' : i = R.length := by omega
    subst hi'
    simp [mc40_l0, t0, t4]
    exact hQ _ (by simp [t3])
end Go.Proofs.YtipglpmelgmelaaDoor.walk

namespace Go.Proofs.YtipglpmelgmelaaDoor.walk
open Go Go.Sh
open known (partsC laidL noOv)
set_option maxRecDepth 100000
set_option linter.unusedSimpArgs false
theorem wi_of {p : Pod} (h : podB p = true) (a b : Int) : wiB p a b = decide (max (winL p) a ≤ min (winH p) b) ∧ (wiB p a b = true → wiL p a = max (winL p) a ∧ wiH p b = min (winH p) b) := by
  have hB : podsB [p] = true := by
    have : chkB [p] 1 = (chkB [p] 0 && (podB p && !hasT (tagsTo [p] 0) p.tag)) := chk_snoc rfl
    simp only [podsB, Bool.and_eq_true, decide_eq_true_eq]
    refine ⟨by simp, ?_⟩
    show chkB [p] 1 = true
    rw [this, h]; rfl
  by_cases hc : winH p < winL p
  · have e : wE p = 4 := by simp [wE, hB, hc]
    have e2 : wiB p a b = false := by simp [wiB, e]
    have e3 : ¬ max (winL p) a ≤ min (winH p) b := by omega
    rw [e2]
    exact ⟨by simp [e3], fun h => by cases h⟩
  · have e : wE p = 0 := by simp [wE, hB, hc]
    have e1 : wiL p a = max (winL p) a := by simp [wiL, wA, e]
    have e2 : wiH p b = min (winH p) b := by simp [wiH, wB, e]
    exact ⟨by simp [wiB, e, e1, e2], fun _ => ⟨e1, e2⟩⟩
theorem loop10a {ov : Ov} (m : Nat) (h33 : HasP ov 33 F33) (R : List Int) (hlen : R.length ≤ 100) (a b : Int) (hR : ∀ d ∈ R, a ≤ d ∧ d ≤ b) (u : Value) (w : AW) (B : Nat) (hB : w.heap.get B = some (.cells [.int .i64 a, .int .i64 b] 26 false)) (hu : RowsV intC w u R) (v0 v2 v9 : Value)
    (Q : Ex → Tm → AW → Prop) (t : Tm) (t0 : tget t 0 = v0) (t2 : tget t 2 = v2) (t9 : tget t 9 = v9) (t7 : tget t 7 = u) (t4 : tget t 4 = .pointer (some ⟨B, 0, none⟩)) (t11 : tget t 11 = .int .i64 0)
    (hQ : ∀ t, tget t 0 = v0 → tget t 2 = v2 → tget t 9 = v9 → tget t 7 = u → tget t 4 = .pointer (some ⟨B, 0, none⟩) → Q (.exit 0) t w) : wp (exM Tryd.prog (run Tryd.prog ov (m + 1)) (.loop mc10_l0) t w) Q := by
  have hlu := len33V hu
  refine wp_rounds (fun i t w' => w' = w ∧ tget t 0 = v0 ∧ tget t 2 = v2 ∧ tget t 9 = v9 ∧ tget t 7 = u ∧ tget t 4 = .pointer (some ⟨B, 0, none⟩) ∧ tget t 11 = .int .i64 (i : Nat) ∧ i ≤ R.length) 200 (by decide) ⟨rfl, t0, t2, t9, t7, t4, t11, Nat.zero_le _⟩ ?_
  clear t0 t2 t9 t7 t4 t11
  rintro i t w' ⟨rfl, t0, t2, t9, t7, t4, t11, hi⟩
  by_cases hlt : i < R.length
  · obtain ⟨d, hd⟩ : ∃ d, R[i]? = some d := ⟨_, List.getElem?_eq_getElem hlt⟩
    obtain ⟨b', off, sq, c, rfl, hr⟩ := hu.at_ i hlt
    have hld := hr.int hd
    have hia := fun w => ia33 w ⟨b', off, sq⟩ R.length c .i64 i hlt
    have hw1 : IntKind.wrap .i64 ((i : Int) + 1) = (i : Int) + 1 := wrap64_in (by omega) (by omega)
    have r33 := fun n a b w => rule33m h33 n a b m w
    have f1 : inI a d b = true := by
      have := hR d (List.mem_of_getElem? hd)
      simp only [inI, Bool.and_eq_true, decide_eq_true_eq]; omega
    simp [mc10_l0, t7, t4, t11, hlt, hlu, hia, hld, hB, r33, f1, hw1]
    refine ⟨by omega, ?_⟩
    simp [t0, t2, t9]; omega
  · have hi' : i = R.length := by omega
    subst hi'
    simp [mc10_l0, t7, t11, hlu]
    exact hQ _ (by simp [t0]) (by simp [t2]) (by simp [t9]) (by simp [t7]) (by simp [t4])
set_option maxHeartbeats 2000000 in
theorem loop10c {ov : Ov} (m : Nat) (h37 : HasP ov 37 F37) (l : List Pod) (hlB : podsB l = true) (a b : Int) (C : List Off) (A : List Int) (hA : ApartOk l a b C A) (hA100 : A.length ≤ 100) (i : Nat) (hi : i < A.length) (o : Off) (ho : o ∈ C) (hoi : A[i]? = some o.i) (v y v7 v2 : Value) (c4 c13 : Nat) (w1 : AW) (hlim : w1.lim ≤ w1.next) (hc4 : c4 < w1.next) (hbox : w1.heap.get c4 = some (.cells [.int .i64 a, .int .i64 b] 26 false)) (hc13 : c13 < w1.next) (hb13 : w1.heap.get c13 = some (.cells [.int .i64 (oL o), .int .i64 (oH o)] 26 false)) (hv : PodsV w1 v l) (hy : RowsV intC w1 y A)
    (Q : Ex → Tm → AW → Prop) (t : Tm) (w : AW) (hw : In28 w1 w)
    (t0 : tget t 0 = v) (t2 : tget t 2 = v2) (t4 : tget t 4 = .pointer (some ⟨c4, 0, none⟩)) (t7 : tget t 7 = v7) (t9 : tget t 9 = y) (t12 : tget t 12 = .int .i64 (i : Nat)) (t13 : tget t 13 = .pointer (some ⟨c13, 0, none⟩)) (t15 : tget t 15 = .int .i64 0)
    (hQ : ∀ t w, In28 w1 w → tget t 0 = v → tget t 2 = v2 → tget t 4 = .pointer (some ⟨c4, 0, none⟩) → tget t 7 = v7 → tget t 9 = y → tget t 12 = .int .i64 (i : Nat) → Q (.exit 4) t w) :
    wp (exM Tryd.prog (run Tryd.prog ov (m + 1)) (.loop mc10_l2) t w) Q := by
  refine wp_rounds (fun k t w => In28 w1 w ∧ tget t 0 = v ∧ tget t 2 = v2 ∧ tget t 4 = .pointer (some ⟨c4, 0, none⟩) ∧ tget t 7 = v7 ∧ tget t 9 = y ∧ tget t 12 = .int .i64 (i : Nat) ∧ tget t 13 = .pointer (some ⟨c13, 0, none⟩) ∧ tget t 15 = .int .i64 (k : Nat) ∧ k ≤ i) 200 (by decide) ⟨hw, t0, t2, t4, t7, t9, t12, t13, t15, Nat.zero_le _⟩ ?_
  clear t0 t2 t4 t7 t9 t12 t13 t15 hw
  rintro k t w ⟨hw, t0, t2, t4, t7, t9, t12, t13, t15, hk⟩
  by_cases hlt : k < i
  · obtain ⟨z, hz⟩ : ∃ x, A[k]? = some x := ⟨_, List.getElem?_eq_getElem (by omega)⟩
    obtain ⟨u, hu, u1, ⟨ju, q1, q2, q3, q4⟩, _, _⟩ := apart_at hA hz
    have hne := apart_ne hA hlt hoi hz
    have hou : o ≠ u := fun e => by subst e; omega
    have hdis := pair_or hA.pair o ho u hu hou
    obtain ⟨_, _, _, _, _, _, hn1⟩ := offs_mem (hA.mem o ho)
    obtain ⟨_, _, _, _, _, _, hn2⟩ := offs_mem (hA.mem u hu)
    have hfar : ¬ max (oL o) (oL u) ≤ min (oH o) (oH u) := by omega
    have hzu : z = (ju : Int) := by omega
    subst hzu
    have hju : ju < l.length := (List.getElem?_eq_some_iff.1 q1).1
    obtain ⟨pb, psq, pc, rfl, hpa⟩ := hv.at_ ju hju
    obtain ⟨b', off', sq', c', rfl, hra⟩ := hy.at_ i hi
    have hld := load_pod' hpa q1
    have hls := hra.int hz
    rw [← hw.old _ hpa.lt] at hld
    rw [← hw.old _ hra.2] at hls
    have hbx := hbox
    rw [← hw.old _ hc4] at hbx
    have hb3 := hb13
    rw [← hw.old _ hc13] at hb3
    have hnx := hw.next
    have hlm := hw.lim
    have lw : w.lim ≤ w.next := by omega
    have e1 : ¬ pb = w.next := by have := hpa.lt; omega
    have e3 : ¬ b' = w.next := by have := hra.2; omega
    have e5 : ¬ c4 = w.next := by omega
    have e6 : ¬ c13 = w.next := by omega
    have hia2 := fun w => ia22 w ⟨pb, 0, psq⟩ l.length pc .i64 ju hju
    have hib2 := fun w => ia33 w ⟨b', off', sq'⟩ A.length c' .i64 k (by omega)
    have hw1 : IntKind.wrap .i64 ((k : Int) + 1) = (k : Int) + 1 := wrap64_in (by omega) (by omega)
    have r2 := fun w => rule37 h37 u.p a b m w
    obtain ⟨x1, x2⟩ := wi_of (pods_all hlB q1) a b
    have ou : oL u = max (winL u.p) a := by unfold oL; rw [q3]
    have ov' : oH u = min (winH u.p) b := by unfold oH; rw [q4]
    have x3 : wiB u.p a b = true := by rw [x1]; simp; omega
    obtain ⟨x4, x5⟩ := x2 x3
    rw [x3, x4, x5, ← ou, ← ov'] at r2
    have sp := fun p => same_pod p
    have sv := fun x y => same_ints [x, y]
    simp only [List.map_cons, List.map_nil] at sv
    have si := fun n k a => sameN_int n k a
    simp [mc10_l2, t0, t4, t9, t12, t13, t15, hlt, hia2, hib2, hld, hls, hbx, hb3, lw, e1, e3, e5, e6, r2, sp, sv, si, cellsOf_agg, least2, most2, hfar, hw1]
    refine ⟨by omega, ⟨fun x hx => ?_, by show w1.next ≤ w.next + 1; omega, hlm⟩, ?_⟩
    · simp [show ¬ x = w.next by omega]
      exact hw.old x hx
    · simp [t2, t7]; omega
  · have hk' : k = i := by omega
    subst hk'
    simp [mc10_l2, t12, t15]
    exact hQ _ _ hw (by simp [t0]) (by simp [t2]) (by simp [t4]) (by simp [t7]) (by simp [t9]) (by simp [t12])
end Go.Proofs.YtipglpmelgmelaaDoor.walk

namespace Go.Proofs.YtipglpmelgmelaaDoor.walk
open Go Go.Sh
open known (partsC laidL noOv)
set_option maxRecDepth 100000
set_option linter.unusedSimpArgs false
set_option maxHeartbeats 2000000 in
theorem loop10b {ov : Ov} (m : Nat) (h37 : HasP ov 37 F37) (l : List Pod) (hlB : podsB l = true) (a b : Int) (C : List Off) (A : List Int) (hA : ApartOk l a b C A) (hA100 : A.length ≤ 100) (v y v7 v2 : Value) (c4 : Nat) (w1 : AW) (hlim : w1.lim ≤ w1.next) (hc4 : c4 < w1.next) (hbox : w1.heap.get c4 = some (.cells [.int .i64 a, .int .i64 b] 26 false)) (hv : PodsV w1 v l) (hy : RowsV intC w1 y A)
    (Q : Ex → Tm → AW → Prop) (t : Tm) (w : AW) (hw : In28 w1 w)
    (t0 : tget t 0 = v) (t2 : tget t 2 = v2) (t4 : tget t 4 = .pointer (some ⟨c4, 0, none⟩)) (t7 : tget t 7 = v7) (t9 : tget t 9 = y) (t12 : tget t 12 = .int .i64 0)
    (hQ : ∀ t w, In28 w1 w → tget t 0 = v → tget t 2 = v2 → tget t 4 = .pointer (some ⟨c4, 0, none⟩) → tget t 7 = v7 → Q (.exit 2) t w) :
    wp (exM Tryd.prog (run Tryd.prog ov (m + 1)) (.loop mc10_l1) t w) Q := by
  have hly := len33V hy
  refine wp_rounds (fun i t w => In28 w1 w ∧ tget t 0 = v ∧ tget t 2 = v2 ∧ tget t 4 = .pointer (some ⟨c4, 0, none⟩) ∧ tget t 7 = v7 ∧ tget t 9 = y ∧ tget t 12 = .int .i64 (i : Nat) ∧ i ≤ A.length) 200 (by decide) ⟨hw, t0, t2, t4, t7, t9, t12, Nat.zero_le _⟩ ?_
  clear t0 t2 t4 t7 t9 t12 hw
  rintro i t w ⟨hw, t0, t2, t4, t7, t9, t12, hi⟩
  by_cases hlt : i < A.length
  · obtain ⟨x, hx⟩ : ∃ x, A[i]? = some x := ⟨_, List.getElem?_eq_getElem hlt⟩
    obtain ⟨o, ho, o1, ⟨jo, p1, p2, p3, p4⟩, _, _⟩ := apart_at hA hx
    obtain ⟨_, _, _, _, _, _, hn1⟩ := offs_mem (hA.mem o ho)
    have hxo : x = (jo : Int) := by omega
    subst hxo
    have hoi : A[i]? = some o.i := by rw [hx, p2]
    have hjo : jo < l.length := (List.getElem?_eq_some_iff.1 p1).1
    have hy' := hy
    have hv' := hv
    obtain ⟨pb, psq, pc, rfl, hpa⟩ := hv.at_ jo hjo
    obtain ⟨b', off', sq', c', rfl, hra⟩ := hy.at_ i hlt
    have hld := load_pod' hpa p1
    have hls := hra.int hx
    rw [← hw.old _ hpa.lt] at hld
    rw [← hw.old _ hra.2] at hls
    have hbx := hbox
    rw [← hw.old _ hc4] at hbx
    have hnx := hw.next
    have hlm := hw.lim
    have lw : w.lim ≤ w.next := by omega
    have e1 : ¬ pb = w.next := by have := hpa.lt; omega
    have e3 : ¬ b' = w.next := by have := hra.2; omega
    have e5 : ¬ c4 = w.next := by omega
    have hia := fun w => ia22 w ⟨pb, 0, psq⟩ l.length pc .i64 jo hjo
    have hib := fun w => ia33 w ⟨b', off', sq'⟩ A.length c' .i64 i hlt
    have hw1 : IntKind.wrap .i64 ((i : Int) + 1) = (i : Int) + 1 := wrap64_in (by omega) (by omega)
    have r2 := fun w => rule37 h37 o.p a b m w
    obtain ⟨x1, x2⟩ := wi_of (pods_all hlB p1) a b
    have ou : oL o = max (winL o.p) a := by unfold oL; rw [p3]
    have ov' : oH o = min (winH o.p) b := by unfold oH; rw [p4]
    have x3 : wiB o.p a b = true := by rw [x1]; simp; omega
    obtain ⟨x4, x5⟩ := x2 x3
    rw [x3, x4, x5, ← ou, ← ov'] at r2
    have sp := fun p => same_pod p
    have sv := fun x y => same_ints [x, y]
    simp only [List.map_cons, List.map_nil] at sv
    have si := fun n k a => sameN_int n k a
    simp [mc10_l1, t0, t4, t9, t12, hlt, hly, hia, hib, hld, hls, hbx, lw, e1, e3, e5, r2, sp, sv, si, cellsOf_agg]
    obtain ⟨H, hH⟩ : ∃ H, H = (w.heap.put w.next (some (.cells [.int .i64 0, .int .i64 0] 26 false))).put w.next (some (.cells [.int .i64 (oL o), .int .i64 (oH o)] 26 false)) := ⟨_, rfl⟩
    rw [← hH]
    have hHo : ∀ x, x < w.next → H.get x = w.heap.get x := fun x hx => by rw [hH, get_put, if_neg (by omega), get_put, if_neg (by omega)]
    have hwb : ∀ x, x < w1.next → H.get x = w1.heap.get x := fun x hx => by rw [hHo x (by omega)]; exact hw.old x hx
    refine wp_seqX (wp_blockX (wp_blockX (loop10c m h37 l hlB a b C A hA hA100 i hlt o ho hoi (.slice (some ⟨pb, 0, psq⟩) l.length pc) (.slice (some ⟨b', off', sq'⟩) A.length c') v7 v2 c4 w.next ⟨H, w.next + 1, w.lim⟩ (by show w.lim ≤ w.next + 1; omega) (by show c4 < w.next + 1; omega) (by show H.get c4 = _; rw [hwb c4 hc4]; exact hbox) (by show w.next < w.next + 1; omega) (by show H.get w.next = _; rw [hH, get_put, if_pos rfl]) (hv'.old (fun x hx => hwb x hx) (by show w1.next ≤ w.next + 1; omega)) (hy'.old (fun x hx => hwb x hx) (by show w1.next ≤ w.next + 1; omega)) _ _ _ ⟨fun _ _ => rfl, Nat.le_refl _, rfl⟩ ?_ ?_ ?_ ?_ ?_ ?_ ?_ ?_ ?_)))
    case _ => simp [t0]
    case _ => simp [t2]
    case _ => simp [t4]
    case _ => simp [t7]
    case _ => simp [t9]
    case _ => simp [t12]
    case _ => simp
    case _ => simp
    case _ =>
      intro t w' hw' s0 s2 s4 s7 s9 s12
      simp [s0, s2, s4, s7, s9, s12, hw1]
      have hn' : w.next + 1 ≤ w'.next := hw'.next
      have hl' : w'.lim = w.lim := hw'.lim
      exact ⟨by omega, ⟨fun x hx => by rw [hw'.old x (by show x < w.next + 1; omega)]; exact hwb x hx, by omega, by omega⟩, hlt⟩
  · have hi' : i = A.length := by omega
    subst hi'
    simp [mc10_l1, t9, t12, hly]
    exact hQ _ _ hw (by simp [t0]) (by simp [t2]) (by simp [t4]) (by simp [t7])
theorem rule38m {ov : Ov} (k : HasP ov 38 F38) {lo hi : Int} (n : Int) (h1 : 0 ≤ lo ∧ lo ≤ 100000) (h2 : 0 ≤ hi ∧ hi ≤ 100000) (m : Nat) (w : AW) : (run Tryd.prog ov (m + 1)).call 38 [.int .i64 lo, .int .i64 hi, .int .i64 n] w .none = .ok (.ret (.int .i64 (withI lo hi n))) w .none := k.call (by
  have e1 : inI 0 lo 100000 = true := by simp only [inI, Bool.and_eq_true, decide_eq_true_eq]; omega
  have e2 : inI 0 hi 100000 = true := by simp only [inI, Bool.and_eq_true, decide_eq_true_eq]; omega
  simp [F38, e1, e2])
set_option maxHeartbeats 2000000 in
theorem loop10d {ov : Ov} (m : Nat) (h38 : HasP ov 38 F38) (a b : Int) (ha : 0 ≤ a ∧ a ≤ 2000) (hb : 0 ≤ b ∧ b ≤ 2000) (O : List Int) (v0 u v7 : Value) (c4 : Nat) (w0 : AW) (N : Nat) (hN : w0.next = N + 1) (hl : w0.lim ≤ N) (hc4 : c4 ≤ N) (hbox : w0.heap.get c4 = some (.cells [.int .i64 a, .int .i64 b] 26 false)) (hu : RowsV intC w0 u O)
    (Q : Ex → Tm → AW → Prop) (t : Tm) (w : AW) (hw : In30 w0 N (.slice none 0 0) [] w)
    (t0 : tget t 0 = v0) (t2 : tget t 2 = u) (t4 : tget t 4 = .pointer (some ⟨c4, 0, none⟩)) (t7 : tget t 7 = v7) (t18 : tget t 18 = .slice none 0 0) (t19 : tget t 19 = .int .i64 0)
    (hQ : ∀ t w x M, In30 w0 N x M w → M.length ≤ 12 → tget t 0 = v0 → tget t 4 = .pointer (some ⟨c4, 0, none⟩) → tget t 7 = v7 → tget t 18 = x → Q (.exit 6) t w) :
    wp (exM Tryd.prog (run Tryd.prog ov (m + 1)) (.loop mc10_l3) t w) Q := by
  have hlu := len33V hu
  refine wp_rounds (fun i t w => ∃ x M, In30 w0 N x M w ∧ M.length = i ∧ tget t 0 = v0 ∧ tget t 2 = u ∧ tget t 4 = .pointer (some ⟨c4, 0, none⟩) ∧ tget t 7 = v7 ∧ tget t 18 = x ∧ tget t 19 = .int .i64 (i : Nat) ∧ i ≤ O.length ∧ i ≤ 12) 200 (by decide) ⟨_, [], hw, rfl, t0, t2, t4, t7, t18, t19, Nat.zero_le _, Nat.zero_le _⟩ ?_
  clear t0 t2 t4 t7 t18 t19 hw
  rintro i t w ⟨x, M, hw, hM, t0, t2, t4, t7, t18, t19, hi, hi12⟩
  by_cases hlt : i < O.length
  · by_cases h12 : (i : Int) < 12
    · obtain ⟨d, hd⟩ : ∃ d, O[i]? = some d := ⟨_, List.getElem?_eq_getElem hlt⟩
      obtain ⟨b', off, sq, c, rfl, hr⟩ := hu.at_ i hlt
      have hld := hr.int hd
      rw [← hw.old _ (by have := hr.2; omega)] at hld
      have hia := fun w => ia33 w ⟨b', off, sq⟩ O.length c .i64 i hlt
      have hw1 : IntKind.wrap .i64 ((i : Int) + 1) = (i : Int) + 1 := wrap64_in (by omega) (by omega)
      have r38 := fun w => rule38m h38 (lo := a) (hi := b) d (by omega) (by omega) m w
      have hbx := hbox
      rw [← hw.old _ hc4] at hbx
      have hnx := hw.next
      have hlm := hw.lm
      obtain ⟨v', w', hap, hacc', ho', hn, hl'⟩ := hw.acc.push isList33r elem33r sz3r small3r intC_length intC_singles (by decide) (by omega) hnx (by omega) (withI a b d)
      simp only [intC] at hap
      simp [mc10_l3, t2, t4, t18, t19, hlt, h12, hlu, hia, hld, hbx, r38, hap, hw1]
      refine ⟨by omega, v', M ++ [withI a b d], ⟨fun y hy => by rw [ho' y hy]; exact hw.old y hy, hacc', by omega, hl'.trans hlm⟩, by simp [hM], ?_⟩
      simp [t0, t7]; omega
    · simp [mc10_l3, t2, t19, hlt, h12, hlu]
      exact hQ _ _ _ _ hw (by omega) (by simp [t0]) (by simp [t4]) (by simp [t7]) (by simp [t18])
  · have hge : ¬ (i : Int) < (O.length : Int) := by omega
    simp [mc10_l3, t2, t19, hlt, hlu]
    exact hQ _ _ _ _ hw (by omega) (by simp [t0]) (by simp [t4]) (by simp [t7]) (by simp [t18])
end Go.Proofs.YtipglpmelgmelaaDoor.walk

namespace Go.Proofs.YtipglpmelgmelaaDoor.walk
open Go Go.Sh
open known (partsC laidL noOv)
set_option maxRecDepth 100000
set_option linter.unusedSimpArgs false
noncomputable def mc10_r1 : MC := .seq (.seq (.ops [⟨false, none, some 11, 3, .assign (.const (.int .i64 0))⟩]) (.block 0 (.loop mc10_l0))) (.seq (.seq (.ops [⟨false, none, some 12, 3, .assign (.const (.int .i64 0))⟩]) (.block 2 (.loop mc10_l1))) (.seq (.ops [⟨false, none, some 18, 33, .assign (.const (.slice none 0 0))⟩]) (.seq (.seq (.ops [⟨false, none, some 19, 3, .assign (.const (.int .i64 0))⟩]) (.block 6 (.loop mc10_l3))) (.seq (.ops [⟨false, none, some 20, 4, .assign (.const (.bool true))⟩, ⟨false, none, some 21, 4, .assign (.const (.bool true))⟩]) (.seq (.seq (.ops [⟨false, none, some 22, 3, .assign (.const (.int .i64 0))⟩]) (.block 8 (.loop mc10_l4))) (.seq (.ops [⟨false, none, some 194, 4, .move (.tmp 21)⟩, ⟨false, none, some 195, 4, .move (.tmp 194)⟩, ⟨false, some (195, true), some 196, 4, .move (.tmp 20)⟩, ⟨false, some (195, true), some 197, 4, .unOp .not 4 (.tmp 196)⟩, ⟨false, some (195, true), some 198, 4, .move (.tmp 197)⟩, ⟨false, some (198, false), some 199, 33, .move (.tmp 18)⟩, ⟨false, some (198, false), some 200, 3, .call ⟨.value (.func 40), #[.tmp 199], #[33]⟩⟩, ⟨false, some (198, false), some 201, 33, .move (.tmp 7)⟩, ⟨false, some (198, false), some 202, 3, .call ⟨.builtin .len, #[.tmp 201], #[33]⟩⟩, ⟨false, some (198, false), some 203, 4, .binOp .geq 3 (.tmp 200) (.tmp 202) 3⟩, ⟨false, some (195, true), some 204, 4, .pick (.tmp 198) (.const (.bool true)) (.tmp 203)⟩, ⟨false, none, some 205, 4, .pick (.tmp 195) (.tmp 204) (.const (.bool false))⟩, ⟨false, none, some 206, 4, .move (.tmp 205)⟩, ⟨false, some (206, true), some 207, 4, .call ⟨.value (.func 18), #[], #[]⟩⟩, ⟨false, none, some 208, 4, .pick (.tmp 206) (.tmp 207) (.const (.bool false))⟩, ⟨false, none, some 6, 4, .assign (.tmp 208)⟩]) (.ret)))))))
theorem mc10_eq : mc10 = .seq (.ops [⟨false, none, some 4, 0, .box 26 (.tmp 1)⟩, ⟨false, none, some 6, 4, .assign (.const (.bool false))⟩]) (.seq (.ops [⟨false, none, some 26, 22, .move (.tmp 0)⟩, ⟨false, none, some 27, 26, .load 26 (.tmp 4)⟩, ⟨false, none, some 28, 45, .call ⟨.value (.func 23), #[.tmp 26, .tmp 27], #[22, 26]⟩⟩, ⟨false, none, some 25, 45, .move (.tmp 28)⟩, ⟨false, none, some 29, 33, .extract (.tmp 25) 0⟩, ⟨false, none, some 30, 23, .extract (.tmp 25) 1⟩, ⟨false, none, some 7, 33, .assign (.tmp 29)⟩, ⟨false, none, some 8, 23, .assign (.tmp 30)⟩]) (.seq (.ops [⟨false, none, some 32, 22, .move (.tmp 0)⟩, ⟨false, none, some 33, 26, .load 26 (.tmp 4)⟩, ⟨false, none, some 34, 45, .call ⟨.value (.func 26), #[.tmp 32, .tmp 33], #[22, 26]⟩⟩, ⟨false, none, some 31, 45, .move (.tmp 34)⟩, ⟨false, none, some 35, 33, .extract (.tmp 31) 0⟩, ⟨false, none, some 36, 23, .extract (.tmp 31) 1⟩, ⟨false, none, some 9, 33, .assign (.tmp 35)⟩, ⟨false, none, some 10, 23, .assign (.tmp 36)⟩]) (.seq (.seq (.ops [⟨false, none, some 37, 23, .move (.tmp 8)⟩, ⟨false, none, some 38, 4, .binOp .neq 23 (.tmp 37) (.const (.int .i64 0)) 23⟩, ⟨false, none, some 39, 4, .move (.tmp 38)⟩, ⟨false, some (39, false), some 40, 23, .move (.tmp 10)⟩, ⟨false, some (39, false), some 41, 4, .binOp .neq 23 (.tmp 40) (.const (.int .i64 0)) 23⟩, ⟨false, none, some 42, 4, .pick (.tmp 39) (.const (.bool true)) (.tmp 41)⟩, ⟨false, none, some 43, 4, .move (.tmp 42)⟩, ⟨false, some (43, false), some 44, 22, .move (.tmp 0)⟩, ⟨false, some (43, false), some 45, 3, .call ⟨.builtin .len, #[.tmp 44], #[22]⟩⟩, ⟨false, some (43, false), some 46, 4, .binOp .gtr 3 (.tmp 45) (.const (.int .i64 12)) 3⟩, ⟨false, none, some 47, 4, .pick (.tmp 43) (.const (.bool true)) (.tmp 46)⟩]) (.cond (.tmp 47) (.seq (.ops [⟨false, none, some 48, 23, .move (.tmp 8)⟩, ⟨false, none, some 49, 23, .move (.tmp 10)⟩, ⟨false, none, some 50, 4, .binOp .eql 23 (.tmp 48) (.tmp 49) 23⟩, ⟨false, none, some 51, 4, .move (.tmp 50)⟩, ⟨false, some (51, true), some 52, 33, .move (.tmp 7)⟩, ⟨false, some (51, true), some 53, 3, .call ⟨.builtin .len, #[.tmp 52], #[33]⟩⟩, ⟨false, some (51, true), some 54, 33, .move (.tmp 9)⟩, ⟨false, some (51, true), some 55, 3, .call ⟨.builtin .len, #[.tmp 54], #[33]⟩⟩, ⟨false, some (51, true), some 56, 3, .binOp .add 3 (.tmp 53) (.tmp 55) 3⟩, ⟨false, some (51, true), some 57, 4, .binOp .eql 3 (.tmp 56) (.const (.int .i64 0)) 3⟩, ⟨false, none, some 58, 4, .pick (.tmp 51) (.tmp 57) (.const (.bool false))⟩, ⟨false, none, some 59, 4, .move (.tmp 58)⟩, ⟨false, some (59, true), some 60, 4, .call ⟨.value (.func 18), #[], #[]⟩⟩, ⟨false, none, some 61, 4, .pick (.tmp 59) (.tmp 60) (.const (.bool false))⟩, ⟨false, none, some 6, 4, .assign (.tmp 61)⟩]) (.ret)) (.skip))) (.seq (.seq (.ops [⟨false, none, some 62, 33, .move (.tmp 7)⟩, ⟨false, none, some 63, 3, .call ⟨.builtin .len, #[.tmp 62], #[33]⟩⟩, ⟨false, none, some 64, 33, .move (.tmp 9)⟩, ⟨false, none, some 65, 3, .call ⟨.builtin .len, #[.tmp 64], #[33]⟩⟩, ⟨false, none, some 66, 4, .binOp .neq 3 (.tmp 63) (.tmp 65) 3⟩, ⟨false, none, some 67, 4, .move (.tmp 66)⟩, ⟨false, some (67, false), some 68, 33, .move (.tmp 7)⟩, ⟨false, some (67, false), some 69, 4, .call ⟨.value (.func 36), #[.tmp 68, .const (.int .i64 2001)], #[33, 3]⟩⟩, ⟨false, some (67, false), some 70, 4, .unOp .not 4 (.tmp 69)⟩, ⟨false, none, some 71, 4, .pick (.tmp 67) (.const (.bool true)) (.tmp 70)⟩, ⟨false, none, some 72, 4, .move (.tmp 71)⟩, ⟨false, some (72, false), some 73, 33, .move (.tmp 9)⟩, ⟨false, some (72, false), some 74, 22, .move (.tmp 0)⟩, ⟨false, some (72, false), some 75, 3, .call ⟨.builtin .len, #[.tmp 74], #[22]⟩⟩, ⟨false, some (72, false), some 76, 4, .call ⟨.value (.func 36), #[.tmp 73, .tmp 75], #[33, 3]⟩⟩, ⟨false, some (72, false), some 77, 4, .unOp .not 4 (.tmp 76)⟩, ⟨false, none, some 78, 4, .pick (.tmp 72) (.const (.bool true)) (.tmp 77)⟩]) (.cond (.tmp 78) (.seq (.ops [⟨false, none, some 6, 4, .assign (.const (.bool false))⟩]) (.ret)) (.skip))) mc10_r1)))) := rfl
/-- do other rounds serve all that can be served? -/
def allTo (l : List Pod) (M : List Int) (a b : Int) : Nat → Bool
  | 0 => true
  | i + 1 => allTo l M a b i && (match l[i]? with | some p => !decide (max (winL p) a ≤ min (winH p) b) || metB M (max (winL p) a) (min (winH p) b) | none => true)
theorem allM_snoc {l : List Pod} {M : List Int} {a b : Int} {i : Nat} {p : Pod} (h : l[i]? = some p) : allTo l M a b (i + 1) = (allTo l M a b i && (!decide (max (winL p) a ≤ min (winH p) b) || metB M (max (winL p) a) (min (winH p) b))) := by
  show (allTo l M a b i && _) = _
  rw [h]
theorem allM_at {l : List Pod} {M : List Int} {a b : Int} {j : Nat} {p : Pod} (hp : l[j]? = some p) (hne : max (winL p) a ≤ min (winH p) b) : ∀ n, j < n → allTo l M a b n = true → metB M (max (winL p) a) (min (winH p) b) = true
  | 0, h, _ => by omega
  | n + 1, h, ha => by
    have h1 : (allTo l M a b n && (match l[n]? with | some p => !decide (max (winL p) a ≤ min (winH p) b) || metB M (max (winL p) a) (min (winH p) b) | none => true)) = true := ha
    rw [Bool.and_eq_true] at h1
    rcases Nat.lt_or_ge j n with h2 | h2
    · exact allM_at hp hne n h2 h1.1
    · have : j = n := by omega
      subst this
      have h3 := h1.2
      rw [hp] at h3
      simpa [hne] using h3
theorem own_met {l : List Pod} {a b : Int} (hE : mkErr l a b = 0) {j : Nat} {p : Pod} (hp : l[j]? = some p) (hne : max (winL p) a ≤ min (winH p) b) : metB (refL l a b) (max (winL p) a) (min (winH p) b) = true := by
  obtain ⟨d, d1, d2, d3⟩ := ref_hits hE hp hne
  obtain ⟨_, _, r3, r4⟩ := ref_in hE d1
  unfold metB
  rw [List.any_eq_true]
  refine ⟨d, d1, ?_⟩
  simp only [inI, Bool.and_eq_true, decide_eq_true_eq]
  omega
set_option maxHeartbeats 4000000 in
theorem loop10e {ov : Ov} (m : Nat) (h37 : HasP ov 37 F37) (h39 : HasP ov 39 F39) (l : List Pod) (a b : Int) (hE : mkErr l a b = 0) (M : List Int) (hM : M.length ≤ 100) (v y mv : Value) (c4 : Nat) (w1 : AW) (hlim : w1.lim ≤ w1.next) (hc4 : c4 < w1.next) (hbox : w1.heap.get c4 = some (.cells [.int .i64 a, .int .i64 b] 26 false)) (hv : PodsV w1 v l) (hy : RowsV intC w1 y (refL l a b)) (hm : RowsV intC w1 mv M)
    (Q : Ex → Tm → AW → Prop) (t : Tm) (w : AW) (hw : In28 w1 w)
    (t0 : tget t 0 = v) (t4 : tget t 4 = .pointer (some ⟨c4, 0, none⟩)) (t7 : tget t 7 = y) (t18 : tget t 18 = mv) (t20 : tget t 20 = .bool true) (t21 : tget t 21 = .bool true) (t22 : tget t 22 = .int .i64 0)
    (hQ : ∀ t w, In28 w1 w → tget t 7 = y → tget t 18 = mv → tget t 20 = .bool (allTo l M a b l.length) → tget t 21 = .bool true → Q (.exit 8) t w) :
    wp (exM Tryd.prog (run Tryd.prog ov (m + 1)) (.loop mc10_l4) t w) Q := by
  have hlB := (mk_span hE).1
  have h12 := podsB_len hlB
  have hlv := len22V hv
  have hRl := refL_len l a b
  refine wp_rounds (fun i t w => In28 w1 w ∧ tget t 0 = v ∧ tget t 4 = .pointer (some ⟨c4, 0, none⟩) ∧ tget t 7 = y ∧ tget t 18 = mv ∧ tget t 20 = .bool (allTo l M a b i) ∧ tget t 21 = .bool true ∧ tget t 22 = .int .i64 (i : Nat) ∧ i ≤ l.length) 200 (by decide) ⟨hw, t0, t4, t7, t18, t20, t21, t22, Nat.zero_le _⟩ ?_
  clear t0 t4 t7 t18 t20 t21 t22 hw
  rintro i t w ⟨hw, t0, t4, t7, t18, t20, t21, t22, hi⟩
  by_cases hlt : i < l.length
  · obtain ⟨p, hp⟩ : ∃ p, l[i]? = some p := ⟨_, List.getElem?_eq_getElem hlt⟩
    have hpB := pods_all hlB hp
    obtain ⟨pb, psq, pc, rfl, hpa⟩ := hv.at_ i hlt
    have hld := load_pod' hpa hp
    rw [← hw.old _ hpa.lt] at hld
    have hbx := hbox
    rw [← hw.old _ hc4] at hbx
    have hnx := hw.next
    have hlm := hw.lim
    have lw : w.lim ≤ w.next := by omega
    have e1 : ¬ pb = w.next := by have := hpa.lt; omega
    have e5 : ¬ c4 = w.next := by omega
    have hia := fun w => ia22 w ⟨pb, 0, psq⟩ l.length pc .i64 i hlt
    have hw1 : IntKind.wrap .i64 ((i : Int) + 1) = (i : Int) + 1 := wrap64_in (by omega) (by omega)
    have r2 := fun w => rule37 h37 p a b m w
    obtain ⟨x1, x2⟩ := wi_of hpB a b
    have sp := fun p => same_pod p
    have sv := fun x y => same_ints [x, y]
    simp only [List.map_cons, List.map_nil] at sv
    have hs := allM_snoc (M := M) (a := a) (b := b) hp
    obtain ⟨g, hg⟩ : ∃ g, g = allTo l M a b i := ⟨_, rfl⟩
    rw [← hg] at hs t20
    have hI : ∀ c : List Value, In28 w1 ⟨(w.heap.put w.next (some (.cells [.int .i64 0, .int .i64 0] 26 false))).put w.next (some (.cells c 26 false)), w.next + 1, w.lim⟩ := fun c => ⟨fun x hx => by show ((w.heap.put w.next _).put w.next _).get x = _; rw [get_put, if_neg (by omega), get_put, if_neg (by omega)]; exact hw.old x hx, by show w1.next ≤ w.next + 1; omega, hlm⟩
    by_cases hne : max (winL p) a ≤ min (winH p) b
    · have x3 : wiB p a b = true := by rw [x1]; simp [hne]
      obtain ⟨x4, x5⟩ := x2 x3
      simp only [x3, x4, x5] at r2
      have hown := own_met hE hp hne
      have k1 := rule39 h39 hM (max (winL p) a) (min (winH p) b) (hm.old (w' := ⟨(w.heap.put w.next (some (.cells [.int .i64 0, .int .i64 0] 26 false))).put w.next (some (.cells [.int .i64 (max (winL p) a), .int .i64 (min (winH p) b)] 26 false)), w.next + 1, w.lim⟩) (hI _).old (hI [.int .i64 (max (winL p) a), .int .i64 (min (winH p) b)]).next) m
      have k2 := rule39 h39 (by omega) (max (winL p) a) (min (winH p) b) (hy.old (w' := ⟨(w.heap.put w.next (some (.cells [.int .i64 0, .int .i64 0] 26 false))).put w.next (some (.cells [.int .i64 (max (winL p) a), .int .i64 (min (winH p) b)] 26 false)), w.next + 1, w.lim⟩) (hI _).old (hI [.int .i64 (max (winL p) a), .int .i64 (min (winH p) b)]).next) m
      rw [hown] at k2
      have hs' : allTo l M a b (i + 1) = (g && metB M (max (winL p) a) (min (winH p) b)) := by rw [hs]; simp [hne]
      cases g with
      | true =>
        simp [mc10_l4, t0, t4, t7, t18, t20, t21, t22, hlt, hlv, hia, hld, hbx, lw, e1, e5, r2, sp, sv, cellsOf_agg, k1, k2, hw1]
        rw [hs', Bool.true_and]
        exact ⟨by omega, hI _, rfl, hlt⟩
      | false =>
        simp [mc10_l4, t0, t4, t7, t18, t20, t21, t22, hlt, hlv, hia, hld, hbx, lw, e1, e5, r2, sp, sv, cellsOf_agg, k1, k2, hw1]
        rw [hs', Bool.false_and]
        exact ⟨by omega, hI _, rfl, hlt⟩
    · have x3 : wiB p a b = false := by rw [x1]; simp [hne]
      simp only [x3] at r2
      have hs' : allTo l M a b (i + 1) = g := by rw [hs]; simp [hne]
      simp [mc10_l4, t0, t4, t7, t18, t20, t21, t22, hlt, hlv, hia, hld, hbx, lw, e1, e5, r2, sp, sv, cellsOf_agg, hw1]
      rw [hs']
      exact ⟨by omega, hI _, rfl, hlt⟩
  · have hi' : i = l.length := by omega
    subst hi'
    simp [mc10_l4, t0, t22, hlv]
    exact hQ _ _ hw (by simp [t7]) (by simp [t18]) (by simp [t20]) (by simp [t21])
end Go.Proofs.YtipglpmelgmelaaDoor.walk

namespace Go.Proofs.YtipglpmelgmelaaDoor.walk
open Go Go.Sh
open known (partsC laidL noOv)
set_option maxRecDepth 100000
set_option linter.unusedSimpArgs false
theorem call40 {ov : Ov} (m : Nat) (ho : ∀ args w, ov 40 args w = none) (h64 : HasP ov 64 F96) (M : List Int) (hM : M.length ≤ 100) (N : Nat) (v : Value) (w : AW) (hv : AccR intC 3 N w v M) :
    ∃ x w', (run Tryd.prog ov (m + 2)).call 40 [v] w .none = .ok (.ret x) w' .none ∧ x = .int .i64 (dstI M M.length) ∧ w' = w := by
  refine call_wp text40 (by simp) (ho _ _) ?_
  rcases hv with ⟨rfl, rfl⟩ | ⟨B, rfl, hB, h3, h4, _⟩
  · simp [mc40]
    refine wp_seqX (wp_blockX (wp_rounds (fun r t w' => r = 0 ∧ w' = w ∧ tget t 0 = .slice none 0 0 ∧ tget t 3 = .int .i64 0 ∧ tget t 4 = .int .i64 0) 5 (by decide) ⟨rfl, rfl, by simp, by simp, by simp⟩ ?_))
    rintro r t w' ⟨rfl, rfl, t0, t3, t4⟩
    simp [mc40_l0, t0, t3, t4, tupV, dstI, dstL]
  · simp [mc40]
    refine wp_seqX (wp_blockX (loop40 m h64 M hM B w hB h4 _ _ ?_ ?_ ?_ ?_))
    case _ => simp
    case _ => simp
    case _ => simp
    case _ => intro t t3; simp [t3, tupV]
theorem days_enough {l : List Pod} {a b : Int} {C : List Off} {A M : List Int} (hA : ApartOk l a b C A) (hall : allTo l M a b l.length = true) : ((refL l a b).length : Int) ≤ dstI M M.length := by
  have h := need_days C (dstL M M.length) hA.pair fun o ho => by
    obtain ⟨j, j1, j2, j3, j4, j5, hne⟩ := offs_mem (hA.mem o ho)
    have ou : oL o = max (winL o.p) a := by unfold oL; rw [j4]
    have ov' : oH o = min (winH o.p) b := by unfold oH; rw [j5]
    have hm := allM_at j2 (by omega) l.length j1 hall
    unfold metB at hm
    rw [List.any_eq_true] at hm
    obtain ⟨d, d1, d2⟩ := hm
    simp only [inI, Bool.and_eq_true, decide_eq_true_eq] at d2
    exact ⟨d, dst_mem _ d (Nat.le_refl _) (by rw [List.take_length]; exact d1), by omega, by omega⟩
  have := hA.len
  unfold dstI
  omega
set_option maxHeartbeats 4000000 in
theorem post10 {ov : Ov} (ho40 : ∀ args w, ov 40 args w = none) (h33 : HasP ov 33 F33) (h37 : HasP ov 37 F37) (h38 : HasP ov 38 F38) (h39 : HasP ov 39 F39) (h64 : HasP ov 64 F96) (hW : HasW ov)
    (l : List Pod) (a b : Int) (hE : mkErr l a b = 0) (C : List Off) (A O : List Int) (hA : ApartOk l a b C A) (v u y1 y3 : Value) (c4 : Nat) (w : AW) (hlim : w.lim < w.next) (hPW : PartsW w) (hv : PodsV w v l) (hu : RowsV intC w u O) (h1 : RowsV intC w y1 (refL l a b)) (h3 : RowsV intC w y3 A) (hc4 : c4 < w.next) (hbox : w.heap.get c4 = some (.cells [.int .i64 a, .int .i64 b] 26 false))
    (t : Tm) (t0 : tget t 0 = v) (t2 : tget t 2 = u) (t4 : tget t 4 = .pointer (some ⟨c4, 0, none⟩)) (t7 : tget t 7 = y1) (t9 : tget t 9 = y3)
    (Q : Ex → Tm → AW → Prop) (hQ : ∀ t w, tget t 6 = .bool true → Q .ret t w) : wp (exM Tryd.prog (run Tryd.prog ov 7) mc10_r1 t w) Q := by
  obtain ⟨hB, e1, e2, e3⟩ := mk_span hE
  have h12 := podsB_len hB
  have hRl := refL_len l a b
  have hAl := apart_len hA
  have hl1 := len33V h1
  simp [mc10_r1]
  refine wp_seqX (wp_blockX (loop10a 6 h33 (refL l a b) (by omega) a b (fun d hd => by have := ref_in hE hd; omega) y1 w c4 hbox h1 v u y3 _ _ ?_ ?_ ?_ ?_ ?_ ?_ ?_))
  case _ => simp [t0]
  case _ => simp [t2]
  case _ => simp [t9]
  case _ => simp [t7]
  case _ => simp [t4]
  case _ => simp
  case _ =>
    intro t s0 s2 s9 s7 s4
    simp
    refine wp_seqX (wp_blockX (loop10b 6 h37 l hB a b C A hA (by omega) v y3 y1 u c4 w (by omega) hc4 hbox hv h3 _ _ _ ⟨fun _ _ => rfl, Nat.le_refl _, rfl⟩ ?_ ?_ ?_ ?_ ?_ ?_ ?_))
    case _ => simp [s0]
    case _ => simp [s2]
    case _ => simp [s4]
    case _ => simp [s7]
    case _ => simp [s9]
    case _ => simp
    case _ =>
      intro t w4 hw4 r0 r2 r4 r7
      have hn4 := hw4.next
      have hm4 := hw4.lim
      obtain ⟨N, hN⟩ : ∃ N, w4.next = N + 1 := ⟨w4.next - 1, by omega⟩
      have o4 : Old w.next w.heap w4.heap := hw4.old
      have hb4 : w4.heap.get c4 = some (.cells [.int .i64 a, .int .i64 b] 26 false) := by rw [o4 c4 hc4]; exact hbox
      simp
      refine wp_seqX (wp_blockX (loop10d 6 h38 a b (by omega) (by omega) O v u y1 c4 w4 N hN (by omega) (by omega) hb4 (hu.old o4 hn4) _ _ _ ⟨fun _ _ => rfl, .nil, by omega, rfl⟩ ?_ ?_ ?_ ?_ ?_ ?_ ?_))
      case _ => simp [r0]
      case _ => simp [r2]
      case _ => simp [r4]
      case _ => simp [r7]
      case _ => simp
      case _ => simp
      case _ =>
        intro t w5 x M hw5 hM12 k0 k4 k7 k18
        have hn5 := hw5.next
        have hm5 := hw5.lm
        have o5 : Old w.next w.heap w5.heap := fun z hz => by rw [hw5.old z (by omega)]; exact o4 z hz
        have hb5 : w5.heap.get c4 = some (.cells [.int .i64 a, .int .i64 b] 26 false) := by rw [o5 c4 hc4]; exact hbox
        simp
        refine wp_seqX (wp_blockX (loop10e 6 h37 h39 l a b hE M (by omega) v y1 x c4 w5 (by omega) (by omega) hb5 (hv.old o5 (by omega)) (h1.old o5 (by omega)) hw5.acc.rows _ _ _ ⟨fun _ _ => rfl, Nat.le_refl _, rfl⟩ ?_ ?_ ?_ ?_ ?_ ?_ ?_ ?_))
        case _ => simp [k0]
        case _ => simp [k4]
        case _ => simp [k7]
        case _ => simp [k18]
        case _ => simp
        case _ => simp
        case _ => simp
        case _ =>
          intro t w6 hw6 j7 j18 j20 j21
          have hn6 := hw6.next
          have o6 : Old w.next w.heap w6.heap := fun z hz => by rw [hw6.old z (by omega)]; exact o5 z hz
          have kW := ruleWn hW (hPW.old o6 (by omega)).parts 6
          have acc6 : AccR intC 3 N w6 x M := hw5.acc.keep (fun z _ hz => hw6.old z hz) hn6
          obtain ⟨_, _, c40, rfl, rfl⟩ := call40 5 ho40 h64 M (by omega) N x w6 acc6
          cases hg : allTo l M a b l.length with
          | false =>
            rw [hg] at j20
            simp [j7, j18, j20, j21, kW]
            exact hQ _ _ (by simp)
          | true =>
            have hd := days_enough hA hg
            rw [hg] at j20
            simp [j7, j18, j20, j21, c40, hl1, hd, kW]
            exact hQ _ _ (by simp)
set_option maxHeartbeats 2000000 in
theorem run10 {ov : Ov} (ho : ∀ args w, ov 10 args w = none) (ho23 : ∀ args w, ov 23 args w = none) (ho26 : ∀ args w, ov 26 args w = none) (ho40 : ∀ args w, ov 40 args w = none) (H : Ho60 ov) (h33 : HasP ov 33 F33) (h36 : HasP ov 36 F36) (h37 : HasP ov 37 F37) (h38 : HasP ov 38 F38) (h39 : HasP ov 39 F39) (h64 : HasP ov 64 F96) (hW : HasW ov)
    (l : List Pod) (a b : Int) (O : List Int) (v u : Value) (w : AW) (hl : w.lim = w.next) (hPW : PartsW w) (hv : PodsV w v l) (hu : RowsV intC w u O) :
    ∃ x w', (run Tryd.prog ov 8).call 10 [v, .agg ⟨[.int .i64 a, .int .i64 b]⟩, u] w .none = .ok (.ret x) w' .none ∧ x = .bool true := by
  refine call_wp text10 (by simp) (ho _ _) ?_
  obtain ⟨H1, hH1⟩ : ∃ H1, H1 = w.heap.put w.next (some (.cells [.int .i64 a, .int .i64 b] 26 false)) := ⟨_, rfl⟩
  have o1 : Old w.next w.heap H1 := by rw [hH1]; exact (Old.refl _ _).put (Nat.le_refl _)
  have g1 : H1.get w.next = some (.cells [.int .i64 a, .int .i64 b] 26 false) := by rw [hH1, get_put, if_pos rfl]
  have hv1 : PodsV ⟨H1, w.next + 1, w.lim⟩ v l := hv.old o1 (Nat.le_succ _)
  obtain ⟨x1, w1, c1, y1, rfl, q1, q2, q3, q4⟩ := call23 0 ho23 H l a b v _ (by show w.lim ≤ w.next + 1; omega) hv1
  have q3' : w.next + 1 ≤ w1.next := q3
  have q4' : w1.lim = w.lim := q4
  have o2 : Old w.next w.heap w1.heap := o1.trans q2 (Nat.le_succ _)
  have g2 : w1.heap.get w.next = some (.cells [.int .i64 a, .int .i64 b] 26 false) := by rw [q2 _ (by show w.next < w.next + 1; omega)]; exact g1
  obtain ⟨x3, w3, c3, y3, A, rfl, s1, s2, s3, s4, s5, s6⟩ := call26 0 ho26 H l a b v w1 (by omega) (hv.old o2 (by omega))
  have o4 : Old w.next w.heap w3.heap := o2.trans s4 (by omega)
  have g4 : w3.heap.get w.next = some (.cells [.int .i64 a, .int .i64 b] 26 false) := by rw [s4 _ (by omega)]; exact g2
  have hR3 : RowsV intC w3 y1 (refL l a b) := q1.old s4 s5
  have hlA := len33V s1
  have hlR := len33V q1
  have hlv := len22V hv
  have n1 : notJunk y1 = some y1 := by obtain ⟨x, y, e⟩ := q1.len; rw [e]; rfl
  have n3 : notJunk y3 = some y3 := by obtain ⟨x, y, e⟩ := s1.len; rw [e]; rfl
  rw [hH1] at c1
  by_cases hE : mkErr l a b = 0
  · obtain ⟨C, hC⟩ := s3 hE
    have hAl := apart_len hC
    have hRl := refL_len l a b
    have h12 := podsB_len (mk_span hE).1
    have hll : ¬ (12 : Int) < (l.length : Int) := by omega
    have hrb : riseB 2001 (refL l a b) = true := by
      have := ref_rounds hE
      simp only [roundsB, Bool.and_eq_true] at this
      exact this.2
    have r36 := rule36 h36 (n := 2001) (by decide) (by omega) hR3 6
    have r36' := rule36 h36 (n := (l.length : Nat)) (by omega) (by omega) s1 6
    rw [hrb] at r36
    rw [apart_rise hC] at r36'
    rw [hE] at c1 c3
    rw [hAl] at hlA
    simp [mc10_eq, c1, c3, n1, n3, g2, hlv, hll, hlA, hlR, r36, r36']
    refine post10 ho40 h33 h37 h38 h39 h64 hW l a b hE C A O hC v u y1 y3 w.next w3 (by omega) (hPW.old o4 (by omega)) (hv.old o4 (by omega)) (hu.old o4 (by omega)) hR3 s1 (by omega) g4 _ ?_ ?_ ?_ ?_ ?_ _ ?_
    case _ => simp
    case _ => simp
    case _ => simp
    case _ => simp
    case _ => simp
    case _ => intro t w t6; simp [t6, tupV]
  · have hA0 := s2 hE
    subst hA0
    have hr0 : refL l a b = [] := by unfold refL; rw [if_neg hE]
    rw [hr0] at hlR
    have kW := ruleWn hW (hPW.old o4 (by omega)).parts 6
    have w0 : IntKind.wrap .i64 0 = 0 := by decide
    simp [mc10_eq, c1, c3, n1, n3, g2, hE, hlA, hlR, kW, w0, tupV]
end Go.Proofs.YtipglpmelgmelaaDoor.walk
