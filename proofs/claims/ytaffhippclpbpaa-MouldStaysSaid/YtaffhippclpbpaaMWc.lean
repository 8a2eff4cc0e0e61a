/- Part of a proof by a machine of ones own: see the text with the theorem. -/
import Derived.Test.YtaffhippclpbpaaMWb
namespace Go.Proofs.Ytaffhippclpbpaa.walk
open Go Go.Sh
set_option maxRecDepth 100000
set_option linter.unusedSimpArgs false
set_option linter.unusedVariables false
/-! a day -/
theorem p20 {n a : Nat} (hn : n ≤ 10) (h : a < 2 ^ n) : a < 2 ^ 20 := Nat.lt_of_lt_of_le h (Nat.pow_le_pow_right (by decide) (by omega))
theorem same_runC {w : AW} {r : MRun} {wv nv : Value} (h : RunV w r wv nv) : sameVal 5 (.agg ⟨runC r wv nv⟩) (.agg ⟨runC r wv nv⟩) = true := by
  obtain ⟨⟨vs, h1, _⟩, h3, _⟩ := h
  obtain ⟨a, c, rfl⟩ := h1.len
  obtain ⟨a', c', rfl⟩ := h3.len
  refine same_agg _ fun v hv => ?_
  simp only [runC, List.mem_cons, List.not_mem_nil, or_false] at hv
  rcases hv with rfl | rfl | rfl | rfl | rfl | rfl
  · exact sameN_int 3 _ _
  · exact sameN_int 3 _ _
  · exact sameN_int 3 _ _
  · exact sameN_int 3 _ _
  · exact sameN_slice 3 _ _ _
  · exact sameN_slice 3 _ _ _
def S47 : PSpec where
  R args w v := ∃ (r : MRun) (wv nv : Value) (d : Nat) (l : List Int) (p : Nat), args = [.agg ⟨runC r wv nv⟩, .int .i64 d, .int .i64 p] ∧ RunV w r wv nv ∧ r.days[d]? = some l ∧ l.length ≤ 10 ∧ (0 ≤ r.boxes ∧ r.boxes ≤ 10) ∧ p < 2 ^ l.length ∧ v = .int .i64 (spB l p l.length r.boxes.toNat : Nat)
  uniq := by
    rintro _ _ _ _ ⟨r, wv, nv, d, l, b, rfl, h1, h2, _, _, _, rfl⟩ ⟨r', wv', nv', d', l', b', h, k1, k2, _, _, _, rfl⟩
    simp only [List.cons.injEq, Value.agg.injEq, Array.mk.injEq, Value.int.injEq, and_true, true_and] at h
    obtain ⟨e1, e2, e3⟩ := h
    have := RunV.same e1 h1 k1
    subst this
    have : d = d' := by omega
    subst this
    have : b = b' := by omega
    subst this
    rw [h2] at k2; cases k2; rfl
  shut := by
    rintro _ _ _ ⟨r, wv, nv, d, l, b, h1, h2, h3⟩
    exact ⟨r, wv, nv, d, l, b, h1, h2.shut, h3⟩
theorem run47 {ov : Ov} (ho : ∀ args w, ov 47 args w = none) (h56 : HasP ov 56 S56.F) (h63 : HasP ov 63 S63.F) (h64 : HasP ov 64 S64.F) (r : MRun) (wv nv : Value) (d : Nat) (l : List Int) (p : Nat) (w : AW) (hl : w.lim = w.next) (hR : RunV w r wv nv) (hd : r.days[d]? = some l) (hlen : l.length ≤ 10) (hB : 0 ≤ r.boxes ∧ r.boxes ≤ 10) (hp : p < 2 ^ l.length) :
    ∃ v w', (run Try.prog ov 2).call 47 [.agg ⟨runC r wv nv⟩, .int .i64 d, .int .i64 p] w .none = .ok (.ret v) w' .none ∧ v = .int .i64 (spB l p l.length r.boxes.toNat : Nat) := by
  refine call_wp text47 (by simp) (ho _ _) ?_
  obtain ⟨B, hBe⟩ : ∃ B : Nat, r.boxes = (B : Int) := ⟨r.boxes.toNat, by omega⟩
  obtain ⟨w1, hw1⟩ : ∃ w1, w1 = (⟨w.heap.put w.next (some (.cells (runC r wv nv) 67 false)), w.next + 1, w.lim⟩ : AW) := ⟨_, rfl⟩
  have u1 : Up w w1 := hw1 ▸ (Up.refl w).add _
  have g1 : w1.heap.get w.next = some (.cells (runC r wv nv) 67 false) := by rw [hw1, get_put, if_pos rfl]
  have n1 : w.next < w1.next := by rw [hw1]; exact Nat.lt_succ_self _
  have hR1 := hR.up u1
  have l1 : w1.lim ≤ w1.next := by rw [hw1]; show w.lim ≤ w.next + 1; omega
  simp only [runC] at g1
  simp [mc47, cellsOf_agg, runC]
  rw [show (⟨w.heap.put w.next (some (.cells [.int .i64 r.pods, .int .i64 r.boxes, .int .i64 r.few, .int .i64 r.delay, wv, nv] 67 false)), w.next + 1, w.lim⟩ : AW) = w1 from by rw [hw1]; rfl]
  rw [hBe, Int.toNat_natCast]
  refine wp_seqX (wp_blockX (wp_rounds (fun i t w' => Up w1 w' ∧ w'.lim ≤ w'.next ∧ tget t 1 = .int .i64 (d : Nat) ∧ tget t 3 = .pointer (some ⟨w.next, 0, none⟩) ∧ tget t 2 = .int .i64 (spB l p l.length i : Nat) ∧ tget t 11 = .int .i64 (B : Nat) ∧ tget t 12 = .int .i64 (i : Nat) ∧ i ≤ B) 20 (by decide) ⟨Up.refl _, l1, by simp, by simp, by simp [spB], by simp, by simp, by omega⟩ ?_))
  rintro i t w' ⟨hu, hle, t1, t3, t2, t11, t12, hi⟩
  have hw1' : IntKind.wrap .i64 ((i : Int) + 1) = (i : Int) + 1 := wrap64_in (by omega) (by omega)
  by_cases hlt : i < B
  · have g := hu.at n1
    rw [g1] at g
    have r63 := S63.call1 (P := Try.prog) h63 (w := w') ⟨r, wv, nv, d, l, (i : Int), rfl, hR1.up hu, hd, hlen, rfl⟩
    simp only [runC] at r63
    obtain ⟨q, hq⟩ : ∃ q, q = inB l (i : Int) l.length := ⟨_, rfl⟩
    obtain ⟨s, hs⟩ : ∃ s, s = spB l p l.length i := ⟨_, rfl⟩
    have hq20 := p20 hlen (inB_lt l (i : Int) l.length)
    have hs20 := p20 hlen (spB_lt (day := l) hp i)
    rw [← hq] at r63 hq20
    rw [← hs] at t2 hs20
    have hnx : spB l p l.length (i + 1) = if q &&& s = 0 then s else s ||| q := by rw [spB, ← hq, ← hs]
    have r64 := fun w => S64.call1 (P := Try.prog) h64 (w := w) ⟨q, s, rfl, hq20, hs20, rfl⟩
    by_cases hm : q &&& s = 0
    · rw [if_pos hm] at hnx
      simp [mc47_l0, t1, t2, t3, t11, t12, hlt, g, r63, r64, hm, hw1', hnx]
      exact ⟨by omega, hu, by omega, by omega⟩
    · rw [if_neg hm] at hnx
      have r56 := S56.call1 (P := Try.prog) h56 (w := ⟨w'.heap.put w'.next (some (.cells [.int .i64 (s : Int), .int .i64 (q : Int)] 77 false)), w'.next + 1, w'.lim⟩) ⟨_, [s, q], rfl, two_rows (by rw [get_put, if_pos rfl]) (Nat.lt_succ_self _), by simp; omega, by simp, rfl⟩
      rw [orL_two, ← hnx] at r56
      simp [mc47_l0, t1, t2, t3, t11, t12, hlt, g, r63, r64, hm, r56, hw1']
      exact ⟨by omega, hu.add _, by omega, by omega⟩
  · have hi' : i = B := by omega
    subst hi'
    simp [mc47_l0, t2, t11, t12, tupV]
def S46 : PSpec where
  R args w v := ∃ (r : MRun) (wv nv : Value) (d : Nat) (l : List Int) (p k : Nat), args = [.agg ⟨runC r wv nv⟩, .int .i64 d, .int .i64 p, .int .i64 k] ∧ RunV w r wv nv ∧ r.days[d]? = some l ∧ l.length ≤ 10 ∧ r.near.length ≤ 10 ∧ p < 2 ^ l.length ∧ k < 2 ^ 20 ∧ v = .int .i64 (lkB l p r.near k l.length r.near.length : Nat)
  uniq := by
    rintro _ _ _ _ ⟨r, wv, nv, d, l, b, k, rfl, h1, h2, _, _, _, _, rfl⟩ ⟨r', wv', nv', d', l', b', k', h, k1, k2, _, _, _, _, rfl⟩
    simp only [List.cons.injEq, Value.agg.injEq, Array.mk.injEq, Value.int.injEq, and_true, true_and] at h
    obtain ⟨e1, e2, e3, e4⟩ := h
    have := RunV.same e1 h1 k1
    subst this
    have : d = d' := by omega
    subst this
    have : b = b' := by omega
    subst this
    have : k = k' := by omega
    subst this
    rw [h2] at k2; cases k2; rfl
  shut := by
    rintro _ _ _ ⟨r, wv, nv, d, l, b, k, h1, h2, h3⟩
    exact ⟨r, wv, nv, d, l, b, k, h1, h2.shut, h3⟩
theorem run46 {ov : Ov} (ho : ∀ args w, ov 46 args w = none) (h56 : HasP ov 56 S56.F) (h63 : HasP ov 63 S63.F) (h64 : HasP ov 64 S64.F) (r : MRun) (wv nv : Value) (d : Nat) (l : List Int) (p k : Nat) (w : AW) (hl : w.lim = w.next) (hR : RunV w r wv nv) (hd : r.days[d]? = some l) (hlen : l.length ≤ 10) (hN : r.near.length ≤ 10) (hp : p < 2 ^ l.length) (hk : k < 2 ^ 20) :
    ∃ v w', (run Try.prog ov 2).call 46 [.agg ⟨runC r wv nv⟩, .int .i64 d, .int .i64 p, .int .i64 k] w .none = .ok (.ret v) w' .none ∧ v = .int .i64 (lkB l p r.near k l.length r.near.length : Nat) := by
  refine call_wp text46 (by simp) (ho _ _) ?_
  obtain ⟨w1, hw1⟩ : ∃ w1, w1 = (⟨w.heap.put w.next (some (.cells (runC r wv nv) 67 false)), w.next + 1, w.lim⟩ : AW) := ⟨_, rfl⟩
  have u1 : Up w w1 := hw1 ▸ (Up.refl w).add _
  have g1 : w1.heap.get w.next = some (.cells (runC r wv nv) 67 false) := by rw [hw1, get_put, if_pos rfl]
  have n1 : w.next < w1.next := by rw [hw1]; exact Nat.lt_succ_self _
  have hR1 := hR.up u1
  have l1 : w1.lim ≤ w1.next := by rw [hw1]; show w.lim ≤ w.next + 1; omega
  have hl1 := fun w2 => len23V (w' := w2) hR.2.1
  simp only [runC] at g1
  simp [mc46, cellsOf_agg, runC, hl1]
  rw [show (⟨w.heap.put w.next (some (.cells [.int .i64 r.pods, .int .i64 r.boxes, .int .i64 r.few, .int .i64 r.delay, wv, nv] 67 false)), w.next + 1, w.lim⟩ : AW) = w1 from by rw [hw1]; rfl]
  refine wp_seqX (wp_blockX (wp_rounds (fun i t w' => Up w1 w' ∧ w'.lim ≤ w'.next ∧ tget t 1 = .int .i64 (d : Nat) ∧ tget t 2 = .int .i64 (p : Nat) ∧ tget t 3 = .int .i64 (k : Nat) ∧ tget t 4 = .pointer (some ⟨w.next, 0, none⟩) ∧ tget t 9 = .int .i64 (lkB l p r.near k l.length i : Nat) ∧ tget t 16 = nv ∧ tget t 17 = .int .i64 (r.near.length : Nat) ∧ tget t 18 = .int .i64 (i : Nat) ∧ i ≤ r.near.length) 20 (by decide) ⟨Up.refl _, l1, by simp, by simp, by simp, by simp, by simp [lkB], by simp, by simp, by simp, by omega⟩ ?_))
  rintro i t w' ⟨hu, hle, t1, t2, t3, t4, t9, t16, t17, t18, hi⟩
  have hw1' : IntKind.wrap .i64 ((i : Int) + 1) = (i : Int) + 1 := wrap64_in (by omega) (by omega)
  by_cases hlt : i < r.near.length
  · have g := hu.at n1
    rw [g1] at g
    obtain ⟨x, hx⟩ : ∃ x, r.near[i]? = some x := ⟨_, List.getElem?_eq_getElem hlt⟩
    have hRw := hR1.up hu
    obtain ⟨b, off, sq, c, rfl, hra⟩ := hRw.2.1.at_ i hlt
    have hld := hra.rd prC_length hx
    have hia := fun w => ia23 w ⟨b, off, sq⟩ r.near.length c .i64 i hlt
    obtain ⟨x1, x2⟩ := x
    simp only [prC] at hld
    obtain ⟨w2, hw2⟩ : ∃ w2, w2 = (⟨(w'.heap.put w'.next (some (.cells [.int .i64 0, .int .i64 0] 37 false))).put w'.next (some (.cells [.int .i64 x1, .int .i64 x2] 37 false)), w'.next + 1, w'.lim⟩ : AW) := ⟨_, rfl⟩
    have u2 : Up w1 w2 := hw2 ▸ (hu.add _).put hu.next (Nat.le_refl _)
    have e2n : w2.next = w'.next + 1 := by rw [hw2]
    have e2l : w2.lim = w'.lim := by rw [hw2]
    have r63a := S63.call1 (P := Try.prog) h63 (w := w2) ⟨r, wv, _, d, l, x1, rfl, hR1.up u2, hd, hlen, rfl⟩
    have r63b := S63.call1 (P := Try.prog) h63 (w := w2) ⟨r, wv, _, d, l, x2, rfl, hR1.up u2, hd, hlen, rfl⟩
    rw [hw2] at r63a r63b
    simp only [runC] at r63a r63b
    obtain ⟨qa, hqa⟩ : ∃ q, q = inB l x1 l.length := ⟨_, rfl⟩
    obtain ⟨qb, hqb⟩ : ∃ q, q = inB l x2 l.length := ⟨_, rfl⟩
    obtain ⟨s, hs⟩ : ∃ s, s = lkB l p r.near k l.length i := ⟨_, rfl⟩
    have ha20 := p20 hlen (inB_lt l x1 l.length)
    have hb20 := p20 hlen (inB_lt l x2 l.length)
    have hs20 := p20 hlen (lkB_lt (day := l) (near := r.near) (pairs := k) hp i)
    have hp20 := p20 hlen hp
    rw [← hqa] at r63a ha20
    rw [← hqb] at r63b hb20
    rw [← hs] at t9 hs20
    have hab20 : qa ||| qb < 2 ^ 20 := Nat.or_lt_two_pow ha20 hb20
    obtain ⟨u, hu'⟩ : ∃ u, u = qa ||| qb := ⟨_, rfl⟩
    have hnx : lkB l p r.near k l.length (i + 1) = if k.testBit i = true ∧ u &&& p ≠ 0 then s ||| u else s := by
      rw [lkB, hx]
      show (if _ then _ else _ : Nat) = _
      rw [← hqa, ← hqb, ← hs, ← hu']
    have r56a := S56.call1 (P := Try.prog) h56 (w := ⟨w2.heap.put w2.next (some (.cells [.int .i64 (qa : Int), .int .i64 (qb : Int)] 77 false)), w2.next + 1, w2.lim⟩) ⟨_, [qa, qb], rfl, two_rows (by rw [get_put, if_pos rfl]) (Nat.lt_succ_self _), by simp; omega, by simp, rfl⟩
    rw [orL_two, ← hu', hw2] at r56a
    rw [← hu'] at hab20
    have hbit := bit_nat hk (k := i) (by omega)
    unfold bitB at hbit
    have hsr := fun (w : AW) s c => bin_shr (P := Try.prog) (w := w) s c (k : Int) (i : Int) (by omega)
    have r64 := fun w => S64.call1 (P := Try.prog) h64 (w := w) ⟨u, p, rfl, hab20, hp20, rfl⟩
    have u3 : Up w1 ⟨w2.heap.put w2.next (some (.cells [.int .i64 (qa : Int), .int .i64 (qb : Int)] 77 false)), w2.next + 1, w2.lim⟩ := u2.add _
    have r56b := S56.call1 (P := Try.prog) h56 (w := ⟨(w2.heap.put w2.next (some (.cells [.int .i64 (qa : Int), .int .i64 (qb : Int)] 77 false))).put (w2.next + 1) (some (.cells [.int .i64 (s : Int), .int .i64 (u : Int)] 77 false)), w2.next + 1 + 1, w2.lim⟩) ⟨_, [s, u], rfl, two_rows (by rw [get_put, if_pos rfl]) (Nat.lt_succ_self _), by simp; omega, by simp, rfl⟩
    rw [orL_two, hw2] at r56b
    have u4 : Up w1 ⟨(w2.heap.put w2.next (some (.cells [.int .i64 (qa : Int), .int .i64 (qb : Int)] 77 false))).put (w2.next + 1) (some (.cells [.int .i64 (s : Int), .int .i64 (u : Int)] 77 false)), w2.next + 1 + 1, w2.lim⟩ := u3.add _
    rw [hw2] at u3 u4
    have hsm := same_runC hRw
    simp only [runC] at hsm
    have gne : ¬ w.next = w'.next := by have := hu.next; omega
    have gne1 : ¬ w.next = w'.next + 1 := by have := hu.next; omega
    by_cases hb : k.testBit i = true
    · by_cases hm : u &&& p = 0
      · rw [if_neg (fun h => h.2 hm)] at hnx
        rw [hb] at hbit
        simp at hbit
        simp [mc46_l0, t1, t2, t3, t4, t9, t16, t17, t18, hlt, g, hia, hld, hle, gne, gne1, hsm, r63a, r63b, r56a, hsr, hbit, r64, hm, hw1', hnx]
        exact ⟨by omega, u3, by omega⟩
      · rw [if_pos ⟨hb, hm⟩] at hnx
        rw [hb] at hbit
        rw [← hnx] at r56b
        simp at hbit
        simp [mc46_l0, t1, t2, t3, t4, t9, t16, t17, t18, hlt, g, hia, hld, hle, gne, gne1, hsm, r63a, r63b, r56a, r56b, hsr, hbit, r64, hm, hw1']
        exact ⟨by omega, u4, by omega, by omega⟩
    · rw [if_neg (fun h => hb h.1)] at hnx
      simp only [Bool.not_eq_true] at hb
      rw [hb] at hbit
      simp at hbit
      simp [mc46_l0, t1, t2, t3, t4, t9, t16, t17, t18, hlt, g, hia, hld, hle, gne, gne1, hsm, r63a, r63b, r56a, hsr, hbit, hw1', hnx]
      exact ⟨by omega, u3, by omega⟩
  · have hi' : i = r.near.length := by omega
    subst hi'
    simp [mc46_l0, t9, t17, t18, tupV]
end Go.Proofs.Ytaffhippclpbpaa.walk

namespace Go.Proofs.Ytaffhippclpbpaa.walk
open Go Go.Sh
set_option maxRecDepth 100000
set_option linter.unusedSimpArgs false
set_option linter.unusedVariables false
/-! Check -/
theorem slice_head {P : Program} {st e : TypeId} {sz : Nat} (h1 : elemA P st = some e) (h2 : szOf P e = some sz) {w : AW} {a : Addr} {n c k : Nat} {cs : List Value} {e' : TypeId} {ro : Bool} (hg : w.heap.get a.block = some (.cells cs e' ro)) (hk : k ≤ c) :
    sliceA P w st (.slice (some a) n c) none (some (.int .i64 (k : Int))) none = .val (.slice (some ⟨a.block, a.off, bif Nat.beq e e' && a.spot.isNone then none else some 1⟩) k c) w := by
  show sliceA P w st (.slice (some a) n c) none (some (.int .i64 (Int.ofNat k))) none = _
  have hb' : Nat.ble k c = true := Nat.ble_eq_true_of_le hk
  simp [sliceA, sliceB1, h1, h2, sliceRow, boundA, hb', cutR, cutAddr, rowElem, hg]
theorem elem23 : elemA Try.prog 23 = some 37 := by kernel_rfl
theorem sz37 : szOf Try.prog 37 = some 2 := by kernel_rfl
theorem rowsHead {α : Type} {f : α → List Value} {w : AW} {b off : Nat} {l : List α} (h : RowsA f w.heap w.next b off l) {i : Nat} (hi : i ≤ l.length) (sq : Option Nat) (c : Nat) : RowsV f w (.slice (some ⟨b, off, sq⟩) i c) (l.take i) := by
  obtain ⟨⟨pre, rest, e, ro, h1, h2⟩, h3⟩ := h
  refine .inr ⟨b, off, sq, c, by rw [List.length_take, Nat.min_eq_left hi], ⟨pre, (l.drop i).flatMap f ++ rest, e, ro, ?_, h2⟩, h3⟩
  rw [h1, ← List.append_assoc ((l.take i).flatMap f), ← List.flatMap_append, List.take_append_drop]
theorem eq_pair (a b c d : Int) : eqFlat true [0, 0] (.agg ⟨[.int .i64 a, .int .i64 b]⟩) (.agg ⟨[.int .i64 c, .int .i64 d]⟩) = some (decide (a = c) && decide (b = d)) := by
  simp [eqFlat, flatCells, sameL, same1, sameInt, sameK_refl, intEq_eq]
  try (by_cases h1 : a = c <;> by_cases h2 : b = d <;> simp [h1, h2])
def FindAt (l : List (Int × Int)) (p : Int × Int) (k : Int) : Prop := (k = -1 ∧ p ∉ l) ∨ ∃ i : Nat, k = i ∧ l[i]? = some p ∧ ∀ j, j < i → l[j]? ≠ some p
theorem FindAt.uniq {l : List (Int × Int)} {p : Int × Int} {a b : Int} (h : FindAt l p a) (k : FindAt l p b) : a = b := by
  rcases h with ⟨rfl, h⟩ | ⟨i, rfl, h1, h2⟩
  · rcases k with ⟨rfl, _⟩ | ⟨j, _, k1, _⟩
    · rfl
    · exact absurd (List.mem_of_getElem? k1) h
  · rcases k with ⟨_, k⟩ | ⟨j, rfl, k1, k2⟩
    · exact absurd (List.mem_of_getElem? h1) k
    · by_cases e : i < j
      · exact absurd h1 (k2 i e)
      · by_cases e' : j < i
        · exact absurd k1 (h2 j e')
        · have : i = j := by omega
          rw [this]
def S74 : PSpec where
  R args w v := ∃ (x : Value) (l : List (Int × Int)) (p : Int × Int) (k : Int), args = [x, .agg ⟨prC p⟩] ∧ RowsV prC w x l ∧ l.length ≤ 10 ∧ FindAt l p k ∧ v = .int .i64 k
  uniq := by
    rintro _ _ _ _ ⟨x, l, p, k, rfl, h1, _, h2, rfl⟩ ⟨x', l', p', k', h, k1, _, k2, rfl⟩
    simp only [List.cons.injEq, Value.agg.injEq, Array.mk.injEq, and_true] at h
    obtain ⟨rfl, e⟩ := h
    have := prC_inj _ _ e
    subst this
    have := h1.uniq (m := 2) prC_length prC_inj k1
    subst this
    rw [h2.uniq k2]
  shut h := h
theorem run74 {ov : Ov} (ho : ∀ args w, ov 74 args w = none) (x : Value) (l : List (Int × Int)) (p : Int × Int) (w : AW) (hl : w.lim = w.next) (hv : RowsV prC w x l) (hlen : l.length ≤ 10) : ∃ v w', (run Try.prog ov 2).call 74 [x, .agg ⟨prC p⟩] w .none = .ok (.ret v) w' .none ∧ ∃ k, FindAt l p k ∧ v = .int .i64 k := by
  refine call_wp text74 (by simp) (ho _ _) ?_
  obtain ⟨p1, p2⟩ := p
  have hl1 := fun w2 => len23V (w' := w2) hv
  obtain ⟨w1, hw1⟩ : ∃ w1, w1 = (⟨w.heap.put w.next (some (.cells (prC (p1, p2)) 37 false)), w.next + 1, w.lim⟩ : AW) := ⟨_, rfl⟩
  have u1 : Up w w1 := hw1 ▸ (Up.refl w).add _
  have g1 : w1.heap.get w.next = some (.cells (prC (p1, p2)) 37 false) := by rw [hw1, get_put, if_pos rfl]
  have hv1 := hv.up u1
  simp only [prC] at hw1 g1
  simp [mc74, cellsOf_agg, hl1, prC]
  rw [← hw1]
  refine wp_seqX (wp_blockX (wp_rounds (fun i t w' => w' = w1 ∧ tget t 0 = x ∧ tget t 3 = .pointer (some ⟨w.next, 0, none⟩) ∧ tget t 7 = .int .i64 (l.length : Nat) ∧ tget t 8 = .int .i64 (i : Nat) ∧ i ≤ l.length ∧ ∀ j, j < i → l[j]? ≠ some (p1, p2)) 20 (by decide) ⟨rfl, by simp, by simp, by simp, by simp, by omega, by simp⟩ ?_))
  rintro i t w' ⟨rfl, t0, t3, t7, t8, hi, hno⟩
  have hw1' : IntKind.wrap .i64 ((i : Int) + 1) = (i : Int) + 1 := wrap64_in (by omega) (by omega)
  by_cases hlt : i < l.length
  · obtain ⟨q, hq⟩ : ∃ q, l[i]? = some q := ⟨_, List.getElem?_eq_getElem hlt⟩
    obtain ⟨b, off, sq, c, rfl, hra⟩ := hv1.at_ i hlt
    have hld := hra.rd prC_length hq
    have hia := fun w => ia23 w ⟨b, off, sq⟩ l.length c .i64 i hlt
    obtain ⟨q1, q2⟩ := q
    simp only [prC] at hld
    by_cases he : p1 = q1 ∧ p2 = q2
    · obtain ⟨rfl, rfl⟩ := he
      simp [mc74_l0, t0, t3, t7, t8, hlt, g1, hia, hld, eq_pair, tupV]
      exact .inr ⟨i, rfl, hq, hno⟩
    · have hb : (decide (p1 = q1) && decide (p2 = q2)) = false := by
        rw [← Bool.not_eq_true, Bool.and_eq_true, decide_eq_true_eq, decide_eq_true_eq]; exact he
      simp [mc74_l0, t0, t3, t7, t8, hlt, g1, hia, hld, eq_pair, hb, hw1']
      refine ⟨by omega, by omega, fun j hj => ?_⟩
      by_cases e : j = i
      · subst e
        intro h
        rw [hq] at h
        simp at h
        exact he ⟨h.1.symm, h.2.symm⟩
      · exact hno j (by omega)
  · have hi' : i = l.length := by omega
    subst hi'
    simp [mc74_l0, t7, t8, tupV]
    refine .inl ⟨rfl, fun h => ?_⟩
    obtain ⟨j, hj⟩ := List.getElem?_of_mem h
    have : j < l.length := by
      rw [List.getElem?_eq_some_iff] at hj
      exact hj.1
    exact hno j this hj
def S72 : PSpec where
  R args w v := ∃ (x : Value) (l : List (Int × Int)) (p : Int × Int), args = [x, .agg ⟨prC p⟩] ∧ RowsV prC w x l ∧ l.length ≤ 10 ∧ v = .bool (decide (p ∈ l))
  uniq := by
    rintro _ _ _ _ ⟨x, l, p, rfl, h1, _, rfl⟩ ⟨x', l', p', h, k1, _, rfl⟩
    simp only [List.cons.injEq, Value.agg.injEq, Array.mk.injEq, and_true] at h
    obtain ⟨rfl, e⟩ := h
    have := prC_inj _ _ e
    subst this
    rw [h1.uniq (m := 2) prC_length prC_inj k1]
  shut h := h
theorem run72 {ov : Ov} (ho : ∀ args w, ov 72 args w = none) (h74 : HasP ov 74 S74.F) (x : Value) (l : List (Int × Int)) (p : Int × Int) (w : AW) (hl : w.lim = w.next) (hv : RowsV prC w x l) (hlen : l.length ≤ 10) : ∃ v w', (run Try.prog ov 2).call 72 [x, .agg ⟨prC p⟩] w .none = .ok (.ret v) w' .none ∧ v = .bool (decide (p ∈ l)) := by
  refine call_wp text72 (by simp) (ho _ _) ?_
  have u1 : Up w ⟨w.heap.put w.next (some (.cells (prC p) 37 false)), w.next + 1, w.lim⟩ := (Up.refl w).add _
  obtain ⟨k, hk⟩ : ∃ k, FindAt l p k := by
    by_cases h : p ∈ l
    · obtain ⟨j, hj⟩ := List.getElem?_of_mem h
      have : ∀ n : Nat, (∃ i, i ≤ n ∧ l[i]? = some p) → ∃ k, FindAt l p k := by
        intro n
        induction n using Nat.strongRecOn with
        | ind n ih =>
          rintro ⟨i, hi, h⟩
          by_cases hx : ∃ j, j < i ∧ l[j]? = some p
          · obtain ⟨j, h1, h2⟩ := hx
            exact ih j (by omega) ⟨j, Nat.le_refl _, h2⟩
          · exact ⟨i, .inr ⟨i, rfl, h, fun j hj e => hx ⟨j, hj, e⟩⟩⟩
      exact this j ⟨j, Nat.le_refl _, hj⟩
    · exact ⟨-1, .inl ⟨rfl, h⟩⟩
  have r74 := S74.call1 (P := Try.prog) h74 ⟨x, l, p, k, rfl, hv.up u1, hlen, hk, rfl⟩
  obtain ⟨p1, p2⟩ := p
  simp only [prC] at r74
  rcases hk with ⟨rfl, h⟩ | ⟨i, rfl, h, _⟩
  · simp [mc72, cellsOf_agg, prC, r74, tupV, h]
  · have := List.mem_of_getElem? h
    simp [mc72, cellsOf_agg, prC, r74, tupV, this]
def pB (r : MRun) (i : Nat) : Bool := match r.near[i]? with
  | some p => decide (0 ≤ p.1) && decide (p.1 < p.2) && decide (p.2 < r.boxes) && !decide (p ∈ r.near.take i)
  | none => true
def pairsB (r : MRun) : Bool := decide (r.near.length ≤ 4) && (List.range r.near.length).all (pB r)
theorem range_bad {n i : Nat} {f : Nat → Bool} (hi : i < n) (h : f i = false) : (List.range n).all f = false := by
  cases hq : (List.range n).all f with
  | false => rfl
  | true =>
    have := List.all_eq_true.1 hq i (List.mem_range.2 hi)
    rw [h] at this; cases this
theorem range_more {n : Nat} {f : Nat → Bool} (h : (List.range n).all f = true) (k : f n = true) : (List.range (n + 1)).all f = true := by
  rw [List.range_succ, List.all_append, h]; simp [k]
def S60 : PSpec where
  R args w v := ∃ (r : MRun) (wv nv : Value), args = [.agg ⟨runC r wv nv⟩] ∧ RunV w r wv nv ∧ v = .bool (pairsB r)
  uniq := by
    rintro _ _ _ _ ⟨r, wv, nv, rfl, h1, rfl⟩ ⟨r', wv', nv', h, k1, rfl⟩
    simp only [List.cons.injEq, Value.agg.injEq, Array.mk.injEq, and_true] at h
    have := RunV.same h h1 k1
    subst this; rfl
  shut := by
    rintro _ _ _ ⟨r, wv, nv, h1, h2, h3⟩
    exact ⟨r, wv, nv, h1, h2.shut, h3⟩
theorem run60 {ov : Ov} (ho : ∀ args w, ov 60 args w = none) (h72 : HasP ov 72 S72.F) (r : MRun) (wv nv : Value) (w : AW) (hl : w.lim = w.next) (hR : RunV w r wv nv) : ∃ v w', (run Try.prog ov 2).call 60 [.agg ⟨runC r wv nv⟩] w .none = .ok (.ret v) w' .none ∧ v = .bool (pairsB r) := by
  refine call_wp text60 (by simp) (ho _ _) ?_
  have hl1 := fun w2 => len23V (w' := w2) hR.2.1
  by_cases h4 : 4 < r.near.length
  · have e : pairsB r = false := by simp only [pairsB, decide_eq_false (show ¬ r.near.length ≤ 4 by omega), Bool.false_and]
    have h4' : (4 : Int) < (r.near.length : Int) := by omega
    simp [mc60, cellsOf_agg, runC, hl1, h4', e, tupV]
  have h4' : ¬ (4 : Int) < (r.near.length : Int) := by omega
  obtain ⟨w1, hw1⟩ : ∃ w1, w1 = (⟨w.heap.put w.next (some (.cells (runC r wv nv) 25 false)), w.next + 1, w.lim⟩ : AW) := ⟨_, rfl⟩
  have u1 : Up w w1 := hw1 ▸ (Up.refl w).add _
  have g1 : w1.heap.get w.next = some (.cells (runC r wv nv) 25 false) := by rw [hw1, get_put, if_pos rfl]
  have n1 : w.next < w1.next := by rw [hw1]; exact Nat.lt_succ_self _
  have hR1 := hR.up u1
  have l1 : w1.lim ≤ w1.next := by rw [hw1]; show w.lim ≤ w.next + 1; omega
  simp only [runC] at g1
  simp [mc60, cellsOf_agg, runC, hl1, h4']
  rw [show (⟨w.heap.put w.next (some (.cells [.int .i64 r.pods, .int .i64 r.boxes, .int .i64 r.few, .int .i64 r.delay, wv, nv] 25 false)), w.next + 1, w.lim⟩ : AW) = w1 from by rw [hw1]; rfl]
  refine wp_seqX (wp_blockX (wp_rounds (fun i t w' => Up w1 w' ∧ w'.lim ≤ w'.next ∧ tget t 1 = .pointer (some ⟨w.next, 0, none⟩) ∧ tget t 10 = nv ∧ tget t 11 = .int .i64 (r.near.length : Nat) ∧ tget t 12 = .int .i64 (i : Nat) ∧ i ≤ r.near.length ∧ (List.range i).all (pB r) = true) 20 (by decide) ⟨Up.refl _, l1, by simp, by simp, by simp, by simp, by omega, by simp⟩ ?_))
  rintro i t w' ⟨hu, hle, t1, t10, t11, t12, hi, hall⟩
  have hw1' : IntKind.wrap .i64 ((i : Int) + 1) = (i : Int) + 1 := wrap64_in (by omega) (by omega)
  by_cases hlt : i < r.near.length
  · have g := hu.at n1
    rw [g1] at g
    obtain ⟨x, hx⟩ : ∃ x, r.near[i]? = some x := ⟨_, List.getElem?_eq_getElem hlt⟩
    have hRw := hR1.up hu
    obtain ⟨b, off, sq, c, rfl, hra⟩ := hRw.2.1.at_ i hlt
    obtain ⟨_, _, _, hcap, hcap'⟩ := hRw.2.2
    cases hcap
    have hld := hra.rd prC_length hx
    have hia := fun w => ia23 w ⟨b, off, sq⟩ r.near.length c .i64 i hlt
    have hbad : pB r i = false → pairsB r = false := fun h => by rw [pairsB, range_bad hlt h, Bool.and_false]
    have hpi : pB r i = (decide (0 ≤ x.1) && decide (x.1 < x.2) && decide (x.2 < r.boxes) && !decide (x ∈ r.near.take i)) := by rw [pB, hx]
    obtain ⟨x1, x2⟩ := x
    simp only [prC] at hld
    simp only at hpi
    obtain ⟨w2, hw2⟩ : ∃ w2, w2 = (⟨(w'.heap.put w'.next (some (.cells [.int .i64 0, .int .i64 0] 37 false))).put w'.next (some (.cells [.int .i64 x1, .int .i64 x2] 37 false)), w'.next + 1, w'.lim⟩ : AW) := ⟨_, rfl⟩
    have u2 : Up w1 w2 := hw2 ▸ (hu.add _).put hu.next (Nat.le_refl _)
    have u2' : Up w' w2 := hw2 ▸ ((Up.refl w').add _).put (Nat.le_refl _) (Nat.le_refl _)
    have gne : ¬ w.next = w'.next := by have := hu.next; omega
    by_cases k1 : x1 < 0
    · have e := hbad (by rw [hpi, decide_eq_false (show ¬ 0 ≤ x1 by omega)]; simp)
      simp [mc60_l0, t1, t10, t11, t12, hlt, g, hia, hld, hle, gne, k1, e, tupV]
    by_cases k2 : x2 ≤ x1
    · have e := hbad (by rw [hpi, decide_eq_false (show ¬ x1 < x2 by omega)]; simp)
      simp [mc60_l0, t1, t10, t11, t12, hlt, g, hia, hld, hle, gne, k1, k2, e, tupV]
    by_cases k3 : r.boxes ≤ x2
    · have e := hbad (by rw [hpi, decide_eq_false (show ¬ x2 < r.boxes by omega)]; simp)
      simp [mc60_l0, t1, t10, t11, t12, hlt, g, hia, hld, hle, gne, k1, k2, k3, e, tupV]
    have hpi' : pB r i = !decide ((x1, x2) ∈ r.near.take i) := by
      rw [hpi, decide_eq_true (show 0 ≤ x1 by omega), decide_eq_true (show x1 < x2 by omega), decide_eq_true (show x2 < r.boxes by omega)]; rfl
    have hra2 : RowsA prC w2.heap w2.next b off r.near := hra.old u2'.old u2'.next
    obtain ⟨⟨pre, rest, e', ro, h1, _⟩, _⟩ := id hra2
    have hsl := slice_head elem23 sz37 (w := w2) (a := ⟨b, off, sq⟩) (n := r.near.length) (c := c) (k := i) h1 (by omega)
    have r72 := fun sq' => S72.call1 (P := Try.prog) h72 (w := w2) ⟨_, r.near.take i, (x1, x2), rfl, rowsHead hra2 (Nat.le_of_lt hlt) sq' c, by rw [List.length_take]; omega, rfl⟩
    rw [hw2] at hsl r72 u2
    simp only [prC] at r72
    by_cases k4 : (x1, x2) ∈ r.near.take i
    · have e := hbad (by rw [hpi', decide_eq_true k4]; rfl)
      rw [decide_eq_true k4] at r72
      simp [mc60_l0, t1, t10, t11, t12, hlt, g, hia, hld, hle, gne, k1, k2, k3, hsl, r72, e, tupV]
    · rw [decide_eq_false k4] at r72 hpi'
      have hm := range_more hall hpi'
      simp only [List.all_eq_true] at hm
      simp [mc60_l0, t1, t10, t11, t12, hlt, g, hia, hld, hle, gne, k1, k2, k3, hsl, r72, hw1']
      refine ⟨by omega, u2, ?_⟩
      first | exact ⟨by omega, by omega, fun x hx => hm x (List.mem_range.2 hx)⟩ | exact ⟨by omega, fun x hx => hm x (List.mem_range.2 hx)⟩
  · have hi' : i = r.near.length := by omega
    subst hi'
    have e : pairsB r = true := by rw [pairsB, hall, decide_eq_true (by omega)]; rfl
    simp [mc60_l0, t11, t12, tupV, e]
end Go.Proofs.Ytaffhippclpbpaa.walk
