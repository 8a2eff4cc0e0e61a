/- Part of a proof by a machine of ones own: see the text with the theorem. -/
import Derived.Test.YthfidomphkednaaSWa
import Derived.Test.YthfidomphkednaaAT2
import Derived.Test.YthfidomphkednaaAWe
namespace Go.Proofs.Ythfidomphkednaa.walk
open Go Go.Sh
set_option maxRecDepth 100000
set_option linter.unusedSimpArgs false
set_option linter.unusedVariables false
/-! shares in order -/
@[simp] theorem cf73 (w : AW) (l : List Value) : callFn Try.prog w 73 l = .enter 73 l w := callFn_enter text73 l
structure Sr where
  a : Int
  r : Int
def srC (s : Sr) : List Value := [.int .i64 s.a, .int .i64 s.r]
@[simp] theorem srC_length (s : Sr) : (srC s).length = 2 := by simp [srC]
/-- the order: the greater remainder, then the lower place -/
def keyS (s : Sr) : Int := s.a - 16 * s.r
def cmpI (x y : Int) : Int := if x < y then -1 else if y < x then 1 else 0
theorem srC_inj {s s' : Sr} (h : srC s = srC s') : s = s' := by
  obtain ⟨a, r⟩ := s
  obtain ⟨a', r'⟩ := s'
  simp only [srC, List.cons.injEq, Value.int.injEq, true_and, and_true] at h
  obtain ⟨rfl, rfl⟩ := h
  rfl
def S94 : PSpec where
  R args _ v := ∃ n : Int, args = [.int .i64 n] ∧ v = .bool false
  uniq := by rintro _ _ _ _ ⟨n, rfl, rfl⟩ ⟨_, h, rfl⟩; rfl
  shut h := h
theorem run94 {ov : Ov} (ho : ∀ args w, ov 94 args w = none) (n : Int) (w : AW) : ∃ v w', (run Try.prog ov 2).call 94 [.int .i64 n] w .none = .ok (.ret v) w' .none ∧ v = .bool false := by
  refine call_wp text94 (by simp) (ho _ _) ?_
  simp [mc94, tupV]
def S81 : PSpec where
  R args _ v := ∃ n k : Int, args = [.int .i64 n, .int .i64 k] ∧ v = .int .i64 (cmpI n k)
  uniq := by rintro _ _ _ _ ⟨n, k, rfl, rfl⟩ ⟨_, _, h, rfl⟩; cases h; rfl
  shut h := h
theorem run81 {ov : Ov} (ho : ∀ args w, ov 81 args w = none) (h94 : HasP ov 94 S94.F) (n k : Int) (w : AW) : ∃ v w', (run Try.prog ov 2).call 81 [.int .i64 n, .int .i64 k] w .none = .ok (.ret v) w' .none ∧ v = .int .i64 (cmpI n k) := by
  refine call_wp text81 (by simp) (ho _ _) ?_
  have ra := fun (n : Int) (w : AW) => S94.call1 (P := Try.prog) h94 (w := w) ⟨n, rfl, rfl⟩
  unfold cmpI
  by_cases h1 : n < k
  · simp [mc81, ra, h1, tupV]
  · by_cases h2 : k < n
    · simp [mc81, ra, h1, h2, tupV]
    · simp [mc81, ra, h1, h2, tupV]
def orI (x y : Int) : Int := if x ≠ 0 then x else y
def S80 : PSpec where
  R args w v := ∃ (a : Value) (x y : Int), args = [a] ∧ RowsV intC w a [x, y] ∧ v = .int .i64 (orI x y)
  uniq := by
    rintro _ _ _ _ ⟨a, x, y, rfl, h, rfl⟩ ⟨a', x', y', e, h', rfl⟩
    cases e
    have := h.uniq intC_length intC_inj h'
    simp only [List.cons.injEq, and_true] at this
    obtain ⟨rfl, rfl⟩ := this
    rfl
  shut h := h
theorem run80 {ov : Ov} (ho : ∀ args w, ov 80 args w = none) (a : Value) (x y : Int) (w : AW) (hv : RowsV intC w a [x, y]) : ∃ v w', (run Try.prog ov 2).call 80 [a] w .none = .ok (.ret v) w' .none ∧ v = .int .i64 (orI x y) := by
  refine call_wp text80 (by simp) (ho _ _) ?_
  have hla := fun w2 => len26V (w' := w2) hv
  simp [mc80, hla]
  refine wp_seqX (wp_blockX (wp_rounds (fun i t w' => w' = w ∧ tget t 3 = .int .i64 0 ∧ tget t 6 = a ∧ tget t 7 = .int .i64 2 ∧ tget t 8 = .int .i64 (i : Nat) ∧ i ≤ 2 ∧ (1 ≤ i → x = 0) ∧ (2 ≤ i → y = 0)) 20 (by decide) ⟨rfl, by simp, by simp, by simp, by simp, by omega, by omega, by omega⟩ ?_))
  rintro i t w' ⟨rfl, t3, t6, t7, t8, hi, h1, h2⟩
  have hc : i = 0 ∨ i = 1 ∨ i = 2 := by omega
  rcases hc with rfl | rfl | rfl
  · have t8' : tget t 8 = .int .i64 0 := t8
    obtain ⟨b1, o1, s1, c1, rfl, ld1, ia1⟩ := row_ld hv (i := 0) (z := x) rfl
    have hw1' : IntKind.wrap .i64 1 = 1 := by decide
    simp only [List.length_cons, List.length_nil, Nat.zero_add, Int.natCast_zero, Nat.add_zero] at ia1 ld1
    by_cases hx : x = 0
    · subst hx
      simp [mc80_l0, t3, t6, t7, t8', ia1, ld1, hw1']
    · have e : orI x y = x := by unfold orI; rw [if_pos hx]
      simp [mc80_l0, t3, t6, t7, t8', ia1, ld1, hx, e, tupV]
  · have t8' : tget t 8 = .int .i64 1 := t8
    obtain ⟨b1, o1, s1, c1, rfl, ld1, ia1⟩ := row_ld hv (i := 1) (z := y) rfl
    have hw1' : IntKind.wrap .i64 2 = 2 := by decide
    obtain rfl := h1 (by omega)
    have e : orI 0 y = y := by unfold orI; simp
    simp only [List.length_cons, List.length_nil, Nat.zero_add, Int.natCast_one] at ia1 ld1
    by_cases hx : y = 0
    · subst hx
      simp [mc80_l0, t3, t6, t7, t8', ia1, ld1, hw1']
    · simp [mc80_l0, t3, t6, t7, t8', ia1, ld1, hx, e, tupV]
  · have t8' : tget t 8 = .int .i64 2 := t8
    obtain rfl := h1 (by omega)
    obtain rfl := h2 (by omega)
    have e : orI 0 0 = 0 := rfl
    simp [mc80_l0, t3, t6, t7, t8', e, tupV]
theorem cmp_key {s u : Sr} (h1 : 0 ≤ s.a ∧ s.a < 8) (h2 : 0 ≤ u.a ∧ u.a < 8) : orI (cmpI u.r s.r) (cmpI s.a u.a) = cmpI (keyS s) (keyS u) := by
  unfold orI cmpI keyS
  by_cases c1 : u.r < s.r
  · rw [if_pos c1, if_pos (by decide), if_pos (by omega)]
  · by_cases c2 : s.r < u.r
    · rw [if_neg c1, if_pos c2, if_pos (by decide), if_neg (by omega), if_pos (by omega)]
    · rw [if_neg c1, if_neg c2, if_neg (by decide)]
      by_cases c3 : s.a < u.a
      · rw [if_pos c3, if_pos (by omega)]
      · rw [if_neg c3, if_neg (show ¬ s.a - 16 * s.r < u.a - 16 * u.r by omega)]
        by_cases c4 : u.a < s.a
        · rw [if_pos c4, if_pos (by omega)]
        · rw [if_neg c4, if_neg (by omega)]
def S73 : PSpec where
  R args _ v := ∃ s u : Sr, args = [.agg ⟨srC s⟩, .agg ⟨srC u⟩] ∧ (0 ≤ s.a ∧ s.a < 8) ∧ (0 ≤ u.a ∧ u.a < 8) ∧ v = .int .i64 (cmpI (keyS s) (keyS u))
  uniq := by
    rintro _ _ _ _ ⟨s, u, rfl, _, _, rfl⟩ ⟨s', u', e, _, _, rfl⟩
    simp only [List.cons.injEq, Value.agg.injEq, Array.mk.injEq, and_true] at e
    obtain rfl := srC_inj e.1
    obtain rfl := srC_inj e.2
    rfl
  shut h := h
theorem run73 {ov : Ov} (ho : ∀ args w, ov 73 args w = none) (h80 : HasP ov 80 S80.F) (h81 : HasP ov 81 S81.F) (s u : Sr) (hs : 0 ≤ s.a ∧ s.a < 8) (hu : 0 ≤ u.a ∧ u.a < 8) (w : AW) (hl : w.lim = w.next) : ∃ v w', (run Try.prog ov 2).call 73 [.agg ⟨srC s⟩, .agg ⟨srC u⟩] w .none = .ok (.ret v) w' .none ∧ v = .int .i64 (cmpI (keyS s) (keyS u)) := by
  refine call_wp text73 (by simp) (ho _ _) ?_
  have hk := cmp_key hs hu
  obtain ⟨sa, sr⟩ := s
  obtain ⟨ua, ur⟩ := u
  simp only at hk
  have ra := fun (n k : Int) (w : AW) => S81.call1 (P := Try.prog) h81 (w := w) ⟨n, k, rfl, rfl⟩
  obtain ⟨X, hX⟩ : ∃ X, X = cmpI ur sr := ⟨_, rfl⟩
  obtain ⟨Y, hY⟩ : ∃ X, X = cmpI sa ua := ⟨_, rfl⟩
  have rb := fun (H : T AObj) (n : Nat) (h : H.get n = some (.cells [.int .i64 X, .int .i64 Y] 3 false)) => S80.call1 (P := Try.prog) h80 (w := ⟨H, n + 1, w.lim⟩) ⟨.slice (some ⟨n, 0, none⟩) 2 2, X, Y, rfl, .inr ⟨n, 0, none, 2, rfl, ⟨[], [], 3, false, by show H.get n = _; rw [h]; rfl, rfl⟩, Nat.lt_succ_self _⟩, rfl⟩
  rw [← hX, ← hY] at hk
  simp [mc73, srC, cellsOf_agg, ra, ← hX, ← hY, rb, hk, tupV]
end Go.Proofs.Ythfidomphkednaa.walk

namespace Go.Proofs.Ythfidomphkednaa.walk
open Go Go.Sh
set_option maxRecDepth 100000
set_option linter.unusedSimpArgs false
set_option linter.unusedVariables false
/-! slices.SortFunc of few shares -/
structure InS {α : Type} (f : α → List Value) (e : TypeId) (w0 : AW) (B : Nat) (L : List α) (w : AW) : Prop where
  row : w.heap.get B = some (.cells (L.flatMap f) e false)
  old : ∀ x, x < w0.next → x ≠ B → w.heap.get x = w0.heap.get x
  next : w0.next ≤ w.next
  lim : w.lim = w0.lim
def fun73 : Value := .func (.func 73) ⟨[]⟩ ⟨[]⟩
def atIn (s : Sr) : Prop := 0 ≤ s.a ∧ s.a < 8
set_option maxHeartbeats 2000000 in
theorem loop84b {ov : Ov} (m : Nat) (h73 : HasP ov 73 S73.F) (n : Nat) (hn : n ≤ 100) (i : Nat) (hi : i < n) (B : Nat) (w0 : AW) (hl : w0.lim ≤ B) (v2 : Value) (L0 : List Sr) (hin : ∀ s ∈ L0, atIn s) (hL0 : L0.length = n) (hs : SortTo keyS L0 i)
    (Q : Ex → Tm → AW → Prop) (t : Tm) (w : AW) (hw : InS srC 91 w0 B L0 w)
    (t0 : tget t 0 = .slice (some ⟨B, 0, none⟩) n n) (t1 : tget t 1 = .int .i64 0) (t2 : tget t 2 = v2) (t3 : tget t 3 = fun73) (t8 : tget t 8 = .int .i64 (i : Nat)) (t9 : tget t 9 = .int .i64 (i : Nat))
    (hQ : ∀ t w L, InS srC 91 w0 B L w → L.Perm L0 → SortTo keyS L (i + 1) → tget t 0 = .slice (some ⟨B, 0, none⟩) n n → tget t 1 = .int .i64 0 → tget t 2 = v2 → tget t 3 = fun73 → tget t 8 = .int .i64 (i : Nat) → Q (.exit 2) t w) :
    wp (exM Try.prog (run Try.prog ov (m + 1)) (.loop mc84_l1) t w) Q := by
  refine wp_rounds (fun r t w => ∃ j L, j + r = i ∧ InS srC 91 w0 B L w ∧ L.Perm L0 ∧ SortX keyS L (i + 1) j ∧ tget t 0 = .slice (some ⟨B, 0, none⟩) n n ∧ tget t 1 = .int .i64 0 ∧ tget t 2 = v2 ∧ tget t 3 = fun73 ∧ tget t 8 = .int .i64 (i : Nat) ∧ tget t 9 = .int .i64 (j : Nat)) 200 (by decide) ⟨i, L0, rfl, hw, List.Perm.refl _, sortX_start hs, t0, t1, t2, t3, t8, t9⟩ ?_
  clear t0 t1 t2 t3 t8 t9 hw hs
  rintro r t w ⟨j, L, hj, hw, hp, hs, t0, t1, t2, t3, t8, t9⟩
  have hlen : L.length = n := by rw [hp.length_eq, hL0]
  have hlm := hw.lim
  rcases Nat.eq_zero_or_pos j with rfl | hpos
  · obtain ⟨k, hk⟩ : ∃ k : Int, k = ((0 : Nat) : Int) := ⟨_, rfl⟩
    rw [← hk] at t9
    have hp0 : ¬ 0 < k := by omega
    simp [mc84_l1, t0, t1, t3, t9, hp0]
    exact hQ _ _ L hw hp (sortX_stop hs (fun j' a b h => by omega) (by omega)) (by simp [t0]) (by simp [t1]) (by simp [t2]) (by simp [t3]) (by simp [t8])
  · obtain ⟨j, rfl⟩ : ∃ j', j = j' + 1 := ⟨j - 1, by omega⟩
    obtain ⟨a, ha⟩ : ∃ d, L[j]? = some d := ⟨_, List.getElem?_eq_getElem (by omega)⟩
    obtain ⟨b, hb⟩ : ∃ d, L[j + 1]? = some d := ⟨_, List.getElem?_eq_getElem (by omega)⟩
    have r73 := fun w => S73.call (P := Try.prog) h73 (m := m) (w := w) ⟨b, a, rfl, hin _ (hp.mem_iff.1 (List.mem_of_getElem? hb)), hin _ (hp.mem_iff.1 (List.mem_of_getElem? ha)), rfl⟩
    have hia := fun w => ia89 w ⟨B, 0, none⟩ n n .i64 j (by omega)
    have hib := fun w => ia89 w ⟨B, 0, none⟩ n n .i64 (j + 1) (by omega)
    have w3 : IntKind.wrap .i64 (((j + 1 : Nat) : Int) - 1) = (j : Int) := by rw [wrap64_in (by omega) (by omega)]; omega
    have hp0 : (0 : Int) < ((j + 1 : Nat) : Int) := by omega
    obtain ⟨k, hk⟩ : ∃ k : Int, k = ((j + 1 : Nat) : Int) := ⟨_, rfl⟩
    rw [← hk] at w3 hp0 t9 hib
    have hrow := hw.row
    have hda := (flat_at srC_length L j a [] ha).1
    have hdb := (flat_at srC_length L (j + 1) b [] hb).1
    rw [List.append_nil] at hda hdb
    obtain ⟨cs, hcs⟩ : ∃ cs, cs = L.flatMap srC := ⟨_, rfl⟩
    have hfl : (L.flatMap srC).length = n * 2 := by rw [flat_length srC_length, hlen]
    rw [← hcs] at hrow hda hdb hfl
    have hf1 : (j + 1) * 2 + 2 ≤ n * 2 := by omega
    have hf2 : j * 2 + 2 ≤ n * 2 := by omega
    obtain ⟨ja, hja⟩ : ∃ x, x = j * 2 := ⟨_, rfl⟩
    obtain ⟨jb, hjb⟩ : ∃ x, x = (j + 1) * 2 := ⟨_, rfl⟩
    rw [← hja] at hia hda hf2
    rw [← hjb] at hib hdb hf1
    unfold fun73 at t3 hQ ⊢
    by_cases hc : keyS b < keyS a
    · have hcm : cmpI (keyS b) (keyS a) = -1 := by unfold cmpI; rw [if_pos hc]
      have hset1 := flat_set srC_length L (j + 1) a (by omega)
      have hset2 := flat_set srC_length (L.set (j + 1) a) j b (by rw [List.length_set]; omega)
      have hfl1 : ((L.set (j + 1) a).flatMap srC).length = n * 2 := by rw [flat_length srC_length, List.length_set, hlen]
      have hsw : (L.set (j + 1) a).set j b = swapL L j a b := rfl
      rw [hsw] at hset2
      obtain ⟨cs1, hcs1⟩ : ∃ cs, cs = (L.set (j + 1) a).flatMap srC := ⟨_, rfl⟩
      obtain ⟨cs2, hcs2⟩ : ∃ cs, cs = (swapL L j a b).flatMap srC := ⟨_, rfl⟩
      rw [← hcs, ← hjb] at hset1
      rw [← hcs1] at hset1 hset2 hfl1
      rw [← hcs2, ← hja] at hset2
      have l2 : w.lim ≤ B := by omega
      have sgs : ∀ s : Sr, singles (srC s) = true := fun s => by simp [srC]
      have sA : ∀ w5 : AW, w5.lim ≤ B → wrO w5 B jb (srC a) (some (.cells cs 91 false)) = some ⟨w5.heap.put B (some (.cells cs1 91 false)), w5.next, w5.lim⟩ := fun w5 h => by
        rw [wrO_cells (sgs a) h (by rw [srC_length, hfl]; omega), srC_length, hset1]
      have sB : ∀ w5 : AW, w5.lim ≤ B → wrO w5 B ja (srC b) (some (.cells cs1 91 false)) = some ⟨w5.heap.put B (some (.cells cs2 91 false)), w5.next, w5.lim⟩ := fun w5 h => by
        rw [wrO_cells (sgs b) h (by rw [srC_length, hfl1]; omega), srC_length, hset2]
      simp [mc84_l1, t0, t1, t3, t9, hp0, w3, hia, hib, hda, hdb, r73, hcm, hrow, hfl, hfl1, hf1, hf2, sA, sB, l2, cellsOf_agg, callV_func, -wrO_cells]
      refine ⟨by omega, j, by omega, swapL L j a b, ⟨?_, fun x hx hB => ?_, hw.next, hlm⟩, (swap_perm ha hb).trans hp, sortX_step hs (by omega) ha hb hc, ?_⟩
      · simp [hcs2]
      · simp [hB]; exact hw.old x hx hB
      · simp [t2, t8, fun73]
    · have hcm : ¬ cmpI (keyS b) (keyS a) < 0 := by unfold cmpI; rw [if_neg hc]; split <;> omega
      simp [mc84_l1, t0, t1, t3, t9, hp0, w3, hia, hib, hda, hdb, r73, hcm, hrow, hfl, hf1, hf2, callV_func]
      exact hQ _ _ L hw hp (sortX_stop hs (fun j' a' b' h h1 h2 => by
        obtain rfl : j' = j := by omega
        rw [ha] at h1; rw [hb] at h2
        cases h1; cases h2
        omega) (by omega)) (by simp [t0]) (by simp [t1]) (by simp [t2]) (by simp [t3]) (by simp [t8])
theorem loop84a {ov : Ov} (m : Nat) (h73 : HasP ov 73 S73.F) (n : Nat) (hn : n ≤ 100) (B : Nat) (w0 : AW) (hl : w0.lim ≤ B) (L0 : List Sr) (hin : ∀ s ∈ L0, atIn s) (hL0 : L0.length = n)
    (Q : Ex → Tm → AW → Prop) (t : Tm) (w : AW) (hw : InS srC 91 w0 B L0 w)
    (t0 : tget t 0 = .slice (some ⟨B, 0, none⟩) n n) (t1 : tget t 1 = .int .i64 0) (t2 : tget t 2 = .int .i64 (n : Nat)) (t3 : tget t 3 = fun73) (t8 : tget t 8 = .int .i64 1)
    (hQ : ∀ t w L, InS srC 91 w0 B L w → L.Perm L0 → SortTo keyS L n → Q (.exit 0) t w) :
    wp (exM Try.prog (run Try.prog ov (m + 1)) (.loop mc84_l0) t w) Q := by
  refine wp_rounds (fun r t w => ∃ L, InS srC 91 w0 B L w ∧ L.Perm L0 ∧ SortTo keyS L (r + 1) ∧ tget t 0 = .slice (some ⟨B, 0, none⟩) n n ∧ tget t 1 = .int .i64 0 ∧ tget t 2 = .int .i64 (n : Nat) ∧ tget t 3 = fun73 ∧ tget t 8 = .int .i64 ((r + 1 : Nat) : Int) ∧ (r ≤ n)) 200 (by decide) ⟨L0, hw, List.Perm.refl _, sortTo_one _, t0, t1, t2, t3, by simpa using t8, Nat.zero_le _⟩ ?_
  clear t0 t1 t2 t3 t8 hw
  rintro r t w ⟨L, hw, hp, hs, t0, t1, t2, t3, t8, hr⟩
  by_cases hlt : r + 1 < n
  · have hlt' : ((r + 1 : Nat) : Int) < (n : Int) := by omega
    have hw1 : IntKind.wrap .i64 (((r + 1 : Nat) : Int) + 1) = ((r + 1 + 1 : Nat) : Int) := by rw [wrap64_in (by omega) (by omega)]; omega
    obtain ⟨k, hk⟩ : ∃ k : Int, k = ((r + 1 : Nat) : Int) := ⟨_, rfl⟩
    rw [← hk] at t8 hlt' hw1
    simp [mc84_l0, t2, t8, hlt']
    refine wp_seqX (wp_blockX (wp_blockX (loop84b m h73 n hn (r + 1) hlt B w0 hl (.int .i64 (n : Nat)) L (fun s h => hin s (hp.mem_iff.1 h)) (by rw [hp.length_eq, hL0]) hs _ _ _ hw ?_ ?_ ?_ ?_ ?_ ?_ ?_)))
    case _ => simp [t0]
    case _ => simp [t1]
    case _ => simp [t2]
    case _ => simp [t3]
    case _ => simp [t8, hk]
    case _ => simp [hk]
    case _ =>
      intro t w L' hw' hp' hs' s0 s1 s2 s3 s8
      rw [← hk] at s8
      simp [s0, s1, s2, s3, s8, hw1]
      refine ⟨by omega, L', hw', hp'.trans hp, hs', ?_⟩
      omega
  · have hge : ¬ ((r + 1 : Nat) : Int) < (n : Int) := by omega
    obtain ⟨k, hk⟩ : ∃ k : Int, k = ((r + 1 : Nat) : Int) := ⟨_, rfl⟩
    rw [← hk] at t8 hge
    simp [mc84_l0, t2, t8, hge]
    exact hQ _ _ L hw hp fun x y a b h1 h2 => hs x y a b h1 (by omega)
/-- what the sort leaves -/
def Sorted84 (w w' : AW) (B : Nat) (L : List Sr) : Prop := ∃ L', w'.heap.get B = some (.cells (L'.flatMap srC) 91 false) ∧ L'.Perm L ∧ SortTo keyS L' L.length ∧ (∀ x, x < w.next → x ≠ B → w'.heap.get x = w.heap.get x) ∧ w.next ≤ w'.next ∧ w'.lim = w.lim
theorem call84 {ov : Ov} (m : Nat) (ho : ∀ args w, ov 84 args w = none) (h73 : HasP ov 73 S73.F) (L : List Sr) (hin : ∀ s ∈ L, atIn s) (hn : L.length ≤ 100) (B : Nat) (w : AW) (hl : w.lim ≤ B) (hB : w.heap.get B = some (.cells (L.flatMap srC) 91 false)) :
    ∃ x w', (run Try.prog ov (m + 2)).call 84 [.slice (some ⟨B, 0, none⟩) L.length L.length, .int .i64 0, .int .i64 (L.length : Nat), fun73] w .none = .ok (.ret x) w' .none ∧ x = .tuple ⟨[]⟩ ∧ Sorted84 w w' B L := by
  refine call_wp text84 (by simp) (ho _ _) ?_
  have w11 : IntKind.wrap .i64 1 = 1 := by decide
  simp [mc84]
  refine wp_blockX (loop84a m h73 L.length hn B w hl L hin rfl _ _ _ ⟨hB, fun _ _ _ => rfl, Nat.le_refl _, rfl⟩ ?_ ?_ ?_ ?_ ?_ ?_)
  case _ => simp
  case _ => simp
  case _ => simp
  case _ => simp
  case _ => simp [w11]
  case _ =>
    intro t w' L' hw hp hs
    simp [tupV]
    exact ⟨L', hw.row, hp, hs, hw.old, hw.next, hw.lim⟩
theorem call78 {ov : Ov} (m : Nat) (ho : ∀ args w, ov 78 args w = none) (ho84 : ∀ args w, ov 84 args w = none) (h73 : HasP ov 73 S73.F) (L : List Sr) (hin : ∀ s ∈ L, atIn s) (hn : L.length ≤ 12) (z : Int) (B : Nat) (w : AW) (hl : w.lim ≤ B) (hB : w.heap.get B = some (.cells (L.flatMap srC) 91 false)) :
    ∃ x w', (run Try.prog ov (m + 3)).call 78 [.slice (some ⟨B, 0, none⟩) L.length L.length, .int .i64 0, .int .i64 (L.length : Nat), .int .i64 z, fun73] w .none = .ok (.ret x) w' .none ∧ x = .tuple ⟨[]⟩ ∧ Sorted84 w w' B L := by
  refine call_wp text78 (by simp) (ho _ _) ?_
  obtain ⟨x, w', hc, rfl, hx⟩ := call84 m ho84 h73 L hin (by omega) B w hl hB
  have hn' : (L.length : Int) ≤ 12 := by omega
  have w1 : IntKind.wrap .i64 ((L.length : Int) - 0) = (L.length : Int) := by rw [wrap64_in (by omega) (by omega)]; omega
  have w2 : IntKind.wrap .i64 (L.length : Int) = (L.length : Int) := wrap64_in (by omega) (by omega)
  simp [mc78]
  refine wp_blockX (wp_rounds (fun r t w' => r = 0 ∧ w' = w ∧ tget t 0 = .slice (some ⟨B, 0, none⟩) L.length L.length ∧ tget t 1 = .int .i64 0 ∧ tget t 2 = .int .i64 (L.length : Nat) ∧ tget t 4 = fun73) 5 (by decide) ⟨rfl, rfl, by simp, by simp, by simp, by simp⟩ ?_)
  rintro r t w1' ⟨rfl, rfl, t0, t1, t2, t4⟩
  simp [mc78_l0, t0, t1, t2, t4, w1, w2, hn', hc, tupV]
  exact hx
end Go.Proofs.Ythfidomphkednaa.walk

namespace Go.Proofs.Ythfidomphkednaa.walk
open Go Go.Sh
set_option maxRecDepth 100000
set_option linter.unusedSimpArgs false
set_option linter.unusedVariables false
/-! how many bits; the sort -/
theorem ixs9 (w : AW) (l : List UInt8) (j : Nat) (b : UInt8) (h : l[j]? = some b) : indexA Try.prog w 9 (.string ⟨⟨l⟩⟩) (.int .u8 (j : Int)) = .val (.int .u8 (b.toNat : Int)) w := index_string (by kernel_rfl) _ _ j b h
def bitI (z : Nat) : Int := if z = 0 then 0 else if z = 1 then 1 else if z < 4 then 2 else if z < 8 then 3 else 4
def S93 : PSpec where
  R args _ v := ∃ n : Nat, args = [.int .u64 (n : Int)] ∧ n ≤ 8 ∧ v = .int .i64 (bitI n)
  uniq := by
    rintro _ _ _ _ ⟨n, rfl, _, rfl⟩ ⟨n', e, _, rfl⟩
    simp only [List.cons.injEq, Value.int.injEq, true_and, and_true] at e
    obtain rfl : n = n' := by omega
    rfl
  shut h := h
theorem run93 {ov : Ov} (ho : ∀ args w, ov 93 args w = none) (n : Nat) (hn : n ≤ 8) (w : AW) : ∃ x w', (run Try.prog ov 2).call 93 [.int .u64 (n : Int)] w .none = .ok (.ret x) w' .none ∧ x = .int .i64 (bitI n) := by
  refine call_wp text93 (by simp) (ho _ _) ?_
  have hc : n = 0 ∨ n = 1 ∨ n = 2 ∨ n = 3 ∨ n = 4 ∨ n = 5 ∨ n = 6 ∨ n = 7 ∨ n = 8 := by omega
  rcases hc with rfl | rfl | rfl | rfl | rfl | rfl | rfl | rfl | rfl
  · have hw : IntKind.wrap .u8 0 = 0 := by decide
    have hv : IntKind.wrap .i64 0 = 0 := by decide
    have hix : ∀ w (l : List UInt8), l[0]? = some 0 → indexA Try.prog w 9 (.string ⟨⟨l⟩⟩) (.int .u8 0) = .val (.int .u8 0) w := fun w l h => ixs9 w l 0 0 h
    simp [mc93, tupV, hw, hv, hix, bitI]
  · have hw : IntKind.wrap .u8 1 = 1 := by decide
    have hv : IntKind.wrap .i64 1 = 1 := by decide
    have hix : ∀ w (l : List UInt8), l[1]? = some 1 → indexA Try.prog w 9 (.string ⟨⟨l⟩⟩) (.int .u8 1) = .val (.int .u8 1) w := fun w l h => ixs9 w l 1 1 h
    simp [mc93, tupV, hw, hv, hix, bitI]
  · have hw : IntKind.wrap .u8 2 = 2 := by decide
    have hv : IntKind.wrap .i64 2 = 2 := by decide
    have hix : ∀ w (l : List UInt8), l[2]? = some 2 → indexA Try.prog w 9 (.string ⟨⟨l⟩⟩) (.int .u8 2) = .val (.int .u8 2) w := fun w l h => ixs9 w l 2 2 h
    simp [mc93, tupV, hw, hv, hix, bitI]
  · have hw : IntKind.wrap .u8 3 = 3 := by decide
    have hv : IntKind.wrap .i64 2 = 2 := by decide
    have hix : ∀ w (l : List UInt8), l[3]? = some 2 → indexA Try.prog w 9 (.string ⟨⟨l⟩⟩) (.int .u8 3) = .val (.int .u8 2) w := fun w l h => ixs9 w l 3 2 h
    simp [mc93, tupV, hw, hv, hix, bitI]
  · have hw : IntKind.wrap .u8 4 = 4 := by decide
    have hv : IntKind.wrap .i64 3 = 3 := by decide
    have hix : ∀ w (l : List UInt8), l[4]? = some 3 → indexA Try.prog w 9 (.string ⟨⟨l⟩⟩) (.int .u8 4) = .val (.int .u8 3) w := fun w l h => ixs9 w l 4 3 h
    simp [mc93, tupV, hw, hv, hix, bitI]
  · have hw : IntKind.wrap .u8 5 = 5 := by decide
    have hv : IntKind.wrap .i64 3 = 3 := by decide
    have hix : ∀ w (l : List UInt8), l[5]? = some 3 → indexA Try.prog w 9 (.string ⟨⟨l⟩⟩) (.int .u8 5) = .val (.int .u8 3) w := fun w l h => ixs9 w l 5 3 h
    simp [mc93, tupV, hw, hv, hix, bitI]
  · have hw : IntKind.wrap .u8 6 = 6 := by decide
    have hv : IntKind.wrap .i64 3 = 3 := by decide
    have hix : ∀ w (l : List UInt8), l[6]? = some 3 → indexA Try.prog w 9 (.string ⟨⟨l⟩⟩) (.int .u8 6) = .val (.int .u8 3) w := fun w l h => ixs9 w l 6 3 h
    simp [mc93, tupV, hw, hv, hix, bitI]
  · have hw : IntKind.wrap .u8 7 = 7 := by decide
    have hv : IntKind.wrap .i64 3 = 3 := by decide
    have hix : ∀ w (l : List UInt8), l[7]? = some 3 → indexA Try.prog w 9 (.string ⟨⟨l⟩⟩) (.int .u8 7) = .val (.int .u8 3) w := fun w l h => ixs9 w l 7 3 h
    simp [mc93, tupV, hw, hv, hix, bitI]
  · have hw : IntKind.wrap .u8 8 = 8 := by decide
    have hv : IntKind.wrap .i64 4 = 4 := by decide
    have hix : ∀ w (l : List UInt8), l[8]? = some 4 → indexA Try.prog w 9 (.string ⟨⟨l⟩⟩) (.int .u8 8) = .val (.int .u8 4) w := fun w l h => ixs9 w l 8 4 h
    simp [mc93, tupV, hw, hv, hix, bitI]
theorem run79 {ov : Ov} (ho : ∀ args w, ov 79 args w = none) (h93 : HasP ov 93 S93.F) (n : Nat) (hn : n ≤ 8) (w : AW) : ∃ x w', (run Try.prog ov 2).call 79 [.int .u64 (n : Int)] w .none = .ok (.ret x) w' .none ∧ x = .int .i64 (bitI n) := by
  refine call_wp text79 (by simp) (ho _ _) ?_
  have r93 := fun w => S93.call1 (P := Try.prog) h93 (w := w) ⟨n, rfl, hn, rfl⟩
  simp [mc79, tupV, r93]
theorem call72 {ov : Ov} (m : Nat) (ho : ∀ args w, ov 72 args w = none) (ho78 : ∀ args w, ov 78 args w = none) (ho84 : ∀ args w, ov 84 args w = none) (h73 : HasP ov 73 S73.F) (h79 : HasP ov 79 S93.F) (L : List Sr) (hin : ∀ s ∈ L, atIn s) (hn : L.length ≤ 8) (B : Nat) (w : AW) (hl : w.lim ≤ B) (hB : w.heap.get B = some (.cells (L.flatMap srC) 91 false)) :
    ∃ x w', (run Try.prog ov (m + 4)).call 72 [.slice (some ⟨B, 0, none⟩) L.length L.length, fun73] w .none = .ok (.ret x) w' .none ∧ x = .tuple ⟨[]⟩ ∧ Sorted84 w w' B L := by
  refine call_wp text72 (by simp) (ho _ _) ?_
  obtain ⟨x, w', hc, rfl, hx⟩ := call78 m ho78 ho84 h73 L hin (by omega) (bitI L.length) B w hl hB
  have r79 := fun w => S93.call (P := Try.prog) h79 (m := m + 2) (w := w) ⟨L.length, rfl, hn, rfl⟩
  have w1 : IntKind.wrap .u64 (L.length : Int) = (L.length : Int) := by
    have hc : L.length = 0 ∨ L.length = 1 ∨ L.length = 2 ∨ L.length = 3 ∨ L.length = 4 ∨ L.length = 5 ∨ L.length = 6 ∨ L.length = 7 ∨ L.length = 8 := by omega
    rcases hc with h | h | h | h | h | h | h | h | h <;> rw [h] <;> decide
  simp [mc72, w1, r79, hc, tupV]
  exact hx
end Go.Proofs.Ythfidomphkednaa.walk

namespace Go.Proofs.Ythfidomphkednaa.walk
open Go Go.Sh
set_option maxRecDepth 100000
set_option linter.unusedSimpArgs false
set_option linter.unusedVariables false
/-! sharing: numbers -/
def quF (S W : Int) (x : Int → Int) : Int → Int := fun p => S * x p / W
def reF (S W : Int) (x : Int → Int) : Int → Int := fun p => S * x p % W
def srL (n : Nat) (r : Int → Int) : List Sr := (List.range n).map fun (k : Nat) => ⟨(k : Int), r (k : Int)⟩
@[simp] theorem srL_len (n : Nat) (r : Int → Int) : (srL n r).length = n := by simp [srL]
theorem srL_succ (n : Nat) (r : Int → Int) : srL (n + 1) r = srL n r ++ [⟨(n : Int), r (n : Int)⟩] := by simp [srL, List.range_succ]
theorem srL_mem {n : Nat} {r : Int → Int} {s : Sr} (h : s ∈ srL n r) : (0 ≤ s.a ∧ s.a < (n : Int)) ∧ s.r = r s.a := by
  unfold srL at h
  obtain ⟨k, hk, rfl⟩ := List.mem_map.1 h
  have := List.mem_range.1 hk
  exact ⟨⟨by show (0 : Int) ≤ (k : Int); omega, by show (k : Int) < (n : Int); omega⟩, rfl⟩
theorem mem_srL {n : Nat} {r : Int → Int} {k : Nat} (h : k < n) : (⟨(k : Int), r (k : Int)⟩ : Sr) ∈ srL n r := List.mem_map.2 ⟨k, List.mem_range.2 h, rfl⟩
theorem srL_nodup (n : Nat) (r : Int → Int) : ((srL n r).map Sr.a).Nodup := by
  unfold srL
  rw [List.map_map]
  unfold List.Nodup
  rw [List.pairwise_map]
  exact List.Pairwise.imp (fun {a b} hab h => hab (by have h' : (a : Int) = (b : Int) := h; omega)) List.nodup_range
theorem lsF_succ (n : Nat) (x : Int → Int) : lsF (n + 1) x = lsF n x ++ [x (n : Int)] := by simp [lsF, List.range_succ]
theorem sN_div (S W : Int) (x : Int → Int) : ∀ n : Nat, W * sN (fun k => quF S W x (k : Int)) n + sN (fun k => reF S W x (k : Int)) n = S * sN (fun k => x (k : Int)) n
  | 0 => by simp only [sN]; omega
  | n + 1 => by
    have ih := sN_div S W x n
    simp only [sN]
    rw [Int.mul_add, Int.mul_add, ← ih]
    have := Int.emod_add_mul_ediv (S * x (n : Int)) W
    unfold quF reF at *
    omega
theorem sN_bd {f : Nat → Int} {M : Int} : ∀ {n : Nat}, (∀ k, k < n → 0 ≤ f k ∧ f k ≤ M) → 0 ≤ sN f n ∧ sN f n ≤ (n : Int) * M
  | 0, _ => by simp only [sN]; exact ⟨Int.le_refl _, by simp⟩
  | n + 1, h => by
    obtain ⟨h1, h2⟩ := sN_bd (M := M) (n := n) fun k hk => h k (by omega)
    have h3 := h n (by omega)
    simp only [sN]
    have : ((n + 1 : Nat) : Int) * M = (n : Int) * M + M := by rw [Int.natCast_add, Int.add_mul]; simp
    omega
theorem sh_dv (S W : Int) (x : Int → Int) (k : Nat) : W * quF S W x (k : Int) + reF S W x (k : Int) = S * x (k : Int) := by
  have := Int.emod_add_mul_ediv (S * x (k : Int)) W
  unfold quF reF
  omega
/-- what a share is in order: the numbers of the shares -/
structure ShOk (n : Nat) (S W : Int) (x : Int → Int) : Prop where
  n1 : 1 ≤ n
  n8 : n ≤ 8
  hs : 0 ≤ S ∧ S ≤ 1000000
  hx : ∀ k : Nat, k < n → 0 ≤ x (k : Int) ∧ x (k : Int) ≤ 1000
  hw : W = sN (fun k => x (k : Int)) n
  w1 : 1 ≤ W
section
variable {n : Nat} {S W : Int} {x : Int → Int} (h : ShOk n S W x)
include h
theorem ShOk.w8 : W ≤ 8000 := by
  have h1 := (sN_bd (f := fun k => x (k : Int)) (M := 1000) (n := n) fun k hk => h.hx k hk).2
  have h2 := h.n8
  have h3 := h.hw
  omega
theorem ShOk.sx {k : Nat} (hk : k < n) : 0 ≤ S * x (k : Int) ∧ S * x (k : Int) ≤ 1000000 * 1000 := by
  have h1 := h.hx k hk
  have h2 := h.hs
  exact ⟨Int.mul_nonneg h2.1 h1.1, Int.mul_le_mul h2.2 h1.2 h1.1 (by decide)⟩
theorem ShOk.re {k : Nat} (hk : k < n) : 0 ≤ reF S W x (k : Int) ∧ reF S W x (k : Int) ≤ W - 1 := by
  have := h.w1
  have h1 := Int.emod_nonneg (S * x (k : Int)) (show W ≠ 0 by omega)
  have h2 := Int.emod_lt_of_pos (S * x (k : Int)) (show 0 < W by omega)
  unfold reF
  omega
theorem ShOk.qu {k : Nat} (hk : k < n) : 0 ≤ quF S W x (k : Int) ∧ quF S W x (k : Int) ≤ 1000000000 := by
  have h1 := h.sx hk
  have h2 := h.w1
  have h3 : 0 ≤ S * x (k : Int) / W := Int.ediv_nonneg h1.1 (by omega)
  have h4 := Int.ediv_le_self W h1.1
  unfold quF
  omega
/-- the cents that are left -/
theorem ShOk.left : W * (S - totL (lsF n (quF S W x))) = sN (fun k => reF S W x (k : Int)) n := by
  have h1 := sN_div S W x n
  rw [← h.hw] at h1
  rw [totL_ls, Int.mul_sub, Int.mul_comm W S]
  omega
theorem ShOk.left_bd : 0 ≤ S - totL (lsF n (quF S W x)) ∧ S - totL (lsF n (quF S W x)) < (n : Int) := by
  have h1 := h.left
  obtain ⟨h2, h3⟩ := sN_bd (f := fun k => reF S W x (k : Int)) (M := W - 1) (n := n) fun k hk => h.re hk
  have h4 := h.w1
  have hn := h.n1
  rw [← h1] at h2 h3
  have e : (n : Int) * (W - 1) = W * (n : Int) - (n : Int) := by rw [Int.mul_sub, Int.mul_comm]; omega
  obtain ⟨D, hD⟩ : ∃ D, D = S - totL (lsF n (quF S W x)) := ⟨_, rfl⟩
  rw [← hD] at h2 h3 ⊢
  refine ⟨?_, ?_⟩
  · by_cases hd : 0 ≤ D
    · exact hd
    · exfalso
      have : W * D ≤ W * (-1) := Int.mul_le_mul_of_nonneg_left (by omega) (by omega)
      omega
  · by_cases hd : D < (n : Int)
    · exact hd
    · exfalso
      have : W * (n : Int) ≤ W * D := Int.mul_le_mul_of_nonneg_left (by omega) (by omega)
      omega
end
/-- the sum with the cents that are left given to the first of the order -/
def upT (g : Int → Int) (L : List Sr) (i : Nat) : Int → Int := fun p => g p + (if p ∈ (L.take i).map Sr.a then 1 else 0)
theorem upT_zero (g : Int → Int) (L : List Sr) : upT g L 0 = g := by funext p; simp [upT]
theorem upT_step {g : Int → Int} {L : List Sr} {i : Nat} {s : Sr} (hs : L[i]? = some s) (hd : (L.map Sr.a).Nodup) : updF (upT g L i) s.a (upT g L i s.a + 1) = upT g L (i + 1) := by
  have e : (L.take (i + 1)).map Sr.a = (L.take i).map Sr.a ++ [s.a] := by
    rw [List.take_add_one, hs, List.map_append]; rfl
  have hnot : s.a ∉ (L.take i).map Sr.a := by
    have h1 : ((L.take (i + 1)).map Sr.a).Nodup := by
      rw [List.map_take]
      exact hd.sublist (List.take_sublist _ _)
    rw [e] at h1
    have := (List.nodup_append.1 h1).2.2
    intro hm
    exact this _ hm _ (by simp) rfl
  funext p
  unfold updF upT
  rw [e]
  by_cases hp : p = s.a
  · subst hp
    rw [if_pos rfl, if_neg hnot, if_pos (by simp)]; omega
  · rw [if_neg hp]
    by_cases hm : p ∈ (L.take i).map Sr.a
    · rw [if_pos hm, if_pos (List.mem_append_left _ hm)]
    · rw [if_neg hm, if_neg (by
        rw [List.mem_append]
        rintro (h | h)
        · exact hm h
        · simp at h; exact hp h)]
end Go.Proofs.Ythfidomphkednaa.walk

namespace Go.Proofs.Ythfidomphkednaa.walk
open Go Go.Sh
set_option maxRecDepth 100000
set_option linter.unusedSimpArgs false
set_option linter.unusedVariables false
/-! sharedOut -/
theorem list89 : isList Try.prog 89 = true := by kernel_rfl
theorem elem89 : elemA Try.prog 89 = some 91 := by kernel_rfl
theorem sz91 : szOf Try.prog 91 = some 2 := by kernel_rfl
theorem small91 : smallT Try.prog 91 = true := by kernel_rfl
theorem AccQ.push0 {α : Type} {P : Program} {st e : TypeId} {sz : Nat} {f : α → List Value} (h0 : isList P st = true) (h1 : elemA P st = some e) (h2 : szOf P e = some sz) (h3 : smallT P e = true) (hf : ∀ a, (f a).length = sz) (hs : ∀ a, singles (f a) = true) (hz : 0 < sz)
    {n0 : Nat} {w : AW} {v : Value} {acc : List α} {B : Nat} (h : AccQ f e n0 w v acc B) (hl : w.lim ≤ n0) (hn : n0 ≤ w.next) (hlen : acc.length ≤ 90000) (y : α) :
    ∃ v' w', append1 P ⟨w.heap.put w.next (some (.cells (f y) e false)), w.next + 1, w.lim⟩ [st, st] [v, .slice (some ⟨w.next, 0, none⟩) 1 1] = .val v' w' ∧ (∃ B', w.next ≤ B' ∧ AccQ f e n0 w' v' (acc ++ [y]) B') ∧ (∀ x, x < w.next → (acc ≠ [] → x ≠ B) → w'.heap.get x = w.heap.get x) ∧ w.next ≤ w'.next ∧ w'.lim = w.lim := by
  have hsrc : srcCells ⟨w.heap.put w.next (some (.cells (f y) e false)), w.next + 1, w.lim⟩ sz (.slice (some ⟨w.next, 0, none⟩) 1 1) = some (f y) := src_row (e' := e) (ro := false) (k := 1) (by simp) (by simp [hf]) (by decide) hz
  rcases h with ⟨rfl, rfl⟩ | ⟨rfl, hB, k1, k2, k3⟩
  · refine ⟨_, _, append_nil h0 h1 h2 h3 (m := 1) rfl hsrc (by simp [hf]) (by decide) (by decide), ⟨w.next + 1, Nat.le_succ _, .inr ⟨rfl, ?_, ?_, ?_, by simp⟩⟩, fun x hx _ => ?_, ?_, rfl⟩
    · simp
    · show n0 < w.next + 1; omega
    · exact Nat.lt_succ_self _
    · show ((w.heap.put w.next _).put (w.next + 1) _).get x = _
      rw [get_put, if_neg (by omega), get_put, if_neg (by omega)]
    · show w.next ≤ w.next + 1 + 1; omega
  · have hB' : (w.heap.put w.next (some (.cells (f y) e false))).get B = some (.cells (acc.flatMap f) e false) := by rw [get_put, if_neg (by omega)]; exact hB
    refine ⟨_, _, append_full h0 h1 h2 h3 (n := acc.length) (m := 1) (c := acc.flatMap f) rfl hsrc (by simp [hf]) (hs y) (by decide) (by omega) hB' (flat_length hf acc) (by show w.lim ≤ B; omega), ⟨w.next + 1, Nat.le_succ _, .inr ⟨?_, ?_, ?_, ?_, by simp⟩⟩, fun x hx hne => ?_, ?_, rfl⟩
    · simp
    · show (((w.heap.put w.next _).put B none).put (w.next + 1) _).get (w.next + 1) = _
      rw [get_put, if_pos rfl]; simp
    · show n0 < w.next + 1; omega
    · exact Nat.lt_succ_self _
    · have := hne k3
      show (((w.heap.put w.next _).put B none).put (w.next + 1) _).get x = _
      rw [get_put, if_neg (by omega), get_put, if_neg (by omega), get_put, if_neg (by omega)]
    · show w.next ≤ w.next + 1 + 1; omega
set_option maxHeartbeats 2000000 in
theorem loop59a {ov : Ov} (m : Nat) (n : Nat) (S W : Int) (x : Int → Int) (hS : ShOk n S W x) (av : Value) (w0 : AW) (n0 : Nat) (hn0 : w0.next = n0) (hl : w0.lim ≤ n0) (hv : RowsV intC w0 av (lsF n x))
    (Q : Ex → Tm → AW → Prop) (t : Tm) (t0 : tget t 0 = .int .i64 S) (t5 : tget t 5 = .int .i64 W) (t6 : tget t 6 = .slice none 0 0) (t7 : tget t 7 = .slice none 0 0) (t13 : tget t 13 = av) (t14 : tget t 14 = .int .i64 (n : Nat)) (t15 : tget t 15 = .int .i64 0)
    (hQ : ∀ t w' B1 B2, Up w0 w' → AccQ intC 3 n0 w' (tget t 6) (lsF n (quF S W x)) B1 → AccQ srC 91 n0 w' (tget t 7) (srL n (reF S W x)) B2 → B1 ≠ B2 → tget t 0 = .int .i64 S → Q (.exit 0) t w') : wp (exM Try.prog (run Try.prog ov m) (.loop mc59_l0) t w0) Q := by
  have h8 := hS.n8
  refine wp_rounds (fun i t w' => Up w0 w' ∧ (∃ B1 B2, AccQ intC 3 n0 w' (tget t 6) (lsF i (quF S W x)) B1 ∧ AccQ srC 91 n0 w' (tget t 7) (srL i (reF S W x)) B2 ∧ (i = 0 ∨ B1 ≠ B2)) ∧ tget t 0 = .int .i64 S ∧ tget t 5 = .int .i64 W ∧ tget t 13 = av ∧ tget t 14 = .int .i64 (n : Nat) ∧ tget t 15 = .int .i64 (i : Nat) ∧ i ≤ n) 20 (by decide) ⟨Up.refl _, ⟨0, 0, .inl ⟨by simp [lsF], t6⟩, .inl ⟨by simp [srL], t7⟩, .inl rfl⟩, t0, t5, t13, t14, by simpa using t15, Nat.zero_le _⟩ ?_
  clear t0 t5 t6 t7 t13 t14 t15
  rintro i t w' ⟨hup, ⟨B1, B2, ha, hb, hne⟩, t0, t5, t13, t14, t15, hi⟩
  have hlm := hup.lim
  have hnx := hup.next
  by_cases hlt : i < n
  · have hlt' : (i : Int) < (n : Int) := by omega
    obtain ⟨b1, o1, s1, c1, rfl, ld1, ia1⟩ := row_ld (hv.up hup) (lsF_at n x hlt)
    simp only [lsF_len] at ia1
    have hsx := hS.sx hlt
    have hw1 := hS.w1
    have hqu := hS.qu hlt
    have hre := hS.re hlt
    have hw8 := hS.w8
    have eq1 : quF S W x (i : Int) = S * x (i : Int) / W := rfl
    have er1 : reF S W x (i : Int) = S * x (i : Int) % W := rfl
    have els := lsF_succ i (quF S W x)
    have ers := srL_succ i (reF S W x)
    obtain ⟨X, hX⟩ : ∃ X, X = x (i : Int) := ⟨_, rfl⟩
    rw [← hX] at hsx ld1 eq1 er1
    have wm : IntKind.wrap .i64 (S * X) = S * X := wrap64_in (by omega) (by omega)
    have e2 : (S * X).tdiv W = S * X / W := Int.tdiv_eq_ediv_of_nonneg hsx.1
    have e3 : (S * X).tmod W = S * X % W := Int.tmod_eq_emod_of_nonneg hsx.1
    have hq := fun (cc : Bool) w => bin_quo (P := Try.prog) (w := w) 3 cc .i64 (S * X) W (by omega)
    have hr := fun (c : Bool) w => bin_rem (P := Try.prog) (w := w) 3 c .i64 (S * X) W (by omega)
    rw [e2, ← eq1] at hq
    rw [e3, ← er1] at hr
    obtain ⟨G, hG⟩ : ∃ X, X = quF S W x (i : Int) := ⟨_, rfl⟩
    obtain ⟨R, hR⟩ : ∃ X, X = reF S W x (i : Int) := ⟨_, rfl⟩
    rw [← hG] at hq hqu els
    rw [← hR] at hr hre ers
    have wq : IntKind.wrap .i64 G = G := wrap64_in (by omega) (by omega)
    have wr' : IntKind.wrap .i64 R = R := wrap64_in (by omega) (by omega)
    have hw1' : IntKind.wrap .i64 ((i : Int) + 1) = (i : Int) + 1 := wrap64_in (by omega) (by omega)
    obtain ⟨v', w4, hap, ⟨B1', hB1', ha'⟩, hkp, hn4, hl4⟩ := AccQ.push0 (P := Try.prog) (st := 26) (sz := 1) list26 elem26 size3 small3 intC_length (fun _ => by simp [intC]) (by decide) ha (by omega) (by omega) (by rw [lsF_len]; omega) G
    rw [← els] at ha'
    simp only [intC] at hap
    have hb4 : AccQ srC 91 n0 w4 (tget t 7) (srL i (reF S W x)) B2 := hb.keep (fun hne2 h1 h2 => hkp B2 h2 (fun h => by
      rcases hne with rfl | hne
      · exact absurd (by simp [lsF]) h
      · exact fun e => hne e.symm)) hn4
    obtain ⟨v5, w6, hap2, ⟨B2', hB2', hb'⟩, hkp2, hn6, hl6⟩ := AccQ.push0 (P := Try.prog) (st := 89) (sz := 2) list89 elem89 sz91 small91 srC_length (fun _ => by simp [srC]) (by decide) hb4 (by omega) (by omega) (by rw [srL_len]; omega) ⟨(i : Int), R⟩
    rw [← ers] at hb'
    simp only [srC] at hap2
    have hl1 := ha'.lt (by rw [els]; simp)
    have hl2 : srL i (reF S W x) ≠ [] → B2 < w'.next := fun h => (hb.lt h).2
    have ha6 : AccQ intC 3 n0 w6 v' (lsF (i + 1) (quF S W x)) B1' := ha'.keep (fun h1 h2 h3 => hkp2 B1' h3 (fun h => by have := hl2 h; omega)) hn6
    simp [mc59_l0, t0, t5, t13, t14, t15, hlt', ia1, ld1, wm, hq, hr, wq, wr', hap, hap2, hw1']
    refine ⟨by omega, ⟨fun y hy => ?_, by omega, by omega⟩, ⟨B1', ha6, B2', hb', by omega⟩, hlt⟩
    have h1 : w4.heap.get y = w'.heap.get y := hkp y (by omega) (fun h => by have := (ha.lt h).1; omega)
    have h2 : w6.heap.get y = w4.heap.get y := hkp2 y (by omega) (fun h => by have := (hb4.lt h).1; omega)
    rw [h2, h1]
    exact hup.at hy
  · have hi' : i = n := by omega
    subst hi'
    have hn1 := hS.n1
    simp [mc59_l0, t14, t15]
    rcases hne with rfl | hne
    · omega
    · exact hQ _ _ B1 B2 hup (by simpa using ha) (by simpa using hb) hne (by simp [t0])
end Go.Proofs.Ythfidomphkednaa.walk

namespace Go.Proofs.Ythfidomphkednaa.walk
open Go Go.Sh
set_option maxRecDepth 100000
set_option linter.unusedSimpArgs false
set_option linter.unusedVariables false
/-- who got a cent has got it once -/
theorem upT_bd {g : Int → Int} {L : List Sr} {i : Nat} {p : Int} : g p ≤ upT g L i p ∧ upT g L i p ≤ g p + 1 := by
  unfold upT
  split <;> omega
theorem loop59b {ov : Ov} (m : Nat) (n : Nat) (S W : Int) (x : Int → Int) (hS : ShOk n S W x) (L : List Sr) (hp : L.Perm (srL n (reF S W x))) (d : Nat) (hd : d < n) (w0 : AW) (B1 B2 : Nat) (hl : w0.lim ≤ B1) (hne : B1 ≠ B2) (hB1 : B1 < w0.next) (hB2 : B2 < w0.next) (g1 : w0.heap.get B1 = some (.cells (lsC n (quF S W x)) 3 false)) (g2 : w0.heap.get B2 = some (.cells (L.flatMap srC) 91 false))
    (Q : Ex → Tm → AW → Prop) (t : Tm) (t6 : tget t 6 = .slice (some ⟨B1, 0, none⟩) n n) (t7 : tget t 7 = .slice (some ⟨B2, 0, none⟩) n n) (t44 : tget t 44 = .int .i64 (d : Nat)) (t45 : tget t 45 = .int .i64 0)
    (hQ : ∀ t w', Kp B1 w0 w' → w'.heap.get B1 = some (.cells (lsC n (upT (quF S W x) L d)) 3 false) → tget t 6 = .slice (some ⟨B1, 0, none⟩) n n → Q (.exit 2) t w') : wp (exM Try.prog (run Try.prog ov m) (.loop mc59_l1) t w0) Q := by
  have h8 := hS.n8
  have hlen : L.length = n := by rw [hp.length_eq, srL_len]
  have hnd : (L.map Sr.a).Nodup := (hp.map Sr.a).nodup_iff.2 (srL_nodup n _)
  refine wp_rounds (fun i t w' => Kp B1 w0 w' ∧ w'.heap.get B1 = some (.cells (lsC n (upT (quF S W x) L i)) 3 false) ∧ tget t 6 = .slice (some ⟨B1, 0, none⟩) n n ∧ tget t 7 = .slice (some ⟨B2, 0, none⟩) n n ∧ tget t 44 = .int .i64 (d : Nat) ∧ tget t 45 = .int .i64 (i : Nat) ∧ i ≤ d) 20 (by decide) ⟨Kp.refl _ _, by rw [upT_zero]; exact g1, t6, t7, t44, by simpa using t45, Nat.zero_le _⟩ ?_
  clear t6 t7 t44 t45
  rintro i t w' ⟨hkp, gb, t6, t7, t44, t45, hi⟩
  have hlm := hkp.lim
  have hnx := hkp.next
  by_cases hlt : i < d
  · have hlt' : (i : Int) < (d : Int) := by omega
    obtain ⟨s, hs⟩ : ∃ s, L[i]? = some s := ⟨_, List.getElem?_eq_getElem (by omega)⟩
    have hin := srL_mem (hp.mem_iff.1 (List.mem_of_getElem? hs))
    have g2' : w'.heap.get B2 = some (.cells (L.flatMap srC) 91 false) := by rw [hkp.old B2 hB2 (Ne.symm hne)]; exact g2
    have hra : RowsA srC w'.heap w'.next B2 0 L := ⟨⟨[], [], 91, false, by simpa using g2', rfl⟩, by omega⟩
    have l0 := hra.rd1 (j := 0) srC_length hs (x := .int .i64 s.a) rfl
    simp only [Nat.add_zero, Nat.zero_add] at l0
    have hia := fun w => ia89 w ⟨B2, 0, none⟩ n n .i64 i (by omega)
    have hst := upT_step (g := quF S W x) hs hnd
    obtain ⟨sa, sr⟩ := s
    simp only at hin l0 hst
    obtain ⟨k, rfl⟩ : ∃ k : Nat, sa = (k : Int) := ⟨sa.toNat, by omega⟩
    have hkn : k < n := by omega
    have hib := fun w => ia26 w ⟨B1, 0, none⟩ n n .i64 k hkn
    simp only [Nat.mul_one] at hib
    have hgt := lsC_get n (upT (quF S W x) L i) hkn
    have hqu := hS.qu hkn
    have hub := upT_bd (g := quF S W x) (L := L) (i := i) (p := (k : Int))
    obtain ⟨U, hU⟩ : ∃ U, U = upT (quF S W x) L i (k : Int) := ⟨_, rfl⟩
    rw [← hU] at hgt hub hst
    have w1' : IntKind.wrap .i64 (U + 1) = U + 1 := wrap64_in (by omega) (by omega)
    have w2' : IntKind.wrap .i64 ((i : Int) + 1) = (i : Int) + 1 := wrap64_in (by omega) (by omega)
    have q2 : w'.lim ≤ B1 := by omega
    have hs' : ∀ w5 : AW, w5.lim ≤ B1 → wrO w5 B1 k [.int .i64 (U + 1)] (some (.cells (lsC n (upT (quF S W x) L i)) 3 false)) = some ⟨w5.heap.put B1 (some (.cells (lsC n (upT (quF S W x) L (i + 1))) 3 false)), w5.next, w5.lim⟩ := fun w5 h => by rw [st_ls hkn h, hst]
    simp [mc59_l1, t6, t7, t44, t45, hlt', hia, l0, hib, gb, hgt, w1', w2', hs', q2, -wrO_cells]
    exact ⟨by omega, hkp.new (.inr rfl) (Nat.le_refl _), hlt⟩
  · have hi' : i = d := by omega
    subst hi'
    simp [mc59_l1, t44, t45]
    exact hQ _ _ hkp gb (by simp [t6])
/-- what a sharing gives: the cents that are left go to the first of an order -/
def ShG (n : Nat) (S W : Int) (x : Int → Int) (U : List Int) : Prop := ∃ (L : List Sr) (d : Nat), L.Perm (srL n (reF S W x)) ∧ SortTo keyS L n ∧ (d : Int) = S - totL (lsF n (quF S W x)) ∧ d < n ∧ U = lsF n (upT (quF S W x) L d)
theorem tot_n {n : Nat} {x : Int → Int} (hn : n ≤ 8) (hx : ∀ k : Nat, k < n → 0 ≤ x (k : Int) ∧ x (k : Int) ≤ 2000000000) : totW (lsF n x) = totL (lsF n x) := totW_eq (fun z hz => by
  unfold lsF at hz
  obtain ⟨q, hq, rfl⟩ := List.mem_map.1 hz
  have := hx q (List.mem_range.1 hq)
  exact ⟨this.1, by omega⟩) (by rw [lsF_len]; omega)
set_option maxHeartbeats 1000000 in
theorem call59 {ov : Ov} (m : Nat) (ho : ∀ args w, ov 59 args w = none) (ho72 : ∀ args w, ov 72 args w = none) (ho78 : ∀ args w, ov 78 args w = none) (ho84 : ∀ args w, ov 84 args w = none) (h62 : HasP ov 62 S62.F) (h73 : HasP ov 73 S73.F) (h79 : HasP ov 79 S93.F) (n : Nat) (S W : Int) (x : Int → Int) (hS : ShOk n S W x) (av : Value) (w : AW) (hl : w.lim ≤ w.next) (hv : RowsV intC w av (lsF n x)) :
    ∃ v w', (run Try.prog ov (m + 5)).call 59 [.int .i64 S, av] w .none = .ok (.ret v) w' .none ∧ (∃ U, RowsV intC w' v U ∧ ShG n S W x U) ∧ Up w w' ∧ notJunk v = some v := by
  refine call_wp text59 (by simp) (ho _ _) ?_
  have h8 := hS.n8
  have hn1 := hS.n1
  have r62 := S62.call (P := Try.prog) h62 (m := m + 3) (w := w) ⟨av, _, rfl, hv, by rw [lsF_len]; omega, rfl⟩
  have e1 : totW (lsF n x) = W := by
    rw [tot_n h8 fun k hk => by have := hS.hx k hk; omega, totL_ls, ← hS.hw]
  rw [e1] at r62
  have hla := fun w2 => len26V (w' := w2) hv
  rw [lsF_len] at hla
  obtain ⟨n0, hn0⟩ : ∃ n0, w.next = n0 := ⟨_, rfl⟩
  simp [mc59, r62, hla]
  refine wp_seqX (wp_blockX (loop59a (ov := ov) (m + 4) n S W x hS av w n0 hn0 (by omega) hv _ _ ?_ ?_ ?_ ?_ ?_ ?_ ?_ ?_))
  case _ => simp
  case _ => simp
  case _ => simp
  case _ => simp
  case _ => simp
  case _ => simp
  case _ => simp
  case _ =>
    intro t w1 B1 B2 u1 ha hb hne t0
    have n1 := u1.next
    have m1 := u1.lim
    have hB1 := ha.lt (by intro e; have := congrArg List.length e; rw [lsF_len] at this; simp at this; omega)
    have hB2 := hb.lt (by intro e; have := congrArg List.length e; rw [srL_len] at this; simp at this; omega)
    have hra := ha.rows
    rcases ha with ⟨h, _⟩ | ⟨t6, g1, _⟩
    · exact absurd (congrArg List.length h) (by rw [lsF_len]; simp; omega)
    rcases hb with ⟨h, _⟩ | ⟨t7, g2, _⟩
    · exact absurd (congrArg List.length h) (by rw [srL_len]; simp; omega)
    rw [lsF_len] at t6
    rw [lsC_flat] at g1
    obtain ⟨_, w2, c72, rfl, L, gL, hp, hs, hold, hn2, hl2⟩ := call72 (ov := ov) m ho72 ho78 ho84 h73 h79 (srL n (reF S W x)) (fun s h => by
      have := (srL_mem h).1
      exact ⟨this.1, by omega⟩) (by rw [srL_len]; exact h8) B2 w1 (by omega) g2
    rw [srL_len] at t7 c72 hs
    have g1' : w2.heap.get B1 = some (.cells (lsC n (quF S W x)) 3 false) := by rw [hold B1 hB1.2 hne]; exact g1
    have hr2 : RowsV intC w2 (.slice (some ⟨B1, 0, none⟩) n n) (lsF n (quF S W x)) := rows_ls g1' (by omega) _
    have r62b := S62.call (P := Try.prog) h62 (m := m + 3) (w := w2) ⟨_, _, rfl, hr2, by rw [lsF_len]; omega, rfl⟩
    rw [tot_n h8 fun k hk => by have := hS.qu hk; omega] at r62b
    obtain ⟨d1, d2⟩ := hS.left_bd
    obtain ⟨T, hT⟩ : ∃ T, T = totL (lsF n (quF S W x)) := ⟨_, rfl⟩
    rw [← hT] at r62b d1 d2
    obtain ⟨d, hd⟩ : ∃ d : Nat, (d : Int) = S - T := ⟨(S - T).toNat, by omega⟩
    have wd : IntKind.wrap .i64 (S - T) = (d : Int) := by rw [← hd]; exact wrap64_in (by omega) (by omega)
    unfold fun73 at c72
    simp [t7, c72, t0, t6, r62b, wd]
    refine wp_seqX (wp_blockX (loop59b (ov := ov) (m + 4) n S W x hS L hp d (by omega) w2 B1 B2 (by omega) hne (by omega) (by omega) g1' gL _ _ ?_ ?_ ?_ ?_ ?_))
    case _ => simp [t6]
    case _ => simp [t7]
    case _ => simp
    case _ => simp
    case _ =>
      intro t w3 hk g3 t6'
      have n3 := hk.next
      have m3 := hk.lim
      have nj : ∀ (a : Addr) n c, notJunk (.slice (some a) n c) = some (.slice (some a) n c) := fun _ _ _ => rfl
      simp [t6', nj, tupV]
      refine ⟨⟨_, rows_ls g3 (by omega) _, L, d, hp, hs, by rw [← hT]; exact hd, by omega, rfl⟩, ⟨fun y hy => ?_, by omega, by omega⟩⟩
      rw [hk.old y (by omega) (by omega), hold y (by omega) (by omega)]
      exact u1.at hy
end Go.Proofs.Ythfidomphkednaa.walk
