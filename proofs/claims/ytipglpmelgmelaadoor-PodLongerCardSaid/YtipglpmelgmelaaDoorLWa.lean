/- Part of a proof by a machine of ones own: see the text with the theorem. -/
import Derived.Test.YtipglpmelgmelaaDoorLT
import Derived.Test.YtipglpmelgmelaaDoorQE
namespace Go.Proofs.YtipglpmelgmelaaDoor.walk
open Go Go.Sh
open known (partsC laidL noOv)
set_option maxRecDepth 100000
set_option linter.unusedSimpArgs false
/-! what the rounds are: numbers alone -/
theorem minH_mem {X : List Off} (h : ∀ o ∈ X, offIn o) (hne : X ≠ []) : (∃ o ∈ X, minH X = oH o) ∧ ∀ o ∈ X, minH X ≤ oH o := by
  obtain ⟨a1, a2, a3⟩ := minF X 2000
  refine ⟨?_, a2⟩
  rcases a3 with e | h'
  · obtain ⟨o, ho⟩ := List.exists_mem_of_ne_nil X hne
    obtain ⟨i1, i2, i3⟩ := h o ho
    have := a2 o ho
    exact ⟨o, ho, by unfold minH; omega⟩
  · exact h'
theorem grd_cons {k : Nat} {X : List Off} (hne : X ≠ []) : grd (k + 1) X = minH X :: grd k (X.filter fun o => decide (minH X < oL o)) := by
  show (if X = [] then [] else _) = _
  rw [if_neg hne]
theorem grd_mem : ∀ (k : Nat) {X : List Off} {d : Int}, (∀ o ∈ X, offIn o) → d ∈ grd k X → ∃ o ∈ X, d = oH o
  | 0, _, d, _, hd => by simp [grd] at hd
  | k + 1, X, d, h, hd => by
    by_cases hne : X = []
    · subst hne; rw [grd_nil] at hd; simp at hd
    · rw [grd_cons hne] at hd
      rcases List.mem_cons.1 hd with rfl | hd
      · exact (minH_mem h hne).1
      · obtain ⟨o, ho, e⟩ := grd_mem k (fun o ho => h o (List.mem_filter.1 ho).1) hd
        exact ⟨o, (List.mem_filter.1 ho).1, e⟩
theorem grd_rise : ∀ (k : Nat) {X : List Off}, (∀ o ∈ X, offIn o) → (grd k X).Pairwise (· < ·)
  | 0, _, _ => by simp [grd]
  | k + 1, X, h => by
    by_cases hne : X = []
    · subst hne; rw [grd_nil]; exact List.Pairwise.nil
    · rw [grd_cons hne]
      have h' : ∀ o ∈ X.filter (fun o => decide (minH X < oL o)), offIn o := fun o ho => h o (List.mem_filter.1 ho).1
      refine List.Pairwise.cons (fun d hd => ?_) (grd_rise k h')
      obtain ⟨o, ho, rfl⟩ := grd_mem k h' hd
      obtain ⟨i1, i2, i3⟩ := h' o ho
      have := (List.mem_filter.1 ho).2
      simp at this
      omega
theorem grd_hit : ∀ (k : Nat) {X : List Off}, (∀ o ∈ X, offIn o) → X.length ≤ k → ∀ o ∈ X, hitO o (grd k X)
  | 0, X, _, hk, o, ho => by
    have : X = [] := List.length_eq_zero_iff.1 (by omega)
    subst this; simp at ho
  | k + 1, X, h, hk, o, ho => by
    have hne : X ≠ [] := List.ne_nil_of_mem ho
    rw [grd_cons hne]
    obtain ⟨_, m2⟩ := minH_mem h hne
    by_cases hc : oL o ≤ minH X
    · exact ⟨minH X, by simp, hc, m2 o ho⟩
    · have hl := filter_less h hne
      obtain ⟨d, d1, d2⟩ := grd_hit k (X := X.filter fun o => decide (minH X < oL o)) (fun o ho => h o (List.mem_filter.1 ho).1) (by omega) o (List.mem_filter.2 ⟨ho, by simp; omega⟩)
      exact ⟨d, List.mem_cons_of_mem _ d1, d2⟩
theorem rise_pair {n : Int} {A : List Int} (h : A.Pairwise (· < ·)) (hb : ∀ x ∈ A, 0 ≤ x ∧ x ≤ n - 1) : riseB n A = true := by
  have key : ∀ i, i ≤ A.length → riseTo n A i = true := by
    intro i
    induction i with
    | zero => intro _; rfl
    | succ i ih =>
      intro hi
      show (riseTo n A i && riseOk n A i) = true
      rw [ih (by omega), Bool.true_and]
      obtain ⟨x, hx⟩ : ∃ x, A[i]? = some x := ⟨_, List.getElem?_eq_getElem (by omega)⟩
      have hxb := hb x (List.mem_of_getElem? hx)
      have hlt : befI A i < x := by
        cases i with
        | zero => show (-1 : Int) < x; omega
        | succ i =>
          obtain ⟨y, hy⟩ : ∃ y, A[i]? = some y := ⟨_, List.getElem?_eq_getElem (by omega)⟩
          show A.getD i 0 < _
          rw [getD_of hy]
          obtain ⟨p1, e1⟩ := List.getElem?_eq_some_iff.1 hx
          obtain ⟨p2, e2⟩ := List.getElem?_eq_some_iff.1 hy
          have := List.pairwise_iff_getElem.1 h i (i + 1) p2 p1 (by omega)
          rw [e1, e2] at this
          exact this
      simp only [riseOk, getD_of hx, inI, Bool.and_eq_true, decide_eq_true_eq]
      omega
  exact key _ (Nat.le_refl _)
theorem ref_in {l : List Pod} {a b : Int} (hE : mkErr l a b = 0) {d : Int} (hd : d ∈ refL l a b) : 0 ≤ d ∧ d ≤ 2000 ∧ a ≤ d ∧ d ≤ b := by
  unfold refL at hd
  rw [if_pos hE] at hd
  obtain ⟨o, ho, rfl⟩ := grd_mem _ (fun o ho => (offs_in hE o ho).1) hd
  obtain ⟨⟨i1, i2, i3⟩, ⟨j, j1, j2, j3, j4⟩, _⟩ := offs_in hE o ho
  have c1 : a ≤ oL o := by unfold oL; rw [j3]; omega
  have c2 : oH o ≤ b := by unfold oH; rw [j4]; omega
  omega
theorem ref_rounds {l : List Pod} {a b : Int} (hE : mkErr l a b = 0) : roundsB (refL l a b) = true := by
  have h1 := refL_len l a b
  have h2 : riseB 2001 (refL l a b) = true := rise_pair (by unfold refL; rw [if_pos hE]; exact grd_rise _ fun o ho => (offs_in hE o ho).1) (fun x hx => by have := ref_in hE hx; omega)
  simp [roundsB, h1, h2]
theorem ref_plan {l : List Pod} {a b : Int} (hE : mkErr l a b = 0) : plE l (refL l a b) = 0 ∧ plL l (refL l a b) = l.map fun p => cutI p (refL l a b) := by
  have hB := (mk_span hE).1
  have e : plE l (refL l a b) = 0 := by simp [plE, hB, ref_rounds hE]
  exact ⟨e, by unfold plL; rw [if_pos e]⟩
theorem offs_has {l : List Pod} {lo hi : Int} {j : Nat} {p : Pod} (hp : l[j]? = some p) (hne : oL ⟨p, lo, hi, (j : Int)⟩ ≤ oH ⟨p, lo, hi, (j : Int)⟩) : ∀ k, j < k → (⟨p, lo, hi, (j : Int)⟩ : Off) ∈ offsTo l lo hi k
  | 0, h => by omega
  | k + 1, h => by
    show _ ∈ offsTo l lo hi k ++ _
    rcases Nat.lt_or_ge j k with h1 | h1
    · exact List.mem_append_left _ (offs_has hp hne k h1)
    · have : j = k := by omega
      subst this
      rw [hp]
      refine List.mem_append_right _ ?_
      dsimp only
      rw [if_neg (by omega)]
      simp
/-- a pod whose window has a day of the market is cut by the rounds -/
theorem ref_hits {l : List Pod} {a b : Int} (hE : mkErr l a b = 0) {j : Nat} {p : Pod} (hp : l[j]? = some p) (hne : max (winL p) a ≤ min (winH p) b) : ∃ d ∈ refL l a b, winL p ≤ d ∧ d ≤ winH p := by
  have hj : j < l.length := (List.getElem?_eq_some_iff.1 hp).1
  have hm := offs_has (lo := a) (hi := b) hp hne l.length hj
  obtain ⟨d, d1, d2, d3⟩ := grd_hit l.length (fun o ho => (offs_in hE o ho).1) (offs_len _) _ hm
  refine ⟨d, by unfold refL; rw [if_pos hE]; exact d1, ?_, ?_⟩
  · have : winL p ≤ oL (⟨p, a, b, (j : Int)⟩ : Off) := by unfold oL; show winL p ≤ max (winL p) a; omega
    omega
  · have : oH (⟨p, a, b, (j : Int)⟩ : Off) ≤ winH p := by unfold oH; show min (winH p) b ≤ winH p; omega
    omega
theorem cut_step (p : Pod) : ∀ (R : List Int) (s : Int), (∀ d ∈ R, 0 ≤ d) → (0 ≤ R.foldl (stepC p) s → 0 ≤ s ∨ ∃ d ∈ R, winL p ≤ d ∧ d ≤ winH p) ∧ (0 ≤ s ∨ (∃ d ∈ R, winL p ≤ d ∧ d ≤ winH p) → 0 ≤ R.foldl (stepC p) s)
  | [], s, _ => ⟨fun h => .inl h, fun h => by
      rcases h with h | ⟨d, hd, _⟩
      · exact h
      · simp at hd⟩
  | x :: R, s, h => by
    obtain ⟨h1, h2⟩ := cut_step p R (stepC p s x) (fun d hd => h d (List.mem_cons_of_mem _ hd))
    have hx := h x (by simp)
    simp only [List.foldl_cons]
    by_cases hc : winL p ≤ x ∧ x ≤ winH p
    · have e : stepC p s x = x := by
        unfold stepC inI; simp [hc.1, hc.2]
      rw [e] at h1 h2 ⊢
      exact ⟨fun _ => .inr ⟨x, by simp, hc⟩, fun _ => h2 (.inl hx)⟩
    · have e : stepC p s x = s := by
        unfold stepC inI
        by_cases c1 : winL p ≤ x
        · have c2 : ¬ x ≤ winH p := fun c => hc ⟨c1, c⟩
          simp [c1, c2]
        · simp [c1]
      rw [e] at h1 h2 ⊢
      refine ⟨fun h3 => ?_, fun h3 => h2 ?_⟩
      · rcases h1 h3 with h4 | ⟨d, hd, h4⟩
        · exact .inl h4
        · exact .inr ⟨d, List.mem_cons_of_mem _ hd, h4⟩
      · rcases h3 with h3 | ⟨d, hd, h4⟩
        · exact .inl h3
        · rcases List.mem_cons.1 hd with rfl | hd
          · exact absurd h4 hc
          · exact .inr ⟨d, hd, h4⟩
theorem cut_iff {p : Pod} {R : List Int} (h : ∀ d ∈ R, 0 ≤ d) : 0 ≤ cutI p R ↔ ∃ d ∈ R, winL p ≤ d ∧ d ≤ winH p := by
  obtain ⟨h1, h2⟩ := cut_step p R (-1) h
  refine ⟨fun h3 => ?_, fun h3 => h2 (.inr h3)⟩
  rcases h1 h3 with h4 | h4
  · omega
  · exact h4
/-- a pod is cut by the rounds of a market if, and only if, its window has a day of the market -/
theorem ref_cut {l : List Pod} {a b : Int} (hE : mkErr l a b = 0) {j : Nat} {p : Pod} (hp : l[j]? = some p) : 0 ≤ cutI p (refL l a b) ↔ max (winL p) a ≤ min (winH p) b := by
  rw [cut_iff fun d hd => (ref_in hE hd).1]
  refine ⟨fun ⟨d, d1, d2, d3⟩ => ?_, fun h => ref_hits hE hp h⟩
  obtain ⟨_, _, r3, r4⟩ := ref_in hE d1
  omega
end Go.Proofs.YtipglpmelgmelaaDoor.walk

namespace Go.Proofs.YtipglpmelgmelaaDoor.walk
open Go Go.Sh
open known (partsC laidL noOv)
set_option maxRecDepth 100000
set_option linter.unusedSimpArgs false
/-! pods that hold longer -/
@[simp] theorem ia69_0 (w : AW) (a : Addr) : indexAddrA Tryd.prog w 69 (.pointer (some a)) (.int .i64 0) = .val (.pointer (some (a.add 0))) w := by kernel_rfl
@[simp] theorem ia69_1 (w : AW) (a : Addr) : indexAddrA Tryd.prog w 69 (.pointer (some a)) (.int .i64 1) = .val (.pointer (some (a.add 1))) w := by kernel_rfl
theorem rule42m {ov : Ov} (k : HasP ov 42 F42) (n : Int) {s : Int} (hs : s ≤ 2 ^ 60) (m : Nat) (w : AW) : (run Tryd.prog ov (m + 1)).call 42 [.int .i64 n, .int .i64 s] w .none = .ok (.ret (.int .i64 (wrapI n s))) w .none := k.call (by
  simp only [F42]
  rw [decide_eq_true hs]; rfl)
theorem rule35m {ov : Ov} (k : HasP ov 35 F35) (a b : Int) (m : Nat) (w : AW) : (run Tryd.prog ov (m + 1)).call 35 [.int .i64 a, .int .i64 b] w .none = .ok (.ret (.agg ⟨[.int .i64 a, .int .i64 b]⟩)) w .none := k.call rfl
def longP (n0 n1 : Int) (p : Pod) : Pod := if wrapI n0 2 = 1 then { p with hl := min 100 (p.hl + wrapI n1 30), hh := min 100 (p.hh + wrapI n1 30) } else p
theorem podC_sets (p : Pod) (a b : Int) : (podC p).take 4 ++ .int .i64 a :: .int .i64 b :: (podC p).drop 6 = podC { p with hl := a, hh := b } := by simp [podC]
structure In12 (w0 : AW) (Bx c5 : Nat) (n0 n1 : Int) (X : List Pod) (w : AW) : Prop where
  old : ∀ x, x < w0.next → x ≠ Bx → w.heap.get x = w0.heap.get x
  row : X ≠ [] → w.heap.get Bx = some (.cells (X.flatMap podC) 30 false)
  next : w0.next ≤ w.next
  lim : w.lim = w0.lim
set_option maxHeartbeats 2000000 in
theorem loop12a {ov : Ov} (m : Nat) (h42 : HasP ov 42 F42) (h35 : HasP ov 35 F35) (n0 n1 : Int) (l : List Pod) (h12 : l.length ≤ 12) (hB : ∀ (i : Nat) p, l[i]? = some p → podB p = true) (w0 : AW) (Bx c5 : Nat) (hlim : w0.lim ≤ Bx) (hBx : Bx < w0.next) (hc5 : c5 < w0.next) (hne : c5 ≠ Bx) (hbox : w0.heap.get c5 = some (.cells [.int .i64 n0, .int .i64 n1] 69 false)) (v0 v9 v12 : Value)
    (Q : Ex → Tm → AW → Prop) (t : Tm) (w : AW) (hw : In12 w0 Bx c5 n0 n1 l w)
    (t0 : tget t 0 = v0) (t9 : tget t 9 = v9) (t12 : tget t 12 = v12) (t5 : tget t 5 = .pointer (some ⟨c5, 0, none⟩)) (t11 : tget t 11 = .slice (some ⟨Bx, 0, none⟩) l.length l.length) (t13 : tget t 13 = .int .i64 0)
    (hQ : ∀ t w, In12 w0 Bx c5 n0 n1 (l.map (longP n0 n1)) w → tget t 0 = v0 → tget t 9 = v9 → tget t 12 = v12 → tget t 11 = .slice (some ⟨Bx, 0, none⟩) l.length l.length → Q (.exit 0) t w) :
    wp (exM Tryd.prog (run Tryd.prog ov (m + 1)) (.loop mc12_l0) t w) Q := by
  refine wp_rounds (fun i t w => (∃ X : List Pod, In12 w0 Bx c5 n0 n1 X w ∧ X.length = l.length ∧ ∀ d, X[d]? = if d < i then (l[d]?).map (longP n0 n1) else l[d]?) ∧ tget t 0 = v0 ∧ tget t 9 = v9 ∧ tget t 12 = v12 ∧ tget t 5 = .pointer (some ⟨c5, 0, none⟩) ∧ tget t 11 = .slice (some ⟨Bx, 0, none⟩) l.length l.length ∧ tget t 13 = .int .i64 (i : Nat) ∧ i ≤ l.length) 200 (by decide) ⟨⟨l, hw, rfl, fun d => by simp⟩, t0, t9, t12, t5, t11, t13, Nat.zero_le _⟩ ?_
  clear t0 t9 t12 t5 t11 t13 hw
  rintro i t w ⟨⟨X, hw, hXl, hX⟩, t0, t9, t12, t5, t11, t13, hi⟩
  by_cases hlt : i < l.length
  · obtain ⟨p, hp⟩ : ∃ p, l[i]? = some p := ⟨_, List.getElem?_eq_getElem hlt⟩
    have hXi : X[i]? = some p := by rw [hX i, if_neg (by omega), hp]
    have hXne : X ≠ [] := List.ne_nil_of_length_pos (by omega)
    have hrow := hw.row hXne
    have hdr := (flat_at podC_length X i p [] hXi).1
    rw [List.append_nil] at hdr
    have hset := flat_set podC_length X i (longP n0 n1 p) (by omega)
    have hfl : (X.flatMap podC).length = l.length * 8 := by rw [flat_length podC_length, hXl]
    obtain ⟨cs, hcs⟩ : ∃ cs, cs = X.flatMap podC := ⟨_, rfl⟩
    rw [← hcs] at hrow hdr hset hfl
    have hnx := hw.next
    have hlm := hw.lim
    have lw : w.lim ≤ w.next := by omega
    have lB : w.lim ≤ Bx := by omega
    have e1 : ¬ Bx = w.next := by omega
    have e2 : ¬ w.next = Bx := by omega
    have e3 : ¬ c5 = w.next := by omega
    have hb5 : w.heap.get c5 = some (.cells [.int .i64 n0, .int .i64 n1] 69 false) := by rw [hw.old c5 hc5 hne]; exact hbox
    have hia := fun w => ia22 w ⟨Bx, 0, none⟩ l.length l.length .i64 i hlt
    have hw1 : IntKind.wrap .i64 ((i : Int) + 1) = (i : Int) + 1 := wrap64_in (by omega) (by omega)
    have hf1 : i * 8 + 8 ≤ l.length * 8 := by omega
    have q2 := fun w => rule42m h42 n0 (s := 2) (by decide) m w
    have q30 := fun w => rule42m h42 n1 (s := 30) (by decide) m w
    have b30 := wrapI_bd (n := n1) (s := 30) (by omega)
    have k := pod_ok (hB i p hp)
    have k1 := k.h0; have k2 := k.h1; have k3 := k.h2
    have w2 : IntKind.wrap .i64 (p.hl + wrapI n1 30) = p.hl + wrapI n1 30 := wrap64_in (by omega) (by omega)
    have w3 : IntKind.wrap .i64 (p.hh + wrapI n1 30) = p.hh + wrapI n1 30 := wrap64_in (by omega) (by omega)
    have r35 := fun a b w => rule35m h35 a b m w
    have g4 : ∀ h, (podC p)[4]'h = .int .i64 p.hl := fun _ => rfl
    have g5 : ∀ h, (podC p)[5]'h = .int .i64 p.hh := fun _ => rfl
    have si := fun n k a => sameN_int n k a
    have hps := podC_sets p (min 100 (p.hl + wrapI n1 30)) (min 100 (p.hh + wrapI n1 30))
    have fin : ∀ w' : AW, w'.heap.get Bx = some (.cells ((X.set i (longP n0 n1 p)).flatMap podC) 30 false) → (∀ x, x < w.next → x ≠ Bx → w'.heap.get x = w.heap.get x) → w.next ≤ w'.next → w'.lim = w.lim → ∃ X' : List Pod, In12 w0 Bx c5 n0 n1 X' w' ∧ X'.length = l.length ∧ ∀ d, X'[d]? = if d < i + 1 then (l[d]?).map (longP n0 n1) else l[d]? := by
      intro w' a1 a2 a3 a4
      refine ⟨X.set i (longP n0 n1 p), ⟨fun x h1 h2 => by rw [a2 x (by omega) h2]; exact hw.old x h1 h2, fun _ => a1, by omega, by omega⟩, by rw [List.length_set]; exact hXl, fun d => ?_⟩
      by_cases e : d = i
      · subst e
        rw [List.getElem?_set_self (by omega), if_pos (by omega), hp]; rfl
      · rw [List.getElem?_set_ne (Ne.symm e), hX d]
        by_cases e' : d < i
        · rw [if_pos e', if_pos (by omega)]
        · rw [if_neg e', if_neg (by omega)]
    by_cases hc : wrapI n0 2 = 1
    · have hlp : longP n0 n1 p = { p with hl := min 100 (p.hl + wrapI n1 30), hh := min 100 (p.hh + wrapI n1 30) } := by unfold longP; rw [if_pos hc]
      rw [hlp] at hset
      simp [mc12_l0, t0, t5, t11, t13, hlt, hia, hrow, hdr, hfl, hf1, lw, e1, e2, e3, cellsOf_agg, hb5, q2, hc, q30, g4, g5, w2, w3, r35, si, least2, hps, lB, hset, hw1]
      refine ⟨by omega, fin _ ?_ (fun x h1 h2 => ?_) (by show w.next ≤ w.next + 1; omega) rfl, ?_⟩
      · simp [hlp]
      · simp [h2, show ¬ x = w.next by omega]
      · simp [t9, t12]; omega
    · have hlp : longP n0 n1 p = p := by unfold longP; rw [if_neg hc]
      rw [hlp] at hset
      simp [mc12_l0, t0, t5, t11, t13, hlt, hia, hrow, hdr, hfl, hf1, lw, e1, e2, e3, cellsOf_agg, hb5, q2, hc, lB, hset, hw1]
      refine ⟨by omega, fin _ ?_ (fun x h1 h2 => ?_) (by show w.next ≤ w.next + 1; omega) rfl, ?_⟩
      · simp [hlp]
      · simp [h2, show ¬ x = w.next by omega]
      · simp [t9, t12]; omega
  · have hi' : i = l.length := by omega
    subst hi'
    simp [mc12_l0, t11, t13]
    have e : X = l.map (longP n0 n1) := by
      apply List.ext_getElem?
      intro d
      rw [hX d, List.getElem?_map]
      by_cases hd : d < l.length
      · rw [if_pos hd]
      · rw [if_neg hd, List.getElem?_eq_none (by omega)]; rfl
    exact hQ _ _ (e ▸ hw) (by simp [t0]) (by simp [t9]) (by simp [t12]) (by simp [t11])
end Go.Proofs.YtipglpmelgmelaaDoor.walk

namespace Go.Proofs.YtipglpmelgmelaaDoor.walk
open Go Go.Sh
open known (partsC laidL noOv)
set_option maxRecDepth 100000
set_option linter.unusedSimpArgs false
def wideA (n0 n1 a : Int) : Int := if wrapI n0 2 = 0 then max 0 (a - wrapI n1 30) else a
def wideB (n0 n1 b : Int) : Int := if wrapI n0 2 = 0 then min 2000 (b + wrapI n1 50) else b
theorem long_tag (n0 n1 : Int) (p : Pod) : (longP n0 n1 p).tag = p.tag ∧ (longP n0 n1 p).born = p.born ∧ (longP n0 n1 p).rl = p.rl ∧ (longP n0 n1 p).rh = p.rh := by
  unfold longP; split <;> exact ⟨rfl, rfl, rfl, rfl⟩
theorem long_ok {n0 n1 : Int} {p : Pod} (h : podB p = true) : podB (longP n0 n1 p) = true ∧ p.hl ≤ (longP n0 n1 p).hl := by
  have b30 := (wrapI_bd (n := n1) (s := 30) (by omega)).1
  have k := pod_ok h
  have k0 := k.h0; have k1 := k.h1; have k2 := k.h2
  unfold longP
  split
  · simp only [podB, Bool.and_eq_true] at h ⊢
    obtain ⟨h1, h2, h3, h4, h5⟩ := h
    refine ⟨⟨h1, h2, h3, ?_, h5⟩, by omega⟩
    simp only [spanI, Bool.and_eq_true, decide_eq_true_eq]
    omega
  · exact ⟨h, Int.le_refl _⟩
theorem long_pods {n0 n1 : Int} {l : List Pod} (h : podsB l = true) : podsB (l.map (longP n0 n1)) = true := by
  have hall : ∀ (i : Nat) p, l[i]? = some p → podB p = true := fun i p hp => pods_all h hp
  simp only [podsB, Bool.and_eq_true, decide_eq_true_eq, List.length_map] at h ⊢
  refine ⟨h.1, ?_⟩
  have key : ∀ i, i ≤ l.length → chkB l i = true → chkB (l.map (longP n0 n1)) i = true := by
    intro i
    induction i with
    | zero => intro _ _; rfl
    | succ i ih =>
      intro hi hc
      obtain ⟨p, hp⟩ : ∃ p, l[i]? = some p := ⟨_, List.getElem?_eq_getElem (by omega)⟩
      have hq : (l.map (longP n0 n1))[i]? = some (longP n0 n1 p) := by rw [List.getElem?_map, hp]; rfl
      rw [chk_snoc hp, Bool.and_eq_true, Bool.and_eq_true] at hc
      rw [chk_snoc hq, ih (by omega) hc.1, (long_ok hc.2.1).1, (long_tag n0 n1 p).1]
      have ht : tagsTo (l.map (longP n0 n1)) i = tagsTo l i := by
        unfold tagsTo
        rw [← List.map_take, List.map_map]
        apply List.map_congr_left
        intro x _
        exact (long_tag n0 n1 x).1
      rw [ht, hc.2.2]; rfl
  exact key _ (Nat.le_refl _) h.2
theorem long_err {n0 n1 : Int} {l : List Pod} {a b : Int} (hE : mkErr l a b = 0) : mkErr (l.map (longP n0 n1)) (wideA n0 n1 a) (wideB n0 n1 b) = 0 := by
  obtain ⟨hB, h1, h2, h3⟩ := mk_span hE
  have b30 := (wrapI_bd (n := n1) (s := 30) (by omega)).1
  have b50 := (wrapI_bd (n := n1) (s := 50) (by omega)).1
  have hs : spanI (wideA n0 n1 a) (wideB n0 n1 b) 0 2000 = true := by
    simp only [spanI, Bool.and_eq_true, decide_eq_true_eq]
    unfold wideA wideB
    split <;> omega
  simp [mkErr, long_pods hB, hs]
theorem long_cut {n0 n1 : Int} {l : List Pod} {a b : Int} (hE : mkErr l a b = 0) {j : Nat} {p : Pod} (hp : l[j]? = some p) (h : 0 ≤ cutI p (refL l a b)) : 0 ≤ cutI (longP n0 n1 p) (refL (l.map (longP n0 n1)) (wideA n0 n1 a) (wideB n0 n1 b)) := by
  obtain ⟨hB, h1, h2, h3⟩ := mk_span hE
  have hpB := pods_all hB hp
  obtain ⟨hq, hh⟩ := long_ok (n0 := n0) (n1 := n1) hpB
  obtain ⟨t1, t2, t3, t4⟩ := long_tag n0 n1 p
  have hq' : (l.map (longP n0 n1))[j]? = some (longP n0 n1 p) := by rw [List.getElem?_map, hp]; rfl
  rw [ref_cut (long_err hE) hq']
  rw [ref_cut hE hp] at h
  obtain ⟨e1, e2⟩ := win_eq hpB
  obtain ⟨e3, e4⟩ := win_eq hq
  have b30 := (wrapI_bd (n := n1) (s := 30) (by omega)).1
  have b50 := (wrapI_bd (n := n1) (s := 50) (by omega)).1
  have c1 : wideA n0 n1 a ≤ a := by unfold wideA; split <;> omega
  have c2 : b ≤ wideB n0 n1 b := by unfold wideB; split <;> omega
  rw [e3, e4, t2, t3, t4]
  rw [e1, e2] at h
  omega
theorem loop12b {ov : Ov} (l : List Pod) (h12 : l.length ≤ 12) (P R : List Int) (hP : P.length = l.length) (hR : R.length = l.length) (hok : ∀ (i : Nat) x y, P[i]? = some x → R[i]? = some y → 0 ≤ x → 0 ≤ y) (v p9 r16 : Value) (w : AW) (hv : PodsV w v l) (hp : RowsV intC w p9 P) (hr : RowsV intC w r16 R) (m : Nat)
    (Q : Ex → Tm → AW → Prop) (t : Tm) (t0 : tget t 0 = v) (t9 : tget t 9 = p9) (t16 : tget t 16 = r16) (t17 : tget t 17 = .int .i64 0)
    (hQ : ∀ t, Q (.exit 2) t w) : wp (exM Tryd.prog (run Tryd.prog ov m) (.loop mc12_l1) t w) Q := by
  have hlv := len22V hv
  refine wp_rounds (fun i t w' => w' = w ∧ tget t 0 = v ∧ tget t 9 = p9 ∧ tget t 16 = r16 ∧ tget t 17 = .int .i64 (i : Nat) ∧ i ≤ l.length) 200 (by decide) ⟨rfl, t0, t9, t16, t17, Nat.zero_le _⟩ ?_
  clear t0 t9 t16 t17
  rintro i t w' ⟨rfl, t0, t9, t16, t17, hi⟩
  by_cases hlt : i < l.length
  · obtain ⟨x, hx⟩ : ∃ x, P[i]? = some x := ⟨_, List.getElem?_eq_getElem (by omega)⟩
    obtain ⟨y, hy⟩ : ∃ x, R[i]? = some x := ⟨_, List.getElem?_eq_getElem (by omega)⟩
    obtain ⟨b, off, sq, c, rfl, hra⟩ := hp.at_ i (by omega)
    obtain ⟨b', off', sq', c', rfl, hrb⟩ := hr.at_ i (by omega)
    have hla := hra.int hx
    have hlb := hrb.int hy
    have hia := fun w => ia33 w ⟨b, off, sq⟩ P.length c .i64 i (by omega)
    have hib := fun w => ia33 w ⟨b', off', sq'⟩ R.length c' .i64 i (by omega)
    have hw1 : IntKind.wrap .i64 ((i : Int) + 1) = (i : Int) + 1 := wrap64_in (by omega) (by omega)
    by_cases hc : 0 ≤ x
    · have hy0 := hok i x y hx hy hc
      have hy1 : ¬ y < 0 := by omega
      simp [mc12_l1, t0, t9, t16, t17, hlt, hlv, hia, hib, hla, hlb, hc, hy1, hw1]
      exact ⟨by omega, hlt⟩
    · simp [mc12_l1, t0, t9, t16, t17, hlt, hlv, hia, hib, hla, hlb, hc, hw1]
      exact ⟨by omega, hlt⟩
  · have hi' : i = l.length := by omega
    subst hi'
    simp [mc12_l1, t0, t17, hlv]
    exact hQ _
end Go.Proofs.YtipglpmelgmelaaDoor.walk

namespace Go.Proofs.YtipglpmelgmelaaDoor.walk
open Go Go.Sh
open known (partsC laidL noOv)
set_option maxRecDepth 100000
set_option linter.unusedSimpArgs false
noncomputable def mc12_r1 : MC := .seq (.seq (.ops [⟨false, none, some 13, 3, .assign (.const (.int .i64 0))⟩]) (.block 0 (.loop mc12_l0))) (.seq (.ops [⟨false, none, some 102, 22, .move (.tmp 11)⟩, ⟨false, none, some 103, 26, .load 26 (.tmp 12)⟩, ⟨false, none, some 104, 45, .call ⟨.value (.func 23), #[.tmp 102, .tmp 103], #[22, 26]⟩⟩, ⟨false, none, some 101, 45, .move (.tmp 104)⟩, ⟨false, none, some 105, 33, .extract (.tmp 101) 0⟩, ⟨false, none, some 106, 23, .extract (.tmp 101) 1⟩, ⟨false, none, some 15, 33, .assign (.tmp 105)⟩, ⟨false, none, some 8, 23, .assign (.tmp 106)⟩]) (.seq (.ops [⟨false, none, some 108, 22, .move (.tmp 11)⟩, ⟨false, none, some 109, 33, .move (.tmp 15)⟩, ⟨false, none, some 110, 45, .call ⟨.value (.func 29), #[.tmp 108, .tmp 109], #[22, 33]⟩⟩, ⟨false, none, some 107, 45, .move (.tmp 110)⟩, ⟨false, none, some 111, 33, .extract (.tmp 107) 0⟩, ⟨false, none, some 112, 23, .extract (.tmp 107) 1⟩, ⟨false, none, some 16, 33, .assign (.tmp 111)⟩, ⟨false, none, some 10, 23, .assign (.tmp 112)⟩]) (.seq (.seq (.ops [⟨false, none, some 113, 23, .move (.tmp 8)⟩, ⟨false, none, some 114, 4, .binOp .neq 23 (.tmp 113) (.const (.int .i64 0)) 23⟩, ⟨false, none, some 115, 4, .move (.tmp 114)⟩, ⟨false, some (115, false), some 116, 23, .move (.tmp 10)⟩, ⟨false, some (115, false), some 117, 4, .binOp .neq 23 (.tmp 116) (.const (.int .i64 0)) 23⟩, ⟨false, none, some 118, 4, .pick (.tmp 115) (.const (.bool true)) (.tmp 117)⟩, ⟨false, none, some 119, 4, .move (.tmp 118)⟩, ⟨false, some (119, false), some 120, 33, .move (.tmp 9)⟩, ⟨false, some (119, false), some 121, 3, .call ⟨.builtin .len, #[.tmp 120], #[33]⟩⟩, ⟨false, some (119, false), some 122, 22, .move (.tmp 0)⟩, ⟨false, some (119, false), some 123, 3, .call ⟨.builtin .len, #[.tmp 122], #[22]⟩⟩, ⟨false, some (119, false), some 124, 4, .binOp .neq 3 (.tmp 121) (.tmp 123) 3⟩, ⟨false, none, some 125, 4, .pick (.tmp 119) (.const (.bool true)) (.tmp 124)⟩, ⟨false, none, some 126, 4, .move (.tmp 125)⟩, ⟨false, some (126, false), some 127, 33, .move (.tmp 16)⟩, ⟨false, some (126, false), some 128, 3, .call ⟨.builtin .len, #[.tmp 127], #[33]⟩⟩, ⟨false, some (126, false), some 129, 22, .move (.tmp 0)⟩, ⟨false, some (126, false), some 130, 3, .call ⟨.builtin .len, #[.tmp 129], #[22]⟩⟩, ⟨false, some (126, false), some 131, 4, .binOp .neq 3 (.tmp 128) (.tmp 130) 3⟩, ⟨false, none, some 132, 4, .pick (.tmp 126) (.const (.bool true)) (.tmp 131)⟩]) (.cond (.tmp 132) (.seq (.ops [⟨false, none, some 6, 4, .assign (.const (.bool false))⟩]) (.ret)) (.skip))) (.seq (.seq (.ops [⟨false, none, some 17, 3, .assign (.const (.int .i64 0))⟩]) (.block 2 (.loop mc12_l1))) (.seq (.ops [⟨false, none, some 151, 4, .call ⟨.value (.func 18), #[], #[]⟩⟩, ⟨false, none, some 6, 4, .assign (.tmp 151)⟩]) (.ret))))))
theorem mc12_eq : mc12 = .seq (.ops [⟨false, none, some 4, 0, .box 26 (.tmp 1)⟩, ⟨false, none, some 5, 0, .box 69 (.tmp 2)⟩, ⟨false, none, some 6, 4, .assign (.const (.bool false))⟩]) (.seq (.ops [⟨false, none, some 19, 22, .move (.tmp 0)⟩, ⟨false, none, some 20, 26, .load 26 (.tmp 4)⟩, ⟨false, none, some 21, 45, .call ⟨.value (.func 23), #[.tmp 19, .tmp 20], #[22, 26]⟩⟩, ⟨false, none, some 18, 45, .move (.tmp 21)⟩, ⟨false, none, some 22, 33, .extract (.tmp 18) 0⟩, ⟨false, none, some 23, 23, .extract (.tmp 18) 1⟩, ⟨false, none, some 7, 33, .assign (.tmp 22)⟩, ⟨false, none, some 8, 23, .assign (.tmp 23)⟩]) (.seq (.ops [⟨false, none, some 25, 22, .move (.tmp 0)⟩, ⟨false, none, some 26, 33, .move (.tmp 7)⟩, ⟨false, none, some 27, 45, .call ⟨.value (.func 29), #[.tmp 25, .tmp 26], #[22, 33]⟩⟩, ⟨false, none, some 24, 45, .move (.tmp 27)⟩, ⟨false, none, some 28, 33, .extract (.tmp 24) 0⟩, ⟨false, none, some 29, 23, .extract (.tmp 24) 1⟩, ⟨false, none, some 9, 33, .assign (.tmp 28)⟩, ⟨false, none, some 10, 23, .assign (.tmp 29)⟩]) (.seq (.seq (.ops [⟨false, none, some 30, 23, .move (.tmp 8)⟩, ⟨false, none, some 31, 4, .binOp .neq 23 (.tmp 30) (.const (.int .i64 0)) 23⟩, ⟨false, none, some 32, 4, .move (.tmp 31)⟩, ⟨false, some (32, false), some 33, 23, .move (.tmp 10)⟩, ⟨false, some (32, false), some 34, 4, .binOp .neq 23 (.tmp 33) (.const (.int .i64 0)) 23⟩, ⟨false, none, some 35, 4, .pick (.tmp 32) (.const (.bool true)) (.tmp 34)⟩, ⟨false, none, some 36, 4, .move (.tmp 35)⟩, ⟨false, some (36, false), some 37, 22, .move (.tmp 0)⟩, ⟨false, some (36, false), some 38, 3, .call ⟨.builtin .len, #[.tmp 37], #[22]⟩⟩, ⟨false, some (36, false), some 39, 4, .binOp .gtr 3 (.tmp 38) (.const (.int .i64 12)) 3⟩, ⟨false, none, some 40, 4, .pick (.tmp 36) (.const (.bool true)) (.tmp 39)⟩]) (.cond (.tmp 40) (.seq (.ops [⟨false, none, some 41, 4, .call ⟨.value (.func 18), #[], #[]⟩⟩, ⟨false, none, some 6, 4, .assign (.tmp 41)⟩]) (.ret)) (.skip))) (.seq (.seq (.ops [⟨true, none, some 42, 22, .buildSlice 22 0 #[]⟩]) (.seq (.ops [⟨true, none, some 43, 22, .move (.tmp 0)⟩]) (.seq (.ops [⟨true, none, some 45, 26, .load 26 (.tmp 4)⟩]) (.seq (.ops [⟨true, none, some 12, 0, .alloc 26⟩]) (.seq (.chk [⟨true, none, some 45, 26, .load 26 (.tmp 4)⟩]) (.seq (.ops [⟨false, none, some 44, 22, .call ⟨.builtin .append, #[.tmp 42, .tmp 43], #[22, 22]⟩⟩]) (.seq (.ops [⟨true, none, some 11, 22, .assign (.tmp 44)⟩]) (.seq (.chk [⟨true, none, some 45, 26, .load 26 (.tmp 4)⟩]) (.seq (.ops [⟨false, none, none, 0, .store 26 (.tmp 12) (.tmp 45)⟩]) (.chk [])))))))))) (.seq (.seq (.ops [⟨false, none, some 46, 0, .indexAddr 69 (.tmp 5) (.const (.int .i64 0))⟩, ⟨false, none, some 47, 3, .load 3 (.tmp 46)⟩, ⟨false, none, some 48, 3, .call ⟨.value (.func 42), #[.tmp 47, .const (.int .i64 2)], #[3, 3]⟩⟩, ⟨false, none, some 49, 4, .binOp .eql 3 (.tmp 48) (.const (.int .i64 0)) 3⟩]) (.cond (.tmp 49) (.seq (.ops [⟨true, none, some 50, 0, .fieldAddr 26 (.tmp 4) 0⟩]) (.seq (.ops [⟨true, none, some 51, 3, .load 3 (.tmp 50)⟩]) (.seq (.ops [⟨true, none, some 52, 0, .indexAddr 69 (.tmp 5) (.const (.int .i64 1))⟩]) (.seq (.ops [⟨true, none, some 53, 3, .load 3 (.tmp 52)⟩]) (.seq (.ops [⟨true, none, some 57, 0, .fieldAddr 26 (.tmp 4) 1⟩]) (.seq (.ops [⟨true, none, some 58, 3, .load 3 (.tmp 57)⟩]) (.seq (.ops [⟨true, none, some 59, 0, .indexAddr 69 (.tmp 5) (.const (.int .i64 1))⟩]) (.seq (.ops [⟨true, none, some 60, 3, .load 3 (.tmp 59)⟩]) (.seq (.ops [⟨false, none, some 54, 3, .call ⟨.value (.func 42), #[.tmp 53, .const (.int .i64 30)], #[3, 3]⟩⟩]) (.seq (.ops [⟨true, none, some 55, 3, .binOp .sub 3 (.tmp 51) (.tmp 54) 3⟩]) (.seq (.ops [⟨true, none, some 56, 3, .call ⟨.builtin .max, #[.const (.int .i64 0), .tmp 55], #[3, 3]⟩⟩]) (.seq (.chk [⟨true, none, some 60, 3, .load 3 (.tmp 59)⟩, ⟨true, none, some 58, 3, .load 3 (.tmp 57)⟩, ⟨true, none, some 51, 3, .load 3 (.tmp 50)⟩]) (.seq (.ops [⟨false, none, some 61, 3, .call ⟨.value (.func 42), #[.tmp 60, .const (.int .i64 50)], #[3, 3]⟩⟩]) (.seq (.ops [⟨true, none, some 62, 3, .binOp .add 3 (.tmp 58) (.tmp 61) 3⟩]) (.seq (.ops [⟨true, none, some 63, 3, .call ⟨.builtin .min, #[.const (.int .i64 2000), .tmp 62], #[3, 3]⟩⟩]) (.seq (.chk [⟨true, none, some 58, 3, .load 3 (.tmp 57)⟩, ⟨true, none, some 51, 3, .load 3 (.tmp 50)⟩]) (.seq (.ops [⟨false, none, some 64, 26, .call ⟨.value (.func 35), #[.tmp 56, .tmp 63], #[3, 3]⟩⟩]) (.seq (.ops [⟨false, none, none, 0, .store 26 (.tmp 12) (.tmp 64)⟩]) (.chk []))))))))))))))))))) (.skip))) mc12_r1))))) := rfl
theorem src_rowsP {α : Type} {f : α → List Value} {m : Nat} (hf : ∀ a, (f a).length = m) {w : AW} {v : Value} {l : List α} (h : RowsV f w v l) (h0 : 0 < l.length * m) : srcCells w m v = some (l.flatMap f) := by
  rcases h with ⟨rfl, _⟩ | ⟨b, off, sq, c, rfl, ⟨pre, rest, e, ro, h1, h2⟩, h3⟩
  · simp at h0
  · show (bif Nat.beq (l.length * m) 0 then some [] else rd w b off (l.length * m)) = _
    have e1 : Nat.beq (l.length * m) 0 = false := by rw [← Bool.not_eq_true]; intro h; have := Nat.eq_of_beq_eq_true h; omega
    have e2 := flat_length hf l
    rw [e1, cond_false, rd_eq, h1, rdO_cells, if_pos (by rw [List.length_append, List.length_append, h2, e2]; omega), ← h2, List.drop_left, ← e2, List.take_left]
theorem isList22r : isList Tryd.prog 22 = true := by kernel_rfl
theorem elem22r : elemA Tryd.prog 22 = some 30 := by kernel_rfl
theorem sz30r : szOf Tryd.prog 30 = some 8 := by kernel_rfl
theorem small30r : smallT Tryd.prog 30 = true := by kernel_rfl
theorem pods_rows {w : AW} {v : Value} {l : List Pod} (h : PodsV w v l) : RowsV podC w v l := by
  rcases h with ⟨a, c, rfl, rfl⟩ | ⟨b, sq, c, rfl, ⟨rest, e, ro, hg⟩, hlt⟩
  · exact .inl ⟨rfl, a, c, rfl⟩
  · exact .inr ⟨b, 0, sq, c, rfl, ⟨[], rest, e, ro, by simpa [podsC] using hg, rfl⟩, hlt⟩
theorem clone22 {v : Value} {l : List Pod} (h12 : l.length ≤ 12) (H : T AObj) (n lm : Nat) (hl : lm ≤ n) (hv : PodsV ⟨H, n, lm⟩ v l) :
    ∃ Bx H3 n3, append1 Tryd.prog ⟨(H.put n (some (.cells [] 30 false))).put (n + 1) (some (.cells [.int .i64 0, .int .i64 0] 26 false)), n + 2, lm⟩ [22, 22] [.slice (some ⟨n, 0, none⟩) 0 0, v] = .val (.slice (some ⟨Bx, 0, none⟩) l.length l.length) ⟨H3, n3, lm⟩ ∧ (l ≠ [] → H3.get Bx = some (.cells (l.flatMap podC) 30 false)) ∧ (∀ x, x < n → H3.get x = H.get x) ∧ H3.get (n + 1) = some (.cells [.int .i64 0, .int .i64 0] 26 false) ∧ n ≤ Bx ∧ Bx ≠ n + 1 ∧ Bx < n3 ∧ n + 2 ≤ n3 := by
  have hrv : RowsV podC ⟨(H.put n (some (.cells [] 30 false))).put (n + 1) (some (.cells [.int .i64 0, .int .i64 0] 26 false)), n + 2, lm⟩ v l := (pods_rows hv).old (fun x (hx : x < n) => by show ((H.put n _).put (n + 1) _).get x = _; rw [get_put, if_neg (by omega), get_put, if_neg (by omega)]) (by show n ≤ n + 2; omega)
  obtain ⟨va, vc, hvl⟩ := hrv.len
  by_cases hne : l = []
  · subst hne
    have hs : srcCells ⟨(H.put n (some (.cells [] 30 false))).put (n + 1) (some (.cells [.int .i64 0, .int .i64 0] 26 false)), n + 2, lm⟩ 8 v = some [] := by
      rw [hvl]; cases va <;> rfl
    refine ⟨n, (H.put n (some (.cells [] 30 false))).put (n + 1) (some (.cells [.int .i64 0, .int .i64 0] 26 false)), n + 2, ?_, fun h => absurd rfl h, fun x hx => ?_, ?_, Nat.le_refl _, by omega, by omega, Nat.le_refl _⟩
    · rw [append_eq isList22r elem22r sz30r small30r, hs, hvl]; rfl
    · rw [get_put, if_neg (by omega), get_put, if_neg (by omega)]
    · rw [get_put, if_pos rfl]
  · have hpos : 0 < l.length := List.length_pos_iff.2 hne
    have happ := append_full isList22r elem22r sz30r small30r (w := ⟨(H.put n (some (.cells [] 30 false))).put (n + 1) (some (.cells [.int .i64 0, .int .i64 0] 26 false)), n + 2, lm⟩) (B := n) (n := 0) (m := l.length) (c := []) (new := l.flatMap podC) (x := v) (by rw [hvl]; rfl) (src_rowsP podC_length hrv (by omega)) (flat_length podC_length l) (flat_singles podC_singles l) hpos (by omega) (by show ((H.put n _).put (n + 1) _).get n = _; rw [get_put, if_neg (by omega), get_put, if_pos rfl]) rfl (by show lm ≤ n; exact hl)
    simp only [Nat.zero_add, List.nil_append] at happ
    refine ⟨n + 2, _, _, happ, fun _ => ?_, fun x hx => ?_, ?_, by omega, by omega, Nat.lt_succ_self _, by show n + 2 ≤ n + 2 + 1; omega⟩
    · rw [get_put, if_pos rfl]
    · rw [get_put, if_neg (by omega), get_put, if_neg (by omega), get_put, if_neg (by omega), get_put, if_neg (by omega)]
    · rw [get_put, if_neg (by omega), get_put, if_neg (by omega), get_put, if_pos rfl]
end Go.Proofs.YtipglpmelgmelaaDoor.walk

namespace Go.Proofs.YtipglpmelgmelaaDoor.walk
open Go Go.Sh
open known (partsC laidL noOv)
set_option maxRecDepth 100000
set_option linter.unusedSimpArgs false
set_option maxHeartbeats 4000000 in
theorem post12 {ov : Ov} (ho23 : ∀ args w, ov 23 args w = none) (ho29 : ∀ args w, ov 29 args w = none) (H : Ho60 ov) (h14 : HasP ov 14 F14) (h65 : HasP ov 65 F65) (h66 : HasP ov 66 F66) (h42 : HasP ov 42 F42) (h35 : HasP ov 35 F35) (hW : HasW ov)
    (l : List Pod) (a b n0 n1 : Int) (hE : mkErr l a b = 0) (v z1 : Value) (we : AW) (hPW : PartsW we) (hv : PodsV we v l) (hz : RowsV intC we z1 (l.map fun p => cutI p (refL l a b))) (Bx c5 c12 : Nat) (w : AW) (hold : ∀ x, x < we.next → w.heap.get x = we.heap.get x) (hBx : we.next ≤ Bx) (hBw : Bx < w.next) (hlim : w.lim ≤ we.next) (hc5 : c5 < w.next) (hn5 : c5 ≠ Bx) (hb5 : w.heap.get c5 = some (.cells [.int .i64 n0, .int .i64 n1] 69 false)) (hc12 : c12 < w.next) (hn12 : c12 ≠ Bx) (hb12 : w.heap.get c12 = some (.cells [.int .i64 (wideA n0 n1 a), .int .i64 (wideB n0 n1 b)] 26 false)) (hrow : l ≠ [] → w.heap.get Bx = some (.cells (l.flatMap podC) 30 false))
    (t : Tm) (t0 : tget t 0 = v) (t9 : tget t 9 = z1) (t12 : tget t 12 = .pointer (some ⟨c12, 0, none⟩)) (t5 : tget t 5 = .pointer (some ⟨c5, 0, none⟩)) (t11 : tget t 11 = .slice (some ⟨Bx, 0, none⟩) l.length l.length)
    (Q : Ex → Tm → AW → Prop) (hQ : ∀ t w, tget t 6 = .bool true → Q .ret t w) : wp (exM Tryd.prog (run Tryd.prog ov 7) mc12_r1 t w) Q := by
  obtain ⟨hB, e1, e2, e3⟩ := mk_span hE
  have h12 := podsB_len hB
  simp [mc12_r1]
  refine wp_seqX (wp_blockX (loop12a 6 h42 h35 n0 n1 l h12 (fun i p hp => pods_all hB hp) w Bx c5 (by omega) hBw hc5 hn5 hb5 v z1 (.pointer (some ⟨c12, 0, none⟩)) _ _ _ ⟨fun _ _ _ => rfl, hrow, Nat.le_refl _, rfl⟩ ?_ ?_ ?_ ?_ ?_ ?_ ?_))
  case _ => simp [t0]
  case _ => simp [t9]
  case _ => simp [t12]
  case _ => simp [t5]
  case _ => simp [t11]
  case _ => simp
  case _ =>
    intro t w5 hw s0 s9 s12 s11
    have hnx := hw.next
    have hlm := hw.lim
    have hE' := long_err (n0 := n0) (n1 := n1) hE
    have hb12' : w5.heap.get c12 = some (.cells [.int .i64 (wideA n0 n1 a), .int .i64 (wideB n0 n1 b)] 26 false) := by rw [hw.old c12 hc12 hn12]; exact hb12
    have hx : PodsV w5 (.slice (some ⟨Bx, 0, none⟩) l.length l.length) (l.map (longP n0 n1)) := by
      by_cases hne : l = []
      · subst hne; exact .inl ⟨_, _, rfl, rfl⟩
      · have hr := hw.row (by simpa using hne)
        exact .inr ⟨Bx, none, l.length, by rw [List.length_map], ⟨⟨[], 30, false, by simpa [podsC] using hr⟩, by omega⟩⟩
    have o5 : Old we.next we.heap w5.heap := fun x hx => by rw [hw.old x (by omega) (by omega)]; exact hold x hx
    obtain ⟨x6, w6, c6, y6, rfl, p1, p2, p3, p4⟩ := call23 0 ho23 H (l.map (longP n0 n1)) (wideA n0 n1 a) (wideB n0 n1 b) _ w5 (by omega) hx
    have o6 : Old we.next we.heap w6.heap := o5.trans p2 (by omega)
    obtain ⟨x7, w7, c7, z2, rfl, q1, q2, q3, q4⟩ := call29 5 ho29 h14 h65 h66 (l.map (longP n0 n1)) (refL (l.map (longP n0 n1)) (wideA n0 n1 a) (wideB n0 n1 b)) (.slice (some ⟨Bx, 0, none⟩) l.length l.length) y6 w6 (by omega) (hx.old p2 p3) p1
    have o7 : Old we.next we.heap w7.heap := o6.trans q2 (by omega)
    obtain ⟨f1, f2⟩ := ref_plan hE'
    rw [f2] at q1
    rw [hE'] at c6
    rw [f1] at c7
    have hv7 : PodsV w7 v l := hv.old o7 (by omega)
    have hz7 : RowsV intC w7 z1 (l.map fun p => cutI p (refL l a b)) := hz.old o7 (by omega)
    have hlv := len22V hv
    have hl1 := len33V hz
    have hl2 := len33V q1
    simp only [List.length_map] at hl1 hl2
    have nj6 : notJunk y6 = some y6 := by obtain ⟨x, y, e⟩ := p1.len; rw [e]; rfl
    have nj7 : notJunk z2 = some z2 := by obtain ⟨x, y, e⟩ := q1.len; rw [e]; rfl
    have kW := ruleWn hW (hPW.old o7 (by omega)).parts 6
    simp [s0, s9, s11, s12, hb12', c6, c7, nj6, nj7, hlv, hl1, hl2]
    refine wp_seqX (wp_blockX (loop12b l h12 (l.map fun p => cutI p (refL l a b)) ((l.map (longP n0 n1)).map fun p => cutI p (refL (l.map (longP n0 n1)) (wideA n0 n1 a) (wideB n0 n1 b))) (by simp) (by simp) ?_ v z1 z2 w7 hv7 hz7 q1 7 _ _ ?_ ?_ ?_ ?_ ?_))
    case _ =>
      intro i x y hx hy h0
      rw [List.getElem?_map] at hx hy
      rw [List.getElem?_map] at hy
      cases hp : l[i]? with
      | none => rw [hp] at hx; simp at hx
      | some p =>
        rw [hp] at hx hy
        simp at hx hy
        subst hx hy
        exact long_cut hE hp h0
    case _ => simp [s0]
    case _ => simp [s9]
    case _ => simp
    case _ => simp
    case _ =>
      intro t
      simp [kW]
      exact hQ _ _ (by simp)
end Go.Proofs.YtipglpmelgmelaaDoor.walk

namespace Go.Proofs.YtipglpmelgmelaaDoor.walk
open Go Go.Sh
open known (partsC laidL noOv)
set_option maxRecDepth 100000
set_option linter.unusedSimpArgs false
set_option maxHeartbeats 4000000 in
theorem run12 {ov : Ov} (ho : ∀ args w, ov 12 args w = none) (ho23 : ∀ args w, ov 23 args w = none) (ho29 : ∀ args w, ov 29 args w = none) (H : Ho60 ov) (h14 : HasP ov 14 F14) (h65 : HasP ov 65 F65) (h66 : HasP ov 66 F66) (h42 : HasP ov 42 F42) (h35 : HasP ov 35 F35) (hW : HasW ov)
    (l : List Pod) (a b n0 n1 : Int) (v : Value) (w : AW) (hl : w.lim = w.next) (hPW : PartsW w) (hv : PodsV w v l) :
    ∃ x w', (run Tryd.prog ov 8).call 12 [v, .agg ⟨[.int .i64 a, .int .i64 b]⟩, .agg ⟨[.int .i64 n0, .int .i64 n1]⟩] w .none = .ok (.ret x) w' .none ∧ x = .bool true := by
  refine call_wp text12 (by simp) (ho _ _) ?_
  obtain ⟨H1, hH1⟩ : ∃ H1, H1 = (w.heap.put w.next (some (.cells [.int .i64 a, .int .i64 b] 26 false))).put (w.next + 1) (some (.cells [.int .i64 n0, .int .i64 n1] 69 false)) := ⟨_, rfl⟩
  have o1 : Old w.next w.heap H1 := by rw [hH1]; exact ((Old.refl _ _).put (Nat.le_refl _)).put (by omega)
  have g4 : H1.get w.next = some (.cells [.int .i64 a, .int .i64 b] 26 false) := by rw [hH1, get_put, if_neg (by omega), get_put, if_pos rfl]
  have g5 : H1.get (w.next + 1) = some (.cells [.int .i64 n0, .int .i64 n1] 69 false) := by rw [hH1, get_put, if_pos rfl]
  have hv1 : PodsV ⟨H1, w.next + 1 + 1, w.lim⟩ v l := hv.old o1 (by show w.next ≤ w.next + 1 + 1; omega)
  obtain ⟨x1, w1, c1, y1, rfl, q1, q2, q3, q4⟩ := call23 0 ho23 H l a b v _ (by show w.lim ≤ w.next + 1 + 1; omega) hv1
  have q3' : w.next + 1 + 1 ≤ w1.next := q3
  have q4' : w1.lim = w.lim := q4
  have o2 : Old w.next w.heap w1.heap := o1.trans q2 (by show w.next ≤ w.next + 1 + 1; omega)
  have k4 : w1.heap.get w.next = some (.cells [.int .i64 a, .int .i64 b] 26 false) := by rw [q2 _ (by show w.next < w.next + 1 + 1; omega)]; exact g4
  have k5 : w1.heap.get (w.next + 1) = some (.cells [.int .i64 n0, .int .i64 n1] 69 false) := by rw [q2 _ (by show w.next + 1 < w.next + 1 + 1; omega)]; exact g5
  obtain ⟨x2, w2, c2, z1, rfl, p1, p2, p3, p4⟩ := call29 5 ho29 h14 h65 h66 l (refL l a b) v y1 w1 (by omega) (hv.old o2 (by omega)) q1
  have o3 : Old w.next w.heap w2.heap := o2.trans p2 (by omega)
  have m4 : w2.heap.get w.next = some (.cells [.int .i64 a, .int .i64 b] 26 false) := by rw [p2 _ (by omega)]; exact k4
  have m5 : w2.heap.get (w.next + 1) = some (.cells [.int .i64 n0, .int .i64 n1] 69 false) := by rw [p2 _ (by omega)]; exact k5
  have hv2 : PodsV w2 v l := hv.old o3 (by omega)
  have hPW2 : PartsW w2 := hPW.old o3 (by omega)
  have kW := ruleWn hW hPW2.parts 6
  have hlv := len22V hv
  have nj1 : notJunk y1 = some y1 := by obtain ⟨x, y, e⟩ := q1.len; rw [e]; rfl
  have nj2 : notJunk z1 = some z1 := by obtain ⟨x, y, e⟩ := p1.len; rw [e]; rfl
  rw [hH1] at c1
  obtain ⟨H2, n2, lm2⟩ := w2
  dsimp only at p3 p4 m4 m5 hPW2 p2
  by_cases hE : mkErr l a b = 0
  · obtain ⟨hB, _⟩ := mk_span hE
    have h12 := podsB_len hB
    obtain ⟨f1, f2⟩ := ref_plan hE
    rw [hE] at c1
    rw [f1] at c2
    rw [f2] at p1
    have hll : ¬ (12 : Int) < (l.length : Int) := by omega
    obtain ⟨Bx, H3, n3, happ, r1, r2, r3, r4, r5, r6, r7⟩ := clone22 h12 H2 n2 lm2 (by omega) hv2
    have j4 : H3.get w.next = some (.cells [.int .i64 a, .int .i64 b] 26 false) := by rw [r2 _ (by omega)]; exact m4
    have j5 : H3.get (w.next + 1) = some (.cells [.int .i64 n0, .int .i64 n1] 69 false) := by rw [r2 _ (by omega)]; exact m5
    have e1 : ¬ w.next = n2 := by omega
    have e2 : ¬ w.next = n2 + 1 := by omega
    have e3 : ¬ n2 + 1 = w.next := by omega
    have e4 : ¬ w.next + 1 = n2 + 1 := by omega
    have l1 : lm2 ≤ n2 + 1 := by omega
    have sv := fun x y => same_ints [x, y]
    simp only [List.map_cons, List.map_nil] at sv
    have si := fun n k a => sameN_int n k a
    have q2' := fun w => rule42m h42 n0 (s := 2) (by decide) 6 w
    have q30 := fun w => rule42m h42 n1 (s := 30) (by decide) 6 w
    have q50 := fun w => rule42m h42 n1 (s := 50) (by decide) 6 w
    have r35 := fun a b w => rule35m h35 a b 6 w
    have b30 := wrapI_bd (n := n1) (s := 30) (by omega)
    have b50 := wrapI_bd (n := n1) (s := 50) (by omega)
    obtain ⟨_, ea, eb, ec⟩ := mk_span hE
    have w2 : IntKind.wrap .i64 (a - wrapI n1 30) = a - wrapI n1 30 := wrap64_in (by omega) (by omega)
    have w3 : IntKind.wrap .i64 (b + wrapI n1 50) = b + wrapI n1 50 := wrap64_in (by omega) (by omega)
    by_cases hc : wrapI n0 2 = 0
    · have ha' : wideA n0 n1 a = max 0 (a - wrapI n1 30) := by unfold wideA; rw [if_pos hc]
      have hb' : wideB n0 n1 b = min 2000 (b + wrapI n1 50) := by unfold wideB; rw [if_pos hc]
      simp [mc12_eq, c1, nj1, c2, nj2, hlv, hll, m4, m5, e1, e2, e3, e4, happ, j4, j5, r3, l1, sv, si, cellsOf_agg, q2', hc, q30, q50, w2, w3, r35, least2, most2]
      refine post12 ho23 ho29 H h14 h65 h66 h42 h35 hW l a b n0 n1 hE v z1 ⟨H2, n2, lm2⟩ hPW2 hv2 p1 Bx (w.next + 1) (n2 + 1) _ (fun x hx => ?_) r4 r6 (by show lm2 ≤ n2; omega) (by show w.next + 1 < n3; omega) (by omega) ?_ (by show n2 + 1 < n3; omega) (by omega) ?_ (fun h => ?_) _ ?_ ?_ ?_ ?_ ?_ _ ?_
      case _ =>
        have hx' : x < n2 := hx
        simp [show ¬ x = n2 + 1 by omega]
        exact r2 x hx'
      case _ => simp [e4, e1, j5]
      case _ => simp [ha', hb']
      case _ => simp [show ¬ Bx = n2 + 1 by omega]; exact r1 h
      case _ => simp
      case _ => simp
      case _ => simp
      case _ => simp
      case _ => simp
      case _ => intro t w t6; simp [t6, tupV]
    · have ha' : wideA n0 n1 a = a := by unfold wideA; rw [if_neg hc]
      have hb' : wideB n0 n1 b = b := by unfold wideB; rw [if_neg hc]
      simp [mc12_eq, c1, nj1, c2, nj2, hlv, hll, m4, m5, e1, e2, e3, e4, happ, j4, j5, r3, l1, sv, si, cellsOf_agg, q2', hc]
      refine post12 ho23 ho29 H h14 h65 h66 h42 h35 hW l a b n0 n1 hE v z1 ⟨H2, n2, lm2⟩ hPW2 hv2 p1 Bx (w.next + 1) (n2 + 1) _ (fun x hx => ?_) r4 r6 (by show lm2 ≤ n2; omega) (by show w.next + 1 < n3; omega) (by omega) ?_ (by show n2 + 1 < n3; omega) (by omega) ?_ (fun h => ?_) _ ?_ ?_ ?_ ?_ ?_ _ ?_
      case _ =>
        have hx' : x < n2 := hx
        simp [show ¬ x = n2 + 1 by omega]
        exact r2 x hx'
      case _ => simp [e4, e1, j5]
      case _ => simp [ha', hb']
      case _ => simp [show ¬ Bx = n2 + 1 by omega]; exact r1 h
      case _ => simp
      case _ => simp
      case _ => simp
      case _ => simp
      case _ => simp
      case _ => intro t w t6; simp [t6, tupV]
  · simp [mc12_eq, c1, nj1, c2, nj2, hE, kW, tupV]
end Go.Proofs.YtipglpmelgmelaaDoor.walk
