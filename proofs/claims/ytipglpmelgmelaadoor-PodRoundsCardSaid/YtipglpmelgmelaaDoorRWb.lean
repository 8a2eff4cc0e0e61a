/- Part of a proof by a machine of ones own: see the text with the theorem. -/
import Derived.Test.YtipglpmelgmelaaDoorRWa
namespace Go.Proofs.YtipglpmelgmelaaDoor.walk
open Go Go.Sh
open known (partsC laidL noOv)
set_option maxRecDepth 100000
set_option linter.unusedSimpArgs false
/-! Market, on both sides -/
/-! Plan, on both sides -/
def plE (l : List Pod) (R : List Int) : Int := bif podsB l then (bif roundsB R then 0 else 31) else 30
def plL (l : List Pod) (R : List Int) : List Int := if plE l R = 0 then l.map fun p => cutI p R else []
end Go.Proofs.YtipglpmelgmelaaDoor.walk

namespace Go.Proofs.YtipglpmelgmelaaDoor.walk
open Go Go.Sh
open known (partsC laidL noOv)
set_option maxRecDepth 100000
set_option linter.unusedSimpArgs false
theorem make33 (n : Nat) (hn : n ≤ 1000) (w : AW) : makeSliceA Tryd.prog w 33 (.int .i64 (n : Int)) (.int .i64 (n : Int)) = .val (.slice (some ⟨w.next, 0, none⟩) n n) ⟨w.heap.put w.next (some (.cells ((List.replicate n (0 : Int)).flatMap intC) 3 false)), w.next + 1, w.lim⟩ := by
  rw [make_eq (e := 3) (z := .int .i64 0) (by kernel_rfl) (by kernel_rfl) (by kernel_rfl) n hn w, ← repl_flat]; rfl
structure In29 (w0 : AW) (n : Nat) (L : List Int) (w : AW) : Prop where
  old : Old w0.next w0.heap w.heap
  row : w.heap.get w0.next = some (.cells (L.flatMap intC) 3 false)
  next : w0.next < w.next
  lim : w.lim = w0.lim
  len : L.length = n
theorem loop29 {ov : Ov} (m : Nat) (h66 : HasP ov 66 F66) (l : List Pod) (h12 : l.length ≤ 12) (R : List Int) (hR : R.length ≤ 12) (v u : Value) (w0 : AW) (hl0 : w0.lim ≤ w0.next) (hv : PodsV w0 v l) (hu : RowsV intC w0 u R)
    (Q : Ex → Tm → AW → Prop) (t : Tm) (w : AW) (L0 : List Int) (hw : In29 w0 l.length L0 w)
    (t1 : tget t 1 = u) (t7 : tget t 7 = .slice (some ⟨w0.next, 0, none⟩) l.length l.length) (t21 : tget t 21 = v) (t22 : tget t 22 = .int .i64 (l.length : Nat)) (t23 : tget t 23 = .int .i64 0)
    (hQ : ∀ t w, In29 w0 l.length (l.map fun p => cutI p R) w → tget t 7 = .slice (some ⟨w0.next, 0, none⟩) l.length l.length → Q (.exit 0) t w) :
    wp (exM Tryd.prog (run Tryd.prog ov (m + 1)) (.loop mc29_l0) t w) Q := by
  refine wp_rounds (fun i t w => (∃ L, In29 w0 l.length L w ∧ ∀ d, d < i → L[d]? = (l.map fun p => cutI p R)[d]?) ∧ tget t 1 = u ∧ tget t 7 = .slice (some ⟨w0.next, 0, none⟩) l.length l.length ∧ tget t 21 = v ∧ tget t 22 = .int .i64 (l.length : Nat) ∧ tget t 23 = .int .i64 (i : Nat) ∧ i ≤ l.length) 200 (by decide)
    ⟨⟨_, hw, fun d hd => by omega⟩, t1, t7, t21, t22, t23, Nat.zero_le _⟩ ?_
  clear t1 t7 t21 t22 t23 hw
  rintro i t w ⟨⟨L, hw, hL⟩, t1, t7, t21, t22, t23, hi⟩
  by_cases hlt : i < l.length
  · obtain ⟨p, hp⟩ : ∃ p, l[i]? = some p := ⟨_, List.getElem?_eq_getElem hlt⟩
    obtain ⟨b, sq, c, rfl, hpa⟩ := hv.at_ i hlt
    have hld := load_pod' hpa hp
    rw [← hw.old _ hpa.lt] at hld
    have hnx := hw.next
    have hlm := hw.lim
    have hrow := hw.row
    have hlen := hw.len
    obtain ⟨H1, hH1⟩ : ∃ H1, H1 = (w.heap.put w.next (some (.cells [.string ⟨⟨[]⟩⟩, .int .i64 0, .int .i64 0, .int .i64 0, .int .i64 0, .int .i64 0, .int .i64 0, .int .i64 0] 30 false))).put w.next (some (.cells (podC p) 30 false)) := ⟨_, rfl⟩
    have k1 : ∀ x, x < w.next → H1.get x = w.heap.get x := fun x hx => by
      rw [hH1, get_put, if_neg (by omega), get_put, if_neg (by omega)]
    have hu1 : RowsV intC ⟨H1, w.next + 1, w.lim⟩ u R := hu.old (fun x hx => by show H1.get x = _; rw [k1 x (by omega), hw.old x hx]) (by show w0.next ≤ w.next + 1; omega)
    have r66 := rule66 h66 p hR hu1 m
    rw [hH1] at r66
    have m0 : ¬ b = w.next := by have := hpa.lt; omega
    have m1 : ¬ w0.next = w.next := by omega
    have m2 : ¬ w.next = w0.next := by omega
    have l1 : w.lim ≤ w.next := by omega
    have l2 : w.lim ≤ w0.next := by omega
    have hia := fun w => ia22 w ⟨b, 0, sq⟩ l.length c .i64 i hlt
    have hi3 := fun w => ia33 w ⟨w0.next, 0, none⟩ l.length l.length .i64 i hlt
    have hw1 : IntKind.wrap .i64 ((i : Int) + 1) = (i : Int) + 1 := wrap64_in (by omega) (by omega)
    obtain ⟨x, hx⟩ : ∃ x, x = cutI p R := ⟨_, rfl⟩
    rw [← hx] at r66
    have hset := flat_set intC_length L i x (by omega)
    have hfl : (L.flatMap intC).length = l.length := by rw [flat_length intC_length, hlen]; omega
    obtain ⟨cs, hcs⟩ : ∃ cs, cs = L.flatMap intC := ⟨_, rfl⟩
    rw [← hcs] at hset hfl hrow
    simp only [Nat.mul_one, intC, List.cons_append, List.nil_append] at hset
    have hfit : i + 1 ≤ l.length := hlt
    simp [mc29_l0, t1, t7, t21, t22, t23, hlt, hia, hi3, hld, l1, l2, m0, m1, m2, cellsOf_agg, r66, hrow, hfl, hfit, hset, hw1]
    refine ⟨by omega, L.set i x, ⟨fun y hy => ?_, ?_, by show w0.next < w.next + 1; omega, hlm, by rw [List.length_set]; exact hlen⟩, fun d hd => ?_⟩
    · simp [show ¬ y = w0.next by omega, show ¬ y = w.next by omega]
      exact hw.old y hy
    · simp [intC]
    · by_cases e : d = i
      · subst e
        rw [List.getElem?_set_self (by omega), hp, hx]; rfl
      · rw [List.getElem?_set_ne (Ne.symm e), hL d (by omega), List.getElem?_map]
  · have hi' : i = l.length := by omega
    subst hi'
    simp [mc29_l0, t22, t23]
    have e : L = l.map fun p => cutI p R := by
      apply List.ext_getElem?
      intro d
      by_cases hd : d < l.length
      · exact hL d hd
      · rw [List.getElem?_eq_none (by rw [hw.len]; omega), List.getElem?_eq_none (by rw [List.length_map]; omega)]
    exact hQ _ _ (e ▸ hw) (by simp [t7])
end Go.Proofs.YtipglpmelgmelaaDoor.walk

namespace Go.Proofs.YtipglpmelgmelaaDoor.walk
open Go Go.Sh
open known (partsC laidL noOv)
set_option maxRecDepth 100000
set_option linter.unusedSimpArgs false
theorem call29 {ov : Ov} (m : Nat) (ho : ∀ args w, ov 29 args w = none) (h14 : HasP ov 14 F14) (h65 : HasP ov 65 F65) (h66 : HasP ov 66 F66) (l : List Pod) (R : List Int) (v u : Value) (w : AW) (hl : w.lim ≤ w.next) (hv : PodsV w v l) (hu : RowsV intC w u R) :
    ∃ x w', (run Tryd.prog ov (m + 2)).call 29 [v, u] w .none = .ok (.ret x) w' .none ∧ ∃ y, x = .tuple ⟨[y, .int .i64 (plE l R)]⟩ ∧ RowsV intC w' y (plL l R) ∧ Old w.next w.heap w'.heap ∧ w.next ≤ w'.next ∧ w'.lim = w.lim := by
  refine call_wp text29 (by simp) (ho _ _) ?_
  have r14 := rule14m h14 hv.podsIn m
  have r65 := rule65 h65 hu m
  have hlv := len22V hv
  cases hB : podsB l with
  | false =>
    have e : plE l R = 30 := by simp [plE, hB]
    simp [mc29, r14, hB, errB, tupV, e]
    exact .inl ⟨by simp [plL, e], _, _, rfl⟩
  | true =>
    cases hR : roundsB R with
    | false =>
      have e : plE l R = 31 := by simp [plE, hB, hR]
      simp [mc29, r14, hB, errB, r65, hR, tupV, e]
      exact .inl ⟨by simp [plL, e], _, _, rfl⟩
    | true =>
      have e : plE l R = 0 := by simp [plE, hB, hR]
      have h12 := podsB_len hB
      have hR12 : R.length ≤ 12 := by simp only [roundsB, Bool.and_eq_true, decide_eq_true_eq] at hR; exact hR.1
      have hmk := fun w => make33 l.length (by omega) w
      simp [mc29, r14, hB, errB, r65, hR, hlv, hmk]
      refine wp_seqX (wp_blockX (loop29 m h66 l h12 R hR12 v u w hl hv hu _ _ _ (List.replicate l.length 0) ⟨?_, ?_, ?_, ?_, ?_⟩ ?_ ?_ ?_ ?_ ?_ ?_))
      case _ => exact (Old.refl _ _).put (Nat.le_refl _)
      case _ => simp
      case _ => simp
      case _ => rfl
      case _ => simp
      case _ => simp
      case _ => simp
      case _ => simp
      case _ => simp
      case _ => simp
      case _ =>
        intro t w' hI t7
        have hnx := hI.next
        have hrow := hI.row
        simp [t7, tupV, e]
        have hpl : plL l R = l.map fun p => cutI p R := by simp [plL, e]
        refine ⟨?_, hI.old, by omega, hI.lim⟩
        rw [hpl]
        exact .inr ⟨w.next, 0, none, l.length, by rw [List.length_map], ⟨[], [], 3, false, by simpa using hrow, rfl⟩, hnx⟩
end Go.Proofs.YtipglpmelgmelaaDoor.walk

namespace Go.Proofs.YtipglpmelgmelaaDoor.walk
open Go Go.Sh
open known (partsC laidL noOv)
set_option maxRecDepth 100000
set_option linter.unusedSimpArgs false
theorem loop30b {ov : Ov} (m : Nat) (h33 : HasP ov 33 F33) (p : Pod) (R : List Int) (hlen : R.length ≤ 12) (u : Value) (w : AW) (B : Nat) (hB : w.heap.get B = some (.cells [.int .i64 (winL p), .int .i64 (winH p)] 26 false)) (hu : RowsV intC w u R) (v0 v7 v8 : Value)
    (Q : Ex → Tm → AW → Prop) (t : Tm) (t0 : tget t 0 = v0) (t1 : tget t 1 = u) (t7 : tget t 7 = v7) (t8 : tget t 8 = v8) (t9 : tget t 9 = .pointer (some ⟨B, 0, none⟩)) (t10 : tget t 10 = .int .i64 (-1)) (t11 : tget t 11 = .int .i64 0)
    (hQ : ∀ t, tget t 0 = v0 → tget t 1 = u → tget t 7 = v7 → tget t 8 = v8 → tget t 10 = .int .i64 (cutI p R) → Q (.exit 2) t w) : wp (exM Tryd.prog (run Tryd.prog ov (m + 1)) (.loop mc30_l1) t w) Q := by
  have hlu := len33V hu
  refine wp_rounds (fun i t w' => w' = w ∧ tget t 0 = v0 ∧ tget t 1 = u ∧ tget t 7 = v7 ∧ tget t 8 = v8 ∧ tget t 9 = .pointer (some ⟨B, 0, none⟩) ∧ tget t 10 = .int .i64 ((R.take i).foldl (stepC p) (-1)) ∧ tget t 11 = .int .i64 (i : Nat) ∧ i ≤ R.length) 200 (by decide) ⟨rfl, t0, t1, t7, t8, t9, t10, t11, Nat.zero_le _⟩ ?_
  clear t0 t1 t7 t8 t9 t10 t11
  rintro i t w' ⟨rfl, t0, t1, t7, t8, t9, t10, t11, hi⟩
  by_cases hlt : i < R.length
  · obtain ⟨d, hd⟩ : ∃ d, R[i]? = some d := ⟨_, List.getElem?_eq_getElem hlt⟩
    obtain ⟨b, off, sq, c, rfl, hr⟩ := hu.at_ i hlt
    have hld := hr.int hd
    have hia := fun w => ia33 w ⟨b, off, sq⟩ R.length c .i64 i hlt
    have hw1 : IntKind.wrap .i64 ((i : Int) + 1) = (i : Int) + 1 := wrap64_in (by omega) (by omega)
    have hs := fold_snoc' hd (f := stepC p) (-1)
    obtain ⟨s, hse⟩ : ∃ s, s = (R.take i).foldl (stepC p) (-1) := ⟨_, rfl⟩
    rw [← hse] at hs t10
    have r33 := fun n a b w => rule33m h33 n a b m w
    cases f1 : inI (winL p) d (winH p) <;>
    · simp only [stepC, f1, cond_true, cond_false] at hs
      simp [mc30_l1, t0, t1, t7, t8, t9, t10, t11, hlt, hlu, hia, hld, hB, r33, f1, hw1]
      exact ⟨by omega, hs.symm, hlt⟩
  · have hi' : i = R.length := by omega
    subst hi'
    simp [mc30_l1, t1, t11, hlu]
    rw [List.take_length] at t10
    exact hQ _ (by simp [t0]) (by simp [t1]) (by simp [t7]) (by simp [t8]) (by simp [cutI, t10])
structure In30 (w0 : AW) (N : Nat) (v : Value) (acc : List Int) (w : AW) : Prop where
  old : ∀ x, x ≤ N → w.heap.get x = w0.heap.get x
  acc : AccR intC 3 N w v acc
  next : N < w.next
  lm : w.lim = w0.lim
set_option maxHeartbeats 1000000 in
theorem loop30a {ov : Ov} (m : Nat) (h33 : HasP ov 33 F33) (h49 : HasP ov 49 F47) (l : List Pod) (h12 : l.length ≤ 12) (R : List Int) (hR : R.length ≤ 12) (v u : Value) (w0 : AW) (N : Nat) (hN : w0.next = N + 1) (hl : w0.lim ≤ N) (hv : PodsV w0 v l) (hu : RowsV intC w0 u R)
    (Q : Ex → Tm → AW → Prop) (t : Tm) (w : AW) (hw : In30 w0 N (.slice none 0 0) [] w)
    (t0 : tget t 0 = v) (t1 : tget t 1 = u) (t7 : tget t 7 = .slice none 0 0) (t8 : tget t 8 = .int .i64 0)
    (hQ : ∀ t w x, In30 w0 N x (l.map fun p => cutI p R) w → tget t 7 = x → Q (.exit 0) t w) :
    wp (exM Tryd.prog (run Tryd.prog ov (m + 1)) (.loop mc30_l0) t w) Q := by
  have hlv := len22V hv
  refine wp_rounds (fun i t w => ∃ x, In30 w0 N x ((l.map fun p => cutI p R).take i) w ∧ tget t 0 = v ∧ tget t 1 = u ∧ tget t 7 = x ∧ tget t 8 = .int .i64 (i : Nat) ∧ i ≤ l.length) 200 (by decide) ⟨_, by simpa using hw, t0, t1, t7, t8, Nat.zero_le _⟩ ?_
  clear t0 t1 t7 t8 hw
  rintro i t w ⟨x, hw, t0, t1, t7, t8, hi⟩
  by_cases hlt : i < l.length
  · obtain ⟨p, hp⟩ : ∃ p, l[i]? = some p := ⟨_, List.getElem?_eq_getElem hlt⟩
    obtain ⟨b, sq, c, rfl, hpa⟩ := hv.at_ i hlt
    have hld := load_pod' hpa hp
    rw [← hw.old _ (by have := hpa.lt; omega)] at hld
    have n0 := hw.next
    have hlm := hw.lm
    have l1 : w.lim ≤ w.next := by omega
    have hia := fun w => ia22 w ⟨b, 0, sq⟩ l.length c .i64 i hlt
    have hw1 : IntKind.wrap .i64 ((i : Int) + 1) = (i : Int) + 1 := wrap64_in (by omega) (by omega)
    have r49 := fun w => rule49m h49 p m w
    have hs := take_snoc (l := l.map fun p => cutI p R) (i := i) (a := cutI p R) (by rw [List.getElem?_map, hp]; rfl)
    simp [mc30_l0, t0, t8, hlt, hlv, hia, hld, r49, l1, cellsOf_agg]
    obtain ⟨H1, hH1⟩ : ∃ H1, H1 = (w.heap.put w.next (some (.cells [.int .i64 0, .int .i64 0] 26 false))).put w.next (some (.cells [.int .i64 (winL p), .int .i64 (winH p)] 26 false)) := ⟨_, rfl⟩
    rw [← hH1]
    have k1 : ∀ y, y < w.next → H1.get y = w.heap.get y := fun y hy => by
      rw [hH1, get_put, if_neg (by omega), get_put, if_neg (by omega)]
    have hu1 : RowsV intC ⟨H1, w.next + 1, w.lim⟩ u R := hu.old (fun y hy => by show H1.get y = _; rw [k1 y (by omega), hw.old y (by omega)]) (by show w0.next ≤ w.next + 1; omega)
    refine wp_seqX (wp_blockX (wp_seqX (wp_blockX (loop30b m h33 p R hR u _ w.next ?_ hu1 (.slice (some ⟨b, 0, sq⟩) l.length c) x (.int .i64 (i : Nat)) _ _ ?_ ?_ ?_ ?_ ?_ ?_ ?_ ?_))))
    case _ => show H1.get _ = _; rw [hH1, get_put, if_pos rfl]
    case _ => simp [t0]
    case _ => simp [t1]
    case _ => simp [t7]
    case _ => simp [t8]
    case _ => simp
    case _ => simp
    case _ => simp
    case _ =>
      intro t s0 s1 s7 s8 s10
      have hacc1 : AccR intC 3 N ⟨H1, w.next + 1, w.lim⟩ x ((l.map fun p => cutI p R).take i) := hw.acc.keep (fun y _ hy => k1 y hy) (Nat.le_succ _)
      obtain ⟨v', w', ha, hacc', ho', hn, hl'⟩ := hacc1.push isList33r elem33r sz3r small3r intC_length intC_singles (by decide) (by show w.lim ≤ N; omega) (by show N < w.next + 1; omega) (by rw [List.length_take]; omega) (cutI p R)
      simp only [intC] at ha
      simp [s0, s1, s7, s8, s10, ha, hw1]
      rw [hs]
      exact ⟨by omega, v', ⟨fun y hy => by rw [ho' y hy]; show H1.get y = _; rw [k1 y (by omega), hw.old y hy], hacc', by have : w.next + 1 ≤ w'.next := hn; omega, hl'.trans hlm⟩, rfl, hlt⟩
  · have hi' : i = l.length := by omega
    subst hi'
    simp [mc30_l0, t0, t8, hlv]
    rw [List.take_of_length_le (by simp)] at hw
    exact hQ _ _ _ hw (by simp [t7])
end Go.Proofs.YtipglpmelgmelaaDoor.walk

namespace Go.Proofs.YtipglpmelgmelaaDoor.walk
open Go Go.Sh
open known (partsC laidL noOv)
set_option maxRecDepth 100000
set_option linter.unusedSimpArgs false
theorem call30 {ov : Ov} (m : Nat) (ho : ∀ args w, ov 30 args w = none) (h15 : HasP ov 15 F14) (h33 : HasP ov 33 F33) (h36 : HasP ov 36 F36) (h49 : HasP ov 49 F47) (l : List Pod) (R : List Int) (v u : Value) (w : AW) (hl : w.lim < w.next) (hv : PodsV w v l) (hu : RowsV intC w u R) :
    ∃ x w', (run Tryd.prog ov (m + 2)).call 30 [v, u] w .none = .ok (.ret x) w' .none ∧ ∃ y, x = .tuple ⟨[y, .int .i64 (plE l R)]⟩ ∧ RowsV intC w' y (plL l R) ∧ Old w.next w.heap w'.heap ∧ w.next ≤ w'.next ∧ w'.lim = w.lim := by
  refine call_wp text30 (by simp) (ho _ _) ?_
  have r15 := rule15m h15 hv.podsIn m
  have hlu := len33V hu
  cases hB : podsB l with
  | false =>
    have e : plE l R = 30 := by simp [plE, hB]
    simp [mc30, r15, hB, errB, tupV, e]
    exact .inl ⟨by simp [plL, e], _, _, rfl⟩
  | true =>
    have h12 := podsB_len hB
    by_cases hR12 : R.length ≤ 12
    case' neg =>
      have h' : (12 : Int) < R.length := by omega
      have e : plE l R = 31 := by simp [plE, hB, roundsB, hR12]
      simp [mc30, r15, hB, errB, hlu, h', tupV, e]
      exact .inl ⟨by simp [plL, e], _, _, rfl⟩
    have h' : ¬ (12 : Int) < R.length := by omega
    have r36 := rule36 h36 (n := 2001) (by decide) (by omega) hu m
    cases hR : riseB 2001 R with
    | false =>
      have e : plE l R = 31 := by simp [plE, hB, roundsB, hR]
      simp [mc30, r15, hB, errB, hlu, h', r36, hR, tupV, e]
      exact .inl ⟨by simp [plL, e], _, _, rfl⟩
    | true =>
      have e : plE l R = 0 := by simp [plE, hB, roundsB, hR12, hR]
      obtain ⟨N, hN⟩ : ∃ N, w.next = N + 1 := ⟨w.next - 1, by omega⟩
      simp [mc30, r15, hB, errB, hlu, h', r36, hR]
      refine wp_seqX (wp_blockX (loop30a m h33 h49 l h12 R hR12 v u w N hN (by omega) hv hu _ _ _ ⟨fun _ _ => rfl, .nil, by omega, rfl⟩ ?_ ?_ ?_ ?_ ?_))
      case _ => simp
      case _ => simp
      case _ => simp
      case _ => simp
      case _ =>
        intro t w' x hI t7
        have nj := hI.acc.ok
        have hnx := hI.next
        simp [t7, tupV, e, nj]
        have hpl : plL l R = l.map fun p => cutI p R := by simp [plL, e]
        rw [hpl]
        exact ⟨hI.acc.rows, fun y hy => hI.old y (by omega), by omega, hI.lm⟩
end Go.Proofs.YtipglpmelgmelaaDoor.walk

namespace Go.Proofs.YtipglpmelgmelaaDoor.walk
open Go Go.Sh
open known (partsC laidL noOv)
set_option maxRecDepth 100000
set_option linter.unusedSimpArgs false
/-! two rows alike -/
theorem loop25 {ov : Ov} (L : List Int) (hlen : L.length ≤ 1000) (u v : Value) (w : AW) (hu : RowsV intC w u L) (hv : RowsV intC w v L) (m : Nat)
    (Q : Ex → Tm → AW → Prop) (t : Tm) (t0 : tget t 0 = u) (t1 : tget t 1 = v) (t5 : tget t 5 = .bool true) (t6 : tget t 6 = .int .i64 0)
    (hQ : ∀ t, tget t 5 = .bool true → Q (.exit 0) t w) : wp (exM Tryd.prog (run Tryd.prog ov m) (.loop mc25_l0) t w) Q := by
  refine wp_rounds (fun i t w' => w' = w ∧ tget t 0 = u ∧ tget t 1 = v ∧ tget t 5 = .bool true ∧ tget t 6 = .int .i64 (i : Nat) ∧ i ≤ L.length) 2000 (by decide) ⟨rfl, t0, t1, t5, by simpa using t6, Nat.zero_le _⟩ ?_
  clear t0 t1 t5 t6
  rintro i t w' ⟨rfl, t0, t1, t5, t6, hi⟩
  have hlu := fun w => len33V hu w
  by_cases hlt : i < L.length
  · obtain ⟨z, hz⟩ : ∃ z, L[i]? = some z := ⟨_, List.getElem?_eq_getElem hlt⟩
    obtain ⟨b, off, sq, cp, rfl, hr⟩ := hu.at_ i hlt
    obtain ⟨b', off', sq', cp', rfl, hr'⟩ := hv.at_ i hlt
    have hld := hr.int hz
    have hld' := hr'.int hz
    have hia := fun w => ia33 w ⟨b, off, sq⟩ L.length cp .i64 i hlt
    have hia' := fun w => ia33 w ⟨b', off', sq'⟩ L.length cp' .i64 i hlt
    have hw1 : IntKind.wrap .i64 ((i : Int) + 1) = (i : Int) + 1 := wrap64_in (by omega) (by omega)
    simp [mc25_l0, t0, t1, t5, t6, hlt, hia, hia', hld, hld', hw1]
    exact ⟨by omega, hlt⟩
  · have hi' : i = L.length := by omega
    subst hi'
    simp [mc25_l0, t0, t5, t6, hlu]
    exact hQ _ (by simp [t5])
theorem run25 {ov : Ov} (ho : ∀ args w, ov 25 args w = none) (L : List Int) (hlen : L.length ≤ 1000) (u v : Value) (w : AW) (hu : RowsV intC w u L) (hv : RowsV intC w v L) :
    ∃ y w', (run Tryd.prog ov 2).call 25 [u, v] w .none = .ok (.ret y) w' .none ∧ y = .bool true := by
  refine call_wp text25 (by simp) (ho _ _) ?_
  have hlu := len33V hu
  have hlv := len33V hv
  simp [mc25, hlu, hlv]
  refine wp_seqX (wp_blockX (loop25 L hlen u v w hu hv 1 _ _ ?_ ?_ ?_ ?_ ?_))
  case _ => simp
  case _ => simp
  case _ => simp
  case _ => simp
  case _ => intro t t5; simp [t5, tupV]
open Classical in
noncomputable def F25 : PureF := fun args w => match args with | [u, v] => (rowsIn intC w u).bind fun A => (rowsIn intC w v).bind fun B => if A = B ∧ A.length ≤ 1000 then some (.bool true) else none | _ => none
theorem rule25 {ov : Ov} (k : HasP ov 25 F25) {u v : Value} {L : List Int} (hlen : L.length ≤ 1000) {w : AW} (hu : RowsV intC w u L) (hv : RowsV intC w v L) (m : Nat) : (run Tryd.prog ov (m + 1)).call 25 [u, v] w .none = .ok (.ret (.bool true)) w .none := k.call (by
  simp only [F25, hu.rowsIn (m := 1) intC_length intC_inj, hv.rowsIn (m := 1) intC_length intC_inj, Option.bind_some]
  rw [if_pos ⟨trivial, hlen⟩])
end Go.Proofs.YtipglpmelgmelaaDoor.walk

namespace Go.Proofs.YtipglpmelgmelaaDoor.walk
open Go Go.Sh
open known (partsC laidL noOv)
set_option maxRecDepth 100000
set_option linter.unusedSimpArgs false
/-! law 6 -/
theorem ruleWn {ov : Ov} (h : HasW ov) {w : AW} (hw : PartsAt w) (m : Nat) : (run Tryd.prog ov (m + 1)).call 18 [] w .none = .ok (.ret (.bool true)) w .none := by
  show stepO Tryd.prog (run Tryd.prog ov m) 18 [] w .none (ov 18 [] w) = _
  rw [h w hw]; rfl
theorem plL_len (l : List Pod) (R : List Int) : (plL l R).length ≤ 12 := by
  unfold plL
  split
  · rename_i h
    rw [List.length_map]
    cases hB : podsB l with
    | false => simp [plE, hB] at h
    | true => exact podsB_len hB
  · simp
end Go.Proofs.YtipglpmelgmelaaDoor.walk
