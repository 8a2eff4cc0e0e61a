/- Part of a proof by a machine of ones own: see the text with the theorem. -/
import Derived.Test.YtipglpmelgmelaaDoorQWb
namespace Go.Proofs.YtipglpmelgmelaaDoor.walk
open Go Go.Sh
open known (partsC laidL noOv)
set_option maxRecDepth 100000
/-! the specification's own checks -/
end Go.Proofs.YtipglpmelgmelaaDoor.walk

namespace Go.Proofs.YtipglpmelgmelaaDoor.walk
open Go Go.Sh
open known (partsC laidL noOv)
set_option maxRecDepth 100000
noncomputable def F75 : PureF := fun args _ => match args with | [.int .i64 a, .int .i64 b] => bif decide (b = 100) && inI 0 a 1000000 then some (.int .i64 (a / 100)) else none | _ => none
theorem rule75 {ov : Ov} (k : HasP ov 75 F75) {a : Int} (h1 : 0 ≤ a) (h2 : a ≤ 1000000) (w : AW) : (run Tryd.prog ov 1).call 75 [.int .i64 a, .int .i64 100] w .none = .ok (.ret (.int .i64 (a / 100))) w .none := k.call (by simp [F75, inI, h1, h2])
theorem run75 {ov : Ov} (ho : ∀ args w, ov 75 args w = none) (a : Int) (h1 : 0 ≤ a) (h2 : a ≤ 1000000) (w : AW) : ∃ v w', (run Tryd.prog ov 2).call 75 [.int .i64 a, .int .i64 100] w .none = .ok (.ret v) w' .none ∧ v = .int .i64 (a / 100) := by
  refine call_wp text75 (by simp) (ho _ _) ?_
  have hq := fun (c : Bool) w => bin_quo (P := Tryd.prog) (w := w) 3 c .i64 a 100 (by decide)
  have hr := fun (c : Bool) w => bin_rem (P := Tryd.prog) (w := w) 3 c .i64 a 100 (by decide)
  have e1 : a.tdiv 100 = a / 100 := Int.tdiv_eq_ediv_of_nonneg h1
  have e2 : ¬ a.tmod 100 < 0 := by have := Int.tmod_nonneg 100 h1; omega
  have e3 : IntKind.wrap .i64 (a / 100) = a / 100 := wrap64_in (by omega) (by omega)
  simp [mc75, hq, hr, e1, e2, e3, tupV]
noncomputable def F55 : PureF := fun args _ => match args with | [.agg ⟨l⟩, .int .i64 day, .int .i64 r, .int .i64 h, .int .i64 g] => (podOf l).bind fun p => bif numB p day r h g && planOk p day then some (.agg ⟨ylC (ylI p.born day r h g)⟩) else none | _ => none
theorem rule55 {ov : Ov} (k : HasP ov 55 F55) {p : Pod} {day r h g : Int} (hn : numB p day r h g = true) (hp : planOk p day = true) (m : Nat) (w : AW) : (run Tryd.prog ov (m + 1)).call 55 [.agg ⟨podC p⟩, .int .i64 day, .int .i64 r, .int .i64 h, .int .i64 g] w .none = .ok (.ret (.agg ⟨ylC (ylI p.born day r h g)⟩)) w .none := k.call (by simp [F55, podOf_C, hn, hp])
theorem run55 {ov : Ov} (ho : ∀ args w, ov 55 args w = none) (h75 : HasP ov 75 F75) (p : Pod) (day r h g : Int) (hn : numB p day r h g = true) (hp : planOk p day = true) (w : AW) (hl : w.lim ≤ w.next) :
    ∃ v w', (run Tryd.prog ov 2).call 55 [.agg ⟨podC p⟩, .int .i64 day, .int .i64 r, .int .i64 h, .int .i64 g] w .none = .ok (.ret v) w' .none ∧ v = .agg ⟨ylC (ylI p.born day r h g)⟩ := by
  obtain ⟨k1, k2, k3, k4, k5, k6, k7, k8, k9, k10⟩ := num_some hn
  obtain ⟨b1, b2, b3, b4⟩ := gram_bd k1 k2 k3 k4 k5 k6 k9 k10
  have hd := plan_day hp
  refine call_wp text55 (by simp) (ho _ _) ?_
  have j1 : ∀ h, (podC p)[1]'h = .int .i64 p.born := fun _ => rfl
  have hl1 : w.lim ≤ w.next + 1 := by omega
  by_cases c0 : day = -1
  · subst c0
    simp [mc55, hl1, tupV, ylI, ylC]
  · have hb : p.born ≤ day := by
      rcases hd with h | h
      · exact absurd h c0
      · exact h.1
    have c0' : ¬ day < 0 := by omega
    have w1 : IntKind.wrap .i64 (p.born + r) = p.born + r := wrap64_in (by omega) (by omega)
    have w2 : IntKind.wrap .i64 (p.born + r + h) = p.born + r + h := wrap64_in (by omega) (by omega)
    have w3 : IntKind.wrap .i64 (day - p.born) = day - p.born := wrap64_in (by omega) (by omega)
    have w4 : IntKind.wrap .i64 (g * min (day - p.born) r) = g * min (day - p.born) r := wrap64_in (by omega) (by omega)
    have hnn : 0 ≤ g * min (day - p.born) r := Int.mul_nonneg k9 (by omega)
    have r75 := rule75 h75 hnn (by omega)
    have eg : g * min (day - p.born) r / 100 = gramI p.born day r g := (gram_eq hb k5 k9).symm
    rw [eg] at r75
    by_cases c1 : p.born + r + h ≤ day
    · have e : ylI p.born day r h g = ⟨0, 0, 1, 0⟩ := by
        unfold ylI; rw [if_neg c0, if_neg (by omega), if_neg (by omega)]
      simp [mc55, hl1, tupV, c0', j1, w1, w2, c1, e, ylC]
    · by_cases c2 : p.born + r ≤ day
      · have e : ylI p.born day r h g = ⟨gramI p.born day r g, 0, 0, 0⟩ := by
          unfold ylI; rw [if_neg c0, if_neg (by omega), if_pos (by omega)]
        simp [mc55, hl1, tupV, c0', j1, w1, w2, w3, w4, c1, c2, r75, e, ylC]
      · have e : ylI p.born day r h g = ⟨0, gramI p.born day r g, 0, 0⟩ := by
          unfold ylI; rw [if_neg c0, if_pos (by omega)]
        simp [mc55, hl1, tupV, c0', j1, w1, w2, w3, w4, c1, c2, r75, e, ylC]
/-! spans -/
noncomputable def F78 : PureF := fun args _ => match args with | [.agg ⟨[.int .i64 a, .int .i64 b]⟩, .int .i64 n] => some (.agg ⟨[.int .i64 (min a n), .int .i64 (max b n)]⟩) | _ => none
theorem rule78 {ov : Ov} (k : HasP ov 78 F78) (a b n : Int) (w : AW) : (run Tryd.prog ov 1).call 78 [.agg ⟨[.int .i64 a, .int .i64 b]⟩, .int .i64 n] w .none = .ok (.ret (.agg ⟨[.int .i64 (min a n), .int .i64 (max b n)]⟩)) w .none := k.call rfl
theorem run78 {ov : Ov} (ho : ∀ args w, ov 78 args w = none) (a b n : Int) (w : AW) (hl : w.lim ≤ w.next) : ∃ v w', (run Tryd.prog ov 2).call 78 [.agg ⟨[.int .i64 a, .int .i64 b]⟩, .int .i64 n] w .none = .ok (.ret v) w' .none ∧ v = .agg ⟨[.int .i64 (min a n), .int .i64 (max b n)]⟩ := by
  refine call_wp text78 (by simp) (ho _ _) ?_
  simp [mc78, hl, tupV]
end Go.Proofs.YtipglpmelgmelaaDoor.walk

namespace Go.Proofs.YtipglpmelgmelaaDoor.walk
open Go Go.Sh
open known (partsC laidL noOv)
set_option maxRecDepth 100000
structure In20 (H0 : T AObj) (n0 : Nat) (bx : List Value) (s : Yl) (w : AW) : Prop where
  base : Base H0 n0 bx 35 w
  res : w.heap.get (n0 + 1) = some (.cells (ylC ⟨0, 0, 0, 0⟩) 37 false)
  acc : w.heap.get (n0 + 2) = some (.cells (ylC s) 37 false)
  next : n0 + 2 < w.next
theorem In20.step {H0 : T AObj} {n0 : Nat} {bx : List Value} {s s' : Yl} {w w1 : AW} (hw : In20 H0 n0 bx s w) (h1 : ∀ x, x < w.next → w1.heap.get x = w.heap.get x) (h2 : w.next ≤ w1.next) (h3 : w1.lim = w.lim) :
    In20 H0 n0 bx s' ⟨w1.heap.put (n0 + 2) (some (.cells (ylC s') 37 false)), w1.next, w1.lim⟩ := by
  have hn := hw.next
  refine ⟨⟨fun b hb => ?_, ?_, by show n0 < w1.next; omega, by show w1.lim ≤ n0; rw [h3]; exact hw.base.lim⟩, ?_, ?_, by show n0 + 2 < w1.next; omega⟩
  · show (w1.heap.put (n0 + 2) _).get b = _
    rw [get_put, if_neg (by omega), h1 b (by omega), hw.base.old b hb]
  · show (w1.heap.put (n0 + 2) _).get n0 = _
    rw [get_put, if_neg (by omega), h1 n0 (by omega), hw.base.box]
  · show (w1.heap.put (n0 + 2) _).get (n0 + 1) = _
    rw [get_put, if_neg (by omega), h1 (n0 + 1) (by omega), hw.res]
  · show (w1.heap.put (n0 + 2) _).get (n0 + 2) = _
    rw [get_put, if_pos rfl]
/-! the specification's spans: all truths, one by one -/
end Go.Proofs.YtipglpmelgmelaaDoor.walk
