/- Part of a proof by a machine of ones own: see the text with the theorem. -/
import Derived.Test.YtipglpmelgmelaaDoorQHb
namespace Go.Proofs.YtipglpmelgmelaaDoor.walk
open Go Go.Sh
open known (partsC laidL noOv)
set_option maxRecDepth 100000
set_option linter.unusedSimpArgs false
/-! what PodEnds does with all truths of a pod -/
noncomputable def F35 : PureF := fun args _ => match args with | [.int .i64 a, .int .i64 b] => some (.agg ⟨[.int .i64 a, .int .i64 b]⟩) | _ => none
theorem run35 {ov : Ov} (ho : ∀ args w, ov 35 args w = none) (a b : Int) (w : AW) (hl : w.lim ≤ w.next) : ∃ v w', (run Tryd.prog ov 2).call 35 [.int .i64 a, .int .i64 b] w .none = .ok (.ret v) w' .none ∧ v = .agg ⟨[.int .i64 a, .int .i64 b]⟩ := by
  refine call_wp text35 (by simp) (ho _ _) ?_
  simp [mc35, hl, tupV]
/-- the boxes of PodEnds -/
structure In9 (w0 : AW) (p : Pod) (sC : List Value) (seen : List Yl) (w : AW) : Prop where
  base : Base w0.heap w0.next (podC p) 30 w
  pods : w.heap.get (w0.next + 1) = some (.cells (podC p) 30 false)
  sum : w.heap.get (w0.next + 3) = some (.cells sC 41 false)
  all : ∃ cur : List Value, w.heap.get (w0.next + 4) = some (.cells cur 41 false) ∧ (∃ a b c d e f : Int, cur = [.int .i64 a, .int .i64 b, .int .i64 c, .int .i64 d, .int .i64 e, .int .i64 f]) ∧ (seen ≠ [] → cur = sixC (endsY seen))
  next : w0.next + 4 < w.next
end Go.Proofs.YtipglpmelgmelaaDoor.walk
