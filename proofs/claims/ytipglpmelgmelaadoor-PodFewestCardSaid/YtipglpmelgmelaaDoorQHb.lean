/- Part of a proof by a machine of ones own: see the text with the theorem. -/
import Derived.Test.YtipglpmelgmelaaDoorQHa
namespace Go.Proofs.YtipglpmelgmelaaDoor.walk
open Go Go.Sh
open known (partsC laidL noOv)
set_option maxRecDepth 100000
/-! the specification's spans: all truths, one by one -/
def sixC (e : Yl × Yl) : List Value := [.int .i64 e.1.ripe, .int .i64 e.2.ripe, .int .i64 e.1.green, .int .i64 e.2.green, .int .i64 e.1.split, .int .i64 e.2.split]
@[simp] theorem sixC_length (e : Yl × Yl) : (sixC e).length = 6 := by simp [sixC]
@[simp] theorem sixC_singles (e : Yl × Yl) : singles (sixC e) = true := by simp [sixC]
@[simp] theorem sixC_take (e : Yl × Yl) : (sixC e).take 6 = sixC e := by simp [sixC]
@[simp] theorem sixC_drop (e : Yl × Yl) : (sixC e).drop 6 = [] := by simp [sixC]
/-- the boxes of the specification's weigh -/
structure In57 (w0 : AW) (p : Pod) (e : Yl × Yl) (w : AW) : Prop where
  base : Base w0.heap w0.next (podC p) 30 w
  res : w.heap.get (w0.next + 1) = some (.cells zero6 41 false)
  acc : w.heap.get (w0.next + 3) = some (.cells (sixC e) 41 false)
  next : w0.next + 3 < w.next
end Go.Proofs.YtipglpmelgmelaaDoor.walk

namespace Go.Proofs.YtipglpmelgmelaaDoor.walk
open Go Go.Sh
open known (partsC laidL noOv)
set_option maxRecDepth 100000
structure In22 (w0 : AW) (e : Yl × Yl) (w : AW) : Prop where
  base : Base w0.heap w0.next zero6 41 w
  acc : w.heap.get (w0.next + 1) = some (.cells (sixC e) 41 false)
  next : w0.next + 1 < w.next
end Go.Proofs.YtipglpmelgmelaaDoor.walk

namespace Go.Proofs.YtipglpmelgmelaaDoor.walk
open Go Go.Sh
open known (partsC laidL noOv)
set_option maxRecDepth 100000
@[simp] theorem old_same (n : Nat) (H : T AObj) : Old n H H := Old.refl n H
@[simp] theorem old_put {n k : Nat} {H H' : T AObj} {o : Option AObj} (h : Old n H H') (hk : n ≤ k) : Old n H (H'.put k o) := h.put hk
end Go.Proofs.YtipglpmelgmelaaDoor.walk
