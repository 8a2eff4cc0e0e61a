/- Part of a proof by a machine of ones own: see the text with the theorem. -/
import Derived.Test.YtipglpmelgmelaaDoorQWb
namespace Go.Proofs.YtipglpmelgmelaaDoor.walk
open Go Go.Sh
open known (partsC laidL noOv)
set_option maxRecDepth 100000
/-! the specification's own checks -/
end Go.Proofs.YtipglpmelgmelaaDoor.walk

namespace Go.Proofs.YtipglpmelgmelaaDoor.walk
open Go Go.Sh
open known (partsC laidL noOv)
set_option maxRecDepth 100000
/-! spans -/
end Go.Proofs.YtipglpmelgmelaaDoor.walk

namespace Go.Proofs.YtipglpmelgmelaaDoor.walk
open Go Go.Sh
open known (partsC laidL noOv)
set_option maxRecDepth 100000
structure In20 (H0 : T AObj) (n0 : Nat) (bx : List Value) (s : Yl) (w : AW) : Prop where
  base : Base H0 n0 bx 35 w
  res : w.heap.get (n0 + 1) = some (.cells (ylC ⟨0, 0, 0, 0⟩) 37 false)
  acc : w.heap.get (n0 + 2) = some (.cells (ylC s) 37 false)
  next : n0 + 2 < w.next
/-! the specification's spans: all truths, one by one -/
end Go.Proofs.YtipglpmelgmelaaDoor.walk
