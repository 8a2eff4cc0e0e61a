/- Part of a proof by a machine of ones own: see the text with the theorem. -/
import Derived.Test.YtipglpmelgmelaaDoorRWa
namespace Go.Proofs.YtipglpmelgmelaaDoor.walk
open Go Go.Sh
open known (partsC laidL noOv)
set_option maxRecDepth 100000
set_option linter.unusedSimpArgs false
/-! Market, on both sides -/
/-! Plan, on both sides -/
end Go.Proofs.YtipglpmelgmelaaDoor.walk

namespace Go.Proofs.YtipglpmelgmelaaDoor.walk
open Go Go.Sh
open known (partsC laidL noOv)
set_option maxRecDepth 100000
set_option linter.unusedSimpArgs false
structure In29 (w0 : AW) (n : Nat) (L : List Int) (w : AW) : Prop where
  old : Old w0.next w0.heap w.heap
  row : w.heap.get w0.next = some (.cells (L.flatMap intC) 3 false)
  next : w0.next < w.next
  lim : w.lim = w0.lim
  len : L.length = n
end Go.Proofs.YtipglpmelgmelaaDoor.walk

namespace Go.Proofs.YtipglpmelgmelaaDoor.walk
open Go Go.Sh
open known (partsC laidL noOv)
set_option maxRecDepth 100000
set_option linter.unusedSimpArgs false
end Go.Proofs.YtipglpmelgmelaaDoor.walk

namespace Go.Proofs.YtipglpmelgmelaaDoor.walk
open Go Go.Sh
open known (partsC laidL noOv)
set_option maxRecDepth 100000
set_option linter.unusedSimpArgs false
structure In30 (w0 : AW) (N : Nat) (v : Value) (acc : List Int) (w : AW) : Prop where
  old : ∀ x, x ≤ N → w.heap.get x = w0.heap.get x
  acc : AccR intC 3 N w v acc
  next : N < w.next
  lm : w.lim = w0.lim
end Go.Proofs.YtipglpmelgmelaaDoor.walk

namespace Go.Proofs.YtipglpmelgmelaaDoor.walk
open Go Go.Sh
open known (partsC laidL noOv)
set_option maxRecDepth 100000
set_option linter.unusedSimpArgs false
end Go.Proofs.YtipglpmelgmelaaDoor.walk

namespace Go.Proofs.YtipglpmelgmelaaDoor.walk
open Go Go.Sh
open known (partsC laidL noOv)
set_option maxRecDepth 100000
set_option linter.unusedSimpArgs false
/-! two rows alike -/
end Go.Proofs.YtipglpmelgmelaaDoor.walk

namespace Go.Proofs.YtipglpmelgmelaaDoor.walk
open Go Go.Sh
open known (partsC laidL noOv)
set_option maxRecDepth 100000
set_option linter.unusedSimpArgs false
/-! law 6 -/
theorem ruleWn {ov : Ov} (h : HasW ov) {w : AW} (hw : PartsAt w) (m : Nat) : (run Tryd.prog ov (m + 1)).call 18 [] w .none = .ok (.ret (.bool true)) w .none := by
  show stepO Tryd.prog (run Tryd.prog ov m) 18 [] w .none (ov 18 [] w) = _
  rw [h w hw]; rfl
end Go.Proofs.YtipglpmelgmelaaDoor.walk
