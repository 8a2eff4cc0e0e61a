/- Part of a proof by a machine of ones own: see the text with the theorem. -/
import Derived.Test.YtiibeglegiajfabHBase
import Derived.KernelRfl
namespace Go.Proofs.Ytiibeglegiajfab.known
open Go Go.Sh
set_option maxRecDepth 1000000 in
theorem most : resIs mostV ((run Try.prog noOv 1000).call 16 seasonA (startA 156 seasonL) .none) = true := by kernel_rfl
end Go.Proofs.Ytiibeglegiajfab.known
