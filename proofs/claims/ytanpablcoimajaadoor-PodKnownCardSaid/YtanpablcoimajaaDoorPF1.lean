/- Part of a proof by a machine of ones own: see the text with the theorem. -/
import Derived.Test.YtanpablcoimajaaDoorPBase
namespace Go.Proofs.YtanpablcoimajaaDoor.known
open Go Go.Sh
set_option maxRecDepth 1000000 in
theorem weigh1 : resIs weighV ((run Tryd.prog noOv 1000).call 21 weighA (startA 756 weighL) .none) = true := by kernel_rfl
end Go.Proofs.YtanpablcoimajaaDoor.known
