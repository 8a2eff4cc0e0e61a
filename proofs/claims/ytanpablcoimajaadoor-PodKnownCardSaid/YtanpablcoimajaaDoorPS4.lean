/- Part of a proof by a machine of ones own: see the text with the theorem. -/
import Derived.Test.YtanpablcoimajaaDoorPBase
namespace Go.Proofs.YtanpablcoimajaaDoor.known
open Go Go.Sh
set_option maxRecDepth 1000000 in
theorem surely4 : allUp (fun i => resIs zeroY ((run Tryd.prog noOv 1000).call 86 (surelyA 2098 i) (startA 2099 (surelyL 2098)) .none)) 192 800 = true := by kernel_rfl
end Go.Proofs.YtanpablcoimajaaDoor.known
