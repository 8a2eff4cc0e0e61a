/- Part of a proof by a machine of ones own: see the text with the theorem. -/
import Derived.Test.YtbbbgaiaigdngaaGreatDoorEBas
import Derived.KernelRfl
namespace Go.Proofs.YtbbbgaiaigdngaaGreatDoor.walk
open Go Go.Sh
set_option maxRecDepth 1000000 in
theorem works_true : resIs (.bool true) ((run Tryz.prog worksOv 1000).call 10 [] (startA 7 laidL) .none) = true := by kernel_rfl
end Go.Proofs.YtbbbgaiaigdngaaGreatDoor.walk
