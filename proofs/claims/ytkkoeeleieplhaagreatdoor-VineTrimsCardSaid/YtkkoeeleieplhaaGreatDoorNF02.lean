/- Part of a proof by a machine of ones own: see the text with the theorem. -/
import Derived.Test.YtkkoeeleieplhaaGreatDoorNBas
import Derived.KernelRfl
namespace Go.Proofs.YtkkoeeleieplhaaGreatDoor.walk
open Go Go.Sh
set_option maxRecDepth 1000000 in
theorem works_true : resIs (.bool true) ((run Tryz.prog worksOv 1000).call 8 [] (startA 7 laidL) .none) = true := by kernel_rfl
end Go.Proofs.YtkkoeeleieplhaaGreatDoor.walk
