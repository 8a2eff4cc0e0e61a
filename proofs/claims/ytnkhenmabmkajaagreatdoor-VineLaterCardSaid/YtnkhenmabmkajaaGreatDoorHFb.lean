/- Part of a proof by a machine of ones own: see the text with the theorem. -/
import Derived.Test.YtnkhenmabmkajaaGreatDoorHB
import Derived.KernelRfl
namespace Go.Proofs.YtnkhenmabmkajaaGreatDoor.walk
open Go Go.Sh
set_option maxRecDepth 1000000 in
theorem works_true : resIs (.bool true) ((run Tryz.prog worksOv 1000).call 14 [] (startA 7 laidL) .none) = true := by kernel_rfl
end Go.Proofs.YtnkhenmabmkajaaGreatDoor.walk
