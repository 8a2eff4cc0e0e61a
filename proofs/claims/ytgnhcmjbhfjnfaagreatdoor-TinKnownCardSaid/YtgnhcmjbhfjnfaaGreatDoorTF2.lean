/- Part of a proof by a machine of ones own: see the text with the theorem. -/
import Derived.Test.YtgnhcmjbhfjnfaaGreatDoorTBase
namespace Go.Proofs.YtgnhcmjbhfjnfaaGreatDoor.walk
open Go Go.Sh
set_option maxRecDepth 1000000 in
theorem works_true : resIs (.bool true) ((run Tryz.prog noOv 1000).call 20 [] (startA 9 laidL) .none) = true := by kernel_rfl
end Go.Proofs.YtgnhcmjbhfjnfaaGreatDoor.walk
