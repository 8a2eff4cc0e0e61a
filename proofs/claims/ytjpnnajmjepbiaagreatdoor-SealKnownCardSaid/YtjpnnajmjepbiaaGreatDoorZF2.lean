/- Part of a proof by a machine of ones own: see the text with the theorem. -/
import Derived.Test.YtjpnnajmjepbiaaGreatDoorZK0
namespace Go.Proofs.YtjpnnajmjepbiaaGreatDoor.walk
open Go Go.Sh
set_option maxRecDepth 1000000 in
theorem handed_true : resIs (.bool true) ((run Tryz.prog pureOv 1000).call 56 [] (startA 9 laidL) .none) = true := by kernel_rfl
end Go.Proofs.YtjpnnajmjepbiaaGreatDoor.walk
