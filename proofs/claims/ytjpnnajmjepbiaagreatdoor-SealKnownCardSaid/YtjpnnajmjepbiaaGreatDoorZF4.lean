/- Part of a proof by a machine of ones own: see the text with the theorem. -/
import Derived.Test.YtjpnnajmjepbiaaGreatDoorZK2
namespace Go.Proofs.YtjpnnajmjepbiaaGreatDoor.walk
open Go Go.Sh
set_option maxRecDepth 1000000 in
theorem tx2_none : resIs noneR ((run Tryz.prog pureOv 1000).call 37 tx2 (startA 9 laidL) .none) = true := by kernel_rfl
end Go.Proofs.YtjpnnajmjepbiaaGreatDoor.walk
