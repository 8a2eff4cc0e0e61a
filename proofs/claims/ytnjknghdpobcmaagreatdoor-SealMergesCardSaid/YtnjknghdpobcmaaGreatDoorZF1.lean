/- Part of a proof: see the text with the theorem. -/
import Derived.Test.YtnjknghdpobcmaaGreatDoorZK0
set_option linter.all false
namespace Go.Proofs.YtnjknghdpobcmaaGreatDoor.walk
open Go Go.Sh
set_option maxRecDepth 1000000 in
theorem works_true:resIs (.bool true) ((run Tryz.prog pureOv 1000).call 22 [] (startA 9 laidL) .none)=true:=by kernel_rfl
end Go.Proofs.YtnjknghdpobcmaaGreatDoor.walk
