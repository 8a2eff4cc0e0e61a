/- Part of a proof by a machine of ones own: see the text with the theorem. -/
import Derived.Test.YtbbbgaiaigdngaaGreatDoorEBas
import Derived.KernelRfl
namespace Go.Proofs.YtbbbgaiaigdngaaGreatDoor.walk
open Go Go.Sh
set_option maxRecDepth 1000000 in
theorem flowers1 : resIs (spanV 1 2) ((run Tryz.prog noOv 1000).call 8 (flowersA 246 248 1) (startA 249 (flowersL 246 248)) .none) = true := by kernel_rfl
end Go.Proofs.YtbbbgaiaigdngaaGreatDoor.walk
