/- Part of a proof by a machine of ones own: see the text with the theorem. -/
import Derived.Test.YtiibeglegiajfaaGreatDoorKBase
import Derived.KernelRfl
namespace Go.Proofs.YtiibeglegiajfaaGreatDoor.known
open Go Go.Sh
set_option maxRecDepth 1000000 in
theorem flowers2 : resIs (spanV 1 1) ((run Tryz.prog noOv 1000).call 33 (flowersA 885 887 2) (startA 888 (flowersL 885 887)) .none) = true := by kernel_rfl
end Go.Proofs.YtiibeglegiajfaaGreatDoor.known
