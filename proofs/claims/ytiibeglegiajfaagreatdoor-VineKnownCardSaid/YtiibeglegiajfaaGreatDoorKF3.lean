/- Part of a proof by a machine of ones own: see the text with the theorem. -/
import Derived.Test.YtiibeglegiajfaaGreatDoorKBase
import Derived.KernelRfl
namespace Go.Proofs.YtiibeglegiajfaaGreatDoor.known
open Go Go.Sh
noncomputable def worksOv : Ov := memoOv 33 (flowersA 246 248 1) (flowersL 246 248) (spanV 1 2) noOv
set_option maxRecDepth 1000000 in
theorem works_true : resIs (.bool true) ((run Tryz.prog worksOv 1000).call 21 [] (startA 7 laidL) .none) = true := by kernel_rfl
end Go.Proofs.YtiibeglegiajfaaGreatDoor.known
