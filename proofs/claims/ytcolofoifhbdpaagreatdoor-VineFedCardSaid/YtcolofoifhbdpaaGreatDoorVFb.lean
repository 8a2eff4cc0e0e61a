/- Part of a proof by a machine of ones own: see the text with the theorem. -/
import Derived.Test.YtcolofoifhbdpaaGreatDoorVBase
import Derived.KernelRfl
namespace Go.Proofs.YtcolofoifhbdpaaGreatDoor.walk
open Go Go.Sh
noncomputable def worksOv : Ov := memoOv 27 (flowersA 246 248 1) (flowersL 246 248) (spanV 1 2) noOv
set_option maxRecDepth 1000000 in
theorem works_true : resIs (.bool true) ((run Tryz.prog worksOv 1000).call 11 [] (startA 7 laidL) .none) = true := by kernel_rfl
end Go.Proofs.YtcolofoifhbdpaaGreatDoor.walk
