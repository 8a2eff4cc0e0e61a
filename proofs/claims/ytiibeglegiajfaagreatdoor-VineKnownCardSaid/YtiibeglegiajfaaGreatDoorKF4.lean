/- Part of a proof by a machine of ones own: see the text with the theorem. -/
import Derived.Test.YtiibeglegiajfaaGreatDoorKBase
import Derived.KernelRfl
namespace Go.Proofs.YtiibeglegiajfaaGreatDoor.known
open Go Go.Sh
noncomputable def knownOv : Ov := memoOv 33 (flowersA 885 887 2) (flowersL 885 887) (spanV 1 1) (memoOv 21 [] laidL (.bool true) noOv)
set_option maxRecDepth 1000000 in
theorem known_true : retIs true ((run Tryz.prog knownOv 1000).call 14 [] (startA 7 laidL) .none) = true := by kernel_rfl
end Go.Proofs.YtiibeglegiajfaaGreatDoor.known
