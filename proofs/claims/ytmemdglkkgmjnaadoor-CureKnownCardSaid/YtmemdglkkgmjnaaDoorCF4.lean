/- Part of a proof by a machine of ones own: see the text with the theorem. -/
import Derived.Test.YtmemdglkkgmjnaaDoorCBase
namespace Go.Proofs.YtmemdglkkgmjnaaDoor.walk
open Go Go.Sh
noncomputable def knownOv : Ov := memoOv 31 (planA 370 450) planL planV (memoOv 31 (planA 0 300) planL planV (memoOv 19 [] laidL (.bool true) noOv))
set_option maxRecDepth 1000000 in
theorem known_true : retIs true ((run Tryd.prog knownOv 1000).call 11 [] (startA 1 laidL) .none) = true := by kernel_rfl
end Go.Proofs.YtmemdglkkgmjnaaDoor.walk
