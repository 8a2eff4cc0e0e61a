/- Part of a proof by a machine of ones own: see the text with the theorem. -/
import Derived.Test.YtmemdglkkgmjnaaDoorCBase
namespace Go.Proofs.YtmemdglkkgmjnaaDoor.walk
open Go Go.Sh
set_option maxRecDepth 1000000 in
theorem plan3 : resIs planV ((run Tryd.prog noOv 1000).call 31 (planA 0 300) (startA 13 planL) .none) = true := by kernel_rfl
end Go.Proofs.YtmemdglkkgmjnaaDoor.walk
