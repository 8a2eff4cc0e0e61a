/- Part of a proof by a machine of ones own: see the text with the theorem. -/
import Derived.Test.YtaffhippclpbpaaMBase
namespace Go.Proofs.Ytaffhippclpbpaa.walk
open Go Go.Sh
set_option maxRecDepth 1000000 in
theorem works_true : resIs (.bool true) ((run Try.prog worksOv 1000).call 11 [] (startA 0 []) .none) = true := by kernel_rfl
end Go.Proofs.Ytaffhippclpbpaa.walk
