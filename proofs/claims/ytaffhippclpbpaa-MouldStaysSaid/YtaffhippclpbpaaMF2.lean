/- Part of a proof by a machine of ones own: see the text with the theorem. -/
import Derived.Test.YtaffhippclpbpaaMBase
namespace Go.Proofs.Ytaffhippclpbpaa.walk
open Go Go.Sh
set_option maxRecDepth 1000000 in
theorem worst1 : resIs (.int .i64 4) ((run Try.prog noOv 1000).call 58 (worstA 1) (startA 566 worstL) .none) = true := by kernel_rfl
end Go.Proofs.Ytaffhippclpbpaa.walk
