/- Part of a proof by a machine of ones own: see the text with the theorem. -/
import Derived.Test.YtaffhippclpbpaaMBase
namespace Go.Proofs.Ytaffhippclpbpaa.walk
open Go Go.Sh
set_option maxRecDepth 1000000 in
theorem can1_true : resIs canR ((run Try.prog noOv 1000).call 18 canA1 (startA 703 canL1) .none) = true := by kernel_rfl
end Go.Proofs.Ytaffhippclpbpaa.walk
