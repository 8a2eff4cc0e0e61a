/- Part of a proof by a machine of ones own: see the text with the theorem. -/
import Derived.Test.YthfidomphkednaaABase
namespace Go.Proofs.Ythfidomphkednaa.walk
open Go Go.Sh
set_option maxRecDepth 1000000 in
theorem works_true : resIs (.bool true) ((run Try.prog noOv 1000).call 19 [] (startA 0 []) .none) = true := by kernel_rfl
end Go.Proofs.Ythfidomphkednaa.walk
