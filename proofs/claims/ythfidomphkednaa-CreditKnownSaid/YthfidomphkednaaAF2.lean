/- Part of a proof by a machine of ones own: see the text with the theorem. -/
import Derived.Test.YthfidomphkednaaABase
namespace Go.Proofs.Ythfidomphkednaa.walk
open Go Go.Sh
set_option maxRecDepth 1000000 in
theorem known_true : retIs true ((run Try.prog knownOv 1000).call 13 [] (startA 0 []) .none) = true := by kernel_rfl
end Go.Proofs.Ythfidomphkednaa.walk
