/- Part of a proof by a machine of ones own: see the text with the theorem. -/
import Derived.Test.YtiibeglegiajfabHBase
import Derived.KernelRfl
namespace Go.Proofs.Ytiibeglegiajfab.known
open Go Go.Sh
noncomputable def knownOv : Ov := memoOv 18 [] [] (.bool true) noOv
set_option maxRecDepth 1000000 in
theorem known_true : retIs true ((run Try.prog knownOv 1000).call 10 [] (startA 0 []) .none) = true := by kernel_rfl
end Go.Proofs.Ytiibeglegiajfab.known
