/- Part of a proof by a machine of ones own: see the text with the theorem. -/
import Derived.Test.YtiibeglegiajfabHBase
import Derived.KernelRfl
namespace Go.Proofs.Ytiibeglegiajfab.known
open Go Go.Sh
noncomputable def worksOv : Ov := memoOv 16 seasonA seasonL mostV noOv
set_option maxRecDepth 1000000 in
theorem works_true : resIs (.bool true) ((run Try.prog worksOv 1000).call 18 [] (startA 0 []) .none) = true := by kernel_rfl
end Go.Proofs.Ytiibeglegiajfab.known
