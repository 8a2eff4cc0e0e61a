/- Part of a proof: see the text with the theorem. -/
import Derived.Test.YtiokkkjahkhbfaaUi
import Derived.KernelRfl
set_option linter.all false
namespace Go.Proofs.Ytiokkkjahkhbfaa.walk
open Go Go.Sh
noncomputable def worksOv:Ov:=memoOv 16 seasonA seasonL mostV pureO2
set_option maxRecDepth 1000000 in
theorem works_true:resIs (.bool true) ((run Try.prog worksOv 1000).call 18 [] (startA 0 []) .none)=true:=by kernel_rfl
end Go.Proofs.Ytiokkkjahkhbfaa.walk
