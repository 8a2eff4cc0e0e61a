/- Part of a proof: see the text with the theorem. -/
import Derived.Test.YtiokkkjahkhbfaaUg
import Derived.KernelRfl
set_option linter.all false
namespace Go.Proofs.Ytiokkkjahkhbfaa.walk
open Go Go.Sh
set_option maxRecDepth 1000000 in
theorem most:resIs mostV ((run Try.prog pureOv 1000).call 16 seasonA (startA 156 seasonL) .none)=true:=by kernel_rfl
end Go.Proofs.Ytiokkkjahkhbfaa.walk
