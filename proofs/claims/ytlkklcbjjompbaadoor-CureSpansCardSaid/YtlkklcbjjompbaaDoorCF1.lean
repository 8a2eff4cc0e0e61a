/- Part of a proof by a machine of ones own: see the text with the theorem. -/
import Derived.Test.YtlkklcbjjompbaaDoorCBase
namespace Go.Proofs.YtlkklcbjjompbaaDoor.walk
open Go Go.Sh
set_option maxRecDepth 1000000 in
theorem works_true:resIs (.bool true) ((run Tryd.prog noOv 1000).call 19 [] (startA 1 laidL) .none)=true:=by kernel_rfl
end Go.Proofs.YtlkklcbjjompbaaDoor.walk
