/- Part of a proof by a machine of ones own: see the text with the theorem. -/
import Derived.Test.YtlkklcbjjompbaaDoorShE
import Derived.KernelRfl
import Derived.Test.YtlkklcbjjompbaaDoorProg
namespace Go.Proofs.YtlkklcbjjompbaaDoor.walk
open Go Go.Sh
noncomputable def noOv:Ov:=fun _ _ _=>none
def limI:List Int:=[0,60,1,14,0,10000,1,1000000,0,1010000,0,10000,0,1000]
noncomputable def limC:List Value:=limI.map fun z=>Value.int .i64 z
noncomputable def laidL:List LaidV:=[(0,limC,141)]
end Go.Proofs.YtlkklcbjjompbaaDoor.walk
