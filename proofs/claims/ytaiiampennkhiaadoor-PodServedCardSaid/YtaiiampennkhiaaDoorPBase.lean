/- Part of a proof by a machine of ones own: see the text with the theorem. -/
import Derived.Test.YtaiiampennkhiaaDoorShE
import Derived.KernelRfl
import Derived.Test.YtaiiampennkhiaaDoorProg
namespace Go.Proofs.YtaiiampennkhiaaDoor.known
open Go Go.Sh
noncomputable def noOv:Ov:=fun _ _ _=>none
noncomputable def partsC:List Value:=[0,1,0,0,1,0,0,0,0,0,1,0,0,0,0,1].map fun z=>Value.int .i64 z
noncomputable def laidL:List LaidV:=[(0,partsC,122)]
def podsC:List Value:=[.string ⟨⟨[97]⟩⟩,.int .i64 10,.int .i64 240,.int .i64 260,.int .i64 30,.int .i64 40,.int .i64 8,.int .i64 10,.string ⟨⟨[98]⟩⟩,.int .i64 30,.int .i64 250,.int .i64 255,.int .i64 20,.int .i64 30,.int .i64 5,.int .i64 5,.string ⟨⟨[99]⟩⟩,.int .i64 12,.int .i64 250,.int .i64 280,.int .i64 20,.int .i64 25,.int .i64 9,.int .i64 9]
end Go.Proofs.YtaiiampennkhiaaDoor.known
