/- Part of a proof by a machine of ones own: see the text with the theorem. -/
import Derived.Test.YtaiiampennkhiaaDoorSWc
import Derived.Test.YtaiiampennkhiaaDoorQB
import Derived.KernelRfl
import Derived.Test.YtaiiampennkhiaaDoorProg
namespace Go.Proofs.YtaiiampennkhiaaDoor.walk
open Go Go.Sh
set_option maxRecDepth 100000
@[simp] theorem bd22_n0 (w:AW) :buildSliceA Tryd.prog w 22 0 []=.val (.slice (some ⟨w.next,0,none⟩) 0 0) ⟨w.heap.put w.next (some (.cells [] 30 false)),w.next + 1,w.lim⟩:=by kernel_rfl
end Go.Proofs.YtaiiampennkhiaaDoor.walk
