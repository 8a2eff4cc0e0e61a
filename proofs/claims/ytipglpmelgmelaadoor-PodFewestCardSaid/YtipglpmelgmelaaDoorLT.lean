/- Part of a proof by a machine of ones own: see the text with the theorem. -/
import Derived.Test.YtipglpmelgmelaaDoorSWc
import Derived.Test.YtipglpmelgmelaaDoorQB
import Derived.KernelRfl
import Derived.Test.YtipglpmelgmelaaDoorProg
namespace Go.Proofs.YtipglpmelgmelaaDoor.walk
open Go Go.Sh
set_option maxRecDepth 100000
/-! what is asked of types -/
@[simp] theorem bd22_n0 (w : AW)  : buildSliceA Tryd.prog w 22 0 [] = .val (.slice (some ⟨w.next, 0, none⟩) 0 0) ⟨w.heap.put w.next (some (.cells [] 30 false)), w.next + 1, w.lim⟩ := by kernel_rfl
/-! the texts, made flat -/
end Go.Proofs.YtipglpmelgmelaaDoor.walk
