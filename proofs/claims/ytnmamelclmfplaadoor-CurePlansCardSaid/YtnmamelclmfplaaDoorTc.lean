/- Part of a proof: see the text with the theorem. -/
import Derived.Test.YtnmamelclmfplaaDoorShF
import Derived.Test.YtnmamelclmfplaaDoorTb
import Derived.KernelRfl
import Derived.Test.YtnmamelclmfplaaDoorProg
set_option linter.all false
namespace Go.Proofs.YtnmamelclmfplaaDoor.walk
open Go Go.Sh
set_option maxRecDepth 100000
@[simp] theorem st28 (w:AW) (a:Addr) (x:Value) (hx:(cellsOf x).length=1):storeA Tryd.prog w 28 (.pointer (some a)) x=wR (wr w a.block a.off (cellsOf x)) undef:=store_eq (by kernel_rfl) a x hx
@[simp] theorem al28 (w:AW):allocA Tryd.prog w 28=.val (.pointer (some ⟨w.next,0,none⟩)) ⟨w.heap.put w.next (some (.cells [.slice none 0 0] 28 false)),w.next + 1,w.lim⟩:=alloc_eq (z:=.slice none 0 0) (by kernel_rfl)
end Go.Proofs.YtnmamelclmfplaaDoor.walk
