/- Part of a proof by a machine of ones own: see the text with the theorem. -/
import Derived.Test.YtlkklcbjjompbaaDoorShF
import Derived.Test.YtlkklcbjjompbaaDoorCT3
import Derived.KernelRfl
import Derived.Test.YtlkklcbjjompbaaDoorProg
namespace Go.Proofs.YtlkklcbjjompbaaDoor.walk
open Go Go.Sh
set_option maxRecDepth 100000
@[simp] theorem bd32_0_1 (w:AW) (x0:Int) (x1:Int):buildA Tryd.prog w 32 [(0,.int .i64 x0),(1,.int .i64 x1)]=.val (.agg ⟨[.int .i64 x0,.int .i64 x1,.slice none 0 0]⟩) w:=by kernel_rfl
@[simp] theorem al32 (w:AW):allocA Tryd.prog w 32=.val (.pointer (some ⟨w.next,0,none⟩)) ⟨w.heap.put w.next (some (.cells [.int .i64 0,.int .i64 0,.slice none 0 0] 32 false)),w.next + 1,w.lim⟩:=alloc_eq (z:=.agg ⟨[.int .i64 0,.int .i64 0,.slice none 0 0]⟩) (by kernel_rfl)
@[simp] theorem st32 (w:AW) (a:Addr) (x:Value) (hx:(cellsOf x).length=3):storeA Tryd.prog w 32 (.pointer (some a)) x=wR (wr w a.block a.off (cellsOf x)) undef:=store_eq (by kernel_rfl) a x hx
@[simp] theorem st28 (w:AW) (a:Addr) (x:Value) (hx:(cellsOf x).length=1):storeA Tryd.prog w 28 (.pointer (some a)) x=wR (wr w a.block a.off (cellsOf x)) undef:=store_eq (by kernel_rfl) a x hx
@[simp] theorem cf25 (w:AW) (l:List Value):callFn Tryd.prog w 25 l=.enter 25 l w:=callFn_of (by kernel_rfl) l
@[simp] theorem cf23 (w:AW) (l:List Value):callFn Tryd.prog w 23 l=.enter 23 l w:=callFn_of (by kernel_rfl) l
end Go.Proofs.YtlkklcbjjompbaaDoor.walk
