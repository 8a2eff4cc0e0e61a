/- Part of a proof by a machine of ones own: see the text with the theorem. -/
import Derived.Test.YtlkklcbjjompbaaDoorShF
import Derived.Test.YtlkklcbjjompbaaDoorCT2
import Derived.KernelRfl
import Derived.Test.YtlkklcbjjompbaaDoorProg
namespace Go.Proofs.YtlkklcbjjompbaaDoor.walk
open Go Go.Sh
set_option maxRecDepth 100000
@[simp] theorem ld30 (w:AW) (a:Addr):loadA Tryd.prog w 30 (.pointer (some a))=vR w (aggM (rd w a.block a.off 7)):=load_agg (by kernel_rfl) (by kernel_rfl) a
@[simp] theorem al30 (w:AW):allocA Tryd.prog w 30=.val (.pointer (some ⟨w.next,0,none⟩)) ⟨w.heap.put w.next (some (.cells [.slice none 0 0,.slice none 0 0,.int .i64 0,.int .i64 0,.int .i64 0,.int .i64 0,.slice none 0 0] 30 false)),w.next + 1,w.lim⟩:=alloc_eq (z:=.agg ⟨[.slice none 0 0,.slice none 0 0,.int .i64 0,.int .i64 0,.int .i64 0,.int .i64 0,.slice none 0 0]⟩) (by kernel_rfl)
@[simp] theorem st30 (w:AW) (a:Addr) (x:Value) (hx:(cellsOf x).length=7):storeA Tryd.prog w 30 (.pointer (some a)) x=wR (wr w a.block a.off (cellsOf x)) undef:=store_eq (by kernel_rfl) a x hx
@[simp] theorem bd27_0_1 (w:AW) (x0_0 x0_1:Value) (x1_0 x1_1:Value):buildA Tryd.prog w 27 [(0,.agg ⟨[x0_0,x0_1]⟩),(1,.agg ⟨[x1_0,x1_1]⟩)]=.val (.agg ⟨[x0_0,x0_1,x1_0,x1_1]⟩) w:=by kernel_rfl
@[simp] theorem st27 (w:AW) (a:Addr) (x:Value) (hx:(cellsOf x).length=4):storeA Tryd.prog w 27 (.pointer (some a)) x=wR (wr w a.block a.off (cellsOf x)) undef:=store_eq (by kernel_rfl) a x hx
@[simp] theorem bd22_n0 (w:AW) :buildSliceA Tryd.prog w 22 0 []=.val (.slice (some ⟨w.next,0,none⟩) 0 0) ⟨w.heap.put w.next (some (.cells [] 78 false)),w.next + 1,w.lim⟩:=by kernel_rfl
@[simp] theorem st22 (w:AW) (a:Addr) (x:Value) (hx:(cellsOf x).length=1):storeA Tryd.prog w 22 (.pointer (some a)) x=wR (wr w a.block a.off (cellsOf x)) undef:=store_eq (by kernel_rfl) a x hx
@[simp] theorem cf20 (w:AW) (l:List Value):callFn Tryd.prog w 20 l=.enter 20 l w:=callFn_of (by kernel_rfl) l
end Go.Proofs.YtlkklcbjjompbaaDoor.walk
namespace Go.Proofs.YtlkklcbjjompbaaDoor.walk
open Go Go.Sh
set_option maxRecDepth 100000
end Go.Proofs.YtlkklcbjjompbaaDoor.walk
