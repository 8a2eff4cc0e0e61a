/- Part of a proof by a machine of ones own: see the text with the theorem. -/
import Derived.Test.YtlkklcbjjompbaaDoorCWj
namespace Go.Proofs.YtlkklcbjjompbaaDoor.walk
open Go Go.Sh
set_option maxRecDepth 100000
set_option linter.unusedSimpArgs false
def wrapG (n s:Int):Int:=if s < 1 then 0 else (IntKind.wrap .i64 (n.tmod s + s)).tmod s
def S36g:PSpec where
 R args _ v:=∃ n s:Int,args=[.int .i64 n,.int .i64 s]∧v=.int .i64 (wrapG n s)
 uniq:=by rintro _ _ _ _ ⟨n,s,rfl,rfl⟩ ⟨_,_,h,rfl⟩; cases h; rfl
 shut h:=h
theorem run36g {ov:Ov} (ho:∀ args w,ov 36 args w=none) (n s:Int) (w:AW):∃ v w',(run Tryd.prog ov 2).call 36 [.int .i64 n,.int .i64 s] w .none=.ok (.ret v) w' .none∧v=.int .i64 (wrapG n s):=by
 refine call_wp text36 (by simp) (ho _ _) ?_
 by_cases h1:s < 1
 ·simp [mc36,h1,tupV,wrapG]
 ·have hr:=fun (a:Int) (c:Bool) w=>bin_rem (P:=Tryd.prog) (w:=w) 3 c .i64 a s (by omega)
  simp [mc36,h1,tupV,wrapG,hr]
end Go.Proofs.YtlkklcbjjompbaaDoor.walk
namespace Go.Proofs.YtlkklcbjjompbaaDoor.walk
open Go Go.Sh
set_option maxRecDepth 100000
set_option linter.unusedSimpArgs false
def genL (f:Nat→Int) (n:Nat):List Int:=(List.range n).map f
@[simp] theorem genL_length (f:Nat→Int) (n:Nat):(genL f n).length=n:=by simp [genL]
structure In34 (we:AW) (d:List CDay) (b:CBox) (rv dv av:Value) (ws s:Int) (f:Nat→Int) (i:Nat) (w:AW):Prop where
 box:w.heap.get we.next=some (.cells (curC rv dv b av) 30 false)
 res:w.heap.get (we.next + 1)=some (.cells [.int .i64 0,.int .i64 0,.slice none 0 0] 32 false)
 tru:∃ v,w.heap.get (we.next + 2)=some (.cells [.int .i64 ws,.int .i64 s,v] 32 false)∧AccR intC 3 (we.next + 2) w v (genL f i)
 up:Up we w
 next:we.next + 3≤w.next
end Go.Proofs.YtlkklcbjjompbaaDoor.walk
namespace Go.Proofs.YtlkklcbjjompbaaDoor.walk
open Go Go.Sh
set_option maxRecDepth 100000
set_option linter.unusedSimpArgs false
def rdC (W bits:List Int) (i:Nat):CRead:=⟨wrapI (nthI bits (3 * (i:Int))) W.length,max 0 (W.getD (wrapI (nthI bits (3 * (i:Int))) W.length).toNat 0 - wrapI (nthI bits (3 * (i:Int) + 1)) 30 + wrapI (nthI bits (3 * (i:Int) + 2)) (2 * wrapI (nthI bits (3 * (i:Int) + 1)) 30 + 1)),wrapI (nthI bits (3 * (i:Int) + 1)) 30⟩
def rdCs (W bits:List Int) (n:Nat):List CRead:=(List.range n).map (rdC W bits)
@[simp] theorem rdCs_length (W bits:List Int) (n:Nat):(rdCs W bits n).length=n:=by simp [rdCs]
end Go.Proofs.YtlkklcbjjompbaaDoor.walk
namespace Go.Proofs.YtlkklcbjjompbaaDoor.walk
open Go Go.Sh
set_option maxRecDepth 100000
set_option linter.unusedSimpArgs false
end Go.Proofs.YtlkklcbjjompbaaDoor.walk
namespace Go.Proofs.YtlkklcbjjompbaaDoor.walk
open Go Go.Sh
set_option maxRecDepth 100000
set_option linter.unusedSimpArgs false
end Go.Proofs.YtlkklcbjjompbaaDoor.walk
namespace Go.Proofs.YtlkklcbjjompbaaDoor.walk
open Go Go.Sh
set_option maxRecDepth 100000
set_option linter.unusedSimpArgs false
end Go.Proofs.YtlkklcbjjompbaaDoor.walk
namespace Go.Proofs.YtlkklcbjjompbaaDoor.walk
open Go Go.Sh
set_option maxRecDepth 100000
set_option linter.unusedSimpArgs false
end Go.Proofs.YtlkklcbjjompbaaDoor.walk
