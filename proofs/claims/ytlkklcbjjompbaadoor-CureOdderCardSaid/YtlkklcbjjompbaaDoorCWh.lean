/- Part of a proof by a machine of ones own: see the text with the theorem. -/
import Derived.Test.YtlkklcbjjompbaaDoorCWf
import Derived.Test.YtlkklcbjjompbaaDoorCWg
import Derived.Test.YtlkklcbjjompbaaDoorCT5
namespace Go.Proofs.YtlkklcbjjompbaaDoor.walk
open Go Go.Sh
set_option maxRecDepth 100000
set_option linter.unusedSimpArgs false
end Go.Proofs.YtlkklcbjjompbaaDoor.walk
namespace Go.Proofs.YtlkklcbjjompbaaDoor.walk
open Go Go.Sh
set_option maxRecDepth 100000
set_option linter.unusedSimpArgs false
def rowN (n:Nat) (Y:Nat→Int):List Int:=(List.range (n + 1)).map Y
@[simp] theorem rowN_length (n:Nat) (Y:Nat→Int):(rowN n Y).length=n + 1:=by simp [rowN]
structure In40 (we:AW) (r:List CAct) (d:List CDay) (b:CBox) (acts:List Int) (rv dv av:Value) (n:Nat) (Y:Nat→Int) (w:AW):Prop where
 box:w.heap.get we.next=some (.cells (curC rv dv b av) 30 false)
 row:w.heap.get (we.next + 1)=some (.cells ((rowN n Y).flatMap intC) 3 false)
 up:Up we w
 next:we.next + 2≤w.next
structure KeepC (t t':Tm):Prop where
 k1:tget t' 1=tget t 1
 k2:tget t' 2=tget t 2
 k4:tget t' 4=tget t 4
 k10:tget t' 10=tget t 10
end Go.Proofs.YtlkklcbjjompbaaDoor.walk
namespace Go.Proofs.YtlkklcbjjompbaaDoor.walk
open Go Go.Sh
set_option maxRecDepth 100000
set_option linter.unusedSimpArgs false
end Go.Proofs.YtlkklcbjjompbaaDoor.walk
namespace Go.Proofs.YtlkklcbjjompbaaDoor.walk
open Go Go.Sh
set_option maxRecDepth 100000
set_option linter.unusedSimpArgs false
def difL (n:Nat) (x:Nat→Int):List Int:=(List.range n).map fun k=>x k - x (k + 1)
@[simp] theorem difL_length (n:Nat) (x:Nat→Int):(difL n x).length=n:=by simp [difL]
structure In41 (we:AW) (r:List CAct) (d:List CDay) (b:CBox) (rv dv av:Value) (x0 sol:Int) (i:Nat) (x:Nat→Int) (w:AW):Prop where
 box:w.heap.get we.next=some (.cells (curC rv dv b av) 30 false)
 tru:∃ v,w.heap.get (we.next + 1)=some (.cells [.int .i64 x0,.int .i64 sol,v] 32 false)∧AccR intC 3 (we.next + 1) w v (difL i x)
 up:Up we w
 next:we.next + 2≤w.next
end Go.Proofs.YtlkklcbjjompbaaDoor.walk
