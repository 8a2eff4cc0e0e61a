/- Part of a proof by a machine of ones own: see the text with the theorem. -/
import Derived.Test.YtlkklcbjjompbaaDoorCWj
namespace Go.Proofs.YtlkklcbjjompbaaDoor.walk
open Go Go.Sh
set_option maxRecDepth 100000
set_option linter.unusedSimpArgs false
end Go.Proofs.YtlkklcbjjompbaaDoor.walk
namespace Go.Proofs.YtlkklcbjjompbaaDoor.walk
open Go Go.Sh
set_option maxRecDepth 100000
set_option linter.unusedSimpArgs false
def genL (f:Nat→Int) (n:Nat):List Int:=(List.range n).map f
@[simp] theorem genL_length (f:Nat→Int) (n:Nat):(genL f n).length=n:=by simp [genL]
structure In34 (we:AW) (d:List CDay) (b:CBox) (rv dv av:Value) (ws s:Int) (f:Nat→Int) (i:Nat) (w:AW):Prop where
 box:w.heap.get we.next=some (.cells (curC rv dv b av) 30 false)
 res:w.heap.get (we.next + 1)=some (.cells [.int .i64 0,.int .i64 0,.slice none 0 0] 32 false)
 tru:∃ v,w.heap.get (we.next + 2)=some (.cells [.int .i64 ws,.int .i64 s,v] 32 false)∧AccR intC 3 (we.next + 2) w v (genL f i)
 up:Up we w
 next:we.next + 3≤w.next
end Go.Proofs.YtlkklcbjjompbaaDoor.walk
namespace Go.Proofs.YtlkklcbjjompbaaDoor.walk
open Go Go.Sh
set_option maxRecDepth 100000
set_option linter.unusedSimpArgs false
def rdC (W bits:List Int) (i:Nat):CRead:=⟨wrapI (nthI bits (3 * (i:Int))) W.length,max 0 (W.getD (wrapI (nthI bits (3 * (i:Int))) W.length).toNat 0 - wrapI (nthI bits (3 * (i:Int) + 1)) 30 + wrapI (nthI bits (3 * (i:Int) + 2)) (2 * wrapI (nthI bits (3 * (i:Int) + 1)) 30 + 1)),wrapI (nthI bits (3 * (i:Int) + 1)) 30⟩
def rdCs (W bits:List Int) (n:Nat):List CRead:=(List.range n).map (rdC W bits)
@[simp] theorem rdCs_length (W bits:List Int) (n:Nat):(rdCs W bits n).length=n:=by simp [rdCs]
end Go.Proofs.YtlkklcbjjompbaaDoor.walk
namespace Go.Proofs.YtlkklcbjjompbaaDoor.walk
open Go Go.Sh
set_option maxRecDepth 100000
set_option linter.unusedSimpArgs false
end Go.Proofs.YtlkklcbjjompbaaDoor.walk
namespace Go.Proofs.YtlkklcbjjompbaaDoor.walk
open Go Go.Sh
set_option maxRecDepth 100000
set_option linter.unusedSimpArgs false
theorem wei_some {b:CBox} {L:List Sp} {l:List CRead} (hlen:L.length≤14) {x:Nat→Int} (h:SolS (L.length + 1) (gtS (losL L)) (gtS (iniW b L l)) x):∃ V,weighF b L l=some V:=by
 cases hV:weighF b L l with
 | some V=>exact ⟨V,rfl⟩
 | none =>
  exfalso
  unfold weighF at hV
  rw [losL_length] at hV
  exact nar_none (by show L.length + 1 < (iniW b L l).length; simp [iniW]; omega) hV _ h
end Go.Proofs.YtlkklcbjjompbaaDoor.walk
namespace Go.Proofs.YtlkklcbjjompbaaDoor.walk
open Go Go.Sh
set_option maxRecDepth 100000
set_option linter.unusedSimpArgs false
end Go.Proofs.YtlkklcbjjompbaaDoor.walk
namespace Go.Proofs.YtlkklcbjjompbaaDoor.walk
open Go Go.Sh
set_option maxRecDepth 100000
set_option linter.unusedSimpArgs false
end Go.Proofs.YtlkklcbjjompbaaDoor.walk
