/- Part of a proof by a machine of ones own: see the text with the theorem. -/
import Derived.Test.YtlkklcbjjompbaaDoorCT3
import Derived.Test.YtlkklcbjjompbaaDoorCWf
namespace Go.Proofs.YtlkklcbjjompbaaDoor.walk
open Go Go.Sh
set_option maxRecDepth 100000
set_option linter.unusedSimpArgs false
def wrapI (n s:Int):Int:=if s < 1 then 0 else (n.tmod s + s).tmod s
def nthI (L:List Int) (i:Int):Int:=match L[(wrapI i L.length).toNat]? with | some z=>z | none=>0
def withI (lo hi n:Int):Int:=lo + wrapI n (hi - lo + 1)
def partS (bits:List Int) (s:Sp) (n:Int):Sp:=(withI s.1 s.2 (nthI bits n),withI (withI s.1 s.2 (nthI bits n)) s.2 (nthI bits (n + 1)))
end Go.Proofs.YtlkklcbjjompbaaDoor.walk
namespace Go.Proofs.YtlkklcbjjompbaaDoor.walk
open Go Go.Sh
set_option maxRecDepth 100000
set_option linter.unusedSimpArgs false
def dA:CAct:=⟨0,0,false,false,0,0,0⟩
def parA (bits:List Int) (i:Nat) (a:CAct):CAct:={ a with ll:=(partS bits (a.ll,a.lh) (2 * (i:Int) + 3)).1,lh:=(partS bits (a.ll,a.lh) (2 * (i:Int) + 3)).2 }
def parR (bits:List Int) (r:List CAct) (i:Nat):List CAct:=(List.range r.length).map fun k=>if k < i then parA bits k (r.getD k dA) else r.getD k dA
@[simp] theorem parR_length (bits:List Int) (r:List CAct) (i:Nat):(parR bits r i).length=r.length:=by simp [parR]
end Go.Proofs.YtlkklcbjjompbaaDoor.walk
namespace Go.Proofs.YtlkklcbjjompbaaDoor.walk
open Go Go.Sh
set_option maxRecDepth 100000
set_option linter.unusedSimpArgs false
theorem los_at {L:List Sp} {k:Nat} (h:k < L.length):gtS (losL L) k=gtS L k:=by
 unfold gtS losL
 rw [List.getD_eq_getElem?_getD,List.getD_eq_getElem?_getD,List.getElem?_append_left h]
theorem ini_nil (b:CBox) (n i k:Nat):iniF b n [] i k=iniG b n k:=by
 unfold iniF
 split <;> rfl
theorem ini_sub {b b':CBox} (n k:Nat) (h1:b.wl≤b'.wl∧b'.wh≤b.wh) (h2:b.sl≤b'.sl∧b'.sh≤b.sh):subS (iniG b' n k) (iniG b n k):=by
 unfold iniG
 repeat' split
 ·exact h2
 ·exact h1
 ·exact subS.refl _
 ·exact subS.refl _
theorem inn_sub {x:Int} {a b:Sp} (h:inn x a) (k:subS a b):inn x b:=by
 unfold inn at *; unfold subS at k; omega
structure ParW (b b':CBox) (L L':List Sp):Prop where
 len:L'.length=L.length
 los:∀ k,subS (gtS (losL L') k) (gtS (losL L) k)
 w:b.wl≤b'.wl∧b'.wh≤b.wh
 s:b.sl≤b'.sl∧b'.sh≤b.sh
theorem ParW.sol {b b':CBox} {L L':List Sp} (h:ParW b b' L L') (hlen:L.length≤14) {x:Nat→Int} (hx:SolS (L.length + 1) (gtS (losL L')) (gtS (iniW b' L' [])) x):SolS (L.length + 1) (gtS (losL L)) (gtS (iniW b L [])) x:=by
 refine ⟨fun i hi=>?_,fun i hi=>inn_sub (hx.2 i hi) (h.los i)⟩
 have h1:=hx.1 i hi
 unfold iniW at h1 ⊢
 rw [mkW_at _ (by omega),ini_nil] at h1 ⊢
 rw [h.len] at h1
 exact inn_sub h1 (ini_sub _ _ h.w h.s)
end Go.Proofs.YtlkklcbjjompbaaDoor.walk
namespace Go.Proofs.YtlkklcbjjompbaaDoor.walk
open Go Go.Sh
set_option maxRecDepth 100000
set_option linter.unusedSimpArgs false
structure In10 (w1:AW) (C R:Nat) (cs:List Value) (row:List CAct) (w:AW):Prop where
 box:w.heap.get C=some (.cells (.slice (some ⟨R,0,none⟩) row.length row.length::cs) 30 false)
 row:w.heap.get R=some (.cells (row.flatMap actC) 78 false)
 up:Up w1 w
 lt:C < w.next∧R < w.next
structure KeepA (t t':Tm):Prop where
 k3:tget t' 3=tget t 3
 k4:tget t' 4=tget t 4
 k6:tget t' 6=tget t 6
 k7:tget t' 7=tget t 7
 k10:tget t' 10=tget t 10
end Go.Proofs.YtlkklcbjjompbaaDoor.walk
