/- Part of a proof by a machine of ones own: see the text with the theorem. -/
import Derived.Test.YtaiiampennkhiaaDoorQWb
namespace Go.Proofs.YtaiiampennkhiaaDoor.walk
open Go Go.Sh
open known (partsC laidL noOv)
set_option maxRecDepth 100000
end Go.Proofs.YtaiiampennkhiaaDoor.walk
namespace Go.Proofs.YtaiiampennkhiaaDoor.walk
open Go Go.Sh
open known (partsC laidL noOv)
set_option maxRecDepth 100000
end Go.Proofs.YtaiiampennkhiaaDoor.walk
namespace Go.Proofs.YtaiiampennkhiaaDoor.walk
open Go Go.Sh
open known (partsC laidL noOv)
set_option maxRecDepth 100000
structure In20 (H0:T AObj) (n0:Nat) (bx:List Value) (s:Yl) (w:AW):Prop where
 base:Base H0 n0 bx 35 w
 res:w.heap.get (n0 + 1)=some (.cells (ylC ⟨0,0,0,0⟩) 37 false)
 acc:w.heap.get (n0 + 2)=some (.cells (ylC s) 37 false)
 next:n0 + 2 < w.next
theorem In20.step {H0:T AObj} {n0:Nat} {bx:List Value} {s s':Yl} {w w1:AW} (hw:In20 H0 n0 bx s w) (h1:∀ x,x < w.next→w1.heap.get x=w.heap.get x) (h2:w.next≤w1.next) (h3:w1.lim=w.lim) :
  In20 H0 n0 bx s' ⟨w1.heap.put (n0 + 2) (some (.cells (ylC s') 37 false)),w1.next,w1.lim⟩:=by
 have hn:=hw.next
 refine ⟨⟨fun b hb=>?_,?_,by show n0 < w1.next; omega,by show w1.lim≤n0; rw [h3]; exact hw.base.lim⟩,?_,?_,by show n0 + 2 < w1.next; omega⟩
 ·show (w1.heap.put (n0 + 2) _).get b=_
  rw [get_put,if_neg (by omega),h1 b (by omega),hw.base.old b hb]
 ·show (w1.heap.put (n0 + 2) _).get n0=_
  rw [get_put,if_neg (by omega),h1 n0 (by omega),hw.base.box]
 ·show (w1.heap.put (n0 + 2) _).get (n0 + 1)=_
  rw [get_put,if_neg (by omega),h1 (n0 + 1) (by omega),hw.res]
 ·show (w1.heap.put (n0 + 2) _).get (n0 + 2)=_
  rw [get_put,if_pos rfl]
end Go.Proofs.YtaiiampennkhiaaDoor.walk
