/- Part of a proof by a machine of ones own: see the text with the theorem. -/
import Derived.Test.YtaiiampennkhiaaDoorQHa
namespace Go.Proofs.YtaiiampennkhiaaDoor.walk
open Go Go.Sh
open known (partsC laidL noOv)
set_option maxRecDepth 100000
def sixC (e:Yl × Yl):List Value:=[.int .i64 e.1.ripe,.int .i64 e.2.ripe,.int .i64 e.1.green,.int .i64 e.2.green,.int .i64 e.1.split,.int .i64 e.2.split]
@[simp] theorem sixC_length (e:Yl × Yl):(sixC e).length=6:=by simp [sixC]
@[simp] theorem sixC_singles (e:Yl × Yl):singles (sixC e)=true:=by simp [sixC]
@[simp] theorem sixC_take (e:Yl × Yl):(sixC e).take 6=sixC e:=by simp [sixC]
@[simp] theorem sixC_drop (e:Yl × Yl):(sixC e).drop 6=[]:=by simp [sixC]
structure In57 (w0:AW) (p:Pod) (e:Yl × Yl) (w:AW):Prop where
 base:Base w0.heap w0.next (podC p) 30 w
 res:w.heap.get (w0.next + 1)=some (.cells zero6 41 false)
 acc:w.heap.get (w0.next + 3)=some (.cells (sixC e) 41 false)
 next:w0.next + 3 < w.next
theorem In57.step {w0 w w1:AW} {p:Pod} {e e':Yl × Yl} (hw:In57 w0 p e w) (h1:∀ x,x < w.next→w1.heap.get x=w.heap.get x) (h2:w.next≤w1.next) (h3:w1.lim=w.lim) :
  In57 w0 p e' ⟨w1.heap.put (w0.next + 3) (some (.cells (sixC e') 41 false)),w1.next,w1.lim⟩:=by
 have hn:=hw.next
 refine ⟨⟨fun b hb=>?_,?_,by show w0.next < w1.next; omega,by show w1.lim≤w0.next; rw [h3]; exact hw.base.lim⟩,?_,?_,by show w0.next + 3 < w1.next; omega⟩
 ·show (w1.heap.put (w0.next + 3) _).get b=_
  rw [get_put,if_neg (by omega),h1 b (by omega),hw.base.old b hb]
 ·show (w1.heap.put (w0.next + 3) _).get w0.next=_
  rw [get_put,if_neg (by omega),h1 _ (by omega),hw.base.box]
 ·show (w1.heap.put (w0.next + 3) _).get (w0.next + 1)=_
  rw [get_put,if_neg (by omega),h1 _ (by omega),hw.res]
 ·show (w1.heap.put (w0.next + 3) _).get (w0.next + 3)=_
  rw [get_put,if_pos rfl]
end Go.Proofs.YtaiiampennkhiaaDoor.walk
namespace Go.Proofs.YtaiiampennkhiaaDoor.walk
open Go Go.Sh
open known (partsC laidL noOv)
set_option maxRecDepth 100000
structure In22 (w0:AW) (e:Yl × Yl) (w:AW):Prop where
 base:Base w0.heap w0.next zero6 41 w
 acc:w.heap.get (w0.next + 1)=some (.cells (sixC e) 41 false)
 next:w0.next + 1 < w.next
theorem In22.step {w0 w w1:AW} {e e':Yl × Yl} (hw:In22 w0 e w) (h1:∀ x,x < w.next→w1.heap.get x=w.heap.get x) (h2:w.next≤w1.next) (h3:w1.lim=w.lim) :
  In22 w0 e' ⟨w1.heap.put (w0.next + 1) (some (.cells (sixC e') 41 false)),w1.next,w1.lim⟩:=by
 have hn:=hw.next
 refine ⟨⟨fun b hb=>?_,?_,by show w0.next < w1.next; omega,by show w1.lim≤w0.next; rw [h3]; exact hw.base.lim⟩,?_,by show w0.next + 1 < w1.next; omega⟩
 ·show (w1.heap.put (w0.next + 1) _).get b=_
  rw [get_put,if_neg (by omega),h1 b (by omega),hw.base.old b hb]
 ·show (w1.heap.put (w0.next + 1) _).get w0.next=_
  rw [get_put,if_neg (by omega),h1 _ (by omega),hw.base.box]
 ·show (w1.heap.put (w0.next + 1) _).get (w0.next + 1)=_
  rw [get_put,if_pos rfl]
end Go.Proofs.YtaiiampennkhiaaDoor.walk
namespace Go.Proofs.YtaiiampennkhiaaDoor.walk
open Go Go.Sh
open known (partsC laidL noOv)
set_option maxRecDepth 100000
@[simp] theorem old_same (n:Nat) (H:T AObj):Old n H H:=Old.refl n H
@[simp] theorem old_put {n k:Nat} {H H':T AObj} {o:Option AObj} (h:Old n H H') (hk:n≤k):Old n H (H'.put k o):=h.put hk
theorem weiC_six (l:List Pod) (pl:List Int):∃ a b c d e f:Int,weiC l pl=[.int .i64 a,.int .i64 b,.int .i64 c,.int .i64 d,.int .i64 e,.int .i64 f]:=by
 unfold weiC
 split
 ·exact ⟨_,_,_,_,_,_,rfl⟩
 ·exact ⟨_,_,_,_,_,_,rfl⟩
end Go.Proofs.YtaiiampennkhiaaDoor.walk
