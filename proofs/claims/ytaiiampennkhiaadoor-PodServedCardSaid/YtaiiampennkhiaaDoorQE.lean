/- Part of a proof by a machine of ones own: see the text with the theorem. -/
import Derived.Test.YtaiiampennkhiaaDoorQHb
namespace Go.Proofs.YtaiiampennkhiaaDoor.walk
open Go Go.Sh
open known (partsC laidL noOv)
set_option maxRecDepth 100000
set_option linter.unusedSimpArgs false
noncomputable def F35:PureF:=fun args _=>match args with | [.int .i64 a,.int .i64 b]=>some (.agg ⟨[.int .i64 a,.int .i64 b]⟩) | _=>none
theorem run35 {ov:Ov} (ho:∀ args w,ov 35 args w=none) (a b:Int) (w:AW) (hl:w.lim≤w.next):∃ v w',(run Tryd.prog ov 2).call 35 [.int .i64 a,.int .i64 b] w .none=.ok (.ret v) w' .none∧v=.agg ⟨[.int .i64 a,.int .i64 b]⟩:=by
 refine call_wp text35 (by simp) (ho _ _) ?_
 simp [mc35,hl,tupV]
structure In9 (w0:AW) (p:Pod) (sC:List Value) (seen:List Yl) (w:AW):Prop where
 base:Base w0.heap w0.next (podC p) 30 w
 pods:w.heap.get (w0.next + 1)=some (.cells (podC p) 30 false)
 sum:w.heap.get (w0.next + 3)=some (.cells sC 41 false)
 all:∃ cur:List Value,w.heap.get (w0.next + 4)=some (.cells cur 41 false)∧(∃ a b c d e f:Int,cur=[.int .i64 a,.int .i64 b,.int .i64 c,.int .i64 d,.int .i64 e,.int .i64 f])∧(seen ≠ []→cur=sixC (endsY seen))
 next:w0.next + 4 < w.next
theorem In9.step {w0 w w1:AW} {p:Pod} {sC:List Value} {seen seen':List Yl} (hw:In9 w0 p sC seen w) (h1:∀ x,x < w.next→x ≠ w0.next + 4→w1.heap.get x=w.heap.get x) (h2:w.next≤w1.next) (h3:w1.lim=w.lim) {e':Yl × Yl} (he:sixC e'=sixC (endsY seen')) :
  In9 w0 p sC seen' ⟨w1.heap.put (w0.next + 4) (some (.cells (sixC e') 41 false)),w1.next,w1.lim⟩:=by
 have hn:=hw.next
 refine ⟨⟨fun b hb=>?_,?_,by show w0.next < w1.next; omega,by show w1.lim≤w0.next; rw [h3]; exact hw.base.lim⟩,?_,?_,⟨sixC e',?_,⟨_,_,_,_,_,_,rfl⟩,fun _=>he⟩,by show w0.next + 4 < w1.next; omega⟩
 ·show (w1.heap.put (w0.next + 4) _).get b=_
  rw [get_put,if_neg (by omega),h1 b (by omega) (by omega),hw.base.old b hb]
 ·show (w1.heap.put (w0.next + 4) _).get w0.next=_
  rw [get_put,if_neg (by omega),h1 _ (by omega) (by omega),hw.base.box]
 ·show (w1.heap.put (w0.next + 4) _).get (w0.next + 1)=_
  rw [get_put,if_neg (by omega),h1 _ (by omega) (by omega),hw.pods]
 ·show (w1.heap.put (w0.next + 4) _).get (w0.next + 3)=_
  rw [get_put,if_neg (by omega),h1 _ (by omega) (by omega),hw.sum]
 ·show (w1.heap.put (w0.next + 4) _).get (w0.next + 4)=_
  rw [get_put,if_pos rfl]
end Go.Proofs.YtaiiampennkhiaaDoor.walk
