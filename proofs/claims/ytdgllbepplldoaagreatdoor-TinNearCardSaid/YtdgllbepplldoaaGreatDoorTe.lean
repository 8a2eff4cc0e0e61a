/-
  rostellumlaw08.TinNear (the codes that Near names are true, as long as the text, in order, and each one sign or one exchange away; a true code has none) answers true whatever the text is, and it reads behind the call as before.
  Conditions: those of the given row alone (its listed variables of the library and of the program hold what their initialisers lay; the card ties them to the text of the program).
  How: a machine of its own (the texts Sh) is proved to say of each call what the model does, whatever order is drawn; the library's sort of texts is proved to order (IO), Near's list is the true codes among the faults of the text (TN2, IA), and each of them differs from the text at one place or at two neighbours that change places (IL).
-/
import Derived.Test.YtdgllbepplldoaaGreatDoorTd
import Derived.Test.YtdgllbepplldoaaGreatDoorTb
import Derived.Test.YtdgllbepplldoaaGreatDoorShF
import Derived.Test.YtdgllbepplldoaaGreatDoorShE
import Derived.KernelRfl
import Derived.Test.YtdgllbepplldoaaGreatDoorProg
import Derived.Test.YtdgllbepplldoaaGreatDoorCards
import Derived.Test.YtdgllbepplldoaaGreatDoorTie
import Derived.WalkKit
import Derived.ProofKit
import Derived.OpenShut
import Derived.Deep.DeepHandedRow
import Derived.Deep.DeepWitnessRowRef
set_option linter.all false
namespace Go.Proofs.YtdgllbepplldoaaGreatDoor.walk
open Go Go.Sh
set_option maxRecDepth 100000
section
variable {α:Type} {C:α→List Value} {V:α→Value} {sz:Nat} {cI:α→α→Int} {fv:Value} {fc:FuncId} {ov:Ov}
set_option maxHeartbeats 2000000 in
theorem pdq2O (g:Nat) (h:SO ov C V sz cI fv fc) (o:OsO ov) (n c:Nat) (hn:n≤200) (a b:Nat) (hbn:b≤n) (B:Nat) (w0:AW) (hl:w0.lim≤B) (hl0:w0.lim≤w0.next) (hBn:B < w0.next) (L0:List α) (hL0:L0.length=n) (a1 b1:Nat) (hd:a1 + 12 < b1) (hrec:RecO ov C cI fv g n c B (b1 - a1)) (L:List α) (hP:Pdq (fun x y=>cI x y < 0) a b a1 b1 L0 L) (Q:Ex→Tm→AW→Prop) (t:Tm) (w:AW) (hw:InO C w0 B L w) (lim:Int) (t0:tget t 0=.slice (some ⟨B,0,none⟩) n c) (t1:tget t 1=.int .i64 (a1:Nat)) (t2:tget t 2=.int .i64 (b1:Nat)) (t3:tget t 3=.int .i64 lim) (t4:True) (t12:tget t 10=.int .i64 ((b1 - a1:Nat):Int)) (wb wq:Bool) (t10:tget t 8=.bool wb) (t11:tget t 9=.bool wq) (pv:Nat) (hpa:a1≤pv) (hpb:pv < b1) (t13:tget t 11=.int .i64 (pv:Nat)) (hint:Int) (t14:tget t 12=.int .i64 hint) (hN:∀ t w L a2 b2,Pdq (fun x y=>cI x y < 0) a b a2 b2 L0 L→b2 - a2 < b1 - a1→InO C w0 B L w→tget t 0=.slice (some ⟨B,0,none⟩) n c→tget t 1=.int .i64 (a2:Nat)→tget t 2=.int .i64 (b2:Nat)→tget t 3=.int .i64 lim→True→(∃ wb,tget t 8=.bool wb)→(∃ wp,tget t 9=.bool wp)→Q .normal t w) (hE:∀ t w L a2 b2,Pdq (fun x y=>cI x y < 0) a b a2 b2 L0 L→b2 - a2 < b1 - a1→InO C w0 B L w→tget t 0=.slice (some ⟨B,0,none⟩) n c→tget t 1=.int .i64 (a2:Nat)→tget t 2=.int .i64 (b2:Nat)→tget t 3=.int .i64 lim→True→(∃ wb,tget t 8=.bool wb)→(∃ wp,tget t 9=.bool wp)→Q (.exit 1) t w) (hR:∀ t w L,InO C w0 B L w→Mv a b L0 L→Srt (fun x y=>cI x y < 0) L a b→Q .ret t w) :
  wp (exM Tryz.prog (run Tryz.prog ov (g + 5)) mc64_r2 t w) Q:=by
 have key:∀ t' w' L',Pdq (fun x y=>cI x y < 0) a b a1 b1 L0 L'→InO C w0 B L' w'→tget t' 0=.slice (some ⟨B,0,none⟩) n c→tget t' 1=.int .i64 (a1:Nat)→tget t' 2=.int .i64 (b1:Nat)→tget t' 3=.int .i64 lim→True→tget t' 10=.int .i64 ((b1 - a1:Nat):Int)→tget t' 8=.bool wb→tget t' 9=.bool wq→tget t' 11=.int .i64 (pv:Nat)→wp (exM Tryz.prog (run Tryz.prog ov (g + 5)) mc64_r3 t' w') Q:=fun t' w' L' hP' hw' s0 s1 s2 s3 s4 s12 s10 s11 s13=>pdq3O g h o n c hn a b hbn B w0 hl hl0 hBn L0 hL0 a1 b1 hd hrec L' hP' Q t' w' hw' lim s0 s1 s2 s3 s4 s12 wb wq s10 s11 pv hpa hpb s13 hN hE
 have hlen:L.length=n:=by rw [hP.mv.len,hL0]
 have hlm:=hw.lim
 have hnx:=hw.next
 have hb0:=hP.b1
 obtain ⟨za,hza⟩:∃ k:Int,k=(a1:Int):=⟨_,rfl⟩
 obtain ⟨zb,hzb⟩:∃ k:Int,k=(b1:Int):=⟨_,rfl⟩
 obtain ⟨zl,hzl⟩:∃ k:Int,k=((b1 - a1:Nat):Int):=⟨_,rfl⟩
 rw [← hza] at t1
 rw [← hzb] at t2
 rw [← hzl] at t12
 by_cases hcond:wb=true∧wq=true∧hint=1
 ·obtain ⟨rfl,rfl,rfl⟩:=hcond
  obtain ⟨_,w1,c1,L1,bb,rfl,⟨i1,m1⟩,hs⟩:=call86 (g + 3) o.oPIN h n c hn a1 b1 (by omega) (by omega) B L hlen hP.low w (by omega) hw.row
  rw [← hza,← hzb] at c1
  cases bb with
  | true =>
   simp [mc64_r2,t0,t1,t2,t3,t4,t10,t11,t14,c1]
   exact hR _ w1 L1 (hw.trans i1) (hP.move m1).mv ((hP.move m1).done (hs rfl))
  | false =>
   simp [mc64_r2,t0,t1,t2,t3,t4,t10,t11,t14,c1]
   exact key _ w1 L1 (hP.move m1) (hw.trans i1) (by simp [t0]) (by simp [t1,hza]) (by simp [t2,hzb]) (by simp [t3]) (by simp [t4]) (by simp [t12,hzl]) (by simp [t10]) (by simp [t11]) (by simp [t13])
 ·have fin:wp (exM Tryz.prog (run Tryz.prog ov (g + 5)) mc64_r2 t w) Q:=by
   by_cases h1:hint=1
   ·subst h1
    cases wb <;> cases wq <;> first
     | exact absurd ⟨rfl,rfl,rfl⟩ hcond
     | (simp [mc64_r2,t10,t11,t14]; exact key _ w L hP hw (by simp [t0]) (by simp [t1,hza]) (by simp [t2,hzb]) (by simp [t3]) (by simp [t4]) (by simp [t12,hzl]) (by simp [t10]) (by simp [t11]) (by simp [t13]))
   ·cases wb <;> cases wq <;> (simp [mc64_r2,t10,t11,t14,h1]; exact key _ w L hP hw (by simp [t0]) (by simp [t1,hza]) (by simp [t2,hzb]) (by simp [t3]) (by simp [t4]) (by simp [t12,hzl]) (by simp [t10]) (by simp [t11]) (by simp [t13]))
  exact fin
end
section
variable {α:Type} {C:α→List Value} {V:α→Value} {sz:Nat} {cI:α→α→Int} {fv:Value} {fc:FuncId} {ov:Ov}
set_option maxHeartbeats 2000000 in
theorem pdq1O (g:Nat) (h:SO ov C V sz cI fv fc) (o:OsO ov) (n c:Nat) (hn:n≤200) (a b:Nat) (hbn:b≤n) (B:Nat) (w0:AW) (hl:w0.lim≤B) (hl0:w0.lim≤w0.next) (hBn:B < w0.next) (L0:List α) (hL0:L0.length=n) (a1 b1:Nat) (hd:a1 + 12 < b1) (hrec:RecO ov C cI fv g n c B (b1 - a1)) (L:List α) (hP:Pdq (fun x y=>cI x y < 0) a b a1 b1 L0 L) (Q:Ex→Tm→AW→Prop) (t:Tm) (w:AW) (hw:InO C w0 B L w) (lim:Int) (t0:tget t 0=.slice (some ⟨B,0,none⟩) n c) (t1:tget t 1=.int .i64 (a1:Nat)) (t2:tget t 2=.int .i64 (b1:Nat)) (t3:tget t 3=.int .i64 lim) (t4:True) (t12:tget t 10=.int .i64 ((b1 - a1:Nat):Int)) (wb wq:Bool) (t10:tget t 8=.bool wb) (t11:tget t 9=.bool wq) (hN:∀ t w L a2 b2,Pdq (fun x y=>cI x y < 0) a b a2 b2 L0 L→b2 - a2 < b1 - a1→InO C w0 B L w→tget t 0=.slice (some ⟨B,0,none⟩) n c→tget t 1=.int .i64 (a2:Nat)→tget t 2=.int .i64 (b2:Nat)→tget t 3=.int .i64 lim→True→(∃ wb,tget t 8=.bool wb)→(∃ wp,tget t 9=.bool wp)→Q .normal t w) (hE:∀ t w L a2 b2,Pdq (fun x y=>cI x y < 0) a b a2 b2 L0 L→b2 - a2 < b1 - a1→InO C w0 B L w→tget t 0=.slice (some ⟨B,0,none⟩) n c→tget t 1=.int .i64 (a2:Nat)→tget t 2=.int .i64 (b2:Nat)→tget t 3=.int .i64 lim→True→(∃ wb,tget t 8=.bool wb)→(∃ wp,tget t 9=.bool wp)→Q (.exit 1) t w) (hR:∀ t w L,InO C w0 B L w→Mv a b L0 L→Srt (fun x y=>cI x y < 0) L a b→Q .ret t w) :
  wp (exM Tryz.prog (run Tryz.prog ov (g + 5)) mc64_r1 t w) Q:=by
 have key:∀ t' w' L' (pv:Nat) (hint:Int),a1≤pv→pv < b1→Pdq (fun x y=>cI x y < 0) a b a1 b1 L0 L'→InO C w0 B L' w'→tget t' 0=.slice (some ⟨B,0,none⟩) n c→tget t' 1=.int .i64 (a1:Nat)→tget t' 2=.int .i64 (b1:Nat)→tget t' 3=.int .i64 lim→True→tget t' 10=.int .i64 ((b1 - a1:Nat):Int)→tget t' 8=.bool wb→tget t' 9=.bool wq→tget t' 11=.int .i64 (pv:Nat)→tget t' 12=.int .i64 hint→wp (exM Tryz.prog (run Tryz.prog ov (g + 5)) mc64_r2 t' w') Q:=fun t' w' L' pv hint hpa hpb hP' hw' s0 s1 s2 s3 s4 s12 s10 s11 s13 s14=>pdq2O g h o n c hn a b hbn B w0 hl hl0 hBn L0 hL0 a1 b1 hd hrec L' hP' Q t' w' hw' lim s0 s1 s2 s3 s4 s12 wb wq s10 s11 pv hpa hpb s13 hint s14 hN hE hR
 have hlen:L.length=n:=by rw [hP.mv.len,hL0]
 have hlm:=hw.lim
 have hnx:=hw.next
 have hb0:=hP.b1
 obtain ⟨za,hza⟩:∃ k:Int,k=(a1:Int):=⟨_,rfl⟩
 obtain ⟨zb,hzb⟩:∃ k:Int,k=(b1:Int):=⟨_,rfl⟩
 obtain ⟨zl,hzl⟩:∃ k:Int,k=((b1 - a1:Nat):Int):=⟨_,rfl⟩
 rw [← hza] at t1
 rw [← hzb] at t2
 rw [← hzl] at t12
 obtain ⟨_,w1,c1,⟨k,hint,rfl,k1,k2⟩,i1⟩:=call84 g o.oCHO o.oMDA o.oMED o.oORD h n c hn a1 b1 hd (by omega) B L hlen w (by omega) (by omega) hw.row
 have hw1:=hw.trans i1
 have hlm1:=hw1.lim
 rw [← hza,← hzb] at c1
 by_cases h2:hint=2
 ·subst h2
  obtain ⟨_,w2,c2,rfl,L2,i2,m2⟩:=call85 (g + 3) o.oREV h n c hn a1 b1 (by omega) (by omega) B L hlen w1 (by omega) hw1.row
  rw [← hza,← hzb] at c2
  obtain ⟨zk,hzk⟩:∃ z:Int,z=(k:Int):=⟨_,rfl⟩
  rw [← hzk] at c1
  have e1:IntKind.wrap .i64 (zb - 1)=zb - 1:=wrap64_in (by omega) (by omega)
  have e2:IntKind.wrap .i64 (zk - za)=zk - za:=wrap64_in (by omega) (by omega)
  have e3:IntKind.wrap .i64 (zb - 1 - (zk - za))=((b1 - 1 - (k - a1):Nat):Int):=by rw [wrap64_in (by omega) (by omega)]; omega
  simp [mc64_r1,t0,t1,t2,t3,t4,t10,t11,t12,c1,c2,e1,e2,e3]
  exact key _ w2 L2 (b1 - 1 - (k - a1)) 1 (by omega) (by omega) (hP.move m2) (hw1.trans i2) (by simp [t0]) (by simp [t1,hza]) (by simp [t2,hzb]) (by simp [t3]) (by simp [t4]) (by simp [t12,hzl]) (by simp [t10]) (by simp [t11]) (by simp) (by simp)
 ·simp [mc64_r1,t0,t1,t2,t3,t4,t10,t11,t12,c1,h2]
  exact key _ w1 L k hint k1 k2 hP hw1 (by simp [t0]) (by simp [t1,hza]) (by simp [t2,hzb]) (by simp [t3]) (by simp [t4]) (by simp [t12,hzl]) (by simp [t10]) (by simp [t11]) (by simp) (by simp)
end
section
variable {α:Type} {C:α→List Value} {V:α→Value} {sz:Nat} {cI:α→α→Int} {fv:Value} {fc:FuncId} {ov:Ov}
def PdqIO (C:α→List Value) (cI:α→α→Int) (fv:Value) (n c B a b:Nat) (L0:List α) (w0:AW) (r:Nat) (t:Tm) (w:AW):Prop:=∃ L a1 b1 lim,Pdq (fun x y=>cI x y < 0) a b a1 b1 L0 L∧(b1 - a1) + r≤b - a∧InO C w0 B L w∧tget t 0=.slice (some ⟨B,0,none⟩) n c∧tget t 1=.int .i64 (a1:Nat)∧tget t 2=.int .i64 (b1:Nat)∧tget t 3=.int .i64 lim∧True∧(∃ wb,tget t 8=.bool wb)∧(∃ wq,tget t 9=.bool wq)
set_option maxHeartbeats 4000000 in
theorem pdq0O (g:Nat) (h:SO ov C V sz cI fv fc) (o:OsO ov) (n c:Nat) (hn:n≤200) (a b:Nat) (hab:a≤b) (hbn:b≤n) (B:Nat) (w0:AW) (hl:w0.lim≤B) (hl0:w0.lim≤w0.next) (hBn:B < w0.next) (L0:List α) (hL0:L0.length=n) (hrec:RecO ov C cI fv g n c B (b - a)) (low:∀ x,0 < a→L0[a - 1]?=some x→All (fun z=>¬ cI z x < 0) L0 a b) (Q:Ex→Tm→AW→Prop) (t:Tm) (w:AW) (hw:InO C w0 B L0 w) (lim:Int)
  (t0:tget t 0=.slice (some ⟨B,0,none⟩) n c) (t1:tget t 1=.int .i64 (a:Nat)) (t2:tget t 2=.int .i64 (b:Nat)) (t3:tget t 3=.int .i64 lim) (t4:True) (t10:tget t 8=.bool true) (t11:tget t 9=.bool true)
  (hR:∀ t w L,InO C w0 B L w→Mv a b L0 L→Srt (fun x y=>cI x y < 0) L a b→Q .ret t w):wp (exM Tryz.prog (run Tryz.prog ov (g + 5)) (.loop mc64_l0) t w) Q:=by
 refine wp_rounds (fun r t w=>PdqIO C cI fv n c B a b L0 w0 r t w) 300 (by decide) ⟨L0,a,b,lim,Pdq.start hab (by omega) low,by omega,hw,t0,t1,t2,t3,t4,⟨_,t10⟩,⟨_,t11⟩⟩ ?_
 clear t0 t1 t2 t3 t4 t10 t11 hw lim
 rintro r t w ⟨L,a1,b1,lim,hP,hr,hw,t0,t1,t2,t3,t4,⟨wb,t10⟩,⟨wq,t11⟩⟩
 have hlen:L.length=n:=by rw [hP.mv.len,hL0]
 have hlm:=hw.lim
 have hnx:=hw.next
 have hb0:=hP.b1
 have hab1:=hP.ab
 rw [mc64_l0_eq]
 obtain ⟨za,hza⟩:∃ k:Int,k=(a1:Int):=⟨_,rfl⟩
 obtain ⟨zb,hzb⟩:∃ k:Int,k=(b1:Int):=⟨_,rfl⟩
 obtain ⟨zl,hzl⟩:∃ k:Int,k=((b1 - a1:Nat):Int):=⟨_,rfl⟩
 rw [← hza] at t1
 rw [← hzb] at t2
 have e1:IntKind.wrap .i64 (zb - za)=zl:=by rw [wrap64_in (by omega) (by omega)]; omega
 by_cases h12:b1 - a1≤12
 ·have h12':zl≤12:=by omega
  obtain ⟨_,w1,c1,rfl,L1,⟨i1,m1⟩,s1⟩:=call81 (g + 3) o.oINS h n c hn a1 b1 hab1 (by omega) B L hlen w (by omega) hw.row
  rw [← hza,← hzb] at c1
  simp [t0,t1,t2,t3,t4,t10,t11,e1,h12',c1]
  exact hR _ w1 L1 (hw.trans i1) (hP.move m1).mv ((hP.move m1).done s1)
 ·have h12':¬ zl≤12:=by omega
  by_cases h0:lim=0
  ·subst h0
   obtain ⟨_,w1,c1,rfl,L1,⟨i1,m1⟩,s1⟩:=call82 (g + 2) o.oHEAP o.oSIF h n c hn a1 b1 (by omega) (by omega) B L hlen w (by omega) hw.row
   rw [← hza,← hzb] at c1
   simp [t0,t1,t2,t3,t4,t10,t11,e1,h12',c1]
   exact hR _ w1 L1 (hw.trans i1) (hP.move m1).mv ((hP.move m1).done s1)
  ·have hrec':RecO ov C cI fv g n c B (b1 - a1):=fun a' b' l' L' w' e1 e2 e3=>hrec a' b' l' L' w' e1 e2 (by omega)
   have go:∀ (lim':Int) t' w',(∃ L a2 b2,Pdq (fun x y=>cI x y < 0) a b a2 b2 L0 L∧b2 - a2 < b1 - a1∧InO C w0 B L w'∧tget t' 0=.slice (some ⟨B,0,none⟩) n c∧tget t' 1=.int .i64 (a2:Nat)∧tget t' 2=.int .i64 (b2:Nat)∧tget t' 3=.int .i64 lim'∧True∧(∃ wb,tget t' 8=.bool wb)∧(∃ wp,tget t' 9=.bool wp))→r < 300∧PdqIO C cI fv n c B a b L0 w0 (r + 1) t' w':=fun lim' t' w' ⟨L,a2,b2,q1,q2,q3,q4,q5,q6,q7,q8,q9,q10⟩=>⟨by omega,L,a2,b2,lim',q1,by omega,q3,q4,q5,q6,q7,q8,q9,q10⟩
   cases wb with
   | true =>
    simp [t0,t1,t2,t3,t4,t10,t11,e1,h12',h0]
    refine wp_blockX (pdq1O g h o n c hn a b hbn B w0 hl hl0 hBn L0 hL0 a1 b1 (by omega) hrec' L hP _ _ _ hw lim ?_ ?_ ?_ ?_ ?_ ?_ true wq ?_ ?_ ?_ ?_ ?_)
    case _=>simp [t0]
    case _=>simp [t1,hza]
    case _=>simp [t2,hzb]
    case _=>simp [t3]
    case _=>simp [t4]
    case _=>simp [hzl]
    case _=>simp [t10]
    case _=>simp [t11]
    case _=>exact fun t' w' L' a2 b2 q1 q2 q3 q4 q5 q6 q7 q8 q9 q10=>go lim t' w' ⟨L',a2,b2,q1,q2,q3,q4,q5,q6,q7,q8,q9,q10⟩
    case _=>exact fun t' w' L' a2 b2 q1 q2 q3 q4 q5 q6 q7 q8 q9 q10=>go lim t' w' ⟨L',a2,b2,q1,q2,q3,q4,q5,q6,q7,q8,q9,q10⟩
    case _=>exact fun t' w' L' q1 q2 q3=>hR t' w' L' q1 q2 q3
   | false =>
    obtain ⟨_,w1,c1,rfl,L1,i1,m1⟩:=call83 (g + 1) o.oBRK o.oNXT o.oNPT o.oLEN o.oL64 h n c hn a1 b1 (by omega) (by omega) B L hlen w (by omega) (by omega) (by omega) hw.row
    rw [← hza,← hzb] at c1
    simp [t0,t1,t2,t3,t4,t10,t11,e1,h12',h0,c1]
    refine wp_blockX (pdq1O g h o n c hn a b hbn B w0 hl hl0 hBn L0 hL0 a1 b1 (by omega) hrec' L1 (hP.move m1) _ _ _ (hw.trans i1) (IntKind.wrap .i64 (lim - 1)) ?_ ?_ ?_ ?_ ?_ ?_ false wq ?_ ?_ ?_ ?_ ?_)
    case _=>simp [t0]
    case _=>simp [t1,hza]
    case _=>simp [t2,hzb]
    case _=>simp
    case _=>simp [t4]
    case _=>simp [hzl]
    case _=>simp [t10]
    case _=>simp [t11]
    case _=>exact fun t' w' L' a2 b2 q1 q2 q3 q4 q5 q6 q7 q8 q9 q10=>go (IntKind.wrap .i64 (lim - 1)) t' w' ⟨L',a2,b2,q1,q2,q3,q4,q5,q6,q7,q8,q9,q10⟩
    case _=>exact fun t' w' L' a2 b2 q1 q2 q3 q4 q5 q6 q7 q8 q9 q10=>go (IntKind.wrap .i64 (lim - 1)) t' w' ⟨L',a2,b2,q1,q2,q3,q4,q5,q6,q7,q8,q9,q10⟩
    case _=>exact fun t' w' L' q1 q2 q3=>hR t' w' L' q1 q2 q3
theorem pdqO (m:Nat) (h:SO ov C V sz cI fv fc) (o:OsO ov) (n c:Nat) (hn:n≤200) (B:Nat):∀ d,RecO ov C cI fv (m + d + 1) n c B (d + 1):=by
 intro d
 induction d with
 | zero =>
  intro a b lim L w hab hbn hd hL low hl hl0 hBn hB
  refine call_wp text64 (by simp) (o.oPDQ _ _) ?_
  simp [mc64]
  refine wp_blockX (pdq0O m h o n c hn a b hab hbn B w hl hl0 hBn L hL (fun a' b' l' L' w' e1 e2 e3=>by omega) low _ _ _ (InS.refl hB) lim ?_ ?_ ?_ ?_ ?_ ?_ ?_ ?_)
  all_goals first | (intro t w' L' hw hp hs; simp [tupV]; exact ⟨L',⟨hw,hp⟩,hs⟩) | simp
 | succ d ih =>
  intro a b lim L w hab hbn hd hL low hl hl0 hBn hB
  refine call_wp text64 (by simp) (o.oPDQ _ _) ?_
  simp [mc64]
  refine wp_blockX (pdq0O (m + d + 1) h o n c hn a b hab hbn B w hl hl0 hBn L hL (fun a' b' l' L' w' e1 e2 e3=>ih a' b' l' L' w' e1 e2 (by omega)) low _ _ _ (InS.refl hB) lim ?_ ?_ ?_ ?_ ?_ ?_ ?_ ?_)
  all_goals first | (intro t w' L' hw hp hs; simp [tupV]; exact ⟨L',⟨hw,hp⟩,hs⟩) | simp
theorem call36 (m:Nat) (h:SO ov C V sz cI fv fc) (o:OsO ov) (ho:∀ args w,ov 36 args w=none) (n c:Nat) (hn:n≤200) (B:Nat) (L:List α) (hL:L.length=n) (w:AW) (hl:w.lim≤B) (hl0:w.lim≤w.next) (hBn:B < w.next) (hB:w.heap.get B=some (.cells (L.flatMap C) 9 false)) :
  ∃ x w',(run Tryz.prog ov (m + 207)).call 36 [.slice (some ⟨B,0,none⟩) n c] w .none=.ok (.ret x) w' .none∧x=.tuple ⟨[]⟩∧∃ L',LeftO C w w' B 0 n L L'∧Srt (fun x y=>cI x y < 0) L' 0 n:=by
 refine call_wp text36 (by simp) (ho _ _) ?_
 obtain ⟨_,w1,c1,rfl,rfl⟩:=call65 (m + 204) o.oLEN o.oL64 n hn w
 have e1:IntKind.wrap .u64 (n:Int)=(n:Int):=IntWalk.u64_in _ ⟨by omega,by omega⟩
 obtain ⟨_,w2,c2,rfl,L',hL',hs⟩:=pdqO m h o n c hn B 200 0 n (bl n:Nat) L w1 (by omega) (Nat.le_refl _) (by omega) hL (fun x h0=>by omega) hl hl0 hBn hB
 simp only [Int.natCast_zero] at c2
 simp [mc36,e1,c1,c2,tupV]
 exact ⟨L',hL',hs⟩
end
end Go.Proofs.YtdgllbepplldoaaGreatDoor.walk
namespace Go.Sh
open Go
/-! comparing strings and numbers; comparisons one behind the other -/
structure Cmp {α:Type} (c:α→α→Int):Prop where
 tri:∀ x y,c x y = -1∨c x y=0∨c x y=1
 neg:∀ x y,c y x = - c x y
 trans:∀ x y z,c x y≤0→c y z≤0→c x z≤0∧(c x z=0→c x y=0∧c y z=0)
theorem Cmp.wk {α:Type} {c:α→α→Int} (h:Cmp c):Wk (fun x y=>c x y < 0) where
 asym {x y} h1 h2:=by have:=h.neg x y; omega
 trans {x y z} h1 h2 h3:=by
  have a:=h.neg x y
  have b:=h.neg y z
  have d:=h.neg x z
  have:=(h.trans x y z (by omega) (by omega)).1
  omega
def cmpI (a b:Int):Int:=if a < b then -1 else if b < a then 1 else 0
theorem cmpI_eq {a b:Int}:cmpI a b=0 ↔ a=b:=by unfold cmpI; split <;> (try split) <;> omega
theorem cmpI_cmp:Cmp cmpI where
 tri x y:=by unfold cmpI; split <;> (try split) <;> omega
 neg x y:=by unfold cmpI; split <;> split <;> omega
 trans x y z:=by unfold cmpI; intro h1 h2; refine ⟨?_,?_⟩ <;> (split at h1 <;> split at h2 <;> omega)
theorem cmpB_cons (a b:UInt8) (l m:List UInt8):cmpB (a::l) (b::m)=if cmpI a.toNat b.toNat ≠ 0 then cmpI a.toNat b.toNat else cmpB l m:=by
 unfold cmpI
 show (bif Nat.beq a.toNat b.toNat then cmpB l m else bif Nat.blt a.toNat b.toNat then -1 else 1)=_
 by_cases h:a.toNat=b.toNat
 ·have e:Nat.beq a.toNat b.toNat=true:=by rw [h]; exact Nat.beq_refl _
  rw [e,h]; simp
 ·have e:Nat.beq a.toNat b.toNat=false:=by
   cases hb:Nat.beq a.toNat b.toNat with
   | false=>rfl
   | true=>exact absurd (Nat.eq_of_beq_eq_true hb) h
  rw [e]
  by_cases hl:a.toNat < b.toNat
  ·have e2:Nat.blt a.toNat b.toNat=true:=by rw [Nat.blt_eq]; exact hl
   have:((a.toNat:Nat):Int) < (b.toNat:Nat):=by omega
   simp [e2,this]
  ·have e2:Nat.blt a.toNat b.toNat=false:=by
    cases hb:Nat.blt a.toNat b.toNat with
    | false=>rfl
    | true=>exact absurd (by rw [Nat.blt_eq] at hb; exact hb) hl
   have h1:¬ ((a.toNat:Nat):Int) < (b.toNat:Nat):=by omega
   have h2:((b.toNat:Nat):Int) < (a.toNat:Nat):=by omega
   simp [e2,h1,h2]
theorem cmpB_eq0:∀ {a b:List UInt8},cmpB a b=0 ↔ a=b
 | [],[]=>by simp [cmpB]
 | [],b::m=>by simp [cmpB]
 | a::l,[]=>by simp [cmpB]
 | a::l,b::m=>by
  rw [cmpB_cons]
  have ih:=@cmpB_eq0 l m
  by_cases h:cmpI a.toNat b.toNat=0
  ·simp only [h,ne_eq,not_true_eq_false,if_false]
   have e:=cmpI_eq.1 h
   have:a=b:=UInt8.toNat_inj.1 (by omega)
   subst this
   rw [ih]; simp
  ·simp only [ne_eq,h,not_false_eq_true,if_true,false_iff]
   intro e
   cases e
   exact h (cmpI_eq.2 rfl)
theorem cmpB_cmp:Cmp cmpB where
 tri:=tri
 neg:=neg
 trans:=tr
where
 tri:∀ a b,cmpB a b = -1∨cmpB a b=0∨cmpB a b=1
  | [],[]=>by simp [cmpB]
  | [],b::m=>by simp [cmpB]
  | a::l,[]=>by simp [cmpB]
  | a::l,b::m=>by
   rw [cmpB_cons]
   have:=tri l m
   have:=cmpI_cmp.tri a.toNat b.toNat
   split <;> omega
 neg:∀ a b,cmpB b a = - cmpB a b
  | [],[]=>by simp [cmpB]
  | [],b::m=>by simp [cmpB]
  | a::l,[]=>by simp [cmpB]
  | a::l,b::m=>by
   rw [cmpB_cons,cmpB_cons]
   have:=neg l m
   have:=cmpI_cmp.neg a.toNat b.toNat
   split <;> split <;> omega
 tr:∀ a b d,cmpB a b≤0→cmpB b d≤0→cmpB a d≤0∧(cmpB a d=0→cmpB a b=0∧cmpB b d=0)
  | [],[],[]=>by simp [cmpB]
  | [],[],_::_=>by simp [cmpB]
  | [],_::_,[]=>by simp [cmpB]
  | [],_::_,_::_=>by simp [cmpB]
  | _::_,[],_=>by simp [cmpB]
  | _::_,_::_,[]=>by simp [cmpB]
  | a::l,b::m,d::n=>by
   have ih:=tr l m n
   rw [cmpB_cons,cmpB_cons,cmpB_cons]
   have t1:=cmpI_cmp.trans a.toNat b.toNat d.toNat
   have t2:=cmpI_cmp.trans d.toNat b.toNat a.toNat
   have n1:=cmpI_cmp.neg a.toNat b.toNat
   have n2:=cmpI_cmp.neg b.toNat d.toNat
   have n3:=cmpI_cmp.neg a.toNat d.toNat
   intro h1 h2
   by_cases e1:cmpI a.toNat b.toNat=0 <;> by_cases e2:cmpI b.toNat d.toNat=0 <;> simp only [e1,e2,ne_eq,not_true_eq_false,not_false_eq_true,if_true,if_false] at h1 h2 ⊢
   ·have e3:cmpI a.toNat d.toNat=0:=by have:=(t1 (by omega) (by omega)).1; have:=(t2 (by omega) (by omega)).1; omega
    simp only [e3,not_true_eq_false,if_false]
    exact ih h1 h2
   ·have h3:=t1 (by omega) h2
    have e3:cmpI a.toNat d.toNat ≠ 0:=fun e=>e2 (h3.2 e).2
    simp only [e3,not_false_eq_true,if_true]
    exact ⟨h3.1,fun e=>False.elim (by first | exact e | exact e3 e)⟩
   ·have h3:=t1 h1 (by omega)
    have e3:cmpI a.toNat d.toNat ≠ 0:=fun e=>e1 (h3.2 e).1
    simp only [e3,not_false_eq_true,if_true]
    exact ⟨h3.1,fun e=>False.elim (by first | exact e | exact e3 e)⟩
   ·have h3:=t1 h1 h2
    have e3:cmpI a.toNat d.toNat ≠ 0:=fun e=>e1 (h3.2 e).1
    simp only [e3,not_false_eq_true,if_true]
    exact ⟨h3.1,fun e=>False.elim (by first | exact e | exact e3 e)⟩
end Go.Sh
namespace Go.Proofs.YtdgllbepplldoaaGreatDoor.walk
open Go Go.Sh
set_option maxRecDepth 100000
theorem bytesLess_eq:∀ a b:List UInt8,bytesLess a b=decide (cmpB a b < 0)
 | a,[]=>by cases a <;> simp [bytesLess,cmpB]
 | [],b::m=>by simp [bytesLess,cmpB]
 | a::l,b::m=>by
  rw [cmpB_cons]
  show (bif Nat.beq a.toNat b.toNat then bytesLess l m else Nat.blt a.toNat b.toNat)=_
  rw [bytesLess_eq l m]
  by_cases h:a.toNat=b.toNat
  ·have e:Nat.beq a.toNat b.toNat=true:=by rw [h]; exact Nat.beq_refl _
   have e2:cmpI a.toNat b.toNat=0:=cmpI_eq.2 (by omega)
   rw [e,e2]; simp
  ·have e:Nat.beq a.toNat b.toNat=false:=by
    cases hb:Nat.beq a.toNat b.toNat with
    | false=>rfl
    | true=>exact absurd (Nat.eq_of_beq_eq_true hb) h
   have e2:cmpI a.toNat b.toNat ≠ 0:=fun k=>h (by have:=cmpI_eq.1 k; omega)
   rw [e,if_pos e2]
   unfold cmpI
   by_cases hl:a.toNat < b.toNat
   ·have e3:Nat.blt a.toNat b.toNat=true:=by rw [Nat.blt_eq]; exact hl
    have:((a.toNat:Nat):Int) < (b.toNat:Nat):=by omega
    simp [e3,this]
   ·have e3:Nat.blt a.toNat b.toNat=false:=by
     cases hb:Nat.blt a.toNat b.toNat with
     | false=>rfl
     | true=>exact absurd (by rw [Nat.blt_eq] at hb; exact hb) hl
    have h1:¬ ((a.toNat:Nat):Int) < (b.toNat:Nat):=by omega
    have h2:((b.toNat:Nat):Int) < (a.toNat:Nat):=by omega
    simp [e3,h1,h2]
theorem bin_lssS {P:Program} {w:AW} (s:TypeId) (c:Bool) (a b:List UInt8):(binW P .lss s c).val (.string ⟨⟨a⟩⟩) (.string ⟨⟨b⟩⟩) w=.val (.bool (decide (cmpB a b < 0))) w:=by
 rw [← bytesLess_eq]; rfl
theorem bin_geqS {P:Program} {w:AW} (s:TypeId) (c:Bool) (a b:List UInt8):(binW P .geq s c).val (.string ⟨⟨a⟩⟩) (.string ⟨⟨b⟩⟩) w=.val (.bool (!decide (cmpB a b < 0))) w:=by
 rw [← bytesLess_eq]; rfl
def S87:PSpec where
 R args _ v:=∃ a b:List UInt8,args=[.string ⟨⟨a⟩⟩,.string ⟨⟨b⟩⟩]∧v=.bool (decide (cmpB a b < 0))
 uniq:=by rintro _ _ _ _ ⟨a,b,rfl,rfl⟩ ⟨_,_,h,rfl⟩; cases h; rfl
 shut h:=h
theorem run117 {ov:Ov} (ho:∀ args w,ov 117 args w=none) (m:Nat) (a:List UInt8) (w:AW):(run Tryz.prog ov (m + 1)).call 117 [.string ⟨⟨a⟩⟩] w .none=.ok (.ret (.bool false)) w .none:=by
 have key:∃ v w',(run Tryz.prog ov (m + 1)).call 117 [.string ⟨⟨a⟩⟩] w .none=.ok (.ret v) w' .none∧v=.bool false∧w'=w:=by
  refine call_wp text117 (by simp) (ho _ _) ?_
  simp [mc117,tupV]
 obtain ⟨v,w',h,rfl,rfl⟩:=key
 exact h
theorem run87 {ov:Ov} (ho:∀ args w,ov 87 args w=none) (o117:∀ args w,ov 117 args w=none) (a b:List UInt8) (w:AW):∃ v w',(run Tryz.prog ov 3).call 87 [.string ⟨⟨a⟩⟩,.string ⟨⟨b⟩⟩] w .none=.ok (.ret v) w' .none∧v=.bool (decide (cmpB a b < 0)):=by
 refine call_wp text87 (by simp) (ho _ _) ?_
 have r:=fun a w=>run117 o117 1 a w
 have hl:=fun c w=>bin_lssS (P:=Tryz.prog) (w:=w) 9 c a b
 simp [mc87,r,hl,tupV]
def stV (x:List UInt8):Value:=.string ⟨⟨x⟩⟩
def stC (x:List UInt8):List Value:=[stV x]
theorem stC_length (x:List UInt8):(stC x).length=1:=rfl
theorem stC_single (x:List UInt8):singles (stC x)=true:=rfl
theorem sortS {ov:Ov} (h87:HasP ov 87 S87.F):SO ov stC stV 1 cmpB .nilFunc 87 where
 T:=SortT.one (by kernel_rfl) (by kernel_rfl) (by kernel_rfl) fun a=>⟨rfl,rfl⟩
 cm:=fun k w x y=>S87.call (P:=Tryz.prog) h87 (m:=k) ⟨x,y,rfl,rfl⟩
 wk:=cmpB_cmp.wk
section
variable {ov:Ov}
theorem call81n (a:Option Addr) (c:Nat) (m:Nat) (ho:∀ args w,ov 81 args w=none) (w:AW):∃ x w',(run Tryz.prog ov (m + 1)).call 81 [.slice a 0 c,.int .i64 0,.int .i64 0] w .none=.ok (.ret x) w' .none∧x=.tuple ⟨[]⟩∧w'=w:=by
 refine call_wp text81 (by simp) (ho _ _) ?_
 simp [mc81]
 refine wp_blockX (wp_rounds (fun r t w'=>w'=w∧r=0∧tget t 6=.int .i64 1∧tget t 2=.int .i64 0) 2 (by decide) (by simp; decide) ?_)
 rintro r t w' ⟨hw,rfl,t8,t2⟩
 rw [hw]
 clear hw w'
 simp [mc81_l0,t8,t2,tupV]
theorem call64n (a:Option Addr) (c:Nat) (m:Nat) (o:OsO ov) (z:Int) (w:AW):∃ x w',(run Tryz.prog ov (m + 2)).call 64 [.slice a 0 c,.int .i64 0,.int .i64 0,.int .i64 z] w .none=.ok (.ret x) w' .none∧x=.tuple ⟨[]⟩∧w'=w:=by
 refine call_wp text64 (by simp) (o.oPDQ _ _) ?_
 obtain ⟨_,w1,c1,rfl,e⟩:=call81n a c m o.oINS w
 rw [e] at c1
 clear e w1
 simp [mc64]
 refine wp_blockX (wp_rounds (fun r t w'=>w'=w∧r=0∧tget t 0=.slice a 0 c∧tget t 1=.int .i64 0∧tget t 2=.int .i64 0) 2 (by decide) (by simp) ?_)
 rintro r t w' ⟨hw,rfl,t0,t1,t2⟩
 rw [hw]
 clear hw w'
 have e0:IntKind.wrap .i64 0=0:=by decide
 simp [mc64_l0,t0,t1,t2,e0,c1,tupV]
theorem call36n (a:Option Addr) (c:Nat) (m:Nat) (o:OsO ov) (ho:∀ args w,ov 36 args w=none) (w:AW):∃ x w',(run Tryz.prog ov (m + 3)).call 36 [.slice a 0 c] w .none=.ok (.ret x) w' .none∧x=.tuple ⟨[]⟩∧w'=w:=by
 refine call_wp text36 (by simp) (ho _ _) ?_
 obtain ⟨_,w1,c1,rfl,rfl⟩:=call65 m o.oLEN o.oL64 0 (by decide) w
 obtain ⟨_,w2,c2,rfl,rfl⟩:=call64n a c m o (bl 0:Nat) w1
 have e1:IntKind.wrap .u64 0=0:=by decide
 simp only [Int.natCast_zero] at c1
 simp [mc36,e1,c1,c2,tupV]
end
theorem list26:isList Tryz.prog 26=true:=by kernel_rfl
theorem elem26:elemA Tryz.prog 26=some 9:=by kernel_rfl
theorem size9:szOf Tryz.prog 9=some 1:=by kernel_rfl
theorem small9:smallT Tryz.prog 9=true:=by kernel_rfl
@[simp] theorem setPar_cons (p:Tmp) (ps:List Tmp) (a:Value) (l:List Value) (t:Tm):setParams (p::ps) (a::l) t=setParams ps l (tset t p a):=rfl
@[simp] theorem setPar_nil (t:Tm):setParams [] [] t=t:=rfl
@[simp] theorem cf61 (w:AW) (l:List Value):callFn Tryz.prog w 61 l=.enter 61 l w:=callFn_of (by kernel_rfl) l
structure J12 (c4 L:Nat) (lp:ALoop) (st:List (List UInt8)) (w:AW):Prop where
 acc:∃ sl B,w.heap.get c4=some (.cells [sl] 26 false)∧AccQ stC 9 L w sl (st.filter codeB) B
 lo:w.heap.get L=some (.loop lp)
 sg:SgAt w
 ord:w.lim≤c4∧c4 < L∧L < w.next∧0 < c4
theorem steps12 {ov:Ov} (m c4 L:Nat) (tm:Tm) (t4:tget tm 4=.pointer (some ⟨c4,0,none⟩)) (h10:HasP ov 10 S10.F) :
  StepsF ov (m + 2) L (J12 c4 L ⟨21,tm,[11],(rfOf Tryz.prog 12 0).1,(rfOf Tryz.prog 12 0).2,none,.ready⟩) (fun x=>x=c4∨L≤x):=by
 intro st x w hlen hJ
 obtain ⟨⟨sl,B,h1,hacc⟩,lo,hsg,o1,o2,o3,o4⟩:=hJ
 obtain ⟨wB,ewB⟩:∃ wB:AW,wB=⟨w.heap.put L (some (.loop ⟨21,tm,[11],(rfOf Tryz.prog 12 0).1,(rfOf Tryz.prog 12 0).2,none,.busy⟩)),w.next,w.lim⟩:=⟨_,rfl⟩
 have nB:wB.next=w.next:=by rw [ewB]
 have lB:wB.lim=w.lim:=by rw [ewB]
 have kB:∀ x,x ≠ L→wB.heap.get x=w.heap.get x:=fun x h2=>by rw [ewB]; simp [h2]
 have gL:wB.heap.get L=some (.loop ⟨21,tm,[11],(rfOf Tryz.prog 12 0).1,(rfOf Tryz.prog 12 0).2,none,.busy⟩):=by rw [ewB]; simp
 have hacc0:=hacc
 have haccB:AccQ stC 9 L wB sl (st.filter codeB) B:=hacc.keep (fun _ hl hB=>kB B (by omega)) (by omega)
 have hsgB:SgAt wB:=by
  obtain ⟨ty,ro,g⟩:=hsg
  exact ⟨ty,ro,by rw [kB 0 (by omega)]; exact g⟩
 have r10:=S10.call (P:=Tryz.prog) h10 (m:=m) (w:=wB) ⟨⟨⟨x⟩⟩,rfl,⟨hsgB,by omega⟩,rfl⟩
 have e2:¬ c4=L:=by omega
 have hlL:w.lim≤L:=by omega
 have hfl:(st.filter codeB).length≤80000:=Nat.le_trans (List.length_filter_le _ _) hlen
 cases hc:codeB x with
 | false =>
  have hx:codeB (⟨⟨x⟩⟩:ByteArray).data.toList=false:=hc
  rw [hx,ewB] at r10
  have ef:(st++[x]).filter codeB=st.filter codeB:=by rw [List.filter_append]; simp [hc]
  obtain ⟨j,w',hy,hQ⟩:=yield_wp (P:=Tryz.prog) (ov:=ov) (m:=m + 1) (l:=L) (args:=[.string ⟨⟨x⟩⟩]) (w:=w) (Q:=fun j w'=>j=none∧w'=⟨(w.heap.put L (some (.loop ⟨21,tm,[11],(rfOf Tryz.prog 12 0).1,(rfOf Tryz.prog 12 0).2,none,.busy⟩))).put L (some (.loop ⟨21,tm,[11],(rfOf Tryz.prog 12 0).1,(rfOf Tryz.prog 12 0).2,none,.ready⟩)),w.next,w.lim⟩) lo rfl rfl ta12_0 tb12_0 (by
   simp [mc12_a0,mc12_b0,lo,hlL,jumpOf,r10])
  obtain ⟨rfl,rfl⟩:=hQ
  refine ⟨_,hy,⟨⟨sl,B,by simp [e2,h1],?_⟩,by simp,?_,o1,o2,o3,o4⟩,fun y hy hM=>?_,Nat.le_refl _,rfl⟩
  ·rw [ef]; exact hacc0.keep (fun _ hl hB=>by simp [show ¬ B=L by omega]) (Nat.le_refl _)
  ·obtain ⟨ty,ro,g⟩:=hsg
   exact ⟨ty,ro,by simp [show ¬ 0=L by omega,g]⟩
  ·have q2:¬ L≤y:=fun h=>hM (.inr h)
   simp [show ¬ y=L by omega]
 | true =>
  have hx:codeB (⟨⟨x⟩⟩:ByteArray).data.toList=true:=hc
  have ef:(st++[x]).filter codeB=st.filter codeB++[x]:=by rw [List.filter_append]; simp [hc]
  obtain ⟨v',w4,ha,⟨B',hB',hacc'⟩,hkp,hn4,hl4⟩:=AccQ.push2 (P:=Tryz.prog) (st:=26) (sz:=1) list26 elem26 size9 small9 stC_length stC_single (by decide) haccB (by omega) (by omega) (by omega) x
  have g5:w4.heap.get c4=some (.cells [sl] 26 false):=by
   rw [hkp c4 (by omega) (fun hne=>by have:=haccB.lt hne; omega),kB c4 e2]; exact h1
  have gL4:w4.heap.get L=some (.loop ⟨21,tm,[11],(rfOf Tryz.prog 12 0).1,(rfOf Tryz.prog 12 0).2,none,.busy⟩):=by
   rw [hkp L (by omega) (fun hne=>by have:=haccB.lt hne; omega)]; exact gL
  have l4:w4.lim≤c4:=by omega
  have l4L:w4.lim≤L:=by omega
  have hok:=hacc.ok
  have hsv:(cellsOf v').length=1∧cellsOf v'=[v']∧singles [v']=true:=by
   obtain ⟨a,c,rfl⟩:=hacc'.rows.len
   exact ⟨rfl,rfl,by simp⟩
  obtain ⟨s1,s2,s3⟩:=hsv
  rw [hx,ewB] at r10
  rw [ewB] at ha
  simp only [stC,stV] at ha
  have e5:¬ L=c4:=by omega
  obtain ⟨j,w',hy,hQ⟩:=yield_wp (P:=Tryz.prog) (ov:=ov) (m:=m + 1) (l:=L) (args:=[.string ⟨⟨x⟩⟩]) (w:=w) (Q:=fun j w'=>j=none∧w'=⟨(w4.heap.put c4 (some (.cells [v'] 26 false))).put L (some (.loop ⟨21,tm,[11],(rfOf Tryz.prog 12 0).1,(rfOf Tryz.prog 12 0).2,none,.ready⟩)),w4.next,w4.lim⟩) lo rfl rfl ta12_0 tb12_0 (by
   simp [mc12_a0,mc12_b0,lo,hlL,jumpOf,r10,t4,h1,e2,e5,hok,ha,s1,s2,s3,g5,gL4,l4,l4L])
  obtain ⟨rfl,rfl⟩:=hQ
  refine ⟨_,hy,⟨⟨v',B',by simp [e2],?_⟩,by simp,?_,l4,o2,by show L < w4.next; omega,o4⟩,fun y hy hM=>?_,by show w.next≤w4.next; omega,by show w4.lim=w.lim; omega⟩
  ·rw [ef]; exact hacc'.keep (fun _ hl hB=>by simp [show ¬ B'=c4 by omega,show ¬ B'=L by omega]) (Nat.le_refl _)
  ·obtain ⟨ty,ro,g⟩:=hsgB
   refine ⟨ty,ro,?_⟩
   simp [show ¬ 0=L by omega,show ¬ 0=c4 by omega]
   rw [hkp 0 (by omega) (fun hne=>by have:=haccB.lt hne; omega)]; exact g
  ·have q1:¬ y=c4:=fun h=>hM (.inl h)
   have q2:¬ L≤y:=fun h=>hM (.inr h)
   simp [q1,show ¬ y=L by omega]
   rw [hkp y (by omega) (fun hne=>by have:=haccB.lt hne; omega),kB y (by omega)]
theorem call35 {ov:Ov} (m:Nat) (ho:∀ args w,ov 35 args w=none) (s:ByteArray) (w:AW) :
  ∃ v w',(run Tryz.prog ov (m + 1)).call 35 [.string s] w .none=.ok (.ret v) w' .none∧v=.func (.func 61) ⟨[]⟩ ⟨[.pointer (some ⟨w.next,0,none⟩)]⟩∧w'=⟨w.heap.put w.next (some (.cells [.string s] 9 false)),w.next + 1,w.lim⟩:=by
 refine call_wp text35 (by simp) (ho _ _) ?_
 simp [mc35,tupV,notJunk]
structure Nr (ov:Ov):Prop where
 o12:∀ args w,ov 12 args w=none
 o29:∀ args w,ov 29 args w=none
 o33:∀ args w,ov 33 args w=none
 o35:∀ args w,ov 35 args w=none
 o36:∀ args w,ov 36 args w=none
 o58:∀ args w,ov 58 args w=none
 o59:∀ args w,ov 59 args w=none
 o61:∀ args w,ov 61 args w=none
 os:OsO ov
 h10:HasP ov 10 S10.F
 h62:HasP ov 62 S62.F
 h63:HasP ov 63 S63.F
 h87:HasP ov 87 S87.F
structure NearOf (s:List UInt8) (l:List (List UInt8)):Prop where
 perm:l.Perm (nearU s)
 srt:Srt (fun x y=>cmpB x y < 0) l 0 l.length
def nearE (s:List UInt8):Int:=if areB s 2 17=true then 0 else 80
theorem call12 {ov:Ov} (m:Nat) (h:Nr ov) (s:List UInt8) (hfew:areB s 2 17=true→(nearU s).length≤200) (w:AW) (hl:w.lim≤w.next) (hsg:SgAt w) (h0:0 < w.next) :
  ∃ v w',(run Tryz.prog ov (m + 208)).call 12 [.string ⟨⟨s⟩⟩] w .none=.ok (.ret v) w' .none∧∃ v1 l,v=.tuple ⟨[v1,.int .i64 (nearE s)]⟩∧RowsV stC w' v1 l∧(areB s 2 17=true→NearOf s l)∧(areB s 2 17=false→l=[])∧notJunk v1=some v1∧Up w w':=by
 refine call_wpY text12 (by simp) (h.o12 _ _) ?_
 have r33:(run Tryz.prog ov (m + 207)).call 33 [.string ⟨⟨s⟩⟩] w .none=.ok (.ret (.bool (areB s 2 17))) w .none:=run33 h.o58 h.o59 h.o29 h.o33 (m + 204) ⟨⟨s⟩⟩ w hsg
 cases ha:areB s 2 17 with
 | false =>
  have he:nearE s=80:=by unfold nearE; rw [ha]; rfl
  rw [ha] at r33
  simp [mc12,r33,tupV,notJunk,he]
  exact ⟨[],.inl ⟨rfl,_,_,rfl⟩,rfl,Up.refl w⟩
 | true =>
  have he:nearE s=0:=by unfold nearE; rw [ha]; rfl
  obtain ⟨l1,l2,_⟩:=are_all ha
  rw [ha] at r33
  obtain ⟨_,_,c35,rfl,rfl⟩:=call35 (ov:=ov) (m + 206) h.o35 ⟨⟨s⟩⟩ ⟨w.heap.put w.next (some (.cells [.slice none 0 0] 26 false)),w.next + 1,w.lim⟩
  simp only [Nat.add_assoc,Nat.reduceAdd] at c35
  simp [mc12,r33,c35]
  obtain ⟨H,hH⟩:∃ H,H=(w.heap.put w.next (some (.cells [.slice none 0 0] 26 false))).put (w.next + 1) (some (.cells [.string ⟨⟨s⟩⟩] 9 false)):=⟨_,rfl⟩
  rw [← hH]
  have hH':∀ x,x < w.next→H.get x=w.heap.get x:=fun x h1=>by
   rw [hH]; simp [show ¬ x=w.next by omega,show ¬ x=w.next + 1 by omega]
  have g4:H.get w.next=some (.cells [.slice none 0 0] 26 false):=by rw [hH]; simp
  have gs:H.get (w.next + 1)=some (.cells [.string ⟨⟨s⟩⟩] 9 false):=by rw [hH]; simp
  refine wp_seqX (wp_blockX (rf_wp (g:=61) (gargs:=[.func (.yield (w.next + 2)) ⟨[]⟩ ⟨[]⟩,.pointer (some ⟨w.next + 1,0,none⟩)]) ?_ ?_))
  ·simp [callV_func]
  ·generalize hTT:tset _ 10 _=TT
   have u4:tget TT 4=.pointer (some ⟨w.next,0,none⟩):=by rw [← hTT]; simp
   clear hTT
   have hst:=steps12 (ov:=ov) (m + 204) w.next (w.next + 2) TT u4 h.h10
   obtain ⟨w0,ew0⟩:∃ w0:AW,w0=⟨H.put (w.next + 2) (some (.loop ⟨21,TT,[11],(rfOf Tryz.prog 12 0).1,(rfOf Tryz.prog 12 0).2,none,.ready⟩)),w.next + 2 + 1,w.lim⟩:=⟨_,rfl⟩
   have n0:w0.next=w.next + 2 + 1:=by rw [ew0]
   have lm0:w0.lim=w.lim:=by rw [ew0]
   have hgo:∀ x,x < w.next + 2→w0.heap.get x=H.get x:=fun x hx=>by rw [ew0]; show (H.put _ _).get x=_; rw [get_put,if_neg (by omega)]
   have hsg0:SgAt w0:=by
    obtain ⟨ty,ro,g⟩:=hsg
    exact ⟨ty,ro,by rw [hgo 0 (by omega),hH' 0 h0]; exact g⟩
   have hJ0:J12 w.next (w.next + 2) ⟨21,TT,[11],(rfOf Tryz.prog 12 0).1,(rfOf Tryz.prog 12 0).2,none,.ready⟩ [] w0 :=
    ⟨⟨.slice none 0 0,0,by rw [hgo _ (by omega)]; exact g4,.inl ⟨rfl,rfl⟩⟩,by rw [ew0]; show (H.put _ _).get _=_; rw [get_put,if_pos rfl],hsg0,by omega,by omega,by omega,by omega⟩
   obtain ⟨v,w2,hc,hI⟩:=call61 (ov:=ov) (J:=J12 w.next (w.next + 2) ⟨21,TT,[11],(rfOf Tryz.prog 12 0).1,(rfOf Tryz.prog 12 0).2,none,.ready⟩) (M:=fun x=>x=w.next∨w.next + 2≤x) (w0:=w0) (L:=w.next + 2) (n1:=w.next + 1) (s:=s) (m + 205) h.o61 h.h62 h.h63 hst hsg0 (by omega) (by omega) (by rw [hgo _ (by omega)]; exact gs) (by omega) (by omega) (by omega) (by omega) hJ0
   rw [ew0] at hc
   obtain ⟨⟨⟨sl,B,h1,hacc⟩,lo,hsg2,o1,o2,o3,o4⟩,hk2,hn2,hl2⟩:=hI
   refine ⟨v,w2,hc,_,lo,rfl,by show w2.lim≤w.next + 2; omega,?_⟩
   obtain ⟨w3,ew3⟩:∃ w3:AW,w3=⟨w2.heap.put (w.next + 2) (some (.loop ⟨21,TT,[11],(rfOf Tryz.prog 12 0).1,(rfOf Tryz.prog 12 0).2,none,.exhausted⟩)),w2.next,w2.lim⟩:=⟨_,rfl⟩
   have hacc3:AccQ stC 9 (w.next + 2) w3 sl (nearU s) B:=hacc.keep (fun _ h2 h3=>by rw [ew3]; simp [show ¬ B=w.next + 2 by omega]) (by rw [ew3]; exact Nat.le_refl _)
   have n3:w3.next=w2.next:=by rw [ew3]
   have lm3:w3.lim=w2.lim:=by rw [ew3]
   have g43:w3.heap.get w.next=some (.cells [sl] 26 false):=by rw [ew3]; simp [h1]
   have u03:Up w w3:=⟨fun x hx=>by
    rw [ew3]
    show (w2.heap.put _ _).get x=_
    rw [get_put,if_neg (by omega),hk2 x (by omega) (by omega),hgo x (by omega),hH' x hx],by omega,by omega⟩
   have hok:=hacc3.ok
   simp only
   rw [← ew3]
   rcases hacc3 with ⟨hnil,rfl⟩ | ⟨rfl,hB,hb1,hb2,hne⟩
   ·obtain ⟨_,w4,c36,rfl,rfl⟩:=call36n (ov:=ov) none 0 (m + 204) h.os h.o36 w3
    simp [u4,g43,c36,tupV,notJunk,he]
    have hnil':nearU s=[]:=hnil
    exact ⟨[],.inl ⟨rfl,_,_,rfl⟩,⟨by rw [hnil'],fun p q x y h1 h2 h3=>by simp at h3⟩,u03⟩
   ·obtain ⟨_,w4,c36,rfl,L',⟨hI,hMv⟩,hsr⟩:=call36 (ov:=ov) (C:=stC) (V:=stV) (sz:=1) (cI:=cmpB) (fv:=.nilFunc) (fc:=87) m (sortS h.h87) h.os h.o36 (nearU s).length (nearU s).length (hfew ha) B (nearU s) rfl w3 (by omega) (by omega) hb2 hB
    have hlen:L'.length=(nearU s).length:=hMv.len
    have g44:w4.heap.get w.next=some (.cells [.slice (some ⟨B,0,none⟩) (nearU s).length (nearU s).length] 26 false):=by rw [hI.old _ (by omega) (by omega)]; exact g43
    have hrow:=hI.row
    simp [u4,g43,c36,g44,tupV,notJunk,he]
    refine ⟨L',.inr ⟨B,0,none,_,by rw [hlen],⟨[],[],9,false,by simpa using hrow,rfl⟩,by have:=hI.next; omega⟩,⟨hMv.perm,by rw [hlen]; exact hsr⟩,⟨fun x hx=>by rw [hI.old x (by omega) (by omega)]; exact u03.at hx,Nat.le_trans u03.next hI.next,hI.lim.trans u03.lim⟩⟩
noncomputable def pow10:List Int:=[1,10,100,1000,10000,100000,1000000,10000000,100000000,1000000000,10000000000,100000000000,1000000000000,10000000000000,100000000000000,1000000000000000,10000000000000000,100000000000000000,1000000000000000000,10000000000000000000]
noncomputable def signL:List Int:=[97,98,99,100,101,102,103,104,105,106,107,108,109,110,111,112,113,114,115,116,117,118,119,120,121,122,48,49,50,51,52,53,54,55,56,57,45]
noncomputable def laidL:List LaidV:=[(0,signL.map fun z=>Value.int .u8 z,96),(1,pow10.map fun z=>Value.int .u64 z,225),(3,[unk],119)]
noncomputable def noOv:Ov:=fun _ _ _=>none
noncomputable def mc6_l0_b2:MC:=.seq (.seq (.ops [⟨true,none,some 97,33,.move (.tmp 6)⟩]) (.seq (.ops [⟨true,none,some 98,3,.call ⟨.builtin .len,#[.tmp 97],#[33]⟩⟩]) (.seq (.ops [⟨true,none,some 99,4,.binOp .eql 3 (.tmp 98) (.const (.int .i64 2)) 3⟩]) (.seq (.ops [⟨true,none,some 100,4,.move (.tmp 99)⟩]) (.seq (.ops [⟨true,some (100,true),some 101,33,.move (.tmp 6)⟩]) (.seq (.ops [⟨true,some (100,true),some 102,0,.indexAddr 33 (.tmp 101) (.const (.int .i64 1))⟩]) (.seq (.ops [⟨true,some (100,true),some 103,3,.load 3 (.tmp 102)⟩]) (.seq (.ops [⟨true,some (100,true),some 104,33,.move (.tmp 6)⟩]) (.seq (.ops [⟨true,some (100,true),some 105,0,.indexAddr 33 (.tmp 104) (.const (.int .i64 0))⟩]) (.seq (.ops [⟨true,some (100,true),some 106,3,.load 3 (.tmp 105)⟩]) (.seq (.ops [⟨true,some (100,true),some 107,3,.binOp .add 3 (.tmp 106) (.const (.int .i64 1)) 3⟩]) (.seq (.ops [⟨true,some (100,true),some 108,4,.binOp .eql 3 (.tmp 103) (.tmp 107) 3⟩]) (.seq (.ops [⟨true,none,some 109,4,.pick (.tmp 100) (.tmp 108) (.const (.bool false))⟩]) (.seq (.ops [⟨true,none,some 110,4,.move (.tmp 109)⟩]) (.seq (.ops [⟨true,some (110,true),some 111,9,.move (.tmp 0)⟩]) (.seq (.ops [⟨true,some (110,true),some 112,33,.move (.tmp 6)⟩]) (.seq (.ops [⟨true,some (110,true),some 113,0,.indexAddr 33 (.tmp 112) (.const (.int .i64 0))⟩]) (.seq (.ops [⟨true,some (110,true),some 114,3,.load 3 (.tmp 113)⟩]) (.seq (.ops [⟨true,some (110,true),some 115,33,.move (.tmp 6)⟩]) (.seq (.ops [⟨true,some (110,true),some 116,0,.indexAddr 33 (.tmp 115) (.const (.int .i64 1))⟩]) (.seq (.ops [⟨true,some (110,true),some 117,3,.load 3 (.tmp 116)⟩]) (.seq (.ops [⟨true,some (110,true),some 119,26,.move (.tmp 3)⟩]) (.seq (.ops [⟨true,some (110,true),some 120,3,.move (.tmp 5)⟩]) (.seq (.ops [⟨true,some (110,true),some 121,0,.indexAddr 26 (.tmp 119) (.tmp 120)⟩]) (.seq (.ops [⟨true,some (110,true),some 122,9,.load 9 (.tmp 121)⟩]) (.seq (.ops [⟨false,some (110,true),some 118,9,.call ⟨.value (.func 21),#[.tmp 111,.tmp 114,.tmp 117],#[9,3,3]⟩⟩]) (.seq (.ops [⟨true,some (110,true),some 123,4,.binOp .eql 9 (.tmp 118) (.tmp 122) 9⟩]) (.seq (.ops [⟨true,none,some 124,4,.pick (.tmp 110) (.tmp 123) (.const (.bool false))⟩]) (.seq (.ops [⟨true,none,some 8,4,.assign (.tmp 124)⟩]) (.chk [⟨true,some (110,true),some 122,9,.load 9 (.tmp 121)⟩])))))))))))))))))))))))))))))) (.seq (.ops [⟨false,none,some 125,33,.move (.tmp 6)⟩,⟨false,none,some 126,3,.call ⟨.builtin .len,#[.tmp 125],#[33]⟩⟩,⟨false,none,some 127,4,.binOp .neq 3 (.tmp 126) (.const (.int .i64 1)) 3⟩,⟨false,none,some 128,4,.move (.tmp 127)⟩,⟨false,some (128,true),some 129,4,.move (.tmp 8)⟩,⟨false,some (128,true),some 130,4,.unOp .not 4 (.tmp 129)⟩,⟨false,none,some 131,4,.pick (.tmp 128) (.tmp 130) (.const (.bool false))⟩]) (.cond (.tmp 131) (.seq (.ops [⟨false,none,some 2,4,.assign (.const (.bool false))⟩]) (.ret)) (.skip)))
noncomputable def mc6_l0_b1:MC:=.seq (.ops [⟨false,none,some 6,33,.assign (.const (.slice none 0 0))⟩]) (.seq (.seq (.ops [⟨false,none,some 7,3,.assign (.const (.int .i64 0))⟩]) (.block 2 (.loop mc6_l1))) mc6_l0_b2)
theorem mc6_l0_eq:mc6_l0=.seq (.seq (.ops [⟨false,none,some 39,3,.move (.tmp 5)⟩,⟨false,none,some 40,26,.move (.tmp 3)⟩,⟨false,none,some 41,3,.call ⟨.builtin .len,#[.tmp 40],#[26]⟩⟩,⟨false,none,some 42,4,.binOp .lss 3 (.tmp 39) (.tmp 41) 3⟩]) (.cond (.tmp 42) (.skip) (.exit 0))) (.seq (.block 1 (.seq (.seq (.ops [⟨true,none,some 45,26,.move (.tmp 3)⟩,⟨true,none,some 46,3,.move (.tmp 5)⟩,⟨true,none,some 47,0,.indexAddr 26 (.tmp 45) (.tmp 46)⟩,⟨true,none,some 48,9,.load 9 (.tmp 47)⟩,⟨false,none,some 49,4,.call ⟨.value (.func 10),#[.tmp 48],#[9]⟩⟩,⟨true,none,some 50,4,.unOp .not 4 (.tmp 49)⟩,⟨true,none,some 51,4,.move (.tmp 50)⟩,⟨true,some (51,false),some 52,26,.move (.tmp 3)⟩,⟨true,some (51,false),some 53,3,.move (.tmp 5)⟩,⟨true,some (51,false),some 54,0,.indexAddr 26 (.tmp 52) (.tmp 53)⟩,⟨true,some (51,false),some 55,9,.load 9 (.tmp 54)⟩,⟨true,some (51,false),some 56,3,.call ⟨.builtin .len,#[.tmp 55],#[9]⟩⟩,⟨true,some (51,false),some 57,9,.move (.tmp 0)⟩,⟨true,some (51,false),some 58,3,.call ⟨.builtin .len,#[.tmp 57],#[9]⟩⟩,⟨true,some (51,false),some 59,4,.binOp .neq 3 (.tmp 56) (.tmp 58) 3⟩,⟨true,none,some 60,4,.pick (.tmp 51) (.const (.bool true)) (.tmp 59)⟩,⟨true,none,some 61,4,.move (.tmp 60)⟩,⟨true,some (61,false),some 62,3,.move (.tmp 5)⟩,⟨true,some (61,false),some 63,4,.binOp .gtr 3 (.tmp 62) (.const (.int .i64 0)) 3⟩,⟨true,some (61,false),some 64,4,.move (.tmp 63)⟩,⟨true,some (64,true),some 65,26,.move (.tmp 3)⟩,⟨true,some (64,true),some 66,3,.move (.tmp 5)⟩,⟨true,some (64,true),some 67,3,.binOp .sub 3 (.tmp 66) (.const (.int .i64 1)) 3⟩,⟨true,some (64,true),some 68,0,.indexAddr 26 (.tmp 65) (.tmp 67)⟩,⟨true,some (64,true),some 69,9,.load 9 (.tmp 68)⟩,⟨true,some (64,true),some 70,26,.move (.tmp 3)⟩,⟨true,some (64,true),some 71,3,.move (.tmp 5)⟩,⟨true,some (64,true),some 72,0,.indexAddr 26 (.tmp 70) (.tmp 71)⟩,⟨true,some (64,true),some 73,9,.load 9 (.tmp 72)⟩,⟨true,some (64,true),some 74,4,.binOp .geq 9 (.tmp 69) (.tmp 73) 9⟩,⟨true,some (61,false),some 75,4,.pick (.tmp 64) (.tmp 74) (.const (.bool false))⟩,⟨true,none,some 76,4,.pick (.tmp 61) (.const (.bool true)) (.tmp 75)⟩]) (.cond (.tmp 76) (.seq (.ops [⟨false,none,some 2,4,.assign (.const (.bool false))⟩]) (.ret)) (.skip))) mc6_l0_b1)) (.ops [⟨false,none,some 43,3,.move (.tmp 5)⟩,⟨false,none,some 44,3,.binOp .add 3 (.tmp 43) (.const (.int .i64 1)) 3⟩,⟨false,none,some 5,3,.assign (.tmp 44)⟩])):=rfl
noncomputable def mc6_r3:MC:=.seq (.ops [⟨false,none,some 132,4,.call ⟨.value (.func 15),#[],#[]⟩⟩,⟨false,none,some 2,4,.assign (.tmp 132)⟩]) (.ret)
noncomputable def mc6_r2:MC:=.seq (.seq (.ops [⟨false,none,some 5,3,.assign (.const (.int .i64 0))⟩]) (.block 0 (.loop mc6_l0))) mc6_r3
noncomputable def mc6_r1:MC:=.seq (.seq (.ops [⟨false,none,some 31,9,.move (.tmp 0)⟩,⟨false,none,some 32,4,.call ⟨.value (.func 10),#[.tmp 31],#[9]⟩⟩]) (.cond (.tmp 32) (.seq (.ops [⟨false,none,some 33,26,.move (.tmp 3)⟩,⟨false,none,some 34,3,.call ⟨.builtin .len,#[.tmp 33],#[26]⟩⟩,⟨false,none,some 35,4,.binOp .eql 3 (.tmp 34) (.const (.int .i64 0)) 3⟩,⟨false,none,some 36,4,.move (.tmp 35)⟩,⟨false,some (36,true),some 37,4,.call ⟨.value (.func 15),#[],#[]⟩⟩,⟨false,none,some 38,4,.pick (.tmp 36) (.tmp 37) (.const (.bool false))⟩,⟨false,none,some 2,4,.assign (.tmp 38)⟩]) (.ret)) (.skip))) mc6_r2
theorem mc6_eq:mc6=.seq (.ops [⟨false,none,some 2,4,.assign (.const (.bool false))⟩]) (.seq (.ops [⟨false,none,some 10,9,.move (.tmp 0)⟩,⟨false,none,some 11,27,.call ⟨.value (.func 12),#[.tmp 10],#[9]⟩⟩,⟨false,none,some 9,27,.move (.tmp 11)⟩,⟨false,none,some 12,26,.extract (.tmp 9) 0⟩,⟨false,none,some 13,22,.extract (.tmp 9) 1⟩,⟨false,none,some 3,26,.assign (.tmp 12)⟩,⟨false,none,some 4,22,.assign (.tmp 13)⟩]) (.seq (.seq (.ops [⟨false,none,some 14,22,.move (.tmp 4)⟩,⟨false,none,some 15,4,.binOp .neq 22 (.tmp 14) (.const (.int .i64 0)) 22⟩,⟨false,none,some 16,4,.move (.tmp 15)⟩,⟨false,some (16,false),some 17,9,.move (.tmp 0)⟩,⟨false,some (16,false),some 18,3,.call ⟨.builtin .len,#[.tmp 17],#[9]⟩⟩,⟨false,some (16,false),some 19,4,.binOp .gtr 3 (.tmp 18) (.const (.int .i64 17)) 3⟩,⟨false,none,some 20,4,.pick (.tmp 16) (.const (.bool true)) (.tmp 19)⟩]) (.cond (.tmp 20) (.seq (.ops [⟨false,none,some 21,22,.move (.tmp 4)⟩,⟨false,none,some 22,4,.binOp .neq 22 (.tmp 21) (.const (.int .i64 0)) 22⟩,⟨false,none,some 23,4,.move (.tmp 22)⟩,⟨false,some (23,true),some 24,26,.move (.tmp 3)⟩,⟨false,some (23,true),some 25,3,.call ⟨.builtin .len,#[.tmp 24],#[26]⟩⟩,⟨false,some (23,true),some 26,4,.binOp .eql 3 (.tmp 25) (.const (.int .i64 0)) 3⟩,⟨false,none,some 27,4,.pick (.tmp 23) (.tmp 26) (.const (.bool false))⟩,⟨false,none,some 28,4,.move (.tmp 27)⟩,⟨false,some (28,true),some 29,4,.call ⟨.value (.func 15),#[],#[]⟩⟩,⟨false,none,some 30,4,.pick (.tmp 28) (.tmp 29) (.const (.bool false))⟩,⟨false,none,some 2,4,.assign (.tmp 30)⟩]) (.ret)) (.skip))) mc6_r1)):=rfl
structure LaidW (w:AW):Prop where
 g0:∃ ro,w.heap.get 0=some (.cells (signL.map fun z=>Value.int .u8 z) 96 ro)
 g1:∃ ro,w.heap.get 1=some (.cells (pow10.map fun z=>Value.int .u64 z) 225 ro)
 g3:∃ ro,w.heap.get 3=some (.cells [unk] 119 ro)
 n:9≤w.next
theorem LaidW.up {w w':AW} (h:LaidW w) (u:Up w w'):LaidW w':=by
 obtain ⟨⟨r0,h0⟩,⟨r1,h1⟩,⟨r3,h3⟩,hn⟩:=h
 exact ⟨⟨r0,by rw [u.at (by omega)]; exact h0⟩,⟨r1,by rw [u.at (by omega)]; exact h1⟩,⟨r3,by rw [u.at (by omega)]; exact h3⟩,Nat.le_trans hn u.next⟩
theorem sgC_eq:sgC=signL.map fun z=>Value.int .u8 z:=by kernel_rfl
theorem LaidW.sg {w:AW} (h:LaidW w):SgAt w:=by
 obtain ⟨ro,g⟩:=h.g0
 exact ⟨_,ro,by rw [g,sgC_eq]⟩
theorem same0:sameL5 (signL.map fun z=>Value.int .u8 z) (signL.map fun z=>Value.int .u8 z)=true:=by kernel_rfl
theorem same1':sameL5 (pow10.map fun z=>Value.int .u64 z) (pow10.map fun z=>Value.int .u64 z)=true:=by kernel_rfl
theorem same3:sameL5 [unk] [unk]=true:=by kernel_rfl
theorem LaidW.all {w:AW} (h:LaidW w):hasAll w laidL=true:=by
 obtain ⟨⟨r0,h0⟩,⟨r1,h1⟩,⟨r3,h3⟩,_⟩:=h
 have e0:hasB w (0,signL.map fun z=>Value.int .u8 z,96)=true:=by
  unfold hasB
  simp only [h0,same0,Nat.beq_refl,Bool.and_self]
 have e1:hasB w (1,pow10.map fun z=>Value.int .u64 z,225)=true:=by
  unfold hasB
  simp only [h1,same1',Nat.beq_refl,Bool.and_self]
 have e3:hasB w (3,[unk],119)=true:=by
  unfold hasB
  simp only [h3,same3,Nat.beq_refl,Bool.and_self]
 show (bif hasB w (0,signL.map fun z=>Value.int .u8 z,96) then (bif hasB w (1,pow10.map fun z=>Value.int .u64 z,225) then (bif hasB w (3,[unk],119) then true else false) else false) else false)=true
 rw [e0,e1,e3]; rfl
def HasQ (ov:Ov):Prop:=∀ w,hasAll w laidL=true→ov 15 [] w=some (.ok (.ret (.bool true)) w .none)
theorem ruleQ {ov:Ov} (h:HasQ ov) {w:AW} (h1:LaidW w) (m:Nat):(run Tryz.prog ov (m + 1)).call 15 [] w .none=.ok (.ret (.bool true)) w .none:=by
 show stepO Tryz.prog (run Tryz.prog ov m) 15 [] w .none (ov 15 [] w)=_
 rw [h w h1.all]; rfl
def difN (x s:List UInt8) (n:Nat):List Int:=((List.range n).filter fun k=>decide (x[k]? ≠ s[k]?)).map fun (k:Nat)=>(k:Int)
theorem difN_yes {x s:List UInt8} {k:Nat} (h:x[k]? ≠ s[k]?):difN x s (k + 1)=difN x s k++[(k:Int)]:=by
 unfold difN; rw [List.range_succ,List.filter_append,List.map_append]; simp [h]
theorem difN_no {x s:List UInt8} {k:Nat} (h:x[k]?=s[k]?):difN x s (k + 1)=difN x s k:=by
 unfold difN; rw [List.range_succ,List.filter_append,List.map_append]; simp [h]
theorem difN_len (x s:List UInt8) (n:Nat):(difN x s n).length≤n:=by
 unfold difN
 rw [List.length_map]
 have:=List.length_filter_le (fun k=>decide (x[k]? ≠ s[k]?)) (List.range n)
 rwa [List.length_range] at this
theorem rep_dif {s x:List UInt8} {i:Nat} (h:Rep s i x):∀ n,difN x s n=if i < n then [(i:Int)] else []
 | 0=>by simp [difN]
 | n + 1=>by
  obtain ⟨_,h1,h2⟩:=h.at_
  by_cases e:n=i
  ·subst e
   rw [difN_yes h1,rep_dif h n,if_neg (Nat.lt_irrefl _),if_pos (Nat.lt_succ_self _)]; rfl
  ·rw [difN_no (h2 n e),rep_dif h n]
   by_cases h3:i < n
   ·rw [if_pos h3,if_pos (by omega)]
   ·rw [if_neg h3,if_neg (by omega)]
theorem exc_dif {s x:List UInt8} {i:Nat} (h:Exc s i x):∀ n,difN x s n=if i + 1 < n then [(i:Int),(i:Int) + 1] else if i < n then [(i:Int)] else []
 | 0=>by simp [difN]
 | n + 1=>by
  obtain ⟨_,_,_,h1,h2,h3⟩:=h.at_
  by_cases e:n=i
  ·subst e
   rw [difN_yes h1,exc_dif h n,if_neg (by omega),if_neg (by omega),if_neg (by omega),if_pos (by omega)]; rfl
  ·by_cases e2:n=i + 1
   ·subst e2
    rw [difN_yes h2,exc_dif h (i + 1),if_neg (by omega),if_pos (by omega),if_pos (by omega)]
    simp
   ·rw [difN_no (h3 n e e2),exc_dif h n]
    by_cases h4:i + 1 < n
    ·rw [if_pos h4,if_pos (by omega)]
    ·by_cases h5:i < n
     ·omega
     ·rw [if_neg h4,if_neg h5,if_neg (by omega),if_neg (by omega)]
theorem near_mem {s:List UInt8} {l:List (List UInt8)} (h:NearOf s l) {x:List UInt8} (hx:x ∈ l):codeB x=true∧x.length=s.length∧((∃ i,Rep s i x)∨∃ i,Exc s i x):=by
 have hm:=h.perm.mem_iff.1 hx
 obtain ⟨h1,h2⟩:=List.mem_filter.1 hm
 refine ⟨h2,?_,flt_mem.1 h1⟩
 rcases flt_mem.1 h1 with ⟨i,hr⟩ | ⟨i,he⟩
 ·exact hr.at_.1
 ·exact he.at_.1
theorem near_lt {s:List UInt8} {l:List (List UInt8)} (h:NearOf s l) {i:Nat} {x y:List UInt8} (hx:l[i]?=some x) (hy:l[i + 1]?=some y):cmpB x y < 0:=by
 have hnd:l.Nodup:=h.perm.nodup_iff.2 ((flt_nodup s).filter _)
 have hl:=(List.getElem?_eq_some_iff.1 hy).1
 have h1:=h.srt i (i + 1) x y (Nat.zero_le _) (Nat.lt_succ_self _) hl hx hy
 have hne:x ≠ y:=by
  intro e
  subst e
  have:=(List.pairwise_iff_getElem.1 hnd) i (i + 1) (by omega) hl (Nat.lt_succ_self _)
  rw [List.getElem?_eq_getElem (by omega)] at hx
  rw [List.getElem?_eq_getElem hl] at hy
  exact this (Option.some.inj (hx.trans hy.symm))
 have h2:=cmpB_cmp.neg x y
 have h3:cmpB x y ≠ 0:=fun e=>hne (cmpB_eq0.1 e)
 omega
theorem len26V {w w':AW} {v:Value} {l:List (List UInt8)} (h:RowsV stC w v l):lenB Tryz.prog w' 26 v=.val (.int .i64 (l.length:Nat)) w':=by
 obtain ⟨a,c,rfl⟩:=h.len; simp
theorem row_str {H:T AObj} {n b off:Nat} {l:List (List UInt8)} (h:RowsA stC H n b off l) {i:Nat} {x:List UInt8} (hz:l[i]?=some x):rd1O (H.get b) (off + i)=some (.string ⟨⟨x⟩⟩):=by
 have:=h.rd1 (m:=1) (j:=0) (x:=.string ⟨⟨x⟩⟩) stC_length hz rfl
 simpa using this
theorem ia33_0 (w:AW) (a:Addr) (n c:Nat) (hn:0 < n):indexAddrA Tryz.prog w 33 (.slice (some a) n c) (.int .i64 0)=.val (.pointer (some (a.add (0 * 1)))) w:=ia33 w a n c .i64 0 hn
theorem ia33_1 (w:AW) (a:Addr) (n c:Nat) (hn:1 < n):indexAddrA Tryz.prog w 33 (.slice (some a) n c) (.int .i64 1)=.val (.pointer (some (a.add (1 * 1)))) w:=ia33 w a n c .i64 1 hn
section
variable {ov:Ov} {w0 w:AW} {v3:Value} {s x:List UInt8} {l:List (List UInt8)} {i:Nat}
theorem loop6b (m:Nat) (hl:w0.lim≤w0.next) (hxl:x.length=s.length) (hlen:s.length≤100) (hr:RowsV stC w0 v3 l) (hx:l[i]?=some x) (Q:Ex→Tm→AW→Prop) (t:Tm)
  (t0:tget t 0=.string ⟨⟨s⟩⟩) (t3:tget t 3=v3) (t5:tget t 5=.int .i64 (i:Nat)) (t6:tget t 6=.slice none 0 0) (t7:tget t 7=.int .i64 0)
  (hQ:∀ t w,Up w0 w→AccR intC 3 w0.next w (tget t 6) (difN x s s.length)→tget t 0=.string ⟨⟨s⟩⟩→tget t 3=v3→tget t 5=.int .i64 (i:Nat)→Q (.exit 2) t w):wp (exM Tryz.prog (run Tryz.prog ov m) (.loop mc6_l1) t w0) Q:=by
 refine wp_rounds (fun k t w=>Up w0 w∧AccR intC 3 w0.next w (tget t 6) (difN x s k)∧tget t 0=.string ⟨⟨s⟩⟩∧tget t 3=v3∧tget t 5=.int .i64 (i:Nat)∧tget t 7=.int .i64 (k:Nat)∧k≤s.length) 200 (by decide) ⟨Up.refl _,by rw [t6]; exact .inl ⟨by simp [difN],rfl⟩,t0,t3,t5,by simpa using t7,Nat.zero_le _⟩ ?_
 clear t0 t3 t5 t6 t7
 rintro k t w ⟨hu,hacc,t0,t3,t5,t7,hk⟩
 have hn:=hu.next
 have hlm:=hu.lim
 by_cases hlt:k < s.length
 ·obtain ⟨c,hc⟩:∃ c,x[k]?=some c:=⟨_,List.getElem?_eq_getElem (by omega)⟩
  obtain ⟨d,hd⟩:∃ d,s[k]?=some d:=⟨_,List.getElem?_eq_getElem hlt⟩
  obtain ⟨hil,_⟩:=List.getElem?_eq_some_iff.1 hx
  obtain ⟨b,off,sq,cp,e3,hra⟩:=(hr.up hu).at_ i hil
  have hia:=fun w=>ia26 w ⟨b,off,sq⟩ l.length cp .i64 i hil
  have hld:=row_str hra hx
  have hxx:∀ w j,indexA Tryz.prog w 9 (.string ⟨⟨x⟩⟩) (.int j (k:Int))=.val (.int .u8 (c.toNat:Int)) w:=fun w j=>ix9 w _ j k c hc
  have hxs:∀ w j,indexA Tryz.prog w 9 (.string ⟨⟨s⟩⟩) (.int j (k:Int))=.val (.int .u8 (d.toNat:Int)) w:=fun w j=>ix9 w _ j k d hd
  have hw1:IntKind.wrap .i64 ((k:Int) + 1)=(k:Int) + 1:=wrap64_in (by omega) (by omega)
  by_cases hcd:c=d
  ·subst hcd
   have hno:=difN_no (x:=x) (s:=s) (k:=k) (by rw [hc,hd])
   rw [← hno] at hacc
   simp [mc6_l1,t0,t3,t5,t7,hlt,e3,hia,hld,hxx,hxs,hw1]
   exact ⟨by omega,hu,hacc,hlt⟩
  ·have hne:¬ ((c.toNat:Int)=(d.toNat:Int)):=fun h=>hcd (byte_eq.1 h)
   have hyes:=difN_yes (x:=x) (s:=s) (k:=k) (by rw [hc,hd]; intro h; exact hcd (Option.some.inj h))
   obtain ⟨v',w2,hap,hacc',hkp,hn2,hl2⟩:=AccR.push3 (P:=Tryz.prog) (st:=33) (sz:=1) list33 elem33 size3 small3 intC_length intC_single (by decide) hacc (by omega) hn (by have:=difN_len x s k; omega) (k:Int)
   rw [← hyes] at hacc'
   have hok:=hacc.ok
   simp only [intC] at hap
   simp [mc6_l1,t0,t3,t5,t7,hlt,e3,hia,hld,hxx,hxs,hne,hok,hap,hw1]
   exact ⟨by omega,⟨fun y hy=>by rw [hkp y hy]; exact hu.at hy,by omega,by omega⟩,hacc',hlt⟩
 ·have hk':k=s.length:=by omega
  subst hk'
  simp [mc6_l1,t0,t7]
  exact hQ _ _ hu (by simpa using hacc) (by simp [t0]) (by simp [t3]) (by simp [t5])
theorem body6b (m:Nat) (h21:HasP ov 21 S21.F) (hr:RowsV stC w v3 l) (hx:l[i]?=some x) (hre:(∃ k,Rep s k x)∨∃ k,Exc s k x) (hlen:s.length≤100) (Q:Ex→Tm→AW→Prop) (t:Tm) (hd:RowsV intC w (tget t 6) (difN x s s.length))
  (t0:tget t 0=.string ⟨⟨s⟩⟩) (t3:tget t 3=v3) (t5:tget t 5=.int .i64 (i:Nat))
  (hQ:∀ t,tget t 0=.string ⟨⟨s⟩⟩→tget t 3=v3→tget t 5=.int .i64 (i:Nat)→Q .normal t w):wp (exM Tryz.prog (run Tryz.prog ov (m + 1)) mc6_l0_b2 t w) Q:=by
 have hln:=fun w'=>len33V (w':=w') hd
 obtain ⟨v6,t6⟩:∃ v,tget t 6=v:=⟨_,rfl⟩
 rw [t6] at hd hln
 rcases hre with ⟨k,hk⟩ | ⟨k,hk⟩
 ·have e:=rep_dif hk s.length
  rw [if_pos hk.lt] at e
  rw [e] at hln
  simp [mc6_l0_b2,t6,hln,chkM]
  exact hQ _ (by simp [t0]) (by simp [t3]) (by simp [t5])
 ·have e:=exc_dif hk s.length
  rw [if_pos hk.lt] at e
  rw [e] at hln hd
  obtain ⟨b,off,sq,cp,e6,hra⟩:=hd.at_ 0 (by simp)
  have d0:=row_int hra (i:=0) rfl
  have d1:=row_int hra (i:=1) rfl
  obtain ⟨hil,_⟩:=List.getElem?_eq_some_iff.1 hx
  obtain ⟨b3,off3,sq3,cp3,e3,hra3⟩:=hr.at_ i hil
  have hia:=fun w=>ia26 w ⟨b3,off3,sq3⟩ l.length cp3 .i64 i hil
  have hld:=row_str hra3 hx
  obtain ⟨hkl,a,c,ha,hc,hac,hxe⟩:=hk
  have r21:=S21.call (P:=Tryz.prog) h21 (m:=m) (w:=w) ⟨s,k,k + 1,a,c,rfl,ha,hc,rfl⟩
  have ek:((k + 1:Nat):Int)=(k:Int) + 1:=by omega
  rw [ek,← hxe] at r21
  have i0:=fun w=>ia33_0 w ⟨b,off,sq⟩ 2 cp (by decide)
  have i1:=fun w=>ia33_1 w ⟨b,off,sq⟩ 2 cp (by decide)
  have hw1:IntKind.wrap .i64 ((k:Int) + 1)=(k:Int) + 1:=wrap64_in (by omega) (by omega)
  have ss:sameVal 5 (.string ⟨⟨x⟩⟩) (.string ⟨⟨x⟩⟩)=true:=sameN_string 4 _
  simp only [List.length_cons,List.length_nil,Nat.zero_add,Nat.reduceAdd] at e6
  subst e6
  simp at d0
  simp [mc6_l0_b2,t0,t3,t5,t6,e3,i0,i1,d0,d1,hia,hld,r21,hw1,ss]
  exact hQ _ (by simp [t0]) (by simp [t3,e3]) (by simp [t5])
end
section
variable {ov:Ov} {w0 w:AW} {v3:Value} {s:List UInt8} {l:List (List UInt8)} {i:Nat}
theorem loop6a (m:Nat) (h10:HasP ov 10 S10.F) (h21:HasP ov 21 S21.F) (hl:w0.lim≤w0.next) (hs:SgAt w0) (h0:0 < w0.next) (hN:NearOf s l) (hlen:s.length≤100) (hll:l.length≤1000) (hr:RowsV stC w0 v3 l) (Q:Ex→Tm→AW→Prop) (t:Tm)
  (t0:tget t 0=.string ⟨⟨s⟩⟩) (t3:tget t 3=v3) (t5:tget t 5=.int .i64 0)
  (hQ:∀ t w,Up w0 w→Q (.exit 0) t w):wp (exM Tryz.prog (run Tryz.prog ov (m + 1)) (.loop mc6_l0) t w0) Q:=by
 refine wp_rounds (fun i t w=>Up w0 w∧tget t 0=.string ⟨⟨s⟩⟩∧tget t 3=v3∧tget t 5=.int .i64 (i:Nat)∧i≤l.length) 2000 (by decide) ⟨Up.refl _,t0,t3,by simpa using t5,Nat.zero_le _⟩ ?_
 clear t0 t3 t5
 rintro i t w ⟨hu,t0,t3,t5,hi⟩
 have hn:=hu.next
 have hlm:=hu.lim
 have hrw:=hr.up hu
 have hln:=fun w'=>len26V (w':=w') hrw
 by_cases hlt:i < l.length
 ·obtain ⟨x,hx⟩:∃ x,l[i]?=some x:=⟨_,List.getElem?_eq_getElem hlt⟩
  obtain ⟨hcx,hxl,hre⟩:=near_mem hN (List.mem_of_getElem? hx)
  obtain ⟨b,off,sq,cp,e3,hra⟩:=hrw.at_ i hlt
  have hia:=fun w=>ia26 w ⟨b,off,sq⟩ l.length cp .i64 i hlt
  have hld:=row_str hra hx
  have hsw:=hs.up hu h0
  have r10:=S10.call (P:=Tryz.prog) h10 (m:=m) (w:=w) ⟨⟨⟨x⟩⟩,rfl,⟨hsw,by omega⟩,rfl⟩
  have hcx':codeB (⟨⟨x⟩⟩:ByteArray).data.toList=true:=hcx
  rw [hcx'] at r10
  have hw1:IntKind.wrap .i64 ((i:Int) + 1)=(i:Int) + 1:=wrap64_in (by omega) (by omega)
  have hxlI:(x.length:Int)=(s.length:Int):=by omega
  have rest:∀ (Q:Ex→Tm→AW→Prop) (t:Tm),tget t 0=.string ⟨⟨s⟩⟩→tget t 3=v3→tget t 5=.int .i64 (i:Nat)→(∀ t w',Up w0 w'→tget t 0=.string ⟨⟨s⟩⟩→tget t 3=v3→tget t 5=.int .i64 (i:Nat)→Q .normal t w')→wp (exM Tryz.prog (run Tryz.prog ov (m + 1)) mc6_l0_b1 t w) Q:=fun Q t t0 t3 t5 hQ=>by
   simp [mc6_l0_b1]
   refine wp_seqX (wp_blockX (loop6b (m + 1) (by omega) hxl hlen hrw hx _ _ ?_ ?_ ?_ ?_ ?_ ?_))
   ·simp [t0]
   ·simp [t3]
   ·simp [t5]
   ·simp
   ·simp
   ·intro t w' hu' hacc s0 s3 s5
    exact body6b m h21 (hrw.up hu') hx hre hlen _ t hacc.rows s0 s3 s5 fun t q0 q3 q5=>hQ t w' (hu.trans hu') q0 q3 q5
  by_cases h0i:i=0
  ·subst h0i
   simp only [Int.natCast_zero] at hia t5 rest hw1
   rw [Nat.add_zero] at hld
   simp [mc6_l0_eq,t0,t3,t5,hln,hlt,e3,hia,hld,r10,hxlI]
   refine wp_seqX (wp_blockX (rest _ _ (by simp [t0]) (by simp [t3,e3]) (by simp [t5]) ?_))
   intro t w' hu' s0 s3 s5
   have hw0:IntKind.wrap .i64 1=1:=by decide
   simp [s5,hw0]
   exact ⟨hu',s0,by rw [s3]; exact e3,hlt⟩
  ·have hpos:(0:Int) < (i:Int):=by omega
   have hpos':0 < i:=by omega
   obtain ⟨y,hy⟩:∃ y,l[i - 1]?=some y:=⟨_,List.getElem?_eq_getElem (by omega)⟩
   have hia2:=fun w=>ia26 w ⟨b,off,sq⟩ l.length cp .i64 (i - 1) (by omega)
   have hld2:=row_str hra hy
   have hlt2:cmpB y x < 0:=near_lt hN hy (by rw [show i - 1 + 1=i by omega]; exact hx)
   have hge:=fun c w=>bin_geqS (P:=Tryz.prog) (w:=w) 9 c y x
   obtain ⟨zk,hzk⟩:∃ zk:Int,zk=((i - 1:Nat):Int):=⟨_,rfl⟩
   rw [← hzk] at hia2
   have hwm:IntKind.wrap .i64 ((i:Int) - 1)=zk:=by rw [wrap64_in (by omega) (by omega)]; omega
   simp [mc6_l0_eq,t0,t3,t5,hln,hlt,e3,hia,hld,r10,hxlI,hpos,hpos',hwm,hia2,hld2,hge,hlt2]
   refine wp_seqX (wp_blockX (rest _ _ (by simp [t0]) (by simp [t3,e3]) (by simp [t5]) ?_))
   intro t w' hu' s0 s3 s5
   simp [s5,hw1]
   exact ⟨by omega,hu',s0,by rw [s3]; exact e3,hlt⟩
 ·have hi':i=l.length:=by omega
  subst hi'
  simp [mc6_l0_eq,t3,t5,hln]
  exact hQ _ _ hu
end
structure Has6 (ov:Ov):Prop where
 nr:Nr ov
 h21:HasP ov 21 S21.F
 hq:HasQ ov
theorem rep_one {s:List UInt8} {i:Nat} {x y:List UInt8} (hx:Rep s i x) (hy:Rep s i y) (cx:codeB x=true) (cy:codeB y=true):x=y:=by
 have ax:areB x 2 17=true:=by unfold codeB at cx; exact (Bool.and_eq_true _ _ ▸ cx).1
 have ay:areB y 2 17=true:=by unfold codeB at cy; exact (Bool.and_eq_true _ _ ▸ cy).1
 have ex:=(code_B ax).1 cx
 have ey:=(code_B ay).1 cy
 obtain ⟨lx,_,kx⟩:=hx.at_
 obtain ⟨ly,_,ky⟩:=hy.at_
 have hi:=hx.lt
 obtain ⟨b1,b2,_⟩:=are_all ax
 rw [lx] at ex b1 b2
 rw [ly] at ey
 have:=wrong_one (f:=vfI x) (g:=vfI y) (m:=s.length - 1) (i:=i) (by omega) (by omega) (fun j hj=>by unfold vfI; rw [kx j hj,ky j hj]) (vf_bd ax (by omega)).1 (vf_bd ax (by omega)).2 (vf_bd ay (by omega)).1 (vf_bd ay (by omega)).2 ex ey
 have c1:=List.getElem?_eq_getElem (l:=x) (i:=i) (by omega)
 have c2:=List.getElem?_eq_getElem (l:=y) (i:=i) (by omega)
 rw [vf_at c1,vf_at c2] at this
 have k1:=sg_of ((are_all ax).2.2 _ _ c1)
 have k2:=sg_of ((are_all ay).2.2 _ _ c2)
 have e3:sgV x[i]=sgV y[i]:=by omega
 rw [e3,k2] at k1
 refine List.ext_getElem? fun k=>?_
 by_cases e:k=i
 ·subst e; rw [c1,c2]; exact k1.symm
 ·rw [kx k e,ky k e]
theorem few_one {α:Type} {l:List α} (hn:l.Nodup) (h:∀ x ∈ l,∀ y ∈ l,x=y):l.length≤1:=by
 match l,hn,h with
 | [],_,_=>exact Nat.zero_le _
 | [_],_,_=>exact Nat.le_refl _
 | a::b::l,hn,h =>
  have:=h a (.head _) b (.tail _ (.head _))
  rw [List.nodup_cons] at hn
  exact absurd (this ▸ List.Mem.head l) hn.1
theorem nodup_rep (s:List UInt8) {i:Nat} (hi:i < s.length):(repL s i).Nodup:=by
 have hsg:sgL.Pairwise (· ≠ ·):=by decide +kernel
 unfold repL
 rw [List.Nodup,List.pairwise_map]
 refine (hsg.filter _).imp fun {a b} hab e=>hab ?_
 have h1:=congrArg (fun l:List UInt8=>l[i]?) e
 simp only [List.getElem?_set_self hi,Option.some.injEq] at h1
 exact h1
theorem few0 (s:List UInt8):∀ n,n≤s.length→((flt0 s n).filter codeB).length≤n
 | 0,_=>by simp [flt0]
 | n + 1,h=>by
  rw [flt0_succ,List.filter_append,List.length_append]
  have h1:=few0 s n (by omega)
  have h2:((repL s n).filter codeB).length≤1:=few_one ((nodup_rep s (by omega)).filter _) fun x hx y hy=>by
   obtain ⟨x1,x2⟩:=List.mem_filter.1 hx
   obtain ⟨y1,y2⟩:=List.mem_filter.1 hy
   exact rep_one ((rep_mem (by omega)).1 x1) ((rep_mem (by omega)).1 y1) x2 y2
  omega
theorem near_few (s:List UInt8) (h:areB s 2 17=true):(nearU s).length≤200:=by
 obtain ⟨_,l2,_⟩:=are_all h
 have a:=few0 s s.length (Nat.le_refl _)
 have b:=flt1_len s (s.length - 1)
 have e:nearU s=(flt0 s s.length).filter codeB++(flt1 s (s.length - 1)).filter codeB:=by rw [← List.filter_append]; rfl
 have c:=List.length_filter_le codeB (flt1 s (s.length - 1))
 rw [e,List.length_append]; omega
theorem whole6 {ov:Ov} (m:Nat) (h:Has6 ov) (s:List UInt8) (w:AW) (hl:w.lim≤w.next) (hL:LaidW w) (Q:Ex→Tm→AW→Prop) (t:Tm) (t0:tget t 0=.string ⟨⟨s⟩⟩)
  (hQ:∀ t w',tget t 2=.bool true→Q .ret t w'):wp (exM Tryz.prog (run Tryz.prog ov (m + 208)) mc6 t w) Q:=by
 have h0:0 < w.next:=by have:=hL.n; omega
 obtain ⟨_,w1,c12,v1,l,rfl,hr,hN,hE,hj,u1⟩:=call12 m h.nr s (near_few s) w hl hL.sg h0
 have hL1:=hL.up u1
 have r15:=ruleQ h.hq hL1 (m + 207)
 have hln:=fun w'=>len26V (w':=w') hr
 have hl1:w1.lim≤w1.next:=by rw [u1.lim]; have:=u1.next; omega
 have hn1:0 < w1.next:=by have:=u1.next; omega
 cases ha:areB s 2 17 with
 | false =>
  have he:nearE s=80:=by unfold nearE; rw [ha]; rfl
  rw [hE ha] at hln
  rw [he] at c12
  simp [mc6_eq,t0,c12,hj,hln,r15]
  exact hQ _ _ (by simp)
 | true =>
  have he:nearE s=0:=by unfold nearE; rw [ha]; rfl
  rw [he] at c12
  obtain ⟨l1,l2,_⟩:=are_all ha
  have hN:=hN ha
  have hle:¬ (17:Int) < (s.length:Int):=by omega
  have r10:=S10.call (P:=Tryz.prog) h.nr.h10 (m:=m + 207) (w:=w1) ⟨⟨⟨s⟩⟩,rfl,⟨hL1.sg,hn1⟩,rfl⟩
  cases hc:codeB s with
  | true =>
   have hc':codeB (⟨⟨s⟩⟩:ByteArray).data.toList=true:=hc
   rw [hc'] at r10
   have hnil:l=[]:=by
    have:=hN.perm
    rw [near_code hc] at this
    exact List.Perm.eq_nil this
   rw [hnil] at hln
   simp [mc6_eq,mc6_r1,t0,c12,hj,hle,r10,hln,r15]
   exact hQ _ _ (by simp)
  | false =>
   have hc':codeB (⟨⟨s⟩⟩:ByteArray).data.toList=false:=hc
   rw [hc'] at r10
   have hll:l.length≤1000:=by rw [hN.perm.length_eq]; have:=near_few s ha; omega
   have fin:∀ t:Tm,tget t 0=.string ⟨⟨s⟩⟩→tget t 3=v1→wp (exM Tryz.prog (run Tryz.prog ov (m + 208)) mc6_r2 t w1) Q:=fun t t0 t3=>by
    simp [mc6_r2]
    refine wp_seqX (wp_blockX (loop6a (m + 207) h.nr.h10 h.h21 hl1 hL1.sg hn1 hN (by omega) hll hr _ _ ?_ ?_ ?_ ?_))
    ·simp [t0]
    ·simp [t3]
    ·simp
    ·intro t w2 u2
     have r15:=ruleQ h.hq (hL1.up u2) (m + 207)
     simp [mc6_r3,r15]
     exact hQ _ _ (by simp)
   simp [mc6_eq,mc6_r1,t0,c12,hj,hle,r10]
   exact fin _ (by simp [t0]) (by simp)
theorem run6 {ov:Ov} (m:Nat) (ho:∀ args w,ov 6 args w=none) (h:Has6 ov) (s:List UInt8) (w:AW) (hl:w.lim≤w.next) (hL:LaidW w) :
  ∃ x w',(run Tryz.prog ov (m + 209)).call 6 [.string ⟨⟨s⟩⟩] w .none=.ok (.ret x) w' .none∧x=.bool true:=by
 refine call_wp text6 (by simp) (ho _ _) (whole6 m h s w hl hL _ _ (by simp) (fun t w' h=>?_))
 simp [h,tupV]
set_option maxRecDepth 1000000 in
theorem works_true:resIs (.bool true) ((run Tryz.prog noOv 1000).call 15 [] (startA 9 laidL) .none)=true:=by kernel_rfl
theorem mixed:Tryz.prog.follows .mixedOrders=true:=by kernel_rfl
theorem globals9:Tryz.prog.globals.size=9:=by kernel_rfl
theorem no_count:NoCount Tryz.prog:=NoCount.of (by kernel_rfl)
noncomputable def oW:Ov:=memoOv 15 [] laidL (.bool true) noOv
theorem okW':OvOk Tryz.prog oW:=memo_ok no_count mixed ov_none works_true (by kernel_rfl) (by kernel_rfl) (by rw [globals9]; exact Nat.le_refl _) (by kernel_rfl) ov_none
theorem oW_none {f:Nat} (hf:f ≠ 15) (args:List Value) (w:AW):oW f args w=none:=by
 have:Nat.beq f 15=false:=by rw [← Bool.not_eq_true]; intro h; exact hf (Nat.eq_of_beq_eq_true h)
 simp [oW,memoOv,this,noOv]
theorem oW_has:HasQ oW:=fun w hw=>by
 simp [oW,memoOv,hw,sameL5,sameVal.sameVals]
theorem HasQ.skip {f:Nat} {F:PureF} {rest:Ov} (hf:15 ≠ f) (h:HasQ rest):HasQ (ovP f F rest):=fun w hw=>by simp [ovP,hf,h w hw]
theorem ovP_none {f g:Nat} {F:PureF} {rest:Ov} (hne:g ≠ f) (h:∀ args w,rest g args w=none) (args:List Value) (w:AW):ovP f F rest g args w=none:=by simp [ovP,hne,h]
noncomputable def ovL:List (Nat × PureF)→Ov
 | []=>oW
 | x::l=>ovP x.1 x.2 (ovL l)
def keyB (g:Nat):List (Nat × PureF)→Bool
 | []=>Nat.beq g 15
 | x::l=>Nat.beq g x.1 || keyB g l
def lookF (g:Nat):List (Nat × PureF)→Option PureF
 | []=>none
 | x::l=>bif Nat.beq g x.1 then some x.2 else lookF g l
theorem beq_no {a b:Nat} (h:Nat.beq a b=false):a ≠ b:=fun e=>by rw [e,Nat.beq_refl] at h; cases h
theorem chN {g:Nat}:∀ {l:List (Nat × PureF)},keyB g l=false→∀ args w,ovL l g args w=none
 | [],h=>oW_none (beq_no h)
 | x::l,h=>by
  simp only [keyB,Bool.or_eq_false_iff] at h
  exact ovP_none (beq_no h.1) (chN h.2)
theorem chH {g:Nat} {F:PureF}:∀ {l:List (Nat × PureF)},lookF g l=some F→HasP (ovL l) g F
 | [],h=>by cases h
 | x::l,h=>by
  simp only [lookF] at h
  cases hb:Nat.beq g x.1 with
  | true =>
   rw [hb] at h
   cases h
   have e:=Nat.eq_of_beq_eq_true hb
   subst e
   exact .here
  | false =>
   rw [hb] at h
   exact HasP.skip (beq_no hb) (chH h)
def memB (g:Nat):List (Nat × PureF)→Bool
 | []=>false
 | x::l=>Nat.beq g x.1 || memB g l
theorem chW:∀ {l:List (Nat × PureF)},memB 15 l=false→HasQ (ovL l)
 | [],_=>oW_has
 | x::l,h=>by
  simp only [memB,Bool.or_eq_false_iff] at h
  exact HasQ.skip (beq_no h.1) (chW h.2)
noncomputable def cl87:List (Nat × PureF):=(87,S87.F)::[]
noncomputable def o87:Ov:=ovL cl87
theorem ok87:OvOk Tryz.prog (ovP 87 S87.F (ovL [])):=S87.ok no_count mixed okW' fun args w v hl h=>by
 obtain ⟨a,b,rfl,rfl⟩:=h
 obtain ⟨v',w',hc,e⟩:=run87 (ov:=(ovL [])) (chN rfl) (chN rfl) a b w
 exact ⟨rfl,3,v',w',_,hc,e⟩
noncomputable def cl30:List (Nat × PureF):=(30,S30.F)::cl87
noncomputable def o30:Ov:=ovL cl30
theorem ok30:OvOk Tryz.prog (ovP 30 S30.F o87):=S30.ok no_count mixed ok87 fun args w v hl h=>by
 obtain ⟨s,rfl,⟨hs,h0⟩,ha,rfl⟩:=h
 obtain ⟨v',w',hc,e⟩:=run30 (ov:=o87) (chN rfl) (chN rfl) (chN rfl) s w hl hs h0 ha
 exact ⟨rfl,3,v',w',_,hc,e⟩
noncomputable def cl10:List (Nat × PureF):=(10,S10.F)::cl30
noncomputable def o10:Ov:=ovL cl10
theorem ok10:OvOk Tryz.prog (ovP 10 S10.F o30):=S10.ok no_count mixed ok30 fun args w v hl h=>by
 obtain ⟨s,rfl,⟨hs,h0⟩,rfl⟩:=h
 obtain ⟨v',w',hc,e⟩:=run10 (ov:=o30) (chN rfl) (chN rfl) (chN rfl) (chN rfl) (chN rfl) (chH rfl) s w hs h0
 exact ⟨rfl,5,v',w',_,hc,e⟩
noncomputable def cl62:List (Nat × PureF):=(62,S62.F)::cl10
noncomputable def o62:Ov:=ovL cl62
theorem ok62:OvOk Tryz.prog (ovP 62 S62.F o10):=S62.ok no_count mixed ok10 fun args w v hl h=>by
 obtain ⟨L,i,c,rfl,hi,rfl⟩:=h
 obtain ⟨v',w',hc,e⟩:=run62 (ov:=o10) (chN rfl) L i c hi w hl
 exact ⟨rfl,2,v',w',_,hc,e⟩
noncomputable def cl63:List (Nat × PureF):=(63,S63.F)::cl62
noncomputable def o63:Ov:=ovL cl63
theorem ok63:OvOk Tryz.prog (ovP 63 S63.F o62):=S63.ok no_count mixed ok62 fun args w v hl h=>by
 obtain ⟨L,i,a,b,rfl,ha,hb,hi,rfl⟩:=h
 obtain ⟨v',w',hc,e⟩:=run63 (ov:=o62) (chN rfl) L i a b ha hb hi w hl
 exact ⟨rfl,2,v',w',_,hc,e⟩
noncomputable def cl21:List (Nat × PureF):=(21,S21.F)::cl63
noncomputable def o21:Ov:=ovL cl21
theorem ok21:OvOk Tryz.prog (ovP 21 S21.F o63):=S21.ok no_count mixed ok63 fun args w v hl h=>by
 obtain ⟨L,i,k,a,b,rfl,ha,hb,rfl⟩:=h
 obtain ⟨v',w',hc,e⟩:=run21 (ov:=o63) (chN rfl) L i k a b ha hb w hl
 exact ⟨rfl,2,v',w',_,hc,e⟩
theorem topOs:OsO o21:=⟨chN rfl,chN rfl,chN rfl,chN rfl,chN rfl,chN rfl,chN rfl,chN rfl,chN rfl,chN rfl,chN rfl,chN rfl,chN rfl,chN rfl,chN rfl,chN rfl,chN rfl⟩
theorem topNr:Nr o21:=⟨chN rfl,chN rfl,chN rfl,chN rfl,chN rfl,chN rfl,chN rfl,chN rfl,topOs,chH rfl,chH rfl,chH rfl,chH rfl⟩
theorem topHas:Has6 o21:=⟨topNr,chH rfl,chW rfl⟩
theorem top6 (s:ByteArray) (w:AW) (hl:w.lim≤w.next) (hL:LaidW w):∃ w' x',(run Tryz.prog o21 209).call 6 [.string s] w .none=.ok (.ret (.bool true)) w' x':=by
 obtain ⟨⟨s⟩⟩:=s
 obtain ⟨_,w',hc,rfl⟩:=run6 (ov:=o21) 0 (chN rfl) topHas s w hl hL
 exact ⟨w',_,hc⟩
open Go Go.Sh Go.ChangeShapes
theorem ty9:tyOk Tryz.prog 6 9=true:=by kernel_rfl
theorem c9:Tryz.prog.cellsOf 9=1:=by kernel_rfl
theorem str_arg {A:AW} {m:Value} (h:ArgT Tryz.prog A.heap A.next 9 m):∃ s:ByteArray,m=.string s:=by
 unfold ArgT at h
 rw [u9] at h
 obtain ⟨s,e,_⟩:=WT.toStr u9 h
 cases e
 exact ⟨s,rfl⟩
theorem start0:(startH laidL).get 0=some (.cells (signL.map fun z=>Value.int .u8 z) 96 true):=by
 show ((((startH []).put 3 (some (.cells [unk] 119 true))).put 1 (some (.cells (pow10.map fun z=>Value.int .u64 z) 225 true))).put 0 (some (.cells (signL.map fun z=>Value.int .u8 z) 96 true))).get 0=_
 rw [get_put,if_pos rfl]
theorem start1:(startH laidL).get 1=some (.cells (pow10.map fun z=>Value.int .u64 z) 225 true):=by
 show ((((startH []).put 3 (some (.cells [unk] 119 true))).put 1 (some (.cells (pow10.map fun z=>Value.int .u64 z) 225 true))).put 0 (some (.cells (signL.map fun z=>Value.int .u8 z) 96 true))).get 1=_
 rw [get_put,if_neg (by decide),get_put,if_pos rfl]
theorem start3:(startH laidL).get 3=some (.cells [unk] 119 true):=by
 show ((((startH []).put 3 (some (.cells [unk] 119 true))).put 1 (some (.cells (pow10.map fun z=>Value.int .u64 z) 225 true))).put 0 (some (.cells (signL.map fun z=>Value.int .u8 z) 96 true))).get 3=_
 rw [get_put,if_neg (by decide),get_put,if_neg (by decide),get_put,if_pos rfl]
theorem start_true (A:AW) (ms:List Value) (hl:A.lim=A.next) (hG:Tryz.prog.globals.size≤A.next) (hs:∀ b,b < Tryz.prog.globals.size→A.heap.get b=(startH laidL).get b) (hms:ArgsT Tryz.prog A.heap A.next [9] ms) (hz:∀ (j:Nat) t e a k c,([9]:List TypeId)[j]?=some t→Tryz.prog.underlying t=some (.slice e)→ms[j]?=some (.slice a k c)→k * Tryz.prog.bytesOf e≤reachBytes) :
  ∃ A' x',(run Tryz.prog o21 209).call 6 ms A .none=.ok (.ret (.bool true)) A' x':=by
 rw [globals9] at hG hs
 match ms,hms with
 | [m],hm =>
  obtain ⟨s,rfl⟩:=str_arg hm.1
  exact top6 s A (Nat.le_of_eq hl) ⟨⟨true,by rw [hs 0 (by decide),start0]⟩,⟨true,by rw [hs 1 (by decide),start1]⟩,⟨true,by rw [hs 3 (by decide),start3]⟩,hG⟩
open Go.ChangeShapes Go.WideShapes Go.ChangeAt Go.RowKit Go.Sh
theorem own:ownKnob Tryz.prog.godebug=none:=by kernel_rfl
theorem row0:RowOf Tryz.prog 0 37 96:=.of (by kernel_rfl)
theorem row1:RowOf Tryz.prog 1 20 225:=.of (by kernel_rfl)
theorem row3:RowOf Tryz.prog 3 1 119:=.of (by kernel_rfl)
theorem g0:Tryz.prog.globalNamed "rostellum/tin.signs"=some 0:=by kernel_rfl
theorem g1:Tryz.prog.globalNamed "internal/strconv.uint64pow10"=some 1:=by kernel_rfl
theorem g3:Tryz.prog.globalNamed "strconv.ErrSyntax"=some 3:=by kernel_rfl
theorem t0:(Tryz.prog.globals[0]?).map (·.type)=some 96:=by kernel_rfl
theorem t1:(Tryz.prog.globals[1]?).map (·.type)=some 225:=by kernel_rfl
theorem t3:(Tryz.prog.globals[3]?).map (·.type)=some 119:=by kernel_rfl
theorem size_le {g:Nat} (h:g < 9):g < Tryz.prog.globals.size:=by rw [globals9]; exact h
theorem u96:Tryz.prog.underlying 96=some (.array 37 5):=by kernel_rfl
theorem u225:Tryz.prog.underlying 225=some (.array 20 146):=by kernel_rfl
theorem u146:Tryz.prog.underlying 146=some (.int .u64):=by kernel_rfl
theorem u5:Tryz.prog.underlying 5=some (.int .u8):=by kernel_rfl
theorem u119:Tryz.prog.underlying 119=some (.interface #[("Error",123)]):=by kernel_rfl
theorem c5:Tryz.prog.cellsOf 5=1:=by kernel_rfl
theorem c96:Tryz.prog.cellsOf 96=37:=by kernel_rfl
theorem c146:Tryz.prog.cellsOf 146=1:=by kernel_rfl
theorem c225:Tryz.prog.cellsOf 225=20:=by kernel_rfl
def laidRow:List (String × DataW Unit):=[("math/bits.deBruijn32tab",Rows.laid_math_bits_deBruijn32tab),("math/bits.deBruijn64tab",Rows.laid_math_bits_deBruijn64tab),("internal/strconv.uint64pow10",Rows.laid_internal_strconv_uint64pow10),("unicode/utf8.acceptRanges",Rows.laid_unicode_utf8_acceptRanges),("strconv.ErrRange",Rows.laid_strconv_ErrRange),("strconv.ErrSyntax",Rows.laid_strconv_ErrSyntax),("rostellum/tin.signs",Rows.laid_rostellum_tin_signs),("unicode/utf8.first",Rows.laid_unicode_utf8_first)]
theorem laid_ok {W:World} (hs:W.ShapedOpen Tryz.prog) (hL:laidMet Tryz.prog laidRow W):LaidOk Tryz.prog W laidL:=by
 intro x hx
 unfold laidL at hx
 rcases List.mem_cons.1 hx with rfl | hx
 ·exact laid_tab hs hL (zs:=signL) (.tail _ (.tail _ (.tail _ (.tail _ (.tail _ (.tail _ (.head _))))))) g0 (size_le (by decide)) t0 u96 u5 c5 c96 row0
 rcases List.mem_cons.1 hx with rfl | hx
 ·exact laid_tab hs hL (zs:=pow10) (.tail _ (.tail _ (.head _))) g1 (size_le (by decide)) t1 u225 u146 c146 c225 row1
 rcases List.mem_cons.1 hx with rfl | hx
 ·exact laid_iface hs hL (.tail _ (.tail _ (.tail _ (.tail _ (.tail _ (.head _)))))) g3 (size_le (by decide)) t3 u119 row3
 ·cases hx
theorem kids:Kids Tryz.prog (· < Tryz.prog.types.size):=kids_rows (by kernel_rfl) (by kernel_rfl)
theorem wide:slicesWide Tryz.prog=true:=by kernel_rfl
noncomputable def laidWorld (os:Os):World :=
 let w0:=World.holding Tryz.prog os ⟨#[],#[],[]⟩
 let put (h:Array Obj) (g:Nat) (cs:Array Value):Array Obj:=h.modify g fun
  | .cells _ t frozen=>.cells cs t frozen
  | o=>o
 let ints (k:IntKind) (zs:List Int):Array Value:=(zs.map fun z=>Value.int k z).toArray
 let h:=put w0.heap 0 (ints .u8 signL)
 let h:=put h 1 (ints .u64 pow10)
 let h:=put h 3 #[.iface 250 (.pointer (some ⟨14,0,none⟩))]
 let h:=put h 4 #[.iface 250 (.pointer (some ⟨15,0,none⟩))]
 let h:=put h 5 (ints .u8 [0,1,28,2,29,14,24,3,30,22,20,15,25,17,4,8,31,27,13,23,21,19,16,7,26,12,18,6,11,5,10,9])
 let h:=put h 6 (ints .u8 [0,1,56,2,57,49,28,3,61,58,42,50,38,29,17,4,62,47,59,36,45,43,51,22,53,39,33,30,24,18,12,5,63,55,48,27,60,41,37,16,46,35,44,21,52,32,23,11,54,26,40,15,34,20,31,10,25,14,19,9,13,8,7,6])
 let h:=put h 7 (ints .u8 [240,240,240,240,240,240,240,240,240,240,240,240,240,240,240,240,240,240,240,240,240,240,240,240,240,240,240,240,240,240,240,240,240,240,240,240,240,240,240,240,240,240,240,240,240,240,240,240,240,240,240,240,240,240,240,240,240,240,240,240,240,240,240,240,240,240,240,240,240,240,240,240,240,240,240,240,240,240,240,240,240,240,240,240,240,240,240,240,240,240,240,240,240,240,240,240,240,240,240,240,240,240,240,240,240,240,240,240,240,240,240,240,240,240,240,240,240,240,240,240,240,240,240,240,240,240,240,240,241,241,241,241,241,241,241,241,241,241,241,241,241,241,241,241,241,241,241,241,241,241,241,241,241,241,241,241,241,241,241,241,241,241,241,241,241,241,241,241,241,241,241,241,241,241,241,241,241,241,241,241,241,241,241,241,241,241,241,241,241,241,241,241,241,241,2,2,2,2,2,2,2,2,2,2,2,2,2,2,2,2,2,2,2,2,2,2,2,2,2,2,2,2,2,2,19,3,3,3,3,3,3,3,3,3,3,3,3,35,3,3,52,4,4,4,68,241,241,241,241,241,241,241,241,241,241,241])
 let h:=put h 8 (ints .u8 [128,191,160,191,128,159,144,191,128,143,0,0,0,0,0,0,0,0,0,0,0,0,0,0,0,0,0,0,0,0,0,0])
 { w0 with heap:=(h.push (.cells #[.string ⟨#[105,110,118,97,108,105,100,32,115,121,110,116,97,120]⟩] 252)).push (.cells #[.string ⟨#[118,97,108,117,101,32,111,117,116,32,111,102,32,114,97,110,103,101]⟩] 252) }
theorem laid_met (os:Os) (args:Array Value):laidMet Tryz.prog laidRow ((laidWorld os).forCall (fun _ _=>0) ⟨#[],args,[]⟩).memory :=
 laidMet_of_run' 8 (by kernel_rfl) (by kernel_rfl)
theorem reads (os:Os) {H:Type} (enc:TypeId × Value→H):∃ places,DataW.whole enc Tryz.prog ((laidWorld os).forCall (fun _ _=>0) ⟨#[],#[.string ⟨⟨[]⟩⟩],[]⟩).memory Tryz.f6.params.toList Rows.tinNearSpec.vars false (#[Value.string ⟨⟨[]⟩⟩]:Array Value).toList 8=some ([.lit (.string [])],[],places) :=
 ⟨[],by kernel_rfl⟩
theorem mem_all {t a:Nat} (h:t ∈ [a]):t=a:=by simpa using h
theorem params6:Tryz.f6.params.toList=[9]:=by kernel_rfl
set_option maxRecDepth 100000 in
theorem contract (H:Type) (enc:TypeId × Value→H) (W:World) (base:Nat) (args:Array Value) (ds gs:List (DataW H)) (before:List MemPlace)
  (hval:∀ (j:Nat) t v,Tryz.f6.params[j]?=some t→args[j]?=some v→Value.okWide Tryz.prog W .any base t v)
  (hW:DataW.Whole enc Tryz.prog Tryz.f6.params.toList Rows.tinNearSpec.vars false W args.toList ds gs before) {tw:List TypeId} (hz:(DataW.weightsEach Tryz.prog (Tryz.f6.params.toList++tw) (ds++gs)).all (·≤reachBytes)=true) (hL:laidMet Tryz.prog laidRow W) (hs:W.ShapedOpen Tryz.prog) :
  Calls Tryz.prog 6 args W fun e W'=>∃ v,e=.returned v∧Rows.tinNearSpec.post enc Tryz.prog Tryz.f6 false true false false W args v W':=by
 have hW':=hW
 obtain ⟨vs⟩:=args
 obtain ⟨p,q,hA,hV,rfl,hfz,hnd⟩:=hW
 obtain ⟨rfl,rfl⟩:=trodVars_none hV
 have hA':=hA
 rw [params6] at hA'
 rw [params6] at hz
 obtain ⟨_,hlen⟩:=trodAll_length _ _ _ _ hA'
 have key:=input_sized no_count mixed ok21 (laid_ok hs hL) (d:=6) (ts:=[9]) (f:=6) (m:=209) (fun t ht=>by rcases mem_all ht with rfl; exact ty9) (fun j t v h1 h2=>hval j t v (by rw [← Array.getElem?_toList,params6]; exact h1) (by simpa using h2)) hA' hlen hz start_true
 match ds,hlen with
 | [d1],_ =>
  refine key.mono fun e W' ⟨he,hk⟩=>?_
  subst he
  exact ⟨_,rfl,post_stays (pa:=p) (pv:=[]) hW' (fun _ _ _=>trodAll_cons_mk (shut_bool Tryz.underlying4 _) trodAll_mk0)
   (fun sp hsp=>by
    show DataW.TrodAll enc Tryz.prog W' 0 sp true Tryz.f6.params.toList vs [d1] p
    rw [params6]
    exact args_again kids wide hk [9] vs [d1] p (fun t ht=>by rcases mem_all ht with rfl <;> decide +kernel) hA' (fun x hx=>hW'.lt x (by simpa using hx)) (fun x hx=>hsp x (by simpa using hx)))
   (fun _ _=>rfl) rfl hk (ok_one (by kernel_rfl) rfl (okWide_bool_mk Tryz.underlying4 _))⟩
set_option maxRecDepth 100000 in
theorem lifted (os:Os) (started:os.Started) (H:Type) (enc:TypeId × Value→H) (F:Stop.Interp) :
  ReturnsInHanded {} Tryz.checked os 6 .any ((OpenSpec.ofChange Rows.tinNearSpec).preRow enc Tryz.prog Tryz.f6 Rows.tinNearRow.domain false Rows.tinNearRow.laid) (((OpenSpec.ofChange Rows.tinNearSpec).at F).post enc Tryz.prog Tryz.f6 false true false false):=by
 obtain ⟨places,hx⟩:=reads os enc
 refine returnsInHanded_of_row (C:=Tryz.checked) (s:=OpenSpec.ofChange Rows.tinNearSpec) own started (by kernel_rfl) Tryz.func6
  (witness_row_atRef (enc:=enc) (C:=Tryz.checked) false (laidWorld os) #[.string ⟨⟨[]⟩⟩] rfl (by kernel_rfl) (by kernel_rfl) (by kernel_rfl)
   (OpenSpec.preRow_of_cond 8 hx (by kernel_rfl) (fun k hk=>by cases hk) (by kernel_rfl) (laid_met os _))) ?_
 intro W base args ds gs before hval hW _ _ hz hL hs _
 exact contract H enc W base args ds gs before hval hW hz hL hs
theorem said:Rows.TinNearSaid :=
 OpenClaim.holds_of_cond 6 Tryz.f6 rfl rfl rfl rfl rfl rfl rfl ⟨rfl,rfl,rfl,rfl,rfl⟩ rfl rfl rfl rfl rfl (by kernel_rfl) Tryz.func6 (by kernel_rfl)
  (of_decide_eq_true (by kernel_rfl)) (by unfold Func.isWrapper; first | (rw [if_pos (by decide +kernel)]; kernel_rfl) | (rw [if_neg (by decide +kernel)]; exact ⟨rfl,rfl⟩))
  (fun os started H enc _ F=>by rw [OpenClaim.pre_eq_preRow]; exact lifted os started H enc F)
theorem plain (f:FuncId) (fn:Func) (hf:Tryz.pinned.checked.prog.funcNamed "rostellum/rostellumlaw08.TinNear"=some f) (hfn:Tryz.pinned.checked.prog.funcs[f]?=some fn) :
  true=Tryz.pinned.checked.prog.looks []∧∀ (j:Nat) t,fn.params[j]?=some t→Tryz.pinned.checked.prog.wantsStandIn t=false:=by
 obtain rfl:f=6:=Option.some.inj ((show Tryz.prog.funcNamed "rostellum/rostellumlaw08.TinNear"=some 6 by kernel_rfl).symm.trans hf) |>.symm
 obtain rfl:fn=Tryz.f6:=(Option.some.inj (Tryz.func6.symm.trans hfn)).symm
 refine ⟨by kernel_rfl,fun j t ht=>?_⟩
 have h1:t ∈ Tryz.f6.params.toList:=by
  rw [← Array.getElem?_toList] at ht
  exact List.mem_of_getElem? ht
 rw [params6] at h1
 have k9:Tryz.prog.wantsStandIn 9=false:=by kernel_rfl
 rcases mem_all h1 with rfl
 ·exact k9
set_option maxRecDepth 100000 in
theorem card:Rows.TinNearCardSaid :=
 Claim7.holds_tied_plain_at .later [] _ _ _ _ said (fun _ h=>by cases h) (by kernel_rfl) (fun _ h=>by cases h) tinNear_row_tie rfl ⟨rfl,rfl⟩ (by kernel_rfl) rfl plain (by kernel_rfl)
end Go.Proofs.YtdgllbepplldoaaGreatDoor.walk
