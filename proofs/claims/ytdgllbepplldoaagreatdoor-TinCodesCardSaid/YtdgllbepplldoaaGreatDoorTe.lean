/- Part of a proof: see the text with the theorem. -/
import Derived.Test.YtdgllbepplldoaaGreatDoorTd
import Derived.Test.YtdgllbepplldoaaGreatDoorTb
import Derived.Test.YtdgllbepplldoaaGreatDoorShF
import Derived.Test.YtdgllbepplldoaaGreatDoorShE
import Derived.KernelRfl
import Derived.Test.YtdgllbepplldoaaGreatDoorProg
import Derived.Test.YtdgllbepplldoaaGreatDoorTa
set_option linter.all false
namespace Go.Proofs.YtdgllbepplldoaaGreatDoor.walk
open Go Go.Sh
set_option maxRecDepth 100000
section
variable {α:Type} {C:α→List Value} {V:α→Value} {sz:Nat} {cI:α→α→Int} {fv:Value} {fc:FuncId} {ov:Ov}
set_option maxHeartbeats 2000000 in
theorem pdq2O (g:Nat) (h:SO ov C V sz cI fv fc) (o:OsO ov) (n c:Nat) (hn:n≤200) (a b:Nat) (hbn:b≤n) (B:Nat) (w0:AW) (hl:w0.lim≤B) (hl0:w0.lim≤w0.next) (hBn:B < w0.next) (L0:List α) (hL0:L0.length=n) (a1 b1:Nat) (hd:a1 + 12 < b1) (hrec:RecO ov C cI fv g n c B (b1 - a1)) (L:List α) (hP:Pdq (fun x y=>cI x y < 0) a b a1 b1 L0 L) (Q:Ex→Tm→AW→Prop) (t:Tm) (w:AW) (hw:InO C w0 B L w) (lim:Int) (t0:tget t 0=.slice (some ⟨B,0,none⟩) n c) (t1:tget t 1=.int .i64 (a1:Nat)) (t2:tget t 2=.int .i64 (b1:Nat)) (t3:tget t 3=.int .i64 lim) (t4:True) (t12:tget t 10=.int .i64 ((b1 - a1:Nat):Int)) (wb wq:Bool) (t10:tget t 8=.bool wb) (t11:tget t 9=.bool wq) (pv:Nat) (hpa:a1≤pv) (hpb:pv < b1) (t13:tget t 11=.int .i64 (pv:Nat)) (hint:Int) (t14:tget t 12=.int .i64 hint) (hN:∀ t w L a2 b2,Pdq (fun x y=>cI x y < 0) a b a2 b2 L0 L→b2 - a2 < b1 - a1→InO C w0 B L w→tget t 0=.slice (some ⟨B,0,none⟩) n c→tget t 1=.int .i64 (a2:Nat)→tget t 2=.int .i64 (b2:Nat)→tget t 3=.int .i64 lim→True→(∃ wb,tget t 8=.bool wb)→(∃ wp,tget t 9=.bool wp)→Q .normal t w) (hE:∀ t w L a2 b2,Pdq (fun x y=>cI x y < 0) a b a2 b2 L0 L→b2 - a2 < b1 - a1→InO C w0 B L w→tget t 0=.slice (some ⟨B,0,none⟩) n c→tget t 1=.int .i64 (a2:Nat)→tget t 2=.int .i64 (b2:Nat)→tget t 3=.int .i64 lim→True→(∃ wb,tget t 8=.bool wb)→(∃ wp,tget t 9=.bool wp)→Q (.exit 1) t w) (hR:∀ t w L,InO C w0 B L w→Mv a b L0 L→Srt (fun x y=>cI x y < 0) L a b→Q .ret t w) :
  wp (exM Tryz.prog (run Tryz.prog ov (g + 5)) mc64_r2 t w) Q:=by
 have key:∀ t' w' L',Pdq (fun x y=>cI x y < 0) a b a1 b1 L0 L'→InO C w0 B L' w'→tget t' 0=.slice (some ⟨B,0,none⟩) n c→tget t' 1=.int .i64 (a1:Nat)→tget t' 2=.int .i64 (b1:Nat)→tget t' 3=.int .i64 lim→True→tget t' 10=.int .i64 ((b1 - a1:Nat):Int)→tget t' 8=.bool wb→tget t' 9=.bool wq→tget t' 11=.int .i64 (pv:Nat)→wp (exM Tryz.prog (run Tryz.prog ov (g + 5)) mc64_r3 t' w') Q:=fun t' w' L' hP' hw' s0 s1 s2 s3 s4 s12 s10 s11 s13=>pdq3O g h o n c hn a b hbn B w0 hl hl0 hBn L0 hL0 a1 b1 hd hrec L' hP' Q t' w' hw' lim s0 s1 s2 s3 s4 s12 wb wq s10 s11 pv hpa hpb s13 hN hE
 have hlen:L.length=n:=by rw [hP.mv.len,hL0]
 have hlm:=hw.lim
 have hnx:=hw.next
 have hb0:=hP.b1
 obtain ⟨za,hza⟩:∃ k:Int,k=(a1:Int):=⟨_,rfl⟩
 obtain ⟨zb,hzb⟩:∃ k:Int,k=(b1:Int):=⟨_,rfl⟩
 obtain ⟨zl,hzl⟩:∃ k:Int,k=((b1 - a1:Nat):Int):=⟨_,rfl⟩
 rw [← hza] at t1
 rw [← hzb] at t2
 rw [← hzl] at t12
 by_cases hcond:wb=true∧wq=true∧hint=1
 ·obtain ⟨rfl,rfl,rfl⟩:=hcond
  obtain ⟨_,w1,c1,L1,bb,rfl,⟨i1,m1⟩,hs⟩:=call86 (g + 3) o.oPIN h n c hn a1 b1 (by omega) (by omega) B L hlen hP.low w (by omega) hw.row
  rw [← hza,← hzb] at c1
  cases bb with
  | true =>
   simp [mc64_r2,t0,t1,t2,t3,t4,t10,t11,t14,c1]
   exact hR _ w1 L1 (hw.trans i1) (hP.move m1).mv ((hP.move m1).done (hs rfl))
  | false =>
   simp [mc64_r2,t0,t1,t2,t3,t4,t10,t11,t14,c1]
   exact key _ w1 L1 (hP.move m1) (hw.trans i1) (by simp [t0]) (by simp [t1,hza]) (by simp [t2,hzb]) (by simp [t3]) (by simp [t4]) (by simp [t12,hzl]) (by simp [t10]) (by simp [t11]) (by simp [t13])
 ·have fin:wp (exM Tryz.prog (run Tryz.prog ov (g + 5)) mc64_r2 t w) Q:=by
   by_cases h1:hint=1
   ·subst h1
    cases wb <;> cases wq <;> first
     | exact absurd ⟨rfl,rfl,rfl⟩ hcond
     | (simp [mc64_r2,t10,t11,t14]; exact key _ w L hP hw (by simp [t0]) (by simp [t1,hza]) (by simp [t2,hzb]) (by simp [t3]) (by simp [t4]) (by simp [t12,hzl]) (by simp [t10]) (by simp [t11]) (by simp [t13]))
   ·cases wb <;> cases wq <;> (simp [mc64_r2,t10,t11,t14,h1]; exact key _ w L hP hw (by simp [t0]) (by simp [t1,hza]) (by simp [t2,hzb]) (by simp [t3]) (by simp [t4]) (by simp [t12,hzl]) (by simp [t10]) (by simp [t11]) (by simp [t13]))
  exact fin
end
section
variable {α:Type} {C:α→List Value} {V:α→Value} {sz:Nat} {cI:α→α→Int} {fv:Value} {fc:FuncId} {ov:Ov}
set_option maxHeartbeats 2000000 in
theorem pdq1O (g:Nat) (h:SO ov C V sz cI fv fc) (o:OsO ov) (n c:Nat) (hn:n≤200) (a b:Nat) (hbn:b≤n) (B:Nat) (w0:AW) (hl:w0.lim≤B) (hl0:w0.lim≤w0.next) (hBn:B < w0.next) (L0:List α) (hL0:L0.length=n) (a1 b1:Nat) (hd:a1 + 12 < b1) (hrec:RecO ov C cI fv g n c B (b1 - a1)) (L:List α) (hP:Pdq (fun x y=>cI x y < 0) a b a1 b1 L0 L) (Q:Ex→Tm→AW→Prop) (t:Tm) (w:AW) (hw:InO C w0 B L w) (lim:Int) (t0:tget t 0=.slice (some ⟨B,0,none⟩) n c) (t1:tget t 1=.int .i64 (a1:Nat)) (t2:tget t 2=.int .i64 (b1:Nat)) (t3:tget t 3=.int .i64 lim) (t4:True) (t12:tget t 10=.int .i64 ((b1 - a1:Nat):Int)) (wb wq:Bool) (t10:tget t 8=.bool wb) (t11:tget t 9=.bool wq) (hN:∀ t w L a2 b2,Pdq (fun x y=>cI x y < 0) a b a2 b2 L0 L→b2 - a2 < b1 - a1→InO C w0 B L w→tget t 0=.slice (some ⟨B,0,none⟩) n c→tget t 1=.int .i64 (a2:Nat)→tget t 2=.int .i64 (b2:Nat)→tget t 3=.int .i64 lim→True→(∃ wb,tget t 8=.bool wb)→(∃ wp,tget t 9=.bool wp)→Q .normal t w) (hE:∀ t w L a2 b2,Pdq (fun x y=>cI x y < 0) a b a2 b2 L0 L→b2 - a2 < b1 - a1→InO C w0 B L w→tget t 0=.slice (some ⟨B,0,none⟩) n c→tget t 1=.int .i64 (a2:Nat)→tget t 2=.int .i64 (b2:Nat)→tget t 3=.int .i64 lim→True→(∃ wb,tget t 8=.bool wb)→(∃ wp,tget t 9=.bool wp)→Q (.exit 1) t w) (hR:∀ t w L,InO C w0 B L w→Mv a b L0 L→Srt (fun x y=>cI x y < 0) L a b→Q .ret t w) :
  wp (exM Tryz.prog (run Tryz.prog ov (g + 5)) mc64_r1 t w) Q:=by
 have key:∀ t' w' L' (pv:Nat) (hint:Int),a1≤pv→pv < b1→Pdq (fun x y=>cI x y < 0) a b a1 b1 L0 L'→InO C w0 B L' w'→tget t' 0=.slice (some ⟨B,0,none⟩) n c→tget t' 1=.int .i64 (a1:Nat)→tget t' 2=.int .i64 (b1:Nat)→tget t' 3=.int .i64 lim→True→tget t' 10=.int .i64 ((b1 - a1:Nat):Int)→tget t' 8=.bool wb→tget t' 9=.bool wq→tget t' 11=.int .i64 (pv:Nat)→tget t' 12=.int .i64 hint→wp (exM Tryz.prog (run Tryz.prog ov (g + 5)) mc64_r2 t' w') Q:=fun t' w' L' pv hint hpa hpb hP' hw' s0 s1 s2 s3 s4 s12 s10 s11 s13 s14=>pdq2O g h o n c hn a b hbn B w0 hl hl0 hBn L0 hL0 a1 b1 hd hrec L' hP' Q t' w' hw' lim s0 s1 s2 s3 s4 s12 wb wq s10 s11 pv hpa hpb s13 hint s14 hN hE hR
 have hlen:L.length=n:=by rw [hP.mv.len,hL0]
 have hlm:=hw.lim
 have hnx:=hw.next
 have hb0:=hP.b1
 obtain ⟨za,hza⟩:∃ k:Int,k=(a1:Int):=⟨_,rfl⟩
 obtain ⟨zb,hzb⟩:∃ k:Int,k=(b1:Int):=⟨_,rfl⟩
 obtain ⟨zl,hzl⟩:∃ k:Int,k=((b1 - a1:Nat):Int):=⟨_,rfl⟩
 rw [← hza] at t1
 rw [← hzb] at t2
 rw [← hzl] at t12
 obtain ⟨_,w1,c1,⟨k,hint,rfl,k1,k2⟩,i1⟩:=call84 g o.oCHO o.oMDA o.oMED o.oORD h n c hn a1 b1 hd (by omega) B L hlen w (by omega) (by omega) hw.row
 have hw1:=hw.trans i1
 have hlm1:=hw1.lim
 rw [← hza,← hzb] at c1
 by_cases h2:hint=2
 ·subst h2
  obtain ⟨_,w2,c2,rfl,L2,i2,m2⟩:=call85 (g + 3) o.oREV h n c hn a1 b1 (by omega) (by omega) B L hlen w1 (by omega) hw1.row
  rw [← hza,← hzb] at c2
  obtain ⟨zk,hzk⟩:∃ z:Int,z=(k:Int):=⟨_,rfl⟩
  rw [← hzk] at c1
  have e1:IntKind.wrap .i64 (zb - 1)=zb - 1:=wrap64_in (by omega) (by omega)
  have e2:IntKind.wrap .i64 (zk - za)=zk - za:=wrap64_in (by omega) (by omega)
  have e3:IntKind.wrap .i64 (zb - 1 - (zk - za))=((b1 - 1 - (k - a1):Nat):Int):=by rw [wrap64_in (by omega) (by omega)]; omega
  simp [mc64_r1,t0,t1,t2,t3,t4,t10,t11,t12,c1,c2,e1,e2,e3]
  exact key _ w2 L2 (b1 - 1 - (k - a1)) 1 (by omega) (by omega) (hP.move m2) (hw1.trans i2) (by simp [t0]) (by simp [t1,hza]) (by simp [t2,hzb]) (by simp [t3]) (by simp [t4]) (by simp [t12,hzl]) (by simp [t10]) (by simp [t11]) (by simp) (by simp)
 ·simp [mc64_r1,t0,t1,t2,t3,t4,t10,t11,t12,c1,h2]
  exact key _ w1 L k hint k1 k2 hP hw1 (by simp [t0]) (by simp [t1,hza]) (by simp [t2,hzb]) (by simp [t3]) (by simp [t4]) (by simp [t12,hzl]) (by simp [t10]) (by simp [t11]) (by simp) (by simp)
end
section
variable {α:Type} {C:α→List Value} {V:α→Value} {sz:Nat} {cI:α→α→Int} {fv:Value} {fc:FuncId} {ov:Ov}
def PdqIO (C:α→List Value) (cI:α→α→Int) (fv:Value) (n c B a b:Nat) (L0:List α) (w0:AW) (r:Nat) (t:Tm) (w:AW):Prop:=∃ L a1 b1 lim,Pdq (fun x y=>cI x y < 0) a b a1 b1 L0 L∧(b1 - a1) + r≤b - a∧InO C w0 B L w∧tget t 0=.slice (some ⟨B,0,none⟩) n c∧tget t 1=.int .i64 (a1:Nat)∧tget t 2=.int .i64 (b1:Nat)∧tget t 3=.int .i64 lim∧True∧(∃ wb,tget t 8=.bool wb)∧(∃ wq,tget t 9=.bool wq)
set_option maxHeartbeats 4000000 in
theorem pdq0O (g:Nat) (h:SO ov C V sz cI fv fc) (o:OsO ov) (n c:Nat) (hn:n≤200) (a b:Nat) (hab:a≤b) (hbn:b≤n) (B:Nat) (w0:AW) (hl:w0.lim≤B) (hl0:w0.lim≤w0.next) (hBn:B < w0.next) (L0:List α) (hL0:L0.length=n) (hrec:RecO ov C cI fv g n c B (b - a)) (low:∀ x,0 < a→L0[a - 1]?=some x→All (fun z=>¬ cI z x < 0) L0 a b) (Q:Ex→Tm→AW→Prop) (t:Tm) (w:AW) (hw:InO C w0 B L0 w) (lim:Int)
  (t0:tget t 0=.slice (some ⟨B,0,none⟩) n c) (t1:tget t 1=.int .i64 (a:Nat)) (t2:tget t 2=.int .i64 (b:Nat)) (t3:tget t 3=.int .i64 lim) (t4:True) (t10:tget t 8=.bool true) (t11:tget t 9=.bool true)
  (hR:∀ t w L,InO C w0 B L w→Mv a b L0 L→Srt (fun x y=>cI x y < 0) L a b→Q .ret t w):wp (exM Tryz.prog (run Tryz.prog ov (g + 5)) (.loop mc64_l0) t w) Q:=by
 refine wp_rounds (fun r t w=>PdqIO C cI fv n c B a b L0 w0 r t w) 300 (by decide) ⟨L0,a,b,lim,Pdq.start hab (by omega) low,by omega,hw,t0,t1,t2,t3,t4,⟨_,t10⟩,⟨_,t11⟩⟩ ?_
 clear t0 t1 t2 t3 t4 t10 t11 hw lim
 rintro r t w ⟨L,a1,b1,lim,hP,hr,hw,t0,t1,t2,t3,t4,⟨wb,t10⟩,⟨wq,t11⟩⟩
 have hlen:L.length=n:=by rw [hP.mv.len,hL0]
 have hlm:=hw.lim
 have hnx:=hw.next
 have hb0:=hP.b1
 have hab1:=hP.ab
 rw [mc64_l0_eq]
 obtain ⟨za,hza⟩:∃ k:Int,k=(a1:Int):=⟨_,rfl⟩
 obtain ⟨zb,hzb⟩:∃ k:Int,k=(b1:Int):=⟨_,rfl⟩
 obtain ⟨zl,hzl⟩:∃ k:Int,k=((b1 - a1:Nat):Int):=⟨_,rfl⟩
 rw [← hza] at t1
 rw [← hzb] at t2
 have e1:IntKind.wrap .i64 (zb - za)=zl:=by rw [wrap64_in (by omega) (by omega)]; omega
 by_cases h12:b1 - a1≤12
 ·have h12':zl≤12:=by omega
  obtain ⟨_,w1,c1,rfl,L1,⟨i1,m1⟩,s1⟩:=call81 (g + 3) o.oINS h n c hn a1 b1 hab1 (by omega) B L hlen w (by omega) hw.row
  rw [← hza,← hzb] at c1
  simp [t0,t1,t2,t3,t4,t10,t11,e1,h12',c1]
  exact hR _ w1 L1 (hw.trans i1) (hP.move m1).mv ((hP.move m1).done s1)
 ·have h12':¬ zl≤12:=by omega
  by_cases h0:lim=0
  ·subst h0
   obtain ⟨_,w1,c1,rfl,L1,⟨i1,m1⟩,s1⟩:=call82 (g + 2) o.oHEAP o.oSIF h n c hn a1 b1 (by omega) (by omega) B L hlen w (by omega) hw.row
   rw [← hza,← hzb] at c1
   simp [t0,t1,t2,t3,t4,t10,t11,e1,h12',c1]
   exact hR _ w1 L1 (hw.trans i1) (hP.move m1).mv ((hP.move m1).done s1)
  ·have hrec':RecO ov C cI fv g n c B (b1 - a1):=fun a' b' l' L' w' e1 e2 e3=>hrec a' b' l' L' w' e1 e2 (by omega)
   have go:∀ (lim':Int) t' w',(∃ L a2 b2,Pdq (fun x y=>cI x y < 0) a b a2 b2 L0 L∧b2 - a2 < b1 - a1∧InO C w0 B L w'∧tget t' 0=.slice (some ⟨B,0,none⟩) n c∧tget t' 1=.int .i64 (a2:Nat)∧tget t' 2=.int .i64 (b2:Nat)∧tget t' 3=.int .i64 lim'∧True∧(∃ wb,tget t' 8=.bool wb)∧(∃ wp,tget t' 9=.bool wp))→r < 300∧PdqIO C cI fv n c B a b L0 w0 (r + 1) t' w':=fun lim' t' w' ⟨L,a2,b2,q1,q2,q3,q4,q5,q6,q7,q8,q9,q10⟩=>⟨by omega,L,a2,b2,lim',q1,by omega,q3,q4,q5,q6,q7,q8,q9,q10⟩
   cases wb with
   | true =>
    simp [t0,t1,t2,t3,t4,t10,t11,e1,h12',h0]
    refine wp_blockX (pdq1O g h o n c hn a b hbn B w0 hl hl0 hBn L0 hL0 a1 b1 (by omega) hrec' L hP _ _ _ hw lim ?_ ?_ ?_ ?_ ?_ ?_ true wq ?_ ?_ ?_ ?_ ?_)
    case _=>simp [t0]
    case _=>simp [t1,hza]
    case _=>simp [t2,hzb]
    case _=>simp [t3]
    case _=>simp [t4]
    case _=>simp [hzl]
    case _=>simp [t10]
    case _=>simp [t11]
    case _=>exact fun t' w' L' a2 b2 q1 q2 q3 q4 q5 q6 q7 q8 q9 q10=>go lim t' w' ⟨L',a2,b2,q1,q2,q3,q4,q5,q6,q7,q8,q9,q10⟩
    case _=>exact fun t' w' L' a2 b2 q1 q2 q3 q4 q5 q6 q7 q8 q9 q10=>go lim t' w' ⟨L',a2,b2,q1,q2,q3,q4,q5,q6,q7,q8,q9,q10⟩
    case _=>exact fun t' w' L' q1 q2 q3=>hR t' w' L' q1 q2 q3
   | false =>
    obtain ⟨_,w1,c1,rfl,L1,i1,m1⟩:=call83 (g + 1) o.oBRK o.oNXT o.oNPT o.oLEN o.oL64 h n c hn a1 b1 (by omega) (by omega) B L hlen w (by omega) (by omega) (by omega) hw.row
    rw [← hza,← hzb] at c1
    simp [t0,t1,t2,t3,t4,t10,t11,e1,h12',h0,c1]
    refine wp_blockX (pdq1O g h o n c hn a b hbn B w0 hl hl0 hBn L0 hL0 a1 b1 (by omega) hrec' L1 (hP.move m1) _ _ _ (hw.trans i1) (IntKind.wrap .i64 (lim - 1)) ?_ ?_ ?_ ?_ ?_ ?_ false wq ?_ ?_ ?_ ?_ ?_)
    case _=>simp [t0]
    case _=>simp [t1,hza]
    case _=>simp [t2,hzb]
    case _=>simp
    case _=>simp [t4]
    case _=>simp [hzl]
    case _=>simp [t10]
    case _=>simp [t11]
    case _=>exact fun t' w' L' a2 b2 q1 q2 q3 q4 q5 q6 q7 q8 q9 q10=>go (IntKind.wrap .i64 (lim - 1)) t' w' ⟨L',a2,b2,q1,q2,q3,q4,q5,q6,q7,q8,q9,q10⟩
    case _=>exact fun t' w' L' a2 b2 q1 q2 q3 q4 q5 q6 q7 q8 q9 q10=>go (IntKind.wrap .i64 (lim - 1)) t' w' ⟨L',a2,b2,q1,q2,q3,q4,q5,q6,q7,q8,q9,q10⟩
    case _=>exact fun t' w' L' q1 q2 q3=>hR t' w' L' q1 q2 q3
theorem pdqO (m:Nat) (h:SO ov C V sz cI fv fc) (o:OsO ov) (n c:Nat) (hn:n≤200) (B:Nat):∀ d,RecO ov C cI fv (m + d + 1) n c B (d + 1):=by
 intro d
 induction d with
 | zero =>
  intro a b lim L w hab hbn hd hL low hl hl0 hBn hB
  refine call_wp text64 (by simp) (o.oPDQ _ _) ?_
  simp [mc64]
  refine wp_blockX (pdq0O m h o n c hn a b hab hbn B w hl hl0 hBn L hL (fun a' b' l' L' w' e1 e2 e3=>by omega) low _ _ _ (InS.refl hB) lim ?_ ?_ ?_ ?_ ?_ ?_ ?_ ?_)
  all_goals first | (intro t w' L' hw hp hs; simp [tupV]; exact ⟨L',⟨hw,hp⟩,hs⟩) | simp
 | succ d ih =>
  intro a b lim L w hab hbn hd hL low hl hl0 hBn hB
  refine call_wp text64 (by simp) (o.oPDQ _ _) ?_
  simp [mc64]
  refine wp_blockX (pdq0O (m + d + 1) h o n c hn a b hab hbn B w hl hl0 hBn L hL (fun a' b' l' L' w' e1 e2 e3=>ih a' b' l' L' w' e1 e2 (by omega)) low _ _ _ (InS.refl hB) lim ?_ ?_ ?_ ?_ ?_ ?_ ?_ ?_)
  all_goals first | (intro t w' L' hw hp hs; simp [tupV]; exact ⟨L',⟨hw,hp⟩,hs⟩) | simp
theorem call36 (m:Nat) (h:SO ov C V sz cI fv fc) (o:OsO ov) (ho:∀ args w,ov 36 args w=none) (n c:Nat) (hn:n≤200) (B:Nat) (L:List α) (hL:L.length=n) (w:AW) (hl:w.lim≤B) (hl0:w.lim≤w.next) (hBn:B < w.next) (hB:w.heap.get B=some (.cells (L.flatMap C) 9 false)) :
  ∃ x w',(run Tryz.prog ov (m + 207)).call 36 [.slice (some ⟨B,0,none⟩) n c] w .none=.ok (.ret x) w' .none∧x=.tuple ⟨[]⟩∧∃ L',LeftO C w w' B 0 n L L'∧Srt (fun x y=>cI x y < 0) L' 0 n:=by
 refine call_wp text36 (by simp) (ho _ _) ?_
 obtain ⟨_,w1,c1,rfl,rfl⟩:=call65 (m + 204) o.oLEN o.oL64 n hn w
 have e1:IntKind.wrap .u64 (n:Int)=(n:Int):=IntWalk.u64_in _ ⟨by omega,by omega⟩
 obtain ⟨_,w2,c2,rfl,L',hL',hs⟩:=pdqO m h o n c hn B 200 0 n (bl n:Nat) L w1 (by omega) (Nat.le_refl _) (by omega) hL (fun x h0=>by omega) hl hl0 hBn hB
 simp only [Int.natCast_zero] at c2
 simp [mc36,e1,c1,c2,tupV]
 exact ⟨L',hL',hs⟩
end
end Go.Proofs.YtdgllbepplldoaaGreatDoor.walk
namespace Go.Sh
open Go
structure Cmp {α:Type} (c:α→α→Int):Prop where
 tri:∀ x y,c x y = -1∨c x y=0∨c x y=1
 neg:∀ x y,c y x = - c x y
 trans:∀ x y z,c x y≤0→c y z≤0→c x z≤0∧(c x z=0→c x y=0∧c y z=0)
theorem Cmp.wk {α:Type} {c:α→α→Int} (h:Cmp c):Wk (fun x y=>c x y < 0) where
 asym {x y} h1 h2:=by have:=h.neg x y; omega
 trans {x y z} h1 h2 h3:=by
  have a:=h.neg x y
  have b:=h.neg y z
  have d:=h.neg x z
  have:=(h.trans x y z (by omega) (by omega)).1
  omega
def cmpI (a b:Int):Int:=if a < b then -1 else if b < a then 1 else 0
theorem cmpI_eq {a b:Int}:cmpI a b=0 ↔ a=b:=by unfold cmpI; split <;> (try split) <;> omega
theorem cmpI_cmp:Cmp cmpI where
 tri x y:=by unfold cmpI; split <;> (try split) <;> omega
 neg x y:=by unfold cmpI; split <;> split <;> omega
 trans x y z:=by unfold cmpI; intro h1 h2; refine ⟨?_,?_⟩ <;> (split at h1 <;> split at h2 <;> omega)
theorem cmpB_cons (a b:UInt8) (l m:List UInt8):cmpB (a::l) (b::m)=if cmpI a.toNat b.toNat ≠ 0 then cmpI a.toNat b.toNat else cmpB l m:=by
 unfold cmpI
 show (bif Nat.beq a.toNat b.toNat then cmpB l m else bif Nat.blt a.toNat b.toNat then -1 else 1)=_
 by_cases h:a.toNat=b.toNat
 ·have e:Nat.beq a.toNat b.toNat=true:=by rw [h]; exact Nat.beq_refl _
  rw [e,h]; simp
 ·have e:Nat.beq a.toNat b.toNat=false:=by
   cases hb:Nat.beq a.toNat b.toNat with
   | false=>rfl
   | true=>exact absurd (Nat.eq_of_beq_eq_true hb) h
  rw [e]
  by_cases hl:a.toNat < b.toNat
  ·have e2:Nat.blt a.toNat b.toNat=true:=by rw [Nat.blt_eq]; exact hl
   have:((a.toNat:Nat):Int) < (b.toNat:Nat):=by omega
   simp [e2,this]
  ·have e2:Nat.blt a.toNat b.toNat=false:=by
    cases hb:Nat.blt a.toNat b.toNat with
    | false=>rfl
    | true=>exact absurd (by rw [Nat.blt_eq] at hb; exact hb) hl
   have h1:¬ ((a.toNat:Nat):Int) < (b.toNat:Nat):=by omega
   have h2:((b.toNat:Nat):Int) < (a.toNat:Nat):=by omega
   simp [e2,h1,h2]
theorem cmpB_eq0:∀ {a b:List UInt8},cmpB a b=0 ↔ a=b
 | [],[]=>by simp [cmpB]
 | [],b::m=>by simp [cmpB]
 | a::l,[]=>by simp [cmpB]
 | a::l,b::m=>by
  rw [cmpB_cons]
  have ih:=@cmpB_eq0 l m
  by_cases h:cmpI a.toNat b.toNat=0
  ·simp only [h,ne_eq,not_true_eq_false,if_false]
   have e:=cmpI_eq.1 h
   have:a=b:=UInt8.toNat_inj.1 (by omega)
   subst this
   rw [ih]; simp
  ·simp only [ne_eq,h,not_false_eq_true,if_true,false_iff]
   intro e
   cases e
   exact h (cmpI_eq.2 rfl)
theorem cmpB_cmp:Cmp cmpB where
 tri:=tri
 neg:=neg
 trans:=tr
where
 tri:∀ a b,cmpB a b = -1∨cmpB a b=0∨cmpB a b=1
  | [],[]=>by simp [cmpB]
  | [],b::m=>by simp [cmpB]
  | a::l,[]=>by simp [cmpB]
  | a::l,b::m=>by
   rw [cmpB_cons]
   have:=tri l m
   have:=cmpI_cmp.tri a.toNat b.toNat
   split <;> omega
 neg:∀ a b,cmpB b a = - cmpB a b
  | [],[]=>by simp [cmpB]
  | [],b::m=>by simp [cmpB]
  | a::l,[]=>by simp [cmpB]
  | a::l,b::m=>by
   rw [cmpB_cons,cmpB_cons]
   have:=neg l m
   have:=cmpI_cmp.neg a.toNat b.toNat
   split <;> split <;> omega
 tr:∀ a b d,cmpB a b≤0→cmpB b d≤0→cmpB a d≤0∧(cmpB a d=0→cmpB a b=0∧cmpB b d=0)
  | [],[],[]=>by simp [cmpB]
  | [],[],_::_=>by simp [cmpB]
  | [],_::_,[]=>by simp [cmpB]
  | [],_::_,_::_=>by simp [cmpB]
  | _::_,[],_=>by simp [cmpB]
  | _::_,_::_,[]=>by simp [cmpB]
  | a::l,b::m,d::n=>by
   have ih:=tr l m n
   rw [cmpB_cons,cmpB_cons,cmpB_cons]
   have t1:=cmpI_cmp.trans a.toNat b.toNat d.toNat
   have t2:=cmpI_cmp.trans d.toNat b.toNat a.toNat
   have n1:=cmpI_cmp.neg a.toNat b.toNat
   have n2:=cmpI_cmp.neg b.toNat d.toNat
   have n3:=cmpI_cmp.neg a.toNat d.toNat
   intro h1 h2
   by_cases e1:cmpI a.toNat b.toNat=0 <;> by_cases e2:cmpI b.toNat d.toNat=0 <;> simp only [e1,e2,ne_eq,not_true_eq_false,not_false_eq_true,if_true,if_false] at h1 h2 ⊢
   ·have e3:cmpI a.toNat d.toNat=0:=by have:=(t1 (by omega) (by omega)).1; have:=(t2 (by omega) (by omega)).1; omega
    simp only [e3,not_true_eq_false,if_false]
    exact ih h1 h2
   ·have h3:=t1 (by omega) h2
    have e3:cmpI a.toNat d.toNat ≠ 0:=fun e=>e2 (h3.2 e).2
    simp only [e3,not_false_eq_true,if_true]
    exact ⟨h3.1,fun e=>False.elim (by first | exact e | exact e3 e)⟩
   ·have h3:=t1 h1 (by omega)
    have e3:cmpI a.toNat d.toNat ≠ 0:=fun e=>e1 (h3.2 e).1
    simp only [e3,not_false_eq_true,if_true]
    exact ⟨h3.1,fun e=>False.elim (by first | exact e | exact e3 e)⟩
   ·have h3:=t1 h1 h2
    have e3:cmpI a.toNat d.toNat ≠ 0:=fun e=>e1 (h3.2 e).1
    simp only [e3,not_false_eq_true,if_true]
    exact ⟨h3.1,fun e=>False.elim (by first | exact e | exact e3 e)⟩
end Go.Sh
namespace Go.Proofs.YtdgllbepplldoaaGreatDoor.walk
open Go Go.Sh
set_option maxRecDepth 100000
theorem bytesLess_eq:∀ a b:List UInt8,bytesLess a b=decide (cmpB a b < 0)
 | a,[]=>by cases a <;> simp [bytesLess,cmpB]
 | [],b::m=>by simp [bytesLess,cmpB]
 | a::l,b::m=>by
  rw [cmpB_cons]
  show (bif Nat.beq a.toNat b.toNat then bytesLess l m else Nat.blt a.toNat b.toNat)=_
  rw [bytesLess_eq l m]
  by_cases h:a.toNat=b.toNat
  ·have e:Nat.beq a.toNat b.toNat=true:=by rw [h]; exact Nat.beq_refl _
   have e2:cmpI a.toNat b.toNat=0:=cmpI_eq.2 (by omega)
   rw [e,e2]; simp
  ·have e:Nat.beq a.toNat b.toNat=false:=by
    cases hb:Nat.beq a.toNat b.toNat with
    | false=>rfl
    | true=>exact absurd (Nat.eq_of_beq_eq_true hb) h
   have e2:cmpI a.toNat b.toNat ≠ 0:=fun k=>h (by have:=cmpI_eq.1 k; omega)
   rw [e,if_pos e2]
   unfold cmpI
   by_cases hl:a.toNat < b.toNat
   ·have e3:Nat.blt a.toNat b.toNat=true:=by rw [Nat.blt_eq]; exact hl
    have:((a.toNat:Nat):Int) < (b.toNat:Nat):=by omega
    simp [e3,this]
   ·have e3:Nat.blt a.toNat b.toNat=false:=by
     cases hb:Nat.blt a.toNat b.toNat with
     | false=>rfl
     | true=>exact absurd (by rw [Nat.blt_eq] at hb; exact hb) hl
    have h1:¬ ((a.toNat:Nat):Int) < (b.toNat:Nat):=by omega
    have h2:((b.toNat:Nat):Int) < (a.toNat:Nat):=by omega
    simp [e3,h1,h2]
theorem bin_lssS {P:Program} {w:AW} (s:TypeId) (c:Bool) (a b:List UInt8):(binW P .lss s c).val (.string ⟨⟨a⟩⟩) (.string ⟨⟨b⟩⟩) w=.val (.bool (decide (cmpB a b < 0))) w:=by
 rw [← bytesLess_eq]; rfl
def S87:PSpec where
 R args _ v:=∃ a b:List UInt8,args=[.string ⟨⟨a⟩⟩,.string ⟨⟨b⟩⟩]∧v=.bool (decide (cmpB a b < 0))
 uniq:=by rintro _ _ _ _ ⟨a,b,rfl,rfl⟩ ⟨_,_,h,rfl⟩; cases h; rfl
 shut h:=h
theorem run117 {ov:Ov} (ho:∀ args w,ov 117 args w=none) (m:Nat) (a:List UInt8) (w:AW):(run Tryz.prog ov (m + 1)).call 117 [.string ⟨⟨a⟩⟩] w .none=.ok (.ret (.bool false)) w .none:=by
 have key:∃ v w',(run Tryz.prog ov (m + 1)).call 117 [.string ⟨⟨a⟩⟩] w .none=.ok (.ret v) w' .none∧v=.bool false∧w'=w:=by
  refine call_wp text117 (by simp) (ho _ _) ?_
  simp [mc117,tupV]
 obtain ⟨v,w',h,rfl,rfl⟩:=key
 exact h
theorem run87 {ov:Ov} (ho:∀ args w,ov 87 args w=none) (o117:∀ args w,ov 117 args w=none) (a b:List UInt8) (w:AW):∃ v w',(run Tryz.prog ov 3).call 87 [.string ⟨⟨a⟩⟩,.string ⟨⟨b⟩⟩] w .none=.ok (.ret v) w' .none∧v=.bool (decide (cmpB a b < 0)):=by
 refine call_wp text87 (by simp) (ho _ _) ?_
 have r:=fun a w=>run117 o117 1 a w
 have hl:=fun c w=>bin_lssS (P:=Tryz.prog) (w:=w) 9 c a b
 simp [mc87,r,hl,tupV]
def stV (x:List UInt8):Value:=.string ⟨⟨x⟩⟩
def stC (x:List UInt8):List Value:=[stV x]
theorem stC_length (x:List UInt8):(stC x).length=1:=rfl
theorem stC_single (x:List UInt8):singles (stC x)=true:=rfl
theorem sortS {ov:Ov} (h87:HasP ov 87 S87.F):SO ov stC stV 1 cmpB .nilFunc 87 where
 T:=SortT.one (by kernel_rfl) (by kernel_rfl) (by kernel_rfl) fun a=>⟨rfl,rfl⟩
 cm:=fun k w x y=>S87.call (P:=Tryz.prog) h87 (m:=k) ⟨x,y,rfl,rfl⟩
 wk:=cmpB_cmp.wk
section
variable {ov:Ov}
theorem call81n (a:Option Addr) (c:Nat) (m:Nat) (ho:∀ args w,ov 81 args w=none) (w:AW):∃ x w',(run Tryz.prog ov (m + 1)).call 81 [.slice a 0 c,.int .i64 0,.int .i64 0] w .none=.ok (.ret x) w' .none∧x=.tuple ⟨[]⟩∧w'=w:=by
 refine call_wp text81 (by simp) (ho _ _) ?_
 simp [mc81]
 refine wp_blockX (wp_rounds (fun r t w'=>w'=w∧r=0∧tget t 6=.int .i64 1∧tget t 2=.int .i64 0) 2 (by decide) (by simp; decide) ?_)
 rintro r t w' ⟨hw,rfl,t8,t2⟩
 rw [hw]
 clear hw w'
 simp [mc81_l0,t8,t2,tupV]
theorem call64n (a:Option Addr) (c:Nat) (m:Nat) (o:OsO ov) (z:Int) (w:AW):∃ x w',(run Tryz.prog ov (m + 2)).call 64 [.slice a 0 c,.int .i64 0,.int .i64 0,.int .i64 z] w .none=.ok (.ret x) w' .none∧x=.tuple ⟨[]⟩∧w'=w:=by
 refine call_wp text64 (by simp) (o.oPDQ _ _) ?_
 obtain ⟨_,w1,c1,rfl,e⟩:=call81n a c m o.oINS w
 rw [e] at c1
 clear e w1
 simp [mc64]
 refine wp_blockX (wp_rounds (fun r t w'=>w'=w∧r=0∧tget t 0=.slice a 0 c∧tget t 1=.int .i64 0∧tget t 2=.int .i64 0) 2 (by decide) (by simp) ?_)
 rintro r t w' ⟨hw,rfl,t0,t1,t2⟩
 rw [hw]
 clear hw w'
 have e0:IntKind.wrap .i64 0=0:=by decide
 simp [mc64_l0,t0,t1,t2,e0,c1,tupV]
theorem call36n (a:Option Addr) (c:Nat) (m:Nat) (o:OsO ov) (ho:∀ args w,ov 36 args w=none) (w:AW):∃ x w',(run Tryz.prog ov (m + 3)).call 36 [.slice a 0 c] w .none=.ok (.ret x) w' .none∧x=.tuple ⟨[]⟩∧w'=w:=by
 refine call_wp text36 (by simp) (ho _ _) ?_
 obtain ⟨_,w1,c1,rfl,rfl⟩:=call65 m o.oLEN o.oL64 0 (by decide) w
 obtain ⟨_,w2,c2,rfl,rfl⟩:=call64n a c m o (bl 0:Nat) w1
 have e1:IntKind.wrap .u64 0=0:=by decide
 simp only [Int.natCast_zero] at c1
 simp [mc36,e1,c1,c2,tupV]
end
theorem list26:isList Tryz.prog 26=true:=by kernel_rfl
theorem elem26:elemA Tryz.prog 26=some 9:=by kernel_rfl
theorem size9:szOf Tryz.prog 9=some 1:=by kernel_rfl
theorem small9:smallT Tryz.prog 9=true:=by kernel_rfl
@[simp] theorem setPar_cons (p:Tmp) (ps:List Tmp) (a:Value) (l:List Value) (t:Tm):setParams (p::ps) (a::l) t=setParams ps l (tset t p a):=rfl
@[simp] theorem setPar_nil (t:Tm):setParams [] [] t=t:=rfl
@[simp] theorem cf61 (w:AW) (l:List Value):callFn Tryz.prog w 61 l=.enter 61 l w:=callFn_of (by kernel_rfl) l
structure J12 (c4 L:Nat) (lp:ALoop) (st:List (List UInt8)) (w:AW):Prop where
 acc:∃ sl B,w.heap.get c4=some (.cells [sl] 26 false)∧AccQ stC 9 L w sl (st.filter codeB) B
 lo:w.heap.get L=some (.loop lp)
 sg:SgAt w
 ord:w.lim≤c4∧c4 < L∧L < w.next∧0 < c4
theorem steps12 {ov:Ov} (m c4 L:Nat) (tm:Tm) (t4:tget tm 4=.pointer (some ⟨c4,0,none⟩)) (h10:HasP ov 10 S10.F) :
  StepsF ov (m + 2) L (J12 c4 L ⟨21,tm,[11],(rfOf Tryz.prog 12 0).1,(rfOf Tryz.prog 12 0).2,none,.ready⟩) (fun x=>x=c4∨L≤x):=by
 intro st x w hlen hJ
 obtain ⟨⟨sl,B,h1,hacc⟩,lo,hsg,o1,o2,o3,o4⟩:=hJ
 obtain ⟨wB,ewB⟩:∃ wB:AW,wB=⟨w.heap.put L (some (.loop ⟨21,tm,[11],(rfOf Tryz.prog 12 0).1,(rfOf Tryz.prog 12 0).2,none,.busy⟩)),w.next,w.lim⟩:=⟨_,rfl⟩
 have nB:wB.next=w.next:=by rw [ewB]
 have lB:wB.lim=w.lim:=by rw [ewB]
 have kB:∀ x,x ≠ L→wB.heap.get x=w.heap.get x:=fun x h2=>by rw [ewB]; simp [h2]
 have gL:wB.heap.get L=some (.loop ⟨21,tm,[11],(rfOf Tryz.prog 12 0).1,(rfOf Tryz.prog 12 0).2,none,.busy⟩):=by rw [ewB]; simp
 have hacc0:=hacc
 have haccB:AccQ stC 9 L wB sl (st.filter codeB) B:=hacc.keep (fun _ hl hB=>kB B (by omega)) (by omega)
 have hsgB:SgAt wB:=by
  obtain ⟨ty,ro,g⟩:=hsg
  exact ⟨ty,ro,by rw [kB 0 (by omega)]; exact g⟩
 have r10:=S10.call (P:=Tryz.prog) h10 (m:=m) (w:=wB) ⟨⟨⟨x⟩⟩,rfl,⟨hsgB,by omega⟩,rfl⟩
 have e2:¬ c4=L:=by omega
 have hlL:w.lim≤L:=by omega
 have hfl:(st.filter codeB).length≤80000:=Nat.le_trans (List.length_filter_le _ _) hlen
 cases hc:codeB x with
 | false =>
  have hx:codeB (⟨⟨x⟩⟩:ByteArray).data.toList=false:=hc
  rw [hx,ewB] at r10
  have ef:(st++[x]).filter codeB=st.filter codeB:=by rw [List.filter_append]; simp [hc]
  obtain ⟨j,w',hy,hQ⟩:=yield_wp (P:=Tryz.prog) (ov:=ov) (m:=m + 1) (l:=L) (args:=[.string ⟨⟨x⟩⟩]) (w:=w) (Q:=fun j w'=>j=none∧w'=⟨(w.heap.put L (some (.loop ⟨21,tm,[11],(rfOf Tryz.prog 12 0).1,(rfOf Tryz.prog 12 0).2,none,.busy⟩))).put L (some (.loop ⟨21,tm,[11],(rfOf Tryz.prog 12 0).1,(rfOf Tryz.prog 12 0).2,none,.ready⟩)),w.next,w.lim⟩) lo rfl rfl ta12_0 tb12_0 (by
   simp [mc12_a0,mc12_b0,lo,hlL,jumpOf,r10])
  obtain ⟨rfl,rfl⟩:=hQ
  refine ⟨_,hy,⟨⟨sl,B,by simp [e2,h1],?_⟩,by simp,?_,o1,o2,o3,o4⟩,fun y hy hM=>?_,Nat.le_refl _,rfl⟩
  ·rw [ef]; exact hacc0.keep (fun _ hl hB=>by simp [show ¬ B=L by omega]) (Nat.le_refl _)
  ·obtain ⟨ty,ro,g⟩:=hsg
   exact ⟨ty,ro,by simp [show ¬ 0=L by omega,g]⟩
  ·have q2:¬ L≤y:=fun h=>hM (.inr h)
   simp [show ¬ y=L by omega]
 | true =>
  have hx:codeB (⟨⟨x⟩⟩:ByteArray).data.toList=true:=hc
  have ef:(st++[x]).filter codeB=st.filter codeB++[x]:=by rw [List.filter_append]; simp [hc]
  obtain ⟨v',w4,ha,⟨B',hB',hacc'⟩,hkp,hn4,hl4⟩:=AccQ.push2 (P:=Tryz.prog) (st:=26) (sz:=1) list26 elem26 size9 small9 stC_length stC_single (by decide) haccB (by omega) (by omega) (by omega) x
  have g5:w4.heap.get c4=some (.cells [sl] 26 false):=by
   rw [hkp c4 (by omega) (fun hne=>by have:=haccB.lt hne; omega),kB c4 e2]; exact h1
  have gL4:w4.heap.get L=some (.loop ⟨21,tm,[11],(rfOf Tryz.prog 12 0).1,(rfOf Tryz.prog 12 0).2,none,.busy⟩):=by
   rw [hkp L (by omega) (fun hne=>by have:=haccB.lt hne; omega)]; exact gL
  have l4:w4.lim≤c4:=by omega
  have l4L:w4.lim≤L:=by omega
  have hok:=hacc.ok
  have hsv:(cellsOf v').length=1∧cellsOf v'=[v']∧singles [v']=true:=by
   obtain ⟨a,c,rfl⟩:=hacc'.rows.len
   exact ⟨rfl,rfl,by simp⟩
  obtain ⟨s1,s2,s3⟩:=hsv
  rw [hx,ewB] at r10
  rw [ewB] at ha
  simp only [stC,stV] at ha
  have e5:¬ L=c4:=by omega
  obtain ⟨j,w',hy,hQ⟩:=yield_wp (P:=Tryz.prog) (ov:=ov) (m:=m + 1) (l:=L) (args:=[.string ⟨⟨x⟩⟩]) (w:=w) (Q:=fun j w'=>j=none∧w'=⟨(w4.heap.put c4 (some (.cells [v'] 26 false))).put L (some (.loop ⟨21,tm,[11],(rfOf Tryz.prog 12 0).1,(rfOf Tryz.prog 12 0).2,none,.ready⟩)),w4.next,w4.lim⟩) lo rfl rfl ta12_0 tb12_0 (by
   simp [mc12_a0,mc12_b0,lo,hlL,jumpOf,r10,t4,h1,e2,e5,hok,ha,s1,s2,s3,g5,gL4,l4,l4L])
  obtain ⟨rfl,rfl⟩:=hQ
  refine ⟨_,hy,⟨⟨v',B',by simp [e2],?_⟩,by simp,?_,l4,o2,by show L < w4.next; omega,o4⟩,fun y hy hM=>?_,by show w.next≤w4.next; omega,by show w4.lim=w.lim; omega⟩
  ·rw [ef]; exact hacc'.keep (fun _ hl hB=>by simp [show ¬ B'=c4 by omega,show ¬ B'=L by omega]) (Nat.le_refl _)
  ·obtain ⟨ty,ro,g⟩:=hsgB
   refine ⟨ty,ro,?_⟩
   simp [show ¬ 0=L by omega,show ¬ 0=c4 by omega]
   rw [hkp 0 (by omega) (fun hne=>by have:=haccB.lt hne; omega)]; exact g
  ·have q1:¬ y=c4:=fun h=>hM (.inl h)
   have q2:¬ L≤y:=fun h=>hM (.inr h)
   simp [q1,show ¬ y=L by omega]
   rw [hkp y (by omega) (fun hne=>by have:=haccB.lt hne; omega),kB y (by omega)]
theorem call35 {ov:Ov} (m:Nat) (ho:∀ args w,ov 35 args w=none) (s:ByteArray) (w:AW) :
  ∃ v w',(run Tryz.prog ov (m + 1)).call 35 [.string s] w .none=.ok (.ret v) w' .none∧v=.func (.func 61) ⟨[]⟩ ⟨[.pointer (some ⟨w.next,0,none⟩)]⟩∧w'=⟨w.heap.put w.next (some (.cells [.string s] 9 false)),w.next + 1,w.lim⟩:=by
 refine call_wp text35 (by simp) (ho _ _) ?_
 simp [mc35,tupV,notJunk]
structure Nr (ov:Ov):Prop where
 o12:∀ args w,ov 12 args w=none
 o29:∀ args w,ov 29 args w=none
 o33:∀ args w,ov 33 args w=none
 o35:∀ args w,ov 35 args w=none
 o36:∀ args w,ov 36 args w=none
 o58:∀ args w,ov 58 args w=none
 o59:∀ args w,ov 59 args w=none
 o61:∀ args w,ov 61 args w=none
 os:OsO ov
 h10:HasP ov 10 S10.F
 h62:HasP ov 62 S62.F
 h63:HasP ov 63 S63.F
 h87:HasP ov 87 S87.F
structure NearOf (s:List UInt8) (l:List (List UInt8)):Prop where
 perm:l.Perm (nearU s)
 srt:Srt (fun x y=>cmpB x y < 0) l 0 l.length
def nearE (s:List UInt8):Int:=if areB s 2 17=true then 0 else 80
theorem call12 {ov:Ov} (m:Nat) (h:Nr ov) (s:List UInt8) (hfew:areB s 2 17=true→(nearU s).length≤200) (w:AW) (hl:w.lim≤w.next) (hsg:SgAt w) (h0:0 < w.next) :
  ∃ v w',(run Tryz.prog ov (m + 208)).call 12 [.string ⟨⟨s⟩⟩] w .none=.ok (.ret v) w' .none∧∃ v1 l,v=.tuple ⟨[v1,.int .i64 (nearE s)]⟩∧RowsV stC w' v1 l∧(areB s 2 17=true→NearOf s l)∧(areB s 2 17=false→l=[])∧notJunk v1=some v1∧Up w w':=by
 refine call_wpY text12 (by simp) (h.o12 _ _) ?_
 have r33:(run Tryz.prog ov (m + 207)).call 33 [.string ⟨⟨s⟩⟩] w .none=.ok (.ret (.bool (areB s 2 17))) w .none:=run33 h.o58 h.o59 h.o29 h.o33 (m + 204) ⟨⟨s⟩⟩ w hsg
 cases ha:areB s 2 17 with
 | false =>
  have he:nearE s=80:=by unfold nearE; rw [ha]; rfl
  rw [ha] at r33
  simp [mc12,r33,tupV,notJunk,he]
  exact ⟨[],.inl ⟨rfl,_,_,rfl⟩,rfl,Up.refl w⟩
 | true =>
  have he:nearE s=0:=by unfold nearE; rw [ha]; rfl
  obtain ⟨l1,l2,_⟩:=are_all ha
  rw [ha] at r33
  obtain ⟨_,_,c35,rfl,rfl⟩:=call35 (ov:=ov) (m + 206) h.o35 ⟨⟨s⟩⟩ ⟨w.heap.put w.next (some (.cells [.slice none 0 0] 26 false)),w.next + 1,w.lim⟩
  simp only [Nat.add_assoc,Nat.reduceAdd] at c35
  simp [mc12,r33,c35]
  obtain ⟨H,hH⟩:∃ H,H=(w.heap.put w.next (some (.cells [.slice none 0 0] 26 false))).put (w.next + 1) (some (.cells [.string ⟨⟨s⟩⟩] 9 false)):=⟨_,rfl⟩
  rw [← hH]
  have hH':∀ x,x < w.next→H.get x=w.heap.get x:=fun x h1=>by
   rw [hH]; simp [show ¬ x=w.next by omega,show ¬ x=w.next + 1 by omega]
  have g4:H.get w.next=some (.cells [.slice none 0 0] 26 false):=by rw [hH]; simp
  have gs:H.get (w.next + 1)=some (.cells [.string ⟨⟨s⟩⟩] 9 false):=by rw [hH]; simp
  refine wp_seqX (wp_blockX (rf_wp (g:=61) (gargs:=[.func (.yield (w.next + 2)) ⟨[]⟩ ⟨[]⟩,.pointer (some ⟨w.next + 1,0,none⟩)]) ?_ ?_))
  ·simp [callV_func]
  ·generalize hTT:tset _ 10 _=TT
   have u4:tget TT 4=.pointer (some ⟨w.next,0,none⟩):=by rw [← hTT]; simp
   clear hTT
   have hst:=steps12 (ov:=ov) (m + 204) w.next (w.next + 2) TT u4 h.h10
   obtain ⟨w0,ew0⟩:∃ w0:AW,w0=⟨H.put (w.next + 2) (some (.loop ⟨21,TT,[11],(rfOf Tryz.prog 12 0).1,(rfOf Tryz.prog 12 0).2,none,.ready⟩)),w.next + 2 + 1,w.lim⟩:=⟨_,rfl⟩
   have n0:w0.next=w.next + 2 + 1:=by rw [ew0]
   have lm0:w0.lim=w.lim:=by rw [ew0]
   have hgo:∀ x,x < w.next + 2→w0.heap.get x=H.get x:=fun x hx=>by rw [ew0]; show (H.put _ _).get x=_; rw [get_put,if_neg (by omega)]
   have hsg0:SgAt w0:=by
    obtain ⟨ty,ro,g⟩:=hsg
    exact ⟨ty,ro,by rw [hgo 0 (by omega),hH' 0 h0]; exact g⟩
   have hJ0:J12 w.next (w.next + 2) ⟨21,TT,[11],(rfOf Tryz.prog 12 0).1,(rfOf Tryz.prog 12 0).2,none,.ready⟩ [] w0 :=
    ⟨⟨.slice none 0 0,0,by rw [hgo _ (by omega)]; exact g4,.inl ⟨rfl,rfl⟩⟩,by rw [ew0]; show (H.put _ _).get _=_; rw [get_put,if_pos rfl],hsg0,by omega,by omega,by omega,by omega⟩
   obtain ⟨v,w2,hc,hI⟩:=call61 (ov:=ov) (J:=J12 w.next (w.next + 2) ⟨21,TT,[11],(rfOf Tryz.prog 12 0).1,(rfOf Tryz.prog 12 0).2,none,.ready⟩) (M:=fun x=>x=w.next∨w.next + 2≤x) (w0:=w0) (L:=w.next + 2) (n1:=w.next + 1) (s:=s) (m + 205) h.o61 h.h62 h.h63 hst hsg0 (by omega) (by omega) (by rw [hgo _ (by omega)]; exact gs) (by omega) (by omega) (by omega) (by omega) hJ0
   rw [ew0] at hc
   obtain ⟨⟨⟨sl,B,h1,hacc⟩,lo,hsg2,o1,o2,o3,o4⟩,hk2,hn2,hl2⟩:=hI
   refine ⟨v,w2,hc,_,lo,rfl,by show w2.lim≤w.next + 2; omega,?_⟩
   obtain ⟨w3,ew3⟩:∃ w3:AW,w3=⟨w2.heap.put (w.next + 2) (some (.loop ⟨21,TT,[11],(rfOf Tryz.prog 12 0).1,(rfOf Tryz.prog 12 0).2,none,.exhausted⟩)),w2.next,w2.lim⟩:=⟨_,rfl⟩
   have hacc3:AccQ stC 9 (w.next + 2) w3 sl (nearU s) B:=hacc.keep (fun _ h2 h3=>by rw [ew3]; simp [show ¬ B=w.next + 2 by omega]) (by rw [ew3]; exact Nat.le_refl _)
   have n3:w3.next=w2.next:=by rw [ew3]
   have lm3:w3.lim=w2.lim:=by rw [ew3]
   have g43:w3.heap.get w.next=some (.cells [sl] 26 false):=by rw [ew3]; simp [h1]
   have u03:Up w w3:=⟨fun x hx=>by
    rw [ew3]
    show (w2.heap.put _ _).get x=_
    rw [get_put,if_neg (by omega),hk2 x (by omega) (by omega),hgo x (by omega),hH' x hx],by omega,by omega⟩
   have hok:=hacc3.ok
   simp only
   rw [← ew3]
   rcases hacc3 with ⟨hnil,rfl⟩ | ⟨rfl,hB,hb1,hb2,hne⟩
   ·obtain ⟨_,w4,c36,rfl,rfl⟩:=call36n (ov:=ov) none 0 (m + 204) h.os h.o36 w3
    simp [u4,g43,c36,tupV,notJunk,he]
    have hnil':nearU s=[]:=hnil
    exact ⟨[],.inl ⟨rfl,_,_,rfl⟩,⟨by rw [hnil'],fun p q x y h1 h2 h3=>by simp at h3⟩,u03⟩
   ·obtain ⟨_,w4,c36,rfl,L',⟨hI,hMv⟩,hsr⟩:=call36 (ov:=ov) (C:=stC) (V:=stV) (sz:=1) (cI:=cmpB) (fv:=.nilFunc) (fc:=87) m (sortS h.h87) h.os h.o36 (nearU s).length (nearU s).length (hfew ha) B (nearU s) rfl w3 (by omega) (by omega) hb2 hB
    have hlen:L'.length=(nearU s).length:=hMv.len
    have g44:w4.heap.get w.next=some (.cells [.slice (some ⟨B,0,none⟩) (nearU s).length (nearU s).length] 26 false):=by rw [hI.old _ (by omega) (by omega)]; exact g43
    have hrow:=hI.row
    simp [u4,g43,c36,g44,tupV,notJunk,he]
    refine ⟨L',.inr ⟨B,0,none,_,by rw [hlen],⟨[],[],9,false,by simpa using hrow,rfl⟩,by have:=hI.next; omega⟩,⟨hMv.perm,by rw [hlen]; exact hsr⟩,⟨fun x hx=>by rw [hI.old x (by omega) (by omega)]; exact u03.at hx,Nat.le_trans u03.next hI.next,hI.lim.trans u03.lim⟩⟩
noncomputable def pow10:List Int:=[1,10,100,1000,10000,100000,1000000,10000000,100000000,1000000000,10000000000,100000000000,1000000000000,10000000000000,100000000000000,1000000000000000,10000000000000000,100000000000000000,1000000000000000000,10000000000000000000]
noncomputable def signL:List Int:=[97,98,99,100,101,102,103,104,105,106,107,108,109,110,111,112,113,114,115,116,117,118,119,120,121,122,48,49,50,51,52,53,54,55,56,57,45]
noncomputable def laidL:List LaidV:=[(0,signL.map fun z=>Value.int .u8 z,96),(1,pow10.map fun z=>Value.int .u64 z,225),(3,[unk],119)]
noncomputable def noOv:Ov:=fun _ _ _=>none
structure LaidW (w:AW):Prop where
 g0:∃ ro,w.heap.get 0=some (.cells (signL.map fun z=>Value.int .u8 z) 96 ro)
 g1:∃ ro,w.heap.get 1=some (.cells (pow10.map fun z=>Value.int .u64 z) 225 ro)
 g3:∃ ro,w.heap.get 3=some (.cells [unk] 119 ro)
 n:9≤w.next
theorem LaidW.up {w w':AW} (h:LaidW w) (u:Up w w'):LaidW w':=by
 obtain ⟨⟨r0,h0⟩,⟨r1,h1⟩,⟨r3,h3⟩,hn⟩:=h
 exact ⟨⟨r0,by rw [u.at (by omega)]; exact h0⟩,⟨r1,by rw [u.at (by omega)]; exact h1⟩,⟨r3,by rw [u.at (by omega)]; exact h3⟩,Nat.le_trans hn u.next⟩
theorem sgC_eq:sgC=signL.map fun z=>Value.int .u8 z:=by kernel_rfl
theorem LaidW.sg {w:AW} (h:LaidW w):SgAt w:=by
 obtain ⟨ro,g⟩:=h.g0
 exact ⟨_,ro,by rw [g,sgC_eq]⟩
theorem same0:sameL5 (signL.map fun z=>Value.int .u8 z) (signL.map fun z=>Value.int .u8 z)=true:=by kernel_rfl
theorem same1':sameL5 (pow10.map fun z=>Value.int .u64 z) (pow10.map fun z=>Value.int .u64 z)=true:=by kernel_rfl
theorem same3:sameL5 [unk] [unk]=true:=by kernel_rfl
theorem LaidW.all {w:AW} (h:LaidW w):hasAll w laidL=true:=by
 obtain ⟨⟨r0,h0⟩,⟨r1,h1⟩,⟨r3,h3⟩,_⟩:=h
 have e0:hasB w (0,signL.map fun z=>Value.int .u8 z,96)=true:=by
  unfold hasB
  simp only [h0,same0,Nat.beq_refl,Bool.and_self]
 have e1:hasB w (1,pow10.map fun z=>Value.int .u64 z,225)=true:=by
  unfold hasB
  simp only [h1,same1',Nat.beq_refl,Bool.and_self]
 have e3:hasB w (3,[unk],119)=true:=by
  unfold hasB
  simp only [h3,same3,Nat.beq_refl,Bool.and_self]
 show (bif hasB w (0,signL.map fun z=>Value.int .u8 z,96) then (bif hasB w (1,pow10.map fun z=>Value.int .u64 z,225) then (bif hasB w (3,[unk],119) then true else false) else false) else false)=true
 rw [e0,e1,e3]; rfl
def HasQ (ov:Ov):Prop:=∀ w,hasAll w laidL=true→ov 15 [] w=some (.ok (.ret (.bool true)) w .none)
theorem ruleQ {ov:Ov} (h:HasQ ov) {w:AW} (h1:LaidW w) (m:Nat):(run Tryz.prog ov (m + 1)).call 15 [] w .none=.ok (.ret (.bool true)) w .none:=by
 show stepO Tryz.prog (run Tryz.prog ov m) 15 [] w .none (ov 15 [] w)=_
 rw [h w h1.all]; rfl
theorem near_lt {s:List UInt8} {l:List (List UInt8)} (h:NearOf s l) {i:Nat} {x y:List UInt8} (hx:l[i]?=some x) (hy:l[i + 1]?=some y):cmpB x y < 0:=by
 have hnd:l.Nodup:=h.perm.nodup_iff.2 ((flt_nodup s).filter _)
 have hl:=(List.getElem?_eq_some_iff.1 hy).1
 have h1:=h.srt i (i + 1) x y (Nat.zero_le _) (Nat.lt_succ_self _) hl hx hy
 have hne:x ≠ y:=by
  intro e
  subst e
  have:=(List.pairwise_iff_getElem.1 hnd) i (i + 1) (by omega) hl (Nat.lt_succ_self _)
  rw [List.getElem?_eq_getElem (by omega)] at hx
  rw [List.getElem?_eq_getElem hl] at hy
  exact this (Option.some.inj (hx.trans hy.symm))
 have h2:=cmpB_cmp.neg x y
 have h3:cmpB x y ≠ 0:=fun e=>hne (cmpB_eq0.1 e)
 omega
theorem len26V {w w':AW} {v:Value} {l:List (List UInt8)} (h:RowsV stC w v l):lenB Tryz.prog w' 26 v=.val (.int .i64 (l.length:Nat)) w':=by
 obtain ⟨a,c,rfl⟩:=h.len; simp
theorem row_str {H:T AObj} {n b off:Nat} {l:List (List UInt8)} (h:RowsA stC H n b off l) {i:Nat} {x:List UInt8} (hz:l[i]?=some x):rd1O (H.get b) (off + i)=some (.string ⟨⟨x⟩⟩):=by
 have:=h.rd1 (m:=1) (j:=0) (x:=.string ⟨⟨x⟩⟩) stC_length hz rfl
 simpa using this
section
variable {ov:Ov} {w0 w:AW} {v3:Value} {s x:List UInt8} {l:List (List UInt8)} {i:Nat}
end
section
variable {ov:Ov} {w0 w:AW} {v3:Value} {s:List UInt8} {l:List (List UInt8)} {i:Nat}
end
structure Has6 (ov:Ov):Prop where
 nr:Nr ov
 h21:HasP ov 21 S21.F
 hq:HasQ ov
theorem rep_one {s:List UInt8} {i:Nat} {x y:List UInt8} (hx:Rep s i x) (hy:Rep s i y) (cx:codeB x=true) (cy:codeB y=true):x=y:=by
 have ax:areB x 2 17=true:=by unfold codeB at cx; exact (Bool.and_eq_true _ _ ▸ cx).1
 have ay:areB y 2 17=true:=by unfold codeB at cy; exact (Bool.and_eq_true _ _ ▸ cy).1
 have ex:=(code_B ax).1 cx
 have ey:=(code_B ay).1 cy
 obtain ⟨lx,_,kx⟩:=hx.at_
 obtain ⟨ly,_,ky⟩:=hy.at_
 have hi:=hx.lt
 obtain ⟨b1,b2,_⟩:=are_all ax
 rw [lx] at ex b1 b2
 rw [ly] at ey
 have:=wrong_one (f:=vfI x) (g:=vfI y) (m:=s.length - 1) (i:=i) (by omega) (by omega) (fun j hj=>by unfold vfI; rw [kx j hj,ky j hj]) (vf_bd ax (by omega)).1 (vf_bd ax (by omega)).2 (vf_bd ay (by omega)).1 (vf_bd ay (by omega)).2 ex ey
 have c1:=List.getElem?_eq_getElem (l:=x) (i:=i) (by omega)
 have c2:=List.getElem?_eq_getElem (l:=y) (i:=i) (by omega)
 rw [vf_at c1,vf_at c2] at this
 have k1:=sg_of ((are_all ax).2.2 _ _ c1)
 have k2:=sg_of ((are_all ay).2.2 _ _ c2)
 have e3:sgV x[i]=sgV y[i]:=by omega
 rw [e3,k2] at k1
 refine List.ext_getElem? fun k=>?_
 by_cases e:k=i
 ·subst e; rw [c1,c2]; exact k1.symm
 ·rw [kx k e,ky k e]
theorem few_one {α:Type} {l:List α} (hn:l.Nodup) (h:∀ x ∈ l,∀ y ∈ l,x=y):l.length≤1:=by
 match l,hn,h with
 | [],_,_=>exact Nat.zero_le _
 | [_],_,_=>exact Nat.le_refl _
 | a::b::l,hn,h =>
  have:=h a (.head _) b (.tail _ (.head _))
  rw [List.nodup_cons] at hn
  exact absurd (this ▸ List.Mem.head l) hn.1
theorem nodup_rep (s:List UInt8) {i:Nat} (hi:i < s.length):(repL s i).Nodup:=by
 have hsg:sgL.Pairwise (· ≠ ·):=by decide +kernel
 unfold repL
 rw [List.Nodup,List.pairwise_map]
 refine (hsg.filter _).imp fun {a b} hab e=>hab ?_
 have h1:=congrArg (fun l:List UInt8=>l[i]?) e
 simp only [List.getElem?_set_self hi,Option.some.injEq] at h1
 exact h1
theorem few0 (s:List UInt8):∀ n,n≤s.length→((flt0 s n).filter codeB).length≤n
 | 0,_=>by simp [flt0]
 | n + 1,h=>by
  rw [flt0_succ,List.filter_append,List.length_append]
  have h1:=few0 s n (by omega)
  have h2:((repL s n).filter codeB).length≤1:=few_one ((nodup_rep s (by omega)).filter _) fun x hx y hy=>by
   obtain ⟨x1,x2⟩:=List.mem_filter.1 hx
   obtain ⟨y1,y2⟩:=List.mem_filter.1 hy
   exact rep_one ((rep_mem (by omega)).1 x1) ((rep_mem (by omega)).1 y1) x2 y2
  omega
theorem near_few (s:List UInt8) (h:areB s 2 17=true):(nearU s).length≤200:=by
 obtain ⟨_,l2,_⟩:=are_all h
 have a:=few0 s s.length (Nat.le_refl _)
 have b:=flt1_len s (s.length - 1)
 have e:nearU s=(flt0 s s.length).filter codeB++(flt1 s (s.length - 1)).filter codeB:=by rw [← List.filter_append]; rfl
 have c:=List.length_filter_le codeB (flt1 s (s.length - 1))
 rw [e,List.length_append]; omega
set_option maxRecDepth 1000000 in
theorem works_true:resIs (.bool true) ((run Tryz.prog noOv 1000).call 15 [] (startA 9 laidL) .none)=true:=by kernel_rfl
theorem mixed:Tryz.prog.follows .mixedOrders=true:=by kernel_rfl
theorem globals9:Tryz.prog.globals.size=9:=by kernel_rfl
theorem no_count:NoCount Tryz.prog:=NoCount.of (by kernel_rfl)
noncomputable def oW:Ov:=memoOv 15 [] laidL (.bool true) noOv
theorem okW':OvOk Tryz.prog oW:=memo_ok no_count mixed ov_none works_true (by kernel_rfl) (by kernel_rfl) (by rw [globals9]; exact Nat.le_refl _) (by kernel_rfl) ov_none
theorem oW_none {f:Nat} (hf:f ≠ 15) (args:List Value) (w:AW):oW f args w=none:=by
 have:Nat.beq f 15=false:=by rw [← Bool.not_eq_true]; intro h; exact hf (Nat.eq_of_beq_eq_true h)
 simp [oW,memoOv,this,noOv]
theorem oW_has:HasQ oW:=fun w hw=>by
 simp [oW,memoOv,hw,sameL5,sameVal.sameVals]
theorem HasQ.skip {f:Nat} {F:PureF} {rest:Ov} (hf:15 ≠ f) (h:HasQ rest):HasQ (ovP f F rest):=fun w hw=>by simp [ovP,hf,h w hw]
theorem ovP_none {f g:Nat} {F:PureF} {rest:Ov} (hne:g ≠ f) (h:∀ args w,rest g args w=none) (args:List Value) (w:AW):ovP f F rest g args w=none:=by simp [ovP,hne,h]
noncomputable def ovL:List (Nat × PureF)→Ov
 | []=>oW
 | x::l=>ovP x.1 x.2 (ovL l)
def keyB (g:Nat):List (Nat × PureF)→Bool
 | []=>Nat.beq g 15
 | x::l=>Nat.beq g x.1 || keyB g l
def lookF (g:Nat):List (Nat × PureF)→Option PureF
 | []=>none
 | x::l=>bif Nat.beq g x.1 then some x.2 else lookF g l
theorem beq_no {a b:Nat} (h:Nat.beq a b=false):a ≠ b:=fun e=>by rw [e,Nat.beq_refl] at h; cases h
theorem chN {g:Nat}:∀ {l:List (Nat × PureF)},keyB g l=false→∀ args w,ovL l g args w=none
 | [],h=>oW_none (beq_no h)
 | x::l,h=>by
  simp only [keyB,Bool.or_eq_false_iff] at h
  exact ovP_none (beq_no h.1) (chN h.2)
theorem chH {g:Nat} {F:PureF}:∀ {l:List (Nat × PureF)},lookF g l=some F→HasP (ovL l) g F
 | [],h=>by cases h
 | x::l,h=>by
  simp only [lookF] at h
  cases hb:Nat.beq g x.1 with
  | true =>
   rw [hb] at h
   cases h
   have e:=Nat.eq_of_beq_eq_true hb
   subst e
   exact .here
  | false =>
   rw [hb] at h
   exact HasP.skip (beq_no hb) (chH h)
def memB (g:Nat):List (Nat × PureF)→Bool
 | []=>false
 | x::l=>Nat.beq g x.1 || memB g l
theorem chW:∀ {l:List (Nat × PureF)},memB 15 l=false→HasQ (ovL l)
 | [],_=>oW_has
 | x::l,h=>by
  simp only [memB,Bool.or_eq_false_iff] at h
  exact HasQ.skip (beq_no h.1) (chW h.2)
noncomputable def cl87:List (Nat × PureF):=(87,S87.F)::[]
noncomputable def o87:Ov:=ovL cl87
theorem ok87:OvOk Tryz.prog (ovP 87 S87.F (ovL [])):=S87.ok no_count mixed okW' fun args w v hl h=>by
 obtain ⟨a,b,rfl,rfl⟩:=h
 obtain ⟨v',w',hc,e⟩:=run87 (ov:=(ovL [])) (chN rfl) (chN rfl) a b w
 exact ⟨rfl,3,v',w',_,hc,e⟩
noncomputable def cl30:List (Nat × PureF):=(30,S30.F)::cl87
noncomputable def o30:Ov:=ovL cl30
theorem ok30:OvOk Tryz.prog (ovP 30 S30.F o87):=S30.ok no_count mixed ok87 fun args w v hl h=>by
 obtain ⟨s,rfl,⟨hs,h0⟩,ha,rfl⟩:=h
 obtain ⟨v',w',hc,e⟩:=run30 (ov:=o87) (chN rfl) (chN rfl) (chN rfl) s w hl hs h0 ha
 exact ⟨rfl,3,v',w',_,hc,e⟩
noncomputable def cl10:List (Nat × PureF):=(10,S10.F)::cl30
noncomputable def o10:Ov:=ovL cl10
theorem ok10:OvOk Tryz.prog (ovP 10 S10.F o30):=S10.ok no_count mixed ok30 fun args w v hl h=>by
 obtain ⟨s,rfl,⟨hs,h0⟩,rfl⟩:=h
 obtain ⟨v',w',hc,e⟩:=run10 (ov:=o30) (chN rfl) (chN rfl) (chN rfl) (chN rfl) (chN rfl) (chH rfl) s w hs h0
 exact ⟨rfl,5,v',w',_,hc,e⟩
noncomputable def cl62:List (Nat × PureF):=(62,S62.F)::cl10
noncomputable def o62:Ov:=ovL cl62
theorem ok62:OvOk Tryz.prog (ovP 62 S62.F o10):=S62.ok no_count mixed ok10 fun args w v hl h=>by
 obtain ⟨L,i,c,rfl,hi,rfl⟩:=h
 obtain ⟨v',w',hc,e⟩:=run62 (ov:=o10) (chN rfl) L i c hi w hl
 exact ⟨rfl,2,v',w',_,hc,e⟩
noncomputable def cl63:List (Nat × PureF):=(63,S63.F)::cl62
noncomputable def o63:Ov:=ovL cl63
theorem ok63:OvOk Tryz.prog (ovP 63 S63.F o62):=S63.ok no_count mixed ok62 fun args w v hl h=>by
 obtain ⟨L,i,a,b,rfl,ha,hb,hi,rfl⟩:=h
 obtain ⟨v',w',hc,e⟩:=run63 (ov:=o62) (chN rfl) L i a b ha hb hi w hl
 exact ⟨rfl,2,v',w',_,hc,e⟩
noncomputable def cl21:List (Nat × PureF):=(21,S21.F)::cl63
noncomputable def o21:Ov:=ovL cl21
theorem ok21:OvOk Tryz.prog (ovP 21 S21.F o63):=S21.ok no_count mixed ok63 fun args w v hl h=>by
 obtain ⟨L,i,k,a,b,rfl,ha,hb,rfl⟩:=h
 obtain ⟨v',w',hc,e⟩:=run21 (ov:=o63) (chN rfl) L i k a b ha hb w hl
 exact ⟨rfl,2,v',w',_,hc,e⟩
theorem topOs:OsO o21:=⟨chN rfl,chN rfl,chN rfl,chN rfl,chN rfl,chN rfl,chN rfl,chN rfl,chN rfl,chN rfl,chN rfl,chN rfl,chN rfl,chN rfl,chN rfl,chN rfl,chN rfl⟩
theorem topNr:Nr o21:=⟨chN rfl,chN rfl,chN rfl,chN rfl,chN rfl,chN rfl,chN rfl,chN rfl,topOs,chH rfl,chH rfl,chH rfl,chH rfl⟩
end Go.Proofs.YtdgllbepplldoaaGreatDoor.walk
namespace Go.Sh
theorem are_mk {s:List UInt8} {lo hi:Nat} (h1:lo≤s.length) (h2:s.length≤hi) (h:∀ (j:Nat) (c:UInt8),s[j]?=some c→sgB c=true):areB s lo hi=true:=by
 simp only [areB,Bool.and_eq_true,decide_eq_true_eq,List.all_eq_true]
 refine ⟨⟨h1,h2⟩,fun c hc=>?_⟩
 obtain ⟨j,hj⟩:=List.getElem?_of_mem hc
 exact h j c hj
structure Odd (C x:List UInt8):Prop where
 are:areB x 2 17=true
 no:codeB x=false
end Go.Sh
namespace Go.Proofs.YtdgllbepplldoaaGreatDoor.walk
open Go Go.Sh
set_option maxRecDepth 100000
theorem catS {w:AW} (c:Bool) (a b:List UInt8) (h:a.length≤1000) (h2:b.length≤1000):(binW Tryz.prog .add 9 c).val (.string ⟨⟨a⟩⟩) (.string ⟨⟨b⟩⟩) w=.val (.string ⟨⟨a++b⟩⟩) w:=by
 show vR w (addA (.string ⟨⟨a⟩⟩) (.string ⟨⟨b⟩⟩))=_
 have e:Nat.ble (lenL a (lenL b 0)) 1000000=true:=by
  rw [lenL_eq,lenL_eq]
  exact Nat.ble_eq_true_of_le (by omega)
 simp only [addA,e,cond_true,catA,appL_eq]
 rfl
theorem sg_ascii:∀ k:Fin 37,Utf8.encode ((sgL.getD k.1 0).toNat:Int)=⟨⟨[sgL.getD k.1 0]⟩⟩:=by decide +kernel
theorem sg_enc {c:UInt8} (h:sgB c=true):Utf8.encode (c.toNat:Int)=⟨⟨[c]⟩⟩:=by
 have h1:=sg_of h
 have h2:sgV c < 37:=of_decide_eq_true h
 have:=sg_ascii ⟨sgV c,h2⟩
 rw [List.getD_eq_getElem?_getD,h1] at this
 exact this
theorem cvU (w:AW) {c:UInt8} (h:sgB c=true):convertA Tryz.prog w 5 9 (.int .u8 (c.toNat:Int))=.val (.string ⟨⟨[c]⟩⟩) w:=by
 have u5:Tryz.prog.underlying 5=some (.int .u8):=by kernel_rfl
 simp [convertA,u9,u5,convTo,convStr,sg_enc h]
theorem slF (w:AW) (L:List UInt8) {k:Nat} (hk:k≤L.length):sliceA Tryz.prog w 9 (.string ⟨⟨L⟩⟩) (some (.int .i64 (k:Int))) none none=.val (.string ⟨⟨L.drop k⟩⟩) w:=by
 show sliceA Tryz.prog w 9 (.string ⟨⟨L⟩⟩) (some (.int .i64 (Int.ofNat k))) none none=_
 have e:bytesOf ⟨⟨L⟩⟩=L:=rfl
 have hb:Nat.ble k L.length=true:=Nat.ble_eq_true_of_le hk
 simp [sliceA,sliceB1,u9,sliceStr,boundA,e,lenL0,hb,takeL_eq,dropL_eq]
theorem slM (w:AW) (L:List UInt8) {k n:Nat} (hk:k≤n) (hn:n≤L.length):sliceA Tryz.prog w 9 (.string ⟨⟨L⟩⟩) (some (.int .i64 (k:Int))) (some (.int .i64 (n:Int))) none=.val (.string ⟨⟨(L.take n).drop k⟩⟩) w:=by
 show sliceA Tryz.prog w 9 (.string ⟨⟨L⟩⟩) (some (.int .i64 (Int.ofNat k))) (some (.int .i64 (Int.ofNat n))) none=_
 have e:bytesOf ⟨⟨L⟩⟩=L:=rfl
 have hb:Nat.ble k n=true:=Nat.ble_eq_true_of_le hk
 have hc:Nat.ble n L.length=true:=Nat.ble_eq_true_of_le hn
 simp [sliceA,sliceB1,u9,sliceStr,boundA,e,lenL0,hb,hc,takeL_eq,dropL_eq]
def sigS (s:List UInt8):List UInt8:=if areB s 1 16 then [chkS s] else []
def sigE (s:List UInt8):Int:=if areB s 1 16 then 0 else 80
theorem run8 {ov:Ov} (ho:∀ args w,ov 8 args w=none) (h29:∀ args w,ov 29 args w=none) (h58:∀ args w,ov 58 args w=none) (h59:∀ args w,ov 59 args w=none) (h30:HasP ov 30 S30.F) (m:Nat) (s:List UInt8) (w:AW) (hs:SgAt w) (h0:0 < w.next) :
  (run Tryz.prog ov (m + 3)).call 8 [.string ⟨⟨s⟩⟩] w .none=.ok (.ret (.tuple ⟨[.string ⟨⟨sigS s⟩⟩,.int .i64 (sigE s)]⟩)) w .none:=by
 have key:∃ v w',(run Tryz.prog ov (m + 3)).call 8 [.string ⟨⟨s⟩⟩] w .none=.ok (.ret v) w' .none∧v=.tuple ⟨[.string ⟨⟨sigS s⟩⟩,.int .i64 (sigE s)]⟩∧w'=w:=by
  refine call_wp text8 (by simp) (ho _ _) ?_
  have r:(run Tryz.prog ov (m + 2)).call 29 [.string ⟨⟨s⟩⟩,.int .i64 1,.int .i64 16] w .none=.ok (.ret (.bool (areB s 1 16))) w .none:=run29 h58 h59 h29 m ⟨⟨s⟩⟩ 1 16 (by decide) w hs
  cases ha:areB s 1 16 with
  | false =>
   rw [ha] at r
   simp [mc8,r,tupV,sigS,sigE,ha]
  | true =>
   rw [ha] at r
   obtain ⟨l1,l2,h3⟩:=are_all ha
   have r30:=S30.call (P:=Tryz.prog) h30 (m:=m + 1) (w:=w) ⟨⟨⟨s⟩⟩,rfl,⟨hs,h0⟩,are_mk (Nat.zero_le _) (by show s.length≤17; omega) h3,rfl⟩
   have hc:=cvU w (sg_in (chk_at s))
   have e:(⟨⟨s⟩⟩:ByteArray).data.toList=s:=rfl
   rw [e] at r30
   simp only [bV] at r30
   simp [mc8,r,r30,hc,tupV,sigS,sigE,ha]
 obtain ⟨v,w',h,rfl,rfl⟩:=key
 exact h
theorem run22 {ov:Ov} (ho:∀ args w,ov 22 args w=none) (m:Nat) (v:Value) (l:List (List UInt8)) (x:List UInt8) (hll:l.length≤1000) (hm:x ∈ l) (w:AW) (hr:RowsV stC w v l):∃ z:Nat,(run Tryz.prog ov (m + 1)).call 22 [v,.string ⟨⟨x⟩⟩] w .none=.ok (.ret (.int .i64 (z:Int))) w .none:=by
 have key:∃ r w',(run Tryz.prog ov (m + 1)).call 22 [v,.string ⟨⟨x⟩⟩] w .none=.ok (.ret r) w' .none∧(∃ z:Nat,r=.int .i64 (z:Int))∧w'=w:=by
  refine call_wp text22 (by simp) (ho _ _) ?_
  simp [mc22]
  refine wp_seqX (wp_blockX (wp_rounds (fun k t w'=>w'=w∧tget t 0=v∧tget t 1=.string ⟨⟨x⟩⟩∧tget t 5=.int .i64 (k:Nat)∧k≤l.length∧∀ j,j < k→l[j]? ≠ some x) 2000 (by decide) ?_ ?_))
  ·simp
  ·rintro k t w' ⟨rfl,t0,t1,t5,hk,hno⟩
   have hln:=len26V (w':=w') hr
   by_cases hlt:k < l.length
   ·obtain ⟨y,hy⟩:∃ y,l[k]?=some y:=⟨_,List.getElem?_eq_getElem hlt⟩
    obtain ⟨b,off,sq,cp,e3,hra⟩:=hr.at_ k hlt
    have hia:=fun w=>ia26 w ⟨b,off,sq⟩ l.length cp .i64 k hlt
    have hrd:=row_str hra hy
    have hlt':(k:Int) < (l.length:Int):=by omega
    have hw1:IntKind.wrap .i64 ((k:Int) + 1)=(k:Int) + 1:=wrap64_in (by omega) (by omega)
    subst e3
    by_cases he:y=x
    ·subst he
     simp [mc22_l0,t0,t1,t5,hln,hlt',hia,hrd,tupV]
     exact ⟨k,rfl⟩
    ·simp [mc22_l0,t0,t1,t5,hln,hlt',hia,hrd,he,hw1]
     refine ⟨by omega,by omega,fun j hj=>?_⟩
     by_cases e:j=k
     ·subst e
      rw [hy]
      intro e; exact he (Option.some.inj e)
     ·exact hno j (by omega)
   ·exfalso
    obtain ⟨j,hj⟩:=List.getElem?_of_mem hm
    have:=(List.getElem?_eq_some_iff.1 hj).1
    exact hno j (by omega) hj
 obtain ⟨v,w',h,⟨z,rfl⟩,rfl⟩:=key
 exact ⟨z,h⟩
end Go.Proofs.YtdgllbepplldoaaGreatDoor.walk
