/- Part of a proof: see the text with the theorem. -/
import Derived.Test.YthihnhgdbfcabaaGreatDoorTj
import Derived.Test.YthihnhgdbfcabaaGreatDoorTf
import Derived.Test.YthihnhgdbfcabaaGreatDoorTi
import Derived.Test.YthihnhgdbfcabaaGreatDoorTa
set_option linter.all false
namespace Go.Proofs.YthihnhgdbfcabaaGreatDoor.walk
open Go Go.Sh
set_option maxRecDepth 100000
section
variable {α:Type} {C:α→List Value} {V:α→Value} {sz:Nat} {cI:α→α→Int} {fv:Value} {fc:FuncId} {ov:Ov}
def PdqID (C:α→List Value) (cI:α→α→Int) (fv:Value) (n c B a b:Nat) (L0:List α) (w0:AW) (r:Nat) (t:Tm) (w:AW):Prop:=∃ L a1 b1 lim,Pdq (fun x y=>cI x y < 0) a b a1 b1 L0 L∧(b1 - a1) + r≤b - a∧InD C w0 B L w∧tget t 0=.slice (some ⟨B,0,none⟩) n c∧tget t 1=.int .i64 (a1:Nat)∧tget t 2=.int .i64 (b1:Nat)∧tget t 3=.int .i64 lim∧tget t 4=fv∧(∃ wb,tget t 10=.bool wb)∧(∃ wq,tget t 11=.bool wq)
set_option maxHeartbeats 4000000 in
theorem pdq0D (g:Nat) (h:SD ov C V sz cI fv fc) (o:OsD ov) (n c:Nat) (hn:n≤200) (a b:Nat) (hab:a≤b) (hbn:b≤n) (B:Nat) (w0:AW) (hl:w0.lim≤B) (hl0:w0.lim≤w0.next) (hBn:B < w0.next) (L0:List α) (hL0:L0.length=n) (hrec:RecD ov C cI fv g n c B (b - a)) (low:∀ x,0 < a→L0[a - 1]?=some x→All (fun z=>¬ cI z x < 0) L0 a b) (Q:Ex→Tm→AW→Prop) (t:Tm) (w:AW) (hw:InD C w0 B L0 w) (lim:Int)
  (t0:tget t 0=.slice (some ⟨B,0,none⟩) n c) (t1:tget t 1=.int .i64 (a:Nat)) (t2:tget t 2=.int .i64 (b:Nat)) (t3:tget t 3=.int .i64 lim) (t4:tget t 4=fv) (t10:tget t 10=.bool true) (t11:tget t 11=.bool true)
  (hR:∀ t w L,InD C w0 B L w→Mv a b L0 L→Srt (fun x y=>cI x y < 0) L a b→Q .ret t w):wp (exM Tryz.prog (run Tryz.prog ov (g + 5)) (.loop mc109_l0) t w) Q:=by
 refine wp_rounds (fun r t w=>PdqID C cI fv n c B a b L0 w0 r t w) 300 (by decide) ⟨L0,a,b,lim,Pdq.start hab (by omega) low,by omega,hw,t0,t1,t2,t3,t4,⟨_,t10⟩,⟨_,t11⟩⟩ ?_
 clear t0 t1 t2 t3 t4 t10 t11 hw lim
 rintro r t w ⟨L,a1,b1,lim,hP,hr,hw,t0,t1,t2,t3,t4,⟨wb,t10⟩,⟨wq,t11⟩⟩
 have hlen:L.length=n:=by rw [hP.mv.len,hL0]
 have hlm:=hw.lim
 have hnx:=hw.next
 have hb0:=hP.b1
 have hab1:=hP.ab
 rw [mc109_l0_eq]
 obtain ⟨za,hza⟩:∃ k:Int,k=(a1:Int):=⟨_,rfl⟩
 obtain ⟨zb,hzb⟩:∃ k:Int,k=(b1:Int):=⟨_,rfl⟩
 obtain ⟨zl,hzl⟩:∃ k:Int,k=((b1 - a1:Nat):Int):=⟨_,rfl⟩
 rw [← hza] at t1
 rw [← hzb] at t2
 have e1:IntKind.wrap .i64 (zb - za)=zl:=by rw [wrap64_in (by omega) (by omega)]; omega
 by_cases h12:b1 - a1≤12
 ·have h12':zl≤12:=by omega
  obtain ⟨_,w1,c1,rfl,L1,⟨i1,m1⟩,s1⟩:=call134 (g + 3) o.oINS h n c hn a1 b1 hab1 (by omega) B L hlen w (by omega) hw.row
  rw [← hza,← hzb] at c1
  simp [t0,t1,t2,t3,t4,t10,t11,e1,h12',c1]
  exact hR _ w1 L1 (hw.trans i1) (hP.move m1).mv ((hP.move m1).done s1)
 ·have h12':¬ zl≤12:=by omega
  by_cases h0:lim=0
  ·subst h0
   obtain ⟨_,w1,c1,rfl,L1,⟨i1,m1⟩,s1⟩:=call135 (g + 2) o.oHEAP o.oSIF h n c hn a1 b1 (by omega) (by omega) B L hlen w (by omega) hw.row
   rw [← hza,← hzb] at c1
   simp [t0,t1,t2,t3,t4,t10,t11,e1,h12',c1]
   exact hR _ w1 L1 (hw.trans i1) (hP.move m1).mv ((hP.move m1).done s1)
  ·have hrec':RecD ov C cI fv g n c B (b1 - a1):=fun a' b' l' L' w' e1 e2 e3=>hrec a' b' l' L' w' e1 e2 (by omega)
   have go:∀ (lim':Int) t' w',(∃ L a2 b2,Pdq (fun x y=>cI x y < 0) a b a2 b2 L0 L∧b2 - a2 < b1 - a1∧InD C w0 B L w'∧tget t' 0=.slice (some ⟨B,0,none⟩) n c∧tget t' 1=.int .i64 (a2:Nat)∧tget t' 2=.int .i64 (b2:Nat)∧tget t' 3=.int .i64 lim'∧tget t' 4=fv∧(∃ wb,tget t' 10=.bool wb)∧(∃ wp,tget t' 11=.bool wp))→r < 300∧PdqID C cI fv n c B a b L0 w0 (r + 1) t' w':=fun lim' t' w' ⟨L,a2,b2,q1,q2,q3,q4,q5,q6,q7,q8,q9,q10⟩=>⟨by omega,L,a2,b2,lim',q1,by omega,q3,q4,q5,q6,q7,q8,q9,q10⟩
   cases wb with
   | true =>
    simp [t0,t1,t2,t3,t4,t10,t11,e1,h12',h0]
    refine wp_blockX (pdq1D g h o n c hn a b hbn B w0 hl hl0 hBn L0 hL0 a1 b1 (by omega) hrec' L hP _ _ _ hw lim ?_ ?_ ?_ ?_ ?_ ?_ true wq ?_ ?_ ?_ ?_ ?_)
    case _=>simp [t0]
    case _=>simp [t1,hza]
    case _=>simp [t2,hzb]
    case _=>simp [t3]
    case _=>simp [t4]
    case _=>simp [hzl]
    case _=>simp [t10]
    case _=>simp [t11]
    case _=>exact fun t' w' L' a2 b2 q1 q2 q3 q4 q5 q6 q7 q8 q9 q10=>go lim t' w' ⟨L',a2,b2,q1,q2,q3,q4,q5,q6,q7,q8,q9,q10⟩
    case _=>exact fun t' w' L' a2 b2 q1 q2 q3 q4 q5 q6 q7 q8 q9 q10=>go lim t' w' ⟨L',a2,b2,q1,q2,q3,q4,q5,q6,q7,q8,q9,q10⟩
    case _=>exact fun t' w' L' q1 q2 q3=>hR t' w' L' q1 q2 q3
   | false =>
    obtain ⟨_,w1,c1,rfl,L1,i1,m1⟩:=call136 (g + 1) o.oBRK o.oNXT o.oNPT o.oLEN o.oL64 h n c hn a1 b1 (by omega) (by omega) B L hlen w (by omega) (by omega) (by omega) hw.row
    rw [← hza,← hzb] at c1
    simp [t0,t1,t2,t3,t4,t10,t11,e1,h12',h0,c1]
    refine wp_blockX (pdq1D g h o n c hn a b hbn B w0 hl hl0 hBn L0 hL0 a1 b1 (by omega) hrec' L1 (hP.move m1) _ _ _ (hw.trans i1) (IntKind.wrap .i64 (lim - 1)) ?_ ?_ ?_ ?_ ?_ ?_ false wq ?_ ?_ ?_ ?_ ?_)
    case _=>simp [t0]
    case _=>simp [t1,hza]
    case _=>simp [t2,hzb]
    case _=>simp
    case _=>simp [t4]
    case _=>simp [hzl]
    case _=>simp [t10]
    case _=>simp [t11]
    case _=>exact fun t' w' L' a2 b2 q1 q2 q3 q4 q5 q6 q7 q8 q9 q10=>go (IntKind.wrap .i64 (lim - 1)) t' w' ⟨L',a2,b2,q1,q2,q3,q4,q5,q6,q7,q8,q9,q10⟩
    case _=>exact fun t' w' L' a2 b2 q1 q2 q3 q4 q5 q6 q7 q8 q9 q10=>go (IntKind.wrap .i64 (lim - 1)) t' w' ⟨L',a2,b2,q1,q2,q3,q4,q5,q6,q7,q8,q9,q10⟩
    case _=>exact fun t' w' L' q1 q2 q3=>hR t' w' L' q1 q2 q3
theorem pdqD (m:Nat) (h:SD ov C V sz cI fv fc) (o:OsD ov) (n c:Nat) (hn:n≤200) (B:Nat):∀ d,RecD ov C cI fv (m + d + 1) n c B (d + 1):=by
 intro d
 induction d with
 | zero =>
  intro a b lim L w hab hbn hd hL low hl hl0 hBn hB
  refine call_wp text109 (by simp) (o.oPDQ _ _) ?_
  simp [mc109]
  refine wp_blockX (pdq0D m h o n c hn a b hab hbn B w hl hl0 hBn L hL (fun a' b' l' L' w' e1 e2 e3=>by omega) low _ _ _ (InS.refl hB) lim ?_ ?_ ?_ ?_ ?_ ?_ ?_ ?_)
  all_goals first | (intro t w' L' hw hp hs; simp [tupV]; exact ⟨L',⟨hw,hp⟩,hs⟩) | simp
 | succ d ih =>
  intro a b lim L w hab hbn hd hL low hl hl0 hBn hB
  refine call_wp text109 (by simp) (o.oPDQ _ _) ?_
  simp [mc109]
  refine wp_blockX (pdq0D (m + d + 1) h o n c hn a b hab hbn B w hl hl0 hBn L hL (fun a' b' l' L' w' e1 e2 e3=>ih a' b' l' L' w' e1 e2 (by omega)) low _ _ _ (InS.refl hB) lim ?_ ?_ ?_ ?_ ?_ ?_ ?_ ?_)
  all_goals first | (intro t w' L' hw hp hs; simp [tupV]; exact ⟨L',⟨hw,hp⟩,hs⟩) | simp
theorem call79 (m:Nat) (h:SD ov C V sz cI fv fc) (o:OsD ov) (ho:∀ args w,ov 79 args w=none) (n c:Nat) (hn:n≤200) (B:Nat) (L:List α) (hL:L.length=n) (w:AW) (hl:w.lim≤B) (hl0:w.lim≤w.next) (hBn:B < w.next) (hB:w.heap.get B=some (.cells (L.flatMap C) 131 false)) :
  ∃ x w',(run Tryz.prog ov (m + 207)).call 79 [.slice (some ⟨B,0,none⟩) n c,fv] w .none=.ok (.ret x) w' .none∧x=.tuple ⟨[]⟩∧∃ L',LeftD C w w' B 0 n L L'∧Srt (fun x y=>cI x y < 0) L' 0 n:=by
 refine call_wp text79 (by simp) (ho _ _) ?_
 obtain ⟨_,w1,c1,rfl,rfl⟩:=call65 (m + 204) o.oLEN o.oL64 n hn w
 have e1:IntKind.wrap .u64 (n:Int)=(n:Int):=IntWalk.u64_in _ ⟨by omega,by omega⟩
 obtain ⟨_,w2,c2,rfl,L',hL',hs⟩:=pdqD m h o n c hn B 200 0 n (bl n:Nat) L w1 (by omega) (Nat.le_refl _) (by omega) hL (fun x h0=>by omega) hl hl0 hBn hB
 simp only [Int.natCast_zero] at c2
 simp [mc79,e1,c1,c2,tupV]
 exact ⟨L',hL',hs⟩
end
def pdC (p:Pd):List Value:=[.int .i64 (p.1:Int),.int .i64 p.2]
def pdV (p:Pd):Value:=.agg ⟨pdC p⟩
theorem pdC_length (p:Pd):(pdC p).length=2:=rfl
theorem pdC_single (p:Pd):singles (pdC p)=true:=rfl
theorem pdC_inj (p q:Pd) (h:pdC p=pdC q):p=q:=by
 obtain ⟨a,b⟩:=p
 obtain ⟨c,d⟩:=q
 simp only [pdC,List.cons.injEq,Value.int.injEq,and_true,true_and] at h
 obtain ⟨h1,h2⟩:=h
 rw [show a=c by omega,h2]
theorem run142 {ov:Ov} (ho:∀ args w,ov 142 args w=none) (m:Nat) (z:Int) (w:AW):(run Tryz.prog ov (m + 1)).call 142 [.int .i64 z] w .none=.ok (.ret (.bool false)) w .none:=by
 have key:∃ v w',(run Tryz.prog ov (m + 1)).call 142 [.int .i64 z] w .none=.ok (.ret v) w' .none∧v=.bool false∧w'=w:=by
  refine call_wp text142 (by simp) (ho _ _) ?_
  simp [mc142,tupV]
 obtain ⟨v,w',h,rfl,rfl⟩:=key
 exact h
def cmpI (a b:Int):Int:=if a < b then -1 else if b < a then 1 else 0
theorem run111 {ov:Ov} (ho:∀ args w,ov 111 args w=none) (h142:∀ args w,ov 142 args w=none) (m:Nat) (a b:Int) (w:AW):(run Tryz.prog ov (m + 2)).call 111 [.int .i64 a,.int .i64 b] w .none=.ok (.ret (.int .i64 (cmpI a b))) w .none:=by
 have key:∃ v w',(run Tryz.prog ov (m + 2)).call 111 [.int .i64 a,.int .i64 b] w .none=.ok (.ret v) w' .none∧v=.int .i64 (cmpI a b)∧w'=w:=by
  refine call_wp text111 (by simp) (ho _ _) ?_
  have r:=fun z w=>run142 h142 m z w
  by_cases h1:a < b
  ·simp [mc111,r,h1,tupV,cmpI]
  ·by_cases h2:b < a
   ·simp [mc111,r,h1,h2,tupV,cmpI]
   ·simp [mc111,r,h1,h2,tupV,cmpI]
 obtain ⟨v,w',h,rfl,rfl⟩:=key
 exact h
def S159:PSpec where
 R args _ v:=∃ a b:Int,args=[.int .i64 a,.int .i64 b]∧v=.bool (decide (a - b < 0))
 uniq:=by rintro _ _ _ _ ⟨a,b,rfl,rfl⟩ ⟨_,_,h,rfl⟩; cases h; rfl
 shut h:=h
theorem run159 {ov:Ov} (ho:∀ args w,ov 159 args w=none) (h142:∀ args w,ov 142 args w=none) (a b:Int) (w:AW):∃ v w',(run Tryz.prog ov 3).call 159 [.int .i64 a,.int .i64 b] w .none=.ok (.ret v) w' .none∧v=.bool (decide (a - b < 0)):=by
 refine call_wp text159 (by simp) (ho _ _) ?_
 have r:=fun z w=>run142 h142 1 z w
 have e:decide (a - b < 0)=decide (a < b):=by rw [decide_eq_decide]; omega
 rw [e]
 simp [mc159,r,tupV]
theorem sortI {ov:Ov} (h159:HasP ov 159 S159.F):SI ov intC (fun z=>.int .i64 z) 1 (fun x y=>x - y) .nilFunc 159 where
 T:=SortT.one (V:=fun z=>.int .i64 z) (by kernel_rfl) (by kernel_rfl) (by kernel_rfl) fun a=>⟨rfl,rfl⟩
 cm:=fun k w x y=>S159.call (P:=Tryz.prog) h159 (m:=k) ⟨x,y,rfl,rfl⟩
 wk:=int_wk
theorem run110 {ov:Ov} (ho:∀ args w,ov 110 args w=none) (m:Nat) (u:Value) (l:List Int) (hl:l.length≤100) (w:AW) (hu:RowsV intC w u l):∃ z:Int,(run Tryz.prog ov (m + 1)).call 110 [u] w .none=.ok (.ret (.int .i64 z)) w .none∧((∃ i:Nat,l[i]?=some z∧z ≠ 0∧∀ j:Nat,j < i→l[j]?=some 0)∨(z=0∧∀ j:Nat,j < l.length→l[j]?=some 0)):=by
 have key:∃ v w',(run Tryz.prog ov (m + 1)).call 110 [u] w .none=.ok (.ret v) w' .none∧(∃ z:Int,v=.int .i64 z∧((∃ i:Nat,l[i]?=some z∧z ≠ 0∧∀ j:Nat,j < i→l[j]?=some 0)∨(z=0∧∀ j:Nat,j < l.length→l[j]?=some 0)))∧w'=w:=by
  refine call_wp text110 (by simp) (ho _ _) ?_
  have hlu:=fun w'=>len33V (w':=w') hu
  simp [mc110,hlu]
  refine wp_seqX (wp_blockX (wp_rounds (fun i t w'=>w'=w∧tget t 3=.int .i64 0∧tget t 6=u∧tget t 7=.int .i64 (l.length:Nat)∧tget t 8=.int .i64 (i:Nat)∧i≤l.length∧∀ j:Nat,j < i→l[j]?=some 0) 200 (by decide) ?_ ?_))
  ·simp
  ·rintro i t w' ⟨rfl,t3,t6,t7,t8,hi,hno⟩
   by_cases hlt:i < l.length
   ·obtain ⟨z,hz⟩:∃ z,l[i]?=some z:=⟨_,List.getElem?_eq_getElem hlt⟩
    obtain ⟨b,off,sq,c,rfl,hr⟩:=hu.at_ i hlt
    have hia:=fun w=>ia33 w ⟨b,off,sq⟩ l.length c .i64 i hlt
    have hd:=row_int hr hz
    have hw:IntKind.wrap .i64 ((i:Int) + 1)=(i:Int) + 1:=wrap64_in (by omega) (by omega)
    by_cases h0:z=0
    ·subst h0
     simp [mc110_l0,t3,t6,t7,t8,hlt,hia,hd,hw]
     refine ⟨by omega,by omega,fun j hj=>?_⟩
     by_cases e:j=i
     ·subst e; exact hz
     ·exact hno j (by omega)
    ·simp [mc110_l0,t3,t6,t7,t8,hlt,hia,hd,h0,tupV]
     exact ⟨i,hz,hno⟩
   ·have hi':i=l.length:=by omega
    subst hi'
    simp [mc110_l0,t3,t7,t8,tupV]
    exact hno
 obtain ⟨v,w',h,⟨z,rfl,hz⟩,rfl⟩:=key
 exact ⟨z,h,hz⟩
def S80:PSpec where
 R args _ v:=∃ p q:Pd,args=[pdV p,pdV q]∧v=.int .i64 (pdK p q)
 uniq:=by
  rintro _ _ _ _ ⟨p,q,rfl,rfl⟩ ⟨p',q',h,rfl⟩
  simp only [pdV,List.cons.injEq,Value.agg.injEq,Array.mk.injEq,and_true] at h
  rw [pdC_inj _ _ h.1,pdC_inj _ _ h.2]
 shut h:=h
theorem run80 {ov:Ov} (ho:∀ args w,ov 80 args w=none) (h110:∀ args w,ov 110 args w=none) (h111:∀ args w,ov 111 args w=none) (h142:∀ args w,ov 142 args w=none) (p q:Pd) (w:AW) (hl:w.lim=w.next):∃ v w',(run Tryz.prog ov 4).call 80 [pdV p,pdV q] w .none=.ok (.ret v) w' .none∧v=.int .i64 (pdK p q):=by
 refine call_wp text80 (by simp) (ho _ _) ?_
 have r:=fun a b w=>run111 h111 h142 1 a b w
 obtain ⟨w3,hw3⟩:∃ w3:AW,w3=⟨((w.heap.put w.next (some (.cells (pdC p) 131 false))).put (w.next + 1) (some (.cells (pdC q) 131 false))).put (w.next + 2) (some (.cells [.int .i64 (cmpI p.2 q.2),.int .i64 (cmpI p.1 q.1)] 3 false)),w.next + 3,w.lim⟩:=⟨_,rfl⟩
 have hr:RowsV intC w3 (.slice (some ⟨w.next + 2,0,some 2⟩) 2 2) [cmpI p.2 q.2,cmpI p.1 q.1]:=by
  refine .inr ⟨w.next + 2,0,some 2,2,rfl,⟨[],[],3,false,?_,rfl⟩,?_⟩
  ·rw [hw3]
   show (((w.heap.put _ _).put _ _).put (w.next + 2) _).get (w.next + 2)=_
   rw [get_put,if_pos rfl]; rfl
  ·rw [hw3]; show w.next + 2 < w.next + 3; omega
 obtain ⟨z,r110,hz⟩:=run110 h110 2 _ _ (by simp) w3 hr
 rw [hw3] at r110
 have e:z=pdK p q:=by
  unfold pdK
  rcases hz with ⟨i,h1,h2,h3⟩ | ⟨h1,h2⟩
  ·match i,h1,h3 with
   | 0,h1,_ =>
    simp [cmpI] at h1
    subst h1
    by_cases a:p.2 < q.2
    ·rw [if_pos a,if_pos a]
    ·by_cases b:q.2 < p.2
     ·rw [if_neg a,if_pos b,if_neg a,if_pos b]
     ·rw [if_neg a,if_neg b] at h2; exact absurd rfl h2
   | 1,h1,h3 =>
    have h4:=h3 0 (by decide)
    simp [cmpI] at h1 h4
    subst h1
    by_cases a:p.2 < q.2
    ·rw [if_pos a] at h4; exact absurd h4 (by decide)
    ·by_cases b:q.2 < p.2
     ·rw [if_neg a,if_pos b] at h4; exact absurd h4 (by decide)
     ·rw [if_neg a,if_neg b]
   | i + 2,h1,_=>simp at h1
  ·have h3:=h2 0 (by simp)
   have h4:=h2 1 (by simp)
   simp [cmpI] at h3 h4
   by_cases a:p.2 < q.2
   ·rw [if_pos a] at h3; exact absurd h3 (by decide)
   ·by_cases b:q.2 < p.2
    ·rw [if_neg a,if_pos b] at h3; exact absurd h3 (by decide)
    ·rw [if_neg a,if_neg b,h1]
     by_cases c:p.1 < q.1
     ·simp [c] at h4
     ·by_cases d:q.1 < p.1
      ·simp [c,d] at h4
      ·simp [c,d]
 rw [← e]
 simp only [pdC] at r110
 simp [mc80,pdV,pdC,r,r110,tupV]
theorem sortD {ov:Ov} (h80:HasP ov 80 S80.F):SD ov pdC pdV 2 pdK (.func (.func 80) ⟨[]⟩ ⟨[]⟩) 80 where
 T:=SortT.agg (by kernel_rfl) (by kernel_rfl) (by kernel_rfl) pdC_length pdC_single
 cv w args:=by rw [callV_func]; simp; exact callFn_enter text80 _
 cm:=fun k w x y=>S80.call (P:=Tryz.prog) h80 (m:=k) ⟨x,y,rfl,rfl⟩
 wk:=pdK_wk
def ruleC (a b c:Int):List Value:=[.int .i64 a,.int .i64 b,.int .i64 c]
def ruleB (a b c:Int):Bool:=(decide (1≤a) && decide (a≤100)) && ((decide (0≤b) && decide (b≤400)) && (decide (0≤c) && decide (c≤20)))
def podsOk (l:List Int):Bool:=decide (l.length≤200) && l.all fun z=>decide (1≤z) && decide (z≤400)
theorem rule_all {a b c:Int} (h:ruleB a b c=true):(1≤a∧a≤100)∧(0≤b∧b≤400)∧0≤c∧c≤20:=by
 simpa [ruleB] using h
theorem pods_all {l:List Int} (h:podsOk l=true):l.length≤200∧∀ z ∈ l,1≤z∧z≤400:=by
 simpa [podsOk] using h
def S53:PSpec where
 R args _ v:=∃ a b c:Int,args=[.agg ⟨ruleC a b c⟩]∧v=.bool (ruleB a b c)
 uniq:=by rintro _ _ _ _ ⟨a,b,c,rfl,rfl⟩ ⟨_,_,_,h,rfl⟩; cases h; rfl
 shut h:=h
theorem run53 {ov:Ov} (ho:∀ args w,ov 53 args w=none) (h58:∀ args w,ov 58 args w=none) (a b c:Int) (w:AW) (hl:w.lim=w.next):∃ v w',(run Tryz.prog ov 2).call 53 [.agg ⟨ruleC a b c⟩] w .none=.ok (.ret v) w' .none∧v=.bool (ruleB a b c):=by
 refine call_wp text53 (by simp) (ho _ _) ?_
 have r:=fun n a b w=>run58 h58 0 n a b w
 by_cases h1:1≤a∧a≤100
 ·by_cases h2:0≤b∧b≤400
  ·simp [mc53,ruleC,ruleB,r,h1,h2,tupV]
  ·have h2':(decide (0≤b) && decide (b≤400))=false:=by simpa using h2
   simp [mc53,ruleC,ruleB,r,h1,h2',tupV]
 ·have h1':(decide (1≤a) && decide (a≤100))=false:=by simpa using h1
  simp [mc53,ruleC,ruleB,r,h1',tupV]
theorem run54 {ov:Ov} (ho:∀ args w,ov 54 args w=none) (h58:∀ args w,ov 58 args w=none) (m:Nat) (u:Value) (l:List Int) (w:AW) (hu:RowsV intC w u l):(run Tryz.prog ov (m + 2)).call 54 [u] w .none=.ok (.ret (.bool (podsOk l))) w .none:=by
 have key:∃ v w',(run Tryz.prog ov (m + 2)).call 54 [u] w .none=.ok (.ret v) w' .none∧v=.bool (podsOk l)∧w'=w:=by
  refine call_wp text54 (by simp) (ho _ _) ?_
  have hlu:=fun w'=>len33V (w':=w') hu
  by_cases hb:l.length≤200
  ·have hb':¬ (200:Int) < (l.length:Int):=by omega
   simp [mc54,hlu,hb']
   refine wp_seqX (wp_blockX (wp_rounds (fun i t w'=>w'=w∧tget t 8=u∧tget t 9=.int .i64 (l.length:Nat)∧tget t 10=.int .i64 (i:Nat)∧i≤l.length∧(l.take i).all (fun z=>decide (1≤z) && decide (z≤400))=true) 300 (by decide) ?_ ?_))
   ·simp
   ·rintro i t w' ⟨rfl,t8,t9,t10,hi,hall⟩
    by_cases hlt:i < l.length
    ·obtain ⟨z,hz⟩:∃ z,l[i]?=some z:=⟨_,List.getElem?_eq_getElem hlt⟩
     obtain ⟨b,off,sq,c,rfl,hr⟩:=hu.at_ i hlt
     have hia:=fun w=>ia33 w ⟨b,off,sq⟩ l.length c .i64 i hlt
     have hd:=row_int hr hz
     have hw:IntKind.wrap .i64 ((i:Int) + 1)=(i:Int) + 1:=wrap64_in (by omega) (by omega)
     have r:=fun w=>run58 h58 m z 1 400 w
     by_cases h0:1≤z∧z≤400
     ·simp [mc54_l0,t8,t9,t10,hlt,hia,hd,r,h0,hw]
      refine ⟨by omega,by omega,fun x hx=>?_⟩
      rw [List.take_add_one,hz] at hx
      rcases List.mem_append.1 hx with hx | hx
      ·simpa using List.all_eq_true.1 hall x hx
      ·have:x=z:=by simpa using hx
       rw [this]; exact h0
     ·have h0':(decide (1≤z) && decide (z≤400))=false:=by simpa using h0
      have hf:podsOk l=false:=by
       rw [← Bool.not_eq_true]
       intro h
       exact h0 ((pods_all h).2 z (List.mem_of_getElem? hz))
      simp [mc54_l0,t8,t9,t10,hlt,hia,hd,r,h0',tupV,hf]
    ·have hi':i=l.length:=by omega
     subst hi'
     rw [List.take_length] at hall
     have hf:podsOk l=true:=by unfold podsOk; rw [hall,decide_eq_true hb]; rfl
     simp [mc54_l0,t9,t10,tupV,hf]
  ·have hb':(200:Int) < (l.length:Int):=by omega
   have hf:podsOk l=false:=by unfold podsOk; rw [decide_eq_false hb]; rfl
   simp [mc54,hlu,hb',tupV,hf]
 obtain ⟨v,w',h,rfl,rfl⟩:=key
 exact h
theorem list89:isList Tryz.prog 89=true:=by kernel_rfl
theorem elem89:elemA Tryz.prog 89=some 131:=by kernel_rfl
theorem size131:szOf Tryz.prog 131=some 2:=by kernel_rfl
theorem small131:smallT Tryz.prog 131=true:=by kernel_rfl
theorem len89V {w w':AW} {v:Value} {l:List Pd} (h:RowsV pdC w v l):lenB Tryz.prog w' 89 v=.val (.int .i64 (l.length:Nat)) w':=by
 obtain ⟨a,c,rfl⟩:=h.len; simp
section
variable {ov:Ov} {fv:Value}
theorem call134n (a:Option Addr) (c:Nat) (m:Nat) (ho:∀ args w,ov 134 args w=none) (w:AW):∃ x w',(run Tryz.prog ov (m + 1)).call 134 [.slice a 0 c,.int .i64 0,.int .i64 0,fv] w .none=.ok (.ret x) w' .none∧x=.tuple ⟨[]⟩∧w'=w:=by
 refine call_wp text134 (by simp) (ho _ _) ?_
 simp [mc134]
 refine wp_blockX (wp_rounds (fun r t w'=>w'=w∧r=0∧tget t 8=.int .i64 1∧tget t 2=.int .i64 0) 2 (by decide) (by simp; decide) ?_)
 rintro r t w' ⟨hw,rfl,t8,t2⟩
 rw [hw]
 clear hw w'
 simp [mc134_l0,t8,t2,tupV]
theorem call109n (a:Option Addr) (c:Nat) (m:Nat) (o:OsD ov) (z:Int) (w:AW):∃ x w',(run Tryz.prog ov (m + 2)).call 109 [.slice a 0 c,.int .i64 0,.int .i64 0,.int .i64 z,fv] w .none=.ok (.ret x) w' .none∧x=.tuple ⟨[]⟩∧w'=w:=by
 refine call_wp text109 (by simp) (o.oPDQ _ _) ?_
 obtain ⟨_,w1,c1,rfl,e⟩:=call134n (fv:=fv) a c m o.oINS w
 rw [e] at c1
 clear e w1
 simp [mc109]
 refine wp_blockX (wp_rounds (fun r t w'=>w'=w∧r=0∧tget t 0=.slice a 0 c∧tget t 1=.int .i64 0∧tget t 2=.int .i64 0∧tget t 4=fv) 2 (by decide) (by simp) ?_)
 rintro r t w' ⟨hw,rfl,t0,t1,t2,t4⟩
 rw [hw]
 clear hw w'
 have e0:IntKind.wrap .i64 0=0:=by decide
 simp [mc109_l0,t0,t1,t2,t4,e0,c1,tupV]
theorem call79n (a:Option Addr) (c:Nat) (m:Nat) (o:OsD ov) (ho:∀ args w,ov 79 args w=none) (w:AW):∃ x w',(run Tryz.prog ov (m + 3)).call 79 [.slice a 0 c,fv] w .none=.ok (.ret x) w' .none∧x=.tuple ⟨[]⟩∧w'=w:=by
 refine call_wp text79 (by simp) (ho _ _) ?_
 obtain ⟨_,w1,c1,rfl,rfl⟩:=call65 m o.oLEN o.oL64 0 (by decide) w
 obtain ⟨_,w2,c2,rfl,rfl⟩:=call109n (fv:=fv) a c m o (bl 0:Nat) w1
 have e1:IntKind.wrap .u64 0=0:=by decide
 simp only [Int.natCast_zero] at c1
 simp [mc79,e1,c1,c2,tupV]
end
def zI (l:List Int) (n:Nat):List Pd:=(List.range n).map fun k=>(k,(l[k]?).getD 0)
theorem zI_succ {l:List Int} {n:Nat} {z:Int} (h:l[n]?=some z):zI l (n + 1)=zI l n++[(n,z)]:=by
 unfold zI
 rw [List.range_succ,List.map_append]
 simp [h]
theorem zI_len (l:List Int) (n:Nat):(zI l n).length=n:=by unfold zI; rw [List.length_map,List.length_range]
section
variable {ov:Ov}
theorem call56 (m:Nat) (ho:∀ args w,ov 56 args w=none) (o79:∀ args w,ov 79 args w=none) (o:OsD ov) (h80:HasP ov 80 S80.F) (u:Value) (l:List Int) (hll:l.length≤200) (w:AW) (hl:w.lim≤w.next) (hu:RowsV intC w u l) :
  ∃ v w',(run Tryz.prog ov (m + 208)).call 56 [u] w .none=.ok (.ret v) w' .none∧∃ L:List Pd,AccR pdC 131 w.next w' v L∧L.Perm (zI l l.length)∧Srt (fun x y=>pdK x y < 0) L 0 L.length∧Up w w':=by
 refine call_wp text56 (by simp) (ho _ _) ?_
 have hlu:=fun w'=>len33V (w':=w') hu
 simp [mc56,hlu]
 refine wp_seqX (wp_blockX (wp_rounds (fun i t w'=>Up w w'∧AccR pdC 131 w.next w' (tget t 3) (zI l i)∧tget t 6=u∧tget t 7=.int .i64 (l.length:Nat)∧tget t 8=.int .i64 (i:Nat)∧i≤l.length) 300 (by decide) ?_ ?_))
 ·refine ⟨Up.refl _,?_,?_,?_,?_,Nat.zero_le _⟩
  ·simp; exact AccR.nil
  ·simp
  ·simp
  ·simp
 ·rintro i t w' ⟨hup,hacc,t6,t7,t8,hi⟩
  have hn:=hup.next
  have hlm:=hup.lim
  have hok:=hacc.ok
  by_cases hlt:i < l.length
  ·obtain ⟨z,hz⟩:∃ z,l[i]?=some z:=⟨_,List.getElem?_eq_getElem hlt⟩
   obtain ⟨b,off,sq,c,rfl,hr⟩:=(hu.up hup).at_ i hlt
   have hia:=fun w=>ia33 w ⟨b,off,sq⟩ l.length c .i64 i hlt
   have hd:=row_int hr hz
   have hw:IntKind.wrap .i64 ((i:Int) + 1)=(i:Int) + 1:=wrap64_in (by omega) (by omega)
   obtain ⟨v',w2,hap,hacc',hkp,hn2,hl2⟩:=AccR.push3 (P:=Tryz.prog) (st:=89) (e:=131) (sz:=2) list89 elem89 size131 small131 pdC_length pdC_single (by decide) hacc (by omega) hn (by rw [zI_len]; omega) (i,z)
   rw [← zI_succ hz] at hacc'
   simp only [pdC] at hap
   simp [mc56_l0,t6,t7,t8,hlt,hia,hd,hok,hap,hw]
   exact ⟨by omega,⟨fun y hy=>by rw [hkp y hy]; exact hup.at hy,by omega,by omega⟩,hacc',hlt⟩
  ·have hi':i=l.length:=by omega
   subst hi'
   have hlen:=zI_len l l.length
   rcases hacc with ⟨e0,e1⟩ | ⟨B,e1,hB,k1,k2,k3⟩
   ·obtain ⟨_,w2,c79,rfl,rfl⟩:=call79n (fv:=.func (.func 80) ⟨[]⟩ ⟨[]⟩) none 0 (m + 204) o o79 w'
    simp [mc56_l0,t7,t8,e1,c79,tupV]
    refine ⟨[],AccR.nil,?_,?_,hup⟩
    ·rw [e0]
    ·exact fun p q x y h1 h2 h3=>by simp at h3
   ·rw [hlen] at e1
    obtain ⟨_,w2,c79,rfl,L',⟨hin,hmv⟩,hsrt⟩:=call79 m (sortD h80) o o79 l.length l.length hll B (zI l l.length) hlen w' (by omega) (by omega) k2 hB
    have hlL:L'.length=l.length:=by rw [hmv.len,hlen]
    simp [mc56_l0,t7,t8,e1,c79,tupV]
    refine ⟨L',.inr ⟨B,by rw [hlL],hin.row,k1,by have:=hin.next; omega,?_⟩,hmv.perm,by rw [hlL]; exact hsrt,⟨fun y hy=>?_,by have:=hin.next; omega,by have:=hin.lim; omega⟩⟩
    ·intro e
     rw [e] at hlL
     have h0:l.length=0:=hlL.symm
     exact k3 (List.eq_nil_of_length_eq_zero (by rw [hlen,h0]))
    ·rw [hin.old y (by omega) (by omega)]; exact hup.at hy
end
def lastI (l:List Int):Int:=l.getLast?.getD 0
def headI (l:List Int):Int:=l.head?.getD 0
def bunI (b c:Int) (l:List Int):Bool:=decide (l.length=1) || decide (lastI l - headI l + 2 * c≤b)
def bunB (b c:Int) (l:List Pd):Bool:=bunI b c (l.map Prod.snd)
def S77:PSpec where
 R args w v:=∃ (a b c:Int) (u:Value) (l:List Pd),args=[.agg ⟨ruleC a b c⟩,u]∧RowsV pdC w u l∧l ≠ []∧(l.length≤200∧(∀ p ∈ l,1≤p.2∧p.2≤400)∧0≤c∧c≤20)∧v=.bool (bunB b c l)
 uniq:=by
  rintro _ _ _ _ ⟨a,b,c,u,l,rfl,h1,_,_,rfl⟩ ⟨a',b',c',u',l',h,h2,_,_,rfl⟩
  simp only [ruleC,List.cons.injEq,Value.agg.injEq,Array.mk.injEq,Value.int.injEq,and_true,true_and] at h
  obtain ⟨⟨rfl,rfl,rfl⟩,rfl⟩:=h
  rw [RowsV.uniq pdC_length pdC_inj h1 h2]
 shut h:=h
theorem ia89_0 (w:AW) (a:Addr) (n c:Nat) (hn:0 < n):indexAddrA Tryz.prog w 89 (.slice (some a) n c) (.int .i64 0)=.val (.pointer (some (a.add (0 * 2)))) w:=ia89 w a n c .i64 0 hn
theorem run77 {ov:Ov} (ho:∀ args w,ov 77 args w=none) (a b c:Int) (u:Value) (l:List Pd) (w:AW) (hl:w.lim=w.next) (hu:RowsV pdC w u l) (hne:l ≠ []) (hll:l.length≤200) (hb:∀ p ∈ l,1≤p.2∧p.2≤400) (hc:0≤c∧c≤20) :
  ∃ v w',(run Tryz.prog ov 2).call 77 [.agg ⟨ruleC a b c⟩,u] w .none=.ok (.ret v) w' .none∧v=.bool (bunB b c l):=by
 refine call_wp text77 (by simp) (ho _ _) ?_
 have hlu:=fun w'=>len89V (w':=w') hu
 have hpos:0 < l.length:=List.length_pos_iff.2 hne
 obtain ⟨n,hn⟩:∃ n,l.length=n + 1:=⟨l.length - 1,by omega⟩
 by_cases h1:l.length=1
 ·have e:bunB b c l=true:=by unfold bunB bunI; rw [List.length_map,decide_eq_true h1]; rfl
  have h1':(l.length:Int)=1:=by omega
  simp [mc77,ruleC,hlu,h1',tupV,e]
 ·obtain ⟨p,hp⟩:∃ p,l[n]?=some p:=⟨_,List.getElem?_eq_getElem (by omega)⟩
  obtain ⟨q,hq⟩:∃ q,l[0]?=some q:=⟨_,List.getElem?_eq_getElem hpos⟩
  have bp:=hb p (List.mem_of_getElem? hp)
  have bq:=hb q (List.mem_of_getElem? hq)
  obtain ⟨B,off,sq,cp,rfl,hr⟩:=hu.at_ 0 hpos
  have hia:=fun w=>ia89 w ⟨B,off,sq⟩ l.length cp .i64 n (by omega)
  have hi0:=fun w=>ia89_0 w ⟨B,off,sq⟩ l.length cp hpos
  have hBn:¬ B=w.next:=by have:=hr.2; omega
  have d1:=hr.rd1 pdC_length hp (j:=1) (x:=.int .i64 p.2) rfl
  have d0:=hr.rd1 pdC_length hq (j:=1) (x:=.int .i64 q.2) rfl
  simp only [Nat.zero_mul,Nat.add_zero] at d0
  have h1':¬ (l.length:Int)=1:=by omega
  have w0:IntKind.wrap .i64 ((l.length:Int) - 1)=(n:Int):=(wrap64_in (by omega) (by omega)).trans (by omega)
  have w1:IntKind.wrap .i64 (p.2 - q.2)=p.2 - q.2:=wrap64_in (by omega) (by omega)
  have w2:IntKind.wrap .i64 (2 * c)=2 * c:=wrap64_in (by omega) (by omega)
  have w3:IntKind.wrap .i64 (p.2 - q.2 + 2 * c)=p.2 - q.2 + 2 * c:=wrap64_in (by omega) (by omega)
  have e:bunB b c l=decide (p.2 - q.2 + 2 * c≤b):=by
   unfold bunB bunI lastI headI
   rw [List.length_map,decide_eq_false h1,Bool.false_or,List.getLast?_map,List.head?_map,List.getLast?_eq_getElem?,List.head?_eq_getElem?,hn,Nat.add_sub_cancel,hp,hq]
   rfl
  simp [mc77,ruleC,hlu,h1',w0,hia,hi0,hBn,d1,d0,w1,w2,w3,tupV,e]
section
variable {ov:Ov}
theorem call78 (m:Nat) (ho:∀ args w,ov 78 args w=none) (o108:∀ args w,ov 108 args w=none) (o:OsI ov) (h159:HasP ov 159 S159.F) (u:Value) (l:List Pd) (hne:l ≠ []) (hll:l.length≤200) (w:AW) (hl:w.lim≤w.next) (hu:RowsV pdC w u l) :
  ∃ v w',(run Tryz.prog ov (m + 208)).call 78 [u] w .none=.ok (.ret v) w' .none∧∃ r:List Int,AccR intC 3 w.next w' v r∧r.Perm (l.map fun p=>(p.1:Int))∧Srt (fun x y:Int=>x - y < 0) r 0 r.length∧Up w w':=by
 refine call_wp text78 (by simp) (ho _ _) ?_
 have hlu:=fun w'=>len89V (w':=w') hu
 simp [mc78,hlu]
 refine wp_seqX (wp_blockX (wp_rounds (fun i t w'=>Up w w'∧AccR intC 3 w.next w' (tget t 3) ((l.take i).map fun p=>(p.1:Int))∧tget t 6=u∧tget t 7=.int .i64 (l.length:Nat)∧tget t 8=.int .i64 (i:Nat)∧i≤l.length) 300 (by decide) ?_ ?_))
 ·refine ⟨Up.refl _,?_,?_,?_,?_,Nat.zero_le _⟩
  ·simp; exact AccR.nil
  ·simp
  ·simp
  ·simp
 ·rintro i t w' ⟨hup,hacc,t6,t7,t8,hi⟩
  have hn:=hup.next
  have hlm:=hup.lim
  have hok:=hacc.ok
  by_cases hlt:i < l.length
  ·obtain ⟨p,hp⟩:∃ p,l[i]?=some p:=⟨_,List.getElem?_eq_getElem hlt⟩
   obtain ⟨b,off,sq,c,rfl,hr⟩:=(hu.up hup).at_ i hlt
   have hia:=fun w=>ia89 w ⟨b,off,sq⟩ l.length c .i64 i hlt
   have hd:=hr.rd pdC_length hp
   have hw:IntKind.wrap .i64 ((i:Int) + 1)=(i:Int) + 1:=wrap64_in (by omega) (by omega)
   have hlw:w'.lim≤w'.next:=by omega
   obtain ⟨wA,hwA⟩:∃ wA:AW,wA=⟨(w'.heap.put w'.next (some (.cells [.int .i64 0,.int .i64 0] 131 false))).put w'.next (some (.cells (pdC p) 131 false)),w'.next + 1,w'.lim⟩:=⟨_,rfl⟩
   have gA:∀ x,x < w'.next→wA.heap.get x=w'.heap.get x:=fun x hx=>by
    rw [hwA]
    show ((w'.heap.put _ _).put _ _).get x=_
    rw [get_put,if_neg (by omega),get_put,if_neg (by omega)]
   have nA:wA.next=w'.next + 1:=by rw [hwA]
   have lA:wA.lim=w'.lim:=by rw [hwA]
   have haccA:AccR intC 3 w.next wA (tget t 3) ((l.take i).map fun p=>(p.1:Int)):=hacc.keep (fun x _ hx=>gA x hx) (by omega)
   obtain ⟨v',w2,hap,hacc',hkp,hn2,hl2⟩:=AccR.push3 (P:=Tryz.prog) (st:=33) (e:=3) (sz:=1) list33 elem33 size3 small3 intC_length intC_single (by decide) haccA (by omega) (by omega) (by rw [List.length_map,List.length_take]; omega) (p.1:Int)
   have e1:((l.take (i + 1)).map fun p=>(p.1:Int))=((l.take i).map fun p=>(p.1:Int))++[(p.1:Int)]:=by rw [List.take_add_one,hp,List.map_append]; rfl
   rw [← e1] at hacc'
   rw [hwA] at hap
   simp only [intC,pdC] at hap hd
   simp [mc78_l0,t6,t7,t8,hlt,hia,hd,hok,hlw,hap,hw]
   exact ⟨by omega,⟨fun y hy=>by rw [hkp y (by omega),gA y (by omega)]; exact hup.at hy,by omega,by omega⟩,by rw [← List.map_take]; exact hacc',hlt⟩
  ·have hi':i=l.length:=by omega
   subst hi'
   rw [List.take_length] at hacc
   rcases hacc with ⟨e0,e1⟩ | ⟨B,e1,hB,k1,k2,k3⟩
   ·exfalso
    apply hne
    exact List.map_eq_nil_iff.1 e0
   ·rw [List.length_map] at e1
    obtain ⟨_,w2,c108,rfl,L',⟨hin,hmv⟩,hsrt⟩:=call108 m (sortI h159) o o108 l.length l.length hll B (l.map fun p=>(p.1:Int)) (List.length_map _) w' (by omega) (by omega) k2 hB
    have hlL:L'.length=l.length:=by rw [hmv.len,List.length_map]
    simp [mc78_l0,t7,t8,e1,c108,tupV]
    refine ⟨L',.inr ⟨B,by rw [hlL],hin.row,k1,by have:=hin.next; omega,?_⟩,hmv.perm,by rw [hlL]; exact hsrt,⟨fun y hy=>?_,by have:=hin.next; omega,by have:=hin.lim; omega⟩⟩
    ·intro e
     rw [e] at hlL
     exact hne (List.eq_nil_of_length_eq_zero hlL.symm)
    ·rw [hin.old y (by omega) (by omega)]; exact hup.at hy
end
theorem list34:isList Tryz.prog 34=true:=by kernel_rfl
theorem elem34:elemA Tryz.prog 34=some 33:=by kernel_rfl
theorem size33:szOf Tryz.prog 33=some 1:=by kernel_rfl
theorem small33:smallT Tryz.prog 33=true:=by kernel_rfl
abbrev El:=(Option Addr × Nat × Nat) × List Int × List Pd
def elV (e:El):Value:=.slice e.1.1 e.1.2.1 e.1.2.2
def elC (e:El):List Value:=[elV e]
theorem elC_length (e:El):(elC e).length=1:=rfl
theorem elC_single (e:El):singles (elC e)=true:=rfl
def IdxOk (e:El):Prop:=e.2.1.Perm (e.2.2.map fun p=>(p.1:Int))∧Srt (fun x y:Int=>x - y < 0) e.2.1 0 e.2.1.length
def Safe (w:AW) (B:Nat) (e:El):Prop:=∀ w':AW,(∀ x,x < w.next→x ≠ B→w'.heap.get x=w.heap.get x)→w.next≤w'.next→RowsV intC w' (elV e) e.2.1
def leftV (B k r:Nat):Value:=.slice (some ⟨B,k * 2,none⟩) r r
def shortV (B k r:Nat):Value:=.slice (some ⟨B,k * 2,some 2⟩) r r
theorem rows_cut {w:AW} {B:Nat} {L:List Pd} (hB:w.heap.get B=some (.cells (L.flatMap pdC) 131 false)) (hBn:B < w.next) {k m:Nat} (h:k + m≤L.length):RowsV pdC w (shortV B k m) ((L.drop k).take m):=by
 have hl:((L.drop k).take m).length=m:=by rw [List.length_take,List.length_drop]; omega
 refine .inr ⟨B,k * 2,some 2,m,by rw [hl]; rfl,⟨(L.take k).flatMap pdC,((L.drop k).drop m).flatMap pdC,131,false,?_,?_⟩,hBn⟩
 ·rw [hB,← List.flatMap_append,List.take_append_drop,← List.flatMap_append,List.take_append_drop]
 ·rw [flat_length pdC_length,List.length_take,Nat.min_eq_left (by omega)]
theorem len89L (w:AW) (B k r:Nat):lenB Tryz.prog w 89 (leftV B k r)=.val (.int .i64 (r:Nat)) w:=by unfold leftV; simp
theorem cut_short {w:AW} {B:Nat} {L:List Pd} (hB:w.heap.get B=some (.cells (L.flatMap pdC) 131 false)) {k r M:Nat} (h:M≤r):sliceA Tryz.prog w 89 (leftV B k r) none (some (.int .i64 (M:Int))) (some (.int .i64 (M:Int)))=.val (shortV B k M) w :=
 slice_three elem89 size131 (a:=⟨B,k * 2,none⟩) hB (Nat.le_refl _) h
theorem cut_left {w:AW} {B:Nat} {L:List Pd} (hB:w.heap.get B=some (.cells (L.flatMap pdC) 131 false)) {k r M:Nat} (h:M≤r):sliceA Tryz.prog w 89 (leftV B k r) (some (.int .i64 (M:Int))) none none=.val (leftV B (k + M) (r - M)) w:=by
 have:=slice_tail elem89 size131 (a:=⟨B,k * 2,none⟩) (n:=r) (c:=r) (lo:=M) hB h
 rw [show k * 2 + M * 2=(k + M) * 2 by omega] at this
 exact this
theorem cut_one {w:AW} {B:Nat} {L:List Pd} (hB:w.heap.get B=some (.cells (L.flatMap pdC) 131 false)) {k r:Nat} (h:1≤r):sliceA Tryz.prog w 89 (leftV B k r) (some (.int .i64 1)) none none=.val (leftV B (k + 1) (r - 1)) w:=cut_left hB (M:=1) h
structure Has55 (ov:Ov):Prop where
 o55:∀ args w,ov 55 args w=none
 o56:∀ args w,ov 56 args w=none
 o78:∀ args w,ov 78 args w=none
 o79:∀ args w,ov 79 args w=none
 o108:∀ args w,ov 108 args w=none
 oI:OsI ov
 oD:OsD ov
 h77:HasP ov 77 S77.F
 h80:HasP ov 80 S80.F
 h159:HasP ov 159 S159.F
section
variable {ov:Ov}
structure In55 (w0:AW) (X B M:Nat) (b c:Int) (L:List Pd) (v5:Value) (f k:Nat) (w:AW):Prop where
 up:Up w0 w
 lt:w0.next < w.next
 rule:w.heap.get w0.next=some (.cells (ruleC (M:Int) b c) 87 false)
 row:w.heap.get B=some (.cells (L.flatMap pdC) 131 false)
 acc:∃ (acc:List El) (Bq:Nat),AccQ elC 33 w0.next w v5 acc Bq∧(∀ e ∈ acc,Safe w Bq e∧IdxOk e)∧acc.map (fun e=>e.2.2)++runG M (bunB b c) f (L.drop k)=runG M (bunB b c) (L.length + 1) L∧acc.length≤k
theorem loop55 (m:Nat) (h:Has55 ov) (M:Nat) (hM:1≤M) (b c:Int) (hc:0≤c∧c≤20) (L:List Pd) (hLn:L.length≤200) (hb:∀ p ∈ L,1≤p.2∧p.2≤400) (w0:AW) (hl:w0.lim≤w0.next) (B:Nat) (hBn:B < w0.next) (w:AW) (Q:Ex→Tm→AW→Prop) (t:Tm)
  (t1:tget t 1=leftV B 0 L.length) (t2:tget t 2=.pointer (some ⟨w0.next,0,none⟩)) (hI:In55 w0 w0.next B M b c L (tget t 5) (L.length + 1) 0 w)
  (hQ:∀ t w k f,In55 w0 w0.next B M b c L (tget t 5) f k w→L.length - k < M→Q (.exit 0) t w):wp (exM Tryz.prog (run Tryz.prog ov (m + 208)) (.loop mc55_l0) t w) Q:=by
 refine wp_rounds (fun i t w=>∃ k r f,i≤k∧k + r=L.length∧r < f∧In55 w0 w0.next B M b c L (tget t 5) f k w∧tget t 1=leftV B k r∧tget t 2=.pointer (some ⟨w0.next,0,none⟩)) 300 (by decide) ⟨0,L.length,L.length + 1,Nat.le_refl _,by omega,by omega,hI,t1,t2⟩ ?_
 clear t1 t2 hI w t
 rintro i t w ⟨k,r,f,hik,hkr,hrf,hI,t1,t2⟩
 have hI':=hI
 obtain ⟨hu,hlt,hX,hB,acc,Bq,hacc,hsafe,hrun,hak⟩:=hI
 have hn:=hu.next
 have hlm:=hu.lim
 have hok:=hacc.ok
 have hlen:=fun w=>len89L w B k r
 have hokL:notJunk (leftV B k r)=some (leftV B k r):=rfl
 have hX':=hX
 simp only [ruleC] at hX'
 by_cases hge:M≤r
 ·have hge':(M:Int)≤(r:Int):=by omega
  obtain ⟨f',rfl⟩:∃ f',f=f' + 1:=⟨f - 1,by omega⟩
  have hlenK:¬ (L.drop k).length < M:=by rw [List.length_drop]; omega
  have c1:=cut_short hB (k:=k) hge
  have hokS:notJunk (shortV B k M)=some (shortV B k M):=rfl
  have hsub:=rows_cut hB (by omega) (k:=k) (m:=M) (by omega)
  have hsl:((L.drop k).take M).length=M:=by rw [List.length_take,List.length_drop]; omega
  have hsne:(L.drop k).take M ≠ []:=by intro e; rw [e] at hsl; simp at hsl; omega
  have hsb:∀ p ∈ (L.drop k).take M,1≤p.2∧p.2≤400:=fun p hp=>hb p (List.mem_of_mem_drop (List.mem_of_mem_take hp))
  have r77:=S77.call (P:=Tryz.prog) h.h77 (m:=m + 207) (w:=w) ⟨(M:Int),b,c,_,_,rfl,hsub,hsne,⟨by omega,hsb,hc.1,hc.2⟩,rfl⟩
  simp only [ruleC] at r77
  cases hbun:bunB b c ((L.drop k).take M) with
  | false =>
   rw [hbun] at r77
   have c2:=cut_one hB (k:=k) (r:=r) (by omega)
   rw [runG_skip hlenK hbun,List.tail_drop] at hrun
   simp [mc55_l0,t1,t2,hlen,hokL,hX',hge,hge',c1,hokS,r77,c2]
   exact ⟨by omega,k + 1,by omega,r - 1,by omega,f',by omega,⟨hu,hlt,hX,hB,acc,Bq,hacc,hsafe,hrun,by omega⟩,rfl⟩
  | true =>
   rw [hbun] at r77
   have c2:=fun (w':AW) (hB':w'.heap.get B=some (.cells (L.flatMap pdC) 131 false))=>cut_left hB' (k:=k) (r:=r) hge
   rw [runG_take hlenK hbun,List.drop_drop] at hrun
   obtain ⟨v78,w1,c78,row,hrow,hperm,hsrt,hu1⟩:=call78 (m:=m) h.o78 h.o108 h.oI h.h159 (shortV B k M) ((L.drop k).take M) hsne (by omega) w (by omega) hsub
   rcases hrow with ⟨e0,_⟩ | ⟨Br,e78,hBr,q1,q2,q3⟩
   ·exfalso
    subst e0
    have:=hperm.length_eq
    rw [List.length_map,hsl] at this
    simp at this
    omega
   subst e78
   have hn1:=hu1.next
   have hl1:=hu1.lim
   obtain ⟨e,he⟩:∃ e:El,e=((some ⟨Br,0,none⟩,row.length,row.length),row,(L.drop k).take M):=⟨_,rfl⟩
   have haccA:AccQ elC 33 w0.next w1 (tget t 5) acc Bq:=hacc.keep (fun _ _ hhi=>hu1.at hhi) hn1
   obtain ⟨v',w2,hap,⟨B',hB'lo,hacc'⟩,hkp,hn2,hl2⟩:=AccQ.push2 (P:=Tryz.prog) (st:=34) (e:=33) (sz:=1) list34 elem34 size33 small33 elC_length elC_single (by decide) haccA (by omega) (by omega) (by omega) e
   have far:∀ x,x≤w0.next→w2.heap.get x=w.heap.get x:=fun x hx=>by
    rw [hkp x (by omega) (fun hne=>by have:=(hacc.lt hne).1; omega)]
    exact hu1.at (by omega)
   have hX2:w2.heap.get w0.next=some (.cells (ruleC (M:Int) b c) 87 false):=(far _ (Nat.le_refl _)).trans hX
   have hB2:w2.heap.get B=some (.cells (L.flatMap pdC) 131 false):=(far B (by omega)).trans hB
   have hX2':=hX2
   simp only [ruleC] at hX2'
   have c3:=c2 w2 hB2
   have hsafe':∀ e' ∈ acc++[e],Safe w2 B' e'∧IdxOk e':=fun e' he'=>by
    rcases List.mem_append.1 he' with he' | he'
    ·refine ⟨fun w' hw' hn'=>(hsafe e' he').1 w' (fun x hx hxq=>?_) (by omega),(hsafe e' he').2⟩
     rw [hw' x (by omega) (by omega),hkp x (by omega) (fun _=>hxq)]
     exact hu1.at hx
    ·have e1:=List.mem_singleton.1 he'
     subst e1
     subst he
     refine ⟨fun w' hw' hn'=>?_,hperm,hsrt⟩
     have g:w'.heap.get Br=some (.cells (row.flatMap intC) 3 false):=by
      rw [hw' Br (by omega) (by omega),hkp Br q2 (fun hne=>by have:=(hacc.lt hne).2; omega)]
      exact hBr
     exact .inr ⟨Br,0,none,row.length,rfl,⟨[],[],3,false,by simpa using g,rfl⟩,by omega⟩
   have hrun':(acc++[e]).map (fun e=>e.2.2)++runG M (bunB b c) f' (L.drop (k + M))=runG M (bunB b c) (L.length + 1) L:=by
    rw [← hrun,List.map_append,List.append_assoc,he]; rfl
   rw [he] at hap
   simp only [elC,elV] at hap
   simp [mc55_l0,t1,t2,hlen,hokL,hX',hge,hge',c1,hokS,r77,hok,c78,hap,hX2',c3]
   exact ⟨by omega,k + M,by omega,r - M,by omega,f',by omega,⟨⟨fun y hy=>(far y (by omega)).trans (hu.at hy),by omega,by omega⟩,by omega,hX2,hB2,acc++[e],B',hacc',hsafe',hrun',by rw [List.length_append]; simp; omega⟩,rfl⟩
 ·have hge':¬ (M:Int)≤(r:Int):=by omega
  simp [mc55_l0,t1,t2,hlen,hokL,hX',hge,hge']
  exact hQ _ _ k f hI' (by omega)
theorem call55 (m:Nat) (h:Has55 ov) (M:Nat) (hM:1≤M) (b c:Int) (hc:0≤c∧c≤20) (v:Value) (L:List Pd) (hLn:L.length≤200) (hb:∀ p ∈ L,1≤p.2∧p.2≤400) (n0:Nat) (w:AW) (hl:w.lim≤w.next) (hv:AccR pdC 131 n0 w v L) :
  ∃ v' w',(run Tryz.prog ov (m + 209)).call 55 [.agg ⟨ruleC (M:Int) b c⟩,v] w .none=.ok (.ret v') w' .none∧∃ acc:List El,RowsV elC w' v' acc∧(∀ e ∈ acc,RowsV intC w' (elV e) e.2.1∧IdxOk e)∧acc.map (fun e=>e.2.2)=runG M (bunB b c) (L.length + 1) L∧notJunk v'=some v'∧Up w w':=by
 refine call_wp text55 (by simp) (h.o55 _ _) ?_
 obtain ⟨w1,hw1⟩:∃ w1:AW,w1=⟨w.heap.put w.next (some (.cells (ruleC (M:Int) b c) 87 false)),w.next + 1,w.lim⟩:=⟨_,rfl⟩
 have u1:Up w w1:=by rw [hw1]; exact (Up.refl w).add _
 have g1:w1.heap.get w.next=some (.cells (ruleC (M:Int) b c) 87 false):=by rw [hw1]; show (w.heap.put _ _).get _=_; rw [get_put,if_pos rfl]
 have n1:w1.next=w.next + 1:=by rw [hw1]
 have hbx:boxA w 87 (.agg ⟨ruleC (M:Int) b c⟩)=.val (.pointer (some ⟨w.next,0,none⟩)) w1:=by rw [hw1]; rfl
 have hok:=hv.ok
 rcases hv with ⟨e0,e1⟩ | ⟨B,e1,hB,k1,k2,k3⟩
 ·subst e0 e1
  have hM':¬ (M:Int)≤0:=by omega
  have g1':=g1
  simp only [ruleC] at g1'
  simp [mc55]
  rw [← hw1]
  refine wp_seqX (wp_blockX (wp_rounds (fun i t w'=>i=0∧w'=w1∧tget t 1=.slice none 0 0∧tget t 2=.pointer (some ⟨w.next,0,none⟩)∧tget t 5=.slice none 0 0) 2 (by decide) ?_ ?_))
  ·simp
  ·rintro i t w' ⟨rfl,hw',t1,t2,t5⟩
   rw [hw']
   have hM2:¬ M=0:=by omega
   simp [mc55_l0,t1,t2,t5,g1',hM',hM2,tupV]
   exact ⟨[],.inl ⟨rfl,_,_,rfl⟩,by simp,(runG_stop (by simp; omega) _).symm,u1⟩
 ·have hB1:w1.heap.get B=some (.cells (L.flatMap pdC) 131 false):=(u1.at k2).trans hB
  have e2:v=leftV B 0 L.length:=by rw [e1]; unfold leftV; simp
  rw [e2] at hok ⊢
  simp [mc55]
  rw [← hw1]
  refine wp_seqX (wp_blockX (loop55 m h M hM b c hc L hLn hb w hl B k2 w1 _ _ ?_ ?_ ?_ ?_))
  ·simp
  ·simp
  ·simp
   exact ⟨u1,by omega,g1,hB1,[],0,AccQ.nil,by simp,by simp,by simp⟩
  ·intro t w' k f ⟨hu,_,_,_,acc,Bq,hacc,hsafe,hrun,_⟩ hlt
   have hok5:=hacc.ok
   rw [runG_stop (by rw [List.length_drop]; exact hlt),List.append_nil] at hrun
   simp [hok5,tupV]
   exact ⟨acc,hacc.rows,fun _ _ _ _ _ he=>⟨(hsafe _ he).1 w' (fun _ _ _=>rfl) (Nat.le_refl _),(hsafe _ he).2⟩,hrun,hu⟩
end
theorem get33 {w:AW} {v:Value} {l:List Int} (h:RowsV intC w v l) {z:Int} {n:Nat} (hz:z=(n:Int)) {y:Int} (hy:l[n]?=some y):∃ p:Addr,(∀ w',indexAddrA Tryz.prog w' 33 v (.int .i64 z)=.val (.pointer (some p)) w')∧rd1O (w.heap.get p.block) p.off=some (.int .i64 y)∧p.block < w.next:=by
 have hn:=(List.getElem?_eq_some_iff.1 hy).1
 obtain ⟨b,off,sq,c,rfl,hr⟩:=h.at_ n hn
 refine ⟨Addr.add ⟨b,off,sq⟩ (n * 1),fun w'=>by rw [hz]; exact ia33 w' ⟨b,off,sq⟩ l.length c .i64 n hn,?_,by simpa using hr.2⟩
 have:=row_int hr hy
 simpa using this
theorem get34 {w:AW} {v:Value} {l:List El} (h:RowsV elC w v l) {i:Nat} {e:El} (hy:l[i]?=some e):∃ p:Addr,(∀ w',indexAddrA Tryz.prog w' 34 v (.int .i64 (i:Int))=.val (.pointer (some p)) w')∧rd1O (w.heap.get p.block) p.off=some (elV e)∧p.block < w.next:=by
 have hn:=(List.getElem?_eq_some_iff.1 hy).1
 obtain ⟨b,off,sq,c,rfl,hr⟩:=h.at_ i hn
 refine ⟨Addr.add ⟨b,off,sq⟩ (i * 1),fun w'=>ia34 w' ⟨b,off,sq⟩ l.length c .i64 i hn,?_,by simpa using hr.2⟩
 have:=hr.rd1 elC_length hy (j:=0) (x:=elV e) rfl
 simpa using this
theorem len34V {w w':AW} {v:Value} {l:List El} (h:RowsV elC w v l):lenB Tryz.prog w' 34 v=.val (.int .i64 (l.length:Nat)) w':=by
 obtain ⟨a,c,rfl⟩:=h.len; simp
section
variable {ov:Ov}
end
section
variable {ov:Ov}
theorem run24 (ho:∀ args w,ov 24 args w=none) (h23:∀ args w,ov 23 args w=none) (m:Nat) (v:Value) (l:List Int) (hll:l.length≤200) (n:Nat) (hn:n≤1000) (h1:∀ z ∈ l,0≤z∧z < (n:Int)) (h2:l.Pairwise (· < ·)) (w:AW) (hr:RowsV intC w v l):(run Tryz.prog ov (m + 2)).call 24 [v,.int .i64 (n:Int)] w .none=.ok (.ret (.bool true)) w .none:=by
 have key:∃ x w',(run Tryz.prog ov (m + 2)).call 24 [v,.int .i64 (n:Int)] w .none=.ok (.ret x) w' .none∧x=.bool true∧w'=w:=by
  refine call_wp text24 (by simp) (ho _ _) ?_
  have hln:=fun w'=>len33V (w':=w') hr
  simp [mc24]
  refine wp_seqX (wp_blockX (wp_rounds (fun k t w'=>w'=w∧tget t 0=v∧tget t 1=.int .i64 (n:Int)∧tget t 5=.int .i64 (k:Nat)∧k≤l.length) 300 (by decide) ?_ ?_))
  ·simp
  ·rintro k t w' ⟨rfl,t0,t1,t5,hk⟩
   by_cases hlt:k < l.length
   ·obtain ⟨z,hz⟩:∃ z,l[k]?=some z:=⟨_,List.getElem?_eq_getElem hlt⟩
    obtain ⟨b1,b2⟩:=h1 z (List.mem_of_getElem? hz)
    obtain ⟨p,hia,hd,_⟩:=get33 hr rfl hz
    have wn:IntKind.wrap .i64 ((n:Int) - 1)=(n:Int) - 1:=wrap64_in (by omega) (by omega)
    have hw1:IntKind.wrap .i64 ((k:Int) + 1)=(k:Int) + 1:=wrap64_in (by omega) (by omega)
    have r:=fun w=>run23 h23 m z 0 ((n:Int) - 1) w
    have e:(decide (0≤z) && decide (z≤(n:Int) - 1))=true:=by simp; omega
    rw [e] at r
    by_cases h0:k=0
    ·subst h0
     simp only [Int.natCast_zero] at t5 hia hw1
     have hw0:IntKind.wrap .i64 1=1:=by decide
     simp [mc24_l0,t0,t1,t5,hln,hlt,hia,hd,wn,r,hw0]
     omega
    ·obtain ⟨y,hy⟩:∃ y,l[k - 1]?=some y:=⟨_,List.getElem?_eq_getElem (by omega)⟩
     have hyz:y < z:=by
      have:=(List.pairwise_iff_getElem.1 h2) (k - 1) k (by omega) hlt (by omega)
      rw [List.getElem?_eq_getElem (by omega)] at hy
      rw [List.getElem?_eq_getElem hlt] at hz
      rwa [Option.some.inj hy,Option.some.inj hz] at this
     obtain ⟨q,hiq,hq,_⟩:=get33 hr (z:=(k:Int) - 1) (n:=k - 1) (by omega) hy
     have wk:IntKind.wrap .i64 ((k:Int) - 1)=(k:Int) - 1:=wrap64_in (by omega) (by omega)
     have hpos:(0:Int) < (k:Int):=by omega
     have hpos':0 < k:=by omega
     have hge:¬ z≤y:=by omega
     simp [mc24_l0,t0,t1,t5,hln,hlt,hia,hd,wn,r,hw1,hpos,hpos',wk,hiq,hq,hge]
     omega
   ·have hk':k=l.length:=by omega
    subst hk'
    simp [mc24_l0,t0,t5,hln,tupV]
 obtain ⟨v,w',h,rfl,rfl⟩:=key
 exact h
theorem run25 (ho:∀ args w,ov 25 args w=none) (m:Nat) (v:Value) (l:List Int) (x:Int) (hll:l.length≤1000) (hm:x ∉ l) (w:AW) (hr:RowsV intC w v l):(run Tryz.prog ov (m + 1)).call 25 [v,.int .i64 x] w .none=.ok (.ret (.int .i64 (-1))) w .none:=by
 have key:∃ r w',(run Tryz.prog ov (m + 1)).call 25 [v,.int .i64 x] w .none=.ok (.ret r) w' .none∧r=.int .i64 (-1)∧w'=w:=by
  refine call_wp text25 (by simp) (ho _ _) ?_
  simp [mc25]
  refine wp_seqX (wp_blockX (wp_rounds (fun k t w'=>w'=w∧tget t 0=v∧tget t 1=.int .i64 x∧tget t 5=.int .i64 (k:Nat)∧k≤l.length) 2000 (by decide) ?_ ?_))
  ·simp
  ·rintro k t w' ⟨rfl,t0,t1,t5,hk⟩
   have hln:=fun w'=>len33V (w':=w') hr
   by_cases hlt:k < l.length
   ·obtain ⟨y,hy⟩:∃ y,l[k]?=some y:=⟨_,List.getElem?_eq_getElem hlt⟩
    obtain ⟨p,hia,hd,_⟩:=get33 hr rfl hy
    have hw1:IntKind.wrap .i64 ((k:Int) + 1)=(k:Int) + 1:=wrap64_in (by omega) (by omega)
    have he:¬ y=x:=fun e=>hm (e ▸ List.mem_of_getElem? hy)
    simp [mc25_l0,t0,t1,t5,hln,hlt,hia,hd,he,hw1]
    omega
   ·have hk':k=l.length:=by omega
    subst hk'
    simp [mc25_l0,t0,t5,hln,tupV]
 obtain ⟨v,w',h,rfl,rfl⟩:=key
 exact h
structure SortOk (M:Nat) (b c:Int) (pods:List Int) (rows:List (List Int)):Prop where
 len:∀ r ∈ rows,r.length=M
 inn:∀ r ∈ rows,∀ z ∈ r,0≤z∧z < (pods.length:Int)
 rise:∀ r ∈ rows,r.Pairwise (· < ·)
 once:rows.flatten.Nodup
 tot:rows.flatten.length≤200
 near:∀ r ∈ rows,∀ (k m:Nat) (x y:Nat) (p q:Int),m < k→r[k]?=some (x:Int)→r[m]?=some (y:Int)→pods[x]?=some p→pods[y]?=some q→max (p - q) (q - p) + 2 * c≤b
theorem not_met {rows:List (List Int)} (h:rows.flatten.Nodup) {i:Nat} {row:List Int} (hr:rows[i]?=some row) {k:Nat} {z:Int} (hz:row[k]?=some z):z ∉ (rows.take i).flatten++row.take k:=by
 obtain ⟨hi,e1⟩:=List.getElem?_eq_some_iff.1 hr
 obtain ⟨hk,e2⟩:=List.getElem?_eq_some_iff.1 hz
 have e:rows.flatten=((rows.take i).flatten++row.take k)++(z::row.drop (k + 1)++(rows.drop (i + 1)).flatten):=by
  conv=>lhs; rw [← List.take_append_drop i rows,List.drop_eq_getElem_cons hi,e1]
  rw [List.flatten_append,List.flatten_cons]
  conv=>lhs; rw [← List.take_append_drop k row,List.drop_eq_getElem_cons hk,e2]
  simp [List.append_assoc]
 rw [e] at h
 have:=(List.nodup_append.1 h).2.2
 intro hm
 exact this z hm z (by simp) rfl
theorem flat_take {rows:List (List Int)} {i:Nat} {row:List Int} (hr:rows[i]?=some row):(rows.take (i + 1)).flatten=(rows.take i).flatten++row:=by
 rw [List.take_add_one,hr,List.flatten_append]
 simp
section
variable {w0 w1:AW} {pu v2:Value} {pods:List Int} {acc:List El} {M:Nat} {b c:Int} {X:Nat}
theorem take_le {rows:List (List Int)} {i:Nat} {row:List Int} (hr:rows[i]?=some row) (k:Nat):((rows.take i).flatten++row.take k).length≤rows.flatten.length:=by
 obtain ⟨hi,e1⟩:=List.getElem?_eq_some_iff.1 hr
 have e:rows.flatten=(rows.take i).flatten++(row++(rows.drop (i + 1)).flatten):=by
  conv=>lhs; rw [← List.take_append_drop i rows,List.drop_eq_getElem_cons hi,e1]
  rw [List.flatten_append,List.flatten_cons]
 rw [e,List.length_append,List.length_append,List.length_append,List.length_take]
 omega
end
end
theorem zI_mem {l:List Int} {p:Pd} (h:p ∈ zI l l.length):p.1 < l.length∧l[p.1]?=some p.2:=by
 unfold zI at h
 obtain ⟨k,hk,rfl⟩:=List.mem_map.1 h
 have hk:=List.mem_range.1 hk
 exact ⟨hk,by rw [List.getElem?_eq_getElem hk]; rfl⟩
theorem zI_at (l:List Int) (n:Nat):((zI l n).map fun p=>(p.1:Int))=(List.range n).map fun (k:Nat)=>(k:Int):=by
 unfold zI
 rw [List.map_map]; rfl
theorem zI_snd (l:List Int):(zI l l.length).map Prod.snd=l:=by
 apply List.ext_getElem?
 intro i
 unfold zI
 rw [List.map_map,List.getElem?_map]
 by_cases h:i < l.length
 ·rw [List.getElem?_range h,List.getElem?_eq_getElem h]
  simp [h]
 ·rw [List.getElem?_eq_none (by rw [List.length_range]; omega),List.getElem?_eq_none (by omega)]; rfl
theorem head_last:∀ {l:List Int},l.Pairwise (·≤·)→∀ z ∈ l,headI l≤z∧z≤lastI l
 | [],_,z,h=>by cases h
 | a::l,hp,z,h=>by
  obtain ⟨p1,p2⟩:=List.pairwise_cons.1 hp
  have hh:headI (a::l)=a:=rfl
  cases l with
  | nil =>
   have:z=a:=by simpa using h
   subst this
   exact ⟨Int.le_refl _,Int.le_refl _⟩
  | cons b l =>
   have hl:lastI (a::b::l)=lastI (b::l):=by unfold lastI; rw [List.getLast?_cons_cons]
   have ih:=head_last p2
   rw [hh,hl]
   rcases List.mem_cons.1 h with rfl | h
   ·have h1:=p1 b (.head _)
    have h2:=(ih b (.head _)).2
    exact ⟨Int.le_refl _,Int.le_trans h1 h2⟩
   ·exact ⟨p1 z h,(ih z h).2⟩
theorem srt_snd {L:List Pd} (h:Srt (fun x y=>pdK x y < 0) L 0 L.length):(L.map Prod.snd).Pairwise (·≤·):=by
 rw [List.pairwise_map]
 refine List.pairwise_iff_getElem.2 fun i j hi hj hij=>?_
 have:=h i j _ _ (Nat.zero_le _) hij hj (List.getElem?_eq_getElem hi) (List.getElem?_eq_getElem hj)
 have this:¬ pdK L[j] L[i] < 0:=this
 rw [pdK_neg] at this
 omega
theorem rows_perm:∀ {acc:List El},(∀ e ∈ acc,IdxOk e)→((acc.map fun e=>e.2.1).flatten).Perm (((acc.map fun e=>e.2.2).flatten).map fun p=>(p.1:Int))
 | [],_=>List.Perm.refl _
 | e::acc,h=>by
  rw [List.map_cons,List.map_cons,List.flatten_cons,List.flatten_cons,List.map_append]
  exact (h e (.head _)).1.append (rows_perm fun e' he'=>h e' (.tail _ he'))
theorem sort_ok {M:Nat} {b c:Int} {pods:List Int} {L:List Pd} (hL:L.Perm (zI pods pods.length)) (hs:Srt (fun x y=>pdK x y < 0) L 0 L.length) {acc:List El} (ha:acc.map (fun e=>e.2.2)=runG M (bunB b c) (L.length + 1) L) (hi:∀ e ∈ acc,IdxOk e) (hn:pods.length≤200):SortOk M b c pods (acc.map fun e=>e.2.1):=by
 have hLn:L.length=pods.length:=by rw [hL.length_eq,zI_len]
 have hmem:∀ p ∈ L,p.1 < pods.length∧pods[p.1]?=some p.2:=fun p hp=>zI_mem (hL.mem_iff.1 hp)
 have hnd:(L.map fun p=>(p.1:Int)).Nodup:=by
  rw [(hL.map fun p=>(p.1:Int)).nodup_iff,zI_at]
  refine List.pairwise_map.2 (List.nodup_range.imp fun h e=>h ?_)
  omega
 have hb:∀ e ∈ acc,e.2.2.length=M∧bunB b c e.2.2=true∧e.2.2.Sublist L:=fun e he=>by
  refine runG_mem (L.length + 1) L e.2.2 ?_
  rw [← ha]
  exact List.mem_map.2 ⟨e,he,rfl⟩
 have hfl:(acc.map fun e=>e.2.2).flatten.Sublist L:=by rw [ha]; exact runG_flat _ _
 have hsnd:=srt_snd hs
 have hnr:∀ e ∈ acc,e.2.1.Nodup:=fun e he=>by
  rw [(hi e he).1.nodup_iff]
  exact List.Pairwise.sublist ((hb e he).2.2.map _) hnd
 have hel:∀ e ∈ acc,∀ z ∈ e.2.1,∃ p ∈ e.2.2,(p.1:Int)=z:=fun e he z hz=>by
  have:=(hi e he).1.mem_iff.1 hz
  obtain ⟨p,hp,rfl⟩:=List.mem_map.1 this
  exact ⟨p,hp,rfl⟩
 refine ⟨fun r hr=>?_,fun r hr z hz=>?_,fun r hr=>?_,?_,?_,fun r hr k m x y p q hmk hx hy hp hq=>?_⟩
 ·obtain ⟨e,he,rfl⟩:=List.mem_map.1 hr
  rw [(hi e he).1.length_eq,List.length_map,(hb e he).1]
 ·obtain ⟨e,he,rfl⟩:=List.mem_map.1 hr
  obtain ⟨p,hp,rfl⟩:=hel e he z hz
  have:=(hmem p ((hb e he).2.2.subset hp)).1
  omega
 ·obtain ⟨e,he,rfl⟩:=List.mem_map.1 hr
  refine List.pairwise_iff_getElem.2 fun i j h1 h2 hij=>?_
  have a:=(hi e he).2 i j _ _ (Nat.zero_le _) hij h2 (List.getElem?_eq_getElem h1) (List.getElem?_eq_getElem h2)
  have b:=(List.pairwise_iff_getElem.1 (hnr e he)) i j h1 h2 hij
  omega
 ·rw [(rows_perm hi).nodup_iff]
  exact List.Pairwise.sublist (hfl.map _) hnd
 ·rw [(rows_perm hi).length_eq,List.length_map]
  have:=hfl.length_le
  omega
 ·obtain ⟨e,he,rfl⟩:=List.mem_map.1 hr
  obtain ⟨p',hp',e1⟩:=hel e he _ (List.mem_of_getElem? hx)
  obtain ⟨q',hq',e2⟩:=hel e he _ (List.mem_of_getElem? hy)
  have f1:=(hmem p' ((hb e he).2.2.subset hp')).2
  have f2:=(hmem q' ((hb e he).2.2.subset hq')).2
  rw [show p'.1=x by omega,hp] at f1
  rw [show q'.1=y by omega,hq] at f2
  cases Option.some.inj f1
  cases Option.some.inj f2
  have hkl:=(List.getElem?_eq_some_iff.1 hx).1
  rw [(hi e he).1.length_eq,List.length_map] at hkl
  have hbun:=(hb e he).2.1
  unfold bunB bunI at hbun
  rw [Bool.or_eq_true,decide_eq_true_eq,decide_eq_true_eq,List.length_map] at hbun
  rcases hbun with h1 | h1
  ·omega
  ·have hpw:(e.2.2.map Prod.snd).Pairwise (·≤·):=List.Pairwise.sublist ((hb e he).2.2.map _) hsnd
   have g1:=head_last hpw _ (List.mem_map.2 ⟨p',hp',rfl⟩)
   have g2:=head_last hpw _ (List.mem_map.2 ⟨q',hq',rfl⟩)
   rw [Int.max_def]
   split <;> omega
theorem count_ok {M:Nat} {b c:Int} {pods:List Int} {L:List Pd} (hL:L.Perm (zI pods pods.length)) (hs:Srt (fun x y=>pdK x y < 0) L 0 L.length) (hb:∀ z ∈ pods,1≤z∧z≤400):(runG M (bunI b c) ((cntS pods 400).length + 1) (cntS pods 400)).length=(runG M (bunB b c) (L.length + 1) L).length:=by
 have hp:(L.map Prod.snd).Perm pods:=by
  have:=hL.map Prod.snd
  rwa [zI_snd] at this
 have e:=cntS_is hb (srt_snd hs) hp
 rw [e,List.length_map,runG_map (ok:=bunB b c) (fun l=>rfl),List.length_map]
def podE (a b c:Int) (l:List Int):Int:=if (ruleB a b c && podsOk l)=true then 0 else 81
section
variable {ov:Ov}
end
structure Has4 (ov:Ov):Prop where
 h55:Has55 ov
 o16:∀ args w,ov 16 args w=none
 o17:∀ args w,ov 17 args w=none
 o18:∀ args w,ov 18 args w=none
 o19:∀ args w,ov 19 args w=none
 o23:∀ args w,ov 23 args w=none
 o24:∀ args w,ov 24 args w=none
 o25:∀ args w,ov 25 args w=none
 o54:∀ args w,ov 54 args w=none
 o57:∀ args w,ov 57 args w=none
 o58:∀ args w,ov 58 args w=none
 h53:HasP ov 53 S53.F
 hq:HasQ ov
section
variable {ov:Ov}
theorem call16 (m:Nat) (h:Has4 ov) (a b c:Int) (u:Value) (pods:List Int) (w:AW) (hl:w.lim≤w.next) (hu:RowsV intC w u pods) :
  ∃ v w',(run Tryz.prog ov (m + 210)).call 16 [.agg ⟨ruleC a b c⟩,u] w .none=.ok (.ret v) w' .none∧∃ (v1:Value) (acc:List El),v=.tuple ⟨[v1,.int .i64 (podE a b c pods)]⟩∧RowsV elC w' v1 acc∧((ruleB a b c && podsOk pods)=true→∃ (M:Nat) (L:List Pd),a=(M:Int)∧(1≤M∧M≤100)∧L.Perm (zI pods pods.length)∧Srt (fun x y=>pdK x y < 0) L 0 L.length∧acc.map (fun e=>e.2.2)=runG M (bunB b c) (L.length + 1) L∧∀ e ∈ acc,RowsV intC w' (elV e) e.2.1∧IdxOk e)∧((ruleB a b c && podsOk pods)=false→acc=[])∧notJunk v1=some v1∧Up w w':=by
 refine call_wp text16 (by simp) (h.o16 _ _) ?_
 obtain ⟨w1,hw1⟩:∃ w1:AW,w1=⟨w.heap.put w.next (some (.cells (ruleC a b c) 32 false)),w.next + 1,w.lim⟩:=⟨_,rfl⟩
 have u1:Up w w1:=by rw [hw1]; exact (Up.refl w).add _
 have n1:w1.next=w.next + 1:=by rw [hw1]
 have l1:w1.lim=w.lim:=by rw [hw1]
 have g1:w1.heap.get w.next=some (.cells [.int .i64 a,.int .i64 b,.int .i64 c] 32 false):=by rw [hw1]; show (w.heap.put _ _).get _=_; rw [get_put,if_pos rfl]; rfl
 have hbx:boxA w 32 (.agg ⟨ruleC a b c⟩)=.val (.pointer (some ⟨w.next,0,none⟩)) w1:=by rw [hw1]; rfl
 have hu1:=hu.up u1
 have r53:=S53.call (P:=Tryz.prog) h.h53 (m:=m + 208) (w:=w1) ⟨a,b,c,rfl,rfl⟩
 have r54:=run54 h.o54 h.o58 (m + 207) u pods w1 hu1
 have huj:notJunk u=some u:=by obtain ⟨x,y,rfl⟩:=hu.len; rfl
 simp only [ruleC] at r53
 cases hr:ruleB a b c with
 | false =>
  rw [hr] at r53
  have hp:podE a b c pods=81:=by unfold podE; rw [hr]; rfl
  subst hw1
  simp [mc16,g1,r53,tupV,hp]
  exact ⟨[],.inl ⟨rfl,_,_,rfl⟩,rfl,u1⟩
 | true =>
  rw [hr] at r53
  cases hk:podsOk pods with
  | false =>
   rw [hk] at r54
   have hp:podE a b c pods=81:=by unfold podE; rw [hr,hk]; rfl
   subst hw1
   simp [mc16,g1,r53,huj,r54,tupV,hp]
   exact ⟨[],.inl ⟨rfl,_,_,rfl⟩,rfl,u1⟩
  | true =>
   rw [hk] at r54
   have hp:podE a b c pods=0:=by unfold podE; rw [hr,hk]; rfl
   obtain ⟨⟨a1,a2⟩,⟨b1,b2⟩,c1,c2⟩:=rule_all hr
   obtain ⟨p1,p2⟩:=pods_all hk
   obtain ⟨M,hM⟩:∃ M:Nat,a=(M:Int):=⟨a.toNat,by omega⟩
   obtain ⟨v2,w2,c56,L,hacc,hLp,hLs,u2⟩:=call56 (m + 1) h.h55.o56 h.h55.o79 h.h55.oD h.h55.h80 u pods p1 w1 (by omega) hu1
   have hLn:L.length=pods.length:=by rw [hLp.length_eq,zI_len]
   have hLb:∀ p ∈ L,1≤p.2∧p.2≤400:=fun p hp=>by
    have:=(zI_mem (hLp.mem_iff.1 hp)).2
    exact p2 p.2 (List.mem_of_getElem? this)
   obtain ⟨v3,w3,c55,acc,hra,hae,hrun,hok3,u3⟩:=call55 m h.h55 M (by omega) b c ⟨c1,c2⟩ v2 L (by omega) hLb _ w2 (by have:=u2.next; have:=u2.lim; omega) hacc
   have g2:w2.heap.get w.next=some (.cells [.int .i64 a,.int .i64 b,.int .i64 c] 32 false):=(u2.at (by omega)).trans g1
   rw [← hM] at c55
   simp only [ruleC] at c55
   have hok2:=hacc.ok
   subst hw1
   have hsame:sameVal 5 (.agg ⟨[.int .i64 a,.int .i64 b,.int .i64 c]⟩) (.agg ⟨[.int .i64 a,.int .i64 b,.int .i64 c]⟩)=true:=same_agg _ (by
    intro v hv
    simp at hv
    rcases hv with rfl | rfl | rfl <;> exact sameN_int 3 .i64 _)
   simp [mc16,g1,r53,huj,r54,c56,hok2,g2,c55,hok3,hsame,tupV,hp]
   exact ⟨acc,hra,⟨M,hM,⟨by omega,by omega⟩,L,hLp,hLs,hrun,fun _ _ _ _ _ he=>hae _ he⟩,(u1.trans u2).trans u3⟩
end
end Go.Proofs.YthihnhgdbfcabaaGreatDoor.walk
