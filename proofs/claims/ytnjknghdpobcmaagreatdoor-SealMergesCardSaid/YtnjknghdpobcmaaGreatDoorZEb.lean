/- Part of a proof: see the text with the theorem. -/
import Derived.Test.YtnjknghdpobcmaaGreatDoorZEa
import Derived.Test.YtnjknghdpobcmaaGreatDoorZK0
set_option linter.all false
namespace Go.Proofs.YtnjknghdpobcmaaGreatDoor.walk
open Go Go.Sh
set_option maxRecDepth 100000
theorem len22EN {w w':AW} {v:Value} {l:List Nt} (h:RowsV ntC w v l):lenB Tryz.prog w' 22 v=.val (.int .i64 (l.length:Nat)) w':=by
 obtain ⟨a,c,rfl⟩:=h.len
 simp
def S16:PSpec where
 R args w v:=∃ (u1 u2:Value) (L:List Nt),args=[u1,u2]∧RowsV ntC w u1 L∧RowsV ntC w u2 L∧L.length≤1000∧v=.bool true
 uniq:=by rintro _ _ _ _ ⟨_,_,_,_,_,_,_,rfl⟩ ⟨_,_,_,_,_,_,_,rfl⟩; rfl
 shut h:=h
theorem run16 {ov:Ov} (ho:∀ args w,ov 16 args w=none) (u1 u2:Value) (L:List Nt) (w:AW) (h1:RowsV ntC w u1 L) (h2:RowsV ntC w u2 L) (hL:L.length≤1000):∃ v w',(run Tryz.prog ov 2).call 16 [u1,u2] w .none=.ok (.ret v) w' .none∧v=.bool true:=by
 refine call_wp text16 (by simp) (ho _ _) ?_
 obtain ⟨zl,hzl⟩:∃ z:Int,z=(L.length:Int):=⟨_,rfl⟩
 have l1:∀ w':AW,lenB Tryz.prog w' 22 u1=.val (.int .i64 zl) w':=fun w'=>by rw [hzl]; exact len22EN h1
 have l2:∀ w':AW,lenB Tryz.prog w' 22 u2=.val (.int .i64 zl) w':=fun w'=>by rw [hzl]; exact len22EN h2
 simp [mc16,l1,l2]
 refine wp_seqX (wp_blockX (wp_rounds (fun r t w'=>w'=w∧r≤L.length∧tget t 0=u1∧tget t 1=u2∧tget t 5=.bool true∧tget t 6=.int .i64 (r:Nat)) 2000 (by decide) (by simp) ?_))
 rintro r t w1 ⟨hw,hr,t0,t1,t5,t6⟩
 rw [hw]
 clear hw w1
 obtain ⟨zr,hzr⟩:∃ z:Int,z=(r:Int):=⟨_,rfl⟩
 rw [← hzr] at t6
 by_cases hlt:r < L.length
 ·have hlt':zr < zl:=by omega
  obtain ⟨x,hx⟩:=at_get (L:=L) (i:=r) hlt
  obtain ⟨b1,off1,sq1,cc1,e1,hra1⟩:=h1.at_ r hlt
  obtain ⟨b2,off2,sq2,cc2,e2,hra2⟩:=h2.at_ r hlt
  have hia1:=fun w=>ia22 w ⟨b1,off1,sq1⟩ L.length cc1 .i64 r hlt
  have hia2:=fun w=>ia22 w ⟨b2,off2,sq2⟩ L.length cc2 .i64 r hlt
  rw [← hzr] at hia1 hia2
  have hw:IntKind.wrap .i64 (zr + 1)=((r + 1:Nat):Int):=by rw [w6i (by omega) (by omega)]; omega
  have hld1:=hra1.rd (m:=9) ntC_length hx
  have hld2:=hra2.rd (m:=9) ntC_length hx
  have hq:=eq_nt x x
  obtain ⟨cx,hcx⟩:∃ cx,cx=ntC x:=⟨_,rfl⟩
  rw [← hcx] at hld1 hld2 hq
  simp only [decide_true] at hq
  subst e1 e2
  simp [mc16_l0,t0,t1,t5,t6,l1,l2,hlt',hia1,hia2,hld1,hld2,hq,hw, -eqFlat_agg]
  omega
 ·have hlt':¬ zr < zl:=by omega
  simp [mc16_l0,t0,t1,t5,t6,l1,l2,hlt',tupV]
theorem len28EW {w w':AW} {v:Value} {l:List Bs} (h:RowsV sC w v l):lenB Tryz.prog w' 28 v=.val (.int .i64 (l.length:Nat)) w':=by
 obtain ⟨a,c,rfl⟩:=h.len
 simp
def S21:PSpec where
 R args w v:=∃ (u1 u2:Value) (L:List Bs),args=[u1,u2]∧RowsV sC w u1 L∧RowsV sC w u2 L∧L.length≤1000∧v=.bool true
 uniq:=by rintro _ _ _ _ ⟨_,_,_,_,_,_,_,rfl⟩ ⟨_,_,_,_,_,_,_,rfl⟩; rfl
 shut h:=h
theorem run21 {ov:Ov} (ho:∀ args w,ov 21 args w=none) (u1 u2:Value) (L:List Bs) (w:AW) (h1:RowsV sC w u1 L) (h2:RowsV sC w u2 L) (hL:L.length≤1000):∃ v w',(run Tryz.prog ov 2).call 21 [u1,u2] w .none=.ok (.ret v) w' .none∧v=.bool true:=by
 refine call_wp text21 (by simp) (ho _ _) ?_
 obtain ⟨zl,hzl⟩:∃ z:Int,z=(L.length:Int):=⟨_,rfl⟩
 have l1:∀ w':AW,lenB Tryz.prog w' 28 u1=.val (.int .i64 zl) w':=fun w'=>by rw [hzl]; exact len28EW h1
 have l2:∀ w':AW,lenB Tryz.prog w' 28 u2=.val (.int .i64 zl) w':=fun w'=>by rw [hzl]; exact len28EW h2
 simp [mc21,l1,l2]
 refine wp_seqX (wp_blockX (wp_rounds (fun r t w'=>w'=w∧r≤L.length∧tget t 0=u1∧tget t 1=u2∧tget t 5=.bool true∧tget t 6=.int .i64 (r:Nat)) 2000 (by decide) (by simp) ?_))
 rintro r t w1 ⟨hw,hr,t0,t1,t5,t6⟩
 rw [hw]
 clear hw w1
 obtain ⟨zr,hzr⟩:∃ z:Int,z=(r:Int):=⟨_,rfl⟩
 rw [← hzr] at t6
 by_cases hlt:r < L.length
 ·have hlt':zr < zl:=by omega
  obtain ⟨x,hx⟩:=at_get (L:=L) (i:=r) hlt
  obtain ⟨b1,off1,sq1,cc1,e1,hra1⟩:=h1.at_ r hlt
  obtain ⟨b2,off2,sq2,cc2,e2,hra2⟩:=h2.at_ r hlt
  have hia1:=fun w=>ia28 w ⟨b1,off1,sq1⟩ L.length cc1 .i64 r hlt
  have hia2:=fun w=>ia28 w ⟨b2,off2,sq2⟩ L.length cc2 .i64 r hlt
  rw [← hzr] at hia1 hia2
  have hw:IntKind.wrap .i64 (zr + 1)=((r + 1:Nat):Int):=by rw [w6i (by omega) (by omega)]; omega
  have hld1:=hra1.rd1 (m:=1) (j:=0) (x:=.string ⟨⟨x⟩⟩) (fun _=>rfl) hx rfl
  have hld2:=hra2.rd1 (m:=1) (j:=0) (x:=.string ⟨⟨x⟩⟩) (fun _=>rfl) hx rfl
  have hq:=eq_str x x
  simp at hld1 hld2
  subst e1 e2
  simp [mc21_l0,t0,t1,t5,t6,l1,l2,hlt',hia1,hia2,hld1,hld2,hq,hw, -eqFlat_agg]
  omega
 ·have hlt':¬ zr < zl:=by omega
  simp [mc21_l0,t0,t1,t5,t6,l1,l2,hlt',tupV]
def pairB (x y:Nt) (s:Bs):Bool:=decide (x.by_=s) && (decide (y.by_=s) && (decide (x.seq=y.seq) && !decide (x=y)))
def atB (L:List Nt) (s:Bs) (i k:Nat):Bool:=match L[i]?,L[k]? with
 | some x,some y=>pairB x y s
 | _,_=>false
def liarB (L:List Nt) (s:Bs):Bool:=(List.range L.length).any fun i=>(List.range i).any fun k=>atB L s i k
def S64:PSpec where
 R args w v:=∃ (u:Value) (L:List Nt) (s:Bs),args=[u,.string ⟨⟨s⟩⟩]∧RowsV ntC w u L∧L.length≤1000∧v=.bool (liarB L s)
 uniq:=by
  rintro _ _ _ _ ⟨u,L,s,rfl,h,_,rfl⟩ ⟨u',L',s',e,h',_,rfl⟩
  cases e
  rw [h.uniq ntC_length (fun a b=>ntC_inj) h']
 shut h:=h
set_option maxHeartbeats 1000000 in
theorem loop64i {r0:Rec} (v:Value) (L:List Nt) (s:Bs) (i:Nat) (x:Nt) (hx:L[i]?=some x) (hL:L.length≤1000) (w:AW) (hv:RowsV ntC w v L) (Q:Ex→Tm→AW→Prop) (t:Tm)
  (t0:tget t 0=v) (t1:tget t 1=.string ⟨⟨s⟩⟩) (t5:tget t 5=.int .i64 (i:Nat)) (t6:tget t 6=.int .i64 0)
  (hQ:∀ t,(List.range i).any (fun k=>atB L s i k)=false→tget t 0=v→tget t 1=.string ⟨⟨s⟩⟩→tget t 5=.int .i64 (i:Nat)→Q (.exit 2) t w)
  (hR:∀ t,(List.range i).any (fun k=>atB L s i k)=true→tget t 4=.bool true→Q .ret t w):wp (exM Tryz.prog r0 (.loop mc64_l1) t w) Q:=by
 refine wp_rounds (fun r t w'=>w'=w∧r≤i∧(List.range r).any (fun k=>atB L s i k)=false∧tget t 0=v∧tget t 1=.string ⟨⟨s⟩⟩∧tget t 5=.int .i64 (i:Nat)∧tget t 6=.int .i64 (r:Nat)) 2000 (by decide) ⟨rfl,by omega,by simp,t0,t1,t5,t6⟩ ?_
 clear t0 t1 t5 t6
 rintro r t w1 ⟨hw,hr,hno,t0,t1,t5,t6⟩
 rw [hw]
 clear hw w1
 obtain ⟨zr,hzr⟩:∃ z:Int,z=(r:Int):=⟨_,rfl⟩
 obtain ⟨zi,hzi⟩:∃ z:Int,z=(i:Int):=⟨_,rfl⟩
 have hil:=at_lt hx
 have t5':=t5
 rw [← hzi] at t5'
 rw [← hzr] at t6
 by_cases hlt:r < i
 ·have hlt':zr < zi:=by omega
  obtain ⟨y,hy⟩:=at_get (L:=L) (i:=r) (by omega)
  obtain ⟨b,off,sq,cc,e,hra⟩:=hv.at_ i hil
  have hiai:=fun w=>ia22 w ⟨b,off,sq⟩ L.length cc .i64 i hil
  have hiar:=fun w=>ia22 w ⟨b,off,sq⟩ L.length cc .i64 r (by omega)
  rw [← hzi] at hiai
  rw [← hzr] at hiar
  have hw:IntKind.wrap .i64 (zr + 1)=((r + 1:Nat):Int):=by rw [w6i (by omega) (by omega)]; omega
  have x1:=hra.rd1 (m:=9) (j:=1) (x:=.string ⟨⟨x.by_⟩⟩) ntC_length hx rfl
  have y1:=hra.rd1 (m:=9) (j:=1) (x:=.string ⟨⟨y.by_⟩⟩) ntC_length hy rfl
  have x2:=hra.rd1 (m:=9) (j:=2) (x:=.int .i64 x.seq) ntC_length hx rfl
  have y2:=hra.rd1 (m:=9) (j:=2) (x:=.int .i64 y.seq) ntC_length hy rfl
  have hldx:=hra.rd (m:=9) ntC_length hx
  have hldy:=hra.rd (m:=9) ntC_length hy
  have hq:=eq_nt x y
  obtain ⟨cx,hcx⟩:∃ cx,cx=ntC x:=⟨_,rfl⟩
  obtain ⟨cy,hcy⟩:∃ cy,cy=ntC y:=⟨_,rfl⟩
  rw [← hcx] at hldx hq
  rw [← hcy] at hldy hq
  have eat:atB L s i r=pairB x y s:=by unfold atB; rw [hx,hy]
  have step:∀ b,pairB x y s=b→(List.range (r + 1)).any (fun k=>atB L s i k)=b:=fun b hb=>by
   rw [List.range_succ,List.any_append,hno]; simp [eat,hb]
  subst e
  have fin:pairB x y s=false→r + 1≤i:=fun _=>by omega
  by_cases c1:x.by_=s
  ·by_cases c2:y.by_=s
   ·by_cases c3:x.seq=y.seq
    ·by_cases c4:x=y
     ·have hp:pairB x y s=false:=by simp [pairB,c4]
      simp only [c4,decide_true] at hq
      have hs:=step _ hp
      simp [mc64_l1,t0,t1,t5',t6,hlt',hiai,hiar,x1,y1,x2,y2,hldx,hldy,hq,eq_str,c1,c2,c3,hw, -eqFlat_agg]
      exact ⟨by omega,by omega,by simpa using hs,hzi⟩
     ·have hp:pairB x y s=true:=by simp [pairB,c1,c2,c3,c4]
      simp only [c4,decide_false] at hq
      have hs:=step _ hp
      have hall:(List.range i).any (fun k=>atB L s i k)=true:=by
       rw [List.any_eq_true] at hs ⊢
       obtain ⟨k,hk,h⟩:=hs
       exact ⟨k,by rw [List.mem_range] at hk ⊢; omega,h⟩
      simp [mc64_l1,t0,t1,t5',t6,hlt',hiai,hiar,x1,y1,x2,y2,hldx,hldy,hq,eq_str,c1,c2,c3, -eqFlat_agg]
      exact hR _ hall (by simp)
    ·have hp:pairB x y s=false:=by simp [pairB,c3]
     have hs:=step _ hp
     simp [mc64_l1,t0,t1,t5',t6,hlt',hiai,hiar,x1,y1,x2,y2,eq_str,c1,c2,c3,hw]
     exact ⟨by omega,by omega,by simpa using hs,hzi⟩
   ·have hp:pairB x y s=false:=by simp [pairB,c2]
    have hs:=step _ hp
    simp [mc64_l1,t0,t1,t5',t6,hlt',hiai,hiar,x1,y1,eq_str,c1,c2,hw]
    exact ⟨by omega,by omega,by simpa using hs,hzi⟩
  ·have hp:pairB x y s=false:=by simp [pairB,c1]
   have hs:=step _ hp
   simp [mc64_l1,t0,t1,t5',t6,hlt',hiai,x1,eq_str,c1,hw]
   exact ⟨by omega,by omega,by simpa using hs,hzi⟩
 ·have hlt':¬ zr < zi:=by omega
  have e:r=i:=by omega
  rw [e] at hno
  simp [mc64_l1,t0,t1,t5',t6,hlt']
  exact hQ _ hno (by simp [t0]) (by simp [t1]) (by simp [t5])
theorem run64 {ov:Ov} (ho:∀ args w,ov 64 args w=none) (v:Value) (L:List Nt) (s:Bs) (w:AW) (hv:RowsV ntC w v L) (hL:L.length≤1000):∃ x w',(run Tryz.prog ov 2).call 64 [v,.string ⟨⟨s⟩⟩] w .none=.ok (.ret x) w' .none∧x=.bool (liarB L s):=by
 refine call_wp text64 (by simp) (ho _ _) ?_
 obtain ⟨zl,hzl⟩:∃ z:Int,z=(L.length:Int):=⟨_,rfl⟩
 have hll:∀ w':AW,lenB Tryz.prog w' 22 v=.val (.int .i64 zl) w':=fun w'=>by rw [hzl]; exact len22V hv
 simp [mc64]
 refine wp_seqX (wp_blockX (wp_rounds (fun r t w'=>w'=w∧r≤L.length∧((List.range r).any fun i=>(List.range i).any fun k=>atB L s i k)=false∧tget t 0=v∧tget t 1=.string ⟨⟨s⟩⟩∧tget t 5=.int .i64 (r:Nat)) 2000 (by decide) (by simp) ?_))
 rintro r t w1 ⟨hw,hr,hno,t0,t1,t5⟩
 rw [hw]
 clear hw w1
 obtain ⟨zr,hzr⟩:∃ z:Int,z=(r:Int):=⟨_,rfl⟩
 have t5':=t5
 rw [← hzr] at t5'
 by_cases hlt:r < L.length
 ·have hlt':zr < zl:=by omega
  obtain ⟨x,hx⟩:=at_get (L:=L) (i:=r) hlt
  have hw:IntKind.wrap .i64 (zr + 1)=((r + 1:Nat):Int):=by rw [w6i (by omega) (by omega)]; omega
  have step:∀ b,((List.range r).any fun k=>atB L s r k)=b→((List.range (r + 1)).any fun i=>(List.range i).any fun k=>atB L s i k)=b:=fun b hb=>by
   rw [List.range_succ,List.any_append,hno,Bool.false_or]
   simpa using hb
  simp [mc64_l0,t0,t5',hll,hlt']
  refine wp_seqX (wp_blockX (wp_blockX (loop64i v L s r x hx hL w hv _ _ ?_ ?_ ?_ ?_ ?_ ?_)))
  ·simp [t0]
  ·simp [t1]
  ·simp [t5]
  ·simp
  ·intro t h t0 t1 t5
   have hs:=step _ h
   rw [← hzr] at t5
   simp [t0,t1,t5,hw]
   exact ⟨by omega,by omega,by simpa using hs⟩
  ·intro t h t4
   have hs:=step _ h
   have hall:liarB L s=true:=by
    unfold liarB
    rw [List.any_eq_true] at hs ⊢
    obtain ⟨i,hi,h⟩:=hs
    exact ⟨i,by rw [List.mem_range] at hi ⊢; omega,h⟩
   simp [t4,tupV,hall]
 ·have hlt':¬ zr < zl:=by omega
  have e:r=L.length:=by omega
  rw [e] at hno
  have hall:liarB L s=false:=hno
  simp [mc64_l0,t0,t5',hll,hlt',tupV,hall]
theorem cmpN_le {a b:Nt} (h:cmpN a b≤0):cmpB a.by_ b.by_≤0∧(cmpB a.by_ b.by_=0→cmpI a.seq b.seq≤0):=by
 unfold cmpN at h
 rw [lexC] at h
 by_cases e:cmpB a.by_ b.by_=0
 ·rw [if_neg (by simpa using e)] at h
  rw [lexC] at h
  refine ⟨by omega,fun _=>?_⟩
  by_cases e2:cmpI a.seq b.seq=0
  ·omega
  ·rw [if_pos e2] at h; exact h
 ·rw [if_pos e] at h
  exact ⟨h,fun k=>absurd k e⟩
theorem between {a m b:Nt} (h1:cmpN a m≤0) (h2:cmpN m b≤0) (hb:a.by_=b.by_) (hs:a.seq=b.seq):a.by_=m.by_∧a.seq=m.seq:=by
 obtain ⟨p1,p2⟩:=cmpN_le h1
 obtain ⟨q1,q2⟩:=cmpN_le h2
 have n1:=cmpB_cmp.neg m.by_ b.by_
 rw [← hb] at q1 q2 n1
 have e1:cmpB a.by_ m.by_=0:=by omega
 have eb:=cmpB_eq0.1 e1
 have e2:cmpB m.by_ a.by_=0:=by omega
 have p:=p2 e1
 have q:=q2 e2
 have n2:=cmpI_cmp.neg m.seq b.seq
 rw [← hs] at q n2
 exact ⟨eb,cmpI_eq.1 (by omega)⟩
theorem liN_mem {D:List Nt} {s:Bs}:∀ n,s ∈ liN D n ↔ ∃ r,r + 1 < n∧∃ y x,D[r]?=some y∧D[r + 1]?=some x∧likeB y x=true∧x.by_=s
 | 0=>by simp [liN]
 | 1=>by simp [liN]
 | n + 2=>by
  have ih:=liN_mem (D:=D) (s:=s) (n + 1)
  have old:(∃ r,r + 1 < n + 1∧∃ y x,D[r]?=some y∧D[r + 1]?=some x∧likeB y x=true∧x.by_=s)→∃ r,r + 1 < n + 2∧∃ y x,D[r]?=some y∧D[r + 1]?=some x∧likeB y x=true∧x.by_=s:=fun ⟨r,hr,h⟩=>⟨r,by omega,h⟩
  unfold liN
  split
  ·rename_i y x hy hx
   split
   ·rename_i hlike
    rw [List.mem_append,ih,List.mem_singleton]
    constructor
    ·rintro (h | h)
     ·exact old h
     ·exact ⟨n,by omega,y,x,hy,hx,hlike,h.symm⟩
    ·rintro ⟨r,hr,y',x',h1,h2,h3,h4⟩
     by_cases e:r=n
     ·subst e
      rw [hx] at h2
      cases h2
      exact .inr h4.symm
     ·exact .inl ⟨r,by omega,y',x',h1,h2,h3,h4⟩
   ·rename_i hlike
    rw [ih]
    refine ⟨old,?_⟩
    rintro ⟨r,hr,y',x',h1,h2,h3,h4⟩
    by_cases e:r=n
    ·subst e
     rw [hy] at h1
     rw [hx] at h2
     cases h1; cases h2
     exact absurd h3 hlike
    ·exact ⟨r,by omega,y',x',h1,h2,h3,h4⟩
  ·rename_i hno
   rw [ih]
   refine ⟨old,?_⟩
   rintro ⟨r,hr,y',x',h1,h2,h3,h4⟩
   by_cases e:r=n
   ·subst e
    exact absurd h2 (hno _ _ h1)
   ·exact ⟨r,by omega,y',x',h1,h2,h3,h4⟩
theorem liarB_iff {L:List Nt} {s:Bs}:liarB L s=true ↔ ∃ x y,x ∈ L∧y ∈ L∧x.by_=s∧y.by_=s∧x.seq=y.seq∧x ≠ y:=by
 unfold liarB
 rw [List.any_eq_true]
 constructor
 ·rintro ⟨i,hi,h⟩
  rw [List.any_eq_true] at h
  obtain ⟨k,hk,h⟩:=h
  unfold atB at h
  split at h
  ·rename_i x y hx hy
   simp only [pairB,Bool.and_eq_true,decide_eq_true_eq,Bool.not_eq_true',decide_eq_false_iff_not] at h
   exact ⟨x,y,List.mem_of_getElem? hx,List.mem_of_getElem? hy,h.1,h.2.1,h.2.2.1,h.2.2.2⟩
  ·cases h
 ·rintro ⟨x,y,hx,hy,h1,h2,h3,h4⟩
  obtain ⟨i,hi⟩:=List.mem_iff_getElem?.1 hx
  obtain ⟨k,hk⟩:=List.mem_iff_getElem?.1 hy
  have li:=at_lt hi
  have lk:=at_lt hk
  rcases Nat.lt_trichotomy k i with h | h | h
  ·refine ⟨i,List.mem_range.2 li,List.any_eq_true.2 ⟨k,List.mem_range.2 h,?_⟩⟩
   unfold atB; rw [hi,hk]; simp [pairB,h1,h2,h3,h4]
  ·subst h
   rw [hi] at hk
   cases hk
   exact absurd rfl h4
  ·refine ⟨k,List.mem_range.2 lk,List.any_eq_true.2 ⟨i,List.mem_range.2 h,?_⟩⟩
   unfold atB; rw [hi,hk]; simp [pairB,h1,h2,h3,Ne.symm h4]
theorem liars_iff {L:List Nt} {s:Bs}:s ∈ liN (ordU cmpN L) (ordU cmpN L).length ↔ liarB L s=true:=by
 have hss:=ordU_ss totN L
 have hmem:=ordU_mem totN L
 unfold SS at hss
 rw [liN_mem,liarB_iff]
 constructor
 ·rintro ⟨r,hr,y,x,hy,hx,hl,hs⟩
  simp only [likeB,Bool.and_eq_true,decide_eq_true_eq] at hl
  have hlt:cmpN y x < 0:=by
   have:=List.pairwise_iff_getElem.1 hss r (r + 1) (by omega) (by omega) (by omega)
   rw [List.getElem?_eq_getElem (by omega)] at hy hx
   injection hy with hy
   injection hx with hx
   rw [← hy,← hx]
   exact this
  refine ⟨y,x,(hmem y).1 (List.mem_of_getElem? hy),(hmem x).1 (List.mem_of_getElem? hx),by rw [hl.1]; exact hs,hs,hl.2,fun e=>?_⟩
  subst e
  exact totN.irr _ hlt
 ·rintro ⟨x,y,hx,hy,h1,h2,h3,h4⟩
  obtain ⟨i,hi⟩:=List.mem_iff_getElem?.1 ((hmem x).2 hx)
  obtain ⟨k,hk⟩:=List.mem_iff_getElem?.1 ((hmem y).2 hy)
  have li:=at_lt hi
  have lk:=at_lt hk
  have main:∀ (p q:Nat) (a b:Nt),p < q→(ordU cmpN L)[p]?=some a→(ordU cmpN L)[q]?=some b→a.by_=s→b.by_=s→a.seq=b.seq→∃ r,r + 1 < (ordU cmpN L).length∧∃ y x,(ordU cmpN L)[r]?=some y∧(ordU cmpN L)[r + 1]?=some x∧likeB y x=true∧x.by_=s:=by
   intro p q a b hpq ha hb hab hbb hse
   have lq:=at_lt hb
   obtain ⟨m,hm⟩:=at_get (L:=ordU cmpN L) (i:=p + 1) (by omega)
   have c1:cmpN a m < 0:=by
    have:=List.pairwise_iff_getElem.1 hss p (p + 1) (by omega) (by omega) (by omega)
    rw [List.getElem?_eq_getElem (by omega)] at ha hm
    injection ha with ha
    injection hm with hm
    rw [← ha,← hm]
    exact this
   have c2:cmpN m b≤0:=by
    by_cases e:p + 1=q
    ·subst e
     rw [hm] at hb
     injection hb with hb
     rw [← hb]
     have:=cmpN_eq0.2 (rfl:m=m)
     omega
    ·have:=List.pairwise_iff_getElem.1 hss (p + 1) q (by omega) (by omega) (by omega)
     rw [List.getElem?_eq_getElem (by omega)] at hb hm
     injection hb with hb
     injection hm with hm
     rw [← hb,← hm]
     omega
   obtain ⟨e1,e2⟩:=between (by omega) c2 (by rw [hab,hbb]) hse
   exact ⟨p,by omega,a,m,ha,hm,by simp [likeB,e1,e2],by rw [← e1]; exact hab⟩
  rcases Nat.lt_trichotomy i k with h | h | h
  ·exact main i k x y h hi hk h1 h2 h3
  ·subst h
   rw [hi] at hk
   cases hk
   exact absurd rfl h4
  ·exact main k i y x h hk hi h2 h1 h3.symm
def rlT (L:List Nt) (r:Nat):List Bs:=(L.take r).foldl (fun out n=>if liarB L n.by_ then insU cmpB n.by_ out else out) []
theorem rl_fold (L:List Nt):∀ (M:List Nt) (out:List Bs),SS cmpB out→SS cmpB (M.foldl (fun out n=>if liarB L n.by_ then insU cmpB n.by_ out else out) out)∧∀ s,s ∈ M.foldl (fun out n=>if liarB L n.by_ then insU cmpB n.by_ out else out) out ↔ (liarB L s=true∧∃ n ∈ M,n.by_=s)∨s ∈ out
 | [],out,h=>⟨h,fun s=>by simp⟩
 | n::M,out,h=>by
  rw [List.foldl_cons]
  by_cases hc:liarB L n.by_=true
  ·rw [if_pos hc]
   obtain ⟨a,b⟩:=rl_fold L M (insU cmpB n.by_ out) (insU_ss totB h)
   refine ⟨a,fun s=>?_⟩
   rw [b,insU_mem]
   constructor
   ·rintro (⟨h1,m,hm,e⟩ | h1 | h1)
    ·exact .inl ⟨h1,m,List.mem_cons_of_mem _ hm,e⟩
    ·subst h1; exact .inl ⟨hc,n,by simp,rfl⟩
    ·exact .inr h1
   ·rintro (⟨h1,m,hm,e⟩ | h1)
    ·rcases List.mem_cons.1 hm with e2 | e2
     ·subst e2; exact .inr (.inl e.symm)
     ·exact .inl ⟨h1,m,e2,e⟩
    ·exact .inr (.inr h1)
  ·rw [if_neg hc]
   obtain ⟨a,b⟩:=rl_fold L M out h
   refine ⟨a,fun s=>?_⟩
   rw [b]
   constructor
   ·rintro (⟨h1,m,hm,e⟩ | h1)
    ·exact .inl ⟨h1,m,List.mem_cons_of_mem _ hm,e⟩
    ·exact .inr h1
   ·rintro (⟨h1,m,hm,e⟩ | h1)
    ·rcases List.mem_cons.1 hm with e2 | e2
     ·subst e2; rw [e] at hc; exact absurd h1 hc
     ·exact .inl ⟨h1,m,e2,e⟩
    ·exact .inr h1
theorem liars_eq (L:List Nt):rlT L L.length=ordU cmpB (liN (ordU cmpN L) (ordU cmpN L).length):=by
 unfold rlT
 rw [List.take_length]
 obtain ⟨a,b⟩:=rl_fold L L [] List.Pairwise.nil
 refine SS.uniq totB a (ordU_ss totB _) fun s=>?_
 rw [b,ordU_mem totB,liars_iff]
 constructor
 ·rintro (⟨h,_⟩ | h)
  ·exact h
  ·simp at h
 ·intro h
  obtain ⟨x,y,hx,_,e,_⟩:=liarB_iff.1 h
  exact .inl ⟨h,x,hx,e⟩
theorem appW:AppT Tryz.prog 28 9 1 sC:=⟨by kernel_rfl,by kernel_rfl,by kernel_rfl,by kernel_rfl,(fun _=>rfl),(fun _=>by simp [sC]),by decide⟩
theorem head_nilW (w:AW):sliceA Tryz.prog w 28 (.slice none 0 0) none (some (.int .i64 0)) none=.val (.slice none 0 0) w:=by kernel_rfl
theorem tail_nilW (w:AW):sliceA Tryz.prog w 28 (.slice none 0 0) (some (.int .i64 0)) none none=.val (.slice none 0 0) w:=by kernel_rfl
def OutS (n0:Nat) (w:AW) (v:Value) (l:List Bs) (B:Nat):Prop:=AccL sC 9 n0 w v l B∧(l=[]→v=.slice none 0 0)
theorem OutS.head {n0:Nat} {w:AW} {v:Value} {l:List Bs} {B:Nat} (h:OutS n0 w v l B) {k:Nat} (hk:k≤l.length):∃ u,(∀ w':AW,(l ≠ []→w'.heap.get B=w.heap.get B)→sliceA Tryz.prog w' 28 v none (some (.int .i64 (k:Int))) none=.val u w')∧RowsV sC w u (l.take k)∧sameVal 5 u u=true:=by
 by_cases hl:l=[]
 ·subst hl
  have:=h.2 rfl
  subst this
  have:k=0:=by simpa using hk
  subst this
  exact ⟨_,fun w' _=>head_nilW w',.inl ⟨rfl,none,0,rfl⟩,sameN_slice 4 _ _ _⟩
 ·rcases h.1 with ⟨e,_⟩ | ⟨e,_⟩ | ⟨h1,rfl,h3,h4,h5⟩
  ·exact absurd e hl
  ·exact absurd e hl
  ·refine ⟨.slice (some ⟨B,0,none⟩) k l.length,fun w' hw=>?_,.inr ⟨B,0,none,l.length,by rw [List.length_take,Nat.min_eq_left hk],⟨[],(l.drop k).flatMap sC,9,false,?_,rfl⟩,h5⟩,sameN_slice 4 _ _ _⟩
   ·have:=slice_head (P:=Tryz.prog) (st:=28) (e:=9) (sz:=1) (by kernel_rfl) (by kernel_rfl) (w:=w') (a:=⟨B,0,none⟩) (n:=l.length) (c:=l.length) (k:=k) (by rw [hw hl]; exact h3) hk
    simpa using this
   ·rw [h3,List.nil_append,← List.flatMap_append,List.take_append_drop]
theorem OutS.tail {n0:Nat} {w:AW} {v:Value} {l:List Bs} {B:Nat} (h:OutS n0 w v l B) {k:Nat} (hk:k≤l.length):∃ u,(∀ w':AW,(l ≠ []→w'.heap.get B=w.heap.get B)→sliceA Tryz.prog w' 28 v (some (.int .i64 (k:Int))) none none=.val u w')∧RowsV sC w u (l.drop k)∧sameVal 5 u u=true:=by
 by_cases hl:l=[]
 ·subst hl
  have:=h.2 rfl
  subst this
  have:k=0:=by simpa using hk
  subst this
  exact ⟨_,fun w' _=>tail_nilW w',.inl ⟨rfl,none,0,rfl⟩,sameN_slice 4 _ _ _⟩
 ·rcases h.1 with ⟨e,_⟩ | ⟨e,_⟩ | ⟨h1,rfl,h3,h4,h5⟩
  ·exact absurd e hl
  ·exact absurd e hl
  ·refine ⟨.slice (some ⟨B,k * 1,none⟩) (l.length - k) (l.length - k),fun w' hw=>?_,.inr ⟨B,k * 1,none,l.length - k,by rw [List.length_drop],⟨(l.take k).flatMap sC,[],9,false,?_,?_⟩,h5⟩,sameN_slice 4 _ _ _⟩
   ·have:=slice_tail (P:=Tryz.prog) (st:=28) (e:=9) (sz:=1) (by kernel_rfl) (by kernel_rfl) (w:=w') (a:=⟨B,0,none⟩) (n:=l.length) (c:=l.length) (lo:=k) (by rw [hw hl]; exact h3) hk
    simpa using this
   ·rw [h3,List.append_nil,← List.flatMap_append,List.take_append_drop]
   ·rw [flat_length (f:=sC) (m:=1) (fun _=>rfl),List.length_take,Nat.min_eq_left hk]
theorem threeW {n0:Nat} {w:AW} {vo u1 u2:Value} {out:List Bs} {B k:Nat} {x:Bs} (hl:w.lim≤n0) (hn:n0≤w.next) (ho:OutS n0 w vo out B) (hk:k≤out.length) (hlen:out.length≤900) (hu1:RowsV sC w u1 (out.take k)) (hu2:RowsV sC w u2 (out.drop k)) :
  ∃ v1 wC v2 wD v3 wE B3,append1 Tryz.prog ⟨(w.heap.put w.next (some (.cells [] 9 false))).put (w.next + 1) (some (.cells (sC x) 9 false)),w.next + 1 + 1,w.lim⟩ [28,28] [.slice (some ⟨w.next,0,some 2⟩) 0 0,u1]=.val v1 wC ∧
   append1 Tryz.prog wC [28,28] [v1,.slice (some ⟨w.next + 1,0,some 2⟩) 1 1]=.val v2 wD∧append1 Tryz.prog wD [28,28] [v2,u2]=.val v3 wE∧OutS n0 wE v3 (out.take k++x::out.drop k) B3 ∧
   (∀ b,b < w.next→wC.heap.get b=w.heap.get b)∧(∀ b,b < w.next→wD.heap.get b=w.heap.get b)∧(∀ b,b < w.next→wE.heap.get b=w.heap.get b)∧w.next≤wE.next∧wE.lim=w.lim:=by
 obtain ⟨wB,hwB⟩:∃ wB:AW,wB=⟨(w.heap.put w.next (some (.cells [] 9 false))).put (w.next + 1) (some (.cells (sC x) 9 false)),w.next + 1 + 1,w.lim⟩:=⟨_,rfl⟩
 rw [← hwB]
 have nB:wB.next=w.next + 1 + 1:=by rw [hwB]
 have lB:wB.lim=w.lim:=by rw [hwB]
 have oB:∀ b,b < w.next→wB.heap.get b=w.heap.get b:=fun b hb=>by
  rw [hwB]
  show ((w.heap.put w.next _).put (w.next + 1) _).get b=_
  rw [get_put,if_neg (by omega),get_put,if_neg (by omega)]
 have gB:wB.heap.get (w.next + 1)=some (.cells (sC x) 9 false):=by rw [hwB]; simp
 have lt:(out.take k).length=k:=by rw [List.length_take]; omega
 have ld:(out.drop k).length=out.length - k:=by rw [List.length_drop]
 obtain ⟨v1,wC,B1,a1,h1,k1,n1,l1,b1⟩:=AccL.app appW (n0:=n0) (w:=wB) (v:=.slice (some ⟨w.next,0,some 2⟩) 0 0) (l:=[]) (B:=0) (.inr (.inl ⟨rfl,_,rfl⟩)) (hu1.old (fun b hb=>oB b hb) (by omega)) (by omega) (by omega) (by simp; omega)
 have oC:∀ b,b < wB.next→wC.heap.get b=wB.heap.get b:=fun b hb=>k1 b hb (fun h=>absurd rfl h)
 rw [List.nil_append] at h1 b1
 obtain ⟨v2,wD,B2,a2,h2,k2,n2,l2,b2⟩:=AccL.app appW (n0:=n0) (w:=wC) (m:=[x]) (x:=.slice (some ⟨w.next + 1,0,some 2⟩) 1 1) h1 (.inr ⟨w.next + 1,0,some 2,1,rfl,⟨[],[],9,false,by rw [oC _ (by omega),gB]; simp,rfl⟩,by omega⟩) (by omega) (by omega) (by simp; omega)
 have oD:∀ b,b < w.next→wD.heap.get b=w.heap.get b:=fun b hb=>by
  rw [k2 b (by omega) (fun hne=>by rcases b1 hne with h | h; exact absurd rfl h.1; omega),oC b (by omega),oB b hb]
 obtain ⟨v3,wE,B3,a3,h3,k3,n3,l3,b3⟩:=AccL.app appW (n0:=n0) (w:=wD) (m:=out.drop k) (x:=u2) h2 (hu2.old (fun b hb=>oD b hb) (by omega)) (by omega) (by omega) (by simp; omega)
 refine ⟨v1,wC,v2,wD,v3,wE,B3,a1,a2,a3,⟨by simpa using h3,fun e=>by simp at e⟩,fun b hb=>by rw [oC b (by omega),oB b hb],oD,fun b hb=>?_,by omega,by omega⟩
 rw [k3 b (by omega) (fun hne=>?_),oD b hb]
 rcases b2 hne with h | h
 ·rcases b1 h.1 with h' | h'
  ·exact absurd rfl h'.1
  ·omega
 ·omega
theorem loop65 {r0:Rec} (v:Value) (l:List Bs) (s:Bs) (w:AW) (hv:RowsV sC w v l) (hL:l.length≤1000) (Q:Ex→Tm→AW→Prop) (t:Tm)
  (t0:tget t 0=v) (t1:tget t 1=.string ⟨⟨s⟩⟩) (t5:tget t 5=.int .i64 0)
  (hQ:∀ t k,k≤l.length→(∀ j,j < k→∃ y,l[j]?=some y∧cmpB y s < 0)→(∀ y,l[k]?=some y→¬ cmpB y s < 0)→tget t 0=v→tget t 1=.string ⟨⟨s⟩⟩→tget t 5=.int .i64 (k:Nat)→Q (.exit 0) t w) :
  wp (exM Tryz.prog r0 (.loop mc65_l0) t w) Q:=by
 refine wp_rounds (fun r t w'=>w'=w∧r≤l.length∧(∀ j,j < r→∃ y,l[j]?=some y∧cmpB y s < 0)∧tget t 0=v∧tget t 1=.string ⟨⟨s⟩⟩∧tget t 5=.int .i64 (r:Nat)) 2000 (by decide) ⟨rfl,by omega,fun j hj=>absurd hj (by omega),t0,t1,t5⟩ ?_
 clear t0 t1 t5
 rintro r t w1 ⟨hw,hr,hlt,t0,t1,t5⟩
 rw [hw]
 clear hw w1
 obtain ⟨zr,hzr⟩:∃ z:Int,z=(r:Int):=⟨_,rfl⟩
 obtain ⟨zl,hzl⟩:∃ z:Int,z=(l.length:Int):=⟨_,rfl⟩
 have hll:∀ w':AW,lenB Tryz.prog w' 28 v=.val (.int .i64 zl) w':=fun w'=>by rw [hzl]; exact len28EW hv
 have t5':=t5
 rw [← hzr] at t5'
 have hw:IntKind.wrap .i64 (zr + 1)=((r + 1:Nat):Int):=by rw [w6i (by omega) (by omega)]; omega
 by_cases hro:r < l.length
 ·have hro':zr < zl:=by omega
  obtain ⟨y,hy⟩:=at_get (L:=l) (i:=r) hro
  obtain ⟨b1,off1,sq1,cc1,e1,hra1⟩:=hv.at_ r hro
  have hld1:=hra1.rd1 (m:=1) (j:=0) (x:=.string ⟨⟨y⟩⟩) (fun _=>rfl) hy rfl
  have hia1:=fun w=>ia28 w ⟨b1,off1,sq1⟩ l.length cc1 .i64 r hro
  rw [← hzr] at hia1
  simp at hld1
  subst e1
  by_cases hc:cmpB y s < 0
  ·simp [mc65_l0,t0,t1,t5',hll,hro',hia1,hld1,hc,hw]
   refine ⟨by omega,by omega,fun j hj=>?_⟩
   by_cases hj':j < r
   ·exact hlt j hj'
   ·have:j=r:=by omega
    subst this
    exact ⟨y,hy,hc⟩
  ·simp [mc65_l0,t0,t1,t5',hll,hro',hia1,hld1,hc]
   exact hQ _ r (by omega) hlt (fun z hz=>by rw [hy] at hz; cases hz; exact hc) (by simp [t0]) (by simp [t1]) (by simp [t5])
 ·have hro':¬ zr < zl:=by omega
  simp [mc65_l0,t0,t1,t5',hll,hro']
  exact hQ _ r hr hlt (fun z hz=>by have:=at_lt hz; omega) (by simp [t0]) (by simp [t1]) (by simp [t5])
set_option maxHeartbeats 1000000 in
theorem call65 {ov:Ov} (m:Nat) (ho:∀ args w,ov 65 args w=none) (v:Value) (l:List Bs) (s:Bs) (n0 B:Nat) (w:AW) (hl:w.lim≤n0) (hn:n0≤w.next) (hv:OutS n0 w v l B) (hlen:l.length≤900) :
  ∃ x w',(run Tryz.prog ov (m + 1)).call 65 [v,.string ⟨⟨s⟩⟩] w .none=.ok (.ret x) w' .none∧(∃ B',OutS n0 w' x (insU cmpB s l) B')∧(∀ b,b < w.next→w'.heap.get b=w.heap.get b)∧w.next≤w'.next∧w'.lim=w.lim:=by
 refine call_wp text65 (by simp) (ho _ _) ?_
 have hrv:=hv.1.rows
 simp [mc65]
 refine wp_seqX (wp_blockX (loop65 v l s w hrv (by omega) _ _ ?_ ?_ ?_ ?_))
 ·simp
 ·simp
 ·simp
 intro t k hk hlt1 hnot t0 t1 t5
 have hins:=insU_at hlt1 hnot hk
 obtain ⟨zk,hzk⟩:∃ z:Int,z=(k:Int):=⟨_,rfl⟩
 obtain ⟨zl,hzl⟩:∃ z:Int,z=(l.length:Int):=⟨_,rfl⟩
 have hll:∀ w':AW,lenB Tryz.prog w' 28 v=.val (.int .i64 zl) w':=fun w'=>by rw [hzl]; exact len28EW hrv
 rw [← hzk] at t5
 obtain ⟨u1,s1,hr1,sm1⟩:=hv.head hk
 obtain ⟨u2,s2,hr2,sm2⟩:=hv.tail hk
 rw [← hzk] at s1 s2
 obtain ⟨v1,wC,v2,wD,v3,wE,B3,a1,a2,a3,hout,oC,oD,oE,nE,lE⟩:=threeW (x:=s) hl hn hv hk hlen hr1 hr2
 have hB:l ≠ []→B < w.next:=fun hne=>by
  rcases hv.1 with ⟨e,_⟩ | ⟨e,_⟩ | ⟨_,_,_,_,h5⟩
  ·exact absurd e hne
  ·exact absurd e hne
  ·exact h5
 have hBn1:l ≠ []→B ≠ w.next:=fun hne=>by have:=hB hne; omega
 have hBn2:l ≠ []→B ≠ w.next + 1:=fun hne=>by have:=hB hne; omega
 have sC2:=s2 wC (fun hne=>oC B (hB hne))
 have sD2:=s2 wD (fun hne=>oD B (hB hne))
 have hA1:=s1 ⟨w.heap.put w.next (some (.cells [] 9 false)),w.next + 1,w.lim⟩ (fun hne=>by
  have:=hBn1 hne
  show (w.heap.put w.next _).get B=_
  rw [get_put,if_neg this])
 have wB1:=s1 ⟨(w.heap.put w.next (some (.cells [] 9 false))).put (w.next + 1) (some (.cells (sC s) 9 false)),w.next + 1 + 1,w.lim⟩ (fun hne=>by
  have:=hBn1 hne
  have:=hBn2 hne
  show ((w.heap.put w.next _).put (w.next + 1) _).get B=_
  rw [get_put,if_neg (by assumption),get_put,if_neg (by assumption)])
 have wB2:=s2 ⟨(w.heap.put w.next (some (.cells [] 9 false))).put (w.next + 1) (some (.cells (sC s) 9 false)),w.next + 1 + 1,w.lim⟩ (fun hne=>by
  have:=hBn1 hne
  have:=hBn2 hne
  show ((w.heap.put w.next _).put (w.next + 1) _).get B=_
  rw [get_put,if_neg (by assumption),get_put,if_neg (by assumption)])
 have nj3:=hout.1.ok
 have njv:=hv.1.ok
 by_cases hko:k < l.length
 ·have hko':zk < zl:=by omega
  obtain ⟨y,hy⟩:=at_get (L:=l) (i:=k) hko
  obtain ⟨b1,off1,sq1,cc1,e1,hra1⟩:=hrv.at_ k hko
  have hld1:=hra1.rd1 (m:=1) (j:=0) (x:=.string ⟨⟨y⟩⟩) (fun _=>rfl) hy rfl
  have hia1:=fun w=>ia28 w ⟨b1,off1,sq1⟩ l.length cc1 .i64 k hko
  rw [← hzk] at hia1
  simp at hld1
  by_cases hys:y=s
  ·rw [if_pos (by rw [hy,hys])] at hins
   rw [← hins] at hv
   rw [e1] at t0 njv hll
   simp [t0,t1,t5,hll,hko',hia1,hld1,eq_str,hys,tupV,njv]
   exact ⟨B,by rw [← e1]; exact hv⟩
  ·rw [if_neg (by rw [hy]; exact fun h=>hys (Option.some.inj h))] at hins
   rw [← hins] at hout
   simp only [sC] at a1 wB1 wB2
   rw [e1] at t0 hll sC2 sD2 wB1 wB2 hA1
   simp [t0,t1,t5,hll,hko',hia1,hld1,eq_str,hys,hA1,wB1,wB2,sC2,sD2,sm1,sm2,a1,a2,a3,nj3,tupV]
   exact ⟨⟨B3,hout⟩,oE,nE,lE⟩
 ·have hko':¬ zk < zl:=by omega
  rw [if_neg (by rw [List.getElem?_eq_none (by omega)]; exact fun h=>by cases h)] at hins
  rw [← hins] at hout
  simp only [sC] at a1 wB1 wB2
  simp [t0,t1,t5,hll,hko',hA1,wB1,wB2,sC2,sD2,sm1,sm2,a1,a2,a3,nj3,tupV]
  exact ⟨⟨B3,hout⟩,oE,nE,lE⟩
theorem rlT_step {L:List Nt} {r:Nat} {x:Nt} (hx:L[r]?=some x):rlT L (r + 1)=if liarB L x.by_ then insU cmpB x.by_ (rlT L r) else rlT L r:=by
 unfold rlT
 rw [List.take_add_one,hx,List.foldl_append]
 rfl
theorem insU_le {α:Type} [DecidableEq α] (c:α→α→Int) (x:α) (l:List α):(insU c x l).length≤l.length + 1:=by
 induction l with
 | nil=>simp [insU]
 | cons y l ih=>unfold insU; split <;> (try split) <;> simp <;> omega
theorem rlT_len (L:List Nt):∀ r,(rlT L r).length≤r
 | 0=>by simp [rlT]
 | r + 1=>by
  have ih:=rlT_len L r
  by_cases h:r < L.length
  ·obtain ⟨x,hx⟩:=at_get (L:=L) (i:=r) h
   rw [rlT_step hx]
   have:=insU_le cmpB x.by_ (rlT L r)
   split <;> omega
  ·have e:rlT L (r + 1)=rlT L r:=by unfold rlT; rw [List.take_of_length_le (by omega),List.take_of_length_le (by omega)]
   rw [e]; omega
set_option maxHeartbeats 1000000 in
theorem loop20 {ov:Ov} (m:Nat) (ho65:∀ args w,ov 65 args w=none) (h64:HasP ov 64 S64.F) (v:Value) (L:List Nt) (w0 w:AW) (hl:w0.lim≤w0.next) (hv:RowsV ntC w0 v L) (hL:L.length≤200) (hu:Up w0 w) (Q:Ex→Tm→AW→Prop) (t:Tm)
  (t0:tget t 0=v) (t5:tget t 5=.slice none 0 0) (t6:tget t 6=.int .i64 0)
  (hQ:∀ t w' B,Up w0 w'→OutS w0.next w' (tget t 5) (rlT L L.length) B→Q (.exit 0) t w'):wp (exM Tryz.prog (run Tryz.prog ov (m + 1)) (.loop mc20_l0) t w) Q:=by
 refine wp_rounds (fun r t w=>r≤L.length∧Up w0 w∧(∃ B,OutS w0.next w (tget t 5) (rlT L r) B)∧tget t 0=v∧tget t 6=.int .i64 (r:Nat)) 300 (by decide) ⟨by omega,hu,⟨0,.inl ⟨rfl,t5⟩,fun _=>t5⟩,t0,t6⟩ ?_
 clear t0 t5 t6 hu
 rintro r t w ⟨hr,hu,⟨B,ho⟩,t0,t6⟩
 have n1:=hu.next
 have m1:=hu.lim
 obtain ⟨vo,hvo⟩:∃ v,v=tget t 5:=⟨_,rfl⟩
 rw [← hvo] at ho
 have t5:=hvo.symm
 have hvw:=hv.up hu
 obtain ⟨zr,hzr⟩:∃ z:Int,z=(r:Int):=⟨_,rfl⟩
 obtain ⟨zl,hzl⟩:∃ z:Int,z=(L.length:Int):=⟨_,rfl⟩
 have hll:∀ w':AW,lenB Tryz.prog w' 22 v=.val (.int .i64 zl) w':=fun w'=>by rw [hzl]; exact len22V hv
 have t6':=t6
 rw [← hzr] at t6'
 have holen:=rlT_len L r
 by_cases hlt:r < L.length
 ·have hlt':zr < zl:=by omega
  obtain ⟨x,hx⟩:=at_get (L:=L) (i:=r) hlt
  have hstep:=rlT_step hx
  have hw:IntKind.wrap .i64 (zr + 1)=((r + 1:Nat):Int):=by rw [w6i (by omega) (by omega)]; omega
  obtain ⟨b,off,sq,cc,e,hra⟩:=hvw.at_ r hlt
  have hia:=fun w=>ia22 w ⟨b,off,sq⟩ L.length cc .i64 r hlt
  rw [← hzr] at hia
  have x1:=hra.rd1 (m:=9) (j:=1) (x:=.string ⟨⟨x.by_⟩⟩) ntC_length hx rfl
  have r64:=S64.call (P:=Tryz.prog) (m:=m) h64 (args:=[v,.string ⟨⟨x.by_⟩⟩]) (w:=w) ⟨v,L,x.by_,rfl,hvw,by omega,rfl⟩
  by_cases hc:liarB L x.by_=true
  ·rw [if_pos hc] at hstep
   rw [hc] at r64
   obtain ⟨x2,w2,c2,⟨B2,ho2⟩,k2,n2,l2⟩:=call65 (ov:=ov) m ho65 vo (rlT L r) x.by_ w0.next B w (by omega) n1 ho (by omega)
   rw [← hstep] at ho2
   have nj:=ho2.1.ok
   have hU2:Up w0 w2:=⟨fun b hb=>by rw [k2 b (by omega)]; exact hu.at hb,by omega,by omega⟩
   rw [e] at t0 hll r64
   simp [mc20_l0,t0,t5,t6',hll,hlt',hia,x1,r64,c2,nj,hw]
   exact ⟨by omega,by omega,hU2,⟨B2,ho2⟩,e.symm⟩
  ·rw [if_neg hc] at hstep
   rw [Bool.not_eq_true] at hc
   rw [hc] at r64
   rw [← hstep] at ho
   rw [e] at t0 hll r64
   simp [mc20_l0,t0,t5,t6',hll,hlt',hia,x1,r64,hw]
   exact ⟨by omega,by omega,hu,⟨B,ho⟩,e.symm⟩
 ·have hlt':¬ zr < zl:=by omega
  have e:r=L.length:=by omega
  rw [e] at ho
  simp [mc20_l0,t0,t6',hll,hlt']
  exact hQ _ _ B hu (by simpa [hvo] using ho)
theorem call20 {ov:Ov} (m:Nat) (ho:∀ args w,ov 20 args w=none) (ho65:∀ args w,ov 65 args w=none) (h18:HasP ov 18 S18.F) (h64:HasP ov 64 S64.F) (v:Value) (L:List Nt) (w:AW) (hl:w.lim≤w.next) (hv:RowsV ntC w v L) :
  ∃ x w',(run Tryz.prog ov (m + 2)).call 20 [v] w .none=.ok (.ret x) w' .none∧Up w w'∧∃ lv,x=.tuple ⟨[lv,.int .i64 (ckE L)]⟩∧RowsV sC w' lv (lrL L):=by
 refine call_wp text20 (by simp) (ho _ _) ?_
 have c1:=S18.call (P:=Tryz.prog) (m:=m) h18 (args:=[v]) (w:=w) ⟨v,L,rfl,hv,rfl⟩
 by_cases hc:notesB L=true
 ·have e0:ckE L=0:=by unfold ckE; rw [if_pos hc]
  have lL:L.length≤40:=by
   have hc:=hc
   unfold notesB at hc
   simp only [Bool.and_eq_true,decide_eq_true_eq] at hc
   exact hc.1
  rw [e0] at c1
  simp [mc20,c1]
  refine wp_seqX (wp_blockX (loop20 m ho65 h64 v L w w hl hv (by omega) (Up.refl w) _ _ ?_ ?_ ?_ ?_))
  ·simp
  ·simp
  ·simp
  ·intro t w' B hu ho
   have nj:=ho.1.ok
   obtain ⟨a,c,e⟩:=ho.1.rows.len
   have hr:=ho.1.rows
   rw [liars_eq] at hr
   rw [e] at hr
   simp [nj,e,tupV,notJunk,e0,lrL,hc]
   exact ⟨hu,hr⟩
 ·have e0:ckE L=100:=by unfold ckE; rw [if_neg hc]
  rw [e0] at c1
  simp [mc20,c1,tupV,notJunk,e0,lrL,hc]
  exact ⟨Up.refl w,.inl ⟨rfl,none,0,rfl⟩⟩
def HasZ (ov:Ov):Prop:=∀ w,hasAll w laidL=true→ov 22 [] w=some (.ok (.ret (.bool true)) w .none)
theorem ruleZ {ov:Ov} (h:HasZ ov) {w:AW} (hw:hasAll w laidL=true) (m:Nat):(run Tryz.prog ov (m + 1)).call 22 [] w .none=.ok (.ret (.bool true)) w .none:=by
 show stepO Tryz.prog (run Tryz.prog ov m) 22 [] w .none (ov 22 [] w)=_
 rw [h w hw]
 rfl
theorem hasAll_congr {w w':AW}:∀ (L:List LaidV),(∀ x ∈ L,w.heap.get x.1=w'.heap.get x.1)→hasAll w L=hasAll w' L
 | [],_=>rfl
 | x::L,h=>by
  have h1:hasB w x=hasB w' x:=by
   obtain ⟨b,c,t⟩:=x
   unfold hasB
   rw [h (b,c,t) (List.mem_cons_self ..)]
  show (bif hasB w x then hasAll w L else false)=(bif hasB w' x then hasAll w' L else false)
  rw [h1,hasAll_congr L fun x hx=>h x (List.mem_cons_of_mem _ hx)]
theorem laid_lt:∀ x ∈ laidL,x.1 < 9:=by simp [laidL]
theorem laid_up {w w':AW} (h:hasAll w laidL=true) (h9:9≤w.next) (hu:Up w w'):hasAll w' laidL=true:=by
 rw [← h]
 exact hasAll_congr _ fun x hx=>hu.at (by have:=laid_lt x hx; omega)
theorem mgL_len (A B:List Nt):(mgL A B).length≤1000:=by
 unfold mgL
 by_cases h:(notesB A && notesB B)=true
 ·rw [if_pos h]
  by_cases k:40 < (ordU cmpN (A++B)).length
  ·rw [if_pos k]; simp
  ·rw [if_neg k]; omega
 ·rw [if_neg h]; simp
theorem lrL_len (L:List Nt):(lrL L).length≤1000:=by
 unfold lrL
 split
 ·rename_i h
  unfold notesB at h
  simp only [Bool.and_eq_true,decide_eq_true_eq] at h
  have h1:(ordU cmpB (liN (ordU cmpN L) (ordU cmpN L).length)).length≤(liN (ordU cmpN L) (ordU cmpN L).length).length:=by
   have:=ordU_len cmpB (liN (ordU cmpN L) (ordU cmpN L).length) []
   simp at this
   exact this
  have h2:=liN_len (ordU cmpN L) (ordU cmpN L).length
  have h3:(ordU cmpN L).length≤L.length:=by have:=ordU_len cmpN L []; simp at this; exact this
  omega
 ·simp
theorem run3 {ov:Ov} (ho:∀ args w,ov 3 args w=none) (ho14:∀ args w,ov 14 args w=none) (ho15:∀ args w,ov 15 args w=none) (ho19:∀ args w,ov 19 args w=none) (ho20:∀ args w,ov 20 args w=none) (ho59:∀ args w,ov 59 args w=none) (ho61:∀ args w,ov 61 args w=none) (ho63:∀ args w,ov 63 args w=none) (ho65:∀ args w,ov 65 args w=none) (ho94:∀ args w,ov 94 args w=none)
  (h16:HasP ov 16 S16.F) (h17:HasP ov 17 S17.F) (h18:HasP ov 18 S18.F) (h21:HasP ov 21 S21.F) (h46:HasP ov 46 S46.F) (h57:HasP ov 57 S57.F) (h60:HasP ov 60 S60.F) (h64:HasP ov 64 S64.F) (h97:HasP ov 97 S97.F) (oN:OeN ov) (oW:OeW ov) (hz:HasZ ov)
  (va vb:Value) (A B:List Nt) (w:AW) (hl:w.lim≤w.next) (h9:9≤w.next) (hlaid:hasAll w laidL=true) (ha:RowsV ntC w va A) (hb:RowsV ntC w vb B) (h0:∀ a c,va=.slice a 0 c→a=none→c=0) :
  ∃ x w',(run Tryz.prog ov 212).call 3 [va,vb] w .none=.ok (.ret x) w' .none∧x=.bool true:=by
 refine call_wp text3 (by simp) (ho _ _) ?_
 obtain ⟨x1,w1,c1,hu1,l1,e1,hr1⟩:=call14 (ov:=ov) 2 ho14 ho59 ho94 h57 h60 oN va vb A B w hl ha hb
 have n1:=hu1.next
 have m1:=hu1.lim
 obtain ⟨x2,w2,c2,hu2,l2,e2,hr2⟩:=call15 (ov:=ov) 208 ho15 ho61 h18 h46 va vb A B w1 (by omega) (ha.up hu1) (hb.up hu1)
 have n2:=hu2.next
 have m2:=hu2.lim
 have hu02:=hu1.trans hu2
 have c3:=S16.call (P:=Tryz.prog) (m:=210) h16 (args:=[l1,l2]) (w:=w2) ⟨l1,l2,mgL A B,rfl,hr1.up hu2,hr2,mgL_len A B,rfl⟩
 have c4:=S17.call (P:=Tryz.prog) (m:=210) h17 (args:=[va]) (w:=w2) ⟨va,A,rfl,ha.up hu02,rfl⟩
 have c5:=S18.call (P:=Tryz.prog) (m:=210) h18 (args:=[va]) (w:=w2) ⟨va,A,rfl,ha.up hu02,rfl⟩
 obtain ⟨x3,w3,c6,hu3,l3,e3,hr3⟩:=call19 (ov:=ov) 1 ho19 ho63 h17 h60 h97 oN oW va A w2 (by omega) (ha.up hu02) h0
 have n3:=hu3.next
 have m3:=hu3.lim
 have hu03:=hu02.trans hu3
 obtain ⟨x4,w4,c7,hu4,l4,e4,hr4⟩:=call20 (ov:=ov) 209 ho20 ho65 h18 h64 va A w3 (by omega) (ha.up hu03)
 have hu04:=hu03.trans hu4
 have c8:=S21.call (P:=Tryz.prog) (m:=210) h21 (args:=[l3,l4]) (w:=w4) ⟨l3,l4,lrL A,rfl,hr3.up hu4,hr4,lrL_len A,rfl⟩
 have c9:=ruleZ hz (laid_up hlaid h9 hu04) 210
 obtain ⟨a1,k1,f1⟩:=hr1.len
 obtain ⟨a2,k2,f2⟩:=hr2.len
 obtain ⟨a3,k3,f3⟩:=hr3.len
 obtain ⟨a4,k4,f4⟩:=hr4.len
 subst e1 e2 e3 e4 f1 f2 f3 f4
 obtain ⟨zm,hzm⟩:∃ z,z=mgE A B:=⟨_,rfl⟩
 obtain ⟨zc,hzc⟩:∃ z,z=ckE A:=⟨_,rfl⟩
 rw [← hzm] at c1 c2
 rw [← hzc] at c4 c5 c6 c7
 simp [mc3,c1,c2,c3,c4,c5,c6,c7,c8,c9,tupV,notJunk]
end Go.Proofs.YtnjknghdpobcmaaGreatDoor.walk
