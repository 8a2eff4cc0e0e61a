/- Part of a proof: see the text with the theorem. -/
import Derived.Test.YtnmamelclmfplaaDoorTl
import Derived.Test.YtnmamelclmfplaaDoorTk
set_option linter.all false
namespace Go.Proofs.YtnmamelclmfplaaDoor.walk
open Go Go.Sh
set_option maxRecDepth 100000
def bigS (i:Nat) (s:Sp):Prop := -(2000000 + 1000000 * (i:Int))≤s.1∧s.1≤2000000 + 1000000 * (i:Int) ∧ -(2000000 + 1000000 * (i:Int))≤s.2∧s.2≤2000000 + 1000000 * (i:Int)
theorem fw_big {L C:Nat→Sp} (hC:∀ k,bndS (C k)) (hL:∀ k,0≤(L k).1∧(L k).1≤(L k).2∧(L k).2≤1000000):∀ i,bigS i (fwF L C i)
 | 0=>by have:=hC 0; unfold bndS at this; unfold bigS; show _≤(C 0).1∧(C 0).1≤_∧_≤(C 0).2∧(C 0).2≤_; omega
 | i + 1=>by
  have h:=fw_big hC hL i
  have h1:=hC (i + 1)
  have h2:=hL i
  show bigS (i + 1) (bothS (C (i + 1)) (restS (fwF L C i) (L i)))
  unfold bigS bothS restS at *
  unfold bndS at h1
  simp only at *
  omega
theorem bk_big {n:Nat} (hn:n≤14) {L G:Nat→Sp} (hG:∀ k,k≤n→bigS k (G k)) (hL:∀ k,0≤(L k).1∧(L k).1≤(L k).2∧(L k).2≤1000000):∀ j,j≤n→bigS (14 + j) (bkF n L G j)
 | 0,_=>by have:=hG n (Nat.le_refl _); unfold bigS at *; show _≤(G n).1∧(G n).1≤_∧_≤(G n).2∧(G n).2≤_; omega
 | j + 1,hj=>by
  have h:=bk_big hn hG hL j (by omega)
  have h1:=hG (n - (j + 1)) (by omega)
  have h2:=hL (n - (j + 1))
  show bigS (14 + (j + 1)) (bothS (G (n - (j + 1))) (wholeS (bkF n L G j) (L (n - (j + 1)))))
  unfold bigS bothS wholeS at *
  simp only at *
  omega
structure LossAt (w0:AW) (rv av:Value) (r:List CAct) (acts:List Int):Prop where
 rows:RowsV actC w0 rv r
 arow:RowsV intC w0 av acts
 ok:∀ a ∈ acts,0≤a∧∃ x,r[a.toNat]?=some x
theorem LossAt.get {w0 w:AW} {rv av:Value} {r:List CAct} {acts:List Int} (h:LossAt w0 rv av r acts) {i:Nat} (hi:i < acts.length) (hold:Old w0.next w0.heap w.heap) :
  ∃ (bb off:Nat) (sq:Option Nat) (c:Nat) (b2 off2:Nat) (sq2:Option Nat) (c2 n:Nat) (x:CAct),av=.slice (some ⟨bb,off,sq⟩) acts.length c∧rv=.slice (some ⟨b2,off2,sq2⟩) r.length c2∧n < r.length∧rd1O (w.heap.get bb) (off + i)=some (.int .i64 (n:Int))∧rdO (w.heap.get b2) (off2 + n * 7 + 5) 2=some [.int .i64 x.ll,.int .i64 x.lh]∧gtS (losL (lossL r acts)) i=(x.ll,x.lh):=by
 obtain ⟨a,ha⟩:∃ p,acts[i]?=some p:=⟨_,List.getElem?_eq_getElem hi⟩
 obtain ⟨ha0,x,hx⟩:=h.ok a (List.mem_of_getElem? ha)
 obtain ⟨n,rfl⟩:∃ n:Nat,a=(n:Int):=⟨a.toNat,by omega⟩
 simp only [Int.toNat_natCast] at hx
 have hn:=(List.getElem?_eq_some_iff.1 hx).1
 obtain ⟨bb,off,sq,c,e1,hra⟩:=h.arow.at_ i hi
 obtain ⟨b2,off2,sq2,c2,e2,hrb⟩:=h.rows.at_ n hn
 have hld:=hra.int ha
 have f5:rdO (w0.heap.get b2) (off2 + n * 7 + 5) 2=some [.int .i64 x.ll,.int .i64 x.lh]:=rdO_sub (hrb.rd actC_length hx) (j:=5) (k:=2) (by decide)
 rw [← hold bb hra.2] at hld
 rw [← hold b2 hrb.2] at f5
 refine ⟨bb,off,sq,c,b2,off2,sq2,c2,n,x,e1,e2,hn,hld,f5,?_⟩
 rw [los_at (by rw [lossL_length]; exact hi)]
 exact gtS_of (lossL_at ha (by simpa using hx))
set_option maxHeartbeats 4000000 in
theorem loop65c {ov:Ov} {Q:Ex→Tm→AW→Prop} (m n:Nat) (hn:n≤14) (h87:HasP ov 87 S87.F) (r:List CAct) (acts:List Int) (hal:acts.length=n) (rv av:Value) (BW:Nat) (C:Nat→Sp) (hC:∀ k,bndS (C k)) (hL:∀ k,0≤(gtS (losL (lossL r acts)) k).1∧(gtS (losL (lossL r acts)) k).1≤(gtS (losL (lossL r acts)) k).2∧(gtS (losL (lossL r acts)) k).2≤1000000) (w0 w1:AW) (t:Tm) (hlim:w1.lim≤BW) (hBn:BW < w1.next) (h0:w0.next≤BW) (u0:Up w0 w1) (hla:LossAt w0 rv av r acts) (g:w1.heap.get BW=some (.cells (RowF n C) 25 false))
  (t0:tget t 0=rv) (t2:tget t 2=av) (t11:tget t 11=.int .i64 (n:Nat)) (t12:tget t 12=.slice (some ⟨BW,0,none⟩) (n + 1) (n + 1)) (t15:tget t 15=.int .i64 0)
  (hQ:∀ t' w',KpB (BW + 1) BW w1 w'→w'.heap.get BW=some (.cells (RowF n (fwF (gtS (losL (lossL r acts))) C)) 25 false)→(∀ d,d < 13→tget t' d=tget t d)→Q .normal t' w') :
  wp (exM Tryd.prog (run Tryd.prog ov (m + 1)) (.block 4 (.loop mc65_l2)) t w1) Q:=by
 obtain ⟨L,hLe⟩:∃ L,L=gtS (losL (lossL r acts)):=⟨_,rfl⟩
 rw [← hLe] at hL hQ
 have hini:∀ k,k≤n→C k=if k≤0 then fwF L C k else C k:=fun k _=>by
  by_cases e:k=0
  ·subst e; rfl
  ·rw [if_neg (by omega)]
 refine wp_blockX (wp_rounds (fun i t' w'=>KpB (BW + 1) BW w1 w'∧(∃ f,w'.heap.get BW=some (.cells (RowF n f) 25 false)∧∀ k,k≤n→f k=if k≤i then fwF L C k else C k)∧tget t' 15=.int .i64 ((i:Nat):Int)∧i≤n∧(∀ d,d < 13→tget t' d=tget t d)) 30 (by decide) ⟨KpB.refl _ _ _,⟨C,g,hini⟩,t15,by omega,fun _ _=>rfl⟩ ?_)
 rintro i t' w' ⟨hkp,⟨f,gf,hf⟩,s15,hi,hold⟩
 have s0:=(hold 0 (by decide)).trans t0
 have s2:=(hold 2 (by decide)).trans t2
 have s11:=(hold 11 (by decide)).trans t11
 have s12:=(hold 12 (by decide)).trans t12
 have hlm:=hkp.lim
 have hnx:=hkp.next
 have hne:∀ d,d < 13→∀ k,13≤k→¬ d=k:=fun d hd k hk=>by omega
 by_cases hlt:i < n
 ·have hlt':(i:Int) < (n:Int):=by omega
  have holdm:Old w0.next w0.heap w'.heap:=fun x hx=>by rw [hkp.old x (by omega) (by omega),u0.at hx]
  obtain ⟨bb,off,sq,c,b2,off2,sq2,c2,q,x,rfl,rfl,hq,hld,f5,hx⟩:=hla.get (w:=w') (i:=i) (by omega) holdm
  rw [← hLe] at hx
  obtain ⟨cs,hcs⟩:∃ cs,cs=RowF n f:=⟨_,rfl⟩
  have X:=rowX hcs (k:=i) (by omega)
  have Y:=rowX hcs (k:=i + 1) (by omega)
  rw [← hcs] at gf
  have hgi:f i=fwF L C i:=by rw [hf i (by omega),if_pos (Nat.le_refl _)]
  have hgj:f (i + 1)=C (i + 1):=by rw [hf (i + 1) (by omega),if_neg (by omega)]
  have hbg:=fw_big hC hL i
  have hLi:=hL i
  rw [hx] at hLi
  rw [← hgi] at hbg
  unfold bigS at hbg
  simp only at hLi
  have hia:=fun w=>ia28 w ⟨bb,off,sq⟩ acts.length c .i64 i (by omega)
  simp only [Nat.mul_one] at hia
  have hib:=fun w=>ia22 w ⟨b2,off2,sq2⟩ r.length c2 .i64 q hq
  have hic:=fun w=>ia43 w ⟨BW,0,none⟩ (n + 1) (n + 1) .i64 i (by omega)
  obtain ⟨J,hJ⟩:∃ J:Int,J=((i + 1:Nat):Int):=⟨_,rfl⟩
  have hid:=fun w=>ia43 w ⟨BW,0,none⟩ (n + 1) (n + 1) .i64 (i + 1) (by omega)
  rw [← hJ] at hid
  have hw1:IntKind.wrap .i64 ((i:Int) + 1)=J:=by rw [hJ,wrap64_in (by omega) (by omega)]; omega
  have hw2:IntKind.wrap .i64 ((f i).1 - x.lh)=(f i).1 - x.lh:=wrap64_in (by omega) (by omega)
  have hw3:IntKind.wrap .i64 ((f i).2 - x.ll)=(f i).2 - x.ll:=wrap64_in (by omega) (by omega)
  have q1:w'.lim≤BW:=by omega
  have q2:=X.len
  have q3:=Y.len
  have q4:=Y.at_
  have o1:=X.lo
  have o2:=X.hi
  have e1:¬ BW=w'.next:=by omega
  have e2:¬ w'.next=BW:=by omega
  have q5:w'.lim≤w'.next:=by omega
  obtain ⟨wa,hwa⟩:∃ wa:AW,wa=⟨(w'.heap.put w'.next (some (.cells [.int .i64 0,.int .i64 0] 25 false))).put w'.next (some (.cells [.int .i64 x.ll,.int .i64 x.lh] 25 false)),w'.next + 1,w'.lim⟩:=⟨_,rfl⟩
  have ua:Up w' wa:=by rw [hwa]; exact ((Up.refl w').add _).put (Nat.le_refl _) (Nat.le_refl _)
  have r87:=S87.call (P:=Tryd.prog) h87 (m:=m) (w:=wa) ⟨f (i + 1),restS (f i) (x.ll,x.lh),rfl,by have:=ua.next; have:=ua.lim; omega,rfl⟩
  have hst:=Y.set (bothS (f (i + 1)) (restS (f i) (x.ll,x.lh))).1 (bothS (f (i + 1)) (restS (f i) (x.ll,x.lh))).2
  rw [hwa] at r87
  simp only [spC,restS] at r87 hst
  have hkpa:=hkp.to ua (by omega)
  simp [mc65_l2,s0,s2,s11,s12,s15,hlt,hlt',hia,hld,hib,f5,hic,hid,gf,q1,q2,q3,q4,q5,o1,o2,e1,e2,hw1,hw2,hw3,r87,hst,cellsOf_agg]
  rw [hwa] at hkpa
  refine ⟨by omega,hkpa.wr _,⟨_,rfl,fun k hk=>?_⟩,by omega,by omega,fun d hd=>by have:=hne d hd; simp [this,hold d hd]⟩
  unfold updS
  by_cases e:k=i + 1
  ·subst e
   rw [if_pos rfl,if_pos (Nat.le_refl _),hgj,hgi]
   show _=bothS (C (i + 1)) (restS (fwF L C i) (L i))
   rw [hx]; rfl
  ·rw [if_neg e,hf k hk]
   by_cases e2:k≤i
   ·rw [if_pos e2,if_pos (by omega)]
   ·rw [if_neg e2,if_neg (by omega)]
 ·have hi':i=n:=by omega
  subst hi'
  simp [mc65_l2,s11,s15]
  refine hQ _ _ hkp ?_ fun d hd=>by have:=hne d hd; simp [this,hold d hd]
  rw [gf,rowF_congr fun k hk=>by rw [hf k hk,if_pos hk]]
set_option maxHeartbeats 4000000 in
theorem loop65d {ov:Ov} {Q:Ex→Tm→AW→Prop} (m n:Nat) (hn:n≤14) (h87:HasP ov 87 S87.F) (r:List CAct) (acts:List Int) (hal:acts.length=n) (rv av:Value) (BW:Nat) (G:Nat→Sp) (hG:∀ k,k≤n→bigS k (G k)) (hL:∀ k,0≤(gtS (losL (lossL r acts)) k).1∧(gtS (losL (lossL r acts)) k).1≤(gtS (losL (lossL r acts)) k).2∧(gtS (losL (lossL r acts)) k).2≤1000000) (w0 w1:AW) (t:Tm) (hlim:w1.lim≤BW) (hBn:BW < w1.next) (h0:w0.next≤BW) (u0:Up w0 w1) (hla:LossAt w0 rv av r acts) (g:w1.heap.get BW=some (.cells (RowF n G) 25 false))
  (t0:tget t 0=rv) (t2:tget t 2=av) (t12:tget t 12=.slice (some ⟨BW,0,none⟩) (n + 1) (n + 1)) (t17:tget t 17=.int .i64 ((n:Int) - 1))
  (hQ:∀ t' w',KpB (BW + 1) BW w1 w'→w'.heap.get BW=some (.cells (RowF n (fun k=>bkF n (gtS (losL (lossL r acts))) G (n - k))) 25 false)→(∀ d,d < 13→tget t' d=tget t d)→Q .normal t' w') :
  wp (exM Tryd.prog (run Tryd.prog ov (m + 1)) (.block 6 (.loop mc65_l3)) t w1) Q:=by
 obtain ⟨L,hLe⟩:∃ L,L=gtS (losL (lossL r acts)):=⟨_,rfl⟩
 rw [← hLe] at hL hQ
 have hini:∀ k,k≤n→G k=if n - 0≤k then bkF n L G (n - k) else G k:=fun k _=>by
  by_cases e:k=n
  ·subst e; rw [if_pos (by omega),Nat.sub_self]; rfl
  ·rw [if_neg (by omega)]
 refine wp_blockX (wp_rounds (fun j t' w'=>KpB (BW + 1) BW w1 w'∧(∃ f,w'.heap.get BW=some (.cells (RowF n f) 25 false)∧∀ k,k≤n→f k=if n - j≤k then bkF n L G (n - k) else G k)∧tget t' 17=.int .i64 ((n:Int) - 1 - ((j:Nat):Int))∧j≤n∧(∀ d,d < 13→tget t' d=tget t d)) 30 (by decide) ⟨KpB.refl _ _ _,⟨G,g,hini⟩,by simpa using t17,by omega,fun _ _=>rfl⟩ ?_)
 rintro j t' w' ⟨hkp,⟨f,gf,hf⟩,s17,hj,hold⟩
 have s0:=(hold 0 (by decide)).trans t0
 have s2:=(hold 2 (by decide)).trans t2
 have s12:=(hold 12 (by decide)).trans t12
 have hlm:=hkp.lim
 have hnx:=hkp.next
 have hne:∀ d,d < 13→∀ k,13≤k→¬ d=k:=fun d hd k hk=>by omega
 by_cases hlt:j < n
 ·obtain ⟨i,hi⟩:∃ i:Nat,i=n - (j + 1):=⟨_,rfl⟩
  obtain ⟨I,hI⟩:∃ I:Int,I=(i:Int):=⟨_,rfl⟩
  rw [show (n:Int) - 1 - ((j:Nat):Int)=I by omega] at s17
  have hI0:0≤I:=by omega
  have holdm:Old w0.next w0.heap w'.heap:=fun x hx=>by rw [hkp.old x (by omega) (by omega),u0.at hx]
  obtain ⟨bb,off,sq,c,b2,off2,sq2,c2,q,x,rfl,rfl,hq,hld,f5,hx⟩:=hla.get (w:=w') (i:=i) (by omega) holdm
  rw [← hLe] at hx
  obtain ⟨cs,hcs⟩:∃ cs,cs=RowF n f:=⟨_,rfl⟩
  have X:=rowX hcs (k:=i) (by omega)
  have Y:=rowX hcs (k:=i + 1) (by omega)
  rw [← hcs] at gf
  have hgi:f i=G i:=by rw [hf i (by omega),if_neg (by omega)]
  have hgj:f (i + 1)=bkF n L G j:=by rw [hf (i + 1) (by omega),if_pos (by omega),show n - (i + 1)=j by omega]
  have hbg:=bk_big hn hG hL j (by omega)
  have hLi:=hL i
  rw [hx] at hLi
  rw [← hgj] at hbg
  unfold bigS at hbg
  simp only at hLi
  have hia:=fun w=>ia28 w ⟨bb,off,sq⟩ acts.length c .i64 i (by omega)
  simp only [Nat.mul_one] at hia
  have hib:=fun w=>ia22 w ⟨b2,off2,sq2⟩ r.length c2 .i64 q hq
  have hic:=fun w=>ia43 w ⟨BW,0,none⟩ (n + 1) (n + 1) .i64 i (by omega)
  obtain ⟨J,hJ⟩:∃ J:Int,J=((i + 1:Nat):Int):=⟨_,rfl⟩
  have hid:=fun w=>ia43 w ⟨BW,0,none⟩ (n + 1) (n + 1) .i64 (i + 1) (by omega)
  rw [← hJ] at hid
  rw [← hI] at hia hic
  have hw1:IntKind.wrap .i64 (I + 1)=J:=by rw [hI,hJ,wrap64_in (by omega) (by omega)]; omega
  have hw4:IntKind.wrap .i64 (I - 1)=I - 1:=wrap64_in (by omega) (by omega)
  have hw2:IntKind.wrap .i64 ((f (i + 1)).1 + x.ll)=(f (i + 1)).1 + x.ll:=wrap64_in (by omega) (by omega)
  have hw3:IntKind.wrap .i64 ((f (i + 1)).2 + x.lh)=(f (i + 1)).2 + x.lh:=wrap64_in (by omega) (by omega)
  have q1:w'.lim≤BW:=by omega
  have q2:=X.len
  have q3:=Y.len
  have q4:=X.at_
  have o1:=Y.lo
  have o2:=Y.hi
  have e1:¬ BW=w'.next:=by omega
  have e2:¬ w'.next=BW:=by omega
  have q5:w'.lim≤w'.next:=by omega
  obtain ⟨wa,hwa⟩:∃ wa:AW,wa=⟨(w'.heap.put w'.next (some (.cells [.int .i64 0,.int .i64 0] 25 false))).put w'.next (some (.cells [.int .i64 x.ll,.int .i64 x.lh] 25 false)),w'.next + 1,w'.lim⟩:=⟨_,rfl⟩
  have ua:Up w' wa:=by rw [hwa]; exact ((Up.refl w').add _).put (Nat.le_refl _) (Nat.le_refl _)
  have r87:=S87.call (P:=Tryd.prog) h87 (m:=m) (w:=wa) ⟨f i,wholeS (f (i + 1)) (x.ll,x.lh),rfl,by have:=ua.next; have:=ua.lim; omega,rfl⟩
  have hst:=X.set (bothS (f i) (wholeS (f (i + 1)) (x.ll,x.lh))).1 (bothS (f i) (wholeS (f (i + 1)) (x.ll,x.lh))).2
  rw [hwa] at r87
  simp only [spC,wholeS] at r87 hst
  have hkpa:=hkp.to ua (by omega)
  simp [mc65_l3,s0,s2,s12,s17,hI0,hia,hld,hib,f5,hic,hid,gf,q1,q2,q3,q4,q5,o1,o2,e1,e2,hw1,hw2,hw3,hw4,r87,hst,cellsOf_agg]
  rw [hwa] at hkpa
  refine ⟨by omega,hkpa.wr _,⟨_,rfl,fun k hk=>?_⟩,by omega,by omega,fun d hd=>by have:=hne d hd; simp [this,hold d hd]⟩
  unfold updS
  by_cases e:k=i
  ·subst e
   rw [if_pos rfl,if_pos (by omega),bk_step (by omega),hgj,hgi,show n - (k + 1)=j by omega,hx]; rfl
  ·rw [if_neg e,hf k hk]
   by_cases e2:n - j≤k
   ·rw [if_pos e2,if_pos (by omega)]
   ·rw [if_neg e2,if_neg (by omega)]
 ·have hj':j=n:=by omega
  subst hj'
  obtain ⟨I,hI⟩:∃ I:Int,I=(j:Int) - 1 - (j:Int):=⟨_,rfl⟩
  rw [← hI] at s17
  have hI0:¬ 0≤I:=by omega
  simp [mc65_l3,s17,hI0]
  refine hQ _ _ hkp ?_ fun d hd=>by have:=hne d hd; simp [this,hold d hd]
  rw [gf,rowF_congr fun k hk=>by rw [hf k hk,if_pos (by omega)]]
theorem loop65e {r:Rec} {Q:Ex→Tm→AW→Prop} (n:Nat) (hn:n≤14) (BW:Nat) (f:Nat→Sp) (w1:AW) (t:Tm) (g:w1.heap.get BW=some (.cells (RowF n f) 25 false))
  (t11:tget t 11=.int .i64 (n:Nat)) (t12:tget t 12=.slice (some ⟨BW,0,none⟩) (n + 1) (n + 1)) (t19:tget t 19=.bool true) (t20:tget t 20=.int .i64 0)
  (hQ:∀ t',tget t' 19=.bool ((List.range (n + 1)).all fun k=>decide ((f k).1≤(f k).2))→(∀ d,d < 13→tget t' d=tget t d)→Q .normal t' w1) :
  wp (exM Tryd.prog r (.block 8 (.loop mc65_l4)) t w1) Q:=by
 refine wp_blockX (wp_rounds (fun i t' w'=>w'=w1∧tget t' 19=.bool ((List.range i).all fun k=>decide ((f k).1≤(f k).2))∧tget t' 20=.int .i64 ((i:Nat):Int)∧i≤n + 1∧(∀ d,d < 13→tget t' d=tget t d)) 30 (by decide) ⟨rfl,by simpa using t19,t20,by omega,fun _ _=>rfl⟩ ?_)
 rintro i t' w' ⟨rfl,s19,s20,hi,hold⟩
 have s11:=(hold 11 (by decide)).trans t11
 have s12:=(hold 12 (by decide)).trans t12
 have hne:∀ d,d < 13→∀ k,13≤k→¬ d=k:=fun d hd k hk=>by omega
 by_cases hlt:i < n + 1
 ·have hle:(i:Int)≤(n:Int):=by omega
  have hle':i≤n:=by omega
  obtain ⟨cs,hcs⟩:∃ cs,cs=RowF n f:=⟨_,rfl⟩
  have X:=rowX hcs hle'
  rw [← hcs] at g
  have hia:=fun w=>ia43 w ⟨BW,0,none⟩ (n + 1) (n + 1) .i64 i hlt
  have o1:=X.lo
  have o2:=X.hi
  have hw1:IntKind.wrap .i64 ((i:Int) + 1)=(i:Int) + 1:=wrap64_in (by omega) (by omega)
  have hall:((List.range (i + 1)).all fun k=>decide ((f k).1≤(f k).2))=(((List.range i).all fun k=>decide ((f k).1≤(f k).2)) && decide ((f i).1≤(f i).2)):=by
   rw [List.range_succ,List.all_append]; simp
  cases hb:((List.range i).all fun k=>decide ((f k).1≤(f k).2)) with
  | true =>
   rw [hb] at s19 hall
   rw [Bool.true_and] at hall
   simp [mc65_l4,s11,s12,s19,s20,hle,hle',hia,g,o1,o2,hw1]
   exact ⟨by omega,hall.symm,fun d hd=>by have:=hne d hd; simp [this,hold d hd]⟩
  | false =>
   rw [hb] at s19 hall
   rw [Bool.false_and] at hall
   simp [mc65_l4,s11,s12,s19,s20,hle,hle',hia,g,o1,o2,hw1]
   exact ⟨by omega,by simpa using hall,fun d hd=>by have:=hne d hd; simp [this,hold d hd]⟩
 ·have hi':i=n + 1:=by omega
  have hle:¬ ((i:Nat):Int)≤(n:Int):=by omega
  have hle':¬ i≤n:=by omega
  rw [hi'] at s19
  simp [mc65_l4,s11,s20,hle,hle']
  exact hQ _ (by simpa using s19) fun d hd=>by have:=hne d hd; simp [this,hold d hd]
theorem repl_rowF (n:Nat):(List.replicate (n + 1) ((0,0):Sp)).flatMap spC=RowF n (fun _=>(0,0)):=by
 unfold RowF
 congr 1
 apply List.ext_getElem?
 intro i
 rw [List.getElem?_map,List.getElem?_replicate]
 by_cases h:i < n + 1
 ·rw [if_pos h,List.getElem?_range h]; rfl
 ·rw [if_neg h,List.getElem?_eq_none (by simp; omega)]; rfl
theorem cap_bnd {n:Nat} {lo:Int} {U:Nat→Sp} (h:∀ k,bndS (U k)) (hlo:0≤lo∧lo≤1000000):∀ k,bndS (capF n lo U k):=fun k=>by
 unfold capF updS
 by_cases e:k=n
 ·rw [if_pos e]
  have:=h n
  unfold bndS bothS at *
  simp only at *
  omega
 ·rw [if_neg e]; exact h k
theorem ini_low {b:CBox} {L:List Sp} {l:List CRead} (hlen:L.length≤14) {k:Nat} (hk:k≤L.length):gtS (iniW b L l) k=foldR (onDay l k) (iniG b L.length k):=by
 rw [iniW_at hlen (by omega)]
 unfold iniF
 rw [if_pos (by omega)]
theorem ini_bnd {b:CBox} (hb:boxB b=true) {L:List Sp} {l:List CRead} (hR:ReadOk l) (k:Nat):bndS (gtS (iniW b L l) k):=mkW_bnd (fun k=>iniF_bnd hb hR _ _ k) k
theorem refR_congr {n:Nat} {lo hi:Int} {L U:Nat→Sp} {k:Nat} (hk:k≤n):refR n lo hi L U k=bkF n L (fwF L (capF n lo U)) (n - k):=by unfold refR; rw [if_pos hk]
set_option maxHeartbeats 8000000 in
theorem call65 {ov:Ov} (m:Nat) (ho:∀ args w,ov 65 args w=none) (h87:HasP ov 87 S87.F) (r:List CAct) (acts:List Int) (h14:acts.length≤14) (hlos:LosW (losL (lossL r acts))) (hact:∀ a ∈ acts,0≤a∧∃ x,r[a.toNat]?=some x) (b:CBox) (hb:boxB b=true) (l:List CRead) (hRd:rdsB (acts.length:Nat) l=true) (rv av lv:Value) (we:AW) (hlim:we.lim≤we.next) (hrv:RowsV actC we rv r) (hav:RowsV intC we av acts) (hlv:RowsV readC we lv l) :
  ∃ v w',(run Tryd.prog ov (m + 2)).call 65 [rv,.agg ⟨boxC b⟩,av,lv] we .none=.ok (.ret v) w' .none∧(∃ BW,v=.tuple ⟨[.slice (some ⟨BW,0,none⟩) (acts.length + 1) (acts.length + 1),.agg ⟨spC (refB b (lossL r acts) l (acts.length + 1))⟩,.bool (okB b (lossL r acts) l)]⟩∧w'.heap.get BW=some (.cells (RowF acts.length (refB b (lossL r acts) l)) 25 false)∧we.next≤BW∧BW < w'.next)∧Up we w':=by
 refine call_wp text65 (by simp) (ho _ _) ?_
 obtain ⟨n,hn⟩:∃ n,n=acts.length:=⟨_,rfl⟩
 have hl28:=fun w2=>len28V (w':=w2) hav
 have hLl:(lossL r acts).length=n:=by rw [lossL_length,hn]
 obtain ⟨hl10,hR⟩:=rds_ok hRd
 have hD:∀ p ∈ l,0≤p.day∧p.day≤(n:Int):=fun p hp=>by
  simp only [rdsB,Bool.and_eq_true,decide_eq_true_eq] at hRd
  have:=List.all_eq_true.1 hRd.2 p hp
  simp only [rdB,inI,Bool.and_eq_true,decide_eq_true_eq] at this
  rw [hn]; exact this.1
 have hbx:=hb
 simp only [boxB,spanI,Bool.and_eq_true,decide_eq_true_eq] at hbx
 rw [← hn] at hl28 h14 ⊢
 obtain ⟨L,hL⟩:∃ L,L=gtS (losL (lossL r acts)):=⟨_,rfl⟩
 obtain ⟨U,hU⟩:∃ U,U=gtS (iniW b (lossL r acts) l):=⟨_,rfl⟩
 have hLb:∀ k,0≤(L k).1∧(L k).1≤(L k).2∧(L k).2≤1000000:=fun k=>by rw [hL]; exact hlos k
 have hUb:∀ k,bndS (U k):=fun k=>by rw [hU]; exact ini_bnd hb hR k
 have hUlow:∀ k,k≤n→U k=foldR (onDay l k) (iniG b n k):=fun k hk=>by
  rw [hU,ini_low (by omega) (by omega),hLl]
 have hCb:=cap_bnd (n:=n) (lo:=b.sl) hUb (by omega)
 obtain ⟨C,hC⟩:∃ C,C=capF n b.sl U:=⟨_,rfl⟩
 rw [← hC] at hCb
 obtain ⟨G,hG⟩:∃ G,G=fwF L C:=⟨_,rfl⟩
 have hGb:∀ k,k≤n→bigS k (G k):=fun k _=>by rw [hG]; exact fw_big hCb hLb k
 have hRk:∀ k,k≤n→refB b (lossL r acts) l k=bkF n L G (n - k):=fun k hk=>by
  unfold refB
  rw [hLl,refR_congr hk,← hL,← hU,← hC,← hG]
 have hRn:refB b (lossL r acts) l (n + 1)=(b.sl,min b.sh (bkF n L G 0).2):=by
  unfold refB refR
  rw [hLl,if_neg (by omega),← hL,← hU,← hC,← hG]
 have hokE:okB b (lossL r acts) l=(List.range (n + 1)).all fun k=>decide ((bkF n L G (n - k)).1≤(bkF n L G (n - k)).2):=by
  unfold okB refOk
  rw [hLl]
  rw [Bool.eq_iff_iff,List.all_eq_true,List.all_eq_true]
  constructor
  ·intro h k hk
   have:=h k hk
   rw [List.mem_range] at hk
   rwa [refR_congr (by omega),← hL,← hU,← hC,← hG] at this
  ·intro h k hk
   have:=h k hk
   rw [List.mem_range] at hk
   rwa [refR_congr (by omega),← hL,← hU,← hC,← hG]
 obtain ⟨M,hM⟩:∃ M:Int,M=((n + 1:Nat):Int):=⟨_,rfl⟩
 have hwM:IntKind.wrap .i64 ((n:Int) + 1)=M:=by rw [hM,wrap64_in (by omega) (by omega)]; omega
 have hmk:=fun w=>mk43 (n + 1) (by omega) w
 rw [← hM,repl_rowF] at hmk
 obtain ⟨BW,hBW⟩:∃ BW,BW=we.next + 1 + 1:=⟨_,rfl⟩
 obtain ⟨w1,hw1⟩:∃ w1:AW,w1=⟨((we.heap.put we.next (some (.cells [.int .i64 b.wl,.int .i64 b.wh,.int .i64 b.sl,.int .i64 b.sh] 27 false))).put (we.next + 1) (some (.cells [.int .i64 0,.int .i64 0] 25 false))).put (we.next + 1 + 1) (some (.cells (RowF n (fun _=>(0,0))) 25 false)),we.next + 1 + 1 + 1,we.lim⟩:=⟨_,rfl⟩
 have u1:Up we w1:=by rw [hw1]; exact (((Up.refl we).add _).put (Nat.le_succ _) (Nat.le_succ _)).put (by show we.next≤we.next + 1 + 1; omega) (Nat.le_succ _)
 have n1:w1.next=we.next + 1 + 1 + 1:=by rw [hw1]
 have l1:=u1.lim
 have g5:w1.heap.get we.next=some (.cells [.int .i64 b.wl,.int .i64 b.wh,.int .i64 b.sl,.int .i64 b.sh] 27 false):=by rw [hw1]; simp
 have g9:w1.heap.get (we.next + 1)=some (.cells [.int .i64 0,.int .i64 0] 25 false):=by rw [hw1]; simp
 have gW:w1.heap.get BW=some (.cells (RowF n (fun _=>(0,0))) 25 false):=by rw [hw1,hBW]; simp
 have hla:LossAt we rv av r acts:=⟨hrv,hav,hact⟩
 have keep:∀ {w2:AW},KpB (BW + 1) BW w1 w2→Up we w2∧w2.heap.get we.next=_∧w2.heap.get (we.next + 1)=_∧w2.lim=we.lim∧BW < w2.next:=fun {w2} k=>⟨⟨fun q hq=>(k.old q (by omega) (by omega)).trans (u1.at hq),Nat.le_trans u1.next k.next,k.lim.trans l1⟩,(k.old _ (by omega) (by omega)).trans g5,(k.old _ (by omega) (by omega)).trans g9,k.lim.trans l1,by have:=k.next; omega⟩
 simp only [boxC]
 simp [mc65,cellsOf_agg,hl28,hwM,hmk]
 rw [← hw1,← hBW]
 refine wp_seqX (loop65a n h14 BW _ w1 _ (by omega) gW (by simp) (by simp) (by simp) ?_)
 intro ta wa ka ga ha
 obtain ⟨ua,g5a,g9a,la,na⟩:=keep ka
 have ta0:tget ta 0=rv:=by rw [ha 0 (by decide)]; simp
 have ta2:tget ta 2=av:=by rw [ha 2 (by decide)]; simp
 have ta3:tget ta 3=lv:=by rw [ha 3 (by decide)]; simp
 have ta5:tget ta 5=.pointer (some ⟨we.next,0,none⟩):=by rw [ha 5 (by decide)]; simp
 have ta9:tget ta 9=.pointer (some ⟨we.next + 1,0,none⟩):=by rw [ha 9 (by decide)]; simp
 have ta11:tget ta 11=.int .i64 (n:Nat):=by rw [ha 11 (by decide)]; simp
 have ta12:tget ta 12=.slice (some ⟨BW,0,none⟩) (n + 1) (n + 1):=by rw [ha 12 (by decide)]; simp
 obtain ⟨cs,hcs⟩:∃ cs,cs=RowF n (fun _=>((1,1000000):Sp)):=⟨_,rfl⟩
 have X:=rowX hcs (k:=0) (Nat.zero_le _)
 rw [← hcs] at ga
 have hi0:=fun w=>ia43 w ⟨BW,0,none⟩ (n + 1) (n + 1) .i64 0 (by omega)
 have q1:wa.lim≤BW:=by omega
 have q2:=X.len
 have hst:=X.set b.wl b.wh
 simp only [Nat.zero_mul,Nat.zero_add,show ((0:Nat):Int)=0 from rfl,List.take_zero,List.nil_append,List.drop_zero] at hi0 q2 hst
 have hbase:RowF n (updS (fun _=>(1,1000000)) 0 (b.wl,b.wh))=RowF n (iniG b n):=rowF_congr fun k hk=>by
  have e1:¬ k=n + 1:=by omega
  have e2:k < n + 1:=by omega
  unfold updS iniG
  by_cases e:k=0
  ·simp [e]
  ·simp [e,e1,e2]
 rw [hbase] at hst
 have kb:=ka.wr (some (.cells (RowF n (iniG b n)) 25 false))
 obtain ⟨wb,hwb⟩:∃ wb:AW,wb=⟨wa.heap.put BW (some (.cells (RowF n (iniG b n)) 25 false)),wa.next,wa.lim⟩:=⟨_,rfl⟩
 rw [← hwb] at kb
 obtain ⟨ub,g5b,g9b,lb,nb⟩:=keep kb
 have gb:wb.heap.get BW=some (.cells (RowF n (iniG b n)) 25 false):=by rw [hwb]; simp
 simp [ta5,ta12,g5a,hi0,ga,q1,q2,hst]
 rw [← hwb]
 refine wp_seqX (loop65b m n h87 l hl10 hR hD BW (iniG b n) lv we wb _ (by omega) nb (by omega) ub hlv gb (by simp [ta3]) (by simp [ta12]) (by simp) ?_)
 intro tc wc kc gc hc
 have kc1:=kb.trans kc
 obtain ⟨uc,g5c,g9c,lc,nc⟩:=keep kc1
 have tc0:tget tc 0=rv:=by rw [hc 0 (by decide)]; simp [ta0]
 have tc2:tget tc 2=av:=by rw [hc 2 (by decide)]; simp [ta2]
 have tc5:tget tc 5=.pointer (some ⟨we.next,0,none⟩):=by rw [hc 5 (by decide)]; simp [ta5]
 have tc9:tget tc 9=.pointer (some ⟨we.next + 1,0,none⟩):=by rw [hc 9 (by decide)]; simp [ta9]
 have tc11:tget tc 11=.int .i64 (n:Nat):=by rw [hc 11 (by decide)]; simp [ta11]
 have tc12:tget tc 12=.slice (some ⟨BW,0,none⟩) (n + 1) (n + 1):=by rw [hc 12 (by decide)]; simp [ta12]
 rw [rowF_congr (g:=U) fun k hk=>(hUlow k hk).symm] at gc
 obtain ⟨cs2,hcs2⟩:∃ cs2,cs2=RowF n U:=⟨_,rfl⟩
 have Y:=rowX hcs2 (k:=n) (Nat.le_refl _)
 rw [← hcs2] at gc
 have hin:=fun w=>ia43 w ⟨BW,0,none⟩ (n + 1) (n + 1) .i64 n (by omega)
 have q3:wc.lim≤BW:=by omega
 have q4:=Y.len
 have q5:=Y.at_
 have r87:=S87.call (P:=Tryd.prog) h87 (m:=m) (w:=wc) ⟨U n,(b.sl,1000000),rfl,by omega,rfl⟩
 have hst2:=Y.set (bothS (U n) (b.sl,1000000)).1 (bothS (U n) (b.sl,1000000)).2
 simp only [spC] at r87 hst2
 have hcap:RowF n (updS U n ((bothS (U n) (b.sl,1000000)).1,(bothS (U n) (b.sl,1000000)).2))=RowF n C:=by rw [hC]; rfl
 rw [hcap] at hst2
 have kd:=kc1.wr (some (.cells (RowF n C) 25 false))
 obtain ⟨wd,hwd⟩:∃ wd:AW,wd=⟨wc.heap.put BW (some (.cells (RowF n C) 25 false)),wc.next,wc.lim⟩:=⟨_,rfl⟩
 rw [← hwd] at kd
 obtain ⟨ud,g5d,g9d,ld,nd⟩:=keep kd
 have gd:wd.heap.get BW=some (.cells (RowF n C) 25 false):=by rw [hwd]; simp
 simp [tc5,tc11,tc12,g5c,hin,gc,q3,q4,q5,r87,hst2,cellsOf_agg]
 rw [← hwd]
 refine wp_seqX (loop65c m n h14 h87 r acts hn.symm rv av BW C hCb (by rw [← hL]; exact hLb) we wd _ (by omega) nd (by omega) ud hla gd (by simp [tc0]) (by simp [tc2]) (by simp [tc11]) (by simp [tc12]) (by simp) ?_)
 rw [← hL,← hG]
 intro te wE ke ge he
 have ke1:=kd.trans ke
 obtain ⟨ue,g5e,g9e,le,ne⟩:=keep ke1
 have te0:tget te 0=rv:=by rw [he 0 (by decide)]; simp [tc0]
 have te2:tget te 2=av:=by rw [he 2 (by decide)]; simp [tc2]
 have te5:tget te 5=.pointer (some ⟨we.next,0,none⟩):=by rw [he 5 (by decide)]; simp [tc5]
 have te9:tget te 9=.pointer (some ⟨we.next + 1,0,none⟩):=by rw [he 9 (by decide)]; simp [tc9]
 have te11:tget te 11=.int .i64 (n:Nat):=by rw [he 11 (by decide)]; simp [tc11]
 have te12:tget te 12=.slice (some ⟨BW,0,none⟩) (n + 1) (n + 1):=by rw [he 12 (by decide)]; simp [tc12]
 have hwn:IntKind.wrap .i64 ((n:Int) - 1)=(n:Int) - 1:=wrap64_in (by omega) (by omega)
 simp [te11,hwn]
 refine wp_seqX (loop65d m n h14 h87 r acts hn.symm rv av BW G hGb (by rw [← hL]; exact hLb) we wE _ (by omega) ne (by omega) ue hla ge (by simp [te0]) (by simp [te2]) (by simp [te12]) (by simp) ?_)
 rw [← hL]
 intro tf wf kf gf hf
 have kf1:=ke1.trans kf
 obtain ⟨uf,g5f,g9f,lf,nf⟩:=keep kf1
 have tf5:tget tf 5=.pointer (some ⟨we.next,0,none⟩):=by rw [hf 5 (by decide)]; simp [te5]
 have tf9:tget tf 9=.pointer (some ⟨we.next + 1,0,none⟩):=by rw [hf 9 (by decide)]; simp [te9]
 have tf11:tget tf 11=.int .i64 (n:Nat):=by rw [hf 11 (by decide)]; simp [te11]
 have tf12:tget tf 12=.slice (some ⟨BW,0,none⟩) (n + 1) (n + 1):=by rw [hf 12 (by decide)]; simp [te12]
 simp
 refine wp_seqX (loop65e n h14 BW _ wf _ gf (by simp [tf11]) (by simp [tf12]) (by simp) (by simp) ?_)
 intro tg hg19 hg
 have tg5:tget tg 5=.pointer (some ⟨we.next,0,none⟩):=by rw [hg 5 (by decide)]; simp [tf5]
 have tg9:tget tg 9=.pointer (some ⟨we.next + 1,0,none⟩):=by rw [hg 9 (by decide)]; simp [tf9]
 have tg11:tget tg 11=.int .i64 (n:Nat):=by rw [hg 11 (by decide)]; simp [tf11]
 have tg12:tget tg 12=.slice (some ⟨BW,0,none⟩) (n + 1) (n + 1):=by rw [hg 12 (by decide)]; simp [tf12]
 rw [← hokE] at hg19
 rw [rowF_congr (g:=refB b (lossL r acts) l) fun k hk=>(hRk k hk).symm] at gf
 obtain ⟨cs3,hcs3⟩:∃ cs3,cs3=RowF n (refB b (lossL r acts) l):=⟨_,rfl⟩
 have Z:=rowX hcs3 (k:=n) (Nat.le_refl _)
 have gf':=gf
 rw [← hcs3] at gf'
 have o2:=Z.hi
 rw [hRk n (Nat.le_refl _),Nat.sub_self] at o2
 have q6:wf.lim≤we.next + 1:=by omega
 have nj:notJunk (.slice (some ⟨BW,0,none⟩) (n + 1) (n + 1))=some (.slice (some ⟨BW,0,none⟩) (n + 1) (n + 1)):=rfl
 simp [tg5,tg9,tg11,tg12,hg19,g5f,g9f,hin,gf',o2,q6,nj,tupV,cellsOf_agg]
 refine ⟨⟨BW,⟨rfl,?_⟩,?_,by omega,nf⟩,uf.put (by omega) (Nat.le_refl _)⟩
 ·rw [hRn]; rfl
 ·rw [if_neg (by omega)]; exact gf
def S60r:PSpec where
 R args w v:=∃ (rv dv av lv:Value) (r:List CAct) (d:List CDay) (b:CBox) (acts:List Int) (l:List CRead),args=[rv,dv,.agg ⟨boxC b⟩,av,lv]∧RowsV actC w rv r∧RowsV cdayC w dv d∧RowsV intC w av acts∧RowsV readC w lv l∧CapV av∧v=.int .i64 (rdE r d b acts l)
 uniq:=by
  rintro _ _ _ _ ⟨_,_,_,_,r,d,⟨_,_,_,_⟩,acts,l,rfl,h1,h2,h3,h4,_,rfl⟩ ⟨_,_,_,_,r',d',⟨_,_,_,_⟩,acts',l',h,k1,k2,k3,k4,_,rfl⟩
  cases h
  rw [h1.uniq (m:=7) actC_length actC_inj k1,h2.uniq (m:=3) cdayC_length cdayC_inj k2,h3.uniq (m:=1) intC_length intC_inj k3,h4.uniq (m:=3) readC_length readC_inj k4]
 shut h:=h
theorem rdE_bx {r:List CAct} {d:List CDay} {b:CBox} {acts:List Int} {l:List CRead} (h:¬ bxE r d b=0):rdE r d b acts l=bxE r d b:=by
 have:actE r d b acts=bxE r d b:=by unfold actE; rw [if_neg h]
 unfold rdE
 rw [this,if_neg h]
set_option maxHeartbeats 2000000 in
theorem run60r {ov:Ov} (ho:∀ args w,ov 60 args w=none) (h39:HasP ov 39 S39.F) (h76:HasP ov 76 S76.F) (h52:HasP ov 52 S52.F) (r:List CAct) (d:List CDay) (b:CBox) (acts:List Int) (l:List CRead) (rv dv av lv:Value) (w:AW) (hrv:RowsV actC w rv r) (hdv:RowsV cdayC w dv d) (hav:RowsV intC w av acts) (hlv:RowsV readC w lv l) (hcap:CapV av):∃ x w',(run Tryd.prog ov 2).call 60 [rv,dv,.agg ⟨boxC b⟩,av,lv] w .none=.ok (.ret x) w' .none∧x=.int .i64 (rdE r d b acts l):=by
 refine call_wp text60 (by simp) (ho _ _) ?_
 obtain ⟨w1,hw1⟩:∃ w1:AW,w1=⟨w.heap.put w.next (some (.cells [.int .i64 b.wl,.int .i64 b.wh,.int .i64 b.sl,.int .i64 b.sh] 27 false)),w.next + 1,w.lim⟩:=⟨_,rfl⟩
 have u1:Up w w1:=by rw [hw1]; exact (Up.refl w).add _
 have hl42:=fun w2=>len42V (w':=w2) hlv
 have hl28:=fun w2=>len28V (w':=w2) hav
 have r76:=S76.call1 (P:=Tryd.prog) h76 (w:=w1) ⟨rv,dv,r,d,b,rfl,hrv.up u1,hdv.up u1,rfl⟩
 by_cases hE:bxE r d b=0
 case neg =>
  rw [rdE_bx hE]
  rw [hw1] at r76
  simp only [boxC] at r76 ⊢
  simp [mc60,r76,hE,cellsOf_agg,tupV]
 obtain ⟨hR,hD,_⟩:=bx_of hE
 have r52:=S52.call1 (P:=Tryd.prog) h52 (w:=w1) ⟨rv,dv,av,r,d,acts,rfl,hrv.up u1,hdv.up u1,hav.up u1,hcap,hR,hD,rfl⟩
 rw [hE] at r76
 rw [hw1] at r76 r52
 simp only [boxC] at r76 r52 ⊢
 cases hs:stgF r d startS acts with
 | none =>
  have e:canB r d acts=false:=by unfold canB; rw [hs]; rfl
  have e2:actE r d b acts=63:=by unfold actE; rw [if_pos hE,hs]
  have e3:rdE r d b acts l=63:=by unfold rdE; rw [e2,if_neg (by decide)]
  rw [e] at r52
  simp [mc60,r76,r52,cellsOf_agg,tupV,e3]
 | some s =>
  have e:canB r d acts=true:=by unfold canB; rw [hs]; rfl
  have e2:actE r d b acts=0:=by unfold actE; rw [if_pos hE,hs]
  have e3:rdE r d b acts l=if rdsB (acts.length:Nat) l=true then 0 else 64:=by unfold rdE; rw [e2,if_pos rfl]
  rw [e] at r52
  obtain ⟨n,hn⟩:∃ n,n=acts.length:=⟨_,rfl⟩
  rw [← hn] at hl28 e3
  have h14:n≤14:=by have:=stg_len hR hs; have:=days_len hD; omega
  simp [mc60,r76,r52,cellsOf_agg,hl42]
  rw [← hw1]
  by_cases h10:l.length≤10
  case neg =>
   have h10':¬ (l.length:Int)≤10:=by omega
   have hf:rdsB (n:Nat) l=false:=by unfold rdsB; rw [decide_eq_false h10]; rfl
   refine wp_seqX (wp_blockX (wp_rounds (fun i t w'=>i=0∧tget t 12=.bool false∧tget t 13=.int .i64 0) 20 (by decide) ⟨rfl,by simp [h10,h10'],by simp⟩ ?_))
   rintro i t w' ⟨rfl,t12,t13⟩
   simp [mc60_l0,t12,t13,tupV,e3,hf]
  have h10':(l.length:Int)≤10:=by omega
  refine wp_seqX (wp_blockX (wp_rounds (fun i t w'=>w'=w1∧tget t 3=av∧tget t 4=lv∧tget t 12=.bool ((l.take i).all (rdB n))∧tget t 13=.int .i64 ((i:Nat):Int)∧i≤l.length) 20 (by decide) ⟨rfl,by simp,by simp,by simp [h10,h10'],by simp,Nat.zero_le _⟩ ?_))
  rintro i t w' ⟨rfl,t3,t4,t12,t13,hi⟩
  have hall:∀ q:Bool,(l.take i).all (rdB n)=q→i=l.length→rdsB (n:Nat) l=q:=fun q hq e=>by
   subst e
   rw [List.take_length] at hq
   unfold rdsB
   rw [decide_eq_true h10,Bool.true_and]; exact hq
  cases hb:(l.take i).all (rdB n) with
  | false =>
   rw [hb] at t12
   have hf:rdsB (n:Nat) l=false:=by
    unfold rdsB
    rw [decide_eq_true h10,Bool.true_and,← Bool.not_eq_true,List.all_eq_true]
    intro h
    have:(l.take i).all (rdB n)=true:=List.all_eq_true.2 fun p hp=>h p (List.mem_of_mem_take hp)
    rw [hb] at this; cases this
   simp [mc60_l0,t12,t13,tupV,e3,hf]
  | true =>
   rw [hb] at t12
   by_cases hlt:i < l.length
   ·obtain ⟨p,hp⟩:∃ p,l[i]?=some p:=⟨_,List.getElem?_eq_getElem hlt⟩
    obtain ⟨bb,off,sq,c,rfl,hra⟩:=hlv.at_ i hlt
    have hsame:=u1.at hra.2
    have f0:=hra.rd1 (j:=0) readC_length hp (x:=.int .i64 p.day) rfl
    have f1:=hra.rd1 (j:=1) readC_length hp (x:=.int .i64 p.read) rfl
    have f2:=hra.rd1 (j:=2) readC_length hp (x:=.int .i64 p.wrong) rfl
    rw [← hsame] at f0 f1 f2
    rw [Nat.add_zero] at f0
    have hib:=fun w=>ia42 w ⟨bb,off,sq⟩ l.length c .i64 i hlt
    have hw1':IntKind.wrap .i64 ((i:Int) + 1)=(i:Int) + 1:=wrap64_in (by omega) (by omega)
    have r39:=fun n a b w=>S39.call1 (P:=Tryd.prog) h39 (w:=w) ⟨n,a,b,rfl,rfl⟩
    have htk:(l.take (i + 1)).all (rdB n)=rdB n p:=by rw [take_snoc hp,List.all_append,hb]; simp
    have hrd:rdB n p=(inI 0 p.day n && (inI 0 p.read 1010000 && inI 0 p.wrong 10000)):=rfl
    rw [hrd] at htk
    cases h0:inI 0 p.day n with
    | false =>
     rw [h0] at htk
     simp [mc60_l0,t3,t4,t12,t13,hl42,hl28,hlt,hib,f0,f1,f2,r39,h0,hw1']
     exact ⟨by omega,by simpa using htk,hlt⟩
    | true =>
     cases h1:inI 0 p.read 1010000 with
     | false =>
      rw [h0,h1] at htk
      simp [mc60_l0,t3,t4,t12,t13,hl42,hl28,hlt,hib,f0,f1,f2,r39,h0,h1,hw1']
      exact ⟨by omega,by simpa using htk,hlt⟩
     | true =>
      rw [h0,h1] at htk
      simp [mc60_l0,t3,t4,t12,t13,hl42,hl28,hlt,hib,f0,f1,f2,r39,h0,h1,hw1']
      exact ⟨by omega,by simpa using htk.symm,hlt⟩
   ·have hi':i=l.length:=by omega
    have hT:=hall true hb hi'
    subst hi'
    simp [mc60_l0,t4,t12,t13,hl42,tupV,e3,hT]
theorem moL_take (L V D:List Sp) {i:Nat} (h:i < L.length + 1):(moL L V D).take (i + 1)=(moL L V D).take i++[(moI (gtS D i).1 (gtS V (L.length + 1)).2,moI (gtS V i).2 (gtS V (L.length + 1)).1)]:=take_snoc (moL_at h)
set_option maxHeartbeats 4000000 in
theorem loop67 {ov:Ov} {Q:Ex→Tm→AW→Prop} (m:Nat) (h61:HasP ov 61 S61.F) (L V W D:List Sp) (hlen:L.length≤14) (hL:LosW (losL L)) (ok:WeiOk L V W) (dok:DryOk L V D) (BW BX C11:Nat) (f g:Nat→Sp) (hf:∀ k,k≤L.length→f k=gtS V k) (hg:∀ k,k≤L.length→g k=gtS D k) (w1:AW) (t:Tm) (hlim:w1.lim < w1.next)
  (gW:w1.heap.get BW=some (.cells (RowF L.length f) 25 false)) (gX:w1.heap.get BX=some (.cells (RowF L.length g) 25 false)) (g11:w1.heap.get C11=some (.cells [.int .i64 (gtS V (L.length + 1)).1,.int .i64 (gtS V (L.length + 1)).2] 25 false)) (b1:BW < w1.next) (b2:BX < w1.next) (b3:C11 < w1.next)
  (t10:tget t 10=.slice (some ⟨BW,0,none⟩) (L.length + 1) (L.length + 1)) (t11:tget t 11=.pointer (some ⟨C11,0,none⟩)) (t14:tget t 14=.slice (some ⟨BX,0,none⟩) (L.length + 1) (L.length + 1)) (t17:tget t 17=.slice none 0 0) (t18:tget t 18=.int .i64 0)
  (hQ:∀ t' w',Up w1 w'→AccR spC 25 (w1.next - 1) w' (tget t' 17) (moL L V D)→Q .normal t' w') :
  wp (exM Tryd.prog (run Tryd.prog ov (m + 1)) (.block 0 (.loop mc67_l0)) t w1) Q:=by
 refine wp_blockX (wp_rounds (fun i t' w'=>Up w1 w'∧AccR spC 25 (w1.next - 1) w' (tget t' 17) ((moL L V D).take i)∧tget t' 10=.slice (some ⟨BW,0,none⟩) (L.length + 1) (L.length + 1)∧tget t' 11=.pointer (some ⟨C11,0,none⟩)∧tget t' 14=.slice (some ⟨BX,0,none⟩) (L.length + 1) (L.length + 1)∧tget t' 18=.int .i64 ((i:Nat):Int)∧i≤L.length + 1) 30 (by decide) ⟨Up.refl _,by rw [t17]; simpa using AccR.nil,t10,t11,t14,t18,by omega⟩ ?_)
 rintro i t' w' ⟨hup,hacc,s10,s11,s14,s18,hi⟩
 have hnx:=hup.next
 have hlm:=hup.lim
 by_cases hlt:i < L.length + 1
 ·have hlt':(i:Int) < (L.length:Int) + 1:=by omega
  obtain ⟨cs,hcs⟩:∃ cs,cs=RowF L.length f:=⟨_,rfl⟩
  obtain ⟨ds,hds⟩:∃ ds,ds=RowF L.length g:=⟨_,rfl⟩
  have X:=rowX hcs (k:=i) (by omega)
  have Y:=rowX hds (k:=i) (by omega)
  rw [← hcs] at gW
  rw [← hds] at gX
  have kW:=(hup.at b1).trans gW
  have kX:=(hup.at b2).trans gX
  have k11:=(hup.at b3).trans g11
  obtain ⟨m1,m2⟩:=mo_fits hL ok dok (k:=i) (by omega)
  have o1:=X.hi
  have o2:=Y.lo
  rw [hf i (by omega)] at o1
  rw [hg i (by omega)] at o2
  have hia:=fun w=>ia43 w ⟨BW,0,none⟩ (L.length + 1) (L.length + 1) .i64 i hlt
  have hib:=fun w=>ia43 w ⟨BX,0,none⟩ (L.length + 1) (L.length + 1) .i64 i hlt
  have r61a:=fun w=>S61.call (P:=Tryd.prog) h61 (m:=m) (w:=w) ⟨_,_,rfl,m1,rfl⟩
  have r61b:=fun w=>S61.call (P:=Tryd.prog) h61 (m:=m) (w:=w) ⟨_,_,rfl,m2,rfl⟩
  have hw1:IntKind.wrap .i64 ((i:Int) + 1)=(i:Int) + 1:=wrap64_in (by omega) (by omega)
  obtain ⟨v',w2,ha,hacc',hk,hn2,hl2⟩:=AccR.push (P:=Tryd.prog) (st:=43) (sz:=2) list43 elem43 sz25 small25 spC_length (fun _=>rfl) (by decide) hacc (by omega) (by omega) (by rw [List.length_take]; omega) (moI (gtS D i).1 (gtS V (L.length + 1)).2,moI (gtS V i).2 (gtS V (L.length + 1)).1)
  rw [← moL_take L V D hlt] at hacc'
  simp only [spC] at ha
  simp [mc67_l0,s10,s11,s14,s18,hlt',hlt,hia,hib,kW,kX,k11,o1,o2,r61a,r61b,ha,hw1]
  exact ⟨by omega,⟨fun q hq=>by rw [hk q (by omega)]; exact hup.at hq,by omega,by omega⟩,hacc',by omega⟩
 ·have hi':i=L.length + 1:=by omega
  have hlt':¬ ((i:Nat):Int) < (L.length:Int) + 1:=by omega
  have hlt2:¬ i < L.length + 1:=hlt
  rw [hi',List.take_of_length_le (by simp)] at hacc
  simp [mc67_l0,s10,s18,hlt',hlt2]
  exact hQ _ _ hup (by simpa using hacc)
def AnsM (b:CBox) (L:List Sp) (l:List CRead) (w':AW) (v:Value):Prop :=
 if okB b L l=true then ∃ v1 V D,v=.tuple ⟨[v1,.bool true]⟩∧notJunk v1=some v1∧weighF b L l=some V∧dryF L V=some D∧RowsV spC w' v1 (moL L V D) else v=.tuple ⟨[.slice none 0 0,.bool false]⟩
set_option maxHeartbeats 8000000 in
theorem call67 {ov:Ov} (m:Nat) (ho:∀ args w,ov 67 args w=none) (ho65:∀ args w,ov 65 args w=none) (h61:HasP ov 61 S61.F) (h87:HasP ov 87 S87.F) (r:List CAct) (acts:List Int) (h14:acts.length≤14) (hlos:LosW (losL (lossL r acts))) (hact:∀ a ∈ acts,0≤a∧∃ x,r[a.toNat]?=some x) (b:CBox) (hb:boxB b=true) (l:List CRead) (hRd:rdsB (acts.length:Nat) l=true) (rv av lv:Value) (we:AW) (hlim:we.lim≤we.next) (hrv:RowsV actC we rv r) (hav:RowsV intC we av acts) (hlv:RowsV readC we lv l) :
  ∃ v w',(run Tryd.prog ov (m + 3)).call 67 [rv,.agg ⟨boxC b⟩,av,lv] we .none=.ok (.ret v) w' .none∧AnsM b (lossL r acts) l w' v∧Up we w':=by
 refine call_wp text67 (by simp) (ho _ _) ?_
 have nj:notJunk (.slice none 0 0)=some (.slice none 0 0):=rfl
 have hLl:(lossL r acts).length=acts.length:=lossL_length r acts
 obtain ⟨w1,hw1⟩:∃ w1:AW,w1=⟨we.heap.put we.next (some (.cells [.int .i64 b.wl,.int .i64 b.wh,.int .i64 b.sl,.int .i64 b.sh] 27 false)),we.next + 1,we.lim⟩:=⟨_,rfl⟩
 have u1:Up we w1:=by rw [hw1]; exact (Up.refl we).add _
 have n1:w1.next=we.next + 1:=by rw [hw1]
 have l1:=u1.lim
 have g1:w1.heap.get we.next=some (.cells [.int .i64 b.wl,.int .i64 b.wh,.int .i64 b.sl,.int .i64 b.sh] 27 false):=by rw [hw1]; simp
 obtain ⟨v65,w2,c65,⟨BW,rfl,gB,hB1,hB2⟩,u2⟩:=call65 (ov:=ov) m ho65 h87 r acts h14 hlos hact b hb l hRd rv av lv w1 (by omega) (hrv.up u1) (hav.up u1) (hlv.up u1)
 have hn2:=u2.next
 have hl2:=u2.lim
 have g2:=(u2.at (show we.next < w1.next by omega)).trans g1
 obtain ⟨hoi,hoV⟩:=ref_wei (l:=l) hb hlos (by omega)
 rw [hw1] at c65
 have lw2:w2.lim≤w2.next:=by omega
 have e1:¬ we.next=w2.next:=by omega
 have e2:¬ w2.next=we.next:=by omega
 simp only [boxC,spC] at c65 ⊢
 unfold AnsM
 cases ho:okB b (lossL r acts) l with
 | false =>
  rw [ho] at c65
  simp [mc67,cellsOf_agg,c65,lw2,nj,tupV]
  exact (((u1.trans u2).add _).put (by omega) (Nat.le_refl _))
 | true =>
  rw [ho] at c65 hoi
  obtain ⟨V,hV⟩:=Option.isSome_iff_exists.1 hoi.symm
  have wok:=weigh_ok hb hlos (by omega) hV
  obtain ⟨D,hD,dok⟩:=dry_ok hlos (by omega) wok
  obtain ⟨hb',D',hD',hDD⟩:=dry_box hb hlos (by omega) wok dok
  have hs:=hoV V hV (acts.length + 1) (by omega)
  rw [← hLl] at hs gB c65
  obtain ⟨L,hLe⟩:∃ L,L=lossL r acts:=⟨_,rfl⟩
  rw [← hLe] at hLl hlos gB c65 hs hoV hV wok hD dok hb' hD' hDD ⊢
  obtain ⟨s1,hs1⟩:∃ s,s=(gtS V (L.length + 1)).1:=⟨_,rfl⟩
  obtain ⟨s2,hs2⟩:∃ s,s=(gtS V (L.length + 1)).2:=⟨_,rfl⟩
  rw [hs,← hs1,← hs2] at c65
  obtain ⟨b',hbe⟩:∃ b':CBox,b'={ b with sl:=s2,sh:=s2 }:=⟨_,rfl⟩
  rw [← hs2,← hbe] at hb' hD'
  obtain ⟨w3,hw3⟩:∃ w3:AW,w3=⟨((((w2.heap.put w2.next (some (.cells [.int .i64 0,.int .i64 0] 25 false))).put w2.next (some (.cells [.int .i64 s1,.int .i64 s2] 25 false))).put (w2.next + 1) (some (.cells [.int .i64 0,.int .i64 0,.int .i64 0,.int .i64 0] 27 false))).put (w2.next + 1) (some (.cells [.int .i64 b.wl,.int .i64 b.wh,.int .i64 b.sl,.int .i64 b.sh] 27 false))).put (w2.next + 1) (some (.cells [.int .i64 b.wl,.int .i64 b.wh,.int .i64 s2,.int .i64 s2] 27 false)),w2.next + 1 + 1,w2.lim⟩:=⟨_,rfl⟩
  have u3:Up w2 w3:=by rw [hw3]; exact (((((Up.refl w2).add _).put (Nat.le_refl _) (Nat.le_succ _)).put (Nat.le_succ _) (Nat.le_refl _)).put (Nat.le_succ _) (Nat.le_refl _)).put (Nat.le_succ _) (Nat.le_refl _)
  have n3:w3.next=w2.next + 1 + 1:=by rw [hw3]
  have l3:=u3.lim
  have u13:=u1.trans (u2.trans u3)
  have g11:w3.heap.get w2.next=some (.cells [.int .i64 s1,.int .i64 s2] 25 false):=by rw [hw3]; simp
  obtain ⟨v4,w4,c65b,⟨BX,rfl,gX,hX1,hX2⟩,u4⟩:=call65 (ov:=ov) m ho65 h87 r acts h14 (by rw [← hLe]; exact hlos) hact b' hb' l hRd rv av lv w3 (by omega) (hrv.up u13) (hav.up u13) (hlv.up u13)
  rw [← hLe] at c65b gX
  rw [← hLl] at c65b gX
  have hn4:=u4.next
  have hl4:=u4.lim
  obtain ⟨hoi',hoV'⟩:=ref_wei (l:=l) hb' (L:=L) hlos (by omega)
  rw [hD'] at hoi'
  simp only [Option.isSome_some] at hoi'
  rw [hoi',hw3] at c65b
  have hfV:∀ k,k≤L.length→refB b L l k=gtS V k:=fun k hk=>hoV V hV k (by omega)
  have hgD:∀ k,k≤L.length→refB b' L l k=gtS D k:=fun k hk=>by rw [hoV' D' hD' k (by omega),hDD k (by omega)]
  obtain ⟨S4,hS4⟩:∃ S4,S4=refB b' L l (L.length + 1):=⟨_,rfl⟩
  rw [← hS4] at c65b
  have hbc:boxC b'=[.int .i64 b.wl,.int .i64 b.wh,.int .i64 s2,.int .i64 s2]:=by rw [hbe]; rfl
  rw [hbc] at c65b
  simp only [spC] at c65b
  have lw21:w2.lim≤w2.next + 1:=by omega
  have lw4:w4.lim≤w4.next:=by omega
  obtain ⟨w5,hw5⟩:∃ w5:AW,w5=⟨(w4.heap.put w4.next (some (.cells [.int .i64 0,.int .i64 0] 25 false))).put w4.next (some (.cells [.int .i64 S4.1,.int .i64 S4.2] 25 false)),w4.next + 1,w4.lim⟩:=⟨_,rfl⟩
  have u5:Up w4 w5:=by rw [hw5]; exact ((Up.refl w4).add _).put (Nat.le_refl _) (Nat.le_refl _)
  have n5:w5.next=w4.next + 1:=by rw [hw5]
  have l5:=u5.lim
  simp [mc67,cellsOf_agg,c65,lw2,lw21,g2,e1,e2,c65b,lw4]
  rw [← hw5]
  refine wp_seqX (loop67 (m + 1) h61 L V (iniW b L l) D (by omega) hlos wok dok BW BX w2.next (refB b L l) (refB b' L l) hfV hgD w5 _ (by omega) (((u3.trans u4).trans u5).at hB2 |>.trans gB) ((u5.at hX2).trans gX) ?_ (by omega) (by omega) (by omega) (by simp) (by simp) (by simp) (by simp) (by simp) ?_)
  ·rw [← hs1,← hs2]
   exact ((u4.trans u5).at (by omega)).trans g11
  intro t' w' hup hacc
  have nja:=hacc.ok
  simp [nja,tupV]
  exact ⟨⟨V,hV,D,hD,hacc.rows⟩,(((u13.trans u4).trans u5).trans hup)⟩
theorem u9:Tryd.prog.underlying 9=some .string:=by kernel_rfl
theorem catS {w:AW} (c:Bool) (a b:List UInt8) (h:a.length≤1000) (h2:b.length≤1000):(binW Tryd.prog .add 9 c).val (.string ⟨⟨a⟩⟩) (.string ⟨⟨b⟩⟩) w=.val (.string ⟨⟨a++b⟩⟩) w:=by
 show vR w (addA (.string ⟨⟨a⟩⟩) (.string ⟨⟨b⟩⟩))=_
 have e:Nat.ble (lenL a (lenL b 0)) 1000000=true:=by
  rw [lenL_eq,lenL_eq]
  exact Nat.ble_eq_true_of_le (by omega)
 simp only [addA,e,cond_true,catA,appL_eq]
 rfl
theorem slM (w:AW) (L:List UInt8) {k n:Nat} (hk:k≤n) (hn:n≤L.length):sliceA Tryd.prog w 9 (.string ⟨⟨L⟩⟩) (some (.int .i64 (k:Int))) (some (.int .i64 (n:Int))) none=.val (.string ⟨⟨(L.take n).drop k⟩⟩) w:=by
 show sliceA Tryd.prog w 9 (.string ⟨⟨L⟩⟩) (some (.int .i64 (Int.ofNat k))) (some (.int .i64 (Int.ofNat n))) none=_
 have e:bytesOf ⟨⟨L⟩⟩=L:=rfl
 have hb:Nat.ble k n=true:=Nat.ble_eq_true_of_le hk
 have hc:Nat.ble n L.length=true:=Nat.ble_eq_true_of_le hn
 simp [sliceA,sliceB1,u9,sliceStr,boundA,e,lenL0,hb,hc,takeL_eq,dropL_eq]
section
variable {ov:Ov}
theorem dec1 (ho:∀ args w,ov 106 args w=none) (m n:Nat) (hn:n≤9) (w:AW):(run Tryd.prog ov (m + 1)).call 106 [.int .i64 (n:Int)] w .none=.ok (.ret (.string ⟨⟨decN n⟩⟩)) w .none:=by
 have key:∃ v w',(run Tryd.prog ov (m + 1)).call 106 [.int .i64 (n:Int)] w .none=.ok (.ret v) w' .none∧v=.string ⟨⟨decN n⟩⟩∧w'=w:=by
  refine call_wp text106 (by simp) (ho _ _) ?_
  have h1:¬ (n:Int) < 0:=by omega
  have h2:¬ (9:Int) < (n:Int):=by omega
  have h2':¬ 9 < n:=by omega
  have hw:IntKind.wrap .i64 ((n:Int) + 1)=(n:Int) + 1:=wrap64_in (by omega) (by omega)
  have e:decN n=(dgL.take (n + 1)).drop n:=by unfold decN; rw [if_pos hn]
  have hs:=fun w=>slM w dgL (k:=n) (n:=n + 1) (Nat.le_succ _) (by show n + 1≤10; omega)
  rw [← e] at hs
  simp only [dgL,Int.natCast_add,Int.natCast_one] at hs
  simp [mc106,h1,h2,h2',hw,hs,tupV]
 obtain ⟨v,w',h,rfl,rfl⟩:=key
 exact h
theorem dec2 (ho:∀ args w,ov 106 args w=none) (m n:Nat) (hn:n < 20) (w:AW):(run Tryd.prog ov (m + 2)).call 106 [.int .i64 (n:Int)] w .none=.ok (.ret (.string ⟨⟨decN n⟩⟩)) w .none:=by
 by_cases h9:n≤9
 ·exact dec1 ho (m + 1) n h9 w
 ·have key:∃ v w',(run Tryd.prog ov (m + 2)).call 106 [.int .i64 (n:Int)] w .none=.ok (.ret v) w' .none∧v=.string ⟨⟨decN n⟩⟩∧w'=w:=by
   refine call_wp text106 (by simp) (ho _ _) ?_
   have h1:¬ (n:Int) < 0:=by omega
   have h2:(9:Int) < (n:Int):=by omega
   have h2':9 < n:=by omega
   have q1:((n:Int)).tdiv 10=1:=by rw [Int.tdiv_eq_ediv_of_nonneg (by omega)]; omega
   have q2:((n:Int)).tmod 10=((n - 10:Nat):Int):=by rw [Int.tmod_eq_emod_of_nonneg (by omega)]; omega
   have hq:=fun (c:Bool) w=>bin_quo (P:=Tryd.prog) (w:=w) 3 c .i64 (n:Int) 10 (by decide)
   have hr:=fun (c:Bool) w=>bin_rem (P:=Tryd.prog) (w:=w) 3 c .i64 (n:Int) 10 (by decide)
   rw [q1] at hq
   rw [q2] at hr
   have e1:IntKind.wrap .i64 1=1:=by decide
   have d1:=fun w=>dec1 ho m 1 (by decide) w
   have d2:=fun w=>dec1 ho m (n - 10) (by omega) w
   simp only [Int.natCast_one] at d1
   obtain ⟨y,hy⟩:∃ y,y=((n - 10:Nat):Int):=⟨_,rfl⟩
   rw [← hy] at hr d2
   have ed1:decN 1=[49]:=by decide
   have l2:(decN (n - 10)).length≤1000:=by
    have:∀ k:Fin 20,(decN k.1).length≤2:=by decide
    have h3:(decN (n - 10)).length≤2:=this ⟨n - 10,by omega⟩
    omega
   have hc:=fun w=>catS (w:=w) false [49] (decN (n - 10)) (by decide) l2
   have e:decN n=[49]++decN (n - 10):=by
    unfold decN
    rw [if_neg h9,if_pos (by omega)]
   rw [ed1] at d1
   simp [mc106,h1,h2,h2',hq,hr,e1,d1,d2,hc,tupV,e]
  obtain ⟨v,w',h,rfl,rfl⟩:=key
  exact h
theorem get28 {w:AW} {v:Value} {l:List Int} (h:RowsV intC w v l) {z:Int} {n:Nat} (hz:z=(n:Int)) {y:Int} (hy:l[n]?=some y):∃ p:Addr,(∀ w',indexAddrA Tryd.prog w' 28 v (.int .i64 z)=.val (.pointer (some p)) w')∧rd1O (w.heap.get p.block) p.off=some (.int .i64 y)∧p.block < w.next:=by
 have hn:=(List.getElem?_eq_some_iff.1 hy).1
 obtain ⟨b,off,sq,c,rfl,hr⟩:=h.at_ n hn
 refine ⟨Addr.add ⟨b,off,sq⟩ (n * 1),fun w'=>by rw [hz]; exact ia28 w' ⟨b,off,sq⟩ l.length c .i64 n hn,?_,by simpa using hr.2⟩
 have:=hr.int hy
 simpa using this
theorem cntK_len (so:List Int) (h:Good so):∀ n,(cntK so n).length≤3 * n
 | 0=>by simp [cntK]
 | n + 1=>by
  rw [cntK_succ,List.length_append,List.length_cons]
  have:=cntK_len so h n
  have k:∀ k:Fin 20,(decN k.1).length≤2:=by decide
  have:=k ⟨cntA so n,cntA_le h n⟩
  simp only at this
  omega
theorem dec_len {n:Nat} (h:n < 20):(decN n).length≤2:=by
 have k:∀ k:Fin 20,(decN k.1).length≤2:=by decide
 exact k ⟨n,h⟩
theorem loop96b (m:Nat) (v:Value) (so:List Int) (hg:Good so) (a:Nat) (w:AW) (hv:RowsV intC w v so) (Q:Ex→Tm→AW→Prop) (t:Tm) (t0:tget t 0=v) (s3:Value) (t3:tget t 3=s3) (t4:tget t 4=.int .i64 (a:Int)) (t5:tget t 5=.int .i64 0) (t6:tget t 6=.int .i64 0)
  (hQ:∀ t,tget t 0=v→tget t 3=s3→tget t 4=.int .i64 (a:Int)→tget t 5=.int .i64 (cntA so a:Int)→Q (.exit 2) t w):wp (exM Tryd.prog (run Tryd.prog ov m) (.loop mc96_l1) t w) Q:=by
 have hlen:=hg.1
 refine wp_rounds (fun i t w'=>w'=w∧tget t 0=v∧tget t 3=s3∧tget t 4=.int .i64 (a:Int)∧tget t 5=.int .i64 (((so.take i).count (a:Int):Nat):Int)∧tget t 6=.int .i64 (i:Int)∧i≤so.length) 30 (by decide) ⟨rfl,t0,t3,t4,by simpa using t5,by simpa using t6,Nat.zero_le _⟩ ?_
 clear t0 t3 t4 t5 t6 t
 rintro i t w' ⟨hw',t0,t3,t4,t5,t6,hi⟩
 rw [hw']
 clear hw' w'
 have hln:=fun w'=>len28V (w':=w') hv
 by_cases hlt:i < so.length
 ·have hlt':(i:Int) < (so.length:Int):=by omega
  obtain ⟨z,hz⟩:∃ z,so[i]?=some z:=⟨_,List.getElem?_eq_getElem hlt⟩
  obtain ⟨p,hia,hd,_⟩:=get28 hv rfl hz
  have hw:IntKind.wrap .i64 ((i:Int) + 1)=(i:Int) + 1:=wrap64_in (by omega) (by omega)
  have hc1:(so.take i).count (a:Int)≤14:=by
   have:=List.count_le_length (a:=(a:Int)) (l:=so.take i)
   rw [List.length_take] at this
   omega
  have hw2:IntKind.wrap .i64 ((((so.take i).count (a:Int):Nat):Int) + 1)=(((so.take i).count (a:Int):Nat):Int) + 1:=wrap64_in (by omega) (by omega)
  have e:(so.take (i + 1)).count (a:Int)=(so.take i).count (a:Int) + if z=(a:Int) then 1 else 0:=by
   rw [List.take_add_one,hz,List.count_append]
   by_cases hza:z=(a:Int)
   ·simp [hza]
   ·simp [hza,List.count_cons]
  by_cases hza:z=(a:Int)
  ·rw [if_pos hza] at e
   have hzz:(((so.take (i + 1)).count (a:Int):Nat):Int)=(((so.take i).count (a:Int):Nat):Int) + 1:=by rw [e]; rfl
   simp [mc96_l1,t0,t3,t4,t5,t6,hln,hlt,hlt',hia,hd,hza,hw,hw2,hzz]
   omega
  ·rw [if_neg hza,Nat.add_zero] at e
   simp [mc96_l1,t0,t3,t4,t5,t6,hln,hlt,hlt',hia,hd,hza,hw,e]
   omega
 ·have hi':i=so.length:=by omega
  subst hi'
  rw [List.take_length] at t5
  simp [mc96_l1,t0,t6,hln]
  exact hQ _ (by simp [t0]) (by simp [t3]) (by simp [t4]) (by simp [t5,cntA])
theorem loop96a (m:Nat) (h106:∀ args w,ov 106 args w=none) (v:Value) (so:List Int) (hg:Good so) (w:AW) (hv:RowsV intC w v so) (Q:Ex→Tm→AW→Prop) (t:Tm) (t0:tget t 0=v) (t3:tget t 3=.string ⟨⟨decN so.length⟩⟩) (t4:tget t 4=.int .i64 0)
  (hQ:∀ t,tget t 0=v→tget t 3=.string ⟨⟨decN so.length++cntK so 5⟩⟩→Q (.exit 0) t w):wp (exM Tryd.prog (run Tryd.prog ov (m + 2)) (.loop mc96_l0) t w) Q:=by
 have hlen:=hg.1
 refine wp_rounds (fun a t w'=>w'=w∧tget t 0=v∧tget t 3=.string ⟨⟨decN so.length++cntK so a⟩⟩∧tget t 4=.int .i64 (a:Int)∧a≤5) 30 (by decide) ⟨rfl,t0,by rw [t3]; simp [cntK],by simpa using t4,Nat.zero_le _⟩ ?_
 clear t0 t3 t4 t
 rintro a t w' ⟨hw',t0,t3,t4,ha⟩
 rw [hw']
 clear hw' w'
 by_cases hlt:a < 5
 ·have hlt':(a:Int) < 5:=by omega
  have hw:IntKind.wrap .i64 ((a:Int) + 1)=(a:Int) + 1:=wrap64_in (by omega) (by omega)
  have hd:=fun w=>dec2 h106 m (cntA so a) (cntA_le hg a) w
  have l1:=dec_len (n:=so.length) (by omega)
  have l2:=cntK_len so hg a
  have l3:=dec_len (cntA_le hg a)
  have c1:=fun (c:Bool) w=>catS (w:=w) c [32] (decN (cntA so a)) (by decide) (by omega)
  have c2:=fun (c:Bool) w=>catS (w:=w) c (decN so.length++cntK so a) ([32]++decN (cntA so a)) (by rw [List.length_append]; omega) (by rw [List.length_append]; simp; omega)
  have e:decN so.length++cntK so (a + 1)=(decN so.length++cntK so a)++([32]++decN (cntA so a)):=by rw [cntK_succ,List.append_assoc]; rfl
  obtain ⟨S,hS⟩:∃ S,S=decN so.length++cntK so a:=⟨_,rfl⟩
  obtain ⟨D,hD⟩:∃ D,D=decN (cntA so a):=⟨_,rfl⟩
  obtain ⟨E,hE⟩:∃ E,E=[32]++D:=⟨_,rfl⟩
  rw [← hD] at hd c1 c2 e
  rw [← hS] at c2 e t3
  rw [← hE] at c1 c2 e
  simp [mc96_l0,t0,t3,t4,hlt,hlt']
  refine wp_seqX (wp_blockX (wp_seqX (wp_blockX (loop96b (m + 2) v so hg a w hv _ _ ?_ (.string ⟨⟨S⟩⟩) ?_ ?_ ?_ ?_ ?_))))
  ·simp [t0]
  ·simp; exact t3
  ·simp [t4]
  ·simp
  ·simp
  ·intro t s0 s3 s4 s5
   simp [s0,s3,s4,s5,hd,c1,c2,hw,e]
   omega
 ·have ha':a=5:=by omega
  subst ha'
  simp [mc96_l0,t4]
  exact hQ _ (by simp [t0]) (by simp [t3])
theorem runL_lt {a:Int}:∀ {l:List Int} {j:Nat},j < runL a l→l[j]?=some a
 | [],j,h=>by simp [runL] at h
 | b::l,j,h=>by
  have h:j < (if b=a then runL a l + 1 else 0):=h
  by_cases e:b=a
  ·rw [if_pos e] at h
   cases j with
   | zero=>simp [e]
   | succ j =>
    rw [List.getElem?_cons_succ]
    exact runL_lt (by omega)
  ·rw [if_neg e] at h; omega
theorem runL_at {a:Int}:∀ {l:List Int},l[runL a l]? ≠ some a
 | []=>by simp [runL]
 | b::l=>by
  by_cases e:b=a
  ·have h:runL a (b::l)=runL a l + 1:=by show (if b=a then runL a l + 1 else 0)=_; rw [if_pos e]
   rw [h,List.getElem?_cons_succ]
   exact runL_at
  ·have h:runL a (b::l)=0:=by show (if b=a then runL a l + 1 else 0)=_; rw [if_neg e]
   rw [h,List.getElem?_cons_zero]
   intro k
   exact e (Option.some.inj k)
theorem loop96c (m:Nat) (v:Value) (so:List Int) (hg:Good so) (w:AW) (hv:RowsV intC w v so) (s3:Value) (Q:Ex→Tm→AW→Prop) (t:Tm) (t0:tget t 0=v) (t3:tget t 3=s3) (t7:tget t 7=.int .i64 0)
  (hQ:∀ t,tget t 0=v→tget t 3=s3→tget t 7=.int .i64 (runA so:Int)→Q (.exit 4) t w):wp (exM Tryd.prog (run Tryd.prog ov m) (.loop mc96_l2) t w) Q:=by
 have hlen:=hg.1
 have hrl:=runA_le so
 refine wp_rounds (fun j t w'=>w'=w∧tget t 0=v∧tget t 3=s3∧tget t 7=.int .i64 (j:Int)∧j≤runA so) 30 (by decide) ⟨rfl,t0,t3,by simpa using t7,Nat.zero_le _⟩ ?_
 clear t0 t3 t7 t
 rintro j t w' ⟨hw',t0,t3,t7,hj⟩
 rw [hw']
 clear hw' w'
 have hln:=fun w'=>len28V (w':=w') hv
 by_cases hlt:j < so.length
 ·have hlt':(j:Int) < (so.length:Int):=by omega
  have hne:so ≠ []:=fun e=>by rw [e] at hlt; exact absurd hlt (Nat.not_lt_zero _)
  obtain ⟨z,hz⟩:∃ z,so[so.length - 1 - j]?=some z:=⟨_,List.getElem?_eq_getElem (by omega)⟩
  have hz2:so[so.length - 1]?=some (lastA so):=by
   unfold lastA
   rw [List.getLast?_eq_getElem?,List.getElem?_eq_getElem (by omega)]; rfl
  have hzr:so.reverse[j]?=some z:=by
   rw [List.getElem?_reverse (by omega)]; exact hz
  obtain ⟨p,hia,hd,_⟩:=get28 hv (z:=(so.length:Int) - 1 - (j:Int)) (by omega) hz
  obtain ⟨q,hiq,hq,_⟩:=get28 hv (z:=(so.length:Int) - 1) (by omega) hz2
  have w1':IntKind.wrap .i64 ((so.length:Int) - 1)=(so.length:Int) - 1:=wrap64_in (by omega) (by omega)
  have w2':IntKind.wrap .i64 ((so.length:Int) - 1 - (j:Int))=(so.length:Int) - 1 - (j:Int):=wrap64_in (by omega) (by omega)
  have w3':IntKind.wrap .i64 ((j:Int) + 1)=(j:Int) + 1:=wrap64_in (by omega) (by omega)
  by_cases he:z=lastA so
  ·have hj2:j < runA so:=by
    rcases Nat.lt_or_ge j (runA so) with h | h
    ·exact h
    ·exfalso
     have:j=runA so:=by omega
     rw [this,he] at hzr
     exact runL_at hzr
   simp [mc96_l2,t0,t3,t7,hln,hlt,hlt',w1',w2',w3',hia,hd,hiq,hq,he]
   omega
  ·have hj2:j=runA so:=by
    rcases Nat.lt_or_ge j (runA so) with h | h
    ·exfalso
     have:=runL_lt h
     rw [hzr] at this
     exact he (Option.some.inj this)
    ·omega
   simp [mc96_l2,t0,t3,t7,hln,hlt,hlt',w1',w2',hia,hd,hiq,hq,he]
   exact hQ _ (by simp [t0]) (by simp [t3]) (by simp [t7,hj2])
 ·have hlt':¬ (j:Int) < (so.length:Int):=by omega
  have hj2:j=runA so:=by omega
  simp [mc96_l2,t0,t3,t7,hln,hlt,hlt']
  exact hQ _ (by simp [t0]) (by simp [t3]) (by simp [t7,hj2])
theorem run96 (m:Nat) (ho:∀ args w,ov 96 args w=none) (h106:∀ args w,ov 106 args w=none) (v:Value) (so:List Int) (hg:Good so) (w:AW) (hv:RowsV intC w v so):(run Tryd.prog ov (m + 3)).call 96 [v] w .none=.ok (.ret (.string ⟨⟨keyL so⟩⟩)) w .none:=by
 have key:∃ x w',(run Tryd.prog ov (m + 3)).call 96 [v] w .none=.ok (.ret x) w' .none∧x=.string ⟨⟨keyL so⟩⟩∧w'=w:=by
  refine call_wp text96 (by simp) (ho _ _) ?_
  have hlen:=hg.1
  have hln:=fun w'=>len28V (w':=w') hv
  have hd0:=fun w=>dec2 h106 m so.length (by omega) w
  simp [mc96,hln,hd0]
  refine wp_seqX (wp_blockX (loop96a m h106 v so hg w hv _ _ ?_ ?_ ?_ ?_))
  ·simp
  ·simp
  ·simp
  ·intro t t0 t3
   obtain ⟨S,hS⟩:∃ S,S=decN so.length++cntK so 5:=⟨_,rfl⟩
   rw [← hS] at t3
   simp [t0,t3]
   refine wp_seqX (wp_blockX (loop96c (m + 2) v so hg w hv (.string ⟨⟨S⟩⟩) _ _ ?_ ?_ ?_ ?_))
   ·simp [t0]
   ·simp [t3]
   ·simp
   ·intro t t0 t3 t7
    have r1:=runA_le so
    have l1:=dec_len (n:=so.length) (by omega)
    have l2:=cntK_len so hg 5
    have lS:S.length≤17:=by rw [hS,List.length_append]; omega
    have l3:=dec_len (n:=runA so) (by omega)
    have hd1:=fun w=>dec2 h106 m (runA so) (by omega) w
    by_cases h0:so=[]
    ·have e0:so.length=0:=by rw [h0]; rfl
     have c1:=fun (c:Bool) w=>catS (w:=w) c S [32] (by omega) (by decide)
     have c2:=fun (c:Bool) w=>catS (w:=w) c (S++[32]) (decN (runA so)) (by rw [List.length_append]; simp; omega) (by omega)
     have e:keyL so=(S++[32])++decN (runA so):=by
      unfold keyL
      rw [if_pos h0,List.append_nil,← hS,List.append_assoc]; rfl
     have hln0:∀ w',lenB Tryd.prog w' 28 v=.val (.int .i64 0) w':=fun w'=>by rw [hln,e0]; rfl
     obtain ⟨S1,hS1⟩:∃ S1,S1=S++[32]:=⟨_,rfl⟩
     rw [← hS1] at c1 c2 e
     simp [t0,t3,t7,hln0,c1,hd1,c2,tupV,e]
    ·have hp:0 < so.length:=List.length_pos_iff.2 h0
     have hp':(0:Int) < (so.length:Int):=by omega
     have hz2:so[so.length - 1]?=some (lastA so):=by
      unfold lastA
      rw [List.getLast?_eq_getElem?,List.getElem?_eq_getElem (by omega)]; rfl
     obtain ⟨q,hiq,hq,_⟩:=get28 hv (z:=(so.length:Int) - 1) (by omega) hz2
     have w1':IntKind.wrap .i64 ((so.length:Int) - 1)=(so.length:Int) - 1:=wrap64_in (by omega) (by omega)
     have hm:=hg.2 _ (lastA_mem h0)
     obtain ⟨z,hz⟩:∃ z:Nat,lastA so=(z:Int):=⟨(lastA so).toNat,by omega⟩
     have hd2:=fun w=>dec2 h106 m z (by omega) w
     have l4:=dec_len (n:=z) (by omega)
     have c0:=fun (c:Bool) w=>catS (w:=w) c [32] (decN z) (by decide) (by omega)
     have c1:=fun (c:Bool) w=>catS (w:=w) c S ([32]++decN z) (by omega) (by rw [List.length_append]; simp; omega)
     have c2:=fun (c:Bool) w=>catS (w:=w) c (S++([32]++decN z)) [32] (by rw [List.length_append,List.length_append]; simp; omega) (by decide)
     have c3:=fun (c:Bool) w=>catS (w:=w) c ((S++([32]++decN z))++[32]) (decN (runA so)) (by rw [List.length_append,List.length_append,List.length_append]; simp; omega) (by omega)
     have e:keyL so=((S++([32]++decN z))++[32])++decN (runA so):=by
      unfold keyL
      rw [if_neg h0,hz,Int.toNat_natCast,← hS]
      simp [List.append_assoc]
     obtain ⟨D,hD⟩:∃ D,D=[32]++decN z:=⟨_,rfl⟩
     obtain ⟨S1,hS1⟩:∃ S1,S1=S++D:=⟨_,rfl⟩
     obtain ⟨S2,hS2⟩:∃ S2,S2=S1++[32]:=⟨_,rfl⟩
     rw [← hD] at c0 c1 c2 c3 e
     rw [← hS1] at c1 c2 c3 e
     rw [← hS2] at c2 c3 e
     rw [hz] at hq
     simp [t0,t3,t7,hln,hp,hp',h0,w1',hiq,hq,hd2,c0,c1,hd1,c2,c3,tupV,e]
 obtain ⟨v,w',h,rfl,rfl⟩:=key
 exact h
end
theorem src_any {w:AW} {v:Value} {L:List Int} (h:RowsV intC w v L):srcCells w 1 v=some (L.flatMap intC)∧lenA v=some L.length:=by
 rcases h with ⟨rfl,a,c,rfl⟩ | ⟨b,off,sq,c,rfl,⟨pre,rest,e,ro,h1,h2⟩,h3⟩
 ·exact ⟨by cases a <;> rfl,rfl⟩
 ·refine ⟨?_,rfl⟩
  have hlen:(L.flatMap intC).length=L.length * 1:=flat_length intC_length L
  rcases Nat.eq_zero_or_pos L.length with h0 | hp
  ·have:L=[]:=List.eq_nil_of_length_eq_zero h0
   subst this
   rfl
  ·show (bif Nat.beq (L.length * 1) 0 then some [] else rd w b off (L.length * 1))=_
   have e1:Nat.beq (L.length * 1) 0=false:=by rw [← Bool.not_eq_true]; intro h; have:=Nat.eq_of_beq_eq_true h; omega
   rw [e1,cond_false,rd_eq,h1,rdO_cells,if_pos (by rw [List.length_append,List.length_append,h2,hlen]; omega),← h2,List.drop_left,← hlen,List.take_left]
theorem app_empty {w:AW} {v:Value} {L:List Int} (hv:RowsV intC w v L) (hn:L.length≤1000) (hl:w.lim≤w.next) :
  ∃ B w',append1 Tryd.prog ⟨w.heap.put w.next (some (.cells [] 3 false)),w.next + 1,w.lim⟩ [28,28] [.slice (some ⟨w.next,0,none⟩) 0 0,v]=.val (.slice (some ⟨B,0,none⟩) L.length L.length) w'∧w'.heap.get B=some (.cells (L.flatMap intC) 3 false)∧w.next≤B∧B < w'.next∧w.next < w'.next∧w'.lim=w.lim∧∀ x,x < w.next→w'.heap.get x=w.heap.get x:=by
 have hv':RowsV intC ⟨w.heap.put w.next (some (.cells [] 3 false)),w.next + 1,w.lim⟩ v L:=hv.old (fun x hx=>by show (w.heap.put _ _).get x=_; rw [get_put,if_neg (by omega)]) (by show w.next≤w.next + 1; omega)
 obtain ⟨h5,h4⟩:=src_any hv'
 rcases Nat.eq_zero_or_pos L.length with h0 | hp
 ·have hL:L=[]:=List.eq_nil_of_length_eq_zero h0
  subst hL
  refine ⟨w.next,⟨w.heap.put w.next (some (.cells [] 3 false)),w.next + 1,w.lim⟩,?_,?_,Nat.le_refl _,Nat.lt_succ_self _,Nat.lt_succ_self _,rfl,?_⟩
  ·rw [append_eq list28 elem28 sz3 small3,h4,h5]
   rfl
  ·show (w.heap.put w.next _).get w.next=_
   rw [get_put,if_pos rfl]; rfl
  ·intro x hx
   show (w.heap.put _ _).get x=_
   rw [get_put,if_neg (by omega)]
 ·have:=append_full (P:=Tryd.prog) list28 elem28 sz3 small3 (w:=⟨w.heap.put w.next (some (.cells [] 3 false)),w.next + 1,w.lim⟩) (B:=w.next) (n:=0) (m:=L.length) (c:=[]) h4 h5 (by rw [flat_length intC_length]) (flat_singles (fun _=>by simp [intC]) _) hp (by omega) (by simp) (by simp) hl
  simp only [Nat.zero_add,List.nil_append] at this
  refine ⟨w.next + 1,_,this,?_,Nat.le_succ _,?_,?_,rfl,?_⟩
  ·show (((w.heap.put w.next _).put w.next none).put (w.next + 1) _).get (w.next + 1)=_
   rw [get_put,if_pos rfl]
  ·show w.next + 1 < w.next + 1 + 1; omega
  ·show w.next < w.next + 1 + 1; omega
  ·intro x hx
   show (((w.heap.put w.next _).put w.next none).put (w.next + 1) _).get x=_
   rw [get_put,if_neg (by omega),get_put,if_neg (by omega),get_put,if_neg (by omega)]
theorem call97 {ov:Ov} (m:Nat) (ho:∀ args w,ov 97 args w=none) (v:Value) (L:List Int) (z:Int) (w:AW) (hv:RowsV intC w v L) (hn:L.length≤1000) (hl:w.lim≤w.next) :
  ∃ x w',(run Tryd.prog ov (m + 1)).call 97 [v,.int .i64 z] w .none=.ok (.ret x) w' .none∧RowsV intC w' x (L++[z])∧Up w w':=by
 refine call_wp text97 (by simp) (ho _ _) ?_
 obtain ⟨B,w2,a1,g2,b1,b2,n2,m2,old2⟩:=app_empty hv hn hl
 obtain ⟨w3,hw3⟩:∃ w3,(⟨w2.heap.put w2.next (some (.cells [.int .i64 z] 3 false)),w2.next + 1,w2.lim⟩:AW)=w3:=⟨_,rfl⟩
 have n3:w3.next=w2.next + 1:=by rw [← hw3]
 have m3:w3.lim=w2.lim:=by rw [← hw3]
 have hz:RowsV intC w3 (.slice (some ⟨w2.next,0,none⟩) 1 1) [z]:=.inr ⟨w2.next,0,none,1,rfl,⟨[],[],3,false,by rw [← hw3]; simp [intC],rfl⟩,by omega⟩
 obtain ⟨k5,k4⟩:=src_any hz
 have g3:w3.heap.get B=some (.cells (L.flatMap intC) 3 false):=by
  rw [← hw3]
  show (w2.heap.put w2.next _).get B=_
  rw [get_put,if_neg (by omega)]
  exact g2
 have a2:=append_full (P:=Tryd.prog) list28 elem28 sz3 small3 (w:=w3) (B:=B) (n:=L.length) (m:=1) (c:=L.flatMap intC) k4 k5 (by simp [intC]) (flat_singles (fun _=>by simp [intC]) _) (by omega) (by omega) g3 (flat_length intC_length L) (by omega)
 obtain ⟨w4,hw4⟩:∃ w4,(⟨(w3.heap.put B none).put w3.next (some (.cells (L.flatMap intC++[z].flatMap intC) 3 false)),w3.next + 1,w3.lim⟩:AW)=w4:=⟨_,rfl⟩
 rw [hw4] at a2
 have nj:∀ (a:Addr) n c,notJunk (.slice (some a) n c)=some (.slice (some a) n c):=fun _ _ _=>rfl
 have vj:notJunk v=some v:=by obtain ⟨a,c,rfl⟩:=hv.len; rfl
 simp [mc97,vj,a1,hw3,a2,nj,tupV]
 have n4:w4.next=w3.next + 1:=by rw [← hw4]
 have l4:w4.lim=w3.lim:=by rw [← hw4]
 refine ⟨.inr ⟨w3.next,0,none,L.length + 1,by simp,⟨[],[],3,false,?_,rfl⟩,by omega⟩,⟨fun x hx=>?_,by omega,by omega⟩⟩
 ·rw [← hw4]
  show ((w3.heap.put B none).put w3.next _).get w3.next=_
  rw [get_put,if_pos rfl,List.flatMap_append]; simp
 ·rw [← hw4]
  show ((w3.heap.put B none).put w3.next _).get x=_
  rw [get_put,if_neg (by omega),get_put,if_neg (by omega),← hw3]
  show (w2.heap.put w2.next _).get x=_
  rw [get_put,if_neg (by omega)]
  exact old2 x hx
section
variable {ov:Ov}
theorem no_reads (n:Int):rdsB n []=true:=by simp [rdsB]
set_option maxHeartbeats 1000000 in
theorem call72 (m:Nat) (ho:∀ args w,ov 72 args w=none) (ho67:∀ args w,ov 67 args w=none) (ho65:∀ args w,ov 65 args w=none) (h61:HasP ov 61 S61.F) (h87:HasP ov 87 S87.F) {r:List CAct} {d:List CDay} {b:CBox} {acts:List Int} {lim:Sp} (hA:actE r d b acts=0) (rv av:Value) (w:AW) (hl:w.lim≤w.next) (hrv:RowsV actC w rv r) (hav:RowsV intC w av acts) :
  ∃ v w',(run Tryd.prog ov (m + 4)).call 72 [rv,.agg ⟨boxC b⟩,av,.agg ⟨spC lim⟩] w .none=.ok (.ret v) w' .none∧v=.bool (surB b (lossL r acts) lim)∧Up w w':=by
 refine call_wp text72 (by simp) (ho _ _) ?_
 obtain ⟨hR,hD,hB,st,hst⟩:=act_ofE hA
 obtain ⟨_,h14,hact⟩:=tru_ok hA
 have hlos:=los_ok hA
 have hLl:(lossL r acts).length=acts.length:=lossL_length r acts
 obtain ⟨w1,hw1⟩:∃ w1:AW,w1=⟨(w.heap.put w.next (some (.cells [.int .i64 b.wl,.int .i64 b.wh,.int .i64 b.sl,.int .i64 b.sh] 27 false))).put (w.next + 1) (some (.cells [.int .i64 lim.1,.int .i64 lim.2] 25 false)),w.next + 1 + 1,w.lim⟩:=⟨_,rfl⟩
 have u1:Up w w1:=by rw [hw1]; exact ((Up.refl w).add _).put (Nat.le_succ _) (Nat.le_succ _)
 have n1:w1.next=w.next + 2:=by rw [hw1]
 have l1:w1.lim=w.lim:=u1.lim
 have g71:w1.heap.get (w.next + 1)=some (.cells [.int .i64 lim.1,.int .i64 lim.2] 25 false):=by rw [hw1]; show ((w.heap.put _ _).put _ _).get _=_; rw [get_put,if_pos rfl]
 obtain ⟨v67,w2,c67,hans,u2⟩:=call67 (ov:=ov) m ho67 ho65 h61 h87 r acts h14 hlos hact b hB [] (no_reads _) rv av (.slice none 0 0) w1 (by omega) (hrv.up u1) (hav.up u1) (.inl ⟨rfl,_,_,rfl⟩)
 have u12:=u1.trans u2
 have g72:=(u2.at (show w.next + 1 < w1.next by omega)).trans g71
 have hlna:=fun w'=>len28V (w':=w') hav
 have rj:notJunk rv=some rv:=by obtain ⟨x,y,rfl⟩:=hrv.len; rfl
 have aj:notJunk av=some av:=by obtain ⟨x,y,rfl⟩:=hav.len; rfl
 rw [hw1] at c67
 simp only [boxC,spC] at c67 ⊢
 obtain ⟨hok,_⟩:=ref_wei (b:=b) (L:=lossL r acts) (l:=[]) hB hlos (by omega)
 unfold AnsM at hans
 cases hoB:okB b (lossL r acts) [] with
 | false =>
  rw [hoB,if_neg (by decide)] at hans
  rw [hoB] at hok
  have hN:weighF b (lossL r acts) []=none:=by
   cases hV:weighF b (lossL r acts) [] with
   | none=>rfl
   | some V=>rw [hV] at hok; cases hok
  have e:surB b (lossL r acts) lim=false:=surB_none hN
  subst hans
  simp [mc72,cellsOf_agg,rj,aj,c67,tupV,e]
  exact u12
 | true =>
  rw [hoB,if_pos rfl] at hans
  obtain ⟨v1,V,D,rfl,nj1,hV,hDr,hrow⟩:=hans
  have hml:(moL (lossL r acts) V D).length=acts.length + 1:=by rw [moL_length,hLl]
  have hx:=moL_at (L:=lossL r acts) (V:=V) (D:=D) (k:=acts.length) (by omega)
  have e:surB b (lossL r acts) lim=(decide (lim.1≤(lastM (lossL r acts) V D).1) && decide ((lastM (lossL r acts) V D).2≤lim.2)):=by
   unfold surB
   rw [hV]
   simp only
   rw [hDr]
  have elm:lastM (lossL r acts) V D=(moI (gtS D acts.length).1 (gtS V ((lossL r acts).length + 1)).2,moI (gtS V acts.length).2 (gtS V ((lossL r acts).length + 1)).1):=by unfold lastM; rw [hLl]
  rw [← elm] at hx
  obtain ⟨y,hy⟩:∃ y,y=lastM (lossL r acts) V D:=⟨_,rfl⟩
  rw [← hy] at hx e
  obtain ⟨B,off,sq,cp,rfl,hra⟩:=hrow.at_ acts.length (by omega)
  have hia:=fun w=>ia43 w ⟨B,off,sq⟩ (moL (lossL r acts) V D).length cp .i64 acts.length (by omega)
  have d0:=hra.rd1 spC_length hx (j:=0) (x:=.int .i64 y.1) rfl
  have d1:=hra.rd1 spC_length hx (j:=1) (x:=.int .i64 y.2) rfl
  simp only [Nat.add_zero] at d0
  rw [hml] at hia c67 nj1
  have n1j:notJunk (.slice (some ⟨B,off,sq⟩) (acts.length + 1) cp)=some (.slice (some ⟨B,off,sq⟩) (acts.length + 1) cp):=rfl
  by_cases h1:lim.1≤y.1
  ·simp [mc72,cellsOf_agg,rj,aj,c67,n1j,hlna,hia,d0,d1,g72,h1,tupV,e]
   exact u12
  ·simp [mc72,cellsOf_agg,rj,aj,c67,n1j,hlna,hia,d0,d1,g72,h1,tupV,e]
   exact u12
theorem rdE_none (r:List CAct) (d:List CDay) (b:CBox) (acts:List Int):rdE r d b acts []=actE r d b acts:=by
 unfold rdE
 by_cases h:actE r d b acts=0
 ·rw [if_pos h,if_pos (no_reads _),h]
 ·rw [if_neg h]
theorem call30 (m:Nat) (ho:∀ args w,ov 30 args w=none) (ho72:∀ args w,ov 72 args w=none) (ho67:∀ args w,ov 67 args w=none) (ho65:∀ args w,ov 65 args w=none) (h55:HasP ov 55 S55.F) (h60:HasP ov 60 S60r.F) (h61:HasP ov 61 S61.F) (h87:HasP ov 87 S87.F) (r:List CAct) (d:List CDay) (b:CBox) (acts:List Int) (lim:Sp) (rv dv av:Value) (w:AW) (hl:w.lim≤w.next) (hrv:RowsV actC w rv r) (hdv:RowsV cdayC w dv d) (hav:RowsV intC w av acts) (hcap:CapV av) :
  ∃ v w',(run Tryd.prog ov (m + 5)).call 30 [rv,dv,.agg ⟨boxC b⟩,av,.agg ⟨spC lim⟩] w .none=.ok (.ret v) w' .none∧v=reachR r d b acts lim∧Up w w':=by
 refine call_wp text30 (by simp) (ho _ _) ?_
 obtain ⟨w1,hw1⟩:∃ w1:AW,w1=⟨(w.heap.put w.next (some (.cells [.int .i64 b.wl,.int .i64 b.wh,.int .i64 b.sl,.int .i64 b.sh] 27 false))).put (w.next + 1) (some (.cells [.int .i64 lim.1,.int .i64 lim.2] 25 false)),w.next + 1 + 1,w.lim⟩:=⟨_,rfl⟩
 have u1:Up w w1:=by rw [hw1]; exact ((Up.refl w).add _).put (Nat.le_succ _) (Nat.le_succ _)
 have n1:w1.next=w.next + 2:=by rw [hw1]
 have l1:w1.lim=w.lim:=u1.lim
 have r60:=S60r.call (P:=Tryd.prog) h60 (m:=m + 3) (w:=w1) ⟨rv,dv,av,.slice none 0 0,r,d,b,acts,[],rfl,hrv.up u1,hdv.up u1,hav.up u1,.inl ⟨rfl,_,_,rfl⟩,hcap,rfl⟩
 have r55:=fun w=>S55.call (P:=Tryd.prog) h55 (m:=m + 3) (w:=w) ⟨lim.1,lim.2,0,1000,rfl,rfl⟩
 rw [rdE_none] at r60
 have rj:notJunk rv=some rv:=by obtain ⟨x,y,rfl⟩:=hrv.len; rfl
 have dj:notJunk dv=some dv:=by obtain ⟨x,y,rfl⟩:=hdv.len; rfl
 have aj:notJunk av=some av:=by obtain ⟨x,y,rfl⟩:=hav.len; rfl
 by_cases hA:actE r d b acts=0
 ·rw [hA,hw1] at r60
  simp only [boxC,spC] at r60 ⊢
  cases hS:spanI lim.1 lim.2 0 1000 with
  | false =>
   rw [hS] at r55
   simp [mc30,cellsOf_agg,rj,dj,aj,r60,r55,tupV,reachR,hA,hS]
   rw [← hw1]; exact u1
  | true =>
   rw [hS] at r55
   obtain ⟨_,w2,c72,rfl,u2⟩:=call72 (ov:=ov) (lim:=lim) m ho72 ho67 ho65 h61 h87 hA rv av w1 (by omega) (hrv.up u1) (hav.up u1)
   rw [hw1] at c72
   simp only [boxC,spC] at c72
   simp [mc30,cellsOf_agg,rj,dj,aj,r60,r55,c72,tupV,reachR,hA,hS]
   exact u1.trans u2
 ·rw [hw1] at r60
  simp only [boxC,spC] at r60 ⊢
  simp [mc30,cellsOf_agg,rj,dj,aj,r60,hA,tupV,reachR]
  rw [← hw1]; exact u1
end
def txC (k:List UInt8):Value:=.string ⟨⟨k⟩⟩
def boV (b:Bool):Value:=.bool b
theorem tx_ok:KeyOk (false,[2]) txC:=⟨fun a=>rfl,fun a b=>eqFlat_str ⟨⟨a⟩⟩ ⟨⟨b⟩⟩⟩
theorem map122:mapOf Tryd.prog 122=some (4,(false,[2])):=by kernel_rfl
theorem zero4:zeroA Tryd.prog 4=some (.bool false):=by kernel_rfl
@[simp] theorem op_nil (ty:TypeId) (x:Operand) (t:Tm) (w:AW):(opS Tryd.prog ty (.nilCheck x)).val t w=nilCheckA Tryd.prog w ((evS x).val t):=rfl
@[simp] theorem nil_ptr (w:AW) (a:Addr) (ro:AObj) (h:w.heap.get a.block=some ro):nilCheckA Tryd.prog w (.pointer (some a))=.val (.pointer (some a)) w:=by
 simp [nilCheckA,h]
structure Ms (r:List CAct) (d:List CDay) (b:CBox) (lim:Sp) (many:Nat) (w0:AW) (rv dv:Value) (S km:Nat) (w:AW):Prop where
 old:∀ x,x < w0.next→w.heap.get x=w0.heap.get x
 sr:w.heap.get S=some (.cells [rv,dv,.int .i64 b.wl,.int .i64 b.wh,.int .i64 b.sl,.int .i64 b.sh,.int .i64 lim.1,.int .i64 lim.2,.int .i64 (many:Int),.map (some km)] 124 false)
 map:∃ L,MapAt txC boV w km L∧∀ key bv,lookK L key=some bv→bv=true∧∀ so t,stgF r d startS so=some t→so.length≤many→keyL so=key→∀ acts,¬ Comp r d (soB b lim) (many - so.length) t acts
 ne:S ≠ km∧w0.next≤S∧w0.next≤km
 lt:S < w.next∧km < w.next
 wl:w.lim=w0.lim
theorem Comp.zero {r:List CAct} {d:List CDay} {so:Stg→Bool} {t:Stg} {acts:List Int}:Comp r d so 0 t acts ↔ acts=[]∧so t=true:=by
 constructor
 ·rintro ⟨h1,t2,h2,h3⟩
  have:acts=[]:=List.eq_nil_of_length_eq_zero h1
  subst this
  have e:t=t2:=Option.some.inj h2
  exact ⟨rfl,by rw [e]; exact h3⟩
 ·rintro ⟨rfl,h⟩
  exact ⟨rfl,t,rfl,h⟩
theorem Comp.succ {r:List CAct} {d:List CDay} {so:Stg→Bool} {j:Nat} {t:Stg} {acts:List Int} (h:Comp r d so (j + 1) t acts):∃ (a:Nat) (s':Stg) (l:List Int),acts=(a:Int)::l∧a < r.length∧nextS r d t (a:Int)=some s'∧Comp r d so j s' l:=by
 obtain ⟨h1,t2,h2,h3⟩:=h
 cases acts with
 | nil=>cases h1
 | cons a l =>
  obtain ⟨s',k1,k2⟩:=stgF_cons h2
  obtain ⟨i,rfl,hi⟩:=next_nat k1
  exact ⟨i,s',l,rfl,hi,k1,by simpa using h1,t2,k2,h3⟩
theorem Comp.cons {r:List CAct} {d:List CDay} {so:Stg→Bool} {j:Nat} {t s':Stg} {a:Nat} {l:List Int} (hn:nextS r d t (a:Int)=some s') (h:Comp r d so j s' l):Comp r d so (j + 1) t ((a:Int)::l):=by
 obtain ⟨h1,t2,h2,h3⟩:=h
 refine ⟨by rw [List.length_cons,h1],t2,?_,h3⟩
 show (match nextS r d t (a:Int) with | some s'=>stgF r d s' l | none=>none)=some t2
 rw [hn]; exact h2
def R77 (r:List CAct) (d:List CDay) (so:Stg→Bool) (acts0:List Int) (t:Stg) (j:Nat) (v1:Value) (ok:Bool) (w':AW):Prop :=
 (ok=true→∃ rest,RowsV intC w' v1 (acts0++rest)∧Comp r d so j t rest∧∀ acts,Comp r d so j t acts→lexL acts rest=false)∧(ok=false→∀ acts,¬ Comp r d so j t acts)
section
variable {ov:Ov} {r:List CAct} {d:List CDay} {b:CBox} {lim:Sp} {many:Nat} {w0:AW} {rv dv:Value} {S km:Nat}
theorem Ms.up {w w':AW} (h:Ms r d b lim many w0 rv dv S km w) (u:Up w w'):Ms r d b lim many w0 rv dv S km w':=by
 obtain ⟨l1,l2⟩:=h.lt
 obtain ⟨L,q1,q2⟩:=h.map
 have hk:=h.ne.2.2
 have hn:=u.next
 exact ⟨fun x hx=>by rw [u.at (by omega)]; exact h.old x hx,by rw [u.at l1]; exact h.sr,⟨L,by unfold MapAt; rw [u.at l2]; exact q1,q2⟩,h.ne,⟨by omega,by omega⟩,by rw [u.lim]; exact h.wl⟩
theorem Ms.base {w:AW} (h:Ms r d b lim many w0 rv dv S km w):Up w0 w:=⟨h.old,by have:=h.ne; have:=h.lt; omega,h.wl⟩
theorem rows_km {w w':AW} (h:Ms r d b lim many w0 rv dv S km w) (k:Kp (fun x=>x=km) w w') {v:Value} {l:List Int} (hv:RowsV intC w v l):RowsV intC w' v l:=by
 obtain ⟨L,hL,_⟩:=h.map
 rcases hv with ⟨rfl,a,c,rfl⟩ | ⟨b0,off,sq,c,rfl,⟨pre,rest,e,ro,h1,h2⟩,h3⟩
 ·exact .inl ⟨rfl,a,c,rfl⟩
 ·have hne:b0 ≠ km:=fun e=>by
   unfold MapAt at hL
   rw [e,hL] at h1
   cases h1
  exact .inr ⟨b0,off,sq,c,rfl,⟨pre,rest,e,ro,by rw [k.keep b0 h3 hne]; exact h1,h2⟩,by have:=k.next; omega⟩
theorem Kp.of {Xc:Nat→Prop} {w w':AW} (u:Up w w'):Kp Xc w w':=(Kp.refl Xc w).up u
structure Hs77 (ov:Ov):Prop where
 o65:∀ args w,ov 65 args w=none
 o67:∀ args w,ov 67 args w=none
 o72:∀ args w,ov 72 args w=none
 o77:∀ args w,ov 77 args w=none
 o96:∀ args w,ov 96 args w=none
 o97:∀ args w,ov 97 args w=none
 o106:∀ args w,ov 106 args w=none
 h61:HasP ov 61 S61.F
 h80:HasP ov 80 S80.F
 h87:HasP ov 87 S87.F
def H77 (ov:Ov) (r:List CAct) (d:List CDay) (b:CBox) (lim:Sp) (many:Nat) (w0:AW) (rv dv:Value) (S km M j:Nat):Prop:=∀ (so:List Int) (t:Stg) (v:Value) (w:AW),stgF r d startS so=some t→so.length + j=many→RowsV intC w v so→Ms r d b lim many w0 rv dv S km w →
 ∃ v1 ok w',(run Tryd.prog ov M).call 77 [ptB S,v] w .none=.ok (.ret (.tuple ⟨[v1,.bool ok]⟩)) w' .none∧notJunk v1=some v1∧Ms r d b lim many w0 rv dv S km w'∧Kp (fun x=>x=km) w w'∧R77 r d (soB b lim) so t j v1 ok w'
set_option maxHeartbeats 1000000 in
theorem loop77 (m j:Nat) (h:Hs77 ov) (hR:ruleB r=true) (hD:daysB d=true) (hl0:w0.lim≤w0.next) (hrv:RowsV actC w0 rv r) (hdv:RowsV cdayC w0 dv d) (H:H77 ov r d b lim many w0 rv dv S km (m + 1) j) (so:List Int) (t0:Stg) (hso:stgF r d startS so=some t0) (hj:so.length + (j + 1)=many) (v:Value) (w1:AW) (hv:RowsV intC w1 v so) (hM:Ms r d b lim many w0 rv dv S km w1) (Q:Ex→Tm→AW→Prop) (t:Tm) (s0:tget t 0=ptB S) (s1:tget t 1=v) (s6:tget t 6=.map (some km)) (s7:tget t 7=.int .i64 0)
  (hno:∀ t w,Ms r d b lim many w0 rv dv S km w→Kp (fun x=>x=km) w1 w→tget t 1=v→tget t 6=.map (some km)→(∀ acts,¬ Comp r d (soB b lim) (j + 1) t0 acts)→Q (.exit 0) t w)
  (hyes:∀ t w v1,Ms r d b lim many w0 rv dv S km w→Kp (fun x=>x=km) w1 w→tget t 4=v1→tget t 5=.bool true→notJunk v1=some v1→R77 r d (soB b lim) so t0 (j + 1) v1 true w→Q .ret t w):wp (exM Tryd.prog (run Tryd.prog ov (m + 1)) (.loop mc77_l0) t w1) Q:=by
 have hrl:=rule_len hR
 have hst:=stOk_of hR hso
 have hlen:=stg_len hR hso
 have hdl:=days_len hD
 have hpos:∀ z ∈ so,0≤z:=fun z hz=>((good_of hR hD hso).2 z hz).1
 refine wp_rounds (fun a t w=>Ms r d b lim many w0 rv dv S km w∧Kp (fun x=>x=km) w1 w∧tget t 0=ptB S∧tget t 1=v∧tget t 6=.map (some km)∧tget t 7=.int .i64 (a:Int)∧a≤r.length∧∀ a':Nat,a' < a→∀ s2,nextS r d t0 (a':Int)=some s2→∀ acts,¬ Comp r d (soB b lim) j s2 acts) 20 (by decide) ⟨hM,Kp.refl _ _,s0,s1,s6,by simpa using s7,Nat.zero_le _,fun a' ha'=>absurd ha' (Nat.not_lt_zero _)⟩ ?_
 clear s0 s1 s6 s7 t
 rintro a t w ⟨hMw,hK,s0,s1,s6,s7,ha,hnone⟩
 simp only [ptB] at s0
 have hub:=hMw.base
 have hrw:=hrv.up hub
 have hdw:=hdv.up hub
 have hvw:=rows_km hM hK hv
 have hlr:=fun w'=>len22V (w':=w') hrw
 have rj:notJunk rv=some rv:=by obtain ⟨x,y,rfl⟩:=hrv.len; rfl
 have dj:notJunk dv=some dv:=by obtain ⟨x,y,rfl⟩:=hdv.len; rfl
 have vj:notJunk v=some v:=by obtain ⟨x,y,rfl⟩:=hv.len; rfl
 have gS:=hMw.sr
 have hwl:=hMw.wl
 have hne:=hMw.ne
 have hlt2:=hMw.lt
 by_cases hlt:a < r.length
 ·have hlt':(a:Int) < (r.length:Int):=by omega
  have hw:IntKind.wrap .i64 ((a:Int) + 1)=(a:Int) + 1:=wrap64_in (by omega) (by omega)
  have r80:=S80.call (P:=Tryd.prog) h.h80 (m:=m) (w:=w) ⟨rv,dv,v,r,d,so,(a:Int),rfl,hrw,hdw,hvw,hR,hD,hpos,rfl⟩
  rcases next_fol (d:=d) hR hst (a:Int) with ⟨k1,k2⟩ | ⟨s',k1,k2,k3⟩
  ·rw [k2] at r80
   simp [mc77_l0,s0,s1,s6,s7,gS,rj,dj,vj,hlr,hlt,hlt',r80,hw]
   refine ⟨by omega,hMw,hK,by rfl,hlt,fun a' ha' s2 h2=>?_⟩
   by_cases e:a'=a
   ·subst e; rw [k1] at h2; cases h2
   ·exact hnone a' (by omega) s2 h2
  ·rw [k2] at r80
   obtain ⟨x97,w2,c97,hx97,u2⟩:=call97 (ov:=ov) m h.o97 v so (a:Int) w hvw (by omega) (by omega)
   have xj:notJunk x97=some x97:=by obtain ⟨x,y,rfl⟩:=hx97.len; rfl
   have hso':stgF r d startS (so++[(a:Int)])=some s':=by rw [stgF_snoc,hso]; exact k1
   obtain ⟨v1,ok,w3,c77,hj1,hM3,hK3,hR3⟩:=H (so++[(a:Int)]) s' x97 w2 hso' (by rw [List.length_append,List.length_singleton]; omega) hx97 (hMw.up u2)
   simp only [ptB] at c77
   have hK13:=(hK.up u2).trans hK3
   cases ok with
   | false =>
    simp [mc77_l0,s0,s1,s6,s7,gS,rj,dj,vj,hlr,hlt,hlt',r80,c97,xj,c77,hj1,hw]
    refine ⟨by omega,hM3,hK13,by rfl,hlt,fun a' ha' s2 h2=>?_⟩
    by_cases e:a'=a
    ·subst e; rw [k1] at h2; cases Option.some.inj h2; exact hR3.2 rfl
    ·exact hnone a' (by omega) s2 h2
   | true =>
    simp [mc77_l0,s0,s1,s6,s7,gS,rj,dj,vj,hlr,hlt,hlt',r80,c97,xj,c77,hj1]
    refine hyes _ _ v1 hM3 hK13 (by simp) (by simp) hj1 ⟨fun _=>?_,fun hh=>by cases hh⟩
    obtain ⟨rest,y1,y2,y3⟩:=hR3.1 rfl
    refine ⟨(a:Int)::rest,by rw [List.append_assoc] at y1; exact y1,Comp.cons k1 y2,fun acts hc=>?_⟩
    obtain ⟨a2,s2,l,rfl,q1,q2,q3⟩:=hc.succ
    show (if (a2:Int)=(a:Int) then lexL l rest else decide ((a2:Int) < (a:Int)))=false
    by_cases e:a2=a
    ·subst e
     rw [if_pos rfl]
     rw [k1] at q2
     cases Option.some.inj q2
     exact y3 l q3
    ·rw [if_neg (by omega),decide_eq_false_iff_not]
     intro hlt3
     exact hnone a2 (by omega) s2 q2 l q3
 ·have hlt':¬ (a:Int) < (r.length:Int):=by omega
  simp [mc77_l0,s0,s7,gS,rj,hlr,hlt,hlt']
  refine hno _ _ hMw hK (by simp [s1]) (by simp [s6]) fun acts hc=>?_
  obtain ⟨a2,s2,l,rfl,q1,q2,q3⟩:=hc.succ
  exact hnone a2 (by omega) s2 q2 l q3
end
end Go.Proofs.YtnmamelclmfplaaDoor.walk
