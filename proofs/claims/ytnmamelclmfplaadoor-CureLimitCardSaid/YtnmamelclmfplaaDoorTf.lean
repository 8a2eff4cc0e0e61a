/- Part of a proof: see the text with the theorem. -/
import Derived.Test.YtnmamelclmfplaaDoorTe
import Derived.Test.YtnmamelclmfplaaDoorTb
set_option linter.all false
namespace Go.Proofs.YtnmamelclmfplaaDoor.walk
open Go Go.Sh
set_option maxRecDepth 100000
def S84:PSpec:=S61
theorem mk28 (n:Nat) (hn:n≤1000) (w:AW):makeSliceA Tryd.prog w 28 (.int .i64 (n:Int)) (.int .i64 (n:Int))=.val (.slice (some ⟨w.next,0,none⟩) n n) ⟨w.heap.put w.next (some (.cells ((List.replicate n (0:Int)).flatMap intC) 3 false)),w.next + 1,w.lim⟩:=by
 rw [make_eq (e:=3) (z:=.int .i64 0) (by kernel_rfl) (by kernel_rfl) (by kernel_rfl) n hn w,← repl_flat]; rfl
def partI (L:List Int) (n i:Nat):List Int:=L.take i++List.replicate (n - i) 0
theorem partI_zero (L:List Int) (n:Nat):partI L n 0=List.replicate n 0:=by simp [partI]
theorem partI_full (L:List Int):partI L L.length L.length=L:=by simp [partI]
theorem partI_length {L:List Int} {i:Nat} (h:i≤L.length):(partI L L.length i).length=L.length:=by simp [partI]; omega
theorem partI_set {L:List Int} {i:Nat} {x:Int} (h:L[i]?=some x):(partI L L.length i).set i x=partI L L.length (i + 1):=by
 have hi:=(List.getElem?_eq_some_iff.1 h).1
 unfold partI
 rw [take_snoc h]
 obtain ⟨k,hk⟩:∃ k,L.length - i=k + 1:=⟨L.length - i - 1,by omega⟩
 rw [hk,List.replicate_succ,List.set_append_right _ _ (by rw [List.length_take]; omega)]
 rw [show i - (L.take i).length=0 by rw [List.length_take]; omega,List.set_cons_zero,show L.length - (i + 1)=k by omega]
 simp
theorem wts_bd {ws s:Int} {ls:List Int} (hls:LossOk ls) (hle:s≤ws - ls.sum) {i:Nat} {x:Int} (h:(wtsL ws ls)[i]?=some x):s≤x∧x≤ws:=by
 have hi:i≤ls.length:=by
  have:=(List.getElem?_eq_some_iff.1 h).1
  rw [wtsL_length] at this; omega
 rw [wtsL_at ls ws i hi] at h
 cases h
 have h1:=sum_bd (ls:=ls.take i) fun y hy=>hls y (List.mem_of_mem_take hy)
 have h2:=sum_bd (ls:=ls.drop i) fun y hy=>hls y (List.mem_of_mem_drop hy)
 have h3:ls.sum=(ls.take i).sum + (ls.drop i).sum:=by rw [← List.sum_append,List.take_append_drop]
 omega
def mosL (ws s:Int) (ls:List Int):List Int:=(wtsL ws ls).map fun x=>moI x s
set_option maxHeartbeats 1000000 in
theorem call59 {ov:Ov} (m:Nat) (ho:∀ args w,ov 59 args w=none) (ho83:∀ args w,ov 83 args w=none) (h84:HasP ov 84 S84.F) (ws s:Int) (ls:List Int) (hs:1≤s) (hws:ws≤1000000) (hle:s≤ws - ls.sum) (hls:LossOk ls) (hlen:ls.length≤14) (lv:Value) (we:AW) (hlim:we.lim≤we.next) (hlv:RowsV intC we lv ls) :
  ∃ v w',(run Tryd.prog ov (m + 2)).call 59 [.agg ⟨[.int .i64 ws,.int .i64 s,lv]⟩] we .none=.ok (.ret v) w' .none∧∃ v1 v2,v=.tuple ⟨[v1,v2]⟩∧RowsV intC w' v1 (wtsL ws ls)∧RowsV intC w' v2 (mosL ws s ls)∧Up we w'∧notJunk v1=some v1∧notJunk v2=some v2:=by
 refine call_wp text59 (by simp) (ho _ _) ?_
 have hsb:=sum_bd hls
 obtain ⟨w1,hw1e⟩:∃ w1:AW,w1=⟨we.heap.put we.next (some (.cells [.int .i64 ws,.int .i64 s,lv] 32 false)),we.next + 1,we.lim⟩:=⟨_,rfl⟩
 have u1:Up we w1:=by rw [hw1e]; exact (Up.refl we).add _
 have n1:w1.next=we.next + 1:=by rw [hw1e]
 have l1:w1.lim=we.lim:=u1.lim
 have g1:w1.heap.get we.next=some (.cells [.int .i64 ws,.int .i64 s,lv] 32 false):=by rw [hw1e]; simp
 obtain ⟨v83,w3,c83,hacc,hup⟩:=call83 (ov:=ov) m ho83 ws s ls (by omega) hls hlen lv w1 (by omega) (hlv.up u1)
 have hwl:(wtsL ws ls).length=ls.length + 1:=wtsL_length ls ws
 have nj:=hacc.ok
 have n3:we.next + 1≤w3.next:=by have:=hup.next; omega
 have l3:w3.lim=we.lim:=by rw [hup.lim,l1]
 have g3:w3.heap.get we.next=some (.cells [.int .i64 ws,.int .i64 s,lv] 32 false):=by rw [hup.at (by omega)]; exact g1
 obtain ⟨B,off2,sq2,c2,hv3,hrb⟩:=hacc.rows.at_ 0 (by omega)
 have hb3:=hrb.2
 have hlv3:=fun w2=>len28V (w':=w2) hacc.rows
 have hmk:=fun w=>mk28 (wtsL ws ls).length (by omega) w
 rw [hw1e] at c83
 simp [mc59,cellsOf_agg,c83,hlv3,hmk]
 refine wp_seqX (wp_blockX (wp_rounds (fun i t w=>w.heap.get w3.next=some (.cells ((partI (mosL ws s ls) (mosL ws s ls).length i).flatMap intC) 3 false)∧(∀ x,x < w3.next→w.heap.get x=w3.heap.get x)∧w3.next < w.next∧w.lim=we.lim∧tget t 1=.pointer (some ⟨we.next,0,none⟩)∧tget t 2=v83∧tget t 3=.slice (some ⟨w3.next,0,none⟩) (wtsL ws ls).length (wtsL ws ls).length∧tget t 11=v83∧tget t 12=.int .i64 ((wtsL ws ls).length:Nat)∧tget t 13=.int .i64 (i:Nat)∧i≤(wtsL ws ls).length) 20 (by decide) ?_ ?_))
 ·refine ⟨?_,?_,?_,?_,?_,?_,?_,?_,?_,?_,Nat.zero_le _⟩
  ·rw [partI_zero]; simp [mosL]
  ·intro x hx
   show (w3.heap.put w3.next _).get x=_
   rw [get_put,if_neg (by omega)]
  ·exact Nat.lt_succ_self _
  ·exact l3
  all_goals simp
 ·rintro i t w ⟨hB,hold,hnx,hlm,t1,t2,t3,t11,t12,t13,hi⟩
  have hml:(mosL ws s ls).length=(wtsL ws ls).length:=by simp [mosL]
  by_cases hlt:i < (wtsL ws ls).length
  ·obtain ⟨x,hx⟩:∃ p,(wtsL ws ls)[i]?=some p:=⟨_,List.getElem?_eq_getElem hlt⟩
   have hxb:=wts_bd hls hle hx
   have hmx:(mosL ws s ls)[i]?=some (moI x s):=by unfold mosL; rw [List.getElem?_map,hx]; rfl
   have r84:=fun w=>S61.call (P:=Tryd.prog) h84 (m:=m) (w:=w) ⟨x,s,rfl,by omega,rfl⟩
   have hld:=hrb.int hx
   rw [← hold B hb3] at hld
   have hia:=fun w=>ia28 w ⟨B,off2,sq2⟩ (wtsL ws ls).length c2 .i64 i hlt
   have hib:=fun w=>ia28 w ⟨w3.next,0,none⟩ (wtsL ws ls).length (wtsL ws ls).length .i64 i hlt
   simp only [Nat.mul_one] at hia hib
   have g1w:w.heap.get we.next=some (.cells [.int .i64 ws,.int .i64 s,lv] 32 false):=by rw [hold _ (by omega)]; exact g3
   have hw1:IntKind.wrap .i64 ((i:Int) + 1)=(i:Int) + 1:=wrap64_in (by omega) (by omega)
   have hps:=partI_set hmx
   have hfs:=flat_set intC_length (partI (mosL ws s ls) (mosL ws s ls).length i) i (moI x s) (by rw [partI_length (by omega)]; omega)
   rw [hps] at hfs
   have hfl:((partI (mosL ws s ls) (mosL ws s ls).length i).flatMap intC).length=(wtsL ws ls).length:=by rw [flat_length intC_length,partI_length (by omega),hml]; omega
   obtain ⟨cs,hcs⟩:∃ cs,cs=(partI (mosL ws s ls) (mosL ws s ls).length i).flatMap intC:=⟨_,rfl⟩
   rw [← hcs] at hB hfs hfl
   simp only [intC,List.cons_append,List.nil_append,Nat.mul_one] at hfs
   have q2:w.lim≤w3.next:=by omega
   have q3:i + 1≤(wtsL ws ls).length:=hlt
   rw [hv3] at t11
   simp [mc59_l0,t1,t2,t3,t11,t12,t13,hlt,g1w,hia,hld,r84,hib,hB,hfl,q2,q3,hw1,hfs]
   exact ⟨by omega,fun x hx=>by rw [if_neg (by omega)]; exact hold x hx,hnx,hlm,hv3.symm⟩
  ·have hi':i=(wtsL ws ls).length:=by omega
   subst hi'
   rw [← hml,partI_full] at hB
   have nj2:notJunk (.slice (some ⟨w3.next,0,none⟩) (wtsL ws ls).length (wtsL ws ls).length)=some (.slice (some ⟨w3.next,0,none⟩) (wtsL ws ls).length (wtsL ws ls).length):=rfl
   have u4:Up w3 w:=⟨hold,Nat.le_of_lt hnx,by rw [hlm,l3]⟩
   simp [mc59_l0,t2,t3,t11,t12,t13,nj,nj2,tupV]
   refine ⟨_,_,⟨rfl,rfl⟩,hacc.rows.up u4,.inr ⟨w3.next,0,none,_,by rw [hml],⟨[],[],3,false,by simpa using hB,rfl⟩,hnx⟩,(u1.trans hup).trans u4,nj,nj2⟩
def folE (r:List CAct) (d:List CDay) (b:CBox) (acts:List Int) (ws s:Int) (ls:List Int):Int:=if actE r d b acts=0 then (if truB b (lossL r acts) ws s ls=true then 0 else 66) else actE r d b acts
def folW (r:List CAct) (d:List CDay) (b:CBox) (acts:List Int) (ws s:Int) (ls:List Int):List Int:=if folE r d b acts ws s ls=0 then wtsL ws ls else []
def folM (r:List CAct) (d:List CDay) (b:CBox) (acts:List Int) (ws s:Int) (ls:List Int):List Int:=if folE r d b acts ws s ls=0 then mosL ws s ls else []
theorem tru_ok {r:List CAct} {d:List CDay} {b:CBox} {acts:List Int} (h:actE r d b acts=0):TruOk b (lossL r acts)∧acts.length≤14∧∀ a ∈ acts,0≤a∧∃ x,r[a.toNat]?=some x:=by
 obtain ⟨hR,hD,hB,s,hs⟩:=act_ofE h
 have hl:=stg_len hR hs
 have hd:=days_len hD
 have ha:=stg_acts _ _ _ hs
 refine ⟨⟨hB,by simp [lossL]; omega,fun p hp=>?_⟩,by omega,ha⟩
 simp only [lossL,List.mem_map] at hp
 obtain ⟨a,ham,rfl⟩:=hp
 obtain ⟨_,x,hx⟩:=ha a ham
 rw [hx]
 obtain ⟨_,_,k,_⟩:=act_of hR hx
 simp only [spanI,Bool.and_eq_true,decide_eq_true_eq] at k
 simp only; omega
theorem tru_of {b:CBox} {L:List Sp} {ws s:Int} {ls:List Int} (hT:TruOk b L) (h:truB b L ws s ls=true):1≤s∧ws≤1000000∧s≤ws - ls.sum∧LossOk ls∧ls.length=L.length:=by
 have hb:=hT.box
 simp only [boxB,spanI,Bool.and_eq_true,decide_eq_true_eq] at hb
 simp only [truB,inI,Bool.and_eq_true,decide_eq_true_eq] at h
 obtain ⟨h1,h2,h3,h4,h5⟩:=h
 exact ⟨by omega,by omega,h5,allIn_ok h3 hT.sp h4,h3⟩
set_option maxHeartbeats 1000000 in
theorem call16 {ov:Ov} (m:Nat) (ho:∀ args w,ov 16 args w=none) (ho57:∀ args w,ov 57 args w=none) (ho59:∀ args w,ov 59 args w=none) (ho83:∀ args w,ov 83 args w=none) (h56:HasP ov 56 S56.F) (h58:HasP ov 58 S58.F) (h84:HasP ov 84 S84.F) (r:List CAct) (d:List CDay) (b:CBox) (acts:List Int) (ws s:Int) (ls:List Int) (rv dv av lv:Value) (we:AW) (hlim:we.lim≤we.next) (hL:LimW we) (hrv:RowsV actC we rv r) (hdv:RowsV cdayC we dv d) (hav:RowsV intC we av acts) (hlv:RowsV intC we lv ls) :
  ∃ v w',(run Tryd.prog ov (m + 3)).call 16 [rv,dv,.agg ⟨boxC b⟩,av,.agg ⟨[.int .i64 ws,.int .i64 s,lv]⟩] we .none=.ok (.ret v) w' .none∧∃ v1 v2,v=.tuple ⟨[v1,v2,.int .i64 (folE r d b acts ws s ls)]⟩∧RowsV intC w' v1 (folW r d b acts ws s ls)∧RowsV intC w' v2 (folM r d b acts ws s ls)∧Up we w':=by
 refine call_wp text16 (by simp) (ho _ _) ?_
 obtain ⟨w1,hw1e⟩:∃ w1:AW,w1=⟨(we.heap.put we.next (some (.cells [.int .i64 b.wl,.int .i64 b.wh,.int .i64 b.sl,.int .i64 b.sh] 27 false))).put (we.next + 1) (some (.cells [.int .i64 ws,.int .i64 s,lv] 32 false)),we.next + 1 + 1,we.lim⟩:=⟨_,rfl⟩
 have u1:Up we w1:=by rw [hw1e]; exact ((Up.refl we).add _).put (Nat.le_succ _) (Nat.le_succ _)
 have g7:w1.heap.get we.next=some (.cells [.int .i64 b.wl,.int .i64 b.wh,.int .i64 b.sl,.int .i64 b.sh] 27 false):=by rw [hw1e]; simp
 have g9:w1.heap.get (we.next + 1)=some (.cells [.int .i64 ws,.int .i64 s,lv] 32 false):=by rw [hw1e]; simp
 have n1:w1.next=we.next + 1 + 1:=by rw [hw1e]
 have l1:w1.lim=we.lim:=u1.lim
 have r56:=S56.call (P:=Tryd.prog) h56 (m:=m + 1) ⟨rv,dv,av,r,d,b,acts,rfl,hrv.up u1,hdv.up u1,hav.up u1,hL.up u1,by omega,rfl⟩
 have nn:notJunk (.slice none 0 0)=some (.slice none 0 0):=rfl
 simp only [boxC] at r56 ⊢
 by_cases hA:actE r d b acts=0
 ·obtain ⟨hT,h14,hact⟩:=tru_ok hA
  rw [hA,hw1e] at r56
  obtain ⟨_,w2,c57,pv,rfl,hproc,u2⟩:=call57 (ov:=ov) (m + 1) ho57 r acts hact h14 b rv av w1 (by omega) (hrv.up u1) (hav.up u1)
  have hpv:=hproc.rows
  obtain ⟨p1,rfl,_,_⟩:=hproc
  have g92:w2.heap.get (we.next + 1)=some (.cells [.int .i64 ws,.int .i64 s,lv] 32 false):=by rw [u2.at (by omega)]; exact g9
  have hn2:=u2.next
  have hl2:=u2.lim
  have r58:=S58.call (P:=Tryd.prog) h58 (m:=m + 1) ⟨_,lv,b,lossL r acts,ws,s,ls,rfl,hpv,hlv.up (u1.trans u2),hT,by omega,rfl⟩
  obtain ⟨q1,q2,rfl⟩:=hlv.len
  have sm:sameVal 5 (.agg ⟨[.int .i64 ws,.int .i64 s,.slice q1 ls.length q2]⟩) (.agg ⟨[.int .i64 ws,.int .i64 s,.slice q1 ls.length q2]⟩)=true:=same_agg _ (by
   intro v hv
   simp only [List.mem_cons,List.not_mem_nil,or_false] at hv
   rcases hv with rfl | rfl | rfl
   ·exact sameN_int _ _ _
   ·exact sameN_int _ _ _
   ·exact sameN_slice _ _ _ _)
  simp only [procC,boxC,hw1e] at c57 r58
  cases hB:truB b (lossL r acts) ws s ls with
  | false =>
   have e1:folE r d b acts ws s ls=66:=by simp [folE,hA,hB]
   have e2:folW r d b acts ws s ls=[]:=by simp [folW,e1]
   have e3:folM r d b acts ws s ls=[]:=by simp [folM,e1]
   rw [hB] at r58
   simp [mc16,cellsOf_agg,r56,c57,g92,sm,r58,nn,tupV,e1,e2,e3]
   exact ⟨_,_,⟨rfl,rfl⟩,.inl ⟨rfl,_,_,rfl⟩,.inl ⟨rfl,_,_,rfl⟩,u1.trans u2⟩
  | true =>
   obtain ⟨k1,k2,k3,k4,k5⟩:=tru_of hT hB
   have hLl:(lossL r acts).length=acts.length:=by simp [lossL]
   obtain ⟨_,w4,c59,v1,v2,rfl,hv1,hv2,u4,j1,j2⟩:=call59 (ov:=ov) m ho59 ho83 h84 ws s ls k1 k2 k3 k4 (by omega) _ w2 (by omega) (hlv.up (u1.trans u2))
   have e1:folE r d b acts ws s ls=0:=by simp [folE,hA,hB]
   have e2:folW r d b acts ws s ls=wtsL ws ls:=by simp [folW,e1]
   have e3:folM r d b acts ws s ls=mosL ws s ls:=by simp [folM,e1]
   rw [hB] at r58
   simp [mc16,cellsOf_agg,r56,c57,g92,sm,r58,c59,j1,j2,tupV,e1,e2,e3]
   exact ⟨_,_,⟨rfl,rfl⟩,hv1,hv2,(u1.trans u2).trans u4⟩
 ·rw [hw1e] at r56
  have e1:folE r d b acts ws s ls=actE r d b acts:=by simp [folE,hA]
  have e2:folW r d b acts ws s ls=[]:=by simp [folW,e1,hA]
  have e3:folM r d b acts ws s ls=[]:=by simp [folM,e1,hA]
  simp [mc16,cellsOf_agg,r56,hA,nn,tupV,e1,e2,e3]
  rw [hw1e] at u1
  exact ⟨_,_,⟨rfl,rfl⟩,.inl ⟨rfl,_,_,rfl⟩,.inl ⟨rfl,_,_,rfl⟩,u1⟩
theorem lim_same:sameL5 limC limC=true:=by kernel_rfl
theorem hasAll_lim {w:AW} (h:LimAt w):hasAll w laidL=true:=by
 obtain ⟨ro,h⟩:=h
 have h1:hasB w (0,limC,141)=true:=by
  unfold hasB
  simp only [h,lim_same,Nat.beq_refl,Bool.and_self]
 show (bif hasB w (0,limC,141) then true else false)=true
 rw [h1]; rfl
def HasW (ov:Ov):Prop:=∀ w,LimAt w→ov 19 [] w=some (.ok (.ret (.bool true)) w .none)
theorem ruleW {ov:Ov} (h:HasW ov) (m:Nat) {w:AW} (hw:LimAt w):(run Tryd.prog ov (m + 1)).call 19 [] w .none=.ok (.ret (.bool true)) w .none:=by
 show stepO Tryd.prog (run Tryd.prog ov m) 19 [] w .none (ov 19 [] w)=_
 rw [h w hw]; rfl
def curC (rv dv:Value) (b:CBox) (av:Value):List Value:=[rv,dv,.int .i64 b.wl,.int .i64 b.wh,.int .i64 b.sl,.int .i64 b.sh,av]
def smallS (s:Sp):Prop := -100000000≤s.1∧s.1≤100000000 ∧ -100000000≤s.2∧s.2≤100000000
def pairC (p:Sp × Sp):List Value:=[.int .i64 p.1.1,.int .i64 p.1.2,.int .i64 p.2.1,.int .i64 p.2.2]
@[simp] theorem pairC_length (p:Sp × Sp):(pairC p).length=4:=rfl
theorem pairC_inj (a b:Sp × Sp) (h:pairC a=pairC b):a=b:=by
 obtain ⟨⟨_,_⟩,_,_⟩:=a; obtain ⟨⟨_,_⟩,_,_⟩:=b
 simp [pairC] at h; simp [h]
structure CRead where
 day:Int
 read:Int
 wrong:Int
def readC (r:CRead):List Value:=[.int .i64 r.day,.int .i64 r.read,.int .i64 r.wrong]
@[simp] theorem readC_length (r:CRead):(readC r).length=3:=rfl
theorem readC_inj (a b:CRead) (h:readC a=readC b):a=b:=by
 cases a; cases b; simpa [readC] using h
def readS (r:CRead):Sp:=(r.read - r.wrong,r.read + r.wrong)
def smallR (r:CRead):Prop:=0≤r.read∧r.read≤10000000∧0≤r.wrong∧r.wrong≤10000000
def S130:PSpec where
 R args w v:=∃ p:Sp × Sp,args=[.agg ⟨pairC p⟩]∧smallS p.1∧smallS p.2∧w.lim≤w.next∧v=.agg ⟨spC (restS p.1 p.2)⟩
 uniq:=by
  rintro _ _ _ _ ⟨⟨⟨_,_⟩,_,_⟩,rfl,_,_,_,rfl⟩ ⟨⟨⟨_,_⟩,_,_⟩,h,_,_,_,rfl⟩
  cases h; rfl
 shut:=fun ⟨p,h1,h2,h3,_,h4⟩=>⟨p,h1,h2,h3,Nat.le_refl _,h4⟩
theorem run130 {ov:Ov} (ho:∀ args w,ov 130 args w=none) (p:Sp × Sp) (h1:smallS p.1) (h2:smallS p.2) (w:AW) (hl:w.lim=w.next):∃ x w',(run Tryd.prog ov 2).call 130 [.agg ⟨pairC p⟩] w .none=.ok (.ret x) w' .none∧x=.agg ⟨spC (restS p.1 p.2)⟩:=by
 refine call_wp text130 (by simp) (ho _ _) ?_
 unfold smallS at h1 h2
 have w1:IntKind.wrap .i64 (p.1.1 - p.2.2)=p.1.1 - p.2.2:=wrap64_in (by omega) (by omega)
 have w2:IntKind.wrap .i64 (p.1.2 - p.2.1)=p.1.2 - p.2.1:=wrap64_in (by omega) (by omega)
 have lw:w.lim≤w.next + 1:=by omega
 simp [mc130,pairC,cellsOf_agg,w1,w2,lw,tupV,spC,restS]
def S131:PSpec where
 R args w v:=∃ p:Sp × Sp,args=[.agg ⟨pairC p⟩]∧smallS p.1∧smallS p.2∧w.lim≤w.next∧v=.agg ⟨spC (wholeS p.1 p.2)⟩
 uniq:=by
  rintro _ _ _ _ ⟨⟨⟨_,_⟩,_,_⟩,rfl,_,_,_,rfl⟩ ⟨⟨⟨_,_⟩,_,_⟩,h,_,_,_,rfl⟩
  cases h; rfl
 shut:=fun ⟨p,h1,h2,h3,_,h4⟩=>⟨p,h1,h2,h3,Nat.le_refl _,h4⟩
theorem run131 {ov:Ov} (ho:∀ args w,ov 131 args w=none) (p:Sp × Sp) (h1:smallS p.1) (h2:smallS p.2) (w:AW) (hl:w.lim=w.next):∃ x w',(run Tryd.prog ov 2).call 131 [.agg ⟨pairC p⟩] w .none=.ok (.ret x) w' .none∧x=.agg ⟨spC (wholeS p.1 p.2)⟩:=by
 refine call_wp text131 (by simp) (ho _ _) ?_
 unfold smallS at h1 h2
 have w1:IntKind.wrap .i64 (p.1.1 + p.2.1)=p.1.1 + p.2.1:=wrap64_in (by omega) (by omega)
 have w2:IntKind.wrap .i64 (p.1.2 + p.2.2)=p.1.2 + p.2.2:=wrap64_in (by omega) (by omega)
 have lw:w.lim≤w.next + 1:=by omega
 simp [mc131,pairC,cellsOf_agg,w1,w2,lw,tupV,spC,wholeS]
def S129:PSpec where
 R args w v:=∃ p:CRead,args=[.agg ⟨readC p⟩]∧smallR p∧w.lim≤w.next∧v=.agg ⟨spC (readS p)⟩
 uniq:=by
  rintro _ _ _ _ ⟨⟨_,_,_⟩,rfl,_,_,rfl⟩ ⟨⟨_,_,_⟩,h,_,_,rfl⟩
  cases h; rfl
 shut:=fun ⟨p,h1,h2,_,h4⟩=>⟨p,h1,h2,Nat.le_refl _,h4⟩
theorem run129 {ov:Ov} (ho:∀ args w,ov 129 args w=none) (p:CRead) (h1:smallR p) (w:AW) (hl:w.lim=w.next):∃ x w',(run Tryd.prog ov 2).call 129 [.agg ⟨readC p⟩] w .none=.ok (.ret x) w' .none∧x=.agg ⟨spC (readS p)⟩:=by
 refine call_wp text129 (by simp) (ho _ _) ?_
 unfold smallR at h1
 have w1:IntKind.wrap .i64 (p.read - p.wrong)=p.read - p.wrong:=wrap64_in (by omega) (by omega)
 have w2:IntKind.wrap .i64 (p.read + p.wrong)=p.read + p.wrong:=wrap64_in (by omega) (by omega)
 have lw:w.lim≤w.next + 1:=by omega
 simp [mc129,readC,cellsOf_agg,w1,w2,lw,tupV,spC,readS]
@[simp] theorem smi2 (a b:Int):sameVal 5 (.agg ⟨[.int .i64 a,.int .i64 b]⟩) (.agg ⟨[.int .i64 a,.int .i64 b]⟩)=true:=same_agg _ (by
 intro v hv
 simp only [List.mem_cons,List.not_mem_nil,or_false] at hv
 rcases hv with rfl | rfl <;> exact sameN_int _ _ _)
@[simp] theorem smi3 (a b c:Int):sameVal 5 (.agg ⟨[.int .i64 a,.int .i64 b,.int .i64 c]⟩) (.agg ⟨[.int .i64 a,.int .i64 b,.int .i64 c]⟩)=true:=same_agg _ (by
 intro v hv
 simp only [List.mem_cons,List.not_mem_nil,or_false] at hv
 rcases hv with rfl | rfl | rfl <;> exact sameN_int _ _ _)
@[simp] theorem smi4 (a b c d:Int):sameVal 5 (.agg ⟨[.int .i64 a,.int .i64 b,.int .i64 c,.int .i64 d]⟩) (.agg ⟨[.int .i64 a,.int .i64 b,.int .i64 c,.int .i64 d]⟩)=true:=same_agg _ (by
 intro v hv
 simp only [List.mem_cons,List.not_mem_nil,or_false] at hv
 rcases hv with rfl | rfl | rfl | rfl <;> exact sameN_int _ _ _)
@[simp] theorem op_makeIf {P:Program} {t:Tm} {w:AW} (ty s:TypeId) (x:Operand):(opS P ty (.makeInterface s x)).val t w=ifaceA P w s ((evS x).val t):=rfl
@[simp] theorem op_invoke {P:Program} {t:Tm} {w:AW} (ty:TypeId) (x:Operand) (name:String) (args:Array Operand) (ts:Array TypeId):(opS P ty (.call ⟨.invoke x name,args,ts⟩)).val t w=callM P w ((evS x).val t) name ((evL args.toList).val t):=rfl
@[simp] theorem if166 (a b c d:Int) (w:AW):ifaceA Tryd.prog w 166 (.agg ⟨[.int .i64 a,.int .i64 b,.int .i64 c,.int .i64 d]⟩)=.val (.iface 166 (.agg ⟨[.int .i64 a,.int .i64 b,.int .i64 c,.int .i64 d]⟩)) w:=by kernel_rfl
@[simp] theorem if168 (a b c d:Int) (w:AW):ifaceA Tryd.prog w 168 (.agg ⟨[.int .i64 a,.int .i64 b,.int .i64 c,.int .i64 d]⟩)=.val (.iface 168 (.agg ⟨[.int .i64 a,.int .i64 b,.int .i64 c,.int .i64 d]⟩)) w:=by kernel_rfl
@[simp] theorem if158 (a b c:Int) (w:AW):ifaceA Tryd.prog w 158 (.agg ⟨[.int .i64 a,.int .i64 b,.int .i64 c]⟩)=.val (.iface 158 (.agg ⟨[.int .i64 a,.int .i64 b,.int .i64 c]⟩)) w:=by kernel_rfl
@[simp] theorem cm166 (v:Value) (w:AW):callM Tryd.prog w (.iface 166 v) "rostellum/cure.span" []=.enter 130 [v] w:=by kernel_rfl
@[simp] theorem cm168 (v:Value) (w:AW):callM Tryd.prog w (.iface 168 v) "rostellum/cure.span" []=.enter 131 [v] w:=by kernel_rfl
@[simp] theorem cm158 (v:Value) (w:AW):callM Tryd.prog w (.iface 158 v) "rostellum/cure.span" []=.enter 129 [v] w:=by kernel_rfl
@[simp] theorem fl25_0 (a b:Int) (w:AW):fieldA Tryd.prog w 25 0 (.agg ⟨[.int .i64 a,.int .i64 b]⟩)=.val (.int .i64 a) w:=by kernel_rfl
@[simp] theorem fl25_1 (a b:Int) (w:AW):fieldA Tryd.prog w 25 1 (.agg ⟨[.int .i64 a,.int .i64 b]⟩)=.val (.int .i64 b) w:=by kernel_rfl
theorem len159V {w w':AW} {v:Value} {l:List CRead} (h:RowsV readC w v l):lenB Tryd.prog w' 159 v=.val (.int .i64 (l.length:Nat)) w':=by
 obtain ⟨a,c,rfl⟩:=h.len; simp
def S111:PSpec where
 R args w v:=∃ (s:Sp) (p:Sp × Sp) (lv:Value),args=[.agg ⟨spC s⟩,lv]∧RowsV pairC w lv [p]∧smallS p.1∧smallS p.2∧w.lim≤w.next∧v=.agg ⟨spC (bothS s (restS p.1 p.2))⟩
 uniq:=by
  rintro _ _ _ _ ⟨⟨_,_⟩,p,_,rfl,h1,_,_,_,rfl⟩ ⟨⟨_,_⟩,p',_,h,k1,_,_,_,rfl⟩
  cases h
  have:=h1.uniq (m:=4) pairC_length pairC_inj k1
  cases this; rfl
 shut:=fun ⟨s,p,lv,h1,h2,h3,h4,_,h5⟩=>⟨s,p,lv,h1,h2,h3,h4,Nat.le_refl _,h5⟩
theorem run111 {ov:Ov} (ho:∀ args w,ov 111 args w=none) (h130:HasP ov 130 S130.F) (s:Sp) (p:Sp × Sp) (lv:Value) (h1:smallS p.1) (h2:smallS p.2) (w:AW) (hl:w.lim=w.next) (hlv:RowsV pairC w lv [p]):∃ x w',(run Tryd.prog ov 2).call 111 [.agg ⟨spC s⟩,lv] w .none=.ok (.ret x) w' .none∧x=.agg ⟨spC (bothS s (restS p.1 p.2))⟩:=by
 refine call_wp text111 (by simp) (ho _ _) ?_
 obtain ⟨b,off,sq,c,rfl,hra⟩:=hlv.at_ 0 (by simp)
 have hld:=hra.rd (m:=4) pairC_length (i:=0) (a:=p) rfl
 have hb:=hra.2
 have e1:¬ b=w.next:=by omega
 have e2:¬ b=w.next + 1:=by omega
 have e3:¬ b=w.next + 1 + 1:=by omega
 simp only [Nat.zero_mul,Nat.add_zero,pairC] at hld
 have lw:w.lim≤w.next:=by omega
 have lw1:w.lim≤w.next + 1:=by omega
 have lw2:w.lim≤w.next + 1 + 1:=by omega
 have hia:∀ w,indexAddrA Tryd.prog w 169 (.slice (some ⟨b,off,sq⟩) 1 c) (.int .i64 0)=.val (.pointer (some ((⟨b,off,sq⟩:Addr).add (0 * 4)))) w:=fun w=>ia169 w ⟨b,off,sq⟩ 1 c .i64 0 (by decide)
 have r130:=fun (w:AW) hw=>S130.call1 (P:=Tryd.prog) h130 (w:=w) ⟨p,rfl,h1,h2,hw,rfl⟩
 simp only [pairC,spC] at r130 ⊢
 simp [mc111,cellsOf_agg]
 refine wp_seqX (wp_blockX (wp_rounds (fun i t w'=>(i=0∧w'=⟨(w.heap.put w.next (some (.cells [.int .i64 s.1,.int .i64 s.2] 25 false))).put (w.next + 1) (some (.cells [.int .i64 0,.int .i64 0] 25 false)),w.next + 1 + 1,w.lim⟩∨i=1∧w'.heap.get w.next=some (.cells [.int .i64 (bothS s (restS p.1 p.2)).1,.int .i64 (bothS s (restS p.1 p.2)).2] 25 false)∧w'.heap.get (w.next + 1)=some (.cells [.int .i64 0,.int .i64 0] 25 false)∧w'.lim=w.lim)∧tget t 2=.pointer (some ⟨w.next,0,none⟩)∧tget t 4=.pointer (some ⟨w.next + 1,0,none⟩)∧tget t 7=.slice (some ⟨b,off,sq⟩) 1 c∧tget t 8=.int .i64 1∧tget t 9=.int .i64 (i:Nat)) 20 (by decide) ?_ ?_))
 ·refine ⟨.inl ⟨rfl,rfl⟩,by simp,by simp,by simp,by simp,by simp⟩
 ·rintro i t w' ⟨hi,t2,t4,t7,t8,t9⟩
  rcases hi with ⟨rfl,rfl⟩ | ⟨rfl,g2,g4,hlm⟩
  ·have t9:tget t 9=.int .i64 0:=by simpa using t9
   have r:=r130 ⟨(((w.heap.put w.next (some (.cells [.int .i64 s.1,.int .i64 s.2] 25 false))).put (w.next + 1) (some (.cells [.int .i64 0,.int .i64 0] 25 false))).put (w.next + 1 + 1) (some (.cells [.int .i64 0,.int .i64 0,.int .i64 0,.int .i64 0] 166 false))).put (w.next + 1 + 1) (some (.cells [.int .i64 p.1.1,.int .i64 p.1.2,.int .i64 p.2.1,.int .i64 p.2.2] 166 false)),w.next + 1 + 1 + 1,w.lim⟩ (by show w.lim≤w.next + 1 + 1 + 1; omega)
   simp [mc111_l0,t2,t4,t7,t8,t9,hia,e1,e2,e3,hld,lw,lw1,lw2,r,least2,most2,bothS]
   exact wrap64_in (by decide) (by decide)
  ·have t9:tget t 9=.int .i64 1:=by simpa using t9
   have lw1':w'.lim≤w.next + 1:=by omega
   simp [mc111_l0,t2,t4,t8,t9,g2,g4,lw1',tupV,bothS]
def S112:PSpec where
 R args w v:=∃ (s:Sp) (p:Sp × Sp) (lv:Value),args=[.agg ⟨spC s⟩,lv]∧RowsV pairC w lv [p]∧smallS p.1∧smallS p.2∧w.lim≤w.next∧v=.agg ⟨spC (bothS s (wholeS p.1 p.2))⟩
 uniq:=by
  rintro _ _ _ _ ⟨⟨_,_⟩,p,_,rfl,h1,_,_,_,rfl⟩ ⟨⟨_,_⟩,p',_,h,k1,_,_,_,rfl⟩
  cases h
  have:=h1.uniq (m:=4) pairC_length pairC_inj k1
  cases this; rfl
 shut:=fun ⟨s,p,lv,h1,h2,h3,h4,_,h5⟩=>⟨s,p,lv,h1,h2,h3,h4,Nat.le_refl _,h5⟩
theorem run112 {ov:Ov} (ho:∀ args w,ov 112 args w=none) (h131:HasP ov 131 S131.F) (s:Sp) (p:Sp × Sp) (lv:Value) (h1:smallS p.1) (h2:smallS p.2) (w:AW) (hl:w.lim=w.next) (hlv:RowsV pairC w lv [p]):∃ x w',(run Tryd.prog ov 2).call 112 [.agg ⟨spC s⟩,lv] w .none=.ok (.ret x) w' .none∧x=.agg ⟨spC (bothS s (wholeS p.1 p.2))⟩:=by
 refine call_wp text112 (by simp) (ho _ _) ?_
 obtain ⟨b,off,sq,c,rfl,hra⟩:=hlv.at_ 0 (by simp)
 have hld:=hra.rd (m:=4) pairC_length (i:=0) (a:=p) rfl
 have hb:=hra.2
 have e1:¬ b=w.next:=by omega
 have e2:¬ b=w.next + 1:=by omega
 have e3:¬ b=w.next + 1 + 1:=by omega
 simp only [Nat.zero_mul,Nat.add_zero,pairC] at hld
 have lw:w.lim≤w.next:=by omega
 have lw1:w.lim≤w.next + 1:=by omega
 have lw2:w.lim≤w.next + 1 + 1:=by omega
 have hia:∀ w,indexAddrA Tryd.prog w 170 (.slice (some ⟨b,off,sq⟩) 1 c) (.int .i64 0)=.val (.pointer (some ((⟨b,off,sq⟩:Addr).add (0 * 4)))) w:=fun w=>ia170 w ⟨b,off,sq⟩ 1 c .i64 0 (by decide)
 have r131:=fun (w:AW) hw=>S131.call1 (P:=Tryd.prog) h131 (w:=w) ⟨p,rfl,h1,h2,hw,rfl⟩
 simp only [pairC,spC] at r131 ⊢
 simp [mc112,cellsOf_agg]
 refine wp_seqX (wp_blockX (wp_rounds (fun i t w'=>(i=0∧w'=⟨(w.heap.put w.next (some (.cells [.int .i64 s.1,.int .i64 s.2] 25 false))).put (w.next + 1) (some (.cells [.int .i64 0,.int .i64 0] 25 false)),w.next + 1 + 1,w.lim⟩∨i=1∧w'.heap.get w.next=some (.cells [.int .i64 (bothS s (wholeS p.1 p.2)).1,.int .i64 (bothS s (wholeS p.1 p.2)).2] 25 false)∧w'.heap.get (w.next + 1)=some (.cells [.int .i64 0,.int .i64 0] 25 false)∧w'.lim=w.lim)∧tget t 2=.pointer (some ⟨w.next,0,none⟩)∧tget t 4=.pointer (some ⟨w.next + 1,0,none⟩)∧tget t 7=.slice (some ⟨b,off,sq⟩) 1 c∧tget t 8=.int .i64 1∧tget t 9=.int .i64 (i:Nat)) 20 (by decide) ?_ ?_))
 ·refine ⟨.inl ⟨rfl,rfl⟩,by simp,by simp,by simp,by simp,by simp⟩
 ·rintro i t w' ⟨hi,t2,t4,t7,t8,t9⟩
  rcases hi with ⟨rfl,rfl⟩ | ⟨rfl,g2,g4,hlm⟩
  ·have t9:tget t 9=.int .i64 0:=by simpa using t9
   have r:=r131 ⟨(((w.heap.put w.next (some (.cells [.int .i64 s.1,.int .i64 s.2] 25 false))).put (w.next + 1) (some (.cells [.int .i64 0,.int .i64 0] 25 false))).put (w.next + 1 + 1) (some (.cells [.int .i64 0,.int .i64 0,.int .i64 0,.int .i64 0] 168 false))).put (w.next + 1 + 1) (some (.cells [.int .i64 p.1.1,.int .i64 p.1.2,.int .i64 p.2.1,.int .i64 p.2.2] 168 false)),w.next + 1 + 1 + 1,w.lim⟩ (by show w.lim≤w.next + 1 + 1 + 1; omega)
   simp [mc112_l0,t2,t4,t7,t8,t9,hia,e1,e2,e3,hld,lw,lw1,lw2,r,least2,most2,bothS]
   exact wrap64_in (by decide) (by decide)
  ·have t9:tget t 9=.int .i64 1:=by simpa using t9
   have lw1':w'.lim≤w.next + 1:=by omega
   simp [mc112_l0,t2,t4,t8,t9,g2,g4,lw1',tupV,bothS]
def S102:PSpec where
 R args w v:=∃ (s:Sp) (l:List CRead) (lv:Value),args=[.agg ⟨spC s⟩,lv]∧RowsV readC w lv l∧l.length≤10∧(∀ p ∈ l,smallR p)∧w.lim≤w.next∧v=.agg ⟨spC (l.foldl (fun a p=>bothS a (readS p)) s)⟩
 uniq:=by
  rintro _ _ _ _ ⟨⟨_,_⟩,l,_,rfl,h1,_,_,_,rfl⟩ ⟨⟨_,_⟩,l',_,h,k1,_,_,_,rfl⟩
  cases h
  rw [h1.uniq (m:=3) readC_length readC_inj k1]
 shut:=fun ⟨s,p,lv,h1,h2,h3,h4,_,h5⟩=>⟨s,p,lv,h1,h2,h3,h4,Nat.le_refl _,h5⟩
theorem run102 {ov:Ov} (ho:∀ args w,ov 102 args w=none) (h129:HasP ov 129 S129.F) (s:Sp) (l:List CRead) (lv:Value) (hlen:l.length≤10) (hs:∀ p ∈ l,smallR p) (w:AW) (hl:w.lim=w.next) (hlv:RowsV readC w lv l):∃ x w',(run Tryd.prog ov 2).call 102 [.agg ⟨spC s⟩,lv] w .none=.ok (.ret x) w' .none∧x=.agg ⟨spC (l.foldl (fun a p=>bothS a (readS p)) s)⟩:=by
 refine call_wp text102 (by simp) (ho _ _) ?_
 have hl1:=fun w2=>len159V (w':=w2) hlv
 simp only [spC]
 simp [mc102,cellsOf_agg,hl1]
 refine wp_seqX (wp_blockX (wp_rounds (fun i t w'=>Up w w'∧w.next + 1 + 1≤w'.next∧w'.heap.get w.next=some (.cells (spC ((l.take i).foldl (fun a p=>bothS a (readS p)) s)) 25 false)∧w'.heap.get (w.next + 1)=some (.cells [.int .i64 0,.int .i64 0] 25 false)∧tget t 2=.pointer (some ⟨w.next,0,none⟩)∧tget t 4=.pointer (some ⟨w.next + 1,0,none⟩)∧tget t 7=lv∧tget t 8=.int .i64 (l.length:Nat)∧tget t 9=.int .i64 (i:Nat)∧i≤l.length) 20 (by decide) ?_ ?_))
 ·refine ⟨((Up.refl w).add _).put (Nat.le_succ _) (Nat.le_succ _),by show w.next + 1 + 1≤w.next + 1 + 1; omega,by simp [spC],by simp,by simp,by simp,by simp,by simp,by simp,Nat.zero_le _⟩
 ·rintro i t w' ⟨hup,hnx,g2,g4,t2,t4,t7,t8,t9,hi⟩
  have hlm:w'.lim=w.lim:=hup.lim
  by_cases hlt:i < l.length
  ·obtain ⟨p,hp⟩:∃ p,l[i]?=some p:=⟨_,List.getElem?_eq_getElem hlt⟩
   have hps:=hs p (List.mem_of_getElem? hp)
   obtain ⟨b,off,sq,c,rfl,hra⟩:=hlv.at_ i hlt
   have hld:=hra.rd (m:=3) readC_length hp
   rw [← hup.at hra.2] at hld
   simp only [readC] at hld
   have hia:=fun w=>ia159 w ⟨b,off,sq⟩ l.length c .i64 i hlt
   have hwi:IntKind.wrap .i64 ((i:Int) + 1)=(i:Int) + 1:=wrap64_in (by omega) (by omega)
   have e2:¬ w.next=w'.next:=by omega
   have e4:¬ w.next + 1=w'.next:=by omega
   have lw:w'.lim≤w'.next:=by omega
   have lw2:w'.lim≤w.next:=by omega
   have r129:=fun (w:AW) hw=>S129.call1 (P:=Tryd.prog) h129 (w:=w) ⟨p,rfl,hps,hw,rfl⟩
   have r:=r129 ⟨(w'.heap.put w'.next (some (.cells [.int .i64 0,.int .i64 0,.int .i64 0] 158 false))).put w'.next (some (.cells [.int .i64 p.day,.int .i64 p.read,.int .i64 p.wrong] 158 false)),w'.next + 1,w'.lim⟩ (by show w'.lim≤w'.next + 1; omega)
   have hf:(l.take (i + 1)).foldl (fun a p=>bothS a (readS p)) s=bothS ((l.take i).foldl (fun a p=>bothS a (readS p)) s) (readS p):=by rw [take_snoc hp,List.foldl_append]; rfl
   generalize (l.take i).foldl (fun a p=>bothS a (readS p)) s=a at g2 hf
   simp only [spC] at g2
   simp only [readC,spC] at r
   simp [mc102_l0,t2,t4,t7,t8,t9,hlt,hia,hld,lw,lw2,g2,e2,r,least2,most2,hwi]
   refine ⟨by omega,?_,by omega,?_,?_,hlt⟩
   ·exact ((hup.add _).put hup.next (Nat.le_refl _)).put (by show w.next≤w.next; omega) (Nat.le_refl _)
   ·rw [hf]; simp [spC,bothS]
   ·simp [e4,g4]
  ·have hi':i=l.length:=by omega
   subst hi'
   rw [List.take_length] at g2
   have lw2:w'.lim≤w.next + 1:=by omega
   simp only [spC] at g2
   simp [mc102_l0,t2,t4,t8,t9,g2,g4,lw2,tupV]
def gtS (W:List Sp) (k:Nat):Sp:=W.getD k (0,0)
def lowW (L W:List Sp) (d:Nat):List Sp:=W.set (d + 1) (bothS (gtS W (d + 1)) (restS (gtS W d) (gtS L d)))
def stepW (L W:List Sp) (d:Nat):List Sp:=(lowW L W d).set d (bothS (gtS W d) (wholeS (gtS (lowW L W d) (d + 1)) (gtS L d)))
def badW (W:List Sp) (d:Nat):Bool:=empS (gtS W d) || empS (gtS W (d + 1))
def passW (L:List Sp):Nat→List Sp→Option (List Sp)
 | 0,W=>some W
 | d + 1,W=>match passW L d W with
  | none=>none
  | some V=>if badW (stepW L V d) d=true then none else some (stepW L V d)
def narW (L:List Sp) (N:Nat):Nat→List Sp→Option (List Sp)
 | 0,W=>some W
 | f + 1,W=>match passW L N W with
  | none=>none
  | some V=>if V=W then some V else narW L N f V
theorem gtS_at {W:List Sp} {i:Nat} (h:i < W.length):W[i]?=some (gtS W i):=by
 unfold gtS
 rw [List.getD_eq_getElem?_getD,List.getElem?_eq_getElem h]; rfl
theorem gtS_of {W:List Sp} {i:Nat} {s:Sp} (h:W[i]?=some s):gtS W i=s:=by
 unfold gtS
 rw [List.getD_eq_getElem?_getD,h]; rfl
theorem gtS_set {W:List Sp} {i:Nat} (s:Sp) (h:i < W.length) (k:Nat):gtS (W.set i s) k=if k=i then s else gtS W k:=by
 unfold gtS
 rw [List.getD_eq_getElem?_getD,List.getD_eq_getElem?_getD,List.getElem?_set]
 by_cases e:k=i
 ·subst e; simp [h]
 ·rw [if_neg (fun h=>e h.symm),if_neg e]
@[simp] theorem lowW_length (L W:List Sp) (d:Nat):(lowW L W d).length=W.length:=by simp [lowW]
@[simp] theorem stepW_length (L W:List Sp) (d:Nat):(stepW L W d).length=W.length:=by simp [stepW]
theorem lowW_fn {L W:List Sp} {d:Nat} (h:d + 1 < W.length):gtS (lowW L W d)=lowS (gtS L) d (gtS W):=by
 funext k
 unfold lowW lowS updS
 rw [gtS_set _ h]
theorem stepW_fn {L W:List Sp} {d:Nat} (h:d + 1 < W.length):gtS (stepW L W d)=stepS (gtS L) d (gtS W):=by
 funext k
 unfold stepW stepS
 rw [gtS_set _ (by simp; omega),lowW_fn h]
 unfold updS
 by_cases e:k=d
 ·rw [if_pos e,if_pos e]
  have:lowS (gtS L) d (gtS W) d=gtS W d:=by
   unfold lowS updS; rw [if_neg (by omega)]
  rw [this]
 ·rw [if_neg e,if_neg e]
theorem passW_fn {L W:List Sp}:∀ {d:Nat} {V:List Sp},passW L d W=some V→d < W.length→gtS V=passS (gtS L) (gtS W) d∧V.length=W.length
 | 0,V,h,_=>by cases h; exact ⟨rfl,rfl⟩
 | d + 1,V,h,hd=>by
  simp only [passW] at h
  cases hp:passW L d W with
  | none=>rw [hp] at h; cases h
  | some V' =>
   rw [hp] at h
   simp only at h
   split at h
   ·cases h
   ·cases h
    obtain ⟨h1,h2⟩:=passW_fn hp (by omega)
    exact ⟨by rw [stepW_fn (by omega),h1]; rfl,by rw [stepW_length,h2]⟩
theorem passW_none {L W:List Sp} {d:Nat} (h:passW L d W=none):∀ n,d≤n→passW L n W=none
 | 0,hn=>by
  have:d=0:=by omega
  rw [← this]; exact h
 | n + 1,hn=>by
  by_cases e:d=n + 1
  ·rw [← e]; exact h
  ·simp only [passW]
   rw [passW_none h n (by omega)]
theorem list_ext {W V:List Sp} (hl:V.length=W.length) (h:∀ k,gtS V k=gtS W k):V=W:=by
 refine List.ext_getElem? fun k=>?_
 by_cases hk:k < W.length
 ·rw [gtS_at hk,gtS_at (hl ▸ hk),h]
 ·rw [List.getElem?_eq_none (by omega),List.getElem?_eq_none (by omega)]
def bndS (s:Sp):Prop := -2000000≤s.1∧s.1≤2000000 ∧ -2000000≤s.2∧s.2≤2000000
def BndW (W:List Sp):Prop:=∀ k,bndS (gtS W k)
def LosW (L:List Sp):Prop:=∀ k,0≤(gtS L k).1∧(gtS L k).1≤(gtS L k).2∧(gtS L k).2≤1000000
theorem bnd_small {s:Sp} (h:bndS s):smallS s:=by unfold bndS at h; unfold smallS; omega
theorem los_small {L:List Sp} (h:LosW L) (k:Nat):smallS (gtS L k):=by have:=h k; unfold smallS; omega
theorem low_small {L W:List Sp} (hW:BndW W) (hL:LosW L) {d:Nat} (h:d + 1 < W.length) (k:Nat):smallS (gtS (lowW L W d) k):=by
 unfold lowW
 rw [gtS_set _ h]
 have h1:=hW (d + 1); have h2:=hW d; have h3:=hL d; have h4:=hW k
 split
 ·unfold bndS at h1 h2; unfold smallS bothS restS; simp only; omega
 ·exact bnd_small h4
theorem step_bnd {L W:List Sp} (hW:BndW W) (hL:LosW L) {d:Nat} (h:d + 1 < W.length) (hb:badW (stepW L W d) d=false):BndW (stepW L W d):=by
 intro k
 have e:=congrFun (stepW_fn (L:=L) h)
 simp only [badW,Bool.or_eq_false_iff,empS,decide_eq_false_iff_not] at hb
 rw [e d,e (d + 1),stepS_at,stepS_at,if_pos rfl,if_neg (by omega),if_pos rfl] at hb
 rw [e k,stepS_at]
 have h1:=hW (d + 1); have h2:=hW d; have h3:=hL d; have h4:=hW k
 unfold bndS at *
 by_cases k1:k=d
 ·rw [if_pos k1]
  simp only [bothS,restS,wholeS] at hb ⊢
  omega
 ·rw [if_neg k1]
  by_cases k2:k=d + 1
  ·rw [if_pos k2]
   simp only [bothS,restS,wholeS] at hb ⊢
   omega
  ·rw [if_neg k2]; exact h4
theorem pass_bnd {L W:List Sp} (hW:BndW W) (hL:LosW L):∀ {d:Nat} {V:List Sp},passW L d W=some V→d < W.length→BndW V
 | 0,V,h,_=>by cases h; exact hW
 | d + 1,V,h,hd=>by
  simp only [passW] at h
  cases hp:passW L d W with
  | none=>rw [hp] at h; cases h
  | some V' =>
   rw [hp] at h
   simp only at h
   have h1:=pass_bnd hW hL hp (by omega)
   have h2:=(passW_fn hp (by omega)).2
   split at h
   ·cases h
   ·rename_i hb
    cases h
    exact step_bnd h1 hL (by omega) (by simpa using hb)
def FarW (L:List Sp) (N i:Nat) (W:List Sp):Prop:=i=0∨(FwdT N (gtS L) (gtS W)∧BackT N (gtS L) (gtS W) i)
theorem far_next {L W V:List Sp} {N i:Nat} (hL:LosW L) (hN:N < W.length) (h:FarW L N i W) (hp:passW L N W=some V):FarW L N (i + 1) V:=by
 obtain ⟨e,_⟩:=passW_fn hp hN
 refine .inr ?_
 rw [e]
 have hl:∀ i,i < N→(gtS L i).1≤(gtS L i).2:=fun i _=>(hL i).2.1
 rcases h with rfl | ⟨h1,h2⟩
 ·exact pass_one hl
 ·exact pass_more hl h1 h2
theorem far_end {L W V:List Sp} {N i:Nat} (hL:LosW L) (hN:N < W.length) (h0:0 < N) (h:FarW L N i W) (hi:N≤i) (hp:passW L N W=some V):V=W:=by
 obtain ⟨e,hl⟩:=passW_fn hp hN
 rcases h with rfl | ⟨h1,h2⟩
 ·omega
 ·refine list_ext hl fun k=>?_
  rw [e]
  exact pass_last (fun i _=>(hL i).2.1) h1 (fun d hd _=>h2 d hd (by omega)) k
theorem ia104_0 (w:AW) (a:Addr):indexAddrA Tryd.prog w 104 (.pointer (some a)) (.int .i64 0)=.val (.pointer (some (a.add 0))) w:=by kernel_rfl
theorem ia104_1 (w:AW) (a:Addr):indexAddrA Tryd.prog w 104 (.pointer (some a)) (.int .i64 1)=.val (.pointer (some (a.add 2))) w:=by kernel_rfl
theorem ia104_2 (w:AW) (a:Addr):indexAddrA Tryd.prog w 104 (.pointer (some a)) (.int .i64 2)=.val (.pointer (some (a.add 4))) w:=by kernel_rfl
theorem ia104_3 (w:AW) (a:Addr):indexAddrA Tryd.prog w 104 (.pointer (some a)) (.int .i64 3)=.val (.pointer (some (a.add 6))) w:=by kernel_rfl
theorem ia104_4 (w:AW) (a:Addr):indexAddrA Tryd.prog w 104 (.pointer (some a)) (.int .i64 4)=.val (.pointer (some (a.add 8))) w:=by kernel_rfl
theorem ia104_5 (w:AW) (a:Addr):indexAddrA Tryd.prog w 104 (.pointer (some a)) (.int .i64 5)=.val (.pointer (some (a.add 10))) w:=by kernel_rfl
theorem ia104_6 (w:AW) (a:Addr):indexAddrA Tryd.prog w 104 (.pointer (some a)) (.int .i64 6)=.val (.pointer (some (a.add 12))) w:=by kernel_rfl
theorem ia104_7 (w:AW) (a:Addr):indexAddrA Tryd.prog w 104 (.pointer (some a)) (.int .i64 7)=.val (.pointer (some (a.add 14))) w:=by kernel_rfl
theorem ia104_8 (w:AW) (a:Addr):indexAddrA Tryd.prog w 104 (.pointer (some a)) (.int .i64 8)=.val (.pointer (some (a.add 16))) w:=by kernel_rfl
theorem ia104_9 (w:AW) (a:Addr):indexAddrA Tryd.prog w 104 (.pointer (some a)) (.int .i64 9)=.val (.pointer (some (a.add 18))) w:=by kernel_rfl
theorem ia104_10 (w:AW) (a:Addr):indexAddrA Tryd.prog w 104 (.pointer (some a)) (.int .i64 10)=.val (.pointer (some (a.add 20))) w:=by kernel_rfl
theorem ia104_11 (w:AW) (a:Addr):indexAddrA Tryd.prog w 104 (.pointer (some a)) (.int .i64 11)=.val (.pointer (some (a.add 22))) w:=by kernel_rfl
theorem ia104_12 (w:AW) (a:Addr):indexAddrA Tryd.prog w 104 (.pointer (some a)) (.int .i64 12)=.val (.pointer (some (a.add 24))) w:=by kernel_rfl
theorem ia104_13 (w:AW) (a:Addr):indexAddrA Tryd.prog w 104 (.pointer (some a)) (.int .i64 13)=.val (.pointer (some (a.add 26))) w:=by kernel_rfl
theorem ia104_14 (w:AW) (a:Addr):indexAddrA Tryd.prog w 104 (.pointer (some a)) (.int .i64 14)=.val (.pointer (some (a.add 28))) w:=by kernel_rfl
theorem ia104_15 (w:AW) (a:Addr):indexAddrA Tryd.prog w 104 (.pointer (some a)) (.int .i64 15)=.val (.pointer (some (a.add 30))) w:=by kernel_rfl
theorem ia104 (w:AW) (a:Addr) (i:Nat) (hi:i < 16):indexAddrA Tryd.prog w 104 (.pointer (some a)) (.int .i64 (i:Int))=.val (.pointer (some (a.add (i * 2)))) w:=by
 have:i=0∨i=1∨i=2∨i=3∨i=4∨i=5∨i=6∨i=7∨i=8∨i=9∨i=10∨i=11∨i=12∨i=13∨i=14∨i=15:=by omega
 rcases this with rfl | rfl | rfl | rfl | rfl | rfl | rfl | rfl | rfl | rfl | rfl | rfl | rfl | rfl | rfl | rfl
 ·exact ia104_0 w a
 ·exact ia104_1 w a
 ·exact ia104_2 w a
 ·exact ia104_3 w a
 ·exact ia104_4 w a
 ·exact ia104_5 w a
 ·exact ia104_6 w a
 ·exact ia104_7 w a
 ·exact ia104_8 w a
 ·exact ia104_9 w a
 ·exact ia104_10 w a
 ·exact ia104_11 w a
 ·exact ia104_12 w a
 ·exact ia104_13 w a
 ·exact ia104_14 w a
 ·exact ia104_15 w a
@[simp] theorem isC_tmp (n:Nat):isConst (.tmp n)=false:=rfl
@[simp] theorem isC_const (v:Value):isConst (.const v)=true:=rfl
theorem same_row:∀ (V W:List Sp),V.length=W.length→sameL (List.replicate (V.length * 2) 0) (V.flatMap spC) (W.flatMap spC)=some (decide (V=W))
 | [],[],_=>rfl
 | [],_::_,h=>by simp at h
 | _::_,[],h=>by simp at h
 | v::V,u::W,h=>by
  have ih:=same_row V W (by simpa using h)
  rw [show (v::V).length * 2=V.length * 2 + 1 + 1 by simp; omega,List.replicate_succ,List.replicate_succ]
  simp only [List.flatMap_cons,spC,List.cons_append,List.nil_append,sameL_int,ih]
  obtain ⟨a,b⟩:=v
  obtain ⟨c,d⟩:=u
  by_cases h1:a=c
  ·by_cases h2:b=d
   ·subst h1; subst h2; simp
   ·simp [h1,h2]
  ·simp [h1]
theorem eq_row {V W:List Sp} (hV:V.length=16) (hW:W.length=16):eqFlat true [0,0,0,0,0,0,0,0,0,0,0,0,0,0,0,0,0,0,0,0,0,0,0,0,0,0,0,0,0,0,0,0] (.agg ⟨V.flatMap spC⟩) (.agg ⟨W.flatMap spC⟩)=some (decide (V=W)):=by
 rw [eqFlat_agg]
 have:=same_row V W (by omega)
 rw [hV] at this
 exact this
theorem row_len {W:List Sp} (h:W.length=16):(W.flatMap spC).length=32:=by rw [flat_length spC_length,h]
theorem row_sing:∀ W:List Sp,singles (W.flatMap spC)=true:=flat_singles fun _=>rfl
theorem row_ld {W:List Sp} (h:W.length=16) {i:Nat} (hi:i < 16):((W.flatMap spC).drop (i * 2)).take 2=[.int .i64 (gtS W i).1,.int .i64 (gtS W i).2]∧i * 2 + 2≤32:=by
 have:=flat_at spC_length W i (gtS W i) [] (gtS_at (by omega))
 rw [List.append_nil] at this
 exact ⟨this.1,by omega⟩
theorem row_st {W:List Sp} (h:W.length=16) {i:Nat} (hi:i < 16) (s:Sp):(W.flatMap spC).take (i * 2)++.int .i64 s.1::.int .i64 s.2::(W.flatMap spC).drop (i * 2 + 2)=(W.set i s).flatMap spC:=flat_set spC_length W i s (by omega)
theorem append_zero {P:Program} {st e:TypeId} {sz:Nat} (h0:isList P st=true) (h1:elemA P st=some e) (h2:szOf P e=some sz) (h3:smallT P e=true) {w:AW} {base:Option Addr} {n cap:Nat} {a:Addr} {c:Nat} (hn:n≤100000) :
  append1 P w [st,st] [.slice base n cap,.slice (some a) 0 c]=.val (.slice base n cap) w:=by
 rw [append_eq h0 h1 h2 h3]
 have e1:Nat.ble (n + 0) 1000000=true:=Nat.ble_eq_true_of_le (by omega)
 have e2:Nat.beq (0 * sz) 0=true:=by rw [Nat.zero_mul]; rfl
 have e3:Nat.beq (lenL ([]:List Value) 0) (0 * sz)=true:=by rw [Nat.zero_mul]; rfl
 simp only [lenA,srcCells,e2,cond_true,e1,e3,Bool.and_self,appendB]
 rfl
theorem list43:isList Tryd.prog 43=true:=by kernel_rfl
theorem elem43:elemA Tryd.prog 43=some 25:=by kernel_rfl
theorem sz25:szOf Tryd.prog 25=some 2:=by kernel_rfl
theorem small25:smallT Tryd.prog 25=true:=by kernel_rfl
@[simp] theorem eqn43 (B n c:Nat) (w:AW):(binW Tryd.prog .eql 43 true).val (.slice (some ⟨B,0,none⟩) n c) (.slice none 0 0) w=.val (.bool false) w:=by kernel_rfl
theorem call63 {ov:Ov} (m:Nat) (ho:∀ args w,ov 63 args w=none) (L:List Sp) (hlen:L.length≤1000) (pv:Value) (we:AW) (hlim:we.lim≤we.next) (hpv:ProcV we pv L) :
  ∃ v w',(run Tryd.prog ov (m + 1)).call 63 [pv] we .none=.ok (.ret v) w' .none∧∃ B,v=.slice (some ⟨B,0,none⟩) L.length L.length∧w'.heap.get B=some (.cells (L.flatMap spC) 25 false)∧we.next≤B∧B < w'.next∧Up we w':=by
 refine call_wp text63 (by simp) (ho _ _) ?_
 obtain ⟨B0,rfl,hB,hb⟩:=hpv
 have nj:∀ (a:Addr) n c,notJunk (.slice (some a) n c)=some (.slice (some a) n c):=fun _ _ _=>rfl
 by_cases h0:L.length=0
 ·have hL:L=[]:=List.eq_nil_of_length_eq_zero h0
  subst hL
  have hz:=fun w=>append_zero (P:=Tryd.prog) list43 elem43 sz25 small25 (w:=w) (base:=some ⟨we.next,0,none⟩) (n:=0) (cap:=0) (a:=⟨B0,0,none⟩) (c:=0) (by decide)
  simp [mc63,hz,nj,tupV]
  exact (Up.refl we).add _
 ·have hB':(we.heap.put we.next (some (.cells [] 25 false))).get B0=some (.cells (L.flatMap spC) 25 false):=by rw [get_put,if_neg (by omega)]; exact hB
  have hsrc:srcCells ⟨we.heap.put we.next (some (.cells [] 25 false)),we.next + 1,we.lim⟩ 2 (.slice (some ⟨B0,0,none⟩) L.length L.length)=some (L.flatMap spC):=src_row hB' (flat_length spC_length L) (by omega) (by decide)
  have hap:=append_full (P:=Tryd.prog) list43 elem43 sz25 small25 (w:=⟨we.heap.put we.next (some (.cells [] 25 false)),we.next + 1,we.lim⟩) (B:=we.next) (n:=0) (m:=L.length) (c:=[]) (new:=L.flatMap spC) (x:=.slice (some ⟨B0,0,none⟩) L.length L.length) rfl hsrc (flat_length spC_length L) (flat_singles (fun _=>rfl) L) (by omega) (by omega) (by simp) (by simp) hlim
  simp only [Nat.zero_add,List.nil_append] at hap
  simp [mc63,hap,nj,tupV]
  exact (((Up.refl we).add _).put (Nat.le_refl _) (Nat.le_refl _)).put (Nat.le_succ _) (Nat.le_succ _)
def zerC:List Value:=(List.replicate 16 ((0,0):Sp)).flatMap spC
structure In104 (w0:AW) (c3:Nat) (W:List Sp) (w:AW):Prop where
 row:w.heap.get c3=some (.cells (W.flatMap spC) 104 false)
 old:∀ x,x < w0.next→x ≠ c3→w.heap.get x=w0.heap.get x
 next:w0.next≤w.next
 lim:w.lim=w0.lim
structure KeepN (t t':Tm):Prop where
 k3:tget t' 3=tget t 3
 k4:tget t' 4=tget t 4
 k6:tget t' 6=tget t 6
 k7:tget t' 7=tget t 7
set_option maxHeartbeats 4000000 in
theorem inner104 {ov:Ov} (m:Nat) (h92:HasP ov 92 S92.F) (h111:HasP ov 111 S111.F) (h112:HasP ov 112 S112.F) (L:List Sp) (hL:LosW L) (hN15:L.length≤15) (Wi:List Sp) (hW:BndW Wi) (h16:Wi.length=16) (w0:AW) (c3 BL c4:Nat) (hc3:c3 < w0.next) (hBL:BL < w0.next∧BL ≠ c3) (gL:w0.heap.get BL=some (.cells (L.flatMap spC) 25 false)) (hc4:c4 < w0.next∧c4 ≠ c3) (g4:w0.heap.get c4=some (.cells zerC 104 false)) (hlim:w0.lim≤c3∧w0.lim≤c4)
  (Q:Ex→Tm→AW→Prop) (t:Tm) (w:AW) (hw:In104 w0 c3 Wi w) (t3:tget t 3=.pointer (some ⟨c3,0,none⟩)) (t4:tget t 4=.pointer (some ⟨c4,0,none⟩)) (t17:tget t 17=.slice (some ⟨BL,0,none⟩) L.length L.length) (t18:tget t 18=.int .i64 (L.length:Nat)) (t19:tget t 19=.int .i64 0)
  (hno:passW L L.length Wi=none→∀ t' w',tget t' 4=.pointer (some ⟨c4,0,none⟩)→tget t' 5=.bool false→w'.heap.get c4=some (.cells zerC 104 false)→Q .ret t' w')
  (hyes:∀ V,passW L L.length Wi=some V→∀ t' w',In104 w0 c3 V w'→KeepN t t'→Q (.exit 2) t' w'):wp (exM Tryd.prog (run Tryd.prog ov (m + 1)) (.loop mc104_l1) t w) Q:=by
 refine wp_rounds (fun d t' w'=>∃ V,passW L d Wi=some V∧In104 w0 c3 V w'∧KeepN t t'∧tget t' 17=.slice (some ⟨BL,0,none⟩) L.length L.length∧tget t' 18=.int .i64 (L.length:Nat)∧tget t' 19=.int .i64 (d:Nat)∧d≤L.length) 20 (by decide) ⟨Wi,rfl,hw,⟨rfl,rfl,rfl,rfl⟩,t17,t18,by simpa using t19,Nat.zero_le _⟩ ?_
 clear t17 t18 t19 hw
 rintro d t' w' ⟨V,hp,hw,hk,t17,t18,t19,hd⟩
 have u3:=hk.k3; have u4:=hk.k4
 rw [t3] at u3; rw [t4] at u4
 by_cases hlt:d < L.length
 ·obtain ⟨_,hV16⟩:=passW_fn hp (by omega)
  rw [h16] at hV16
  have hVb:=pass_bnd hW hL hp (by omega)
  have hnx:=hw.next
  have hlm:=hw.lim
  have hLd:=gtS_at hlt
  have hraL:RowsA spC w0.heap w0.next BL 0 L:=⟨⟨[],[],25,false,by simpa using gL,rfl⟩,hBL.1⟩
  have fL:=hraL.rd spC_length hLd
  rw [← hw.old BL hBL.1 hBL.2,Nat.zero_add] at fL
  have hiL:=fun w=>ia43 w ⟨BL,0,none⟩ L.length L.length .i64 d hlt
  have hid0:=fun w=>ia104 w ⟨c3,0,none⟩ d (by omega)
  have hid1:∀ w,indexAddrA Tryd.prog w 104 (.pointer (some ⟨c3,0,none⟩)) (.int .i64 ((d:Int) + 1))=.val (.pointer (some ((⟨c3,0,none⟩:Addr).add ((d + 1) * 2)))) w:=fun w=>by
   have:=ia104 w ⟨c3,0,none⟩ (d + 1) (by omega)
   rw [show ((d + 1:Nat):Int)=(d:Int) + 1 by omega] at this
   exact this
  have hw1:IntKind.wrap .i64 ((d:Int) + 1)=(d:Int) + 1:=wrap64_in (by omega) (by omega)
  obtain ⟨tk0,q0⟩:=row_ld hV16 (i:=d) (by omega)
  obtain ⟨tk1,q1⟩:=row_ld hV16 (i:=d + 1) (by omega)
  have hcl:=row_len hV16
  have hs1:=row_st hV16 (i:=d + 1) (by omega) (bothS (gtS V (d + 1)) (restS (gtS V d) (gtS L d)))
  have h16':(lowW L V d).length=16:=by simp [hV16]
  have hcl':=row_len h16'
  obtain ⟨tl0,_⟩:=row_ld h16' (i:=d) (by omega)
  obtain ⟨tl1,_⟩:=row_ld h16' (i:=d + 1) (by omega)
  have hs0:=row_st h16' (i:=d) (by omega) (bothS (gtS V d) (wholeS (gtS (lowW L V d) (d + 1)) (gtS L d)))
  have h16'':(stepW L V d).length=16:=by simp [hV16]
  have hcl'':=row_len h16''
  obtain ⟨ts0,_⟩:=row_ld h16'' (i:=d) (by omega)
  obtain ⟨ts1,_⟩:=row_ld h16'' (i:=d + 1) (by omega)
  have el0:gtS (lowW L V d) d=gtS V d:=by unfold lowW; rw [gtS_set _ (by omega),if_neg (by omega)]
  have el1:gtS (lowW L V d) (d + 1)=bothS (gtS V (d + 1)) (restS (gtS V d) (gtS L d)):=by unfold lowW; rw [gtS_set _ (by omega),if_pos rfl]
  have es0:gtS (stepW L V d) d=bothS (gtS V d) (wholeS (gtS (lowW L V d) (d + 1)) (gtS L d)):=by unfold stepW; rw [gtS_set _ (by simp; omega),if_pos rfl]
  have es1:gtS (stepW L V d) (d + 1)=gtS (lowW L V d) (d + 1):=by unfold stepW; rw [gtS_set _ (by simp; omega),if_neg (by omega)]
  have lowb:=low_small hVb hL (d:=d) (by omega)
  change _=(lowW L V d).flatMap spC at hs1
  change _=(stepW L V d).flatMap spC at hs0
  rw [← el1] at hs1
  rw [← es0] at hs0
  rw [el0] at tl0
  have n3:¬ c3=w'.next:=by omega
  have n3':¬ c3=w'.next + 1:=by omega
  have n3'':¬ c3=w'.next + 1 + 1:=by omega
  have m3:¬ w'.next=c3:=by omega
  have m3':¬ w'.next + 1=c3:=by omega
  have m3'':¬ w'.next + 1 + 1=c3:=by omega
  have lw:w'.lim≤w'.next:=by omega
  have lw3:w'.lim≤c3:=by omega
  have hrow:=hw.row
  have r92:=fun a b w=>S92.call (P:=Tryd.prog) h92 (m:=m) (w:=w) ⟨a,b,rfl,rfl⟩
  -- the two calls
  obtain ⟨M1,hM1⟩:∃ M1:AW,M1=⟨((w'.heap.put w'.next (some (.cells [.int .i64 0,.int .i64 0] 25 false))).put w'.next (some (.cells [.int .i64 (gtS L d).1,.int .i64 (gtS L d).2] 25 false))).put (w'.next + 1) (some (.cells [.int .i64 (gtS V d).1,.int .i64 (gtS V d).2,.int .i64 (gtS L d).1,.int .i64 (gtS L d).2] 166 false)),w'.next + 1 + 1,w'.lim⟩:=⟨_,rfl⟩
  have r111:=S111.call (P:=Tryd.prog) h111 (m:=m) (w:=M1) ⟨gtS V (d + 1),(gtS V d,gtS L d),.slice (some ⟨w'.next + 1,0,none⟩) 1 1,rfl,.inr ⟨w'.next + 1,0,none,1,rfl,⟨[],[],166,false,by rw [hM1]; simp [pairC],rfl⟩,by rw [hM1]; exact Nat.lt_succ_self _⟩,bnd_small (hVb d),los_small hL d,by rw [hM1]; show w'.lim≤w'.next + 1 + 1; omega,rfl⟩
  rw [← el1,hM1] at r111
  simp only [spC] at r111
  obtain ⟨M2,hM2⟩:∃ M2:AW,M2=⟨((((w'.heap.put w'.next (some (.cells [.int .i64 0,.int .i64 0] 25 false))).put w'.next (some (.cells [.int .i64 (gtS L d).1,.int .i64 (gtS L d).2] 25 false))).put (w'.next + 1) (some (.cells [.int .i64 (gtS V d).1,.int .i64 (gtS V d).2,.int .i64 (gtS L d).1,.int .i64 (gtS L d).2] 166 false))).put c3 (some (.cells ((lowW L V d).flatMap spC) 104 false))).put (w'.next + 1 + 1) (some (.cells [.int .i64 (gtS (lowW L V d) (d + 1)).1,.int .i64 (gtS (lowW L V d) (d + 1)).2,.int .i64 (gtS L d).1,.int .i64 (gtS L d).2] 168 false)),w'.next + 1 + 1 + 1,w'.lim⟩:=⟨_,rfl⟩
  have r112:=S112.call (P:=Tryd.prog) h112 (m:=m) (w:=M2) ⟨gtS V d,(gtS (lowW L V d) (d + 1),gtS L d),.slice (some ⟨w'.next + 1 + 1,0,none⟩) 1 1,rfl,.inr ⟨w'.next + 1 + 1,0,none,1,rfl,⟨[],[],168,false,by rw [hM2]; simp [pairC],rfl⟩,by rw [hM2]; exact Nat.lt_succ_self _⟩,lowb (d + 1),los_small hL d,by rw [hM2]; show w'.lim≤w'.next + 1 + 1 + 1; omega,rfl⟩
  rw [← es0,hM2] at r112
  simp only [spC] at r112
  rw [es1] at ts1
  obtain ⟨cs,hcs⟩:∃ cs,cs=V.flatMap spC:=⟨_,rfl⟩
  obtain ⟨cs1,hcs1⟩:∃ cs,cs=(lowW L V d).flatMap spC:=⟨_,rfl⟩
  obtain ⟨cs2,hcs2⟩:∃ cs,cs=(stepW L V d).flatMap spC:=⟨_,rfl⟩
  rw [← hcs] at hrow tk0 tk1 hcl hs1
  rw [← hcs1] at hs1 hcl' tl0 tl1 hs0 r112
  rw [← hcs2] at hs0 hcl'' ts0 ts1
  simp only [spC] at fL
  have hpn:passW L (d + 1) Wi=if badW (stepW L V d) d=true then none else some (stepW L V d):=by
   simp only [passW]; rw [hp]
  have hbad:badW (stepW L V d) d=(decide ((gtS (stepW L V d) d).2 < (gtS (stepW L V d) d).1) || decide ((gtS (lowW L V d) (d + 1)).2 < (gtS (lowW L V d) (d + 1)).1)):=by
   unfold badW empS; rw [es1]
  have hmem:∀ M:T AObj,M=(M2.heap.put c3 (some (.cells cs2 104 false)))→In104 w0 c3 (stepW L V d) ⟨M,w'.next + 1 + 1 + 1,w'.lim⟩:=by
   intro M hM
   subst hM
   refine ⟨?_,fun x h1 h2=>?_,by show w0.next≤w'.next + 1 + 1 + 1; omega,hlm⟩
   ·show (M2.heap.put c3 _).get c3=_
    rw [get_put,if_pos rfl,hcs2]
   ·show (M2.heap.put c3 _).get x=_
    rw [get_put,if_neg h2,hM2]
    show ((((((w'.heap.put _ _).put _ _).put _ _).put _ _).put _ _).get x)=_
    rw [get_put,if_neg (by omega),get_put,if_neg h2,get_put,if_neg (by omega),get_put,if_neg (by omega),get_put,if_neg (by omega)]
    exact hw.old x h1 h2
  rw [hM2,← hcs1] at hmem
  have g4w:w'.heap.get c4=some (.cells zerC 104 false):=by rw [hw.old c4 hc4.1 hc4.2]; exact g4
  have hz:zerC.length=32:=rfl
  have hzd:zerC.drop 32=[]:=rfl
  have k4:¬ c4=w'.next:=by omega
  have k4':¬ c4=w'.next + 1:=by omega
  have k4'':¬ c4=w'.next + 1 + 1:=by omega
  have k43:=hc4.2
  have lw4:w'.lim≤c4:=by omega
  by_cases E0:(gtS (stepW L V d) d).2 < (gtS (stepW L V d) d).1
  ·have hb:passW L L.length Wi=none:=passW_none (d:=d + 1) (by rw [hpn,hbad,decide_eq_true E0]; rfl) _ hlt
   simp [mc104_l1,u3,u4,t17,t18,t19,hlt,hiL,fL,lw,lw3,hid0,hid1,hw1,n3,n3',n3'',m3,m3',m3'',hrow,hcl,tk0,tk1,q0,q1,r111,hs1,hcl',tl0,tl1,r112,hs0,hcl'',ts0,ts1,r92,E0,k4,k4',k4'',k43,g4w,hz,hzd,lw4]
   exact hno hb _ _ (by simp [u4]) (by simp) (by simp; rfl)
  ·by_cases E1:(gtS (lowW L V d) (d + 1)).2 < (gtS (lowW L V d) (d + 1)).1
   ·have hb:passW L L.length Wi=none:=passW_none (d:=d + 1) (by rw [hpn,hbad,decide_eq_true E1,Bool.or_true]; rfl) _ hlt
    simp [mc104_l1,u3,u4,t17,t18,t19,hlt,hiL,fL,lw,lw3,hid0,hid1,hw1,n3,n3',n3'',m3,m3',m3'',hrow,hcl,tk0,tk1,q0,q1,r111,hs1,hcl',tl0,tl1,r112,hs0,hcl'',ts0,ts1,r92,E0,E1,k4,k4',k4'',k43,g4w,hz,hzd,lw4]
    exact hno hb _ _ (by simp [u4]) (by simp) (by simp; rfl)
   ·have hpn':passW L (d + 1) Wi=some (stepW L V d):=by rw [hpn,hbad,decide_eq_false E0,decide_eq_false E1]; rfl
    simp [mc104_l1,u3,u4,t17,t18,t19,hlt,hiL,fL,lw,lw3,hid0,hid1,hw1,n3,n3',n3'',m3,m3',m3'',hrow,hcl,tk0,tk1,q0,q1,r111,hs1,hcl',tl0,tl1,r112,hs0,hcl'',ts0,ts1,r92,E0,E1]
    exact ⟨by omega,_,hpn',hmem _ rfl,⟨by simp [hk.k3],by simp [hk.k4],by simp [hk.k6],by simp [hk.k7]⟩,by omega⟩
 ·have hdl:d=L.length:=by omega
  subst hdl
  simp [mc104_l1,t18,t19]
  exact hyes V hp _ _ hw ⟨by simp [hk.k3],by simp [hk.k4],by simp [hk.k6],by simp [hk.k7]⟩
def narR:Option (List Sp)→Value
 | some V=>.tuple ⟨[.agg ⟨V.flatMap spC⟩,.bool true]⟩
 | none=>.tuple ⟨[.agg ⟨zerC⟩,.bool false]⟩
def losL (L:List Sp):List Sp:=L++[(0,1000000)]
@[simp] theorem losL_length (L:List Sp):(losL L).length=L.length + 1:=by simp [losL]
theorem row_inj {V W:List Sp} (hV:V.length=16) (hW:W.length=16) (h:V.flatMap spC=W.flatMap spC):V=W :=
 flat_inj spC_length spC_inj V W [] [] (by omega) (by rw [List.append_nil,List.append_nil,h])
def S104:PSpec where
 R args w v:=∃ (b:CBox) (pv:Value) (L W:List Sp),args=[.agg ⟨procC b pv⟩,.agg ⟨W.flatMap spC⟩]∧ProcV w pv L∧L.length≤14∧LosW (losL L)∧W.length=16∧BndW W∧w.lim≤w.next∧v=narR (narW (losL L) (losL L).length 40 W)
 uniq:=by
  rintro _ _ _ _ ⟨⟨_,_,_,_⟩,pv,L,W,rfl,h1,_,_,h2,_,_,rfl⟩ ⟨⟨_,_,_,_⟩,pv',L',W',h,k1,_,_,k2,_,_,rfl⟩
  simp only [procC,List.cons.injEq,Value.agg.injEq,Array.mk.injEq,Value.int.injEq,true_and,and_true] at h
  obtain ⟨⟨rfl,rfl,rfl,rfl,rfl⟩,h3⟩:=h
  rw [row_inj h2 k2 h3,h1.rows.uniq (m:=2) spC_length spC_inj k1.rows]
 shut:=fun ⟨a1,a2,a3,a4,h1,h2,h3,h4,h5,h6,_,h7⟩=>⟨a1,a2,a3,a4,h1,h2,h3,h4,h5,h6,Nat.le_refl _,h7⟩
set_option maxHeartbeats 1000000 in
theorem run104 {ov:Ov} (ho:∀ args w,ov 104 args w=none) (ho63:∀ args w,ov 63 args w=none) (h92:HasP ov 92 S92.F) (h111:HasP ov 111 S111.F) (h112:HasP ov 112 S112.F) (b:CBox) (pv:Value) (L0 W:List Sp) (hlen:L0.length≤14) (hL:LosW (losL L0)) (hW16:W.length=16) (hWb:BndW W) (w:AW) (hl:w.lim=w.next) (hpv:ProcV w pv L0) :
  ∃ x w',(run Tryd.prog ov 3).call 104 [.agg ⟨procC b pv⟩,.agg ⟨W.flatMap spC⟩] w .none=.ok (.ret x) w' .none∧x=narR (narW (losL L0) (losL L0).length 40 W):=by
 refine call_wp text104 (by simp) (ho _ _) ?_
 have hz:zerC.length=32:=rfl
 have hzt:zerC.take 32=zerC:=rfl
 have hzd:zerC.drop 32=[]:=rfl
 obtain ⟨w1,hw1e⟩:∃ w1:AW,w1=⟨((w.heap.put w.next (some (.cells (procC b pv) 97 false))).put (w.next + 1) (some (.cells (W.flatMap spC) 104 false))).put (w.next + 1 + 1) (some (.cells zerC 104 false)),w.next + 1 + 1 + 1,w.lim⟩:=⟨_,rfl⟩
 have u1:Up w w1:=by rw [hw1e]; exact (((Up.refl w).add _).put (Nat.le_succ _) (Nat.le_succ _)).put (by show w.next≤w.next + 1 + 1; omega) (Nat.le_succ _)
 have n1:w1.next=w.next + 1 + 1 + 1:=by rw [hw1e]
 have l1:w1.lim=w.lim:=u1.lim
 have g3:w1.heap.get (w.next + 1)=some (.cells (W.flatMap spC) 104 false):=by rw [hw1e]; simp
 have g4:w1.heap.get (w.next + 1 + 1)=some (.cells zerC 104 false):=by rw [hw1e]; simp
 obtain ⟨_,w2,c63,B,rfl,hB,hB1,hB2,u2⟩:=call63 (ov:=ov) 1 ho63 L0 (by omega) pv w1 (by omega) (hpv.up u1)
 have hn2:=u2.next
 have hl2:=u2.lim
 -- the row of the losses, and the last one
 have hB3:(w2.heap.put w2.next (some (.cells [.int .i64 0,.int .i64 1000000] 25 false))).get B=some (.cells (L0.flatMap spC) 25 false):=by rw [get_put,if_neg (by omega)]; exact hB
 have hsrc:srcCells ⟨w2.heap.put w2.next (some (.cells [.int .i64 0,.int .i64 1000000] 25 false)),w2.next + 1,w2.lim⟩ 2 (.slice (some ⟨w2.next,0,none⟩) 1 1)=some [.int .i64 0,.int .i64 1000000]:=src_row (e':=25) (ro:=false) (k:=1) (by simp) (by simp) (by decide) (by decide)
 have hap:=append_full (P:=Tryd.prog) list43 elem43 sz25 small25 (w:=⟨w2.heap.put w2.next (some (.cells [.int .i64 0,.int .i64 1000000] 25 false)),w2.next + 1,w2.lim⟩) (B:=B) (n:=L0.length) (m:=1) (c:=L0.flatMap spC) (new:=[.int .i64 0,.int .i64 1000000]) (x:=.slice (some ⟨w2.next,0,none⟩) 1 1) rfl hsrc (by simp) rfl (by decide) (by omega) hB3 (flat_length spC_length L0) (by show w2.lim≤B; omega)
 have hLc:L0.flatMap spC++[.int .i64 0,.int .i64 1000000]=(losL L0).flatMap spC:=by simp [losL,spC]
 rw [hLc] at hap
 have hLl:L0.length + 1=(losL L0).length:=by simp
 obtain ⟨w3,hw3e⟩:∃ w3:AW,w3=⟨((w2.heap.put w2.next (some (.cells [.int .i64 0,.int .i64 1000000] 25 false))).put B none).put (w2.next + 1) (some (.cells ((losL L0).flatMap spC) 25 false)),w2.next + 1 + 1,w2.lim⟩:=⟨_,rfl⟩
 have hold3:∀ x,x < w2.next→x ≠ B→w3.heap.get x=w2.heap.get x:=fun x hx hb=>by
  rw [hw3e]
  show (((w2.heap.put _ _).put _ _).put _ _).get x=_
  rw [get_put,if_neg (by omega),get_put,if_neg hb,get_put,if_neg (by omega)]
 have g33:w3.heap.get (w.next + 1)=some (.cells (W.flatMap spC) 104 false):=by rw [hold3 _ (by omega) (by omega),u2.at (by omega)]; exact g3
 have g34:w3.heap.get (w.next + 1 + 1)=some (.cells zerC 104 false):=by rw [hold3 _ (by omega) (by omega),u2.at (by omega)]; exact g4
 have g3L:w3.heap.get (w2.next + 1)=some (.cells ((losL L0).flatMap spC) 25 false):=by rw [hw3e]; simp
 have n3:w3.next=w2.next + 1 + 1:=by rw [hw3e]
 have l3:w3.lim=w.lim:=by rw [hw3e]; show w2.lim=_; omega
 rw [hw1e] at c63
 simp only [procC] at c63 ⊢
 simp only [Nat.reduceAdd] at c63
 have ez:([.int .i64 0,.int .i64 0,.int .i64 0,.int .i64 0,.int .i64 0,.int .i64 0,.int .i64 0,.int .i64 0,.int .i64 0,.int .i64 0,.int .i64 0,.int .i64 0,.int .i64 0,.int .i64 0,.int .i64 0,.int .i64 0,.int .i64 0,.int .i64 0,.int .i64 0,.int .i64 0,.int .i64 0,.int .i64 0,.int .i64 0,.int .i64 0,.int .i64 0,.int .i64 0,.int .i64 0,.int .i64 0,.int .i64 0,.int .i64 0,.int .i64 0,.int .i64 0]:List Value)=zerC:=rfl
 simp [mc104,cellsOf_agg,ez,c63,hap]
 rw [← hw3e]
 obtain ⟨c3,hc3⟩:∃ c3,c3=w.next + 1:=⟨_,rfl⟩
 obtain ⟨c4,hc4⟩:∃ c4,c4=w.next + 1 + 1:=⟨_,rfl⟩
 obtain ⟨BL,hBL⟩:∃ BL,BL=w2.next + 1:=⟨_,rfl⟩
 obtain ⟨L,hLe⟩:∃ L,L=losL L0:=⟨_,rfl⟩
 have hLn:L.length=L0.length + 1:=by rw [hLe]; simp
 refine wp_seqX (wp_blockX (wp_rounds (fun i t w'=>∃ Wi f,w'.heap.get c3=some (.cells (Wi.flatMap spC) 104 false)∧w'.heap.get c4=some (.cells zerC 104 false)∧w'.heap.get BL=some (.cells (L.flatMap spC) 25 false)∧BL < w'.next∧w'.lim=w.lim∧Wi.length=16∧BndW Wi∧FarW L L.length i Wi∧f + i=40∧narW L L.length f Wi=narW L L.length 40 W∧i≤L.length∧tget t 3=.pointer (some ⟨c3,0,none⟩)∧tget t 4=.pointer (some ⟨c4,0,none⟩)∧tget t 6=.slice (some ⟨BL,0,none⟩) L.length L.length) 40 (by decide) ?_ ?_))
 ·refine ⟨W,40,by rw [hc3]; exact g33,by rw [hc4]; exact g34,by rw [hBL,hLe]; exact g3L,by omega,l3,hW16,hWb,.inl rfl,rfl,rfl,Nat.zero_le _,by simp [hc3],by simp [hc4],by simp [hBL,hLn]⟩
 ·rw [← hLe] at hL ⊢
  rintro i t w' ⟨Wi,f,r3,r4,rL,hbl,hlm,h16,hb,hF,hf,hnar,hi,t3,t4,t6⟩
  obtain ⟨f,rfl⟩:∃ f',f=f' + 1:=⟨f - 1,by omega⟩
  have hcl:=row_len h16
  have hsg:=row_sing Wi
  have htk:(Wi.flatMap spC).take 32=Wi.flatMap spC:=List.take_of_length_le (by omega)
  have lw:w'.lim≤w'.next:=by omega
  have e3:¬ c3=w'.next:=by omega
  have e4:¬ c4=w'.next:=by omega
  have e34:¬ c4=c3:=by omega
  have eL:¬ BL=w'.next:=by omega
  have hl43:∀ w2,lenB Tryd.prog w2 43 (.slice (some ⟨BL,0,none⟩) L.length L.length)=.val (.int .i64 (L.length:Nat)) w2:=fun w2=>by simp
  obtain ⟨wA,hwA⟩:∃ wA:AW,wA=⟨(w'.heap.put w'.next (some (.cells zerC 104 false))).put w'.next (some (.cells (Wi.flatMap spC) 104 false)),w'.next + 1,w'.lim⟩:=⟨_,rfl⟩
  have uA:Up w' wA:=by rw [hwA]; exact ((Up.refl w').add _).put (Nat.le_refl _) (Nat.le_refl _)
  have nA:wA.next=w'.next + 1:=by rw [hwA]
  have lA:wA.lim=w.lim:=by rw [hwA]; exact hlm
  have g7:wA.heap.get w'.next=some (.cells (Wi.flatMap spC) 104 false):=by rw [hwA]; simp
  obtain ⟨cs,hcs⟩:∃ cs,cs=Wi.flatMap spC:=⟨_,rfl⟩
  have r3':=r3
  rw [← hcs] at hcl hsg htk r3' hwA
  simp [mc104_l0,t3,t4,t6,r3',hcl,htk,hsg,lw,cellsOf_agg,ez,hz,hzd]
  rw [← hwA]
  rw [hcs] at htk
  refine wp_blockX (wp_seqX (wp_blockX (inner104 1 h92 h111 h112 L hL (by omega) Wi hb h16 wA c3 BL c4 (by omega) ⟨by omega,by omega⟩ (by rw [uA.at hbl]; exact rL) ⟨by omega,e34⟩ (by rw [uA.at (by omega)]; exact r4) ⟨by omega,by omega⟩ _ _ _ ⟨by rw [uA.at (by omega)]; exact r3,fun _ _ _=>rfl,Nat.le_refl _,rfl⟩ ?_ ?_ ?_ ?_ ?_ ?_ ?_)))
  case _=>simp [t3]
  case _=>simp [t4]
  case _=>simp
  case _=>simp
  case _=>simp
  case _ =>
   intro hp t' w4 v4 v5 r44
   have e:narW L L.length 40 W=none:=by
    rw [← hnar]; simp only [narW]; rw [hp]
   rw [hLn] at e
   simp [v4,v5,r44,hz,hzt,e,narR,tupV]
  case _ =>
   intro V hp t' w4 hI hk
   obtain ⟨_,hV16⟩:=passW_fn hp (by omega)
   rw [h16] at hV16
   have hVl:=row_len hV16
   have hVt:(V.flatMap spC).take 32=V.flatMap spC:=List.take_of_length_le (by omega)
   have hVs:=row_sing V
   have hWl:=row_len h16
   have v3:=hk.k3; have v4:=hk.k4; have v6:=hk.k6; have v7:=hk.k7
   simp [t3,t4,t6] at v3 v4 v6 v7
   have g74:w4.heap.get w'.next=some (.cells (Wi.flatMap spC) 104 false):=by rw [hI.old _ (by omega) (by omega)]; exact g7
   have g34':=hI.row
   have g44:w4.heap.get c4=some (.cells zerC 104 false):=by rw [hI.old _ (by omega) e34,uA.at (by omega)]; exact r4
   have gL4:w4.heap.get BL=some (.cells (L.flatMap spC) 25 false):=by rw [hI.old _ (by omega) (by omega),uA.at (by omega)]; exact rL
   have l4:w4.lim=w.lim:=by rw [hI.lim,lA]
   have n4:=hI.next
   have heq:=eq_row hV16 h16
   by_cases hVW:V=Wi
   ·have e:narW L L.length 40 W=some V:=by
     rw [← hnar]; simp only [narW]; rw [hp]; simp [hVW]
    rw [decide_eq_true hVW] at heq
    rw [hLn] at e
    have lw4:w4.lim≤c4:=by omega
    have c34:¬ c3=c4:=by omega
    generalize hcs2:V.flatMap spC=cs2 at hVl hVt hVs heq g34'
    simp [v3,v4,v7,g34',g74,hVl,hVt,hWl,htk,heq,g44,hz,hzd,lw4,hVs,cellsOf_agg,e,narR,tupV,hcs2]
   ·have e:narW L L.length f V=narW L L.length 40 W:=by
     rw [← hnar]; simp only [narW]; rw [hp]; simp [hVW]
    rw [decide_eq_false hVW] at heq
    have hiL:i < L.length:=by
     rcases Nat.lt_or_ge i L.length with h | h
     ·exact h
     ·exact absurd (far_end hL (by omega) (by omega) hF h hp) hVW
    have hVb:=pass_bnd hb hL hp (by omega)
    have hFn:=far_next hL (by omega) hF hp
    have g3V:=g34'
    generalize hcs2:V.flatMap spC=cs2 at hVl hVt hVs heq g34'
    simp [v3,v4,v6,v7,g34',g74,hVl,hVt,hWl,htk,heq]
    exact ⟨by omega,V,by rw [← hcs2],g44,gL4,by omega,l4,hV16,hVb,hFn,f,by omega,e,by omega⟩
def mkW (f:Nat→Sp):List Sp:=(List.range 16).map f
@[simp] theorem mkW_length (f:Nat→Sp):(mkW f).length=16:=by simp [mkW]
theorem mkW_at (f:Nat→Sp) {k:Nat} (h:k < 16):gtS (mkW f) k=f k:=by
 refine gtS_of ?_
 unfold mkW
 rw [List.getElem?_map,List.getElem?_range h]; rfl
theorem mkW_set (f:Nat→Sp) {i:Nat} (s:Sp) (h:i < 16):(mkW f).set i s=mkW (updS f i s):=by
 refine list_ext (by simp) fun k=>?_
 rw [gtS_set _ (by simpa using h)]
 by_cases hk:k < 16
 ·rw [mkW_at _ hk,mkW_at _ hk]; rfl
 ·have e:∀ f,gtS (mkW f) k=(0,0):=fun f=>by
   unfold gtS
   rw [List.getD_eq_getElem?_getD,List.getElem?_eq_none (by simp; omega)]; rfl
  rw [e,e,if_neg (by omega)]
theorem mkW_ext {f g:Nat→Sp} (h:∀ k,k < 16→f k=g k):mkW f=mkW g:=by
 unfold mkW
 exact List.map_congr_left fun k hk=>h k (List.mem_range.1 hk)
theorem mkW_zero:(mkW fun _=>(0,0)).flatMap spC=zerC:=rfl
def ReadOk (l:List CRead):Prop:=∀ p ∈ l,0≤p.read∧p.read≤1010000∧0≤p.wrong∧p.wrong≤10000
def onDay (l:List CRead) (k:Nat):List CRead:=l.filter fun p=>decide (p.day=(k:Int))
def foldR (l:List CRead) (s:Sp):Sp:=l.foldl (fun a p=>bothS a (readS p)) s
def iniG (b:CBox) (n k:Nat):Sp:=if k=n + 1 then (b.sl,b.sh) else if k=0 then (b.wl,b.wh) else if k < n + 1 then (1,1000000) else (0,0)
def iniF (b:CBox) (n:Nat) (l:List CRead) (i k:Nat):Sp:=if k < i then foldR (onDay l k) (iniG b n k) else iniG b n k
theorem fold_bnd:∀ {l:List CRead} {s:Sp},ReadOk l→bndS s→bndS (foldR l s)
 | [],_,_,h=>h
 | p::l,s,hl,h=>by
  have hp:=hl p List.mem_cons_self
  refine fold_bnd (l:=l) (s:=bothS s (readS p)) (fun q hq=>hl q (List.mem_cons_of_mem _ hq)) ?_
  unfold bndS at *
  simp only [bothS,readS]; omega
theorem day_ok {l:List CRead} (h:ReadOk l) (k:Nat):ReadOk (onDay l k):=fun p hp=>h p (List.mem_filter.1 hp).1
theorem iniG_bnd {b:CBox} (hb:boxB b=true) (n k:Nat):bndS (iniG b n k):=by
 simp only [boxB,spanI,Bool.and_eq_true,decide_eq_true_eq] at hb
 unfold iniG bndS
 repeat' split
 all_goals simp only; omega
theorem iniF_bnd {b:CBox} (hb:boxB b=true) {l:List CRead} (hl:ReadOk l) (n i k:Nat):bndS (iniF b n l i k):=by
 unfold iniF
 split
 ·exact fold_bnd (day_ok hl k) (iniG_bnd hb n k)
 ·exact iniG_bnd hb n k
theorem mkW_bnd {f:Nat→Sp} (h:∀ k,bndS (f k)):BndW (mkW f):=fun k=>by
 by_cases hk:k < 16
 ·rw [mkW_at _ hk]; exact h k
 ·unfold gtS
  rw [List.getD_eq_getElem?_getD,List.getElem?_eq_none (by simp; omega)]
  unfold bndS; simp
def S64:PSpec where
 R args _ v:=∃ (b:CBox) (p:Option Addr) (n c:Nat),args=[.agg ⟨procC b (.slice p n c)⟩]∧n≤1000∧v=.int .i64 ((n:Int) + 1)
 uniq:=by
  rintro _ _ _ _ ⟨⟨_,_,_,_⟩,p,n,c,rfl,_,rfl⟩ ⟨⟨_,_,_,_⟩,p',n',c',h,_,rfl⟩
  simp only [procC,List.cons.injEq,Value.agg.injEq,Array.mk.injEq,Value.int.injEq,Value.slice.injEq,true_and,and_true] at h
  obtain ⟨_,_,_,_,_,rfl,_⟩:=h
  rfl
 shut h:=h
theorem run64 {ov:Ov} (ho:∀ args w,ov 64 args w=none) (b:CBox) (p:Option Addr) (n c:Nat) (hn:n≤1000) (w:AW):∃ x w',(run Tryd.prog ov 2).call 64 [.agg ⟨procC b (.slice p n c)⟩] w .none=.ok (.ret x) w' .none∧x=.int .i64 ((n:Int) + 1):=by
 refine call_wp text64 (by simp) (ho _ _) ?_
 have hw:IntKind.wrap .i64 ((n:Int) + 1)=(n:Int) + 1:=wrap64_in (by omega) (by omega)
 simp [mc64,procC,cellsOf_agg,hw,tupV]
theorem len42V {w w':AW} {v:Value} {l:List CRead} (h:RowsV readC w v l):lenB Tryd.prog w' 42 v=.val (.int .i64 (l.length:Nat)) w':=by
 obtain ⟨a,c,rfl⟩:=h.len; simp
theorem list159:isList Tryd.prog 159=true:=by kernel_rfl
theorem elem159:elemA Tryd.prog 159=some 158:=by kernel_rfl
theorem sz158:szOf Tryd.prog 158=some 3:=by kernel_rfl
theorem small158:smallT Tryd.prog 158=true:=by kernel_rfl
theorem call103 {ov:Ov} (m:Nat) (ho:∀ args w,ov 103 args w=none) (l:List CRead) (hlen:l.length≤10) (k:Nat) (lv:Value) (we:AW) (hlim:we.lim≤we.next) (hlv:RowsV readC we lv l) :
  ∃ v w',(run Tryd.prog ov (m + 1)).call 103 [.int .i64 (k:Nat),lv] we .none=.ok (.ret v) w' .none∧RowsV readC w' v (onDay l k)∧Up we w':=by
 refine call_wp text103 (by simp) (ho _ _) ?_
 have hl1:=fun w2=>len42V (w':=w2) hlv
 by_cases h0:l.length=0
 ·have hl0:l=[]:=List.eq_nil_of_length_eq_zero h0
  subst hl0
  simp at hl1
  simp [mc103,hl1]
  refine wp_seqX (wp_blockX (wp_rounds (fun i t w'=>i=0∧w'=we∧tget t 5=.slice none 0 0∧tget t 9=.int .i64 0∧tget t 10=.int .i64 0) 20 (by decide) ⟨rfl,rfl,by simp,by simp,by simp⟩ ?_))
  rintro i t w' ⟨rfl,rfl,t5,t9,t10⟩
  have nj:notJunk (.slice none 0 0)=some (.slice none 0 0):=rfl
  simp [mc103_l0,t5,t9,t10,nj,tupV,onDay]
  exact ⟨.inl ⟨rfl,_,_,rfl⟩,Up.refl _⟩
 ·simp [mc103,hl1]
  refine wp_seqX (wp_blockX (wp_rounds (fun i t w'=>Up we w'∧AccR readC 158 we.next w' (tget t 5) (onDay (l.take i) k)∧tget t 0=.int .i64 (k:Nat)∧tget t 8=lv∧tget t 9=.int .i64 (l.length:Nat)∧tget t 10=.int .i64 (i:Nat)∧i≤l.length) 20 (by decide) ⟨Up.refl _,by simpa [onDay] using AccR.nil,by simp,by simp,by simp,by simp,Nat.zero_le _⟩ ?_))
  rintro i t w' ⟨hup,hacc,t0,t8,t9,t10,hi⟩
  have hnx:=hup.next
  have hlm:=hup.lim
  by_cases hlt:i < l.length
  ·obtain ⟨p,hp⟩:∃ p,l[i]?=some p:=⟨_,List.getElem?_eq_getElem hlt⟩
   obtain ⟨b,off,sq,c,rfl,hra⟩:=hlv.at_ i hlt
   have hld:=hra.rd (m:=3) readC_length hp
   rw [← hup.at hra.2] at hld
   simp only [readC] at hld
   have hia:=fun w=>ia42 w ⟨b,off,sq⟩ l.length c .i64 i hlt
   have hwi:IntKind.wrap .i64 ((i:Int) + 1)=(i:Int) + 1:=wrap64_in (by omega) (by omega)
   have lw:w'.lim≤w'.next:=by omega
   have hf:onDay (l.take (i + 1)) k=onDay (l.take i) k++(if p.day=(k:Int) then [p] else []):=by
    unfold onDay
    rw [take_snoc hp,List.filter_append]
    by_cases e:p.day=(k:Int) <;> simp [e]
   obtain ⟨wa,hwae⟩:∃ wa:AW,wa=⟨(w'.heap.put w'.next (some (.cells [.int .i64 0,.int .i64 0,.int .i64 0] 72 false))).put w'.next (some (.cells [.int .i64 p.day,.int .i64 p.read,.int .i64 p.wrong] 72 false)),w'.next + 1,w'.lim⟩:=⟨_,rfl⟩
   have ua:Up w' wa:=by rw [hwae]; exact ((Up.refl w').add _).put (Nat.le_refl _) (Nat.le_refl _)
   have hacca:AccR readC 158 we.next wa (tget t 5) (onDay (l.take i) k):=hacc.keep (fun x _ h=>ua.at h) ua.next
   have hna:wa.next=w'.next + 1:=by rw [hwae]
   have hla:wa.lim=w'.lim:=ua.lim
   have hfl:(onDay (l.take i) k).length≤10:=by
    have h1:=List.length_filter_le (fun p:CRead=>decide (p.day=(k:Int))) (l.take i)
    unfold onDay
    rw [List.length_take] at h1
    omega
   by_cases e:p.day=(k:Int)
   ·rw [if_pos e] at hf
    obtain ⟨v',w2,ha',hacc',hkp,hn2,hl'⟩:=AccR.push (P:=Tryd.prog) (st:=159) (sz:=3) list159 elem159 sz158 small158 readC_length (fun _=>rfl) (by decide) hacca (by omega) (by omega) (by omega) p
    rw [hwae] at ha'
    simp only [readC,e] at ha'
    rw [e] at hld
    simp [mc103_l0,t0,t8,t9,t10,hlt,hia,hld,lw,ha',hwi]
    refine ⟨by omega,⟨fun q hq=>by rw [hkp q (by omega),ua.at (by omega)]; exact hup.old q hq,by omega,by omega⟩,by rw [hf]; exact hacc',hlt⟩
   ·rw [if_neg e,List.append_nil] at hf
    simp [mc103_l0,t0,t8,t9,t10,hlt,hia,hld,lw,e,hwi]
    rw [← hwae]
    exact ⟨by omega,hup.trans ua,by rw [hf]; exact hacca,hlt⟩
  ·have hi':i=l.length:=by omega
   subst hi'
   rw [List.take_length] at hacc
   have nj:=hacc.ok
   simp [mc103_l0,t9,t10,nj,tupV]
   exact ⟨hacc.rows,hup⟩
end Go.Proofs.YtnmamelclmfplaaDoor.walk
