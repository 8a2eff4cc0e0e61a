/- Part of a proof: see the text with the theorem. -/
import Derived.Test.YtiokkkjahkhbfaaUf
import Derived.Test.YtiokkkjahkhbfaaUd
import Derived.Test.YtiokkkjahkhbfaaSiE
import Derived.Test.YtiokkkjahkhbfaaProg
import Derived.KernelRfl
import Derived.Test.YtiokkkjahkhbfaaUc
set_option linter.all false
namespace Go.Proofs.Ytiokkkjahkhbfaa.walk
open Go Go.Sh
set_option maxRecDepth 100000
def HoL (LH:List (Sf × Int)) (p:List HJb):Prop:=∀ m o h:Int,(lookK LH (m,o,h)).getD 0=hrS p m h o
def DaL (LD:List (Wy × Int)) (p:List HJb):Prop:=∀ m h:Int,(lookK LD (m,h)).getD 0=dayS p m h
theorem HoL.push {LH:List (Sf × Int)} {p:List HJb} (h:HoL LH p) (j:HJb):HoL (updK LH (j.mo,j.ho,j.ha) (hrS p j.mo j.ha j.ho + j.ma)) (p++[j]):=fun m o a=>by
 rw [lookK_upd,hrS_push]
 by_cases e:(m,o,a)=((j.mo,j.ho,j.ha):Sf)
 ·rw [if_pos e]
  injection e with e1 e2
  injection e2 with e2 e3
  subst e1; subst e2; subst e3
  rw [if_pos ⟨rfl,rfl,rfl⟩]; rfl
 ·rw [if_neg e,h m o a,if_neg (fun k=>e (by rw [k.1,k.2.1,k.2.2])),Int.add_zero]
theorem DaL.push {LD:List (Wy × Int)} {p:List HJb} (h:DaL LD p) (j:HJb):DaL (updK LD (j.mo,j.ha) (dayS p j.mo j.ha + j.ma)) (p++[j]):=fun m a=>by
 rw [lookK_upd,dayS_push]
 by_cases e:(m,a)=((j.mo,j.ha):Wy)
 ·rw [if_pos e]
  injection e with e1 e2
  subst e1; subst e2
  rw [if_pos ⟨rfl,rfl⟩]; rfl
 ·rw [if_neg e,h m a,if_neg (fun k=>e (by rw [k.1,k.2])),Int.add_zero]
theorem posN_upd {α β:Type} [DecidableEq α] {k:α} {u:β}:∀ L:List (α × β),posN (updK L k u) k=posN L k
 | []=>by simp [updK,posN,posK]
 | p::L=>by
  have ih:=posN_upd (k:=k) (u:=u) L
  unfold posN at ih ⊢
  by_cases e:k=p.1
  ·simp [updK,posK,e]
  ·simp only [updK,posK,if_neg e]
   cases h1:posK (updK L k u) k <;> cases h2:posK L k <;> rw [h1,h2] at ih <;> simp at ih ⊢ <;> omega
theorem updK_twice {α β:Type} [DecidableEq α] {k:α} {u v:β}:∀ L:List (α × β),updK (updK L k u) k v=updK L k v
 | []=>by simp [updK]
 | p::L=>by
  have ih:=updK_twice (k:=k) (u:=u) (v:=v) L
  by_cases e:k=p.1
  ·simp [updK,e]
  ·simp [updK,e,ih]
section
variable {ov:Ov} {vs:List HVn} {hs:List HHd} {fs:List (List (Int × Int))} {vv hv fv pv:Value} {X q V g M kh kd i:Nat} {s:Int}
set_option maxHeartbeats 1000000 in
theorem part36d (K:Nat) (w:AW) (J:Nat) (j:HJb) {LH:List (Sf × Int)} {LD:List (Wy × Int)} {p:List HJb} (mH:MapAt shC inV w kh LH) (mD:MapAt wyC inV w kd LD) (hH:HoL LH p) (hD:DaL LD p) (lH:w.lim≤kh) (lD:w.lim≤kd) (hHD:¬ kh=kd) (gJ:w.heap.get J=some (.cells (jbC j) 67 false)) (hJH:¬ J=kh) (hJD:¬ J=kd) (b1 : -100000≤hrS p j.mo j.ha j.ho + j.ma∧hrS p j.mo j.ha j.ho + j.ma≤100000) (b2 : -100000≤dayS p j.mo j.ha + j.ma∧dayS p j.mo j.ha + j.ma≤100000)
  (v16 v18:Value) (t:Tm) (T:TS t pv X s q V g M kh kd i) (t15:tget t 15=.pointer (some ⟨J,0,none⟩)) (t16:tget t 16=v16) (t18:tget t 18=v18) (Q:Ex→Tm→AW→Prop)
  (hQ:∀ t w',(∀ b,b ≠ kh→b ≠ kd→w'.heap.get b=w.heap.get b)→w'.next=w.next→w'.lim=w.lim→MapAt shC inV w' kh (updK LH (j.mo,j.ho,j.ha) (hrS p j.mo j.ha j.ho + j.ma))→MapAt wyC inV w' kd (updK LD (j.mo,j.ha) (dayS p j.mo j.ha + j.ma))→TS t pv X s q V g M kh kd i→tget t 15=.pointer (some ⟨J,0,none⟩)→tget t 16=v16→tget t 18=v18→wp (exM Try.prog (run Try.prog ov K) mc36_l1_b5 t w') Q):wp (exM Try.prog (run Try.prog ov K) mc36_l1_b4 t w) Q:=by
 obtain ⟨t1,t2,t8,t9,t10,t11,t12,t14⟩:=T
 obtain ⟨mo,o,ha,vi,ma⟩:=j
 simp only [jbC] at gJ
 simp only at b1 b2 hQ
 have vH:=hH mo o ha
 have vD:=hD mo ha
 -- the map of hours
 have hlk:=lookup_k (P:=Try.prog) (s:=120) map120 sh_ok zero3 mH (mo,o,ha) false
 have hlk:lookupA Try.prog w 120 (.map (some kh)) (.agg ⟨[.int .i64 mo,.int .i64 o,.int .i64 ha]⟩) false=.val (.int .i64 (hrS p mo ha o)) w:=by
  refine hlk.trans ?_
  rw [← vH]
  cases lookK LH (mo,o,ha) <;> rfl
 have he:=entry_k (P:=Try.prog) (s:=120) (z:=(0:Int)) map120 sh_ok zero3 mH lH (mo,o,ha)
 rw [vH] at he
 obtain ⟨L2,hL2⟩:∃ L2,L2=updK LH (mo,o,ha) (hrS p mo ha o):=⟨_,rfl⟩
 rw [← hL2] at he
 obtain ⟨w2,hw2⟩:∃ w2:AW,w2=⟨w.heap.put kh (some (.map (entsK shC inV 0 L2) L2.length)),w.next,w.lim⟩:=⟨_,rfl⟩
 have he:mapEntryA Try.prog w 120 (.map (some kh)) (.agg ⟨[.int .i64 mo,.int .i64 o,.int .i64 ha]⟩)=.val (.tuple ⟨[.int .i64 (hrS p mo ha o),.int .i64 (posN LH (mo,o,ha):Nat)]⟩) w2:=by rw [hw2]; exact he
 have mH2:MapAt shC inV w2 kh L2:=by unfold MapAt; rw [hw2]; simp
 have l2:lookK L2 (mo,o,ha)=some (hrS p mo ha o):=by rw [hL2,lookK_upd,if_pos rfl]
 have hlk2:=lookup_k (P:=Try.prog) (s:=120) map120 sh_ok zero3 mH2 (mo,o,ha) false
 rw [l2] at hlk2
 have hlk2:lookupA Try.prog w2 120 (.map (some kh)) (.agg ⟨[.int .i64 mo,.int .i64 o,.int .i64 ha]⟩) false=.val (.int .i64 (hrS p mo ha o)) w2:=hlk2
 have hst:=store_k mH2 (by rw [hw2]; exact lH) (mo,o,ha) (hrS p mo ha o + ma) (by rw [l2]; rfl)
 rw [hL2,posN_upd,updK_twice] at hst
 obtain ⟨L3,hL3⟩:∃ L3,L3=updK LH (mo,o,ha) (hrS p mo ha o + ma):=⟨_,rfl⟩
 rw [← hL3] at hst hQ
 obtain ⟨w3,hw3⟩:∃ w3:AW,w3=⟨w2.heap.put kh (some (.map (entsK shC inV 0 L3) L3.length)),w2.next,w2.lim⟩:=⟨_,rfl⟩
 have hst:entryStoreA w2 (.map (some kh)) (.int .i64 (posN LH (mo,o,ha):Nat)) (.int .i64 (hrS p mo ha o + ma))=.val undef w3:=by rw [hw3]; exact hst
 have m3:MapAt shC inV w3 kh L3:=by unfold MapAt; rw [hw3]; simp
 have k2:∀ b,b ≠ kh→w2.heap.get b=w.heap.get b:=fun b hb=>by rw [hw2]; show (w.heap.put kh _).get b=_; rw [get_put,if_neg hb]
 have k3:∀ b,b ≠ kh→w3.heap.get b=w.heap.get b:=fun b hb=>by rw [hw3]; show (w2.heap.put kh _).get b=_; rw [get_put,if_neg hb,k2 b hb]
 have mD3:MapAt wyC inV w3 kd LD:=by unfold MapAt; rw [k3 kd (Ne.symm hHD)]; exact mD
 have gJ2:=(k2 J hJH).trans gJ
 have gJ3:=(k3 J hJH).trans gJ
 have n3:w3.next=w.next:=by rw [hw3,hw2]
 have l3:w3.lim=w.lim:=by rw [hw3,hw2]
 -- the map of days
 have dlk:=lookup_k (P:=Try.prog) (s:=121) map121 wy_ok zero3 mD3 (mo,ha) false
 have dlk:lookupA Try.prog w3 121 (.map (some kd)) (.agg ⟨[.int .i64 mo,.int .i64 ha]⟩) false=.val (.int .i64 (dayS p mo ha)) w3:=by
  refine dlk.trans ?_
  rw [← vD]
  cases lookK LD (mo,ha) <;> rfl
 have de:=entry_k (P:=Try.prog) (s:=121) (z:=(0:Int)) map121 wy_ok zero3 mD3 (by rw [l3]; exact lD) (mo,ha)
 rw [vD] at de
 obtain ⟨L4,hL4⟩:∃ L4,L4=updK LD (mo,ha) (dayS p mo ha):=⟨_,rfl⟩
 rw [← hL4] at de
 obtain ⟨w4,hw4⟩:∃ w4:AW,w4=⟨w3.heap.put kd (some (.map (entsK wyC inV 0 L4) L4.length)),w3.next,w3.lim⟩:=⟨_,rfl⟩
 have de:mapEntryA Try.prog w3 121 (.map (some kd)) (.agg ⟨[.int .i64 mo,.int .i64 ha]⟩)=.val (.tuple ⟨[.int .i64 (dayS p mo ha),.int .i64 (posN LD (mo,ha):Nat)]⟩) w4:=by rw [hw4]; exact de
 have mD4:MapAt wyC inV w4 kd L4:=by unfold MapAt; rw [hw4]; simp
 have l4:lookK L4 (mo,ha)=some (dayS p mo ha):=by rw [hL4,lookK_upd,if_pos rfl]
 have dlk4:=lookup_k (P:=Try.prog) (s:=121) map121 wy_ok zero3 mD4 (mo,ha) false
 rw [l4] at dlk4
 have dlk4:lookupA Try.prog w4 121 (.map (some kd)) (.agg ⟨[.int .i64 mo,.int .i64 ha]⟩) false=.val (.int .i64 (dayS p mo ha)) w4:=dlk4
 have dst:=store_k mD4 (by rw [hw4,l3]; exact lD) (mo,ha) (dayS p mo ha + ma) (by rw [l4]; rfl)
 rw [hL4,posN_upd,updK_twice] at dst
 obtain ⟨L5,hL5⟩:∃ L5,L5=updK LD (mo,ha) (dayS p mo ha + ma):=⟨_,rfl⟩
 rw [← hL5] at dst hQ
 obtain ⟨w5,hw5⟩:∃ w5:AW,w5=⟨w4.heap.put kd (some (.map (entsK wyC inV 0 L5) L5.length)),w4.next,w4.lim⟩:=⟨_,rfl⟩
 have dst:entryStoreA w4 (.map (some kd)) (.int .i64 (posN LD (mo,ha):Nat)) (.int .i64 (dayS p mo ha + ma))=.val undef w5:=by rw [hw5]; exact dst
 have m5:MapAt wyC inV w5 kd L5:=by unfold MapAt; rw [hw5]; simp
 have k5:∀ b,b ≠ kd→w5.heap.get b=w3.heap.get b:=fun b hb=>by rw [hw5,hw4]; show ((w3.heap.put kd _).put kd _).get b=_; rw [get_put,if_neg hb,get_put,if_neg hb]
 have gJ4:w4.heap.get J=some (.cells [.int .i64 mo,.int .i64 o,.int .i64 ha,.int .i64 vi,.int .i64 ma] 67 false):=by rw [hw4]; show (w3.heap.put kd _).get J=_; rw [get_put,if_neg hJD,gJ3]
 have mH5:MapAt shC inV w5 kh L3:=by unfold MapAt; rw [k5 kh hHD]; exact m3
 have c1:IntKind.wrap .i64 (hrS p mo ha o + ma)=hrS p mo ha o + ma:=wrap64_in (by omega) (by omega)
 have c2:IntKind.wrap .i64 (dayS p mo ha + ma)=dayS p mo ha + ma:=wrap64_in (by omega) (by omega)
 simp [mc36_l1_b4,t11,t12,t15,gJ,gJ2,gJ3,gJ4,hlk,he,hlk2,hst,dlk,de,dlk4,dst,c1,c2]
 exact hQ _ w5 (fun b h1 h2=>by rw [k5 b h2,k3 b h1]) (by rw [hw5,hw4]; exact n3) (by rw [hw5,hw4]; exact l3) mH5 m5 ⟨by simp [t1],by simp [t2],by simp [t8],by simp [t9],by simp [t10],by simp [t11],by simp [t12],by simp [t14]⟩ (by simp [t15]) (by simp [t16]) (by simp [t18])
end
section
variable {ov:Ov} {vs:List HVn} {hs:List HHd} {fs:List (List (Int × Int))} {vv hv fv pv:Value} {X q V g M kh kd i:Nat} {s:Int}
set_option maxHeartbeats 2000000 in
theorem part36e (K:Nat) (w:AW) (J:Nat) (m h k:Nat) (o ma:Int) (p:List HJb) {n0:Nat} {cs:List Nat} (hG:GrV n0 w V g M cs (hadG V M p)) (hcl:cs.length=M) (hm:m < M) (hkV:k < V) (c:Nat) (hc:cs[m]?=some c) (gq:w.heap.get q=some (.cells ((podL V p).flatMap intC) 3 false)) (gJ:w.heap.get J=some (.cells (jbC ⟨m,o,h,k,ma⟩) 67 false)) (hqc:∀ (m c:Nat),cs[m]?=some c→c ≠ q) (hqg:q ≠ g) (hJc:∀ (m c:Nat),cs[m]?=some c→c ≠ J) (hJq:J ≠ q) (hl0:w.lim≤n0) (hq0:n0≤q) (bs : -100000000≤s + ma∧s + ma≤100000000) (bp : -100000000≤podF p k + ma∧podF p k + ma≤100000000) (bh : -100000000≤hadF p m k + ma∧hadF p m k + ma≤100000000)
  (v16:Value) (t:Tm) (T:TS t pv X s q V g M kh kd i) (t15:tget t 15=.pointer (some ⟨J,0,none⟩)) (t16:tget t 16=v16) (t18:tget t 18=.slice (some ⟨c,0,none⟩) V V) (Q:Ex→Tm→AW→Prop)
  (hQ:∀ t w',(∀ b,b ≠ q→b ≠ c→w'.heap.get b=w.heap.get b)→w'.next=w.next→w'.lim=w.lim→w'.heap.get q=some (.cells ((podL V (p++[⟨m,o,h,k,ma⟩])).flatMap intC) 3 false)→GrV n0 w' V g M cs (hadG V M (p++[⟨m,o,h,k,ma⟩]))→TS t pv X (s + ma) q V g M kh kd i→tget t 15=.pointer (some ⟨J,0,none⟩)→tget t 16=v16→wp (exM Try.prog (run Try.prog ov K) mc36_l1_b6 t w') Q):wp (exM Try.prog (run Try.prog ov K) mc36_l1_b5 t w) Q:=by
 obtain ⟨t1,t2,t8,t9,t10,t11,t12,t14⟩:=T
 obtain ⟨r,hr⟩:∃ r,r=arrL V fun k=>hadF p (m:Int) (k:Int):=⟨_,rfl⟩
 have hGm:(hadG V M p)[m]?=some r:=by rw [hadG_at p hm,hr]
 have hrk:r[k]?=some (hadF p m k):=by rw [hr]; exact arrL_at hkV
 have hrl:r.length=V:=by rw [hr]; exact arrL_length _ _
 obtain ⟨gc,c1,c2,c3⟩:=hG.at_ m c r hc hGm
 have ax:=int_at hrk
 have ay:=int_at (podL_at p hkV)
 have f1:k + 1≤(r.flatMap intC).length:=by rw [int_len]; omega
 have f2:k + 1≤((podL V p).flatMap intC).length:=by rw [int_len,podL_length]; omega
 have s1:=int_set r k (hadF p m k + ma) (by omega)
 have s2:=int_set (podL V p) k (podF p k + ma) (by rw [podL_length]; omega)
 have p1:=hadG_push p ⟨m,o,h,k,ma⟩ hm hkV rfl rfl
 have p2:=podL_push p ⟨m,o,h,k,ma⟩ hkV rfl
 simp only at p1 p2
 rw [← hr] at p1
 rw [p2] at s2
 obtain ⟨r',hr'⟩:∃ r',r'=r.set k (hadF p m k + ma):=⟨_,rfl⟩
 rw [← hr'] at s1 p1
 obtain ⟨rs,hrs⟩:∃ rs,rs=r.flatMap intC:=⟨_,rfl⟩
 obtain ⟨ps,hps⟩:∃ ps,ps=(podL V p).flatMap intC:=⟨_,rfl⟩
 rw [← hrs] at gc ax f1 s1
 rw [← hps] at gq ay f2 s2
 have i2:=fun w'=>ia42 w' ⟨c,0,none⟩ V V .i64 k hkV
 have i3:=fun w'=>ia42 w' ⟨q,0,none⟩ V V .i64 k hkV
 have w1:IntKind.wrap .i64 (hadF p m k + ma)=hadF p m k + ma:=wrap64_in (by omega) (by omega)
 have w2:IntKind.wrap .i64 (podF p k + ma)=podF p k + ma:=wrap64_in (by omega) (by omega)
 have w3:IntKind.wrap .i64 (s + ma)=s + ma:=wrap64_in (by omega) (by omega)
 have hcq:=hqc m c hc
 have e1:¬ c=q:=hcq
 have e2:¬ q=c:=fun e=>hcq e.symm
 have e3:¬ J=c:=fun e=>hJc m c hc e.symm
 have e4:¬ J=q:=hJq
 have e5:¬ g=c:=fun e=>c3 e.symm
 have lc:w.lim≤c:=by omega
 have lq:w.lim≤q:=by omega
 have gg0:=hG.gg
 simp only [jbC] at gJ
 simp [mc36_l1_b5,t8,t9,t15,t18,gJ,gc,gq,e1,e2,e3,e4,i2,i3,ax,ay,w1,w2,w3,f1,f2,lc,lq]
 refine hQ _ _ ?_ ?_ ?_ ?_ ⟨?_,?_,hG.inj,hG.glo,hG.ghi⟩ ⟨by simp [t1],by simp [t2],by simp,by simp [t9],by simp [t10],by simp [t11],by simp [t12],by simp [t14]⟩ (by simp [t15]) (by simp [t16])
 ·intro b b1 b2
  simp [b1,b2]
 ·rfl
 ·rfl
 ·simp [e2,s2]
 ·have a1:¬ g=q:=fun e=>hqg e.symm
  simp [a1,e5]
  exact gg0
 ·intro m' c' r2 hc' hr2
  have hq':=hqc m' c' hc'
  rw [← p1] at hr2
  by_cases e:m'=m
  ·subst e
   rw [hc] at hc'; cases hc'
   rw [List.getElem?_set,if_pos rfl,if_pos (by rw [hadG_length]; omega)] at hr2
   cases hr2
   exact ⟨by simp [hq',s1],c1,c2,c3⟩
  ·rw [List.getElem?_set,if_neg (Ne.symm e)] at hr2
   obtain ⟨a,b,d,f⟩:=hG.at_ m' c' r2 hc' hr2
   have hcc:¬ c'=c:=fun e2=>e (hG.inj m' m c' hc' (by rw [hc,e2]))
   exact ⟨by simp [hq',hcc,a],b,d,f⟩
set_option maxHeartbeats 1000000 in
theorem part36f (K:Nat) (w:AW) (J A:Nat) (m h k:Nat) (o ma:Int) (x:HHd) (p':List HJb) {LH:List (Sf × Int)} {LD:List (Wy × Int)} (mH:MapAt shC inV w kh LH) (mD:MapAt wyC inV w kd LD) (hH:HoL LH p') (hD:DaL LD p') (gJ:w.heap.get J=some (.cells (jbC ⟨m,o,h,k,ma⟩) 67 false)) (gA:w.heap.get A=some (.cells (hhC x) 77 false))
  (t:Tm) (T:TS t pv X s q V g M kh kd i) (t15:tget t 15=.pointer (some ⟨J,0,none⟩)) (t16:tget t 16=.pointer (some ⟨A,0,none⟩)) (Q:Ex→Tm→AW→Prop)
  (hbad:∀ t,(x.ra < hrS p' m h o∨x.da < dayS p' m h)→TR t→Q .ret t w)
  (hgood:∀ t,¬ (x.ra < hrS p' m h o∨x.da < dayS p' m h)→TS t pv X s q V g M kh kd i→Q .normal t w):wp (exM Try.prog (run Try.prog ov K) mc36_l1_b6 t w) Q:=by
 obtain ⟨t1,t2,t8,t9,t10,t11,t12,t14⟩:=T
 have hlk:=lookup_k (P:=Try.prog) (s:=120) map120 sh_ok zero3 mH ((m:Int),o,(h:Int)) false
 have hlk:lookupA Try.prog w 120 (.map (some kh)) (.agg ⟨[.int .i64 (m:Nat),.int .i64 o,.int .i64 (h:Nat)]⟩) false=.val (.int .i64 (hrS p' m h o)) w:=by
  refine hlk.trans ?_
  rw [← hH m o h]
  cases lookK LH ((m:Int),o,(h:Int)) <;> rfl
 have dlk:=lookup_k (P:=Try.prog) (s:=121) map121 wy_ok zero3 mD ((m:Int),(h:Int)) false
 have dlk:lookupA Try.prog w 121 (.map (some kd)) (.agg ⟨[.int .i64 (m:Nat),.int .i64 (h:Nat)]⟩) false=.val (.int .i64 (dayS p' m h)) w:=by
  refine dlk.trans ?_
  rw [← hD m h]
  cases lookK LD ((m:Int),(h:Int)) <;> rfl
 obtain ⟨b0,b1,b2,b3,b4⟩:=x
 simp only [hhC] at gA
 simp only [jbC] at gJ
 simp only at hbad hgood
 by_cases k1:b3 < hrS p' m h o
 ·simp [mc36_l1_b6,t11,t12,t15,t16,gJ,gA,hlk,dlk,k1]
  exact hbad _ (.inl k1) ⟨by simp,by simp,by simp,by simp⟩
 ·by_cases k2:b4 < dayS p' m h
  ·simp [mc36_l1_b6,t11,t12,t15,t16,gJ,gA,hlk,dlk,k1,k2]
   exact hbad _ (.inr k2) ⟨by simp,by simp,by simp,by simp⟩
  ·simp [mc36_l1_b6,t11,t12,t15,t16,gJ,gA,hlk,dlk,k1,k2]
   exact hgood _ (by omega) ⟨by simp [t1],by simp [t2],by simp [t8],by simp [t9],by simp [t10],by simp [t11],by simp [t12],by simp [t14]⟩
end
end Go.Proofs.Ytiokkkjahkhbfaa.walk
namespace Go.Sh
open Go
theorem dyL_sumA:∀ (l p:List HJb),(∀ j ∈ l,0≤j.mo∧j.mo < 6∧0≤j.ha∧j.ha < 4)→(dyL (p++l)).sum=(dyL p).sum + worS l
 | [],p,_=>by simp [worS]
 | j::l,p,h=>by
  obtain ⟨h1,h2,h3,h4⟩:=h j (by simp)
  obtain ⟨m,hm⟩:∃ v:Nat,j.mo=v:=⟨j.mo.toNat,by omega⟩
  obtain ⟨a,ha⟩:∃ v:Nat,j.ha=v:=⟨j.ha.toNat,by omega⟩
  have e:p++j::l=(p++[j])++l:=by simp
  rw [e,dyL_sumA l (p++[j]) fun k hk=>h k (by simp [hk]),← dyL_push p j (m:=m) (h:=a) (by omega) (by omega) hm ha,sum_set _ _ _ (by rw [dyL_length]; omega)]
  rw [List.getD_eq_getElem?_getD,dyL_at p (by omega) (by omega)]
  simp only [Option.getD_some,worS,List.map_cons,List.sum_cons]
  omega
theorem day_zero (m h:Int):∀ {p:List HJb},(∀ j ∈ p,j.ha ≠ h)→dayS p m h=0
 | [],_=>rfl
 | j::p,hj=>by
  have ih:=day_zero m h (p:=p) fun k hk=>hj k (by simp [hk])
  have:=hj j (by simp)
  unfold dayS at ih ⊢
  rw [List.map_cons,List.sum_cons,ih,if_neg (fun e=>this e.2)]
  omega
theorem sum_le2:∀ {p:List HJb} {f:HJb→Bool},(∀ j ∈ p,1≤j.ma∧j.ma≤1000)→0≤(p.map fun j=>if f j then j.ma else 0).sum∧(p.map fun j=>if f j then j.ma else 0).sum≤worS p
 | [],_,_=>by simp [worS]
 | j::p,f,h=>by
  have h1:=h j (by simp)
  have ih:=sum_le2 (p:=p) (f:=f) fun k hk=>h k (by simp [hk])
  simp only [worS,List.map_cons,List.sum_cons] at ih ⊢
  split <;> omega
theorem had_wor {p:List HJb} (h:∀ j ∈ p,1≤j.ma∧j.ma≤1000) (m v:Int):0≤hadF p m v∧hadF p m v≤worS p:=by
 have:=sum_le2 (f:=fun j=>decide (j.mo=m∧j.vi=v)) h
 simpa [hadF] using this
theorem pod_wor {p:List HJb} (h:∀ j ∈ p,1≤j.ma∧j.ma≤1000) (v:Int):0≤podF p v∧podF p v≤worS p:=by
 have:=sum_le2 (f:=fun j=>decide (j.vi=v)) h
 simpa [podF] using this
theorem sum_bdE {c:Int}:∀ {L:List Int},(∀ z ∈ L,0≤z∧z≤c)→0≤L.sum∧L.sum≤c * (L.length:Int)
 | [],_=>by simp
 | a::L,h=>by
  have h1:=h a (by simp)
  have h2:=sum_bdE (L:=L) fun z hz=>h z (by simp [hz])
  have e:c * ((a::L).length:Int)=c * (L.length:Int) + c:=by rw [List.length_cons]; push_cast; rw [Int.mul_add]; omega
  rw [List.sum_cons,e]
  omega
theorem tot_bd {hs:List HHd} {p:List HJb} (hj:∀ j ∈ p,0≤j.mo∧j.mo < 6∧0≤j.ha∧j.ha < hs.length) (h4:hs.length≤4) (hU:UseOk hs p) (hb:∀ x ∈ hs,x.da≤1000):0≤worS p∧worS p≤24000:=by
 have e:=dyL_sumA p [] fun j h=>by have:=hj j h; omega
 rw [List.nil_append] at e
 have z:(dyL []).sum=0:=by rw [dyL_nil]; decide
 have key:=sum_bdE (c:=1000) (L:=dyL p) fun z hz=>by
  obtain ⟨k,hk,rfl⟩:=List.mem_map.1 hz
  refine ⟨hU.dayPos _ _,?_⟩
  by_cases hlt:k % 4 < hs.length
  ·obtain ⟨x,hx⟩:∃ x,hs[k % 4]?=some x:=⟨_,List.getElem?_eq_getElem hlt⟩
   have:=hU.day ((k / 4:Nat):Int) (k % 4) x hx
   have:=hb x (List.mem_of_getElem? hx)
   omega
  ·rw [day_zero _ _ fun j h=>by have:=hj j h; omega]; omega
 rw [dyL_length] at key
 omega
end Go.Sh
namespace Go.Proofs.Ytiokkkjahkhbfaa.walk
open Go Go.Sh
set_option maxRecDepth 100000
section
variable {ov:Ov} {vs:List HVn} {hs:List HHd} {fs:List (List (Int × Int))} {vv hv fv pv:Value} {X q V g M kh kd:Nat}
structure SmI (w0 w:AW) (vs:List HVn) (hs:List HHd) (q V g M kh kd:Nat) (cs:List Nat) (p:List HJb):Prop where
 u:Up w0 w
 maps:∃ LH LD,MapAt shC inV w kh LH∧MapAt wyC inV w kd LD∧HoL LH p∧DaL LD p
 gq:w.heap.get q=some (.cells ((podL V p).flatMap intC) 3 false)
 gr:GrV w0.next w V g M cs (hadG V M p)
 use:UseOk hs p
 jb:∀ j ∈ p,jobB V hs.length M j=true∧1≤j.ma∧j.ma≤1000
 nq:q < w.next
 nkh:kh < w.next
 nkd:kd < w.next
structure SmD (w0:AW) (q g kh kd M:Nat) (cs:List Nat):Prop where
 len:cs.length=M
 q0:w0.next≤q
 h0:w0.next≤kh
 d0:w0.next≤kd
 qg:q ≠ g
 qh:q ≠ kh
 qd:q ≠ kd
 gh:g ≠ kh
 gd:g ≠ kd
 hd:kh ≠ kd
 cq:∀ (m c:Nat),cs[m]?=some c→c ≠ q
 ch:∀ (m c:Nat),cs[m]?=some c→c ≠ kh
 cd:∀ (m c:Nat),cs[m]?=some c→c ≠ kd
theorem grv_keep {n0:Nat} {w w':AW} {cs:List Nat} {G:List (List Int)} (h:GrV n0 w V g M cs G) (kg:w'.heap.get g=w.heap.get g) (kc:∀ (m c:Nat),cs[m]?=some c→w'.heap.get c=w.heap.get c) (hn:w.next≤w'.next):GrV n0 w' V g M cs G :=
 ⟨by rw [kg]; exact h.gg,fun m c r hc hr=>by obtain ⟨a,b,d,e⟩:=h.at_ m c r hc hr; exact ⟨by rw [kc m c hc]; exact a,b,by omega,e⟩,h.inj,h.glo,by have:=h.ghi; omega⟩
set_option maxHeartbeats 2000000 in
theorem loop36b (K:Nat) (h38:HasP ov 38 S38.F) (h70:HasP ov 70 S70.F) (w0:AW) (l:List HJb) (hS:SeaV w0 vv hv fv vs hs fs) (hP:RowsV jbC w0 pv l) (hlen:l.length≤2 ^ 60) (hB:seaB vs hs fs=true) (hV:V=vs.length) (hM:M=fs.length) (hX:X < w0.next) (gX:w0.heap.get X=some (.cells [vv,hv,fv] 26 false)) (hl0:w0.lim≤w0.next) {cs:List Nat} (D:SmD w0 q g kh kd M cs) (w:AW) (hI:SmI w0 w vs hs q V g M kh kd cs [])
  (t:Tm) (T:TS t pv X 0 q V g M kh kd 0) (Q:Ex→Tm→AW→Prop)
  (hbad:∀ t w',smG vs hs M [] l=false→Up w0 w'→TR t→Q .ret t w')
  (hgood:∀ t w',smG vs hs M [] l=true→SmI w0 w' vs hs q V g M kh kd cs l→TS t pv X (worS l) q V g M kh kd l.length→Q (.exit 2) t w'):wp (exM Try.prog (run Try.prog ov (K + 1)) (.loop mc36_l1) t w) Q:=by
 obtain ⟨b1,b2,b3,b4,b5,b6,b7,b8⟩:=sea_parts hB
 have hl1:=fun w2=>len39V (w':=w2) hP
 have hda:∀ x ∈ hs,x.da≤1000∧x.ra≤100∧0≤x.da∧0≤x.ra:=fun x hx=>by
  have:=b7 x hx
  simp only [hhB,inH,Bool.and_eq_true,decide_eq_true_eq] at this
  omega
 refine wp_rounds (fun i t w'=>SmI w0 w' vs hs q V g M kh kd cs (l.take i)∧smG vs hs M (l.take i) (l.drop i)=smG vs hs M [] l∧TS t pv X (worS (l.take i)) q V g M kh kd i∧i≤l.length) (2 ^ 61) (by decide) ⟨by simpa using hI,by simp,by simpa [worS] using T,Nat.zero_le _⟩ ?_
 clear T t hI w
 rintro i t w ⟨hI,he,T,hi⟩
 have T':=T
 obtain ⟨t1,t2,t8,t9,t10,t11,t12,t14⟩:=T'
 have hu:=hI.u
 have hle:w.lim≤w.next:=by rw [hu.lim]; have:=hu.next; omega
 by_cases hlt:i < l.length
 ·obtain ⟨x,hx⟩:=lt_get hlt
  have hw1':IntKind.wrap .i64 ((i:Int) + 1)=(i:Int) + 1:=wrap64_in (by omega) (by omega)
  obtain ⟨p,hia,hld,_,hpb⟩:=getR un39 sz67 jbC_length (hP.up hu) rfl hx
  rw [drop_cons hx] at he
  have he:(smJ vs hs M (l.take i) x && smG vs hs M (l.take i++[x]) (l.drop (i + 1)))=smG vs hs M [] l:=he
  have htk:=take_push' hx
  have hlt':(i:Int) < (l.length:Int):=by omega
  obtain ⟨w1,hw1⟩:∃ w1:AW,w1=⟨(w.heap.put w.next (some (.cells [.int .i64 0,.int .i64 0,.int .i64 0,.int .i64 0,.int .i64 0] 67 false))).put w.next (some (.cells (jbC x) 67 false)),w.next + 1,w.lim⟩:=⟨_,rfl⟩
  have u4:Up w w1:=by rw [hw1]; exact ((Up.refl w).add _).put (Nat.le_refl _) (Nat.le_refl _)
  have n1:w1.next=w.next + 1:=by rw [hw1]
  have gJ:w1.heap.get w.next=some (.cells (jbC x) 67 false):=by rw [hw1]; simp
  have hu1:=hu.trans u4
  have gX1:=(hu1.at hX).trans gX
  have hgl:cs.length≤(hadG V M (l.take i)).length:=by rw [hadG_length,D.len]; exact Nat.le_refl _
  have hG1:=hI.gr.up hgl u4
  have gq1:=(u4.at hI.nq).trans hI.gq
  obtain ⟨LH,LD,mH,mD,hHo,hDa⟩:=hI.maps
  have mH1:=mapAt_up mH u4 hI.nkh
  have mD1:=mapAt_up mD u4 hI.nkd
  have hw1e:=hw1
  obtain ⟨y1,y2,y3,y4,y5,hxe⟩:∃ y1 y2 y3 y4 y5:Int,x=⟨y1,y2,y3,y4,y5⟩:=⟨_,_,_,_,_,rfl⟩
  have hld':=hld
  rw [hxe] at hld' hw1e
  simp only [jbC] at hld' hw1e
  simp [mc36_l1_eq,t1,t14,hl1,hlt,hlt',hia,hld',hle]
  rw [← hw1e]
  refine wp_seqX (wp_blockX (part36a (ov:=ov) (vs:=vs) (hs:=hs) (fs:=fs) (vv:=vv) (hv:=hv) (fv:=fv) (pv:=pv) (X:=X) (q:=q) (V:=V) (g:=g) (M:=M) (kh:=kh) (kd:=kd) (i:=i) (s:=worS (l.take i)) K h38 (by omega) (by omega) (by omega) w1 (hS.up hu1) w.next x gJ gX1 _ ⟨by simp [t1],by simp [t2],by simp [t8],by simp [t9],by simp [t10],by simp [t11],by simp [t12],by simp [t14]⟩ (by simp) _ ?_ ?_))
  ·intro t hb hR
   have e:smG vs hs M [] l=false:=by
    rw [← he]
    have:smJ vs hs M (l.take i) x=false:=by
     unfold smJ
     rw [← hV]
     rw [Bool.and_eq_false_iff] at hb
     rcases hb with hb | hb <;> rw [hb] <;> simp
    rw [this]; rfl
   simp
   exact hbad _ _ e hu1 hR
  ·intro t hok T2 t15
   rw [Bool.and_eq_true] at hok
   obtain ⟨hok1,hok2⟩:=hok
   have hok1':=hok1
   simp only [jobB,decide_eq_true_eq] at hok1'
   simp only [inMa,Bool.and_eq_true,decide_eq_true_eq] at hok2
   clear hld' hw1e hxe y1 y2 y3 y4 y5
   obtain ⟨mo,o,ha,vi,ma⟩:=x
   simp only at hok1' hok2
   obtain ⟨m,rfl⟩:∃ m:Nat,mo=m:=⟨mo.toNat,by omega⟩
   obtain ⟨k,rfl⟩:∃ k:Nat,vi=k:=⟨vi.toNat,by omega⟩
   obtain ⟨h,rfl⟩:∃ h:Nat,ha=h:=⟨ha.toNat,by omega⟩
   have hm:m < M:=by omega
   have hk:k < V:=by omega
   obtain ⟨x,hx2⟩:=lt_get (show h < hs.length by omega)
   obtain ⟨v,hv2⟩:=lt_get (show k < vs.length by omega)
   obtain ⟨c,hc⟩:=lt_get (show m < cs.length by rw [D.len]; exact hm)
   have hx3:=hda x (List.mem_of_getElem? hx2)
   have hsj:smJ vs hs M (l.take i) ⟨m,o,h,k,ma⟩=(canH x v o (k:Nat) && decide (¬ (x.ra < hrS (l.take i++[⟨m,o,h,k,ma⟩]) m h o∨x.da < dayS (l.take i++[⟨m,o,h,k,ma⟩]) m h))):=by
    have e1:inMa ⟨m,o,h,k,ma⟩=true:=by simp [inMa,hok2]
    unfold smJ
    rw [← hV,hok1,e1]
    simp only [Int.toNat_natCast,hx2,hv2,Bool.true_and]
   refine part36b (ov:=ov) (vs:=vs) (hs:=hs) (fs:=fs) (vv:=vv) (hv:=hv) (fv:=fv) (pv:=pv) (s:=worS (l.take i)) K w1 (by rw [u4.lim]; omega) (hS.up hu1) w.next m h k o ma x v hx2 hv2 gJ (by omega) gX1 (by have:=hu.next; omega) t T2 t15 _ ?_
   intro t w2 A B u5 gA gB hA1 hA2 hB1 hB2 T3 t15 t16 t17
   have hu2:=hu1.trans u5
   have hG2:=hG1.up hgl u5
   have gJ2:=(u5.at (show w.next < w1.next by omega)).trans gJ
   refine part36c (ov:=ov) (pv:=pv) (X:=X) (s:=worS (l.take i)) K h70 h38 w2 hG2 D.len w.next A B m h k hm c hc o ma x v gJ2 gA gB t T3 t15 t16 t17 _ ?_ ?_
   ·intro t hcan hR
    have e:smG vs hs M [] l=false:=by rw [← he,hsj,hcan]; rfl
    simp
    exact hbad _ _ e hu2 hR
   ·intro t hcan T4 t15 t16 t18
    have mH2:=mapAt_up mH1 u5 (by have:=hI.nkh; omega)
    have mD2:=mapAt_up mD1 u5 (by have:=hI.nkd; omega)
    have jr:∀ j ∈ l.take i,0≤j.mo∧j.mo < 6∧0≤j.ha∧j.ha < hs.length:=fun j hj=>by
     have:=(hI.jb j hj).1
     simp only [jobB,decide_eq_true_eq] at this
     omega
    have tb:=tot_bd jr b3 hI.use fun x hx=>(hda x hx).1
    have pma:=fun j hj=>(hI.jb j hj).2
    have hpw:=pod_wor pma (k:Int)
    have hhw:=had_wor pma (m:Int) (k:Int)
    have r1:=hI.use.hr m h o x hx2
    have r2:=hI.use.day m h x hx2
    have r3:=hI.use.hrPos m h o
    have r4:=hI.use.dayPos m h
    have q1:=hI.nq
    have q2:=hI.nkh
    have q3:=hI.nkd
    refine part36d (ov:=ov) (pv:=pv) (X:=X) (s:=worS (l.take i)) (K + 1) w2 w.next ⟨m,o,h,k,ma⟩ mH2 mD2 hHo hDa (by rw [hu2.lim]; have:=D.h0; omega) (by rw [hu2.lim]; have:=D.d0; omega) D.hd gJ2 (by omega) (by omega) (by simp only; omega) (by simp only; omega) (.pointer (some ⟨A,0,none⟩)) (.slice (some ⟨c,0,none⟩) V V) t T4 t15 t16 t18 _ ?_
    intro t w3 k3 n3 l3 mH3 mD3 T5 t15 t16 t18
    have hu3:Up w0 w3:=⟨fun b hb=>(k3 b (by have:=D.h0; omega) (by have:=D.d0; omega)).trans (hu2.at hb),by rw [n3]; exact hu2.next,by rw [l3]; exact hu2.lim⟩
    have hG3:=grv_keep hG2 (k3 g D.gh D.gd) (fun m c hc=>k3 c (D.ch m c hc) (D.cd m c hc)) (Nat.le_of_eq n3.symm)
    have gq3:=(k3 q D.qh D.qd).trans ((u5.at (by omega)).trans gq1)
    have gJ3:=(k3 w.next (by omega) (by omega)).trans gJ2
    have gA3:=(k3 A (by omega) (by omega)).trans gA
    refine part36e (ov:=ov) (pv:=pv) (X:=X) (s:=worS (l.take i)) (K + 1) w3 w.next m h k o ma (l.take i) hG3 D.len hm hk c hc gq3 gJ3 D.cq D.qg (fun m' c' hc' e=>by have:=hI.gr.lt hgl hc'; omega) (by omega) (by rw [hu3.lim]; exact hl0) D.q0 (by omega) (by omega) (by omega) (.pointer (some ⟨A,0,none⟩)) t T5 t15 t16 t18 _ ?_
    intro t w4 k4 n4 l4 gq4 hG4 T6 t15 t16
    have c0:=(hG3.at_ m c _ hc (hadG_at _ hm))
    have hu4:Up w0 w4:=⟨fun b hb=>(k4 b (by have:=D.q0; omega) (by omega)).trans (hu3.at hb),by rw [n4]; exact hu3.next,by rw [l4]; exact hu3.lim⟩
    have hcJ:c < w.next:=hI.gr.lt hgl hc
    have gJ4:=(k4 w.next (by omega) (by omega)).trans gJ3
    have gA4:=(k4 A (by omega) (by omega)).trans gA3
    have mH4:MapAt shC inV w4 kh _:=(k4 kh (Ne.symm D.qh) (Ne.symm (D.ch m c hc))).trans mH3
    have mD4:MapAt wyC inV w4 kd _:=(k4 kd (Ne.symm D.qd) (Ne.symm (D.cd m c hc))).trans mD3
    have hH4:=hHo.push ⟨m,o,h,k,ma⟩
    have hD4:=hDa.push ⟨m,o,h,k,ma⟩
    refine part36f (ov:=ov) (pv:=pv) (X:=X) (K + 1) w4 w.next A m h k o ma x (l.take i++[⟨m,o,h,k,ma⟩]) mH4 mD4 hH4 hD4 gJ4 gA4 t T6 t15 t16 _ ?_ ?_
    ·intro t hb hR
     have e:smG vs hs M [] l=false:=by rw [← he,hsj,hcan,decide_eq_false (fun hn=>hn hb)]; rfl
     simp
     exact hbad _ _ e hu4 hR
    ·intro t hb T7
     have ej:smJ vs hs M (l.take i) ⟨m,o,h,k,ma⟩=true:=by rw [hsj,hcan,decide_eq_true hb]; rfl
     rw [ej,Bool.true_and] at he
     obtain ⟨t1,t2,t8,t9,t10,t11,t12,t14⟩:=T7
     have hU:=hI.use.pushS ej
     rw [← htk] at he gq4 hG4 hH4 hD4 hU
     have ew:worS (l.take (i + 1))=worS (l.take i) + ma:=by rw [htk,worS_push]
     simp [t14,hw1']
     refine ⟨by omega,⟨hu4,⟨_,_,mH4,mD4,hH4,hD4⟩,gq4,hG4,hU,fun j hj=>?_,by rw [n4,n3]; have:=u5.next; omega,by rw [n4,n3]; have:=u5.next; omega,by rw [n4,n3]; have:=u5.next; omega⟩,he,⟨by simp [t1],by simp [t2],by rw [ew]; simp [t8],by simp [t9],by simp [t10],by simp [t11],by simp [t12],by simp⟩,hlt⟩
     rw [htk] at hj
     rcases List.mem_append.1 hj with hj | hj
     ·exact hI.jb j hj
     ·rw [List.mem_singleton] at hj; subst hj; exact ⟨hok1,hok2⟩
 ·have hi':i=l.length:=by omega
  subst hi'
  rw [List.take_length] at hI
  rw [List.take_length,List.drop_length] at he
  rw [List.take_length] at T t8
  simp [mc36_l1_eq,t1,t14,hl1]
  exact hgood _ _ he.symm hI ⟨by simp [t1],by simp [t2],by simp [t8],by simp [t9],by simp [t10],by simp [t11],by simp [t12],by simp [t14]⟩
theorem loop36a (K:Nat) (w0:AW) (hS:SeaV w0 vv hv fv vs hs fs) (hV:V=vs.length) (hM:M=fs.length) (bV:V≤6) (bM:M≤6) (hX:X < w0.next) (gX:w0.heap.get X=some (.cells [vv,hv,fv] 26 false)) (hl0:w0.lim≤w0.next) (w:AW) (hu:Up w0 w) (gg:w.heap.get g=some (.cells (List.replicate M nilS) 42 false)) (hg:w0.next≤g) (n1:Nat) (hgn:g < n1) (hn1:n1≤w.next) (wA:AW) (hA:∀ b,b < n1→b ≠ g→w.heap.get b=wA.heap.get b)
  (v1 v9 v11 v12:Value) (t:Tm) (t1:tget t 1=v1) (t2:tget t 2=.pointer (some ⟨X,0,none⟩)) (t8:tget t 8=.int .i64 0) (t9:tget t 9=v9) (t10:tget t 10=.slice (some ⟨g,0,none⟩) M M) (t11:tget t 11=v11) (t12:tget t 12=v12) (t13:tget t 13=.int .i64 0) (Q:Ex→Tm→AW→Prop)
  (hQ:∀ t w' cs,Up w0 w'→cs.length=M→(∀ (m c:Nat),cs[m]?=some c→n1≤c)→GrV w0.next w' V g M cs (hadG V M [])→(∀ b,b < n1→b ≠ g→w'.heap.get b=wA.heap.get b)→n1≤w'.next→tget t 1=v1→tget t 2=.pointer (some ⟨X,0,none⟩)→tget t 8=.int .i64 0→tget t 9=v9→tget t 10=.slice (some ⟨g,0,none⟩) M M→tget t 11=v11→tget t 12=v12→Q (.exit 0) t w'):wp (exM Try.prog (run Try.prog ov K) (.loop mc36_l0) t w) Q:=by
 obtain ⟨nv,nh,nf⟩:=hS.nj
 have lt22:=fun w2=>len22V (w':=w2) hS.v
 rw [← hV] at lt22
 have mk2:=fun w=>mk42 V (by omega) w
 have el:∀ M0,(List.replicate M0 (List.replicate V (0:Int))).length=M0:=fun M0=>List.length_replicate ..
 refine wp_rounds (fun i t w=>(∃ cs,cs.length=i∧(∀ (m c:Nat),cs[m]?=some c→n1≤c)∧GrV w0.next w V g M cs (hadG V M []))∧Up w0 w∧(∀ b,b < n1→b ≠ g→w.heap.get b=wA.heap.get b)∧n1≤w.next∧tget t 1=v1∧tget t 2=.pointer (some ⟨X,0,none⟩)∧tget t 8=.int .i64 0∧tget t 9=v9∧tget t 10=.slice (some ⟨g,0,none⟩) M M∧tget t 11=v11∧tget t 12=v12∧tget t 13=.int .i64 (i:Nat)∧i≤M) 20 (by decide) ⟨⟨[],rfl,fun m c h=>by simp at h,⟨by simpa using gg,fun m c r hc _=>by simp at hc,fun m m' c hc _=>by simp at hc,hg,by omega⟩⟩,hu,hA,hn1,t1,t2,t8,t9,t10,t11,t12,by simpa using t13,Nat.zero_le _⟩ ?_
 clear t1 t2 t8 t9 t10 t11 t12 t13 gg hu hA hn1 t w
 rintro i t w ⟨⟨cs,hcl,hcn,hG⟩,hu,hA,hn1,t1,t2,t8,t9,t10,t11,t12,t13,hi⟩
 have gX1:=(hu.at hX).trans gX
 by_cases hlt:i < M
 ·have hw1:IntKind.wrap .i64 ((i:Int) + 1)=(i:Int) + 1:=wrap64_in (by omega) (by omega)
  have hlt':(i:Int) < (M:Int):=by omega
  have hia2:=fun w'=>ia27 w' ⟨g,0,none⟩ M M .i64 i hlt
  have gg2:=hG.gg
  have hfit:i + 1≤(cs.map (slV V)++List.replicate (M - cs.length) nilS).length:=by simp; omega
  have hlg:w.lim≤g:=by rw [hu.lim]; omega
  have hgn2:=hG.ghi
  have hset:(cs.map (slV V)++List.replicate (M - cs.length) nilS).take i++(slV V w.next::(cs.map (slV V)++List.replicate (M - cs.length) nilS).drop (i + 1))=(cs++[w.next]).map (slV V)++List.replicate (M - (cs++[w.next]).length) nilS:=by
   obtain ⟨k,hk⟩:∃ k,M - cs.length=k + 1:=⟨M - cs.length - 1,by omega⟩
   have e1:i=(cs.map (slV V)).length:=by rw [List.length_map,hcl]
   have e2:M - (cs++[w.next]).length=k:=by rw [List.length_append]; simp; omega
   rw [e2,hk,List.replicate_succ,e1,List.take_left,← List.drop_drop,List.drop_left,List.map_append,List.append_assoc]
   rfl
  obtain ⟨os,hos⟩:∃ os,os=cs.map (slV V)++List.replicate (M - cs.length) nilS:=⟨_,rfl⟩
  rw [← hos] at hset hfit gg2
  have es:slV V w.next=.slice (some ⟨w.next,0,none⟩) V V:=rfl
  rw [es] at hset
  have hgw:¬ w.next=g:=by omega
  have hgw':¬ g=w.next:=by omega
  simp [mc36_l0,t1,t2,t8,t9,t10,t11,t12,t13,gX1,nv,nh,nf,lt22,mk2,hlt,hlt',hia2,gg2,hfit,hlg,hgw',hw1]
  refine ⟨by omega,⟨cs++[w.next],by simp; omega,fun m c hc=>?_,⟨?_,?_,?_,hG.glo,by show g < w.next + 1; omega⟩⟩,?_,fun b hb hbg=>?_,by omega,by omega⟩
  ·by_cases hm:m < cs.length
   ·rw [List.getElem?_append_left hm] at hc
    exact hcn m c hc
   ·have hlt1:=(List.getElem?_eq_some_iff.1 hc).1
    simp at hlt1
    rw [List.getElem?_append_right (by omega)] at hc
    have:m - cs.length=0:=by omega
    rw [this] at hc
    simp at hc
    omega
  ·simp [hset]
  ·intro m c r' hc hr'
   show ((w.heap.put w.next _).put g _).get c=_∧_
   by_cases hm:m < cs.length
   ·rw [List.getElem?_append_left hm] at hc
    obtain ⟨a,b,d,e⟩:=hG.at_ m c r' hc hr'
    exact ⟨by rw [get_put,if_neg e,get_put,if_neg (by omega)]; exact a,b,by show c < w.next + 1; omega,e⟩
   ·have hm2:m=i:=by
     have:=(List.getElem?_eq_some_iff.1 hc).1
     simp at this; omega
    subst hm2
    rw [List.getElem?_append_right (by omega),hcl] at hc
    simp at hc
    subst hc
    rw [hadG_nil,List.getElem?_replicate,if_pos hlt] at hr'
    cases hr'
    exact ⟨by rw [get_put,if_neg hgw,get_put,if_pos rfl],by have:=hu.next; omega,Nat.lt_succ_self _,hgw⟩
  ·intro m m' c hc hc'
   have hlt1:=(List.getElem?_eq_some_iff.1 hc).1
   have hlt2:=(List.getElem?_eq_some_iff.1 hc').1
   simp at hlt1 hlt2
   have hlc:∀ (m c:Nat),cs[m]?=some c→c < w.next:=fun m c h=>hG.lt (by rw [hadG_length]; omega) h
   by_cases hm:m < cs.length <;> by_cases hm':m' < cs.length
   ·rw [List.getElem?_append_left hm] at hc
    rw [List.getElem?_append_left hm'] at hc'
    exact hG.inj m m' c hc hc'
   ·rw [List.getElem?_append_left hm] at hc
    rw [List.getElem?_append_right (by omega)] at hc'
    have:m' - cs.length=0:=by omega
    rw [this] at hc'
    simp at hc'
    have:=hlc m c hc
    omega
   ·rw [List.getElem?_append_left hm'] at hc'
    rw [List.getElem?_append_right (by omega)] at hc
    have:m - cs.length=0:=by omega
    rw [this] at hc
    simp at hc
    have:=hlc m' c hc'
    omega
   ·omega
  ·exact (hu.add _).put (by omega) (Nat.le_refl _)
  ·rw [if_neg hbg,if_neg (by omega)]
   exact hA b hb hbg
 ·have hi':i=M:=by omega
  subst hi'
  simp [mc36_l0,t10,t13]
  exact hQ _ _ cs hu hcl hcn hG hA hn1 (by simp [t1]) (by simp [t2]) (by simp [t8]) (by simp [t9]) (by simp [t10]) (by simp [t11]) (by simp [t12])
end
section
variable {ov:Ov} {vs:List HVn} {hs:List HHd} {fs:List (List (Int × Int))} {vv hv fv pv:Value}
set_option maxHeartbeats 1000000 in
theorem call36 (K:Nat) (ho:∀ args w,ov 36 args w=none) (h38:HasP ov 38 S38.F) (h70:HasP ov 70 S70.F) (l:List HJb) (w:AW) (hl:w.lim≤w.next) (hS:SeaV w vv hv fv vs hs fs) (hP:RowsV jbC w pv l) (hlen:l.length≤2 ^ 60) (hB:seaB vs hs fs=true) :
  ∃ v w',(run Try.prog ov (K + 2)).call 36 [.agg ⟨[vv,hv,fv]⟩,pv] w .none=.ok (.ret v) w' .none∧Up w w'∧((smG vs hs fs.length [] l=false∧v=.tuple ⟨[.int .i64 0,.slice none 0 0,.slice none 0 0,.bool false]⟩)∨(smG vs hs fs.length [] l=true∧∃ q g cs,v=.tuple ⟨[.int .i64 (worS l),.slice (some ⟨q,0,none⟩) vs.length vs.length,.slice (some ⟨g,0,none⟩) fs.length fs.length,.bool true]⟩∧w'.heap.get q=some (.cells ((podL vs.length l).flatMap intC) 3 false)∧q < w'.next∧cs.length=fs.length∧GrV (w.next + 1) w' vs.length g fs.length cs (hadG vs.length fs.length l)∧(∀ j ∈ l,jobB vs.length hs.length fs.length j=true∧1≤j.ma∧j.ma≤1000)∧UseOk hs l)):=by
 refine call_wp text36 (by simp) (ho _ _) ?_
 obtain ⟨b1,b2,b3,b4,b5,b6,b7,b8⟩:=sea_parts hB
 obtain ⟨nv,nh,nf⟩:=hS.nj
 have pj:notJunk pv=some pv:=by obtain ⟨x,y,rfl⟩:=hP.len; rfl
 have hda:∀ x ∈ hs,x.da≤1000∧x.ra≤100∧0≤x.da∧0≤x.ra:=fun x hx=>by
  have:=b7 x hx
  simp only [hhB,inH,Bool.and_eq_true,decide_eq_true_eq] at this
  omega
 have sv:=same_rows hS.v
 have sf:=same_rows2 hS.f
 have lt22:=fun w2=>len22V (w':=w2) hS.v
 have lt24:=fun w2=>len24V (w':=w2) hS.f
 have mk1:=fun w=>mk42 vs.length (by omega) w
 have mk2:=fun w=>mk27 fs.length (by omega) w
 obtain ⟨w0,hw0⟩:∃ w0:AW,w0=⟨w.heap.put w.next (some (.cells [vv,hv,fv] 26 false)),w.next + 1,w.lim⟩:=⟨_,rfl⟩
 have u0:Up w w0:=by rw [hw0]; exact (Up.refl w).add _
 have n0:w0.next=w.next + 1:=by rw [hw0]
 have gX:w0.heap.get w.next=some (.cells [vv,hv,fv] 26 false):=by rw [hw0]; simp
 obtain ⟨N,hN⟩:∃ N,N=w0.next:=⟨_,rfl⟩
 obtain ⟨w1,hw1⟩:∃ w1:AW,w1=⟨(((w0.heap.put N (some (.cells ((List.replicate vs.length (0:Int)).flatMap intC) 3 false))).put (N + 1) (some (.cells (List.replicate fs.length nilS) 42 false))).put (N + 1 + 1) (some (.map [] 0))).put (N + 1 + 1 + 1) (some (.map [] 0)),N + 1 + 1 + 1 + 1,w0.lim⟩:=⟨_,rfl⟩
 have u1:Up w0 w1:=by
  rw [hw1]
  exact ⟨fun x hx=>by rw [get_put,if_neg (by omega),get_put,if_neg (by omega),get_put,if_neg (by omega),get_put,if_neg (by omega)],by show w0.next≤N + 1 + 1 + 1 + 1; omega,rfl⟩
 have n1:w1.next=N + 1 + 1 + 1 + 1:=by rw [hw1]
 have gq:w1.heap.get N=some (.cells ((List.replicate vs.length (0:Int)).flatMap intC) 3 false):=by rw [hw1]; simp
 have gg:w1.heap.get (N + 1)=some (.cells (List.replicate fs.length nilS) 42 false):=by rw [hw1]; simp
 have gh:w1.heap.get (N + 1 + 1)=some (.map [] 0):=by rw [hw1]; simp
 have gd:w1.heap.get (N + 1 + 1 + 1)=some (.map [] 0):=by rw [hw1]; simp
 have hw1e:=hw1
 rw [hw0] at hw1e
 have hN2:N=w.next + 1:=by omega
 rw [hN2] at hw1e
 simp only at hw1e
 simp [mc36,cellsOf_agg,nv,nh,nf,pj,sv,sf,lt22,lt24,mk1,mk2]
 rw [← hw1e]
 have hlim0:w0.lim≤w0.next:=by rw [u0.lim]; omega
 refine wp_seqX (wp_blockX (loop36a (ov:=ov) (vs:=vs) (hs:=hs) (fs:=fs) (vv:=vv) (hv:=hv) (fv:=fv) (X:=w.next) (V:=vs.length) (M:=fs.length) (g:=N + 1) (K + 1) w0 (hS.up u0) rfl rfl b1 b5 (by omega) gX hlim0 w1 u1 gg (by omega) (N + 4) (by omega) (by omega) w1 (fun b _ _=>rfl) pv (.slice (some ⟨N,0,none⟩) vs.length vs.length) (.map (some (N + 1 + 1))) (.map (some (N + 1 + 1 + 1))) _ (by simp) (by simp) (by simp) (by simp [hN2]) (by simp [hN2]) (by simp [hN2]) (by simp [hN2]) (by simp) _ ?_))
 intro t w2 cs u2 hcl hcn hG hA hn2 t1 t2 t8 t9 t10 t11 t12
 have D:SmD w0 N (N + 1) (N + 1 + 1) (N + 1 + 1 + 1) fs.length cs:=⟨hcl,by omega,by omega,by omega,by omega,by omega,by omega,by omega,by omega,by omega,fun m c hc=>by have:=hcn m c hc; omega,fun m c hc=>by have:=hcn m c hc; omega,fun m c hc=>by have:=hcn m c hc; omega⟩
 have hI:SmI w0 w2 vs hs N vs.length (N + 1) fs.length (N + 1 + 1) (N + 1 + 1 + 1) cs []:=by
  refine ⟨u2,⟨[],[],?_,?_,fun m o h=>by simp [hrS],fun m h=>by simp [dayS]⟩,?_,hG,UseOk.nil fun x hx=>by have:=hda x hx; omega,fun j hj=>by simp at hj,by omega,by omega,by omega⟩
  ·unfold MapAt
   rw [hA _ (by omega) (by omega),gh]; rfl
  ·unfold MapAt
   rw [hA _ (by omega) (by omega),gd]; rfl
  ·rw [hA _ (by omega) (by omega),gq,podL_nil]
 simp [t1,t2,t8,t9,t10,t11,t12]
 refine wp_seqX (wp_blockX (loop36b (ov:=ov) (vs:=vs) (hs:=hs) (fs:=fs) (vv:=vv) (hv:=hv) (fv:=fv) (pv:=pv) (X:=w.next) (q:=N) (V:=vs.length) (g:=N + 1) (M:=fs.length) (kh:=N + 1 + 1) (kd:=N + 1 + 1 + 1) K h38 h70 w0 l (hS.up u0) (hP.up u0) hlen hB rfl rfl (by omega) gX hlim0 D w2 hI _ ⟨by simp [t1],by simp [t2],by simp [t8],by simp [t9],by simp [t10],by simp [t11],by simp [t12],by simp⟩ _ ?_ ?_))
 ·intro t w3 he u3 hR
  obtain ⟨t4,t5,t6,t7⟩:=hR
  simp [t4,t5,t6,t7,he,tupV]
  exact u0.trans u3
 ·intro t w3 he hI3 T
  obtain ⟨t1,t2,t8,t9,t10,t11,t12,t14⟩:=T
  simp [t8,t9,t10,he,tupV]
  refine ⟨u0.trans hI3.u,N,N + 1,⟨rfl,rfl⟩,hI3.gq,hI3.nq,cs,hcl,?_,fun j hj=>hI3.jb j hj,hI3.use⟩
  rw [← n0]
  exact hI3.gr
end
end Go.Proofs.Ytiokkkjahkhbfaa.walk
namespace Go.Sh
open Go
def colS (G:List (List Int)) (v:Nat):Int:=(G.map fun r=>r.getD v 0).sum
def flS (G:List (List Int)) (i:Nat):Int:=((List.range i).map fun v=>colS G v).sum
theorem flS_next (G:List (List Int)) (i:Nat):flS G (i + 1)=flS G i + colS G i:=by
 unfold flS
 rw [List.range_succ,List.map_append,List.sum_append]; simp
theorem colS_tk {G:List (List Int)} {i v:Nat} {r:List Int} (h:G[i]?=some r):colS (G.take (i + 1)) v=colS (G.take i) v + r.getD v 0:=by
 unfold colS
 rw [List.take_add_one,h,List.map_append,List.sum_append]; simp
theorem colS_set (G:List (List Int)) (i v:Nat) (r:List Int) (h:i < G.length):colS (G.set i r) v=colS G v - (G.getD i []).getD v 0 + r.getD v 0:=by
 unfold colS
 rw [List.map_set,sum_set _ _ _ (by rw [List.length_map]; exact h)]
 congr 2
 simp only [List.getD_eq_getElem?_getD,List.getElem?_map]
 rw [List.getElem?_eq_getElem h]; rfl
theorem range_self (r:List Int):((List.range r.length).map fun v=>r.getD v 0)=r:=by
 apply List.ext_getElem?
 intro i
 rw [List.getElem?_map]
 by_cases h:i < r.length
 ·rw [List.getElem?_range h,List.getElem?_eq_getElem h]
  simp [List.getD_eq_getElem?_getD,h]
 ·rw [List.getElem?_eq_none (by simp; omega),List.getElem?_eq_none (by omega)]; rfl
theorem sum_add {α:Type} (f g:α→Int):∀ l:List α,(l.map fun x=>f x + g x).sum=(l.map f).sum + (l.map g).sum
 | []=>rfl
 | x::l=>by
  rw [List.map_cons,List.map_cons,List.map_cons,List.sum_cons,List.sum_cons,List.sum_cons,sum_add f g l]; omega
theorem cols_all {V:Nat}:∀ {G:List (List Int)},(∀ r ∈ G,r.length=V)→flS G V=sumG G
 | [],_=>by
  unfold flS colS sumG
  have:∀ l:List Nat,(l.map fun _=>(0:Int)).sum=0:=fun l=>by induction l with | nil=>rfl | cons a l ih=>rw [List.map_cons,List.sum_cons,ih]; rfl
  exact this _
 | r::G,h=>by
  have ih:=cols_all (V:=V) (G:=G) fun x hx=>h x (by simp [hx])
  have hr:=h r (by simp)
  have e:flS (r::G) V=((List.range V).map fun v=>r.getD v 0).sum + flS G V:=by
   unfold flS
   rw [← sum_add]
   congr 1
  rw [e,ih,← hr,range_self]
  simp [sumG]
theorem col_keep {M V nh:Nat} {vs:List HVn}:∀ {l:List HJb} {G:List (List Int)} {P:List Int},GrOk M V vs G P→(∀ j ∈ l,jobB V nh M j=true∧1≤j.ma)→∀ v:Nat,v < V→colS (plS vs G P l).1 v + (plS vs G P l).2.getD v 0=colS G v + P.getD v 0∧(plS vs G P l).2.getD v 0≤P.getD v 0 + podF l v∧P.getD v 0≤(plS vs G P l).2.getD v 0
 | [],_,_,_,_,v,_=>by simp [plS,podF]
 | j::l,G,P,h,hj,v,hv=>by
  obtain ⟨j1,j2⟩:=hj j (by simp)
  obtain ⟨a,b,c⟩:=col_keep (nh:=nh) (l:=l) (h.step j1 j2) (fun k hk=>hj k (by simp [hk])) v hv
  have hp:=stN_pos h j1 j2
  obtain ⟨l1,l2,l3⟩:=stN_le (vs:=vs) (G:=G) (P:=P) (j:=j)
  have j1':=j1
  simp only [jobB,decide_eq_true_eq] at j1'
  have hc:colS (stG G j (stN vs G P j)) v=if (v:Int)=j.vi then colS G v - stN vs G P j else colS G v:=by
   unfold stG
   rw [colS_set _ _ _ _ (by rw [h.lenG]; omega),getD_set _ _ _ _ (by rw [h.lenR _ (by omega)]; omega)]
   by_cases e:v=j.vi.toNat
   ·rw [if_pos e,if_pos (by omega)]
    unfold g2
    rw [← e]
    omega
   ·rw [if_neg e,if_neg (by omega)]
    omega
  rw [hc,pod_st h j1] at a
  rw [pod_st h j1] at b c
  have ep:podF (j::l) v=(if j.vi=v then j.ma else 0) + podF l v:=by simp [podF]
  rw [ep]
  simp only [plS]
  by_cases e:(v:Int)=j.vi
  ·rw [if_pos e] at a b c
   rw [if_pos e] at a
   rw [if_pos e.symm]
   omega
  ·rw [if_neg e] at a b c
   rw [if_neg e] at a
   rw [if_neg (Ne.symm e)]
   omega
theorem colS_pos {M V:Nat} {vs:List HVn} {G:List (List Int)} {P:List Int} (h:GrOk M V vs G P) {v:Nat} (hv:v < V):0≤colS G v:=by
 refine sum_pos fun x hx=>?_
 obtain ⟨r,hr,rfl⟩:=List.mem_map.1 hx
 obtain ⟨m,hm⟩:=List.getElem?_of_mem hr
 have hlt:m < M:=by have:=(List.getElem?_eq_some_iff.1 hm).1; rw [h.lenG] at this; exact this
 have:=h.pos m v hlt hv
 unfold g2 at this
 simpa [List.getD_eq_getElem?_getD,hm] using this
end Go.Sh
namespace Go.Proofs.Ytiokkkjahkhbfaa.walk
open Go Go.Sh
set_option maxRecDepth 100000
theorem least3 {P:Program} (ts:Array TypeId) (ty:TypeId) (k:IntKind) (a b c:Int) (w:AW):builtinA P w .min ts ty [.int k a,.int k b,.int k c]=.val (.int k (min a (min b c))) w:=by
 show vR w (leastB k a [.int k b,.int k c])=_
 unfold leastB
 simp only [sameK_refl,intLt_eq,cond_true]
 unfold leastB
 simp only [sameK_refl,intLt_eq,cond_true]
 have:=min3 a b c
 simp only [intLt_eq] at this
 rw [this]; rfl
section
variable {ov:Ov} {vs:List HVn} {hs:List HHd} {fs:List (List (Int × Int))} {vv hv fv tv pv:Value} {tr:List (List Int)} {l:List HJb}
structure T8 (t:Tm) (pv tv:Value) (X q q':Nat) (V:Nat) (lost wor fl:Int) (v:Nat):Prop where
 t1:tget t 1=pv
 t3:tget t 3=.pointer (some ⟨X,0,none⟩)
 t7:tget t 7=tv
 t8:tget t 8=.slice (some ⟨q,0,none⟩) V V
 t9:tget t 9=.int .i64 lost
 t11:tget t 11=.int .i64 wor
 t12:tget t 12=.slice (some ⟨q',0,none⟩) V V
 t15:tget t 15=.int .i64 fl
 t16:tget t 16=.int .i64 (v:Nat)
theorem loop8b (K:Nat) (A:AllOk vs hs fs tr l) {v:Nat} (hv:v < vs.length) (w:AW) (hT:Rows2 intC w tv tr) {X q q':Nat} {lost wor fl:Int} (t:Tm) (T:T8 t pv tv X q q' vs.length lost wor fl v) (t17:tget t 17=.int .i64 0) (t18:tget t 18=.int .i64 0) (Q:Ex→Tm→AW→Prop)
  (hQ:∀ t,T8 t pv tv X q q' vs.length lost wor fl v→tget t 17=.int .i64 (colS tr v)→Q (.exit 2) t w):wp (exM Try.prog (run Try.prog ov K) (.loop mc8_l1) t w) Q:=by
 have lt27:=fun w2=>len27V (w':=w2) hT
 have f6:=A.f6
 rw [A.trl] at lt27
 refine wp_rounds (fun i t w'=>w'=w∧T8 t pv tv X q q' vs.length lost wor fl v∧tget t 17=.int .i64 (colS (tr.take i) v)∧tget t 18=.int .i64 (i:Nat)∧i≤fs.length∧0≤colS (tr.take i) v∧colS (tr.take i) v≤1000 * i) 20 (by decide) ⟨rfl,T,by simpa [colS] using t17,by simpa using t18,Nat.zero_le _,by simp [colS],by simp [colS]⟩ ?_
 clear T t17 t18 t
 rintro i t w' ⟨rfl,T,t17,t18,hi,c1,c2⟩
 have T':=T
 obtain ⟨t1,t3,t7,t8,t9,t11,t12,t15,t16⟩:=T'
 by_cases hlt:i < fs.length
 ·obtain ⟨r,hr⟩:=lt_get (show i < tr.length by rw [A.trl]; exact hlt)
  have hrl:r.length=vs.length:=by
   have:=A.ok.lenR i hlt
   rwa [List.getD_eq_getElem?_getD,hr] at this
  obtain ⟨z,hz⟩:=lt_get (show v < r.length by omega)
  obtain ⟨pp,ra,rc,ir,lr,_,hrow⟩:=Rows2.get un27 sz42 hT rfl hr
  obtain ⟨pz,iz,_,lz,_⟩:=getR un42 sz3 intC_length hrow rfl hz
  have lz:=lz 0 _ rfl
  simp only [Nat.add_zero] at lz
  have bz:=A.tb i v
  rw [g2_get hr hz] at bz
  have etk:=colS_tk (v:=v) hr
  have ez:r.getD v 0=z:=by rw [List.getD_eq_getElem?_getD,hz]; rfl
  rw [ez] at etk
  have hlt':(i:Int) < (fs.length:Int):=by omega
  have hw1:IntKind.wrap .i64 ((i:Int) + 1)=(i:Int) + 1:=wrap64_in (by omega) (by omega)
  obtain ⟨S,hS⟩:∃ S,S=colS (tr.take i) v:=⟨_,rfl⟩
  rw [← hS] at t17 c1 c2 etk
  have hw2:IntKind.wrap .i64 (S + z)=S + z:=wrap64_in (by omega) (by omega)
  simp [mc8_l1,t7,t16,t17,t18,lt27,hlt,hlt',ir,lr,iz,lz,hw1,hw2]
  refine ⟨by omega,⟨by simp [t1],by simp [t3],by simp [t7],by simp [t8],by simp [t9],by simp [t11],by simp [t12],by simp [t15],by simp [t16]⟩,etk.symm,hlt,by omega,by push_cast; omega⟩
 ·have hi':i=fs.length:=by omega
  have e:tr.take i=tr:=List.take_of_length_le (by rw [A.trl]; omega)
  rw [e] at t17
  simp [mc8_l1,t7,t18,lt27,hi']
  exact hQ _ ⟨by simp [t1],by simp [t3],by simp [t7],by simp [t8],by simp [t9],by simp [t11],by simp [t12],by simp [t15],by simp [t16]⟩ (by simp [t17])
set_option maxHeartbeats 1000000 in
theorem loop8a (K:Nat) (h38:HasP ov 38 S38.F) (A:AllOk vs hs fs tr l) (w:AW) (hS:SeaV w vv hv fv vs hs fs) (hT:Rows2 intC w tv tr) {X q q':Nat} (gX:w.heap.get X=some (.cells [vv,hv,fv] 26 false)) (gq:w.heap.get q=some (.cells ((plS vs tr (P0 vs.length) l).2.flatMap intC) 3 false)) (gq':w.heap.get q'=some (.cells ((podL vs.length l).flatMap intC) 3 false)) {lost wor:Int} (t:Tm) (T:T8 t pv tv X q q' vs.length lost wor 0 0) (Q:Ex→Tm→AW→Prop)
  (hQ:∀ t,T8 t pv tv X q q' vs.length lost wor (flS tr vs.length) vs.length→Q (.exit 0) t w):wp (exM Try.prog (run Try.prog ov (K + 1)) (.loop mc8_l0) t w) Q:=by
 have v6:=A.v6
 have f6:=A.f6
 obtain ⟨o1,o2,o3⟩:=plS_ok A.ok A.jb
 have ck:=fun v hv=>col_keep A.ok A.jb v hv
 refine wp_rounds (fun i t w'=>w'=w∧T8 t pv tv X q q' vs.length lost wor (flS tr i) i∧i≤vs.length∧0≤flS tr i∧flS tr i≤10000 * i) 20 (by decide) ⟨rfl,by simpa [flS] using T,Nat.zero_le _,by simp [flS],by simp [flS]⟩ ?_
 clear T t
 rintro i t w' ⟨rfl,T,hi,c1,c2⟩
 have T':=T
 obtain ⟨t1,t3,t7,t8,t9,t11,t12,t15,t16⟩:=T'
 by_cases hlt:i < vs.length
 ·have hlt':(i:Int) < (vs.length:Int):=by omega
  have hw1:IntKind.wrap .i64 ((i:Int) + 1)=(i:Int) + 1:=wrap64_in (by omega) (by omega)
  simp [mc8_l0,t8,t16,hlt,hlt']
  refine wp_seqX (wp_blockX (wp_seqX (wp_blockX ?_)))
  refine loop8b (ov:=ov) (hs:=hs) (fs:=fs) (tr:=tr) (l:=l) (pv:=pv) (X:=X) (q:=q) (q':=q') (lost:=lost) (wor:=wor) (fl:=flS tr i) (K + 1) A hlt w' hT _ ⟨by simp [t1],by simp [t3],by simp [t7],by simp [t8],by simp [t9],by simp [t11],by simp [t12],by simp [t15],by simp [t16]⟩ (by simp) (by simp) _ ?_
  rintro t ⟨t1,t3,t7,t8,t9,t11,t12,t15,t16⟩ t17
  obtain ⟨v,hv⟩:=lt_get hlt
  obtain ⟨nv,nh,nf⟩:=hS.nj
  obtain ⟨p,iv,_,lv,_⟩:=getR un22 sz65 vnC_length hS.v rfl hv
  have lv:=lv 2 _ rfl
  obtain ⟨P,hP⟩:∃ P,P=(plS vs tr (P0 vs.length) l).2:=⟨_,rfl⟩
  have ck1:=ck i hlt
  rw [← hP] at gq ck1 o1
  rw [P0_get] at ck1
  obtain ⟨y,hy⟩:=lt_get (show i < P.length by rw [o1.lenP]; exact hlt)
  have hpd:=o1.podP i hlt
  rw [List.getD_eq_getElem?_getD,hy,beV_get hv] at hpd
  rw [List.getD_eq_getElem?_getD,hy] at ck1
  simp only [Option.getD_some] at hpd ck1
  have cp:=colS_pos o1 hlt
  have ax:=int_at hy
  have ay:=int_at (podL_at (V:=vs.length) l hlt)
  have i1:=fun w'=>ia42 w' ⟨q,0,none⟩ vs.length vs.length .i64 i hlt
  have i2:=fun w'=>ia42 w' ⟨q',0,none⟩ vs.length vs.length .i64 i hlt
  have cb:colS tr i≤6000:=by
   have:=sum_bdE (c:=1000) (L:=tr.map fun r=>r.getD i 0) fun z hz=>by
    obtain ⟨r,hr,rfl⟩:=List.mem_map.1 hz
    obtain ⟨m,hm⟩:=List.getElem?_of_mem hr
    have:=A.tb m i
    unfold g2 at this
    simpa [List.getD_eq_getElem?_getD,hm] using this
   rw [List.length_map,A.trl] at this
   unfold colS
   omega
  have cb0:=colS_pos A.ok hlt
  obtain ⟨C,hC⟩:∃ C,C=colS tr i:=⟨_,rfl⟩
  have efl:=flS_next tr i
  rw [← hC] at t17 ck1 cb cb0 efl
  obtain ⟨F,hF⟩:∃ F,F=flS tr i:=⟨_,rfl⟩
  rw [← hF] at t15 c1 c2 efl
  have hw2:IntKind.wrap .i64 (F + C)=F + C:=wrap64_in (by omega) (by omega)
  obtain ⟨va,vb,vc⟩:=v
  have lv:rd1O (w'.heap.get p.block) (p.off + 2)=some (.int .i64 vc):=lv
  simp only at hpd
  have r38:=S38.call (P:=Try.prog) h38 (m:=K) (w:=w') ⟨y,0,min (podF l (i:Nat)) (min C vc),rfl,rfl⟩
  have e38:inH 0 y (min (podF l (i:Nat)) (min C vc))=true:=by
   simp only [inH,Bool.and_eq_true,decide_eq_true_eq]
   omega
  rw [e38] at r38
  obtain ⟨D,hD⟩:∃ D,D=podF l (i:Nat):=⟨_,rfl⟩
  rw [← hD] at ay r38
  obtain ⟨ps,hps⟩:∃ ps,ps=P.flatMap intC:=⟨_,rfl⟩
  obtain ⟨qs,hqs⟩:∃ qs,qs=(podL vs.length l).flatMap intC:=⟨_,rfl⟩
  rw [← hps] at gq ax
  rw [← hqs] at gq' ay
  simp [t3,t7,t8,t12,t15,t16,t17,gX,gq,gq',nv,nh,nf,iv,lv,ax,ay,i1,i2,hw1,hw2,least3,r38]
  refine ⟨by omega,⟨by simp [t1],by simp [t3],by simp [t7],by simp [t8],by simp [t9],by simp [t11],by simp [t12],by simp [efl],by simp⟩,hlt,by omega,by push_cast; omega⟩
 ·have hi':i=vs.length:=by omega
  subst hi'
  simp [mc8_l0,t8,t16]
  exact hQ _ ⟨by simp [t1],by simp [t3],by simp [t7],by simp [t8],by simp [t9],by simp [t11],by simp [t12],by simp [t15],by simp [t16]⟩
end
section
variable {ov:Ov} {vs:List HVn} {hs:List HHd} {fs:List (List (Int × Int))} {vv hv fv pv bv:Value} {l:List HJb} {bits:List Int}
set_option maxHeartbeats 2000000 in
theorem call8 (m:Nat) (ho:∀ args w,ov 8 args w=none) (ho21:∀ args w,ov 21 args w=none) (ho35:∀ args w,ov 35 args w=none) (ho36:∀ args w,ov 36 args w=none) (ho58:∀ args w,ov 58 args w=none) (ho85:∀ args w,ov 85 args w=none) (hW:HasW ov) (h34:HasP ov 34 S34.F) (h19:HasP ov 19 S19.F) (h55:HasP ov 55 S55.F) (h81:HasP ov 81 S81.F) (h84:HasP ov 84 S84.F) (h37:HasP ov 37 S84.F) (h38:HasP ov 38 S38.F) (h70:HasP ov 70 S70.F) (h69:HasP ov 69 S69.F) (h68:HasP ov 68 S68.F)
  (w:AW) (hl:w.lim≤w.next) (hS:SeaV w vv hv fv vs hs fs) (hP:RowsV jbC w pv l) (hlen:l.length≤2 ^ 60) (hb:RowsV intC w bv bits) (hbits:bits.length≤2 ^ 60) :
  ∃ v w',(run Try.prog ov (m + 5)).call 8 [.agg ⟨[vv,hv,fv]⟩,pv,bv] w .none=.ok (.ret v) w' .none∧v=.bool true:=by
 refine call_wp text8 (by simp) (ho _ _) ?_
 obtain ⟨w1,hw1⟩:∃ w1:AW,w1=⟨w.heap.put w.next (some (.cells [vv,hv,fv] 26 false)),w.next + 1,w.lim⟩:=⟨_,rfl⟩
 have u1:Up w w1:=by rw [hw1]; exact (Up.refl w).add _
 have n1:w1.next=w.next + 1:=by rw [hw1]
 have g1:w1.heap.get w.next=some (.cells [vv,hv,fv] 26 false):=by rw [hw1]; simp
 obtain ⟨nv,nh,nf⟩:=hS.nj
 have pj:notJunk pv=some pv:=by obtain ⟨x,y,rfl⟩:=hP.len; rfl
 have bj:notJunk bv=some bv:=by obtain ⟨x,y,rfl⟩:=hb.len; rfl
 have sv:=same_rows hS.v
 have lt22:=fun w2=>len22V (w':=w2) hS.v
 have hS1:=hS.up u1
 have r34:=S34.call (P:=Try.prog) h34 (m:=m + 3) (w:=w1) ⟨vv,hv,fv,vs,hs,fs,rfl,hS1,rfl⟩
 have qW:=fun w=>ruleW hW (m + 3) w
 cases hB:seaB vs hs fs with
 | false =>
  rw [hB,hw1] at r34
  simp [mc8,cellsOf_agg,nv,nh,nf,pj,bj,r34,qW,tupV]
 | true =>
  rw [hB] at r34
  obtain ⟨vt,w2,c35,tr,hT,hTr,u2⟩:=call35 (ov:=ov) (m + 2) ho35 h69 h68 w1 (by rw [u1.lim]; have:=u1.next; omega) hS1 (hb.up u1) hbits hB
  have hu2:=u1.trans u2
  have tj:notJunk vt=some vt:=by obtain ⟨x,y,rfl⟩:=hT.len; rfl
  obtain ⟨v21,w3,c21,u3,e21⟩:=call21 (ov:=ov) (m + 1) ho21 h55 ho58 ho85 h81 h84 w2 (by rw [hu2.lim]; have:=hu2.next; omega) (hS.up hu2) hT (hP.up hu2)
  have hu3:=hu2.trans u3
  obtain ⟨v36,w4,c36,u4,e36⟩:=call36 (ov:=ov) (m + 2) ho36 h38 h70 l w3 (by rw [hu3.lim]; have:=hu3.next; omega) (hS.up hu3) (hP.up hu3) hlen hB
  have hu4:=hu3.trans u4
  have g2:w2.heap.get w.next=some (.cells [vv,hv,fv] 26 false):=(u2.at (by omega)).trans g1
  have g3:=(u3.at (show w.next < w2.next by have:=u2.next; omega)).trans g2
  have g4:=(u4.at (show w.next < w3.next by have:=u2.next; have:=u3.next; omega)).trans g3
  rw [hw1] at r34 c35
  rcases e21 with ⟨k,rfl⟩ | ⟨k,q,rfl,gq,nq,lq⟩
  ·have ek:chkP vs hs fs tr l=22:=by
    have:chkT vs hs fs tr=0:=chkT0.2 ⟨hB,hTr⟩
    unfold chkP at k ⊢
    rw [if_pos this] at k ⊢
    split at k
    ·exact absurd rfl k
    ·rename_i h; rw [if_neg h]
   rw [ek] at c21
   rcases e36 with ⟨_,rfl⟩ | ⟨_,q',g',cs,rfl,_⟩
   ·simp [mc8,cellsOf_agg,nv,nh,nf,pj,bj,r34,c35,tj]
    simp [g2,nv,nh,nf,tj,pj,c21]
    simp [g3,nv,nh,nf,pj,c36,qW,tupV]
   ·simp [mc8,cellsOf_agg,nv,nh,nf,pj,bj,r34,c35,tj]
    simp [g2,nv,nh,nf,tj,pj,c21]
    simp [g3,nv,nh,nf,pj,c36,qW,tupV]
  ·obtain ⟨k1,k2,k3⟩:=chkP0.1 k
   have A:=all_ok k1 k2 k3
   obtain ⟨o1,o2,o3⟩:=plS_ok A.ok A.jb
   have hda:∀ x ∈ hs,x.da≤1000∧0≤x.da∧0≤x.ra:=fun x hx=>by
    obtain ⟨_,_,_,_,_,_,b7,_⟩:=sea_parts hB
    have:=b7 x hx
    simp only [hhB,inH,Bool.and_eq_true,decide_eq_true_eq] at this
    omega
   have hsm:smG vs hs fs.length [] l=true:=by
    simp only [planB,Bool.and_eq_true] at k3
    exact plan_sm (fun x hx=>(hda x hx).1) (UseOk.nil fun x hx=>by have:=hda x hx; omega) k3.2
   rcases e36 with ⟨k',_⟩ | ⟨_,q',g',cs,rfl,gq',nq',hcl,hG,hjb,hU⟩
   ·rw [hsm] at k'; cases k'
   ·have gq4:=(u4.at nq).trans gq
    have hT4:=hT.up (u3.trans u4)
    simp [mc8,cellsOf_agg,nv,nh,nf,pj,bj,r34,c35,tj]
    simp [g2,nv,nh,nf,tj,pj,c21]
    simp [g3,nv,nh,nf,pj,c36]
    simp [g4,nv,nh,nf,lt22,sv]
    refine wp_seqX (wp_blockX ?_)
    refine loop8a (ov:=ov) (hs:=hs) (fs:=fs) (tr:=tr) (l:=l) (pv:=pv) (vv:=vv) (hv:=hv) (fv:=fv) (X:=w.next) (q:=q) (q':=q') (lost:=sumG (plS vs tr (P0 vs.length) l).1) (wor:=worS l) (m + 3) h38 A w4 (hS.up hu4) hT4 g4 gq4 gq' _ ⟨by simp,by simp,by simp,by simp,by simp,by simp,by simp,by simp,by simp⟩ _ ?_
    rintro t ⟨t1,t3,t7,t8,t9,t11,t12,t15,t16⟩
    have efl:flS tr vs.length=sumG tr:=cols_all fun r hr=>by
     obtain ⟨m,hm⟩:=List.getElem?_of_mem hr
     have hlt:m < fs.length:=by have:=(List.getElem?_eq_some_iff.1 hm).1; rw [A.trl] at this; exact this
     have:=A.ok.lenR m hlt
     rwa [List.getD_eq_getElem?_getD,hm] at this
    rw [efl] at t15
    have r19:=S19.call (P:=Try.prog) h19 (m:=m + 3) (w:=w4) ⟨vv,hv,fv,vt,pv,vs,hs,fs,tr,l,rfl,hS.up hu4,hT4,hP.up hu4,rfl⟩
    rw [k] at r19
    have r37:=S84.call (P:=Try.prog) h37 (m:=m + 3) (w:=w4) ⟨_,_,rfl,rows_q gq4 o1.lenP (Nat.lt_of_lt_of_le nq u4.next),by rw [o1.lenP]; have:=A.v6; omega,pods_bd o1 A.be,rfl⟩
    have efit:fitV vs hs fs tr l=decide ((plS vs tr (P0 vs.length) l).2.sum=worS l):=by
     have e:fitV vs hs fs tr l=fitG tr vs [] l:=by simp [fitV,k]
     rw [e,fits_eq A.ok A.jb]; rfl
    rw [P0_sum] at o3
    have b2:=sumG_bd A.ok (fun m v=>(A.tb m v).2) A.v6.1 A.f6.1 fs.length
    rw [List.take_of_length_le (by rw [A.trl]; exact Nat.le_refl _)] at b2
    have b1:=sumG_bd o1 (fun m v=>Int.le_trans (plS_le A.ok A.jb m v) (A.tb m v).2) A.v6.1 A.f6.1 fs.length
    rw [List.take_of_length_le (by rw [o1.lenG]; exact Nat.le_refl _)] at b1
    obtain ⟨S,hSe⟩:∃ S,S=(plS vs tr (P0 vs.length) l).2.sum:=⟨_,rfl⟩
    rw [← hSe] at r37 o3 efit
    obtain ⟨F,hFe⟩:∃ F,F=sumG tr:=⟨_,rfl⟩
    rw [← hFe] at o3 t15 b2
    obtain ⟨G,hGe⟩:∃ G,G=sumG (plS vs tr (P0 vs.length) l).1:=⟨_,rfl⟩
    rw [← hGe] at o3 t9 b1
    have hw2:IntKind.wrap .i64 (F - S)=G:=by rw [wrap64_in (by omega) (by omega)]; omega
    rw [efit] at r19
    by_cases hfw:S=worS l
    ·rw [decide_eq_true hfw] at r19
     simp [t1,t3,t7,t8,t9,t11,t15,g4,nv,nh,nf,tj,pj,r19,r37,hfw.symm,hw2,qW,tupV]
    ·rw [decide_eq_false hfw] at r19
     simp [t1,t3,t7,t8,t9,t11,t15,g4,nv,nh,nf,tj,pj,r19,r37,hfw,hw2,qW,tupV]
end
noncomputable def noOv:Ov:=fun _ _ _=>none
def seasonA:List Value:=[.agg ⟨[.slice (some ⟨147,0,some 2⟩) 2 2,.slice (some ⟨148,0,some 2⟩) 2 2,.slice (some ⟨155,0,some 2⟩) 2 2]⟩]
def seasonL:List LaidV:=[(147,[.int .i64 0,.int .i64 2,.int .i64 10,.int .i64 1,.int .i64 3,.int .i64 6],65),(148,[.int .i64 3,.int .i64 0,.int .i64 3,.int .i64 3,.int .i64 8,.int .i64 2,.int .i64 2,.int .i64 2,.int .i64 4,.int .i64 10],77),(151,[.int .i64 4,.int .i64 6,.int .i64 5,.int .i64 5],34),(154,[.int .i64 5,.int .i64 8,.int .i64 3,.int .i64 4],34),(155,[.slice (some ⟨151,0,some 2⟩) 2 2,.slice (some ⟨154,0,some 2⟩) 2 2],69)]
def mostV:Value:=.tuple ⟨[.agg ⟨[.int .i64 15,.int .i64 16]⟩,.int .i64 0]⟩
def asI (v:Value):Option Int:=match v with | .int k n=>(match k with | .i64=>some n | _=>none) | _=>none
theorem asI_some {v:Value} {n:Int} (h:asI v=some n):v=.int .i64 n:=by
 unfold asI at h
 split at h
 ·split at h
  ·cases h; rfl
  ·cases h
 ·cases h
def parseR {α:Type} (one:List Value→Option α) (m:Nat):Nat→List Value→Option (List α)
 | 0,l=>match l with | []=>some [] | _=>none
 | n + 1,l=>match one (l.take m) with
  | some x=>match parseR one m n (l.drop m) with
   | some r=>some (x::r)
   | none=>none
  | none=>none
theorem parseR_some {α:Type} {one:List Value→Option α} {m:Nat} {f:α→List Value} (hf:∀ l x,one l=some x→l=f x):∀ {n:Nat} {l:List Value} {L:List α},parseR one m n l=some L→l=L.flatMap f∧L.length=n
 | 0,l,L,h=>by
  unfold parseR at h
  split at h
  ·cases h; exact ⟨rfl,rfl⟩
  ·cases h
 | n + 1,l,L,h=>by
  unfold parseR at h
  cases h1:one (l.take m) with
  | none=>rw [h1] at h; cases h
  | some x =>
   rw [h1] at h
   simp only at h
   cases h2:parseR one m n (l.drop m) with
   | none=>rw [h2] at h; cases h
   | some r =>
    rw [h2] at h
    cases h
    obtain ⟨e1,e2⟩:=parseR_some hf h2
    refine ⟨?_,by simp [e2]⟩
    rw [List.flatMap_cons,← hf _ _ h1,← e1,List.take_append_drop]
noncomputable def rowR {α:Type} (one:List Value→Option α) (m:Nat) (w:AW) (v:Value):Option (List α):=match v with
 | .slice base n _=>match base with
  | some a=>bif Nat.blt a.block w.next then (match rd w a.block a.off (n * m) with
   | some cs=>parseR one m n cs
   | none=>none) else none
  | none=>none
 | _=>none
theorem rowR_some {α:Type} {one:List Value→Option α} {m:Nat} {f:α→List Value} (hf:∀ l x,one l=some x→l=f x) {w:AW} {v:Value} {L:List α} (h:rowR one m w v=some L):RowsV f w v L:=by
 unfold rowR at h
 split at h
 ·rename_i base n c
  split at h
  ·rename_i a
   cases hb:Nat.blt a.block w.next with
   | false=>rw [hb] at h; cases h
   | true =>
    rw [hb,cond_true] at h
    have hlt:a.block < w.next:=by simpa [Nat.blt_eq] using hb
    rw [rd_eq] at h
    split at h
    ·rename_i cs hcs
     obtain ⟨e1,e2⟩:=parseR_some hf h
     subst e2
     refine .inr ⟨a.block,a.off,a.spot,c,rfl,?_,hlt⟩
     unfold rdO at hcs
     cases hg:w.heap.get a.block with
     | none=>rw [hg] at hcs; cases hcs
     | some o =>
      rw [hg] at hcs
      cases o with
      | cells cl e ro =>
       simp only [cellsO_some,Option.bind_some] at hcs
       by_cases hf:a.off + L.length * m≤cl.length
       ·rw [if_pos hf] at hcs
        cases hcs
        refine ⟨cl.take a.off,cl.drop (a.off + L.length * m),e,ro,?_,by rw [List.length_take]; omega⟩
        rw [← e1]
        congr 2
        rw [← List.drop_drop,List.take_append_drop,List.take_append_drop]
       ·rw [if_neg hf] at hcs; cases hcs
      | _=>cases hcs
    ·cases h
  ·cases h
 ·cases h
def oneI (l:List Value):Option Int:=match l with | [a]=>asI a | _=>none
theorem oneI_some (l:List Value) (x:Int) (h:oneI l=some x):l=intC x:=by
 unfold oneI at h
 split at h
 ·rw [asI_some h]; rfl
 ·cases h
noncomputable def F81c (args:List Value) (w:AW):Option Value:=match args with
 | [a,v]=>match asI a with
  | some n=>match rowR oneI 1 w v with
   | some L=>bif Nat.ble L.length 10 then some (.int .i64 (L.foldl min n)) else none
   | none=>none
  | none=>none
 | _=>none
theorem F81c_some {args:List Value} {w:AW} {v:Value} (h:F81c args w=some v):S81.R args w v:=by
 unfold F81c at h
 split at h
 ·rename_i a v
  split at h
  ·rename_i n hn
   split at h
   ·rename_i L hL
    cases hb:Nat.ble L.length 10 with
    | false=>rw [hb] at h; cases h
    | true =>
     rw [hb,cond_true] at h
     cases h
     rw [asI_some hn]
     exact ⟨n,v,L,rfl,rowR_some oneI_some hL,by simpa [Nat.ble_eq] using hb,rfl⟩
   ·cases h
  ·cases h
 ·cases h
noncomputable def pureOv:Ov:=ovP 81 F81c noOv
end Go.Proofs.Ytiokkkjahkhbfaa.walk
