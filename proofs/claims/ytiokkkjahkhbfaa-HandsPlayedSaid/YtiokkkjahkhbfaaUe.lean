/- Part of a proof: see the text with the theorem. -/
import Derived.Test.YtiokkkjahkhbfaaUd
set_option linter.all false
namespace Go.Proofs.Ytiokkkjahkhbfaa.walk
open Go Go.Sh
set_option maxRecDepth 100000
noncomputable def mc58_l1_b2:MC:=.seq (.ops [⟨true,none,some 68,27,.move (.tmp 8)⟩,⟨true,none,some 69,0,.fieldAddr 67 (.tmp 12) 0⟩,⟨true,none,some 70,3,.load 3 (.tmp 69)⟩,⟨true,none,some 71,0,.indexAddr 27 (.tmp 68) (.tmp 70)⟩,⟨true,none,some 72,42,.load 42 (.tmp 71)⟩,⟨true,none,some 73,0,.fieldAddr 67 (.tmp 12) 3⟩,⟨true,none,some 74,3,.load 3 (.tmp 73)⟩,⟨true,none,some 75,0,.indexAddr 42 (.tmp 72) (.tmp 74)⟩,⟨true,none,some 76,3,.load 3 (.tmp 75)⟩,⟨true,none,some 77,3,.move (.tmp 13)⟩,⟨true,none,some 78,3,.binOp .sub 3 (.tmp 76) (.tmp 77) 3⟩,⟨true,none,some 79,0,.indexAddr 42 (.tmp 72) (.tmp 74)⟩,⟨false,none,none,0,.store 3 (.tmp 79) (.tmp 78)⟩]) (.ops [⟨false,none,some 80,42,.move (.tmp 6)⟩,⟨false,none,some 81,0,.fieldAddr 67 (.tmp 12) 3⟩,⟨false,none,some 82,3,.load 3 (.tmp 81)⟩,⟨false,none,some 83,0,.indexAddr 42 (.tmp 80) (.tmp 82)⟩,⟨false,none,some 84,3,.load 3 (.tmp 83)⟩,⟨false,none,some 85,3,.move (.tmp 13)⟩,⟨false,none,some 86,3,.binOp .add 3 (.tmp 84) (.tmp 85) 3⟩,⟨false,none,some 87,0,.indexAddr 42 (.tmp 80) (.tmp 82)⟩,⟨false,none,none,0,.store 3 (.tmp 87) (.tmp 86)⟩])
noncomputable def mc58_l1_b1:MC:=.seq (.seq (.ops [⟨true,none,some 42,0,.fieldAddr 67 (.tmp 12) 4⟩]) (.seq (.ops [⟨true,none,some 43,3,.load 3 (.tmp 42)⟩]) (.seq (.ops [⟨true,none,some 44,27,.move (.tmp 8)⟩]) (.seq (.ops [⟨true,none,some 45,0,.fieldAddr 67 (.tmp 12) 0⟩]) (.seq (.ops [⟨true,none,some 46,3,.load 3 (.tmp 45)⟩]) (.seq (.ops [⟨true,none,some 47,0,.indexAddr 27 (.tmp 44) (.tmp 46)⟩]) (.seq (.ops [⟨true,none,some 48,42,.load 42 (.tmp 47)⟩]) (.seq (.ops [⟨true,none,some 49,0,.fieldAddr 67 (.tmp 12) 3⟩]) (.seq (.ops [⟨true,none,some 50,3,.load 3 (.tmp 49)⟩]) (.seq (.ops [⟨true,none,some 51,0,.indexAddr 42 (.tmp 48) (.tmp 50)⟩]) (.seq (.ops [⟨true,none,some 52,3,.load 3 (.tmp 51)⟩]) (.seq (.ops [⟨true,none,some 53,0,.fieldAddr 26 (.tmp 3) 0⟩]) (.seq (.ops [⟨true,none,some 54,22,.load 22 (.tmp 53)⟩]) (.seq (.ops [⟨true,none,some 55,0,.fieldAddr 67 (.tmp 12) 3⟩]) (.seq (.ops [⟨true,none,some 56,3,.load 3 (.tmp 55)⟩]) (.seq (.ops [⟨true,none,some 57,0,.indexAddr 22 (.tmp 54) (.tmp 56)⟩]) (.seq (.ops [⟨true,none,some 58,0,.fieldAddr 65 (.tmp 57) 2⟩]) (.seq (.ops [⟨true,none,some 59,3,.load 3 (.tmp 58)⟩]) (.seq (.ops [⟨true,none,some 60,42,.move (.tmp 6)⟩]) (.seq (.ops [⟨true,none,some 61,0,.fieldAddr 67 (.tmp 12) 3⟩]) (.seq (.ops [⟨true,none,some 62,3,.load 3 (.tmp 61)⟩]) (.seq (.ops [⟨true,none,some 63,0,.indexAddr 42 (.tmp 60) (.tmp 62)⟩]) (.seq (.ops [⟨true,none,some 64,3,.load 3 (.tmp 63)⟩]) (.seq (.ops [⟨true,none,some 65,3,.binOp .sub 3 (.tmp 59) (.tmp 64) 3⟩]) (.seq (.ops [⟨true,none,some 66,42,.buildSlice 42 2 #[(0,.tmp 52),(1,.tmp 65)]⟩]) (.seq (.chk [⟨true,none,some 64,3,.load 3 (.tmp 63)⟩,⟨true,none,some 62,3,.load 3 (.tmp 61)⟩,⟨true,none,some 59,3,.load 3 (.tmp 58)⟩,⟨true,none,some 56,3,.load 3 (.tmp 55)⟩,⟨true,none,some 54,22,.load 22 (.tmp 53)⟩,⟨true,none,some 52,3,.load 3 (.tmp 51)⟩,⟨true,none,some 50,3,.load 3 (.tmp 49)⟩,⟨true,none,some 48,42,.load 42 (.tmp 47)⟩,⟨true,none,some 46,3,.load 3 (.tmp 45)⟩,⟨true,none,some 43,3,.load 3 (.tmp 42)⟩]) (.seq (.ops [⟨false,none,some 67,3,.call ⟨.value (.func 81),#[.tmp 43,.tmp 66],#[3,42]⟩⟩]) (.seq (.ops [⟨true,none,some 13,3,.assign (.tmp 67)⟩]) (.chk []))))))))))))))))))))))))))))) mc58_l1_b2
theorem mc58_l1_eq:mc58_l1=.seq (.ops [⟨false,none,some 39,0,.binOp .lss 3 (.tmp 38) (.tmp 37) 3⟩]) (.seq (.cond (.tmp 39) (.skip) (.exit 2)) (.seq (.block 3 (.seq (.ops [⟨false,none,some 40,0,.indexAddr 39 (.tmp 36) (.tmp 38)⟩,⟨false,none,some 41,67,.load 67 (.tmp 40)⟩,⟨false,none,some 12,0,.alloc 67⟩,⟨false,none,none,0,.store 67 (.tmp 12) (.tmp 41)⟩]) mc58_l1_b1)) (.ops [⟨false,none,some 88,3,.binOp .add 3 (.tmp 38) (.const (.int .i64 1)) 3⟩,⟨false,none,some 38,3,.move (.tmp 88)⟩]))):=rfl
section
variable {ov:Ov} {vs:List HVn} {hs:List HHd} {fs:List (List (Int × Int))} {vv hv fv:Value}
structure JobAt (w:AW) (V g M q X J:Nat) (vv hv fv:Value) (cs:List Nat) (G:List (List Int)) (P:List Int) (vs:List HVn) (m k c:Nat) (r:List Int) (x y:Int) (v:HVn):Prop where
 hm:m < M
 hk:k < V
 hc:cs[m]?=some c
 hr:G[m]?=some r
 hx:r[k]?=some x
 hy:P[k]?=some y
 hvk:vs[k]?=some v
 gX:w.heap.get X=some (.cells [vv,hv,fv] 26 false)
 gq:w.heap.get q=some (.cells (P.flatMap intC) 3 false)
 nX:X < w.next
 nq:q < w.next
 nJ:J < w.next
set_option maxHeartbeats 2000000 in
theorem part58a (K:Nat) (h81:HasP ov 81 S81.F) {n0 V g M q X J:Nat} {cs:List Nat} {G:List (List Int)} {P:List Int} {m k c:Nat} {r:List Int} {x y:Int} {v:HVn} (o h ma:Int) (w:AW) (hlen:cs.length=M) (hGl:G.length=M) (hle:w.lim≤w.next) (hG:GrV n0 w V g M cs G) (A:JobAt w V g M q X J vv hv fv cs G P vs m k c r x y v) (gJ:w.heap.get J=some (.cells (jbC ⟨m,o,h,k,ma⟩) 67 false)) (hS:SeaV w vv hv fv vs hs fs) (hb : -10000≤v.be - y∧v.be - y≤10000)
  (v1 v2 v7 v36 v37 v38:Value) (t:Tm) (t1:tget t 1=v1) (t2:tget t 2=v2) (t3:tget t 3=.pointer (some ⟨X,0,none⟩)) (t6:tget t 6=.slice (some ⟨q,0,none⟩) V V) (t7:tget t 7=v7) (t8:tget t 8=.slice (some ⟨g,0,none⟩) M M) (t12:tget t 12=.pointer (some ⟨J,0,none⟩)) (t36:tget t 36=v36) (t37:tget t 37=v37) (t38:tget t 38=v38) (Q:Ex→Tm→AW→Prop)
  (hQ:∀ t w',Up w w'→tget t 13=.int .i64 (min (min ma x) (v.be - y))→tget t 1=v1→tget t 2=v2→tget t 3=.pointer (some ⟨X,0,none⟩)→tget t 6=.slice (some ⟨q,0,none⟩) V V→tget t 7=v7→tget t 8=.slice (some ⟨g,0,none⟩) M M→tget t 12=.pointer (some ⟨J,0,none⟩)→tget t 36=v36→tget t 37=v37→tget t 38=v38→wp (exM Try.prog (run Try.prog ov (K + 1)) mc58_l1_b2 t w') Q):wp (exM Try.prog (run Try.prog ov (K + 1)) mc58_l1_b1 t w) Q:=by
 obtain ⟨hm,hk,hc,hr,hx,hy,hvk,gX,gq,nX,nq,nJ⟩:=A
 obtain ⟨nv,nh,nf⟩:=hS.nj
 have sv:=same_rows hS.v
 obtain ⟨gc,c1,c2,c3⟩:=hG.at_ m c r hc hr
 have gg:=hG.gg
 have ng:=hG.ghi
 have ax:=int_at hx
 have ay:=int_at hy
 have ac:(cs.map (slV V)++List.replicate (M - cs.length) nilS)[m]?=some (.slice (some ⟨c,0,none⟩) V V):=by
  rw [List.getElem?_append_left (by rw [List.length_map]; omega),List.getElem?_map,hc]; rfl
 obtain ⟨os,hos⟩:∃ os,os=cs.map (slV V)++List.replicate (M - cs.length) nilS:=⟨_,rfl⟩
 obtain ⟨rs,hrs⟩:∃ rs,rs=r.flatMap intC:=⟨_,rfl⟩
 obtain ⟨ps,hps⟩:∃ ps,ps=P.flatMap intC:=⟨_,rfl⟩
 rw [← hos] at gg ac
 rw [← hrs] at gc ax
 rw [← hps] at gq ay
 have i1:=fun w'=>ia27 w' ⟨g,0,none⟩ M M .i64 m hm
 have i2:=fun w'=>ia42 w' ⟨c,0,none⟩ V V .i64 k hk
 have i3:=fun w'=>ia42 w' ⟨q,0,none⟩ V V .i64 k hk
 obtain ⟨p,iv,_,lv,nv'⟩:=getR un22 sz65 vnC_length hS.v rfl hvk
 have lv:=lv 2 _ rfl
 have e1:¬ g=w.next:=by omega
 have e2:¬ c=w.next:=by omega
 have e3:¬ q=w.next:=by omega
 have e4:¬ X=w.next:=by omega
 have e5:¬ J=w.next:=by omega
 have e6:¬ p.block=w.next:=by omega
 have hw:IntKind.wrap .i64 (v.be - y)=v.be - y:=wrap64_in (by omega) (by omega)
 obtain ⟨w1,hw1⟩:∃ w1:AW,w1=⟨w.heap.put w.next (some (.cells [.int .i64 x,.int .i64 (v.be - y)] 3 false)),w.next + 1,w.lim⟩:=⟨_,rfl⟩
 have u1:Up w w1:=by rw [hw1]; exact (Up.refl w).add _
 have g1:w1.heap.get w.next=some (.cells [.int .i64 x,.int .i64 (v.be - y)] 3 false):=by rw [hw1]; simp
 have n1:w1.next=w.next + 1:=by rw [hw1]
 have r81:=S81.call (P:=Try.prog) h81 (m:=K) (w:=w1) ⟨ma,.slice (some ⟨w.next,0,some 2⟩) 2 2,[x,v.be - y],rfl,.inr ⟨w.next,0,some 2,2,rfl,⟨[],[],3,false,by rw [g1]; rfl,rfl⟩,by omega⟩,by simp,rfl⟩
 have ef:[x,v.be - y].foldl min ma=min (min ma x) (v.be - y):=rfl
 rw [ef] at r81
 obtain ⟨va,vb,vc⟩:=v
 have lv:rd1O (w.heap.get p.block) (p.off + 2)=some (.int .i64 vc):=lv
 simp only at hw hw1 r81 hQ
 simp only [jbC] at gJ
 rw [hw1] at r81 u1
 simp [mc58_l1_b1,t3,t6,t8,t12,gJ,gX,gg,gc,gq,e1,e2,e3,e4,e5,e6,nv,nh,nf,sv,i1,i2,i3,iv,lv,ac,ax,ay,hw,r81]
 exact hQ _ _ u1 (by simp) (by simp [t1]) (by simp [t2]) (by simp [t3]) (by simp [t6]) (by simp [t7]) (by simp [t8]) (by simp [t12]) (by simp [t36]) (by simp [t37]) (by simp [t38])
theorem stG_eq {G:List (List Int)} {m k:Nat} {r:List Int} {x:Int} (hr:G[m]?=some r) (hx:r[k]?=some x) (j:HJb) (e1:j.mo=m) (e2:j.vi=k) (n:Int):stG G j n=G.set m (r.set k (x - n)):=by
 unfold stG g2
 rw [e1,e2]
 simp [List.getD_eq_getElem?_getD,hr,hx]
theorem stP_eq {P:List Int} {k:Nat} {y:Int} (hy:P[k]?=some y) (j:HJb) (e2:j.vi=k) (n:Int):stP P j n=P.set k (y + n):=by
 unfold stP
 rw [e2]
 simp [List.getD_eq_getElem?_getD,hy]
set_option maxHeartbeats 2000000 in
theorem part58b (K:Nat) {n0 V g M q X J:Nat} {cs:List Nat} {G:List (List Int)} {P:List Int} {m k c:Nat} {r:List Int} {x y:Int} {v:HVn} (o h ma n:Int) (w:AW) (hlen:cs.length=M) (hGl:G.length=M) (hG:GrV n0 w V g M cs G) (A:JobAt w V g M q X J vv hv fv cs G P vs m k c r x y v) (gJ:w.heap.get J=some (.cells (jbC ⟨m,o,h,k,ma⟩) 67 false)) (hrV:r.length=V) (hPV:P.length=V) (hqc:∀ (m c:Nat),cs[m]?=some c→c ≠ q) (hqg:q ≠ g) (hJc:∀ (m c:Nat),cs[m]?=some c→c ≠ J) (hJq:J ≠ q) (hl0:w.lim≤n0) (hq0:n0≤q) (bx : -10000≤x - n∧x - n≤10000) (bY : -10000≤y + n∧y + n≤10000)
  (v1 v2 v7 v36 v37 v38:Value) (t:Tm) (t1:tget t 1=v1) (t2:tget t 2=v2) (t3:tget t 3=.pointer (some ⟨X,0,none⟩)) (t6:tget t 6=.slice (some ⟨q,0,none⟩) V V) (t7:tget t 7=v7) (t8:tget t 8=.slice (some ⟨g,0,none⟩) M M) (t12:tget t 12=.pointer (some ⟨J,0,none⟩)) (t13:tget t 13=.int .i64 n) (t36:tget t 36=v36) (t37:tget t 37=v37) (t38:tget t 38=v38) (Q:Ex→Tm→AW→Prop)
  (hQ:∀ t w',(∀ b,b < n0→w'.heap.get b=w.heap.get b)→w'.next=w.next→w'.lim=w.lim→GrV n0 w' V g M cs (G.set m (r.set k (x - n)))→w'.heap.get q=some (.cells ((P.set k (y + n)).flatMap intC) 3 false)→(∀ b,b ≠ q→b ≠ c→w'.heap.get b=w.heap.get b)→tget t 1=v1→tget t 2=v2→tget t 3=.pointer (some ⟨X,0,none⟩)→tget t 6=.slice (some ⟨q,0,none⟩) V V→tget t 7=v7→tget t 8=.slice (some ⟨g,0,none⟩) M M→tget t 36=v36→tget t 37=v37→tget t 38=v38→Q .normal t w'):wp (exM Try.prog (run Try.prog ov (K + 1)) mc58_l1_b2 t w) Q:=by
 obtain ⟨hm,hk,hc,hr,hx,hy,hvk,gX,gq,nX,nq,nJ⟩:=A
 obtain ⟨gc,c1,c2,c3⟩:=hG.at_ m c r hc hr
 have gg:=hG.gg
 have ng:=hG.ghi
 have ax:=int_at hx
 have ay:=int_at hy
 have f1:k + 1≤(r.flatMap intC).length:=by rw [int_len]; omega
 have f2:k + 1≤(P.flatMap intC).length:=by rw [int_len]; omega
 have s1:=int_set r k (x - n) (by omega)
 have s2:=int_set P k (y + n) (by omega)
 have ac:(cs.map (slV V)++List.replicate (M - cs.length) nilS)[m]?=some (.slice (some ⟨c,0,none⟩) V V):=by
  rw [List.getElem?_append_left (by rw [List.length_map]; omega),List.getElem?_map,hc]; rfl
 have gg0:=gg
 obtain ⟨os,hos⟩:∃ os,os=cs.map (slV V)++List.replicate (M - cs.length) nilS:=⟨_,rfl⟩
 obtain ⟨rs,hrs⟩:∃ rs,rs=r.flatMap intC:=⟨_,rfl⟩
 obtain ⟨ps,hps⟩:∃ ps,ps=P.flatMap intC:=⟨_,rfl⟩
 rw [← hos] at gg ac
 rw [← hrs] at gc ax f1 s1
 rw [← hps] at gq ay f2 s2
 have i1:=fun w'=>ia27 w' ⟨g,0,none⟩ M M .i64 m hm
 have i2:=fun w'=>ia42 w' ⟨c,0,none⟩ V V .i64 k hk
 have i3:=fun w'=>ia42 w' ⟨q,0,none⟩ V V .i64 k hk
 have w1:IntKind.wrap .i64 (x - n)=x - n:=wrap64_in (by omega) (by omega)
 have w2:IntKind.wrap .i64 (y + n)=y + n:=wrap64_in (by omega) (by omega)
 have hcq:=hqc m c hc
 have e1:¬ c=q:=hcq
 have e2:¬ q=c:=fun e=>hcq e.symm
 have e3:¬ J=c:=fun e=>hJc m c hc e.symm
 have e4:¬ J=q:=hJq
 have e5:¬ g=c:=fun e=>c3 e.symm
 have lc:w.lim≤c:=by omega
 have lq:w.lim≤q:=by omega
 simp only [jbC] at gJ
 simp [mc58_l1_b2,t3,t6,t8,t12,t13,gJ,gg,gc,gq,e1,e2,e3,e4,e5,i1,i2,i3,ac,ax,ay,w1,w2,f1,f2,lc,lq]
 refine hQ _ _ ?_ ?_ ?_ ⟨?_,?_,hG.inj,hG.glo,hG.ghi⟩ ?_ ?_ (by simp [t1]) (by simp [t2]) (by simp [t3]) (by simp [t6]) (by simp [t7]) (by simp [t8]) (by simp [t36]) (by simp [t37]) (by simp [t38])
 ·intro b hb
  have a1:¬ b=q:=by omega
  have a2:¬ b=c:=by omega
  simp [a1,a2]
 ·rfl
 ·rfl
 ·have a1:¬ g=q:=fun e=>hqg e.symm
  simp [a1,e5]
  exact gg0
 ·intro m' c' r' hc' hr'
  have hq':=hqc m' c' hc'
  by_cases e:m'=m
  ·subst e
   rw [hc] at hc'; cases hc'
   rw [List.getElem?_set,if_pos rfl,if_pos (by omega)] at hr'
   cases hr'
   exact ⟨by simp [hq',s1],c1,c2,c3⟩
  ·rw [List.getElem?_set,if_neg (Ne.symm e)] at hr'
   obtain ⟨a,b,d,f⟩:=hG.at_ m' c' r' hc' hr'
   have hcc:¬ c'=c:=fun e2=>e (hG.inj m' m c' hc' (by rw [hc,e2]))
   exact ⟨by simp [hq',hcc,a],b,d,f⟩
 ·simp [s2]
 ·intro b b1 b2
  simp [b1,b2]
end
theorem tru_parts {vs:List HVn} {hs:List HHd} {fs:List (List (Int × Int))} {tr:List (List Int)} (hB:seaB vs hs fs=true) (h:truB vs.length tr fs=true):tr.length=fs.length∧(∀ r ∈ tr,r.length=vs.length)∧∀ m v:Nat,0≤g2 tr m v∧g2 tr m v≤1000:=by
 obtain ⟨b1,b2,b3,b4,b5,b6,b7,b8⟩:=sea_parts hB
 simp only [truB,Bool.and_eq_true,decide_eq_true_eq,List.all_eq_true] at h
 obtain ⟨hl,ha⟩:=h
 have row:∀ (m:Nat) r,tr[m]?=some r→∃ f,fs[m]?=some f∧r.length=vs.length∧f.length=vs.length∧(∀ p ∈ r.zip f,inP p=true)∧∀ s ∈ f,spB s=true:=fun m r hr=>by
  obtain ⟨f,hf⟩:=lt_get (show m < fs.length by have:=(List.getElem?_eq_some_iff.1 hr).1; omega)
  have:=ha _ (List.mem_of_getElem? (zip_get hr hf))
  simp only [rowT,Bool.and_eq_true,decide_eq_true_eq,List.all_eq_true] at this
  have h8:=b8 f (List.mem_of_getElem? hf)
  simp only [rowB,Bool.and_eq_true,decide_eq_true_eq,List.all_eq_true] at h8
  exact ⟨f,hf,this.1,h8.1,this.2,h8.2⟩
 refine ⟨hl,fun r hr=>?_,fun m v=>?_⟩
 ·obtain ⟨m,hm⟩:=List.getElem?_of_mem hr
  obtain ⟨f,_,e,_⟩:=row m r hm
  exact e
 ·unfold g2
  simp only [Int.toNat_natCast,List.getD_eq_getElem?_getD]
  cases hm:tr[m]? with
  | none=>simp
  | some r =>
   obtain ⟨f,hf,e1,e2,e3,e4⟩:=row m r hm
   simp only [Option.getD_some]
   cases hv:r[v]? with
   | none=>simp
   | some z =>
    obtain ⟨s,hs'⟩:=lt_get (show v < f.length by have:=(List.getElem?_eq_some_iff.1 hv).1; omega)
    have k1:=e3 _ (List.mem_of_getElem? (zip_get hv hs'))
    have k2:=e4 s (List.mem_of_getElem? hs')
    simp only [inP,spB,inH,Bool.and_eq_true,decide_eq_true_eq] at k1 k2
    simp only [Option.getD_some]
    omega
section
variable {ov:Ov} {vs:List HVn} {hs:List HHd} {fs:List (List (Int × Int))} {vv hv fv pv:Value} {w0:AW} {l:List HJb} {tr:List (List Int)}
set_option maxHeartbeats 1000000 in
theorem loop58b (K:Nat) (h81:HasP ov 81 S81.F) (hS:SeaV w0 vv hv fv vs hs fs) (hP:RowsV jbC w0 pv l) {V M nh X g q:Nat} (hX:X < w0.next) (gX:w0.heap.get X=some (.cells [vv,hv,fv] 26 false)) (hl0:w0.lim≤w0.next) (hj:∀ j ∈ l,jobB V nh M j=true∧1≤j.ma) (hlen:l.length≤2048) (hOk:GrOk M V vs tr (P0 V)) (htr:∀ m v:Nat,g2 tr m v≤1000) (hbe:∀ v ∈ vs,v.be≤1000) (cs:List Nat) (hcl:cs.length=M) (w:AW) (hu:Up w0 w) (hG:GrV w0.next w V g M cs tr) (gq:w.heap.get q=some (.cells ((P0 V).flatMap intC) 3 false)) (nq:q < w.next) (hq0:w0.next≤q) (hqc:∀ (m c:Nat),cs[m]?=some c→c ≠ q) (hqg:q ≠ g)
  (v1 v2 v7:Value) (t:Tm) (t1:tget t 1=v1) (t2:tget t 2=v2) (t3:tget t 3=.pointer (some ⟨X,0,none⟩)) (t6:tget t 6=.slice (some ⟨q,0,none⟩) V V) (t7:tget t 7=v7) (t8:tget t 8=.slice (some ⟨g,0,none⟩) M M) (t36:tget t 36=pv) (t37:tget t 37=.int .i64 (l.length:Nat)) (t38:tget t 38=.int .i64 0) (Q:Ex→Tm→AW→Prop)
  (hQ:∀ t w',Up w0 w'→GrV w0.next w' V g M cs (plS vs tr (P0 V) l).1→w'.heap.get q=some (.cells ((plS vs tr (P0 V) l).2.flatMap intC) 3 false)→q < w'.next→tget t 1=v1→tget t 2=v2→tget t 3=.pointer (some ⟨X,0,none⟩)→tget t 6=.slice (some ⟨q,0,none⟩) V V→tget t 7=v7→tget t 8=.slice (some ⟨g,0,none⟩) M M→Q (.exit 2) t w'):wp (exM Try.prog (run Try.prog ov (K + 1)) (.loop mc58_l1) t w) Q:=by
 refine wp_rounds (fun i t w'=>Up w0 w'∧GrV w0.next w' V g M cs (plS vs tr (P0 V) (l.take i)).1∧w'.heap.get q=some (.cells ((plS vs tr (P0 V) (l.take i)).2.flatMap intC) 3 false)∧q < w'.next∧tget t 1=v1∧tget t 2=v2∧tget t 3=.pointer (some ⟨X,0,none⟩)∧tget t 6=.slice (some ⟨q,0,none⟩) V V∧tget t 7=v7∧tget t 8=.slice (some ⟨g,0,none⟩) M M∧tget t 36=pv∧tget t 37=.int .i64 (l.length:Nat)∧tget t 38=.int .i64 (i:Nat)∧i≤l.length) 3000 (by decide) ⟨hu,hG,gq,nq,t1,t2,t3,t6,t7,t8,t36,t37,by simpa using t38,Nat.zero_le _⟩ ?_
 clear t1 t2 t3 t6 t7 t8 t36 t37 t38 gq nq hu hG t w
 rintro i t w ⟨hu,hG,gq,nq,t1,t2,t3,t6,t7,t8,t36,t37,t38,hi⟩
 by_cases hlt:i < l.length
 ·obtain ⟨x,hx⟩:=lt_get hlt
  obtain ⟨j1,j2⟩:=hj x (List.mem_of_getElem? hx)
  have j1':=j1
  simp only [jobB,decide_eq_true_eq] at j1'
  have hjt:∀ j ∈ l.take i,jobB V nh M j=true∧1≤j.ma:=fun j hj'=>hj j (List.mem_of_mem_take hj')
  obtain ⟨hOi,_,_⟩:=plS_ok hOk hjt
  have hLi:=plS_le hOk hjt
  have hnp:=stN_pos hOi j1 j2
  obtain ⟨n1',n2',n3'⟩:=stN_le (vs:=vs) (G:=(plS vs tr (P0 V) (l.take i)).1) (P:=(plS vs tr (P0 V) (l.take i)).2) (j:=x)
  have epl:=plS_snoc vs (l.take i) tr (P0 V) x
  rw [← take_push' hx] at epl
  obtain ⟨G,hGe⟩:∃ G,G=(plS vs tr (P0 V) (l.take i)).1:=⟨_,rfl⟩
  obtain ⟨P,hPe⟩:∃ P,P=(plS vs tr (P0 V) (l.take i)).2:=⟨_,rfl⟩
  rw [← hGe,← hPe] at hOi hnp n2' n3' epl
  rw [← hGe] at hG hLi n1'
  rw [← hPe] at gq n1'
  obtain ⟨mo,o,h,vi,ma⟩:=x
  simp only at j1' j2
  obtain ⟨m,rfl⟩:∃ m:Nat,mo=m:=⟨mo.toNat,by omega⟩
  obtain ⟨k,rfl⟩:∃ k:Nat,vi=k:=⟨vi.toNat,by omega⟩
  have hm:m < M:=by omega
  have hk:k < V:=by omega
  obtain ⟨r,x,y,v,hr,hrl,hrx,hPy,hvk,eg,ep,eb⟩:=hOi.row hm hk
  obtain ⟨c,hc⟩:=lt_get (show m < cs.length by omega)
  have eN:stN vs G P ⟨m,o,h,k,ma⟩=min (min ma x) (v.be - y):=by
   unfold stN
   simp only [Int.toNat_natCast]
   rw [eg,ep,eb]
  have bx:=htr m k
  have bx0:=hOi.pos m k hm hk
  have by0:=hOi.podP k hk
  have bb:=hbe v (List.mem_of_getElem? hvk)
  have hL:=hLi m k
  simp only [Int.toNat_natCast] at n2' n3'
  rw [eg] at bx0 hL n2'
  rw [ep,eb] at by0 n3'
  rw [eN] at hnp n1' n2' n3'
  have hle:w.lim≤w.next:=by rw [hu.lim]; have:=hu.next; omega
  have hw1':IntKind.wrap .i64 ((i:Int) + 1)=(i:Int) + 1:=wrap64_in (by omega) (by omega)
  obtain ⟨p,hia,hld,_,hpb⟩:=getR un39 sz67 jbC_length (hP.up hu) rfl hx
  obtain ⟨w1,hw1⟩:∃ w1:AW,w1=⟨(w.heap.put w.next (some (.cells [.int .i64 0,.int .i64 0,.int .i64 0,.int .i64 0,.int .i64 0] 67 false))).put w.next (some (.cells (jbC ⟨m,o,h,k,ma⟩) 67 false)),w.next + 1,w.lim⟩:=⟨_,rfl⟩
  have u4:Up w w1:=by rw [hw1]; exact ((Up.refl w).add _).put (Nat.le_refl _) (Nat.le_refl _)
  have n1:w1.next=w.next + 1:=by rw [hw1]
  have gJ:w1.heap.get w.next=some (.cells (jbC ⟨m,o,h,k,ma⟩) 67 false):=by rw [hw1]; simp
  have hu1:=hu.trans u4
  have gX1:=(hu1.at hX).trans gX
  have gq1:=(u4.at nq).trans gq
  have hG1:=hG.up (by rw [hcl,hOi.lenG]; exact Nat.le_refl _) u4
  have hw1e:=hw1
  simp only [jbC] at hld hw1e
  simp [mc58_l1_eq,t36,t37,t38,hlt,hia,hld,hle]
  rw [← hw1e]
  have hXn1:X < w1.next:=by have:=hu1.next; omega
  have hlen':cs.length=M:=hcl
  refine wp_seqX (wp_blockX (part58a (ov:=ov) (vs:=vs) (hs:=hs) (fs:=fs) (vv:=vv) (hv:=hv) (fv:=fv) K h81 (n0:=w0.next) (V:=V) (g:=g) (M:=M) (q:=q) (X:=X) (J:=w.next) (cs:=cs) (G:=G) (P:=P) (m:=m) (k:=k) (c:=c) (r:=r) (x:=x) (y:=y) (v:=v) o h ma w1 hlen' hOi.lenG (by rw [u4.lim]; omega) hG1 ⟨hm,hk,hc,hr,hrx,hPy,hvk,gX1,gq1,hXn1,by omega,by omega⟩ gJ (hS.up hu1) (by omega) v1 v2 v7 pv (.int .i64 (l.length:Nat)) (.int .i64 (i:Nat)) _ (by simp [t1]) (by simp [t2]) (by simp [t3]) (by simp [t6]) (by simp [t7]) (by simp [t8]) (by simp) (by simp [t36]) (by simp [t37]) (by simp [t38]) _ ?_))
  intro t w2 u5 t13 t1 t2 t3 t6 t7 t8 t12 t36 t37 t38
  have hu2:=hu1.trans u5
  have hG2:=hG1.up (by rw [hcl,hOi.lenG]; exact Nat.le_refl _) u5
  refine part58b (ov:=ov) (vv:=vv) (hv:=hv) (fv:=fv) K (n0:=w0.next) (V:=V) (g:=g) (M:=M) (q:=q) (X:=X) (J:=w.next) (cs:=cs) (G:=G) (P:=P) (m:=m) (k:=k) (c:=c) (r:=r) (x:=x) (y:=y) (v:=v) o h ma (min (min ma x) (v.be - y)) w2 hlen' hOi.lenG hG2 ⟨hm,hk,hc,hr,hrx,hPy,hvk,(u5.at hXn1).trans gX1,(u5.at (by omega)).trans gq1,by have:=u5.next; omega,by have:=u5.next; omega,by have:=u5.next; omega⟩ ((u5.at (by omega)).trans gJ) hrl hOi.lenP hqc hqg (fun m' c' hc' e=>by have:=hG.lt (by rw [hcl,hOi.lenG]; exact Nat.le_refl _) hc'; omega) (by omega) (by rw [hu2.lim]; exact hl0) hq0 (by omega) (by omega) v1 v2 v7 pv (.int .i64 (l.length:Nat)) (.int .i64 (i:Nat)) t t1 t2 t3 t6 t7 t8 t12 t13 t36 t37 t38 _ ?_
  intro t w3 hold hn3 hlim3 hG3 gq3 _ t1 t2 t3 t6 t7 t8 t36 t37 t38
  have hu3:Up w0 w3:=⟨fun b hb=>(hold b hb).trans (hu2.at hb),by rw [hn3]; exact hu2.next,by rw [hlim3]; exact hu2.lim⟩
  simp [t36,t37,t38,hw1']
  refine ⟨by omega,hu3,?_,?_,by have:=u5.next; omega,t1,t2,t3,t6,t7,t8,hlt⟩
  ·rw [epl]
   simp only
   rw [eN,stG_eq hr hrx _ rfl rfl]
   exact hG3
  ·rw [epl]
   simp only
   rw [eN,stP_eq hPy _ rfl]
   exact gq3
 ·have hi':i=l.length:=by omega
  subst hi'
  rw [List.take_length] at hG gq
  simp [mc58_l1_eq,t37,t38]
  exact hQ _ _ hu hG gq nq (by simp [t1]) (by simp [t2]) (by simp [t3]) (by simp [t6]) (by simp [t7]) (by simp [t8])
end
theorem sum_bdC {c:Int}:∀ {L:List Int},(∀ z ∈ L,0≤z∧z≤c)→0≤L.sum∧L.sum≤c * (L.length:Int)
 | [],_=>by simp
 | a::L,h=>by
  have h1:=h a (by simp)
  have h2:=sum_bdC (L:=L) fun z hz=>h z (by simp [hz])
  have e:c * ((a::L).length:Int)=c * (L.length:Int) + c:=by rw [List.length_cons]; push_cast; rw [Int.mul_add]; omega
  rw [List.sum_cons,e]
  omega
theorem rows_slV {w:AW} {V c:Nat} {r:List Int} (h:w.heap.get c=some (.cells (r.flatMap intC) 3 false)) (hl:r.length=V) (hc:c < w.next):RowsV intC w (slV V c) r:=by
 refine .inr ⟨c,0,none,V,by rw [hl]; rfl,⟨[],[],3,false,by rw [h]; simp,rfl⟩,hc⟩
theorem grid_row {M V:Nat} {vs:List HVn} {G:List (List Int)} {P:List Int} (h:GrOk M V vs G P) (hb:∀ m v:Nat,g2 G m v≤1000) {r:List Int} {m:Nat} (hr:G[m]?=some r):r.length=V∧∀ z ∈ r,0≤z∧z≤1000:=by
 have hm:m < M:=by have:=(List.getElem?_eq_some_iff.1 hr).1; rw [h.lenG] at this; exact this
 have hl:r.length=V:=by
  have:=h.lenR m hm
  rwa [List.getD_eq_getElem?_getD,hr] at this
 refine ⟨hl,fun z hz=>?_⟩
 obtain ⟨k,hk⟩:=List.getElem?_of_mem hz
 have hkV:k < V:=by have:=(List.getElem?_eq_some_iff.1 hk).1; omega
 have a:=h.pos m k hm hkV
 have b:=hb m k
 rw [g2_get hr hk] at a b
 exact ⟨a,b⟩
theorem sumG_bd {M V:Nat} {vs:List HVn} {G:List (List Int)} {P:List Int} (h:GrOk M V vs G P) (hb:∀ m v:Nat,g2 G m v≤1000) (hV:V≤6) (hM:M≤6) (i:Nat):0≤sumG (G.take i)∧sumG (G.take i)≤36000:=by
 have:=sum_bdC (c:=6000) (L:=(G.take i).map List.sum) fun z hz=>by
  obtain ⟨r,hr,rfl⟩:=List.mem_map.1 hz
  obtain ⟨m,hm⟩:=List.getElem?_of_mem (List.mem_of_mem_take hr)
  obtain ⟨a,b⟩:=grid_row h hb hm
  have:=sum_bdC b
  omega
 rw [List.length_map,List.length_take,h.lenG] at this
 unfold sumG
 omega
theorem sumG_tk {G:List (List Int)} {i:Nat} {r:List Int} (h:G[i]?=some r):sumG (G.take (i + 1))=sumG (G.take i) + r.sum:=by
 unfold sumG
 rw [List.take_add_one,h,List.map_append,List.sum_append]; simp
section
variable {ov:Ov} {vs:List HVn} {hs:List HHd} {fs:List (List (Int × Int))} {vv hv fv tv pv:Value} {l:List HJb} {tr:List (List Int)}
theorem loop58c (K:Nat) (h84:HasP ov 84 S84.F) {n0 V M g:Nat} {cs:List Nat} {G:List (List Int)} {P:List Int} (hOk:GrOk M V vs G P) (hb:∀ m v:Nat,g2 G m v≤1000) (hV:V≤6) (hM:M≤6) (hcl:cs.length=M) (w:AW) (hle:w.lim≤w.next) (hG:GrV n0 w V g M cs G) (v6:Value) (t:Tm) (t6:tget t 6=v6) (t7:tget t 7=.int .i64 0) (t89:tget t 89=.slice (some ⟨g,0,none⟩) M M) (t90:tget t 90=.int .i64 (M:Nat)) (t91:tget t 91=.int .i64 0) (Q:Ex→Tm→AW→Prop)
  (hQ:∀ t,tget t 6=v6→tget t 7=.int .i64 (sumG G)→Q (.exit 4) t w):wp (exM Try.prog (run Try.prog ov (K + 1)) (.loop mc58_l2) t w) Q:=by
 refine wp_rounds (fun i t w'=>w'=w∧tget t 6=v6∧tget t 7=.int .i64 (sumG (G.take i))∧tget t 89=.slice (some ⟨g,0,none⟩) M M∧tget t 90=.int .i64 (M:Nat)∧tget t 91=.int .i64 (i:Nat)∧i≤M) 20 (by decide) ⟨rfl,t6,by simpa [sumG] using t7,t89,t90,by simpa using t91,Nat.zero_le _⟩ ?_
 clear t6 t7 t89 t90 t91 t
 rintro i t w' ⟨rfl,t6,t7,t89,t90,t91,hi⟩
 by_cases hlt:i < M
 ·obtain ⟨r,hr⟩:=lt_get (show i < G.length by rw [hOk.lenG]; exact hlt)
  obtain ⟨c,hc⟩:=lt_get (show i < cs.length by omega)
  obtain ⟨gc,c1,c2,c3⟩:=hG.at_ i c r hc hr
  obtain ⟨hrl,hrb⟩:=grid_row hOk hb hr
  have gg:=hG.gg
  have ac:(cs.map (slV V)++List.replicate (M - cs.length) nilS)[i]?=some (.slice (some ⟨c,0,none⟩) V V):=by
   rw [List.getElem?_append_left (by rw [List.length_map]; omega),List.getElem?_map,hc]; rfl
  obtain ⟨os,hos⟩:∃ os,os=cs.map (slV V)++List.replicate (M - cs.length) nilS:=⟨_,rfl⟩
  rw [← hos] at gg ac
  have i1:=fun w'=>ia27 w' ⟨g,0,none⟩ M M .i64 i hlt
  have r84:=S84.call (P:=Try.prog) h84 (m:=K) (w:=w') ⟨slV V c,r,rfl,rows_slV gc hrl c2,by omega,fun z hz=>by have:=hrb z hz; omega,rfl⟩
  have es:slV V c=.slice (some ⟨c,0,none⟩) V V:=rfl
  rw [es] at r84
  have b1:=sumG_bd hOk hb hV hM i
  have b2:=sumG_bd hOk hb hV hM (i + 1)
  rw [sumG_tk hr] at b2
  have hw1:IntKind.wrap .i64 ((i:Int) + 1)=(i:Int) + 1:=wrap64_in (by omega) (by omega)
  have hw2:IntKind.wrap .i64 (sumG (G.take i) + r.sum)=sumG (G.take i) + r.sum:=wrap64_in (by omega) (by omega)
  simp [mc58_l2,t6,t7,t89,t90,t91,hlt,i1,gg,ac,r84,hw1,hw2]
  exact ⟨by omega,(sumG_tk hr).symm,hlt⟩
 ·have hi':i=M:=by omega
  have e:G.take i=G:=List.take_of_length_le (by rw [hOk.lenG]; omega)
  rw [e] at t7
  simp [mc58_l2,t90,t91,hi']
  exact hQ _ (by simp [t6]) (by simp [t7])
set_option maxHeartbeats 1000000 in
theorem call58 (K:Nat) (ho:∀ args w,ov 58 args w=none) (h85:∀ args w,ov 85 args w=none) (h81:HasP ov 81 S81.F) (h84:HasP ov 84 S84.F) (w:AW) (hl:w.lim≤w.next) (hS:SeaV w vv hv fv vs hs fs) (hT:Rows2 intC w tv tr) (hP:RowsV jbC w pv l) (hB:seaB vs hs fs=true) (hTr:truB vs.length tr fs=true) (hPl:planB vs hs fs.length l=true) :
  ∃ v w',(run Try.prog ov (K + 2)).call 58 [.agg ⟨[vv,hv,fv]⟩,tv,pv] w .none=.ok (.ret v) w' .none∧∃ q,v=.tuple ⟨[.slice (some ⟨q,0,none⟩) vs.length vs.length,.int .i64 (sumG (plS vs tr (P0 vs.length) l).1)]⟩∧w'.heap.get q=some (.cells ((plS vs tr (P0 vs.length) l).2.flatMap intC) 3 false)∧q < w'.next∧w.next≤q∧Up w w':=by
 refine call_wp text58 (by simp) (ho _ _) ?_
 obtain ⟨b1,b2,b3,b4,b5,b6,b7,b8⟩:=sea_parts hB
 obtain ⟨nv,nh,nf⟩:=hS.nj
 obtain ⟨k1,k2,k3⟩:=tru_parts hB hTr
 have hbe:∀ v ∈ vs,0≤v.be∧v.be≤1000:=fun v hv=>by
  have:=b6 v hv
  simp only [vnB,inH,Bool.and_eq_true,decide_eq_true_eq] at this
  omega
 have hOk:GrOk fs.length vs.length vs tr (P0 vs.length):=GrOk.init rfl k1 k2 (fun m v=>(k3 m v).1) fun v hv=>(hbe v hv).1
 have hPl':=hPl
 simp only [planB,Bool.and_eq_true,decide_eq_true_eq] at hPl'
 have hj:∀ j ∈ l,jobB vs.length hs.length fs.length j=true∧1≤j.ma:=fun j hj=>by
  obtain ⟨x1,x2,_⟩:=planG_parts hPl'.2 j hj
  exact ⟨x1,x2⟩
 have sv:=same_rows hS.v
 obtain ⟨o1,o2,o3⟩:=plS_ok hOk hj
 have hLe:=plS_le hOk hj
 have lt27:=fun w2=>len27V (w':=w2) hT
 have lt39:=fun w2=>len39V (w':=w2) hP
 have lt22:=fun w2=>len22V (w':=w2) hS.v
 have tj:notJunk tv=some tv:=by obtain ⟨x,y,rfl⟩:=hT.len; rfl
 have pj:notJunk pv=some pv:=by obtain ⟨x,y,rfl⟩:=hP.len; rfl
 have mk:=fun w=>mk27 tr.length (by omega) w
 obtain ⟨w0,hw0⟩:∃ w0:AW,w0=⟨w.heap.put w.next (some (.cells [vv,hv,fv] 26 false)),w.next + 1,w.lim⟩:=⟨_,rfl⟩
 have u0:Up w w0:=by rw [hw0]; exact (Up.refl w).add _
 have n0:w0.next=w.next + 1:=by rw [hw0]
 have gX:w0.heap.get w.next=some (.cells [vv,hv,fv] 26 false):=by rw [hw0]; simp
 obtain ⟨w1,hw1⟩:∃ w1:AW,w1=⟨w0.heap.put w0.next (some (.cells (List.replicate tr.length nilS) 42 false)),w0.next + 1,w0.lim⟩:=⟨_,rfl⟩
 have u1:Up w0 w1:=by rw [hw1]; exact (Up.refl w0).add _
 have n1:w1.next=w0.next + 1:=by rw [hw1]
 have gg1:w1.heap.get w0.next=some (.cells (List.replicate tr.length nilS) 42 false):=by rw [hw1]; simp
 have hw1e:=hw1
 rw [hw0] at hw1e
 simp only at hw1e
 simp [mc58,cellsOf_agg,nv,nh,nf,tj,pj,lt27,mk]
 rw [← hw1e]
 refine wp_seqX (wp_blockX (loop58a (ov:=ov) (w0:=w0) K h85 (hT.up u0) vs.length w0.next ⟨b2,b1⟩ (by omega) k2 (Nat.le_refl _) (by rw [u0.lim]; omega) w1 u1 gg1 (by omega) w.next _ ((u1.at (by omega)).trans gX) (by omega) (by omega) tv pv (.pointer (some ⟨w.next,0,none⟩)) _ (by simp) (by simp) (by simp) (by simp) (by simp [n0]) (by simp) (by simp) (by simp) _ ?_))
 intro t w2 cs u2 hcl hG gX2 nX2 t1 t2 t3 t7 t8
 rw [k1] at hcl hG t8
 have hle2:w2.lim≤w2.next:=by rw [(u0.trans u2).lim]; have:=(u0.trans u2).next; omega
 have mk2:=fun w=>mk42 vs.length (by omega) w
 obtain ⟨w3,hw3⟩:∃ w3:AW,w3=⟨w2.heap.put w2.next (some (.cells ((P0 vs.length).flatMap intC) 3 false)),w2.next + 1,w2.lim⟩:=⟨_,rfl⟩
 have u3:Up w2 w3:=by rw [hw3]; exact (Up.refl w2).add _
 have n3:w3.next=w2.next + 1:=by rw [hw3]
 have gq3:w3.heap.get w2.next=some (.cells ((P0 vs.length).flatMap intC) 3 false):=by rw [hw3]; simp
 have hw3e:=hw3
 unfold P0 at hw3e
 have hG3:=hG.up (by omega) u3
 simp [t1,t2,t3,t7,t8,gX2,nv,lt22,lt39,mk2,sv]
 rw [← hw3e]
 refine wp_seqX (wp_blockX (loop58b (ov:=ov) (w0:=w0) (vs:=vs) (hs:=hs) (fs:=fs) (vv:=vv) (hv:=hv) (fv:=fv) (pv:=pv) (l:=l) (tr:=tr) K h81 (hS.up u0) (hP.up u0) (V:=vs.length) (M:=fs.length) (nh:=hs.length) (X:=w.next) (g:=w0.next) (q:=w2.next) (by omega) gX (by rw [u0.lim]; omega) hj hPl'.1 hOk (fun m v=>(k3 m v).2) (fun v hv=>(hbe v hv).2) cs hcl w3 (u2.trans u3) hG3 gq3 (by omega) u2.next (fun m c hc e=>by have:=hG.lt (by omega) hc; omega) (by have:=hG.ghi; omega) tv pv (.int .i64 0) _ (by simp [t1]) (by simp [t2]) (by simp [t3]) (by simp) (by simp [t7]) (by simp [t8]) (by simp) (by simp) (by simp) _ ?_))
 intro t w4 u4 hG4 gq4 nq4 t1 t2 t3 t6 t7 t8
 simp [t6,t7,t8]
 refine wp_seqX (wp_blockX (loop58c (ov:=ov) K h84 o1 (fun m v=>Int.le_trans (hLe m v) (k3 m v).2) b1 b5 hcl w4 (by rw [(u0.trans u4).lim]; have:=(u0.trans u4).next; omega) hG4 (.slice (some ⟨w2.next,0,none⟩) vs.length vs.length) _ (by simp [t6]) (by simp [t7]) (by simp [t8]) (by simp) (by simp) _ ?_))
 intro t t6 t7
 simp [t6,t7,tupV]
 exact ⟨gq4,nq4,by have:=u2.next; omega,u0.trans u4⟩
end
end Go.Proofs.Ytiokkkjahkhbfaa.walk
namespace Go.Sh
open Go
theorem plan_ma {vs:List HVn} {hs:List HHd} {M:Nat} (hb:∀ x ∈ hs,x.da≤1000):∀ {l p:List HJb},UseOk hs p→planG vs hs M p l=true→∀ j ∈ l,1≤j.ma∧j.ma≤1000
 | [],_,_,_,_,h=>by simp at h
 | i::l,p,hU,h,j,hj=>by
  simp only [planG,Bool.and_eq_true] at h
  rcases List.mem_cons.1 hj with rfl | hj
  ·obtain ⟨_,h2,x,v,hx,_,_,h1,hd,_⟩:=step_parts h.1
   have:=hb x (List.mem_of_getElem? hx)
   have:=hU.dayPos j.mo j.ha
   omega
  ·exact plan_ma hb (hU.push h.1) h.2 j hj
theorem sum_le1:∀ {p:List HJb} {f:HJb→Bool},(∀ j ∈ p,1≤j.ma∧j.ma≤1000)→0≤(p.map fun j=>if f j then j.ma else 0).sum∧(p.map fun j=>if f j then j.ma else 0).sum≤1000 * (p.length:Int)
 | [],_,_=>by simp
 | j::p,f,h=>by
  have h1:=h j (by simp)
  have ih:=sum_le1 (p:=p) (f:=f) fun k hk=>h k (by simp [hk])
  simp only [List.map_cons,List.sum_cons,List.length_cons]
  push_cast
  split <;> omega
theorem wor_bd {p:List HJb} (h:∀ j ∈ p,1≤j.ma∧j.ma≤1000):0≤(p.map (·.ma)).sum∧(p.map (·.ma)).sum≤1000 * (p.length:Int):=by
 have:=sum_le1 (f:=fun j=>true) h
 simpa using this
theorem wor_tk {l:List HJb} {i:Nat} {x:HJb} (h:l[i]?=some x):((l.take (i + 1)).map (·.ma)).sum=((l.take i).map (·.ma)).sum + x.ma:=by
 rw [take_push' h,List.map_append,List.sum_append]; simp
theorem P0_sum (V:Nat):(P0 V).sum=0:=by
 induction V with
 | zero=>rfl
 | succ n ih=>unfold P0 at *; rw [List.replicate_succ,List.sum_cons,ih]; rfl
theorem fits_eq {M V nh:Nat} {vs:List HVn} {tr:List (List Int)} {l:List HJb} (h:GrOk M V vs tr (P0 V)) (hj:∀ j ∈ l,jobB V nh M j=true∧1≤j.ma):fitG tr vs [] l=decide ((plS vs tr (P0 V) l).2.sum=(l.map (·.ma)).sum):=by
 rw [fit_iff h hj (fun m v _ _=>by simp [hadF]) (fun v _=>by rw [P0_get]; simp [podF]),P0_sum,Int.zero_add]
end Go.Sh
namespace Go.Proofs.Ytiokkkjahkhbfaa.walk
open Go Go.Sh
set_option maxRecDepth 100000
section
variable {ov:Ov} {vs:List HVn} {hs:List HHd} {fs:List (List (Int × Int))} {vv hv fv tv pv:Value} {tr:List (List Int)}
def S56:PSpec where
 R args w v:=∃ (vv hv fv tv pv:Value) (vs:List HVn) (hs:List HHd) (fs:List (List (Int × Int))) (tr:List (List Int)) (l:List HJb),args=[.agg ⟨[vv,hv,fv]⟩,tv,pv]∧SeaV w vv hv fv vs hs fs∧Rows2 intC w tv tr∧RowsV jbC w pv l∧seaB vs hs fs=true∧truB vs.length tr fs=true∧planB vs hs fs.length l=true∧v=.bool (fitG tr vs [] l)
 uniq:=by
  rintro _ _ _ _ ⟨a,b,c,d,e,x,y,z,t,l,rfl,h1,h2,h3,_,_,_,rfl⟩ ⟨a',b',c',d',e',x',y',z',t',l',q,k1,k2,k3,_,_,_,rfl⟩
  cases q
  obtain ⟨rfl,rfl,rfl⟩:=h1.uniq k1
  rw [h2.uniq (m:=1) intC_length intC_inj k2,h3.uniq (m:=5) jbC_length jbC_inj k3]
 shut:=by rintro _ _ _ ⟨a,b,c,d,e,x,y,z,t,l,q,h1,h2⟩; exact ⟨a,b,c,d,e,x,y,z,t,l,q,⟨h1.v,h1.h,h1.f⟩,h2⟩
structure AllOk (vs:List HVn) (hs:List HHd) (fs:List (List (Int × Int))) (tr:List (List Int)) (l:List HJb):Prop where
 v6:vs.length≤6∧1≤vs.length
 f6:fs.length≤6∧1≤fs.length
 trl:tr.length=fs.length
 ok:GrOk fs.length vs.length vs tr (P0 vs.length)
 tb:∀ m v:Nat,0≤g2 tr m v∧g2 tr m v≤1000
 be:∀ v ∈ vs,0≤v.be∧v.be≤1000
 jb:∀ j ∈ l,jobB vs.length hs.length fs.length j=true∧1≤j.ma
 ma:∀ j ∈ l,1≤j.ma∧j.ma≤1000
 len:l.length≤2048
theorem all_ok {l:List HJb} (hB:seaB vs hs fs=true) (hTr:truB vs.length tr fs=true) (hPl:planB vs hs fs.length l=true):AllOk vs hs fs tr l:=by
 obtain ⟨b1,b2,b3,b4,b5,b6,b7,b8⟩:=sea_parts hB
 obtain ⟨k1,k2,k3⟩:=tru_parts hB hTr
 have hbe:∀ v ∈ vs,0≤v.be∧v.be≤1000:=fun v hv=>by
  have:=b6 v hv
  simp only [vnB,inH,Bool.and_eq_true,decide_eq_true_eq] at this
  omega
 have hda:∀ x ∈ hs,x.da≤1000∧0≤x.da∧0≤x.ra:=fun x hx=>by
  have:=b7 x hx
  simp only [hhB,inH,Bool.and_eq_true,decide_eq_true_eq] at this
  omega
 simp only [planB,Bool.and_eq_true,decide_eq_true_eq] at hPl
 exact ⟨⟨b1,b2⟩,⟨b5,b4⟩,k1,GrOk.init rfl k1 k2 (fun m v=>(k3 m v).1) fun v hv=>(hbe v hv).1,k3,hbe,fun j hj=>by obtain ⟨x1,x2,_⟩:=planG_parts hPl.2 j hj; exact ⟨x1,x2⟩,plan_ma (fun x hx=>(hda x hx).1) (UseOk.nil fun x hx=>by have:=hda x hx; omega) hPl.2,hPl.1⟩
end
section
variable {ov:Ov} {vs:List HVn} {hs:List HHd} {fs:List (List (Int × Int))} {vv hv fv tv pv:Value} {tr:List (List Int)} {l:List HJb}
def chkP (vs:List HVn) (hs:List HHd) (fs:List (List (Int × Int))) (tr:List (List Int)) (l:List HJb):Int:=if chkT vs hs fs tr=0 then (if planB vs hs fs.length l=true then 0 else 22) else chkT vs hs fs tr
theorem chkT0:chkT vs hs fs tr=0 ↔ seaB vs hs fs=true∧truB vs.length tr fs=true:=by
 unfold chkT
 by_cases h:chkH vs hs fs=0
 ·rw [if_pos h]
  have h':=chk0.1 h
  by_cases k:truB vs.length tr fs=true
  ·simp [k,h']
  ·rw [if_neg k]; simp [k]
 ·rw [if_neg h]
  have h':¬ seaB vs hs fs=true:=fun e=>h (chk0.2 e)
  constructor
  ·intro e; exact absurd e h
  ·intro e; exact absurd e.1 h'
theorem chkP0:chkP vs hs fs tr l=0 ↔ seaB vs hs fs=true∧truB vs.length tr fs=true∧planB vs hs fs.length l=true:=by
 unfold chkP
 by_cases h:chkT vs hs fs tr=0
 ·rw [if_pos h]
  have h':=chkT0.1 h
  by_cases k:planB vs hs fs.length l=true
  ·simp [k,h']
  ·rw [if_neg k]; simp [k]
 ·rw [if_neg h]
  constructor
  ·intro e; exact absurd e h
  ·intro e; exact absurd (chkT0.2 ⟨e.1,e.2.1⟩) h
def S55:PSpec where
 R args w v:=∃ (vv hv fv tv pv:Value) (vs:List HVn) (hs:List HHd) (fs:List (List (Int × Int))) (tr:List (List Int)) (l:List HJb),args=[.agg ⟨[vv,hv,fv]⟩,tv,pv]∧SeaV w vv hv fv vs hs fs∧Rows2 intC w tv tr∧RowsV jbC w pv l∧v=.int .i64 (chkP vs hs fs tr l)
 uniq:=by
  rintro _ _ _ _ ⟨a,b,c,d,e,x,y,z,t,l,rfl,h1,h2,h3,rfl⟩ ⟨a',b',c',d',e',x',y',z',t',l',q,k1,k2,k3,rfl⟩
  cases q
  obtain ⟨rfl,rfl,rfl⟩:=h1.uniq k1
  rw [h2.uniq (m:=1) intC_length intC_inj k2,h3.uniq (m:=5) jbC_length jbC_inj k3]
 shut:=by rintro _ _ _ ⟨a,b,c,d,e,x,y,z,t,l,q,h1,h2⟩; exact ⟨a,b,c,d,e,x,y,z,t,l,q,⟨h1.v,h1.h,h1.f⟩,h2⟩
def fitV (vs:List HVn) (hs:List HHd) (fs:List (List (Int × Int))) (tr:List (List Int)) (l:List HJb):Bool:=decide (chkP vs hs fs tr l=0) && fitG tr vs [] l
def S19:PSpec where
 R args w v:=∃ (vv hv fv tv pv:Value) (vs:List HVn) (hs:List HHd) (fs:List (List (Int × Int))) (tr:List (List Int)) (l:List HJb),args=[.agg ⟨[vv,hv,fv]⟩,tv,pv]∧SeaV w vv hv fv vs hs fs∧Rows2 intC w tv tr∧RowsV jbC w pv l∧v=.tuple ⟨[.bool (fitV vs hs fs tr l),.int .i64 (chkP vs hs fs tr l)]⟩
 uniq:=by
  rintro _ _ _ _ ⟨a,b,c,d,e,x,y,z,t,l,rfl,h1,h2,h3,rfl⟩ ⟨a',b',c',d',e',x',y',z',t',l',q,k1,k2,k3,rfl⟩
  cases q
  obtain ⟨rfl,rfl,rfl⟩:=h1.uniq k1
  rw [h2.uniq (m:=1) intC_length intC_inj k2,h3.uniq (m:=5) jbC_length jbC_inj k3]
 shut:=by rintro _ _ _ ⟨a,b,c,d,e,x,y,z,t,l,q,h1,h2⟩; exact ⟨a,b,c,d,e,x,y,z,t,l,q,⟨h1.v,h1.h,h1.f⟩,h2⟩
theorem run55 (ho:∀ args w,ov 55 args w=none) (h59:HasP ov 59 S59.F) (h83:HasP ov 83 S83.F) (w:AW) (hl:w.lim=w.next) (hS:SeaV w vv hv fv vs hs fs) (hT:Rows2 intC w tv tr) (hP:RowsV jbC w pv l):∃ x w',(run Try.prog ov 2).call 55 [.agg ⟨[vv,hv,fv]⟩,tv,pv] w .none=.ok (.ret x) w' .none∧x=.int .i64 (chkP vs hs fs tr l):=by
 refine call_wp text55 (by simp) (ho _ _) ?_
 obtain ⟨w1,hw1⟩:∃ w1:AW,w1=⟨w.heap.put w.next (some (.cells [vv,hv,fv] 26 false)),w.next + 1,w.lim⟩:=⟨_,rfl⟩
 have u1:Up w w1:=by rw [hw1]; exact (Up.refl w).add _
 obtain ⟨nv,nh,nf⟩:=hS.nj
 have tj:notJunk tv=some tv:=by obtain ⟨x,y,rfl⟩:=hT.len; rfl
 have pj:notJunk pv=some pv:=by obtain ⟨x,y,rfl⟩:=hP.len; rfl
 have r59:=S59.call1 (P:=Try.prog) h59 (w:=w1) ⟨vv,hv,fv,tv,vs,hs,fs,tr,rfl,hS.up u1,hT.up u1,rfl⟩
 rw [hw1] at r59
 by_cases k:chkT vs hs fs tr=0
 ·have r83:=S83.call1 (P:=Try.prog) h83 (w:=w1) ⟨vv,hv,fv,pv,vs,hs,fs,l,rfl,hS.up u1,hP.up u1,(chkT0.1 k).1,rfl⟩
  rw [hw1] at r83
  cases k2:planB vs hs fs.length l with
  | true =>
   have e:chkP vs hs fs tr l=0:=by simp [chkP,k,k2]
   simp [mc55,cellsOf_agg,nv,nh,nf,tj,pj,r59,k,r83,k2,e,tupV]
  | false =>
   have e:chkP vs hs fs tr l=22:=by simp [chkP,k,k2]
   simp [mc55,cellsOf_agg,nv,nh,nf,tj,pj,r59,k,r83,k2,e,tupV]
 ·have e:chkP vs hs fs tr l=chkT vs hs fs tr:=by simp [chkP,k]
  simp [mc55,cellsOf_agg,nv,nh,nf,tj,pj,r59,k,e,tupV]
theorem rows_q {w:AW} {V q:Nat} {P:List Int} (h:w.heap.get q=some (.cells (P.flatMap intC) 3 false)) (hl:P.length=V) (hc:q < w.next):RowsV intC w (.slice (some ⟨q,0,none⟩) V V) P:=rows_slV h hl hc
theorem pods_bd {M V:Nat} {G:List (List Int)} {P:List Int} (h:GrOk M V vs G P) (hb:∀ v ∈ vs,0≤v.be∧v.be≤1000):∀ z ∈ P,0≤z∧z≤100000:=fun z hz=>by
 obtain ⟨k,hk⟩:=List.getElem?_of_mem hz
 have hkV:k < V:=by have:=(List.getElem?_eq_some_iff.1 hk).1; rw [h.lenP] at this; exact this
 obtain ⟨v,hv⟩:∃ v,vs[k]?=some v:=⟨_,List.getElem?_eq_getElem (by rw [h.nv]; exact hkV)⟩
 have a:=h.podP k hkV
 rw [List.getD_eq_getElem?_getD,hk,beV_get hv] at a
 have b:=hb v (List.mem_of_getElem? hv)
 simp only [Option.getD_some] at a
 omega
theorem run56 (ho:∀ args w,ov 56 args w=none) (h58:∀ args w,ov 58 args w=none) (h85:∀ args w,ov 85 args w=none) (h81:HasP ov 81 S81.F) (h84:HasP ov 84 S84.F) (w:AW) (hl:w.lim=w.next) (hS:SeaV w vv hv fv vs hs fs) (hT:Rows2 intC w tv tr) (hP:RowsV jbC w pv l) (hB:seaB vs hs fs=true) (hTr:truB vs.length tr fs=true) (hPl:planB vs hs fs.length l=true) :
  ∃ v w',(run Try.prog ov 3).call 56 [.agg ⟨[vv,hv,fv]⟩,tv,pv] w .none=.ok (.ret v) w' .none∧v=.bool (fitG tr vs [] l):=by
 refine call_wp text56 (by simp) (ho _ _) ?_
 have A:=all_ok hB hTr hPl
 obtain ⟨nv,nh,nf⟩:=hS.nj
 have tj:notJunk tv=some tv:=by obtain ⟨x,y,rfl⟩:=hT.len; rfl
 have pj:notJunk pv=some pv:=by obtain ⟨x,y,rfl⟩:=hP.len; rfl
 have hl1:=fun w2=>len39V (w':=w2) hP
 have hlen:=A.len
 obtain ⟨w1,hw1⟩:∃ w1:AW,w1=⟨w.heap.put w.next (some (.cells [vv,hv,fv] 26 false)),w.next + 1,w.lim⟩:=⟨_,rfl⟩
 have u1:Up w w1:=by rw [hw1]; exact (Up.refl w).add _
 obtain ⟨_,w2,c58,q,rfl,gq,nq,lq,u2⟩:=call58 (ov:=ov) 0 h58 h85 h81 h84 w1 (by rw [u1.lim]; have:=u1.next; omega) (hS.up u1) (hT.up u1) (hP.up u1) hB hTr hPl
 obtain ⟨o1,o2,o3⟩:=plS_ok A.ok A.jb
 have hu2:=u1.trans u2
 have hP2:=hP.up hu2
 rw [hw1] at c58
 simp [mc56,cellsOf_agg,nv,nh,nf,tj,pj,hl1,c58]
 refine wp_seqX (wp_blockX (wp_rounds (fun i t w'=>Up w2 w'∧tget t 7=.slice (some ⟨q,0,none⟩) vs.length vs.length∧tget t 9=.int .i64 ((l.take i).map (·.ma)).sum∧tget t 19=pv∧tget t 20=.int .i64 (l.length:Nat)∧tget t 21=.int .i64 (i:Nat)∧i≤l.length) 3000 (by decide) ⟨Up.refl _,by simp,by simp,by simp,by simp,by simp,Nat.zero_le _⟩ ?_))
 rintro i t w' ⟨hu,t7,t9,t19,t20,t21,hi⟩
 by_cases hlt:i < l.length
 ·obtain ⟨x,hx⟩:=lt_get hlt
  have hw1':IntKind.wrap .i64 ((i:Int) + 1)=(i:Int) + 1:=wrap64_in (by omega) (by omega)
  have j2:=A.ma x (List.mem_of_getElem? hx)
  have b1:=wor_bd (p:=l.take i) fun j hj=>A.ma j (List.mem_of_mem_take hj)
  have hll:(l.take i).length≤2048:=by rw [List.length_take]; omega
  have hw2':IntKind.wrap .i64 (((l.take i).map (·.ma)).sum + x.ma)=((l.take i).map (·.ma)).sum + x.ma:=wrap64_in (by omega) (by omega)
  obtain ⟨p,hia,hld,_,hpb⟩:=getR un39 sz67 jbC_length (hP2.up hu) rfl hx
  have htk:=wor_tk hx
  have hle:w'.lim≤w'.next:=by rw [(hu2.trans hu).lim]; have:=(hu2.trans hu).next; omega
  have u5:Up w' ⟨(w'.heap.put w'.next (some (.cells [.int .i64 0,.int .i64 0,.int .i64 0,.int .i64 0,.int .i64 0] 67 false))).put w'.next (some (.cells (jbC x) 67 false)),w'.next + 1,w'.lim⟩:=((Up.refl w').add _).put (Nat.le_refl _) (Nat.le_refl _)
  obtain ⟨s,hs'⟩:∃ s,s=((l.take i).map (·.ma)).sum:=⟨_,rfl⟩
  rw [← hs'] at hw2' t9 htk
  obtain ⟨x1,x2,x3,x4,x5⟩:=x
  simp only [jbC] at hld u5
  simp only at hw2' htk
  simp [mc56_l0,t7,t9,t19,t20,t21,hlt,hia,hld,hle,hw1',hw2']
  rw [List.map_take] at htk
  exact ⟨by omega,hu.trans u5,htk.symm,hlt⟩
 ·have hi':i=l.length:=by omega
  subst hi'
  rw [List.take_length] at t9
  have r84:=S84.call (P:=Try.prog) h84 (m:=1) (w:=w') ⟨_,_,rfl,rows_q ((hu.at nq).trans gq) o1.lenP (Nat.lt_of_lt_of_le nq hu.next),by rw [o1.lenP]; have:=A.v6; omega,pods_bd o1 A.be,rfl⟩
  rw [fits_eq A.ok A.jb]
  simp [mc56_l0,t7,t9,t20,t21,r84,tupV]
theorem run19 (ho:∀ args w,ov 19 args w=none) (h55:HasP ov 55 S55.F) (h56:HasP ov 56 S56.F) (w:AW) (hl:w.lim=w.next) (hS:SeaV w vv hv fv vs hs fs) (hT:Rows2 intC w tv tr) (hP:RowsV jbC w pv l):∃ x w',(run Try.prog ov 2).call 19 [.agg ⟨[vv,hv,fv]⟩,tv,pv] w .none=.ok (.ret x) w' .none∧x=.tuple ⟨[.bool (fitV vs hs fs tr l),.int .i64 (chkP vs hs fs tr l)]⟩:=by
 refine call_wp text19 (by simp) (ho _ _) ?_
 obtain ⟨w1,hw1⟩:∃ w1:AW,w1=⟨w.heap.put w.next (some (.cells [vv,hv,fv] 26 false)),w.next + 1,w.lim⟩:=⟨_,rfl⟩
 have u1:Up w w1:=by rw [hw1]; exact (Up.refl w).add _
 obtain ⟨nv,nh,nf⟩:=hS.nj
 have tj:notJunk tv=some tv:=by obtain ⟨x,y,rfl⟩:=hT.len; rfl
 have pj:notJunk pv=some pv:=by obtain ⟨x,y,rfl⟩:=hP.len; rfl
 have r55:=S55.call1 (P:=Try.prog) h55 (w:=w1) ⟨vv,hv,fv,tv,pv,vs,hs,fs,tr,l,rfl,hS.up u1,hT.up u1,hP.up u1,rfl⟩
 rw [hw1] at r55
 by_cases k:chkP vs hs fs tr l=0
 ·obtain ⟨k1,k2,k3⟩:=chkP0.1 k
  have r56:=S56.call1 (P:=Try.prog) h56 (w:=w1) ⟨vv,hv,fv,tv,pv,vs,hs,fs,tr,l,rfl,hS.up u1,hT.up u1,hP.up u1,k1,k2,k3,rfl⟩
  rw [hw1] at r56
  have e:fitV vs hs fs tr l=fitG tr vs [] l:=by simp [fitV,k]
  rw [e]
  simp [mc19,cellsOf_agg,nv,nh,nf,tj,pj,r55,k,r56,tupV]
 ·have e:fitV vs hs fs tr l=false:=by simp [fitV,k]
  simp [mc19,cellsOf_agg,nv,nh,nf,tj,pj,r55,k,e,tupV]
theorem call21 (K:Nat) (ho:∀ args w,ov 21 args w=none) (h55:HasP ov 55 S55.F) (h58:∀ args w,ov 58 args w=none) (h85:∀ args w,ov 85 args w=none) (h81:HasP ov 81 S81.F) (h84:HasP ov 84 S84.F) (w:AW) (hl:w.lim≤w.next) (hS:SeaV w vv hv fv vs hs fs) (hT:Rows2 intC w tv tr) (hP:RowsV jbC w pv l) :
  ∃ v w',(run Try.prog ov (K + 3)).call 21 [.agg ⟨[vv,hv,fv]⟩,tv,pv] w .none=.ok (.ret v) w' .none∧Up w w'∧((¬ chkP vs hs fs tr l=0∧v=.tuple ⟨[.slice none 0 0,.int .i64 0,.int .i64 (chkP vs hs fs tr l)]⟩)∨(chkP vs hs fs tr l=0∧∃ q,v=.tuple ⟨[.slice (some ⟨q,0,none⟩) vs.length vs.length,.int .i64 (sumG (plS vs tr (P0 vs.length) l).1),.int .i64 0]⟩∧w'.heap.get q=some (.cells ((plS vs tr (P0 vs.length) l).2.flatMap intC) 3 false)∧q < w'.next∧w.next≤q)):=by
 refine call_wp text21 (by simp) (ho _ _) ?_
 obtain ⟨w1,hw1⟩:∃ w1:AW,w1=⟨w.heap.put w.next (some (.cells [vv,hv,fv] 26 false)),w.next + 1,w.lim⟩:=⟨_,rfl⟩
 have u1:Up w w1:=by rw [hw1]; exact (Up.refl w).add _
 obtain ⟨nv,nh,nf⟩:=hS.nj
 have tj:notJunk tv=some tv:=by obtain ⟨x,y,rfl⟩:=hT.len; rfl
 have pj:notJunk pv=some pv:=by obtain ⟨x,y,rfl⟩:=hP.len; rfl
 have r55:=S55.call (P:=Try.prog) h55 (m:=K + 1) (w:=w1) ⟨vv,hv,fv,tv,pv,vs,hs,fs,tr,l,rfl,hS.up u1,hT.up u1,hP.up u1,rfl⟩
 by_cases k:chkP vs hs fs tr l=0
 ·obtain ⟨k1,k2,k3⟩:=chkP0.1 k
  obtain ⟨_,w2,c58,q,rfl,gq,nq,lq,u2⟩:=call58 (ov:=ov) K h58 h85 h81 h84 w1 (by rw [u1.lim]; have:=u1.next; omega) (hS.up u1) (hT.up u1) (hP.up u1) k1 k2 k3
  rw [hw1] at r55 c58
  simp [mc21,cellsOf_agg,nv,nh,nf,tj,pj,r55,k,c58,tupV]
  exact ⟨u1.trans u2,gq,nq,by have:=u1.next; omega⟩
 ·rw [hw1] at r55 u1
  simp [mc21,cellsOf_agg,nv,nh,nf,tj,pj,r55,k,tupV]
  exact u1
end
theorem min3 (a b c:Int):(bif intLt c (bif intLt b a then b else a) then c else bif intLt b a then b else a)=min a (min b c):=by
 simp only [intLt_eq]
 by_cases h:b < a
 ·rw [decide_eq_true h,cond_true]
  by_cases h2:c < b
  ·rw [decide_eq_true h2,cond_true]; omega
  ·rw [decide_eq_false h2,cond_false]; omega
 ·rw [decide_eq_false h,cond_false]
  by_cases h2:c < a
  ·rw [decide_eq_true h2,cond_true]; omega
  ·rw [decide_eq_false h2,cond_false]; omega
section
variable {ov:Ov} {vs:List HVn} {hs:List HHd} {fs:List (List (Int × Int))} {vv hv fv tv pv:Value} {tr:List (List Int)} {l:List HJb}
end
def HasW (ov:Ov):Prop:=∀ w,ov 18 [] w=some (.ok (.ret (.bool true)) w .none)
theorem ruleW {ov:Ov} (h:HasW ov) (m:Nat) (w:AW):(run Try.prog ov (m + 1)).call 18 [] w .none=.ok (.ret (.bool true)) w .none:=by
 show stepO Try.prog (run Try.prog ov m) 18 [] w .none (ov 18 [] w)=_
 rw [h w]; rfl
end Go.Proofs.Ytiokkkjahkhbfaa.walk
