/- Part of a proof by a machine of ones own: see the text with the theorem. -/
import Derived.Test.YtmemdglkkgmjnaaDoorCWf
import Derived.Test.YtmemdglkkgmjnaaDoorCWg
import Derived.Test.YtmemdglkkgmjnaaDoorCT5
namespace Go.Proofs.YtmemdglkkgmjnaaDoor.walk
open Go Go.Sh
set_option maxRecDepth 100000
set_option linter.unusedSimpArgs false
theorem wei_zero {r:List CAct} {d:List CDay} {b:CBox} {acts:List Int} {l:List CRead} (h:weiE r d b acts l=0):actE r d b acts=0∧rdsB (acts.length:Nat) l=true∧∃ V,weighF b (lossL r acts) l=some V:=by
 have h1:rdE r d b acts l=0:=by
  unfold weiE at h
  by_cases hE:rdE r d b acts l=0
  ·exact hE
  ·rw [if_neg hE] at h; exact absurd h hE
 have h2:=rdE_ok h1
 refine ⟨h2.1,h2.2,?_⟩
 unfold weiE at h
 rw [if_pos h1] at h
 cases hV:weighF b (lossL r acts) l with
 | none=>rw [hV] at h; cases h
 | some V=>exact ⟨V,rfl⟩
set_option maxHeartbeats 1000000 in
theorem call25 {ov:Ov} (m:Nat) (ho:∀ args w,ov 25 args w=none) (ho57:∀ args w,ov 57 args w=none) (ho62:∀ args w,ov 62 args w=none) (ho66:∀ args w,ov 66 args w=none) (h64:HasP ov 64 S64.F) (h68:HasP ov 68 S68.F) (h84:HasP ov 84 S84.F) (h86:HasP ov 86 S86.F) (h88:HasP ov 88 S88.F) (r:List CAct) (d:List CDay) (b:CBox) (acts:List Int) (l:List CRead) (rv dv av lv:Value) (we:AW) (hlim:we.lim≤we.next) (hL:LimW we) (hrv:RowsV actC we rv r) (hdv:RowsV cdayC we dv d) (hav:RowsV intC we av acts) (hlv:RowsV readC we lv l) :
  ∃ v w',(run Tryd.prog ov (m + 3)).call 25 [rv,dv,.agg ⟨boxC b⟩,av,lv] we .none=.ok (.ret v) w' .none∧(∃ v1,v=.tuple ⟨[v1,.int .i64 (weiE r d b acts l)]⟩∧(weiE r d b acts l ≠ 0→v1=.slice none 0 0)∧(weiE r d b acts l=0→∃ V D,weighF b (lossL r acts) l=some V∧dryF (lossL r acts) V=some D∧ProcV w' v1 (moL (lossL r acts) V D)))∧Up we w':=by
 refine call_wp text25 (by simp) (ho _ _) ?_
 have hz:zerC.length=32:=rfl
 have hzt:zerC.take 32=zerC:=rfl
 have hzd:zerC.drop 32=[]:=rfl
 have hzs:singles zerC=true:=rfl
 have epz:([.int .i64 0,.int .i64 0,.int .i64 0,.int .i64 0,.slice none 0 0]:List Value)=pzC:=rfl
 have hp1:pzC.length=5:=rfl
 have hpd:pzC.drop 5=[]:=rfl
 have hps:singles pzC=true:=rfl
 have nn:notJunk (.slice none 0 0)=some (.slice none 0 0):=rfl
 obtain ⟨w1,hw1e⟩:∃ w1:AW,w1=⟨we.heap.put we.next (some (.cells [.int .i64 b.wl,.int .i64 b.wh,.int .i64 b.sl,.int .i64 b.sh] 27 false)),we.next + 1,we.lim⟩:=⟨_,rfl⟩
 have u1:Up we w1:=by rw [hw1e]; exact (Up.refl we).add _
 have n1:w1.next=we.next + 1:=by rw [hw1e]
 have l1:w1.lim=we.lim:=u1.lim
 obtain ⟨v62,w2,c62,hv,u2⟩:=call62 (ov:=ov) m ho62 ho57 h68 h86 r d b acts l rv dv av lv w1 (by omega) (hL.up u1) (hrv.up u1) (hdv.up u1) (hav.up u1) (hlv.up u1)
 have hn2:=u2.next
 have hl2:=u2.lim
 have lw2:w2.lim≤w2.next:=by omega
 have lw21:w2.lim≤w2.next + 1:=by omega
 rw [hw1e] at c62
 simp only [boxC] at c62 ⊢
 rcases hv with ⟨hne,rfl⟩ | ⟨he,pv,V,hN,rfl,hproc⟩
 ·simp [mc25,cellsOf_agg,ez,epz,c62,lw2,lw21,hz,hzt,hzd,hzs,hp1,hpd,hps,hne,nn,tupV]
  exact (((((u1.trans u2).add _).put (by omega) (Nat.le_succ _)).put (by omega) (Nat.le_refl _)).put (by omega) (Nat.le_refl _))
 ·obtain ⟨B,hpe,hB1,hB2⟩:=id hproc
  obtain ⟨hA,hRd,_⟩:=wei_zero he
  obtain ⟨hT,h14,hact⟩:=tru_ok hA
  have hLl:(lossL r acts).length=acts.length:=by simp [lossL]
  have hb:=(act_ofE hA).2.2.1
  have hlos:=los_ok hA
  obtain ⟨hl10,hRok⟩:=rds_ok hRd
  have ok:=weigh_ok hb hlos (by omega) hN
  have hVb:=weigh_bnd hb hlos hRok (by omega) hN
  obtain ⟨D,hD,dok⟩:=dry_ok hlos (by omega) ok
  have hV16:V.length=16:=ok.good.len
  have hVl:=row_len hV16
  have hVt:(V.flatMap spC).take 32=V.flatMap spC:=List.take_of_length_le (by omega)
  have hVs:=row_sing V
  obtain ⟨pcs,hpcs⟩:∃ pcs,pcs=procC b pv:=⟨_,rfl⟩
  have hpl:pcs.length=5:=by rw [hpcs]; rfl
  have hpt':pcs.take 5=pcs:=List.take_of_length_le (by omega)
  have ps1:singles pcs=true:=by rw [hpcs,hpe]; rfl
  obtain ⟨w3,hw3e⟩:∃ w3:AW,w3=⟨(((w2.heap.put w2.next (some (.cells pzC 97 false))).put (w2.next + 1) (some (.cells zerC 104 false))).put w2.next (some (.cells pcs 97 false))).put (w2.next + 1) (some (.cells (V.flatMap spC) 104 false)),w2.next + 1 + 1,w2.lim⟩:=⟨_,rfl⟩
  have u3:Up w2 w3:=by rw [hw3e]; exact ((((Up.refl w2).add _).put (Nat.le_succ _) (Nat.le_succ _)).put (Nat.le_refl _) (Nat.le_refl _)).put (Nat.le_succ _) (Nat.le_refl _)
  have n3:w3.next=w2.next + 1 + 1:=by rw [hw3e]
  obtain ⟨v66,w4,c66,hpr,u4⟩:=call66 (ov:=ov) m ho66 h64 h84 h88 b pv (lossL r acts) V (iniW b (lossL r acts) l) D (by omega) hlos hVb ok hD dok w3 (by have:=u3.lim; omega) (hproc.up u3)
  rw [hw3e] at c66
  rw [← hpcs] at c62 c66
  obtain ⟨B4,hv4,_,_⟩:=id hpr
  have nj:notJunk v66=some v66:=by rw [hv4]; rfl
  rw [he,hN]
  generalize hcs:V.flatMap spC=cs at c62 c66 hVl hVt hVs
  simp [mc25,cellsOf_agg,ez,epz,c62,lw2,lw21,hz,hzt,hzd,hzs,hp1,hpd,hps,hpl,hpt',ps1,hVl,hVt,hVs,c66,nj,tupV]
  exact ⟨⟨D,hD,hpr⟩,((u1.trans u2).trans u3).trans u4⟩
set_option maxHeartbeats 1000000 in
theorem call23 {ov:Ov} (m:Nat) (ho:∀ args w,ov 23 args w=none) (ho57:∀ args w,ov 57 args w=none) (ho62:∀ args w,ov 62 args w=none) (h64:HasP ov 64 S64.F) (h68:HasP ov 68 S68.F) (h86:HasP ov 86 S86.F) (r:List CAct) (d:List CDay) (b:CBox) (acts:List Int) (l:List CRead) (rv dv av lv:Value) (we:AW) (hlim:we.lim≤we.next) (hL:LimW we) (hrv:RowsV actC we rv r) (hdv:RowsV cdayC we dv d) (hav:RowsV intC we av acts) (hlv:RowsV readC we lv l) :
  ∃ v w',(run Tryd.prog ov (m + 3)).call 23 [rv,dv,.agg ⟨boxC b⟩,av,lv] we .none=.ok (.ret v) w' .none∧(∃ s:Sp,v=.tuple ⟨[.agg ⟨spC s⟩,.int .i64 (weiE r d b acts l)]⟩∧(weiE r d b acts l ≠ 0→s=(0,0))∧(weiE r d b acts l=0→∃ V,weighF b (lossL r acts) l=some V∧s=gtS V ((lossL r acts).length + 1)))∧Up we w':=by
 refine call_wp text23 (by simp) (ho _ _) ?_
 have hz:zerC.length=32:=rfl
 have hzt:zerC.take 32=zerC:=rfl
 have hzd:zerC.drop 32=[]:=rfl
 have hzs:singles zerC=true:=rfl
 have epz:([.int .i64 0,.int .i64 0,.int .i64 0,.int .i64 0,.slice none 0 0]:List Value)=pzC:=rfl
 have hp1:pzC.length=5:=rfl
 have hpd:pzC.drop 5=[]:=rfl
 have hps:singles pzC=true:=rfl
 obtain ⟨w1,hw1e⟩:∃ w1:AW,w1=⟨(we.heap.put we.next (some (.cells [.int .i64 b.wl,.int .i64 b.wh,.int .i64 b.sl,.int .i64 b.sh] 27 false))).put (we.next + 1) (some (.cells [.int .i64 0,.int .i64 0] 25 false)),we.next + 1 + 1,we.lim⟩:=⟨_,rfl⟩
 have u1:Up we w1:=by rw [hw1e]; exact ((Up.refl we).add _).put (Nat.le_succ _) (Nat.le_succ _)
 have n1:w1.next=we.next + 1 + 1:=by rw [hw1e]
 have l1:w1.lim=we.lim:=u1.lim
 have g1:w1.heap.get (we.next + 1)=some (.cells [.int .i64 0,.int .i64 0] 25 false):=by rw [hw1e]; simp
 obtain ⟨v62,w2,c62,hv,u2⟩:=call62 (ov:=ov) m ho62 ho57 h68 h86 r d b acts l rv dv av lv w1 (by omega) (hL.up u1) (hrv.up u1) (hdv.up u1) (hav.up u1) (hlv.up u1)
 have hn2:=u2.next
 have hl2:=u2.lim
 have g2:w2.heap.get (we.next + 1)=some (.cells [.int .i64 0,.int .i64 0] 25 false):=by rw [u2.at (by omega)]; exact g1
 have lw2:w2.lim≤w2.next:=by omega
 have lw21:w2.lim≤w2.next + 1:=by omega
 have lwe:w2.lim≤we.next + 1:=by omega
 have e1:¬ we.next + 1=w2.next:=by omega
 have e2:¬ we.next + 1=w2.next + 1:=by omega
 have e2':¬ we.next=w2.next:=by omega
 have e3:¬ w2.next=we.next + 1:=by omega
 have e4:¬ w2.next + 1=we.next + 1:=by omega
 have e4':¬ w2.next=we.next:=by omega
 rw [hw1e] at c62
 simp only [boxC] at c62 ⊢
 rcases hv with ⟨hne,rfl⟩ | ⟨he,pv,V,hN,rfl,hproc⟩
 ·simp [mc23,cellsOf_agg,ez,epz,c62,lw2,lw21,lwe,hz,hzt,hzd,hzs,hp1,hpd,hps,hne,tupV,g2,e1,e2,e2',e3,e4,e4']
  refine ⟨rfl,?_⟩
  exact ((((((u1.trans u2).add _).put (by omega) (Nat.le_succ _)).put (by omega) (Nat.le_refl _)).put (by omega) (Nat.le_refl _)).put (by omega) (Nat.le_refl _))
 ·obtain ⟨B,hpe,hB1,hB2⟩:=id hproc
  obtain ⟨hA,hRd,_⟩:=wei_zero he
  obtain ⟨hT,h14,hact⟩:=tru_ok hA
  have hLl:(lossL r acts).length=acts.length:=by simp [lossL]
  have hb:=(act_ofE hA).2.2.1
  have hlos:=los_ok hA
  have ok:=weigh_ok hb hlos (by omega) hN
  have hV16:V.length=16:=ok.good.len
  have hVl:=row_len hV16
  have hVt:(V.flatMap spC).take 32=V.flatMap spC:=List.take_of_length_le (by omega)
  have hVs:=row_sing V
  have r64:=fun w=>S64.call (P:=Tryd.prog) h64 (m:=m + 1) (w:=w) ⟨b,some ⟨B,0,none⟩,(lossL r acts).length,(lossL r acts).length,rfl,by omega,rfl⟩
  rw [← hpe] at r64
  obtain ⟨pcs,hpcs⟩:∃ pcs,pcs=procC b pv:=⟨_,rfl⟩
  have hpl:pcs.length=5:=by rw [hpcs]; rfl
  have hpt':pcs.take 5=pcs:=List.take_of_length_le (by omega)
  have ps1:singles pcs=true:=by rw [hpcs,hpe]; rfl
  rw [← hpcs] at c62 r64
  obtain ⟨N,hNe⟩:∃ N,N=(lossL r acts).length + 1:=⟨_,rfl⟩
  have hia:=fun w=>ia104 w ⟨w2.next + 1,0,none⟩ N (by omega)
  rw [show ((lossL r acts).length:Int) + 1=(N:Int) by omega] at r64
  obtain ⟨tk,q⟩:=row_ld hV16 (i:=N) (by omega)
  rw [he,hN]
  generalize hcs:V.flatMap spC=cs at c62 hVl hVt hVs tk
  simp [mc23,cellsOf_agg,ez,epz,c62,lw2,lw21,lwe,hz,hzt,hzd,hzs,hp1,hpd,hps,hpl,hpt',ps1,hVl,hVt,hVs,r64,hia,tk,q,tupV,g2,e1,e2,e2',e3,e4,e4']
  refine ⟨by rw [hNe]; rfl,?_⟩
  exact (((((u1.trans u2).add _).put (by omega) (Nat.le_succ _)).put (by omega) (Nat.le_refl _)).put (by omega) (Nat.le_refl _)).put (by omega) (Nat.le_refl _)
end Go.Proofs.YtmemdglkkgmjnaaDoor.walk
namespace Go.Proofs.YtmemdglkkgmjnaaDoor.walk
open Go Go.Sh
set_option maxRecDepth 100000
set_option linter.unusedSimpArgs false
def rowN (n:Nat) (Y:Nat→Int):List Int:=(List.range (n + 1)).map Y
@[simp] theorem rowN_length (n:Nat) (Y:Nat→Int):(rowN n Y).length=n + 1:=by simp [rowN]
theorem rowN_at {n k:Nat} {Y:Nat→Int} (h:k≤n):(rowN n Y)[k]?=some (Y k):=by
 unfold rowN
 rw [List.getElem?_map,List.getElem?_range (by omega)]; rfl
theorem rowN_congr {n:Nat} {Y Z:Nat→Int} (h:∀ k,k≤n→Y k=Z k):rowN n Y=rowN n Z:=by
 refine List.ext_getElem? fun k=>?_
 by_cases hk:k≤n
 ·rw [rowN_at hk,rowN_at hk,h k hk]
 ·rw [List.getElem?_eq_none (by simp; omega),List.getElem?_eq_none (by simp; omega)]
theorem rowN_set {n j:Nat} {Y Z:Nat→Int} {z:Int} (h:j≤n) (hz:Z j=z) (hY:∀ k,k≤n→k ≠ j→Y k=Z k):(rowN n Y).set j z=rowN n Z:=by
 refine List.ext_getElem? fun k=>?_
 rw [List.getElem?_set]
 by_cases e:j=k
 ·subst e
  rw [if_pos rfl,if_pos (by simp; omega),rowN_at h,hz]
 ·rw [if_neg e]
  by_cases hk:k≤n
  ·rw [rowN_at hk,rowN_at hk,hY k hk (fun h=>e h.symm)]
  ·rw [List.getElem?_eq_none (by simp; omega),List.getElem?_eq_none (by simp; omega)]
theorem fint_at:∀ {l:List Int} {i:Nat} {z:Int},l[i]?=some z→(l.flatMap intC)[i]?=some (.int .i64 z)
 | [],i,z,h=>by simp at h
 | x::l,0,z,h=>by cases h; rfl
 | x::l,i + 1,z,h=>by
  rw [List.flatMap_cons]
  show (l.flatMap intC)[i]?=_
  exact fint_at (by simpa using h)
def fwN (L U:Nat→Sp) (a:Nat) (v:Int) (c j:Nat):Int:=if a≤j∧j≤a + c then fwdS L U a v (j - a) else 0
def bwN (L U:Nat→Sp) (a:Nat) (v:Int) (k j:Nat):Int:=if a≤j then fwdS L U a v (j - a) else if a≤j + k then bwdS L U a v (a - j) else 0
theorem fwN_next {L U:Nat→Sp} {a:Nat} {v:Int} {c n:Nat} (h:a + c + 1≤n):(rowN n (fwN L U a v c)).set (a + c + 1) (fwdS L U a v (c + 1))=rowN n (fwN L U a v (c + 1)):=by
 refine rowN_set h ?_ fun k hk hne=>?_
 ·unfold fwN; rw [if_pos ⟨by omega,by omega⟩,show a + c + 1 - a=c + 1 by omega]
 ·unfold fwN
  by_cases h1:a≤k∧k≤a + c
  ·rw [if_pos h1,if_pos ⟨h1.1,by omega⟩]
  ·rw [if_neg h1,if_neg (by omega)]
theorem fwN_end {L U:Nat→Sp} {a:Nat} {v:Int} {c n:Nat} (h:a + c=n):rowN n (fwN L U a v c)=rowN n (bwN L U a v 0):=by
 refine rowN_congr fun k hk=>?_
 unfold fwN bwN
 by_cases h1:a≤k
 ·rw [if_pos ⟨h1,by omega⟩,if_pos h1]
 ·rw [if_neg (by omega),if_neg h1,if_neg (by omega)]
theorem bwN_next {L U:Nat→Sp} {a:Nat} {v:Int} {k n:Nat} (ha:a≤n) (h:k < a):(rowN n (bwN L U a v k)).set (a - k - 1) (bwdS L U a v (k + 1))=rowN n (bwN L U a v (k + 1)):=by
 refine rowN_set (by omega) ?_ fun j hj hne=>?_
 ·unfold bwN; rw [if_neg (by omega),if_pos (by omega),show a - (a - k - 1)=k + 1 by omega]
 ·unfold bwN
  by_cases h1:a≤j
  ·rw [if_pos h1,if_pos h1]
  ·rw [if_neg h1,if_neg h1]
   by_cases h2:a≤j + k
   ·rw [if_pos h2,if_pos (by omega)]
   ·rw [if_neg h2,if_neg (by omega)]
theorem bwN_end {L U:Nat→Sp} {a:Nat} {v:Int} {n:Nat}:rowN n (bwN L U a v a)=rowN n (chainS L U a v):=by
 refine rowN_congr fun k hk=>?_
 unfold bwN chainS
 by_cases h1:a≤k
 ·rw [if_pos h1,if_pos h1]
 ·rw [if_neg h1,if_neg h1,if_pos (by omega)]
structure In40 (we:AW) (r:List CAct) (d:List CDay) (b:CBox) (acts:List Int) (rv dv av:Value) (n:Nat) (Y:Nat→Int) (w:AW):Prop where
 box:w.heap.get we.next=some (.cells (curC rv dv b av) 30 false)
 row:w.heap.get (we.next + 1)=some (.cells ((rowN n Y).flatMap intC) 3 false)
 up:Up we w
 next:we.next + 2≤w.next
structure KeepC (t t':Tm):Prop where
 k1:tget t' 1=tget t 1
 k2:tget t' 2=tget t 2
 k4:tget t' 4=tget t 4
 k10:tget t' 10=tget t 10
set_option maxHeartbeats 4000000 in
theorem loop40a {ov:Ov} (m:Nat) (r:List CAct) (d:List CDay) (b:CBox) (acts:List Int) (hact:∀ a ∈ acts,0≤a∧∃ x,r[a.toNat]?=some x) (hn14:acts.length≤14) (S:List Sp) (hS:S.length=acts.length + 1) (hSb:∀ k,k≤acts.length→0≤(gtS S k).1∧(gtS S k).1≤(gtS S k).2∧(gtS S k).2≤1000000) (hLb:∀ i,i < acts.length→0≤(gtS (lossL r acts) i).1∧(gtS (lossL r acts) i).1≤(gtS (lossL r acts) i).2∧(gtS (lossL r acts) i).2≤1000000) (hT:Tight acts.length (gtS (lossL r acts)) (gtS S)) (a:Nat) (ha:a≤acts.length) (v:Int) (hv:inn v (gtS S a)) (rv dv av sv:Value) (we:AW) (hlim:we.lim≤we.next) (hrv:RowsV actC we rv r) (hav:RowsV intC we av acts) (hsv:RowsV spC we sv S)
  (Q:Ex→Tm→AW→Prop) (t:Tm) (w:AW) (hw:In40 we r d b acts rv dv av acts.length (fwN (gtS (lossL r acts)) (gtS S) a v 0) w) (t1:tget t 1=sv) (t4:tget t 4=.pointer (some ⟨we.next,0,none⟩)) (t10:tget t 10=.slice (some ⟨we.next + 1,0,none⟩) S.length S.length) (t11:tget t 11=.int .i64 (a:Nat))
  (hQ:∀ t' w',In40 we r d b acts rv dv av acts.length (bwN (gtS (lossL r acts)) (gtS S) a v 0) w'→KeepC t t'→Q (.exit 0) t' w'):wp (exM Tryd.prog (run Tryd.prog ov (m + 1)) (.loop mc40_l0) t w) Q:=by
 refine wp_rounds (fun c t' w'=>In40 we r d b acts rv dv av acts.length (fwN (gtS (lossL r acts)) (gtS S) a v c) w'∧KeepC t t'∧tget t' 11=.int .i64 ((a + c:Nat):Int)∧a + c≤acts.length) 20 (by decide) ⟨hw,⟨rfl,rfl,rfl,rfl⟩,t11,ha⟩ ?_
 clear t11 hw
 rintro c t' w' ⟨hw,hk,t11,hc⟩
 obtain ⟨i,hi⟩:∃ i,a + c=i:=⟨_,rfl⟩
 rw [hi] at t11 hc
 have q1:=hk.k1; have q4:=hk.k4; have q10:=hk.k10
 rw [t1] at q1; rw [t4] at q4; rw [t10] at q10
 have hbox:=hw.box
 have hrow:=hw.row
 simp only [curC] at hbox
 have hl28:∀ (w:AW) p c,builtinA Tryd.prog w .len #[28] 3 [.slice p S.length c]=.val (.int .i64 (S.length:Nat)) w:=fun w p c=>rfl
 have hw1:IntKind.wrap .i64 ((i:Int) + 1)=(i:Int) + 1:=wrap64_in (by omega) (by omega)
 have hin:=fwdS_in hT (fun i hi=>(hLb i hi).2.1) (fun i hi=>(hSb i hi).2.1) hv
 by_cases hlt:i < acts.length
 ·obtain ⟨aI,hI⟩:∃ p,acts[i]?=some p:=⟨_,List.getElem?_eq_getElem hlt⟩
  obtain ⟨ha0,x,hx⟩:=hact aI (List.mem_of_getElem? hI)
  obtain ⟨n,rfl⟩:∃ n:Nat,aI=(n:Int):=⟨aI.toNat,by omega⟩
  simp only [Int.toNat_natCast] at hx
  have hn:=(List.getElem?_eq_some_iff.1 hx).1
  have hLi:gtS (lossL r acts) i=(x.ll,x.lh):=gtS_of (lossL_at hI (by simpa using hx))
  obtain ⟨bb,off,sq,cc,rfl,hra⟩:=hav.at_ i hlt
  obtain ⟨b2,off2,sq2,c2,rfl,hrb⟩:=hrv.at_ n hn
  obtain ⟨b3,off3,sq3,c3,rfl,hrs⟩:=hsv.at_ (i + 1) (by omega)
  have hld:=hra.int hI
  have f5:rdO (we.heap.get b2) (off2 + n * 7 + 5) 2=some [.int .i64 x.ll,.int .i64 x.lh]:=rdO_sub (hrb.rd actC_length hx) (j:=5) (k:=2) (by decide)
  have s0:=hrs.rd1 spC_length (gtS_at (W:=S) (i:=i + 1) (by omega)) (j:=0) rfl
  have s1:=hrs.rd1 spC_length (gtS_at (W:=S) (i:=i + 1) (by omega)) (j:=1) rfl
  simp only [Nat.add_zero] at s0
  rw [← hw.up.at hra.2] at hld
  rw [← hw.up.at hrb.2] at f5
  rw [← hw.up.at hrs.2] at s0 s1
  have hia:=fun w=>ia28 w ⟨bb,off,sq⟩ acts.length cc .i64 i hlt
  have hib:=fun w=>ia22 w ⟨b2,off2,sq2⟩ r.length c2 .i64 n hn
  have hic:∀ w,indexAddrA Tryd.prog w 43 (.slice (some ⟨b3,off3,sq3⟩) S.length c3) (.int .i64 ((i:Int) + 1))=.val (.pointer (some ((⟨b3,off3,sq3⟩:Addr).add ((i + 1) * 2)))) w:=fun w=>by
   have:=ia43 w ⟨b3,off3,sq3⟩ S.length c3 .i64 (i + 1) (by omega)
   rw [show ((i + 1:Nat):Int)=(i:Int) + 1 by omega] at this
   exact this
  have hid:=fun w=>ia28 w ⟨we.next + 1,0,none⟩ S.length S.length .i64 i (by omega)
  have hie:∀ w,indexAddrA Tryd.prog w 28 (.slice (some ⟨we.next + 1,0,none⟩) S.length S.length) (.int .i64 ((i:Int) + 1))=.val (.pointer (some ((⟨we.next + 1,0,none⟩:Addr).add ((i + 1) * 1)))) w:=fun w=>by
   have:=ia28 w ⟨we.next + 1,0,none⟩ S.length S.length .i64 (i + 1) (by omega)
   rw [show ((i + 1:Nat):Int)=(i:Int) + 1 by omega] at this
   exact this
  simp only [Nat.mul_one] at hia hid hie
  -- the numbers
  obtain ⟨F,hF⟩:∃ F,F=fwdS (gtS (lossL r acts)) (gtS S) a v c:=⟨_,rfl⟩
  obtain ⟨z,hz⟩:∃ z,z=fwdS (gtS (lossL r acts)) (gtS S) a v (c + 1):=⟨_,rfl⟩
  have hz2:z=min (gtS S (i + 1)).2 (F - x.ll):=by
   rw [hz,hF,← hi]
   show min (gtS S (a + c + 1)).2 (fwdS _ _ a v c - (gtS (lossL r acts) (a + c)).1)=_
   rw [hi,hLi]
  have hFin:=(hin c (by omega)).1
  have hzin:=hin (c + 1) (by omega)
  rw [← hz] at hzin
  have hzl:=hzin.2 c rfl
  rw [← hF,hi,hLi] at hzl
  rw [← hF,hi] at hFin
  have hzu:=hzin.1
  rw [show a + (c + 1)=i + 1 by omega] at hzu
  unfold inn at hFin hzu hzl
  have hLx:=hLb i hlt
  rw [hLi] at hLx
  have b1:=hSb i (by omega)
  have b2':=hSb (i + 1) (by omega)
  simp only at hLx hzl
  have w1:IntKind.wrap .i64 (F - x.ll)=F - x.ll:=wrap64_in (by omega) (by omega)
  have w2:IntKind.wrap .i64 (F - x.lh)=F - x.lh:=wrap64_in (by omega) (by omega)
  have enot:¬ z < max (gtS S (i + 1)).1 (F - x.lh):=by
   have:=Int.max_def (gtS S (i + 1)).1 (F - x.lh)
   split at this <;> omega
  have hcur:((rowN acts.length (fwN (gtS (lossL r acts)) (gtS S) a v c)).flatMap intC)[i]?=some (.int .i64 F):=fint_at (by
   rw [rowN_at (by omega)]; unfold fwN; rw [if_pos ⟨by omega,by omega⟩,hF,show i - a=c by omega])
  have hset:=flat_set intC_length (rowN acts.length (fwN (gtS (lossL r acts)) (gtS S) a v c)) (i + 1) z (by simp; omega)
  have hnx:=fwN_next (L:=gtS (lossL r acts)) (U:=gtS S) (v:=v) (n:=acts.length) (show a + c + 1≤acts.length by omega)
  rw [hi,← hz] at hnx
  rw [hnx] at hset
  have hcur2:((rowN acts.length (fwN (gtS (lossL r acts)) (gtS S) a v (c + 1))).flatMap intC)[i]?=some (.int .i64 F):=fint_at (by
   rw [rowN_at (by omega)]; unfold fwN; rw [if_pos ⟨by omega,by omega⟩,hF,show i - a=c by omega])
  have hcur3:((rowN acts.length (fwN (gtS (lossL r acts)) (gtS S) a v (c + 1))).flatMap intC)[i + 1]?=some (.int .i64 z):=fint_at (by
   rw [rowN_at (by omega)]; unfold fwN; rw [if_pos ⟨by omega,by omega⟩,hz,show i + 1 - a=c + 1 by omega])
  have hfl:((rowN acts.length (fwN (gtS (lossL r acts)) (gtS S) a v c)).flatMap intC).length=S.length:=by rw [flat_length intC_length]; simp; omega
  obtain ⟨cs,hcs⟩:∃ cs,cs=(rowN acts.length (fwN (gtS (lossL r acts)) (gtS S) a v c)).flatMap intC:=⟨_,rfl⟩
  obtain ⟨cs1,hcs1⟩:∃ cs,cs=(rowN acts.length (fwN (gtS (lossL r acts)) (gtS S) a v (c + 1))).flatMap intC:=⟨_,rfl⟩
  rw [← hcs] at hrow hcur hset hfl
  rw [← hcs1] at hset hcur2 hcur3
  simp only [intC,List.cons_append,List.nil_append,Nat.mul_one] at hset
  have hnw:=hw.next
  have hlm:=hw.up.lim
  have e1:¬ we.next=w'.next:=by omega
  have e2:¬ we.next + 1=w'.next:=by omega
  have e3:¬ w'.next=we.next + 1:=by omega
  have e0:¬ bb=w'.next:=by have:=hra.2; omega
  have e4:¬ b2=w'.next:=by have:=hrb.2; omega
  have e5:¬ b3=w'.next:=by have:=hrs.2; omega
  have e6:¬ b3=we.next + 1:=by have:=hrs.2; omega
  have lw:w'.lim≤w'.next:=by omega
  have lw1:w'.lim≤we.next + 1:=by omega
  have q3:i + 1 < S.length:=by omega
  have q5:i + 1 + 1≤S.length:=by omega
  have hset':=hset
  rw [show i + 1 + 1=i + 2 by omega] at hset'
  have q6:i + 2≤S.length:=by omega
  have q3i:(i:Int) + 1 < (S.length:Int):=by omega
  simp [mc40_l0,q1,q4,q10,t11,hl28,hw1,q3,q3i,hbox,hia,hld,hib,f5,hic,hid,hie,s0,s1,hrow,hcur,hfl,w1,w2,← hz2,hset,hset',q5,q6,hcur2,hcur3,enot,e0,e1,e2,e3,e4,e5,e6,lw,lw1]
  refine ⟨by omega,⟨?_,?_,?_,?_⟩,⟨by simp [hk.k1],by simp [hk.k2],by simp [hk.k4],by simp [hk.k10]⟩,by omega,by omega⟩
  ·simp [e1,hbox,curC]
  ·simp [hcs1]
  ·exact ((hw.up.add _).put (by omega) (Nat.le_refl _)).put (by omega) (Nat.le_refl _)
  ·show we.next + 2≤w'.next + 1; omega
 ·have:i=acts.length:=by omega
  have q3i:¬ (i:Int) + 1 < (S.length:Int):=by omega
  simp [mc40_l0,q10,t11,hl28,hw1,q3i]
  rw [this] at hi
  obtain ⟨w1,w2,w3,w4⟩:=hw
  rw [fwN_end hi] at w2
  exact hQ _ _ ⟨w1,w2,w3,w4⟩ ⟨by simp [hk.k1],by simp [hk.k2],by simp [hk.k4],by simp [hk.k10]⟩
set_option maxHeartbeats 4000000 in
theorem loop40b {ov:Ov} (m:Nat) (r:List CAct) (d:List CDay) (b:CBox) (acts:List Int) (hact:∀ a ∈ acts,0≤a∧∃ x,r[a.toNat]?=some x) (hn14:acts.length≤14) (S:List Sp) (hS:S.length=acts.length + 1) (hSb:∀ k,k≤acts.length→0≤(gtS S k).1∧(gtS S k).1≤(gtS S k).2∧(gtS S k).2≤1000000) (hLb:∀ i,i < acts.length→0≤(gtS (lossL r acts) i).1∧(gtS (lossL r acts) i).1≤(gtS (lossL r acts) i).2∧(gtS (lossL r acts) i).2≤1000000) (hT:Tight acts.length (gtS (lossL r acts)) (gtS S)) (a:Nat) (ha:a≤acts.length) (v:Int) (hv:inn v (gtS S a)) (rv dv av sv:Value) (we:AW) (hlim:we.lim≤we.next) (hrv:RowsV actC we rv r) (hav:RowsV intC we av acts) (hsv:RowsV spC we sv S)
  (Q:Ex→Tm→AW→Prop) (t:Tm) (w:AW) (hw:In40 we r d b acts rv dv av acts.length (bwN (gtS (lossL r acts)) (gtS S) a v 0) w) (t1:tget t 1=sv) (t4:tget t 4=.pointer (some ⟨we.next,0,none⟩)) (t10:tget t 10=.slice (some ⟨we.next + 1,0,none⟩) S.length S.length) (t13:tget t 13=.int .i64 ((a:Int) - 1))
  (hQ:∀ t' w',In40 we r d b acts rv dv av acts.length (chainS (gtS (lossL r acts)) (gtS S) a v) w'→KeepC t t'→Q (.exit 2) t' w'):wp (exM Tryd.prog (run Tryd.prog ov (m + 1)) (.loop mc40_l1) t w) Q:=by
 refine wp_rounds (fun k t' w'=>In40 we r d b acts rv dv av acts.length (bwN (gtS (lossL r acts)) (gtS S) a v k) w'∧KeepC t t'∧tget t' 13=.int .i64 ((a:Int) - 1 - k)∧k≤a) 20 (by decide) ⟨hw,⟨rfl,rfl,rfl,rfl⟩,by simpa using t13,Nat.zero_le _⟩ ?_
 clear t13 hw
 rintro k t' w' ⟨hw,hk,t13,hka⟩
 have q1:=hk.k1; have q4:=hk.k4; have q10:=hk.k10
 rw [t1] at q1; rw [t4] at q4; rw [t10] at q10
 have hbox:=hw.box
 have hrow:=hw.row
 simp only [curC] at hbox
 have hin:=bwdS_in hT (fun i hi=>(hLb i hi).2.1) (fun i hi=>(hSb i hi).2.1) ha hv
 by_cases hlt:k < a
 ·obtain ⟨i,hi⟩:∃ i,a - k - 1=i:=⟨_,rfl⟩
  rw [show (a:Int) - 1 - k=(i:Int) by omega] at t13
  have hil:i < acts.length:=by omega
  have hge:(0:Int)≤(i:Int):=by omega
  have hw1:IntKind.wrap .i64 ((i:Int) + 1)=(i:Int) + 1:=wrap64_in (by omega) (by omega)
  have hw0:IntKind.wrap .i64 ((i:Int) - 1)=(i:Int) - 1:=wrap64_in (by omega) (by omega)
  obtain ⟨aI,hI⟩:∃ p,acts[i]?=some p:=⟨_,List.getElem?_eq_getElem hil⟩
  obtain ⟨ha0,x,hx⟩:=hact aI (List.mem_of_getElem? hI)
  obtain ⟨n,rfl⟩:∃ n:Nat,aI=(n:Int):=⟨aI.toNat,by omega⟩
  simp only [Int.toNat_natCast] at hx
  have hn:=(List.getElem?_eq_some_iff.1 hx).1
  have hLi:gtS (lossL r acts) i=(x.ll,x.lh):=gtS_of (lossL_at hI (by simpa using hx))
  obtain ⟨bb,off,sq,cc,rfl,hra⟩:=hav.at_ i hil
  obtain ⟨b2,off2,sq2,c2,rfl,hrb⟩:=hrv.at_ n hn
  obtain ⟨b3,off3,sq3,c3,rfl,hrs⟩:=hsv.at_ i (by omega)
  have hld:=hra.int hI
  have f5:rdO (we.heap.get b2) (off2 + n * 7 + 5) 2=some [.int .i64 x.ll,.int .i64 x.lh]:=rdO_sub (hrb.rd actC_length hx) (j:=5) (k:=2) (by decide)
  have s0:=hrs.rd1 spC_length (gtS_at (W:=S) (i:=i) (by omega)) (j:=0) rfl
  have s1:=hrs.rd1 spC_length (gtS_at (W:=S) (i:=i) (by omega)) (j:=1) rfl
  simp only [Nat.add_zero] at s0
  rw [← hw.up.at hra.2] at hld
  rw [← hw.up.at hrb.2] at f5
  rw [← hw.up.at hrs.2] at s0 s1
  have hia:=fun w=>ia28 w ⟨bb,off,sq⟩ acts.length cc .i64 i hil
  have hib:=fun w=>ia22 w ⟨b2,off2,sq2⟩ r.length c2 .i64 n hn
  have hic:=fun w=>ia43 w ⟨b3,off3,sq3⟩ S.length c3 .i64 i (by omega)
  have hid:=fun w=>ia28 w ⟨we.next + 1,0,none⟩ S.length S.length .i64 i (by omega)
  have hie:∀ w,indexAddrA Tryd.prog w 28 (.slice (some ⟨we.next + 1,0,none⟩) S.length S.length) (.int .i64 ((i:Int) + 1))=.val (.pointer (some ((⟨we.next + 1,0,none⟩:Addr).add ((i + 1) * 1)))) w:=fun w=>by
   have:=ia28 w ⟨we.next + 1,0,none⟩ S.length S.length .i64 (i + 1) (by omega)
   rw [show ((i + 1:Nat):Int)=(i:Int) + 1 by omega] at this
   exact this
  simp only [Nat.mul_one] at hia hid hie
  -- the numbers
  obtain ⟨F,hF⟩:∃ F,F=bwdS (gtS (lossL r acts)) (gtS S) a v k:=⟨_,rfl⟩
  obtain ⟨z,hz⟩:∃ z,z=bwdS (gtS (lossL r acts)) (gtS S) a v (k + 1):=⟨_,rfl⟩
  have hz2:z=min (gtS S i).2 (F + x.lh):=by
   rw [hz,hF]
   show min (gtS S (a - k - 1)).2 (bwdS _ _ a v k + (gtS (lossL r acts) (a - k - 1)).2)=_
   rw [hi,hLi]
  have hFin:=(hin k (by omega)).1
  have hzin:=hin (k + 1) (by omega)
  rw [← hz] at hzin
  have hzl:=hzin.2 k rfl
  rw [← hz,← hF,hi,hLi] at hzl
  rw [← hF,show a - k=i + 1 by omega] at hFin
  have hzu:=hzin.1
  rw [show a - (k + 1)=i by omega] at hzu
  unfold inn at hFin hzu hzl
  have hLx:=hLb i hil
  rw [hLi] at hLx
  have b1:=hSb i (by omega)
  have b2':=hSb (i + 1) (by omega)
  simp only at hLx hzl
  have w1:IntKind.wrap .i64 (F + x.lh)=F + x.lh:=wrap64_in (by omega) (by omega)
  have w2:IntKind.wrap .i64 (F + x.ll)=F + x.ll:=wrap64_in (by omega) (by omega)
  have enot:¬ z < max (gtS S i).1 (F + x.ll):=by
   have:=Int.max_def (gtS S i).1 (F + x.ll)
   split at this <;> omega
  have hval:∀ k',k'=k∨k'=k + 1→bwN (gtS (lossL r acts)) (gtS S) a v k' (i + 1)=F:=by
   intro k' hk'
   unfold bwN
   by_cases h0:a≤i + 1
   ·have:k=0:=by omega
    subst this
    rw [if_pos h0,show i + 1 - a=0 by omega,hF]; rfl
   ·rw [if_neg h0,if_pos (by omega),hF,show a - (i + 1)=k by omega]
  have hcur:((rowN acts.length (bwN (gtS (lossL r acts)) (gtS S) a v k)).flatMap intC)[i + 1]?=some (.int .i64 F):=fint_at (by
   rw [rowN_at (by omega),hval k (.inl rfl)])
  have hset:=flat_set intC_length (rowN acts.length (bwN (gtS (lossL r acts)) (gtS S) a v k)) i z (by simp; omega)
  have hnx:=bwN_next (L:=gtS (lossL r acts)) (U:=gtS S) (v:=v) (n:=acts.length) ha hlt
  rw [hi,← hz] at hnx
  rw [hnx] at hset
  have hcur2:((rowN acts.length (bwN (gtS (lossL r acts)) (gtS S) a v (k + 1))).flatMap intC)[i + 1]?=some (.int .i64 F):=fint_at (by
   rw [rowN_at (by omega),hval (k + 1) (.inr rfl)])
  have hcur3:((rowN acts.length (bwN (gtS (lossL r acts)) (gtS S) a v (k + 1))).flatMap intC)[i]?=some (.int .i64 z):=fint_at (by
   rw [rowN_at (by omega)]; unfold bwN; rw [if_neg (by omega),if_pos (by omega),hz,show a - i=k + 1 by omega])
  have hfl:((rowN acts.length (bwN (gtS (lossL r acts)) (gtS S) a v k)).flatMap intC).length=S.length:=by rw [flat_length intC_length]; simp; omega
  obtain ⟨cs,hcs⟩:∃ cs,cs=(rowN acts.length (bwN (gtS (lossL r acts)) (gtS S) a v k)).flatMap intC:=⟨_,rfl⟩
  obtain ⟨cs1,hcs1⟩:∃ cs,cs=(rowN acts.length (bwN (gtS (lossL r acts)) (gtS S) a v (k + 1))).flatMap intC:=⟨_,rfl⟩
  rw [← hcs] at hrow hcur hset hfl
  rw [← hcs1] at hset hcur2 hcur3
  simp only [intC,List.cons_append,List.nil_append,Nat.mul_one] at hset
  have hnw:=hw.next
  have hlm:=hw.up.lim
  have e0:¬ bb=w'.next:=by have:=hra.2; omega
  have e1:¬ we.next=w'.next:=by omega
  have e2:¬ we.next + 1=w'.next:=by omega
  have e3:¬ w'.next=we.next + 1:=by omega
  have e4:¬ b2=w'.next:=by have:=hrb.2; omega
  have e5:¬ b3=w'.next:=by have:=hrs.2; omega
  have e6:¬ b3=we.next + 1:=by have:=hrs.2; omega
  have lw:w'.lim≤w'.next:=by omega
  have lw1:w'.lim≤we.next + 1:=by omega
  have q5:i + 1≤S.length:=by omega
  simp [mc40_l1,q1,q4,q10,t13,hge,hw1,hw0,hbox,hia,hld,hib,f5,hic,hid,hie,s0,s1,hrow,hcur,hfl,w1,w2,← hz2,hset,q5,hcur2,hcur3,enot,e0,e1,e2,e3,e4,e5,e6,lw,lw1]
  refine ⟨by omega,⟨?_,?_,?_,?_⟩,⟨by simp [hk.k1],by simp [hk.k2],by simp [hk.k4],by simp [hk.k10]⟩,by omega,by omega⟩
  ·simp [e1,hbox,curC]
  ·simp [hcs1]
  ·exact ((hw.up.add _).put (by omega) (Nat.le_refl _)).put (by omega) (Nat.le_refl _)
  ·show we.next + 2≤w'.next + 1; omega
 ·have:k=a:=by omega
  subst this
  rw [show (k:Int) - 1 - k = -1 by omega] at t13
  simp [mc40_l1,t13]
  obtain ⟨w1,w2,w3,w4⟩:=hw
  rw [bwN_end] at w2
  exact hQ _ _ ⟨w1,w2,w3,w4⟩ ⟨by simp [hk.k1],by simp [hk.k2],by simp [hk.k4],by simp [hk.k10]⟩
end Go.Proofs.YtmemdglkkgmjnaaDoor.walk
namespace Go.Proofs.YtmemdglkkgmjnaaDoor.walk
open Go Go.Sh
set_option maxRecDepth 100000
set_option linter.unusedSimpArgs false
set_option maxHeartbeats 1000000 in
theorem call40 {ov:Ov} (m:Nat) (ho:∀ args w,ov 40 args w=none) (r:List CAct) (d:List CDay) (b:CBox) (acts:List Int) (hact:∀ a ∈ acts,0≤a∧∃ x,r[a.toNat]?=some x) (hn14:acts.length≤14) (S:List Sp) (hS:S.length=acts.length + 1) (hSb:∀ k,k≤acts.length→0≤(gtS S k).1∧(gtS S k).1≤(gtS S k).2∧(gtS S k).2≤1000000) (hLb:∀ i,i < acts.length→0≤(gtS (lossL r acts) i).1∧(gtS (lossL r acts) i).1≤(gtS (lossL r acts) i).2∧(gtS (lossL r acts) i).2≤1000000) (hT:Tight acts.length (gtS (lossL r acts)) (gtS S)) (a:Nat) (ha:a≤acts.length) (v:Int) (hv:inn v (gtS S a)) (rv dv av sv:Value) (we:AW) (hlim:we.lim≤we.next) (hrv:RowsV actC we rv r) (hav:RowsV intC we av acts) (hsv:RowsV spC we sv S) :
  ∃ y w',(run Tryd.prog ov (m + 2)).call 40 [.agg ⟨curC rv dv b av⟩,sv,.int .i64 (a:Nat),.int .i64 v] we .none=.ok (.ret y) w' .none∧(∃ B,y=.tuple ⟨[.slice (some ⟨B,0,none⟩) (acts.length + 1) (acts.length + 1),.bool true]⟩∧w'.heap.get B=some (.cells ((rowN acts.length (chainS (gtS (lossL r acts)) (gtS S) a v)).flatMap intC) 3 false)∧B < w'.next)∧Up we w':=by
 refine call_wp text40 (by simp) (ho _ _) ?_
 have hl43:∀ w2:AW,builtinA Tryd.prog w2 .len #[43] 3 [sv]=.val (.int .i64 (S.length:Nat)) w2:=fun w2=>by
  obtain ⟨p,q,rfl⟩:=hsv.len; rfl
 have hmk:=fun w=>mk28 S.length (by omega) w
 have hid:=fun w=>ia28 w ⟨we.next + 1,0,none⟩ S.length S.length .i64 a (by omega)
 simp only [Nat.mul_one] at hid
 have hset:=flat_set intC_length (List.replicate S.length (0:Int)) a v (by simp; omega)
 have e0:List.replicate S.length (0:Int)=rowN acts.length (fun _=>0):=by
  refine List.ext_getElem? fun k=>?_
  by_cases hk:k≤acts.length
  ·rw [rowN_at hk,List.getElem?_replicate,if_pos (by omega)]
  ·rw [List.getElem?_eq_none (by simp; omega),List.getElem?_eq_none (by simp; omega)]
 have e1:(List.replicate S.length (0:Int)).set a v=rowN acts.length (fwN (gtS (lossL r acts)) (gtS S) a v 0):=by
  rw [e0]
  refine rowN_set ha ?_ fun k hk hne=>?_
  ·unfold fwN; rw [if_pos ⟨by omega,by omega⟩,show a - a=0 by omega]; rfl
  ·unfold fwN; rw [if_neg (by omega)]
 rw [e1] at hset
 have hfl:((List.replicate S.length (0:Int)).flatMap intC).length=S.length:=by rw [flat_length intC_length]; simp
 obtain ⟨cs,hcs⟩:∃ cs,cs=(List.replicate S.length (0:Int)).flatMap intC:=⟨_,rfl⟩
 obtain ⟨cs1,hcs1⟩:∃ cs,cs=(rowN acts.length (fwN (gtS (lossL r acts)) (gtS S) a v 0)).flatMap intC:=⟨_,rfl⟩
 rw [← hcs] at hset hfl hmk
 rw [← hcs1] at hset
 simp only [intC,List.cons_append,List.nil_append,Nat.mul_one] at hset
 have q5:a + 1≤S.length:=by omega
 have lw:we.lim≤we.next + 1:=by omega
 have hwa:IntKind.wrap .i64 ((a:Int) - 1)=(a:Int) - 1:=wrap64_in (by omega) (by omega)
 simp [mc40,cellsOf_agg,hl43,hmk,hid,hfl,hset,q5,lw]
 refine wp_seqX (wp_blockX (loop40a (d:=d) (b:=b) (dv:=dv) m r acts hact hn14 S hS hSb hLb hT a ha v hv rv av sv we hlim hrv hav hsv _ _ _ ⟨by simp,by simp [hcs1],?_,by simp only; omega⟩ (by simp) (by simp) (by simp) (by simp) ?_))
 ·exact (((Up.refl we).add _).put (Nat.le_succ _) (Nat.le_succ _)).put (Nat.le_succ _) (Nat.le_refl _)
 rintro t' w' hw hk
 have k1:=hk.k1; have k2:=hk.k2; have k4:=hk.k4; have k10:=hk.k10
 simp at k1 k2 k4 k10
 simp [blockQ,k2,hwa]
 refine wp_seqX (wp_blockX (loop40b (d:=d) (b:=b) (dv:=dv) m r acts hact hn14 S hS hSb hLb hT a ha v hv rv av sv we hlim hrv hav hsv _ _ _ hw (by simp [k1]) (by simp [k4]) (by simp [k10]) (by simp) ?_))
 rintro t2 w2 hw2 hk2
 have j10:=hk2.k10
 simp [k10] at j10
 have nj:notJunk (.slice (some ⟨we.next + 1,0,none⟩) S.length S.length)=some (.slice (some ⟨we.next + 1,0,none⟩) S.length S.length):=rfl
 have hn:=hw2.next
 simp [blockQ,j10,nj,tupV]
 exact ⟨⟨we.next + 1,by simp [hS],hw2.row,by omega⟩,hw2.up⟩
end Go.Proofs.YtmemdglkkgmjnaaDoor.walk
namespace Go.Proofs.YtmemdglkkgmjnaaDoor.walk
open Go Go.Sh
set_option maxRecDepth 100000
set_option linter.unusedSimpArgs false
def difL (n:Nat) (x:Nat→Int):List Int:=(List.range n).map fun k=>x k - x (k + 1)
@[simp] theorem difL_length (n:Nat) (x:Nat→Int):(difL n x).length=n:=by simp [difL]
theorem difL_at {n k:Nat} {x:Nat→Int} (h:k < n):(difL n x)[k]?=some (x k - x (k + 1)):=by
 unfold difL
 rw [List.getElem?_map,List.getElem?_range h]; rfl
theorem difL_snoc (n:Nat) (x:Nat→Int):difL (n + 1) x=difL n x++[x n - x (n + 1)]:=by
 unfold difL
 rw [List.range_succ,List.map_append]; rfl
theorem difL_sum (x:Nat→Int):∀ n,(difL n x).sum=x 0 - x n
 | 0=>by simp [difL]
 | n + 1=>by rw [difL_snoc,List.sum_append,difL_sum x n]; simp; omega
theorem difL_take {n i:Nat} {x:Nat→Int} (h:i≤n):(difL n x).take i=difL i x:=by
 unfold difL
 rw [← List.map_take,List.take_range,Nat.min_eq_left h]
theorem dif_wts (n:Nat) (x:Nat→Int):wtsL (x 0) (difL n x)=rowN n x:=by
 refine List.ext_getElem? fun k=>?_
 by_cases hk:k≤n
 ·rw [rowN_at hk,wtsL_at _ _ _ (by simpa using hk),difL_take hk,difL_sum]
  congr 1; omega
 ·rw [List.getElem?_eq_none (by rw [wtsL_length]; simp; omega),List.getElem?_eq_none (by simp; omega)]
def FitsR (n:Nat) (x:Nat→Int) (l:List CRead):Prop:=∀ p ∈ l,(0≤p.day∧p.day≤n∧0≤p.read∧p.read≤1010000∧0≤p.wrong∧p.wrong≤10000)∧(-p.wrong≤x p.day.toNat - p.read∧x p.day.toNat - p.read≤p.wrong)
structure In41 (we:AW) (r:List CAct) (d:List CDay) (b:CBox) (rv dv av:Value) (x0 sol:Int) (i:Nat) (x:Nat→Int) (w:AW):Prop where
 box:w.heap.get we.next=some (.cells (curC rv dv b av) 30 false)
 tru:∃ v,w.heap.get (we.next + 1)=some (.cells [.int .i64 x0,.int .i64 sol,v] 32 false)∧AccR intC 3 (we.next + 1) w v (difL i x)
 up:Up we w
 next:we.next + 2≤w.next
set_option maxHeartbeats 4000000 in
theorem loop41a {ov:Ov} (m:Nat) (r:List CAct) (d:List CDay) (b:CBox) (n:Nat) (hn14:n≤14) (x:Nat→Int) (hx:∀ k,k≤n→0≤x k∧x k≤1000000) (sol:Int) (rv dv av:Value) (we:AW) (hlim:we.lim≤we.next) (Bw:Nat) (hBw:Bw < we.next) (gw:we.heap.get Bw=some (.cells ((rowN n x).flatMap intC) 3 false))
  (Q:Ex→Tm→AW→Prop) (t:Tm) (w:AW) (hw:In41 we r d b rv dv av (x 0) sol 0 x w) (t1:tget t 1=.slice (some ⟨Bw,0,none⟩) (n + 1) (n + 1)) (t10:tget t 10=.pointer (some ⟨we.next + 1,0,none⟩)) (t11:tget t 11=.int .i64 0)
  (hQ:∀ t' w',In41 we r d b rv dv av (x 0) sol n x w'→(tget t' 1=tget t 1∧tget t' 3=tget t 3∧tget t' 4=tget t 4∧tget t' 10=tget t 10)→Q (.exit 0) t' w'):wp (exM Tryd.prog (run Tryd.prog ov m) (.loop mc41_l0) t w) Q:=by
 refine wp_rounds (fun i t' w'=>In41 we r d b rv dv av (x 0) sol i x w'∧(tget t' 1=tget t 1∧tget t' 3=tget t 3∧tget t' 4=tget t 4∧tget t' 10=tget t 10)∧tget t' 11=.int .i64 (i:Nat)∧i≤n) 20 (by decide) ⟨hw,⟨rfl,rfl,rfl,rfl⟩,by simpa using t11,Nat.zero_le _⟩ ?_
 clear t11 hw
 rintro i t' w' ⟨hw,⟨k1,k3,k4,k10⟩,t11,hi⟩
 have q1:=k1; have q10:=k10
 rw [t1] at q1; rw [t10] at q10
 have hl28:∀ (w:AW) p c,builtinA Tryd.prog w .len #[28] 3 [.slice p (n + 1) c]=.val (.int .i64 ((n:Int) + 1)) w:=fun w p c=>rfl
 have hw1:IntKind.wrap .i64 ((i:Int) + 1)=(i:Int) + 1:=wrap64_in (by omega) (by omega)
 by_cases hlt:i < n
 ·obtain ⟨vv,htru,hacc⟩:=hw.tru
  obtain ⟨pa,ca,rfl⟩:=hacc.rows.len
  rw [difL_length] at htru hacc
  have hnw:=hw.next
  have hlm:=hw.up.lim
  have hraw:RowsA intC w'.heap w'.next Bw 0 (rowN n x):=⟨⟨[],[],3,false,by rw [hw.up.at hBw]; simpa using gw,rfl⟩,by omega⟩
  have l0:=hraw.int (rowN_at (show i≤n by omega))
  have l1:=hraw.int (rowN_at (show i + 1≤n by omega))
  simp only [Nat.zero_add] at l0 l1
  have hid:=fun w=>ia28 w ⟨Bw,0,none⟩ (n + 1) (n + 1) .i64 i (by omega)
  have hie:∀ w,indexAddrA Tryd.prog w 28 (.slice (some ⟨Bw,0,none⟩) (n + 1) (n + 1)) (.int .i64 ((i:Int) + 1))=.val (.pointer (some ((⟨Bw,0,none⟩:Addr).add ((i + 1) * 1)))) w:=fun w=>by
   have:=ia28 w ⟨Bw,0,none⟩ (n + 1) (n + 1) .i64 (i + 1) (by omega)
   rw [show ((i + 1:Nat):Int)=(i:Int) + 1 by omega] at this
   exact this
  simp only [Nat.mul_one] at hid hie
  have b0:=hx i (by omega)
  have b1:=hx (i + 1) (by omega)
  have wd:IntKind.wrap .i64 (x i - x (i + 1))=x i - x (i + 1):=wrap64_in (by omega) (by omega)
  obtain ⟨v',w2,ha',hacc',hkp,hn2,hl'⟩:=AccR.push (P:=Tryd.prog) (st:=28) (sz:=1) list28 elem28 sz3 small3 intC_length (fun _=>rfl) (by decide) hacc (by omega) (by omega) (by simp; omega) (x i - x (i + 1))
  rw [← difL_snoc] at hacc'
  obtain ⟨pb,cb,hvb⟩:=hacc'.rows.len
  rw [difL_length] at hvb
  subst hvb
  simp only [intC] at ha'
  have e0:¬ Bw=w'.next:=by omega
  have e1:¬ we.next + 1=w'.next:=by omega
  have g2:w2.heap.get (we.next + 1)=some (.cells [.int .i64 (x 0),.int .i64 sol,.slice pa i ca] 32 false):=by rw [hkp _ (Nat.le_refl _)]; exact htru
  have lw:w2.lim≤we.next + 1:=by omega
  have hlt':(i:Int) + 1 < (n:Int) + 1:=by omega
  simp [mc41_l0,q1,q10,t11,hl28,hw1,hlt,hlt',htru,hid,hie,l0,l1,wd,e0,e1,ha',g2,lw]
  refine ⟨by omega,⟨?_,⟨.slice pb (i + 1) cb,by simp,?_⟩,?_,?_⟩,⟨t1.symm,k3,k4,t10.symm⟩,hlt⟩
  ·show (w2.heap.put _ _).get we.next=_
   rw [get_put,if_neg (by omega),hkp _ (Nat.le_succ _)]; exact hw.box
  ·exact hacc'.keep (fun y h1 h2=>by show (w2.heap.put _ _).get y=_; rw [get_put,if_neg (by omega)]) (Nat.le_refl _)
  ·refine ⟨fun y hy=>?_,by show we.next≤w2.next; omega,by show w2.lim=we.lim; omega⟩
   show (w2.heap.put _ _).get y=_
   rw [get_put,if_neg (by omega),hkp _ (by omega)]
   exact hw.up.at hy
  ·show we.next + 2≤w2.next; omega
 ·have:i=n:=by omega
  subst this
  simp [mc41_l0,q1,t11,hl28,hw1]
  exact hQ _ _ hw ⟨by simp [k1],by simp [k3],by simp [k4],by simp [k10]⟩
theorem loop41b {ov:Ov} (m:Nat) (h39:HasP ov 39 S39.F) (n:Nat) (hn14:n≤14) (x:Nat→Int) (hx:∀ k,k≤n→0≤x k∧x k≤1000000) (l:List CRead) (hl10:l.length≤10) (hf:FitsR n x l) (lv:Value) (w:AW) (hlv:RowsV readC w lv l) (Bw:Nat) (hBw:Bw < w.next) (gw:w.heap.get Bw=some (.cells ((rowN n x).flatMap intC) 3 false))
  (Q:Ex→Tm→AW→Prop) (t:Tm) (t1:tget t 1=.slice (some ⟨Bw,0,none⟩) (n + 1) (n + 1)) (t3:tget t 3=lv) (t15:tget t 15=.bool true) (t16:tget t 16=.int .i64 0)
  (hQ:∀ t',tget t' 13=tget t 13→tget t' 15=.bool true→Q (.exit 2) t' w):wp (exM Tryd.prog (run Tryd.prog ov (m + 1)) (.loop mc41_l1) t w) Q:=by
 refine wp_rounds (fun i t' w'=>w'=w∧tget t' 13=tget t 13∧tget t' 1=.slice (some ⟨Bw,0,none⟩) (n + 1) (n + 1)∧tget t' 3=lv∧tget t' 15=.bool true∧tget t' 16=.int .i64 (i:Nat)∧i≤l.length) 20 (by decide) ⟨rfl,rfl,t1,t3,t15,by simpa using t16,Nat.zero_le _⟩ ?_
 clear t1 t3 t15 t16
 rintro i t' w' ⟨rfl,k13,t1,t3,t15,t16,hi⟩
 have hl42:=fun w2=>len42V (w':=w2) hlv
 have r39:=fun n a b w=>S39.call (P:=Tryd.prog) h39 (m:=m) (w:=w) ⟨n,a,b,rfl,rfl⟩
 by_cases hlt:i < l.length
 ·obtain ⟨p,hp⟩:∃ p,l[i]?=some p:=⟨_,List.getElem?_eq_getElem hlt⟩
  obtain ⟨⟨hd0,hdn,hr0,hr1,hw0,hw1⟩,hf1,hf2⟩:=hf p (List.mem_of_getElem? hp)
  obtain ⟨dd,hdd⟩:∃ dd:Nat,p.day=(dd:Int):=⟨p.day.toNat,by omega⟩
  rw [hdd] at hdn hf1 hf2
  simp only [Int.toNat_natCast] at hf1 hf2
  have hddn:dd≤n:=by omega
  have hxd:=hx dd hddn
  obtain ⟨bb,off,sq,c,rfl,hra⟩:=hlv.at_ i hlt
  have f0:=hra.rd1 readC_length hp (j:=0) rfl
  have f1:=hra.rd1 readC_length hp (j:=1) rfl
  have f2:=hra.rd1 readC_length hp (j:=2) rfl
  simp only [Nat.add_zero] at f0
  rw [hdd] at f0
  have hia:=fun w=>ia42 w ⟨bb,off,sq⟩ l.length c .i64 i hlt
  have hraw:RowsA intC w'.heap w'.next Bw 0 (rowN n x):=⟨⟨[],[],3,false,by simpa using gw,rfl⟩,hBw⟩
  have l0:=hraw.int (rowN_at hddn)
  simp only [Nat.zero_add] at l0
  have hid:=fun w=>ia28 w ⟨Bw,0,none⟩ (n + 1) (n + 1) .i64 dd (by omega)
  simp only [Nat.mul_one] at hid
  have hl28:∀ (w:AW) p c,builtinA Tryd.prog w .len #[28] 3 [.slice p (n + 1) c]=.val (.int .i64 ((n:Int) + 1)) w:=fun w p c=>rfl
  have wn:IntKind.wrap .i64 (n:Int)=(n:Int):=wrap64_in (by omega) (by omega)
  have wd:IntKind.wrap .i64 (x dd - p.read)=x dd - p.read:=wrap64_in (by omega) (by omega)
  have wg:IntKind.wrap .i64 (-p.wrong) = -p.wrong:=wrap64_in (by omega) (by omega)
  have hwi:IntKind.wrap .i64 ((i:Int) + 1)=(i:Int) + 1:=wrap64_in (by omega) (by omega)
  have i1:inI 0 (dd:Int) (n:Int)=true:=by simp [inI]; omega
  have i2:inI (-p.wrong) (x dd - p.read) p.wrong=true:=by simp only [inI,Bool.and_eq_true,decide_eq_true_eq]; omega
  simp [mc41_l1,t1,t3,t15,t16,hl42,hlt,hia,f0,f1,f2,hl28,wn,r39,i1,hid,l0,wd,wg,i2,hwi,unS,negA]
  refine ⟨by omega,k13,?_,hlt⟩
  rw [wrapA_eq,wg]; exact i2
 ·have:i=l.length:=by omega
  subst this
  simp [mc41_l1,t3,t15,t16,hl42]
  exact hQ _ (by simp [k13]) (by simp [t15])
set_option maxHeartbeats 4000000 in
theorem call41 {ov:Ov} (m:Nat) (ho:∀ args w,ov 41 args w=none) (ho16:∀ args w,ov 16 args w=none) (ho57:∀ args w,ov 57 args w=none) (ho59:∀ args w,ov 59 args w=none) (ho83:∀ args w,ov 83 args w=none) (h18:HasP ov 18 S18.F) (h39:HasP ov 39 S39.F) (h56:HasP ov 56 S56.F) (h58:HasP ov 58 S58.F) (h84:HasP ov 84 S84.F) (r:List CAct) (d:List CDay) (b:CBox) (acts:List Int) (hA:actE r d b acts=0) (x:Nat→Int) (hx:∀ k,k≤acts.length→0≤x k∧x k≤1000000) (sol:Int) (hT:truB b (lossL r acts) (x 0) sol (difL acts.length x)=true) (l:List CRead) (hl10:l.length≤10) (hf:FitsR acts.length x l) (rv dv av lv:Value) (we:AW) (hlim:we.lim≤we.next) (hL:LimW we) (hrv:RowsV actC we rv r) (hdv:RowsV cdayC we dv d) (hav:RowsV intC we av acts) (hlv:RowsV readC we lv l) (Bw:Nat) (hBw:Bw < we.next) (gw:we.heap.get Bw=some (.cells ((rowN acts.length x).flatMap intC) 3 false)) :
  ∃ y w',(run Tryd.prog ov (m + 4)).call 41 [.agg ⟨curC rv dv b av⟩,.slice (some ⟨Bw,0,none⟩) (acts.length + 1) (acts.length + 1),.int .i64 sol,lv] we .none=.ok (.ret y) w' .none∧(∃ mv,y=.tuple ⟨[mv,.bool true]⟩∧RowsV intC w' mv (mosL (x 0) sol (difL acts.length x)))∧Up we w':=by
 refine call_wp text41 (by simp) (ho _ _) ?_
 have h14:=(tru_ok hA).2.1
 have hraw:RowsA intC we.heap we.next Bw 0 (rowN acts.length x):=⟨⟨[],[],3,false,by simpa using gw,rfl⟩,hBw⟩
 have l0:=hraw.int (rowN_at (show 0≤acts.length by omega))
 simp only [Nat.zero_add,Nat.add_zero] at l0
 have hid:=fun w=>ia28 w ⟨Bw,0,none⟩ (acts.length + 1) (acts.length + 1) .i64 0 (by omega)
 simp only [Nat.zero_mul,Int.natCast_zero] at hid
 have e0:¬ Bw=we.next:=by omega
 have lw:we.lim≤we.next + 1:=by omega
 simp [mc41,cellsOf_agg,hid,l0,e0,lw]
 refine wp_seqX (wp_blockX (loop41a (m + 3) r d b acts.length h14 x hx sol rv dv av we hlim Bw hBw gw _ _ _ ⟨by simp,⟨.slice none 0 0,by simp,AccR.nil⟩,?_,by simp only; omega⟩ (by simp) (by simp) (by simp) ?_))
 ·exact (((Up.refl we).add _).put (Nat.le_succ _) (Nat.le_succ _)).put (Nat.le_succ _) (Nat.le_refl _)
 rintro t1 w1 hw1 ⟨k1,k3,k4,k10⟩
 simp at k1 k3 k4 k10
 obtain ⟨tv,htru,hacc⟩:=hw1.tru
 have hbox:=hw1.box
 obtain ⟨pt,ct,rfl⟩:=hacc.rows.len
 rw [difL_length] at htru hacc
 have u1:=hw1.up
 have hn1:=u1.next
 have hl1:=u1.lim
 obtain ⟨v16,w2,c16,⟨v1,v2,rfl,hr1,hr2,u2⟩⟩:=call16 (ov:=ov) m ho16 ho57 ho59 ho83 h56 h58 h84 r d b acts (x 0) sol (difL acts.length x) rv dv av _ w1 (by omega) (hL.up u1) (hrv.up u1) (hdv.up u1) (hav.up u1) hacc.rows
 have eE:folE r d b acts (x 0) sol (difL acts.length x)=0:=by unfold folE; rw [if_pos hA,if_pos hT]
 have eW:folW r d b acts (x 0) sol (difL acts.length x)=rowN acts.length x:=by unfold folW; rw [if_pos eE,dif_wts]
 have eM:folM r d b acts (x 0) sol (difL acts.length x)=mosL (x 0) sol (difL acts.length x):=by unfold folM; rw [if_pos eE]
 rw [eE] at c16
 rw [eW] at hr1
 rw [eM] at hr2
 have u12:=u1.trans u2
 have hw2:RowsV intC w2 (.slice (some ⟨Bw,0,none⟩) (acts.length + 1) (acts.length + 1)) (rowN acts.length x):=(show RowsV intC we _ _ from .inr ⟨Bw,0,none,acts.length + 1,by simp,hraw⟩).up u12
 have r18:=S18.call (P:=Tryd.prog) h18 (m:=m + 2) (w:=w2) ⟨v1,.slice (some ⟨Bw,0,none⟩) (acts.length + 1) (acts.length + 1),rowN acts.length x,rfl,hr1,hw2,by simp; omega,rfl⟩
 have hml:(mosL (x 0) sol (difL acts.length x)).length=acts.length + 1:=by unfold mosL; rw [List.length_map,wtsL_length]; simp
 have hl2:=fun w2'=>len28V (w':=w2') hr2
 rw [hml] at hl2
 have hl28:∀ (w:AW) p c,builtinA Tryd.prog w .len #[28] 3 [.slice p (acts.length + 1) c]=.val (.int .i64 ((acts.length + 1:Nat):Int)) w:=fun w p c=>rfl
 simp only [boxC] at c16
 simp only [curC] at hbox
 obtain ⟨p2,q2,hv2⟩:=hr2.len
 rw [hml] at hv2
 subst hv2
 simp [blockQ,k1,k3,k4,k10,hbox,htru,c16,r18,hl2]
 refine wp_seqX (wp_blockX (loop41b (m + 2) h39 acts.length h14 x hx l hl10 hf lv w2 (hlv.up u12) Bw (by have:=u12.next; omega) (by rw [u12.at hBw]; exact gw) _ _ (by simp [k1]) (by simp [k3]) (by simp) (by simp) ?_))
 rintro t2 j13 j15
 simp at j13
 have nj:notJunk (.slice p2 (acts.length + 1) q2)=some (.slice p2 (acts.length + 1) q2):=by rw [← hml] at hr2 ⊢; cases p2 <;> rfl
 simp [blockQ,j13,j15,nj,tupV]
 exact ⟨hr2,u12⟩
end Go.Proofs.YtmemdglkkgmjnaaDoor.walk
