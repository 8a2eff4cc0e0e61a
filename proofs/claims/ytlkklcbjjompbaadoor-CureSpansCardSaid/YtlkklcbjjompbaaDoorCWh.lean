/- Part of a proof by a machine of ones own: see the text with the theorem. -/
import Derived.Test.YtlkklcbjjompbaaDoorCWf
import Derived.Test.YtlkklcbjjompbaaDoorCWg
import Derived.Test.YtlkklcbjjompbaaDoorCT5
namespace Go.Proofs.YtlkklcbjjompbaaDoor.walk
open Go Go.Sh
set_option maxRecDepth 100000
set_option linter.unusedSimpArgs false
theorem wei_zero {r:List CAct} {d:List CDay} {b:CBox} {acts:List Int} {l:List CRead} (h:weiE r d b acts l=0):actE r d b acts=0∧rdsB (acts.length:Nat) l=true∧∃ V,weighF b (lossL r acts) l=some V:=by
 have h1:rdE r d b acts l=0:=by
  unfold weiE at h
  by_cases hE:rdE r d b acts l=0
  ·exact hE
  ·rw [if_neg hE] at h; exact absurd h hE
 have h2:=rdE_ok h1
 refine ⟨h2.1,h2.2,?_⟩
 unfold weiE at h
 rw [if_pos h1] at h
 cases hV:weighF b (lossL r acts) l with
 | none=>rw [hV] at h; cases h
 | some V=>exact ⟨V,rfl⟩
set_option maxHeartbeats 1000000 in
theorem call25 {ov:Ov} (m:Nat) (ho:∀ args w,ov 25 args w=none) (ho57:∀ args w,ov 57 args w=none) (ho62:∀ args w,ov 62 args w=none) (ho66:∀ args w,ov 66 args w=none) (h64:HasP ov 64 S64.F) (h68:HasP ov 68 S68.F) (h84:HasP ov 84 S84.F) (h86:HasP ov 86 S86.F) (h88:HasP ov 88 S88.F) (r:List CAct) (d:List CDay) (b:CBox) (acts:List Int) (l:List CRead) (rv dv av lv:Value) (we:AW) (hlim:we.lim≤we.next) (hL:LimW we) (hrv:RowsV actC we rv r) (hdv:RowsV cdayC we dv d) (hav:RowsV intC we av acts) (hlv:RowsV readC we lv l) :
  ∃ v w',(run Tryd.prog ov (m + 3)).call 25 [rv,dv,.agg ⟨boxC b⟩,av,lv] we .none=.ok (.ret v) w' .none∧(∃ v1,v=.tuple ⟨[v1,.int .i64 (weiE r d b acts l)]⟩∧(weiE r d b acts l ≠ 0→v1=.slice none 0 0)∧(weiE r d b acts l=0→∃ V D,weighF b (lossL r acts) l=some V∧dryF (lossL r acts) V=some D∧ProcV w' v1 (moL (lossL r acts) V D)))∧Up we w':=by
 refine call_wp text25 (by simp) (ho _ _) ?_
 have hz:zerC.length=32:=rfl
 have hzt:zerC.take 32=zerC:=rfl
 have hzd:zerC.drop 32=[]:=rfl
 have hzs:singles zerC=true:=rfl
 have epz:([.int .i64 0,.int .i64 0,.int .i64 0,.int .i64 0,.slice none 0 0]:List Value)=pzC:=rfl
 have hp1:pzC.length=5:=rfl
 have hpd:pzC.drop 5=[]:=rfl
 have hps:singles pzC=true:=rfl
 have nn:notJunk (.slice none 0 0)=some (.slice none 0 0):=rfl
 obtain ⟨w1,hw1e⟩:∃ w1:AW,w1=⟨we.heap.put we.next (some (.cells [.int .i64 b.wl,.int .i64 b.wh,.int .i64 b.sl,.int .i64 b.sh] 27 false)),we.next + 1,we.lim⟩:=⟨_,rfl⟩
 have u1:Up we w1:=by rw [hw1e]; exact (Up.refl we).add _
 have n1:w1.next=we.next + 1:=by rw [hw1e]
 have l1:w1.lim=we.lim:=u1.lim
 obtain ⟨v62,w2,c62,hv,u2⟩:=call62 (ov:=ov) m ho62 ho57 h68 h86 r d b acts l rv dv av lv w1 (by omega) (hL.up u1) (hrv.up u1) (hdv.up u1) (hav.up u1) (hlv.up u1)
 have hn2:=u2.next
 have hl2:=u2.lim
 have lw2:w2.lim≤w2.next:=by omega
 have lw21:w2.lim≤w2.next + 1:=by omega
 rw [hw1e] at c62
 simp only [boxC] at c62 ⊢
 rcases hv with ⟨hne,rfl⟩ | ⟨he,pv,V,hN,rfl,hproc⟩
 ·simp [mc25,cellsOf_agg,ez,epz,c62,lw2,lw21,hz,hzt,hzd,hzs,hp1,hpd,hps,hne,nn,tupV]
  exact (((((u1.trans u2).add _).put (by omega) (Nat.le_succ _)).put (by omega) (Nat.le_refl _)).put (by omega) (Nat.le_refl _))
 ·obtain ⟨B,hpe,hB1,hB2⟩:=id hproc
  obtain ⟨hA,hRd,_⟩:=wei_zero he
  obtain ⟨hT,h14,hact⟩:=tru_ok hA
  have hLl:(lossL r acts).length=acts.length:=by simp [lossL]
  have hb:=(act_ofE hA).2.2.1
  have hlos:=los_ok hA
  obtain ⟨hl10,hRok⟩:=rds_ok hRd
  have ok:=weigh_ok hb hlos (by omega) hN
  have hVb:=weigh_bnd hb hlos hRok (by omega) hN
  obtain ⟨D,hD,dok⟩:=dry_ok hlos (by omega) ok
  have hV16:V.length=16:=ok.good.len
  have hVl:=row_len hV16
  have hVt:(V.flatMap spC).take 32=V.flatMap spC:=List.take_of_length_le (by omega)
  have hVs:=row_sing V
  obtain ⟨pcs,hpcs⟩:∃ pcs,pcs=procC b pv:=⟨_,rfl⟩
  have hpl:pcs.length=5:=by rw [hpcs]; rfl
  have hpt':pcs.take 5=pcs:=List.take_of_length_le (by omega)
  have ps1:singles pcs=true:=by rw [hpcs,hpe]; rfl
  obtain ⟨w3,hw3e⟩:∃ w3:AW,w3=⟨(((w2.heap.put w2.next (some (.cells pzC 97 false))).put (w2.next + 1) (some (.cells zerC 104 false))).put w2.next (some (.cells pcs 97 false))).put (w2.next + 1) (some (.cells (V.flatMap spC) 104 false)),w2.next + 1 + 1,w2.lim⟩:=⟨_,rfl⟩
  have u3:Up w2 w3:=by rw [hw3e]; exact ((((Up.refl w2).add _).put (Nat.le_succ _) (Nat.le_succ _)).put (Nat.le_refl _) (Nat.le_refl _)).put (Nat.le_succ _) (Nat.le_refl _)
  have n3:w3.next=w2.next + 1 + 1:=by rw [hw3e]
  obtain ⟨v66,w4,c66,hpr,u4⟩:=call66 (ov:=ov) m ho66 h64 h84 h88 b pv (lossL r acts) V (iniW b (lossL r acts) l) D (by omega) hlos hVb ok hD dok w3 (by have:=u3.lim; omega) (hproc.up u3)
  rw [hw3e] at c66
  rw [← hpcs] at c62 c66
  obtain ⟨B4,hv4,_,_⟩:=id hpr
  have nj:notJunk v66=some v66:=by rw [hv4]; rfl
  rw [he,hN]
  generalize hcs:V.flatMap spC=cs at c62 c66 hVl hVt hVs
  simp [mc25,cellsOf_agg,ez,epz,c62,lw2,lw21,hz,hzt,hzd,hzs,hp1,hpd,hps,hpl,hpt',ps1,hVl,hVt,hVs,c66,nj,tupV]
  exact ⟨⟨D,hD,hpr⟩,((u1.trans u2).trans u3).trans u4⟩
set_option maxHeartbeats 1000000 in
theorem call23 {ov:Ov} (m:Nat) (ho:∀ args w,ov 23 args w=none) (ho57:∀ args w,ov 57 args w=none) (ho62:∀ args w,ov 62 args w=none) (h64:HasP ov 64 S64.F) (h68:HasP ov 68 S68.F) (h86:HasP ov 86 S86.F) (r:List CAct) (d:List CDay) (b:CBox) (acts:List Int) (l:List CRead) (rv dv av lv:Value) (we:AW) (hlim:we.lim≤we.next) (hL:LimW we) (hrv:RowsV actC we rv r) (hdv:RowsV cdayC we dv d) (hav:RowsV intC we av acts) (hlv:RowsV readC we lv l) :
  ∃ v w',(run Tryd.prog ov (m + 3)).call 23 [rv,dv,.agg ⟨boxC b⟩,av,lv] we .none=.ok (.ret v) w' .none∧(∃ s:Sp,v=.tuple ⟨[.agg ⟨spC s⟩,.int .i64 (weiE r d b acts l)]⟩∧(weiE r d b acts l ≠ 0→s=(0,0))∧(weiE r d b acts l=0→∃ V,weighF b (lossL r acts) l=some V∧s=gtS V ((lossL r acts).length + 1)))∧Up we w':=by
 refine call_wp text23 (by simp) (ho _ _) ?_
 have hz:zerC.length=32:=rfl
 have hzt:zerC.take 32=zerC:=rfl
 have hzd:zerC.drop 32=[]:=rfl
 have hzs:singles zerC=true:=rfl
 have epz:([.int .i64 0,.int .i64 0,.int .i64 0,.int .i64 0,.slice none 0 0]:List Value)=pzC:=rfl
 have hp1:pzC.length=5:=rfl
 have hpd:pzC.drop 5=[]:=rfl
 have hps:singles pzC=true:=rfl
 obtain ⟨w1,hw1e⟩:∃ w1:AW,w1=⟨(we.heap.put we.next (some (.cells [.int .i64 b.wl,.int .i64 b.wh,.int .i64 b.sl,.int .i64 b.sh] 27 false))).put (we.next + 1) (some (.cells [.int .i64 0,.int .i64 0] 25 false)),we.next + 1 + 1,we.lim⟩:=⟨_,rfl⟩
 have u1:Up we w1:=by rw [hw1e]; exact ((Up.refl we).add _).put (Nat.le_succ _) (Nat.le_succ _)
 have n1:w1.next=we.next + 1 + 1:=by rw [hw1e]
 have l1:w1.lim=we.lim:=u1.lim
 have g1:w1.heap.get (we.next + 1)=some (.cells [.int .i64 0,.int .i64 0] 25 false):=by rw [hw1e]; simp
 obtain ⟨v62,w2,c62,hv,u2⟩:=call62 (ov:=ov) m ho62 ho57 h68 h86 r d b acts l rv dv av lv w1 (by omega) (hL.up u1) (hrv.up u1) (hdv.up u1) (hav.up u1) (hlv.up u1)
 have hn2:=u2.next
 have hl2:=u2.lim
 have g2:w2.heap.get (we.next + 1)=some (.cells [.int .i64 0,.int .i64 0] 25 false):=by rw [u2.at (by omega)]; exact g1
 have lw2:w2.lim≤w2.next:=by omega
 have lw21:w2.lim≤w2.next + 1:=by omega
 have lwe:w2.lim≤we.next + 1:=by omega
 have e1:¬ we.next + 1=w2.next:=by omega
 have e2:¬ we.next + 1=w2.next + 1:=by omega
 have e2':¬ we.next=w2.next:=by omega
 have e3:¬ w2.next=we.next + 1:=by omega
 have e4:¬ w2.next + 1=we.next + 1:=by omega
 have e4':¬ w2.next=we.next:=by omega
 rw [hw1e] at c62
 simp only [boxC] at c62 ⊢
 rcases hv with ⟨hne,rfl⟩ | ⟨he,pv,V,hN,rfl,hproc⟩
 ·simp [mc23,cellsOf_agg,ez,epz,c62,lw2,lw21,lwe,hz,hzt,hzd,hzs,hp1,hpd,hps,hne,tupV,g2,e1,e2,e2',e3,e4,e4']
  refine ⟨rfl,?_⟩
  exact ((((((u1.trans u2).add _).put (by omega) (Nat.le_succ _)).put (by omega) (Nat.le_refl _)).put (by omega) (Nat.le_refl _)).put (by omega) (Nat.le_refl _))
 ·obtain ⟨B,hpe,hB1,hB2⟩:=id hproc
  obtain ⟨hA,hRd,_⟩:=wei_zero he
  obtain ⟨hT,h14,hact⟩:=tru_ok hA
  have hLl:(lossL r acts).length=acts.length:=by simp [lossL]
  have hb:=(act_ofE hA).2.2.1
  have hlos:=los_ok hA
  have ok:=weigh_ok hb hlos (by omega) hN
  have hV16:V.length=16:=ok.good.len
  have hVl:=row_len hV16
  have hVt:(V.flatMap spC).take 32=V.flatMap spC:=List.take_of_length_le (by omega)
  have hVs:=row_sing V
  have r64:=fun w=>S64.call (P:=Tryd.prog) h64 (m:=m + 1) (w:=w) ⟨b,some ⟨B,0,none⟩,(lossL r acts).length,(lossL r acts).length,rfl,by omega,rfl⟩
  rw [← hpe] at r64
  obtain ⟨pcs,hpcs⟩:∃ pcs,pcs=procC b pv:=⟨_,rfl⟩
  have hpl:pcs.length=5:=by rw [hpcs]; rfl
  have hpt':pcs.take 5=pcs:=List.take_of_length_le (by omega)
  have ps1:singles pcs=true:=by rw [hpcs,hpe]; rfl
  rw [← hpcs] at c62 r64
  obtain ⟨N,hNe⟩:∃ N,N=(lossL r acts).length + 1:=⟨_,rfl⟩
  have hia:=fun w=>ia104 w ⟨w2.next + 1,0,none⟩ N (by omega)
  rw [show ((lossL r acts).length:Int) + 1=(N:Int) by omega] at r64
  obtain ⟨tk,q⟩:=row_ld hV16 (i:=N) (by omega)
  rw [he,hN]
  generalize hcs:V.flatMap spC=cs at c62 hVl hVt hVs tk
  simp [mc23,cellsOf_agg,ez,epz,c62,lw2,lw21,lwe,hz,hzt,hzd,hzs,hp1,hpd,hps,hpl,hpt',ps1,hVl,hVt,hVs,r64,hia,tk,q,tupV,g2,e1,e2,e2',e3,e4,e4']
  refine ⟨by rw [hNe]; rfl,?_⟩
  exact (((((u1.trans u2).add _).put (by omega) (Nat.le_succ _)).put (by omega) (Nat.le_refl _)).put (by omega) (Nat.le_refl _)).put (by omega) (Nat.le_refl _)
end Go.Proofs.YtlkklcbjjompbaaDoor.walk
namespace Go.Proofs.YtlkklcbjjompbaaDoor.walk
open Go Go.Sh
set_option maxRecDepth 100000
set_option linter.unusedSimpArgs false
def rowN (n:Nat) (Y:Nat→Int):List Int:=(List.range (n + 1)).map Y
@[simp] theorem rowN_length (n:Nat) (Y:Nat→Int):(rowN n Y).length=n + 1:=by simp [rowN]
structure In40 (we:AW) (r:List CAct) (d:List CDay) (b:CBox) (acts:List Int) (rv dv av:Value) (n:Nat) (Y:Nat→Int) (w:AW):Prop where
 box:w.heap.get we.next=some (.cells (curC rv dv b av) 30 false)
 row:w.heap.get (we.next + 1)=some (.cells ((rowN n Y).flatMap intC) 3 false)
 up:Up we w
 next:we.next + 2≤w.next
structure KeepC (t t':Tm):Prop where
 k1:tget t' 1=tget t 1
 k2:tget t' 2=tget t 2
 k4:tget t' 4=tget t 4
 k10:tget t' 10=tget t 10
end Go.Proofs.YtlkklcbjjompbaaDoor.walk
namespace Go.Proofs.YtlkklcbjjompbaaDoor.walk
open Go Go.Sh
set_option maxRecDepth 100000
set_option linter.unusedSimpArgs false
end Go.Proofs.YtlkklcbjjompbaaDoor.walk
namespace Go.Proofs.YtlkklcbjjompbaaDoor.walk
open Go Go.Sh
set_option maxRecDepth 100000
set_option linter.unusedSimpArgs false
def difL (n:Nat) (x:Nat→Int):List Int:=(List.range n).map fun k=>x k - x (k + 1)
@[simp] theorem difL_length (n:Nat) (x:Nat→Int):(difL n x).length=n:=by simp [difL]
structure In41 (we:AW) (r:List CAct) (d:List CDay) (b:CBox) (rv dv av:Value) (x0 sol:Int) (i:Nat) (x:Nat→Int) (w:AW):Prop where
 box:w.heap.get we.next=some (.cells (curC rv dv b av) 30 false)
 tru:∃ v,w.heap.get (we.next + 1)=some (.cells [.int .i64 x0,.int .i64 sol,v] 32 false)∧AccR intC 3 (we.next + 1) w v (difL i x)
 up:Up we w
 next:we.next + 2≤w.next
end Go.Proofs.YtlkklcbjjompbaaDoor.walk
