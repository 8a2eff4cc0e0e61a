/- Part of a proof: see the text with the theorem. -/
import Derived.Test.YtnmamelclmfplaaDoorTg
import Derived.Test.YtnmamelclmfplaaDoorTb
import Derived.Test.YtnmamelclmfplaaDoorTc
set_option linter.all false
namespace Go.Proofs.YtnmamelclmfplaaDoor.walk
open Go Go.Sh
set_option maxRecDepth 100000
def lastM (L V D:List Sp):Sp:=(moI (gtS D L.length).1 (gtS V (L.length + 1)).2,moI (gtS V L.length).2 (gtS V (L.length + 1)).1)
def surB (b:CBox) (L:List Sp) (lim:Sp):Bool:=match weighF b L [] with
 | none=>false
 | some V=>match dryF L V with
  | none=>false
  | some D=>decide (lim.1≤(lastM L V D).1) && decide ((lastM L V D).2≤lim.2)
def S71:PSpec where
 R args w v:=∃ (b:CBox) (pv:Value) (L:List Sp) (lim:Sp),args=[.agg ⟨procC b pv⟩,.agg ⟨spC lim⟩]∧ProcV w pv L∧L.length≤14∧LosW (losL L)∧boxB b=true∧LimW w∧w.lim≤w.next∧v=.bool (surB b L lim)
 uniq:=by
  rintro _ _ _ _ ⟨⟨_,_,_,_⟩,pv,L,⟨_,_⟩,rfl,h1,_,_,_,_,_,rfl⟩ ⟨⟨_,_,_,_⟩,pv',L',⟨_,_⟩,h,k1,_,_,_,_,_,rfl⟩
  simp only [procC,spC,List.cons.injEq,Value.agg.injEq,Array.mk.injEq,Value.int.injEq,true_and,and_true] at h
  obtain ⟨⟨rfl,rfl,rfl,rfl,rfl⟩,rfl,rfl⟩:=h
  rw [h1.rows.uniq (m:=2) spC_length spC_inj k1.rows]
 shut:=fun ⟨a1,a2,a3,a4,h1,h2,h3,h4,h5,h6,_,h7⟩=>⟨a1,a2,a3,a4,h1,h2,h3,h4,h5,h6,Nat.le_refl _,h7⟩
theorem weigh_bnd {b:CBox} {L V:List Sp} {l:List CRead} (hb:boxB b=true) (hL:LosW (losL L)) (hR:ReadOk l) (hlen:L.length≤14) (h:weighF b L l=some V):BndW V:=by
 have hW:(iniW b L l).length=16:=by simp [iniW]
 have hN:(losL L).length=L.length + 1:=by simp
 have hwb:BndW (iniW b L l):=mkW_bnd fun k=>iniF_bnd hb hR _ _ k
 unfold weighF at h
 rw [hN] at h
 -- each pass keeps bounds
 have key:∀ (f:Nat) (W U:List Sp),W.length=16→BndW W→narW (losL L) (L.length + 1) f W=some U→BndW U:=by
  intro f
  induction f with
  | zero=>intro W U _ hw h; cases h; exact hw
  | succ f ih =>
   intro W U hl hw h
   simp only [narW] at h
   cases hp:passW (losL L) (L.length + 1) W with
   | none=>rw [hp] at h; cases h
   | some V' =>
    rw [hp] at h
    have h1:=pass_bnd hw hL hp (by omega)
    have h2:=(passW_fn hp (by omega)).2
    simp only at h
    split at h
    ·cases h; exact h1
    ·exact ih V' U (by omega) h1 h
 exact key 40 _ V hW hwb h
theorem run71 {ov:Ov} (ho:∀ args w,ov 71 args w=none) (ho66:∀ args w,ov 66 args w=none) (h64:HasP ov 64 S64.F) (h84:HasP ov 84 S84.F) (h86:HasP ov 86 S86.F) (h88:HasP ov 88 S88.F) (h93:HasP ov 93 S93.F) (b:CBox) (hb:boxB b=true) (pv:Value) (L:List Sp) (lim:Sp) (hlen:L.length≤14) (hL:LosW (losL L)) (w:AW) (hl:w.lim=w.next) (hLim:LimW w) (hpv:ProcV w pv L):∃ x w',(run Tryd.prog ov 4).call 71 [.agg ⟨procC b pv⟩,.agg ⟨spC lim⟩] w .none=.ok (.ret x) w' .none∧x=.bool (surB b L lim):=by
 refine call_wp text71 (by simp) (ho _ _) ?_
 obtain ⟨w1,hw1e⟩:∃ w1:AW,w1=⟨(w.heap.put w.next (some (.cells (procC b pv) 97 false))).put (w.next + 1) (some (.cells [.int .i64 lim.1,.int .i64 lim.2] 25 false)),w.next + 1 + 1,w.lim⟩:=⟨_,rfl⟩
 have u1:Up w w1:=by rw [hw1e]; exact ((Up.refl w).add _).put (Nat.le_succ _) (Nat.le_succ _)
 have n1:w1.next=w.next + 1 + 1:=by rw [hw1e]
 have l1:w1.lim=w.lim:=u1.lim
 have r86:=S86.call (P:=Tryd.prog) h86 (m:=2) (w:=w1) ⟨b,pv,.slice none 0 0,L,[],rfl,hpv.up u1,hlen,hL,hb,.inl ⟨rfl,_,_,rfl⟩,by simp,fun p hp=>by simp at hp,hLim.up u1,by omega,rfl⟩
 have r93:=fun a b c d w=>S93.call (P:=Tryd.prog) h93 (m:=2) (w:=w) ⟨a,b,c,d,rfl,rfl⟩
 have lw:w.lim≤w.next + 1 + 1:=by omega
 have hz:zerC.length=32:=rfl
 have hzd:zerC.drop 32=[]:=rfl
 have hzs:singles zerC=true:=rfl
 rw [hw1e] at r86
 simp only [spC] at ⊢
 cases hN:weighF b L [] with
 | none =>
  have e:surB b L lim=false:=by unfold surB; rw [hN]
  rw [hN] at r86
  simp only [narR,procC] at r86 ⊢
  simp only [Nat.reduceAdd] at r86
  simp [mc71,cellsOf_agg,ez,r86,lw,hz,hzd,hzs,e,tupV]
 | some V =>
  have hok:=weigh_ok hb hL hlen hN
  obtain ⟨D,hD,hdo⟩:=dry_ok hL hlen hok
  have e:surB b L lim=(decide (lim.1≤(lastM L V D).1) && decide ((lastM L V D).2≤lim.2)):=by unfold surB; rw [hN]; simp only; rw [hD]
  have hV:=hok.good.len
  have hVl:=row_len hV
  have hVt:(V.flatMap spC).take 32=V.flatMap spC:=List.take_of_length_le (by omega)
  have hVs:=row_sing V
  have hVb:=weigh_bnd hb hL (fun p hp=>by simp at hp) hlen hN
  obtain ⟨w2,hw2e⟩:∃ w2:AW,w2=⟨(w1.heap.put w1.next (some (.cells zerC 104 false))).put w1.next (some (.cells (V.flatMap spC) 104 false)),w1.next + 1,w1.lim⟩:=⟨_,rfl⟩
  have u2:Up w1 w2:=by rw [hw2e]; exact ((Up.refl w1).add _).put (Nat.le_refl _) (Nat.le_refl _)
  have n2:w2.next=w.next + 1 + 1 + 1:=by rw [hw2e,← n1]
  obtain ⟨v66,w3,c66,⟨B3,hv3,hB3,hb3⟩,u3⟩:=call66 (ov:=ov) 1 ho66 h64 h84 h88 b pv L V (iniW b L []) D hlen hL hVb hok hD hdo w2 (by have:=u2.lim; omega) (hpv.up (u1.trans u2))
  have gl3:w3.heap.get (w.next + 1)=some (.cells [.int .i64 lim.1,.int .i64 lim.2] 25 false):=by
   rw [u3.at (by omega),u2.at (by omega),hw1e]; simp
  have hml:(moL L V D).length=L.length + 1:=by simp
  have hraM:RowsA spC w3.heap w3.next B3 0 (moL L V D):=⟨⟨[],[],25,false,by simpa using hB3,rfl⟩,hb3⟩
  have fM:=hraM.rd spC_length (moL_at (L:=L) (V:=V) (D:=D) (k:=L.length) (by omega))
  rw [Nat.zero_add] at fM
  have hiM:=fun w=>ia43 w ⟨B3,0,none⟩ (L.length + 1) (L.length + 1) .i64 L.length (by omega)
  have hwn:IntKind.wrap .i64 (((L.length + 1:Nat):Int) - 1)=(L.length:Int):=by rw [wrap64_in (by omega) (by omega)]; omega
  have hwn':IntKind.wrap .i64 (L.length:Int)=(L.length:Int):=wrap64_in (by omega) (by omega)
  rw [hml] at hv3
  rw [hN] at r86
  rw [hv3,hw2e,hw1e] at c66
  simp only [narR,procC] at r86 c66 ⊢
  simp only [Nat.reduceAdd] at r86 c66
  simp only [spC] at fM
  rw [e]
  unfold lastM
  generalize V.flatMap spC=cs at r86 c66 hVl hVt hVs
  by_cases k1:lim.1≤moI (gtS D L.length).1 (gtS V (L.length + 1)).2
  ·simp [mc71,cellsOf_agg,ez,r86,lw,hz,hzd,hVl,hVt,hVs,c66,gl3,hiM,fM,hwn,hwn',r93,k1,tupV]
  ·simp [mc71,cellsOf_agg,ez,r86,lw,hz,hzd,hVl,hVt,hVs,c66,gl3,hiM,fM,hwn,hwn',r93,k1,tupV]
theorem gtS_map {α:Type} (f:α→Sp) (l:List α) (k:Nat):gtS (l.map f) k=match l[k]? with | some a=>f a | none=>(0,0):=by
 unfold gtS
 rw [List.getD_eq_getElem?_getD,List.getElem?_map]
 cases l[k]? <;> rfl
theorem los_ok {r:List CAct} {d:List CDay} {b:CBox} {acts:List Int} (h:actE r d b acts=0):LosW (losL (lossL r acts)):=by
 obtain ⟨hR,hD,hB,s,hs⟩:=act_ofE h
 have ha:=stg_acts _ _ _ hs
 intro k
 by_cases h1:k < (lossL r acts).length
 ·have e:gtS (losL (lossL r acts)) k=gtS (lossL r acts) k:=by
   unfold gtS losL
   rw [List.getD_eq_getElem?_getD,List.getD_eq_getElem?_getD,List.getElem?_append_left h1]
  rw [e]
  unfold lossL
  rw [gtS_map]
  cases hk:acts[k]? with
  | none=>simp
  | some a =>
   obtain ⟨_,x,hx⟩:=ha a (List.mem_of_getElem? hk)
   simp only [hx]
   obtain ⟨_,_,q,_⟩:=act_of hR hx
   simp only [spanI,Bool.and_eq_true,decide_eq_true_eq] at q
   omega
 ·by_cases h2:k=(lossL r acts).length
  ·have e:gtS (losL (lossL r acts)) k=(0,1000000):=by
    refine gtS_of ?_
    unfold losL
    rw [h2,List.getElem?_append_right (Nat.le_refl _)]; simp
   rw [e]; simp
  ·have e:gtS (losL (lossL r acts)) k=(0,0):=by
    unfold gtS
    rw [List.getD_eq_getElem?_getD,List.getElem?_eq_none (by simp; omega)]; rfl
   rw [e]; simp
def reachR (r:List CAct) (d:List CDay) (b:CBox) (acts:List Int) (lim:Sp):Value:=if actE r d b acts=0 then (if spanI lim.1 lim.2 0 1000=true then .tuple ⟨[.bool (surB b (lossL r acts) lim),.int .i64 0]⟩ else .tuple ⟨[.bool false,.int .i64 7]⟩) else .tuple ⟨[.bool false,.int .i64 (actE r d b acts)]⟩
def S29:PSpec where
 R args w v:=∃ (rv dv av:Value) (r:List CAct) (d:List CDay) (b:CBox) (acts:List Int) (lim:Sp),args=[rv,dv,.agg ⟨boxC b⟩,av,.agg ⟨spC lim⟩]∧RowsV actC w rv r∧RowsV cdayC w dv d∧RowsV intC w av acts∧LimW w∧w.lim≤w.next∧v=reachR r d b acts lim
 uniq:=by
  rintro _ _ _ _ ⟨_,_,_,r,d,⟨_,_,_,_⟩,acts,⟨_,_⟩,rfl,h1,h2,h3,_,_,rfl⟩ ⟨_,_,_,r',d',⟨_,_,_,_⟩,acts',⟨_,_⟩,h,k1,k2,k3,_,_,rfl⟩
  cases h
  rw [h1.uniq (m:=7) actC_length actC_inj k1,h2.uniq (m:=3) cdayC_length cdayC_inj k2,h3.uniq (m:=1) intC_length intC_inj k3]
 shut:=fun ⟨a1,a2,a3,a4,a5,a6,a7,a8,h1,h2,h3,h4,h5,_,h6⟩=>⟨a1,a2,a3,a4,a5,a6,a7,a8,h1,h2,h3,h4,h5,Nat.le_refl _,h6⟩
theorem run29 {ov:Ov} (ho:∀ args w,ov 29 args w=none) (ho57:∀ args w,ov 57 args w=none) (h56:HasP ov 56 S56.F) (h70:HasP ov 70 S70.F) (h71:HasP ov 71 S71.F) (r:List CAct) (d:List CDay) (b:CBox) (acts:List Int) (lim:Sp) (rv dv av:Value) (w:AW) (hl:w.lim=w.next) (hL:LimW w) (hrv:RowsV actC w rv r) (hdv:RowsV cdayC w dv d) (hav:RowsV intC w av acts):∃ x w',(run Tryd.prog ov 3).call 29 [rv,dv,.agg ⟨boxC b⟩,av,.agg ⟨spC lim⟩] w .none=.ok (.ret x) w' .none∧x=reachR r d b acts lim:=by
 refine call_wp text29 (by simp) (ho _ _) ?_
 obtain ⟨w1,hw1e⟩:∃ w1:AW,w1=⟨(w.heap.put w.next (some (.cells [.int .i64 b.wl,.int .i64 b.wh,.int .i64 b.sl,.int .i64 b.sh] 27 false))).put (w.next + 1) (some (.cells [.int .i64 lim.1,.int .i64 lim.2] 25 false)),w.next + 1 + 1,w.lim⟩:=⟨_,rfl⟩
 have u1:Up w w1:=by rw [hw1e]; exact ((Up.refl w).add _).put (Nat.le_succ _) (Nat.le_succ _)
 have n1:w1.next=w.next + 1 + 1:=by rw [hw1e]
 have l1:w1.lim=w.lim:=u1.lim
 have g9:w1.heap.get (w.next + 1)=some (.cells [.int .i64 lim.1,.int .i64 lim.2] 25 false):=by rw [hw1e]; simp
 have r56:=S56.call (P:=Tryd.prog) h56 (m:=1) ⟨rv,dv,av,r,d,b,acts,rfl,hrv.up u1,hdv.up u1,hav.up u1,hL.up u1,by omega,rfl⟩
 have r70:=S70.call (P:=Tryd.prog) h70 (m:=1) (w:=w1) ⟨6,lim.1,lim.2,(0,1000),rfl,rfl,hL.up u1,rfl⟩
 rw [hw1e] at r56 r70
 simp only [boxC,spC,Nat.reduceAdd] at r56 r70 ⊢
 by_cases hA:actE r d b acts=0
 ·rw [hA] at r56
  cases hS:spanI lim.1 lim.2 0 1000 with
  | false =>
   rw [hS] at r70
   simp [mc29,cellsOf_agg,r56,r70,reachR,hA,hS,tupV]
  | true =>
   rw [hS] at r70
   obtain ⟨hT,h14,hact⟩:=tru_ok hA
   have hLl:(lossL r acts).length=acts.length:=by simp [lossL]
   obtain ⟨_,w2,c57,pv,rfl,hproc,u2⟩:=call57 (ov:=ov) 1 ho57 r acts hact h14 b rv av w1 (by omega) (hrv.up u1) (hav.up u1)
   have g92:w2.heap.get (w.next + 1)=some (.cells [.int .i64 lim.1,.int .i64 lim.2] 25 false):=by rw [u2.at (by omega)]; exact g9
   have r71:=S71.call (P:=Tryd.prog) h71 (m:=1) (w:=w2) ⟨b,pv,lossL r acts,lim,rfl,hproc,by omega,los_ok hA,hT.box,(hL.up u1).up u2,by have:=u2.lim; have:=u2.next; omega,rfl⟩
   rw [hw1e] at c57
   simp only [boxC,spC,procC,Nat.reduceAdd] at c57 r71
   simp [mc29,cellsOf_agg,r56,r70,c57,g92,r71,reachR,hA,hS,tupV]
 ·simp [mc29,cellsOf_agg,r56,reachR,hA,tupV]
def rdB (n:Int) (p:CRead):Bool:=inI 0 p.day n && (inI 0 p.read 1010000 && inI 0 p.wrong 10000)
def rdsB (n:Int) (l:List CRead):Bool:=decide (l.length≤10) && l.all (rdB n)
def rdE (r:List CAct) (d:List CDay) (b:CBox) (acts:List Int) (l:List CRead):Int:=if actE r d b acts=0 then (if rdsB (acts.length:Nat) l=true then 0 else 64) else actE r d b acts
theorem rds_ok {n:Int} {l:List CRead} (h:rdsB n l=true):l.length≤10∧ReadOk l:=by
 simp only [rdsB,Bool.and_eq_true,decide_eq_true_eq] at h
 refine ⟨h.1,fun p hp=>?_⟩
 have:=List.all_eq_true.1 h.2 p hp
 simp only [rdB,inI,Bool.and_eq_true,decide_eq_true_eq] at this
 omega
def wrapI (n s:Int):Int:=if s < 1 then 0 else (n.tmod s + s).tmod s
def nthI (L:List Int) (i:Int):Int:=match L[(wrapI i L.length).toNat]? with | some z=>z | none=>0
def S37:PSpec where
 R args w v:=∃ (lv:Value) (L:List Int) (i:Int),args=[lv,.int .i64 i]∧RowsV intC w lv L∧L.length≤2 ^ 60∧v=.int .i64 (nthI L i)
 uniq:=by
  rintro _ _ _ _ ⟨_,L,i,rfl,h1,_,rfl⟩ ⟨_,L',i',h,k1,_,rfl⟩
  cases h
  rw [h1.uniq (m:=1) intC_length intC_inj k1]
 shut h:=h
def sndB (r:List CAct) (d:List CDay) (acts:List Int):Bool:=decide (chkE r d=0) && canB r d acts
def S33:PSpec where
 R args w v:=∃ (rv dv av:Value) (r:List CAct) (d:List CDay) (b:CBox) (acts:List Int),args=[.agg ⟨curC rv dv b av⟩]∧RowsV actC w rv r∧RowsV cdayC w dv d∧RowsV intC w av acts∧LimW w∧v=.bool (sndB r d acts)
 uniq:=by
  rintro _ _ _ _ ⟨_,_,_,r,d,⟨_,_,_,_⟩,acts,rfl,h1,h2,h3,_,rfl⟩ ⟨_,_,_,r',d',⟨_,_,_,_⟩,acts',h,k1,k2,k3,_,rfl⟩
  simp only [curC,List.cons.injEq,Value.agg.injEq,Array.mk.injEq,Value.int.injEq,true_and,and_true] at h
  obtain ⟨rfl,rfl,rfl,rfl,rfl,rfl,rfl⟩:=h
  rw [h1.uniq (m:=7) actC_length actC_inj k1,h2.uniq (m:=3) cdayC_length cdayC_inj k2,h3.uniq (m:=1) intC_length intC_inj k3]
 shut h:=h
theorem los_at {L:List Sp} {k:Nat} (h:k < L.length):gtS (losL L) k=gtS L k:=by
 unfold gtS losL
 rw [List.getD_eq_getElem?_getD,List.getD_eq_getElem?_getD,List.getElem?_append_left h]
theorem ini_nil (b:CBox) (n i k:Nat):iniF b n [] i k=iniG b n k:=by
 unfold iniF
 split <;> rfl
theorem ini_sub {b b':CBox} (n k:Nat) (h1:b.wl≤b'.wl∧b'.wh≤b.wh) (h2:b.sl≤b'.sl∧b'.sh≤b.sh):subS (iniG b' n k) (iniG b n k):=by
 unfold iniG
 repeat' split
 ·exact h2
 ·exact h1
 ·exact subS.refl _
 ·exact subS.refl _
theorem inn_sub {x:Int} {a b:Sp} (h:inn x a) (k:subS a b):inn x b:=by
 unfold inn at *; unfold subS at k; omega
structure ParW (b b':CBox) (L L':List Sp):Prop where
 len:L'.length=L.length
 los:∀ k,subS (gtS (losL L') k) (gtS (losL L) k)
 w:b.wl≤b'.wl∧b'.wh≤b.wh
 s:b.sl≤b'.sl∧b'.sh≤b.sh
theorem ParW.sol {b b':CBox} {L L':List Sp} (h:ParW b b' L L') (hlen:L.length≤14) {x:Nat→Int} (hx:SolS (L.length + 1) (gtS (losL L')) (gtS (iniW b' L' [])) x):SolS (L.length + 1) (gtS (losL L)) (gtS (iniW b L [])) x:=by
 refine ⟨fun i hi=>?_,fun i hi=>inn_sub (hx.2 i hi) (h.los i)⟩
 have h1:=hx.1 i hi
 unfold iniW at h1 ⊢
 rw [mkW_at _ (by omega),ini_nil] at h1 ⊢
 rw [h.len] at h1
 exact inn_sub h1 (ini_sub _ _ h.w h.s)
def rowN (n:Nat) (Y:Nat→Int):List Int:=(List.range (n + 1)).map Y
structure In40 (we:AW) (r:List CAct) (d:List CDay) (b:CBox) (acts:List Int) (rv dv av:Value) (n:Nat) (Y:Nat→Int) (w:AW):Prop where
 box:w.heap.get we.next=some (.cells (curC rv dv b av) 30 false)
 row:w.heap.get (we.next + 1)=some (.cells ((rowN n Y).flatMap intC) 3 false)
 up:Up we w
 next:we.next + 2≤w.next
structure KeepC (t t':Tm):Prop where
 k1:tget t' 1=tget t 1
 k2:tget t' 2=tget t 2
 k4:tget t' 4=tget t 4
 k10:tget t' 10=tget t 10
end Go.Proofs.YtnmamelclmfplaaDoor.walk
