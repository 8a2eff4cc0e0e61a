/- Part of a proof: see the text with the theorem. -/
import Derived.Test.YtabiiddijccmdaaDoorTf
set_option linter.all false
namespace Go.Proofs.YtabiiddijccmdaaDoor.walk
open Go Go.Sh
set_option maxRecDepth 100000
def lastM (L V D:List Sp):Sp:=(moI (gtS D L.length).1 (gtS V (L.length + 1)).2,moI (gtS V L.length).2 (gtS V (L.length + 1)).1)
def surB (b:CBox) (L:List Sp) (lim:Sp):Bool:=match weighF b L [] with
 | none=>false
 | some V=>match dryF L V with
  | none=>false
  | some D=>decide (lim.1≤(lastM L V D).1) && decide ((lastM L V D).2≤lim.2)
def S42:PSpec where
 R args w v:=∃ (b:CBox) (pv:Value) (L:List Sp) (lim:Sp),args=[.agg ⟨procC b pv⟩,.agg ⟨spC lim⟩]∧ProcV w pv L∧L.length≤14∧LosW (losL L)∧boxB b=true∧LimW w∧w.lim≤w.next∧v=.bool (surB b L lim)
 uniq:=by
  rintro _ _ _ _ ⟨⟨_,_,_,_⟩,pv,L,⟨_,_⟩,rfl,h1,_,_,_,_,_,rfl⟩ ⟨⟨_,_,_,_⟩,pv',L',⟨_,_⟩,h,k1,_,_,_,_,_,rfl⟩
  simp only [procC,spC,List.cons.injEq,Value.agg.injEq,Array.mk.injEq,Value.int.injEq,true_and,and_true] at h
  obtain ⟨⟨rfl,rfl,rfl,rfl,rfl⟩,rfl,rfl⟩:=h
  rw [h1.rows.uniq (m:=2) spC_length spC_inj k1.rows]
 shut:=fun ⟨a1,a2,a3,a4,h1,h2,h3,h4,h5,h6,_,h7⟩=>⟨a1,a2,a3,a4,h1,h2,h3,h4,h5,h6,Nat.le_refl _,h7⟩
theorem weigh_bnd {b:CBox} {L V:List Sp} {l:List CRead} (hb:boxB b=true) (hL:LosW (losL L)) (hR:ReadOk l) (hlen:L.length≤14) (h:weighF b L l=some V):BndW V:=by
 have hW:(iniW b L l).length=16:=by simp [iniW]
 have hN:(losL L).length=L.length + 1:=by simp
 have hwb:BndW (iniW b L l):=mkW_bnd fun k=>iniF_bnd hb hR _ _ k
 unfold weighF at h
 rw [hN] at h
 -- each pass keeps bounds
 have key:∀ (f:Nat) (W U:List Sp),W.length=16→BndW W→narW (losL L) (L.length + 1) f W=some U→BndW U:=by
  intro f
  induction f with
  | zero=>intro W U _ hw h; cases h; exact hw
  | succ f ih =>
   intro W U hl hw h
   simp only [narW] at h
   cases hp:passW (losL L) (L.length + 1) W with
   | none=>rw [hp] at h; cases h
   | some V' =>
    rw [hp] at h
    have h1:=pass_bnd hw hL hp (by omega)
    have h2:=(passW_fn hp (by omega)).2
    simp only at h
    split at h
    ·cases h; exact h1
    ·exact ih V' U (by omega) h1 h
 exact key 40 _ V hW hwb h
theorem run42 {ov:Ov} (ho:∀ args w,ov 42 args w=none) (ho66:∀ args w,ov 78 args w=none) (h64:HasP ov 45 S45.F) (h84:HasP ov 82 S82.F) (h86:HasP ov 77 S77.F) (h88:HasP ov 111 S111.F) (h93:HasP ov 76 S76.F) (b:CBox) (hb:boxB b=true) (pv:Value) (L:List Sp) (lim:Sp) (hlen:L.length≤14) (hL:LosW (losL L)) (w:AW) (hl:w.lim=w.next) (hLim:LimW w) (hpv:ProcV w pv L):∃ x w',(run Tryd.prog ov 4).call 42 [.agg ⟨procC b pv⟩,.agg ⟨spC lim⟩] w .none=.ok (.ret x) w' .none∧x=.bool (surB b L lim):=by
 refine call_wp text42 (by simp) (ho _ _) ?_
 obtain ⟨w1,hw1e⟩:∃ w1:AW,w1=⟨(w.heap.put w.next (some (.cells (procC b pv) 122 false))).put (w.next + 1) (some (.cells [.int .i64 lim.1,.int .i64 lim.2] 24 false)),w.next + 1 + 1,w.lim⟩:=⟨_,rfl⟩
 have u1:Up w w1:=by rw [hw1e]; exact ((Up.refl w).add _).put (Nat.le_succ _) (Nat.le_succ _)
 have n1:w1.next=w.next + 1 + 1:=by rw [hw1e]
 have l1:w1.lim=w.lim:=u1.lim
 have r86:=S77.call (P:=Tryd.prog) h86 (m:=2) (w:=w1) ⟨b,pv,.slice none 0 0,L,[],rfl,hpv.up u1,hlen,hL,hb,.inl ⟨rfl,_,_,rfl⟩,by simp,fun p hp=>by simp at hp,hLim.up u1,by omega,rfl⟩
 have r93:=fun a b c d w=>S76.call (P:=Tryd.prog) h93 (m:=2) (w:=w) ⟨a,b,c,d,rfl,rfl⟩
 have lw:w.lim≤w.next + 1 + 1:=by omega
 have hz:zerC.length=32:=rfl
 have hzd:zerC.drop 32=[]:=rfl
 have hzs:singles zerC=true:=rfl
 rw [hw1e] at r86
 simp only [spC] at ⊢
 cases hN:weighF b L [] with
 | none =>
  have e:surB b L lim=false:=by unfold surB; rw [hN]
  rw [hN] at r86
  simp only [narR,procC] at r86 ⊢
  simp only [Nat.reduceAdd] at r86
  simp [mc42,cellsOf_agg,ez,r86,lw,hz,hzd,hzs,e,tupV]
 | some V =>
  have hok:=weigh_ok hb hL hlen hN
  obtain ⟨D,hD,hdo⟩:=dry_ok hL hlen hok
  have e:surB b L lim=(decide (lim.1≤(lastM L V D).1) && decide ((lastM L V D).2≤lim.2)):=by unfold surB; rw [hN]; simp only; rw [hD]
  have hV:=hok.good.len
  have hVl:=row_len hV
  have hVt:(V.flatMap spC).take 32=V.flatMap spC:=List.take_of_length_le (by omega)
  have hVs:=row_sing V
  have hVb:=weigh_bnd hb hL (fun p hp=>by simp at hp) hlen hN
  obtain ⟨w2,hw2e⟩:∃ w2:AW,w2=⟨(w1.heap.put w1.next (some (.cells zerC 126 false))).put w1.next (some (.cells (V.flatMap spC) 126 false)),w1.next + 1,w1.lim⟩:=⟨_,rfl⟩
  have u2:Up w1 w2:=by rw [hw2e]; exact ((Up.refl w1).add _).put (Nat.le_refl _) (Nat.le_refl _)
  have n2:w2.next=w.next + 1 + 1 + 1:=by rw [hw2e,← n1]
  obtain ⟨v66,w3,c66,⟨B3,hv3,hB3,hb3⟩,u3⟩:=call78 (ov:=ov) 1 ho66 h64 h84 h88 b pv L V (iniW b L []) D hlen hL hVb hok hD hdo w2 (by have:=u2.lim; omega) (hpv.up (u1.trans u2))
  have gl3:w3.heap.get (w.next + 1)=some (.cells [.int .i64 lim.1,.int .i64 lim.2] 24 false):=by
   rw [u3.at (by omega),u2.at (by omega),hw1e]; simp
  have hml:(moL L V D).length=L.length + 1:=by simp
  have hraM:RowsA spC w3.heap w3.next B3 0 (moL L V D):=⟨⟨[],[],24,false,by simpa using hB3,rfl⟩,hb3⟩
  have fM:=hraM.rd spC_length (moL_at (L:=L) (V:=V) (D:=D) (k:=L.length) (by omega))
  rw [Nat.zero_add] at fM
  have hiM:=fun w=>ia71 w ⟨B3,0,none⟩ (L.length + 1) (L.length + 1) .i64 L.length (by omega)
  have hwn:IntKind.wrap .i64 (((L.length + 1:Nat):Int) - 1)=(L.length:Int):=by rw [wrap64_in (by omega) (by omega)]; omega
  have hwn':IntKind.wrap .i64 (L.length:Int)=(L.length:Int):=wrap64_in (by omega) (by omega)
  rw [hml] at hv3
  rw [hN] at r86
  rw [hv3,hw2e,hw1e] at c66
  simp only [narR,procC] at r86 c66 ⊢
  simp only [Nat.reduceAdd] at r86 c66
  simp only [spC] at fM
  rw [e]
  unfold lastM
  generalize V.flatMap spC=cs at r86 c66 hVl hVt hVs
  by_cases k1:lim.1≤moI (gtS D L.length).1 (gtS V (L.length + 1)).2
  ·simp [mc42,cellsOf_agg,ez,r86,lw,hz,hzd,hVl,hVt,hVs,c66,gl3,hiM,fM,hwn,hwn',r93,k1,tupV]
  ·simp [mc42,cellsOf_agg,ez,r86,lw,hz,hzd,hVl,hVt,hVs,c66,gl3,hiM,fM,hwn,hwn',r93,k1,tupV]
theorem gtS_map {α:Type} (f:α→Sp) (l:List α) (k:Nat):gtS (l.map f) k=match l[k]? with | some a=>f a | none=>(0,0):=by
 unfold gtS
 rw [List.getD_eq_getElem?_getD,List.getElem?_map]
 cases l[k]? <;> rfl
theorem los_ok {r:List CAct} {d:List CDay} {b:CBox} {acts:List Int} (h:actE r d b acts=0):LosW (losL (lossL r acts)):=by
 obtain ⟨hR,hD,hB,s,hs⟩:=act_ofE h
 have ha:=stg_acts _ _ _ hs
 intro k
 by_cases h1:k < (lossL r acts).length
 ·have e:gtS (losL (lossL r acts)) k=gtS (lossL r acts) k:=by
   unfold gtS losL
   rw [List.getD_eq_getElem?_getD,List.getD_eq_getElem?_getD,List.getElem?_append_left h1]
  rw [e]
  unfold lossL
  rw [gtS_map]
  cases hk:acts[k]? with
  | none=>simp
  | some a =>
   obtain ⟨_,x,hx⟩:=ha a (List.mem_of_getElem? hk)
   simp only [hx]
   obtain ⟨_,_,q,_⟩:=act_of hR hx
   simp only [spanI,Bool.and_eq_true,decide_eq_true_eq] at q
   omega
 ·by_cases h2:k=(lossL r acts).length
  ·have e:gtS (losL (lossL r acts)) k=(0,1000000):=by
    refine gtS_of ?_
    unfold losL
    rw [h2,List.getElem?_append_right (Nat.le_refl _)]; simp
   rw [e]; simp
  ·have e:gtS (losL (lossL r acts)) k=(0,0):=by
    unfold gtS
    rw [List.getD_eq_getElem?_getD,List.getElem?_eq_none (by simp; omega)]; rfl
   rw [e]; simp
def reachR (r:List CAct) (d:List CDay) (b:CBox) (acts:List Int) (lim:Sp):Value:=if actE r d b acts=0 then (if spanI lim.1 lim.2 0 1000=true then .tuple ⟨[.bool (surB b (lossL r acts) lim),.int .i64 0]⟩ else .tuple ⟨[.bool false,.int .i64 7]⟩) else .tuple ⟨[.bool false,.int .i64 (actE r d b acts)]⟩
theorem run17 {ov:Ov} (ho:∀ args w,ov 17 args w=none) (ho57:∀ args w,ov 41 args w=none) (h56:HasP ov 39 S39.F) (h70:HasP ov 40 S40.F) (h71:HasP ov 42 S42.F) (r:List CAct) (d:List CDay) (b:CBox) (acts:List Int) (lim:Sp) (rv dv av:Value) (w:AW) (hl:w.lim=w.next) (hL:LimW w) (hrv:RowsV actC w rv r) (hdv:RowsV cdayC w dv d) (hav:RowsV intC w av acts):∃ x w',(run Tryd.prog ov 3).call 17 [rv,dv,.agg ⟨boxC b⟩,av,.agg ⟨spC lim⟩] w .none=.ok (.ret x) w' .none∧x=reachR r d b acts lim:=by
 refine call_wp text17 (by simp) (ho _ _) ?_
 obtain ⟨w1,hw1e⟩:∃ w1:AW,w1=⟨(w.heap.put w.next (some (.cells [.int .i64 b.wl,.int .i64 b.wh,.int .i64 b.sl,.int .i64 b.sh] 68 false))).put (w.next + 1) (some (.cells [.int .i64 lim.1,.int .i64 lim.2] 24 false)),w.next + 1 + 1,w.lim⟩:=⟨_,rfl⟩
 have u1:Up w w1:=by rw [hw1e]; exact ((Up.refl w).add _).put (Nat.le_succ _) (Nat.le_succ _)
 have n1:w1.next=w.next + 1 + 1:=by rw [hw1e]
 have l1:w1.lim=w.lim:=u1.lim
 have g9:w1.heap.get (w.next + 1)=some (.cells [.int .i64 lim.1,.int .i64 lim.2] 24 false):=by rw [hw1e]; simp
 have r56:=S39.call (P:=Tryd.prog) h56 (m:=1) ⟨rv,dv,av,r,d,b,acts,rfl,hrv.up u1,hdv.up u1,hav.up u1,hL.up u1,by omega,rfl⟩
 have r70:=S40.call (P:=Tryd.prog) h70 (m:=1) (w:=w1) ⟨6,lim.1,lim.2,(0,1000),rfl,rfl,hL.up u1,rfl⟩
 rw [hw1e] at r56 r70
 simp only [boxC,spC,Nat.reduceAdd] at r56 r70 ⊢
 by_cases hA:actE r d b acts=0
 ·rw [hA] at r56
  cases hS:spanI lim.1 lim.2 0 1000 with
  | false =>
   rw [hS] at r70
   simp [mc17,cellsOf_agg,r56,r70,reachR,hA,hS,tupV]
  | true =>
   rw [hS] at r70
   obtain ⟨hT,h14,hact⟩:=tru_ok hA
   have hLl:(lossL r acts).length=acts.length:=by simp [lossL]
   obtain ⟨_,w2,c57,pv,rfl,hproc,u2⟩:=call41 (ov:=ov) 1 ho57 r acts hact h14 b rv av w1 (by omega) (hrv.up u1) (hav.up u1)
   have g92:w2.heap.get (w.next + 1)=some (.cells [.int .i64 lim.1,.int .i64 lim.2] 24 false):=by rw [u2.at (by omega)]; exact g9
   have r71:=S42.call (P:=Tryd.prog) h71 (m:=1) (w:=w2) ⟨b,pv,lossL r acts,lim,rfl,hproc,by omega,los_ok hA,hT.box,(hL.up u1).up u2,by have:=u2.lim; have:=u2.next; omega,rfl⟩
   rw [hw1e] at c57
   simp only [boxC,spC,procC,Nat.reduceAdd] at c57 r71
   simp [mc17,cellsOf_agg,r56,r70,c57,g92,r71,reachR,hA,hS,tupV]
 ·simp [mc17,cellsOf_agg,r56,reachR,hA,tupV]
def rdB (n:Int) (p:CRead):Bool:=inI 0 p.day n && (inI 0 p.read 1010000 && inI 0 p.wrong 10000)
def rdsB (n:Int) (l:List CRead):Bool:=decide (l.length≤10) && l.all (rdB n)
def S112:PSpec where
 R args w v:=∃ (lv:Value) (l:List CRead) (n:Int),args=[lv,.int .i64 n]∧RowsV readC w lv l∧LimW w∧w.lim≤w.next∧v=.bool (rdsB n l)
 uniq:=by
  rintro _ _ _ _ ⟨_,l,n,rfl,h1,_,_,rfl⟩ ⟨_,l',n',h,k1,_,_,rfl⟩
  cases h
  rw [h1.uniq (m:=3) readC_length readC_inj k1]
 shut:=fun ⟨a1,a2,a3,h1,h2,h3,_,h4⟩=>⟨a1,a2,a3,h1,h2,h3,Nat.le_refl _,h4⟩
theorem run112 {ov:Ov} (ho:∀ args w,ov 112 args w=none) (h81:HasP ov 132 S132.F) (l:List CRead) (n:Int) (lv:Value) (w:AW) (hl:w.lim=w.next) (hL:LimW w) (hlv:RowsV readC w lv l):∃ x w',(run Tryd.prog ov 2).call 112 [lv,.int .i64 n] w .none=.ok (.ret x) w' .none∧x=.bool (rdsB n l):=by
 refine call_wp text112 (by simp) (ho _ _) ?_
 have hl1:=fun w2=>len124V (w':=w2) hlv
 by_cases h1:10 < l.length
 ·have h1':(10:Int) < (l.length:Int):=by omega
  have e:rdsB n l=false:=by unfold rdsB; rw [decide_eq_false (by omega)]; rfl
  simp [mc112,hl1,h1',h1,e,tupV]
 ·have h1':¬ (10:Int) < (l.length:Int):=by omega
  simp [mc112,hl1,h1',h1]
  refine wp_seqX (wp_blockX (wp_rounds (fun i t w'=>Up w w'∧w'.lim≤w'.next∧tget t 1=.int .i64 n∧tget t 10=lv∧tget t 11=.int .i64 (l.length:Nat)∧tget t 12=.int .i64 (i:Nat)∧i≤l.length∧(l.take i).all (rdB n)=true) 20 (by decide) ?_ ?_))
  ·exact ⟨Up.refl w,by omega,by simp,by simp,by simp,by simp,Nat.zero_le _,by simp⟩
  ·rintro i t w' ⟨hu,hle,t1,t10,t11,t12,hi,ha⟩
   by_cases hlt:i < l.length
   ·obtain ⟨p,hp⟩:∃ p,l[i]?=some p:=⟨_,List.getElem?_eq_getElem hlt⟩
    obtain ⟨b,off,sq,c,rfl,hra⟩:=hlv.at_ i hlt
    have hld:=hra.rd (m:=3) readC_length hp
    rw [← hu.at hra.2] at hld
    simp only [readC] at hld
    have hia:=fun w=>ia124 w ⟨b,off,sq⟩ l.length c .i64 i hlt
    have hwi:IntKind.wrap .i64 ((i:Int) + 1)=(i:Int) + 1:=wrap64_in (by omega) (by omega)
    have has:=all_take (p:=rdB n) hp
    have u1:Up w ⟨(w'.heap.put w'.next (some (.cells [.int .i64 0,.int .i64 0,.int .i64 0] 217 false))).put w'.next (some (.cells [.int .i64 p.day,.int .i64 p.read,.int .i64 p.wrong] 217 false)),w'.next + 1,w'.lim⟩:=(hu.add _).put hu.next (Nat.le_refl _)
    have L1:=hL.up u1
    have r81a:=S132.call1 (P:=Tryd.prog) h81 ⟨4,p.read,_,rfl,rfl,L1,rfl⟩
    have r81b:=S132.call1 (P:=Tryd.prog) h81 ⟨5,p.wrong,_,rfl,rfl,L1,rfl⟩
    have hbad:rdB n p=false→rdsB n l=false:=fun h=>by
     unfold rdsB; rw [all_bad hp h,Bool.and_false]
    by_cases k1:p.day < 0
    ·have e:=hbad (by unfold rdB inI; rw [decide_eq_false (by omega)]; rfl)
     simp [mc112_l0,t1,t10,t11,t12,hlt,hia,hld,hle,k1,e,tupV]
    ·by_cases k2:n < p.day
     ·have e:=hbad (by unfold rdB inI; rw [decide_eq_false (by omega:¬ p.day≤n)]; simp)
      simp [mc112_l0,t1,t10,t11,t12,hlt,hia,hld,hle,k1,k2,e,tupV]
     ·have k12:inI 0 p.day n=true:=by simp [inI]; omega
      cases k3:inI 0 p.read 1010000 with
      | false =>
       rw [k3] at r81a
       have e:=hbad (by unfold rdB; rw [k3]; simp)
       simp [mc112_l0,t1,t10,t11,t12,hlt,hia,hld,hle,k1,k2,r81a,e,tupV]
      | true =>
       rw [k3] at r81a
       cases k4:inI 0 p.wrong 10000 with
       | false =>
        rw [k4] at r81b
        have e:=hbad (by unfold rdB; rw [k4]; simp)
        simp [mc112_l0,t1,t10,t11,t12,hlt,hia,hld,hle,k1,k2,r81a,r81b,e,tupV]
       | true =>
        rw [k4] at r81b
        have e:rdB n p=true:=by unfold rdB; rw [k12,k3,k4]; rfl
        rw [ha,e] at has
        simp [mc112_l0,t1,t10,t11,t12,hlt,hia,hld,hle,k1,k2,r81a,r81b,hwi]
        exact ⟨by omega,u1,hlt,by simpa using has⟩
   ·have hi':i=l.length:=by omega
    subst hi'
    have e:rdsB n l=true:=by unfold rdsB; rw [all_full ha,decide_eq_true (by omega)]; rfl
    simp [mc112_l0,t11,t12,e,tupV]
def rdE (r:List CAct) (d:List CDay) (b:CBox) (acts:List Int) (l:List CRead):Int:=if actE r d b acts=0 then (if rdsB (acts.length:Nat) l=true then 0 else 64) else actE r d b acts
def S79:PSpec where
 R args w v:=∃ (rv dv av lv:Value) (r:List CAct) (d:List CDay) (b:CBox) (acts:List Int) (l:List CRead),args=[rv,dv,.agg ⟨boxC b⟩,av,lv]∧RowsV actC w rv r∧RowsV cdayC w dv d∧RowsV intC w av acts∧RowsV readC w lv l∧LimW w∧w.lim≤w.next∧v=.int .i64 (rdE r d b acts l)
 uniq:=by
  rintro _ _ _ _ ⟨_,_,_,_,r,d,⟨_,_,_,_⟩,acts,l,rfl,h1,h2,h3,h4,_,_,rfl⟩ ⟨_,_,_,_,r',d',⟨_,_,_,_⟩,acts',l',h,k1,k2,k3,k4,_,_,rfl⟩
  cases h
  rw [h1.uniq (m:=7) actC_length actC_inj k1,h2.uniq (m:=3) cdayC_length cdayC_inj k2,h3.uniq (m:=1) intC_length intC_inj k3,h4.uniq (m:=3) readC_length readC_inj k4]
 shut:=fun ⟨a1,a2,a3,a4,a5,a6,a7,a8,a9,h1,h2,h3,h4,h5,h6,_,h7⟩=>⟨a1,a2,a3,a4,a5,a6,a7,a8,a9,h1,h2,h3,h4,h5,h6,Nat.le_refl _,h7⟩
theorem run79 {ov:Ov} (ho:∀ args w,ov 79 args w=none) (h56:HasP ov 39 S39.F) (h89:HasP ov 112 S112.F) (r:List CAct) (d:List CDay) (b:CBox) (acts:List Int) (l:List CRead) (rv dv av lv:Value) (w:AW) (hl:w.lim=w.next) (hL:LimW w) (hrv:RowsV actC w rv r) (hdv:RowsV cdayC w dv d) (hav:RowsV intC w av acts) (hlv:RowsV readC w lv l):∃ x w',(run Tryd.prog ov 2).call 79 [rv,dv,.agg ⟨boxC b⟩,av,lv] w .none=.ok (.ret x) w' .none∧x=.int .i64 (rdE r d b acts l):=by
 refine call_wp text79 (by simp) (ho _ _) ?_
 have u1:Up w ⟨w.heap.put w.next (some (.cells [.int .i64 b.wl,.int .i64 b.wh,.int .i64 b.sl,.int .i64 b.sh] 68 false)),w.next + 1,w.lim⟩:=(Up.refl w).add _
 have hl3:=fun w2=>len68V (w':=w2) hav
 have r56:=S39.call1 (P:=Tryd.prog) h56 ⟨rv,dv,av,r,d,b,acts,rfl,hrv.up u1,hdv.up u1,hav.up u1,hL.up u1,by show w.lim≤w.next + 1; omega,rfl⟩
 have r89:=S112.call1 (P:=Tryd.prog) h89 ⟨lv,l,(acts.length:Nat),rfl,hlv.up u1,hL.up u1,by show w.lim≤w.next + 1; omega,rfl⟩
 simp only [boxC] at r56 ⊢
 by_cases hA:actE r d b acts=0
 ·rw [hA] at r56
  cases hB:rdsB (acts.length:Nat) l <;> rw [hB] at r89 <;> simp [mc79,cellsOf_agg,r56,hl3,r89,rdE,hA,hB,tupV]
 ·simp [mc79,cellsOf_agg,r56,rdE,hA,tupV]
theorem arr104:arrN Tryd.prog 126=some (16,24):=by kernel_rfl
theorem sl126 (w:AW) (B k:Nat) (hk:k≤16):sliceA Tryd.prog w 126 (.pointer (some ⟨B,0,none⟩)) none (some (.int .i64 (k:Int))) none=.val (.slice (some ⟨B,0,some 1⟩) k 16) w:=by
 show sliceA Tryd.prog w 126 (.pointer (some ⟨B,0,none⟩)) none (some (.int .i64 (Int.ofNat k))) none=_
 have hb':Nat.ble k 16=true:=Nat.ble_eq_true_of_le hk
 simp [sliceA,sliceB1,arr104,sz24,sliceArr,boundA,hb']
@[simp] theorem eqn43s (B n c:Nat) (w:AW):(binW Tryd.prog .eql 71 true).val (.slice (some ⟨B,0,some 1⟩) n c) (.slice none 0 0) w=.val (.bool false) w:=by kernel_rfl
theorem take_flat (V:List Sp) (n:Nat) (hn:n≤V.length):(V.flatMap spC).take (n * 2)=(V.take n).flatMap spC:=by
 have e:V.flatMap spC=(V.take n).flatMap spC++(V.drop n).flatMap spC:=by rw [← List.flatMap_append,List.take_append_drop]
 have hl:((V.take n).flatMap spC).length=n * 2:=by rw [flat_length spC_length,List.length_take,Nat.min_eq_left hn]
 rw [e,List.take_left' hl]
theorem call44s {ov:Ov} (m:Nat) (ho:∀ args w,ov 44 args w=none) (V:List Sp) (n c:Nat) (hn0:0 < n) (hn:n≤V.length) (hn16:n≤16) (B0:Nat) (we:AW) (hlim:we.lim≤we.next) (hB:we.heap.get B0=some (.cells (V.flatMap spC) 126 false)) (hb:B0 < we.next) :
  ∃ v w',(run Tryd.prog ov (m + 1)).call 44 [.slice (some ⟨B0,0,some 1⟩) n c] we .none=.ok (.ret v) w' .none∧ProcV w' v (V.take n)∧Up we w':=by
 refine call_wp text44 (by simp) (ho _ _) ?_
 have nj:∀ (a:Addr) n c,notJunk (.slice (some a) n c)=some (.slice (some a) n c):=fun _ _ _=>rfl
 have hl:((V.take n).flatMap spC).length=n * 2:=by rw [flat_length spC_length,List.length_take,Nat.min_eq_left hn]
 have hVl:(V.flatMap spC).length=V.length * 2:=flat_length spC_length V
 have hsrc:srcCells ⟨we.heap.put we.next (some (.cells [] 24 false)),we.next + 1,we.lim⟩ 2 (.slice (some ⟨B0,0,some 1⟩) n c)=some ((V.take n).flatMap spC):=by
  have e1:Nat.beq (n * 2) 0=false:=by rw [← Bool.not_eq_true]; intro h; have:=Nat.eq_of_beq_eq_true h; omega
  show (bif Nat.beq (n * 2) 0 then some [] else rd _ B0 0 (n * 2))=_
  rw [e1,cond_false,rd_eq]
  show rdO ((we.heap.put we.next _).get B0) 0 (n * 2)=_
  rw [get_put,if_neg (by omega),hB,rdO_cells,if_pos (by omega),List.drop_zero,take_flat V n hn]
 have hap:=append_full (P:=Tryd.prog) list43 elem71 sz24 small24 (w:=⟨we.heap.put we.next (some (.cells [] 24 false)),we.next + 1,we.lim⟩) (B:=we.next) (n:=0) (m:=n) (c:=[]) (new:=(V.take n).flatMap spC) (x:=.slice (some ⟨B0,0,some 1⟩) n c) rfl hsrc hl (flat_singles (fun _=>rfl) _) hn0 (by omega) (by simp) (by simp) hlim
 simp only [Nat.zero_add,List.nil_append] at hap
 simp [mc44,hap,nj,tupV]
 refine ⟨⟨we.next + 1,by rw [List.length_take,Nat.min_eq_left hn],by simp,Nat.lt_succ_self _⟩,(((Up.refl we).add _).put (Nat.le_refl _) (Nat.le_refl _)).put (Nat.le_succ _) (Nat.le_succ _)⟩
def weiE (r:List CAct) (d:List CDay) (b:CBox) (acts:List Int) (l:List CRead):Int:=if rdE r d b acts l=0 then (match weighF b (lossL r acts) l with | some _=>0 | none=>65) else rdE r d b acts l
theorem rds_ok {n:Int} {l:List CRead} (h:rdsB n l=true):l.length≤10∧ReadOk l:=by
 simp only [rdsB,Bool.and_eq_true,decide_eq_true_eq] at h
 refine ⟨h.1,fun p hp=>?_⟩
 have:=List.all_eq_true.1 h.2 p hp
 simp only [rdB,inI,Bool.and_eq_true,decide_eq_true_eq] at this
 omega
theorem rdE_ok {r:List CAct} {d:List CDay} {b:CBox} {acts:List Int} {l:List CRead} (h:rdE r d b acts l=0):actE r d b acts=0∧rdsB (acts.length:Nat) l=true:=by
 unfold rdE at h
 by_cases hA:actE r d b acts=0
 ·rw [if_pos hA] at h
  cases hB:rdsB (acts.length:Nat) l with
  | true=>exact ⟨hA,rfl⟩
  | false=>rw [hB] at h; simp at h
 ·rw [if_neg hA] at h; exact absurd h hA
def pzC:List Value:=[.int .i64 0,.int .i64 0,.int .i64 0,.int .i64 0,.slice none 0 0]
set_option maxHeartbeats 1000000 in
theorem call43 {ov:Ov} (m:Nat) (ho:∀ args w,ov 43 args w=none) (ho57:∀ args w,ov 41 args w=none) (h68:HasP ov 79 S79.F) (h86:HasP ov 77 S77.F) (r:List CAct) (d:List CDay) (b:CBox) (acts:List Int) (l:List CRead) (rv dv av lv:Value) (we:AW) (hlim:we.lim≤we.next) (hL:LimW we) (hrv:RowsV actC we rv r) (hdv:RowsV cdayC we dv d) (hav:RowsV intC we av acts) (hlv:RowsV readC we lv l) :
  ∃ v w',(run Tryd.prog ov (m + 2)).call 43 [rv,dv,.agg ⟨boxC b⟩,av,lv] we .none=.ok (.ret v) w' .none∧((weiE r d b acts l ≠ 0∧v=.tuple ⟨[.agg ⟨pzC⟩,.agg ⟨zerC⟩,.int .i64 (weiE r d b acts l)]⟩)∨(weiE r d b acts l=0∧∃ pv V,weighF b (lossL r acts) l=some V∧v=.tuple ⟨[.agg ⟨procC b pv⟩,.agg ⟨V.flatMap spC⟩,.int .i64 0]⟩∧ProcV w' pv (lossL r acts)))∧Up we w':=by
 refine call_wp text43 (by simp) (ho _ _) ?_
 have hz:zerC.length=32:=rfl
 have hzt:zerC.take 32=zerC:=rfl
 have hzd:zerC.drop 32=[]:=rfl
 have hzs:singles zerC=true:=rfl
 have lw0:we.lim≤we.next + 1:=by omega
 have lw1:we.lim≤we.next + 1 + 1:=by omega
 have lw2:we.lim≤we.next + 1 + 1 + 1:=by omega
 obtain ⟨w1,hw1e⟩:∃ w1:AW,w1=⟨((we.heap.put we.next (some (.cells [.int .i64 b.wl,.int .i64 b.wh,.int .i64 b.sl,.int .i64 b.sh] 68 false))).put (we.next + 1) (some (.cells pzC 122 false))).put (we.next + 1 + 1) (some (.cells zerC 126 false)),we.next + 1 + 1 + 1,we.lim⟩:=⟨_,rfl⟩
 have u1:Up we w1:=by rw [hw1e]; exact (((Up.refl we).add _).put (Nat.le_succ _) (Nat.le_succ _)).put (by show we.next≤we.next + 1 + 1; omega) (Nat.le_succ _)
 have n1:w1.next=we.next + 1 + 1 + 1:=by rw [hw1e]
 have l1:w1.lim=we.lim:=u1.lim
 have r68:=S79.call (P:=Tryd.prog) h68 (m:=m) ⟨rv,dv,av,lv,r,d,b,acts,l,rfl,hrv.up u1,hdv.up u1,hav.up u1,hlv.up u1,hL.up u1,by omega,rfl⟩
 have epz:([.int .i64 0,.int .i64 0,.int .i64 0,.int .i64 0,.slice none 0 0]:List Value)=pzC:=rfl
 have hp1:pzC.length=5:=rfl
 have hpt:pzC.take 5=pzC:=rfl
 have hpd:pzC.drop 5=[]:=rfl
 have hps:singles pzC=true:=rfl
 simp only [boxC] at r68 ⊢
 by_cases hE:rdE r d b acts l=0
 case neg =>
  have e:weiE r d b acts l=rdE r d b acts l:=by unfold weiE; rw [if_neg hE]
  rw [hw1e] at r68
  simp [mc43,cellsOf_agg,ez,epz,r68,hE,lw0,lw1,hz,hzt,hzd,hzs,hp1,hpt,hpd,hps,tupV,e]
  rw [hw1e] at u1
  exact (u1.put (by omega) (Nat.le_refl _)).put (by omega) (Nat.le_refl _)
 obtain ⟨hA,hRd⟩:=rdE_ok hE
 obtain ⟨h10,hRok⟩:=rds_ok hRd
 obtain ⟨hT,h14,hact⟩:=tru_ok hA
 have hLl:(lossL r acts).length=acts.length:=by simp [lossL]
 obtain ⟨_,w2,c57,pv,rfl,hproc,u2⟩:=call41 (ov:=ov) m ho57 r acts hact h14 b rv av w1 (by omega) (hrv.up u1) (hav.up u1)
 have hn2:=u2.next
 have hl2:=u2.lim
 obtain ⟨w3,hw3e⟩:∃ w3:AW,w3=⟨(w2.heap.put w2.next (some (.cells pzC 122 false))).put w2.next (some (.cells (procC b pv) 122 false)),w2.next + 1,w2.lim⟩:=⟨_,rfl⟩
 have u3:Up w2 w3:=by rw [hw3e]; exact ((Up.refl w2).add _).put (Nat.le_refl _) (Nat.le_refl _)
 have n3:w3.next=w2.next + 1:=by rw [hw3e]
 have u13:=(u1.trans u2).trans u3
 have r86:=S77.call (P:=Tryd.prog) h86 (m:=m) (w:=w3) ⟨b,pv,lv,lossL r acts,l,rfl,hproc.up u3,by omega,los_ok hA,hT.box,hlv.up u13,h10,hRok,hL.up u13,by have:=u3.lim; omega,rfl⟩
 have lw22:w2.lim≤w2.next:=by omega
 have c1:w2.heap.get (we.next + 1)=some (.cells pzC 122 false):=by rw [u2.at (by omega),hw1e]; simp
 have c11:w2.heap.get (we.next + 1 + 1)=some (.cells zerC 126 false):=by rw [u2.at (by omega),hw1e]; simp
 obtain ⟨B,hpe,hB1,hB2⟩:=id hproc
 have sp1:=same_proc b (some ⟨B,0,none⟩) (lossL r acts).length (lossL r acts).length
 have ps1:singles (procC b (.slice (some ⟨B,0,none⟩) (lossL r acts).length (lossL r acts).length))=true:=rfl
 rw [← hpe] at sp1 ps1
 have d1:¬ we.next + 1=w2.next:=by omega
 have d2:¬ we.next + 1 + 1=w2.next:=by omega
 have d1':¬ we.next + 1=w2.next + 1:=by omega
 have d2':¬ we.next + 1 + 1=w2.next + 1:=by omega
 have d1'':¬ we.next=w2.next:=by omega
 have m1:¬ w2.next=we.next + 1:=by omega
 have m2:¬ w2.next=we.next + 1 + 1:=by omega
 have m3:¬ w2.next + 1=we.next + 1:=by omega
 have m4:¬ w2.next=we.next:=by omega
 have lim1:w2.lim≤we.next + 1:=by omega
 have lim2:w2.lim≤we.next + 1 + 1:=by omega
 have lim3:w2.lim≤w2.next + 1:=by omega
 rw [hw1e] at r68 c57
 rw [hE] at r68
 rw [hw3e] at r86
 simp only [boxC] at c57
 obtain ⟨pcs,hpcs⟩:∃ pcs,pcs=procC b pv:=⟨_,rfl⟩
 have hpl:pcs.length=5:=by rw [hpcs]; rfl
 have hpt':pcs.take 5=pcs:=List.take_of_length_le (by omega)
 rw [← hpcs] at sp1 ps1 r86 c57
 cases hN:weighF b (lossL r acts) l with
 | none =>
  have e:weiE r d b acts l=65:=by unfold weiE; rw [if_pos hE,hN]
  rw [hN] at r86
  simp only [narR] at r86
  simp [mc43,cellsOf_agg,ez,epz,r68,c57,hp1,hpt,hpd,hps,hpl,hpt',ps1,sp1,lw22,r86,hz,hzt,hzd,hzs,d1,d2,d1',d2',d1'',m1,m2,m3,m4,lim1,lim2,lim3,c1,c11,e,tupV]
  exact ((((((u1.trans u2).add _).put (by omega) (Nat.le_refl _)).put (by omega) (Nat.le_succ _)).put (by omega) (Nat.le_refl _)).put (by omega) (Nat.le_refl _)).put (by omega) (Nat.le_refl _)
 | some V =>
  have e:weiE r d b acts l=0:=by unfold weiE; rw [if_pos hE,hN]
  have hV16:V.length=16:=by
   have:=narW_length (by simp; omega) hN
   rw [this]; simp
  have hVl:=row_len hV16
  have hVt:(V.flatMap spC).take 32=V.flatMap spC:=List.take_of_length_le (by omega)
  have hVs:=row_sing V
  have hVv:=same_rowV V
  rw [hN] at r86
  simp only [narR] at r86
  generalize hcs:V.flatMap spC=cs at r86 hVl hVt hVs hVv
  simp [mc43,cellsOf_agg,ez,epz,r68,c57,hp1,hpt,hpd,hps,hpl,hpt',ps1,sp1,lw22,r86,hz,hzt,hzd,hzs,d1,d2,d1',d2',d1'',m1,m2,m3,m4,lim1,lim2,lim3,c1,c11,hVl,hVt,hVs,hVv,e,tupV]
  have b1:B ≠ we.next + 1:=fun h=>by rw [h,c1] at hB1; simp at hB1
  have b2:B ≠ we.next + 1 + 1:=fun h=>by rw [h,c11] at hB1; simp at hB1
  refine ⟨⟨pv,⟨hpcs,hcs.symm⟩,B,hpe,?_,by show B < w2.next + 1 + 1; omega⟩,((((((u1.trans u2).add _).put (by omega) (Nat.le_refl _)).put (by omega) (Nat.le_succ _)).put (by omega) (Nat.le_refl _)).put (by omega) (Nat.le_refl _)).put (by omega) (Nat.le_refl _)⟩
  show ((((((w2.heap.put _ _).put _ _).put _ _).put _ _).put _ _).put _ _).get B=_
  rw [get_put,if_neg b2,get_put,if_neg b1,get_put,if_neg (by omega),get_put,if_neg (by omega),get_put,if_neg (by omega),get_put,if_neg (by omega)]
  exact hB1
set_option maxHeartbeats 1000000 in
theorem call18 {ov:Ov} (m:Nat) (ho:∀ args w,ov 18 args w=none) (ho57:∀ args w,ov 41 args w=none) (ho62:∀ args w,ov 43 args w=none) (ho63:∀ args w,ov 44 args w=none) (h64:HasP ov 45 S45.F) (h68:HasP ov 79 S79.F) (h86:HasP ov 77 S77.F) (r:List CAct) (d:List CDay) (b:CBox) (acts:List Int) (l:List CRead) (rv dv av lv:Value) (we:AW) (hlim:we.lim≤we.next) (hL:LimW we) (hrv:RowsV actC we rv r) (hdv:RowsV cdayC we dv d) (hav:RowsV intC we av acts) (hlv:RowsV readC we lv l) :
  ∃ v w',(run Tryd.prog ov (m + 3)).call 18 [rv,dv,.agg ⟨boxC b⟩,av,lv] we .none=.ok (.ret v) w' .none∧(∃ v1,v=.tuple ⟨[v1,.int .i64 (weiE r d b acts l)]⟩∧(weiE r d b acts l ≠ 0→v1=.slice none 0 0)∧(weiE r d b acts l=0→∃ V,weighF b (lossL r acts) l=some V∧ProcV w' v1 (V.take ((lossL r acts).length + 1))))∧Up we w':=by
 refine call_wp text18 (by simp) (ho _ _) ?_
 have hz:zerC.length=32:=rfl
 have hzt:zerC.take 32=zerC:=rfl
 have hzd:zerC.drop 32=[]:=rfl
 have hzs:singles zerC=true:=rfl
 have epz:([.int .i64 0,.int .i64 0,.int .i64 0,.int .i64 0,.slice none 0 0]:List Value)=pzC:=rfl
 have hp1:pzC.length=5:=rfl
 have hpd:pzC.drop 5=[]:=rfl
 have hps:singles pzC=true:=rfl
 have nn:notJunk (.slice none 0 0)=some (.slice none 0 0):=rfl
 obtain ⟨w1,hw1e⟩:∃ w1:AW,w1=⟨we.heap.put we.next (some (.cells [.int .i64 b.wl,.int .i64 b.wh,.int .i64 b.sl,.int .i64 b.sh] 68 false)),we.next + 1,we.lim⟩:=⟨_,rfl⟩
 have u1:Up we w1:=by rw [hw1e]; exact (Up.refl we).add _
 have n1:w1.next=we.next + 1:=by rw [hw1e]
 have l1:w1.lim=we.lim:=u1.lim
 obtain ⟨v62,w2,c62,hv,u2⟩:=call43 (ov:=ov) m ho62 ho57 h68 h86 r d b acts l rv dv av lv w1 (by omega) (hL.up u1) (hrv.up u1) (hdv.up u1) (hav.up u1) (hlv.up u1)
 have hn2:=u2.next
 have hl2:=u2.lim
 have lw2:w2.lim≤w2.next:=by omega
 have lw21:w2.lim≤w2.next + 1:=by omega
 rw [hw1e] at c62
 simp only [boxC] at c62 ⊢
 rcases hv with ⟨hne,rfl⟩ | ⟨he,pv,V,hN,rfl,hproc⟩
 ·simp [mc18,cellsOf_agg,ez,epz,c62,lw2,lw21,hz,hzt,hzd,hzs,hp1,hpd,hps,hne,nn,tupV]
  exact (((((u1.trans u2).add _).put (by omega) (Nat.le_succ _)).put (by omega) (Nat.le_refl _)).put (by omega) (Nat.le_refl _))
 ·obtain ⟨B,hpe,hB1,hB2⟩:=id hproc
  have hA:actE r d b acts=0:=by
   have h1:rdE r d b acts l=0:=by
    unfold weiE at he
    by_cases hE:rdE r d b acts l=0
    ·exact hE
    ·rw [if_neg hE] at he; exact absurd he hE
   exact (rdE_ok h1).1
  obtain ⟨hT,h14,hact⟩:=tru_ok hA
  have hLl:(lossL r acts).length=acts.length:=by simp [lossL]
  have r64:=fun w=>S45.call (P:=Tryd.prog) h64 (m:=m + 1) (w:=w) ⟨b,some ⟨B,0,none⟩,(lossL r acts).length,(lossL r acts).length,rfl,by omega,rfl⟩
  rw [← hpe] at r64
  have hV16:V.length=16:=by
   have:=narW_length (by simp; omega) hN
   rw [this]; simp
  have hVl:=row_len hV16
  have hVt:(V.flatMap spC).take 32=V.flatMap spC:=List.take_of_length_le (by omega)
  have hVs:=row_sing V
  obtain ⟨pcs,hpcs⟩:∃ pcs,pcs=procC b pv:=⟨_,rfl⟩
  have hpl:pcs.length=5:=by rw [hpcs]; rfl
  have hpt':pcs.take 5=pcs:=List.take_of_length_le (by omega)
  have ps1:singles pcs=true:=by rw [hpcs,hpe]; rfl
  rw [← hpcs] at c62 r64
  obtain ⟨w3,hw3e⟩:∃ w3:AW,w3=⟨(((w2.heap.put w2.next (some (.cells pzC 122 false))).put (w2.next + 1) (some (.cells zerC 126 false))).put w2.next (some (.cells pcs 122 false))).put (w2.next + 1) (some (.cells (V.flatMap spC) 126 false)),w2.next + 1 + 1,w2.lim⟩:=⟨_,rfl⟩
  have u3:Up w2 w3:=by rw [hw3e]; exact ((((Up.refl w2).add _).put (Nat.le_succ _) (Nat.le_succ _)).put (Nat.le_refl _) (Nat.le_refl _)).put (Nat.le_succ _) (Nat.le_refl _)
  have g3:w3.heap.get (w2.next + 1)=some (.cells (V.flatMap spC) 126 false):=by rw [hw3e]; simp
  have n3:w3.next=w2.next + 1 + 1:=by rw [hw3e]
  obtain ⟨v63,w4,c63,hpr,u4⟩:=call44s (ov:=ov) (m + 1) ho63 V ((lossL r acts).length + 1) 16 (by omega) (by omega) (by omega) (w2.next + 1) w3 (by have:=u3.lim; omega) g3 (by omega)
  have hsl:=fun w=>sl126 w (w2.next + 1) ((lossL r acts).length + 1) (by omega)
  rw [show (((lossL r acts).length + 1:Nat):Int)=((lossL r acts).length:Int) + 1 by omega] at hsl
  rw [hw3e] at c63
  obtain ⟨B4,hv4,_,_⟩:=id hpr
  have nj:notJunk v63=some v63:=by rw [hv4]; rfl
  rw [he,hN]
  generalize hcs:V.flatMap spC=cs at c62 c63 hVl hVt hVs
  simp [mc18,cellsOf_agg,ez,epz,c62,lw2,lw21,hz,hzt,hzd,hzs,hp1,hpd,hps,hpl,hpt',ps1,hVl,hVt,hVs,r64,hsl,c63,nj,tupV]
  exact ⟨hpr,((u1.trans u2).trans u3).trans u4⟩
theorem los_at {L:List Sp} {k:Nat} (h:k < L.length):gtS (losL L) k=gtS L k:=by
 unfold gtS losL
 rw [List.getD_eq_getElem?_getD,List.getD_eq_getElem?_getD,List.getElem?_append_left h]
theorem iniW_at {b:CBox} {L:List Sp} {l:List CRead} (hlen:L.length≤14) {k:Nat} (hk:k≤L.length + 1):gtS (iniW b L l) k=iniF b L.length l (L.length + 1) k:=mkW_at _ (by omega)
set_option maxRecDepth 100000
theorem fold_of:∀ {l:List CRead} {s:Sp} {x:Int},inn x s→(∀ p ∈ l,inn x (readS p))→inn x (foldR l s)
 | [],_,_,h,_=>h
 | q::l,s,x,h,k=>by
  have hq:=k q List.mem_cons_self
  refine fold_of (l:=l) (s:=bothS s (readS q)) ?_ fun p hp=>k p (List.mem_cons_of_mem _ hp)
  unfold inn bothS at *
  simp only
  omega
theorem allIn_at:∀ {L:List Sp} {ls:List Int} {i:Nat} {y:Int},ls.length=L.length→allIn ls L=true→ls[i]?=some y→inn y (gtS L i)
 | [],ls,i,y,hl,_,h=>by
  have:=(List.getElem?_eq_some_iff.1 h).1
  simp at hl
  rw [hl] at this; simp at this
 | s::L,[],i,y,hl,_,h=>by simp at h
 | s::L,a::t,0,y,hl,ha,h=>by
  have ha':(inI s.1 a s.2 && allIn t L)=true:=ha
  simp only [inI,Bool.and_eq_true,decide_eq_true_eq] at ha'
  cases h
  rw [gtS_of (s:=s) rfl]
  exact ha'.1
 | s::L,a::t,i + 1,y,hl,ha,h=>by
  have ha':(inI s.1 a s.2 && allIn t L)=true:=ha
  simp only [Bool.and_eq_true] at ha'
  exact allIn_at (L:=L) (ls:=t) (i:=i) (by simpa using hl) ha'.2 (by simpa using h)
def truX (ws s:Int) (ls:List Int) (k:Nat):Int:=if k=ls.length + 1 then s else ws - (ls.take k).sum
theorem tru_sol {b:CBox} {L:List Sp} {ws s:Int} {ls:List Int} {l:List CRead} (hb:boxB b=true) (hlen:L.length≤14) (hL:LosW (losL L)) (h:truB b L ws s ls=true) (hf:∀ p ∈ l,0≤p.day∧p.day≤L.length→inn (truX ws s ls p.day.toNat) (readS p)):SolS (L.length + 1) (gtS (losL L)) (gtS (iniW b L l)) (truX ws s ls):=by
 have hbx:=hb
 simp only [boxB,spanI,Bool.and_eq_true,decide_eq_true_eq] at hbx
 simp only [truB,inI,Bool.and_eq_true,decide_eq_true_eq] at h
 obtain ⟨h1,h2,h3,h4,h5⟩:=h
 have hstep:∀ i,i < L.length→inn (truX ws s ls i - truX ws s ls (i + 1)) (gtS L i):=fun i hi=>by
  obtain ⟨y,hy⟩:∃ y,ls[i]?=some y:=⟨_,List.getElem?_eq_getElem (by omega)⟩
  have:=allIn_at h3 h4 hy
  unfold truX
  rw [if_neg (by omega),if_neg (by omega),take_snoc hy,List.sum_append]
  unfold inn at this ⊢
  simp only [List.sum_cons,List.sum_nil]
  omega
 have hx0:truX ws s ls 0=ws:=by unfold truX; rw [if_neg (by omega)]; simp
 have hxn:truX ws s ls L.length=ws - ls.sum:=by unfold truX; rw [if_neg (by omega),← h3,List.take_length]
 have hxN:truX ws s ls (L.length + 1)=s:=by unfold truX; rw [h3,if_pos rfl]
 have hmono:∀ j,j≤L.length→truX ws s ls L.length≤truX ws s ls (L.length - j)∧(∀ k,k≤j→truX ws s ls k≤ws):=by
  intro j
  induction j with
  | zero=>intro _; exact ⟨Int.le_refl _,fun k hk=>by rw [show k=0 by omega,hx0]; exact Int.le_refl _⟩
  | succ j ih =>
   intro hj
   obtain ⟨i1,i2⟩:=ih (by omega)
   have s1:=hstep (L.length - (j + 1)) (by omega)
   rw [show L.length - (j + 1) + 1=L.length - j by omega] at s1
   have s2:=hstep j (by omega)
   have l1:=hL (L.length - (j + 1))
   have l2:=hL j
   rw [los_at (by omega)] at l1 l2
   unfold inn at s1 s2
   refine ⟨by omega,fun k hk=>?_⟩
   by_cases e:k=j + 1
   ·subst e
    have:=i2 j (Nat.le_refl _)
    omega
   ·exact i2 k (by omega)
 have hb2:∀ k,k≤L.length→s≤truX ws s ls k∧truX ws s ls k≤ws:=fun k hk=>by
  have a1:=(hmono (L.length - k) (by omega)).1
  rw [show L.length - (L.length - k)=k by omega] at a1
  have a2:=(hmono L.length (Nat.le_refl _)).2 k hk
  omega
 refine ⟨fun i hi=>?_,fun i hi=>?_⟩
 ·rw [iniW_at hlen hi]
  by_cases e:i=L.length + 1
  ·subst e
   unfold iniF iniG
   rw [if_neg (by omega),if_pos rfl,hxN]
   exact h2
  ·unfold iniF
   rw [if_pos (by omega)]
   refine fold_of ?_ fun p hp=>?_
   ·have hbi:=hb2 i (by omega)
    unfold iniG
    rw [if_neg e]
    by_cases e0:i=0
    ·rw [if_pos e0,e0,hx0]; exact h1
    ·rw [if_neg e0,if_pos (by omega)]
     unfold inn
     simp only
     omega
   ·unfold onDay at hp
    obtain ⟨hp1,hp2⟩:=List.mem_filter.1 hp
    have hd:p.day=(i:Int):=by simpa using hp2
    have:=hf p hp1 (by omega)
    rwa [show p.day.toNat=i by omega] at this
 ·by_cases e:i=L.length
  ·subst e
   have e2:gtS (losL L) L.length=(0,1000000):=by
    unfold gtS losL
    rw [List.getD_eq_getElem?_getD,List.getElem?_append_right (Nat.le_refl _),Nat.sub_self]; rfl
   rw [e2,hxn,hxN]
   have:=hb2 L.length (Nat.le_refl _)
   rw [hxn] at this
   unfold inn
   simp only
   omega
  ·rw [los_at (by omega)]
   exact hstep i (by omega)
theorem wei_some {b:CBox} {L:List Sp} {l:List CRead} (hlen:L.length≤14) {x:Nat→Int} (h:SolS (L.length + 1) (gtS (losL L)) (gtS (iniW b L l)) x):∃ V,weighF b L l=some V:=by
 cases hV:weighF b L l with
 | some V=>exact ⟨V,rfl⟩
 | none =>
  exfalso
  unfold weighF at hV
  rw [losL_length] at hV
  exact nar_none (by show L.length + 1 < (iniW b L l).length; simp [iniW]; omega) hV _ h
theorem mo_in {b:CBox} {L V D:List Sp} {l:List CRead} (hL:LosW (losL L)) (_hlen:L.length≤14) (ok:WeiOk L V (iniW b L l)) (dok:DryOk L V D) {x:Nat→Int} (h:SolS (L.length + 1) (gtS (losL L)) (gtS (iniW b L l)) x) {k:Nat} (hk:k≤L.length):moI (gtS D k).1 (gtS V (L.length + 1)).2≤moI (x k) (x (L.length + 1))∧moI (x k) (x (L.length + 1))≤moI (gtS V k).2 (gtS V (L.length + 1)).1:=by
 have hx:=(ok.sol x).2 h
 have fx:=mo_fits hL ok dok (k:=k) (by omega)
 have hxk:=hx.1 k (by omega)
 have hxN:=hx.1 (L.length + 1) (Nat.le_refl _)
 have hNk:x (L.length + 1)≤x k:=by
  -- weights do not grow
  have:∀ j,j≤L.length + 1 - k→x (L.length + 1)≤x (L.length + 1 - j):=by
   intro j
   induction j with
   | zero=>intro _; exact Int.le_refl _
   | succ j ih =>
    intro hj
    have i1:=ih (by omega)
    have s1:=hx.2 (L.length + 1 - (j + 1)) (by omega)
    rw [show L.length + 1 - (j + 1) + 1=L.length + 1 - j by omega] at s1
    have l1:=hL (L.length + 1 - (j + 1))
    unfold inn at s1
    omega
  have:=this (L.length + 1 - k) (Nat.le_refl _)
  rwa [show L.length + 1 - (L.length + 1 - k)=k by omega] at this
 have hlo:=ok.lo
 unfold inn at hxk hxN
 refine ⟨moist_low ok.exact dok.exact (los_le hL _) h (a:=k) (by omega) (by omega) (by omega) hNk (by omega),?_⟩
 have h1:=moI_mono (x:=x k) (y:=(gtS V k).2) (s:=x (L.length + 1)) (by omega) hxk.2 (by omega)
 have h2:=moI_anti (x:=(gtS V k).2) (s:=(gtS V (L.length + 1)).1) (r:=x (L.length + 1)) (by omega) hxN.1
 omega
variable {fm:Nat}
noncomputable def mc16_p0:MC:=.seq (.ops [⟨true,none,some 18,0,.fieldAddr 51 (.tmp 5) 0⟩]) (.seq (.ops [⟨true,none,some 19,27,.load 27 (.tmp 18)⟩]) (.seq (.ops [⟨true,none,some 20,0,.fieldAddr 33 (.tmp 7) 2⟩]) (.seq (.ops [⟨true,none,some 21,0,.fieldAddr 24 (.tmp 20) 0⟩]) (.seq (.ops [⟨true,none,some 22,3,.load 3 (.tmp 21)⟩]) (.seq (.ops [⟨true,none,some 23,0,.fieldAddr 33 (.tmp 7) 2⟩]) (.seq (.ops [⟨true,none,some 24,0,.fieldAddr 24 (.tmp 23) 1⟩]) (.seq (.ops [⟨true,none,some 25,3,.load 3 (.tmp 24)⟩]) (.seq (.ops [⟨true,none,some 26,27,.move (.tmp 1)⟩]) (.seq (.ops [⟨true,none,some 27,3,.move (.tmp 6)⟩]) (.seq (.ops [⟨true,none,some 28,3,.binOp .mul 3 (.const (.int .i64 3)) (.tmp 27) 3⟩]) (.seq (.ops [⟨true,none,some 33,0,.fieldAddr 51 (.tmp 5) 1⟩]) (.seq (.ops [⟨true,none,some 34,27,.load 27 (.tmp 33)⟩]) (.seq (.ops [⟨true,none,some 35,0,.fieldAddr 33 (.tmp 7) 3⟩]) (.seq (.ops [⟨true,none,some 36,0,.fieldAddr 24 (.tmp 35) 0⟩]) (.seq (.ops [⟨true,none,some 37,3,.load 3 (.tmp 36)⟩]) (.seq (.ops [⟨true,none,some 38,0,.fieldAddr 33 (.tmp 7) 3⟩]) (.seq (.ops [⟨true,none,some 39,0,.fieldAddr 24 (.tmp 38) 1⟩]) (.seq (.ops [⟨true,none,some 40,3,.load 3 (.tmp 39)⟩]) (.seq (.ops [⟨true,none,some 41,27,.move (.tmp 1)⟩]) (.seq (.ops [⟨true,none,some 42,3,.move (.tmp 6)⟩]) (.seq (.ops [⟨true,none,some 43,3,.binOp .mul 3 (.const (.int .i64 3)) (.tmp 42) 3⟩]) (.seq (.ops [⟨true,none,some 44,3,.binOp .add 3 (.tmp 43) (.const (.int .i64 1)) 3⟩]) (.seq (.ops [⟨false,none,some 29,3,.call ⟨.value (.func 12),#[.tmp 26,.tmp 28],#[27,3]⟩⟩]) (.seq (.chk [⟨true,none,some 40,3,.load 3 (.tmp 39)⟩,⟨true,none,some 37,3,.load 3 (.tmp 36)⟩,⟨true,none,some 34,27,.load 27 (.tmp 33)⟩,⟨true,none,some 25,3,.load 3 (.tmp 24)⟩,⟨true,none,some 22,3,.load 3 (.tmp 21)⟩,⟨true,none,some 19,27,.load 27 (.tmp 18)⟩]) (.seq (.ops [⟨false,none,some 30,3,.call ⟨.value (.func 11),#[.tmp 22,.tmp 25,.tmp 29],#[3,3,3]⟩⟩]) (.seq (.ops [⟨true,none,some 31,27,.buildSlice 27 1 #[(0,.tmp 30)]⟩]) (.seq (.chk [⟨true,none,some 40,3,.load 3 (.tmp 39)⟩,⟨true,none,some 37,3,.load 3 (.tmp 36)⟩,⟨true,none,some 34,27,.load 27 (.tmp 33)⟩,⟨true,none,some 19,27,.load 27 (.tmp 18)⟩]) (.seq (.ops [⟨false,none,some 32,27,.call ⟨.builtin .append,#[.tmp 19,.tmp 31],#[27,27]⟩⟩]) (.seq (.ops [⟨true,none,some 49,0,.fieldAddr 51 (.tmp 5) 0⟩]) (.seq (.chk [⟨true,none,some 40,3,.load 3 (.tmp 39)⟩,⟨true,none,some 37,3,.load 3 (.tmp 36)⟩,⟨true,none,some 34,27,.load 27 (.tmp 33)⟩]) (.seq (.ops [⟨false,none,some 45,3,.call ⟨.value (.func 12),#[.tmp 41,.tmp 44],#[27,3]⟩⟩]) (.seq (.chk [⟨true,none,some 40,3,.load 3 (.tmp 39)⟩,⟨true,none,some 37,3,.load 3 (.tmp 36)⟩,⟨true,none,some 34,27,.load 27 (.tmp 33)⟩]) (.seq (.ops [⟨false,none,some 46,3,.call ⟨.value (.func 11),#[.tmp 37,.tmp 40,.tmp 45],#[3,3,3]⟩⟩]) (.seq (.ops [⟨true,none,some 47,27,.buildSlice 27 1 #[(0,.tmp 46)]⟩]) (.seq (.chk [⟨true,none,some 34,27,.load 27 (.tmp 33)⟩]) (.seq (.ops [⟨false,none,some 48,27,.call ⟨.builtin .append,#[.tmp 34,.tmp 47],#[27,27]⟩⟩]) (.seq (.ops [⟨false,none,none,0,.store 27 (.tmp 49) (.tmp 32)⟩]) (.seq (.ops [⟨true,none,some 50,0,.fieldAddr 51 (.tmp 5) 1⟩]) (.seq (.ops [⟨false,none,none,0,.store 27 (.tmp 50) (.tmp 48)⟩]) (.chk []))))))))))))))))))))))))))))))))))))))))
noncomputable def mc16_p1:MC:=.seq (.ops [⟨true,none,some 51,0,.fieldAddr 51 (.tmp 5) 2⟩]) (.seq (.ops [⟨true,none,some 52,27,.load 27 (.tmp 51)⟩]) (.seq (.ops [⟨true,none,some 53,0,.fieldAddr 33 (.tmp 7) 4⟩]) (.seq (.ops [⟨true,none,some 54,0,.fieldAddr 24 (.tmp 53) 0⟩]) (.seq (.ops [⟨true,none,some 55,3,.load 3 (.tmp 54)⟩]) (.seq (.ops [⟨true,none,some 56,0,.fieldAddr 33 (.tmp 7) 4⟩]) (.seq (.ops [⟨true,none,some 57,0,.fieldAddr 24 (.tmp 56) 1⟩]) (.seq (.ops [⟨true,none,some 58,3,.load 3 (.tmp 57)⟩]) (.seq (.ops [⟨true,none,some 59,27,.move (.tmp 1)⟩]) (.seq (.ops [⟨true,none,some 60,3,.move (.tmp 6)⟩]) (.seq (.ops [⟨true,none,some 61,3,.binOp .mul 3 (.const (.int .i64 3)) (.tmp 60) 3⟩]) (.seq (.ops [⟨true,none,some 62,3,.binOp .add 3 (.tmp 61) (.const (.int .i64 2)) 3⟩]) (.seq (.ops [⟨false,none,some 63,3,.call ⟨.value (.func 12),#[.tmp 59,.tmp 62],#[27,3]⟩⟩]) (.seq (.chk [⟨true,none,some 58,3,.load 3 (.tmp 57)⟩,⟨true,none,some 55,3,.load 3 (.tmp 54)⟩,⟨true,none,some 52,27,.load 27 (.tmp 51)⟩]) (.seq (.ops [⟨false,none,some 64,3,.call ⟨.value (.func 11),#[.tmp 55,.tmp 58,.tmp 63],#[3,3,3]⟩⟩]) (.seq (.ops [⟨true,none,some 65,27,.buildSlice 27 1 #[(0,.tmp 64)]⟩]) (.seq (.chk [⟨true,none,some 52,27,.load 27 (.tmp 51)⟩]) (.seq (.ops [⟨false,none,some 66,27,.call ⟨.builtin .append,#[.tmp 52,.tmp 65],#[27,27]⟩⟩]) (.seq (.ops [⟨true,none,some 67,0,.fieldAddr 51 (.tmp 5) 2⟩]) (.seq (.ops [⟨false,none,none,0,.store 27 (.tmp 67) (.tmp 66)⟩]) (.chk []))))))))))))))))))))
theorem mc16_eq:mc16_l0=.seq (.seq (.ops [⟨false,none,some 8,3,.move (.tmp 6)⟩,⟨false,none,some 9,56,.move (.tmp 0)⟩,⟨false,none,some 10,3,.call ⟨.builtin .len,#[.tmp 9],#[56]⟩⟩,⟨false,none,some 11,4,.binOp .lss 3 (.tmp 8) (.tmp 10) 3⟩]) (.cond (.tmp 11) (.skip) (.exit 0))) (.seq (.block 1 (.seq (.ops [⟨false,none,some 14,56,.move (.tmp 0)⟩,⟨false,none,some 15,3,.move (.tmp 6)⟩,⟨false,none,some 16,0,.indexAddr 56 (.tmp 14) (.tmp 15)⟩,⟨false,none,some 17,33,.load 33 (.tmp 16)⟩,⟨false,none,some 7,0,.alloc 33⟩,⟨false,none,none,0,.store 33 (.tmp 7) (.tmp 17)⟩]) (.seq mc16_p0 mc16_p1))) (.ops [⟨false,none,some 12,3,.move (.tmp 6)⟩,⟨false,none,some 13,3,.binOp .add 3 (.tmp 12) (.const (.int .i64 1)) 3⟩,⟨false,none,some 6,3,.assign (.tmp 13)⟩])):=rfl
theorem AccI.keep {n1:Nat} {w w':AW} {v:Value} {acc:List Int} {B B0:Nat} (h:AccI n1 w v acc B) (k:∀ x,x < w.next→(x=B0→B0=0)→n1 < x→w'.heap.get x=w.heap.get x) (hn:w.next≤w'.next) (hs:B=B0→B=0):AccI n1 w' v acc B:=by
 rcases h with h | ⟨h1,h2,h3,h4⟩
 ·exact .inl h
 ·refine .inr ⟨h1,?_,h3,by omega⟩
  rw [k B h4 (fun e=>by have:=hs e; omega) h3,h2]
theorem AccI.same {n1:Nat} {w:AW} {v:Value} {acc:List Int} {B:Nat} (h:AccI n1 w v acc B):sameVal 5 v v=true:=by
 rcases h with ⟨_,rfl,_⟩ | ⟨rfl,_⟩
 ·exact sameN_slice 4 _ _ _
 ·exact sameN_slice 4 _ _ _
structure In16 (w0:AW) (vr vh vg:Value) (R H G:List Int) (Br Bh Bg:Nat) (w:AW):Prop where
 old:Old w0.next w0.heap w.heap
 res:w.heap.get w0.next=some (.cells [.slice none 0 0,.slice none 0 0,.slice none 0 0] 51 false)
 box:w.heap.get (w0.next + 1)=some (.cells [vr,vh,vg] 51 false)
 ar:AccI (w0.next + 1) w vr R Br
 ah:AccI (w0.next + 1) w vh H Bh
 ag:AccI (w0.next + 1) w vg G Bg
 rh:Br=Bh→Br=0
 rg:Br=Bg→Br=0
 hg:Bh=Bg→Bh=0
 next:w0.next + 1 < w.next
 lim:w.lim=w0.lim
structure Pd16 (n pb:Nat) (p:Pod) (Br Bh Bg:Nat) (w:AW):Prop where
 pod:w.heap.get pb=some (.cells (podC p) 33 false)
 lo:n + 1 < pb
 hi:pb < w.next
 sr:¬ pb=Br
 sh:¬ pb=Bh
 sg:¬ pb=Bg
set_option maxHeartbeats 2000000 in
theorem part16_0 {ov:Ov} (h41:HasP ov 12 F12) (h38:HasP ov 11 F11) (bv vl:Value) (bits:List Int) (w0:AW) (hl0:w0.lim≤w0.next) (hb:RowsV intC w0 bv bits) (hbl:bits.length≤2 ^ 60) (p:Pod) (hp:podB p=true) (i:Nat) (hi:i≤1000) (pb:Nat)
  (vr vh vg:Value) (R H G:List Int) (hR:R.length≤1000) (hH:H.length≤1000) (Br Bh Bg:Nat) (Q:Ex→Tm→AW→Prop) (t:Tm) (w:AW) (hw:In16 w0 vr vh vg R H G Br Bh Bg w) (hpd:Pd16 w0.next pb p Br Bh Bg w)
  (t0:tget t 0=vl) (t1:tget t 1=bv) (t4:tget t 4=.pointer (some ⟨w0.next,0,none⟩)) (t5:tget t 5=.pointer (some ⟨w0.next + 1,0,none⟩)) (t6:tget t 6=.int .i64 (i:Nat)) (t7:tget t 7=.pointer (some ⟨pb,0,none⟩))
  (hQ:∀ t w vr vh Br Bh,In16 w0 vr vh vg (R++[withI p.rl p.rh (nthI bits (3 * i))]) (H++[withI p.hl p.hh (nthI bits (3 * i + 1))]) G Br Bh Bg w→Pd16 w0.next pb p Br Bh Bg w→tget t 0=vl→tget t 1=bv→tget t 4=.pointer (some ⟨w0.next,0,none⟩)→tget t 5=.pointer (some ⟨w0.next + 1,0,none⟩)→tget t 6=.int .i64 (i:Nat)→tget t 7=.pointer (some ⟨pb,0,none⟩)→Q .normal t w) :
  wp (exM Tryd.prog (run Tryd.prog ov (fm + 1)) mc16_p0 t w) Q:=by
 have k:=pod_ok hp
 have kr0:=k.r0; have kr1:=k.r1; have kr2:=k.r2; have kh0:=k.h0; have kh1:=k.h1; have kh2:=k.h2; have kg0:=k.g0; have kg1:=k.g1; have kg2:=k.g2
 have hbox:=hw.box
 have hpod:=hpd.pod
 have lo:=hpd.lo; have hhi:=hpd.hi; have hnx:=hw.next; have hlm:=hw.lim
 have hbw:RowsV intC w bv bits:=hb.old hw.old (by omega)
 have r41:=rule12m (fm:=fm) h41 (3 * (i:Int)) hbw hbl
 have r38:=rule11g (fm:=fm) h38 (lo:=p.rl) (hi:=p.rh) (nthI bits (3 * (i:Int))) (by omega) (by omega) w
 obtain ⟨v',w1,B',ha,hacc,hk,hB',hn1,hl1⟩:=int_push hw.ar (by omega) hw.next (by omega) (withI p.rl p.rh (nthI bits (3 * (i:Int))))
 obtain ⟨n',hv'⟩:∃ n',v'=.slice (some ⟨B',0,none⟩) n' n':=by
  rcases hacc with ⟨h,_⟩ | ⟨h,_⟩
  ·exact absurd h (by simp)
  ·exact ⟨_,h⟩
 subst hv'
 have wm:IntKind.wrap .i64 (3 * (i:Int))=3 * (i:Int):=wrap64_in (by omega) (by omega)
 have wm1:IntKind.wrap .i64 (3 * (i:Int) + 1)=3 * (i:Int) + 1:=wrap64_in (by omega) (by omega)
 have sv:=hw.ar.same
 have svh:=hw.ah.same
 have nb:∀ {v:Value} {L:List Int} {B:Nat} (x:Nat),AccI (w0.next + 1) w v L B→x≤w0.next + 1→x=B→B=0:=fun x h hx e=>by
  rcases h with ⟨_,_,h⟩ | ⟨_,_,h,_⟩
  ·exact h
  ·omega
 have b1:=hw.ar.lt (by omega)
 have b2:=hw.ah.lt (by omega)
 have b3:=hw.ag.lt (by omega)
 have hbox1:w1.heap.get (w0.next + 1)=some (.cells [vr,vh,vg] 51 false):=by rw [hk _ hnx (nb _ hw.ar (Nat.le_refl _))]; exact hbox
 have hpod1:w1.heap.get pb=some (.cells (podC p) 33 false):=by rw [hk _ hhi fun e=>absurd e hpd.sr]; exact hpod
 have hold1:Old w0.next w0.heap w1.heap:=fun b hb=>by rw [hk b (by omega) (nb b hw.ar (by omega)),hw.old b hb]
 have hbw1:RowsV intC w1 bv bits:=hb.old hold1 (by omega)
 have r41':=rule12m (fm:=fm) h41 (3 * (i:Int) + 1) hbw1 hbl
 have r38':=rule11g (fm:=fm) h38 (lo:=p.hl) (hi:=p.hh) (nthI bits (3 * (i:Int) + 1)) (by omega) (by omega) w1
 have ah1:AccI (w0.next + 1) w1 vh H Bh:=hw.ah.keep (B0:=Br) (fun x h1 h2 h3=>hk x h1 h2) (by omega) (fun h=>by have:=hw.rh h.symm; omega)
 obtain ⟨v2,w2,B2,ha2,hacc2,hk2,hB2,hn2,hl2⟩:=int_push ah1 (by omega) (by omega) (by omega) (withI p.hl p.hh (nthI bits (3 * (i:Int) + 1)))
 obtain ⟨n2,hv2⟩:∃ n',v2=.slice (some ⟨B2,0,none⟩) n' n':=by
  rcases hacc2 with ⟨h,_⟩ | ⟨h,_⟩
  ·exact absurd h (by simp)
  ·exact ⟨_,h⟩
 subst hv2
 have b4:=hacc.lt (by omega)
 have b5:=hacc2.lt (by omega)
 have hbox2:w2.heap.get (w0.next + 1)=some (.cells [vr,vh,vg] 51 false):=by rw [hk2 _ (by omega) (nb _ hw.ah (Nat.le_refl _))]; exact hbox1
 have hpod2:w2.heap.get pb=some (.cells (podC p) 33 false):=by rw [hk2 _ (by omega) fun e=>absurd e hpd.sh]; exact hpod1
 have m1:¬ w0.next + 1=w.next:=by omega
 have m2:¬ pb=w.next:=by omega
 have m3:¬ w0.next + 1=w1.next:=by omega
 have m4:¬ pb=w1.next:=by omega
 have l1:w2.lim≤w0.next + 1:=by omega
 have c2:∀ h,(podC p)[2]'h=.int .i64 p.rl:=fun _=>rfl
 have c3:∀ h,(podC p)[3]'h=.int .i64 p.rh:=fun _=>rfl
 have c4:∀ h,(podC p)[4]'h=.int .i64 p.hl:=fun _=>rfl
 have c5:∀ h,(podC p)[5]'h=.int .i64 p.hh:=fun _=>rfl
 simp [mc16_p0,t1,t5,t6,t7,hbox,hpod,c2,c3,c4,c5,wm,wm1,r41,r38,r41',r38',m1,m2,m3,m4,sv,svh,ha,ha2,hbox1,hpod1,hbox2,l1,sameN_int]
 refine hQ _ _ (.slice (some ⟨B',0,none⟩) n' n') (.slice (some ⟨B2,0,none⟩) n2 n2) B' B2 ⟨fun b hb=>?_,?_,?_,?_,?_,?_,?_,?_,?_,?_,?_⟩ ⟨?_,lo,?_,?_,?_,hpd.sg⟩ ?_ ?_ ?_ ?_ ?_ ?_
 ·have q:¬ b=w0.next + 1:=by omega
  simp [q]
  rw [hk2 b (by omega) (nb b hw.ah (by omega)),hold1 b hb]
 ·simp
  rw [hk2 _ (by omega) (nb _ hw.ah (by omega)),hk _ (by omega) (nb _ hw.ar (by omega))]
  exact hw.res
 ·simp
 ·exact hacc.keep (B0:=Bh) (fun x h1 h2 h3=>by simp [show ¬ x=w0.next + 1 by omega]; exact hk2 x h1 h2) (by show w1.next≤w2.next; omega) (fun h=>by omega)
 ·exact hacc2.keep (B0:=0) (fun x _ _ h=>by simp [show ¬ x=w0.next + 1 by omega]) (Nat.le_refl _) (fun h=>h)
 ·exact (hw.ag.keep (w':=w1) (B0:=Br) (fun x h1 h2 h3=>hk x h1 h2) (by omega) (fun h=>by have:=hw.rg h.symm; omega)).keep (B0:=Bh) (fun x h1 h2 h3=>by simp [show ¬ x=w0.next + 1 by omega]; exact hk2 x h1 h2) (by show w1.next≤w2.next; omega) (fun h=>by have:=hw.hg h.symm; omega)
 ·intro h; omega
 ·intro h; omega
 ·intro h; omega
 ·show w0.next + 1 < w2.next; omega
 ·show w2.lim=w0.lim; omega
 ·simp [show ¬ pb=w0.next + 1 by omega,hpod2]
 ·show pb < w2.next; omega
 ·omega
 ·omega
 ·simp [t0]
 ·simp [t1]
 ·simp [t4]
 ·simp [t5]
 ·simp [t6]
 ·simp [t7]
set_option maxHeartbeats 1000000 in
theorem part16_1 {ov:Ov} (h41:HasP ov 12 F12) (h38:HasP ov 11 F11) (bv vl:Value) (bits:List Int) (w0:AW) (hl0:w0.lim≤w0.next) (hb:RowsV intC w0 bv bits) (hbl:bits.length≤2 ^ 60) (p:Pod) (hp:podB p=true) (i:Nat) (hi:i≤1000) (pb:Nat)
  (vr vh vg:Value) (R H G:List Int) (hG:G.length≤1000) (Br Bh Bg:Nat) (Q:Ex→Tm→AW→Prop) (t:Tm) (w:AW) (hw:In16 w0 vr vh vg R H G Br Bh Bg w) (hpd:Pd16 w0.next pb p Br Bh Bg w)
  (t0:tget t 0=vl) (t1:tget t 1=bv) (t4:tget t 4=.pointer (some ⟨w0.next,0,none⟩)) (t5:tget t 5=.pointer (some ⟨w0.next + 1,0,none⟩)) (t6:tget t 6=.int .i64 (i:Nat)) (t7:tget t 7=.pointer (some ⟨pb,0,none⟩))
  (hQ:∀ t w vg Bg,In16 w0 vr vh vg R H (G++[withI p.gl p.gh (nthI bits (3 * i + 2))]) Br Bh Bg w→Pd16 w0.next pb p Br Bh Bg w→tget t 0=vl→tget t 1=bv→tget t 4=.pointer (some ⟨w0.next,0,none⟩)→tget t 5=.pointer (some ⟨w0.next + 1,0,none⟩)→tget t 6=.int .i64 (i:Nat)→tget t 7=.pointer (some ⟨pb,0,none⟩)→Q .normal t w) :
  wp (exM Tryd.prog (run Tryd.prog ov (fm + 1)) mc16_p1 t w) Q:=by
 have k:=pod_ok hp
 have kr0:=k.r0; have kr1:=k.r1; have kr2:=k.r2; have kh0:=k.h0; have kh1:=k.h1; have kh2:=k.h2; have kg0:=k.g0; have kg1:=k.g1; have kg2:=k.g2
 have hbox:=hw.box
 have hpod:=hpd.pod
 have lo:=hpd.lo; have hhi:=hpd.hi; have hnx:=hw.next; have hlm:=hw.lim
 have hbw:RowsV intC w bv bits:=hb.old hw.old (by omega)
 have r41:=rule12m (fm:=fm) h41 (3 * (i:Int) + 2) hbw hbl
 have r38:=rule11g (fm:=fm) h38 (lo:=p.gl) (hi:=p.gh) (nthI bits (3 * (i:Int) + 2)) (by omega) (by omega) w
 obtain ⟨v',w1,B',ha,hacc,hk,hB',hn1,hl1⟩:=int_push hw.ag (by omega) hw.next (by omega) (withI p.gl p.gh (nthI bits (3 * (i:Int) + 2)))
 obtain ⟨n',hv'⟩:∃ n',v'=.slice (some ⟨B',0,none⟩) n' n':=by
  rcases hacc with ⟨h,_⟩ | ⟨h,_⟩
  ·exact absurd h (by simp)
  ·exact ⟨_,h⟩
 subst hv'
 have wm:IntKind.wrap .i64 (3 * (i:Int))=3 * (i:Int):=wrap64_in (by omega) (by omega)
 have wm2:IntKind.wrap .i64 (3 * (i:Int) + 2)=3 * (i:Int) + 2:=wrap64_in (by omega) (by omega)
 have sv:=hw.ag.same
 have hbr:w0.next + 1=Bg→Bg=0:=fun e=>by
  rcases hw.ag with ⟨_,_,h⟩ | ⟨_,_,h,_⟩
  ·exact h
  ·omega
 have hbr0:w0.next=Bg→Bg=0:=fun e=>by
  rcases hw.ag with ⟨_,_,h⟩ | ⟨_,_,h,_⟩
  ·exact h
  ·omega
 have hbox1:w1.heap.get (w0.next + 1)=some (.cells [vr,vh,vg] 51 false):=by rw [hk _ hnx hbr]; exact hbox
 have hpod1:w1.heap.get pb=some (.cells (podC p) 33 false):=by rw [hk _ hhi fun e=>absurd e hpd.sg]; exact hpod
 have m1:¬ w0.next + 1=w.next:=by omega
 have m2:¬ pb=w.next:=by omega
 have l1:w1.lim≤w0.next + 1:=by omega
 have c2:∀ h,(podC p)[6]'h=.int .i64 p.gl:=fun _=>rfl
 have c3:∀ h,(podC p)[7]'h=.int .i64 p.gh:=fun _=>rfl
 simp [mc16_p1,t1,t5,t6,t7,hbox,hpod,c2,c3,wm,wm2,r41,r38,m1,m2,sv,ha,hbox1,l1,sameN_int]
 refine hQ _ _ (.slice (some ⟨B',0,none⟩) n' n') B' ⟨fun b hb=>?_,?_,?_,?_,?_,?_,hw.rh,?_,?_,?_,?_⟩ ⟨?_,lo,?_,hpd.sr,hpd.sh,?_⟩ ?_ ?_ ?_ ?_ ?_ ?_
 ·have q:¬ b=w0.next + 1:=by omega
  rw [get_put,if_neg q,hk b (by omega) fun e=>?_,hw.old b hb]
  rcases hw.ag with ⟨_,_,h⟩ | ⟨_,_,h,_⟩
  ·exact h
  ·omega
 ·simp [hk _ (show w0.next < w.next by omega) hbr0,hw.res]
 ·simp
 ·exact hw.ar.keep (B0:=Bg) (fun x h1 h2 h3=>by simp [show ¬ x=w0.next + 1 by omega,hk x h1 h2]) hn1 (fun h=>by have:=hw.rg h; omega)
 ·exact hw.ah.keep (B0:=Bg) (fun x h1 h2 h3=>by simp [show ¬ x=w0.next + 1 by omega,hk x h1 h2]) hn1 (fun h=>by have:=hw.hg h; omega)
 ·exact hacc.keep (B0:=0) (fun x _ _ h=>by simp [show ¬ x=w0.next + 1 by omega]) (Nat.le_refl _) (fun h=>h)
 ·intro h; have:=hw.ar.lt (by omega); omega
 ·intro h; have:=hw.ah.lt (by omega); omega
 ·show w0.next + 1 < w1.next; omega
 ·show w1.lim=w0.lim; omega
 ·simp [show ¬ pb=w0.next + 1 by omega,hpod1]
 ·show pb < w1.next; omega
 ·omega
 ·simp [t0]
 ·simp [t1]
 ·simp [t4]
 ·simp [t5]
 ·simp [t6]
 ·simp [t7]
theorem In16.grow {w0 w w':AW} {vr vh vg:Value} {R H G:List Int} {Br Bh Bg:Nat} (h:In16 w0 vr vh vg R H G Br Bh Bg w) (k:∀ x,x < w.next→w'.heap.get x=w.heap.get x) (hn:w.next≤w'.next) (hl:w'.lim=w.lim):In16 w0 vr vh vg R H G Br Bh Bg w':=by
 have hx:=h.next
 exact ⟨fun b hb=>by rw [k b (by omega),h.old b hb],by rw [k _ (by omega)]; exact h.res,by rw [k _ hx]; exact h.box,h.ar.keep (B0:=0) (fun x a _ _=>k x a) hn fun e=>e,h.ah.keep (B0:=0) (fun x a _ _=>k x a) hn fun e=>e,h.ag.keep (B0:=0) (fun x a _ _=>k x a) hn fun e=>e,h.rh,h.rg,h.hg,by omega,by rw [hl]; exact h.lim⟩
theorem loop16 {ov:Ov} (h41:HasP ov 12 F12) (h38:HasP ov 11 F11) (bv v:Value) (bits:List Int) (l:List Pod) (w0:AW) (hl0:w0.lim≤w0.next) (hv:PodsV w0 v l) (hb:RowsV intC w0 bv bits) (hbl:bits.length≤2 ^ 60) (hB:podsB l=true)
  (Q:Ex→Tm→AW→Prop) (t:Tm) (w:AW) (hw:In16 w0 (.slice none 0 0) (.slice none 0 0) (.slice none 0 0) [] [] [] 0 0 0 w)
  (t0:tget t 0=v) (t1:tget t 1=bv) (t4:tget t 4=.pointer (some ⟨w0.next,0,none⟩)) (t5:tget t 5=.pointer (some ⟨w0.next + 1,0,none⟩)) (t6:tget t 6=.int .i64 0)
  (hQ:∀ t w vr vh vg Br Bh Bg,In16 w0 vr vh vg (pk (fR bits) l l.length) (pk (fH bits) l l.length) (pk (fG bits) l l.length) Br Bh Bg w→tget t 4=.pointer (some ⟨w0.next,0,none⟩)→tget t 5=.pointer (some ⟨w0.next + 1,0,none⟩)→Q (.exit 0) t w) :
  wp (exM Tryd.prog (run Tryd.prog ov (fm + 1)) (.loop mc16_l0) t w) Q:=by
 have hlen:=podsB_len hB
 refine wp_rounds (fun i t w=>(∃ vr vh vg Br Bh Bg,In16 w0 vr vh vg (pk (fR bits) l i) (pk (fH bits) l i) (pk (fG bits) l i) Br Bh Bg w)∧tget t 0=v∧tget t 1=bv∧tget t 4=.pointer (some ⟨w0.next,0,none⟩)∧tget t 5=.pointer (some ⟨w0.next + 1,0,none⟩)∧tget t 6=.int .i64 (i:Nat)∧i≤l.length) 200 (by decide)
  ⟨⟨_,_,_,_,_,_,hw⟩,t0,t1,t4,t5,by simpa using t6,Nat.zero_le _⟩ ?_
 clear t0 t1 t4 t5 t6 hw
 rintro i t w ⟨⟨vr,vh,vg,Br,Bh,Bg,hw⟩,t0,t1,t4,t5,t6,hi⟩
 have hln:=fun w=>len56V hv w
 by_cases hlt:i < l.length
 ·obtain ⟨p,hp⟩:∃ p,l[i]?=some p:=⟨_,List.getElem?_eq_getElem hlt⟩
  obtain ⟨b,sq,c,rfl,hpa⟩:=hv.at_ i hlt
  have hpb:=pods_all hB hp
  have hld:=load_pod' hpa hp
  rw [← hw.old _ hpa.lt] at hld
  have n2:=hw.next
  have hlim:=hw.lim
  have hl1:w.lim≤w.next:=by omega
  have m0:¬ b=w.next:=by have:=hpa.lt; omega
  have hia:=fun w=>ia56 w ⟨b,0,sq⟩ l.length c .i64 i hlt
  have hw1:IntKind.wrap .i64 ((i:Int) + 1)=(i:Int) + 1:=wrap64_in (by omega) (by omega)
  have hgr:∀ z:AObj,∀ x,x < w.next→((w.heap.put w.next (some z)).put w.next (some (.cells (podC p) 33 false))).get x=w.heap.get x:=fun z x hx=>by rw [get_put,if_neg (by omega),get_put,if_neg (by omega)]
  have e1:=pk_succ (fR bits) l hp
  have e2:=pk_succ (fH bits) l hp
  have e3:=pk_succ (fG bits) l hp
  have b1:=hw.ar.lt (by omega)
  have b2:=hw.ah.lt (by omega)
  have b3:=hw.ag.lt (by omega)
  simp [mc16_eq,t0,t1,t4,t5,t6,hlt,hia,hld,hl1,m0,cellsOf_agg]
  refine wp_seqX (wp_blockX (wp_seqX (part16_0 h41 h38 bv (.slice (some ⟨b,0,sq⟩) l.length c) bits w0 hl0 hb hbl p hpb i (by omega) w.next vr vh vg _ _ _ (by rw [pk_length]; omega) (by rw [pk_length]; omega) Br Bh Bg _ _ _ (hw.grow ?_ ?_ ?_) ⟨?_,?_,?_,?_,?_,?_⟩ ?_ ?_ ?_ ?_ ?_ ?_ ?_)))
  ·exact hgr _
  ·exact Nat.le_succ _
  ·rfl
  ·simp
  ·omega
  ·exact Nat.lt_succ_self _
  ·omega
  ·omega
  ·omega
  ·simp [t0]
  ·simp [t1]
  ·simp [t4]
  ·simp [t5]
  ·simp [t6]
  ·simp
  ·clear vr Br vh Bh hw b1 b2 b3
   intro t w1 vr vh Br Bh hw hpd t0 t1 t4 t5 t6 t7
   refine part16_1 h41 h38 bv (.slice (some ⟨b,0,sq⟩) l.length c) bits w0 hl0 hb hbl p hpb i (by omega) w.next vr vh vg _ _ _ (by rw [pk_length]; omega) Br Bh Bg _ _ _ hw hpd t0 t1 t4 t5 t6 t7 ?_
   clear vg Bg hw hpd t0 t1 t4 t5 t6 t7 t
   intro t w3 vg Bg hw hpd t0 t1 t4 t5 t6 t7
   have hw':In16 w0 vr vh vg (pk (fR bits) l (i + 1)) (pk (fH bits) l (i + 1)) (pk (fG bits) l (i + 1)) Br Bh Bg w3:=by rw [← e1,← e2,← e3]; exact hw
   simp [t0,t1,t4,t5,t6,t7,hw1]
   exact ⟨by omega,⟨_,_,_,_,_,_,hw'⟩,by omega⟩
 ·have hi':i=l.length:=by omega
  subst hi'
  simp [mc16_eq,t0,t1,t4,t5,t6,hln]
  exact hQ _ _ _ _ _ _ _ _ hw (by simp [t4]) (by simp [t5])
theorem AccI.rowsG {n1:Nat} {w w':AW} {v:Value} {acc:List Int} {B:Nat} (h:AccI n1 w v acc B) (k:∀ x,n1 < x→x < w.next→w'.heap.get x=w.heap.get x) (hn:w.next≤w'.next):RowsV intC w' v acc:=by
 rcases h with ⟨h1,h2,_⟩ | ⟨h1,h2,h3,h4⟩
 ·exact .inl ⟨h1,_,_,h2⟩
 ·exact .inr ⟨B,0,none,_,h1,⟨[],[],3,false,by rw [k B h3 h4,h2]; simp,rfl⟩,by omega⟩
theorem AccI.single {n1:Nat} {w:AW} {v:Value} {acc:List Int} {B:Nat} (h:AccI n1 w v acc B):Go.Sh.single v=true:=by
 rcases h with ⟨_,rfl,_⟩ | ⟨rfl,_⟩ <;> rfl
theorem call16 {ov:Ov} (ho:∀ args w,ov 16 args w=none) (h41:HasP ov 12 F12) (h38:HasP ov 11 F11) (bv v:Value) (bits:List Int) (l:List Pod) (w:AW) (hl:w.lim≤w.next) (hv:PodsV w v l) (hb:RowsV intC w bv bits) (hbl:bits.length≤2 ^ 60) (hB:podsB l=true) :
  ∃ x w',(run Tryd.prog ov (fm + 2)).call 16 [v,bv] w .none=.ok (.ret x) w' .none∧∃ vr vh vg,x=.agg ⟨[vr,vh,vg]⟩∧RowsV intC w' vr (pk (fR bits) l l.length)∧RowsV intC w' vh (pk (fH bits) l l.length)∧RowsV intC w' vg (pk (fG bits) l l.length)∧Old w.next w.heap w'.heap∧w.next≤w'.next∧w'.lim=w.lim:=by
 refine call_wp text16 (by simp) (ho _ _) ?_
 simp [mc16]
 refine wp_seqX (wp_blockX (loop16 h41 h38 bv v bits l w hl hv hb hbl hB _ _ _ ⟨?_,?_,?_,.inl ⟨rfl,rfl,rfl⟩,.inl ⟨rfl,rfl,rfl⟩,.inl ⟨rfl,rfl,rfl⟩,fun h=>h,fun h=>h,fun h=>h,?_,?_⟩ ?_ ?_ ?_ ?_ ?_ ?_))
 ·intro b hb
  simp [show ¬ b=w.next by omega,show ¬ b=w.next + 1 by omega]
 ·simp
 ·simp
 ·simp
 ·simp
 ·simp
 ·simp
 ·simp
 ·simp
 ·simp
 ·intro t w' vr vh vg Br Bh Bg hw t4 t5
  have hbox:=hw.box
  have hres:=hw.res
  have hlm:=hw.lim
  have hnx:=hw.next
  have l1:w'.lim≤w.next:=by omega
  have hs:singles [vr,vh,vg]=true:=by simp [singles,hw.ar.single,hw.ah.single,hw.ag.single]
  simp [t4,t5,hbox,hres,l1,cellsOf_agg,hs,tupV]
  have hk:∀ x,w.next + 1 < x→x < w'.next→(w'.heap.put w.next (some (.cells [vr,vh,vg] 51 false))).get x=w'.heap.get x:=fun x h1 h2=>by rw [get_put,if_neg (by omega)]
  exact ⟨_,_,_,⟨rfl,rfl,rfl⟩,hw.ar.rowsG hk (Nat.le_refl _),hw.ah.rowsG hk (Nat.le_refl _),hw.ag.rowsG hk (Nat.le_refl _),hw.old.put (Nat.le_refl _),by omega,hlm⟩
end Go.Proofs.YtabiiddijccmdaaDoor.walk
namespace Go.Proofs.YtabiiddijccmdaaDoor.walk
open Go Go.Sh
set_option maxRecDepth 100000
theorem truX_at {ws s:Int} {ls:List Int} {k:Nat} (h:k≤ls.length):(wtsL ws ls)[k]?=some (truX ws s ls k):=by
 rw [wtsL_at _ _ _ h]
 unfold truX
 rw [if_neg (by omega)]
theorem truB_len {b:CBox} {L:List Sp} {ws s:Int} {ls:List Int} (h:truB b L ws s ls=true):ls.length=L.length:=by
 simp only [truB,Bool.and_eq_true,decide_eq_true_eq] at h
 exact h.2.2.1
theorem top_wei {r:List CAct} {d:List CDay} {b:CBox} {acts:List Int} {ws s:Int} {ls:List Int} (hA:actE r d b acts=0) (hT:truB b (lossL r acts) ws s ls=true):weiE r d b acts []=0:=by
 obtain ⟨hR,hD,hB,st,hs⟩:=act_ofE hA
 have hL:(lossL r acts).length=acts.length:=by simp [lossL]
 have h14:=(tru_ok hA).2.1
 have sol:=tru_sol (l:=[]) hB (by omega) (los_ok hA) hT (fun p hp=>by cases hp)
 obtain ⟨V,hV⟩:=wei_some (by omega) sol
 unfold weiE rdE
 have:rdsB (acts.length:Nat) []=true:=by simp [rdsB]
 rw [if_pos hA,if_pos this,if_pos rfl,hV]
theorem top_in {r:List CAct} {d:List CDay} {b:CBox} {acts:List Int} {ws s:Int} {ls:List Int} (hA:actE r d b acts=0) (hT:truB b (lossL r acts) ws s ls=true) {V:List Sp} (hV:weighF b (lossL r acts) []=some V) :
  ∀ (i:Nat) (y:Int) (p:Sp),(wtsL ws ls)[i]?=some y→(V.take ((lossL r acts).length + 1))[i]?=some p→inI p.1 y p.2=true:=by
 intro i y p hy hp
 obtain ⟨hR,hD,hB,st,hs⟩:=act_ofE hA
 have hL:(lossL r acts).length=acts.length:=by simp [lossL]
 have h14:=(tru_ok hA).2.1
 have hlen:=truB_len hT
 have hlos:=los_ok hA
 have sol:=tru_sol (l:=[]) hB (by omega) hlos hT (fun p hp=>by cases hp)
 have ok:=weigh_ok hB hlos (by omega) hV
 have sx:=(ok.sol _).2 sol
 have hi:i≤ls.length:=by
  have:=(List.getElem?_eq_some_iff.1 hy).1
  rw [wtsL_length] at this
  omega
 have e1:=truX_at (ws:=ws) (s:=s) (ls:=ls) hi
 rw [e1] at hy
 cases hy
 have hp':V[i]?=some p:=by
  rw [List.getElem?_take] at hp
  split at hp
  ·exact hp
  ·cases hp
 have e2:gtS V i=p:=by unfold gtS; rw [List.getD_eq_getElem?_getD,hp']; rfl
 have:=sx.1 i (by omega)
 rw [e2] at this
 unfold inn at this
 simp [inI,this]
theorem top_last {r:List CAct} {d:List CDay} {b:CBox} {acts:List Int} {ws s:Int} {ls:List Int} {lim:Sp} (hA:actE r d b acts=0) (hT:truB b (lossL r acts) ws s ls=true) (hS:surB b (lossL r acts) lim=true) :
  ∀ z,(mosL ws s ls)[ls.length]?=some z→inI lim.1 z lim.2=true:=by
 intro z hz
 obtain ⟨hR,hD,hB,st,hs⟩:=act_ofE hA
 have hL:(lossL r acts).length=acts.length:=by simp [lossL]
 have h14:=(tru_ok hA).2.1
 have hlen:=truB_len hT
 have hlos:=los_ok hA
 have sol:=tru_sol (l:=[]) hB (by omega) hlos hT (fun p hp=>by cases hp)
 obtain ⟨V,hV⟩:=wei_some (by omega) sol
 have ok:=weigh_ok hB hlos (by omega) hV
 obtain ⟨D,hD2,dok⟩:=dry_ok hlos (by omega) ok
 unfold surB at hS
 rw [hV] at hS
 simp only [hD2,Bool.and_eq_true,decide_eq_true_eq] at hS
 have mi:=mo_in hlos (by omega) ok dok sol (k:=(lossL r acts).length) (Nat.le_refl _)
 unfold mosL at hz
 rw [List.getElem?_map,truX_at (ws:=ws) (s:=s) (ls:=ls) (Nat.le_refl _)] at hz
 have e:truX ws s ls ((lossL r acts).length + 1)=s:=by unfold truX; rw [if_pos (by omega)]
 rw [e,← hlen] at mi
 simp only [Option.map_some,Option.some.injEq] at hz
 rw [hz] at mi
 unfold lastM at hS
 simp only [hlen] at mi
 simp only [inI,Bool.and_eq_true,decide_eq_true_eq]
 constructor <;> omega
noncomputable def mc4_r6:MC:=.seq (.seq (.ops [⟨false,none,some 18,3,.assign (.const (.int .i64 0))⟩]) (.block 2 (.loop mc4_l1))) (.seq (.ops [⟨true,none,some 217,4,.move (.tmp 9)⟩,⟨true,none,some 218,4,.unOp .not 4 (.tmp 217)⟩,⟨true,none,some 219,4,.move (.tmp 218)⟩,⟨true,some (219,false),some 220,27,.move (.tmp 16)⟩,⟨true,some (219,false),some 221,27,.move (.tmp 16)⟩,⟨true,some (219,false),some 222,3,.call ⟨.builtin .len,#[.tmp 221],#[27]⟩⟩,⟨true,some (219,false),some 223,3,.binOp .sub 3 (.tmp 222) (.const (.int .i64 1)) 3⟩,⟨true,some (219,false),some 224,0,.indexAddr 27 (.tmp 220) (.tmp 223)⟩,⟨true,some (219,false),some 225,3,.load 3 (.tmp 224)⟩,⟨true,some (219,false),some 226,0,.fieldAddr 61 (.tmp 2) 6⟩,⟨true,some (219,false),some 227,0,.fieldAddr 24 (.tmp 226) 0⟩,⟨true,some (219,false),some 228,3,.load 3 (.tmp 227)⟩,⟨true,some (219,false),some 229,0,.fieldAddr 61 (.tmp 2) 6⟩,⟨true,some (219,false),some 230,0,.fieldAddr 24 (.tmp 229) 1⟩,⟨true,some (219,false),some 231,3,.load 3 (.tmp 230)⟩,⟨false,some (219,false),some 232,4,.call ⟨.value (.func 10),#[.tmp 225,.tmp 228,.tmp 231],#[3,3,3]⟩⟩,⟨true,none,some 233,4,.pick (.tmp 219) (.const (.bool true)) (.tmp 232)⟩,⟨true,none,some 234,4,.move (.tmp 233)⟩,⟨false,some (234,true),some 235,4,.call ⟨.value (.func 15),#[],#[]⟩⟩,⟨true,none,some 236,4,.pick (.tmp 234) (.tmp 235) (.const (.bool false))⟩,⟨true,none,some 4,4,.assign (.tmp 236)⟩]) .ret)
noncomputable def mc4_r5:MC:=.seq (.ops [⟨false,none,some 155,0,.fieldAddr 61 (.tmp 2) 2⟩,⟨false,none,some 156,58,.load 58 (.tmp 155)⟩,⟨false,none,some 157,0,.fieldAddr 61 (.tmp 2) 3⟩,⟨false,none,some 158,59,.load 59 (.tmp 157)⟩,⟨false,none,some 159,68,.load 68 (.tmp 8)⟩,⟨false,none,some 160,0,.fieldAddr 61 (.tmp 2) 5⟩,⟨false,none,some 161,27,.load 27 (.tmp 160)⟩,⟨false,none,some 162,75,.load 75 (.tmp 12)⟩,⟨false,none,some 163,78,.call ⟨.value (.func 19),#[.tmp 156,.tmp 158,.tmp 159,.tmp 161,.tmp 162],#[58,59,68,27,75]⟩⟩,⟨false,none,some 154,78,.move (.tmp 163)⟩,⟨false,none,some 164,27,.extract (.tmp 154) 0⟩,⟨false,none,some 165,27,.extract (.tmp 154) 1⟩,⟨false,none,some 166,36,.extract (.tmp 154) 2⟩,⟨false,none,some 15,27,.assign (.tmp 164)⟩,⟨false,none,some 16,27,.assign (.tmp 165)⟩,⟨false,none,some 17,36,.assign (.tmp 166)⟩]) (.seq (.seq (.ops [⟨false,none,some 167,36,.move (.tmp 17)⟩,⟨false,none,some 168,4,.binOp .neq 36 (.tmp 167) (.const (.int .i64 0)) 36⟩]) (.cond (.tmp 168) (.seq (.ops [⟨false,none,some 169,36,.move (.tmp 17)⟩,⟨false,none,some 170,4,.binOp .eql 36 (.tmp 169) (.const (.int .i64 66)) 36⟩,⟨false,none,some 171,4,.move (.tmp 170)⟩,⟨false,some (171,true),some 172,4,.call ⟨.value (.func 15),#[],#[]⟩⟩,⟨false,none,some 173,4,.pick (.tmp 171) (.tmp 172) (.const (.bool false))⟩,⟨false,none,some 4,4,.assign (.tmp 173)⟩]) (.ret)) (.skip))) (.seq (.seq (.ops [⟨false,none,some 174,36,.move (.tmp 11)⟩,⟨false,none,some 175,4,.binOp .neq 36 (.tmp 174) (.const (.int .i64 0)) 36⟩,⟨false,none,some 176,4,.move (.tmp 175)⟩,⟨false,some (176,false),some 177,27,.move (.tmp 15)⟩,⟨false,some (176,false),some 178,3,.call ⟨.builtin .len,#[.tmp 177],#[27]⟩⟩,⟨false,some (176,false),some 179,71,.move (.tmp 10)⟩,⟨false,some (176,false),some 180,3,.call ⟨.builtin .len,#[.tmp 179],#[71]⟩⟩,⟨false,some (176,false),some 181,4,.binOp .neq 3 (.tmp 178) (.tmp 180) 3⟩,⟨false,none,some 182,4,.pick (.tmp 176) (.const (.bool true)) (.tmp 181)⟩,⟨false,none,some 183,4,.move (.tmp 182)⟩,⟨false,some (183,false),some 184,27,.move (.tmp 16)⟩,⟨false,some (183,false),some 185,3,.call ⟨.builtin .len,#[.tmp 184],#[27]⟩⟩,⟨false,some (183,false),some 186,27,.move (.tmp 15)⟩,⟨false,some (183,false),some 187,3,.call ⟨.builtin .len,#[.tmp 186],#[27]⟩⟩,⟨false,some (183,false),some 188,4,.binOp .neq 3 (.tmp 185) (.tmp 187) 3⟩,⟨false,none,some 189,4,.pick (.tmp 183) (.const (.bool true)) (.tmp 188)⟩,⟨false,none,some 190,4,.move (.tmp 189)⟩,⟨false,some (190,false),some 191,27,.move (.tmp 15)⟩,⟨false,some (190,false),some 192,3,.call ⟨.builtin .len,#[.tmp 191],#[27]⟩⟩,⟨false,some (190,false),some 193,4,.binOp .eql 3 (.tmp 192) (.const (.int .i64 0)) 3⟩,⟨false,none,some 194,4,.pick (.tmp 190) (.const (.bool true)) (.tmp 193)⟩]) (.cond (.tmp 194) (.seq (.ops [⟨false,none,some 4,4,.assign (.const (.bool false))⟩]) (.ret)) (.skip))) mc4_r6))
noncomputable def mc4_r4:MC:=.seq (.seq (.ops [⟨true,none,some 100,0,.fieldAddr 53 (.tmp 7) 0⟩]) (.seq (.ops [⟨true,none,some 101,3,.load 3 (.tmp 100)⟩]) (.seq (.ops [⟨true,none,some 102,0,.fieldAddr 61 (.tmp 2) 4⟩]) (.seq (.ops [⟨true,none,some 103,0,.fieldAddr 24 (.tmp 102) 0⟩]) (.seq (.ops [⟨true,none,some 104,3,.load 3 (.tmp 103)⟩]) (.seq (.ops [⟨true,none,some 105,0,.fieldAddr 61 (.tmp 2) 4⟩]) (.seq (.ops [⟨true,none,some 106,0,.fieldAddr 24 (.tmp 105) 1⟩]) (.seq (.ops [⟨true,none,some 107,3,.load 3 (.tmp 106)⟩]) (.seq (.ops [⟨true,none,some 108,27,.move (.tmp 1)⟩]) (.seq (.ops [⟨true,none,some 12,0,.alloc 75⟩]) (.seq (.chk [⟨true,none,some 107,3,.load 3 (.tmp 106)⟩,⟨true,none,some 104,3,.load 3 (.tmp 103)⟩,⟨true,none,some 101,3,.load 3 (.tmp 100)⟩]) (.seq (.ops [⟨false,none,some 109,3,.call ⟨.value (.func 12),#[.tmp 108,.const (.int .i64 0)],#[27,3]⟩⟩]) (.seq (.chk [⟨true,none,some 107,3,.load 3 (.tmp 106)⟩,⟨true,none,some 104,3,.load 3 (.tmp 103)⟩,⟨true,none,some 101,3,.load 3 (.tmp 100)⟩]) (.seq (.ops [⟨false,none,some 110,3,.call ⟨.value (.func 11),#[.tmp 104,.tmp 107,.tmp 109],#[3,3,3]⟩⟩]) (.seq (.ops [⟨true,none,some 111,75,.build 75 #[(0,.tmp 101),(1,.tmp 110)]⟩]) (.seq (.chk [⟨true,none,some 101,3,.load 3 (.tmp 100)⟩]) (.seq (.ops [⟨false,none,none,0,.store 75 (.tmp 12) (.tmp 111)⟩]) (.chk [])))))))))))))))))) (.seq (.seq (.ops [⟨false,none,some 13,3,.assign (.const (.int .i64 0))⟩]) (.block 0 (.loop mc4_l0))) mc4_r5)
noncomputable def mc4_r3:MC:=.seq (.seq (.ops [⟨false,none,some 91,36,.move (.tmp 6)⟩,⟨false,none,some 92,4,.binOp .neq 36 (.tmp 91) (.const (.int .i64 0)) 36⟩,⟨false,none,some 93,4,.move (.tmp 92)⟩,⟨false,some (93,false),some 94,0,.fieldAddr 61 (.tmp 2) 5⟩,⟨false,some (93,false),some 95,27,.load 27 (.tmp 94)⟩,⟨false,some (93,false),some 96,3,.call ⟨.builtin .len,#[.tmp 95],#[27]⟩⟩,⟨false,some (93,false),some 97,4,.binOp .gtr 3 (.tmp 96) (.const (.int .i64 14)) 3⟩,⟨false,none,some 98,4,.pick (.tmp 93) (.const (.bool true)) (.tmp 97)⟩]) (.cond (.tmp 98) (.seq (.ops [⟨false,none,some 99,4,.call ⟨.value (.func 15),#[],#[]⟩⟩,⟨false,none,some 4,4,.assign (.tmp 99)⟩]) (.ret)) (.skip))) mc4_r4
noncomputable def mc4_r2:MC:=.seq (.ops [⟨false,none,some 62,0,.fieldAddr 63 (.tmp 5) 0⟩,⟨false,none,some 63,24,.load 24 (.tmp 62)⟩,⟨false,none,some 64,0,.fieldAddr 61 (.tmp 2) 4⟩,⟨false,none,some 65,24,.load 24 (.tmp 64)⟩,⟨false,none,some 66,68,.build 68 #[(0,.tmp 63),(1,.tmp 65)]⟩,⟨false,none,some 8,0,.alloc 68⟩,⟨false,none,none,0,.store 68 (.tmp 8) (.tmp 66)⟩]) (.seq (.ops [⟨false,none,some 68,0,.fieldAddr 61 (.tmp 2) 2⟩,⟨false,none,some 69,58,.load 58 (.tmp 68)⟩,⟨false,none,some 70,0,.fieldAddr 61 (.tmp 2) 3⟩,⟨false,none,some 71,59,.load 59 (.tmp 70)⟩,⟨false,none,some 72,68,.load 68 (.tmp 8)⟩,⟨false,none,some 73,0,.fieldAddr 61 (.tmp 2) 5⟩,⟨false,none,some 74,27,.load 27 (.tmp 73)⟩,⟨false,none,some 75,0,.fieldAddr 61 (.tmp 2) 6⟩,⟨false,none,some 76,24,.load 24 (.tmp 75)⟩,⟨false,none,some 77,69,.call ⟨.value (.func 17),#[.tmp 69,.tmp 71,.tmp 72,.tmp 74,.tmp 76],#[58,59,68,27,24]⟩⟩,⟨false,none,some 67,69,.move (.tmp 77)⟩,⟨false,none,some 78,4,.extract (.tmp 67) 0⟩,⟨false,none,some 79,36,.extract (.tmp 67) 1⟩,⟨false,none,some 9,4,.assign (.tmp 78)⟩,⟨false,none,some 6,36,.assign (.tmp 79)⟩]) (.seq (.ops [⟨false,none,some 81,0,.fieldAddr 61 (.tmp 2) 2⟩,⟨false,none,some 82,58,.load 58 (.tmp 81)⟩,⟨false,none,some 83,0,.fieldAddr 61 (.tmp 2) 3⟩,⟨false,none,some 84,59,.load 59 (.tmp 83)⟩,⟨false,none,some 85,68,.load 68 (.tmp 8)⟩,⟨false,none,some 86,0,.fieldAddr 61 (.tmp 2) 5⟩,⟨false,none,some 87,27,.load 27 (.tmp 86)⟩,⟨false,none,some 88,72,.call ⟨.value (.func 18),#[.tmp 82,.tmp 84,.tmp 85,.tmp 87,.const (.slice none 0 0)],#[58,59,68,27,124]⟩⟩,⟨false,none,some 80,72,.move (.tmp 88)⟩,⟨false,none,some 89,71,.extract (.tmp 80) 0⟩,⟨false,none,some 90,36,.extract (.tmp 80) 1⟩,⟨false,none,some 10,71,.assign (.tmp 89)⟩,⟨false,none,some 11,36,.assign (.tmp 90)⟩]) mc4_r3))
noncomputable def mc4_r1:MC:=.seq (.seq (.ops [⟨true,none,some 37,0,.fieldAddr 61 (.tmp 2) 0⟩]) (.seq (.ops [⟨true,none,some 38,56,.load 56 (.tmp 37)⟩]) (.seq (.ops [⟨true,none,some 39,0,.fieldAddr 61 (.tmp 2) 1⟩]) (.seq (.ops [⟨true,none,some 40,27,.load 27 (.tmp 39)⟩]) (.seq (.ops [⟨true,none,some 41,0,.fieldAddr 61 (.tmp 2) 0⟩]) (.seq (.ops [⟨true,none,some 42,56,.load 56 (.tmp 41)⟩]) (.seq (.ops [⟨true,none,some 43,27,.move (.tmp 1)⟩]) (.seq (.ops [⟨true,none,some 7,0,.alloc 53⟩]) (.seq (.chk [⟨true,none,some 42,56,.load 56 (.tmp 41)⟩,⟨true,none,some 40,27,.load 27 (.tmp 39)⟩,⟨true,none,some 38,56,.load 56 (.tmp 37)⟩]) (.seq (.ops [⟨false,none,some 44,51,.call ⟨.value (.func 16),#[.tmp 42,.tmp 43],#[56,27]⟩⟩]) (.seq (.chk [⟨true,none,some 40,27,.load 27 (.tmp 39)⟩,⟨true,none,some 38,56,.load 56 (.tmp 37)⟩]) (.seq (.ops [⟨false,none,some 45,54,.call ⟨.value (.func 13),#[.tmp 38,.tmp 40,.tmp 44],#[56,27,51]⟩⟩]) (.seq (.ops [⟨true,none,some 36,54,.move (.tmp 45)⟩]) (.seq (.ops [⟨true,none,some 46,53,.extract (.tmp 36) 0⟩]) (.seq (.ops [⟨true,none,some 47,36,.extract (.tmp 36) 1⟩]) (.seq (.ops [⟨false,none,none,0,.store 53 (.tmp 7) (.tmp 46)⟩]) (.seq (.ops [⟨true,none,some 6,36,.assign (.tmp 47)⟩]) (.chk [])))))))))))))))))) (.seq (.seq (.ops [⟨false,none,some 48,36,.move (.tmp 6)⟩,⟨false,none,some 49,4,.binOp .neq 36 (.tmp 48) (.const (.int .i64 0)) 36⟩,⟨false,none,some 50,4,.move (.tmp 49)⟩,⟨false,some (50,false),some 51,0,.fieldAddr 53 (.tmp 7) 0⟩,⟨false,some (50,false),some 52,3,.load 3 (.tmp 51)⟩,⟨false,some (50,false),some 53,0,.fieldAddr 63 (.tmp 5) 0⟩,⟨false,some (50,false),some 54,0,.fieldAddr 24 (.tmp 53) 0⟩,⟨false,some (50,false),some 55,3,.load 3 (.tmp 54)⟩,⟨false,some (50,false),some 56,0,.fieldAddr 63 (.tmp 5) 0⟩,⟨false,some (50,false),some 57,0,.fieldAddr 24 (.tmp 56) 1⟩,⟨false,some (50,false),some 58,3,.load 3 (.tmp 57)⟩,⟨false,some (50,false),some 59,4,.call ⟨.value (.func 10),#[.tmp 52,.tmp 55,.tmp 58],#[3,3,3]⟩⟩,⟨false,some (50,false),some 60,4,.unOp .not 4 (.tmp 59)⟩,⟨false,none,some 61,4,.pick (.tmp 50) (.const (.bool true)) (.tmp 60)⟩]) (.cond (.tmp 61) (.seq (.ops [⟨false,none,some 4,4,.assign (.const (.bool false))⟩]) (.ret)) (.skip))) mc4_r2)
theorem mc4_eq:mc4=.seq (.ops [⟨false,none,some 2,0,.box 61 (.tmp 0)⟩,⟨false,none,some 4,4,.assign (.const (.bool false))⟩]) (.seq (.ops [⟨false,none,some 20,0,.fieldAddr 61 (.tmp 2) 0⟩,⟨false,none,some 21,56,.load 56 (.tmp 20)⟩,⟨false,none,some 22,0,.fieldAddr 61 (.tmp 2) 1⟩,⟨false,none,some 23,27,.load 27 (.tmp 22)⟩,⟨false,none,some 24,64,.call ⟨.value (.func 14),#[.tmp 21,.tmp 23],#[56,27]⟩⟩,⟨false,none,some 19,64,.move (.tmp 24)⟩,⟨false,none,some 25,63,.extract (.tmp 19) 0⟩,⟨false,none,some 26,36,.extract (.tmp 19) 1⟩,⟨false,none,some 5,0,.alloc 63⟩,⟨false,none,none,0,.store 63 (.tmp 5) (.tmp 25)⟩,⟨false,none,some 6,36,.assign (.tmp 26)⟩]) (.seq (.seq (.ops [⟨false,none,some 27,36,.move (.tmp 6)⟩,⟨false,none,some 28,4,.binOp .neq 36 (.tmp 27) (.const (.int .i64 0)) 36⟩,⟨false,none,some 29,4,.move (.tmp 28)⟩,⟨false,some (29,false),some 30,0,.fieldAddr 61 (.tmp 2) 0⟩,⟨false,some (29,false),some 31,56,.load 56 (.tmp 30)⟩,⟨false,some (29,false),some 32,3,.call ⟨.builtin .len,#[.tmp 31],#[56]⟩⟩,⟨false,some (29,false),some 33,4,.binOp .gtr 3 (.tmp 32) (.const (.int .i64 12)) 3⟩,⟨false,none,some 34,4,.pick (.tmp 29) (.const (.bool true)) (.tmp 33)⟩]) (.cond (.tmp 34) (.seq (.ops [⟨false,none,some 35,4,.call ⟨.value (.func 15),#[],#[]⟩⟩,⟨false,none,some 4,4,.assign (.tmp 35)⟩]) (.ret)) (.skip))) mc4_r1)):=rfl
noncomputable def F10:PureF:=fun args _=>match args with | [.int .i64 n,.int .i64 a,.int .i64 b]=>some (.bool (inI a n b)) | _=>none
theorem r10m {ov:Ov} (h10:HasP ov 10 F10) (m:Nat) (n a b:Int) (w:AW):(run Tryd.prog ov (m + 1)).call 10 [.int .i64 n,.int .i64 a,.int .i64 b] w .none=.ok (.ret (.bool (inI a n b))) w .none:=h10.call rfl
theorem loop4b {ov:Ov} (m:Nat) (h10:HasP ov 10 F10) (v15 v10 a2 a9 a16:Value) (W:List Int) (S:List Sp) (w:AW) (hW:RowsV intC w v15 W) (hS:RowsV spC w v10 S) (hlen:S.length=W.length) (hL:W.length≤100)
  (hin:∀ (i:Nat) (y:Int) (p:Sp),W[i]?=some y→S[i]?=some p→inI p.1 y p.2=true) (Q:Ex→Tm→AW→Prop) (t:Tm)
  (t2:tget t 2=a2) (t9:tget t 9=a9) (t10:tget t 10=v10) (t15:tget t 15=v15) (t16:tget t 16=a16) (t18:tget t 18=.int .i64 0)
  (hQ:∀ t,tget t 2=a2→tget t 9=a9→tget t 16=a16→Q (.exit 2) t w):wp (exM Tryd.prog (run Tryd.prog ov (m + 1)) (.loop mc4_l1) t w) Q:=by
 refine wp_rounds (fun r t w'=>w'=w∧r≤W.length∧tget t 2=a2∧tget t 9=a9∧tget t 10=v10∧tget t 15=v15∧tget t 16=a16∧tget t 18=.int .i64 (r:Nat)) 200 (by decide) ⟨rfl,by omega,t2,t9,t10,t15,t16,t18⟩ ?_
 clear t2 t9 t10 t15 t16 t18
 rintro r t w1 ⟨hw,hr,t2,t9,t10,t15,t16,t18⟩
 rw [hw]
 clear hw w1
 obtain ⟨zr,hzr⟩:∃ z:Int,z=(r:Int):=⟨_,rfl⟩
 obtain ⟨zl,hzl⟩:∃ z:Int,z=(W.length:Int):=⟨_,rfl⟩
 have hl:=fun w'=>len27V hW w'
 rw [← hzl] at hl
 rw [← hzr] at t18
 by_cases hlt:r < W.length
 ·have hlt':zr < zl:=by omega
  obtain ⟨y,hy⟩:∃ y,W[r]?=some y:=⟨_,List.getElem?_eq_getElem hlt⟩
  obtain ⟨p,hp⟩:∃ p,S[r]?=some p:=⟨_,List.getElem?_eq_getElem (by omega)⟩
  obtain ⟨b1,o1,q1,c1,e1,hr1⟩:=hW.at_ r hlt
  obtain ⟨b2,o2,q2,c2,e2,hr2⟩:=hS.at_ r (by omega)
  have hia1:=fun w=>ia27 w ⟨b1,o1,q1⟩ W.length c1 .i64 r hlt
  have hia2:=fun w=>ia71 w ⟨b2,o2,q2⟩ S.length c2 .i64 r (by omega)
  rw [← hzr] at hia1 hia2
  have d1:=hr1.int hy
  have d2:=hr2.rd1 (m:=2) (j:=0) (x:=.int .i64 p.1) spC_length hp rfl
  have d3:=hr2.rd1 (m:=2) (j:=1) (x:=.int .i64 p.2) spC_length hp rfl
  have hi:=hin r y p hy hp
  have r10:=fun w=>r10m h10 m y p.1 p.2 w
  rw [hi] at r10
  have hw:IntKind.wrap .i64 (zr + 1)=((r + 1:Nat):Int):=by rw [wrap64_in (by omega) (by omega)]; omega
  subst e1 e2
  simp at d1 d2 d3
  simp [mc4_l1,t2,t9,t10,t15,t16,t18,hl,hlt',hia1,hia2,d1,d2,d3,r10,hw]
  omega
 ·have hlt':¬ zr < zl:=by omega
  simp [mc4_l1,t2,t9,t10,t15,t16,t18,hl,hlt']
  exact hQ _ (by simp [t2]) (by simp [t9]) (by simp [t16])
theorem parts_same:sameL5 partsC partsC=true:=by kernel_rfl
theorem lims_same:sameL5 limC limC=true:=by kernel_rfl
theorem hasAll_both {w:AW} (h0:LimAt w) (h1:PartsAt w):hasAll w laidL=true:=by
 obtain ⟨r0,h0⟩:=h0
 obtain ⟨r1,h1⟩:=h1
 have e0:hasB w (0,limC,179)=true:=by
  unfold hasB
  simp only [h0,lims_same,Nat.beq_refl,Bool.and_self]
 have e1:hasB w (1,partsC,200)=true:=by
  unfold hasB
  simp only [h1,parts_same,Nat.beq_refl,Bool.and_self]
 show (bif hasB w (0,limC,179) then (bif hasB w (1,partsC,200) then true else false) else false)=true
 rw [e0,e1]; rfl
def HasQ (ov:Ov):Prop:=∀ w,hasAll w laidL=true→ov 15 [] w=some (.ok (.ret (.bool true)) w .none)
theorem ruleQ {ov:Ov} (h:HasQ ov) {w:AW} (h0:LimAt w) (h1:PartsAt w) (m:Nat):(run Tryd.prog ov (m + 1)).call 15 [] w .none=.ok (.ret (.bool true)) w .none:=by
 show stepO Tryd.prog (run Tryd.prog ov m) 15 [] w .none (ov 15 [] w)=_
 rw [h w (hasAll_both h0 h1)]; rfl
structure Bt (b0:Nat) (lv pv rv dv av bv:Value) (l:List Pod) (pl:List Int) (r:List CAct) (d:List CDay) (acts bits:List Int) (so li:Sp) (w:AW):Prop where
 box:w.heap.get b0=some (.cells [lv,pv,rv,dv,.int .i64 so.1,.int .i64 so.2,av,.int .i64 li.1,.int .i64 li.2] 61 false)
 lt:b0 < w.next
 l:PodsV w lv l
 p:RowsV intC w pv pl
 r:RowsV actC w rv r
 d:RowsV cdayC w dv d
 a:RowsV intC w av acts
 bt:RowsV intC w bv bits
 parts:PartsW w
 lim:LimW w
 hl:w.lim≤b0
section
variable {ov:Ov} {b0:Nat} {lv pv rv dv av bv:Value} {l:List Pod} {pl:List Int} {r:List CAct} {d:List CDay} {acts bits:List Int} {so li:Sp} {w w':AW}
theorem Bt.up (h:Bt b0 lv pv rv dv av bv l pl r d acts bits so li w) (u:Up w w'):Bt b0 lv pv rv dv av bv l pl r d acts bits so li w' :=
 ⟨by rw [u.at h.lt]; exact h.box,Nat.lt_of_lt_of_le h.lt u.next,h.l.old u.old u.next,h.p.up u,h.r.up u,h.d.up u,h.a.up u,h.bt.up u,h.parts.old u.old u.next,h.lim.up u,by rw [u.lim]; exact h.hl⟩
theorem rest6 (m:Nat) (h10:HasP ov 10 F10) (hq:HasQ ov) (hB:Bt b0 lv pv rv dv av bv l pl r d acts bits so li w) (is:Bool) (v10 v15 v16:Value) (W M:List Int) (S:List Sp) (hW:RowsV intC w v15 W) (hM:RowsV intC w v16 M) (hS:RowsV spC w v10 S)
  (hlen:S.length=W.length) (hL:W.length≤100) (hml:M.length=W.length) (hpos:0 < W.length) (hin:∀ (i:Nat) (y:Int) (p:Sp),W[i]?=some y→S[i]?=some p→inI p.1 y p.2=true)
  (hlast:is=true→∀ z,M[M.length - 1]?=some z→inI li.1 z li.2=true) (Q:Ex→Tm→AW→Prop) (t:Tm)
  (t2:tget t 2=.pointer (some ⟨b0,0,none⟩)) (t9:tget t 9=.bool is) (t10:tget t 10=v10) (t15:tget t 15=v15) (t16:tget t 16=v16)
  (hQ:∀ t,tget t 4=.bool true→Q .ret t w):wp (exM Tryd.prog (run Tryd.prog ov (m + 1)) mc4_r6 t w) Q:=by
 simp [mc4_r6]
 refine wp_seqX (wp_blockX (loop4b m h10 v15 v10 _ _ v16 W S w hW hS hlen hL hin _ _ (by simp [t2]; rfl) (by simp [t9]; rfl) (by simp [t10]) (by simp [t15]) (by simp [t16]) (by simp) ?_))
 intro t t2 t9 t16
 have r15:=ruleQ hq hB.lim.1 hB.parts.1 m
 have hbox:=hB.box
 have hlm:=fun w'=>len27V hM w'
 cases is with
 | false =>
  simp [t2,t9,t16,r15]
  exact hQ _ (by simp)
 | true =>
  obtain ⟨k,hk⟩:∃ k,M.length=k + 1:=⟨M.length - 1,by omega⟩
  obtain ⟨z,hz⟩:∃ z,M[k]?=some z:=⟨_,List.getElem?_eq_getElem (by omega)⟩
  have hl:=hlast rfl z (by rw [hk]; exact hz)
  obtain ⟨b1,o1,q1,c1,e1,hr1⟩:=hM.at_ k (by omega)
  have hia:=fun w=>ia27 w ⟨b1,o1,q1⟩ M.length c1 .i64 k (by omega)
  have hld:=hr1.int hz
  have r10:=fun w=>r10m h10 m z li.1 li.2 w
  rw [hl] at r10
  have hw:IntKind.wrap .i64 ((M.length:Int) - 1)=(k:Int):=by rw [wrap64_in (by omega) (by omega)]; omega
  obtain ⟨zk,hzk⟩:∃ x:Int,x=(k:Int):=⟨_,rfl⟩
  obtain ⟨zm,hzm⟩:∃ x:Int,x=(M.length:Int):=⟨_,rfl⟩
  rw [← hzm] at hlm hw
  rw [← hzk] at hia hw
  subst e1
  try simp at hld
  simp [t2,t9,t16,hlm,hw,hia,hld,hbox,r10,r15]
  exact hQ _ (by simp)
theorem proc_rows {pv:Value} {L:List Sp} (h:ProcV w pv L):RowsV spC w pv L:=by
 obtain ⟨B,rfl,h1,h2⟩:=h
 exact .inr ⟨B,0,none,_,rfl,⟨[],[],24,false,by rw [h1,List.nil_append,List.append_nil],rfl⟩,h2⟩
end
section
variable {ov:Ov} {b0:Nat} {lv pv rv dv av bv:Value} {l:List Pod} {pl:List Int} {r:List CAct} {d:List CDay} {acts bits:List Int} {so li:Sp} {w w':AW}
theorem top_vlen {b:CBox} {V:List Sp} (hA:actE r d b acts=0) (hV:weighF b (lossL r acts) []=some V):(V.take ((lossL r acts).length + 1)).length=(lossL r acts).length + 1:=by
 obtain ⟨hR,hD,hB,st,hs⟩:=act_ofE hA
 have hL:(lossL r acts).length=acts.length:=by simp [lossL]
 have h14:=(tru_ok hA).2.1
 have ok:=weigh_ok hB (los_ok hA) (by omega) hV
 have:=ok.good.len
 rw [List.length_take]
 omega
structure No5 (ov:Ov):Prop where
 o19:∀ args w,ov 19 args w=none
 o41:∀ args w,ov 41 args w=none
 o47:∀ args w,ov 47 args w=none
 o81:∀ args w,ov 81 args w=none
theorem rest5 (m:Nat) (hn:No5 ov) (h39:HasP ov 39 S39.F) (h46:HasP ov 46 S46.F) (h82:HasP ov 82 S82.F) (h10:HasP ov 10 F10) (hq:HasQ ov) (hB:Bt b0 lv pv rv dv av bv l pl r d acts bits so li w) (hlw:w.lim≤w.next) (is:Bool) (b:CBox) (v10:Value) (ws s:Int) (ls:List Int) (lsv:Value) (n8 n12:Nat)
  (hA:actE r d b acts=0) (g8:w.heap.get n8=some (.cells (boxC b) 68 false)) (g12:w.heap.get n12=some (.cells [.int .i64 ws,.int .i64 s,lsv] 75 false)) (hls:RowsV intC w lsv ls)
  (hwe:weiE r d b acts []=0→∃ V,weighF b (lossL r acts) []=some V∧ProcV w v10 (V.take ((lossL r acts).length + 1))) (hsu:is=true→surB b (lossL r acts) li=true) (Q:Ex→Tm→AW→Prop) (t:Tm)
  (t2:tget t 2=.pointer (some ⟨b0,0,none⟩)) (t8:tget t 8=.pointer (some ⟨n8,0,none⟩)) (t9:tget t 9=.bool is) (t10:tget t 10=v10) (t11:tget t 11=.int .i64 (weiE r d b acts [])) (t12:tget t 12=.pointer (some ⟨n12,0,none⟩))
  (hQ:∀ t w',tget t 4=.bool true→Q .ret t w'):wp (exM Tryd.prog (run Tryd.prog ov (m + 3)) mc4_r5 t w) Q:=by
 obtain ⟨x,w1,c1,v1,v2,rfl,hr1,hr2,hu⟩:=call19 (ov:=ov) m hn.o19 hn.o41 hn.o47 hn.o81 h39 h46 h82 r d b acts ws s ls rv dv av lsv w hlw hB.lim hB.r hB.d hB.a hls
 have hbox:=hB.box
 have hB1:=hB.up hu
 obtain ⟨a1,k1,e1⟩:=hr1.len
 obtain ⟨a2,k2,e2⟩:=hr2.len
 simp only [boxC] at g8 c1
 have r15:=ruleQ hq hB1.lim.1 hB1.parts.1 (m + 2)
 by_cases hT:truB b (lossL r acts) ws s ls=true
 ·have hf:folE r d b acts ws s ls=0:=by unfold folE; rw [if_pos hA,if_pos hT]
  have hW:folW r d b acts ws s ls=wtsL ws ls:=by unfold folW; rw [if_pos hf]
  have hM:folM r d b acts ws s ls=mosL ws s ls:=by unfold folM; rw [if_pos hf]
  have h0:=top_wei hA hT
  obtain ⟨V,hV,hp⟩:=hwe h0
  have hlen:=truB_len hT
  have hL:(lossL r acts).length=acts.length:=by simp [lossL]
  have h14:=(tru_ok hA).2.1
  have hvl:=top_vlen hA hV
  have hS:=(proc_rows hp).up hu
  have hwl:=wtsL_length ls ws
  have hml:(mosL ws s ls).length=(wtsL ws ls).length:=by simp [mosL]
  rw [hf] at c1
  rw [hW] at hr1 e1
  rw [hM] at hr2 e2
  rw [h0] at t11
  obtain ⟨a3,k3,e3⟩:=hS.len
  have l1:=fun w'=>len27V hr1 w'
  have l2:=fun w'=>len27V hr2 w'
  have l3:∀ w',lenB Tryd.prog w' 71 v10=.val (.int .i64 ((V.take ((lossL r acts).length + 1)).length:Nat)) w':=fun w'=>by rw [e3]; simp
  obtain ⟨zl,hzl⟩:∃ z:Int,z=((wtsL ws ls).length:Int):=⟨_,rfl⟩
  have hzp:¬ zl=0:=by omega
  rw [← hzl] at l1
  rw [hml,← hzl] at l2
  rw [show (V.take ((lossL r acts).length + 1)).length=(wtsL ws ls).length by omega,← hzl] at l3
  have n1:notJunk v1=some v1:=by rw [e1]; rfl
  have n2:notJunk v2=some v2:=by rw [e2]; rfl
  simp [mc4_r5,t2,t8,t12,hbox,g8,g12,c1,t9,t10,t11,l1,l2,l3,hzp]
  refine rest6 (m + 2) h10 hq hB1 is v10 v1 v2 (wtsL ws ls) (mosL ws s ls) _ hr1 hr2 hS (by omega) (by omega) hml (by omega) (top_in hA hT hV) (fun hi=>?_) Q _ ?_ ?_ ?_ ?_ ?_ (fun t h=>hQ t w1 h)
  ·have:=top_last hA hT (hsu hi)
   rw [hml,hwl,Nat.add_sub_cancel]
   exact this
  ·simp [t2]
  ·simp [t9]
  ·simp [t10]
  ·simp
  ·simp
 ·have hf:folE r d b acts ws s ls=66:=by unfold folE; rw [if_pos hA,if_neg hT]
  rw [hf] at c1
  simp [mc4_r5,t2,t8,t12,hbox,g8,g12,c1,r15]
  exact hQ _ _ (by simp)
end
noncomputable def F11w:PureF:=fun args _=>match args with | [.int .i64 lo,.int .i64 hi,.int .i64 n]=>bif inI 0 lo 10000000 && inI 0 hi 10000000 then some (.int .i64 (withI lo hi n)) else none | _=>none
theorem run11w {ov:Ov} (ho:∀ args w,ov 11 args w=none) (h42:HasP ov 33 F33) (lo hi n:Int) (hb:(0≤lo∧lo≤10000000)∧0≤hi∧hi≤10000000) (w:AW):∃ v w',(run Tryd.prog ov 2).call 11 [.int .i64 lo,.int .i64 hi,.int .i64 n] w .none=.ok (.ret v) w' .none∧v=.int .i64 (withI lo hi n):=by
 refine call_wp text11 (by simp) (ho _ _) ?_
 have w1:IntKind.wrap .i64 (hi - lo)=hi - lo:=wrap64_in (by omega) (by omega)
 have w2:IntKind.wrap .i64 (hi - lo + 1)=hi - lo + 1:=wrap64_in (by omega) (by omega)
 have r42:=rule33 h42 n (s:=hi - lo + 1) (by omega)
 have hbd : -1≤wrapI n (hi - lo + 1)∧wrapI n (hi - lo + 1)≤20000001:=by
  by_cases h:1≤hi - lo + 1
  ·have:=wrapI_bd (n:=n) h; omega
  ·unfold wrapI; rw [if_pos (by omega)]; omega
 have w3:IntKind.wrap .i64 (lo + wrapI n (hi - lo + 1))=lo + wrapI n (hi - lo + 1):=wrap64_in (by omega) (by omega)
 simp [mc11,w1,w2,r42,w3,tupV,withI]
theorem r11w {ov:Ov} (k:HasP ov 11 F11w) {lo hi:Int} (n:Int) (h1:0≤lo∧lo≤10000000) (h2:0≤hi∧hi≤10000000) (m:Nat) (w:AW):(run Tryd.prog ov (m + 1)).call 11 [.int .i64 lo,.int .i64 hi,.int .i64 n] w .none=.ok (.ret (.int .i64 (withI lo hi n))) w .none:=k.call (by simp [F11w,inI,h1,h2])
theorem weak11 {ov:Ov} (k:HasP ov 11 F11w):HasP ov 11 F11:=fun args w v h=>by
 refine k args w v ?_
 unfold F11 at h
 split at h
 ·rename_i lo hi n
  cases hb:(inI 0 lo 100000 && inI 0 hi 100000) with
  | false=>rw [hb] at h; cases h
  | true =>
   rw [hb] at h
   cases h
   have h2:(inI 0 lo 10000000 && inI 0 hi 10000000)=true:=by
    simp only [inI,Bool.and_eq_true,decide_eq_true_eq] at hb ⊢
    omega
   show (bif inI 0 lo 10000000 && inI 0 hi 10000000 then some (Value.int .i64 (withI lo hi n)) else none)=_
   rw [h2]; rfl
 ·cases h
section
variable {ov:Ov} {b0:Nat} {lv pv rv dv av bv:Value} {l:List Pod} {pl:List Int} {r:List CAct} {d:List CDay} {acts bits:List Int} {so li:Sp} {w w':AW}
set_option maxHeartbeats 1000000 in
theorem loop4a (m:Nat) (h10:HasP ov 10 F10) (h11:HasP ov 11 F11w) (h12:HasP ov 12 F12) {w1:AW} (hB:Bt b0 lv pv rv dv av bv l pl r d acts bits so li w1) (hl1:w1.lim≤w1.next) (hbits:bits.length≤2 ^ 60) {b:CBox} (hA:actE r d b acts=0) (ws s:Int) (a8 a9 a10 a11:Value) (Q:Ex→Tm→AW→Prop) (t:Tm) (w:AW)
  (hu:Up w1 w) (hn:w1.next < w.next) (g:w.heap.get w1.next=some (.cells [.int .i64 ws,.int .i64 s,.slice none 0 0] 75 false))
  (t1:tget t 1=bv) (t2:tget t 2=.pointer (some ⟨b0,0,none⟩)) (t8:tget t 8=a8) (t9:tget t 9=a9) (t10:tget t 10=a10) (t11:tget t 11=a11) (t12:tget t 12=.pointer (some ⟨w1.next,0,none⟩)) (t13:tget t 13=.int .i64 0)
  (hQ:∀ t w' v ls,Up w1 w'→w1.next < w'.next→w'.heap.get w1.next=some (.cells [.int .i64 ws,.int .i64 s,v] 75 false)→RowsV intC w' v ls→tget t 2=.pointer (some ⟨b0,0,none⟩)→tget t 8=a8→tget t 9=a9→tget t 10=a10→tget t 11=a11→tget t 12=.pointer (some ⟨w1.next,0,none⟩)→Q (.exit 0) t w') :
  wp (exM Tryd.prog (run Tryd.prog ov (m + 1)) (.loop mc4_l0) t w) Q:=by
 have h14:=(tru_ok hA).2.1
 have hact:=(tru_ok hA).2.2
 have hlos:=los_ok hA
 refine wp_rounds (fun i t w=>i≤acts.length∧Up w1 w∧w1.next < w.next∧(∃ v acc B,w.heap.get w1.next=some (.cells [.int .i64 ws,.int .i64 s,v] 75 false)∧AccI w1.next w v acc B∧acc.length=i)∧tget t 1=bv∧tget t 2=.pointer (some ⟨b0,0,none⟩)∧tget t 8=a8∧tget t 9=a9∧tget t 10=a10∧tget t 11=a11∧tget t 12=.pointer (some ⟨w1.next,0,none⟩)∧tget t 13=.int .i64 (i:Nat)) 100 (by decide) ⟨by omega,hu,hn,⟨_,[],0,g,.inl ⟨rfl,rfl,rfl⟩,rfl⟩,t1,t2,t8,t9,t10,t11,t12,t13⟩ ?_
 clear t1 t2 t8 t9 t10 t11 t12 t13 hu hn g
 rintro i t w ⟨hi,hu,hn,⟨v,acc,B,g,hacc,hal⟩,t1,t2,t8,t9,t10,t11,t12,t13⟩
 have hBw:=hB.up hu
 have hbox:=hBw.box
 have hla:=fun w'=>len27V hBw.a w'
 have hlm:=hu.lim
 have hblt:=hB.lt
 have hbl:=hB.hl
 obtain ⟨zi,hzi⟩:∃ z:Int,z=(i:Int):=⟨_,rfl⟩
 obtain ⟨za,hza⟩:∃ z:Int,z=(acts.length:Int):=⟨_,rfl⟩
 rw [← hza] at hla
 have t13':=t13
 rw [← hzi] at t13'
 by_cases hlt:i < acts.length
 ·have hlt':zi < za:=by omega
  obtain ⟨a,ha⟩:∃ a,acts[i]?=some a:=⟨_,List.getElem?_eq_getElem hlt⟩
  obtain ⟨ha0,x,hx⟩:=hact a (List.mem_of_getElem? ha)
  have har:=(List.getElem?_eq_some_iff.1 hx).1
  obtain ⟨k,hk⟩:∃ k:Nat,(k:Int)=a:=⟨a.toNat,by omega⟩
  have hkk:a.toNat=k:=by omega
  rw [hkk] at hx har
  have hsp:gtS (losL (lossL r acts)) i=(x.ll,x.lh):=by
   have hL:(lossL r acts).length=acts.length:=by simp [lossL]
   rw [los_at (by omega)]
   unfold lossL
   rw [gtS_map,ha]
   simp only [hkk,hx]
  have hls:=hlos i
  rw [hsp] at hls
  obtain ⟨b1,o1,q1,c1,e1,hr1⟩:=hBw.a.at_ i hlt
  obtain ⟨b2,o2,q2,c2,e2,hr2⟩:=hBw.r.at_ k har
  have hia1:=fun w=>ia27 w ⟨b1,o1,q1⟩ acts.length c1 .i64 i hlt
  have hia2:=fun w=>ia58 w ⟨b2,o2,q2⟩ r.length c2 .i64 k har
  rw [← hzi] at hia1
  rw [hk] at hia2
  have d1:=hr1.int ha
  have d2:=hr2.rd1 (m:=7) (j:=5) (x:=.int .i64 x.ll) actC_length hx rfl
  have d3:=hr2.rd1 (m:=7) (j:=6) (x:=.int .i64 x.lh) actC_length hx rfl
  have f5:rdO (w.heap.get b2) (o2 + k * 7 + 5) 2=some [.int .i64 x.ll,.int .i64 x.lh]:=rdO_sub (hr2.rd actC_length hx) (j:=5) (k:=2) (by decide)
  have hb1:=hr1.2
  have hb2:=hr2.2
  obtain ⟨a5,k5,e5⟩:=hBw.r.len
  have hlr:∀ w',lenB Tryd.prog w' 58 rv=.val (.int .i64 (r.length:Nat)) w':=fun w'=>by rw [e5]; simp
  obtain ⟨zr,hzr⟩:∃ z:Int,z=(r.length:Int):=⟨_,rfl⟩
  rw [← hzr] at hlr
  have hR:=(act_ofE hA).1
  simp only [ruleB,inI,Bool.and_eq_true,decide_eq_true_eq] at hR
  have wr:IntKind.wrap .i64 (zr - 1)=zr - 1:=wrap64_in (by omega) (by omega)
  have wi:IntKind.wrap .i64 (zi + 1)=zi + 1:=wrap64_in (by omega) (by omega)
  have hiI:inI 0 a (zr - 1)=true:=by simp [inI]; omega
  have r10:=fun w=>r10m h10 m a 0 (zr - 1) w
  rw [hiI] at r10
  obtain ⟨wd,ewd⟩:∃ wd:AW,wd=⟨(w.heap.put w.next (some (.cells [.int .i64 0,.int .i64 0] 24 false))).put w.next (some (.cells [.int .i64 x.ll,.int .i64 x.lh] 24 false)),w.next + 1,w.lim⟩:=⟨_,rfl⟩
  have ud:Up w wd:=by rw [ewd]; exact ((Up.refl w).add _).put (Nat.le_refl _) (Nat.le_refl _)
  have nd:wd.next=w.next + 1:=by rw [ewd]
  have ld:wd.lim=w.lim:=by rw [ewd]
  have r12:=rule12m (fm:=m) h12 (zi + 1) (hBw.bt.up ud) hbits
  have r11:=fun w=>r11w h11 (lo:=x.ll) (hi:=x.lh) (nthI bits (zi + 1)) (by omega) (by omega) m w
  have accd:AccI w1.next wd v acc B:=hacc.keep (B0:=0) (fun y hy _ _=>ud.at hy) ud.next (fun h=>h)
  obtain ⟨v',w2,B',ha2,hacc2,hk2,hB2,hn2,hl2⟩:=int_push accd (by omega) (by omega) (by omega) (withI x.ll x.lh (nthI bits (zi + 1)))
  have nB:w1.next=B→B=0:=fun e=>by
   rcases hacc with ⟨_,_,h⟩ | ⟨_,_,h,_⟩
   ·exact h
   ·omega
  have nBb:∀ y,y < w1.next→y=B→B=0:=fun y hy e=>by
   rcases hacc with ⟨_,_,h⟩ | ⟨_,_,h,_⟩
   ·exact h
   ·omega
  have gd:wd.heap.get w1.next=some (.cells [.int .i64 ws,.int .i64 s,v] 75 false):=by rw [ud.at hn]; exact g
  have g2:w2.heap.get w1.next=some (.cells [.int .i64 ws,.int .i64 s,v] 75 false):=by rw [hk2 _ (by omega) nB]; exact gd
  have sv:=hacc.same
  obtain ⟨n',hv'⟩:∃ n',v'=.slice (some ⟨B',0,none⟩) n' n':=by
   rcases hacc2 with ⟨h,_⟩ | ⟨h,_⟩
   ·exact absurd h (by simp)
   ·exact ⟨_,h⟩
  subst hv'
  have m1:¬ b0=w.next:=by omega
  have m2:¬ w1.next=w.next:=by omega
  have m3:¬ b1=w.next:=by omega
  have m5:¬ w1.next=w.next + 1:=by omega
  have m4:¬ b2=w.next:=by omega
  have lw:w.lim≤w.next:=by omega
  have lw2:w2.lim≤w1.next:=by omega
  have e27:=sameN_int 4 .i64
  have b4:=hacc2.lt (by omega)
  have su:=hB.up hu
  rw [e1,e2] at hbox
  rw [e1] at hla
  rw [e2] at hlr
  rw [ewd] at r12 ha2
  try simp at d1 d2 d3
  simp [mc4_l0,t1,t2,t12,t13',hbox,hla,hlt',hia1,hia2,d1,d2,d3,f5,cellsOf_agg,hlr,wr,wi,r10,m1,m2,m3,m4,m5,lw,g,r12,r11,sv,ha2,g2,lw2,sameN_int]
  have uf:Up w1 ⟨w2.heap.put w1.next (some (.cells [.int .i64 ws,.int .i64 s,.slice (some ⟨B',0,none⟩) n' n'] 75 false)),w2.next,w2.lim⟩:=by
   refine ⟨fun y hy=>?_,by show w1.next≤w2.next; omega,by show w2.lim=w1.lim; omega⟩
   show (w2.heap.put _ _).get y=_
   rw [get_put,if_neg (by omega),hk2 y (by omega) (nBb y hy),ud.at (by omega)]
   exact hu.at hy
  have accf:AccI w1.next ⟨w2.heap.put w1.next (some (.cells [.int .i64 ws,.int .i64 s,.slice (some ⟨B',0,none⟩) n' n'] 75 false)),w2.next,w2.lim⟩ (.slice (some ⟨B',0,none⟩) n' n') (acc++[withI x.ll x.lh (nthI bits (zi + 1))]) B' :=
   hacc2.keep (B0:=0) (fun y _ _ h=>by show (w2.heap.put _ _).get y=_; rw [get_put,if_neg (by omega)]) (Nat.le_refl _) (fun h=>h)
  exact ⟨by omega,by omega,uf,by omega,⟨_,⟨B',accf⟩,by simp [hal]⟩,t8,t9,t10,t11,hzi⟩
 ·have hlt':¬ zi < za:=by omega
  simp [mc4_l0,t2,t13',hbox,hla,hlt']
  have hr:RowsV intC w v acc:=by
   rcases hacc with ⟨h1,h2,_⟩ | ⟨h1,h2,h3,h4⟩
   ·exact .inl ⟨h1,none,0,h2⟩
   ·exact .inr ⟨B,0,none,_,h1,⟨[],[],3,false,by rw [h2,List.nil_append,List.append_nil],rfl⟩,h4⟩
  exact hQ _ w v acc hu hn g hr (by simp [t2]) (by simp [t8]) (by simp [t9]) (by simp [t10]) (by simp [t11]) (by simp [t12])
end
end Go.Proofs.YtabiiddijccmdaaDoor.walk
