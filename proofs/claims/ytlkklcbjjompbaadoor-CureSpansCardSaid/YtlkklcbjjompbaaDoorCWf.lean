/- Part of a proof by a machine of ones own: see the text with the theorem. -/
import Derived.Test.YtlkklcbjjompbaaDoorCWe
namespace Go.Proofs.YtlkklcbjjompbaaDoor.walk
open Go Go.Sh
set_option maxRecDepth 100000
set_option linter.unusedSimpArgs false
theorem partL_zero' (L:List Sp):partL L L.length 0=List.replicate L.length (0,0):=by simp [partL]
set_option maxHeartbeats 2000000 in
theorem call66 {ov:Ov} (m:Nat) (ho:∀ args w,ov 66 args w=none) (h64:HasP ov 64 S64.F) (h84:HasP ov 84 S84.F) (h88:HasP ov 88 S88.F) (b:CBox) (pv:Value) (L V W D:List Sp) (hlen:L.length≤14) (hL:LosW (losL L)) (hVb:BndW V) (hw:WeiOk L V W) (hD:dryF L V=some D) (hdo:DryOk L V D) (we:AW) (hlim:we.lim≤we.next) (hpv:ProcV we pv L) :
  ∃ v w',(run Tryd.prog ov (m + 2)).call 66 [.agg ⟨procC b pv⟩,.agg ⟨V.flatMap spC⟩] we .none=.ok (.ret v) w' .none∧ProcV w' v (moL L V D)∧Up we w':=by
 refine call_wp text66 (by simp) (ho _ _) ?_
 have hV:=hw.good.len
 have hD16:=hdo.good.len
 obtain ⟨B,hpe,_,_⟩:=id hpv
 have r64:=fun w=>S64.call (P:=Tryd.prog) h64 (m:=m) (w:=w) ⟨b,some ⟨B,0,none⟩,L.length,L.length,rfl,by omega,rfl⟩
 have sp:=same_proc b (some ⟨B,0,none⟩) L.length L.length
 rw [← hpe] at r64 sp
 have hian:∀ w1,indexAddrA Tryd.prog w1 104 (.pointer (some ⟨we.next + 1,0,none⟩)) (.int .i64 ((L.length:Int) + 1))=.val (.pointer (some ((⟨we.next + 1,0,none⟩:Addr).add ((L.length + 1) * 2)))) w1:=fun w1=>by
  have:=ia104 w1 ⟨we.next + 1,0,none⟩ (L.length + 1) (by omega)
  rw [show ((L.length + 1:Nat):Int)=(L.length:Int) + 1 by omega] at this
  exact this
 have hcl:=row_len hV
 have htk:(V.flatMap spC).take 32=V.flatMap spC:=List.take_of_length_le (by omega)
 have svr:=same_rowV V
 obtain ⟨tk,q⟩:=row_ld hV (i:=L.length + 1) (by omega)
 have hDl:=row_len hD16
 have hDs:=row_sing D
 have hml:(moL L V D).length=L.length + 1:=by simp
 obtain ⟨w1,hw1e⟩:∃ w1:AW,w1=⟨(((we.heap.put we.next (some (.cells (procC b pv) 97 false))).put (we.next + 1) (some (.cells (V.flatMap spC) 104 false))).put (we.next + 1 + 1) (some (.cells [.int .i64 0,.int .i64 0] 25 false))).put (we.next + 1 + 1 + 1) (some (.cells zerC 104 false)),we.next + 1 + 1 + 1 + 1,we.lim⟩:=⟨_,rfl⟩
 have u1:Up we w1:=by rw [hw1e]; exact ((((Up.refl we).add _).put (Nat.le_succ _) (Nat.le_succ _)).put (by show we.next≤we.next + 1 + 1; omega) (Nat.le_succ _)).put (by show we.next≤we.next + 1 + 1 + 1; omega) (Nat.le_succ _)
 have r88:=S88.call (P:=Tryd.prog) h88 (m:=m) (w:=w1) ⟨b,pv,L,V,D,rfl,hpv.up u1,hlen,hL,hV,hVb,hD,by rw [hw1e]; show we.lim≤we.next + 1 + 1 + 1 + 1; omega,rfl⟩
 rw [hw1e] at r88
 have lw2:we.lim≤we.next + 1 + 1:=by omega
 have lw3:we.lim≤we.next + 1 + 1 + 1:=by omega
 have hz:zerC.length=32:=rfl
 have hzd:zerC.drop 32=[]:=rfl
 have hmk:∀ w,makeSliceA Tryd.prog w 43 (.int .i64 ((L.length:Int) + 1)) (.int .i64 ((L.length:Int) + 1))=.val (.slice (some ⟨w.next,0,none⟩) (L.length + 1) (L.length + 1)) ⟨w.heap.put w.next (some (.cells ((partL (moL L V D) (moL L V D).length 0).flatMap spC) 25 false)),w.next + 1,w.lim⟩:=fun w=>by
  rw [partL_zero',hml]
  have:=mk43 (L.length + 1) (by omega) w
  rw [show ((L.length + 1:Nat):Int)=(L.length:Int) + 1 by omega] at this
  exact this
 simp only [procC] at r64 sp r88 ⊢
 generalize hcs:V.flatMap spC=cs at hcl htk svr tk r88
 generalize hcs2:D.flatMap spC=cs2 at hDl hDs r88
 simp [mc66,cellsOf_agg,ez,r64,sp,svr,hian,hcl,htk,tk,q,lw2,lw3,r88,hDl,hDs,hz,hzd,hmk]
 refine wp_seqX (wp_blockX (wp_rounds (fun i t w=>Up we w∧w.heap.get (we.next + 1)=some (.cells cs 104 false)∧w.heap.get (we.next + 1 + 1)=some (.cells [.int .i64 (gtS V (L.length + 1)).1,.int .i64 (gtS V (L.length + 1)).2] 25 false)∧w.heap.get (we.next + 1 + 1 + 1)=some (.cells cs2 104 false)∧w.heap.get (we.next + 1 + 1 + 1 + 1)=some (.cells ((partL (moL L V D) (moL L V D).length i).flatMap spC) 25 false)∧we.next + 5≤w.next∧tget t 3=.pointer (some ⟨we.next + 1,0,none⟩)∧tget t 5=.pointer (some ⟨we.next + 1 + 1,0,none⟩)∧tget t 6=.pointer (some ⟨we.next + 1 + 1 + 1,0,none⟩)∧tget t 7=.slice (some ⟨we.next + 1 + 1 + 1 + 1,0,none⟩) (L.length + 1) (L.length + 1)∧tget t 20=.int .i64 ((L.length:Int) + 1)∧tget t 21=.int .i64 (i:Nat)∧i≤L.length + 1) 20 (by decide) ?_ ?_))
 ·refine ⟨?_,?_,?_,?_,?_,?_,?_,?_,?_,?_,?_,?_,Nat.zero_le _⟩
  ·refine ⟨fun x hx=>?_,by show we.next≤we.next + 1 + 1 + 1 + 1 + 1; omega,rfl⟩
   show (((((((we.heap.put _ _).put _ _).put _ _).put _ _).put _ _).put _ _).put _ _).get x=_
   rw [get_put,if_neg (by omega),get_put,if_neg (by omega),get_put,if_neg (by omega),get_put,if_neg (by omega),get_put,if_neg (by omega),get_put,if_neg (by omega),get_put,if_neg (by omega)]
  ·simp
  ·simp
  ·simp
  ·simp
  ·show we.next + 5≤we.next + 1 + 1 + 1 + 1 + 1; omega
  all_goals simp
 ·rintro i t w ⟨hup,g3,g5,g6,g7,hnx,t3,t5,t6,t7,t20,t21,hi⟩
  have hlm:w.lim=we.lim:=hup.lim
  by_cases hlt:i < L.length + 1
  ·have hlt':(i:Int) < (L.length:Int) + 1:=by omega
   obtain ⟨f1,f2⟩:=mo_fits hL hw hdo (k:=i) (by omega)
   have r84a:=fun w=>S61.call (P:=Tryd.prog) h84 (m:=m) (w:=w) ⟨(gtS D i).1,(gtS V (L.length + 1)).2,rfl,f1,rfl⟩
   have r84b:=fun w=>S61.call (P:=Tryd.prog) h84 (m:=m) (w:=w) ⟨(gtS V i).2,(gtS V (L.length + 1)).1,rfl,f2,rfl⟩
   have hia3:=fun w1=>ia104 w1 ⟨we.next + 1,0,none⟩ i (by omega)
   have hia6:=fun w1=>ia104 w1 ⟨we.next + 1 + 1 + 1,0,none⟩ i (by omega)
   have hia7:=fun w1=>ia43 w1 ⟨we.next + 1 + 1 + 1 + 1,0,none⟩ (L.length + 1) (L.length + 1) .i64 i hlt
   have o3:=(row_one hV (i:=i) (by omega)).2
   have o6:=(row_one hD16 (i:=i) (by omega)).1
   rw [hcs] at o3
   rw [hcs2] at o6
   have hwi:IntKind.wrap .i64 ((i:Int) + 1)=(i:Int) + 1:=wrap64_in (by omega) (by omega)
   have hmx:=moL_at (L:=L) (V:=V) (D:=D) (k:=i) (by omega)
   have hps:=part_set hmx
   have hfs:=flat_set spC_length (partL (moL L V D) (moL L V D).length i) i (moI (gtS D i).1 (gtS V (L.length + 1)).2,moI (gtS V i).2 (gtS V (L.length + 1)).1) (by rw [part_length (by omega)]; omega)
   rw [hps] at hfs
   have hfl:((partL (moL L V D) (moL L V D).length i).flatMap spC).length=(L.length + 1) * 2:=by rw [flat_length spC_length,part_length (by omega),hml]
   generalize (partL (moL L V D) (moL L V D).length i).flatMap spC=cc at g7 hfs hfl
   simp only [spC,List.cons_append,List.nil_append] at hfs
   have lw:w.lim≤we.next + 1 + 1 + 1 + 1:=by omega
   have q3:i * 2 + 2≤(L.length + 1) * 2:=by omega
   simp [mc66_l0,t3,t5,t6,t7,t20,t21,hlt',hia3,hia6,hia7,g3,g5,g6,g7,o3,o6,r84a,r84b,hfl,q3,lw,hfs,hwi]
   exact ⟨by omega,hup.put (by omega) (Nat.le_refl _),hnx,by omega⟩
  ·have hil:i=L.length + 1:=by omega
   subst hil
   rw [← hml,part_full] at g7
   have nj:notJunk (.slice (some ⟨we.next + 1 + 1 + 1 + 1,0,none⟩) (L.length + 1) (L.length + 1))=some (.slice (some ⟨we.next + 1 + 1 + 1 + 1,0,none⟩) (L.length + 1) (L.length + 1)):=rfl
   simp [mc66_l0,t7,t20,t21,nj,tupV]
   exact ⟨⟨_,by rw [hml],g7,by omega⟩,hup⟩
end Go.Proofs.YtlkklcbjjompbaaDoor.walk
namespace Go.Proofs.YtlkklcbjjompbaaDoor.walk
open Go Go.Sh
set_option maxRecDepth 100000
set_option linter.unusedSimpArgs false
theorem weigh_bnd {b:CBox} {L V:List Sp} {l:List CRead} (hb:boxB b=true) (hL:LosW (losL L)) (hR:ReadOk l) (hlen:L.length≤14) (h:weighF b L l=some V):BndW V:=by
 have hW:(iniW b L l).length=16:=by simp [iniW]
 have hN:(losL L).length=L.length + 1:=by simp
 have hwb:BndW (iniW b L l):=mkW_bnd fun k=>iniF_bnd hb hR _ _ k
 unfold weighF at h
 rw [hN] at h
 -- each pass keeps bounds
 have key:∀ (f:Nat) (W U:List Sp),W.length=16→BndW W→narW (losL L) (L.length + 1) f W=some U→BndW U:=by
  intro f
  induction f with
  | zero=>intro W U _ hw h; cases h; exact hw
  | succ f ih =>
   intro W U hl hw h
   simp only [narW] at h
   cases hp:passW (losL L) (L.length + 1) W with
   | none=>rw [hp] at h; cases h
   | some V' =>
    rw [hp] at h
    have h1:=pass_bnd hw hL hp (by omega)
    have h2:=(passW_fn hp (by omega)).2
    simp only at h
    split at h
    ·cases h; exact h1
    ·exact ih V' U (by omega) h1 h
 exact key 40 _ V hW hwb h
end Go.Proofs.YtlkklcbjjompbaaDoor.walk
namespace Go.Proofs.YtlkklcbjjompbaaDoor.walk
open Go Go.Sh
set_option maxRecDepth 100000
set_option linter.unusedSimpArgs false
theorem gtS_map {α:Type} (f:α→Sp) (l:List α) (k:Nat):gtS (l.map f) k=match l[k]? with | some a=>f a | none=>(0,0):=by
 unfold gtS
 rw [List.getD_eq_getElem?_getD,List.getElem?_map]
 cases l[k]? <;> rfl
theorem los_ok {r:List CAct} {d:List CDay} {b:CBox} {acts:List Int} (h:actE r d b acts=0):LosW (losL (lossL r acts)):=by
 obtain ⟨hR,hD,hB,s,hs⟩:=act_ofE h
 have ha:=stg_acts _ _ _ hs
 intro k
 by_cases h1:k < (lossL r acts).length
 ·have e:gtS (losL (lossL r acts)) k=gtS (lossL r acts) k:=by
   unfold gtS losL
   rw [List.getD_eq_getElem?_getD,List.getD_eq_getElem?_getD,List.getElem?_append_left h1]
  rw [e]
  unfold lossL
  rw [gtS_map]
  cases hk:acts[k]? with
  | none=>simp
  | some a =>
   obtain ⟨_,x,hx⟩:=ha a (List.mem_of_getElem? hk)
   simp only [hx]
   obtain ⟨_,_,q,_⟩:=act_of hR hx
   simp only [spanI,Bool.and_eq_true,decide_eq_true_eq] at q
   omega
 ·by_cases h2:k=(lossL r acts).length
  ·have e:gtS (losL (lossL r acts)) k=(0,1000000):=by
    refine gtS_of ?_
    unfold losL
    rw [h2,List.getElem?_append_right (Nat.le_refl _)]; simp
   rw [e]; simp
  ·have e:gtS (losL (lossL r acts)) k=(0,0):=by
    unfold gtS
    rw [List.getD_eq_getElem?_getD,List.getElem?_eq_none (by simp; omega)]; rfl
   rw [e]; simp
def rdB (n:Int) (p:CRead):Bool:=inI 0 p.day n && (inI 0 p.read 1010000 && inI 0 p.wrong 10000)
def rdsB (n:Int) (l:List CRead):Bool:=decide (l.length≤10) && l.all (rdB n)
def S89:PSpec where
 R args w v:=∃ (lv:Value) (l:List CRead) (n:Int),args=[lv,.int .i64 n]∧RowsV readC w lv l∧LimW w∧w.lim≤w.next∧v=.bool (rdsB n l)
 uniq:=by
  rintro _ _ _ _ ⟨_,l,n,rfl,h1,_,_,rfl⟩ ⟨_,l',n',h,k1,_,_,rfl⟩
  cases h
  rw [h1.uniq (m:=3) readC_length readC_inj k1]
 shut:=fun ⟨a1,a2,a3,h1,h2,h3,_,h4⟩=>⟨a1,a2,a3,h1,h2,h3,Nat.le_refl _,h4⟩
theorem run89 {ov:Ov} (ho:∀ args w,ov 89 args w=none) (h81:HasP ov 81 S81.F) (l:List CRead) (n:Int) (lv:Value) (w:AW) (hl:w.lim=w.next) (hL:LimW w) (hlv:RowsV readC w lv l):∃ x w',(run Tryd.prog ov 2).call 89 [lv,.int .i64 n] w .none=.ok (.ret x) w' .none∧x=.bool (rdsB n l):=by
 refine call_wp text89 (by simp) (ho _ _) ?_
 have hl1:=fun w2=>len42V (w':=w2) hlv
 by_cases h1:10 < l.length
 ·have h1':(10:Int) < (l.length:Int):=by omega
  have e:rdsB n l=false:=by unfold rdsB; rw [decide_eq_false (by omega)]; rfl
  simp [mc89,hl1,h1',h1,e,tupV]
 ·have h1':¬ (10:Int) < (l.length:Int):=by omega
  simp [mc89,hl1,h1',h1]
  refine wp_seqX (wp_blockX (wp_rounds (fun i t w'=>Up w w'∧w'.lim≤w'.next∧tget t 1=.int .i64 n∧tget t 10=lv∧tget t 11=.int .i64 (l.length:Nat)∧tget t 12=.int .i64 (i:Nat)∧i≤l.length∧(l.take i).all (rdB n)=true) 20 (by decide) ?_ ?_))
  ·exact ⟨Up.refl w,by omega,by simp,by simp,by simp,by simp,Nat.zero_le _,by simp⟩
  ·rintro i t w' ⟨hu,hle,t1,t10,t11,t12,hi,ha⟩
   by_cases hlt:i < l.length
   ·obtain ⟨p,hp⟩:∃ p,l[i]?=some p:=⟨_,List.getElem?_eq_getElem hlt⟩
    obtain ⟨b,off,sq,c,rfl,hra⟩:=hlv.at_ i hlt
    have hld:=hra.rd (m:=3) readC_length hp
    rw [← hu.at hra.2] at hld
    simp only [readC] at hld
    have hia:=fun w=>ia42 w ⟨b,off,sq⟩ l.length c .i64 i hlt
    have hwi:IntKind.wrap .i64 ((i:Int) + 1)=(i:Int) + 1:=wrap64_in (by omega) (by omega)
    have has:=all_take (p:=rdB n) hp
    have u1:Up w ⟨(w'.heap.put w'.next (some (.cells [.int .i64 0,.int .i64 0,.int .i64 0] 72 false))).put w'.next (some (.cells [.int .i64 p.day,.int .i64 p.read,.int .i64 p.wrong] 72 false)),w'.next + 1,w'.lim⟩:=(hu.add _).put hu.next (Nat.le_refl _)
    have L1:=hL.up u1
    have r81a:=S81.call1 (P:=Tryd.prog) h81 ⟨4,p.read,_,rfl,rfl,L1,rfl⟩
    have r81b:=S81.call1 (P:=Tryd.prog) h81 ⟨5,p.wrong,_,rfl,rfl,L1,rfl⟩
    have hbad:rdB n p=false→rdsB n l=false:=fun h=>by
     unfold rdsB; rw [all_bad hp h,Bool.and_false]
    by_cases k1:p.day < 0
    ·have e:=hbad (by unfold rdB inI; rw [decide_eq_false (by omega)]; rfl)
     simp [mc89_l0,t1,t10,t11,t12,hlt,hia,hld,hle,k1,e,tupV]
    ·by_cases k2:n < p.day
     ·have e:=hbad (by unfold rdB inI; rw [decide_eq_false (by omega:¬ p.day≤n)]; simp)
      simp [mc89_l0,t1,t10,t11,t12,hlt,hia,hld,hle,k1,k2,e,tupV]
     ·have k12:inI 0 p.day n=true:=by simp [inI]; omega
      cases k3:inI 0 p.read 1010000 with
      | false =>
       rw [k3] at r81a
       have e:=hbad (by unfold rdB; rw [k3]; simp)
       simp [mc89_l0,t1,t10,t11,t12,hlt,hia,hld,hle,k1,k2,r81a,e,tupV]
      | true =>
       rw [k3] at r81a
       cases k4:inI 0 p.wrong 10000 with
       | false =>
        rw [k4] at r81b
        have e:=hbad (by unfold rdB; rw [k4]; simp)
        simp [mc89_l0,t1,t10,t11,t12,hlt,hia,hld,hle,k1,k2,r81a,r81b,e,tupV]
       | true =>
        rw [k4] at r81b
        have e:rdB n p=true:=by unfold rdB; rw [k12,k3,k4]; rfl
        rw [ha,e] at has
        simp [mc89_l0,t1,t10,t11,t12,hlt,hia,hld,hle,k1,k2,r81a,r81b,hwi]
        exact ⟨by omega,u1,hlt,by simpa using has⟩
   ·have hi':i=l.length:=by omega
    subst hi'
    have e:rdsB n l=true:=by unfold rdsB; rw [all_full ha,decide_eq_true (by omega)]; rfl
    simp [mc89_l0,t11,t12,e,tupV]
def rdE (r:List CAct) (d:List CDay) (b:CBox) (acts:List Int) (l:List CRead):Int:=if actE r d b acts=0 then (if rdsB (acts.length:Nat) l=true then 0 else 64) else actE r d b acts
def S68:PSpec where
 R args w v:=∃ (rv dv av lv:Value) (r:List CAct) (d:List CDay) (b:CBox) (acts:List Int) (l:List CRead),args=[rv,dv,.agg ⟨boxC b⟩,av,lv]∧RowsV actC w rv r∧RowsV cdayC w dv d∧RowsV intC w av acts∧RowsV readC w lv l∧LimW w∧w.lim≤w.next∧v=.int .i64 (rdE r d b acts l)
 uniq:=by
  rintro _ _ _ _ ⟨_,_,_,_,r,d,⟨_,_,_,_⟩,acts,l,rfl,h1,h2,h3,h4,_,_,rfl⟩ ⟨_,_,_,_,r',d',⟨_,_,_,_⟩,acts',l',h,k1,k2,k3,k4,_,_,rfl⟩
  cases h
  rw [h1.uniq (m:=7) actC_length actC_inj k1,h2.uniq (m:=3) cdayC_length cdayC_inj k2,h3.uniq (m:=1) intC_length intC_inj k3,h4.uniq (m:=3) readC_length readC_inj k4]
 shut:=fun ⟨a1,a2,a3,a4,a5,a6,a7,a8,a9,h1,h2,h3,h4,h5,h6,_,h7⟩=>⟨a1,a2,a3,a4,a5,a6,a7,a8,a9,h1,h2,h3,h4,h5,h6,Nat.le_refl _,h7⟩
theorem run68 {ov:Ov} (ho:∀ args w,ov 68 args w=none) (h56:HasP ov 56 S56.F) (h89:HasP ov 89 S89.F) (r:List CAct) (d:List CDay) (b:CBox) (acts:List Int) (l:List CRead) (rv dv av lv:Value) (w:AW) (hl:w.lim=w.next) (hL:LimW w) (hrv:RowsV actC w rv r) (hdv:RowsV cdayC w dv d) (hav:RowsV intC w av acts) (hlv:RowsV readC w lv l):∃ x w',(run Tryd.prog ov 2).call 68 [rv,dv,.agg ⟨boxC b⟩,av,lv] w .none=.ok (.ret x) w' .none∧x=.int .i64 (rdE r d b acts l):=by
 refine call_wp text68 (by simp) (ho _ _) ?_
 have u1:Up w ⟨w.heap.put w.next (some (.cells [.int .i64 b.wl,.int .i64 b.wh,.int .i64 b.sl,.int .i64 b.sh] 27 false)),w.next + 1,w.lim⟩:=(Up.refl w).add _
 have hl3:=fun w2=>len28V (w':=w2) hav
 have r56:=S56.call1 (P:=Tryd.prog) h56 ⟨rv,dv,av,r,d,b,acts,rfl,hrv.up u1,hdv.up u1,hav.up u1,hL.up u1,by show w.lim≤w.next + 1; omega,rfl⟩
 have r89:=S89.call1 (P:=Tryd.prog) h89 ⟨lv,l,(acts.length:Nat),rfl,hlv.up u1,hL.up u1,by show w.lim≤w.next + 1; omega,rfl⟩
 simp only [boxC] at r56 ⊢
 by_cases hA:actE r d b acts=0
 ·rw [hA] at r56
  cases hB:rdsB (acts.length:Nat) l <;> rw [hB] at r89 <;> simp [mc68,cellsOf_agg,r56,hl3,r89,rdE,hA,hB,tupV]
 ·simp [mc68,cellsOf_agg,r56,rdE,hA,tupV]
end Go.Proofs.YtlkklcbjjompbaaDoor.walk
namespace Go.Proofs.YtlkklcbjjompbaaDoor.walk
open Go Go.Sh
set_option maxRecDepth 100000
set_option linter.unusedSimpArgs false
theorem arr104:arrN Tryd.prog 104=some (16,25):=by kernel_rfl
theorem sl104 (w:AW) (B k:Nat) (hk:k≤16):sliceA Tryd.prog w 104 (.pointer (some ⟨B,0,none⟩)) none (some (.int .i64 (k:Int))) none=.val (.slice (some ⟨B,0,some 1⟩) k 16) w:=by
 show sliceA Tryd.prog w 104 (.pointer (some ⟨B,0,none⟩)) none (some (.int .i64 (Int.ofNat k))) none=_
 have hb':Nat.ble k 16=true:=Nat.ble_eq_true_of_le hk
 simp [sliceA,sliceB1,arr104,sz25,sliceArr,boundA,hb']
@[simp] theorem eqn43s (B n c:Nat) (w:AW):(binW Tryd.prog .eql 43 true).val (.slice (some ⟨B,0,some 1⟩) n c) (.slice none 0 0) w=.val (.bool false) w:=by kernel_rfl
theorem take_flat (V:List Sp) (n:Nat) (hn:n≤V.length):(V.flatMap spC).take (n * 2)=(V.take n).flatMap spC:=by
 have e:V.flatMap spC=(V.take n).flatMap spC++(V.drop n).flatMap spC:=by rw [← List.flatMap_append,List.take_append_drop]
 have hl:((V.take n).flatMap spC).length=n * 2:=by rw [flat_length spC_length,List.length_take,Nat.min_eq_left hn]
 rw [e,List.take_left' hl]
theorem call63s {ov:Ov} (m:Nat) (ho:∀ args w,ov 63 args w=none) (V:List Sp) (n c:Nat) (hn0:0 < n) (hn:n≤V.length) (hn16:n≤16) (B0:Nat) (we:AW) (hlim:we.lim≤we.next) (hB:we.heap.get B0=some (.cells (V.flatMap spC) 104 false)) (hb:B0 < we.next) :
  ∃ v w',(run Tryd.prog ov (m + 1)).call 63 [.slice (some ⟨B0,0,some 1⟩) n c] we .none=.ok (.ret v) w' .none∧ProcV w' v (V.take n)∧Up we w':=by
 refine call_wp text63 (by simp) (ho _ _) ?_
 have nj:∀ (a:Addr) n c,notJunk (.slice (some a) n c)=some (.slice (some a) n c):=fun _ _ _=>rfl
 have hl:((V.take n).flatMap spC).length=n * 2:=by rw [flat_length spC_length,List.length_take,Nat.min_eq_left hn]
 have hVl:(V.flatMap spC).length=V.length * 2:=flat_length spC_length V
 have hsrc:srcCells ⟨we.heap.put we.next (some (.cells [] 25 false)),we.next + 1,we.lim⟩ 2 (.slice (some ⟨B0,0,some 1⟩) n c)=some ((V.take n).flatMap spC):=by
  have e1:Nat.beq (n * 2) 0=false:=by rw [← Bool.not_eq_true]; intro h; have:=Nat.eq_of_beq_eq_true h; omega
  show (bif Nat.beq (n * 2) 0 then some [] else rd _ B0 0 (n * 2))=_
  rw [e1,cond_false,rd_eq]
  show rdO ((we.heap.put we.next _).get B0) 0 (n * 2)=_
  rw [get_put,if_neg (by omega),hB,rdO_cells,if_pos (by omega),List.drop_zero,take_flat V n hn]
 have hap:=append_full (P:=Tryd.prog) list43 elem43 sz25 small25 (w:=⟨we.heap.put we.next (some (.cells [] 25 false)),we.next + 1,we.lim⟩) (B:=we.next) (n:=0) (m:=n) (c:=[]) (new:=(V.take n).flatMap spC) (x:=.slice (some ⟨B0,0,some 1⟩) n c) rfl hsrc hl (flat_singles (fun _=>rfl) _) hn0 (by omega) (by simp) (by simp) hlim
 simp only [Nat.zero_add,List.nil_append] at hap
 simp [mc63,hap,nj,tupV]
 refine ⟨⟨we.next + 1,by rw [List.length_take,Nat.min_eq_left hn],by simp,Nat.lt_succ_self _⟩,(((Up.refl we).add _).put (Nat.le_refl _) (Nat.le_refl _)).put (Nat.le_succ _) (Nat.le_succ _)⟩
def weiE (r:List CAct) (d:List CDay) (b:CBox) (acts:List Int) (l:List CRead):Int:=if rdE r d b acts l=0 then (match weighF b (lossL r acts) l with | some _=>0 | none=>65) else rdE r d b acts l
theorem rds_ok {n:Int} {l:List CRead} (h:rdsB n l=true):l.length≤10∧ReadOk l:=by
 simp only [rdsB,Bool.and_eq_true,decide_eq_true_eq] at h
 refine ⟨h.1,fun p hp=>?_⟩
 have:=List.all_eq_true.1 h.2 p hp
 simp only [rdB,inI,Bool.and_eq_true,decide_eq_true_eq] at this
 omega
theorem rdE_ok {r:List CAct} {d:List CDay} {b:CBox} {acts:List Int} {l:List CRead} (h:rdE r d b acts l=0):actE r d b acts=0∧rdsB (acts.length:Nat) l=true:=by
 unfold rdE at h
 by_cases hA:actE r d b acts=0
 ·rw [if_pos hA] at h
  cases hB:rdsB (acts.length:Nat) l with
  | true=>exact ⟨hA,rfl⟩
  | false=>rw [hB] at h; simp at h
 ·rw [if_neg hA] at h; exact absurd h hA
def pzC:List Value:=[.int .i64 0,.int .i64 0,.int .i64 0,.int .i64 0,.slice none 0 0]
set_option maxHeartbeats 1000000 in
theorem call62 {ov:Ov} (m:Nat) (ho:∀ args w,ov 62 args w=none) (ho57:∀ args w,ov 57 args w=none) (h68:HasP ov 68 S68.F) (h86:HasP ov 86 S86.F) (r:List CAct) (d:List CDay) (b:CBox) (acts:List Int) (l:List CRead) (rv dv av lv:Value) (we:AW) (hlim:we.lim≤we.next) (hL:LimW we) (hrv:RowsV actC we rv r) (hdv:RowsV cdayC we dv d) (hav:RowsV intC we av acts) (hlv:RowsV readC we lv l) :
  ∃ v w',(run Tryd.prog ov (m + 2)).call 62 [rv,dv,.agg ⟨boxC b⟩,av,lv] we .none=.ok (.ret v) w' .none∧((weiE r d b acts l ≠ 0∧v=.tuple ⟨[.agg ⟨pzC⟩,.agg ⟨zerC⟩,.int .i64 (weiE r d b acts l)]⟩)∨(weiE r d b acts l=0∧∃ pv V,weighF b (lossL r acts) l=some V∧v=.tuple ⟨[.agg ⟨procC b pv⟩,.agg ⟨V.flatMap spC⟩,.int .i64 0]⟩∧ProcV w' pv (lossL r acts)))∧Up we w':=by
 refine call_wp text62 (by simp) (ho _ _) ?_
 have hz:zerC.length=32:=rfl
 have hzt:zerC.take 32=zerC:=rfl
 have hzd:zerC.drop 32=[]:=rfl
 have hzs:singles zerC=true:=rfl
 have lw0:we.lim≤we.next + 1:=by omega
 have lw1:we.lim≤we.next + 1 + 1:=by omega
 have lw2:we.lim≤we.next + 1 + 1 + 1:=by omega
 obtain ⟨w1,hw1e⟩:∃ w1:AW,w1=⟨((we.heap.put we.next (some (.cells [.int .i64 b.wl,.int .i64 b.wh,.int .i64 b.sl,.int .i64 b.sh] 27 false))).put (we.next + 1) (some (.cells pzC 97 false))).put (we.next + 1 + 1) (some (.cells zerC 104 false)),we.next + 1 + 1 + 1,we.lim⟩:=⟨_,rfl⟩
 have u1:Up we w1:=by rw [hw1e]; exact (((Up.refl we).add _).put (Nat.le_succ _) (Nat.le_succ _)).put (by show we.next≤we.next + 1 + 1; omega) (Nat.le_succ _)
 have n1:w1.next=we.next + 1 + 1 + 1:=by rw [hw1e]
 have l1:w1.lim=we.lim:=u1.lim
 have r68:=S68.call (P:=Tryd.prog) h68 (m:=m) ⟨rv,dv,av,lv,r,d,b,acts,l,rfl,hrv.up u1,hdv.up u1,hav.up u1,hlv.up u1,hL.up u1,by omega,rfl⟩
 have epz:([.int .i64 0,.int .i64 0,.int .i64 0,.int .i64 0,.slice none 0 0]:List Value)=pzC:=rfl
 have hp1:pzC.length=5:=rfl
 have hpt:pzC.take 5=pzC:=rfl
 have hpd:pzC.drop 5=[]:=rfl
 have hps:singles pzC=true:=rfl
 simp only [boxC] at r68 ⊢
 by_cases hE:rdE r d b acts l=0
 case neg =>
  have e:weiE r d b acts l=rdE r d b acts l:=by unfold weiE; rw [if_neg hE]
  rw [hw1e] at r68
  simp [mc62,cellsOf_agg,ez,epz,r68,hE,lw0,lw1,hz,hzt,hzd,hzs,hp1,hpt,hpd,hps,tupV,e]
  rw [hw1e] at u1
  exact (u1.put (by omega) (Nat.le_refl _)).put (by omega) (Nat.le_refl _)
 obtain ⟨hA,hRd⟩:=rdE_ok hE
 obtain ⟨h10,hRok⟩:=rds_ok hRd
 obtain ⟨hT,h14,hact⟩:=tru_ok hA
 have hLl:(lossL r acts).length=acts.length:=by simp [lossL]
 obtain ⟨_,w2,c57,pv,rfl,hproc,u2⟩:=call57 (ov:=ov) m ho57 r acts hact h14 b rv av w1 (by omega) (hrv.up u1) (hav.up u1)
 have hn2:=u2.next
 have hl2:=u2.lim
 obtain ⟨w3,hw3e⟩:∃ w3:AW,w3=⟨(w2.heap.put w2.next (some (.cells pzC 97 false))).put w2.next (some (.cells (procC b pv) 97 false)),w2.next + 1,w2.lim⟩:=⟨_,rfl⟩
 have u3:Up w2 w3:=by rw [hw3e]; exact ((Up.refl w2).add _).put (Nat.le_refl _) (Nat.le_refl _)
 have n3:w3.next=w2.next + 1:=by rw [hw3e]
 have u13:=(u1.trans u2).trans u3
 have r86:=S86.call (P:=Tryd.prog) h86 (m:=m) (w:=w3) ⟨b,pv,lv,lossL r acts,l,rfl,hproc.up u3,by omega,los_ok hA,hT.box,hlv.up u13,h10,hRok,hL.up u13,by have:=u3.lim; omega,rfl⟩
 have lw22:w2.lim≤w2.next:=by omega
 have c1:w2.heap.get (we.next + 1)=some (.cells pzC 97 false):=by rw [u2.at (by omega),hw1e]; simp
 have c11:w2.heap.get (we.next + 1 + 1)=some (.cells zerC 104 false):=by rw [u2.at (by omega),hw1e]; simp
 obtain ⟨B,hpe,hB1,hB2⟩:=id hproc
 have sp1:=same_proc b (some ⟨B,0,none⟩) (lossL r acts).length (lossL r acts).length
 have ps1:singles (procC b (.slice (some ⟨B,0,none⟩) (lossL r acts).length (lossL r acts).length))=true:=rfl
 rw [← hpe] at sp1 ps1
 have d1:¬ we.next + 1=w2.next:=by omega
 have d2:¬ we.next + 1 + 1=w2.next:=by omega
 have d1':¬ we.next + 1=w2.next + 1:=by omega
 have d2':¬ we.next + 1 + 1=w2.next + 1:=by omega
 have d1'':¬ we.next=w2.next:=by omega
 have m1:¬ w2.next=we.next + 1:=by omega
 have m2:¬ w2.next=we.next + 1 + 1:=by omega
 have m3:¬ w2.next + 1=we.next + 1:=by omega
 have m4:¬ w2.next=we.next:=by omega
 have lim1:w2.lim≤we.next + 1:=by omega
 have lim2:w2.lim≤we.next + 1 + 1:=by omega
 have lim3:w2.lim≤w2.next + 1:=by omega
 rw [hw1e] at r68 c57
 rw [hE] at r68
 rw [hw3e] at r86
 simp only [boxC] at c57
 obtain ⟨pcs,hpcs⟩:∃ pcs,pcs=procC b pv:=⟨_,rfl⟩
 have hpl:pcs.length=5:=by rw [hpcs]; rfl
 have hpt':pcs.take 5=pcs:=List.take_of_length_le (by omega)
 rw [← hpcs] at sp1 ps1 r86 c57
 cases hN:weighF b (lossL r acts) l with
 | none =>
  have e:weiE r d b acts l=65:=by unfold weiE; rw [if_pos hE,hN]
  rw [hN] at r86
  simp only [narR] at r86
  simp [mc62,cellsOf_agg,ez,epz,r68,c57,hp1,hpt,hpd,hps,hpl,hpt',ps1,sp1,lw22,r86,hz,hzt,hzd,hzs,d1,d2,d1',d2',d1'',m1,m2,m3,m4,lim1,lim2,lim3,c1,c11,e,tupV]
  exact ((((((u1.trans u2).add _).put (by omega) (Nat.le_refl _)).put (by omega) (Nat.le_succ _)).put (by omega) (Nat.le_refl _)).put (by omega) (Nat.le_refl _)).put (by omega) (Nat.le_refl _)
 | some V =>
  have e:weiE r d b acts l=0:=by unfold weiE; rw [if_pos hE,hN]
  have hV16:V.length=16:=by
   have:=narW_length (by simp; omega) hN
   rw [this]; simp
  have hVl:=row_len hV16
  have hVt:(V.flatMap spC).take 32=V.flatMap spC:=List.take_of_length_le (by omega)
  have hVs:=row_sing V
  have hVv:=same_rowV V
  rw [hN] at r86
  simp only [narR] at r86
  generalize hcs:V.flatMap spC=cs at r86 hVl hVt hVs hVv
  simp [mc62,cellsOf_agg,ez,epz,r68,c57,hp1,hpt,hpd,hps,hpl,hpt',ps1,sp1,lw22,r86,hz,hzt,hzd,hzs,d1,d2,d1',d2',d1'',m1,m2,m3,m4,lim1,lim2,lim3,c1,c11,hVl,hVt,hVs,hVv,e,tupV]
  have b1:B ≠ we.next + 1:=fun h=>by rw [h,c1] at hB1; simp at hB1
  have b2:B ≠ we.next + 1 + 1:=fun h=>by rw [h,c11] at hB1; simp at hB1
  refine ⟨⟨pv,⟨hpcs,hcs.symm⟩,B,hpe,?_,by show B < w2.next + 1 + 1; omega⟩,((((((u1.trans u2).add _).put (by omega) (Nat.le_refl _)).put (by omega) (Nat.le_succ _)).put (by omega) (Nat.le_refl _)).put (by omega) (Nat.le_refl _)).put (by omega) (Nat.le_refl _)⟩
  show ((((((w2.heap.put _ _).put _ _).put _ _).put _ _).put _ _).put _ _).get B=_
  rw [get_put,if_neg b2,get_put,if_neg b1,get_put,if_neg (by omega),get_put,if_neg (by omega),get_put,if_neg (by omega),get_put,if_neg (by omega)]
  exact hB1
set_option maxHeartbeats 1000000 in
theorem call20 {ov:Ov} (m:Nat) (ho:∀ args w,ov 20 args w=none) (ho57:∀ args w,ov 57 args w=none) (ho62:∀ args w,ov 62 args w=none) (ho63:∀ args w,ov 63 args w=none) (h64:HasP ov 64 S64.F) (h68:HasP ov 68 S68.F) (h86:HasP ov 86 S86.F) (r:List CAct) (d:List CDay) (b:CBox) (acts:List Int) (l:List CRead) (rv dv av lv:Value) (we:AW) (hlim:we.lim≤we.next) (hL:LimW we) (hrv:RowsV actC we rv r) (hdv:RowsV cdayC we dv d) (hav:RowsV intC we av acts) (hlv:RowsV readC we lv l) :
  ∃ v w',(run Tryd.prog ov (m + 3)).call 20 [rv,dv,.agg ⟨boxC b⟩,av,lv] we .none=.ok (.ret v) w' .none∧(∃ v1,v=.tuple ⟨[v1,.int .i64 (weiE r d b acts l)]⟩∧(weiE r d b acts l ≠ 0→v1=.slice none 0 0)∧(weiE r d b acts l=0→∃ V,weighF b (lossL r acts) l=some V∧ProcV w' v1 (V.take ((lossL r acts).length + 1))))∧Up we w':=by
 refine call_wp text20 (by simp) (ho _ _) ?_
 have hz:zerC.length=32:=rfl
 have hzt:zerC.take 32=zerC:=rfl
 have hzd:zerC.drop 32=[]:=rfl
 have hzs:singles zerC=true:=rfl
 have epz:([.int .i64 0,.int .i64 0,.int .i64 0,.int .i64 0,.slice none 0 0]:List Value)=pzC:=rfl
 have hp1:pzC.length=5:=rfl
 have hpd:pzC.drop 5=[]:=rfl
 have hps:singles pzC=true:=rfl
 have nn:notJunk (.slice none 0 0)=some (.slice none 0 0):=rfl
 obtain ⟨w1,hw1e⟩:∃ w1:AW,w1=⟨we.heap.put we.next (some (.cells [.int .i64 b.wl,.int .i64 b.wh,.int .i64 b.sl,.int .i64 b.sh] 27 false)),we.next + 1,we.lim⟩:=⟨_,rfl⟩
 have u1:Up we w1:=by rw [hw1e]; exact (Up.refl we).add _
 have n1:w1.next=we.next + 1:=by rw [hw1e]
 have l1:w1.lim=we.lim:=u1.lim
 obtain ⟨v62,w2,c62,hv,u2⟩:=call62 (ov:=ov) m ho62 ho57 h68 h86 r d b acts l rv dv av lv w1 (by omega) (hL.up u1) (hrv.up u1) (hdv.up u1) (hav.up u1) (hlv.up u1)
 have hn2:=u2.next
 have hl2:=u2.lim
 have lw2:w2.lim≤w2.next:=by omega
 have lw21:w2.lim≤w2.next + 1:=by omega
 rw [hw1e] at c62
 simp only [boxC] at c62 ⊢
 rcases hv with ⟨hne,rfl⟩ | ⟨he,pv,V,hN,rfl,hproc⟩
 ·simp [mc20,cellsOf_agg,ez,epz,c62,lw2,lw21,hz,hzt,hzd,hzs,hp1,hpd,hps,hne,nn,tupV]
  exact (((((u1.trans u2).add _).put (by omega) (Nat.le_succ _)).put (by omega) (Nat.le_refl _)).put (by omega) (Nat.le_refl _))
 ·obtain ⟨B,hpe,hB1,hB2⟩:=id hproc
  have hA:actE r d b acts=0:=by
   have h1:rdE r d b acts l=0:=by
    unfold weiE at he
    by_cases hE:rdE r d b acts l=0
    ·exact hE
    ·rw [if_neg hE] at he; exact absurd he hE
   exact (rdE_ok h1).1
  obtain ⟨hT,h14,hact⟩:=tru_ok hA
  have hLl:(lossL r acts).length=acts.length:=by simp [lossL]
  have r64:=fun w=>S64.call (P:=Tryd.prog) h64 (m:=m + 1) (w:=w) ⟨b,some ⟨B,0,none⟩,(lossL r acts).length,(lossL r acts).length,rfl,by omega,rfl⟩
  rw [← hpe] at r64
  have hV16:V.length=16:=by
   have:=narW_length (by simp; omega) hN
   rw [this]; simp
  have hVl:=row_len hV16
  have hVt:(V.flatMap spC).take 32=V.flatMap spC:=List.take_of_length_le (by omega)
  have hVs:=row_sing V
  obtain ⟨pcs,hpcs⟩:∃ pcs,pcs=procC b pv:=⟨_,rfl⟩
  have hpl:pcs.length=5:=by rw [hpcs]; rfl
  have hpt':pcs.take 5=pcs:=List.take_of_length_le (by omega)
  have ps1:singles pcs=true:=by rw [hpcs,hpe]; rfl
  rw [← hpcs] at c62 r64
  obtain ⟨w3,hw3e⟩:∃ w3:AW,w3=⟨(((w2.heap.put w2.next (some (.cells pzC 97 false))).put (w2.next + 1) (some (.cells zerC 104 false))).put w2.next (some (.cells pcs 97 false))).put (w2.next + 1) (some (.cells (V.flatMap spC) 104 false)),w2.next + 1 + 1,w2.lim⟩:=⟨_,rfl⟩
  have u3:Up w2 w3:=by rw [hw3e]; exact ((((Up.refl w2).add _).put (Nat.le_succ _) (Nat.le_succ _)).put (Nat.le_refl _) (Nat.le_refl _)).put (Nat.le_succ _) (Nat.le_refl _)
  have g3:w3.heap.get (w2.next + 1)=some (.cells (V.flatMap spC) 104 false):=by rw [hw3e]; simp
  have n3:w3.next=w2.next + 1 + 1:=by rw [hw3e]
  obtain ⟨v63,w4,c63,hpr,u4⟩:=call63s (ov:=ov) (m + 1) ho63 V ((lossL r acts).length + 1) 16 (by omega) (by omega) (by omega) (w2.next + 1) w3 (by have:=u3.lim; omega) g3 (by omega)
  have hsl:=fun w=>sl104 w (w2.next + 1) ((lossL r acts).length + 1) (by omega)
  rw [show (((lossL r acts).length + 1:Nat):Int)=((lossL r acts).length:Int) + 1 by omega] at hsl
  rw [hw3e] at c63
  obtain ⟨B4,hv4,_,_⟩:=id hpr
  have nj:notJunk v63=some v63:=by rw [hv4]; rfl
  rw [he,hN]
  generalize hcs:V.flatMap spC=cs at c62 c63 hVl hVt hVs
  simp [mc20,cellsOf_agg,ez,epz,c62,lw2,lw21,hz,hzt,hzd,hzs,hp1,hpd,hps,hpl,hpt',ps1,hVl,hVt,hVs,r64,hsl,c63,nj,tupV]
  exact ⟨hpr,((u1.trans u2).trans u3).trans u4⟩
end Go.Proofs.YtlkklcbjjompbaaDoor.walk
