/- Part of a proof by a machine of ones own: see the text with the theorem. -/
import Derived.Test.YtmemdglkkgmjnaaDoorCWh
import Derived.Test.YtmemdglkkgmjnaaDoorCWg
namespace Go.Proofs.YtmemdglkkgmjnaaDoor.walk
open Go Go.Sh
set_option maxRecDepth 100000
set_option linter.unusedSimpArgs false
theorem fold_in:∀ {l:List CRead} {s:Sp} {x:Int},inn x (foldR l s)→inn x s∧∀ p ∈ l,inn x (readS p)
 | [],_,_,h=>⟨h,fun p hp=>by simp at hp⟩
 | q::l,s,x,h=>by
  obtain ⟨h1,h2⟩:=fold_in (l:=l) (s:=bothS s (readS q)) h
  unfold inn bothS at h1
  simp only at h1
  refine ⟨by unfold inn; omega,fun p hp=>?_⟩
  rcases List.mem_cons.1 hp with rfl | hp
  ·unfold inn; omega
  ·exact h2 p hp
theorem iniW_at {b:CBox} {L:List Sp} {l:List CRead} (hlen:L.length≤14) {k:Nat} (hk:k≤L.length + 1):gtS (iniW b L l) k=iniF b L.length l (L.length + 1) k:=mkW_at _ (by omega)
theorem all_dif {L:List Sp} {x:Nat→Int} (h:∀ i,i < L.length→inn (x i - x (i + 1)) (gtS L i)):allIn (difL L.length x) L=true:=by
 suffices H:∀ (L:List Sp) (ls:List Int),ls.length=L.length→(∀ i y,ls[i]?=some y→inn y (gtS L i))→allIn ls L=true by
  refine H L _ (by simp) fun i y hy=>?_
  have hi:i < L.length:=by simpa using (List.getElem?_eq_some_iff.1 hy).1
  rw [difL_at hi] at hy
  cases hy
  exact h i hi
 intro L
 induction L with
 | nil=>intro ls hl _; cases ls with
  | nil=>rfl
  | cons a t=>simp at hl
 | cons s L ih =>
  intro ls hl hs
  cases ls with
  | nil=>simp at hl
  | cons a t =>
   show (inI s.1 a s.2 && allIn t L)=true
   have h0:=hs 0 a rfl
   rw [gtS_of (s:=s) rfl] at h0
   rw [ih t (by simpa using hl) fun i y hy=>?_]
   ·unfold inn at h0
    simp only [inI,Bool.and_eq_true,decide_eq_true_eq]
    exact ⟨h0,trivial⟩
   ·have:=hs (i + 1) y (by simpa using hy)
    exact this
theorem sol_tru {b:CBox} {L:List Sp} {l:List CRead} (hb:boxB b=true) (hlen:L.length≤14) (hR:rdsB (L.length:Nat) l=true) {x:Nat→Int} (h:SolS (L.length + 1) (gtS (losL L)) (gtS (iniW b L l)) x):truB b L (x 0) (x (L.length + 1)) (difL L.length x)=true∧FitsR L.length x l∧(∀ k,k≤L.length→1≤x k∧x k≤1000000):=by
 have hbx:=hb
 simp only [boxB,spanI,Bool.and_eq_true,decide_eq_true_eq] at hbx
 have hat:∀ k,k≤L.length→inn (x k) (iniG b L.length k)∧∀ p ∈ onDay l k,inn (x k) (readS p):=fun k hk=>by
  have:=h.1 k (by omega)
  rw [iniW_at hlen (by omega)] at this
  unfold iniF at this
  rw [if_pos (by omega)] at this
  exact fold_in this
 have hN:=h.1 (L.length + 1) (Nat.le_refl _)
 rw [iniW_at hlen (Nat.le_refl _)] at hN
 unfold iniF iniG at hN
 rw [if_neg (by omega),if_pos rfl] at hN
 have h0:=(hat 0 (Nat.zero_le _)).1
 unfold iniG at h0
 rw [if_neg (by omega),if_pos rfl] at h0
 have hlast:=h.2 L.length (by omega)
 have e:gtS (losL L) L.length=(0,1000000):=by
  unfold gtS losL
  rw [List.getD_eq_getElem?_getD,List.getElem?_append_right (Nat.le_refl _),Nat.sub_self]; rfl
 rw [e] at hlast
 have hdif:∀ i,i < L.length→inn (x i - x (i + 1)) (gtS L i):=fun i hi=>by
  have:=h.2 i (by omega)
  rwa [los_at hi] at this
 unfold inn at h0 hN hlast
 simp only at h0 hN hlast
 refine ⟨?_,?_,fun k hk=>?_⟩
 ·simp only [truB,inI,Bool.and_eq_true,decide_eq_true_eq,difL_length,difL_sum]
  exact ⟨h0,hN,trivial,all_dif hdif,by omega⟩
 ·simp only [rdsB,Bool.and_eq_true,decide_eq_true_eq] at hR
  intro p hp
  have hpr:=List.all_eq_true.1 hR.2 p hp
  simp only [rdB,inI,Bool.and_eq_true,decide_eq_true_eq] at hpr
  have hd:=(hat p.day.toNat (by omega)).2 p (by
   unfold onDay
   exact List.mem_filter.2 ⟨hp,by simp; omega⟩)
  unfold inn readS at hd
  simp only at hd
  omega
 ·have h1:=(hat k hk).1
  unfold iniG at h1
  rw [if_neg (by omega)] at h1
  by_cases hk0:k=0
  ·rw [if_pos hk0] at h1
   unfold inn at h1
   simp only at h1
   omega
  ·rw [if_neg hk0,if_pos (by omega)] at h1
   exact h1
theorem chain_sol {L V:List Sp} (hL:LosW (losL L)) (hT:Tight (L.length + 1) (gtS (losL L)) (gtS V)) (hne:∀ k,k≤L.length + 1→(gtS V k).1≤(gtS V k).2) (hhi:∀ k,k≤L.length→(gtS V k).2≤1000000) {a:Nat} (ha:a≤L.length) {v:Int} (hv:inn v (gtS V a)) {sol:Int} (hsol:inn sol (gtS V (L.length + 1))) (h0:0≤sol) (hle:sol≤(gtS V L.length).1) :
  Tight L.length (gtS L) (gtS (V.take (L.length + 1)))∧(∃ x,(∀ k,k≤L.length→x k=chainS (gtS L) (gtS (V.take (L.length + 1))) a v k)∧x (L.length + 1)=sol∧x a=v∧SolS (L.length + 1) (gtS (losL L)) (gtS V) x):=by
 have hT':Tight L.length (gtS L) (gtS (V.take (L.length + 1))):=fun d hd=>by
  have:=hT d (by omega)
  rw [los_at hd] at this
  rw [gtS_take (by omega),gtS_take (by omega)]
  exact this
 refine ⟨hT',fun i=>if i=L.length + 1 then sol else chainS (gtS L) (gtS (V.take (L.length + 1))) a v i,fun k hk=>if_neg (by omega),if_pos rfl,?_,?_⟩
 ·show (if a=L.length + 1 then sol else _)=v
  rw [if_neg (by omega)]
  exact (chainS_sol hT' (fun i hi=>by rw [← los_at hi]; exact (hL i).2.1) (fun i hi=>by rw [gtS_take (by omega)]; exact hne i (by omega)) ha (by rw [gtS_take (by omega)]; exact hv)).2
 ·obtain ⟨c1,c2⟩:=(chainS_sol hT' (fun i hi=>by rw [← los_at hi]; exact (hL i).2.1) (fun i hi=>by rw [gtS_take (by omega)]; exact hne i (by omega)) ha (by rw [gtS_take (by omega)]; exact hv)).1
  refine ⟨fun i hi=>?_,fun i hi=>?_⟩
  ·by_cases e:i=L.length + 1
   ·simp only [e,if_true]; exact hsol
   ·simp only [if_neg e]
    have:=c1 i (by omega)
    rwa [gtS_take (by omega)] at this
  ·by_cases e:i=L.length
   ·subst e
    have e2:gtS (losL L) L.length=(0,1000000):=by
     unfold gtS losL
     rw [List.getD_eq_getElem?_getD,List.getElem?_append_right (Nat.le_refl _),Nat.sub_self]; rfl
    have:=c1 L.length (Nat.le_refl _)
    rw [gtS_take (by omega)] at this
    have hh:=hhi L.length (Nat.le_refl _)
    show inn ((if L.length=L.length + 1 then sol else _) - (if L.length + 1=L.length + 1 then sol else _)) _
    rw [e2,if_neg (by omega),if_pos rfl]
    unfold inn at this ⊢
    simp only
    omega
   ·have:=c2 i (by omega)
    show inn ((if i=L.length + 1 then sol else _) - (if i + 1=L.length + 1 then sol else _)) _
    rw [if_neg (by omega),if_neg (by omega),los_at (by omega)]
    exact this
theorem dry_box {b:CBox} {L V D:List Sp} {l:List CRead} (hb:boxB b=true) (hL:LosW (losL L)) (hlen:L.length≤14) (ok:WeiOk L V (iniW b L l)) (dok:DryOk L V D) :
  boxB { b with sl:=(gtS V (L.length + 1)).2,sh:=(gtS V (L.length + 1)).2 }=true∧∃ D',weighF { b with sl:=(gtS V (L.length + 1)).2,sh:=(gtS V (L.length + 1)).2 } L l=some D'∧∀ k,k≤L.length + 1→gtS D' k=gtS D k:=by
 obtain ⟨hi,hhi⟩:∃ hi,hi=(gtS V (L.length + 1)).2:=⟨_,rfl⟩
 obtain ⟨b',hb'⟩:∃ b':CBox,b'={ b with sl:=(gtS V (L.length + 1)).2,sh:=(gtS V (L.length + 1)).2 }:=⟨_,rfl⟩
 rw [← hb']
 have hne:=ok.good.ne (L.length + 1) (Nat.le_refl _)
 have hlo:=ok.lo
 have hup:=ok.hi (L.length + 1) (Nat.le_refl _)
 have hB':boxB b'=true:=by
  rw [hb']
  simp only [boxB,spanI,Bool.and_eq_true,decide_eq_true_eq] at hb ⊢
  omega
 have hI:∀ k,k≤L.length→gtS (iniW b' L l) k=gtS (iniW b L l) k:=fun k hk=>by
  rw [iniW_at hlen (by omega),iniW_at hlen (by omega)]
  unfold iniF iniG
  rw [if_neg (show ¬ k=L.length + 1 by omega),if_neg (show ¬ k=L.length + 1 by omega),hb']
 have hIN:gtS (iniW b' L l) (L.length + 1)=((gtS V (L.length + 1)).2,(gtS V (L.length + 1)).2):=by
  rw [iniW_at hlen (Nat.le_refl _)]
  unfold iniF iniG
  rw [if_neg (by omega),if_pos rfl,hb']
 have hsol:∀ x,SolS (L.length + 1) (gtS (losL L)) (dryS (L.length + 1) (gtS V)) x ↔ SolS (L.length + 1) (gtS (losL L)) (gtS (iniW b' L l)) x:=fun x=>by
  constructor
  ·intro h
   obtain ⟨h1,h2⟩:=sol_dry h hne
   have h3:=(ok.sol x).1 h1
   refine ⟨fun i hi=>?_,h3.2⟩
   by_cases e:i=L.length + 1
   ·subst e; rw [hIN]; unfold inn; simp only; omega
   ·rw [hI i (by omega)]; exact h3.1 i hi
  ·intro h
   have hN:=h.1 (L.length + 1) (Nat.le_refl _)
   rw [hIN] at hN
   unfold inn at hN
   simp only at hN
   -- the greatest that is no water lies in the box's span
   obtain ⟨y1,y2⟩:=ok.exact.low (los_le hL _) (Nat.le_refl (L.length + 1)) (v:=(gtS V (L.length + 1)).2) ⟨hne,Int.le_refl _⟩
   have y3:=y1.1 (L.length + 1) (Nat.le_refl _)
   rw [y2] at y3
   have h3:SolS (L.length + 1) (gtS (losL L)) (gtS (iniW b L l)) x:=⟨fun i hi=>by
    by_cases e:i=L.length + 1
    ·subst e
     rw [show x (L.length + 1)=(gtS V (L.length + 1)).2 by omega]; exact y3
    ·rw [← hI i (by omega)]; exact h.1 i hi,h.2⟩
   have h4:=(ok.sol x).2 h3
   refine ⟨fun i hi=>?_,h4.2⟩
   unfold dryS updS
   by_cases e:i=L.length + 1
   ·rw [if_pos e,e]; unfold inn; simp only; omega
   ·rw [if_neg e]; exact h4.1 i hi
 refine ⟨hB',?_⟩
 cases hD':weighF b' L l with
 | none =>
  exfalso
  obtain ⟨s1,_⟩:=dok.exact.low (los_le hL _) (Nat.zero_le _) (v:=(gtS D 0).1) ⟨Int.le_refl _,dok.good.ne 0 (Nat.zero_le _)⟩
  unfold weighF at hD'
  rw [losL_length] at hD'
  exact nar_none (by show L.length + 1 < (iniW b' L l).length; simp [iniW]; omega) hD' _ ((hsol _).1 s1)
 | some D' =>
  refine ⟨D',rfl,?_⟩
  have ok':=(weigh_ok hB' hL hlen hD').exact
  have hd:=dok.exact
  exact ExactS.uniq ⟨hd.tight,hd.ne,fun x=>(hd.sol x).trans (hsol x)⟩ ok' (los_le hL _)
end Go.Proofs.YtmemdglkkgmjnaaDoor.walk
namespace Go.Proofs.YtmemdglkkgmjnaaDoor.walk
open Go Go.Sh
set_option maxRecDepth 100000
set_option linter.unusedSimpArgs false
theorem ia63_0 (w:AW) (a:Addr):indexAddrA Tryd.prog w 63 (.pointer (some a)) (.int .i64 0)=.val (.pointer (some (a.add 0))) w:=by kernel_rfl
theorem ia63_1 (w:AW) (a:Addr):indexAddrA Tryd.prog w 63 (.pointer (some a)) (.int .i64 1)=.val (.pointer (some (a.add 1))) w:=by kernel_rfl
theorem mos_at {n:Nat} {x:Nat→Int} {sol:Int} {a:Nat} (h:a≤n):(mosL (x 0) sol (difL n x))[a]?=some (moI (x a) sol):=by
 unfold mosL
 rw [dif_wts,List.getElem?_map,rowN_at h]; rfl
theorem chain_can {ov:Ov} (ho16:∀ args w,ov 16 args w=none) (ho40:∀ args w,ov 40 args w=none) (ho41:∀ args w,ov 41 args w=none) (ho57:∀ args w,ov 57 args w=none) (ho59:∀ args w,ov 59 args w=none) (ho83:∀ args w,ov 83 args w=none) (h18:HasP ov 18 S18.F) (h39:HasP ov 39 S39.F) (h56:HasP ov 56 S56.F) (h58:HasP ov 58 S58.F) (h84:HasP ov 84 S84.F)
  (r:List CAct) (d:List CDay) (b:CBox) (acts:List Int) (hA:actE r d b acts=0) (l:List CRead) (hR:rdsB (acts.length:Nat) l=true) (V:List Sp) (hV16:V.length=16) (hT:Tight (acts.length + 1) (gtS (losL (lossL r acts))) (gtS V)) (hne:∀ k,k≤acts.length + 1→(gtS V k).1≤(gtS V k).2) (h1:∀ k,k≤acts.length + 1→1≤(gtS V k).1) (hhi:∀ k,k≤acts.length + 1→(gtS V k).2≤1000000) (sol:Int) (hsol:inn sol (gtS V (acts.length + 1))) (hle:sol≤(gtS V acts.length).1) (hini:∀ x,x (acts.length + 1)=sol→SolS (acts.length + 1) (gtS (losL (lossL r acts))) (gtS V) x→SolS (acts.length + 1) (gtS (losL (lossL r acts))) (gtS (iniW b (lossL r acts) l)) x) (a:Nat) (ha:a≤acts.length) (v:Int) (hv:inn v (gtS V a)) (b2:CBox) (rv dv av sv lv:Value) (we:AW) (hlim:we.lim≤we.next) (hL:LimW we) (hrv:RowsV actC we rv r) (hdv:RowsV cdayC we dv d) (hav:RowsV intC we av acts) (hsv:RowsV spC we sv (V.take (acts.length + 1))) (hlv:RowsV readC we lv l) :
  ∃ y w1,(run Tryd.prog ov 4).call 40 [.agg ⟨curC rv dv b2 av⟩,sv,.int .i64 (a:Nat),.int .i64 v] we .none=.ok (.ret (.tuple ⟨[y,.bool true]⟩)) w1 .none∧Up we w1∧∀ w2,Up w1 w2→w2.lim≤w2.next→∃ mv w3,(run Tryd.prog ov 4).call 41 [.agg ⟨curC rv dv b av⟩,y,.int .i64 sol,lv] w2 .none=.ok (.ret (.tuple ⟨[mv,.bool true]⟩)) w3 .none∧Up w2 w3∧∃ ms:List Int,RowsV intC w3 mv ms∧ms[a]?=some (moI v sol):=by
 have hT0:=tru_ok hA
 obtain ⟨_,h14,hact⟩:=hT0
 have hb:=(act_ofE hA).2.2.1
 have hlos:=los_ok hA
 have hLl:(lossL r acts).length=acts.length:=lossL_length r acts
 rw [← hLl] at hT hne h1 hhi hsol hle hini ha
 obtain ⟨hT',x,hx1,hx2,hx3,hx4⟩:=chain_sol hlos hT hne (fun k hk=>hhi k (by omega)) ha hv hsol (by have:=h1 _ (Nat.le_refl _); unfold inn at hsol; omega) hle
 obtain ⟨t1,t2,t3⟩:=sol_tru hb (by omega) (by rw [hLl]; exact hR) (hini x hx2 hx4)
 rw [hLl] at hT' hx1 hx2 t1 t2 t3 ha
 have hnb:=h1
 obtain ⟨y,w1,c40,⟨B,rfl,hB,hBn⟩,u1⟩:=call40 (ov:=ov) 2 ho40 r d b2 acts hact h14 (V.take (acts.length + 1)) (by rw [List.length_take]; omega) (fun k hk=>by
  rw [gtS_take (by omega)]
  have:=h1 k (by omega)
  have:=hne k (by omega)
  have:=hhi k (by omega)
  omega) (fun i hi=>by rw [← los_at (by omega)]; exact hlos i) (by rw [← hLl,hLl]; exact hT') a ha v (by rw [gtS_take (by omega)]; exact hv) rv dv av sv we hlim hrv hav hsv
 rw [rowN_congr (Z:=x) (fun k hk=>(hx1 k hk).symm)] at hB
 refine ⟨_,w1,c40,u1,fun w2 u2 hl2=>?_⟩
 have u12:=u1.trans u2
 obtain ⟨y,w3,c41,⟨mv,rfl,hmv⟩,u3⟩:=call41 (ov:=ov) 0 ho41 ho16 ho57 ho59 ho83 h18 h39 h56 h58 h84 r d b acts hA x (fun k hk=>by have:=t3 k hk; omega) sol (by rw [← hx2]; exact t1) l (rds_ok hR).1 t2 rv dv av lv w2 hl2 (hL.up u12) (hrv.up u12) (hdv.up u12) (hav.up u12) (hlv.up u12) B (Nat.lt_of_lt_of_le hBn u2.next) (by rw [u2.at hBn]; exact hB)
 exact ⟨mv,w3,c41,u3,_,hmv,by rw [mos_at ha,hx3]⟩
end Go.Proofs.YtmemdglkkgmjnaaDoor.walk
namespace Go.Proofs.YtmemdglkkgmjnaaDoor.walk
open Go Go.Sh
set_option maxRecDepth 100000
set_option linter.unusedSimpArgs false
theorem wei_at {r:List CAct} {d:List CDay} {b:CBox} {acts:List Int} {l:List CRead} (hA:actE r d b acts=0) (hR:rdsB (acts.length:Nat) l=true) {V:List Sp} (h:weighF b (lossL r acts) l=some V):weiE r d b acts l=0:=by
 have:rdE r d b acts l=0:=by unfold rdE; rw [if_pos hA,hR]; rfl
 unfold weiE
 rw [if_pos this,h]
set_option maxHeartbeats 8000000 in
theorem call7 {ov:Ov} (ho:∀ args w,ov 7 args w=none) (ho16:∀ args w,ov 16 args w=none) (ho20:∀ args w,ov 20 args w=none) (ho23:∀ args w,ov 23 args w=none) (ho25:∀ args w,ov 25 args w=none) (ho40:∀ args w,ov 40 args w=none) (ho41:∀ args w,ov 41 args w=none) (ho57:∀ args w,ov 57 args w=none) (ho59:∀ args w,ov 59 args w=none) (ho62:∀ args w,ov 62 args w=none) (ho63:∀ args w,ov 63 args w=none) (ho66:∀ args w,ov 66 args w=none) (ho83:∀ args w,ov 83 args w=none)
  (h18:HasP ov 18 S18.F) (h33:HasP ov 33 S33.F) (h36:HasP ov 36 S36.F) (h39:HasP ov 39 S39.F) (h42:HasP ov 42 S42.F) (h56:HasP ov 56 S56.F) (h58:HasP ov 58 S58.F) (h64:HasP ov 64 S64.F) (h68:HasP ov 68 S68.F) (h84:HasP ov 84 S84.F) (h86:HasP ov 86 S86.F) (h88:HasP ov 88 S88.F) (hW:HasW ov)
  (r:List CAct) (d:List CDay) (b:CBox) (acts:List Int) (l:List CRead) (n0 n1:Int) (rv dv av lv:Value) (w:AW) (hl:w.lim=w.next) (hL:LimW w) (hrv:RowsV actC w rv r) (hdv:RowsV cdayC w dv d) (hav:RowsV intC w av acts) (hlv:RowsV readC w lv l) :
  ∃ x w',(run Tryd.prog ov 5).call 7 [.agg ⟨curC rv dv b av⟩,lv,.agg ⟨[.int .i64 n0,.int .i64 n1]⟩] w .none=.ok (.ret x) w' .none∧x=.bool true:=by
 refine call_wp text7 (by simp) (ho _ _) ?_
 obtain ⟨pr,qr,rfl⟩:=hrv.len
 obtain ⟨pd,qd,rfl⟩:=hdv.len
 obtain ⟨pa,qa,rfl⟩:=hav.len
 obtain ⟨w1,hw1e⟩:∃ w1:AW,w1=⟨(w.heap.put w.next (some (.cells [.slice pr r.length qr,.slice pd d.length qd,.int .i64 b.wl,.int .i64 b.wh,.int .i64 b.sl,.int .i64 b.sh,.slice pa acts.length qa] 30 false))).put (w.next + 1) (some (.cells [.int .i64 n0,.int .i64 n1] 63 false)),w.next + 1 + 1,w.lim⟩:=⟨_,rfl⟩
 have u1:Up w w1:=by rw [hw1e]; exact ((Up.refl w).add _).put (Nat.le_succ _) (Nat.le_succ _)
 have m1:w1.next=w.next + 1 + 1:=by rw [hw1e]
 have l1:w1.lim=w.lim:=u1.lim
 have g3:w1.heap.get w.next=some (.cells [.slice pr r.length qr,.slice pd d.length qd,.int .i64 b.wl,.int .i64 b.wh,.int .i64 b.sl,.int .i64 b.sh,.slice pa acts.length qa] 30 false):=by rw [hw1e]; simp
 have g5:w1.heap.get (w.next + 1)=some (.cells [.int .i64 n0,.int .i64 n1] 63 false):=by rw [hw1e]; simp
 have rW:=fun (w:AW) hw=>ruleW hW 3 (w:=w) hw
 have r33:=S33.call (P:=Tryd.prog) h33 (m:=3) (w:=w1) ⟨_,_,_,r,d,b,acts,rfl,hrv.up u1,hdv.up u1,hav.up u1,hL.up u1,rfl⟩
 have rW1:=rW w1 (hL.up u1).1
 have hl42:=fun w2=>len42V (w':=w2) hlv
 simp only [curC,Nat.reduceAdd] at r33 rW1 ⊢
 by_cases hs:sndB r d acts=true
 case neg =>
  rw [hw1e] at r33 rW1
  simp [mc7,cellsOf_agg,r33,hs,rW1,hl42,tupV]
 rw [hs] at r33
 by_cases h10:l.length≤10
 case neg =>
  have h10':(10:Int) < (l.length:Int):=by omega
  rw [hw1e] at r33 rW1
  simp [mc7,cellsOf_agg,r33,rW1,hl42,h10',tupV]
 have h10':¬ (10:Int) < (l.length:Int):=by omega
 obtain ⟨v2,w2,c20,⟨x20,rfl,x20n,x20z⟩,u2⟩:=call20 (ov:=ov) 1 ho20 ho57 ho62 ho63 h64 h68 h86 r d b acts l _ _ _ _ w1 (by omega) (hL.up u1) (hrv.up u1) (hdv.up u1) (hav.up u1) (hlv.up u1)
 have u02:=u1.trans u2
 have hn2:=u02.next
 have hm2:=u02.lim
 obtain ⟨v3,w3,c25,⟨x25,rfl,x25n,x25z⟩,u3⟩:=call25 (ov:=ov) 1 ho25 ho57 ho62 ho66 h64 h68 h84 h86 h88 r d b acts l _ _ _ _ w2 (by omega) (hL.up u02) (hrv.up u02) (hdv.up u02) (hav.up u02) (hlv.up u02)
 have u03:=u02.trans u3
 have hn3:=u03.next
 have hm3:=u03.lim
 obtain ⟨v4,w4,c23,⟨s23,rfl,s23n,s23z⟩,u4⟩:=call23 (ov:=ov) 1 ho23 ho57 ho62 h64 h68 h86 r d b acts l _ _ _ _ w3 (by omega) (hL.up u03) (hrv.up u03) (hdv.up u03) (hav.up u03) (hlv.up u03)
 have u04:=u03.trans u4
 have hn4:=u04.next
 have hm4:=u04.lim
 have u14:=(u2.trans u3).trans u4
 have g23:w2.heap.get w.next=_:=(u2.at (by omega)).trans g3
 have g33:w3.heap.get w.next=_:=(u3.at (by have:=u2.next; omega)).trans g23
 have g43:w4.heap.get w.next=_:=(u14.at (by omega)).trans g3
 have g45:w4.heap.get (w.next + 1)=_:=(u14.at (by omega)).trans g5
 obtain ⟨w5,hw5e⟩:∃ w5:AW,w5=⟨(w4.heap.put w4.next (some (.cells [.int .i64 0,.int .i64 0] 25 false))).put w4.next (some (.cells [.int .i64 s23.1,.int .i64 s23.2] 25 false)),w4.next + 1,w4.lim⟩:=⟨_,rfl⟩
 have u5:Up w4 w5:=by rw [hw5e]; exact ((Up.refl w4).add _).put (Nat.le_refl _) (Nat.le_refl _)
 have u05:=u04.trans u5
 have m5:w5.next=w4.next + 1:=by rw [hw5e]
 have rW5:=rW w5 (hL.up u05).1
 have lw4:w4.lim≤w4.next:=by omega
 have n14:=u14.next
 have ea:¬ w.next=w4.next:=by omega
 have w00:IntKind.wrap .i64 0=0:=wrap64_in (by omega) (by omega)
 have eb:¬ w.next + 1=w4.next:=by omega
 simp only [boxC,spC,Nat.reduceAdd] at c20 c25 c23 rW5
 by_cases he:weiE r d b acts l=0
 case neg =>
  have e1:=x20n he
  have e2:=x25n he
  subst e1 e2
  rw [hw1e] at r33 c20
  rw [hw5e] at rW5
  simp [mc7,cellsOf_agg,r33,hl42,h10',c20,g23,c25,g33,c23,lw4,g43,ea,he,w00,rW5,tupV]
 obtain ⟨V,hV,BX,hx20,gX,lX⟩:=x20z he
 obtain ⟨V2,D,hV2,hD,BM,hx25,gM,lM⟩:=x25z he
 obtain ⟨V3,hV3,hs23⟩:=s23z he
 rw [hV] at hV2 hV3
 cases hV2
 cases hV3
 rw [he] at c20 c25 c23
 obtain ⟨hA,hRd,_⟩:=wei_zero he
 obtain ⟨hT,h14,hact⟩:=tru_ok hA
 have hLl:(lossL r acts).length=acts.length:=lossL_length r acts
 have hb:=(act_ofE hA).2.2.1
 have hlos:=los_ok hA
 have ok:=weigh_ok hb hlos (by omega) hV
 obtain ⟨D2,hD2,dok⟩:=dry_ok hlos (by omega) ok
 rw [hD] at hD2
 cases hD2
 have hV16:=ok.good.len
 have hD16:=dok.good.len
 rw [hLl] at hx20 gX hs23
 have tl:(V.take (acts.length + 1)).length=acts.length + 1:=by rw [List.length_take]; omega
 have ml:(moL (lossL r acts) V D).length=acts.length + 1:=by rw [moL_length,hLl]
 rw [tl] at hx20
 rw [ml] at hx25
 subst hx20 hx25
 have hl43:∀ (w:AW) p c,builtinA Tryd.prog w .len #[43] 3 [.slice p (acts.length + 1) c]=.val (.int .i64 ((acts.length + 1:Nat):Int)) w:=fun w p c=>rfl
 have hl28:=fun w2=>len28V (w':=w2) hav
 have hwl:IntKind.wrap .i64 ((acts.length:Int) + 1)=(acts.length:Int) + 1:=wrap64_in (by omega) (by omega)
 have hb0:=wrapI_bd (n:=n0) (s:=(acts.length:Int) + 1) (by omega)
 obtain ⟨a,haw⟩:∃ a:Nat,(a:Int)=wrapI n0 ((acts.length:Int) + 1):=⟨(wrapI n0 ((acts.length:Int) + 1)).toNat,by omega⟩
 have ha:a≤acts.length:=by omega
 have r36a:=fun w=>S36.call (P:=Tryd.prog) h36 (m:=3) (w:=w) ⟨n0,(acts.length:Int) + 1,rfl,by omega,rfl⟩
 have r36b:=fun w=>S36.call (P:=Tryd.prog) h36 (m:=3) (w:=w) ⟨n1,2,rfl,by omega,rfl⟩
 rw [← haw] at r36a
 simp only [Nat.reduceAdd] at r36a r36b
 have g53:w5.heap.get w.next=_:=(u5.at (by omega)).trans g43
 have g511:w5.heap.get w4.next=some (.cells [.int .i64 s23.1,.int .i64 s23.2] 25 false):=by rw [hw5e]; simp
 -- spans' ends
 have gX5:w5.heap.get BX=_:=((u3.trans (u4.trans u5)).at lX).trans gX
 have lX5:BX < w5.next:=Nat.lt_of_lt_of_le lX (u3.trans (u4.trans u5)).next
 have rX5:RowsA spC w5.heap w5.next BX 0 (V.take (acts.length + 1)):=⟨⟨[],[],25,false,by simpa using gX5,rfl⟩,lX5⟩
 have hsv5:RowsV spC w5 (.slice (some ⟨BX,0,none⟩) (acts.length + 1) (acts.length + 1)) (V.take (acts.length + 1)):=.inr ⟨BX,0,none,_,by rw [tl],rX5⟩
 have hXa:=gtS_at (W:=V.take (acts.length + 1)) (i:=a) (by omega)
 rw [gtS_take (by omega)] at hXa
 have x0:=rX5.rd1 spC_length hXa (j:=0) rfl
 have x1:=rX5.rd1 spC_length hXa (j:=1) rfl
 have lX4:BX < w4.next:=Nat.lt_of_lt_of_le lX (u3.trans u4).next
 have eBX:¬ BX=w4.next:=by omega
 rw [u5.at lX4] at x0 x1
 simp only [Nat.add_zero,Nat.zero_add] at x0 x1
 have hiX:=fun w=>ia43 w ⟨BX,0,none⟩ (acts.length + 1) (acts.length + 1) .i64 a (by omega)
 have hiM:=fun w=>ia43 w ⟨BM,0,none⟩ (acts.length + 1) (acts.length + 1) .i64 a (by omega)
 have gM5:w5.heap.get BM=_:=((u4.trans u5).at lM).trans gM
 have lM5:BM < w5.next:=Nat.lt_of_lt_of_le lM (u4.trans u5).next
 have rM5:RowsA spC w5.heap w5.next BM 0 (moL (lossL r acts) V D):=⟨⟨[],[],25,false,by simpa using gM5,rfl⟩,lM5⟩
 have hMa:=moL_at (L:=lossL r acts) (V:=V) (D:=D) (k:=a) (by omega)
 rw [hLl] at hMa
 have y0:=rM5.rd1 spC_length hMa (j:=0) rfl
 have y1:=rM5.rd1 spC_length hMa (j:=1) rfl
 simp only [Nat.add_zero,Nat.zero_add] at y0 y1
 have hends:=fun k hk=>ok.good.ends hlos (k:=k) hk
 have hne:=ok.good.ne
 have hlo:=ok.lo
 have hhi:=ok.hi
 have hsol:=ok.sol
 rw [hLl] at hends hne hlo hhi hsol
 have hT1:=ok.good.tight
 rw [hLl] at hT1
 have cc:=chain_can (ov:=ov) ho16 ho40 ho41 ho57 ho59 ho83 h18 h39 h56 h58 h84 r d b acts hA l hRd V hV16 hT1 hne (fun k hk=>by have:=hends k hk; omega) hhi
 have inN:=hne (acts.length + 1) (Nat.le_refl _)
 have ina:=hne a (by omega)
 have e36:=wrapI_bd (n:=n1) (s:=2) (by omega)
 by_cases h36:wrapI n1 2=1
 ·-- the greatest
  obtain ⟨yv,w6,c40,u6,k41⟩:=cc (gtS V (acts.length + 1)).1 ⟨Int.le_refl _,inN⟩ (hends acts.length (by omega)).1 (fun x _ h=>(hsol x).1 h) a ha (gtS V a).2 ⟨ina,Int.le_refl _⟩ b _ _ _ _ lv w5 (by have:=u05.lim; have:=u05.next; omega) (hL.up u05) (hrv.up u05) (hdv.up u05) (hav.up u05) hsv5 (hlv.up u05)
  obtain ⟨mv,w7,c41,u7,ms,hms,hma⟩:=k41 w6 (Up.refl _) (by have:=(u05.trans u6).lim; have:=(u05.trans u6).next; omega)
  have u07:=(u05.trans u6).trans u7
  have g63:w6.heap.get w.next=_:=(u6.at (by omega)).trans g53
  have g611:w6.heap.get w4.next=_:=(u6.at (by omega)).trans g511
  have g7M:=y1
  rw [← (u6.trans u7).at lM5] at g7M
  obtain ⟨bm,om,qm,cm,rfl,hrm⟩:=hms.at_ a (List.getElem?_eq_some_iff.1 hma).1
  have ld:=hrm.int hma
  have him:=fun w=>ia28 w ⟨bm,om,qm⟩ ms.length cm .i64 a (List.getElem?_eq_some_iff.1 hma).1
  simp only [Nat.mul_one] at him
  have rW7:=rW w7 (hL.up u07).1
  simp only [curC,Nat.reduceAdd] at c40 c41 rW7
  rw [hs23] at g611 g511
  rw [hw5e] at c40
  rw [hw1e] at r33 c20
  simp [mc7,cellsOf_agg,r33,hl42,h10',c20,g23,c25,g33,c23,lw4,g43,g45,ea,eb,hl43,hl28,hwl,ia63_0,ia63_1,r36a,r36b,h36,hiX,hiM,eBX,x0,x1,c40,g63,g611,c41,him,ld,g7M,rW7,tupV]
 ·-- the least
  have h36':¬ wrapI n1 2=1:=h36
  obtain ⟨yv,w6,c40,u6,k41⟩:=cc (gtS V (acts.length + 1)).1 ⟨Int.le_refl _,inN⟩ (hends acts.length (by omega)).1 (fun x _ h=>(hsol x).1 h) a ha (gtS V a).1 ⟨Int.le_refl _,ina⟩ b _ _ _ _ lv w5 (by have:=u05.lim; have:=u05.next; omega) (hL.up u05) (hrv.up u05) (hdv.up u05) (hav.up u05) hsv5 (hlv.up u05)
  obtain ⟨mv,w7,c41,u7,ms,hms,hma⟩:=k41 w6 (Up.refl _) (by have:=(u05.trans u6).lim; have:=(u05.trans u6).next; omega)
  have u06:=u05.trans u6
  have u07:=u06.trans u7
  have hn6:=u6.next
  have hn7:=u7.next
  have hn07:=u07.next
  have hm7:=u07.lim
  have g63:w6.heap.get w.next=_:=(u6.at (by omega)).trans g53
  have g611:w6.heap.get w4.next=_:=(u6.at (by omega)).trans g511
  have g73:w7.heap.get w.next=_:=(u7.at (by omega)).trans g63
  have g711:w7.heap.get w4.next=_:=(u7.at (by omega)).trans g611
  obtain ⟨hi,hhie⟩:∃ hi,hi=(gtS V (acts.length + 1)).2:=⟨_,rfl⟩
  obtain ⟨lo,hloe⟩:∃ lo,lo=(gtS V (acts.length + 1)).1:=⟨_,rfl⟩
  obtain ⟨hB',D',hD',hDD⟩:=dry_box hb hlos (by omega) ok dok
  rw [hLl] at hB' hD' hDD
  rw [← hhie] at hB' hD'
  obtain ⟨b',hbe⟩:∃ b':CBox,b'={ b with sl:=hi,sh:=hi }:=⟨_,rfl⟩
  rw [← hbe] at hB' hD'
  have hA':actE r d b' acts=0:=by
   obtain ⟨q1,q2,q3,st,q4⟩:=act_ofE hA
   unfold actE bxE chkE
   rw [if_pos q1,if_pos q2,if_pos rfl,if_pos hB',if_pos rfl,q4]
  have he':=wei_at hA' hRd hD'
  obtain ⟨w8,hw8e⟩:∃ w8:AW,w8=⟨(w7.heap.put w7.next (some (.cells [.slice none 0 0,.slice none 0 0,.int .i64 0,.int .i64 0,.int .i64 0,.int .i64 0,.slice none 0 0] 30 false))).put w7.next (some (.cells [.slice pr r.length qr,.slice pd d.length qd,.int .i64 b.wl,.int .i64 b.wh,.int .i64 b.sl,.int .i64 b.sh,.slice pa acts.length qa] 30 false)),w7.next + 1,w7.lim⟩:=⟨_,rfl⟩
  have r42:=S42.call (P:=Tryd.prog) h42 (m:=3) (w:=w8) ⟨hi,hi,rfl,by rw [hw8e]; show w7.lim≤w7.next + 1; omega,rfl⟩
  obtain ⟨w9,hw9e⟩:∃ w9:AW,w9=⟨w8.heap.put w7.next (some (.cells [.slice pr r.length qr,.slice pd d.length qd,.int .i64 b.wl,.int .i64 b.wh,.int .i64 hi,.int .i64 hi,.slice pa acts.length qa] 30 false)),w7.next + 1,w7.lim⟩:=⟨_,rfl⟩
  have u9:Up w7 w9:=by rw [hw9e,hw8e]; exact (((Up.refl w7).add _).put (Nat.le_refl _) (Nat.le_refl _)).put (Nat.le_refl _) (Nat.le_refl _)
  have m9:w9.next=w7.next + 1:=by rw [hw9e]
  have u09:=u07.trans u9
  have hm9:=u09.lim
  have g921:w9.heap.get w7.next=some (.cells [.slice pr r.length qr,.slice pd d.length qd,.int .i64 b.wl,.int .i64 b.wh,.int .i64 hi,.int .i64 hi,.slice pa acts.length qa] 30 false):=by rw [hw9e]; simp
  obtain ⟨v10,w10,c20',⟨z20,rfl,z20n,z20z⟩,u10⟩:=call20 (ov:=ov) 1 ho20 ho57 ho62 ho63 h64 h68 h86 r d b' acts l _ _ _ lv w9 (by omega) (hL.up u09) (hrv.up u09) (hdv.up u09) (hav.up u09) (hlv.up u09)
  obtain ⟨D3,hD3,BZ,hz20,gZ,lZ⟩:=z20z he'
  rw [hD'] at hD3
  cases hD3
  rw [he'] at c20'
  have ok':=weigh_ok hB' hlos (by omega) hD'
  have hD'16:=ok'.good.len
  rw [hLl] at hz20 gZ
  have tl':(D'.take (acts.length + 1)).length=acts.length + 1:=by rw [List.length_take]; omega
  rw [tl'] at hz20
  subst hz20
  have u010:=u09.trans u10
  have hn10:=u10.next
  have hm10:=u010.lim
  have hn010:=u010.next
  have rZ:RowsA spC w10.heap w10.next BZ 0 (D'.take (acts.length + 1)):=⟨⟨[],[],25,false,by simpa using gZ,rfl⟩,lZ⟩
  have hsvZ:RowsV spC w10 (.slice (some ⟨BZ,0,none⟩) (acts.length + 1) (acts.length + 1)) (D'.take (acts.length + 1)):=.inr ⟨BZ,0,none,_,by rw [tl'],rZ⟩
  have hZa:=gtS_at (W:=D'.take (acts.length + 1)) (i:=a) (by omega)
  rw [gtS_take (by omega)] at hZa
  have z0:=rZ.rd1 spC_length hZa (j:=0) rfl
  simp only [Nat.add_zero,Nat.zero_add] at z0
  have hiZ:=fun w=>ia43 w ⟨BZ,0,none⟩ (acts.length + 1) (acts.length + 1) .i64 a (by omega)
  have hends':=fun k hk=>ok'.good.ends hlos (k:=k) hk
  have hne':=ok'.good.ne
  have hlo':=ok'.lo
  have hhi':=ok'.hi
  have hT':=ok'.good.tight
  rw [hLl] at hends' hne' hlo' hhi' hT'
  have hdlo:=dok.lo
  have hdsol:=dok.sol
  rw [hLl] at hdlo hdsol
  have eN:=hDD (acts.length + 1) (Nat.le_refl _)
  have inN':=hne' (acts.length + 1) (Nat.le_refl _)
  have ina':=hne' a (by omega)
  obtain ⟨yv2,w11,c40',u11,k41'⟩:=chain_can (ov:=ov) ho16 ho40 ho41 ho57 ho59 ho83 h18 h39 h56 h58 h84 r d b acts hA l hRd D' hD'16 hT' hne' (fun k hk=>by have:=hends' k hk; omega) hhi' hi ⟨by rw [eN,hdlo,hhie]; exact Int.le_refl _,by rw [eN] at inN' ⊢; rw [hhie,← hdlo]; exact inN'⟩ (by have:=(hends' acts.length (by omega)).1; rw [eN,hdlo,← hhie] at this; exact this) (fun x _ h=>by
    have h1:SolS (acts.length + 1) (gtS (losL (lossL r acts))) (gtS D) x:=⟨fun i hi=>by rw [← hDD i hi]; exact h.1 i hi,h.2⟩
    exact (hsol x).1 (sol_dry ((hdsol x).1 h1) inN).1) a ha (gtS D' a).1 ⟨Int.le_refl _,ina'⟩ b' _ _ _ _ lv w10 (by omega) (hL.up u010) (hrv.up u010) (hdv.up u010) (hav.up u010) hsvZ (hlv.up u010)
  obtain ⟨mv2,w12,c41',u12,ms2,hms2,hma2⟩:=k41' w11 (Up.refl _) (by have:=(u010.trans u11).lim; have:=(u010.trans u11).next; omega)
  have u012:=(u010.trans u11).trans u12
  have hn11:=u11.next
  have g1021:w10.heap.get w7.next=_:=(u10.at (by omega)).trans g921
  have u710:=u9.trans u10
  have g1111:w11.heap.get w4.next=_:=((u710.trans u11).at (by omega)).trans g711
  have g113:w11.heap.get w.next=_:=((u710.trans u11).at (by omega)).trans g73
  have g12M:=y0
  rw [← ((u6.trans u7).trans ((u710.trans u11).trans u12)).at lM5] at g12M
  obtain ⟨bm,om,qm,cm,rfl,hrm⟩:=hms2.at_ a (List.getElem?_eq_some_iff.1 hma2).1
  have ld:=hrm.int hma2
  have him:=fun w=>ia28 w ⟨bm,om,qm⟩ ms2.length cm .i64 a (List.getElem?_eq_some_iff.1 hma2).1
  simp only [Nat.mul_one] at him
  have rW12:=rW w12 (hL.up u012).1
  rw [hDD a (by omega)] at z0 c40' ld
  simp only [curC,spC,boxC,Nat.reduceAdd] at c40 c41 c40' c41' c20' rW12 r42
  rw [← hhie] at g12M
  rw [hs23] at g611 g511 g711 g1111
  rw [hbe] at c40' c20'
  simp only at c40' c20'
  rw [hw5e] at c40
  rw [hw9e,hw8e] at c20'
  rw [hw8e] at r42
  rw [hw1e] at r33 c20
  have ec:¬ w4.next=w7.next:=by omega
  have ed:¬ w.next=w7.next:=by omega
  have lw7:w7.lim≤w7.next:=by omega
  simp [mc7,cellsOf_agg,r33,hl42,h10',c20,g23,c25,g33,c23,lw4,g43,g45,ea,eb,hl43,hl28,hwl,ia63_0,ia63_1,r36a,r36b,h36',hiX,hiM,eBX,x0,c40,g63,g611,c41,g73,g711,ec,ed,lw7,← hhie,r42,c20',g1021,hiZ,z0,c40',g1111,g113,c41',him,ld,g12M,rW12,tupV]
end Go.Proofs.YtmemdglkkgmjnaaDoor.walk
