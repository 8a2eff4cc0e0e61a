/- Part of a proof by a machine of ones own: see the text with the theorem. -/
import Derived.Test.YtmemdglkkgmjnaaDoorCT3
import Derived.Test.YtmemdglkkgmjnaaDoorCWf
namespace Go.Proofs.YtmemdglkkgmjnaaDoor.walk
open Go Go.Sh
set_option maxRecDepth 100000
set_option linter.unusedSimpArgs false
def wrapI (n s:Int):Int:=if s < 1 then 0 else (n.tmod s + s).tmod s
theorem wrapI_bd {n s:Int} (h:1≤s):0≤wrapI n s∧wrapI n s < s:=by
 have h2:=Int.lt_tmod_of_pos n (show 0 < s by omega)
 unfold wrapI
 rw [if_neg (by omega)]
 exact ⟨Int.tmod_nonneg _ (by omega),Int.tmod_lt_of_pos _ (by omega)⟩
def nthI (L:List Int) (i:Int):Int:=match L[(wrapI i L.length).toNat]? with | some z=>z | none=>0
def S37:PSpec where
 R args w v:=∃ (lv:Value) (L:List Int) (i:Int),args=[lv,.int .i64 i]∧RowsV intC w lv L∧L.length≤2 ^ 60∧v=.int .i64 (nthI L i)
 uniq:=by
  rintro _ _ _ _ ⟨_,L,i,rfl,h1,_,rfl⟩ ⟨_,L',i',h,k1,_,rfl⟩
  cases h
  rw [h1.uniq (m:=1) intC_length intC_inj k1]
 shut h:=h
def withI (lo hi n:Int):Int:=lo + wrapI n (hi - lo + 1)
theorem with_in {lo hi n:Int} (h:lo≤hi):lo≤withI lo hi n∧withI lo hi n≤hi:=by
 obtain ⟨a,b⟩:=wrapI_bd (n:=n) (s:=hi - lo + 1) (by omega)
 unfold withI
 omega
def partS (bits:List Int) (s:Sp) (n:Int):Sp:=(withI s.1 s.2 (nthI bits n),withI (withI s.1 s.2 (nthI bits n)) s.2 (nthI bits (n + 1)))
end Go.Proofs.YtmemdglkkgmjnaaDoor.walk
namespace Go.Proofs.YtmemdglkkgmjnaaDoor.walk
open Go Go.Sh
set_option maxRecDepth 100000
set_option linter.unusedSimpArgs false
def sndB (r:List CAct) (d:List CDay) (acts:List Int):Bool:=decide (chkE r d=0) && canB r d acts
def S33:PSpec where
 R args w v:=∃ (rv dv av:Value) (r:List CAct) (d:List CDay) (b:CBox) (acts:List Int),args=[.agg ⟨curC rv dv b av⟩]∧RowsV actC w rv r∧RowsV cdayC w dv d∧RowsV intC w av acts∧LimW w∧v=.bool (sndB r d acts)
 uniq:=by
  rintro _ _ _ _ ⟨_,_,_,r,d,⟨_,_,_,_⟩,acts,rfl,h1,h2,h3,_,rfl⟩ ⟨_,_,_,r',d',⟨_,_,_,_⟩,acts',h,k1,k2,k3,_,rfl⟩
  simp only [curC,List.cons.injEq,Value.agg.injEq,Array.mk.injEq,Value.int.injEq,true_and,and_true] at h
  obtain ⟨rfl,rfl,rfl,rfl,rfl,rfl,rfl⟩:=h
  rw [h1.uniq (m:=7) actC_length actC_inj k1,h2.uniq (m:=3) cdayC_length cdayC_inj k2,h3.uniq (m:=1) intC_length intC_inj k3]
 shut h:=h
theorem run33 {ov:Ov} (ho:∀ args w,ov 33 args w=none) (h12:HasP ov 12 S12.F) (h39:HasP ov 39 S39.F) (r:List CAct) (d:List CDay) (b:CBox) (acts:List Int) (rv dv av:Value) (w:AW) (hL:LimW w) (hrv:RowsV actC w rv r) (hdv:RowsV cdayC w dv d) (hav:RowsV intC w av acts):∃ x w',(run Tryd.prog ov 2).call 33 [.agg ⟨curC rv dv b av⟩] w .none=.ok (.ret x) w' .none∧x=.bool (sndB r d acts):=by
 refine call_wp text33 (by simp) (ho _ _) ?_
 obtain ⟨w1,hw1e⟩:∃ w1:AW,w1=⟨w.heap.put w.next (some (.cells [rv,dv,.int .i64 b.wl,.int .i64 b.wh,.int .i64 b.sl,.int .i64 b.sh,av] 30 false)),w.next + 1,w.lim⟩:=⟨_,rfl⟩
 have u1:Up w w1:=by rw [hw1e]; exact (Up.refl w).add _
 have g1:w1.heap.get w.next=some (.cells [rv,dv,.int .i64 b.wl,.int .i64 b.wh,.int .i64 b.sl,.int .i64 b.sh,av] 30 false):=by rw [hw1e]; simp
 have r12:=S12.call1 (P:=Tryd.prog) h12 ⟨rv,dv,av,r,d,acts,rfl,hrv.up u1,hdv.up u1,hav.up u1,hL.up u1,rfl⟩
 have r39:=fun n a b w=>S39.call1 (P:=Tryd.prog) h39 (w:=w) ⟨n,a,b,rfl,rfl⟩
 have hl1:=fun w2=>len22V (w':=w2) hrv
 have hl2:=fun w2=>len23V (w':=w2) hdv
 have hl3:=fun w2=>len28V (w':=w2) hav
 rw [hw1e] at r12
 simp only [curC]
 by_cases hE:chkE r d=0
 ·obtain ⟨hR,hD⟩:=chk_of hE
  have e0:canR r d acts=.tuple ⟨[.bool (canB r d acts),.int .i64 0]⟩:=by unfold canR; rw [if_pos hE]
  rw [e0] at r12
  cases hc:canB r d acts with
  | false =>
   have e:sndB r d acts=false:=by unfold sndB; rw [hc,Bool.and_false]
   rw [hc] at r12
   simp [mc33,cellsOf_agg,r12]
   refine wp_seqX (wp_blockX (wp_rounds (fun i t w'=>i=0∧tget t 5=.bool false) 20 (by decide) ⟨rfl,by simp⟩ ?_))
   rintro i t w' ⟨rfl,t5⟩
   simp [mc33_l0,t5,e,tupV]
  | true =>
   have e:sndB r d acts=true:=by unfold sndB; rw [hc,decide_eq_true hE]; rfl
   have hlr:=rule_len hR
   have hld:=days_len hD
   obtain ⟨s,hs⟩:∃ s,stgF r d startS acts=some s:=by
    unfold canB at hc
    cases hq:stgF r d startS acts with
    | none=>rw [hq] at hc; cases hc
    | some s=>exact ⟨s,rfl⟩
   have hal:=stg_len hR hs
   have hact:=stg_acts _ _ _ hs
   rw [hc] at r12
   have k1:(r.length:Int)≤5:=by omega
   have k2:(d.length:Int)≤14:=by omega
   have k3:(acts.length:Int)≤d.length:=by omega
   have k1':r.length≤5:=by omega
   have k2':d.length≤14:=by omega
   simp [mc33,cellsOf_agg,r12,hl1,hl2,hl3,k1,k2,k3,k1',k2',hal]
   rw [← hw1e]
   refine wp_seqX (wp_blockX (wp_rounds (fun i t w'=>w'=w1∧tget t 1=.pointer (some ⟨w.next,0,none⟩)∧tget t 5=.bool true∧tget t 6=.int .i64 (i:Nat)∧i≤acts.length) 20 (by decide) ⟨rfl,by simp,by simp,by simp,Nat.zero_le _⟩ ?_))
   rintro i t w' ⟨rfl,t1,t5,t6,hi⟩
   by_cases hlt:i < acts.length
   ·obtain ⟨a,ha⟩:∃ p,acts[i]?=some p:=⟨_,List.getElem?_eq_getElem hlt⟩
    obtain ⟨ha0,x,hx⟩:=hact a (List.mem_of_getElem? ha)
    have hal2:=(List.getElem?_eq_some_iff.1 hx).1
    obtain ⟨bb,off,sq,c,rfl,hra⟩:=hav.at_ i hlt
    have hldd:=hra.int ha
    rw [← u1.at hra.2] at hldd
    have hia:=fun w=>ia28 w ⟨bb,off,sq⟩ acts.length c .i64 i hlt
    simp only [Nat.mul_one] at hia
    have hwi:IntKind.wrap .i64 ((i:Int) + 1)=(i:Int) + 1:=wrap64_in (by omega) (by omega)
    have hwr:IntKind.wrap .i64 ((r.length:Int) - 1)=(r.length:Int) - 1:=wrap64_in (by omega) (by omega)
    have hin:inI 0 a ((r.length:Int) - 1)=true:=by simp [inI]; omega
    simp [mc33_l0,t1,t5,t6,hlt,g1,hia,hldd,hl1,hwr,r39,hin,hwi]
    exact ⟨by omega,hlt⟩
   ·have hi':i=acts.length:=by omega
    subst hi'
    simp [mc33_l0,t1,t5,t6,g1,hl3,e,tupV]
 ·have e0:canR r d acts=.tuple ⟨[.bool false,.int .i64 (chkE r d)]⟩:=by unfold canR; rw [if_neg hE]
  have e:sndB r d acts=false:=by unfold sndB; rw [decide_eq_false hE]; rfl
  rw [e0] at r12
  simp [mc33,cellsOf_agg,r12,hE]
  refine wp_seqX (wp_blockX (wp_rounds (fun i t w'=>i=0∧tget t 5=.bool false) 20 (by decide) ⟨rfl,by simp⟩ ?_))
  rintro i t w' ⟨rfl,t5⟩
  simp [mc33_l0,t5,e,tupV]
def dA:CAct:=⟨0,0,false,false,0,0,0⟩
def parA (bits:List Int) (i:Nat) (a:CAct):CAct:={ a with ll:=(partS bits (a.ll,a.lh) (2 * (i:Int) + 3)).1,lh:=(partS bits (a.ll,a.lh) (2 * (i:Int) + 3)).2 }
def parR (bits:List Int) (r:List CAct) (i:Nat):List CAct:=(List.range r.length).map fun k=>if k < i then parA bits k (r.getD k dA) else r.getD k dA
@[simp] theorem parR_length (bits:List Int) (r:List CAct) (i:Nat):(parR bits r i).length=r.length:=by simp [parR]
end Go.Proofs.YtmemdglkkgmjnaaDoor.walk
namespace Go.Proofs.YtmemdglkkgmjnaaDoor.walk
open Go Go.Sh
set_option maxRecDepth 100000
set_option linter.unusedSimpArgs false
theorem los_at {L:List Sp} {k:Nat} (h:k < L.length):gtS (losL L) k=gtS L k:=by
 unfold gtS losL
 rw [List.getD_eq_getElem?_getD,List.getD_eq_getElem?_getD,List.getElem?_append_left h]
theorem ini_nil (b:CBox) (n i k:Nat):iniF b n [] i k=iniG b n k:=by
 unfold iniF
 split <;> rfl
theorem ini_sub {b b':CBox} (n k:Nat) (h1:b.wl≤b'.wl∧b'.wh≤b.wh) (h2:b.sl≤b'.sl∧b'.sh≤b.sh):subS (iniG b' n k) (iniG b n k):=by
 unfold iniG
 repeat' split
 ·exact h2
 ·exact h1
 ·exact subS.refl _
 ·exact subS.refl _
theorem inn_sub {x:Int} {a b:Sp} (h:inn x a) (k:subS a b):inn x b:=by
 unfold inn at *; unfold subS at k; omega
structure ParW (b b':CBox) (L L':List Sp):Prop where
 len:L'.length=L.length
 los:∀ k,subS (gtS (losL L') k) (gtS (losL L) k)
 w:b.wl≤b'.wl∧b'.wh≤b.wh
 s:b.sl≤b'.sl∧b'.sh≤b.sh
theorem ParW.sol {b b':CBox} {L L':List Sp} (h:ParW b b' L L') (hlen:L.length≤14) {x:Nat→Int} (hx:SolS (L.length + 1) (gtS (losL L')) (gtS (iniW b' L' [])) x):SolS (L.length + 1) (gtS (losL L)) (gtS (iniW b L [])) x:=by
 refine ⟨fun i hi=>?_,fun i hi=>inn_sub (hx.2 i hi) (h.los i)⟩
 have h1:=hx.1 i hi
 unfold iniW at h1 ⊢
 rw [mkW_at _ (by omega),ini_nil] at h1 ⊢
 rw [h.len] at h1
 exact inn_sub h1 (ini_sub _ _ h.w h.s)
end Go.Proofs.YtmemdglkkgmjnaaDoor.walk
namespace Go.Proofs.YtmemdglkkgmjnaaDoor.walk
open Go Go.Sh
set_option maxRecDepth 100000
set_option linter.unusedSimpArgs false
@[simp] theorem cfn47 (w:AW) (l:List Value):callFn Tryd.prog w 47 l=.enter 47 l w:=callFn_of (by kernel_rfl) l
structure In10 (w1:AW) (C R:Nat) (cs:List Value) (row:List CAct) (w:AW):Prop where
 box:w.heap.get C=some (.cells (.slice (some ⟨R,0,none⟩) row.length row.length::cs) 30 false)
 row:w.heap.get R=some (.cells (row.flatMap actC) 78 false)
 up:Up w1 w
 lt:C < w.next∧R < w.next
structure KeepA (t t':Tm):Prop where
 k3:tget t' 3=tget t 3
 k4:tget t' 4=tget t 4
 k6:tget t' 6=tget t 6
 k7:tget t' 7=tget t 7
 k10:tget t' 10=tget t 10
theorem rule_range {r:List CAct} (h:ruleB r=true):∀ a ∈ r,0≤a.ll∧a.ll≤a.lh∧a.lh≤100000000:=by
 intro a ha
 simp only [ruleB,Bool.and_eq_true] at h
 have:=List.all_eq_true.1 h.2 a ha
 simp only [actB,inI,spanI,Bool.and_eq_true,decide_eq_true_eq] at this
 omega
theorem gtS_take {V:List Sp} {n k:Nat} (h:k < n):gtS (V.take n) k=gtS V k:=by
 unfold gtS
 rw [List.getD_eq_getElem?_getD,List.getD_eq_getElem?_getD,List.getElem?_take,if_pos h]
end Go.Proofs.YtmemdglkkgmjnaaDoor.walk
