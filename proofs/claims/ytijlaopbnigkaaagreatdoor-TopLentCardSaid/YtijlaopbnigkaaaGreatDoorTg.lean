/-
  rostellumtop.TopLent (a buyer lends each grower a part of what its pods surely bring: whatever the pods truly weigh, nobody is short in the end, each loan is paid back, and each grower is left what its pods bring, less the loan) answers true whatever the pods, the plan, the price, the part and the numbers are, and they read behind the call as before.
  Conditions: those of the given row alone (its listed variable of the program holds what its initialiser lays; the card ties it to the text of the program).
  How: a machine of its own (the texts Sh) is proved to say of each call what the model does, whatever order is drawn; each function of the pods and of the ledger is said by a function or a relation (LPW, LQW, LC), and these are put together (LX). That the yield that a truth gives lies within what Weigh says is arithmetic (LQY, LN6); that all is paid where each can pay when all pay is arithmetic too (LN2 to LN5).
-/
import Derived.Test.YtijlaopbnigkaaaGreatDoorTf
import Derived.Test.YtijlaopbnigkaaaGreatDoorShF
import Derived.Test.YtijlaopbnigkaaaGreatDoorCards
import Derived.Test.YtijlaopbnigkaaaGreatDoorTie
import Derived.WalkKit
import Derived.ProofKit
import Derived.OpenShut
import Derived.Deep.DeepHandedRow
import Derived.Deep.DeepWitnessRowRef
set_option linter.all false
namespace Go.Proofs.YtijlaopbnigkaaaGreatDoor.walk
open Go Go.Sh
set_option maxRecDepth 100000
/-! TopLent: the loop over pods -/
section
variable (pr pt:Int) (l:List Pod) (pl R H G:List Int)
noncomputable def oneL (i:Nat):Int × Int:=match l[i]? with
 | some p=>(lnI pr pt (loS [p] [pl.getD i 0]).ripe,pr * (harY [p] [pl.getD i 0] [R.getD i 0] [H.getD i 0] [G.getD i 0]).ripe)
 | none=>(0,0)
noncomputable def hiN (i:Nat):Int:=match l[i]? with
 | some p=>pr * (hiS [p] [pl.getD i 0]).ripe
 | none=>0
noncomputable def lsN (n:Nat):List (Int × Int):=(List.range n).map (oneL pr pt l pl R H G)
noncomputable def casN:Nat→Int
 | 0=>0
 | n + 1=>casN n + (hiN pr l pl n - (oneL pr pt l pl R H G n).1)
noncomputable def oweN:Nat→Int
 | 0=>0
 | n + 1=>oweN n + ((oneL pr pt l pl R H G n).2 - (oneL pr pt l pl R H G n).1)
theorem lsN_len (n:Nat):(lsN pr pt l pl R H G n).length=n:=by simp [lsN]
theorem lsN_succ (n:Nat):lsN pr pt l pl R H G (n + 1)=lsN pr pt l pl R H G n++[oneL pr pt l pl R H G n]:=by
 unfold lsN; rw [List.range_succ,List.map_append]; rfl
end
theorem partL_succ (cash:Int) (n:Nat):partL cash (n + 1)=partL cash n++[⟨growS n,0⟩]:=by
 unfold partL; rw [List.range_succ,List.map_append]; rfl
theorem partL_len (cash:Int) (n:Nat):(partL cash n).length=n + 1:=by simp [partL]
section
variable {pr pt:Int} {l:List Pod} {pl R H G:List Int}
structure Good (pr pt:Int) (l:List Pod) (pl R H G:List Int):Prop where
 hB:podsB l=true
 hP:planB l pl=true
 hT:truthB l R H G=true
 hpr:0≤pr∧pr≤40
 hpt:0≤pt∧pt≤1000
 h6:l.length≤6
theorem Good.at_ (h:Good pr pt l pl R H G) {i:Nat} (hi:i < l.length):∃ p d r k g,l[i]?=some p∧pl[i]?=some d∧R[i]?=some r∧H[i]?=some k∧G[i]?=some g∧pl.getD i 0=d∧R.getD i 0=r∧H.getD i 0=k∧G.getD i 0=g:=by
 obtain ⟨a1,a2,a3⟩:=truth_lens h.hT
 have a4:=plan_len h.hP
 have e0:=List.getElem?_eq_getElem hi
 have e1:=List.getElem?_eq_getElem (l:=pl) (i:=i) (by omega)
 have e2:=List.getElem?_eq_getElem (l:=R) (i:=i) (by omega)
 have e3:=List.getElem?_eq_getElem (l:=H) (i:=i) (by omega)
 have e4:=List.getElem?_eq_getElem (l:=G) (i:=i) (by omega)
 exact ⟨_,_,_,_,_,e0,e1,e2,e3,e4,by rw [List.getD_eq_getElem?_getD,e1]; rfl,by rw [List.getD_eq_getElem?_getD,e2]; rfl,by rw [List.getD_eq_getElem?_getD,e3]; rfl,by rw [List.getD_eq_getElem?_getD,e4]; rfl⟩
theorem Good.bd (h:Good pr pt l pl R H G) {i:Nat} (hi:i < l.length):0≤(oneL pr pt l pl R H G i).1∧(oneL pr pt l pl R H G i).1≤(oneL pr pt l pl R H G i).2∧(oneL pr pt l pl R H G i).2≤hiN pr l pl i∧hiN pr l pl i≤16000:=by
 obtain ⟨p,d,r,k,g,hp,hd,hr,hk,hg,e1,e2,e3,e4⟩:=h.at_ hi
 obtain ⟨e0,_,q0,q1,q2,q3⟩:=one_lies (pods_all h.hB hp) (plan_at h.hP hp hd) (truth_at h.hT hp hr hk hg)
 have hN:PodN pr pt (loS [p] [d]).ripe (harY [p] [d] [r] [k] [g]).ripe (hiS [p] [d]).ripe:=⟨h.hpr.1,h.hpr.2,h.hpt.1,h.hpt.2,q0,q1,q2,q3⟩
 obtain ⟨a0,a1,a2,a3,a4,a5⟩:=hN.bd
 obtain ⟨b0,b1⟩:=hN.ln
 unfold oneL hiN
 rw [hp,e1,e2,e3,e4]
 exact ⟨b0,by simp only; omega,a2,a3⟩
theorem Good.cas (h:Good pr pt l pl R H G):∀ n,n≤l.length→0≤casN pr pt l pl R H G n∧casN pr pt l pl R H G n≤16000 * n∧0≤oweN pr pt l pl R H G n∧oweN pr pt l pl R H G n≤casN pr pt l pl R H G n
 | 0,_=>⟨Int.le_refl _,by simp [casN],Int.le_refl _,Int.le_refl _⟩
 | n + 1,hn=>by
  obtain ⟨i1,i2,i3,i4⟩:=h.cas n (by omega)
  obtain ⟨b1,b2,b3,b4⟩:=h.bd (i:=n) (by omega)
  simp only [casN,oweN]
  refine ⟨by omega,by push_cast; omega,by omega,by omega⟩
theorem Good.sums (h:Good pr pt l pl R H G):∀ n,((lsN pr pt l pl R H G n).map (·.2)).sum - ((lsN pr pt l pl R H G n).map (·.1)).sum=oweN pr pt l pl R H G n∧((lsN pr pt l pl R H G n).map fun x=>x.2 - x.1).sum=oweN pr pt l pl R H G n
 | 0=>⟨rfl,rfl⟩
 | n + 1=>by
  obtain ⟨i1,i2⟩:=h.sums n
  rw [lsN_succ]
  simp only [List.map_append,List.sum_append,List.map_cons,List.map_nil,List.sum_cons,List.sum_nil,oweN]
  constructor <;> omega
end
theorem len22P {w w':AW} {v:Value} {l:List Pod} (h:PodsV w v l):lenB Tryz.prog w' 22 v=.val (.int .i64 (l.length:Nat)) w':=by
 obtain ⟨a,c,rfl⟩:=h.len; simp
section
variable {ov:Ov} {w0:AW} {n11 n15:Nat} {pv0 qv0 v5 v6 vr vh vg:Value} {l:List Pod} {pl R H G:List Int} {BP0 BD0 BW0:Nat} {pr pt:Int}
def InvL (w0:AW) (n11 n15:Nat) (v5 v6:Value) (pr pt:Int) (l:List Pod) (pl R H G:List Int) (i:Nat) (t:Tm) (w:AW):Prop:=∃ pv dv qv BP BD BW,Lp w0 n11 n15 pv dv qv (partL 0 i) (lendD 0 (lsN pr pt l pl R H G i)) (0::(lsN pr pt l pl R H G i).map fun x=>x.2 - x.1) BP BD BW w∧Tp v5 v6 pr pt (casN pr pt l pl R H G i) (oweN pr pt l pl R H G i) n11 n15 qv i t
theorem loop0 (m:Nat) (o10:∀ args w,ov 10 args w=none) (h4:HasP ov 4 F4) (h8:HasP ov 8 F8) (h9:HasP ov 9 F9) (hG:Good pr pt l pl R H G) (hR:Rd v5 v6 l pl n15 vr vh vg R H G w0)
  (hL0:Lp w0 n11 n15 pv0 (.slice none 0 0) qv0 (partL 0 0) [] [0] BP0 BD0 BW0 w0) (Q:Ex→Tm→AW→Prop) (t:Tm) (hT0:Tp v5 v6 pr pt 0 0 n11 n15 qv0 0 t)
  (hQ:∀ t w pv dv qv BP BD BW,Lp w0 n11 n15 pv dv qv (partL 0 l.length) (lendD 0 (lsN pr pt l pl R H G l.length)) (0::(lsN pr pt l pl R H G l.length).map fun x=>x.2 - x.1) BP BD BW w→Tp v5 v6 pr pt (casN pr pt l pl R H G l.length) (oweN pr pt l pl R H G l.length) n11 n15 qv l.length t→Q (.exit 0) t w) :
  wp (exM Tryz.prog (run Tryz.prog ov (m + 1)) (.loop mc3_l0) t w0) Q:=by
 obtain ⟨sq0,hpv0⟩:=hL0.p.slice
 have hbox0:=hL0.box
 rw [hpv0] at hbox0
 have h11:=hL0.h11
 have h6:=hG.h6
 refine wp_rounds (fun i t w=>InvL w0 n11 n15 v5 v6 pr pt l pl R H G i t w∧i≤l.length) 20 (by decide) ⟨⟨_,_,_,_,_,_,hL0,hT0⟩,Nat.zero_le _⟩ ?_
 clear hL0 hT0
 rintro i t w ⟨⟨pv,dv,qv,BP,BD,BW,hL,hT⟩,hi⟩
 have hRw:=hR.skip hbox0 hL.old hL.next (by omega)
 have hln:=fun w'=>len22P (w':=w') hRw.l
 have t5:=hT.t5
 have t16:=hT.t16
 by_cases hlt:i < l.length
 ·obtain ⟨p,d,r,k,g,hp,hd,hr,hk,hg,e1,e2,e3,e4⟩:=hG.at_ hlt
  have eo:oneL pr pt l pl R H G i=(lnI pr pt (loS [p] [d]).ripe,pr * (harY [p] [d] [r] [k] [g]).ripe):=by unfold oneL; rw [hp,e1,e2,e3,e4]
  have eh:hiN pr l pl i=pr * (hiS [p] [d]).ripe:=by unfold hiN; rw [hp,e1]
  obtain ⟨b1,b2,b3,b4⟩:=hG.cas i hi
  have hll:=lend_len (lsN pr pt l pl R H G i) 0
  rw [lsN_len] at hll
  have hw1:IntKind.wrap .i64 ((i:Int) + 1)=(i:Int) + 1:=wrap64_in (by omega) (by omega)
  simp [mc3_l0_eq,t5,t16,hln,hlt]
  refine wp_seqX (wp_blockX (body0 (R:=R) (H:=H) (G:=G) (pr:=pr) (pt:=pt) (C:=casN pr pt l pl R H G i) (O:=oweN pr pt l pl R H G i) (v5:=v5) (v6:=v6) m o10 h4 h8 h9 hL hRw (by omega) (by rw [partL_len]; omega) (by rw [List.length_cons,List.length_map,lsN_len]; omega) (by omega) ⟨b1,by omega⟩ ⟨b3,by omega⟩ hG.hpr hG.hpt hG.hB hG.hP hG.hT hp hd hr hk hg _ _ ?_ ?_))
  ·obtain ⟨t5,t6,t9,t10,t11,t12,t13,t14,t15,t16⟩:=hT
   constructor <;> simp [t5,t6,t9,t10,t11,t12,t13,t14,t15,t16]
  ·intro t w pv dv qv BP BD BW hL' hT'
   have x1:=partL_succ 0 i
   have x2:lendD 0 (lsN pr pt l pl R H G (i + 1))=lendD 0 (lsN pr pt l pl R H G i)++lend1 i (oneL pr pt l pl R H G i):=by rw [lsN_succ,lend_app,lsN_len,Nat.zero_add]
   have x3:(0::(lsN pr pt l pl R H G (i + 1)).map fun x=>x.2 - x.1)=(0::(lsN pr pt l pl R H G i).map fun x=>x.2 - x.1)++[(oneL pr pt l pl R H G i).2 - (oneL pr pt l pl R H G i).1]:=by rw [lsN_succ,List.map_append]; rfl
   have x4:casN pr pt l pl R H G (i + 1)=casN pr pt l pl R H G i + (hiN pr l pl i - (oneL pr pt l pl R H G i).1):=rfl
   have x5:oweN pr pt l pl R H G (i + 1)=oweN pr pt l pl R H G i + ((oneL pr pt l pl R H G i).2 - (oneL pr pt l pl R H G i).1):=rfl
   rw [eo] at x2 x3 x4 x5
   rw [eh] at x4
   simp only at x3 x4 x5
   rw [← x1,← x2,← x3] at hL'
   rw [← x4,← x5] at hT'
   obtain ⟨t5,t6,t9,t10,t11,t12,t13,t14,t15,t16⟩:=hT'
   simp [t16,hw1]
   exact ⟨by omega,⟨_,_,_,_,_,_,hL',by constructor <;> simp [t5,t6,t9,t10,t11,t12,t13,t14,t15]⟩,by omega⟩
 ·have hi':i=l.length:=by omega
  subst hi'
  simp [mc3_l0_eq,t5,t16,hln]
  refine hQ _ _ _ _ _ _ _ _ hL ?_
  obtain ⟨t5,t6,t9,t10,t11,t12,t13,t14,t15,t16⟩:=hT
  constructor <;> simp [t5,t6,t9,t10,t11,t12,t13,t14,t15,t16]
end
theorem parts_same:sameL5 partsC partsC=true:=by kernel_rfl
theorem hasAll_parts {w:AW} (h1:PartsAt w):hasAll w laidL=true:=by
 obtain ⟨r1,h1⟩:=h1
 have e1:hasB w (0,partsC,140)=true:=by
  unfold hasB
  simp only [h1,parts_same,Nat.beq_refl,Bool.and_self]
 show (bif hasB w (0,partsC,140) then true else false)=true
 rw [e1]; rfl
def HasQ (ov:Ov):Prop:=∀ w,hasAll w laidL=true→ov 5 [] w=some (.ok (.ret (.bool true)) w .none)
theorem ruleQ {ov:Ov} (h:HasQ ov) {w:AW} (h1:PartsAt w) (m:Nat):(run Tryz.prog ov (m + 1)).call 5 [] w .none=.ok (.ret (.bool true)) w .none:=by
 show stepO Tryz.prog (run Tryz.prog ov m) 5 [] w .none (ov 5 [] w)=_
 rw [h w (hasAll_parts h1)]; rfl
theorem len23W {w w':AW} {v:Value} {l:List Int} (h:RowsV intC w v l):lenB Tryz.prog w' 23 v=.val (.int .i64 (l.length:Nat)) w':=by
 obtain ⟨a,c,rfl⟩:=h.len; simp
theorem run14 {ov:Ov} (ho:∀ args w,ov 14 args w=none) (m:Nat) (a b:Value) (U:List Int) (hU:U.length≤1000) (w:AW) (ha:RowsV intC w a U) (hb:RowsV intC w b U):(run Tryz.prog ov (m + 1)).call 14 [a,b] w .none=.ok (.ret (.bool true)) w .none:=by
 have key:∃ v w',(run Tryz.prog ov (m + 1)).call 14 [a,b] w .none=.ok (.ret v) w' .none∧v=.bool true∧w'=w:=by
  refine call_wp text14 (by simp) (ho _ _) ?_
  have hla:=fun w'=>len23W (w':=w') ha
  have hlb:=fun w'=>len23W (w':=w') hb
  simp [mc14,hla,hlb]
  refine wp_seqX (wp_blockX (wp_rounds (fun i t w'=>w'=w∧tget t 0=a∧tget t 1=b∧tget t 5=.bool true∧tget t 6=.int .i64 (i:Nat)∧i≤U.length) 2000 (by decide) ?_ ?_))
  ·simp
  ·rintro i t w' ⟨rfl,t0,t1,t5,t6,hi⟩
   by_cases hlt:i < U.length
   ·obtain ⟨z,hz⟩:∃ z,U[i]?=some z:=⟨_,List.getElem?_eq_getElem hlt⟩
    obtain ⟨b1,o1,q1,c1,e1,hr1⟩:=ha.at_ i hlt
    obtain ⟨b2,o2,q2,c2,e2,hr2⟩:=hb.at_ i hlt
    have hia1:=fun w=>ia23 w ⟨b1,o1,q1⟩ U.length c1 .i64 i hlt
    have hia2:=fun w=>ia23 w ⟨b2,o2,q2⟩ U.length c2 .i64 i hlt
    have d1:=hr1.int hz
    have d2:=hr2.int hz
    have hw:IntKind.wrap .i64 ((i:Int) + 1)=(i:Int) + 1:=wrap64_in (by omega) (by omega)
    subst e1 e2
    simp [mc14_l0,t0,t1,t5,t6,hlt,hia1,hia2,d1,d2,hw]
    omega
   ·have hi':i=U.length:=by omega
    subst hi'
    simp [mc14_l0,t0,t1,t5,t6,hla,tupV]
 obtain ⟨v,w',h,rfl,rfl⟩:=key
 exact h
section
variable {ov:Ov} {w:AW} {n11:Nat} {pv dv v31:Value} {ds:List Dt}
theorem loop1 (m:Nat) (hbox:w.heap.get n11=some (.cells [pv,dv] 40 false)) (hd:RowsV dtC w dv ds) (h31:RowsV intC w v31 (ds.map Dt.c)) (hlen:ds.length≤1000) (Q:Ex→Tm→AW→Prop) (t:Tm) (t11:tget t 11=.pointer (some ⟨n11,0,none⟩)) (t31:tget t 31=v31) (t33:tget t 33=.int .i64 0)
  (hQ:∀ t,Q (.exit 2) t w):wp (exM Tryz.prog (run Tryz.prog ov m) (.loop mc3_l1) t w) Q:=by
 refine wp_rounds (fun i t w'=>w'=w∧tget t 11=.pointer (some ⟨n11,0,none⟩)∧tget t 31=v31∧tget t 33=.int .i64 (i:Nat)∧i≤ds.length) 2000 (by decide) ⟨rfl,t11,t31,t33,Nat.zero_le _⟩ ?_
 clear t11 t31 t33
 rintro i t w' ⟨hw',t11,t31,t33,hi⟩
 rw [hw']
 clear hw' w'
 have hl:=fun w'=>len23W (w':=w') h31
 rw [List.length_map] at hl
 by_cases hlt:i < ds.length
 ·obtain ⟨d,hz⟩:∃ d,ds[i]?=some d:=⟨_,List.getElem?_eq_getElem hlt⟩
  have hz2:(ds.map Dt.c)[i]?=some d.c:=by rw [List.getElem?_map,hz]; rfl
  obtain ⟨b1,o1,q1,c1,e1,hr1⟩:=h31.at_ i (by simpa using hlt)
  obtain ⟨b2,o2,q2,c2,e2,hr2⟩:=hd.at_ i hlt
  rw [List.length_map] at e1
  have hia1:=fun w=>ia23 w ⟨b1,o1,q1⟩ ds.length c1 .i64 i hlt
  have hia2:=fun w=>ia38 w ⟨b2,o2,q2⟩ ds.length c2 .i64 i hlt
  have d1:=hr1.int hz2
  have d2:=hr2.rd1 (m:=3) (j:=2) (x:=.int .i64 d.c) dtC_length hz rfl
  have hw:IntKind.wrap .i64 ((i:Int) + 1)=(i:Int) + 1:=wrap64_in (by omega) (by omega)
  subst e1 e2
  simp [mc3_l1,t11,t31,t33,hlt,hbox,hia1,hia2,d1,d2,hw]
  omega
 ·have hi':i=ds.length:=by omega
  subst hi'
  simp [mc3_l1,t31,t33,hl]
  exact hQ _
theorem rest6 (m:Nat) (hq:HasQ ov) (hp:PartsAt w) (hbox:w.heap.get n11=some (.cells [pv,dv] 40 false)) (hd:RowsV dtC w dv ds) (h31:RowsV intC w v31 (ds.map Dt.c)) (hlen:ds.length≤1000) (Q:Ex→Tm→AW→Prop) (t:Tm) (t11:tget t 11=.pointer (some ⟨n11,0,none⟩)) (t31:tget t 31=v31)
  (hQ:∀ t w',tget t 4=.bool true→Q .ret t w'):wp (exM Tryz.prog (run Tryz.prog ov (m + 1)) mc3_r6 t w) Q:=by
 have r5:=ruleQ hq hp m
 simp [mc3_r6]
 refine wp_seqX (wp_blockX (loop1 (m + 1) hbox hd h31 hlen _ _ (by simp [t11]) (by simp [t31]) (by simp) (fun t=>?_)))
 simp [r5]
 exact hQ _ _ (by simp)
theorem rest5 (m:Nat) (hq:HasQ ov) (o14:∀ args w,ov 14 args w=none) (hp:PartsAt w) (hbox:w.heap.get n11=some (.cells [pv,dv] 40 false)) (hd:RowsV dtC w dv ds) (h31:RowsV intC w v31 (ds.map Dt.c)) (hlen:ds.length≤1000) {v26 v28 qv:Value} {U:List Int} (h26:RowsV intC w v26 []) (h28:RowsV intC w v28 U) (hqv:RowsV intC w qv U) (hU:U.length≤1000)
  (Q:Ex→Tm→AW→Prop) (t:Tm) (t11:tget t 11=.pointer (some ⟨n11,0,none⟩)) (t14:tget t 14=qv) (t26:tget t 26=v26) (t27:tget t 27=.int .i64 0) (t28:tget t 28=v28) (t29:tget t 29=.int .i64 0) (t31:tget t 31=v31) (t32:tget t 32=.int .i64 0)
  (hQ:∀ t w',tget t 4=.bool true→Q .ret t w'):wp (exM Tryz.prog (run Tryz.prog ov (m + 1)) mc3_r5 t w) Q:=by
 have fin:=fun t t11 t31=>rest6 (ov:=ov) m hq hp hbox hd h31 hlen Q t t11 t31 hQ
 have l26:=fun w'=>len23W (w':=w') h26
 have l31:=fun w'=>len23W (w':=w') h31
 have l38:=fun w'=>len38V (w':=w') hd
 have r14:=run14 (ov:=ov) o14 m v28 qv U hU w h28 hqv
 obtain ⟨a,c,rfl⟩:=hd.len
 simp [mc3_r5,t11,t14,t26,t27,t28,t29,t31,t32,l26,l31,l38,r14,hbox]
 exact fin _ (by simp [t11]) (by simp [t31])
end
structure No3 (ov:Ov):Prop where
 o7:∀ args w,ov 7 args w=none
 o10:∀ args w,ov 10 args w=none
 o11:∀ args w,ov 11 args w=none
 o12:∀ args w,ov 12 args w=none
 o13:∀ args w,ov 13 args w=none
 o14:∀ args w,ov 14 args w=none
 o25:∀ args w,ov 25 args w=none
 o26:∀ args w,ov 26 args w=none
 o27:∀ args w,ov 27 args w=none
 o30:∀ args w,ov 30 args w=none
 o46:∀ args w,ov 46 args w=none
 o48:∀ args w,ov 48 args w=none
 o67:∀ args w,ov 67 args w=none
structure Has3 (ov:Ov):Prop where
 h4:HasP ov 4 F4
 h6:HasP ov 6 F6
 h8:HasP ov 8 F8
 h9:HasP ov 9 F9
 h20:HasP ov 20 F20
 h21:HasP ov 21 F21
 h24:HasP ov 24 S24.F
 h28:HasP ov 28 S28.F
 h29:HasP ov 29 S29.F
 h47:HasP ov 47 S47.F
 h50:HasP ov 50 S50.F
 hq:HasQ ov
section
variable {ov:Ov} {w:AW} {n11:Nat} {pv dv qv:Value} {ps:List Pt} {ds:List Dt} {U:List Int}
theorem rest4 (m:Nat) (hn:No3 ov) (hh:Has3 ov) (hp:PartsW w) (hlw:w.lim≤w.next) (hbox:w.heap.get n11=some (.cells [pv,dv] 40 false)) (hn11:n11 < w.next) (hL:LedV w pv dv ps ds) (hC:chE ps ds=0) (hs:shL ps ds=[]) (hl:lfL ps ds=U) (ha:clA ps ds=ds.map Dt.c) (hlen:ds.length≤1000) (hqv:RowsV intC w qv U) (hU:U.length≤1000)
  (Q:Ex→Tm→AW→Prop) (t:Tm) (t11:tget t 11=.pointer (some ⟨n11,0,none⟩)) (t14:tget t 14=qv)
  (hQ:∀ t w',tget t 4=.bool true→Q .ret t w'):wp (exM Tryz.prog (run Tryz.prog ov (m + 4)) mc3_r4 t w) Q:=by
 obtain ⟨x1,w1,c11,v1,rfl,hr1,u1⟩:=call11 m hn.o11 hn.o25 hn.o46 hn.o67 hn.o26 hh.h47 hh.h24 hh.h29 pv dv ps ds w hlw hL
 have L1:=hL.up u1
 have l1:w1.lim≤w1.next:=by have:=u1.lim; have:=u1.next; omega
 obtain ⟨x2,w2,c12,v2,rfl,hr2,u2⟩:=call12 m hn.o12 hn.o25 hn.o46 hn.o67 hn.o27 hn.o48 hh.h47 hh.h24 hh.h29 hh.h28 pv dv ps ds w1 l1 L1
 have L2:=L1.up u2
 have l2:w2.lim≤w2.next:=by have:=u2.lim; have:=u2.next; omega
 obtain ⟨x3,w3,c13,v3,v4,rfl,hr3,hr4,u3⟩:=call13 m hn.o13 hn.o25 hn.o46 hn.o67 hn.o30 hn.o27 hn.o48 hh.h47 hh.h24 hh.h29 hh.h50 pv dv ps ds w2 l2 L2
 have L3:=L2.up u3
 have u02:=u1.trans u2
 have u03:=u02.trans u3
 rw [hs] at hr1
 rw [hl] at hr2
 rw [ha] at hr4
 rw [hC] at c11 c12 c13
 have b1:w1.heap.get n11=_:=u1.at hn11
 have b2:w2.heap.get n11=_:=u02.at hn11
 have b3:w3.heap.get n11=_:=u03.at hn11
 rw [hbox] at b1 b2 b3
 have fin:=fun t t11 t14 t26 t27 t28 t29 t31 t32=>rest5 (ov:=ov) (m + 3) hh.hq hn.o14 (hp.old u03.old u03.next).parts b3 L3.d hr4 hlen (hr1.up (u2.trans u3)) (hr2.up u3) (hqv.up u03) hU Q t t11 t14 t26 t27 t28 t29 t31 t32 hQ
 obtain ⟨a1,k1,e1⟩:=hr1.len
 obtain ⟨a2,k2,e2⟩:=hr2.len
 obtain ⟨a3,k3,e3⟩:=hr3.len
 obtain ⟨a4,k4,e4⟩:=hr4.len
 have j1:notJunk v1=some v1:=by rw [e1]; rfl
 have j2:notJunk v2=some v2:=by rw [e2]; rfl
 have j3:notJunk v3=some v3:=by rw [e3]; rfl
 have j4:notJunk v4=some v4:=by rw [e4]; rfl
 simp [mc3_r4,t11,hbox,c11,b1,c12,b2,c13,j1,j2,j3,j4]
 exact fin _ (by simp [t11]) (by simp [t14]) (by simp) (by simp) (by simp) (by simp) (by simp) (by simp)
end
theorem ia37_0 (w:AW) (a:Addr) (n c:Nat) (hn:0 < n):indexAddrA Tryz.prog w 37 (.slice (some a) n c) (.int .i64 0)=.val (.pointer (some (a.add (0 * 2)))) w:=ia37 w a n c .i64 0 hn
theorem ia23_0 (w:AW) (a:Addr) (n c:Nat) (hn:0 < n):indexAddrA Tryz.prog w 23 (.slice (some a) n c) (.int .i64 0)=.val (.pointer (some (a.add (0 * 1)))) w:=ia23 w a n c .i64 0 hn
section
variable {pr pt:Int} {l:List Pod} {pl R H G:List Int}
theorem Good.fit (h:Good pr pt l pl R H G):∀ x ∈ lsN pr pt l pl R H G l.length,(0≤x.1∧x.1≤x.2)∧x.2≤16000:=by
 intro x hx
 obtain ⟨i,hi,rfl⟩:=List.mem_map.1 hx
 obtain ⟨b1,b2,b3,b4⟩:=h.bd (List.mem_range.1 hi)
 exact ⟨⟨b1,b2⟩,by omega⟩
theorem Good.ok (h:Good pr pt l pl R H G):chE (partL (casN pr pt l pl R H G l.length) l.length) (lendD 0 (lsN pr pt l pl R H G l.length))=0:=by
 obtain ⟨b1,b2,_,_⟩:=h.cas _ (Nat.le_refl _)
 have h6:=h.h6
 have hp:=par_ok (cash:=casN pr pt l pl R H G l.length) (by simp only [inI,Bool.and_eq_true,decide_eq_true_eq]; omega) l.length h6
 have hd:=lend_debB (ps:=partL (casN pr pt l pl R H G l.length) l.length) (l:=lsN pr pt l pl R H G l.length) (by rw [partL_len,lsN_len]) (by rw [lsN_len]; exact h6) fun x hx=>by have:=h.fit x hx; omega
 unfold chE ledB
 rw [hp,hd]; rfl
theorem Good.lent (h:Good pr pt l pl R H G):Lent (casN pr pt l pl R H G l.length) (partL (casN pr pt l pl R H G l.length) l.length) (lsN pr pt l pl R H G l.length) where
 c0:=by simp [caP,partL]
 cp:=fun p hp=>by
  unfold caP
  rw [if_pos (by omega)]
  obtain ⟨i,rfl⟩:∃ i:Nat,p=(i:Int) + 1:=⟨(p - 1).toNat,by omega⟩
  have e:((i:Int) + 1).toNat=i + 1:=by omega
  rw [e]
  simp only [partL,List.getElem?_cons_succ,List.getElem?_map]
  cases (List.range l.length)[i]? <;> rfl
 fit:=fun x hx=>(h.fit x hx).1
 sum:=by
  obtain ⟨_,_,_,b4⟩:=h.cas _ (Nat.le_refl _)
  have:=(h.sums l.length).1
  omega
end
section
variable {ov:Ov} {w0 w:AW} {n11 n15:Nat} {pv dv qv v5 v6 vr vh vg:Value} {l:List Pod} {pl R H G:List Int} {BP BD BW:Nat} {pr pt:Int}
theorem rest3 (m:Nat) (hn:No3 ov) (hh:Has3 ov) (hG:Good pr pt l pl R H G) (hP:PartsW w) (h0:0 < n11)
  (hL:Lp w0 n11 n15 pv dv qv (partL 0 l.length) (lendD 0 (lsN pr pt l pl R H G l.length)) (0::(lsN pr pt l pl R H G l.length).map fun x=>x.2 - x.1) BP BD BW w) (Q:Ex→Tm→AW→Prop) (t:Tm)
  (hT:Tp v5 v6 pr pt (casN pr pt l pl R H G l.length) (oweN pr pt l pl R H G l.length) n11 n15 qv l.length t)
  (hQ:∀ t w',tget t 4=.bool true→Q .ret t w'):wp (exM Tryz.prog (run Tryz.prog ov (m + 4)) mc3_r3 t w) Q:=by
 have hC:=hG.ok
 have hLn:=hG.lent
 have hk:=ch_lk hC
 have hls:=lsN_len pr pt l pl R H G l.length
 have es:shL (partL (casN pr pt l pl R H G l.length) l.length) (lendD 0 (lsN pr pt l pl R H G l.length))=[]:=by
  unfold shL; rw [if_pos hC,partL_len]; exact hLn.short hk _
 have ea:clA (partL (casN pr pt l pl R H G l.length) l.length) (lendD 0 (lsN pr pt l pl R H G l.length))=(lendD 0 (lsN pr pt l pl R H G l.length)).map Dt.c:=by
  unfold clA; rw [if_pos hC]; exact hLn.paid hk
 have el:lfL (partL (casN pr pt l pl R H G l.length) l.length) (lendD 0 (lsN pr pt l pl R H G l.length))=(casN pr pt l pl R H G l.length - oweN pr pt l pl R H G l.length)::(lsN pr pt l pl R H G l.length).map fun x=>x.2 - x.1:=by
  unfold lfL; rw [if_pos hC,partL_len]
  have:=hLn.leftL hk
  rw [hls,(hG.sums l.length).2] at this
  exact this
 obtain ⟨c1,c2,c3,c4⟩:=hG.cas _ (Nat.le_refl _)
 have h6:=hG.h6
 have hdl:=lend_len (lsN pr pt l pl R H G l.length) 0
 rw [hls] at hdl
 have hpl:=partL_len 0 l.length
 have hql:((0:Int)::(lsN pr pt l pl R H G l.length).map fun x=>x.2 - x.1).length=l.length + 1:=by rw [List.length_cons,List.length_map,hls]
 generalize hds:lendD 0 (lsN pr pt l pl R H G l.length)=ds at *
 generalize hws:(lsN pr pt l pl R H G l.length).map (fun x=>x.2 - x.1)=ws at *
 generalize hcs:casN pr pt l pl R H G l.length=C at *
 generalize hos:oweN pr pt l pl R H G l.length=O at *
 have h11:=hL.h11; have h15:=hL.h15; have hnx:=hL.next; have hlm:=hL.lim; have hli:=hL.hlim
 have hbp:=hL.p.2.2.1; have hbq:=hL.q.2.2.1; have np:=hL.np; have nq:=hL.nq; have pq:=hL.pq
 have hlw:w.lim≤w.next:=by omega
 obtain ⟨w1,hw1⟩:∃ w1:AW,w1=⟨w.heap.put w.next (some (.cells [] 36 false)),w.next + 1,w.lim⟩:=⟨_,rfl⟩
 have u1:Up w w1:=by rw [hw1]; exact (Up.refl w).add _
 have n1:w1.next=w.next + 1:=by rw [hw1]
 obtain ⟨s1,s2,s3⟩:=(hL.up u1).p.src ptC_length (by decide)
 have hap:=append_lit (P:=Tryz.prog) list37 elem37 sz36 small36 (w:=w1) (B:=w.next) s1 s2 (flat_length ptC_length _) s3 (by omega)
 obtain ⟨tl,htl⟩:∃ tl:List Pt,tl=(List.range l.length).map fun i=>⟨growS i,0⟩:=⟨_,rfl⟩
 have e0:partL 0 l.length=⟨buyS,0⟩::tl:=by rw [htl]; rfl
 have eC:partL C l.length=⟨buyS,C⟩::tl:=by rw [htl]; rfl
 have ef:(partL 0 l.length).flatMap ptC=.string buyS::.int .i64 0::tl.flatMap ptC:=by rw [e0]; rfl
 have eg:(partL C l.length).flatMap ptC=.string buyS::.int .i64 C::tl.flatMap ptC:=by rw [eC]; rfl
 rw [ef,hpl,n1] at hap
 obtain ⟨sq,hqs⟩:=hL.q.slice
 rw [hql] at hqs
 have hqb:=hL.q.2.1
 have eq0:((0:Int)::ws).flatMap intC=.int .i64 0::ws.flatMap intC:=rfl
 rw [eq0] at hqb
 have hbox:=hL.box
 have hok:=hL.p.ok
 have hT':=hT
 obtain ⟨t5,t6,t9,t10,t11,t12,t13,t14,t15,t16⟩:=hT'
 have hwr:IntKind.wrap .i64 (C - O)=C - O:=wrap64_in (by omega) (by omega)
 obtain ⟨pv',hpv'⟩:∃ pv':Value,pv'=.slice (some ⟨w.next + 1,0,none⟩) (l.length + 1) (l.length + 1):=⟨_,rfl⟩
 obtain ⟨w5,hw5⟩:∃ w5:AW,w5=⟨((((w1.heap.put (w.next + 1) (some (.cells (.string buyS::.int .i64 0::tl.flatMap ptC) 36 false))).put (w.next + 1) (some (.cells (.string buyS::.int .i64 C::tl.flatMap ptC) 36 false))).put n11 (some (.cells [pv',dv] 40 false))).put BW (some (.cells (.int .i64 (C - O)::ws.flatMap intC) 3 false))),w.next + 1 + 1,w1.lim⟩:=⟨_,rfl⟩
 have keep:∀ x,x < w.next→x ≠ n11→x ≠ BW→w5.heap.get x=w.heap.get x:=fun x h1 h2 h3=>by
  rw [hw5]
  show ((((w1.heap.put _ _).put _ _).put _ _).put _ _).get x=_
  rw [get_put,if_neg h3,get_put,if_neg h2,get_put,if_neg (by omega),get_put,if_neg (by omega),u1.at h1]
 have hbox5:w5.heap.get n11=some (.cells [pv',dv] 40 false):=by
  rw [hw5]
  show ((((w1.heap.put _ _).put _ _).put _ _).put _ _).get n11=_
  rw [get_put,if_neg (by omega),get_put,if_pos rfl]
 have n5:w5.next=w.next + 1 + 1:=by rw [hw5]
 have l5:w5.lim=w.lim:=by rw [hw5,hw1]
 have hp5:RowsV ptC w5 pv' (partL C l.length):=.inr ⟨w.next + 1,0,none,l.length + 1,by rw [hpv',partL_len],⟨[],[],36,false,by
  rw [hw5,List.nil_append,List.append_nil,eg]
  show ((((w1.heap.put _ _).put _ _).put _ _).put _ _).get (w.next + 1)=_
  rw [get_put,if_neg (by omega),get_put,if_neg (by omega),get_put,if_pos rfl],rfl⟩,by omega⟩
 have hd5:RowsV dtC w5 dv ds:=(hL.d.keep (w':=w5) (fun hne hb1 hb2=>keep BD hb2 (by omega) (by have:=hL.qd hne; omega)) (by omega)).rows
 have hq5:RowsV intC w5 qv ((C - O)::ws):=.inr ⟨BW,0,sq,l.length + 1,by rw [hqs]; rw [List.length_cons] at hql ⊢; rw [hql],⟨[],[],3,false,by
  rw [hw5,List.nil_append,List.append_nil]
  show ((((w1.heap.put _ _).put _ _).put _ _).put _ _).get BW=_
  rw [get_put,if_pos rfl]; rfl,rfl⟩,by omega⟩
 have hP5:PartsW w5:=by
  obtain ⟨⟨ro,g⟩,_⟩:=hP
  exact ⟨⟨ro,by rw [keep 0 (by omega) (by omega) (by omega)]; exact g⟩,by omega⟩
 have hLed:LedV w5 pv' dv (partL C l.length) ds:=⟨hp5,hd5,⟨_,_,_,hpv',Nat.le_refl _⟩,by
  rcases hL.d with ⟨_,e⟩ | ⟨e,_⟩
  ·exact ⟨_,_,_,e,Nat.le_refl _⟩
  ·exact ⟨_,_,_,e,Nat.le_refl _⟩⟩
 have fin:∀ t:Tm,tget t 11=.pointer (some ⟨n11,0,none⟩)→tget t 14=qv→wp (exM Tryz.prog (run Tryz.prog ov (m + 4)) mc3_r4 t w5) Q:=fun t t11 t14 =>
  rest4 m hn hh hP5 (by omega) hbox5 (by omega) hLed hC es el ea (by omega) hq5 (by rw [List.length_cons] at hql ⊢; omega) Q t t11 t14 hQ
 have m1:¬ n11=w.next:=by omega
 have m2:¬ n11=w.next + 1:=by omega
 have m3:¬ BW=w.next:=by omega
 have m4:¬ BW=w.next + 1:=by omega
 have m5:¬ BW=n11:=by omega
 have k1:w.lim≤w.next + 1:=by omega
 have k2:w.lim≤n11:=by omega
 have k3:w.lim≤BW:=by omega
 have i1:=fun w a n c=>ia37_0 w a (n + 1) c (Nat.succ_pos n)
 have i2:=fun w a n c=>ia23_0 w a (n + 1) c (Nat.succ_pos n)
 rw [hw5,hpv'] at fin
 simp only [hw1] at fin hap
 rw [hqs] at t14 fin
 have bs:(⟨⟨[98,117,121,101,114]⟩⟩:ByteArray)=buyS:=rfl
 simp [mc3_r3,t11,t12,t13,t14,hbox,hok,m1,m2,m3,m4,m5,k1,k2,k3,hap,i1,i2,hqb,hwr,bs]
 exact fin _ (by simp [t11]) (by simp [t14])
end
theorem r6m {ov:Ov} (k:HasP ov 6 F6) (m:Nat) (n:Int) {s:Int} (hs:s≤2 ^ 60) (w:AW):(run Tryz.prog ov (m + 1)).call 6 [.int .i64 n,.int .i64 s] w .none=.ok (.ret (.int .i64 (wrapI n s))) w .none:=k.call (by
 show (bif decide (s≤2 ^ 60) then some (Value.int .i64 (wrapI n s)) else none)=_
 rw [decide_eq_true hs]; rfl)
section
variable {ov:Ov} {w0 w:AW} {n11 n15:Nat} {pv0 qv0 v5 v6 vr vh vg:Value} {l:List Pod} {pl R H G:List Int} {BP0 BD0 BW0:Nat} {pr pt:Int}
theorem rest2 (m:Nat) (hn:No3 ov) (hh:Has3 ov) (hG:Good pr pt l pl R H G) (h0:0 < n11) (hR:Rd v5 v6 l pl n15 vr vh vg R H G w0)
  (hL0:Lp w0 n11 n15 pv0 (.slice none 0 0) qv0 (partL 0 0) [] [0] BP0 BD0 BW0 w0) (Q:Ex→Tm→AW→Prop) (t:Tm)
  (t5:tget t 5=v5) (t6:tget t 6=v6) (t9:tget t 9=.int .i64 pr) (t10:tget t 10=.int .i64 pt) (t11:tget t 11=.pointer (some ⟨n11,0,none⟩)) (t12:tget t 12=.int .i64 0) (t13:tget t 13=.int .i64 0) (t14:tget t 14=qv0) (t15:tget t 15=.pointer (some ⟨n15,0,none⟩))
  (hQ:∀ t w',tget t 4=.bool true→Q .ret t w'):wp (exM Tryz.prog (run Tryz.prog ov (m + 4)) mc3_r2 t w0) Q:=by
 obtain ⟨sq0,hpv0⟩:=hL0.p.slice
 have hbox0:=hL0.box
 rw [hpv0] at hbox0
 have h11:=hL0.h11
 simp [mc3_r2]
 refine wp_seqX (wp_blockX (loop0 (m + 3) hn.o10 hh.h4 hh.h8 hh.h9 hG hR hL0 _ _ ?_ ?_))
 ·constructor <;> simp [t5,t6,t9,t10,t11,t12,t13,t14,t15]
 ·intro t w pv dv qv BP BD BW hL hT
  exact rest3 m hn hh hG (hR.skip hbox0 hL.old hL.next (by omega)).parts h0 hL Q t hT hQ
theorem rest1 (m:Nat) (hn:No3 ov) (hh:Has3 ov) (b0:Nat) (lv pv bv:Value) (price part:Int) (bits:List Int) (hbox:w.heap.get b0=some (.cells [lv,pv,.int .i64 price,.int .i64 part] 25 false)) (hb0:b0 < w.next) (hlw:w.lim≤w.next) (hP:PartsW w) (hl5:PodsV w v5 l) (hp6:RowsV intC w v6 pl) (hbv:RowsV intC w bv bits) (hbl:bits.length≤2 ^ 60) (hB:podsB l=true) (hPl:planB l pl=true) (h6:l.length≤6)
  (Q:Ex→Tm→AW→Prop) (t:Tm) (t1:tget t 1=bv) (t2:tget t 2=.pointer (some ⟨b0,0,none⟩)) (t5:tget t 5=v5) (t6:tget t 6=v6)
  (hQ:∀ t w',tget t 4=.bool true→Q .ret t w'):wp (exM Tryz.prog (run Tryz.prog ov (m + 4)) mc3_r1 t w) Q:=by
 have hpr:=wrapI_bd (n:=price) (s:=41) (by decide)
 have hpt:=wrapI_bd (n:=part) (s:=1001) (by decide)
 have c6:=fun w=>r6m hh.h6 (m + 3) price (s:=41) (by decide) w
 have c6':=fun w=>r6m hh.h6 (m + 3) part (s:=1001) (by decide) w
 obtain ⟨pr,hpr0⟩:∃ pr,pr=wrapI price 41:=⟨_,rfl⟩
 obtain ⟨pt,hpt0⟩:∃ pt,pt=wrapI part 1001:=⟨_,rfl⟩
 rw [← hpr0] at hpr c6
 rw [← hpt0] at hpt c6'
 obtain ⟨w1,hw1⟩:∃ w1:AW,w1=⟨w.heap.put w.next (some (.cells [.string buyS,.int .i64 0] 36 false)),w.next + 1,w.lim⟩:=⟨_,rfl⟩
 obtain ⟨w2,hw2⟩:∃ w2:AW,w2=⟨(w1.heap.put (w.next + 1) (some (.cells [.slice none 0 0,.slice none 0 0] 40 false))).put (w.next + 1) (some (.cells [.slice (some ⟨w.next,0,some 2⟩) 1 1,.slice none 0 0] 40 false)),w.next + 1 + 1,w1.lim⟩:=⟨_,rfl⟩
 obtain ⟨w3,hw3⟩:∃ w3:AW,w3=⟨w2.heap.put (w.next + 1 + 1) (some (.cells [.int .i64 0] 3 false)),w.next + 1 + 1 + 1,w2.lim⟩:=⟨_,rfl⟩
 have g1:∀ x,x < w.next→w3.heap.get x=w.heap.get x:=fun x hx=>by
  rw [hw3,hw2,hw1]
  show ((((w.heap.put _ _).put _ _).put _ _).put _ _).get x=_
  rw [get_put,if_neg (by omega),get_put,if_neg (by omega),get_put,if_neg (by omega),get_put,if_neg (by omega)]
 have u3:Up w w3:=⟨g1,by rw [hw3]; show w.next≤w.next + 1 + 1 + 1; omega,by rw [hw3,hw2,hw1]⟩
 have n3:w3.next=w.next + 1 + 1 + 1:=by rw [hw3]
 have ga:w3.heap.get w.next=some (.cells [.string buyS,.int .i64 0] 36 false):=by
  rw [hw3,hw2,hw1]
  show ((((w.heap.put _ _).put _ _).put _ _).put _ _).get _=_
  rw [get_put,if_neg (by omega),get_put,if_neg (by omega),get_put,if_neg (by omega),get_put,if_pos rfl]
 have gb:w3.heap.get (w.next + 1)=some (.cells [.slice (some ⟨w.next,0,some 2⟩) 1 1,.slice none 0 0] 40 false):=by
  rw [hw3,hw2]
  show (((w1.heap.put _ _).put _ _).put _ _).get _=_
  rw [get_put,if_neg (by omega),get_put,if_pos rfl]
 have gc:w3.heap.get (w.next + 1 + 1)=some (.cells [.int .i64 0] 3 false):=by rw [hw3]; simp
 obtain ⟨x,w4,c7,vr,vh,vg,rfl,hr,hhh,hg,ho4,nx4,lm4,cr,ch,cg⟩:=call7 (ov:=ov) (fm:=m + 2) hn.o7 hh.h21 hh.h20 bv v5 bits l w3 (by rw [u3.lim,n3]; omega) (hl5.old u3.old u3.next) (hbv.up u3) hbl hB
 have u34:Up w3 w4:=⟨ho4,nx4,lm4⟩
 have u4:=u3.trans u34
 obtain ⟨w5,hw5⟩:∃ w5:AW,w5=⟨(w4.heap.put w4.next (some (.cells [.slice none 0 0,.slice none 0 0,.slice none 0 0] 42 false))).put w4.next (some (.cells [vr,vh,vg] 42 false)),w4.next + 1,w4.lim⟩:=⟨_,rfl⟩
 have u45:Up w4 w5:=by rw [hw5]; exact ((Up.refl w4).add _).put (Nat.le_refl _) (Nat.le_refl _)
 have u5:=u4.trans u45
 have u35:=u34.trans u45
 have n5:w5.next=w4.next + 1:=by rw [hw5]
 have g15:w5.heap.get w4.next=some (.cells [vr,vh,vg] 42 false):=by rw [hw5]; simp
 have hT:=choose_truth hB bits
 have hGd:Good pr pt l pl (pk (fR bits) l l.length) (pk (fH bits) l l.length) (pk (fG bits) l l.length):=⟨hB,hPl,hT,⟨hpr.1,by omega⟩,⟨hpt.1,by omega⟩,h6⟩
 have hR:Rd v5 v6 l pl w4.next vr vh vg (pk (fR bits) l l.length) (pk (fH bits) l l.length) (pk (fG bits) l l.length) w5:=⟨hl5.old u5.old u5.next,hp6.up u5,g15,hr.up u45,hhh.up u45,hg.up u45,cr,ch,cg,hP.old u5.old u5.next,by omega⟩
 have hL0:Lp w5 (w.next + 1) w4.next (.slice (some ⟨w.next,0,some 2⟩) 1 1) (.slice none 0 0) (.slice (some ⟨w.next + 1 + 1,0,some 2⟩) 1 1) (partL 0 0) [] [0] w.next 0 (w.next + 1 + 1) w5:={
  old:=fun x hx hne=>rfl
  box:=by rw [u35.at (by omega)]; exact gb
  p:=⟨by simp [partL],by rw [u35.at (by omega)]; exact ga,by omega,.inl rfl⟩
  d:=.inl ⟨rfl,rfl⟩
  q:=⟨by simp,by rw [u35.at (by omega)]; exact gc,by omega,.inl rfl⟩
  pq:=by omega
  pd:=fun h=>absurd rfl h
  qd:=fun h=>absurd rfl h
  np:=by omega
  nq:=by omega
  next:=Nat.le_refl _
  lim:=rfl
  h11:=by omega
  h15:=n5.symm
  hlim:=by rw [u5.lim]; omega }
 have fin:∀ t:Tm,tget t 5=v5→tget t 6=v6→tget t 9=.int .i64 pr→tget t 10=.int .i64 pt→tget t 11=.pointer (some ⟨w.next + 1,0,none⟩)→tget t 12=.int .i64 0→tget t 13=.int .i64 0→tget t 14=.slice (some ⟨w.next + 1 + 1,0,some 2⟩) 1 1→tget t 15=.pointer (some ⟨w4.next,0,none⟩)→wp (exM Tryz.prog (run Tryz.prog ov (m + 4)) mc3_r2 t w5) Q:=fun t t5 t6 t9 t10 t11 t12 t13 t14 t15 =>
  rest2 m hn hh hGd (by omega) hR hL0 Q t t5 t6 t9 t10 t11 t12 t13 t14 t15 hQ
 have si:∀ z:Int,sameVal 5 (.int .i64 z) (.int .i64 z)=true:=fun z=>sameN_int 4 _ _
 have hl1:w.lim≤w.next + 1:=by omega
 have hl4:w4.lim≤w4.next:=by rw [u4.lim]; have:=u4.next; omega
 rw [hw5] at fin
 simp only [hw3,hw2,hw1] at c7
 obtain ⟨a1,k1,e1⟩:=hr.len
 obtain ⟨a2,k2,e2⟩:=hhh.len
 obtain ⟨a3,k3,e3⟩:=hg.len
 have sg:singles [vr,vh,vg]=true:=by rw [e1,e2,e3]; rfl
 have bs:(⟨⟨[98,117,121,101,114]⟩⟩:ByteArray)=buyS:=rfl
 simp [mc3_r1,t1,t2,t5,hbox,si,c6,c6',bs,hl1,c7,hl4,sg,cellsOf_agg]
 exact fin _ (by simp [t5]) (by simp [t6]) (by simp) (by simp) (by simp) (by simp) (by simp) (by simp) (by simp)
end
theorem elem22:elemA Tryz.prog 22=some 45:=by kernel_rfl
theorem sz45:szOf Tryz.prog 45=some 8:=by kernel_rfl
theorem bi_min (w:AW) (ts:Array TypeId) (ty:TypeId) (args:List Value):builtinA Tryz.prog w .min ts ty args=minB w args:=rfl
theorem min2 (w:AW) (k j:IntKind) (a b:Int):minB w [.int k a,.int j b]=.val (.int k (min a b)) w:=by
 have h:minB w [.int k a,.int j b]=vR w (some (.int k (bif intLt b a then b else a))):=rfl
 rw [h,intLt_eq]
 by_cases h:b < a
 ·have:min a b=b:=by omega
  simp [h,this,vR]
 ·have:min a b=a:=by omega
  simp [h,this,vR]
theorem cut_none {P:Program} {st e:TypeId} {sz:Nat} (h1:elemA P st=some e) (h2:szOf P e=some sz) (w:AW) (a:Option Addr) (c:Nat) :
  ∃ a' c',sliceA P w st (.slice a 0 c) none (some (.int .i64 ((0:Nat):Int))) none=.val (.slice a' 0 c') w:=by
 have hb:Nat.ble 0 c=true:=Nat.ble_eq_true_of_le (Nat.zero_le _)
 cases a with
 | none =>
  refine ⟨none,0,?_⟩
  show sliceA P w st (.slice none 0 c) none (some (.int .i64 (Int.ofNat 0))) none=_
  simp [sliceA,sliceB1,h1,h2,sliceRow,boundA,hb]
 | some a =>
  cases hr:rowElem w a.block with
  | none =>
   refine ⟨some ⟨a.block,a.off,some 1⟩,c,?_⟩
   show sliceA P w st (.slice (some a) 0 c) none (some (.int .i64 (Int.ofNat 0))) none=_
   simp [sliceA,sliceB1,h1,h2,sliceRow,boundA,hb,cutR,cutAddr,hr]
  | some e' =>
   refine ⟨some ⟨a.block,a.off,bif Nat.beq e e' && a.spot.isNone then none else some 1⟩,c,?_⟩
   show sliceA P w st (.slice (some a) 0 c) none (some (.int .i64 (Int.ofNat 0))) none=_
   simp [sliceA,sliceB1,h1,h2,sliceRow,boundA,hb,cutR,cutAddr,hr]
theorem head_pods {w:AW} {v:Value} {L:List Pod} (h:PodsV w v L) (hc:∃ a n c,v=.slice a n c∧n≤c) {k:Nat} (hk:k≤L.length) :
  ∃ a n c,sliceA Tryz.prog w 22 v none (some (.int .i64 (k:Int))) none=.val (.slice a n c) w∧PodsV w (.slice a n c) (L.take k):=by
 rcases h with ⟨a,c,rfl,rfl⟩ | ⟨b,sq,c,rfl,⟨rest,e,ro,h1⟩,h3⟩
 ·obtain rfl:k=0:=by simpa using hk
  obtain ⟨a',c',h⟩:=cut_none elem22 sz45 w a c
  exact ⟨a',0,c',h,.inl ⟨a',c',rfl,rfl⟩⟩
 ·obtain ⟨a0,n0,c0,e0,hle⟩:=hc
  simp only [Value.slice.injEq] at e0
  obtain ⟨_,e1,e2⟩:=e0
  have hs:=slice_head elem22 sz45 (w:=w) (a:=⟨b,0,sq⟩) (n:=L.length) (c:=c) (k:=k) h1 (by omega)
  refine ⟨_,_,_,hs,.inr ⟨b,_,c,by rw [List.length_take,Nat.min_eq_left hk],⟨podsC (L.drop k)++rest,e,ro,?_⟩,h3⟩⟩
  rw [h1]
  have:podsC L=podsC (L.take k)++podsC (L.drop k):=by
   unfold podsC
   rw [← List.flatMap_append,List.take_append_drop]
  rw [this,List.append_assoc]
theorem head_ints {w:AW} {v:Value} {L:List Int} (h:RowsV intC w v L) (hc:∃ a n c,v=.slice a n c∧n≤c) {k:Nat} (hk:k≤L.length) :
  ∃ a n c,sliceA Tryz.prog w 23 v none (some (.int .i64 (k:Int))) none=.val (.slice a n c) w∧RowsV intC w (.slice a n c) (L.take k):=by
 rcases h with ⟨rfl,a,c,rfl⟩ | ⟨b,off,sq,c,rfl,⟨pre,rest,e,ro,h1,h2⟩,h3⟩
 ·obtain rfl:k=0:=by simpa using hk
  obtain ⟨a',c',h⟩:=cut_none elem23 size3 w a c
  exact ⟨a',0,c',h,.inl ⟨rfl,a',c',rfl⟩⟩
 ·obtain ⟨a0,n0,c0,e0,hle⟩:=hc
  simp only [Value.slice.injEq] at e0
  obtain ⟨_,e1,e2⟩:=e0
  have hs:=slice_head elem23 size3 (w:=w) (a:=⟨b,off,sq⟩) (n:=L.length) (c:=c) (k:=k) h1 (by omega)
  refine ⟨_,_,_,hs,.inr ⟨b,off,_,c,by rw [List.length_take,Nat.min_eq_left hk],⟨pre,(L.drop k).flatMap intC++rest,e,ro,?_,h2⟩,h3⟩⟩
  rw [h1]
  have:L.flatMap intC=(L.take k).flatMap intC++(L.drop k).flatMap intC:=by rw [← List.flatMap_append,List.take_append_drop]
  rw [this,List.append_assoc]
section
variable {ov:Ov} {lv pv bv:Value} {l:List Pod} {pl bits:List Int} {price part:Int} {w:AW}
theorem whole3 (m:Nat) (hn:No3 ov) (hh:Has3 ov) (hl:w.lim≤w.next) (hP:PartsW w) (hbits:bits.length≤2 ^ 60)
  (h1:PodsV w lv l) (h2:RowsV intC w pv pl) (h3:RowsV intC w bv bits) (k1:∃ a n c,lv=.slice a n c∧n≤c) (k2:∃ a n c,pv=.slice a n c∧n≤c) (Q:Ex→Tm→AW→Prop) (t:Tm)
  (t0:tget t 0=.agg ⟨[lv,pv,.int .i64 price,.int .i64 part]⟩) (t1:tget t 1=bv) (hQ:∀ t w',tget t 4=.bool true→Q .ret t w') :
  wp (exM Tryz.prog (run Tryz.prog ov (m + 4)) mc3 t w) Q:=by
 obtain ⟨w1,hw1⟩:∃ w1:AW,w1=⟨w.heap.put w.next (some (.cells [lv,pv,.int .i64 price,.int .i64 part] 25 false)),w.next + 1,w.lim⟩:=⟨_,rfl⟩
 have u1:Up w w1:=by rw [hw1]; exact (Up.refl w).add _
 have n1:w1.next=w.next + 1:=by rw [hw1]
 have hb1:w1.heap.get w.next=some (.cells [lv,pv,.int .i64 price,.int .i64 part] 25 false):=by rw [hw1]; simp
 have p1:=h1.old u1.old u1.next
 have p2:=h2.up u1
 obtain ⟨a5,n5,c5,s5,q5⟩:=head_pods p1 k1 (k:=min l.length 6) (Nat.min_le_left _ _)
 obtain ⟨l5,hl5⟩:∃ l5,l5=l.take (min l.length 6):=⟨_,rfl⟩
 have ln5:l5.length=min l.length 6:=by rw [hl5,List.length_take]; omega
 rw [← hl5] at q5
 obtain ⟨a6,n6,c6,s6,q6⟩:=head_ints p2 k2 (k:=min pl.length l5.length) (Nat.min_le_left _ _)
 obtain ⟨l6,hl6⟩:∃ l6,l6=pl.take (min pl.length l5.length):=⟨_,rfl⟩
 rw [← hl6] at q6
 have e5:min (l.length:Int) 6=((min l.length 6:Nat):Int):=by omega
 have e6:min (pl.length:Int) (l5.length:Int)=((min pl.length l5.length:Nat):Int):=by omega
 have g1:=fun w'=>len22P (w':=w') h1
 have g2:=fun w'=>len23W (w':=w') h2
 have g5:=fun w'=>len22P (w':=w') q5
 have g6:=fun w'=>len23W (w':=w') q6
 obtain ⟨_,_,_,x1,_⟩:=k1
 obtain ⟨_,_,_,x2,_⟩:=k2
 have j1:notJunk lv=some lv:=by rw [x1]; rfl
 have j2:notJunk pv=some pv:=by rw [x2]; rfl
 have c4:=rule4 hh.h4 (hP.old u1.old u1.next) q5.podsIn q6 (m + 3)
 obtain ⟨w2,hw2⟩:∃ w2:AW,w2=⟨(w1.heap.put w1.next (some (.cells [.int .i64 0,.int .i64 0,.int .i64 0,.int .i64 0,.int .i64 0,.int .i64 0] 29 false))).put w1.next (some (.cells (weiC l5 l6) 29 false)),w1.next + 1,w1.lim⟩:=⟨_,rfl⟩
 have u2:Up w1 w2:=by rw [hw2]; exact ((Up.refl w1).add _).put (Nat.le_refl _) (Nat.le_refl _)
 have u02:=u1.trans u2
 have n2:w2.next=w1.next + 1:=by rw [hw2]
 have hP2:=hP.old u02.old u02.next
 have hbox2:w2.heap.get w.next=some (.cells [lv,pv,.int .i64 price,.int .i64 part] 25 false):=by rw [u2.at (by omega)]; exact hb1
 have r5:=ruleQ hh.hq hP2.parts (m + 3)
 have hlw1:w1.lim≤w1.next:=by rw [u1.lim,n1]; omega
 obtain ⟨e,he⟩:∃ e,e=chkE l5 l6:=⟨_,rfl⟩
 unfold weiV at c4
 rw [← he] at c4
 obtain ⟨z1,z2,z3,z4,z5,z6,hz⟩:∃ a b c d e f:Int,weiC l5 l6=[.int .i64 a,.int .i64 b,.int .i64 c,.int .i64 d,.int .i64 e,.int .i64 f]:=by
  unfold weiC
  split
  ·exact ⟨_,_,_,_,_,_,rfl⟩
  ·exact ⟨_,_,_,_,_,_,rfl⟩
 rw [hz] at c4 hw2
 by_cases h0:e=0
 ·have hc:chkE l5 l6=0:=by rw [← he]; exact h0
  obtain ⟨hB,hPl⟩:=chk_zero hc
  have hlen:=plan_len hPl
  have fin:∀ t:Tm,tget t 1=bv→tget t 2=.pointer (some ⟨w.next,0,none⟩)→tget t 5=.slice a5 n5 c5→tget t 6=.slice a6 n6 c6→wp (exM Tryz.prog (run Tryz.prog ov (m + 4)) mc3_r1 t w2) Q:=fun t t1 t2 t5 t6 =>
   rest1 m hn hh w.next lv pv bv price part bits hbox2 (by omega) (by rw [u02.lim,n2]; omega) hP2 (q5.old u2.old u2.next) (q6.up u2) (h3.up u02) hbits hB hPl (by omega) Q t t1 t2 t5 t6 hQ
  rw [h0] at c4
  rw [hw2] at fin
  simp only [hw1] at c4 fin s5 s6 hlw1
  simp [mc3_eq,t0,t1,cellsOf_agg,j1,j2,bi_min,min2,g1,g2,g5,g6,e5,e6,s5,s6,c4,hlw1,hlen]
  exact fin _ (by simp [t1]) (by simp) (by simp) (by simp)
 ·rw [hw2] at r5
  simp only [hw1] at c4 r5 s5 s6 hlw1
  simp [mc3_eq,t0,t1,cellsOf_agg,j1,j2,bi_min,min2,g1,g2,g5,g6,e5,e6,s5,s6,c4,hlw1,h0,r5]
  exact hQ _ _ (by simp)
theorem run3 (m:Nat) (ho:∀ args w,ov 3 args w=none) (hn:No3 ov) (hh:Has3 ov) (hl:w.lim≤w.next) (hP:PartsW w) (hbits:bits.length≤2 ^ 60)
  (h1:PodsV w lv l) (h2:RowsV intC w pv pl) (h3:RowsV intC w bv bits) (k1:∃ a n c,lv=.slice a n c∧n≤c) (k2:∃ a n c,pv=.slice a n c∧n≤c) :
  ∃ x w',(run Tryz.prog ov (m + 5)).call 3 [.agg ⟨[lv,pv,.int .i64 price,.int .i64 part]⟩,bv] w .none=.ok (.ret x) w' .none∧x=.bool true:=by
 refine call_wp text3 (by simp) (ho _ _) (whole3 (price:=price) (part:=part) (bits:=bits) (l:=l) (pl:=pl) (w:=w) (lv:=lv) (pv:=pv) (bv:=bv) m hn hh hl hP hbits h1 h2 h3 k1 k2 _ _ (by simp) (by simp) (fun t w' h=>?_))
 simp [h,tupV]
end
theorem mixed:Tryz.prog.follows .mixedOrders=true:=by kernel_rfl
theorem globals1:Tryz.prog.globals.size=1:=by kernel_rfl
theorem no_count:NoCount Tryz.prog:=NoCount.of (by kernel_rfl)
theorem weiC_six (l:List Pod) (pl:List Int):∃ a b c d e f:Int,weiC l pl=[.int .i64 a,.int .i64 b,.int .i64 c,.int .i64 d,.int .i64 e,.int .i64 f]:=by
 unfold weiC
 split
 ·exact ⟨_,_,_,_,_,_,rfl⟩
 ·exact ⟨_,_,_,_,_,_,rfl⟩
theorem run40 {ov:Ov} (ho:∀ args w,ov 40 args w=none) (n a b:Int) (w:AW):∃ v w',(run Tryz.prog ov 2).call 40 [.int .i64 n,.int .i64 a,.int .i64 b] w .none=.ok (.ret v) w' .none∧v=.bool (inI a n b):=by
 refine call_wp text40 (by simp) (ho _ _) ?_
 by_cases h1:a≤n <;> simp [mc40,h1,tupV,inI]
theorem S80_F:S80.F=F80:=by
 funext args w
 by_cases h:∃ s:ByteArray,args=[.string s]
 ·obtain ⟨s,rfl⟩:=h
  rw [S80.F_eq (v:=.bool (wordB s.data.toList)) ⟨s,rfl,rfl⟩]; rfl
 ·have e:F80 args w=none:=by
   unfold F80
   split
   ·exact absurd ⟨_,rfl⟩ h
   ·rfl
  rw [e]
  cases hS:S80.F args w with
  | none=>rfl
  | some v =>
   obtain ⟨s,e,_⟩:=S80.of_F hS
   exact absurd ⟨s,e⟩ h
theorem has80 {ov:Ov} (h:HasP ov 80 F80):HasP ov 80 S80.F:=by rw [S80_F]; exact h
noncomputable def oW:Ov:=memoOv 5 [] laidL (.bool true) noOv
theorem okW':OvOk Tryz.prog oW:=memo_ok no_count mixed ov_none cleared_true (by kernel_rfl) (by kernel_rfl) (by rw [globals1]; exact Nat.le_refl _) (by kernel_rfl) ov_none
theorem oW_none {f:Nat} (hf:f ≠ 5) (args:List Value) (w:AW):oW f args w=none:=by
 have:Nat.beq f 5=false:=by rw [← Bool.not_eq_true]; intro h; exact hf (Nat.eq_of_beq_eq_true h)
 simp [oW,memoOv,this,noOv]
theorem oW_has:HasQ oW:=fun w hw=>by
 simp [oW,memoOv,hw,sameL5,sameVal.sameVals]
theorem HasQ.skip {f:Nat} {F:PureF} {rest:Ov} (hf:5 ≠ f) (h:HasQ rest):HasQ (ovP f F rest):=fun w hw=>by simp [ovP,hf,h w hw]
theorem ovP_none {f g:Nat} {F:PureF} {rest:Ov} (hne:g ≠ f) (h:∀ args w,rest g args w=none) (args:List Value) (w:AW):ovP f F rest g args w=none:=by simp [ovP,hne,h]
theorem F9_some {args:List Value} {w:AW} {v:Value} (h:F9 args w=some v):∃ n a b,args=[.int .i64 n,.int .i64 a,.int .i64 b]∧v=.bool (inI a n b):=by
 unfold F9 at h
 split at h
 ·cases h; exact ⟨_,_,_,rfl,rfl⟩
 ·cases h
theorem F46_some {args:List Value} {w:AW} {v:Value} (h:F46 args w=some v):∃ lo hi a b,args=[.agg ⟨[.int .i64 lo,.int .i64 hi]⟩,.int .i64 a,.int .i64 b]∧v=.bool (spanI lo hi a b):=by
 unfold F46 at h
 split at h
 ·cases h; exact ⟨_,_,_,_,rfl,rfl⟩
 ·cases h
theorem F96_some {args:List Value} {w:AW} {v:Value} (h:F96 args w=some v):∃ c,args=[.int .u8 c]∧v=.bool (inI 97 c 122):=by
 unfold F96 at h
 split at h
 ·cases h; exact ⟨_,rfl,rfl⟩
 ·cases h
theorem F97_some {args:List Value} {w:AW} {v:Value} (h:F97 args w=some v):∃ c,args=[.int .u8 c]∧v=.bool (inI 48 c 57):=by
 unfold F97 at h
 split at h
 ·cases h; exact ⟨_,rfl,rfl⟩
 ·cases h
theorem F80_some {args:List Value} {w:AW} {v:Value} (h:F80 args w=some v):∃ s,args=[.string s]∧v=.bool (wordB s.data.toList):=by
 unfold F80 at h
 split at h
 ·cases h; exact ⟨_,rfl,rfl⟩
 ·cases h
theorem F68_some {args:List Value} {w:AW} {v:Value} (h:F68 args w=some v):∃ p,args=[.agg ⟨podC p⟩]∧v=.bool (podB p):=by
 unfold F68 at h
 split at h
 ·obtain ⟨p,h1,h2⟩:=Option.map_eq_some_iff.1 h
  exact ⟨p,by rw [podOf_some h1],h2.symm⟩
 ·cases h
theorem F52_some {args:List Value} {w:AW} {v:Value} (h:F52 args w=some v):∃ u l,args=[u]∧podsIn w u=some l∧v=.bool (podsB l):=by
 unfold F52 at h
 split at h
 ·obtain ⟨l,h1,h2⟩:=Option.map_eq_some_iff.1 h
  exact ⟨_,l,rfl,h1,h2.symm⟩
 ·cases h
theorem F31_some {args:List Value} {w:AW} {v:Value} (h:F31 args w=some v):∃ u l,args=[u]∧podsIn w u=some l∧v=errB (podsB l) 30:=by
 unfold F31 at h
 split at h
 ·obtain ⟨l,h1,h2⟩:=Option.map_eq_some_iff.1 h
  exact ⟨_,l,rfl,h1,h2.symm⟩
 ·cases h
theorem F43_some {args:List Value} {w:AW} {v:Value} (h:F43 args w=some v):∃ n a b,args=[.int .i64 n,.agg ⟨[.int .i64 a,.int .i64 b]⟩]∧v=.bool (inI a n b):=by
 unfold F43 at h
 split at h
 ·cases h; exact ⟨_,_,_,rfl,rfl⟩
 ·cases h
theorem bif_some {α:Type} {b:Bool} {x y:α} (h:(bif b then some x else none)=some y):b=true∧y=x:=by
 cases b with
 | true=>cases h; exact ⟨rfl,rfl⟩
 | false=>cases h
theorem if_some' {α:Type} {c:Prop} {inst:Decidable c} {x y:α} (h:(@ite _ c inst (some x) none)=some y):c∧y=x:=by
 by_cases k:c
 ·rw [if_pos k] at h; cases h; exact ⟨k,rfl⟩
 ·rw [if_neg k] at h; cases h
theorem F63_some {args:List Value} {w:AW} {v:Value} (h:F63 args w=some v):∃ p day r h g,args=[.agg ⟨podC p⟩,.int .i64 day,.agg ⟨[.int .i64 r,.int .i64 h,.int .i64 g]⟩]∧numB p day r h g=true∧v=.int .i64 (onI p.born day r h):=by
 unfold F63 at h
 split at h
 ·obtain ⟨p,h1,h2⟩:=Option.bind_eq_some_iff.1 h
  obtain ⟨h3,rfl⟩:=bif_some h2
  exact ⟨p,_,_,_,_,by rw [podOf_some h1],h3,rfl⟩
 ·cases h
theorem F64_some {args:List Value} {w:AW} {v:Value} (h:F64 args w=some v):∃ p day r h g,args=[.agg ⟨podC p⟩,.int .i64 day,.agg ⟨[.int .i64 r,.int .i64 h,.int .i64 g]⟩]∧numB p day r h g=true∧v=.int .i64 (gramI p.born day r g):=by
 unfold F64 at h
 split at h
 ·obtain ⟨p,h1,h2⟩:=Option.bind_eq_some_iff.1 h
  obtain ⟨h3,rfl⟩:=bif_some h2
  exact ⟨p,_,_,_,_,by rw [podOf_some h1],h3,rfl⟩
 ·cases h
theorem F44_some {args:List Value} {w:AW} {v:Value} (h:F44 args w=some v):∃ p day r h g,args=[.agg ⟨podC p⟩,.int .i64 day,.agg ⟨[.int .i64 r,.int .i64 h,.int .i64 g]⟩]∧numB p day r h g=true∧PartsW w∧v=.agg ⟨ylC (ylI p.born day r h g)⟩:=by
 unfold F44 at h
 split at h
 ·obtain ⟨p,h1,h2⟩:=Option.bind_eq_some_iff.1 h
  obtain ⟨⟨h3,h4⟩,rfl⟩:=if_some' h2
  exact ⟨p,_,_,_,_,by rw [podOf_some h1],h3,h4,rfl⟩
 ·cases h
theorem F35_some {args:List Value} {w:AW} {v:Value} (h:F35 args w=some v):∃ u ys,args=[u]∧RowsV ylC w u ys∧(∀ y ∈ ys,smallY y)∧ys.length≤100∧v=.agg ⟨ylC (sumYl ys)⟩:=by
 unfold F35 at h
 split at h
 ·obtain ⟨ys,h1,h2⟩:=Option.bind_eq_some_iff.1 h
  obtain ⟨⟨h3,h4⟩,rfl⟩:=if_some' h2
  exact ⟨_,ys,rfl,rowsIn_some h1,h3,h4,rfl⟩
 ·cases h
theorem F32_some {args:List Value} {w:AW} {x:Value} (h:F32 args w=some x):∃ v u l pl,args=[v,u]∧podsIn w v=some l∧RowsV intC w u pl∧l.length≤100∧x=.bool (planB l pl):=by
 unfold F32 at h
 split at h
 ·obtain ⟨l,h1,h⟩:=Option.bind_eq_some_iff.1 h
  obtain ⟨pl,h2,h⟩:=Option.bind_eq_some_iff.1 h
  obtain ⟨h3,rfl⟩:=bif_some h
  exact ⟨_,_,l,pl,rfl,h1,rowsIn_some h2,of_decide_eq_true h3,rfl⟩
 ·cases h
theorem F15_some {args:List Value} {w:AW} {x:Value} (h:F15 args w=some x):∃ v u l pl,args=[v,u]∧podsIn w v=some l∧RowsV intC w u pl∧x=.int .i64 (chkE l pl):=by
 unfold F15 at h
 split at h
 ·obtain ⟨l,h1,h⟩:=Option.bind_eq_some_iff.1 h
  obtain ⟨pl,h2,h⟩:=Option.bind_eq_some_iff.1 h
  cases h
  exact ⟨_,_,l,pl,rfl,h1,rowsIn_some h2,rfl⟩
 ·cases h
theorem F22_some {args:List Value} {w:AW} {x:Value} (h:F22 args w=some x):∃ v vr vh vg l R H G,args=[v,.agg ⟨[vr,vh,vg]⟩]∧podsIn w v=some l∧RowsV intC w vr R∧RowsV intC w vh H∧RowsV intC w vg G∧l.length≤100∧x=.bool (truthB l R H G):=by
 unfold F22 at h
 split at h
 ·obtain ⟨l,h1,h⟩:=Option.bind_eq_some_iff.1 h
  obtain ⟨R,h2,h⟩:=Option.bind_eq_some_iff.1 h
  obtain ⟨H,h3,h⟩:=Option.bind_eq_some_iff.1 h
  obtain ⟨G,h4,h⟩:=Option.bind_eq_some_iff.1 h
  obtain ⟨h5,rfl⟩:=bif_some h
  exact ⟨_,_,_,_,l,R,H,G,rfl,h1,rowsIn_some h2,rowsIn_some h3,rowsIn_some h4,of_decide_eq_true h5,rfl⟩
 ·cases h
theorem F23_some {args:List Value} {w:AW} {x:Value} (h:F23 args w=some x):∃ v u vr vh vg l pl R H G,args=[v,u,.agg ⟨[vr,vh,vg]⟩]∧podsIn w v=some l∧RowsV intC w u pl∧RowsV intC w vr R∧RowsV intC w vh H∧RowsV intC w vg G∧podsB l=true∧planB l pl=true∧truthB l R H G=true∧PartsW w∧x=.agg ⟨ylC (sumYl (ysH l pl R H G))⟩:=by
 unfold F23 at h
 split at h
 ·obtain ⟨l,h1,h⟩:=Option.bind_eq_some_iff.1 h
  obtain ⟨pl,h0,h⟩:=Option.bind_eq_some_iff.1 h
  obtain ⟨R,h2,h⟩:=Option.bind_eq_some_iff.1 h
  obtain ⟨H,h3,h⟩:=Option.bind_eq_some_iff.1 h
  obtain ⟨G,h4,h⟩:=Option.bind_eq_some_iff.1 h
  obtain ⟨⟨h5,h6,h7,h8⟩,rfl⟩:=if_some' h
  exact ⟨_,_,_,_,_,l,pl,R,H,G,rfl,h1,rowsIn_some h0,rowsIn_some h2,rowsIn_some h3,rowsIn_some h4,h5,h6,h7,h8,rfl⟩
 ·cases h
theorem F8_some {args:List Value} {w:AW} {x:Value} (h:F8 args w=some x):∃ v u vr vh vg l pl R H G,args=[v,u,.agg ⟨[vr,vh,vg]⟩]∧podsIn w v=some l∧RowsV intC w u pl∧RowsV intC w vr R∧RowsV intC w vh H∧RowsV intC w vg G∧PartsW w∧x=.tuple ⟨[.agg ⟨ylC (harY l pl R H G)⟩,.int .i64 (harE l pl R H G)]⟩:=by
 unfold F8 at h
 split at h
 ·obtain ⟨l,h1,h⟩:=Option.bind_eq_some_iff.1 h
  obtain ⟨pl,h0,h⟩:=Option.bind_eq_some_iff.1 h
  obtain ⟨R,h2,h⟩:=Option.bind_eq_some_iff.1 h
  obtain ⟨H,h3,h⟩:=Option.bind_eq_some_iff.1 h
  obtain ⟨G,h4,h⟩:=Option.bind_eq_some_iff.1 h
  obtain ⟨h8,rfl⟩:=if_some' h
  exact ⟨_,_,_,_,_,l,pl,R,H,G,rfl,h1,rowsIn_some h0,rowsIn_some h2,rowsIn_some h3,rowsIn_some h4,h8,rfl⟩
 ·cases h
theorem F34_some {args:List Value} {w:AW} {x:Value} (h:F34 args w=some x):∃ y v ys,args=[.agg ⟨ylC y⟩,v]∧RowsV ylC w v ys∧ys.length≤10000∧x=endsV (ys.foldl stepE (y,y)):=by
 unfold F34 at h
 split at h
 ·obtain ⟨ys,h1,h⟩:=Option.bind_eq_some_iff.1 h
  obtain ⟨h2,rfl⟩:=if_some' h
  exact ⟨⟨_,_,_,_⟩,_,ys,rfl,rowsIn_some h1,h2,rfl⟩
 ·cases h
theorem F16_some {args:List Value} {w:AW} {x:Value} (h:F16 args w=some x):∃ v u l pl,args=[v,u]∧podsIn w v=some l∧RowsV intC w u pl∧podsB l=true∧planB l pl=true∧PartsW w∧x=.agg ⟨wgC l pl⟩:=by
 unfold F16 at h
 split at h
 ·obtain ⟨l,h1,h⟩:=Option.bind_eq_some_iff.1 h
  obtain ⟨pl,h2,h⟩:=Option.bind_eq_some_iff.1 h
  obtain ⟨⟨h3,h4,h5⟩,rfl⟩:=if_some' h
  exact ⟨_,_,l,pl,rfl,h1,rowsIn_some h2,h3,h4,h5,rfl⟩
 ·cases h
theorem F4_some {args:List Value} {w:AW} {x:Value} (h:F4 args w=some x):∃ v u l pl,args=[v,u]∧podsIn w v=some l∧RowsV intC w u pl∧PartsW w∧x=weiV l pl:=by
 unfold F4 at h
 split at h
 ·obtain ⟨l,h1,h⟩:=Option.bind_eq_some_iff.1 h
  obtain ⟨pl,h2,h⟩:=Option.bind_eq_some_iff.1 h
  obtain ⟨h5,rfl⟩:=if_some' h
  exact ⟨_,_,l,pl,rfl,h1,rowsIn_some h2,h5,rfl⟩
 ·cases h
theorem ground_wei (l:List Pod) (pl:List Int):groundC 3 (weiV l pl)=true:=by
 obtain ⟨a,b,c,d,e,f,h⟩:=weiC_six l pl
 unfold weiV
 rw [h]; rfl
theorem F6_some {args:List Value} {w:AW} {v:Value} (h:F6 args w=some v):∃ n s,args=[.int .i64 n,.int .i64 s]∧s≤2 ^ 60∧v=.int .i64 (wrapI n s):=by
 unfold F6 at h
 split at h
 ·obtain ⟨h1,rfl⟩:=bif_some h
  exact ⟨_,_,rfl,of_decide_eq_true h1,rfl⟩
 ·cases h
theorem F21_some {args:List Value} {w:AW} {v:Value} (h:F21 args w=some v):∃ u L i,args=[u,.int .i64 i]∧RowsV intC w u L∧L.length≤2 ^ 60∧v=.int .i64 (nthI L i):=by
 unfold F21 at h
 split at h
 ·obtain ⟨L,h1,h2⟩:=Option.bind_eq_some_iff.1 h
  obtain ⟨h3,rfl⟩:=bif_some h2
  exact ⟨_,_,_,rfl,rowsIn_some h1,of_decide_eq_true h3,rfl⟩
 ·cases h
theorem F20_some {args:List Value} {w:AW} {v:Value} (h:F20 args w=some v):∃ lo hi n,args=[.int .i64 lo,.int .i64 hi,.int .i64 n]∧((0≤lo∧lo≤100000)∧0≤hi∧hi≤100000)∧v=.int .i64 (withI lo hi n):=by
 unfold F20 at h
 split at h
 ·obtain ⟨h1,rfl⟩:=bif_some h
  refine ⟨_,_,_,rfl,?_,rfl⟩
  simpa [inI] using h1
 ·cases h
noncomputable def ovL:List (Nat × PureF)→Ov
 | []=>oW
 | x::l=>ovP x.1 x.2 (ovL l)
def keyB (g:Nat):List (Nat × PureF)→Bool
 | []=>Nat.beq g 5
 | x::l=>Nat.beq g x.1 || keyB g l
def lookF (g:Nat):List (Nat × PureF)→Option PureF
 | []=>none
 | x::l=>bif Nat.beq g x.1 then some x.2 else lookF g l
theorem beq_no {a b:Nat} (h:Nat.beq a b=false):a ≠ b:=fun e=>by rw [e,Nat.beq_refl] at h; cases h
theorem chN {g:Nat}:∀ {l:List (Nat × PureF)},keyB g l=false→∀ args w,ovL l g args w=none
 | [],h=>oW_none (beq_no h)
 | x::l,h=>by
  simp only [keyB,Bool.or_eq_false_iff] at h
  exact ovP_none (beq_no h.1) (chN h.2)
theorem chH {g:Nat} {F:PureF}:∀ {l:List (Nat × PureF)},lookF g l=some F→HasP (ovL l) g F
 | [],h=>by cases h
 | x::l,h=>by
  simp only [lookF] at h
  cases hb:Nat.beq g x.1 with
  | true =>
   rw [hb] at h
   cases h
   have e:=Nat.eq_of_beq_eq_true hb
   subst e
   exact .here
  | false =>
   rw [hb] at h
   exact HasP.skip (beq_no hb) (chH h)
def memB (g:Nat):List (Nat × PureF)→Bool
 | []=>false
 | x::l=>Nat.beq g x.1 || memB g l
theorem chW:∀ {l:List (Nat × PureF)},memB 5 l=false→HasQ (ovL l)
 | [],_=>oW_has
 | x::l,h=>by
  simp only [memB,Bool.or_eq_false_iff] at h
  exact HasQ.skip (beq_no h.1) (chW h.2)
noncomputable def cl9:List (Nat × PureF):=(9,F9)::[]
noncomputable def o9:Ov:=ovL cl9
theorem ok9:OvOk Tryz.prog (ovP 9 F9 (ovL [])):=pure_ok no_count mixed okW' (fun _ _ _ h=>h) fun args w res hl hres=>by
 obtain ⟨n,a,b,rfl,rfl⟩:=F9_some hres
 obtain ⟨_,w',h1,rfl⟩:=run9 (ov:=(ovL [])) (chN rfl)  n a b w
 exact ⟨rfl,2,w',_,h1⟩
noncomputable def cl83:List (Nat × PureF):=(83,F46)::cl9
noncomputable def o83:Ov:=ovL cl83
theorem ok83:OvOk Tryz.prog (ovP 83 F46 o9):=pure_ok no_count mixed ok9 (fun _ _ _ h=>h) fun args w res hl hres=>by
 obtain ⟨lo,hi,a,b,rfl,rfl⟩:=F46_some hres
 obtain ⟨_,w',h1,rfl⟩:=run83 (ov:=o9) (chN rfl)  lo hi a b w
 exact ⟨rfl,2,w',_,h1⟩
noncomputable def cl96:List (Nat × PureF):=(96,F96)::cl83
noncomputable def o96:Ov:=ovL cl96
theorem ok96:OvOk Tryz.prog (ovP 96 F96 o83):=pure_ok no_count mixed ok83 (fun _ _ _ h=>h) fun args w res hl hres=>by
 obtain ⟨c,rfl,rfl⟩:=F96_some hres
 obtain ⟨_,w',h1,rfl⟩:=run96 (ov:=o83) (chN rfl)  c w
 exact ⟨rfl,2,w',_,h1⟩
noncomputable def cl97:List (Nat × PureF):=(97,F97)::cl96
noncomputable def o97:Ov:=ovL cl97
theorem ok97:OvOk Tryz.prog (ovP 97 F97 o96):=pure_ok no_count mixed ok96 (fun _ _ _ h=>h) fun args w res hl hres=>by
 obtain ⟨c,rfl,rfl⟩:=F97_some hres
 obtain ⟨_,w',h1,rfl⟩:=run97 (ov:=o96) (chN rfl)  c w
 exact ⟨rfl,2,w',_,h1⟩
noncomputable def cl80:List (Nat × PureF):=(80,F80)::cl97
noncomputable def o80:Ov:=ovL cl80
theorem ok80:OvOk Tryz.prog (ovP 80 F80 o97):=pure_ok no_count mixed ok97 (fun _ _ _ h=>h) fun args w res hl hres=>by
 obtain ⟨s,rfl,rfl⟩:=F80_some hres
 obtain ⟨_,w',h1,rfl⟩:=run80 (ov:=o97) (chN rfl) (chH rfl) (chH rfl) s w
 exact ⟨rfl,2,w',_,h1⟩
noncomputable def cl68:List (Nat × PureF):=(68,F68)::cl80
noncomputable def o68:Ov:=ovL cl68
theorem ok68:OvOk Tryz.prog (ovP 68 F68 o80):=pure_ok no_count mixed ok80 (fun _ _ _ h=>h) fun args w res hl hres=>by
 obtain ⟨p,rfl,rfl⟩:=F68_some hres
 obtain ⟨_,w',h1,rfl⟩:=run68 (ov:=o80) (chN rfl) (chH rfl) (chH rfl) p w
 exact ⟨rfl,2,w',_,h1⟩
noncomputable def cl52:List (Nat × PureF):=(52,F52)::cl68
noncomputable def o52:Ov:=ovL cl52
theorem ok52:OvOk Tryz.prog (ovP 52 F52 o68):=pure_ok no_count mixed ok68 (fun _ _ _ h=>h) fun args w res hl hres=>by
 obtain ⟨u,l,rfl,hin,rfl⟩:=F52_some hres
 obtain ⟨_,w',h1,rfl⟩:=run52 (ov:=o68) (chN rfl) (chH rfl) u l w hl (podsIn_some hin)
 exact ⟨rfl,2,w',_,h1⟩
noncomputable def cl31:List (Nat × PureF):=(31,F31)::cl52
noncomputable def o31:Ov:=ovL cl31
theorem ok31:OvOk Tryz.prog (ovP 31 F31 o52):=pure_ok no_count mixed ok52 (fun _ _ _ h=>h) fun args w res hl hres=>by
 obtain ⟨u,l,rfl,hin,rfl⟩:=F31_some hres
 obtain ⟨_,w',h1,rfl⟩:=run31 (ov:=o52) (chN rfl) (chH rfl) u l w hin
 exact ⟨rfl,2,w',_,h1⟩
noncomputable def cl43:List (Nat × PureF):=(43,F43)::cl31
noncomputable def o43:Ov:=ovL cl43
theorem ok43:OvOk Tryz.prog (ovP 43 F43 o31):=pure_ok no_count mixed ok31 (fun _ _ _ h=>h) fun args w res hl hres=>by
 obtain ⟨n,a,b,rfl,rfl⟩:=F43_some hres
 obtain ⟨_,w',h1,rfl⟩:=run43 (ov:=o31) (chN rfl)  n a b w
 exact ⟨rfl,2,w',_,h1⟩
noncomputable def cl32:List (Nat × PureF):=(32,F32)::cl43
noncomputable def o32:Ov:=ovL cl32
theorem ok32:OvOk Tryz.prog (ovP 32 F32 o43):=pure_ok no_count mixed ok43 (fun _ _ _ h=>h) fun args w res hl hres=>by
 obtain ⟨v,u,l,pl,rfl,hv,hu,hlen,rfl⟩:=F32_some hres
 obtain ⟨_,w',h1,rfl⟩:=run32 (ov:=o43) (chN rfl)  l pl v u w (podsIn_some hv) hu hlen
 exact ⟨rfl,2,w',_,h1⟩
noncomputable def cl15:List (Nat × PureF):=(15,F15)::cl32
noncomputable def o15:Ov:=ovL cl15
theorem ok15:OvOk Tryz.prog (ovP 15 F15 o32):=pure_ok no_count mixed ok32 (fun _ _ _ h=>h) fun args w res hl hres=>by
 obtain ⟨v,u,l,pl,rfl,hv,hu,rfl⟩:=F15_some hres
 obtain ⟨_,w',h1,rfl⟩:=run15 (ov:=o32) (chN rfl) (chH rfl) (chH rfl) l pl v u w hv hu
 exact ⟨rfl,2,w',_,h1⟩
noncomputable def cl22:List (Nat × PureF):=(22,F22)::cl15
noncomputable def o22:Ov:=ovL cl22
theorem ok22:OvOk Tryz.prog (ovP 22 F22 o15):=pure_ok no_count mixed ok15 (fun _ _ _ h=>h) fun args w res hl hres=>by
 obtain ⟨v,vr,vh,vg,l,R,H,G,rfl,hv,hr,hh,hg,hlen,rfl⟩:=F22_some hres
 obtain ⟨_,w',h1,rfl⟩:=run22 (ov:=o15) (chN rfl) (chH rfl) l R H G v vr vh vg w hl (podsIn_some hv) hr hh hg hlen
 exact ⟨rfl,2,w',_,h1⟩
noncomputable def cl63:List (Nat × PureF):=(63,F63)::cl22
noncomputable def o63:Ov:=ovL cl63
theorem ok63:OvOk Tryz.prog (ovP 63 F63 o22):=pure_ok no_count mixed ok22 (fun _ _ _ h=>h) fun args w res hl hres=>by
 obtain ⟨p,day,r,h,g,rfl,hn,rfl⟩:=F63_some hres
 obtain ⟨_,w',h1,rfl⟩:=run63 (ov:=o22) (chN rfl)  p day r h g hn w
 exact ⟨rfl,2,w',_,h1⟩
noncomputable def cl64:List (Nat × PureF):=(64,F64)::cl63
noncomputable def o64:Ov:=ovL cl64
theorem ok64:OvOk Tryz.prog (ovP 64 F64 o63):=pure_ok no_count mixed ok63 (fun _ _ _ h=>h) fun args w res hl hres=>by
 obtain ⟨p,day,r,h,g,rfl,hn,rfl⟩:=F64_some hres
 obtain ⟨_,w',h1,rfl⟩:=run64 (ov:=o63) (chN rfl)  p day r h g hn w
 exact ⟨rfl,2,w',_,h1⟩
noncomputable def cl44:List (Nat × PureF):=(44,F44)::cl64
noncomputable def o44:Ov:=ovL cl44
theorem ok44:OvOk Tryz.prog (ovP 44 F44 o64):=pure_ok no_count mixed ok64 (fun _ _ _ h=>h) fun args w res hl hres=>by
 obtain ⟨p,day,r,h,g,rfl,hn,hPW,rfl⟩:=F44_some hres
 obtain ⟨_,w',h1,rfl⟩:=run44 (ov:=o64) (chN rfl) (chH rfl) (chH rfl) p day r h g hn w (Nat.le_of_eq hl) hPW
 exact ⟨rfl,2,w',_,h1⟩
noncomputable def cl35:List (Nat × PureF):=(35,F35)::cl44
noncomputable def o35:Ov:=ovL cl35
theorem ok35:OvOk Tryz.prog (ovP 35 F35 o44):=pure_ok no_count mixed ok44 (fun _ _ _ h=>h) fun args w res hl hres=>by
 obtain ⟨v,ys,rfl,hv,hy,hlen,rfl⟩:=F35_some hres
 obtain ⟨_,w',h1,rfl⟩:=run35 (ov:=o44) (chN rfl) (chN rfl) v ys hy hlen w hl hv 0
 exact ⟨rfl,2,w',_,h1⟩
noncomputable def cl23:List (Nat × PureF):=(23,F23)::cl35
noncomputable def o23:Ov:=ovL cl23
theorem ok23:OvOk Tryz.prog (ovP 23 F23 o35):=pure_ok no_count mixed ok35 (fun _ _ _ h=>h) fun args w res hl hres=>by
 obtain ⟨v,u,vr,vh,vg,l,pl,R,H,G,rfl,hv,hu,hr,hh,hg,hB,hP,hT,hPW,rfl⟩:=F23_some hres
 obtain ⟨_,w',h1,rfl⟩:=run23 (ov:=o35) (chN rfl) (chH rfl) (chH rfl) l pl R H G v u vr vh vg w hl hPW (podsIn_some hv) hu hr hh hg hB hP hT
 exact ⟨rfl,2,w',_,h1⟩
noncomputable def cl8:List (Nat × PureF):=(8,F8)::cl23
noncomputable def o8:Ov:=ovL cl8
theorem ok8:OvOk Tryz.prog (ovP 8 F8 o23):=pure_ok no_count mixed ok23 (fun _ _ _ h=>h) fun args w res hl hres=>by
 obtain ⟨v,u,vr,vh,vg,l,pl,R,H,G,rfl,hv,hu,hr,hh,hg,hPW,rfl⟩:=F8_some hres
 obtain ⟨_,w',h1,rfl⟩:=run8 (ov:=o23) (chN rfl) (chH rfl) (chH rfl) (chH rfl) l pl R H G v u vr vh vg w hl hPW hv hu hr hh hg
 exact ⟨rfl,2,w',_,h1⟩
noncomputable def cl34:List (Nat × PureF):=(34,F34)::cl8
noncomputable def o34:Ov:=ovL cl34
theorem ok34:OvOk Tryz.prog (ovP 34 F34 o8):=pure_ok no_count mixed ok8 (fun _ _ _ h=>h) fun args w res hl hres=>by
 obtain ⟨y,v,ys,rfl,hv,hlen,rfl⟩:=F34_some hres
 obtain ⟨_,w',h1,rfl⟩:=run34 (ov:=o8) (chN rfl)  y ys hlen v w hl hv
 exact ⟨rfl,2,w',_,h1⟩
noncomputable def cl16:List (Nat × PureF):=(16,F16)::cl34
noncomputable def o16:Ov:=ovL cl16
theorem ok16:OvOk Tryz.prog (ovP 16 F16 o34):=pure_ok no_count mixed ok34 (fun _ _ _ h=>h) fun args w res hl hres=>by
 obtain ⟨v,u,l,pl,rfl,hv,hu,hB,hP,hPW,rfl⟩:=F16_some hres
 obtain ⟨_,w',h1,rfl⟩:=run16 (ov:=o34) (chN rfl) (chN rfl) (chH rfl) (chH rfl) (chH rfl) l pl v u w hl hPW (podsIn_some hv) hu hB hP
 exact ⟨rfl,3,w',_,h1⟩
noncomputable def cl4:List (Nat × PureF):=(4,F4)::cl16
noncomputable def o4:Ov:=ovL cl4
theorem ok4:OvOk Tryz.prog (ovP 4 F4 o16):=pure_ok no_count mixed ok16 (fun _ _ _ h=>h) fun args w res hl hres=>by
 obtain ⟨v,u,l,pl,rfl,hv,hu,hPW,rfl⟩:=F4_some hres
 obtain ⟨_,w',h1,rfl⟩:=run4 (ov:=o16) (chN rfl) (chH rfl) (chH rfl) l pl v u w hl hPW hv hu
 exact ⟨ground_wei _ _,2,w',_,h1⟩
noncomputable def cl6:List (Nat × PureF):=(6,F6)::cl4
noncomputable def o6:Ov:=ovL cl6
theorem ok6:OvOk Tryz.prog (ovP 6 F6 o4):=pure_ok no_count mixed ok4 (fun _ _ _ h=>h) fun args w res hl hres=>by
 obtain ⟨n,s,rfl,hs,rfl⟩:=F6_some hres
 obtain ⟨_,w',h1,rfl⟩:=run6 (ov:=o4) (chN rfl)  n s hs w
 exact ⟨rfl,2,w',_,h1⟩
noncomputable def cl21:List (Nat × PureF):=(21,F21)::cl6
noncomputable def o21:Ov:=ovL cl21
theorem ok21:OvOk Tryz.prog (ovP 21 F21 o6):=pure_ok no_count mixed ok6 (fun _ _ _ h=>h) fun args w res hl hres=>by
 obtain ⟨v,L,i,rfl,hv,hlen,rfl⟩:=F21_some hres
 obtain ⟨_,w',h1,rfl⟩:=run21 (ov:=o6) (chN rfl) (chH rfl) v L i w hv hlen
 exact ⟨rfl,2,w',_,h1⟩
noncomputable def cl20:List (Nat × PureF):=(20,F20)::cl21
noncomputable def o20:Ov:=ovL cl20
theorem ok20:OvOk Tryz.prog (ovP 20 F20 o21):=pure_ok no_count mixed ok21 (fun _ _ _ h=>h) fun args w res hl hres=>by
 obtain ⟨lo,hi,n,rfl,hb,rfl⟩:=F20_some hres
 obtain ⟨_,w',h1,rfl⟩:=run20 (ov:=o21) (chN rfl) (chH rfl) lo hi n hb w
 exact ⟨rfl,2,w',_,h1⟩
noncomputable def cl40:List (Nat × PureF):=(40,S9.F)::cl20
noncomputable def o40:Ov:=ovL cl40
theorem ok40:OvOk Tryz.prog (ovP 40 S9.F o20):=S9.ok no_count mixed ok20 fun args w v hl h=>by
 obtain ⟨n,a,b,rfl,rfl⟩:=h
 obtain ⟨v',w',hc,e⟩:=run40 (ov:=o20) (chN rfl) n a b w
 exact ⟨rfl,2,v',w',_,hc,e⟩
noncomputable def cl65:List (Nat × PureF):=(65,S65.F)::cl40
noncomputable def o65:Ov:=ovL cl65
theorem ok65:OvOk Tryz.prog (ovP 65 S65.F o40):=S65.ok no_count mixed ok40 fun args w v hl h=>by
 obtain ⟨pv,ps,rfl,hv,rfl⟩:=h
 obtain ⟨v',w',hc,e⟩:=run65 (ov:=o40) (chN rfl) (chH rfl) (has80 (chH rfl)) pv ps w hl hv
 exact ⟨rfl,2,v',w',_,hc,e⟩
noncomputable def cl81:List (Nat × PureF):=(81,S81.F)::cl65
noncomputable def o81:Ov:=ovL cl81
theorem ok81:OvOk Tryz.prog (ovP 81 S81.F o65):=S81.ok no_count mixed ok65 fun args w v hl h=>by
 obtain ⟨pv,dv,ps,i,rfl,hv,hn,rfl⟩:=h
 obtain ⟨v',w',hc,e⟩:=run81 (ov:=o65) (chN rfl) (chH rfl) pv dv ps i w hl hv hn
 exact ⟨rfl,2,v',w',_,hc,e⟩
noncomputable def cl82:List (Nat × PureF):=(82,S82.F)::cl81
noncomputable def o82:Ov:=ovL cl82
theorem ok82:OvOk Tryz.prog (ovP 82 S82.F o81):=S82.ok no_count mixed ok81 fun args w v hl h=>by
 obtain ⟨d,rfl,rfl⟩:=h
 obtain ⟨v',w',hc,e⟩:=run82 (ov:=o81) (chN rfl) d w hl
 exact ⟨rfl,2,v',w',_,hc,e⟩
noncomputable def cl66:List (Nat × PureF):=(66,S66.F)::cl82
noncomputable def o66:Ov:=ovL cl66
theorem ok66:OvOk Tryz.prog (ovP 66 S66.F o82):=S66.ok no_count mixed ok82 fun args w v hl h=>by
 obtain ⟨pv,dv,ps,ds,rfl,hL,hn,rfl⟩:=h
 obtain ⟨v',w',hc,e⟩:=run66 (ov:=o82) (chN rfl) (chH rfl) (chH rfl) (chH rfl) pv dv ps ds w hl hL hn
 exact ⟨rfl,2,v',w',_,hc,e⟩
noncomputable def cl45:List (Nat × PureF):=(45,S45.F)::cl66
noncomputable def o45:Ov:=ovL cl45
theorem ok45:OvOk Tryz.prog (ovP 45 S45.F o66):=S45.ok no_count mixed ok66 fun args w v hl h=>by
 obtain ⟨pv,dv,ps,ds,rfl,hL,rfl⟩:=h
 obtain ⟨v',w',hc,e⟩:=run45 (ov:=o66) (chN rfl) (chH rfl) (chH rfl) pv dv ps ds w hl hL
 exact ⟨rfl,2,v',w',_,hc,e⟩
noncomputable def cl24:List (Nat × PureF):=(24,S24.F)::cl45
noncomputable def o24:Ov:=ovL cl24
theorem ok24:OvOk Tryz.prog (ovP 24 S24.F o45):=S24.ok no_count mixed ok45 fun args w v hl h=>by
 obtain ⟨pv,dv,ps,ds,rfl,hL,rfl⟩:=h
 obtain ⟨v',w',hc,e⟩:=run24 (ov:=o45) (chN rfl) (chH rfl) pv dv ps ds w hl hL
 exact ⟨rfl,2,v',w',_,hc,e⟩
noncomputable def cl47:List (Nat × PureF):=(47,S47.F)::cl24
noncomputable def o47:Ov:=ovL cl47
theorem ok47:OvOk Tryz.prog (ovP 47 S47.F o24):=S47.ok no_count mixed ok24 fun args w v hl h=>by
 obtain ⟨a,U,rfl,hv,hs,rfl⟩:=h
 obtain ⟨v',w',hc,e⟩:=run47 (ov:=o24) (chN rfl) U hs a w hv
 exact ⟨rfl,2,v',w',_,hc,e⟩
noncomputable def cl50:List (Nat × PureF):=(50,S50.F)::cl47
noncomputable def o50:Ov:=ovL cl50
theorem ok50:OvOk Tryz.prog (ovP 50 S50.F o47):=S50.ok no_count mixed ok47 fun args w v hl h=>by
 obtain ⟨pv,dv,o,x,d,rfl,hf,hc,hx,hO,rfl⟩:=h
 obtain ⟨v',w',hc,e⟩:=run50 (ov:=o47) (chN rfl) pv dv o x d w hl hf hc hx hO
 exact ⟨rfl,2,v',w',_,hc,e⟩
noncomputable def cl49:List (Nat × PureF):=(49,S49.F)::cl50
noncomputable def o49:Ov:=ovL cl49
theorem ok49:OvOk Tryz.prog (ovP 49 S49.F o50):=S49.ok no_count mixed ok50 fun args w v hl h=>by
 obtain ⟨pv,dv,ps,ds,x,rfl,hL,hk,hx,rfl⟩:=h
 obtain ⟨v',w',hc,e⟩:=run49 (ov:=o50) (chN rfl) (chH rfl) pv dv ps ds x w hl hL hk hx
 exact ⟨rfl,2,v',w',_,hc,e⟩
noncomputable def cl51:List (Nat × PureF):=(51,S51.F)::cl49
noncomputable def o51:Ov:=ovL cl51
theorem ok51:OvOk Tryz.prog (ovP 51 S51.F o49):=S51.ok no_count mixed ok49 fun args w v hl h=>by
 obtain ⟨pv,dv,ps,ds,x,rfl,hL,hk,hx,rfl⟩:=h
 obtain ⟨v',w',hc,e⟩:=run51 (ov:=o49) (chN rfl) (chH rfl) pv dv ps ds x w hl hL hk hx
 exact ⟨rfl,2,v',w',_,hc,e⟩
noncomputable def cl29:List (Nat × PureF):=(29,S29.F)::cl51
noncomputable def o29:Ov:=ovL cl29
theorem ok29:OvOk Tryz.prog (ovP 29 S29.F o51):=S29.ok no_count mixed ok51 fun args w v hl h=>by
 obtain ⟨pv,dv,ps,ds,rfl,hL,hk,rfl⟩:=h
 obtain ⟨v',w',hc,e⟩:=run29 (ov:=o51) (chN rfl) (chH rfl) pv dv ps ds w hl hL hk
 exact ⟨rfl,2,v',w',_,hc,e⟩
noncomputable def cl28:List (Nat × PureF):=(28,S28.F)::cl29
noncomputable def o28:Ov:=ovL cl28
theorem ok28:OvOk Tryz.prog (ovP 28 S28.F o29):=S28.ok no_count mixed ok29 fun args w v hl h=>by
 obtain ⟨pv,dv,ps,ds,x,rfl,hL,hk,hx,rfl⟩:=h
 obtain ⟨v',w',hc,e⟩:=run28 (ov:=o29) (chN rfl) (chN rfl) (chN rfl) (chH rfl) (chH rfl) pv dv ps ds x w hl hL hk hx
 exact ⟨rfl,4,v',w',_,hc,e⟩
theorem topNo:No3 o28:=⟨chN rfl,chN rfl,chN rfl,chN rfl,chN rfl,chN rfl,chN rfl,chN rfl,chN rfl,chN rfl,chN rfl,chN rfl,chN rfl⟩
theorem topHas:Has3 o28:=⟨chH rfl,chH rfl,chH rfl,chH rfl,chH rfl,chH rfl,chH rfl,chH rfl,chH rfl,chH rfl,chH rfl,chW rfl⟩
theorem top3 {lv pv bv:Value} {l:List Pod} {pl bits:List Int} {price part:Int} {w:AW} (hl:w.lim≤w.next) (hP:PartsW w) (hbits:bits.length≤2 ^ 60)
  (h1:PodsV w lv l) (h2:RowsV intC w pv pl) (h3:RowsV intC w bv bits) (k1:∃ a n c,lv=.slice a n c∧n≤c) (k2:∃ a n c,pv=.slice a n c∧n≤c) :
  ∃ w' x',(run Tryz.prog o28 5).call 3 [.agg ⟨[lv,pv,.int .i64 price,.int .i64 part]⟩,bv] w .none=.ok (.ret (.bool true)) w' x':=by
 obtain ⟨_,w',hc,rfl⟩:=run3 (ov:=o28) (price:=price) (part:=part) 0 (chN rfl) topNo topHas hl hP hbits h1 h2 h3 k1 k2
 exact ⟨w',_,hc⟩
open Go Go.Sh Go.ChangeShapes
theorem ty25:tyOk Tryz.prog 8 25=true:=by kernel_rfl
theorem ty23:tyOk Tryz.prog 8 23=true:=by kernel_rfl
theorem u3:Tryz.prog.underlying 3=some (.int .i64):=by kernel_rfl
theorem u9:Tryz.prog.underlying 9=some .string:=by kernel_rfl
theorem u22:Tryz.prog.underlying 22=some (.slice 45):=by kernel_rfl
theorem u23:Tryz.prog.underlying 23=some (.slice 3):=by kernel_rfl
theorem u25:Tryz.prog.underlying 25=some (.struct (fieldsOf Tryz.prog 25)):=by kernel_rfl
theorem u27:Tryz.prog.underlying 27=some (.struct (fieldsOf Tryz.prog 27)):=by kernel_rfl
theorem u45:Tryz.prog.underlying 45=some (.struct (fieldsOf Tryz.prog 45)):=by kernel_rfl
theorem f25:(fieldsOf Tryz.prog 25).toList.map (fun f=>(f.type,f.offset))=[(22,0),(23,1),(3,2),(3,3)]:=by kernel_rfl
theorem f27:(fieldsOf Tryz.prog 27).toList.map (fun f=>(f.type,f.offset))=[(3,0),(3,1)]:=by kernel_rfl
theorem f45:(fieldsOf Tryz.prog 45).toList.map (fun f=>(f.type,f.offset))=[(9,0),(3,1),(27,2),(27,4),(27,6)]:=by kernel_rfl
theorem c3:Tryz.prog.cellsOf 3=1:=by kernel_rfl
theorem c9:Tryz.prog.cellsOf 9=1:=by kernel_rfl
theorem c22:Tryz.prog.cellsOf 22=1:=by kernel_rfl
theorem c23:Tryz.prog.cellsOf 23=1:=by kernel_rfl
theorem c25:Tryz.prog.cellsOf 25=4:=by kernel_rfl
theorem c27:Tryz.prog.cellsOf 27=2:=by kernel_rfl
theorem c45:Tryz.prog.cellsOf 45=8:=by kernel_rfl
theorem b3:Tryz.prog.bytesOf 3=8:=by kernel_rfl
theorem span_of {H:T AObj} {n:Nat} {cs:List Value} (h:WT Tryz.prog H n 27 cs):∃ a b,cs=[.int .i64 a,.int .i64 b]:=by
 obtain ⟨hl,hf⟩:=h.toStruct u27
 rw [f27] at hf
 rw [c27] at hl
 obtain ⟨a,ha,_⟩:=(hf (3,0) (by simp)).toInt u3
 obtain ⟨b,hb,_⟩:=(hf (3,1) (by simp)).toInt u3
 rw [c3] at ha hb
 match cs,hl with
 | [x,y],_ =>
  simp at ha hb
  exact ⟨a,b,by rw [ha,hb]⟩
theorem pod_of {H:T AObj} {n:Nat} {cs:List Value} (h:WT Tryz.prog H n 45 cs):∃ p,cs=podC p:=by
 obtain ⟨hl,hf⟩:=h.toStruct u45
 rw [f45] at hf
 rw [c45] at hl
 obtain ⟨s,hs,_⟩:=(hf (9,0) (by simp)).toStr u9
 obtain ⟨b,hb,_⟩:=(hf (3,1) (by simp)).toInt u3
 obtain ⟨rl,rh,hr⟩:=span_of (hf (27,2) (by simp))
 obtain ⟨hl',hh,hh'⟩:=span_of (hf (27,4) (by simp))
 obtain ⟨gl,gh,hg⟩:=span_of (hf (27,6) (by simp))
 rw [c9] at hs
 rw [c3] at hb
 rw [c27] at hr hh' hg
 match cs,hl with
 | [x0,x1,x2,x3,x4,x5,x6,x7],_ =>
  simp at hs hb hr hh' hg
  exact ⟨⟨s,b,rl,rh,hl',hh,gl,gh⟩,by rw [hs,hb,hr.1,hr.2,hh'.1,hh'.2,hg.1,hg.2]; rfl⟩
theorem podsW_of {H:T AObj} {n lim:Nat} {cs:List Value} (h:WT Tryz.prog H n 22 cs):∃ v l,cs=[v]∧PodsV ⟨H,n,lim⟩ v l∧∃ a n c,v=.slice a n c∧n≤c:=by
 rcases WT.toSlice u22 h with ⟨a,ha⟩ | ⟨b,k,c,ty,ro,ha,hb,hg,hk,_,hc,he⟩
 ·exact ⟨_,[],ha,.inl ⟨a,0,rfl,rfl⟩,a,0,0,rfl,Nat.le_refl _⟩
 ·rw [c45] at hc he
  obtain ⟨l,h1,h2⟩:=chunks (f:=podC) podC_length k c hc fun i hi=>pod_of (he i hi)
  subst h1
  refine ⟨_,l,ha,.inr ⟨b,some 1,l.length,rfl,⟨[],ty,ro,?_⟩,hb⟩,_,_,_,rfl,Nat.le_refl _⟩
  rw [hg,List.append_nil,h2]; rfl
theorem ints_of {H:T AObj} {n lim:Nat} {cs:List Value} (h:WT Tryz.prog H n 23 cs):∃ v l,cs=[v]∧RowsV intC ⟨H,n,lim⟩ v l∧∃ a n c,v=.slice a n c∧n≤c:=by
 obtain ⟨v,l,hv,hr⟩:=rows_of_WT (lim:=lim) u23 c3 intC_length (fun cs h=>by
  obtain ⟨z,hz,_⟩:=h.toInt u3
  exact ⟨z,hz⟩) h
 refine ⟨v,l,hv,hr,?_⟩
 rcases WT.toSlice u23 h with ⟨a,ha⟩ | ⟨b,k,c,ty,ro,ha,_⟩
 ·rw [hv] at ha; cases ha; exact ⟨a,0,0,rfl,Nat.le_refl _⟩
 ·rw [hv] at ha; cases ha; exact ⟨_,k,k,rfl,Nat.le_refl _⟩
theorem ahead_arg {A:AW} {m:Value} (h:ArgT Tryz.prog A.heap A.next 25 m):∃ lv pv l pl,∃ price part:Int,m=.agg ⟨[lv,pv,.int .i64 price,.int .i64 part]⟩∧PodsV A lv l∧RowsV intC A pv pl∧(∃ a n c,lv=.slice a n c∧n≤c)∧∃ a n c,pv=.slice a n c∧n≤c:=by
 unfold ArgT at h
 rw [u25] at h
 obtain ⟨c,rfl,h⟩:=h
 obtain ⟨hl,hf⟩:=h.toStruct u25
 rw [f25] at hf
 rw [c25] at hl
 obtain ⟨lv,l,h1,hL,k1⟩:=podsW_of (lim:=A.lim) (hf (22,0) (by simp))
 obtain ⟨pv,pl,h2,hP,k2⟩:=ints_of (lim:=A.lim) (hf (23,1) (by simp))
 obtain ⟨a,ha,_⟩:=(hf (3,2) (by simp)).toInt u3
 obtain ⟨b,hb,_⟩:=(hf (3,3) (by simp)).toInt u3
 rw [c22] at h1
 rw [c23] at h2
 rw [c3] at ha hb
 match c,hl with
 | [x0,x1,x2,x3],_ =>
  simp at h1 h2 ha hb
  exact ⟨lv,pv,l,pl,a,b,by rw [h1,h2,ha,hb],hL,hP,k1,k2⟩
theorem ints_arg {A:AW} {m:Value} (h:ArgT Tryz.prog A.heap A.next 23 m):∃ l,RowsV intC A m l:=by
 unfold ArgT at h
 rw [u23] at h
 obtain ⟨v,l,hv,hr,_⟩:=ints_of (lim:=A.lim) h
 cases hv
 exact ⟨l,hr⟩
theorem short_of {A:AW} {m:Value} {L:List Int} (h:RowsV intC A m L) (k:∀ (a:Option Addr) (n c:Nat),m=.slice a n c→n * Tryz.prog.bytesOf 3≤reachBytes):L.length≤2 ^ 60:=by
 obtain ⟨a,c,e⟩:=h.len
 have:=k a _ c e
 rw [b3] at this
 unfold reachBytes at this
 omega
theorem parts_start:(startH laidL).get 0=some (.cells partsC 140 true):=by
 show ((startH []).put 0 (some (.cells partsC 140 true))).get 0=_
 rw [get_put,if_pos rfl]
theorem start_true (A:AW) (ms:List Value) (hl:A.lim=A.next) (hG:Tryz.prog.globals.size≤A.next) (hs:∀ b,b < Tryz.prog.globals.size→A.heap.get b=(startH laidL).get b) (hms:ArgsT Tryz.prog A.heap A.next [25,23] ms) (hz:∀ (j:Nat) t e a k c,([25,23]:List TypeId)[j]?=some t→Tryz.prog.underlying t=some (.slice e)→ms[j]?=some (.slice a k c)→k * Tryz.prog.bytesOf e≤reachBytes) :
  ∃ A' x',(run Tryz.prog o28 5).call 3 ms A .none=.ok (.ret (.bool true)) A' x':=by
 rw [globals1] at hG hs
 match ms,hms,hz with
 | [m,u],hm,hz =>
  obtain ⟨lv,pv,l,pl,price,part,rfl,h1,h2,k1,k2⟩:=ahead_arg hm.1
  obtain ⟨bits,h3⟩:=ints_arg hm.2.1
  exact top3 (Nat.le_of_eq hl) ⟨⟨true,by rw [hs 0 (by decide),parts_start]⟩,hG⟩ (short_of h3 fun a n c e=>hz 1 23 3 a n c rfl u23 (by rw [e]; rfl)) h1 h2 h3 k1 k2
open Go.ChangeShapes Go.WideShapes Go.ChangeAt Go.RowKit Go.Sh
theorem own:ownKnob Tryz.prog.godebug=none:=by kernel_rfl
theorem row0:RowOf Tryz.prog 0 16 140:=.of (by kernel_rfl)
theorem g0:Tryz.prog.globalNamed "rostellum/pod.parts"=some 0:=by kernel_rfl
theorem t0:(Tryz.prog.globals[0]?).map (·.type)=some 140:=by kernel_rfl
theorem parts_dat:datC Tryz.prog 5 140 Rows.laid_rostellum_pod_parts=some partsC:=by kernel_rfl
def laidRow:List (String × DataW Unit):=[("rostellum/pod.parts",Rows.laid_rostellum_pod_parts)]
theorem laid_ok {W:World} (hs:W.ShapedOpen Tryz.prog) (hL:laidMet Tryz.prog laidRow W):LaidOk Tryz.prog W laidL:=by
 intro x hx
 unfold laidL at hx
 rcases List.mem_cons.1 hx with rfl | hx
 ·exact laid_plain hs hL (.head _) g0 (by rw [globals1]; decide) t0 parts_dat (by kernel_rfl) row0
 ·cases hx
theorem kids:Kids Tryz.prog (· < Tryz.prog.types.size):=kids_rows (by kernel_rfl) (by kernel_rfl)
theorem wide:slicesWide Tryz.prog=true:=by kernel_rfl
noncomputable def laidWorld (os:Os):World :=
 let w0:=World.holding Tryz.prog os ⟨#[],#[],[]⟩
 let put (h:Array Obj) (g:Nat) (cs:Array Value):Array Obj:=h.modify g fun
  | .cells _ t frozen=>.cells cs t frozen
  | o=>o
 { w0 with heap:=put w0.heap 0 partsC.toArray }
theorem laid_met (os:Os) (args:Array Value):laidMet Tryz.prog laidRow ((laidWorld os).forCall (fun _ _=>0) ⟨#[],args,[]⟩).memory :=
 laidMet_of_run' 8 (by kernel_rfl) (by kernel_rfl)
theorem reads (os:Os) {H:Type} (enc:TypeId × Value→H):∃ places,DataW.whole enc Tryz.prog ((laidWorld os).forCall (fun _ _=>0) ⟨#[],#[.agg ⟨[.slice none 0 0,.slice none 0 0,.int .i64 0,.int .i64 0]⟩,.slice none 0 0],[]⟩).memory Tryz.f3.params.toList Rows.topLentSpec.vars false (#[Value.agg ⟨[.slice none 0 0,.slice none 0 0,.int .i64 0,.int .i64 0]⟩,.slice none 0 0]:Array Value).toList 8=some ([.agg [.nil,.nil,.lit (.int .i64 0),.lit (.int .i64 0)],.nil],[],places) :=
 ⟨[],by kernel_rfl⟩
theorem mem_all {t a b:Nat} (h:t ∈ [a,b]):t=a∨t=b:=by simpa using h
theorem params3:Tryz.f3.params.toList=[25,23]:=by kernel_rfl
set_option maxRecDepth 100000 in
theorem contract (H:Type) (enc:TypeId × Value→H) (W:World) (base:Nat) (args:Array Value) (ds gs:List (DataW H)) (before:List MemPlace)
  (hval:∀ (j:Nat) t v,Tryz.f3.params[j]?=some t→args[j]?=some v→Value.okWide Tryz.prog W .any base t v)
  (hW:DataW.Whole enc Tryz.prog Tryz.f3.params.toList Rows.topLentSpec.vars false W args.toList ds gs before) {tw:List TypeId} (hz:(DataW.weightsEach Tryz.prog (Tryz.f3.params.toList++tw) (ds++gs)).all (·≤reachBytes)=true) (hL:laidMet Tryz.prog laidRow W) (hs:W.ShapedOpen Tryz.prog) :
  Calls Tryz.prog 3 args W fun e W'=>∃ v,e=.returned v∧Rows.topLentSpec.post enc Tryz.prog Tryz.f3 false true false false W args v W':=by
 have hW':=hW
 obtain ⟨vs⟩:=args
 obtain ⟨p,q,hA,hV,rfl,hfz,hnd⟩:=hW
 obtain ⟨rfl,rfl⟩:=trodVars_none hV
 have hA':=hA
 rw [params3] at hA'
 rw [params3] at hz
 obtain ⟨_,hlen⟩:=trodAll_length _ _ _ _ hA'
 have key:=input_sized no_count mixed ok28 (laid_ok hs hL) (d:=8) (ts:=[25,23]) (f:=3) (m:=5) (fun t ht=>by rcases mem_all ht with rfl | rfl; exact ty25; exact ty23) (fun j t v h1 h2=>hval j t v (by rw [← Array.getElem?_toList,params3]; exact h1) (by simpa using h2)) hA' hlen hz start_true
 match ds,hlen with
 | [d1,d2],_ =>
  refine key.mono fun e W' ⟨he,hk⟩=>?_
  subst he
  exact ⟨_,rfl,post_stays (pa:=p) (pv:=[]) hW' (fun _ _ _=>trodAll_cons_mk (shut_bool Tryz.underlying4 _) trodAll_mk0)
   (fun sp hsp=>by
    show DataW.TrodAll enc Tryz.prog W' 0 sp true Tryz.f3.params.toList vs [d1,d2] p
    rw [params3]
    exact args_again kids wide hk [25,23] vs [d1,d2] p (fun t ht=>by rcases mem_all ht with rfl | rfl <;> decide +kernel) hA' (fun x hx=>hW'.lt x (by simpa using hx)) (fun x hx=>hsp x (by simpa using hx)))
   (fun _ _=>rfl) rfl hk (ok_one (by kernel_rfl) rfl (okWide_bool_mk Tryz.underlying4 _))⟩
set_option maxRecDepth 100000 in
theorem lifted (os:Os) (started:os.Started) (H:Type) (enc:TypeId × Value→H) (F:Stop.Interp) :
  ReturnsInHanded {} Tryz.checked os 3 .any ((OpenSpec.ofChange Rows.topLentSpec).preRow enc Tryz.prog Tryz.f3 Rows.topLentRow.domain false Rows.topLentRow.laid) (((OpenSpec.ofChange Rows.topLentSpec).at F).post enc Tryz.prog Tryz.f3 false true false false):=by
 obtain ⟨places,hx⟩:=reads os enc
 refine returnsInHanded_of_row (C:=Tryz.checked) (s:=OpenSpec.ofChange Rows.topLentSpec) own started (by kernel_rfl) Tryz.func3
  (witness_row_atRef (enc:=enc) (C:=Tryz.checked) false (laidWorld os) #[.agg ⟨[.slice none 0 0,.slice none 0 0,.int .i64 0,.int .i64 0]⟩,.slice none 0 0] rfl (by kernel_rfl) (by kernel_rfl) (by kernel_rfl)
   (OpenSpec.preRow_of_cond 8 hx (by kernel_rfl) (fun k hk=>by cases hk) (by kernel_rfl) (laid_met os _))) ?_
 intro W base args ds gs before hval hW _ _ hz hL hs _
 exact contract H enc W base args ds gs before hval hW hz hL hs
theorem said:Rows.TopLentSaid :=
 OpenClaim.holds_of_cond 3 Tryz.f3 rfl rfl rfl rfl rfl rfl rfl ⟨rfl,rfl,rfl,rfl,rfl⟩ rfl rfl rfl rfl rfl (by kernel_rfl) Tryz.func3 (by kernel_rfl)
  (of_decide_eq_true (by kernel_rfl)) (by unfold Func.isWrapper; first | (rw [if_pos (by decide +kernel)]; kernel_rfl) | (rw [if_neg (by decide +kernel)]; exact ⟨rfl,rfl⟩))
  (fun os started H enc _ F=>by rw [OpenClaim.pre_eq_preRow]; exact lifted os started H enc F)
theorem plain (f:FuncId) (fn:Func) (hf:Tryz.pinned.checked.prog.funcNamed "rostellum/rostellumtop.TopLent"=some f) (hfn:Tryz.pinned.checked.prog.funcs[f]?=some fn) :
  false=Tryz.pinned.checked.prog.looks []∧∀ (j:Nat) t,fn.params[j]?=some t→Tryz.pinned.checked.prog.wantsStandIn t=false:=by
 obtain rfl:f=3:=Option.some.inj ((show Tryz.prog.funcNamed "rostellum/rostellumtop.TopLent"=some 3 by kernel_rfl).symm.trans hf) |>.symm
 obtain rfl:fn=Tryz.f3:=(Option.some.inj (Tryz.func3.symm.trans hfn)).symm
 refine ⟨by kernel_rfl,fun j t ht=>?_⟩
 have h1:t ∈ Tryz.f3.params.toList:=by
  rw [← Array.getElem?_toList] at ht
  exact List.mem_of_getElem? ht
 rw [params3] at h1
 have k23:Tryz.prog.wantsStandIn 23=false:=by kernel_rfl
 have k25:Tryz.prog.wantsStandIn 25=false:=by kernel_rfl
 rcases mem_all h1 with rfl | rfl
 ·exact k25
 ·exact k23
set_option maxRecDepth 100000 in
theorem card:Rows.TopLentCardSaid :=
 Claim7.holds_tied_plain_at .later [] _ _ _ _ said (fun _ h=>by cases h) (by kernel_rfl) (fun _ h=>by cases h) topLent_row_tie rfl ⟨rfl,rfl⟩ (by kernel_rfl) rfl plain (by kernel_rfl)
end Go.Proofs.YtijlaopbnigkaaaGreatDoor.walk
