/- Part of a proof: see the text with the theorem. -/
import Derived.Test.YtnmamelclmfplaaDoorTk
import Derived.Test.YtnmamelclmfplaaDoorShF
import Derived.Test.YtnmamelclmfplaaDoorTj
import Derived.Test.YtnmamelclmfplaaDoorTd
set_option linter.all false
namespace Go.Proofs.YtnmamelclmfplaaDoor.walk
open Go Go.Sh
set_option maxRecDepth 100000
def S43:PSpec where
 R args w v:=∃ (av bv:Value) (a b:List Int),args=[av,bv]∧RowsV intC w av a∧RowsV intC w bv b∧a.length≤1000∧b.length≤1000∧v=.bool (lexL a b)
 uniq:=by
  rintro _ _ _ _ ⟨_,_,a,b,rfl,h1,h2,_,_,rfl⟩ ⟨_,_,a',b',h,k1,k2,_,_,rfl⟩
  cases h
  rw [h1.uniq (m:=1) intC_length intC_inj k1,h2.uniq (m:=1) intC_length intC_inj k2]
 shut h:=h
theorem next_with {r:List CAct} {d:List CDay} {s s':Stg} {a:Int} (h:nextS r d s a=some s'):∃ x,r[a.toNat]?=some x∧s'.lo=s.lo + x.ll∧s'.hi=s.hi + x.lh:=by
 obtain ⟨i,rfl,hi⟩:=next_nat h
 obtain ⟨x,hx⟩:∃ x,r[i]?=some x:=⟨_,List.getElem?_eq_getElem hi⟩
 cases hd:d[s.done.toNat]? with
 | none=>unfold nextS at h; rw [hd] at h; cases h
 | some y =>
  rw [next_at hd hx] at h
  split at h
  ·cases Option.some.inj h
   exact ⟨x,by rw [Int.toNat_natCast]; exact hx,rfl,rfl⟩
  ·cases h
theorem stg_sum {r:List CAct} {d:List CDay}:∀ {acts:List Int} {s t:Stg},stgF r d s acts=some t→t.lo=s.lo + (sumS (lossL r acts)).1∧t.hi=s.hi + (sumS (lossL r acts)).2
 | [],s,t,h=>by
  have:s=t:=Option.some.inj h
  subst this
  show s.lo=s.lo + 0∧s.hi=s.hi + 0
  omega
 | a::bs,s,t,h=>by
  obtain ⟨s',h1,h2⟩:=stgF_cons h
  obtain ⟨x,hx,e1,e2⟩:=next_with h1
  have ih:=stg_sum h2
  have e:lossL r (a::bs)=(x.ll,x.lh)::lossL r bs:=by
   show (match r[a.toNat]? with | some x=>(x.ll,x.lh) | none=>(0,0))::lossL r bs=_
   rw [hx]
  rw [e]
  show t.lo=s.lo + (x.ll + (sumS (lossL r bs)).1)∧t.hi=s.hi + (x.lh + (sumS (lossL r bs)).2)
  omega
theorem sur_at {r:List CAct} {d:List CDay} {b:CBox} {acts:List Int} {lim:Sp} (h:actE r d b acts=0) {t:Stg} (ht:stgF r d startS acts=some t):surB b (lossL r acts) lim=soB b lim t:=by
 obtain ⟨hR,hD,hB,_,_⟩:=act_ofE h
 have hl:=stg_len hR ht
 have hd:=days_len hD
 have hs:=stg_sum ht
 have hst:StOk r acts t:=by
  rcases stg_can (d:=d) hR acts acts.length (Nat.le_refl _) with ⟨k,_⟩ | ⟨s,k1,_,k3⟩
  ·rw [List.take_length,ht] at k; cases k
  ·rw [List.take_length] at k1 k3
   rw [ht] at k1
   cases Option.some.inj k1
   exact k3
 have hh:=hst.hi
 have e1:(sumS (lossL r acts))=(t.lo,t.hi):=Prod.ext (by have:=hs.1; show _=t.lo; simp only [startS] at this; omega) (by have:=hs.2; show _=t.hi; simp only [startS] at this; omega)
 have:=sur_sum (lim:=lim) hB (by rw [lossL_length]; omega) (los_ok h) (by rw [e1]; show t.hi≤1000000; omega)
 rw [← this,e1]
 rfl
theorem act_at {r:List CAct} {d:List CDay} {b:CBox} {acts:List Int} (h:bxE r d b=0) {t:Stg} (ht:stgF r d startS acts=some t):actE r d b acts=0:=by
 unfold actE; rw [if_pos h,ht]
structure Has8 (ov:Ov):Prop where
 hL:HasL ov
 o16:∀ args w,ov 16 args w=none
 o31:∀ args w,ov 31 args w=none
 o34:∀ args w,ov 34 args w=none
 o57:∀ args w,ov 57 args w=none
 o59:∀ args w,ov 59 args w=none
 o74:∀ args w,ov 74 args w=none
 o83:∀ args w,ov 83 args w=none
 h29:HasP ov 29 S29.F
 h33:HasP ov 33 S33.F
 h37:HasP ov 37 S37.F
 h39:HasP ov 39 S39.F
 h43:HasP ov 43 S43.F
 h48:HasP ov 48 S48g.F
 h56:HasP ov 56 S56.F
 h58:HasP ov 58 S58.F
 h70:HasP ov 70 S70.F
 h73:HasP ov 73 S73.F
 h84:HasP ov 84 S84.F
 hW:HasW ov
section
variable {ov:Ov} {r:List CAct} {d:List CDay} {b:CBox} {lim:Sp} {rv dv:Value}
end
def dgL:List UInt8:=[48,49,50,51,52,53,54,55,56,57]
def decN (n:Nat):List UInt8:=if n≤9 then (dgL.take (n + 1)).drop n else [49]++(dgL.take (n - 10 + 1)).drop (n - 10)
theorem decN_no:∀ n:Fin 20,(32:UInt8) ∉ decN n.1:=by decide
theorem decN_inj:∀ a b:Fin 20,decN a.1=decN b.1→a.1=b.1:=by decide
theorem cut_sp:∀ {u v x y:List UInt8},(32:UInt8) ∉ u→(32:UInt8) ∉ v→u++32::x=v++32::y→u=v∧x=y
 | [],[],x,y,_,_,h=>⟨rfl,(List.cons.inj h).2⟩
 | [],b::v,x,y,_,hv,h=>by
  have:=(List.cons.inj h).1
  exact absurd (by rw [← this]; exact List.mem_cons_self) hv
 | a::u,[],x,y,hu,_,h=>by
  have:=(List.cons.inj h).1
  exact absurd (by rw [this]; exact List.mem_cons_self) hu
 | a::u,b::v,x,y,hu,hv,h=>by
  obtain ⟨h1,h2⟩:=List.cons.inj h
  obtain ⟨e1,e2⟩:=cut_sp (u:=u) (v:=v) (fun k=>hu (.tail _ k)) (fun k=>hv (.tail _ k)) h2
  exact ⟨by rw [h1,e1],e2⟩
theorem dec_cut {a b:Nat} (ha:a < 20) (hb:b < 20) {x y:List UInt8} (h:decN a++32::x=decN b++32::y):a=b∧x=y:=by
 obtain ⟨h1,h2⟩:=cut_sp (decN_no ⟨a,ha⟩) (decN_no ⟨b,hb⟩) h
 exact ⟨decN_inj ⟨a,ha⟩ ⟨b,hb⟩ h1,h2⟩
def cntA (so:List Int) (a:Nat):Nat:=so.count (a:Int)
def cntK (so:List Int) (n:Nat):List UInt8:=(List.range n).flatMap fun a=>32::decN (cntA so a)
def lastA (so:List Int):Int:=so.getLast?.getD 0
def runA (so:List Int):Nat:=runL (lastA so) so.reverse
def keyL (so:List Int):List UInt8:=decN so.length++cntK so 5++(if so=[] then [] else 32::decN (lastA so).toNat)++32::decN (runA so)
def Good (so:List Int):Prop:=so.length≤14∧∀ z ∈ so,0≤z∧z < 5
theorem runA_le (so:List Int):runA so≤so.length:=by
 unfold runA
 have:=runL_le (lastA so) so.reverse
 rwa [List.length_reverse] at this
theorem lastA_mem {so:List Int} (h:so ≠ []):lastA so ∈ so:=by
 unfold lastA
 rw [List.getLast?_eq_some_getLast h]
 exact List.getLast_mem h
theorem cntK_succ (so:List Int) (n:Nat):cntK so (n + 1)=cntK so n++32::decN (cntA so n):=by
 unfold cntK
 rw [List.range_succ,List.flatMap_append]; simp
theorem cntA_le {so:List Int} (h:Good so) (a:Nat):cntA so a < 20:=by
 have:=List.count_le_length (a:=(a:Int)) (l:=so)
 have:=h.1
 unfold cntA
 omega
theorem key_inj {so so':List Int} (h:Good so) (h':Good so') (he:keyL so=keyL so'):so.length=so'.length∧(∀ a:Nat,a < 5→cntA so a=cntA so' a)∧(so ≠ []→lastA so=lastA so')∧runA so=runA so':=by
 have e5:∀ so:List Int,∀ x,cntK so 5++x=32::(decN (cntA so 0)++32::(decN (cntA so 1)++32::(decN (cntA so 2)++32::(decN (cntA so 3)++32::(decN (cntA so 4)++x))))):=fun so x=>by
  rw [cntK_succ,cntK_succ,cntK_succ,cntK_succ,cntK_succ]
  simp [cntK,List.append_assoc]
 have hl:=h.1; have hl':=h'.1
 have r1:=runA_le so; have r2:=runA_le so'
 unfold keyL at he
 simp only [List.append_assoc] at he
 rw [e5,e5] at he
 obtain ⟨q0,he⟩:=dec_cut (by omega) (by omega) he
 obtain ⟨q1,he⟩:=dec_cut (cntA_le h 0) (cntA_le h' 0) he
 obtain ⟨q2,he⟩:=dec_cut (cntA_le h 1) (cntA_le h' 1) he
 obtain ⟨q3,he⟩:=dec_cut (cntA_le h 2) (cntA_le h' 2) he
 obtain ⟨q4,he⟩:=dec_cut (cntA_le h 3) (cntA_le h' 3) he
 have hcnt:cntA so 4=cntA so' 4→∀ a:Nat,a < 5→cntA so a=cntA so' a:=fun q5 a ha=>by
  have:a=0∨a=1∨a=2∨a=3∨a=4:=by omega
  rcases this with rfl | rfl | rfl | rfl | rfl <;> assumption
 by_cases hn:so=[]
 ·have hn':so'=[]:=by
   rw [hn] at q0
   exact List.eq_nil_of_length_eq_zero q0.symm
  rw [if_pos hn,if_pos hn',List.nil_append,List.nil_append] at he
  obtain ⟨q5,he⟩:=dec_cut (cntA_le h 4) (cntA_le h' 4) he
  exact ⟨q0,hcnt q5,fun k=>absurd hn k,decN_inj ⟨runA so,by omega⟩ ⟨runA so',by omega⟩ he⟩
 ·have hn':so' ≠ []:=fun e=>hn (List.eq_nil_of_length_eq_zero (by rw [q0,e]; rfl))
  rw [if_neg hn,if_neg hn'] at he
  simp only [List.cons_append] at he
  obtain ⟨q5,he⟩:=dec_cut (cntA_le h 4) (cntA_le h' 4) he
  have m1:=h.2 _ (lastA_mem hn)
  have m2:=h'.2 _ (lastA_mem hn')
  obtain ⟨q6,he⟩:=dec_cut (a:=(lastA so).toNat) (b:=(lastA so').toNat) (by omega) (by omega) he
  exact ⟨q0,hcnt q5,fun _=>by omega,decN_inj ⟨runA so,by omega⟩ ⟨runA so',by omega⟩ he⟩
theorem sum_perm {L M:List Sp} (h:L.Perm M):sumS L=sumS M:=by
 induction h with
 | nil=>rfl
 | cons x _ ih=>simp only [sumS]; rw [ih]
 | swap x y l =>
  simp only [sumS]
  exact Prod.ext (by show y.1 + (x.1 + (sumS l).1)=x.1 + (y.1 + (sumS l).1); omega) (by show y.2 + (x.2 + (sumS l).2)=x.2 + (y.2 + (sumS l).2); omega)
 | trans _ _ h1 h2=>rw [h1,h2]
theorem good_of {r:List CAct} {d:List CDay} (hR:ruleB r=true) (hD:daysB d=true) {so:List Int} {t:Stg} (h:stgF r d startS so=some t):Good so:=by
 have h1:=stg_len hR h
 have h2:=days_len hD
 have h3:=rule_len hR
 refine ⟨by omega,fun z hz=>?_⟩
 obtain ⟨h4,x,h5⟩:=stg_acts _ _ _ h z hz
 have:=(List.getElem?_eq_some_iff.1 h5).1
 omega
theorem stOk_of {r:List CAct} {d:List CDay} (hR:ruleB r=true) {so:List Int} {t:Stg} (h:stgF r d startS so=some t):StOk r so t:=by
 rcases stg_can (d:=d) hR so so.length (Nat.le_refl _) with ⟨k,_⟩ | ⟨s,k1,_,k3⟩
 ·rw [List.take_length,h] at k; cases k
 ·rw [List.take_length] at k1 k3
  rw [h] at k1
  cases Option.some.inj k1
  exact k3
theorem key_stage {r:List CAct} {d:List CDay} (hR:ruleB r=true) (hD:daysB d=true) {so so':List Int} {t t':Stg} (h:stgF r d startS so=some t) (h':stgF r d startS so'=some t') (he:keyL so=keyL so'):t=t':=by
 have g:=good_of hR hD h
 have g':=good_of hR hD h'
 obtain ⟨q0,q1,q2,q3⟩:=key_inj g g' he
 have s:=stOk_of hR h
 have s':=stOk_of hR h'
 have hp:so.Perm so':=List.perm_iff_count.2 fun z=>by
  by_cases hz:0≤z∧z < 5
  ·have:=q1 z.toNat (by omega)
   unfold cntA at this
   rwa [show ((z.toNat:Nat):Int)=z by omega] at this
  ·rw [List.count_eq_zero.2 (fun m=>hz (g.2 z m)),List.count_eq_zero.2 (fun m=>hz (g'.2 z m))]
 have hs:=sum_perm (hp.map fun a=>match r[a.toNat]? with | some x=>(x.ll,x.lh) | none=>((0,0):Sp))
 have e1:=stg_sum h
 have e2:=stg_sum h'
 have hs:sumS (lossL r so)=sumS (lossL r so'):=hs
 rw [hs] at e1
 have hd:t.done=t'.done:=by rw [s.done,s'.done,q0]
 have hl:t.last=t'.last∧t.row=t'.row:=by
  by_cases hn:so=[]
  ·have hn':so'=[]:=List.eq_nil_of_length_eq_zero (by rw [← q0,hn]; rfl)
   subst hn hn'
   have a1:startS=t:=Option.some.inj h
   have a2:startS=t':=Option.some.inj h'
   rw [← a1,← a2]
   exact ⟨rfl,rfl⟩
  ·have hn':so' ≠ []:=fun e=>hn (List.eq_nil_of_length_eq_zero (by rw [q0,e]; rfl))
   have l1:t.last=lastA so:=by
    rcases s.last with ⟨e,_⟩ | ⟨z,e,e',_⟩
    ·exact absurd e hn
    ·unfold lastA; rw [e,e']; rfl
   have l2:t'.last=lastA so':=by
    rcases s'.last with ⟨e,_⟩ | ⟨z,e,e',_⟩
    ·exact absurd e hn'
    ·unfold lastA; rw [e,e']; rfl
   refine ⟨by rw [l1,l2,q2 hn],?_⟩
   rw [s.row,s'.row,l1,l2]
   have:runL (lastA so) so.reverse=runL (lastA so') so'.reverse:=q3
   rw [this]
 obtain ⟨a1,a2,a3,a4,a5⟩:=t
 obtain ⟨b1,b2,b3,b4,b5⟩:=t'
 simp only at e1 e2 hd hl
 rw [hd,hl.1,hl.2,show a4=b4 by omega,show a5=b5 by omega]
def Comp (r:List CAct) (d:List CDay) (so:Stg→Bool) (j:Nat) (t:Stg) (acts:List Int):Prop:=acts.length=j∧∃ t2,stgF r d t acts=some t2∧so t2=true
theorem lex_anti:∀ {a b:List Int},a.length=b.length→lexL a b=false→lexL b a=false→a=b
 | [],[],_,_,_=>rfl
 | [],_::_,h,_,_=>by simp at h
 | _::_,[],h,_,_=>by simp at h
 | x::a,y::b,h,h1,h2=>by
  have h1:(if x=y then lexL a b else decide (x < y))=false:=h1
  have h2:(if y=x then lexL b a else decide (y < x))=false:=h2
  by_cases e:x=y
  ·rw [if_pos e] at h1
   rw [if_pos e.symm] at h2
   rw [e,lex_anti (by simpa using h) h1 h2]
  ·rw [if_neg e,decide_eq_false_iff_not] at h1
   rw [if_neg (fun k=>e k.symm),decide_eq_false_iff_not] at h2
   exact absurd (by omega) e
structure Tri (we w:AW) (n0:Nat) (v11 v12 v13:Value) (a11:List Int) (a12 a13:List CRead):Prop where
 up:∀ x,x≤n0→w.heap.get x=we.heap.get x
 next:n0 < w.next
 lim:w.lim=we.lim
 rows:∃ B1 B2 B3,AccQ intC 3 n0 w v11 a11 B1∧AccQ readC 72 n0 w v12 a12 B2∧AccQ readC 72 n0 w v13 a13 B3∧(a11=[]∨a12=[]∨B1 ≠ B2)∧(a11=[]∨a13=[]∨B1 ≠ B3)∧(a12=[]∨a13=[]∨B2 ≠ B3)
def capF (n:Nat) (lo:Int) (U:Nat→Sp):Nat→Sp:=updS U n (bothS (U n) (lo,1000000))
def fwF (L C:Nat→Sp):Nat→Sp
 | 0=>C 0
 | i + 1=>bothS (C (i + 1)) (restS (fwF L C i) (L i))
def bkF (n:Nat) (L G:Nat→Sp):Nat→Sp
 | 0=>G n
 | j + 1=>bothS (G (n - (j + 1))) (wholeS (bkF n L G j) (L (n - (j + 1))))
def refR (n:Nat) (lo hi:Int) (L U:Nat→Sp) (k:Nat):Sp :=
 if k≤n then bkF n L (fwF L (capF n lo U)) (n - k) else (lo,min hi (bkF n L (fwF L (capF n lo U)) 0).2)
theorem both_sub (a b:Sp):subS (bothS a b) a∧subS (bothS a b) b:=by
 unfold subS bothS; simp only; omega
theorem both_in {x:Int} {a b:Sp}:inn x (bothS a b) ↔ inn x a∧inn x b:=by
 unfold inn bothS; simp only; omega
theorem bk_step {n:Nat} {L G:Nat→Sp} {k:Nat} (h:k < n):bkF n L G (n - k)=bothS (G k) (wholeS (bkF n L G (n - (k + 1))) (L k)):=by
 have e:n - k=(n - (k + 1)) + 1:=by omega
 rw [e]
 show bothS (G (n - ((n - (k + 1)) + 1))) (wholeS (bkF n L G (n - (k + 1))) (L (n - ((n - (k + 1)) + 1))))=_
 rw [show n - ((n - (k + 1)) + 1)=k by omega]
theorem ref_exact {n:Nat} {lo hi:Int} {L U:Nat→Sp} (hL:∀ i,i < n→(L i).1≤(L i).2) (hLn:L n=(0,1000000)) (hlo:1≤lo∧lo≤hi) (hU:U (n + 1)=(lo,hi)) (hUn:(U n).2≤1000000)
  (hne:∀ k,k≤n→(refR n lo hi L U k).1≤(refR n lo hi L U k).2):ExactS (n + 1) L U (refR n lo hi L U):=by
 obtain ⟨C,hC⟩:∃ C,C=capF n lo U:=⟨_,rfl⟩
 obtain ⟨G,hG⟩:∃ G,G=fwF L C:=⟨_,rfl⟩
 obtain ⟨B,hB⟩:∃ B:Nat→Sp,B=fun k=>bkF n L G (n - k):=⟨_,rfl⟩
 have eR:∀ k,k≤n→refR n lo hi L U k=B k:=fun k hk=>by rw [hB,hG,hC]; unfold refR; rw [if_pos hk]
 have eR1:refR n lo hi L U (n + 1)=(lo,min hi (B n).2):=by rw [hB,hG,hC]; unfold refR; rw [if_neg (by omega)]; simp only [Nat.sub_self]
 have eBn:B n=G n:=by rw [hB]; simp only [Nat.sub_self]; rfl
 have eBs:∀ k,k < n→B k=bothS (G k) (wholeS (B (k + 1)) (L k)):=fun k hk=>by rw [hB]; exact bk_step hk
 have eGs:∀ k,G (k + 1)=bothS (C (k + 1)) (restS (G k) (L k)):=fun k=>by rw [hG]; rfl
 have eG0:G 0=C 0:=by rw [hG]; rfl
 have eCn:C n=bothS (U n) (lo,1000000):=by rw [hC]; unfold capF updS; rw [if_pos rfl]
 have eCo:∀ k,k ≠ n→C k=U k:=fun k hk=>by rw [hC]; unfold capF updS; rw [if_neg hk]
 have sGC:∀ k,subS (G k) (C k):=fun k=>by
  cases k with
  | zero=>rw [eG0]; exact subS.refl _
  | succ k=>rw [eGs]; exact (both_sub _ _).1
 have sBG:∀ k,k≤n→subS (B k) (G k):=fun k hk=>by
  by_cases e:k=n
  ·subst e; rw [eBn]; exact subS.refl _
  ·rw [eBs k (by omega)]; exact (both_sub _ _).1
 have sCU:∀ k,subS (C k) (U k):=fun k=>by
  by_cases e:k=n
  ·subst e; rw [eCn]; exact (both_sub _ _).1
  ·rw [eCo k e]; exact subS.refl _
 have nB:∀ k,k≤n→(B k).1≤(B k).2:=fun k hk=>by rw [← eR k hk]; exact hne k hk
 have bn1:lo≤(B n).1:=by
  have h1:=(sGC n).1
  rw [eCn] at h1
  rw [eBn]
  unfold bothS at h1
  simp only at h1
  omega
 have bn2:(B n).2≤1000000:=by
  have h1:=(sGC n).2
  rw [eCn] at h1
  rw [eBn]
  unfold bothS at h1
  simp only at h1
  omega
 have nbn:=nB n (Nat.le_refl _)
 refine ⟨fun k hk=>?_,fun k hk=>?_,fun x=>⟨fun h=>⟨fun i hi=>?_,h.2⟩,fun h=>⟨fun i hi=>?_,h.2⟩⟩⟩
 ·by_cases e:k=n
  ·subst e
   rw [eR k (Nat.le_refl _),eR1,hLn]
   simp only
   omega
  ·have hk':k < n:=by omega
   rw [eR k (by omega),eR (k + 1) (by omega)]
   have h1:=eBs k hk'
   have h2:=(sBG (k + 1) (by omega))
   have h3:=eGs k
   have hl:=hL k hk'
   rw [h1]
   unfold subS at h2
   rw [h3] at h2
   unfold bothS restS at h2
   unfold bothS wholeS
   simp only at h2 ⊢
   omega
 ·by_cases e:k=n + 1
  ·subst e; rw [eR1]; simp only; omega
  ·rw [eR k (by omega)]; exact nB k (by omega)
 ·by_cases e:i=n + 1
  ·subst e
   have:=h.1 (n + 1) (Nat.le_refl _)
   rw [eR1] at this
   rw [hU]
   unfold inn at this ⊢
   simp only at this ⊢
   omega
  ·have:=h.1 i hi
   rw [eR i (by omega)] at this
   have h1:=sBG i (by omega)
   have h2:=sGC i
   have h3:=sCU i
   unfold inn at this ⊢
   unfold subS at h1 h2 h3
   omega
 ·have hxn:inn (x n) (U n):=h.1 n (by omega)
  have hx1:inn (x (n + 1)) (U (n + 1)):=h.1 (n + 1) (Nat.le_refl _)
  have hd:=h.2 n (by omega)
  rw [hU] at hx1
  rw [hLn] at hd
  unfold inn at hxn hx1 hd
  simp only at hx1 hd
  have inC:∀ k,k≤n→inn (x k) (C k):=fun k hk=>by
   by_cases e:k=n
   ·subst e
    rw [eCn,both_in]
    unfold inn
    simp only
    omega
   ·rw [eCo k e]; exact h.1 k (by omega)
  have inG:∀ k,k≤n→inn (x k) (G k):=by
   intro k
   induction k with
   | zero=>intro hk; rw [eG0]; exact inC 0 hk
   | succ k ih =>
    intro hk
    rw [eGs,both_in]
    refine ⟨inC _ hk,?_⟩
    have h1:=ih (by omega)
    have h2:=h.2 k (by omega)
    unfold inn restS at *
    simp only at *
    omega
  have inB:∀ j,j≤n→inn (x (n - j)) (B (n - j)):=by
   intro j
   induction j with
   | zero=>intro _; rw [Nat.sub_zero,eBn]; exact inG n (Nat.le_refl _)
   | succ j ih =>
    intro hj
    rw [eBs (n - (j + 1)) (by omega),both_in]
    refine ⟨inG _ (by omega),?_⟩
    have h1:=ih (by omega)
    have h2:=h.2 (n - (j + 1)) (by omega)
    rw [show n - (j + 1) + 1=n - j by omega] at *
    unfold inn wholeS at *
    simp only at *
    omega
  by_cases e:i=n + 1
  ·subst e
   rw [eR1]
   have:=inB 0 (Nat.zero_le _)
   rw [Nat.sub_zero] at this
   unfold inn at this ⊢
   simp only
   omega
  ·rw [eR i (by omega)]
   have:=inB (n - i) (by omega)
   rwa [show n - (n - i)=i by omega] at this
theorem ref_ne {n:Nat} {lo hi:Int} {L U:Nat→Sp} (hLn:L n=(0,1000000)) (hU:U (n + 1)=(lo,hi)) (hUn:(U n).2≤1000000) {x:Nat→Int} (h:SolS (n + 1) L U x):∀ k,k≤n→(refR n lo hi L U k).1≤(refR n lo hi L U k).2:=by
 obtain ⟨C,hC⟩:∃ C,C=capF n lo U:=⟨_,rfl⟩
 obtain ⟨G,hG⟩:∃ G,G=fwF L C:=⟨_,rfl⟩
 have hxn:inn (x n) (U n):=h.1 n (by omega)
 have hx1:inn (x (n + 1)) (U (n + 1)):=h.1 (n + 1) (Nat.le_refl _)
 have hd:=h.2 n (by omega)
 rw [hU] at hx1
 rw [hLn] at hd
 unfold inn at hxn hx1 hd
 simp only at hx1 hd
 have inC:∀ k,k≤n→inn (x k) (C k):=fun k hk=>by
  rw [hC]
  unfold capF updS
  by_cases e:k=n
  ·subst e
   rw [if_pos rfl,both_in]
   unfold inn
   simp only
   omega
  ·rw [if_neg e]; exact h.1 k (by omega)
 have inG:∀ k,k≤n→inn (x k) (G k):=by
  intro k
  induction k with
  | zero=>intro hk; rw [hG]; exact inC 0 hk
  | succ k ih =>
   intro hk
   rw [show G (k + 1)=bothS (C (k + 1)) (restS (G k) (L k)) by rw [hG]; rfl,both_in]
   refine ⟨inC _ hk,?_⟩
   have h1:=ih (by omega)
   have h2:=h.2 k (by omega)
   unfold inn restS at *
   simp only at *
   omega
 have inB:∀ j,j≤n→inn (x (n - j)) (bkF n L G j):=by
  intro j
  induction j with
  | zero=>intro _; exact inG n (Nat.le_refl _)
  | succ j ih =>
   intro hj
   show inn _ (bothS (G (n - (j + 1))) (wholeS (bkF n L G j) (L (n - (j + 1)))))
   rw [both_in]
   refine ⟨inG _ (by omega),?_⟩
   have h1:=ih (by omega)
   have h2:=h.2 (n - (j + 1)) (by omega)
   rw [show n - (j + 1) + 1=n - j by omega] at *
   unfold inn wholeS at *
   simp only at *
   omega
 intro k hk
 have:=inB (n - k) (by omega)
 unfold refR
 rw [if_pos hk,← hC,← hG]
 unfold inn at this
 omega
def refOk (n:Nat) (lo hi:Int) (L U:Nat→Sp):Bool:=(List.range (n + 1)).all fun k=>decide ((refR n lo hi L U k).1≤(refR n lo hi L U k).2)
def refB (b:CBox) (L:List Sp) (l:List CRead) (k:Nat):Sp:=refR L.length b.sl b.sh (gtS (losL L)) (gtS (iniW b L l)) k
def okB (b:CBox) (L:List Sp) (l:List CRead):Bool:=refOk L.length b.sl b.sh (gtS (losL L)) (gtS (iniW b L l))
theorem los_end (L:List Sp):gtS (losL L) L.length=(0,1000000):=by
 unfold gtS losL
 simp
theorem ref_wei {b:CBox} {L:List Sp} {l:List CRead} (hb:boxB b=true) (hL:LosW (losL L)) (hlen:L.length≤14):(okB b L l=(weighF b L l).isSome)∧∀ V,weighF b L l=some V→∀ k,k≤L.length + 1→refB b L l k=gtS V k:=by
 have hbx:=hb
 simp only [boxB,spanI,Bool.and_eq_true,decide_eq_true_eq] at hbx
 have hU1:gtS (iniW b L l) (L.length + 1)=(b.sl,b.sh):=by
  rw [iniW_at hlen (Nat.le_refl _)]
  unfold iniF iniG
  rw [if_neg (by omega),if_pos rfl]
 have hUn:(gtS (iniW b L l) L.length).2≤1000000:=by
  rw [iniW_at hlen (by omega)]
  have h2:(iniF b L.length l (L.length + 1) L.length).2≤(iniG b L.length L.length).2:=by
   unfold iniF; split
   ·exact fold_hi _ _
   ·exact Int.le_refl _
  have h3:(iniG b L.length L.length).2≤1000000:=by
   unfold iniG
   repeat' split
   all_goals simp only; omega
  omega
 have hle:∀ i,i < L.length→(gtS (losL L) i).1≤(gtS (losL L) i).2:=fun i _=>(hL i).2.1
 have hle1:∀ i,i < L.length + 1→(gtS (losL L) i).1≤(gtS (losL L) i).2:=fun i _=>(hL i).2.1
 have key:okB b L l=true→ExactS (L.length + 1) (gtS (losL L)) (gtS (iniW b L l)) (refB b L l):=fun h=>by
  refine ref_exact hle (los_end L) ⟨by omega,by omega⟩ hU1 hUn fun k hk=>?_
  have:=List.all_eq_true.1 h k (List.mem_range.2 (by omega))
  simpa using this
 cases hV:weighF b L l with
 | some V =>
  have ok:=weigh_ok hb hL hlen hV
  have hex:=ok.exact
  have hx:=(hex.low hle1 (a:=0) (by omega) (v:=(gtS V 0).1) ⟨Int.le_refl _,hex.ne 0 (by omega)⟩).1
  have hok:okB b L l=true:=by
   unfold okB refOk
   rw [List.all_eq_true]
   intro k hk
   rw [List.mem_range] at hk
   exact decide_eq_true (ref_ne (los_end L) hU1 hUn hx k (by omega))
  refine ⟨by rw [hok]; rfl,fun V' h k hk=>?_⟩
  cases h
  exact hex.uniq (key hok) hle1 k hk
 | none =>
  refine ⟨?_,fun V h=>by cases h⟩
  cases ho:okB b L l with
  | false=>rfl
  | true =>
   have hex:=key ho
   have hx:=(hex.low hle1 (a:=0) (by omega) (v:=(refB b L l 0).1) ⟨Int.le_refl _,hex.ne 0 (by omega)⟩).1
   obtain ⟨V,hV'⟩:=wei_some hlen hx
   rw [hV] at hV'; cases hV'
def RowF (n:Nat) (f:Nat→Sp):List Value:=((List.range (n + 1)).map f).flatMap spC
theorem rowF_congr {n:Nat} {f g:Nat→Sp} (h:∀ k,k≤n→f k=g k):RowF n f=RowF n g:=by
 unfold RowF
 congr 1
 refine List.map_congr_left fun k hk=>h k ?_
 rw [List.mem_range] at hk; omega
theorem rowF_len (n:Nat) (f:Nat→Sp):(RowF n f).length=(n + 1) * 2:=by unfold RowF; rw [flat_length spC_length]; simp
theorem rowF_at {n k:Nat} {f:Nat→Sp} (hk:k≤n):((RowF n f).drop (k * 2)).take 2=[.int .i64 (f k).1,.int .i64 (f k).2]:=by
 have h:((List.range (n + 1)).map f)[k]?=some (f k):=by rw [List.getElem?_map,List.getElem?_range (by omega)]; rfl
 have:=(flat_at spC_length _ k _ [] h).1
 rwa [List.append_nil] at this
theorem rowF_one {n k:Nat} {f:Nat→Sp} (hk:k≤n):(RowF n f)[k * 2]?=some (.int .i64 (f k).1)∧(RowF n f)[k * 2 + 1]?=some (.int .i64 (f k).2):=by
 have h:=rowF_at (f:=f) hk
 have h0:=congrArg (fun l=>l[0]?) h
 have h1:=congrArg (fun l=>l[1]?) h
 simp only [List.getElem?_take,List.getElem?_drop] at h0 h1
 exact ⟨by simpa using h0,by simpa using h1⟩
theorem rowF_set {n k:Nat} {f:Nat→Sp} (hk:k≤n) (a b:Int):(RowF n f).take (k * 2)++.int .i64 a::.int .i64 b::(RowF n f).drop (k * 2 + 2)=RowF n (updS f k (a,b)):=by
 have h:=flat_set spC_length ((List.range (n + 1)).map f) k (a,b) (by simp; omega)
 have e:((List.range (n + 1)).map f).set k (a,b)=(List.range (n + 1)).map (updS f k (a,b)):=by
  apply List.ext_getElem?
  intro i
  rw [List.getElem?_set,List.getElem?_map,List.getElem?_map]
  by_cases hi:i < n + 1
  ·rw [List.getElem?_range hi]
   by_cases e:k=i
   ·subst e; simp [updS]; omega
   ·rw [if_neg e]; simp [updS,Ne.symm e]
  ·rw [List.getElem?_eq_none (by simp; omega),if_neg (by omega)]; rfl
 rw [e] at h
 exact h
structure RowX (cs:List Value) (n:Nat) (f:Nat→Sp) (k:Nat):Prop where
 len:k * 2 + 2≤cs.length
 at_:(cs.drop (k * 2)).take 2=[.int .i64 (f k).1,.int .i64 (f k).2]
 lo:cs[k * 2]?=some (.int .i64 (f k).1)
 hi:cs[k * 2 + 1]?=some (.int .i64 (f k).2)
 set:∀ a b,cs.take (k * 2)++.int .i64 a::.int .i64 b::cs.drop (k * 2 + 2)=RowF n (updS f k (a,b))
theorem rowX {cs:List Value} {n k:Nat} {f:Nat→Sp} (h:cs=RowF n f) (hk:k≤n):RowX cs n f k:=by
 subst h
 exact ⟨by rw [rowF_len]; omega,rowF_at hk,(rowF_one hk).1,(rowF_one hk).2,rowF_set hk⟩
def S87:PSpec where
 R args w v:=∃ a b:Sp,args=[.agg ⟨spC a⟩,.agg ⟨spC b⟩]∧w.lim≤w.next∧v=.agg ⟨spC (bothS a b)⟩
 uniq:=by
  rintro _ _ _ _ ⟨⟨_,_⟩,⟨_,_⟩,rfl,_,rfl⟩ ⟨⟨_,_⟩,⟨_,_⟩,h,_,rfl⟩
  cases h; rfl
 shut:=fun ⟨a,b,h1,_,h2⟩=>⟨a,b,h1,Nat.le_refl _,h2⟩
theorem run87 {ov:Ov} (ho:∀ args w,ov 87 args w=none) (a b:Sp) (w:AW) (hl:w.lim=w.next):∃ v w',(run Tryd.prog ov 2).call 87 [.agg ⟨spC a⟩,.agg ⟨spC b⟩] w .none=.ok (.ret v) w' .none∧v=.agg ⟨spC (bothS a b)⟩:=by
 refine call_wp text87 (by simp) (ho _ _) ?_
 have q1:w.lim≤w.next + 1 + 1:=by omega
 simp [mc87,spC,bothS,cellsOf_agg,q1,tupV]
theorem KpB.to {base B:Nat} {a b c:AW} (h:KpB base B a b) (k:Up b c) (hb:base≤b.next):KpB base B a c:=h.trans (KpB.ofUp k hb)
theorem KpB.wr {base B:Nat} {a b:AW} (h:KpB base B a b) (o:Option AObj):KpB base B a ⟨b.heap.put B o,b.next,b.lim⟩:=⟨fun q h1 h2=>by show (b.heap.put B o).get q=_; rw [get_put,if_neg (by omega)]; exact h.old q h1 h2,h.next,h.lim⟩
theorem loop65a {r:Rec} {Q:Ex→Tm→AW→Prop} (n:Nat) (hn:n≤14) (BW:Nat) (f0:Nat→Sp) (w1:AW) (t:Tm) (hlim:w1.lim≤BW) (g:w1.heap.get BW=some (.cells (RowF n f0) 25 false))
  (t11:tget t 11=.int .i64 (n:Nat)) (t12:tget t 12=.slice (some ⟨BW,0,none⟩) (n + 1) (n + 1)) (t13:tget t 13=.int .i64 0)
  (hQ:∀ t' w',KpB (BW + 1) BW w1 w'→w'.heap.get BW=some (.cells (RowF n (fun _=>(1,1000000))) 25 false)→(∀ d,d < 13→tget t' d=tget t d)→Q .normal t' w') :
  wp (exM Tryd.prog r (.block 0 (.loop mc65_l0)) t w1) Q:=by
 refine wp_blockX (wp_rounds (fun i t' w'=>KpB (BW + 1) BW w1 w'∧(∃ f,w'.heap.get BW=some (.cells (RowF n f) 25 false)∧∀ k,k < i→f k=(1,1000000))∧tget t' 13=.int .i64 ((i:Nat):Int)∧i≤n + 1∧(∀ d,d < 13→tget t' d=tget t d)) 30 (by decide) ⟨KpB.refl _ _ _,⟨f0,g,fun k hk=>by omega⟩,t13,by omega,fun _ _=>rfl⟩ ?_)
 rintro i t' w' ⟨hkp,⟨f,gf,hf⟩,s13,hi,hold⟩
 have s11:=(hold 11 (by decide)).trans t11
 have s12:=(hold 12 (by decide)).trans t12
 have hlm:=hkp.lim
 have hne:∀ d,d < 13→∀ k,13≤k→¬ d=k:=fun d hd k hk=>by omega
 by_cases hlt:i < n + 1
 ·have hle:(i:Int)≤(n:Int):=by omega
  obtain ⟨cs,hcs⟩:∃ cs,cs=RowF n f:=⟨_,rfl⟩
  have X:=rowX hcs (k:=i) (by omega)
  rw [← hcs] at gf
  have hia:=fun w=>ia43 w ⟨BW,0,none⟩ (n + 1) (n + 1) .i64 i hlt
  have q1:w'.lim≤BW:=by omega
  have q2:=X.len
  have hw1:IntKind.wrap .i64 ((i:Int) + 1)=(i:Int) + 1:=wrap64_in (by omega) (by omega)
  have hst:=X.set 1 1000000
  have hle':i≤n:=by omega
  simp [mc65_l0,s11,s12,s13,hle,hle',hia,gf,q1,q2,hst,hw1]
  refine ⟨by omega,hkp.wr _,⟨_,rfl,fun k hk=>?_⟩,fun d hd=>by have:=hne d hd; simp [this,hold d hd]⟩
  unfold updS
  by_cases e:k=i
  ·rw [if_pos e]
  ·rw [if_neg e]; exact hf k (by omega)
 ·have hi':i=n + 1:=by omega
  have hle:¬ ((i:Nat):Int)≤(n:Int):=by omega
  have hle':¬ i≤n:=by omega
  simp [mc65_l0,s11,s13,hle,hle']
  refine hQ _ _ hkp ?_ fun d hd=>by have:=hne d hd; simp [this,hold d hd]
  rw [gf,rowF_congr fun k hk=>hf k (by omega)]
theorem onDay_snoc (l:List CRead) (p:CRead) (k:Nat):onDay (l++[p]) k=onDay l k++if p.day=(k:Int) then [p] else []:=by
 unfold onDay
 rw [List.filter_append]
 congr 1
 by_cases h:p.day=(k:Int)
 ·simp [h]
 ·simp [h]
theorem foldR_snoc (l:List CRead) (p:CRead) (s:Sp):foldR (l++[p]) s=bothS (foldR l s) (readS p):=by simp [foldR]
set_option maxHeartbeats 2000000 in
theorem loop65b {ov:Ov} {Q:Ex→Tm→AW→Prop} (m n:Nat) (h87:HasP ov 87 S87.F) (l:List CRead) (hl10:l.length≤10) (hR:ReadOk l) (hD:∀ p ∈ l,0≤p.day∧p.day≤(n:Int)) (BW:Nat) (base:Nat→Sp) (lv:Value) (w0 w1:AW) (t:Tm) (hlim:w1.lim≤BW) (hBn:BW < w1.next) (h0:w0.next≤BW) (u0:Up w0 w1) (hlv:RowsV readC w0 lv l) (g:w1.heap.get BW=some (.cells (RowF n base) 25 false))
  (t3:tget t 3=lv) (t12:tget t 12=.slice (some ⟨BW,0,none⟩) (n + 1) (n + 1)) (t14:tget t 14=.int .i64 0)
  (hQ:∀ t' w',KpB (BW + 1) BW w1 w'→w'.heap.get BW=some (.cells (RowF n (fun k=>foldR (onDay l k) (base k))) 25 false)→(∀ d,d < 13→tget t' d=tget t d)→Q .normal t' w') :
  wp (exM Tryd.prog (run Tryd.prog ov (m + 1)) (.block 2 (.loop mc65_l1)) t w1) Q:=by
 have hl42:=fun w2=>len42V (w':=w2) hlv
 refine wp_blockX (wp_rounds (fun i t' w'=>KpB (BW + 1) BW w1 w'∧w'.heap.get BW=some (.cells (RowF n (fun k=>foldR (onDay (l.take i) k) (base k))) 25 false)∧tget t' 14=.int .i64 ((i:Nat):Int)∧i≤l.length∧(∀ d,d < 13→tget t' d=tget t d)) 30 (by decide) ⟨KpB.refl _ _ _,by simpa [onDay,foldR] using g,t14,Nat.zero_le _,fun _ _=>rfl⟩ ?_)
 rintro i t' w' ⟨hkp,gf,s14,hi,hold⟩
 have s3:=(hold 3 (by decide)).trans t3
 have s12:=(hold 12 (by decide)).trans t12
 have hlm:=hkp.lim
 have hnx:=hkp.next
 have hne:∀ d,d < 13→∀ k,13≤k→¬ d=k:=fun d hd k hk=>by omega
 by_cases hlt:i < l.length
 ·obtain ⟨p,hp⟩:∃ p,l[i]?=some p:=⟨_,List.getElem?_eq_getElem hlt⟩
  have hpm:=List.mem_of_getElem? hp
  obtain ⟨d1,d2⟩:=hD p hpm
  obtain ⟨r1,r2,r3,r4⟩:=hR p hpm
  obtain ⟨k,hk⟩:∃ k:Nat,p.day=(k:Int):=⟨p.day.toNat,by omega⟩
  have hkn:k≤n:=by omega
  obtain ⟨f,hf⟩:∃ f:Nat→Sp,f=fun k=>foldR (onDay (l.take i) k) (base k):=⟨_,rfl⟩
  rw [← hf] at gf
  obtain ⟨cs,hcs⟩:∃ cs,cs=RowF n f:=⟨_,rfl⟩
  have X:=rowX hcs hkn
  rw [← hcs] at gf
  obtain ⟨bb,off,sq,c,rfl,hra⟩:=hlv.at_ i hlt
  have hbb:=hra.2
  have hsame:w'.heap.get bb=w0.heap.get bb:=by rw [hkp.old bb (by omega) (by omega),u0.at hbb]
  have f0:=hra.rd1 (j:=0) readC_length hp (x:=.int .i64 p.day) rfl
  have f1:=hra.rd1 (j:=1) readC_length hp (x:=.int .i64 p.read) rfl
  have f2:=hra.rd1 (j:=2) readC_length hp (x:=.int .i64 p.wrong) rfl
  rw [← hsame] at f0 f1 f2
  rw [Nat.add_zero,hk] at f0
  have hib:=fun w=>ia42 w ⟨bb,off,sq⟩ l.length c .i64 i hlt
  have hia:=fun w=>ia43 w ⟨BW,0,none⟩ (n + 1) (n + 1) .i64 k (by omega)
  have q1:w'.lim≤BW:=by omega
  have q2:=X.len
  have q3:=X.at_
  have hw1:IntKind.wrap .i64 ((i:Int) + 1)=(i:Int) + 1:=wrap64_in (by omega) (by omega)
  have hw2:IntKind.wrap .i64 (p.read - p.wrong)=p.read - p.wrong:=wrap64_in (by omega) (by omega)
  have hw3:IntKind.wrap .i64 (p.read + p.wrong)=p.read + p.wrong:=wrap64_in (by omega) (by omega)
  have r87:=S87.call (P:=Tryd.prog) h87 (m:=m) (w:=w') ⟨f k,readS p,rfl,by omega,rfl⟩
  have hst:=X.set (bothS (f k) (readS p)).1 (bothS (f k) (readS p)).2
  simp only [spC,readS] at r87 hst
  simp [mc65_l1,s3,s12,s14,hl42,hlt,hib,f0,f1,f2,hia,gf,q1,q2,q3,hw1,hw2,hw3,r87,hst,cellsOf_agg]
  refine ⟨by omega,hkp.wr _,?_,hlt,fun d hd=>by have:=hne d hd; simp [this,hold d hd]⟩
  rw [rowF_congr]
  intro j hj
  rw [take_snoc hp,onDay_snoc,hk]
  unfold updS
  by_cases e:j=k
  ·subst e
   rw [if_pos rfl,if_pos rfl,foldR_snoc,hf]; rfl
  ·rw [if_neg e,if_neg (by omega),List.append_nil,hf]
 ·have hi':i=l.length:=by omega
  subst hi'
  rw [List.take_length] at gf
  simp [mc65_l1,s3,s14,hl42]
  exact hQ _ _ hkp gf fun d hd=>by have:=hne d hd; simp [this,hold d hd]
end Go.Proofs.YtnmamelclmfplaaDoor.walk
