/- Part of a proof by a machine of ones own: see the text with the theorem. -/
import Derived.Test.YtlkklcbjjompbaaDoorCM
import Derived.Test.YtlkklcbjjompbaaDoorCP
namespace Go.Proofs.YtlkklcbjjompbaaDoor.walk
open Go Go.Sh
set_option maxRecDepth 100000
structure CAct where
 warm:Int
 behind:Int
 dry:Bool
 first:Bool
 most:Int
 ll:Int
 lh:Int
structure CDay where
 wl:Int
 wh:Int
 rain:Bool
structure CBox where
 wl:Int
 wh:Int
 sl:Int
 sh:Int
structure Stg where
 done:Int
 last:Int
 row:Int
 lo:Int
 hi:Int
def actC (a:CAct):List Value:=[.int .i64 a.warm,.int .i64 a.behind,.bool a.dry,.bool a.first,.int .i64 a.most,.int .i64 a.ll,.int .i64 a.lh]
def cdayC (d:CDay):List Value:=[.int .i64 d.wl,.int .i64 d.wh,.bool d.rain]
def boxC (b:CBox):List Value:=[.int .i64 b.wl,.int .i64 b.wh,.int .i64 b.sl,.int .i64 b.sh]
def stgC (s:Stg):List Value:=[.int .i64 s.done,.int .i64 s.last,.int .i64 s.row,.int .i64 s.lo,.int .i64 s.hi]
@[simp] theorem actC_length (a:CAct):(actC a).length=7:=rfl
@[simp] theorem cdayC_length (a:CDay):(cdayC a).length=3:=rfl
@[simp] theorem stgC_length (a:Stg):(stgC a).length=5:=rfl
theorem actC_inj (a b:CAct) (h:actC a=actC b):a=b:=by
 cases a; cases b; simpa [actC] using h
theorem cdayC_inj (a b:CDay) (h:cdayC a=cdayC b):a=b:=by
 cases a; cases b; simpa [cdayC] using h
def inI (a n b:Int):Bool:=decide (a≤n) && decide (n≤b)
def spanI (lo hi a b:Int):Bool:=decide (a≤lo) && (decide (lo≤hi) && decide (hi≤b))
def actB (n:Nat) (a:CAct):Bool:=inI 0 a.warm 60 && (inI 1 a.most 14 && (spanI a.ll a.lh 0 10000 && inI 0 a.behind (2 ^ n - 1)))
def ruleB (r:List CAct):Bool:=inI 1 (r.length:Nat) 5 && r.all (actB r.length)
def cdayB (d:CDay):Bool:=spanI d.wl d.wh 0 60
def daysB (l:List CDay):Bool:=inI 1 (l.length:Nat) 14 && l.all cdayB
def boxB (b:CBox):Bool:=spanI b.wl b.wh 1 1000000 && spanI b.sl b.sh 1 1000000
def chkE (r:List CAct) (d:List CDay):Int:=if ruleB r=true then (if daysB d=true then 0 else 61) else 60
def bxE (r:List CAct) (d:List CDay) (b:CBox):Int:=if chkE r d=0 then (if boxB b=true then 0 else 62) else chkE r d
def fitB (x:CAct) (num:Int) (y:CDay) (s:Stg):Bool:=decide (x.warm≤y.wl) && (!(x.dry && y.rain) && ((if s.last = -1 then x.first else decide (s.last=num) || bitB x.behind s.last) && (decide (s.last ≠ num) || decide (s.row < x.most))))
def withS (s:Stg) (x:CAct) (num:Int):Stg:=⟨s.done + 1,num,(if num=s.last then 1 + s.row else 1),s.lo + x.ll,s.hi + x.lh⟩
def startS:Stg:=⟨0, -1,0,0,0⟩
def nextS (r:List CAct) (d:List CDay) (s:Stg) (a:Int):Option Stg :=
 match d[s.done.toNat]?,(if 0≤a then r[a.toNat]? else none) with
 | some y,some x=>if fitB x a y s=true then some (withS s x a) else none
 | _,_=>none
def stgF (r:List CAct) (d:List CDay):Stg→List Int→Option Stg
 | s,[]=>some s
 | s,a::as=>match nextS r d s a with | some s'=>stgF r d s' as | none=>none
theorem stgF_snoc {r:List CAct} {d:List CDay} {a:Int}:∀ (as:List Int) (s:Stg),stgF r d s (as++[a])=match stgF r d s as with | some s'=>nextS r d s' a | none=>none
 | [],s=>by
  show (match nextS r d s a with | some s'=>stgF r d s' [] | none=>none)=nextS r d s a
  cases nextS r d s a <;> rfl
 | b::as,s=>by
  show (match nextS r d s b with | some s'=>stgF r d s' (as++[a]) | none=>none)=match (match nextS r d s b with | some s'=>stgF r d s' as | none=>none) with | some s'=>nextS r d s' a | none=>none
  cases nextS r d s b with
  | none=>rfl
  | some s'=>exact stgF_snoc as s'
theorem stgF_none {r:List CAct} {d:List CDay} {as bs:List Int} {s:Stg} (h:stgF r d s as=none):stgF r d s (as++bs)=none:=by
 induction as generalizing s with
 | nil=>cases h
 | cons a as ih =>
  have h':(match nextS r d s a with | some s'=>stgF r d s' as | none=>none)=none:=h
  show (match nextS r d s a with | some s'=>stgF r d s' (as++bs) | none=>none)=none
  cases hn:nextS r d s a with
  | none=>rfl
  | some s'=>rw [hn] at h'; exact ih h'
def runL (a:Int):List Int→Nat
 | []=>0
 | b::l=>if b=a then runL a l + 1 else 0
def folB (r:List CAct) (d:List CDay) (so:List Int) (a:Int):Bool :=
 match d[so.length]?,(if 0≤a then r[a.toNat]? else none) with
 | some y,some x=>!(decide (y.wl < x.warm) || (x.dry && y.rain)) && (match so.getLast? with
  | none=>x.first
  | some z=>decide ((runL a so.reverse:Int) < x.most) && (decide (z=a) || bitB x.behind z))
 | _,_=>false
def canL (r:List CAct) (d:List CDay):Nat→List Int→Bool
 | 0,_=>true
 | n + 1,acts=>canL r d n acts && folB r d (acts.take n) (acts.getD n 0)
structure StOk (r:List CAct) (so:List Int) (s:Stg):Prop where
 done:s.done=(so.length:Nat)
 last:(so=[]∧s.last = -1)∨(∃ z,so.getLast?=some z∧s.last=z∧0≤z∧z.toNat < r.length)
 row:s.row=(runL s.last so.reverse:Nat)
 lo:0≤s.lo∧s.lo≤10000 * (so.length:Nat)
 hi:0≤s.hi∧s.hi≤10000 * (so.length:Nat)
theorem act_of {r:List CAct} (h:ruleB r=true) {i:Nat} {x:CAct} (hx:r[i]?=some x):inI 0 x.warm 60=true∧inI 1 x.most 14=true∧spanI x.ll x.lh 0 10000=true∧inI 0 x.behind (2 ^ r.length - 1)=true:=by
 simp only [ruleB,Bool.and_eq_true] at h
 have:=List.all_eq_true.1 h.2 x (List.mem_of_getElem? hx)
 simpa only [actB,Bool.and_eq_true] using this
theorem runL_le (a:Int):∀ l:List Int,runL a l≤l.length
 | []=>Nat.le_refl _
 | b::l=>by
  unfold runL
  split
  ·have:=runL_le a l; simp; omega
  ·simp
theorem next_fol {r:List CAct} {d:List CDay} {so:List Int} {s:Stg} (hR:ruleB r=true) (h:StOk r so s) (a:Int):(nextS r d s a=none∧folB r d so a=false)∨∃ s',nextS r d s a=some s'∧folB r d so a=true∧StOk r (so++[a]) s':=by
 unfold nextS folB
 have e0:s.done.toNat=so.length:=by rw [h.done]; simp
 rw [e0]
 cases hd:d[so.length]? with
 | none=>exact .inl ⟨rfl,rfl⟩
 | some y =>
  cases hx:(if 0≤a then r[a.toNat]? else none) with
  | none=>exact .inl ⟨rfl,rfl⟩
  | some x =>
   by_cases ha:0≤a
   ·rw [if_pos ha] at hx
    obtain ⟨k1,k2,k3,k4⟩:=act_of hR hx
    simp only [inI,spanI,Bool.and_eq_true,decide_eq_true_eq] at k1 k2 k3 k4
    have hal:a.toNat < r.length:=(List.getElem?_eq_some_iff.1 hx).1
    simp only
    have key:(fitB x a y s=true) ↔ ((!(decide (y.wl < x.warm) || (x.dry && y.rain)) && (match so.getLast? with
      | none=>x.first
      | some z=>decide ((runL a so.reverse:Int) < x.most) && (decide (z=a) || bitB x.behind z)))=true):=by
     rcases h.last with ⟨e1,e2⟩ | ⟨z,e1,e2,e3,e4⟩
     ·have hl:¬ s.last=a:=by omega
      have hr:s.row=0:=by rw [h.row,e1]; rfl
      rw [e1]
      simp only [fitB,e2,if_pos,Bool.and_eq_true,decide_eq_true_eq,Bool.or_eq_true,Bool.not_eq_true',Bool.or_eq_false_iff,decide_eq_false_iff_not,List.getLast?_nil]
      constructor
      ·rintro ⟨h1,h2,h3,h4⟩; exact ⟨⟨by omega,h2⟩,h3⟩
      ·rintro ⟨⟨h1,h2⟩,h3⟩; exact ⟨by omega,h2,h3,.inl (by omega)⟩
     ·rw [e1]
      have hl:¬ s.last = -1:=by omega
      simp only [fitB,if_neg hl,Bool.and_eq_true,decide_eq_true_eq,Bool.or_eq_true,Bool.not_eq_true',Bool.or_eq_false_iff,decide_eq_false_iff_not]
      have hrow:s.last=a→s.row=(runL a so.reverse:Nat):=fun e=>by rw [h.row,e]
      have hrow2:¬ s.last=a→runL a so.reverse=0:=fun e=>by
       rw [List.getLast?_eq_head?_reverse] at e1
       cases hq:so.reverse with
       | nil=>rfl
       | cons q l =>
        rw [hq] at e1
        have:q=z:=by simpa using e1
        show (if q=a then runL a l + 1 else 0)=0
        rw [if_neg (by omega)]
      rw [e2] at hrow hrow2 ⊢
      by_cases hz:z=a
      ·have:=hrow hz
       constructor
       ·rintro ⟨h1,h2,h3,h4⟩
        refine ⟨⟨by omega,h2⟩,?_,.inl hz⟩
        rcases h4 with h4 | h4
        ·exact absurd hz h4
        ·omega
       ·rintro ⟨⟨h1,h2⟩,h3,h4⟩
        exact ⟨by omega,h2,.inl hz,.inr (by omega)⟩
      ·have:=hrow2 hz
       constructor
       ·rintro ⟨h1,h2,h3,h4⟩
        exact ⟨⟨by omega,h2⟩,by omega,h3⟩
       ·rintro ⟨⟨h1,h2⟩,h3,h4⟩
        exact ⟨by omega,h2,h4,.inl hz⟩
    by_cases hf:fitB x a y s=true
    ·rw [if_pos hf]
     refine .inr ⟨_,rfl,key.1 hf,?_⟩
     have h1:=h.done; have h2:=h.lo; have h3:=h.hi; have h4:=h.row
     refine ⟨by simp [withS]; omega,.inr ⟨a,by simp,rfl,ha,hal⟩,?_,?_,?_⟩
     ·simp only [withS,List.reverse_append,List.reverse_cons,List.reverse_nil,List.nil_append,List.singleton_append]
      show _=(((if a=a then runL a so.reverse + 1 else 0:Nat)):Int)
      rw [if_pos rfl]
      by_cases e:a=s.last
      ·rw [if_pos e,h4,e]; omega
      ·rw [if_neg e]
       have:runL a so.reverse=0:=by
        rcases h.last with ⟨e1,_⟩ | ⟨z,e1,e2,_,_⟩
        ·rw [e1]; rfl
        ·rw [List.getLast?_eq_head?_reverse] at e1
         cases hq:so.reverse with
         | nil=>rfl
         | cons q l =>
          rw [hq] at e1
          have:q=z:=by simpa using e1
          show (if q=a then runL a l + 1 else 0)=0
          rw [if_neg (by omega)]
       omega
     ·simp only [withS,List.length_append,List.length_singleton]; omega
     ·simp only [withS,List.length_append,List.length_singleton]; omega
    ·rw [if_neg hf]
     refine .inl ⟨rfl,?_⟩
     cases hb:(!(decide (y.wl < x.warm) || (x.dry && y.rain)) && (match so.getLast? with
      | none=>x.first
      | some z=>decide ((runL a so.reverse:Int) < x.most) && (decide (z=a) || bitB x.behind z))) with
     | false=>rfl
     | true=>exact absurd (key.2 hb) hf
   ·rw [if_neg ha] at hx; cases hx
theorem start_ok (r:List CAct):StOk r [] startS:=⟨rfl,.inl ⟨rfl,rfl⟩,rfl,by simp [startS],by simp [startS]⟩
theorem take_snoc {α:Type} {l:List α} {n:Nat} {a:α} (h:l[n]?=some a):l.take (n + 1)=l.take n++[a]:=by
 rw [List.take_add_one,h]; rfl
theorem stg_can {r:List CAct} {d:List CDay} (hR:ruleB r=true) (acts:List Int):∀ n,n≤acts.length→(stgF r d startS (acts.take n)=none∧canL r d n acts=false)∨∃ s,stgF r d startS (acts.take n)=some s∧canL r d n acts=true∧StOk r (acts.take n) s
 | 0,_=>.inr ⟨startS,by simp [stgF],rfl,by simpa using start_ok r⟩
 | n + 1,hn=>by
  have ha:acts[n]?=some acts[n]:=List.getElem?_eq_getElem (by omega)
  have hg:acts.getD n 0=acts[n]:=by rw [List.getD_eq_getElem?_getD,ha]; rfl
  rw [take_snoc ha,stgF_snoc]
  show (_∧(canL r d n acts && folB r d (acts.take n) (acts.getD n 0))=false)∨_
  rcases stg_can hR acts n (by omega) with ⟨h1,h2⟩ | ⟨s,h1,h2,h3⟩
  ·exact .inl ⟨by rw [h1],by rw [h2]; rfl⟩
  ·rw [h1]
   simp only
   rw [hg]
   rcases next_fol (d:=d) hR h3 acts[n] with ⟨k1,k2⟩ | ⟨s',k1,k2,k3⟩
   ·exact .inl ⟨k1,by rw [k2,Bool.and_false]⟩
   ·refine .inr ⟨s',k1,?_,k3⟩
    show (canL r d n acts && folB r d (acts.take n) (acts.getD n 0))=true
    rw [h2,hg,k2]; rfl
end Go.Proofs.YtlkklcbjjompbaaDoor.walk
namespace Go.Proofs.YtlkklcbjjompbaaDoor.walk
open Go Go.Sh
set_option maxRecDepth 100000
def lossL (r:List CAct) (acts:List Int):List Sp:=acts.map fun a=>match r[a.toNat]? with | some x=>(x.ll,x.lh) | none=>(0,0)
theorem lossL_at {r:List CAct} {acts:List Int} {i:Nat} {a:Int} {x:CAct} (h1:acts[i]?=some a) (h2:r[a.toNat]?=some x):(lossL r acts)[i]?=some (x.ll,x.lh):=by
 unfold lossL
 rw [List.getElem?_map,h1]
 simp only [Option.map_some,h2]
theorem lossL_length (r:List CAct) (acts:List Int):(lossL r acts).length=acts.length:=by simp [lossL]
theorem stg_acts {r:List CAct} {d:List CDay}:∀ (acts:List Int) (s s':Stg),stgF r d s acts=some s'→∀ a ∈ acts,0≤a∧∃ x,r[a.toNat]?=some x
 | [],_,_,_,a,h=>absurd h (by simp)
 | b::acts,s,s',hs,a,h=>by
  have h':(match nextS r d s b with | some s'=>stgF r d s' acts | none=>none)=some s':=hs
  cases hn:nextS r d s b with
  | none=>rw [hn] at h'; cases h'
  | some s1 =>
   rw [hn] at h'
   rcases List.mem_cons.1 h with rfl | h
   ·unfold nextS at hn
    split at hn
    ·rename_i y x _ hx
     by_cases ha:0≤a
     ·rw [if_pos ha] at hx; exact ⟨ha,x,hx⟩
     ·rw [if_neg ha] at hx; cases hx
    ·cases hn
   ·exact stg_acts acts s1 s' h' a h
theorem stg_len {r:List CAct} {d:List CDay} (hR:ruleB r=true) {acts:List Int} {s:Stg} (h:stgF r d startS acts=some s):acts.length≤d.length:=by
 rcases Nat.lt_or_ge d.length acts.length with hlt | hge
 ·exfalso
  have hp:=stg_can (d:=d) hR acts (d.length + 1) (by omega)
  rcases hp with ⟨h1,_⟩ | ⟨s',h1,_,_⟩
  ·have:=stgF_none (bs:=acts.drop (d.length + 1)) h1
   rw [List.take_append_drop,h] at this; cases this
  ·have ha:acts[d.length]?=some acts[d.length]:=List.getElem?_eq_getElem hlt
   rw [take_snoc ha,stgF_snoc] at h1
   rcases stg_can (d:=d) hR acts d.length (by omega) with ⟨k1,_⟩ | ⟨s1,k1,_,k3⟩
   ·rw [k1] at h1; cases h1
   ·rw [k1] at h1
    have h2:nextS r d s1 acts[d.length]=some s':=h1
    unfold nextS at h2
    have e:d[s1.done.toNat]?=none:=by
     rw [k3.done]
     simp only [Int.toNat_natCast,List.length_take,List.getElem?_eq_none_iff]
     omega
    rw [e] at h2
    cases h2
 ·exact hge
def actE (r:List CAct) (d:List CDay) (b:CBox) (acts:List Int):Int:=if bxE r d b=0 then (match stgF r d startS acts with | some _=>0 | none=>63) else bxE r d b
theorem chk_of {r:List CAct} {d:List CDay} (h:chkE r d=0):ruleB r=true∧daysB d=true:=by
 unfold chkE at h
 by_cases h1:ruleB r=true
 ·rw [if_pos h1] at h
  by_cases h2:daysB d=true
  ·exact ⟨h1,h2⟩
  ·rw [if_neg h2] at h; cases h
 ·rw [if_neg h1] at h; cases h
theorem bx_of {r:List CAct} {d:List CDay} {b:CBox} (h:bxE r d b=0):ruleB r=true∧daysB d=true∧boxB b=true:=by
 unfold bxE at h
 by_cases h1:chkE r d=0
 ·rw [if_pos h1] at h
  by_cases h2:boxB b=true
  ·exact ⟨(chk_of h1).1,(chk_of h1).2,h2⟩
  ·rw [if_neg h2] at h; cases h
 ·rw [if_neg h1] at h; exact absurd h h1
theorem act_ofE {r:List CAct} {d:List CDay} {b:CBox} {acts:List Int} (h:actE r d b acts=0):ruleB r=true∧daysB d=true∧boxB b=true∧∃ s,stgF r d startS acts=some s:=by
 unfold actE at h
 by_cases h1:bxE r d b=0
 ·rw [if_pos h1] at h
  obtain ⟨k1,k2,k3⟩:=bx_of h1
  cases hs:stgF r d startS acts with
  | none=>rw [hs] at h; cases h
  | some s=>exact ⟨k1,k2,k3,s,rfl⟩
 ·rw [if_neg h1] at h; exact absurd h h1
theorem rule_len {r:List CAct} (h:ruleB r=true):1≤r.length∧r.length≤5:=by
 simp only [ruleB,inI,Bool.and_eq_true,decide_eq_true_eq] at h; omega
theorem days_len {d:List CDay} (h:daysB d=true):1≤d.length∧d.length≤14:=by
 simp only [daysB,inI,Bool.and_eq_true,decide_eq_true_eq] at h; omega
end Go.Proofs.YtlkklcbjjompbaaDoor.walk
