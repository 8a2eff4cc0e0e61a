/- Part of a proof: see the text with the theorem. -/
import Derived.Test.YtnmamelclmfplaaDoorTd
import Derived.Test.YtnmamelclmfplaaDoorTa
set_option linter.all false
namespace Go.Proofs.YtnmamelclmfplaaDoor.walk
open Go Go.Sh
set_option maxRecDepth 100000
structure CAct where
 warm:Int
 behind:Int
 dry:Bool
 first:Bool
 most:Int
 ll:Int
 lh:Int
structure CDay where
 wl:Int
 wh:Int
 rain:Bool
structure CBox where
 wl:Int
 wh:Int
 sl:Int
 sh:Int
structure Stg where
 done:Int
 last:Int
 row:Int
 lo:Int
 hi:Int
def actC (a:CAct):List Value:=[.int .i64 a.warm,.int .i64 a.behind,.bool a.dry,.bool a.first,.int .i64 a.most,.int .i64 a.ll,.int .i64 a.lh]
def cdayC (d:CDay):List Value:=[.int .i64 d.wl,.int .i64 d.wh,.bool d.rain]
def boxC (b:CBox):List Value:=[.int .i64 b.wl,.int .i64 b.wh,.int .i64 b.sl,.int .i64 b.sh]
def stgC (s:Stg):List Value:=[.int .i64 s.done,.int .i64 s.last,.int .i64 s.row,.int .i64 s.lo,.int .i64 s.hi]
@[simp] theorem actC_length (a:CAct):(actC a).length=7:=rfl
@[simp] theorem cdayC_length (a:CDay):(cdayC a).length=3:=rfl
@[simp] theorem stgC_length (a:Stg):(stgC a).length=5:=rfl
theorem actC_inj (a b:CAct) (h:actC a=actC b):a=b:=by
 cases a; cases b; simpa [actC] using h
theorem cdayC_inj (a b:CDay) (h:cdayC a=cdayC b):a=b:=by
 cases a; cases b; simpa [cdayC] using h
def inI (a n b:Int):Bool:=decide (a≤n) && decide (n≤b)
def spanI (lo hi a b:Int):Bool:=decide (a≤lo) && (decide (lo≤hi) && decide (hi≤b))
def actB (n:Nat) (a:CAct):Bool:=inI 0 a.warm 60 && (inI 1 a.most 14 && (spanI a.ll a.lh 0 10000 && inI 0 a.behind (2 ^ n - 1)))
def ruleB (r:List CAct):Bool:=inI 1 (r.length:Nat) 5 && r.all (actB r.length)
def cdayB (d:CDay):Bool:=spanI d.wl d.wh 0 60
def daysB (l:List CDay):Bool:=inI 1 (l.length:Nat) 14 && l.all cdayB
def boxB (b:CBox):Bool:=spanI b.wl b.wh 1 1000000 && spanI b.sl b.sh 1 1000000
def chkE (r:List CAct) (d:List CDay):Int:=if ruleB r=true then (if daysB d=true then 0 else 61) else 60
def bxE (r:List CAct) (d:List CDay) (b:CBox):Int:=if chkE r d=0 then (if boxB b=true then 0 else 62) else chkE r d
def fitB (x:CAct) (num:Int) (y:CDay) (s:Stg):Bool:=decide (x.warm≤y.wl) && (!(x.dry && y.rain) && ((if s.last = -1 then x.first else decide (s.last=num) || bitB x.behind s.last) && (decide (s.last ≠ num) || decide (s.row < x.most))))
def withS (s:Stg) (x:CAct) (num:Int):Stg:=⟨s.done + 1,num,(if num=s.last then 1 + s.row else 1),s.lo + x.ll,s.hi + x.lh⟩
def startS:Stg:=⟨0, -1,0,0,0⟩
def nextS (r:List CAct) (d:List CDay) (s:Stg) (a:Int):Option Stg :=
 match d[s.done.toNat]?,(if 0≤a then r[a.toNat]? else none) with
 | some y,some x=>if fitB x a y s=true then some (withS s x a) else none
 | _,_=>none
def stgF (r:List CAct) (d:List CDay):Stg→List Int→Option Stg
 | s,[]=>some s
 | s,a::xs=>match nextS r d s a with | some s'=>stgF r d s' xs | none=>none
theorem stgF_snoc {r:List CAct} {d:List CDay} {a:Int}:∀ (xs:List Int) (s:Stg),stgF r d s (xs++[a])=match stgF r d s xs with | some s'=>nextS r d s' a | none=>none
 | [],s=>by
  show (match nextS r d s a with | some s'=>stgF r d s' [] | none=>none)=nextS r d s a
  cases nextS r d s a <;> rfl
 | b::xs,s=>by
  show (match nextS r d s b with | some s'=>stgF r d s' (xs++[a]) | none=>none)=match (match nextS r d s b with | some s'=>stgF r d s' xs | none=>none) with | some s'=>nextS r d s' a | none=>none
  cases nextS r d s b with
  | none=>rfl
  | some s'=>exact stgF_snoc xs s'
theorem stgF_none {r:List CAct} {d:List CDay} {xs bs:List Int} {s:Stg} (h:stgF r d s xs=none):stgF r d s (xs++bs)=none:=by
 induction xs generalizing s with
 | nil=>cases h
 | cons a xs ih =>
  have h':(match nextS r d s a with | some s'=>stgF r d s' xs | none=>none)=none:=h
  show (match nextS r d s a with | some s'=>stgF r d s' (xs++bs) | none=>none)=none
  cases hn:nextS r d s a with
  | none=>rfl
  | some s'=>rw [hn] at h'; exact ih h'
def runL (a:Int):List Int→Nat
 | []=>0
 | b::l=>if b=a then runL a l + 1 else 0
def folB (r:List CAct) (d:List CDay) (so:List Int) (a:Int):Bool :=
 match d[so.length]?,(if 0≤a then r[a.toNat]? else none) with
 | some y,some x=>!(decide (y.wl < x.warm) || (x.dry && y.rain)) && (match so.getLast? with
  | none=>x.first
  | some z=>decide ((runL a so.reverse:Int) < x.most) && (decide (z=a) || bitB x.behind z))
 | _,_=>false
def canL (r:List CAct) (d:List CDay):Nat→List Int→Bool
 | 0,_=>true
 | n + 1,acts=>canL r d n acts && folB r d (acts.take n) (acts.getD n 0)
structure StOk (r:List CAct) (so:List Int) (s:Stg):Prop where
 done:s.done=(so.length:Nat)
 last:(so=[]∧s.last = -1)∨(∃ z,so.getLast?=some z∧s.last=z∧0≤z∧z.toNat < r.length)
 row:s.row=(runL s.last so.reverse:Nat)
 lo:0≤s.lo∧s.lo≤10000 * (so.length:Nat)
 hi:0≤s.hi∧s.hi≤10000 * (so.length:Nat)
theorem act_of {r:List CAct} (h:ruleB r=true) {i:Nat} {x:CAct} (hx:r[i]?=some x):inI 0 x.warm 60=true∧inI 1 x.most 14=true∧spanI x.ll x.lh 0 10000=true∧inI 0 x.behind (2 ^ r.length - 1)=true:=by
 simp only [ruleB,Bool.and_eq_true] at h
 have:=List.all_eq_true.1 h.2 x (List.mem_of_getElem? hx)
 simpa only [actB,Bool.and_eq_true] using this
theorem runL_le (a:Int):∀ l:List Int,runL a l≤l.length
 | []=>Nat.le_refl _
 | b::l=>by
  unfold runL
  split
  ·have:=runL_le a l; simp; omega
  ·simp
theorem next_fol {r:List CAct} {d:List CDay} {so:List Int} {s:Stg} (hR:ruleB r=true) (h:StOk r so s) (a:Int):(nextS r d s a=none∧folB r d so a=false)∨∃ s',nextS r d s a=some s'∧folB r d so a=true∧StOk r (so++[a]) s':=by
 unfold nextS folB
 have e0:s.done.toNat=so.length:=by rw [h.done]; simp
 rw [e0]
 cases hd:d[so.length]? with
 | none=>exact .inl ⟨rfl,rfl⟩
 | some y =>
  cases hx:(if 0≤a then r[a.toNat]? else none) with
  | none=>exact .inl ⟨rfl,rfl⟩
  | some x =>
   by_cases ha:0≤a
   ·rw [if_pos ha] at hx
    obtain ⟨k1,k2,k3,k4⟩:=act_of hR hx
    simp only [inI,spanI,Bool.and_eq_true,decide_eq_true_eq] at k1 k2 k3 k4
    have hal:a.toNat < r.length:=(List.getElem?_eq_some_iff.1 hx).1
    simp only
    have key:(fitB x a y s=true) ↔ ((!(decide (y.wl < x.warm) || (x.dry && y.rain)) && (match so.getLast? with
      | none=>x.first
      | some z=>decide ((runL a so.reverse:Int) < x.most) && (decide (z=a) || bitB x.behind z)))=true):=by
     rcases h.last with ⟨e1,e2⟩ | ⟨z,e1,e2,e3,e4⟩
     ·have hl:¬ s.last=a:=by omega
      have hr:s.row=0:=by rw [h.row,e1]; rfl
      rw [e1]
      simp only [fitB,e2,if_pos,Bool.and_eq_true,decide_eq_true_eq,Bool.or_eq_true,Bool.not_eq_true',Bool.or_eq_false_iff,decide_eq_false_iff_not,List.getLast?_nil]
      constructor
      ·rintro ⟨h1,h2,h3,h4⟩; exact ⟨⟨by omega,h2⟩,h3⟩
      ·rintro ⟨⟨h1,h2⟩,h3⟩; exact ⟨by omega,h2,h3,.inl (by omega)⟩
     ·rw [e1]
      have hl:¬ s.last = -1:=by omega
      simp only [fitB,if_neg hl,Bool.and_eq_true,decide_eq_true_eq,Bool.or_eq_true,Bool.not_eq_true',Bool.or_eq_false_iff,decide_eq_false_iff_not]
      have hrow:s.last=a→s.row=(runL a so.reverse:Nat):=fun e=>by rw [h.row,e]
      have hrow2:¬ s.last=a→runL a so.reverse=0:=fun e=>by
       rw [List.getLast?_eq_head?_reverse] at e1
       cases hq:so.reverse with
       | nil=>rfl
       | cons q l =>
        rw [hq] at e1
        have:q=z:=by simpa using e1
        show (if q=a then runL a l + 1 else 0)=0
        rw [if_neg (by omega)]
      rw [e2] at hrow hrow2 ⊢
      by_cases hz:z=a
      ·have:=hrow hz
       constructor
       ·rintro ⟨h1,h2,h3,h4⟩
        refine ⟨⟨by omega,h2⟩,?_,.inl hz⟩
        rcases h4 with h4 | h4
        ·exact absurd hz h4
        ·omega
       ·rintro ⟨⟨h1,h2⟩,h3,h4⟩
        exact ⟨by omega,h2,.inl hz,.inr (by omega)⟩
      ·have:=hrow2 hz
       constructor
       ·rintro ⟨h1,h2,h3,h4⟩
        exact ⟨⟨by omega,h2⟩,by omega,h3⟩
       ·rintro ⟨⟨h1,h2⟩,h3,h4⟩
        exact ⟨by omega,h2,h4,.inl hz⟩
    by_cases hf:fitB x a y s=true
    ·rw [if_pos hf]
     refine .inr ⟨_,rfl,key.1 hf,?_⟩
     have h1:=h.done; have h2:=h.lo; have h3:=h.hi; have h4:=h.row
     refine ⟨by simp [withS]; omega,.inr ⟨a,by simp,rfl,ha,hal⟩,?_,?_,?_⟩
     ·simp only [withS,List.reverse_append,List.reverse_cons,List.reverse_nil,List.nil_append,List.singleton_append]
      show _=(((if a=a then runL a so.reverse + 1 else 0:Nat)):Int)
      rw [if_pos rfl]
      by_cases e:a=s.last
      ·rw [if_pos e,h4,e]; omega
      ·rw [if_neg e]
       have:runL a so.reverse=0:=by
        rcases h.last with ⟨e1,_⟩ | ⟨z,e1,e2,_,_⟩
        ·rw [e1]; rfl
        ·rw [List.getLast?_eq_head?_reverse] at e1
         cases hq:so.reverse with
         | nil=>rfl
         | cons q l =>
          rw [hq] at e1
          have:q=z:=by simpa using e1
          show (if q=a then runL a l + 1 else 0)=0
          rw [if_neg (by omega)]
       omega
     ·simp only [withS,List.length_append,List.length_singleton]; omega
     ·simp only [withS,List.length_append,List.length_singleton]; omega
    ·rw [if_neg hf]
     refine .inl ⟨rfl,?_⟩
     cases hb:(!(decide (y.wl < x.warm) || (x.dry && y.rain)) && (match so.getLast? with
      | none=>x.first
      | some z=>decide ((runL a so.reverse:Int) < x.most) && (decide (z=a) || bitB x.behind z))) with
     | false=>rfl
     | true=>exact absurd (key.2 hb) hf
   ·rw [if_neg ha] at hx; cases hx
theorem start_ok (r:List CAct):StOk r [] startS:=⟨rfl,.inl ⟨rfl,rfl⟩,rfl,by simp [startS],by simp [startS]⟩
theorem take_snoc {α:Type} {l:List α} {n:Nat} {a:α} (h:l[n]?=some a):l.take (n + 1)=l.take n++[a]:=by
 rw [List.take_add_one,h]; rfl
theorem stg_can {r:List CAct} {d:List CDay} (hR:ruleB r=true) (acts:List Int):∀ n,n≤acts.length→(stgF r d startS (acts.take n)=none∧canL r d n acts=false)∨∃ s,stgF r d startS (acts.take n)=some s∧canL r d n acts=true∧StOk r (acts.take n) s
 | 0,_=>.inr ⟨startS,by simp [stgF],rfl,by simpa using start_ok r⟩
 | n + 1,hn=>by
  have ha:acts[n]?=some acts[n]:=List.getElem?_eq_getElem (by omega)
  have hg:acts.getD n 0=acts[n]:=by rw [List.getD_eq_getElem?_getD,ha]; rfl
  rw [take_snoc ha,stgF_snoc]
  show (_∧(canL r d n acts && folB r d (acts.take n) (acts.getD n 0))=false)∨_
  rcases stg_can hR acts n (by omega) with ⟨h1,h2⟩ | ⟨s,h1,h2,h3⟩
  ·exact .inl ⟨by rw [h1],by rw [h2]; rfl⟩
  ·rw [h1]
   simp only
   rw [hg]
   rcases next_fol (d:=d) hR h3 acts[n] with ⟨k1,k2⟩ | ⟨s',k1,k2,k3⟩
   ·exact .inl ⟨k1,by rw [k2,Bool.and_false]⟩
   ·refine .inr ⟨s',k1,?_,k3⟩
    show (canL r d n acts && folB r d (acts.take n) (acts.getD n 0))=true
    rw [h2,hg,k2]; rfl
def lossL (r:List CAct) (acts:List Int):List Sp:=acts.map fun a=>match r[a.toNat]? with | some x=>(x.ll,x.lh) | none=>(0,0)
def allIn:List Int→List Sp→Bool
 | [],_=>true
 | _::_,[]=>true
 | x::l,s::m=>inI s.1 x s.2 && allIn l m
def truB (b:CBox) (L:List Sp) (w s:Int) (ls:List Int):Bool:=inI b.wl w b.wh && (inI b.sl s b.sh && (decide (ls.length=L.length) && (allIn ls L && decide (s≤w - ls.sum))))
theorem lossL_at {r:List CAct} {acts:List Int} {i:Nat} {a:Int} {x:CAct} (h1:acts[i]?=some a) (h2:r[a.toNat]?=some x):(lossL r acts)[i]?=some (x.ll,x.lh):=by
 unfold lossL
 rw [List.getElem?_map,h1]
 simp only [Option.map_some,h2]
theorem lossL_length (r:List CAct) (acts:List Int):(lossL r acts).length=acts.length:=by simp [lossL]
theorem stg_acts {r:List CAct} {d:List CDay}:∀ (acts:List Int) (s s':Stg),stgF r d s acts=some s'→∀ a ∈ acts,0≤a∧∃ x,r[a.toNat]?=some x
 | [],_,_,_,a,h=>absurd h (by simp)
 | b::acts,s,s',hs,a,h=>by
  have h':(match nextS r d s b with | some s'=>stgF r d s' acts | none=>none)=some s':=hs
  cases hn:nextS r d s b with
  | none=>rw [hn] at h'; cases h'
  | some s1 =>
   rw [hn] at h'
   rcases List.mem_cons.1 h with rfl | h
   ·unfold nextS at hn
    split at hn
    ·rename_i y x _ hx
     by_cases ha:0≤a
     ·rw [if_pos ha] at hx; exact ⟨ha,x,hx⟩
     ·rw [if_neg ha] at hx; cases hx
    ·cases hn
   ·exact stg_acts acts s1 s' h' a h
theorem stg_len {r:List CAct} {d:List CDay} (hR:ruleB r=true) {acts:List Int} {s:Stg} (h:stgF r d startS acts=some s):acts.length≤d.length:=by
 rcases Nat.lt_or_ge d.length acts.length with hlt | hge
 ·exfalso
  have hp:=stg_can (d:=d) hR acts (d.length + 1) (by omega)
  rcases hp with ⟨h1,_⟩ | ⟨s',h1,_,_⟩
  ·have:=stgF_none (bs:=acts.drop (d.length + 1)) h1
   rw [List.take_append_drop,h] at this; cases this
  ·have ha:acts[d.length]?=some acts[d.length]:=List.getElem?_eq_getElem hlt
   rw [take_snoc ha,stgF_snoc] at h1
   rcases stg_can (d:=d) hR acts d.length (by omega) with ⟨k1,_⟩ | ⟨s1,k1,_,k3⟩
   ·rw [k1] at h1; cases h1
   ·rw [k1] at h1
    have h2:nextS r d s1 acts[d.length]=some s':=h1
    unfold nextS at h2
    have e:d[s1.done.toNat]?=none:=by
     rw [k3.done]
     simp only [Int.toNat_natCast,List.length_take,List.getElem?_eq_none_iff]
     omega
    rw [e] at h2
    cases h2
 ·exact hge
def actE (r:List CAct) (d:List CDay) (b:CBox) (acts:List Int):Int:=if bxE r d b=0 then (match stgF r d startS acts with | some _=>0 | none=>63) else bxE r d b
theorem chk_of {r:List CAct} {d:List CDay} (h:chkE r d=0):ruleB r=true∧daysB d=true:=by
 unfold chkE at h
 by_cases h1:ruleB r=true
 ·rw [if_pos h1] at h
  by_cases h2:daysB d=true
  ·exact ⟨h1,h2⟩
  ·rw [if_neg h2] at h; cases h
 ·rw [if_neg h1] at h; cases h
theorem bx_of {r:List CAct} {d:List CDay} {b:CBox} (h:bxE r d b=0):ruleB r=true∧daysB d=true∧boxB b=true:=by
 unfold bxE at h
 by_cases h1:chkE r d=0
 ·rw [if_pos h1] at h
  by_cases h2:boxB b=true
  ·exact ⟨(chk_of h1).1,(chk_of h1).2,h2⟩
  ·rw [if_neg h2] at h; cases h
 ·rw [if_neg h1] at h; exact absurd h h1
theorem act_ofE {r:List CAct} {d:List CDay} {b:CBox} {acts:List Int} (h:actE r d b acts=0):ruleB r=true∧daysB d=true∧boxB b=true∧∃ s,stgF r d startS acts=some s:=by
 unfold actE at h
 by_cases h1:bxE r d b=0
 ·rw [if_pos h1] at h
  obtain ⟨k1,k2,k3⟩:=bx_of h1
  cases hs:stgF r d startS acts with
  | none=>rw [hs] at h; cases h
  | some s=>exact ⟨k1,k2,k3,s,rfl⟩
 ·rw [if_neg h1] at h; exact absurd h h1
theorem rule_len {r:List CAct} (h:ruleB r=true):1≤r.length∧r.length≤5:=by
 simp only [ruleB,inI,Bool.and_eq_true,decide_eq_true_eq] at h; omega
theorem days_len {d:List CDay} (h:daysB d=true):1≤d.length∧d.length≤14:=by
 simp only [daysB,inI,Bool.and_eq_true,decide_eq_true_eq] at h; omega
def LimAt (w:AW):Prop:=∃ ro,w.heap.get 0=some (.cells limC 141 ro)
def LimW (w:AW):Prop:=LimAt w∧0 < w.next
theorem LimW.up {we w:AW} (h:LimW we) (k:Up we w):LimW w:=by
 obtain ⟨⟨ro,h1⟩,h2⟩:=h
 exact ⟨⟨ro,by rw [k.at h2]; exact h1⟩,by have:=k.next; omega⟩
theorem len22V {w w':AW} {v:Value} {l:List CAct} (h:RowsV actC w v l):lenB Tryd.prog w' 22 v=.val (.int .i64 (l.length:Nat)) w':=by
 obtain ⟨a,c,rfl⟩:=h.len; simp
theorem len23V {w w':AW} {v:Value} {l:List CDay} (h:RowsV cdayC w v l):lenB Tryd.prog w' 23 v=.val (.int .i64 (l.length:Nat)) w':=by
 obtain ⟨a,c,rfl⟩:=h.len; simp
theorem len28V {w w':AW} {v:Value} {l:List Int} (h:RowsV intC w v l):lenB Tryd.prog w' 28 v=.val (.int .i64 (l.length:Nat)) w':=by
 obtain ⟨a,c,rfl⟩:=h.len; simp
@[simp] theorem ia141_0 (w:AW) (a:Addr):indexAddrA Tryd.prog w 141 (.pointer (some a)) (.int .i64 0)=.val (.pointer (some (a.add 0))) w:=by kernel_rfl
@[simp] theorem ia141_1 (w:AW) (a:Addr):indexAddrA Tryd.prog w 141 (.pointer (some a)) (.int .i64 1)=.val (.pointer (some (a.add 2))) w:=by kernel_rfl
@[simp] theorem ia141_2 (w:AW) (a:Addr):indexAddrA Tryd.prog w 141 (.pointer (some a)) (.int .i64 2)=.val (.pointer (some (a.add 4))) w:=by kernel_rfl
@[simp] theorem ia141_3 (w:AW) (a:Addr):indexAddrA Tryd.prog w 141 (.pointer (some a)) (.int .i64 3)=.val (.pointer (some (a.add 6))) w:=by kernel_rfl
@[simp] theorem ia141_4 (w:AW) (a:Addr):indexAddrA Tryd.prog w 141 (.pointer (some a)) (.int .i64 4)=.val (.pointer (some (a.add 8))) w:=by kernel_rfl
@[simp] theorem ia141_5 (w:AW) (a:Addr):indexAddrA Tryd.prog w 141 (.pointer (some a)) (.int .i64 5)=.val (.pointer (some (a.add 10))) w:=by kernel_rfl
@[simp] theorem ia141_6 (w:AW) (a:Addr):indexAddrA Tryd.prog w 141 (.pointer (some a)) (.int .i64 6)=.val (.pointer (some (a.add 12))) w:=by kernel_rfl
def limQ (q:Int):Option Sp:=if q=0 then some (0,60) else if q=1 then some (1,14) else if q=2 then some (0,10000) else if q=3 then some (1,1000000) else if q=4 then some (0,1010000) else if q=5 then some (0,10000) else if q=6 then some (0,1000) else none
theorem limQ_cases {q:Int} {s:Sp} (h:limQ q=some s):(q=0∧s=(0,60))∨(q=1∧s=(1,14))∨(q=2∧s=(0,10000))∨(q=3∧s=(1,1000000))∨(q=4∧s=(0,1010000))∨(q=5∧s=(0,10000))∨(q=6∧s=(0,1000)):=by
 unfold limQ at h
 repeat' split at h
 all_goals simp_all
theorem lim_at {w:AW} (h:LimW w):∃ ro,w.heap.get 0=some (.cells [.int .i64 0,.int .i64 60,.int .i64 1,.int .i64 14,.int .i64 0,.int .i64 10000,.int .i64 1,.int .i64 1000000,.int .i64 0,.int .i64 1010000,.int .i64 0,.int .i64 10000,.int .i64 0,.int .i64 1000] 141 ro):=h.1
def S39:PSpec where
 R args _ v:=∃ n a b:Int,args=[.int .i64 n,.int .i64 a,.int .i64 b]∧v=.bool (inI a n b)
 uniq:=by rintro _ _ _ _ ⟨n,a,b,rfl,rfl⟩ ⟨_,_,_,h,rfl⟩; cases h; rfl
 shut h:=h
theorem run39 {ov:Ov} (ho:∀ args w,ov 39 args w=none) (n a b:Int) (w:AW):∃ v w',(run Tryd.prog ov 2).call 39 [.int .i64 n,.int .i64 a,.int .i64 b] w .none=.ok (.ret v) w' .none∧v=.bool (inI a n b):=by
 refine call_wp text39 (by simp) (ho _ _) ?_
 by_cases h1:a≤n <;> simp [mc39,h1,tupV,inI]
def S46:PSpec where
 R args _ v:=∃ s k:Int,args=[.int .i64 s,.int .i64 k]∧0≤k∧v=.bool (bitB s k)
 uniq:=by rintro _ _ _ _ ⟨n,a,rfl,_,rfl⟩ ⟨_,_,h,_,rfl⟩; cases h; rfl
 shut h:=h
theorem run46 {ov:Ov} (ho:∀ args w,ov 46 args w=none) (s k:Int) (hk:0≤k) (w:AW):∃ v w',(run Tryd.prog ov 2).call 46 [.int .i64 s,.int .i64 k] w .none=.ok (.ret v) w' .none∧v=.bool (bitB s k):=by
 refine call_wp text46 (by simp) (ho _ _) ?_
 have e:=fun (w:AW) a=>bin_shr (P:=Tryd.prog) (w:=w) 3 false a k hk
 simp [mc46,bin_shr (h:=hk),tupV,bitB]
def S82:PSpec where
 R args _ v:=∃ n a b:Int,args=[.int .i64 n,.agg ⟨[.int .i64 a,.int .i64 b]⟩]∧v=.bool (inI a n b)
 uniq:=by rintro _ _ _ _ ⟨n,a,b,rfl,rfl⟩ ⟨_,_,_,h,rfl⟩; cases h; rfl
 shut h:=h
theorem run82 {ov:Ov} (ho:∀ args w,ov 82 args w=none) (n a b:Int) (w:AW):∃ v w',(run Tryd.prog ov 2).call 82 [.int .i64 n,.agg ⟨[.int .i64 a,.int .i64 b]⟩] w .none=.ok (.ret v) w' .none∧v=.bool (inI a n b):=by
 refine call_wp text82 (by simp) (ho _ _) ?_
 by_cases h1:a≤n <;> simp [mc82,h1,tupV,inI,cellsOf_agg]
def S92:PSpec where
 R args _ v:=∃ a b:Int,args=[.agg ⟨[.int .i64 a,.int .i64 b]⟩]∧v=.bool (decide (b < a))
 uniq:=by rintro _ _ _ _ ⟨a,b,rfl,rfl⟩ ⟨_,_,h,rfl⟩; cases h; rfl
 shut h:=h
theorem run92 {ov:Ov} (ho:∀ args w,ov 92 args w=none) (a b:Int) (w:AW):∃ v w',(run Tryd.prog ov 2).call 92 [.agg ⟨[.int .i64 a,.int .i64 b]⟩] w .none=.ok (.ret v) w' .none∧v=.bool (decide (b < a)):=by
 refine call_wp text92 (by simp) (ho _ _) ?_
 simp [mc92,tupV,cellsOf_agg]
def S93:PSpec where
 R args _ v:=∃ a b c d:Int,args=[.agg ⟨[.int .i64 a,.int .i64 b]⟩,.agg ⟨[.int .i64 c,.int .i64 d]⟩]∧v=.bool (decide (c≤a) && decide (b≤d))
 uniq:=by rintro _ _ _ _ ⟨a,b,c,d,rfl,rfl⟩ ⟨_,_,_,_,h,rfl⟩; cases h; rfl
 shut h:=h
theorem run93 {ov:Ov} (ho:∀ args w,ov 93 args w=none) (a b c d:Int) (w:AW):∃ v w',(run Tryd.prog ov 2).call 93 [.agg ⟨[.int .i64 a,.int .i64 b]⟩,.agg ⟨[.int .i64 c,.int .i64 d]⟩] w .none=.ok (.ret v) w' .none∧v=.bool (decide (c≤a) && decide (b≤d)):=by
 refine call_wp text93 (by simp) (ho _ _) ?_
 by_cases h1:c≤a <;> simp [mc93,h1,tupV,cellsOf_agg]
def S81:PSpec where
 R args w v:=∃ (q n:Int) (s:Sp),args=[.int .i64 q,.int .i64 n]∧limQ q=some s∧LimW w∧v=.bool (inI s.1 n s.2)
 uniq:=by rintro _ _ _ _ ⟨q,n,s,rfl,h1,_,rfl⟩ ⟨_,_,s',h,h2,_,rfl⟩; cases h; rw [h1] at h2; cases h2; rfl
 shut h:=h
theorem run81 {ov:Ov} (ho:∀ args w,ov 81 args w=none) (h82:HasP ov 82 S82.F) (q n:Int) (s:Sp) (hq:limQ q=some s) (w:AW) (hL:LimW w):∃ v w',(run Tryd.prog ov 2).call 81 [.int .i64 q,.int .i64 n] w .none=.ok (.ret v) w' .none∧v=.bool (inI s.1 n s.2):=by
 refine call_wp text81 (by simp) (ho _ _) ?_
 have r82:=fun a b w=>S82.call1 (P:=Tryd.prog) h82 (w:=w) ⟨n,a,b,rfl,rfl⟩
 obtain ⟨ro,hg⟩:=lim_at hL
 rcases limQ_cases hq with ⟨rfl,rfl⟩ | ⟨rfl,rfl⟩ | ⟨rfl,rfl⟩ | ⟨rfl,rfl⟩ | ⟨rfl,rfl⟩ | ⟨rfl,rfl⟩ | ⟨rfl,rfl⟩ <;> simp [mc81,hg,r82,tupV]
def S70:PSpec where
 R args w v:=∃ (q a b:Int) (s:Sp),args=[.int .i64 q,.agg ⟨[.int .i64 a,.int .i64 b]⟩]∧limQ q=some s∧LimW w∧v=.bool (spanI a b s.1 s.2)
 uniq:=by rintro _ _ _ _ ⟨q,a,b,s,rfl,h1,_,rfl⟩ ⟨_,_,_,s',h,h2,_,rfl⟩; cases h; rw [h1] at h2; cases h2; rfl
 shut h:=h
theorem span_bool (a b c d:Int):spanI a b c d=(!decide (b < a) && (decide (c≤a) && decide (b≤d))):=by
 unfold spanI
 by_cases h1:c≤a <;> by_cases h2:b < a <;> by_cases h3:b≤d
 all_goals simp [h1,h2,h3]
 all_goals omega
theorem run70 {ov:Ov} (ho:∀ args w,ov 70 args w=none) (h92:HasP ov 92 S92.F) (h93:HasP ov 93 S93.F) (q a b:Int) (s:Sp) (hq:limQ q=some s) (w:AW) (hl:w.lim=w.next) (hL:LimW w):∃ v w',(run Tryd.prog ov 2).call 70 [.int .i64 q,.agg ⟨[.int .i64 a,.int .i64 b]⟩] w .none=.ok (.ret v) w' .none∧v=.bool (spanI a b s.1 s.2):=by
 refine call_wp text70 (by simp) (ho _ _) ?_
 have r92:=fun w=>S92.call1 (P:=Tryd.prog) h92 (w:=w) ⟨a,b,rfl,rfl⟩
 have r93:=fun c d w=>S93.call1 (P:=Tryd.prog) h93 (w:=w) ⟨a,b,c,d,rfl,rfl⟩
 obtain ⟨ro,hg⟩:=lim_at hL
 have hp:=hL.2
 have e0:¬ 0=w.next:=by omega
 have lw:w.lim≤w.next:=by omega
 by_cases h1:b < a
 ·rcases limQ_cases hq with ⟨rfl,rfl⟩ | ⟨rfl,rfl⟩ | ⟨rfl,rfl⟩ | ⟨rfl,rfl⟩ | ⟨rfl,rfl⟩ | ⟨rfl,rfl⟩ | ⟨rfl,rfl⟩ <;> simp [mc70,hg,r92,r93,tupV,cellsOf_agg,span_bool,h1,e0]
 ·rcases limQ_cases hq with ⟨rfl,rfl⟩ | ⟨rfl,rfl⟩ | ⟨rfl,rfl⟩ | ⟨rfl,rfl⟩ | ⟨rfl,rfl⟩ | ⟨rfl,rfl⟩ | ⟨rfl,rfl⟩ <;> simp [mc70,hg,r92,r93,tupV,cellsOf_agg,span_bool,h1,e0]
def S94:PSpec where
 R args w v:=∃ b:CBox,args=[.agg ⟨boxC b⟩]∧LimW w∧v=.bool (boxB b)
 uniq:=by rintro _ _ _ _ ⟨⟨a,b,c,d⟩,rfl,_,rfl⟩ ⟨⟨a',b',c',d'⟩,h,_,rfl⟩; cases h; rfl
 shut h:=h
theorem run94 {ov:Ov} (ho:∀ args w,ov 94 args w=none) (h70:HasP ov 70 S70.F) (b:CBox) (w:AW) (hl:w.lim=w.next) (hL:LimW w):∃ v w',(run Tryd.prog ov 2).call 94 [.agg ⟨boxC b⟩] w .none=.ok (.ret v) w' .none∧v=.bool (boxB b):=by
 refine call_wp text94 (by simp) (ho _ _) ?_
 have u1:Up w ⟨w.heap.put w.next (some (.cells (boxC b) 27 false)),w.next + 1,w.lim⟩:=(Up.refl w).add _
 have r70:=fun x y=>S70.call1 (P:=Tryd.prog) h70 (w:=⟨w.heap.put w.next (some (.cells (boxC b) 27 false)),w.next + 1,w.lim⟩) ⟨3,x,y,(1,1000000),rfl,rfl,hL.up u1,rfl⟩
 unfold boxC at r70 ⊢
 by_cases h1:spanI b.wl b.wh 1 1000000=true
 ·simp [mc94,r70,tupV,cellsOf_agg,boxB,h1]
 ·simp [mc94,r70,tupV,cellsOf_agg,boxB,h1]
def S55:PSpec where
 R args _ v:=∃ lo hi a b:Int,args=[.agg ⟨[.int .i64 lo,.int .i64 hi]⟩,.int .i64 a,.int .i64 b]∧v=.bool (spanI lo hi a b)
 uniq:=by rintro _ _ _ _ ⟨a,b,c,d,rfl,rfl⟩ ⟨_,_,_,_,h,rfl⟩; cases h; rfl
 shut h:=h
theorem run55 {ov:Ov} (ho:∀ args w,ov 55 args w=none) (lo hi a b:Int) (w:AW):∃ v w',(run Tryd.prog ov 2).call 55 [.agg ⟨[.int .i64 lo,.int .i64 hi]⟩,.int .i64 a,.int .i64 b] w .none=.ok (.ret v) w' .none∧v=.bool (spanI lo hi a b):=by
 refine call_wp text55 (by simp) (ho _ _) ?_
 by_cases h1:a≤lo <;> by_cases h2:lo≤hi <;> simp [mc55,h1,h2,tupV,spanI,cellsOf_agg]
theorem all_take {α:Type} {p:α→Bool} {l:List α} {i:Nat} {a:α} (ha:l[i]?=some a):(l.take (i + 1)).all p=((l.take i).all p && p a):=by
 rw [take_snoc ha,List.all_append]; simp
theorem all_bad {α:Type} {p:α→Bool} {l:List α} {i:Nat} {a:α} (ha:l[i]?=some a) (h:p a=false):l.all p=false:=by
 cases hq:l.all p with
 | false=>rfl
 | true =>
  have:=List.all_eq_true.1 hq a (List.mem_of_getElem? ha)
  rw [h] at this; cases this
theorem all_full {α:Type} {p:α→Bool} {l:List α} (h:(l.take l.length).all p=true):l.all p=true:=by rwa [List.take_length] at h
def S53:PSpec where
 R args w v:=∃ (x:Value) (r:List CAct),args=[x]∧RowsV actC w x r∧LimW w∧v=.bool (ruleB r)
 uniq:=by
  rintro _ _ _ _ ⟨x,r,rfl,h1,_,rfl⟩ ⟨_,r',h,h2,_,rfl⟩
  cases h
  rw [h1.uniq (m:=7) actC_length actC_inj h2]
 shut h:=h
theorem run53 {ov:Ov} (ho:∀ args w,ov 53 args w=none) (h81:HasP ov 81 S81.F) (h70:HasP ov 70 S70.F) (r:List CAct) (v:Value) (w:AW) (hl:w.lim=w.next) (hv:RowsV actC w v r) (hL:LimW w):∃ x w',(run Tryd.prog ov 2).call 53 [v] w .none=.ok (.ret x) w' .none∧x=.bool (ruleB r):=by
 refine call_wp text53 (by simp) (ho _ _) ?_
 have hl1:=fun w2=>len22V (w':=w2) hv
 by_cases h1:r.length < 1
 ·have h1':(r.length:Int) < 1:=by omega
  have e:ruleB r=false:=by simp [ruleB,inI]; intro h; omega
  simp [mc53,hl1,h1',e,tupV]
 have h1':¬ (r.length:Int) < 1:=by omega
 by_cases h2:5 < r.length
 ·have h2':(5:Int) < (r.length:Int):=by omega
  have e:ruleB r=false:=by simp [ruleB,inI]; intro _ h; omega
  simp [mc53,hl1,h1',h2',e,tupV]
 have h2':¬ (5:Int) < (r.length:Int):=by omega
 have eI:inI 1 (r.length:Nat) 5=true:=by simp [inI]; omega
 have hll:=hl
 simp [mc53,hl1,h1',h2']
 refine wp_seqX (wp_blockX (wp_rounds (fun i t w'=>Up w w'∧w'.lim≤w'.next∧tget t 0=v∧tget t 13=v∧tget t 14=.int .i64 (r.length:Nat)∧tget t 15=.int .i64 (i:Nat)∧i≤r.length∧(r.take i).all (actB r.length)=true) 20 (by decide) ?_ ?_))
 ·refine ⟨Up.refl w,by omega,by simp,by simp,by simp,by simp,by omega,by simp⟩
 ·clear hl1
  rintro i t w' ⟨hu,hle,t0,t13,t14,t15,hi,ha⟩
  by_cases hlt:i < r.length
  ·obtain ⟨x,hx⟩:∃ p,r[i]?=some p:=⟨_,List.getElem?_eq_getElem hlt⟩
   have hv1:=hv.up hu
   have hl1:=fun w2=>len22V (w':=w2) hv1
   obtain ⟨b,off,sq,c,rfl,hra⟩:=hv1.at_ i hlt
   have hld:=hra.rd actC_length hx
   have hia:=fun w=>ia22 w ⟨b,off,sq⟩ r.length c .i64 i hlt
   have hw1:IntKind.wrap .i64 ((i:Int) + 1)=(i:Int) + 1:=wrap64_in (by omega) (by omega)
   have hsh:=fun w s c=>bin_shl1 (P:=Tryd.prog) (w:=w) s c r.length (by omega)
   have hpow:(1:Int)≤2 ^ r.length:=by exact_mod_cast Nat.one_le_two_pow
   have has:=all_take (p:=actB r.length) hx
   obtain ⟨a1,a2,a3,a4,a5,a6,a7⟩:=x
   have u1:Up w ⟨(w'.heap.put w'.next (some (.cells [.int .i64 0,.int .i64 0,.bool false,.bool false,.int .i64 0,.int .i64 0,.int .i64 0] 78 false))).put w'.next (some (.cells [.int .i64 a1,.int .i64 a2,.bool a3,.bool a4,.int .i64 a5,.int .i64 a6,.int .i64 a7] 78 false)),w'.next + 1,w'.lim⟩:=(hu.add _).put hu.next (Nat.le_refl _)
   have L1:=hL.up u1
   have r81a:=S81.call1 (P:=Tryd.prog) h81 ⟨0,a1,_,rfl,rfl,L1,rfl⟩
   have r81b:=S81.call1 (P:=Tryd.prog) h81 ⟨1,a5,_,rfl,rfl,L1,rfl⟩
   have r70:=S70.call1 (P:=Tryd.prog) h70 ⟨2,a6,a7,_,rfl,rfl,L1,rfl⟩
   have hbad:actB r.length ⟨a1,a2,a3,a4,a5,a6,a7⟩=false→ruleB r=false:=fun h=>by
    simp only [ruleB,all_bad hx h,Bool.and_false]
   simp only [actC] at hld
   cases k1:inI 0 a1 60 with
   | false =>
    have e:=hbad (by simp [actB,k1])
    rw [k1] at r81a
    simp [mc53_l0,t0,t13,t14,t15,hlt,hia,hld,hle,r81a,e,tupV]
   | true =>
    rw [k1] at r81a
    cases k2:inI 1 a5 14 with
    | false =>
     have e:=hbad (by simp [actB,k2])
     rw [k2] at r81b
     simp [mc53_l0,t0,t13,t14,t15,hlt,hia,hld,hle,r81a,r81b,e,tupV]
    | true =>
     rw [k2] at r81b
     cases k3:spanI a6 a7 0 10000 with
     | false =>
      have e:=hbad (by simp [actB,k3])
      rw [k3] at r70
      simp [mc53_l0,t0,t13,t14,t15,hlt,hia,hld,hle,r81a,r81b,r70,e,tupV]
     | true =>
      rw [k3] at r70
      by_cases k4:a2 < 0
      ·have e:=hbad (by simp only [actB,inI]; simp; intro _ _ _; omega)
       simp [mc53_l0,t0,t13,t14,t15,hlt,hia,hld,hle,r81a,r81b,r70,k4,e,tupV]
      ·by_cases k5:(2:Int) ^ r.length≤a2
       ·have e:=hbad (by simp only [actB,inI]; simp; intro _ _ _; omega)
        simp [mc53_l0,t0,t13,t14,t15,hlt,hia,hld,hle,r81a,r81b,r70,k4,k5,hl1,hsh,e,tupV]
       ·have e:actB r.length ⟨a1,a2,a3,a4,a5,a6,a7⟩=true:=by
         simp only [actB,k1,k2,k3,Bool.true_and]
         simp [inI]; omega
        rw [ha,e] at has
        simp [mc53_l0,t0,t13,t14,t15,hlt,hia,hld,hle,r81a,r81b,r70,k4,k5,hl1,hsh,hw1]
        exact ⟨by omega,u1,hlt,by simpa using has⟩
  ·have hi':i=r.length:=by omega
   subst hi'
   have e:ruleB r=true:=by simp only [ruleB,eI,all_full ha,Bool.and_self]
   simp [mc53_l0,t14,t15,e,tupV]
def S54:PSpec where
 R args w v:=∃ (x:Value) (d:List CDay),args=[x]∧RowsV cdayC w x d∧LimW w∧v=.bool (daysB d)
 uniq:=by
  rintro _ _ _ _ ⟨x,r,rfl,h1,_,rfl⟩ ⟨_,r',h,h2,_,rfl⟩
  cases h
  rw [h1.uniq (m:=3) cdayC_length cdayC_inj h2]
 shut h:=h
theorem run54 {ov:Ov} (ho:∀ args w,ov 54 args w=none) (h70:HasP ov 70 S70.F) (r:List CDay) (v:Value) (w:AW) (hl:w.lim=w.next) (hv:RowsV cdayC w v r) (hL:LimW w):∃ x w',(run Tryd.prog ov 2).call 54 [v] w .none=.ok (.ret x) w' .none∧x=.bool (daysB r):=by
 refine call_wp text54 (by simp) (ho _ _) ?_
 have hl1:=fun w2=>len23V (w':=w2) hv
 by_cases h1:r.length < 1
 ·have h1':(r.length:Int) < 1:=by omega
  have e:daysB r=false:=by simp [daysB,inI]; intro h; omega
  simp [mc54,hl1,h1',e,tupV]
 have h1':¬ (r.length:Int) < 1:=by omega
 by_cases h2:14 < r.length
 ·have h2':(14:Int) < (r.length:Int):=by omega
  have e:daysB r=false:=by simp [daysB,inI]; intro _ h; omega
  simp [mc54,hl1,h1',h2',e,tupV]
 have h2':¬ (14:Int) < (r.length:Int):=by omega
 have eI:inI 1 (r.length:Nat) 14=true:=by simp [inI]; omega
 simp [mc54,hl1,h1',h2']
 refine wp_seqX (wp_blockX (wp_rounds (fun i t w'=>Up w w'∧w'.lim≤w'.next∧tget t 13=v∧tget t 14=.int .i64 (r.length:Nat)∧tget t 15=.int .i64 (i:Nat)∧i≤r.length∧(r.take i).all cdayB=true) 20 (by decide) ?_ ?_))
 ·refine ⟨Up.refl w,by omega,by simp,by simp,by simp,by omega,by simp⟩
 ·clear hl1
  rintro i t w' ⟨hu,hle,t13,t14,t15,hi,ha⟩
  by_cases hlt:i < r.length
  ·obtain ⟨x,hx⟩:∃ p,r[i]?=some p:=⟨_,List.getElem?_eq_getElem hlt⟩
   have hv1:=hv.up hu
   obtain ⟨b,off,sq,c,rfl,hra⟩:=hv1.at_ i hlt
   have hld:=hra.rd cdayC_length hx
   have hia:=fun w=>ia23 w ⟨b,off,sq⟩ r.length c .i64 i hlt
   have hw1:IntKind.wrap .i64 ((i:Int) + 1)=(i:Int) + 1:=wrap64_in (by omega) (by omega)
   have has:=all_take (p:=cdayB) hx
   obtain ⟨a1,a2,a3⟩:=x
   have u1:Up w ⟨(w'.heap.put w'.next (some (.cells [.int .i64 0,.int .i64 0,.bool false] 83 false))).put w'.next (some (.cells [.int .i64 a1,.int .i64 a2,.bool a3] 83 false)),w'.next + 1,w'.lim⟩:=(hu.add _).put hu.next (Nat.le_refl _)
   have L1:=hL.up u1
   have r70:=S70.call1 (P:=Tryd.prog) h70 ⟨0,a1,a2,_,rfl,rfl,L1,rfl⟩
   simp only [cdayC] at hld
   cases k3:spanI a1 a2 0 60 with
   | false =>
    have e:daysB r=false:=by simp only [daysB,all_bad hx (p:=cdayB) k3,Bool.and_false]
    rw [k3] at r70
    simp [mc54_l0,t13,t14,t15,hlt,hia,hld,hle,r70,e,tupV]
   | true =>
    rw [k3] at r70
    have e:cdayB ⟨a1,a2,a3⟩=true:=k3
    rw [ha,e] at has
    simp [mc54_l0,t13,t14,t15,hlt,hia,hld,hle,r70,hw1]
    exact ⟨by omega,u1,hlt,by simpa using has⟩
  ·have hi':i=r.length:=by omega
   subst hi'
   have e:daysB r=true:=by simp only [daysB,eI,all_full ha,Bool.and_self]
   simp [mc54_l0,t14,t15,e,tupV]
def S14:PSpec where
 R args w v:=∃ (x y:Value) (r:List CAct) (d:List CDay),args=[x,y]∧RowsV actC w x r∧RowsV cdayC w y d∧LimW w∧v=.int .i64 (chkE r d)
 uniq:=by
  rintro _ _ _ _ ⟨x,y,r,d,rfl,h1,h2,_,rfl⟩ ⟨_,_,r',d',h,k1,k2,_,rfl⟩
  cases h
  rw [h1.uniq (m:=7) actC_length actC_inj k1,h2.uniq (m:=3) cdayC_length cdayC_inj k2]
 shut h:=h
theorem run14 {ov:Ov} (ho:∀ args w,ov 14 args w=none) (h53:HasP ov 53 S53.F) (h54:HasP ov 54 S54.F) (r:List CAct) (d:List CDay) (v y:Value) (w:AW) (hv:RowsV actC w v r) (hd:RowsV cdayC w y d) (hL:LimW w):∃ x w',(run Tryd.prog ov 2).call 14 [v,y] w .none=.ok (.ret x) w' .none∧x=.int .i64 (chkE r d):=by
 refine call_wp text14 (by simp) (ho _ _) ?_
 have r53:=S53.call1 (P:=Tryd.prog) h53 ⟨v,r,rfl,hv,hL,rfl⟩
 have r54:=S54.call1 (P:=Tryd.prog) h54 ⟨y,d,rfl,hd,hL,rfl⟩
 cases k1:ruleB r with
 | false=>rw [k1] at r53; simp [mc14,r53,chkE,k1,tupV]
 | true =>
  rw [k1] at r53
  cases k2:daysB d <;> rw [k2] at r54 <;> simp [mc14,r53,r54,chkE,k1,k2,tupV]
theorem rdO_sub {o:Option AObj} {off m j k:Nat} {c:List Value} (h:rdO o off m=some c) (hjk:j + k≤m):rdO o (off + j) k=some ((c.drop j).take k):=by
 unfold rdO at *
 cases hc:cellsO o with
 | none=>simp [hc] at h
 | some cs =>
  simp only [hc,Option.bind_some] at h ⊢
  split at h
  ·rename_i hle
   cases h
   rw [if_pos (by omega),List.drop_take,List.drop_drop,List.take_take,Nat.min_eq_left (by omega)]
  ·cases h
theorem run15 {ov:Ov} (ho:∀ args w,ov 15 args w=none) (h39:HasP ov 39 S39.F) (h55:HasP ov 55 S55.F) (r:List CAct) (d:List CDay) (v y:Value) (w:AW) (hv:RowsV actC w v r) (hd:RowsV cdayC w y d):∃ x w',(run Tryd.prog ov 2).call 15 [v,y] w .none=.ok (.ret x) w' .none∧x=.int .i64 (chkE r d):=by
 refine call_wp text15 (by simp) (ho _ _) ?_
 have hl1:=fun w2=>len22V (w':=w2) hv
 have hl2:=fun w2=>len23V (w':=w2) hd
 have r39:=fun n a b w=>S39.call1 (P:=Tryd.prog) h39 (w:=w) ⟨n,a,b,rfl,rfl⟩
 have r55:=fun lo hi a b w=>S55.call1 (P:=Tryd.prog) h55 (w:=w) ⟨lo,hi,a,b,rfl,rfl⟩
 simp [mc15,hl1,r39]
 refine wp_seqX (wp_blockX (wp_rounds (fun i t w'=>w'=w∧tget t 0=v∧tget t 1=y∧tget t 6=.int .i64 (i:Nat)∧∃ ok,tget t 5=.bool ok∧(ok=true→i≤r.length∧inI 1 (r.length:Nat) 5=true∧(r.take i).all (actB r.length)=true)∧(ok=false→ruleB r=false)) 20 (by decide) ?_ ?_))
 ·refine ⟨rfl,by simp,by simp,by simp,inI 1 (r.length:Nat) 5,by simp,fun h=>⟨Nat.zero_le _,h,by simp⟩,fun h=>by simp only [ruleB,h,Bool.false_and]⟩
 ·rintro i t w' ⟨rfl,t0,t1,t6,ok,t5,hy,hn⟩
  cases ok with
  | false =>
   have:=hn rfl
   have e:chkE r d=60:=by simp [chkE,this]
   simp [mc15_l0,t5,e,tupV]
  | true =>
   obtain ⟨hi,hI,ha⟩:=hy rfl
   have hI':1≤r.length∧r.length≤5:=by simp only [inI,Bool.and_eq_true,decide_eq_true_eq] at hI; omega
   by_cases hlt:i < r.length
   ·obtain ⟨x,hx⟩:∃ p,r[i]?=some p:=⟨_,List.getElem?_eq_getElem hlt⟩
    obtain ⟨b,off,sq,c,rfl,hra⟩:=hv.at_ i hlt
    have f0:=hra.rd1 actC_length hx (j:=0) (x:=.int .i64 x.warm) rfl
    have f1:=hra.rd1 actC_length hx (j:=1) (x:=.int .i64 x.behind) rfl
    have f4:=hra.rd1 actC_length hx (j:=4) (x:=.int .i64 x.most) rfl
    have f5:rdO (w'.heap.get b) (off + i * 7 + 5) 2=some [.int .i64 x.ll,.int .i64 x.lh]:=rdO_sub (hra.rd actC_length hx) (j:=5) (k:=2) (by decide)
    simp only [Nat.add_zero] at f0
    have hia:=fun w=>ia22 w ⟨b,off,sq⟩ r.length c .i64 i hlt
    have hw1:IntKind.wrap .i64 ((i:Int) + 1)=(i:Int) + 1:=wrap64_in (by omega) (by omega)
    have hsh:=fun w s c=>bin_shl1 (P:=Tryd.prog) (w:=w) s c r.length (by omega)
    have hpow:(2:Int) ^ r.length≤32∧1≤(2:Int) ^ r.length:=by
     have:r.length=1∨r.length=2∨r.length=3∨r.length=4∨r.length=5:=by omega
     rcases this with h | h | h | h | h <;> rw [h] <;> decide
    have hw2:IntKind.wrap .i64 ((2:Int) ^ r.length - 1)=2 ^ r.length - 1:=wrap64_in (by omega) (by omega)
    have has:=all_take (p:=actB r.length) hx
    have hbad:actB r.length x=false→ruleB r=false:=fun h=>by
     simp only [ruleB,all_bad hx h,Bool.and_false]
    cases k1:inI 0 x.warm 60 with
    | false =>
     have e:=hbad (by simp [actB,k1])
     simp [mc15_l0,t0,t1,t5,t6,hlt,hl1,hia,f0,r39,k1,hw1]
     exact ⟨by omega,e⟩
    | true =>
     cases k2:inI 0 x.behind (2 ^ r.length - 1) with
     | false =>
      have e:=hbad (by simp [actB,k2])
      simp [mc15_l0,t0,t1,t5,t6,hlt,hl1,hia,f0,f1,r39,k1,k2,hw1,hw2,hsh]
      exact ⟨by omega,e⟩
     | true =>
      cases k3:inI 1 x.most 14 with
      | false =>
       have e:=hbad (by simp [actB,k3])
       simp [mc15_l0,t0,t1,t5,t6,hlt,hl1,hia,f0,f1,f4,r39,k1,k2,k3,hw1,hw2,hsh]
       exact ⟨by omega,e⟩
      | true =>
       cases k4:spanI x.ll x.lh 0 10000 with
       | false =>
        have e:=hbad (by simp [actB,k4])
        simp [mc15_l0,t0,t1,t5,t6,hlt,hl1,hia,f0,f1,f4,f5,r39,r55,k1,k2,k3,k4,hw1,hw2,hsh]
        exact ⟨by omega,e⟩
       | true =>
        have e:actB r.length x=true:=by simp only [actB,k1,k2,k3,k4,Bool.and_self]
        rw [ha,e] at has
        simp [mc15_l0,t0,t1,t5,t6,hlt,hl1,hia,f0,f1,f4,f5,r39,r55,k1,k2,k3,k4,hw1,hw2,hsh]
        exact ⟨by omega,hlt,hI,by simpa using has⟩
   ·have hi':i=r.length:=by omega
    subst hi'
    have eR:ruleB r=true:=by simp only [ruleB,hI,all_full ha,Bool.and_self]
    have hcE:chkE r d=if daysB d=true then 0 else 61:=by simp only [chkE,eR,if_true]
    simp [mc15_l0,t0,t1,t5,t6,hl1,hl2,r39]
    refine wp_seqX (wp_blockX (wp_rounds (fun i t w2=>w2=w'∧tget t 1=y∧tget t 7=.int .i64 (i:Nat)∧∃ ok,tget t 5=.bool ok∧(ok=true→i≤d.length∧inI 1 (d.length:Nat) 14=true∧(d.take i).all cdayB=true)∧(ok=false→daysB d=false)) 20 (by decide) ?_ ?_))
    ·refine ⟨rfl,by simp [t1],by simp,inI 1 (d.length:Nat) 14,by simp,fun h=>⟨Nat.zero_le _,h,by simp⟩,fun h=>by simp only [daysB,h,Bool.false_and]⟩
    ·clear t0 t1 t5 t6 ha hi hy hn hlt
     rintro i t w2 ⟨rfl,t1,t7,ok,t5,hy,hn⟩
     cases ok with
     | false =>
      have:=hn rfl
      have e:chkE r d=61:=by simp [hcE,this]
      simp [mc15_l1,t5,e,tupV]
     | true =>
      obtain ⟨hi,hJ,ha⟩:=hy rfl
      have hJ':1≤d.length∧d.length≤14:=by simp only [inI,Bool.and_eq_true,decide_eq_true_eq] at hJ; omega
      by_cases hlt:i < d.length
      ·obtain ⟨x,hx⟩:∃ p,d[i]?=some p:=⟨_,List.getElem?_eq_getElem hlt⟩
       obtain ⟨b,off,sq,c,rfl,hra⟩:=hd.at_ i hlt
       have f0:rdO (w2.heap.get b) (off + i * 3 + 0) 2=some [.int .i64 x.wl,.int .i64 x.wh]:=rdO_sub (hra.rd cdayC_length hx) (j:=0) (k:=2) (by decide)
       simp only [Nat.add_zero] at f0
       have hia:=fun w=>ia23 w ⟨b,off,sq⟩ d.length c .i64 i hlt
       have hw1:IntKind.wrap .i64 ((i:Int) + 1)=(i:Int) + 1:=wrap64_in (by omega) (by omega)
       have has:=all_take (p:=cdayB) hx
       cases k1:spanI x.wl x.wh 0 60 with
       | false =>
        have e:daysB d=false:=by simp only [daysB,all_bad hx (p:=cdayB) k1,Bool.and_false]
        simp [mc15_l1,t1,t5,t7,hlt,hl2,hia,f0,r55,k1,hw1]
        exact ⟨by omega,e⟩
       | true =>
        have e:cdayB x=true:=k1
        rw [ha,e] at has
        simp [mc15_l1,t1,t5,t7,hlt,hl2,hia,f0,r55,k1,hw1]
        exact ⟨by omega,hlt,hJ,by simpa using has⟩
      ·have hi':i=d.length:=by omega
       subst hi'
       have eD:daysB d=true:=by simp only [daysB,hJ,all_full ha,Bool.and_self]
       simp [mc15_l1,t1,t5,t7,hl2,hcE,eD,tupV]
structure FineS (s:Stg):Prop where
 last:s.last = -1∨0≤s.last
 done:0≤s.done∧s.done≤20
 row:0≤s.row∧s.row≤20
 lo:0≤s.lo∧s.lo≤1000000
 hi:0≤s.hi∧s.hi≤1000000
def FineA (a:CAct):Prop:=0≤a.ll∧a.ll≤10000∧0≤a.lh∧a.lh≤10000
theorem fine_of {r:List CAct} {so:List Int} {s:Stg} (h:StOk r so s) (hn:so.length≤14):FineS s:=by
 have h1:=h.done; have h2:=h.lo; have h3:=h.hi; have h4:=h.row
 have h5:=runL_le s.last so.reverse
 rw [List.length_reverse] at h5
 refine ⟨?_,by omega,by omega,by omega,by omega⟩
 rcases h.last with ⟨_,e⟩ | ⟨z,_,e,h0,_⟩ <;> omega
theorem fineA_of {r:List CAct} (h:ruleB r=true) {i:Nat} {x:CAct} (hx:r[i]?=some x):FineA x:=by
 obtain ⟨_,_,k,_⟩:=act_of h hx
 simp only [spanI,Bool.and_eq_true,decide_eq_true_eq] at k
 unfold FineA; omega
def dayC (y:CDay) (s:Stg):List Value:=[.int .i64 y.wl,.int .i64 y.wh,.bool y.rain,.int .i64 s.done,.int .i64 s.last,.int .i64 s.row,.int .i64 s.lo,.int .i64 s.hi]
def numC (a:CAct) (n:Int):List Value:=[.int .i64 a.warm,.int .i64 a.behind,.bool a.dry,.bool a.first,.int .i64 a.most,.int .i64 a.ll,.int .i64 a.lh,.int .i64 n]
def S100:PSpec where
 R args w v:=∃ (s:Stg) (a:CAct) (n:Int),args=[.agg ⟨stgC s⟩,.agg ⟨numC a n⟩]∧FineS s∧FineA a∧w.lim≤w.next∧v=.agg ⟨stgC (withS s a n)⟩
 uniq:=by
  rintro _ _ _ _ ⟨⟨_,_,_,_,_⟩,⟨_,_,_,_,_,_,_⟩,n,rfl,_,_,_,rfl⟩ ⟨⟨_,_,_,_,_⟩,⟨_,_,_,_,_,_,_⟩,n',h,_,_,_,rfl⟩
  simp only [stgC,numC,List.cons.injEq,Value.agg.injEq,Array.mk.injEq,Value.int.injEq,Value.bool.injEq,true_and,and_true] at h
  obtain ⟨⟨rfl,rfl,rfl,rfl,rfl⟩,rfl,rfl,rfl,rfl,rfl,rfl,rfl,rfl⟩:=h
  rfl
 shut:=fun ⟨s,a,n,h1,h2,h3,_,h4⟩=>⟨s,a,n,h1,h2,h3,Nat.le_refl _,h4⟩
theorem run100 {ov:Ov} (ho:∀ args w,ov 100 args w=none) (s:Stg) (a:CAct) (n:Int) (hs:FineS s) (ha:FineA a) (w:AW) (hl:w.lim=w.next):∃ x w',(run Tryd.prog ov 2).call 100 [.agg ⟨stgC s⟩,.agg ⟨numC a n⟩] w .none=.ok (.ret x) w' .none∧x=.agg ⟨stgC (withS s a n)⟩:=by
 refine call_wp text100 (by simp) (ho _ _) ?_
 have h1:=hs.done; have h2:=hs.row; have h3:=hs.lo; have h4:=hs.hi
 unfold FineA at ha
 have w1:IntKind.wrap .i64 (s.done + 1)=s.done + 1:=wrap64_in (by omega) (by omega)
 have w2:IntKind.wrap .i64 (1 + s.row)=1 + s.row:=wrap64_in (by omega) (by omega)
 have w3:IntKind.wrap .i64 (s.lo + a.ll)=s.lo + a.ll:=wrap64_in (by omega) (by omega)
 have w4:IntKind.wrap .i64 (s.hi + a.lh)=s.hi + a.lh:=wrap64_in (by omega) (by omega)
 have lw:w.lim≤w.next:=by omega
 have lw2:w.lim≤w.next + 1 + 1:=by omega
 have lw3:w.lim≤w.next + 1 + 1 + 1:=by omega
 by_cases e:n=s.last
 ·simp [mc100,stgC,numC,cellsOf_agg,e,w1,w2,w3,w4,lw,lw2,lw3,tupV,withS]
 ·simp [mc100,stgC,numC,cellsOf_agg,e,w1,w2,w3,w4,lw,lw2,lw3,tupV,withS]
def S78:PSpec where
 R args w v:=args=[]∧w.lim≤w.next∧v=.agg ⟨stgC startS⟩
 uniq:=by rintro _ _ _ _ ⟨rfl,_,rfl⟩ ⟨_,_,rfl⟩; rfl
 shut:=fun ⟨h1,_,h2⟩=>⟨h1,Nat.le_refl _,h2⟩
theorem run78 {ov:Ov} (ho:∀ args w,ov 78 args w=none) (w:AW) (hl:w.lim=w.next):∃ x w',(run Tryd.prog ov 2).call 78 [] w .none=.ok (.ret x) w' .none∧x=.agg ⟨stgC startS⟩:=by
 refine call_wp text78 (by simp) (ho _ _) ?_
 have lw:w.lim≤w.next:=by omega
 simp [mc78,stgC,startS,cellsOf_agg,lw,tupV]
def q0 (x:CAct) (y:CDay):Bool:=decide (x.warm≤y.wl)
def q1 (x:CAct) (y:CDay):Bool:=!(x.dry && y.rain)
def q2 (x:CAct) (num:Int) (s:Stg):Bool:=if s.last = -1 then x.first else decide (s.last=num) || bitB x.behind s.last
def q3 (x:CAct) (num:Int) (s:Stg):Bool:=decide (s.last ≠ num) || decide (s.row < x.most)
theorem fit_q (x:CAct) (num:Int) (y:CDay) (s:Stg):fitB x num y s=(q0 x y && (q1 x y && (q2 x num s && q3 x num s))):=rfl
def SQ (q:CAct→Int→CDay→Stg→Bool):PSpec where
 R args _ v:=∃ (x:CAct) (n:Int) (y:CDay) (s:Stg),args=[.agg ⟨dayC y s⟩,.agg ⟨numC x n⟩]∧FineS s∧v=.bool (q x n y s)
 uniq:=by
  rintro _ _ _ _ ⟨⟨_,_,_,_,_,_,_⟩,n,⟨_,_,_⟩,⟨_,_,_,_,_⟩,rfl,_,rfl⟩ ⟨⟨_,_,_,_,_,_,_⟩,n',⟨_,_,_⟩,⟨_,_,_,_,_⟩,h,_,rfl⟩
  simp only [dayC,numC,List.cons.injEq,Value.agg.injEq,Array.mk.injEq,Value.int.injEq,Value.bool.injEq,true_and,and_true] at h
  obtain ⟨⟨rfl,rfl,rfl,rfl,rfl,rfl,rfl,rfl⟩,rfl,rfl,rfl,rfl,rfl,rfl,rfl,rfl⟩:=h
  rfl
 shut h:=h
def S107:PSpec:=SQ fun x _ y _=>q0 x y
def S108:PSpec:=SQ fun x _ y _=>q1 x y
def S109:PSpec:=SQ fun x n _ s=>q2 x n s
def S110:PSpec:=SQ fun x n _ s=>q3 x n s
theorem run107 {ov:Ov} (ho:∀ args w,ov 107 args w=none) (x:CAct) (n:Int) (y:CDay) (s:Stg) (w:AW):∃ v w',(run Tryd.prog ov 2).call 107 [.agg ⟨dayC y s⟩,.agg ⟨numC x n⟩] w .none=.ok (.ret v) w' .none∧v=.bool (q0 x y):=by
 refine call_wp text107 (by simp) (ho _ _) ?_
 simp [mc107,dayC,numC,cellsOf_agg,tupV,q0]
theorem run108 {ov:Ov} (ho:∀ args w,ov 108 args w=none) (x:CAct) (n:Int) (y:CDay) (s:Stg) (w:AW):∃ v w',(run Tryd.prog ov 2).call 108 [.agg ⟨dayC y s⟩,.agg ⟨numC x n⟩] w .none=.ok (.ret v) w' .none∧v=.bool (q1 x y):=by
 refine call_wp text108 (by simp) (ho _ _) ?_
 cases hd:x.dry <;> simp [mc108,dayC,numC,cellsOf_agg,tupV,q1,hd]
theorem run109 {ov:Ov} (ho:∀ args w,ov 109 args w=none) (x:CAct) (n:Int) (y:CDay) (s:Stg) (hs:FineS s) (w:AW):∃ v w',(run Tryd.prog ov 2).call 109 [.agg ⟨dayC y s⟩,.agg ⟨numC x n⟩] w .none=.ok (.ret v) w' .none∧v=.bool (q2 x n s):=by
 refine call_wp text109 (by simp) (ho _ _) ?_
 by_cases h1:s.last = -1
 ·simp [mc109,dayC,numC,cellsOf_agg,tupV,q2,h1]
 ·have h0:0≤s.last:=by have:=hs.last; omega
  by_cases h2:s.last=n
  ·have h3:¬ n = -1:=by omega
   simp [mc109,dayC,numC,cellsOf_agg,tupV,q2,h1,h2,h3]
  ·simp [mc109,dayC,numC,cellsOf_agg,tupV,q2,h1,h2,bin_shr (h:=h0),bitB]
theorem run110 {ov:Ov} (ho:∀ args w,ov 110 args w=none) (x:CAct) (n:Int) (y:CDay) (s:Stg) (w:AW):∃ v w',(run Tryd.prog ov 2).call 110 [.agg ⟨dayC y s⟩,.agg ⟨numC x n⟩] w .none=.ok (.ret v) w' .none∧v=.bool (q3 x n s):=by
 refine call_wp text110 (by simp) (ho _ _) ?_
 by_cases h2:s.last=n <;> simp [mc110,dayC,numC,cellsOf_agg,tupV,q3,h2]
def fun98 (c2 c3:Nat):Value:=.func (.func 98) ⟨[]⟩ ⟨[.pointer (some ⟨c3,0,none⟩),.pointer (some ⟨c2,0,none⟩)]⟩
theorem call79 {ov:Ov} (m:Nat) (ho:∀ args w,ov 79 args w=none) (rv dv:Value) (s:Stg) (w:AW):∃ v w',(run Tryd.prog ov (m + 1)).call 79 [.agg ⟨[rv,dv]⟩,.agg ⟨stgC s⟩] w .none=.ok (.ret v) w' .none∧v=fun98 w.next (w.next + 1)∧w'=⟨(w.heap.put w.next (some (.cells [rv,dv] 89 false))).put (w.next + 1) (some (.cells [.int .i64 s.done,.int .i64 s.last,.int .i64 s.row,.int .i64 s.lo,.int .i64 s.hi] 86 false)),w.next + 2,w.lim⟩:=by
 refine call_wp text79 (by simp) (ho _ _) ?_
 simp [mc79,tupV,fun98,notJunk,cellsOf_agg,stgC]
def funQ (k:Nat):Value:=.func (.func k) ⟨[]⟩ ⟨[]⟩
@[simp] theorem bd153 (w:AW):buildA Tryd.prog w 153 [(0,.func (.func 107) #[] #[]),(1,.func (.func 108) #[] #[]),(2,.func (.func 109) #[] #[]),(3,.func (.func 110) #[] #[])]=.val (.agg ⟨[funQ 107,funQ 108,funQ 109,funQ 110]⟩) w:=by kernel_rfl
@[simp] theorem ix153_0 (w:AW):indexA Tryd.prog w 153 (.agg ⟨[funQ 107,funQ 108,funQ 109,funQ 110]⟩) (.int .i64 0)=.val (funQ 107) w:=by kernel_rfl
@[simp] theorem ix153_1 (w:AW):indexA Tryd.prog w 153 (.agg ⟨[funQ 107,funQ 108,funQ 109,funQ 110]⟩) (.int .i64 1)=.val (funQ 108) w:=by kernel_rfl
@[simp] theorem ix153_2 (w:AW):indexA Tryd.prog w 153 (.agg ⟨[funQ 107,funQ 108,funQ 109,funQ 110]⟩) (.int .i64 2)=.val (funQ 109) w:=by kernel_rfl
@[simp] theorem ix153_3 (w:AW):indexA Tryd.prog w 153 (.agg ⟨[funQ 107,funQ 108,funQ 109,funQ 110]⟩) (.int .i64 3)=.val (funQ 110) w:=by kernel_rfl
theorem call99 {ov:Ov} (m:Nat) (ho:∀ args w,ov 99 args w=none) (w:AW) (hl:w.lim≤w.next):∃ v w',(run Tryd.prog ov (m + 1)).call 99 [] w .none=.ok (.ret v) w' .none∧v=.agg ⟨[funQ 107,funQ 108,funQ 109,funQ 110]⟩∧Up w w':=by
 refine call_wp text99 (by simp) (ho _ _) ?_
 have u:=((Up.refl w).add (some (.cells [.nilFunc,.nilFunc,.nilFunc,.nilFunc] 153 false))).put (o:=some (.cells [funQ 107,funQ 108,funQ 109,funQ 110] 153 false)) (Nat.le_refl _) (Nat.le_refl _)
 have sg:singles [funQ 107,funQ 108,funQ 109,funQ 110]=true:=rfl
 simp [mc99,tupV,cellsOf_agg,hl,sg]
 exact u
theorem cvQ {k:Nat} (h:hasBody Tryd.prog k=true) (w:AW) (args:List Value):callV Tryd.prog w (funQ k) args=.enter k args w:=by
 show callV Tryd.prog w (.func (.func k) ⟨[]⟩ ⟨[]⟩) args=_
 rw [callV_func,callFn_of h]; simp
@[simp] theorem cv107 (w:AW) (args:List Value):callV Tryd.prog w (funQ 107) args=.enter 107 args w:=cvQ (by kernel_rfl) w args
@[simp] theorem cv108 (w:AW) (args:List Value):callV Tryd.prog w (funQ 108) args=.enter 108 args w:=cvQ (by kernel_rfl) w args
@[simp] theorem cv109 (w:AW) (args:List Value):callV Tryd.prog w (funQ 109) args=.enter 109 args w:=cvQ (by kernel_rfl) w args
@[simp] theorem cv110 (w:AW) (args:List Value):callV Tryd.prog w (funQ 110) args=.enter 110 args w:=cvQ (by kernel_rfl) w args
structure KeepT (t t':Tm):Prop where
 k0:tget t' 0=tget t 0
 k1:tget t' 1=tget t 1
 k4:tget t' 4=tget t 4
 k7:tget t' 7=tget t 7
 k25:tget t' 25=tget t 25
 k26:tget t' 26=tget t 26
 k27:tget t' 27=tget t 27
def qk (x:CAct) (n:Int) (y:CDay) (s:Stg) (j:Nat):Prop:=(1≤j→q0 x y=true)∧(2≤j→q1 x y=true)∧(3≤j→q2 x n s=true)∧(4≤j→q3 x n s=true)
theorem inner98 {ov:Ov} (m:Nat) (h107:HasP ov 107 S107.F) (h108:HasP ov 108 S108.F) (h109:HasP ov 109 S109.F) (h110:HasP ov 110 S110.F) (x:CAct) (n:Int) (y:CDay) (s:Stg) (hs:FineS s) (n4 n7:Nat) (Q:Ex→Tm→AW→Prop) (t:Tm) (w:AW)
  (g4:w.heap.get n4=some (.cells (dayC y s) 149 false)) (g7:w.heap.get n7=some (.cells (numC x n) 151 false)) (t4:tget t 4=.pointer (some ⟨n4,0,none⟩)) (t7:tget t 7=.pointer (some ⟨n7,0,none⟩)) (t35:tget t 35=.agg ⟨[funQ 107,funQ 108,funQ 109,funQ 110]⟩) (t36:tget t 36=.int .i64 0)
  (hQ0:fitB x n y s=false→∀ t',KeepT t t'→Q (.exit 1) t' w) (hQ1:fitB x n y s=true→∀ t',KeepT t t'→Q (.exit 2) t' w):wp (exY Tryd.prog (run Tryd.prog ov (m + 1)) (.loop mc98_l1) t w) Q:=by
 have r107:=S107.call (P:=Tryd.prog) h107 (m:=m) (w:=w) ⟨x,n,y,s,rfl,hs,rfl⟩
 have r108:=S108.call (P:=Tryd.prog) h108 (m:=m) (w:=w) ⟨x,n,y,s,rfl,hs,rfl⟩
 have r109:=S109.call (P:=Tryd.prog) h109 (m:=m) (w:=w) ⟨x,n,y,s,rfl,hs,rfl⟩
 have r110:=S110.call (P:=Tryd.prog) h110 (m:=m) (w:=w) ⟨x,n,y,s,rfl,hs,rfl⟩
 simp only [dayC,numC] at g4 g7 r107 r108 r109 r110
 refine wp_roundsY (fun j t' w'=>w'=w∧KeepT t t'∧tget t' 35=.agg ⟨[funQ 107,funQ 108,funQ 109,funQ 110]⟩∧tget t' 36=.int .i64 (j:Nat)∧j≤4∧qk x n y s j) 20 (by decide) ⟨rfl,⟨rfl,rfl,rfl,rfl,rfl,rfl,rfl⟩,t35,by simpa using t36,by omega,by unfold qk; omega⟩ ?_
 clear t35 t36
 rintro j t' w' ⟨rfl,hk,t35,t36,hj,hq⟩
 have u4:tget t' 4=.pointer (some ⟨n4,0,none⟩):=by rw [hk.k4,t4]
 have u7:tget t' 7=.pointer (some ⟨n7,0,none⟩):=by rw [hk.k7,t7]
 have wr (k:Int) (h:0≤k∧k≤4):IntKind.wrap .i64 (k + 1)=k + 1:=wrap64_in (by omega) (by omega)
 obtain ⟨z1,z2,z3,z4⟩:=hq
 rcases j with _ | _ | _ | _ | _ | j
 ·have t36:tget t' 36=.int .i64 0:=by simpa using t36
  cases hb:q0 x y with
  | false =>
   rw [hb] at r107
   simp [mc98_l1,t35,t36,u4,u7,g4,g7,r107]
   exact hQ0 (by simp [fit_q,hb]) _ ⟨by simp [hk.k0],by simp [hk.k1],by simp [hk.k4],by simp [hk.k7],by simp [hk.k25],by simp [hk.k26],by simp [hk.k27]⟩
  | true =>
   rw [hb] at r107
   have e:=wr 0 (by omega)
   simp [mc98_l1,t35,t36,u4,u7,g4,g7,r107]
   exact ⟨⟨by simp [hk.k0],by simp [hk.k1],by simp [hk.k4],by simp [hk.k7],by simp [hk.k25],by simp [hk.k26],by simp [hk.k27]⟩,by decide,fun _=>hb,fun h=>by omega,fun h=>by omega,fun h=>by omega⟩
 ·have t36:tget t' 36=.int .i64 1:=by simpa using t36
  cases hb:q1 x y with
  | false =>
   rw [hb] at r108
   simp [mc98_l1,t35,t36,u4,u7,g4,g7,r108]
   exact hQ0 (by simp [fit_q,hb]) _ ⟨by simp [hk.k0],by simp [hk.k1],by simp [hk.k4],by simp [hk.k7],by simp [hk.k25],by simp [hk.k26],by simp [hk.k27]⟩
  | true =>
   rw [hb] at r108
   simp [mc98_l1,t35,t36,u4,u7,g4,g7,r108]
   exact ⟨⟨by simp [hk.k0],by simp [hk.k1],by simp [hk.k4],by simp [hk.k7],by simp [hk.k25],by simp [hk.k26],by simp [hk.k27]⟩,by decide,fun _=>z1 (by omega),fun _=>hb,fun h=>by omega,fun h=>by omega⟩
 ·have t36:tget t' 36=.int .i64 2:=by simpa using t36
  cases hb:q2 x n s with
  | false =>
   rw [hb] at r109
   simp [mc98_l1,t35,t36,u4,u7,g4,g7,r109]
   exact hQ0 (by simp [fit_q,hb]) _ ⟨by simp [hk.k0],by simp [hk.k1],by simp [hk.k4],by simp [hk.k7],by simp [hk.k25],by simp [hk.k26],by simp [hk.k27]⟩
  | true =>
   rw [hb] at r109
   simp [mc98_l1,t35,t36,u4,u7,g4,g7,r109]
   exact ⟨⟨by simp [hk.k0],by simp [hk.k1],by simp [hk.k4],by simp [hk.k7],by simp [hk.k25],by simp [hk.k26],by simp [hk.k27]⟩,by decide,fun _=>z1 (by omega),fun _=>z2 (by omega),fun _=>hb,fun h=>by omega⟩
 ·have t36:tget t' 36=.int .i64 3:=by simpa using t36
  cases hb:q3 x n s with
  | false =>
   rw [hb] at r110
   simp [mc98_l1,t35,t36,u4,u7,g4,g7,r110]
   exact hQ0 (by simp [fit_q,hb]) _ ⟨by simp [hk.k0],by simp [hk.k1],by simp [hk.k4],by simp [hk.k7],by simp [hk.k25],by simp [hk.k26],by simp [hk.k27]⟩
  | true =>
   rw [hb] at r110
   simp [mc98_l1,t35,t36,u4,u7,g4,g7,r110]
   exact ⟨⟨by simp [hk.k0],by simp [hk.k1],by simp [hk.k4],by simp [hk.k7],by simp [hk.k25],by simp [hk.k26],by simp [hk.k27]⟩,by decide,fun _=>z1 (by omega),fun _=>z2 (by omega),fun _=>z3 (by omega),fun _=>hb⟩
 ·have t36:tget t' 36=.int .i64 4:=by simpa using t36
  have hf:fitB x n y s=true:=by rw [fit_q,z1 (by omega),z2 (by omega),z3 (by omega),z4 (by omega)]; rfl
  simp [mc98_l1,t35,t36]
  exact hQ1 hf _ ⟨by simp [hk.k0],by simp [hk.k1],by simp [hk.k4],by simp [hk.k7],by simp [hk.k25],by simp [hk.k26],by simp [hk.k27]⟩
 ·omega
structure In98 (we:AW) (L c6:Nat) (lp:ALoop) (s:Stg) (w:AW):Prop where
 lo:w.heap.get L=some (.loop lp)
 cur:w.heap.get c6=some (.cells (stgC s) 86 false)
 old:∀ x,x < we.next→x ≠ L→x ≠ c6→w.heap.get x=we.heap.get x
 next:we.next≤w.next
 lim:w.lim=we.lim
theorem In98.up {we:AW} {L c6:Nat} {lp:ALoop} {s:Stg} {w w':AW} (h:In98 we L c6 lp s w) (hL:L < we.next) (hc:c6 < we.next) (u:Up w w'):In98 we L c6 lp s w' :=
 ⟨by rw [u.at (by have:=h.next; omega)]; exact h.lo,by rw [u.at (by have:=h.next; omega)]; exact h.cur,fun x h1 h2 h3=>by rw [u.at (by have:=h.next; omega)]; exact h.old x h1 h2 h3,Nat.le_trans h.next u.next,by rw [u.lim,h.lim]⟩
def StepA (ov:Ov) (m L c6:Nat) (we:AW) (a:Int) (s:Stg) (lp lq:ALoop):Prop :=
 ∀ (s':Stg) (w:AW),In98 we L c6 lp s w→∃ w',yieldA (run Tryd.prog ov m) L [.agg ⟨stgC s'⟩] w=.val (!decide (s'.last=a)) w'∧In98 we L c6 (if s'.last=a then lq else lp) (if s'.last=a then s' else s) w'
def actAt (r:List CAct) (a:Int):Option CAct:=if 0≤a then r[a.toNat]? else none
set_option maxHeartbeats 1000000 in
theorem loop98 {ov:Ov} (m L c6:Nat) (ho99:∀ args w,ov 99 args w=none) (h100:HasP ov 100 S100.F) (h107:HasP ov 107 S107.F) (h108:HasP ov 108 S108.F) (h109:HasP ov 109 S109.F) (h110:HasP ov 110 S110.F) (r:List CAct) (hR:ruleB r=true) (y:CDay) (s:Stg) (hs:FineS s) (a:Int) (w0 we:AW) (u0:Up w0 we) (hL:w0.next≤L∧L < we.next) (hc6:w0.next≤c6∧c6 < we.next) (rv:Value) (hrv:RowsV actC w0 rv r)
  (n1 n4:Nat) (hn1:n1 < we.next∧n1 ≠ L∧n1 ≠ c6) (hn4:n4 < we.next∧n4 ≠ L∧n4 ≠ c6) (g1:we.heap.get n1=some (.cells (stgC s) 86 false)) (g4:we.heap.get n4=some (.cells (dayC y s) 149 false)) (hlim:we.lim≤we.next) (sc:Stg) (lp lq:ALoop) (hst:StepA ov (m + 1) L c6 we a sc lp lq)
  (Q:Ex→Tm→AW→Prop) (t:Tm) (w:AW) (hw:In98 we L c6 lp sc w) (t0:tget t 0=.func (.yield L) ⟨[]⟩ ⟨[]⟩) (t1:tget t 1=.pointer (some ⟨n1,0,none⟩)) (t4:tget t 4=.pointer (some ⟨n4,0,none⟩)) (t25:tget t 25=rv) (t26:tget t 26=.int .i64 (r.length:Nat)) (t27:tget t 27=.int .i64 0)
  (hno:∀ t w,In98 we L c6 lp sc w→(∀ x,actAt r a=some x→fitB x a y s=false)→Q (.exit 0) t w)
  (hyes:∀ t w x,actAt r a=some x→fitB x a y s=true→In98 we L c6 lq (withS s x a) w→Q .ret t w):wp (exY Tryd.prog (run Tryd.prog ov (m + 1)) (.loop mc98_l0) t w) Q:=by
 have hrl:=rule_len hR
 refine wp_roundsY (fun i t w=>In98 we L c6 lp sc w∧tget t 0=.func (.yield L) ⟨[]⟩ ⟨[]⟩∧tget t 1=.pointer (some ⟨n1,0,none⟩)∧tget t 4=.pointer (some ⟨n4,0,none⟩)∧tget t 25=rv∧tget t 26=.int .i64 (r.length:Nat)∧tget t 27=.int .i64 (i:Nat)∧i≤r.length∧∀ j x,j < i→r[j]?=some x→(j:Int)=a→fitB x a y s=false) 20 (by decide) ⟨hw,t0,t1,t4,t25,t26,by simpa using t27,by omega,fun j x h=>by omega⟩ ?_
 clear t0 t1 t4 t25 t26 t27 hw
 rintro i t w ⟨hw,t0,t1,t4,t25,t26,t27,hi,hnf⟩
 by_cases hlt:i < r.length
 ·obtain ⟨x,hx⟩:∃ p,r[i]?=some p:=⟨_,List.getElem?_eq_getElem hlt⟩
  have hfa:=fineA_of hR hx
  obtain ⟨b,off,sq,c,rfl,hra⟩:=hrv.at_ i hlt
  have hb:=hra.2
  have hnx:=hw.next
  have hun:=u0.next
  have hlm:=hw.lim
  have hld:=hra.rd actC_length hx
  rw [← u0.at hb,← hw.old b (by omega) (by omega) (by omega)] at hld
  have hia:=fun w=>ia22 w ⟨b,off,sq⟩ r.length c .i64 i hlt
  have hw1:IntKind.wrap .i64 ((i:Int) + 1)=(i:Int) + 1:=wrap64_in (by omega) (by omega)
  obtain ⟨x,rfl⟩:∃ x',x=x':=⟨_,rfl⟩
  have lw:w.lim≤w.next:=by omega
  have lw1:w.lim≤w.next + 1:=by omega
  obtain ⟨cs,hcs⟩:∃ cs,cs=actC x:=⟨_,rfl⟩
  simp only [actC] at hld
  obtain ⟨_,w3,c99,rfl,u3⟩:=call99 (ov:=ov) m ho99 ⟨(((w.heap.put w.next (some (.cells [.int .i64 0,.int .i64 0,.bool false,.bool false,.int .i64 0,.int .i64 0,.int .i64 0] 78 false))).put w.next (some (.cells [.int .i64 x.warm,.int .i64 x.behind,.bool x.dry,.bool x.first,.int .i64 x.most,.int .i64 x.ll,.int .i64 x.lh] 78 false))).put (w.next + 1) (some (.cells [.int .i64 0,.int .i64 0,.bool false,.bool false,.int .i64 0,.int .i64 0,.int .i64 0,.int .i64 0] 151 false))).put (w.next + 1) (some (.cells [.int .i64 x.warm,.int .i64 x.behind,.bool x.dry,.bool x.first,.int .i64 x.most,.int .i64 x.ll,.int .i64 x.lh,.int .i64 (i:Nat)] 151 false)),w.next + 1 + 1,w.lim⟩ (by show w.lim≤w.next + 1 + 1; omega)
  have u2:Up w w3:=Up.trans (((((Up.refl w).add _).put (Nat.le_refl _) (Nat.le_refl _)).add _).put (by show w.next≤w.next + 1; omega) (Nat.le_refl _)) u3
  have hI3:=hw.up hL.2 hc6.2 u2
  have g7:w3.heap.get (w.next + 1)=some (.cells (numC x i) 151 false):=by
   rw [u3.at (by show w.next + 1 < w.next + 1 + 1; omega)]
   show (((((w.heap.put _ _).put _ _).put _ _).put _ _).get _)=_
   rw [get_put,if_pos rfl]; rfl
  have hn3:=hI3.next
  have hl3:=hI3.lim
  have g43:w3.heap.get n4=some (.cells (dayC y s) 149 false):=by rw [hI3.old n4 hn4.1 hn4.2.1 hn4.2.2]; exact g4
  have g13:w3.heap.get n1=some (.cells (stgC s) 86 false):=by rw [hI3.old n1 hn1.1 hn1.2.1 hn1.2.2]; exact g1
  simp [mc98_l0,t0,t1,t4,t25,t26,t27,hlt,hia,hld,lw,lw1,c99]
  generalize hTT:tset _ 36 _=TT
  have v0:tget TT 0=.func (.yield L) ⟨[]⟩ ⟨[]⟩:=by rw [← hTT]; simp [t0]
  have v1:tget TT 1=.pointer (some ⟨n1,0,none⟩):=by rw [← hTT]; simp [t1]
  have v4:tget TT 4=.pointer (some ⟨n4,0,none⟩):=by rw [← hTT]; simp [t4]
  have v7:tget TT 7=.pointer (some ⟨w.next + 1,0,none⟩):=by rw [← hTT]; simp
  have v25:tget TT 25=.slice (some ⟨b,off,sq⟩) r.length c:=by rw [← hTT]; simp [t25]
  have v26:tget TT 26=.int .i64 (r.length:Nat):=by rw [← hTT]; simp [t26]
  have v27:tget TT 27=.int .i64 (i:Nat):=by rw [← hTT]; simp [t27]
  have v35:tget TT 35=.agg ⟨[funQ 107,funQ 108,funQ 109,funQ 110]⟩:=by rw [← hTT]; simp
  have v36:tget TT 36=.int .i64 0:=by rw [← hTT]; simp
  clear hTT
  refine wp_seqX (wp_blockX (wp_seqX (wp_blockX (inner98 m h107 h108 h109 h110 x (i:Nat) y s hs n4 (w.next + 1) _ TT w3 g43 g7 v4 v7 v35 v36 ?_ ?_))))
  ·intro hf t' hk
   simp [hk.k0,hk.k1,hk.k4,hk.k25,hk.k26,hk.k27,v0,v1,v4,v25,v26,v27,hw1]
   refine ⟨by omega,hI3,hlt,fun j z hj hz e=>?_⟩
   by_cases hji:j=i
   ·subst hji
    rw [hx] at hz; cases hz
    rw [← e]; exact hf
   ·exact hnf j z (by omega) hz e
  ·intro hf t' hk
   have r100:=S100.call (P:=Tryd.prog) h100 (m:=m) (w:=w3) ⟨s,x,(i:Nat),rfl,hs,hfa,by omega,rfl⟩
   obtain ⟨w4,hy,hI4⟩:=hst (withS s x (i:Nat)) w3 hI3
   have e:(withS s x (i:Nat)).last=(i:Int):=rfl
   rw [e] at hy hI4
   have k0:=hk.k0; have k1:=hk.k1; have k7:=hk.k7
   rw [v0] at k0; rw [v1] at k1; rw [v7] at k7
   have g73:=g7
   simp only [numC] at g73 r100
   have g13':=g13
   generalize hS:stgC (withS s x (i:Nat))=SS at r100 hy
   simp only [stgC] at g13' r100
   by_cases ha:(i:Int)=a
   ·simp only [ha,if_true] at hI4
    have e2:actAt r a=some x:=by
     unfold actAt; rw [if_pos (by omega),show a.toNat=i by omega]; exact hx
    simp only [decide_eq_true ha] at hy
    simp [k0,k1,k7,g13',g73,r100,hy]
    exact hyes _ _ x e2 (by rw [← ha]; exact hf) (by rw [← ha] at hI4 ⊢; exact hI4)
   ·rw [if_neg ha,if_neg ha] at hI4
    simp only [decide_eq_false ha] at hy
    simp [k0,k1,k7,g13',g73,r100,hy,hk.k4,hk.k25,hk.k26,hk.k27,v4,v25,v26,v27,hw1]
    refine ⟨by omega,hI4,hlt,fun j z hj hz e3=>?_⟩
    by_cases hji:j=i
    ·subst hji; exact absurd e3 ha
    ·exact hnf j z (by omega) hz e3
 ·have hi':i=r.length:=by omega
  subst hi'
  simp [mc98_l0,t26,t27]
  refine hno _ _ hw fun x hx=>?_
  unfold actAt at hx
  by_cases h0:0≤a
  ·rw [if_pos h0] at hx
   exact hnf a.toNat x (List.getElem?_eq_some_iff.1 hx).1 hx (by omega)
  ·rw [if_neg h0] at hx; cases hx
theorem In98.down {we we1:AW} {L c6:Nat} {lp:ALoop} {s:Stg} {w:AW} (h:In98 we1 L c6 lp s w) (u:Up we we1):In98 we L c6 lp s w :=
 ⟨h.lo,h.cur,fun x h1 h2 h3=>by rw [h.old x (by have:=u.next; omega) h2 h3,u.at h1],Nat.le_trans u.next h.next,by rw [h.lim,u.lim]⟩
theorem next_some {r:List CAct} {d:List CDay} {s:Stg} {a:Int} {x:CAct} {y:CDay} (hd:d[s.done.toNat]?=some y) (hx:actAt r a=some x) (hf:fitB x a y s=true):nextS r d s a=some (withS s x a):=by
 unfold actAt at hx
 unfold nextS
 rw [hd,hx]; simp [hf]
theorem next_none {r:List CAct} {d:List CDay} {s:Stg} {a:Int} {y:CDay} (hd:d[s.done.toNat]?=some y) (h:∀ x,actAt r a=some x→fitB x a y s=false):nextS r d s a=none:=by
 unfold nextS
 rw [hd]
 unfold actAt at h
 cases hx:(if 0≤a then r[a.toNat]? else none) with
 | none=>rfl
 | some x=>simp [h x hx]
set_option maxHeartbeats 1000000 in
theorem call98 {ov:Ov} (m L c6:Nat) (ho:∀ args w,ov 98 args w=none) (ho99:∀ args w,ov 99 args w=none) (h100:HasP ov 100 S100.F) (h107:HasP ov 107 S107.F) (h108:HasP ov 108 S108.F) (h109:HasP ov 109 S109.F) (h110:HasP ov 110 S110.F) (r:List CAct) (d:List CDay) (hR:ruleB r=true) (s:Stg) (hs:FineS s) (k:Nat) (hk:s.done=(k:Nat)) (hkd:k≤d.length) (a:Int) (w0 we:AW) (u0:Up w0 we) (hL:w0.next≤L∧L < we.next) (hc6:w0.next≤c6∧c6 < we.next) (rv dv:Value) (hrv:RowsV actC w0 rv r) (hdv:RowsV cdayC w0 dv d)
  (n1 n2:Nat) (hn1:n1 < we.next∧n1 ≠ L∧n1 ≠ c6) (hn2:n2 < we.next∧n2 ≠ L∧n2 ≠ c6) (g1:we.heap.get n1=some (.cells (stgC s) 86 false)) (g2:we.heap.get n2=some (.cells [rv,dv] 89 false)) (hlim:we.lim≤we.next) (sc:Stg) (lp lq:ALoop) (hlo:we.heap.get L=some (.loop lp)) (hcur:we.heap.get c6=some (.cells (stgC sc) 86 false)) (hst:∀ w1,Up we w1→StepA ov (m + 1) L c6 w1 a sc lp lq) :
  ∃ v w',(run Tryd.prog ov (m + 2)).call 98 [.func (.yield L) ⟨[]⟩ ⟨[]⟩,.pointer (some ⟨n1,0,none⟩),.pointer (some ⟨n2,0,none⟩)] we .none=.ok (.ret v) w' .none∧(match nextS r d s a with | some s'=>In98 we L c6 lq s' w' | none=>In98 we L c6 lp sc w'):=by
 refine call_wpY text98 (by simp) (ho _ _) ?_
 have hl1:=fun w2=>len22V (w':=w2) hrv
 have hl2:=fun w2=>len23V (w':=w2) hdv
 have hIe:In98 we L c6 lp sc we:=⟨hlo,hcur,fun _ _ _ _=>rfl,Nat.le_refl _,rfl⟩
 have g1':=g1
 simp only [stgC,hk] at g1'
 by_cases hlt:k < d.length
 ·obtain ⟨y,hy⟩:∃ p,d[k]?=some p:=⟨_,List.getElem?_eq_getElem hlt⟩
  have hy':d[s.done.toNat]?=some y:=by rw [hk]; simpa using hy
  obtain ⟨b,off,sq,c,rfl,hra⟩:=hdv.at_ k hlt
  have hb:=hra.2
  have hun:=u0.next
  have hld:=hra.rd cdayC_length hy
  rw [← u0.at hb] at hld
  have hia:=fun w=>ia23 w ⟨b,off,sq⟩ d.length c .i64 k hlt
  have e1:¬ (k:Int)=d.length:=by omega
  have e2:¬ k=d.length:=by omega
  have ne1:¬ n1=we.next:=by omega
  have ne2:¬ n2=we.next:=by omega
  have neb:¬ b=we.next:=by omega
  have nj:sameVal 5 rv rv=true∧notJunk rv=some rv:=by
   obtain ⟨p,q,rfl⟩:=hrv.len
   exact ⟨same_slice _ _ _,rfl⟩
  have sm1:sameVal 5 (.agg ⟨[.int .i64 (k:Nat),.int .i64 s.last,.int .i64 s.row,.int .i64 s.lo,.int .i64 s.hi]⟩) (.agg ⟨[.int .i64 (k:Nat),.int .i64 s.last,.int .i64 s.row,.int .i64 s.lo,.int .i64 s.hi]⟩)=true:=same_agg _ (by
   intro v hv
   simp only [List.mem_cons,List.not_mem_nil,or_false] at hv
   rcases hv with rfl | rfl | rfl | rfl | rfl <;> exact sameN_int _ _ _)
  have sm2:sameVal 5 (.agg ⟨[.int .i64 y.wl,.int .i64 y.wh,.bool y.rain]⟩) (.agg ⟨[.int .i64 y.wl,.int .i64 y.wh,.bool y.rain]⟩)=true:=same_agg _ (by
   intro v hv
   simp only [List.mem_cons,List.not_mem_nil,or_false] at hv
   rcases hv with rfl | rfl | rfl
   ·exact sameN_int _ _ _
   ·exact sameN_int _ _ _
   ·cases y.rain <;> rfl)
  simp only [cdayC] at hld
  have u1:Up we ⟨(we.heap.put we.next (some (.cells [.int .i64 0,.int .i64 0,.bool false,.int .i64 0,.int .i64 0,.int .i64 0,.int .i64 0,.int .i64 0] 149 false))).put we.next (some (.cells [.int .i64 y.wl,.int .i64 y.wh,.bool y.rain,.int .i64 (k:Nat),.int .i64 s.last,.int .i64 s.row,.int .i64 s.lo,.int .i64 s.hi] 149 false)),we.next + 1,we.lim⟩:=((Up.refl we).add _).put (Nat.le_refl _) (Nat.le_refl _)
  have gd:(⟨(we.heap.put we.next (some (.cells [.int .i64 0,.int .i64 0,.bool false,.int .i64 0,.int .i64 0,.int .i64 0,.int .i64 0,.int .i64 0] 149 false))).put we.next (some (.cells [.int .i64 y.wl,.int .i64 y.wh,.bool y.rain,.int .i64 (k:Nat),.int .i64 s.last,.int .i64 s.row,.int .i64 s.lo,.int .i64 s.hi] 149 false)),we.next + 1,we.lim⟩:AW).heap.get we.next=some (.cells (dayC y s) 149 false):=by
   show ((we.heap.put _ _).put _ _).get _=_
   rw [get_put,if_pos rfl,dayC,hk]
  have hIu:=hIe.up hL.2 hc6.2 u1
  have hIu':=hIu
  simp [mc98,g1',g2,hl1,hl2,e1,e2,hia,hld,ne1,ne2,neb,nj.1,sm1,sm2,hlim]
  refine wp_blockX (loop98 m L c6 ho99 h100 h107 h108 h109 h110 r hR y s hs a w0 _ (u0.trans u1) ⟨hL.1,by show L < we.next + 1; omega⟩ ⟨hc6.1,by show c6 < we.next + 1; omega⟩ rv hrv n1 we.next ⟨by show n1 < we.next + 1; omega,hn1.2⟩ ⟨Nat.lt_succ_self _,by omega,by omega⟩ (by rw [u1.at hn1.1]; exact g1) gd (by show we.lim≤we.next + 1; omega) sc lp lq (hst _ u1) _ _ _ ⟨hIu.lo,hIu.cur,fun _ _ _ _=>rfl,Nat.le_refl _,rfl⟩ ?_ ?_ ?_ ?_ ?_ ?_ ?_ ?_)
  case _=>simp
  case _=>simp
  case _=>simp
  case _=>simp
  case _=>simp
  case _=>simp
  case _ =>
   intro t w hw hn
   have e:=next_none hy' hn
   have hw':=hw.down u1
   simpa [tupV,e] using hw'
  case _ =>
   intro t w x hx hf hw
   have e:=next_some hy' hx hf
   have hw':=hw.down u1
   simpa [tupV,e] using hw'
 ·have hkl:k=d.length:=by omega
  have e:nextS r d s a=none:=by
   unfold nextS
   rw [hk]; simp [hkl]
  simp [mc98,g1',g2,hl1,hl2,hkl,e,tupV]
  exact hIe
@[simp] theorem setParC_cons (p:Tmp) (ps:List Tmp) (a:Value) (l:List Value) (t:Tm):setParams (p::ps) (a::l) t=setParams ps l (tset t p a):=rfl
@[simp] theorem setParC_nil (t:Tm):setParams [] [] t=t:=rfl
theorem steps51 {ov:Ov} (m L c6 c8:Nat) (TT:Tm) (t6:tget TT 6=.pointer (some ⟨c6,0,none⟩)) (t8:tget TT 8=.pointer (some ⟨c8,0,none⟩)) (a:Int) (s:Stg) (we:AW) (hL:L < we.next) (hc6:c6 < we.next) (hc8:c8 < we.next) (n1:c6 ≠ L) (n2:c8 ≠ L) (n3:c8 ≠ c6) (g8:we.heap.get c8=some (.cells [.int .i64 a] 3 false)) (l1:we.lim≤c6) (l2:we.lim≤L) :
  StepA ov (m + 1) L c6 we a s ⟨29,TT,[20],(rfOf Tryd.prog 51 0).1,(rfOf Tryd.prog 51 0).2,none,.ready⟩ ⟨29,TT,[20],(rfOf Tryd.prog 51 0).1,(rfOf Tryd.prog 51 0).2,some (.exit 1),.done⟩:=by
 intro s' w hw
 have hlo:=hw.lo
 have hnx:=hw.next
 have hlm:=hw.lim
 have g8w:w.heap.get c8=some (.cells [.int .i64 a] 3 false):=by rw [hw.old c8 hc8 n2 n3]; exact g8
 have hcur:=hw.cur
 have e1:¬ L=w.next:=by omega
 have e2:¬ c6=w.next:=by omega
 have e3:¬ c8=w.next:=by omega
 have e1':¬ w.next=L:=by omega
 have e2':¬ w.next=c6:=by omega
 have l1':w.lim≤c6:=by omega
 have l2':w.lim≤L:=by omega
 have l3:w.lim≤w.next:=by omega
 have n1':=Ne.symm n1
 have n2':=Ne.symm n2
 simp only [stgC] at hcur
 obtain ⟨C,hC⟩:∃ C:AObj,C=.cells [.int .i64 s'.done,.int .i64 s'.last,.int .i64 s'.row,.int .i64 s'.lo,.int .i64 s'.hi] 86 false:=⟨_,rfl⟩
 obtain ⟨j,w',hy,hQ⟩:=yield_wp (P:=Tryd.prog) (ov:=ov) (m:=m) (l:=L) (args:=[.agg ⟨stgC s'⟩]) (w:=w) (Q:=fun j w'=>j=(if s'.last=a then some (.exit 1) else none)∧w'=if s'.last=a then ⟨((((w.heap.put w.next (some (.cells [.int .i64 0,.int .i64 0,.int .i64 0,.int .i64 0,.int .i64 0] 86 false))).put w.next (some C)).put L (some (.loop ⟨29,TT,[20],(rfOf Tryd.prog 51 0).1,(rfOf Tryd.prog 51 0).2,none,.busy⟩))).put c6 (some C)).put L (some (.loop ⟨29,TT,[20],(rfOf Tryd.prog 51 0).1,(rfOf Tryd.prog 51 0).2,some (.exit 1),.done⟩)),w.next + 1,w.lim⟩ else ⟨(((w.heap.put w.next (some (.cells [.int .i64 0,.int .i64 0,.int .i64 0,.int .i64 0,.int .i64 0] 86 false))).put w.next (some C)).put L (some (.loop ⟨29,TT,[20],(rfOf Tryd.prog 51 0).1,(rfOf Tryd.prog 51 0).2,none,.busy⟩))).put L (some (.loop ⟨29,TT,[20],(rfOf Tryd.prog 51 0).1,(rfOf Tryd.prog 51 0).2,none,.ready⟩)),w.next + 1,w.lim⟩) hlo rfl rfl ta51_0 tb51_0 (by
  rw [hC]
  simp only [stgC]
  by_cases hm:s'.last=a
  ·simp [mc51_a0,mc51_b0,hlo,jumpOf,t6,t8,g8w,hcur,e1,e2,e3,e1',e2',l1',l2',l3,n1,n2,n3,n1',n2',hm]
  ·simp [mc51_a0,mc51_b0,hlo,jumpOf,t6,t8,g8w,hcur,e1,e2,e3,e1',e2',l1',l2',l3,n1,n2,n3,n1',n2',hm])
 obtain ⟨rfl,hw'⟩:=hQ
 have hd:(if s'.last=a then some (Code.exit 1) else none).isNone=!decide (s'.last=a):=by by_cases hm:s'.last=a <;> simp [hm]
 rw [hd] at hy
 refine ⟨w',hy,?_⟩
 subst hw'
 by_cases hm:s'.last=a
 ·simp only [if_pos hm]
  refine ⟨?_,?_,fun x h1 h2 h3=>?_,by show we.next≤w.next + 1; omega,hlm⟩
  ·show (((((w.heap.put _ _).put _ _).put _ _).put _ _).put _ _).get L=_
   rw [get_put,if_pos rfl]
  ·show (((((w.heap.put _ _).put _ _).put _ _).put _ _).put _ _).get c6=_
   rw [get_put,if_neg n1,get_put,if_pos rfl,hC]; rfl
  ·show (((((w.heap.put _ _).put _ _).put _ _).put _ _).put _ _).get x=_
   rw [get_put,if_neg h2,get_put,if_neg h3,get_put,if_neg h2,get_put,if_neg (by omega),get_put,if_neg (by omega)]
   exact hw.old x h1 h2 h3
 ·simp only [if_neg hm]
  refine ⟨?_,?_,fun x h1 h2 h3=>?_,by show we.next≤w.next + 1; omega,hlm⟩
  ·show ((((w.heap.put _ _).put _ _).put _ _).put _ _).get L=_
   rw [get_put,if_pos rfl]
  ·show ((((w.heap.put _ _).put _ _).put _ _).put _ _).get c6=_
   rw [get_put,if_neg n1,get_put,if_neg n1,get_put,if_neg e2,get_put,if_neg e2]
   exact hw.cur
  ·show ((((w.heap.put _ _).put _ _).put _ _).put _ _).get x=_
   rw [get_put,if_neg h2,get_put,if_neg h2,get_put,if_neg (by omega),get_put,if_neg (by omega)]
   exact hw.old x h1 h2 h3
structure In51 (w0:AW) (rv dv:Value) (s:Stg) (w:AW):Prop where
 up:Up w0 w
 b2:w.heap.get w0.next=some (.cells [rv,dv] 89 false)
 b4:w.heap.get (w0.next + 1)=some (.cells [.int .i64 0,.int .i64 0,.int .i64 0,.int .i64 0,.int .i64 0] 86 false)
 b6:w.heap.get (w0.next + 1 + 1)=some (.cells (stgC s) 86 false)
 next:w0.next + 3≤w.next
def stgR:Option Stg→Value
 | some s=>.tuple ⟨[.agg ⟨stgC s⟩,.bool true]⟩
 | none=>.tuple ⟨[.agg ⟨stgC ⟨0,0,0,0,0⟩⟩,.bool false]⟩
@[simp] theorem cfn98 (w:AW) (l:List Value):callFn Tryd.prog w 98 l=.enter 98 l w:=callFn_of (by kernel_rfl) l
set_option maxHeartbeats 1000000 in
theorem run51 {ov:Ov} (ho:∀ args w,ov 51 args w=none) (ho79:∀ args w,ov 79 args w=none) (ho98:∀ args w,ov 98 args w=none) (ho99:∀ args w,ov 99 args w=none) (h78:HasP ov 78 S78.F) (h100:HasP ov 100 S100.F) (h107:HasP ov 107 S107.F) (h108:HasP ov 108 S108.F) (h109:HasP ov 109 S109.F) (h110:HasP ov 110 S110.F) (r:List CAct) (d:List CDay) (hR:ruleB r=true) (hD:daysB d=true) (acts:List Int) (rv dv av:Value) (w0:AW) (hl:w0.lim=w0.next) (hrv:RowsV actC w0 rv r) (hdv:RowsV cdayC w0 dv d) (hav:RowsV intC w0 av acts) :
  ∃ x w',(run Tryd.prog ov 4).call 51 [.agg ⟨[rv,dv]⟩,av] w0 .none=.ok (.ret x) w' .none∧x=stgR (stgF r d startS acts):=by
 refine call_wpY text51 (by simp) (ho _ _) ?_
 have hl1:=fun w2=>len28V (w':=w2) hav
 have hdl:=days_len hD
 have lw:w0.lim≤w0.next:=by omega
 have lw2:w0.lim≤w0.next + 1 + 1:=by omega
 have r78:=fun w hw=>S78.call (P:=Tryd.prog) h78 (m:=2) (w:=w) ⟨rfl,hw,rfl⟩
 have r78':=r78 ⟨(w0.heap.put w0.next (some (.cells [rv,dv] 89 false))).put (w0.next + 1) (some (.cells [.int .i64 0,.int .i64 0,.int .i64 0,.int .i64 0,.int .i64 0] 86 false)),w0.next + 1 + 1,w0.lim⟩ lw2
 simp only [stgC,startS] at r78'
 simp [mc51,cellsOf_agg,r78',lw2,hl1]
 refine wp_seqX (wp_blockX (wp_roundsY (fun i t w=>∃ s,In51 w0 rv dv s w∧stgF r d startS (acts.take i)=some s∧tget t 2=.pointer (some ⟨w0.next,0,none⟩)∧tget t 4=.pointer (some ⟨w0.next + 1,0,none⟩)∧tget t 6=.pointer (some ⟨w0.next + 1 + 1,0,none⟩)∧tget t 11=av∧tget t 12=.int .i64 (acts.length:Nat)∧tget t 13=.int .i64 (i:Nat)∧i≤acts.length) 20 (by decide) ?_ ?_))
 ·refine ⟨startS,⟨((((Up.refl w0).add _).put (by omega) (Nat.le_succ _)).put (by omega) (Nat.le_succ _)).put (by omega) (Nat.le_refl _),by simp,by simp,by simp [stgC,startS],by show w0.next + 3≤w0.next + 1 + 1 + 1; omega⟩,by simp [stgF],by simp,by simp,by simp,by simp,by simp,by simp,by omega⟩
 ·rintro i t w ⟨s,hw,hs,t2,t4,t6,t11,t12,t13,hi⟩
  have hsn:=stg_can (d:=d) hR acts i hi
  obtain ⟨hok⟩:Nonempty (StOk r (acts.take i) s):=by
   rcases hsn with ⟨h1,_⟩ | ⟨s',h1,_,h3⟩
   ·rw [hs] at h1; cases h1
   ·rw [hs] at h1; cases h1; exact ⟨h3⟩
  have hid:i≤d.length:=by
   have:=stg_len hR hs
   rw [List.length_take,Nat.min_eq_left hi] at this; exact this
  have hf:FineS s:=fine_of hok (by rw [List.length_take]; omega)
  have hdone:s.done=(i:Nat):=by rw [hok.done,List.length_take,Nat.min_eq_left hi]
  have hup:=hw.up
  have hnx:=hw.next
  have hlm:w.lim=w0.lim:=hup.lim
  have hb2:=hw.b2; have hb4:=hw.b4; have hb6:=hw.b6
  by_cases hlt:i < acts.length
  ·obtain ⟨a,ha⟩:∃ p,acts[i]?=some p:=⟨_,List.getElem?_eq_getElem hlt⟩
   obtain ⟨b,off,sq,c,rfl,hra⟩:=hav.at_ i hlt
   have hld:=hra.int ha
   rw [← hup.at hra.2] at hld
   have hia:=fun w=>ia28 w ⟨b,off,sq⟩ acts.length c .i64 i hlt
   simp only [Nat.mul_one] at hia
   have hw1:IntKind.wrap .i64 ((i:Int) + 1)=(i:Int) + 1:=wrap64_in (by omega) (by omega)
   have q1:w.lim≤w.next:=by omega
   have q2:¬ w0.next=w.next:=by omega
   have q3:¬ w0.next + 1=w.next:=by omega
   have q4:¬ w0.next + 1 + 1=w.next:=by omega
   obtain ⟨_,_,c79,rfl,rfl⟩:=call79 (ov:=ov) 2 ho79 rv dv s ⟨(w.heap.put w.next (some (.cells [.int .i64 0] 3 false))).put w.next (some (.cells [.int .i64 a] 3 false)),w.next + 1,w.lim⟩
   have hts:acts.take (i + 1)=acts.take i++[a]:=take_snoc ha
   have hstep:stgF r d startS (acts.take (i + 1))=nextS r d s a:=by rw [hts,stgF_snoc,hs]
   simp only [stgC] at hb6 c79
   simp only [Nat.reduceAdd] at c79
   simp [mc51_l0,t2,t4,t6,t11,t12,t13,hlt,hia,hld,q1,q2,q3,q4,hb2,hb6,c79]
   obtain ⟨H,hH⟩:∃ H,H=(((w.heap.put w.next (some (.cells [.int .i64 0] 3 false))).put w.next (some (.cells [.int .i64 a] 3 false))).put (w.next + 1) (some (.cells [rv,dv] 89 false))).put (w.next + 1 + 1) (some (.cells [.int .i64 s.done,.int .i64 s.last,.int .i64 s.row,.int .i64 s.lo,.int .i64 s.hi] 86 false)):=⟨_,rfl⟩
   rw [← hH]
   have u2:Up w ⟨H,w.next + 1 + 2,w.lim⟩:=by
    rw [hH]
    exact ((((Up.refl w).add _).put (Nat.le_refl _) (Nat.le_refl _)).put (n':=w.next + 1 + 1) (Nat.le_succ _) (Nat.le_succ _)).put (by show w.next≤w.next + 1 + 1; omega) (Nat.le_succ _)
   have gH8:H.get w.next=some (.cells [.int .i64 a] 3 false):=by rw [hH,get_put,if_neg (by omega),get_put,if_neg (by omega),get_put,if_pos rfl]
   have gH1:H.get (w.next + 1 + 1)=some (.cells (stgC s) 86 false):=by rw [hH,get_put,if_pos rfl]; rfl
   have gH2:H.get (w.next + 1)=some (.cells [rv,dv] 89 false):=by rw [hH,get_put,if_neg (by omega),get_put,if_pos rfl]
   clear hH
   refine wp_seqX (wp_blockX (wp_seqX (wp_blockX (rf_wp (g:=98) (gargs:=[.func (.yield (w.next + 1 + 2)) ⟨[]⟩ ⟨[]⟩,.pointer (some ⟨w.next + 1 + 1,0,none⟩),.pointer (some ⟨w.next + 1,0,none⟩)]) ?_ ?_))))
   ·simp [fun98,callV_func]
   ·generalize hTT:tset _ 19 _=TT
    have v2:tget TT 2=.pointer (some ⟨w0.next,0,none⟩):=by rw [← hTT]; simp [t2]
    have v4:tget TT 4=.pointer (some ⟨w0.next + 1,0,none⟩):=by rw [← hTT]; simp [t4]
    have v6:tget TT 6=.pointer (some ⟨w0.next + 1 + 1,0,none⟩):=by rw [← hTT]; simp [t6]
    have v8:tget TT 8=.pointer (some ⟨w.next,0,none⟩):=by rw [← hTT]; simp
    have v11:tget TT 11=.slice (some ⟨b,off,sq⟩) acts.length c:=by rw [← hTT]; simp [t11]
    have v12:tget TT 12=.int .i64 (acts.length:Nat):=by rw [← hTT]; simp [t12]
    have v13:tget TT 13=.int .i64 (i:Nat):=by rw [← hTT]; simp [t13]
    clear hTT
    obtain ⟨lp,hlp⟩:∃ lp:ALoop,lp=⟨29,TT,[20],(rfOf Tryd.prog 51 0).1,(rfOf Tryd.prog 51 0).2,none,.ready⟩:=⟨_,rfl⟩
    obtain ⟨lq,hlq⟩:∃ lp:ALoop,lp=⟨29,TT,[20],(rfOf Tryd.prog 51 0).1,(rfOf Tryd.prog 51 0).2,some (.exit 1),.done⟩:=⟨_,rfl⟩
    rw [← hlp]
    have hwe:∀ x,x < w.next + 1 + 2→(H.put (w.next + 1 + 2) (some (.loop lp))).get x=H.get x:=fun x hx=>by rw [get_put,if_neg (by omega)]
    have u3:Up w ⟨H.put (w.next + 1 + 2) (some (.loop lp)),w.next + 1 + 2 + 1,w.lim⟩:=u2.add _
    have hb6':w.heap.get (w0.next + 1 + 1)=some (.cells (stgC s) 86 false):=hw.b6
    obtain ⟨v9,w2,hc98,hI⟩:=call98 1 (w.next + 1 + 2) (w0.next + 1 + 1) ho98 ho99 h100 h107 h108 h109 h110 r d hR s hf i hdone hid a w0 _ (hup.trans u3) ⟨by omega,by show w.next + 1 + 2 < w.next + 1 + 2 + 1; omega⟩ ⟨by omega,by show w0.next + 1 + 1 < w.next + 1 + 2 + 1; omega⟩ rv dv hrv hdv (w.next + 1 + 1) (w.next + 1) ⟨by show w.next + 1 + 1 < w.next + 1 + 2 + 1; omega,by omega,by omega⟩ ⟨by show w.next + 1 < w.next + 1 + 2 + 1; omega,by omega,by omega⟩ (by show (H.put _ _).get _=_; rw [hwe _ (by omega)]; exact gH1) (by show (H.put _ _).get _=_; rw [hwe _ (by omega)]; exact gH2) (by show w.lim≤w.next + 1 + 2 + 1; omega) s lp lq (by show (H.put _ _).get _=_; rw [get_put,if_pos rfl]) (by rw [u3.at (by omega)]; exact hb6') (fun w1 u1=>by
     have h1:w.next + 1 + 2 + 1≤w1.next:=u1.next
     have h2:w1.lim=w.lim:=u1.lim
     rw [hlp,hlq]
     exact steps51 1 (w.next + 1 + 2) (w0.next + 1 + 1) w.next TT v6 v8 a s w1 (by omega) (by omega) (by omega) (by omega) (by omega) (by omega) (by rw [u1.at (by show w.next < w.next + 1 + 2 + 1; omega)]; show (H.put _ _).get _=_; rw [hwe _ (by omega)]; exact gH8) (by omega) (by omega))
    cases hns:nextS r d s a with
    | none =>
     rw [hns] at hI hstep
     have hn2:w.next + 1 + 2 + 1≤w2.next:=hI.next
     have hl2:w2.lim=w.lim:=hI.lim
     have hN:stgF r d startS acts=none:=by
      have:=stgF_none (bs:=acts.drop (i + 1)) hstep
      rwa [List.take_append_drop] at this
     refine ⟨v9,w2,hc98,lp,hI.lo,by rw [hlp]; rfl,by show w2.lim≤w.next + 1 + 2; omega,?_⟩
     have hp:lp.pending=none:=by rw [hlp]
     rw [hp]
     simp only
     generalize hH2:w2.heap.put (w.next + 1 + 2) _=H2
     have g4:H2.get (w0.next + 1)=some (.cells [.int .i64 0,.int .i64 0,.int .i64 0,.int .i64 0,.int .i64 0] 86 false):=by
      rw [← hH2,get_put,if_neg (by omega),hI.old _ (by show w0.next + 1 < w.next + 1 + 2 + 1; omega) (by omega) (by omega),u3.at (by omega)]; exact hb4
     have q5:w2.lim≤w0.next + 1:=by omega
     simp [v4,g4,q5,hN,stgR,stgC,tupV]
    | some s' =>
     rw [hns] at hI hstep
     have hn2:w.next + 1 + 2 + 1≤w2.next:=hI.next
     have hl2:w2.lim=w.lim:=hI.lim
     refine ⟨v9,w2,hc98,lq,hI.lo,by rw [hlq]; rfl,by show w2.lim≤w.next + 1 + 2; omega,?_⟩
     have hp:lq.pending=some (.exit 1):=by rw [hlq]
     rw [hp]
     simp only
     generalize hH2:w2.heap.put (w.next + 1 + 2) _=H2
     have hk:∀ x,x < w.next→x ≠ w0.next + 1 + 1→H2.get x=w.heap.get x:=fun x hx h=>by
      rw [← hH2,get_put,if_neg (by omega),hI.old _ (by show x < w.next + 1 + 2 + 1; omega) (by omega) h,u3.at hx]
     have g6:H2.get (w0.next + 1 + 1)=some (.cells (stgC s') 86 false):=by
      rw [← hH2,get_put,if_neg (by omega)]; exact hI.cur
     simp [v2,v4,v6,v11,v12,v13,hw1]
     refine ⟨by omega,s',⟨⟨fun x hx=>?_,by show w0.next≤w2.next; omega,by show w2.lim=w0.lim; omega⟩,?_,?_,g6,by show w0.next + 3≤w2.next; omega⟩,hstep,hlt⟩
     ·show H2.get x=_
      rw [hk x (by omega) (by omega)]; exact hup.old x hx
     ·show H2.get _=_
      rw [hk _ (by omega) (by omega)]; exact hb2
     ·show H2.get _=_
      rw [hk _ (by omega) (by omega)]; exact hb4
  ·have hi':i=acts.length:=by omega
   subst hi'
   rw [List.take_length] at hs
   have q5:w.lim≤w0.next + 1:=by omega
   have q6:¬ w0.next + 1=w0.next + 1 + 1:=by omega
   simp only [stgC] at hb6
   simp [mc51_l0,t2,t4,t6,t12,t13,hb4,hb6,q5,hs,stgR,stgC,tupV]
end Go.Proofs.YtnmamelclmfplaaDoor.walk
