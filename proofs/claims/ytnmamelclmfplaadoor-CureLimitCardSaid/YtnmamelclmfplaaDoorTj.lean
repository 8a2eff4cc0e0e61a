/- Part of a proof: see the text with the theorem. -/
import Derived.Test.YtnmamelclmfplaaDoorTd
import Derived.Test.YtnmamelclmfplaaDoorTi
import Derived.Test.YtnmamelclmfplaaDoorTe
import Derived.Test.YtnmamelclmfplaaDoorTh
import Derived.Test.YtnmamelclmfplaaDoorShF
import Derived.Test.YtnmamelclmfplaaDoorTf
set_option linter.all false
namespace Go.Proofs.YtnmamelclmfplaaDoor.walk
open Go Go.Sh
set_option maxRecDepth 100000
section
variable (r:List CAct) (d:List CDay)
def minA (f:Stg→Int) (s:Stg):Nat→Int
 | 0=>15
 | i + 1=>match nextS r d s ((i:Nat):Int) with
  | some s'=>min (minA f s i) (1 + f s')
  | none=>minA f s i
def leftG (so:Stg→Bool):Nat→Stg→Int
 | 0,s=>if so s=true then 0 else 15
 | n + 1,s=>if so s=true then 0 else minA r d (leftG so n) s r.length
end
variable {r:List CAct} {d:List CDay} {so:Stg→Bool}
theorem minA_some {f:Stg→Int} {s s':Stg} {i:Nat} (h:nextS r d s ((i:Nat):Int)=some s'):minA r d f s (i + 1)=min (minA r d f s i) (1 + f s'):=by
 show (match nextS r d s ((i:Nat):Int) with | some s'=>min (minA r d f s i) (1 + f s') | none=>minA r d f s i)=_
 rw [h]
theorem minA_none {f:Stg→Int} {s:Stg} {i:Nat} (h:nextS r d s ((i:Nat):Int)=none):minA r d f s (i + 1)=minA r d f s i:=by
 show (match nextS r d s ((i:Nat):Int) with | some s'=>min (minA r d f s i) (1 + f s') | none=>minA r d f s i)=_
 rw [h]
theorem minA_bd {f:Stg→Int} {s:Stg} (hf:∀ s,0≤f s):∀ N,1≤minA r d f s N∧minA r d f s N≤15
 | 0=>by show (1:Int)≤15∧(15:Int)≤15; omega
 | N + 1=>by
  have ih:=minA_bd (f:=f) (s:=s) hf N
  cases h:nextS r d s ((N:Nat):Int) with
  | none=>rw [minA_none h]; exact ih
  | some s' =>
   rw [minA_some h,Int.min_def]
   have:=hf s'
   split <;> omega
theorem minA_le {f:Stg→Int} {s s':Stg} {i:Nat} (h:nextS r d s ((i:Nat):Int)=some s'):∀ N,i < N→minA r d f s N≤1 + f s'
 | 0,hi=>absurd hi (Nat.not_lt_zero _)
 | N + 1,hi=>by
  by_cases e:i=N
  ·subst e
   rw [minA_some h]; exact Int.min_le_right _ _
  ·have ih:=minA_le (f:=f) h N (by omega)
   cases hN:nextS r d s ((N:Nat):Int) with
   | none=>rw [minA_none hN]; exact ih
   | some s2=>rw [minA_some hN]; exact Int.le_trans (Int.min_le_left _ _) ih
theorem minA_att {f:Stg→Int} {s:Stg}:∀ N,minA r d f s N=15∨∃ i s',i < N∧nextS r d s ((i:Nat):Int)=some s'∧minA r d f s N=1 + f s'
 | 0=>.inl rfl
 | N + 1=>by
  have up:(∃ i s',i < N∧nextS r d s ((i:Nat):Int)=some s'∧minA r d f s N=1 + f s')→∃ i s',i < N + 1∧nextS r d s ((i:Nat):Int)=some s'∧minA r d f s N=1 + f s':=fun ⟨i,s',h1,h2⟩=>⟨i,s',by omega,h2⟩
  cases hN:nextS r d s ((N:Nat):Int) with
  | none =>
   rw [minA_none hN]
   exact (minA_att N).imp id up
  | some s2 =>
   rw [minA_some hN,Int.min_def]
   by_cases hle:minA r d f s N≤1 + f s2
   ·rw [if_pos hle]; exact (minA_att N).imp id up
   ·rw [if_neg hle]; exact .inr ⟨N,s2,Nat.lt_succ_self _,hN,rfl⟩
theorem leftG_so {n:Nat} {s:Stg} (h:so s=true):leftG r d so n s=0:=by
 cases n with
 | zero=>show (if so s=true then (0:Int) else 15)=0; rw [if_pos h]
 | succ n=>show (if so s=true then (0:Int) else minA r d (leftG r d so n) s r.length)=0; rw [if_pos h]
theorem leftG_not {n:Nat} {s:Stg} (h:so s=false):leftG r d so (n + 1) s=minA r d (leftG r d so n) s r.length:=by
 show (if so s=true then (0:Int) else minA r d (leftG r d so n) s r.length)=_
 rw [if_neg (by rw [h]; decide)]
theorem leftG_end {s:Stg} (h:so s=false):leftG r d so 0 s=15:=by
 show (if so s=true then (0:Int) else 15)=15
 rw [if_neg (by rw [h]; decide)]
theorem leftG_bd:∀ (n:Nat) (s:Stg),0≤leftG r d so n s∧leftG r d so n s≤15
 | 0,s=>by
  cases h:so s with
  | true=>rw [leftG_so h]; omega
  | false=>rw [leftG_end h]; omega
 | n + 1,s=>by
  cases h:so s with
  | true=>rw [leftG_so h]; omega
  | false =>
   rw [leftG_not h]
   have:=minA_bd (r:=r) (d:=d) (f:=leftG r d so n) (s:=s) (fun s=>(leftG_bd n s).1) r.length
   omega
theorem leftG_zero {n:Nat} {s:Stg} (h:leftG r d so n s=0):so s=true:=by
 cases hs:so s with
 | true=>rfl
 | false =>
  exfalso
  cases n with
  | zero=>rw [leftG_end hs] at h; omega
  | succ n =>
   rw [leftG_not hs] at h
   have:=minA_bd (r:=r) (d:=d) (f:=leftG r d so n) (s:=s) (fun s=>(leftG_bd n s).1) r.length
   omega
theorem next_nat {s s':Stg} {a:Int} (h:nextS r d s a=some s'):∃ i:Nat,a=(i:Int)∧i < r.length:=by
 unfold nextS at h
 by_cases h0:0≤a
 ·rw [if_pos h0] at h
  refine ⟨a.toNat,by omega,?_⟩
  cases hx:r[a.toNat]? with
  | none=>rw [hx] at h; cases hd:d[s.done.toNat]? <;> rw [hd] at h <;> cases h
  | some x=>exact (List.getElem?_eq_some_iff.1 hx).1
 ·rw [if_neg h0] at h
  cases hd:d[s.done.toNat]? <;> rw [hd] at h <;> cases h
theorem stgF_cons {s t:Stg} {a:Int} {bs:List Int} (h:stgF r d s (a::bs)=some t):∃ s',nextS r d s a=some s'∧stgF r d s' bs=some t:=by
 have h:(match nextS r d s a with | some s'=>stgF r d s' bs | none=>none)=some t:=h
 cases hn:nextS r d s a with
 | none=>rw [hn] at h; cases h
 | some s'=>rw [hn] at h; exact ⟨s',rfl,h⟩
theorem left_step {n:Nat} {s s':Stg} {i:Nat} (h:nextS r d s ((i:Nat):Int)=some s') (hi:i < r.length):leftG r d so (n + 1) s≤1 + leftG r d so n s':=by
 cases hs:so s with
 | true=>rw [leftG_so hs]; have:=(leftG_bd (r:=r) (d:=d) (so:=so) n s').1; omega
 | false=>rw [leftG_not hs]; exact minA_le h r.length hi
theorem left_le:∀ {acts:List Int} {n:Nat} {s t:Stg},stgF r d s acts=some t→so t=true→acts.length≤n→leftG r d so n s≤(acts.length:Int)
 | [],n,s,t,h,ht,_=>by
  have:s=t:=Option.some.inj h
  rw [leftG_so (by rw [this]; exact ht)]
  exact Int.le_refl 0
 | a::bs,0,s,t,_,_,hn=>absurd hn (by simp)
 | a::bs,n + 1,s,t,h,ht,hn=>by
  obtain ⟨s',h1,h2⟩:=stgF_cons h
  obtain ⟨i,rfl,hi⟩:=next_nat h1
  have ih:=left_le (n:=n) h2 ht (by rw [List.length_cons] at hn; omega)
  have:=left_step (so:=so) (n:=n) h1 hi
  rw [List.length_cons]
  omega
inductive Pre (r:List CAct) (d:List CDay) (so:Stg→Bool) (n k:Nat):List Int→Stg→Prop
 | nil:Pre r d so n k [] startS
 | snoc {p:List Int} {s s':Stg} {i:Nat}:Pre r d so n k p s→p.length < k→nextS r d s ((i:Nat):Int)=some s'→leftG r d so (n - p.length - 1) s'=(k:Int) - (p.length:Int) - 1→(∀ j:Nat,j < i→∀ s2,nextS r d s ((j:Nat):Int)=some s2→leftG r d so (n - p.length - 1) s2 ≠ (k:Int) - (p.length:Int) - 1)→Pre r d so n k (p++[((i:Nat):Int)]) s'
theorem Pre.stg {n k:Nat} {p:List Int} {s:Stg} (h:Pre r d so n k p s):stgF r d startS p=some s:=by
 induction h with
 | nil=>rfl
 | snoc h1 h2 h3 h4 h5 ih=>rw [stgF_snoc,ih]; exact h3
theorem Pre.le {n k:Nat} {p:List Int} {s:Stg} (h:Pre r d so n k p s):p.length≤k:=by
 cases h with
 | nil=>exact Nat.zero_le _
 | snoc h1 h2 h3 h4 h5=>rw [List.length_append]; exact h2
theorem Pre.left {n k:Nat} {p:List Int} {s:Stg} (h:Pre r d so n k p s) (h0:leftG r d so n startS=(k:Int)):leftG r d so (n - p.length) s=(k:Int) - (p.length:Int):=by
 cases h with
 | nil=>simpa using h0
 | snoc h1 h2 h3 h4 h5 =>
  rw [List.length_append,List.length_singleton]
  rw [Nat.sub_sub] at h4
  rw [h4]
  omega
theorem Pre.lex {n k:Nat} (hk:k≤n) (h0:leftG r d so n startS=(k:Int)) {acts:List Int} {t:Stg} (hs:stgF r d startS acts=some t) (ht:so t=true) (hal:acts.length=k) {p:List Int} {s:Stg} (h:Pre r d so n k p s):(∃ rest,acts=p++rest∧stgF r d s rest=some t)∨∃ (u x y:List Int) (a b:Int),acts=u++a::x∧p=u++b::y∧b < a:=by
 induction h with
 | nil=>exact .inl ⟨acts,rfl,hs⟩
 | @snoc p s s' i h1 h2 h3 h4 h5 ih =>
  rcases ih with ⟨rest,e1,e2⟩ | ⟨u,x,y,a,b,e1,e2,e3⟩
  ·cases rest with
   | nil =>
    exfalso
    rw [e1,List.append_nil] at hal
    omega
   | cons a rest =>
    obtain ⟨s1,k1,k2⟩:=stgF_cons e2
    obtain ⟨j,rfl,hj⟩:=next_nat k1
    by_cases hij:j=i
    ·subst hij
     rw [h3] at k1
     cases Option.some.inj k1
     exact .inl ⟨rest,by rw [e1,List.append_assoc]; rfl,k2⟩
    ·by_cases hlt:j < i
     ·exfalso
      have hrl:p.length + (rest.length + 1)=k:=by rw [← hal,e1,List.length_append,List.length_cons]
      have g1:=left_le (n:=n - p.length - 1) k2 ht (by omega)
      have g2:=h1.left h0
      obtain ⟨m,hm⟩:∃ m,n - p.length=m + 1:=⟨n - p.length - 1,by omega⟩
      have g3:=left_step (so:=so) (n:=m) k1 hj
      rw [hm] at g2 g1
      have hm':n - p.length - 1=m:=by omega
      refine h5 j hlt s1 k1 ?_
      rw [hm']
      rw [show m + 1 - 1=m by omega] at g1
      omega
     ·exact .inr ⟨p,rest,[],(j:Int),(i:Int),e1,rfl,by omega⟩
  ·exact .inr ⟨u,x,y++[((i:Nat):Int)],a,b,e1,by rw [e2,List.append_assoc]; rfl,e3⟩
theorem lex_self:∀ l:List Int,lexL l l=false
 | []=>rfl
 | a::l=>by
  show (if a=a then lexL l l else decide (a < a))=false
  rw [if_pos rfl]; exact lex_self l
theorem lex_gt:∀ (u x y:List Int) (a b:Int),b < a→lexL (u++a::x) (u++b::y)=false
 | [],x,y,a,b,h=>by
  show (if a=b then lexL x y else decide (a < b))=false
  rw [if_neg (by omega),decide_eq_false (by omega)]
 | c::u,x,y,a,b,h=>by
  show (if c=c then lexL (u++a::x) (u++b::y) else decide (c < c))=false
  rw [if_pos rfl]; exact lex_gt u x y a b h
theorem Pre.first {n k:Nat} (hk:k≤n) (h0:leftG r d so n startS=(k:Int)) {p:List Int} {s:Stg} (h:Pre r d so n k p s) (hp:p.length=k) {acts:List Int} {t:Stg} (hs:stgF r d startS acts=some t) (ht:so t=true) (hal:acts.length=k):lexL acts p=false:=by
 rcases h.lex hk h0 hs ht hal with ⟨rest,e,_⟩ | ⟨u,x,y,a,b,e1,e2,e3⟩
 ·have:rest=[]:=by
   rw [e,List.length_append] at hal
   exact List.eq_nil_of_length_eq_zero (by omega)
  rw [e,this,List.append_nil]; exact lex_self p
 ·rw [e1,e2]; exact lex_gt u x y a b e3
theorem Pre.end {n k:Nat} (h0:leftG r d so n startS=(k:Int)) {p:List Int} {s:Stg} (h:Pre r d so n k p s) (hp:p.length=k):so s=true:=by
 have:=h.left h0
 rw [hp] at this
 exact leftG_zero (r:=r) (d:=d) (n:=n - k) (by omega)
theorem Pre.more {n k:Nat} (h15:k < 15) (h0:leftG r d so n startS=(k:Int)) {p:List Int} {s:Stg} (h:Pre r d so n k p s) (hp:p.length < k):p.length < n∧∃ i s',i < r.length∧nextS r d s ((i:Nat):Int)=some s'∧leftG r d so (n - p.length - 1) s'=(k:Int) - (p.length:Int) - 1:=by
 have g:=h.left h0
 cases hs:so s with
 | true=>rw [leftG_so hs] at g; omega
 | false =>
  cases hm:n - p.length with
  | zero=>rw [hm,leftG_end hs] at g; omega
  | succ m =>
   rw [hm,leftG_not hs] at g
   refine ⟨by omega,?_⟩
   rcases minA_att (r:=r) (d:=d) (f:=leftG r d so m) (s:=s) r.length with e | ⟨i,s',h1,h2,h3⟩
   ·omega
   ·exact ⟨i,s',h1,h2,by rw [show m + 1 - 1=m by omega]; omega⟩
end Go.Proofs.YtnmamelclmfplaaDoor.walk
namespace Go.Proofs.YtnmamelclmfplaaDoor.walk
open Go Go.Sh
set_option maxRecDepth 100000
structure Kp (Xc:Nat→Prop) (wb w:AW):Prop where
 keep:∀ x,x < wb.next→¬ Xc x→w.heap.get x=wb.heap.get x
 next:wb.next≤w.next
 lim:w.lim=wb.lim
theorem Kp.refl (Xc:Nat→Prop) (w:AW):Kp Xc w w:=⟨fun _ _ _=>rfl,Nat.le_refl _,rfl⟩
theorem Kp.up {Xc:Nat→Prop} {wb w w':AW} (h:Kp Xc wb w) (u:Up w w'):Kp Xc wb w' :=
 ⟨fun x hx he=>by rw [u.at (by have:=h.next; omega)]; exact h.keep x hx he,by have:=h.next; have:=u.next; omega,by rw [u.lim,h.lim]⟩
theorem Kp.trans {Xc:Nat→Prop} {wa wb w:AW} (h:Kp Xc wa wb) (k:Kp Xc wb w):Kp Xc wa w :=
 ⟨fun x hx he=>by rw [k.keep x (by have:=h.next; omega) he]; exact h.keep x hx he,by have:=h.next; have:=k.next; omega,by rw [k.lim,h.lim]⟩
theorem next_at {r:List CAct} {d:List CDay} {s:Stg} {i:Nat} {x:CAct} {y:CDay} (hd:d[s.done.toNat]?=some y) (hx:r[i]?=some x):nextS r d s ((i:Nat):Int)=if fitB x (i:Nat) y s=true then some (withS s x (i:Nat)) else none:=by
 unfold nextS
 rw [hd,if_pos (by omega),Int.toNat_natCast,hx]
section
variable {ov:Ov} {r:List CAct} {d:List CDay} {s:Stg} {Xc:Nat→Prop} {G:Nat→AW→Prop} {Post:AW→Prop}
set_option maxHeartbeats 1000000 in
theorem loop98g (m L:Nat) (ho99:∀ args w,ov 99 args w=none) (h100:HasP ov 100 S100.F) (h107:HasP ov 107 S107.F) (h108:HasP ov 108 S108.F) (h109:HasP ov 109 S109.F) (h110:HasP ov 110 S110.F) (hR:ruleB r=true) (y:CDay) (hd:d[s.done.toNat]?=some y) (hs:FineS s) (we:AW) (rv:Value) (n1 n4:Nat) (hn1:n1 < we.next) (hn4:n4 < we.next) (he1:¬ Xc n1) (he4:¬ Xc n4) (g1:we.heap.get n1=some (.cells (stgC s) 86 false)) (g4:we.heap.get n4=some (.cells (dayC y s) 149 false)) (hlim:we.lim≤we.next)
  (hrow:∀ w,Kp Xc we w→RowsV actC w rv r)
  (hup:∀ i w w',G i w→Up w w'→G i w')
  (hskip:∀ i w,i < r.length→nextS r d s ((i:Nat):Int)=none→G i w→G (i + 1) w)
  (hyield:∀ i s' w,i < r.length→nextS r d s ((i:Nat):Int)=some s'→Kp Xc we w→G i w→∃ go w',yieldA (run Tryd.prog ov (m + 1)) L [.agg ⟨stgC s'⟩] w=.val go w'∧Kp Xc we w'∧(go=true→G (i + 1) w')∧(go=false→Post w'))
  (Q:Ex→Tm→AW→Prop) (t:Tm) (w:AW) (hk0:Kp Xc we w) (hG0:G 0 w) (t0:tget t 0=.func (.yield L) ⟨[]⟩ ⟨[]⟩) (t1:tget t 1=.pointer (some ⟨n1,0,none⟩)) (t4:tget t 4=.pointer (some ⟨n4,0,none⟩)) (t25:tget t 25=rv) (t26:tget t 26=.int .i64 (r.length:Nat)) (t27:tget t 27=.int .i64 0)
  (hno:∀ t w,Kp Xc we w→G r.length w→Q (.exit 0) t w)
  (hyes:∀ t w,Kp Xc we w→Post w→Q .ret t w):wp (exY Tryd.prog (run Tryd.prog ov (m + 1)) (.loop mc98_l0) t w) Q:=by
 have hrl:=rule_len hR
 refine wp_roundsY (fun i t w=>Kp Xc we w∧G i w∧tget t 0=.func (.yield L) ⟨[]⟩ ⟨[]⟩∧tget t 1=.pointer (some ⟨n1,0,none⟩)∧tget t 4=.pointer (some ⟨n4,0,none⟩)∧tget t 25=rv∧tget t 26=.int .i64 (r.length:Nat)∧tget t 27=.int .i64 (i:Nat)∧i≤r.length) 20 (by decide) ⟨hk0,hG0,t0,t1,t4,t25,t26,by simpa using t27,by omega⟩ ?_
 clear t0 t1 t4 t25 t26 t27 hk0 hG0
 rintro i t w ⟨hk,hG,t0,t1,t4,t25,t26,t27,hi⟩
 by_cases hlt:i < r.length
 ·obtain ⟨x,hx⟩:∃ p,r[i]?=some p:=⟨_,List.getElem?_eq_getElem hlt⟩
  have hfa:=fineA_of hR hx
  have hnx:=next_at (r:=r) hd hx
  obtain ⟨b,off,sq,c,hrv,hra⟩:=(hrow w hk).at_ i hlt
  rw [hrv] at t25
  have hnn:=hk.next
  have hlm:=hk.lim
  have hld:=hra.rd actC_length hx
  have hia:=fun w=>ia22 w ⟨b,off,sq⟩ r.length c .i64 i hlt
  have hw1:IntKind.wrap .i64 ((i:Int) + 1)=(i:Int) + 1:=wrap64_in (by omega) (by omega)
  have lw:w.lim≤w.next:=by omega
  have lw1:w.lim≤w.next + 1:=by omega
  simp only [actC] at hld
  obtain ⟨_,w3,c99,rfl,u3⟩:=call99 (ov:=ov) m ho99 ⟨(((w.heap.put w.next (some (.cells [.int .i64 0,.int .i64 0,.bool false,.bool false,.int .i64 0,.int .i64 0,.int .i64 0] 78 false))).put w.next (some (.cells [.int .i64 x.warm,.int .i64 x.behind,.bool x.dry,.bool x.first,.int .i64 x.most,.int .i64 x.ll,.int .i64 x.lh] 78 false))).put (w.next + 1) (some (.cells [.int .i64 0,.int .i64 0,.bool false,.bool false,.int .i64 0,.int .i64 0,.int .i64 0,.int .i64 0] 151 false))).put (w.next + 1) (some (.cells [.int .i64 x.warm,.int .i64 x.behind,.bool x.dry,.bool x.first,.int .i64 x.most,.int .i64 x.ll,.int .i64 x.lh,.int .i64 (i:Nat)] 151 false)),w.next + 1 + 1,w.lim⟩ (by show w.lim≤w.next + 1 + 1; omega)
  have u2:Up w w3:=Up.trans (((((Up.refl w).add _).put (Nat.le_refl _) (Nat.le_refl _)).add _).put (by show w.next≤w.next + 1; omega) (Nat.le_refl _)) u3
  have hk3:=hk.up u2
  have hG3:=hup i w w3 hG u2
  have g7:w3.heap.get (w.next + 1)=some (.cells (numC x i) 151 false):=by
   rw [u3.at (by show w.next + 1 < w.next + 1 + 1; omega)]
   show (((((w.heap.put _ _).put _ _).put _ _).put _ _).get _)=_
   rw [get_put,if_pos rfl]; rfl
  have hn3:=hk3.next
  have hl3:=hk3.lim
  have g43:w3.heap.get n4=some (.cells (dayC y s) 149 false):=by rw [hk3.keep n4 hn4 he4]; exact g4
  have g13:w3.heap.get n1=some (.cells (stgC s) 86 false):=by rw [hk3.keep n1 hn1 he1]; exact g1
  simp [mc98_l0,t0,t1,t4,t25,t26,t27,hlt,hia,hld,lw,lw1,c99]
  generalize hTT:tset _ 36 _=TT
  have v0:tget TT 0=.func (.yield L) ⟨[]⟩ ⟨[]⟩:=by rw [← hTT]; simp [t0]
  have v1:tget TT 1=.pointer (some ⟨n1,0,none⟩):=by rw [← hTT]; simp [t1]
  have v4:tget TT 4=.pointer (some ⟨n4,0,none⟩):=by rw [← hTT]; simp [t4]
  have v7:tget TT 7=.pointer (some ⟨w.next + 1,0,none⟩):=by rw [← hTT]; simp
  have v25:tget TT 25=.slice (some ⟨b,off,sq⟩) r.length c:=by rw [← hTT]; simp [t25]
  have v26:tget TT 26=.int .i64 (r.length:Nat):=by rw [← hTT]; simp [t26]
  have v27:tget TT 27=.int .i64 (i:Nat):=by rw [← hTT]; simp [t27]
  have v35:tget TT 35=.agg ⟨[funQ 107,funQ 108,funQ 109,funQ 110]⟩:=by rw [← hTT]; simp
  have v36:tget TT 36=.int .i64 0:=by rw [← hTT]; simp
  clear hTT
  refine wp_seqX (wp_blockX (wp_seqX (wp_blockX (inner98 m h107 h108 h109 h110 x (i:Nat) y s hs n4 (w.next + 1) _ TT w3 g43 g7 v4 v7 v35 v36 ?_ ?_))))
  ·intro hf t' hkt
   rw [if_neg (by rw [hf]; decide)] at hnx
   have hG4:=hskip i w3 hlt hnx hG3
   simp [hkt.k0,hkt.k1,hkt.k4,hkt.k25,hkt.k26,hkt.k27,v0,v1,v4,v25,v26,v27,hw1]
   exact ⟨by omega,hk3,hG4,hrv.symm,hlt⟩
  ·intro hf t' hkt
   rw [if_pos hf] at hnx
   have r100:=S100.call (P:=Tryd.prog) h100 (m:=m) (w:=w3) ⟨s,x,(i:Nat),rfl,hs,hfa,by omega,rfl⟩
   obtain ⟨go,w4,hy,hk4,hgo,hst⟩:=hyield i _ w3 hlt hnx hk3 hG3
   have k0:=hkt.k0; have k1:=hkt.k1; have k7:=hkt.k7
   rw [v0] at k0; rw [v1] at k1; rw [v7] at k7
   have g73:=g7
   simp only [numC] at g73 r100
   have g13':=g13
   generalize hS:stgC (withS s x (i:Nat))=SS at r100 hy
   simp only [stgC] at g13' r100
   cases go with
   | false =>
    simp [k0,k1,k7,g13',g73,r100,hy]
    exact hyes _ _ hk4 (hst rfl)
   | true =>
    simp [k0,k1,k7,g13',g73,r100,hy,hkt.k4,hkt.k25,hkt.k26,hkt.k27,v4,v25,v26,v27,hw1]
    exact ⟨by omega,hk4,hgo rfl,hrv.symm,hlt⟩
 ·have hi':i=r.length:=by omega
  subst hi'
  simp [mc98_l0,t26,t27]
  exact hno _ _ hk hG
set_option maxHeartbeats 1000000 in
theorem call98g (m L:Nat) (ho:∀ args w,ov 98 args w=none) (ho99:∀ args w,ov 99 args w=none) (h100:HasP ov 100 S100.F) (h107:HasP ov 107 S107.F) (h108:HasP ov 108 S108.F) (h109:HasP ov 109 S109.F) (h110:HasP ov 110 S110.F) (hR:ruleB r=true) (hs:FineS s) (k:Nat) (hk:s.done=(k:Nat)) (hkd:k≤d.length) (we:AW) (rv dv:Value) (hdv:RowsV cdayC we dv d)
  (n1 n2:Nat) (hn1:n1 < we.next) (he1:¬ Xc n1) (heN:∀ x,we.next≤x→¬ Xc x) (hn2:n2 < we.next) (g1:we.heap.get n1=some (.cells (stgC s) 86 false)) (g2:we.heap.get n2=some (.cells [rv,dv] 89 false)) (hlim:we.lim≤we.next)
  (hrow:∀ w,Kp Xc we w→RowsV actC w rv r)
  (hup:∀ i w w',G i w→Up w w'→G i w')
  (hskip:∀ i w,i < r.length→nextS r d s ((i:Nat):Int)=none→G i w→G (i + 1) w)
  (hyield:∀ i s' w,k < d.length→i < r.length→nextS r d s ((i:Nat):Int)=some s'→Kp Xc we w→G i w→∃ go w',yieldA (run Tryd.prog ov (m + 1)) L [.agg ⟨stgC s'⟩] w=.val go w'∧Kp Xc w w'∧(go=true→G (i + 1) w')∧(go=false→Post w'))
  (h0:G 0 we) :
  ∃ v w',(run Tryd.prog ov (m + 2)).call 98 [.func (.yield L) ⟨[]⟩ ⟨[]⟩,.pointer (some ⟨n1,0,none⟩),.pointer (some ⟨n2,0,none⟩)] we .none=.ok (.ret v) w' .none∧Kp Xc we w'∧(k < d.length→G r.length w'∨Post w')∧(¬ k < d.length→G 0 w'):=by
 refine call_wpY text98 (by simp) (ho _ _) ?_
 have hrv:=hrow we (Kp.refl _ _)
 have hl1:=fun w2=>len22V (w':=w2) hrv
 have hl2:=fun w2=>len23V (w':=w2) hdv
 have g1':=g1
 simp only [stgC,hk] at g1'
 by_cases hlt:k < d.length
 ·obtain ⟨y,hy⟩:∃ p,d[k]?=some p:=⟨_,List.getElem?_eq_getElem hlt⟩
  have hy':d[s.done.toNat]?=some y:=by rw [hk]; simpa using hy
  obtain ⟨b,off,sq,c,rfl,hra⟩:=hdv.at_ k hlt
  have hb:=hra.2
  have hld:=hra.rd cdayC_length hy
  have hia:=fun w=>ia23 w ⟨b,off,sq⟩ d.length c .i64 k hlt
  have e1:¬ (k:Int)=d.length:=by omega
  have e2:¬ k=d.length:=by omega
  have ne1:¬ n1=we.next:=by omega
  have ne2:¬ n2=we.next:=by omega
  have neb:¬ b=we.next:=by omega
  have nj:sameVal 5 rv rv=true∧notJunk rv=some rv:=by
   obtain ⟨p,q,rfl⟩:=hrv.len
   exact ⟨same_slice _ _ _,rfl⟩
  have sm1:sameVal 5 (.agg ⟨[.int .i64 (k:Nat),.int .i64 s.last,.int .i64 s.row,.int .i64 s.lo,.int .i64 s.hi]⟩) (.agg ⟨[.int .i64 (k:Nat),.int .i64 s.last,.int .i64 s.row,.int .i64 s.lo,.int .i64 s.hi]⟩)=true:=same_agg _ (by
   intro v hv
   simp only [List.mem_cons,List.not_mem_nil,or_false] at hv
   rcases hv with rfl | rfl | rfl | rfl | rfl <;> exact sameN_int _ _ _)
  have sm2:sameVal 5 (.agg ⟨[.int .i64 y.wl,.int .i64 y.wh,.bool y.rain]⟩) (.agg ⟨[.int .i64 y.wl,.int .i64 y.wh,.bool y.rain]⟩)=true:=same_agg _ (by
   intro v hv
   simp only [List.mem_cons,List.not_mem_nil,or_false] at hv
   rcases hv with rfl | rfl | rfl
   ·exact sameN_int _ _ _
   ·exact sameN_int _ _ _
   ·cases y.rain <;> rfl)
  simp only [cdayC] at hld
  have u1:Up we ⟨(we.heap.put we.next (some (.cells [.int .i64 0,.int .i64 0,.bool false,.int .i64 0,.int .i64 0,.int .i64 0,.int .i64 0,.int .i64 0] 149 false))).put we.next (some (.cells [.int .i64 y.wl,.int .i64 y.wh,.bool y.rain,.int .i64 (k:Nat),.int .i64 s.last,.int .i64 s.row,.int .i64 s.lo,.int .i64 s.hi] 149 false)),we.next + 1,we.lim⟩:=((Up.refl we).add _).put (Nat.le_refl _) (Nat.le_refl _)
  have gd:(⟨(we.heap.put we.next (some (.cells [.int .i64 0,.int .i64 0,.bool false,.int .i64 0,.int .i64 0,.int .i64 0,.int .i64 0,.int .i64 0] 149 false))).put we.next (some (.cells [.int .i64 y.wl,.int .i64 y.wh,.bool y.rain,.int .i64 (k:Nat),.int .i64 s.last,.int .i64 s.row,.int .i64 s.lo,.int .i64 s.hi] 149 false)),we.next + 1,we.lim⟩:AW).heap.get we.next=some (.cells (dayC y s) 149 false):=by
   show ((we.heap.put _ _).put _ _).get _=_
   rw [get_put,if_pos rfl,dayC,hk]
  have hKu:=(Kp.refl Xc we).up u1
  simp [mc98,g1',g2,hl1,hl2,e1,e2,hia,hld,ne1,ne2,neb,nj.1,sm1,sm2,hlim]
  refine wp_blockX (loop98g (G:=G) (Post:=Post) m L ho99 h100 h107 h108 h109 h110 hR y hy' hs _ rv n1 we.next (by show n1 < we.next + 1; omega) (Nat.lt_succ_self _) he1 (heN _ (Nat.le_refl _)) (by rw [u1.at hn1]; exact g1) gd (by show we.lim≤we.next + 1; omega) (fun w hw=>hrow w (hKu.trans hw)) hup hskip (fun i s' w h1 h2 h3 h4=>?_) _ _ _ (Kp.refl _ _) (hup _ _ _ h0 u1) ?_ ?_ ?_ ?_ ?_ ?_ ?_ ?_)
  case _ =>
   obtain ⟨go,w',q1,q2,q3,q4⟩:=hyield i s' w hlt h1 h2 (hKu.trans h3) h4
   exact ⟨go,w',q1,h3.trans q2,q3,q4⟩
  case _=>simp
  case _=>simp
  case _=>simp
  case _=>simp
  case _=>simp
  case _=>simp
  case _ =>
   intro t w hw hG
   have hK:=hKu.trans hw
   simp [tupV,hlt]
   exact ⟨hK,.inl hG,fun h=>absurd hlt (by omega)⟩
  case _ =>
   intro t w hw hG
   have hK:=hKu.trans hw
   simp [tupV,hlt]
   exact ⟨hK,.inr hG,fun h=>absurd hlt (by omega)⟩
 ·have hkl:k=d.length:=by omega
  simp [mc98,g1',g2,hl1,hl2,hkl,tupV]
  exact ⟨Kp.refl _ _,h0⟩
end
instance:DecidableEq Stg:=fun a b =>
 if h:a.done=b.done∧a.last=b.last∧a.row=b.row∧a.lo=b.lo∧a.hi=b.hi then isTrue (by
  obtain ⟨a1,a2,a3,a4,a5⟩:=a
  obtain ⟨b1,b2,b3,b4,b5⟩:=b
  obtain ⟨h1,h2,h3,h4,h5⟩:=h
  simp only at h1 h2 h3 h4 h5
  rw [h1,h2,h3,h4,h5]) else isFalse fun e=>h (by rw [e]; exact ⟨rfl,rfl,rfl,rfl,rfl⟩)
def sgV (s:Stg):Value:=.agg ⟨stgC s⟩
def inV (n:Int):Value:=.int .i64 n
theorem sg_ok:KeyOk (true,[0,0,0,0,0]) sgV:=by
 refine ⟨fun a=>rfl,fun a b=>?_⟩
 obtain ⟨a1,a2,a3,a4,a5⟩:=a
 obtain ⟨b1,b2,b3,b4,b5⟩:=b
 by_cases h1:a1=b1 <;> by_cases h2:a2=b2 <;> by_cases h3:a3=b3 <;> by_cases h4:a4=b4 <;> by_cases h5:a5=b5 <;> simp [sgV,stgC,eqFlat,flatCells,sameL,same1,sameInt,sameK_refl,intEq_eq,h1,h2,h3,h4,h5]
theorem map143:mapOf Tryd.prog 143=some (3,(true,[0,0,0,0,0])):=by kernel_rfl
theorem zero3:zeroA Tryd.prog 3=some (.int .i64 0):=by kernel_rfl
@[simp] theorem cf95 (w:AW) (l:List Value):callFn Tryd.prog w 95 l=.enter 95 l w:=callFn_of (by kernel_rfl) l
@[simp] theorem cf75 (w:AW) (l:List Value):callFn Tryd.prog w 75 l=.enter 75 l w:=callFn_of (by kernel_rfl) l
def ptB (b:Nat):Value:=.pointer (some ⟨b,0,none⟩)
def fn95 (c6 c3 c2 c7:Nat):Value:=.func (.func 95) ⟨[]⟩ ⟨[ptB c6,ptB c3,ptB c2,ptB c7]⟩
def fn75 (b6 b7:Nat):Value:=.func (.func 75) ⟨[]⟩ ⟨[ptB b6,ptB b7]⟩
def soB (b:CBox) (lim:Sp) (s:Stg):Bool:=surB b [(s.lo,s.hi)] lim
def OkS (r:List CAct) (d:List CDay) (s:Stg):Prop:=(∃ so,StOk r so s∧so.length≤d.length)∧s.lo≤s.hi
theorem OkS.start (r:List CAct) (d:List CDay):OkS r d startS:=⟨⟨[],start_ok r,Nat.zero_le _⟩,Int.le_refl _⟩
theorem OkS.next {r:List CAct} {d:List CDay} (hR:ruleB r=true) {s s':Stg} (h:OkS r d s) {a:Int} (hn:nextS r d s a=some s'):OkS r d s'∧s'.done=s.done + 1:=by
 obtain ⟨⟨so,h1,h2⟩,h3⟩:=h
 have hdn:s.done.toNat=so.length:=by rw [h1.done]; simp
 obtain ⟨i,rfl,hi⟩:=next_nat hn
 obtain ⟨x,hx⟩:∃ x,r[i]?=some x:=⟨_,List.getElem?_eq_getElem hi⟩
 cases hd:d[s.done.toNat]? with
 | none =>
  unfold nextS at hn
  rw [hd] at hn; cases hn
 | some y =>
  have hlt:so.length < d.length:=by rw [hdn] at hd; exact (List.getElem?_eq_some_iff.1 hd).1
  have hfa:=fineA_of hR hx
  obtain ⟨_,_,k,_⟩:=act_of hR hx
  simp only [spanI,Bool.and_eq_true,decide_eq_true_eq] at k
  have e:=next_at (r:=r) hd hx
  rw [hn] at e
  have es:s'=withS s x (i:Nat):=by
   split at e
   ·exact Option.some.inj e
   ·cases e
  rcases next_fol (d:=d) hR h1 ((i:Nat):Int) with ⟨k1,_⟩ | ⟨s2,k1,_,k3⟩
  ·rw [hn] at k1; cases k1
  ·rw [hn] at k1
   cases Option.some.inj k1
   refine ⟨⟨⟨_,k3,by rw [List.length_append,List.length_singleton]; omega⟩,?_⟩,?_⟩
   ·rw [es]; show s.lo + x.ll≤s.hi + x.lh; omega
   ·rw [es]; rfl
structure TrP (r:List CAct) (d:List CDay) (b:CBox) (lim:Sp) (w0:AW) (rv dv:Value) (b6 b7 c2 c3 c6 c7 km be:Nat) (w:AW):Prop where
 old:∀ x,x < w0.next→w.heap.get x=w0.heap.get x
 bx:w.heap.get b6=some (.cells (boxC b) 27 false)
 lm:w.heap.get b7=some (.cells (spC lim) 25 false)
 m2:w.heap.get c2=some (.cells [rv,dv] 89 false)
 m3:w.heap.get c3=some (.cells [fn75 b6 b7] 120 false)
 m6:w.heap.get c6=some (.cells [.map (some km)] 143 false)
 m7:w.heap.get c7=some (.cells [fn95 c6 c3 c2 c7] 144 false)
 map:∃ L,MapAt sgV inV w km L∧∀ s v,lookK L s=some v→v=leftG r d (soB b lim) (d.length - s.done.toNat) s
 ne:b6 ≠ km∧b7 ≠ km∧c2 ≠ km∧c3 ≠ km∧c6 ≠ km∧c7 ≠ km∧w0.next≤km
 lt:b6 < be∧b7 < be∧c2 < be∧c3 < be∧c6 < be∧c7 < be∧km < be
 le:be≤w.next
 wl:w.lim=w0.lim
section
variable {r:List CAct} {d:List CDay} {b:CBox} {lim:Sp} {w0:AW} {rv dv:Value} {b6 b7 c2 c3 c6 c7 km be:Nat}
theorem TrP.keep {w w':AW} (h:TrP r d b lim w0 rv dv b6 b7 c2 c3 c6 c7 km be w) (k:∀ x,x < be→w'.heap.get x=w.heap.get x) (hn:w.next≤w'.next) (hl:w'.lim=w.lim):TrP r d b lim w0 rv dv b6 b7 c2 c3 c6 c7 km be w':=by
 obtain ⟨l1,l2,l3,l4,l5,l6,l7⟩:=h.lt
 obtain ⟨L,q1,q2⟩:=h.map
 have hk:=h.ne.2.2.2.2.2.2
 exact ⟨fun x hx=>by rw [k x (by omega)]; exact h.old x hx,by rw [k _ l1]; exact h.bx,by rw [k _ l2]; exact h.lm,by rw [k _ l3]; exact h.m2,by rw [k _ l4]; exact h.m3,by rw [k _ l5]; exact h.m6,by rw [k _ l6]; exact h.m7,⟨L,by unfold MapAt; rw [k _ l7]; exact q1,q2⟩,h.ne,h.lt,Nat.le_trans h.le hn,by rw [hl]; exact h.wl⟩
theorem TrP.up {w w':AW} (h:TrP r d b lim w0 rv dv b6 b7 c2 c3 c6 c7 km be w) (u:Up w w'):TrP r d b lim w0 rv dv b6 b7 c2 c3 c6 c7 km be w' :=
 h.keep (fun x hx=>u.at (by have:=h.le; omega)) u.next u.lim
theorem TrP.upd {w:AW} (h:TrP r d b lim w0 rv dv b6 b7 c2 c3 c6 c7 km be w) {L:List (Stg × Int)} (hL:MapAt sgV inV w km L) (hK:∀ s v,lookK L s=some v→v=leftG r d (soB b lim) (d.length - s.done.toNat) s) (s:Stg) {n:Nat} (hn:d.length - s.done.toNat=n) :
  TrP r d b lim w0 rv dv b6 b7 c2 c3 c6 c7 km be ⟨w.heap.put km (some (.map (entsK sgV inV 0 (updK L s (leftG r d (soB b lim) n s))) (updK L s (leftG r d (soB b lim) n s)).length)),w.next,w.lim⟩:=by
 obtain ⟨e1,e2,e3,e4,e5,e6,e7⟩:=h.ne
 have g:∀ x,x ≠ km→(⟨w.heap.put km (some (.map (entsK sgV inV 0 (updK L s (leftG r d (soB b lim) n s))) (updK L s (leftG r d (soB b lim) n s)).length)),w.next,w.lim⟩:AW).heap.get x=w.heap.get x:=fun x hx=>by
  show (w.heap.put km _).get x=_
  rw [get_put,if_neg hx]
 refine ⟨fun x hx=>by rw [g x (by omega)]; exact h.old x hx,by rw [g _ e1]; exact h.bx,by rw [g _ e2]; exact h.lm,by rw [g _ e3]; exact h.m2,by rw [g _ e4]; exact h.m3,by rw [g _ e5]; exact h.m6,by rw [g _ e6]; exact h.m7,⟨updK L s (leftG r d (soB b lim) n s),?_,fun s2 v hv=>?_⟩,h.ne,h.lt,h.le,h.wl⟩
 ·unfold MapAt
  show (w.heap.put km _).get km=_
  rw [get_put,if_pos rfl]
 ·rw [lookK_upd] at hv
  by_cases es:s2=s
  ·rw [if_pos es] at hv
   rw [es,hn]
   exact (Option.some.inj hv).symm
  ·rw [if_neg es] at hv
   exact hK s2 v hv
theorem call75 {ov:Ov} (m:Nat) (ho:∀ args w,ov 75 args w=none) (h71:HasP ov 71 S71.F) (hb:boxB b=true) (s:Stg) (hs:FineS s) (hlh:s.lo≤s.hi) (w:AW) (hl:w.lim≤w.next) (hLim:LimW w) (g6:w.heap.get b6=some (.cells (boxC b) 27 false)) (g7:w.heap.get b7=some (.cells (spC lim) 25 false)) (l6:b6 < w.next) (l7:b7 < w.next) :
  ∃ v w',(run Tryd.prog ov (m + 2)).call 75 [.agg ⟨stgC s⟩,ptB b6,ptB b7] w .none=.ok (.ret v) w' .none∧v=.bool (soB b lim s)∧Up w w':=by
 refine call_wp text75 (by simp) (ho _ _) ?_
 obtain ⟨w2,hw2⟩:∃ w2:AW,w2=⟨(w.heap.put w.next (some (.cells [.int .i64 s.done,.int .i64 s.last,.int .i64 s.row,.int .i64 s.lo,.int .i64 s.hi] 86 false))).put (w.next + 1) (some (.cells [.int .i64 s.lo,.int .i64 s.hi] 25 false)),w.next + 1 + 1,w.lim⟩:=⟨_,rfl⟩
 have u2:Up w w2:=by rw [hw2]; exact ((Up.refl w).add _).put (Nat.le_succ _) (Nat.le_succ _)
 have n2:w2.next=w.next + 2:=by rw [hw2]
 have gp:w2.heap.get (w.next + 1)=some (.cells [.int .i64 s.lo,.int .i64 s.hi] 25 false):=by rw [hw2]; show ((w.heap.put _ _).put _ _).get _=_; rw [get_put,if_pos rfl]
 have hp:ProcV w2 (.slice (some ⟨w.next + 1,0,none⟩) 1 1) [(s.lo,s.hi)]:=⟨w.next + 1,rfl,gp,by omega⟩
 have h3:=hs.lo; have h4:=hs.hi
 have hL:LosW (losL [(s.lo,s.hi)]):=fun k=>by
  match k with
  | 0=>exact ⟨h3.1,hlh,h4.2⟩
  | 1=>show (0:Int)≤0∧(0:Int)≤1000000∧(1000000:Int)≤1000000; omega
  | k + 2=>show (0:Int)≤0∧(0:Int)≤0∧(0:Int)≤1000000; omega
 have r71:=S71.call (P:=Tryd.prog) h71 (m:=m) (w:=w2) ⟨b,_,[(s.lo,s.hi)],lim,rfl,hp,by simp,hL,hb,hLim.up u2,by have:=u2.lim; omega,rfl⟩
 simp only [procC,spC] at r71
 rw [hw2] at r71
 have m6:¬ b6=w.next:=by omega
 have m7:¬ b7=w.next:=by omega
 have m7':¬ b7=w.next + 1:=by omega
 simp only [boxC] at g6
 simp only [spC] at g7
 have e:surB b [(s.lo,s.hi)] lim=soB b lim s:=rfl
 rw [e] at r71
 simp [mc75,ptB,stgC,g6,g7,m6,m7,m7',cellsOf_agg,r71,tupV]
 rw [← hw2]; exact u2
def AfP (r:List CAct) (d:List CDay) (b:CBox) (lim:Sp) (w0:AW) (rv dv:Value) (b6 b7 c2 c3 c6 c7 km be:Nat) (w w':AW):Prop:=TrP r d b lim w0 rv dv b6 b7 c2 c3 c6 c7 km be w'∧Kp (fun x=>x=km) w w'
def H95 (ov:Ov) (r:List CAct) (d:List CDay) (b:CBox) (lim:Sp) (w0:AW) (rv dv:Value) (b6 b7 c2 c3 c6 c7 km be M n:Nat):Prop:=∀ (s:Stg) (w:AW),OkS r d s→s.done + (n:Int)=(d.length:Int)→TrP r d b lim w0 rv dv b6 b7 c2 c3 c6 c7 km be w →
 ∃ w',(run Tryd.prog ov M).call 95 [.agg ⟨stgC s⟩,ptB c6,ptB c3,ptB c2,ptB c7] w .none=.ok (.ret (.int .i64 (leftG r d (soB b lim) n s))) w' .none∧AfP r d b lim w0 rv dv b6 b7 c2 c3 c6 c7 km be w w'
theorem body95 {ov:Ov} (m n:Nat) (H:H95 ov r d b lim w0 rv dv b6 b7 c2 c3 c6 c7 km be m n) (s:Stg) (hS:OkS r d s) (hdn:s.done + (n:Int)=(d.length:Int)) (w:AW) (hT:TrP r d b lim w0 rv dv b6 b7 c2 c3 c6 c7 km be w) (hl:w0.lim≤w0.next) (c9 c10:Nat) (h9:be≤c9∧c9 < w.next) (h10:be≤c10∧c10 < w.next) (z:Int) (g9:w.heap.get c9=some (.cells [.int .i64 z] 3 false)) (g10:w.heap.get c10=some (.cells (stgC s) 86 false)) (Q:Ex→Tm→AW→Prop) (t:Tm) (t4:tget t 4=ptB c7) (t9:tget t 9=ptB c9) (t10:tget t 10=ptB c10)
  (hQ:∀ t w5,AfP r d b lim w0 rv dv b6 b7 c2 c3 c6 c7 km be w w5→Q .normal t ⟨w5.heap.put c9 (some (.cells [.int .i64 (min z (1 + leftG r d (soB b lim) n s))] 3 false)),w5.next,w5.lim⟩):wp (exY Tryd.prog (run Tryd.prog ov m) mc95_b0 t w) Q:=by
 obtain ⟨w5,c95,hA⟩:=H s w hS hdn hT
 have hkm:=hT.lt.2.2.2.2.2.2
 have g9':w5.heap.get c9=some (.cells [.int .i64 z] 3 false):=by rw [hA.2.keep c9 h9.2 (by omega)]; exact g9
 have hbd:=leftG_bd (r:=r) (d:=d) (so:=soB b lim) n s
 obtain ⟨q,hq⟩:∃ q,q=leftG r d (soB b lim) n s:=⟨_,rfl⟩
 rw [← hq] at c95 hbd hQ
 have hw:IntKind.wrap .i64 (1 + q)=1 + q:=wrap64_in (by omega) (by omega)
 have hl9:w5.lim≤c9:=by have:=hA.1.wl; have:=hT.ne.2.2.2.2.2.2; omega
 have g7:=hT.m7
 simp only [fn95] at g7
 simp only [ptB] at t4 t9 t10 c95 g7
 simp only [stgC] at g10 c95
 simp [mc95_b0,t4,t9,t10,g9,g7,g10,callV_func,c95,hw,g9',hl9]
 exact hQ _ w5 hA
theorem steps95 {ov:Ov} (m n:Nat) (H:H95 ov r d b lim w0 rv dv b6 b7 c2 c3 c6 c7 km be m n) (s:Stg) (hS:OkS r d s) (hdn:s.done + (n:Int)=(d.length:Int)) (w:AW) (hT:TrP r d b lim w0 rv dv b6 b7 c2 c3 c6 c7 km be w) (hl:w0.lim≤w0.next) (L c9:Nat) (hL:be≤L∧L < w.next) (h9:be≤c9∧c9 < w.next) (h9L:c9 ≠ L) (z:Int) (g9:w.heap.get c9=some (.cells [.int .i64 z] 3 false)) (TT:Tm) (t4:tget TT 4=ptB c7) (t9:tget TT 9=ptB c9)
  (lp:ALoop) (hlp:lp=⟨38,TT,[27],(rfOf Tryd.prog 95 0).1,(rfOf Tryd.prog 95 0).2,none,.ready⟩) (gL:w.heap.get L=some (.loop lp)) :
  ∃ w',yieldA (run Tryd.prog ov (m + 1)) L [.agg ⟨stgC s⟩] w=.val true w'∧TrP r d b lim w0 rv dv b6 b7 c2 c3 c6 c7 km be w'∧Kp (fun x=>x=km∨x=L∨x=c9) w w'∧w'.heap.get L=some (.loop lp)∧w'.heap.get c9=some (.cells [.int .i64 (min z (1 + leftG r d (soB b lim) n s))] 3 false):=by
 have hle:=hT.le
 have hwl:=hT.wl
 have hkm:=hT.lt.2.2.2.2.2.2
 have hk0:=hT.ne.2.2.2.2.2.2
 have lw:w.lim≤w.next:=by omega
 have eL:¬ L=w.next:=by omega
 have lL:w.lim≤L:=by omega
 subst hlp
 obtain ⟨C,hC⟩:∃ C:AObj,C=.cells [.int .i64 s.done,.int .i64 s.last,.int .i64 s.row,.int .i64 s.lo,.int .i64 s.hi] 86 false:=⟨_,rfl⟩
 obtain ⟨wB,hwB⟩:∃ wB:AW,wB=⟨((w.heap.put w.next (some (.cells [.int .i64 0,.int .i64 0,.int .i64 0,.int .i64 0,.int .i64 0] 86 false))).put w.next (some C)).put L (some (.loop ⟨38,TT,[27],(rfOf Tryd.prog 95 0).1,(rfOf Tryd.prog 95 0).2,none,.busy⟩)),w.next + 1,w.lim⟩:=⟨_,rfl⟩
 have nB:wB.next=w.next + 1:=by rw [hwB]
 have lB:wB.lim=w.lim:=by rw [hwB]
 have kB:∀ x,x < w.next→x ≠ L→wB.heap.get x=w.heap.get x:=fun x h1 h2=>by
  rw [hwB]
  show (((w.heap.put _ _).put _ _).put _ _).get x=_
  rw [get_put,if_neg h2,get_put,if_neg (by omega),get_put,if_neg (by omega)]
 have gB:wB.heap.get w.next=some C:=by
  rw [hwB]
  show (((w.heap.put _ _).put _ _).put _ _).get _=_
  rw [get_put,if_neg (by omega),get_put,if_pos rfl]
 have gLB:wB.heap.get L=some (.loop ⟨38,TT,[27],(rfOf Tryd.prog 95 0).1,(rfOf Tryd.prog 95 0).2,none,.busy⟩):=by
  rw [hwB]
  show (((w.heap.put _ _).put _ _).put _ _).get _=_
  rw [get_put,if_pos rfl]
 have hTB:TrP r d b lim w0 rv dv b6 b7 c2 c3 c6 c7 km be wB:=hT.keep (fun x hx=>kB x (by omega) (by omega)) (by omega) lB
 obtain ⟨j,w',hy,hQ⟩:=yield_wp (P:=Tryd.prog) (ov:=ov) (m:=m) (l:=L) (args:=[.agg ⟨stgC s⟩]) (w:=w) (Q:=fun j w'=>j=none∧∃ w5,AfP r d b lim w0 rv dv b6 b7 c2 c3 c6 c7 km be wB w5∧w'=⟨(w5.heap.put c9 (some (.cells [.int .i64 (min z (1 + leftG r d (soB b lim) n s))] 3 false))).put L (some (.loop ⟨38,TT,[27],(rfOf Tryd.prog 95 0).1,(rfOf Tryd.prog 95 0).2,none,.ready⟩)),w5.next,w5.lim⟩) gL rfl rfl ta95_0 tb95_0 (by
  simp [mc95_a0,stgC,cellsOf_agg,lw,lL,eL,gL]
  rw [← hC,← hwB]
  refine body95 m n H s hS hdn wB hTB hl c9 w.next ⟨h9.1,by omega⟩ ⟨by omega,by omega⟩ z (by rw [kB c9 h9.2 h9L]; exact g9) (by rw [gB,hC]; rfl) _ _ ?_ ?_ ?_ ?_
  ·simp [t4]
  ·simp [t9]
  ·simp [ptB]
  ·intro t w5 hA
   have gL5:w5.heap.get L=some (.loop ⟨38,TT,[27],(rfOf Tryd.prog 95 0).1,(rfOf Tryd.prog 95 0).2,none,.busy⟩):=by rw [hA.2.keep L (by omega) (by omega)]; exact gLB
   have l5:=hA.2.lim
   refine ⟨none,rfl,⟨38,TT,[27],(rfOf Tryd.prog 95 0).1,(rfOf Tryd.prog 95 0).2,none,.busy⟩,?_,⟨rfl,rfl,rfl,rfl,rfl⟩,by show w5.lim≤L; omega,rfl,w5,hA,rfl,rfl,rfl⟩
   show (w5.heap.put c9 _).get L=_
   rw [get_put,if_neg (Ne.symm h9L)]; exact gL5)
 obtain ⟨rfl,w5,hA,hw'⟩:=hQ
 have n5:=hA.2.next
 have l5:=hA.2.lim
 refine ⟨w',hy,?_,⟨fun x hx hne=>?_,?_,?_⟩,?_,?_⟩
 ·rw [hw']
  refine hA.1.keep (fun x hx=>?_) (Nat.le_refl _) rfl
  show ((w5.heap.put _ _).put _ _).get x=_
  rw [get_put,if_neg (by omega),get_put,if_neg (by omega)]
 ·rw [hw']
  show ((w5.heap.put _ _).put _ _).get x=_
  rw [get_put,if_neg (by omega),get_put,if_neg (by omega),hA.2.keep x (by omega) (by omega),kB x hx (by omega)]
 ·rw [hw']; show w.next≤w5.next; omega
 ·rw [hw']; show w5.lim=w.lim; omega
 ·rw [hw']
  show ((w5.heap.put _ _).put _ _).get L=_
  rw [get_put,if_pos rfl]
 ·rw [hw']
  show ((w5.heap.put _ _).put _ _).get c9=_
  rw [get_put,if_neg h9L,get_put,if_pos rfl]
end
noncomputable def mc95_r2:MY:=.seq (.seq (.mc (.ops [⟨false,none,some 24,89,.load 89 (.tmp 3)⟩,⟨false,none,some 25,86,.load 86 (.tmp 5)⟩,⟨false,none,some 26,128,.call ⟨.value (.func 79),#[.tmp 24,.tmp 25],#[89,86]⟩⟩])) (.block 0 (.rf 38 (.tmp 26) [27] (rfOf Tryd.prog 95 0).1 (rfOf Tryd.prog 95 0).2))) (.mc (.seq (.ops [⟨false,none,some 34,143,.load 143 (.tmp 1)⟩,⟨false,none,some 35,86,.load 86 (.tmp 5)⟩,⟨false,none,some 36,3,.load 3 (.tmp 9)⟩,⟨false,none,none,0,.mapUpdate 143 (.tmp 34) (.tmp 35) (.tmp 36)⟩]) (.seq (.ops [⟨false,none,some 37,3,.load 3 (.tmp 9)⟩,⟨false,none,some 6,3,.assign (.tmp 37)⟩]) (.ret))))
noncomputable def mc95_r1:MY:=.seq (.mc (.ops [⟨false,none,some 9,0,.alloc 3⟩,⟨false,none,none,0,.store 3 (.tmp 9) (.const (.int .i64 15))⟩])) mc95_r2
theorem mc95_eq:mc95=.seq (.mc (.ops [⟨false,none,some 5,0,.box 86 (.tmp 0)⟩,⟨false,none,some 6,3,.assign (.const (.int .i64 0))⟩])) (.seq (.mc (.seq (.ops [⟨false,none,some 12,143,.load 143 (.tmp 1)⟩,⟨false,none,some 13,86,.load 86 (.tmp 5)⟩,⟨false,none,some 14,145,.lookup 143 (.tmp 12) (.tmp 13) true⟩,⟨false,none,some 11,145,.move (.tmp 14)⟩,⟨false,none,some 15,3,.extract (.tmp 11) 0⟩,⟨false,none,some 16,4,.extract (.tmp 11) 1⟩,⟨false,none,some 7,3,.assign (.tmp 15)⟩,⟨false,none,some 8,4,.assign (.tmp 16)⟩]) (.seq (.ops [⟨false,none,some 17,4,.move (.tmp 8)⟩]) (.cond (.tmp 17) (.seq (.ops [⟨false,none,some 18,3,.move (.tmp 7)⟩,⟨false,none,some 6,3,.assign (.tmp 18)⟩]) (.ret)) (.skip))))) (.seq (.seq (.opy [⟨false,none,some 19,120,.load 120 (.tmp 2)⟩,⟨false,none,some 20,86,.load 86 (.tmp 5)⟩,⟨false,none,some 21,4,.call ⟨.value (.tmp 19),#[.tmp 20],#[86]⟩⟩]) (.mc (.cond (.tmp 21) (.seq (.ops [⟨false,none,some 22,143,.load 143 (.tmp 1)⟩,⟨false,none,some 23,86,.load 86 (.tmp 5)⟩,⟨false,none,none,0,.mapUpdate 143 (.tmp 22) (.tmp 23) (.const (.int .i64 0))⟩]) (.seq (.ops [⟨false,none,some 6,3,.assign (.const (.int .i64 0))⟩]) (.ret))) (.skip)))) mc95_r1)):=rfl
structure HasL (ov:Ov):Prop where
 o75:∀ args w,ov 75 args w=none
 o79:∀ args w,ov 79 args w=none
 o95:∀ args w,ov 95 args w=none
 o98:∀ args w,ov 98 args w=none
 o99:∀ args w,ov 99 args w=none
 h71:HasP ov 71 S71.F
 h78:HasP ov 78 S78.F
 h100:HasP ov 100 S100.F
 h107:HasP ov 107 S107.F
 h108:HasP ov 108 S108.F
 h109:HasP ov 109 S109.F
 h110:HasP ov 110 S110.F
section
variable {ov:Ov} {r:List CAct} {d:List CDay} {b:CBox} {lim:Sp} {w0:AW} {rv dv:Value} {b6 b7 c2 c3 c6 c7 km be:Nat}
set_option maxHeartbeats 1000000 in
theorem tail95 (m n:Nat) (h:HasL ov) (hR:ruleB r=true) (hD:daysB d=true) (H:∀ n',n=n' + 1→H95 ov r d b lim w0 rv dv b6 b7 c2 c3 c6 c7 km be m n') (s:Stg) (hS:OkS r d s) (hdn:s.done + (n:Int)=(d.length:Int)) (hso:soB b lim s=false) (w:AW) (hT:TrP r d b lim w0 rv dv b6 b7 c2 c3 c6 c7 km be w) (hl0:w0.lim≤w0.next) (hrv:RowsV actC w0 rv r) (hdv:RowsV cdayC w0 dv d) (sb c9:Nat) (hsb:be≤sb∧sb < w.next) (h9:be≤c9∧c9 < w.next) (h9s:c9 ≠ sb) (g5:w.heap.get sb=some (.cells (stgC s) 86 false)) (g9:w.heap.get c9=some (.cells [.int .i64 15] 3 false)) (Q:Ex→Tm→AW→Prop) (t:Tm) (t1:tget t 1=ptB c6) (t3:tget t 3=ptB c2) (t4:tget t 4=ptB c7) (t5:tget t 5=ptB sb) (t9:tget t 9=ptB c9)
  (hQ:∀ t w',TrP r d b lim w0 rv dv b6 b7 c2 c3 c6 c7 km be w'→Kp (fun x=>x=km∨x=c9) w w'→tget t 6=.int .i64 (leftG r d (soB b lim) n s)→Q .ret t w'):wp (exY Tryd.prog (run Tryd.prog ov (m + 2)) mc95_r2 t w) Q:=by
 have hS':=hS
 obtain ⟨⟨so,hst,hsl⟩,hlh⟩:=hS'
 have hdl:=days_len hD
 have hf:FineS s:=fine_of hst (by omega)
 have hle:=hT.le
 have hwl:=hT.wl
 obtain ⟨l1,l2,l3,l4,l5,l6,hkm⟩:=hT.lt
 have hk0:=hT.ne.2.2.2.2.2.2
 have g2:=hT.m2
 obtain ⟨_,_,c79,rfl,rfl⟩:=call79 (ov:=ov) (m + 1) h.o79 rv dv s w
 simp only [ptB] at t1 t3 t4 t5 t9
 have g5':=g5
 simp only [stgC] at g5' c79
 simp [mc95_r2,t3,t5,g2,g5',c79]
 obtain ⟨Hh,hH⟩:∃ Hh,Hh=(w.heap.put w.next (some (.cells [rv,dv] 89 false))).put (w.next + 1) (some (.cells [.int .i64 s.done,.int .i64 s.last,.int .i64 s.row,.int .i64 s.lo,.int .i64 s.hi] 86 false)):=⟨_,rfl⟩
 rw [← hH]
 have kH:∀ x,x < w.next→Hh.get x=w.heap.get x:=fun x hx=>by rw [hH,get_put,if_neg (by omega),get_put,if_neg (by omega)]
 have gH1:Hh.get (w.next + 1)=some (.cells (stgC s) 86 false):=by rw [hH,get_put,if_pos rfl]; rfl
 have gH2:Hh.get w.next=some (.cells [rv,dv] 89 false):=by rw [hH,get_put,if_neg (by omega),get_put,if_pos rfl]
 clear hH
 refine wp_seqX (wp_blockX (rf_wp (g:=98) (gargs:=[.func (.yield (w.next + 2)) ⟨[]⟩ ⟨[]⟩,.pointer (some ⟨w.next + 1,0,none⟩),.pointer (some ⟨w.next,0,none⟩)]) ?_ ?_))
 ·simp [fun98,callV_func]
 ·generalize hTT:tset _ 26 _=TT
  have v1:tget TT 1=.pointer (some ⟨c6,0,none⟩):=by rw [← hTT]; simp [t1]
  have v4:tget TT 4=ptB c7:=by rw [← hTT]; simp [t4,ptB]
  have v5:tget TT 5=.pointer (some ⟨sb,0,none⟩):=by rw [← hTT]; simp [t5]
  have v9:tget TT 9=.pointer (some ⟨c9,0,none⟩):=by rw [← hTT]; simp [t9]
  clear hTT
  obtain ⟨lp,hlp⟩:∃ lp:ALoop,lp=⟨38,TT,[27],(rfOf Tryd.prog 95 0).1,(rfOf Tryd.prog 95 0).2,none,.ready⟩:=⟨_,rfl⟩
  rw [← hlp]
  obtain ⟨we,hwe⟩:∃ we:AW,we=⟨Hh.put (w.next + 2) (some (.loop lp)),w.next + 2 + 1,w.lim⟩:=⟨_,rfl⟩
  have ne:we.next=w.next + 3:=by rw [hwe]
  have le:we.lim=w.lim:=by rw [hwe]
  have kE:∀ x,x < w.next + 2→we.heap.get x=Hh.get x:=fun x hx=>by rw [hwe]; show (Hh.put _ _).get x=_; rw [get_put,if_neg (by omega)]
  have gLe:we.heap.get (w.next + 2)=some (.loop lp):=by rw [hwe]; show (Hh.put _ _).get _=_; rw [get_put,if_pos rfl]
  have hTe:TrP r d b lim w0 rv dv b6 b7 c2 c3 c6 c7 km be we:=hT.keep (fun x hx=>by rw [kE x (by omega),kH x (by omega)]) (by omega) le
  have ue:Up w0 we:=⟨fun x hx=>hTe.old x hx,by omega,hTe.wl⟩
  have hkk:s.done=(so.length:Nat):=hst.done
  have hnx:∀ n',n=n' + 1→leftG r d (soB b lim) n s=minA r d (leftG r d (soB b lim) (n - 1)) s r.length:=fun n' e=>by subst e; exact leftG_not hso
  obtain ⟨v9',w2,hc98,hK2,hA,hB⟩:=call98g (G:=fun i w'=>w'.heap.get (w.next + 2)=some (.loop lp)∧w'.heap.get c9=some (.cells [.int .i64 (minA r d (leftG r d (soB b lim) (n - 1)) s i)] 3 false)∧TrP r d b lim w0 rv dv b6 b7 c2 c3 c6 c7 km be w'∧w.next + 2 < w'.next) (Post:=fun _=>False) (Xc:=fun x=>x=km∨x=w.next + 2∨x=c9) m (w.next + 2) h.o98 h.o99 h.h100 h.h107 h.h108 h.h109 h.h110 hR hf so.length hkk hsl we rv dv (hdv.up ue) (w.next + 1) w.next (by omega) (by omega) (fun x hx=>by omega) (by omega) (by rw [kE _ (by omega)]; exact gH1) (by rw [kE _ (by omega)]; exact gH2) (by omega)
   (fun w' hK=>hrv.up ⟨fun x hx=>by rw [hK.keep x (by omega) (by omega)]; exact hTe.old x hx,by have:=hK.next; omega,by have:=hK.lim; omega⟩)
   (fun i w1 w1' hG u=>⟨by rw [u.at hG.2.2.2]; exact hG.1,by rw [u.at (by have:=hG.2.2.2; omega)]; exact hG.2.1,hG.2.2.1.up u,Nat.lt_of_lt_of_le hG.2.2.2 u.next⟩)
   (fun i w1 hi hn hG=>⟨hG.1,by rw [minA_none hn]; exact hG.2.1,hG.2.2⟩)
   (fun i s' w1 hlt hi hn hK hG=>by
    obtain ⟨n',hn'⟩:∃ n',n=n' + 1:=⟨n - 1,by omega⟩
    obtain ⟨hS2,hd2⟩:=hS.next hR hn
    obtain ⟨w',y1,y2,y3,y4,y5⟩:=steps95 m n' (H n' hn') s' hS2 (by omega) w1 hG.2.2.1 hl0 (w.next + 2) c9 ⟨by omega,hG.2.2.2⟩ ⟨h9.1,by have:=hG.2.2.2; omega⟩ (by omega) _ hG.2.1 TT v4 (by rw [v9]; rfl) lp hlp hG.1
    exact ⟨true,w',y1,y3,fun _=>⟨y4,by rw [minA_some hn,show n - 1=n' by omega]; rw [show n - 1=n' by omega] at y5; exact y5,y2,by have:=y3.next; have:=hG.2.2.2; omega⟩,fun hh=>by cases hh⟩)
   ⟨gLe,by rw [kE _ (by omega),kH _ h9.2]; exact g9,hTe,by omega⟩
  have fin:w2.heap.get (w.next + 2)=some (.loop lp)∧w2.heap.get c9=some (.cells [.int .i64 (leftG r d (soB b lim) n s)] 3 false)∧TrP r d b lim w0 rv dv b6 b7 c2 c3 c6 c7 km be w2∧w.next + 2 < w2.next:=by
   by_cases hlt:so.length < d.length
   ·have hG:=(hA hlt).resolve_right id
    refine ⟨hG.1,?_,hG.2.2⟩
    rw [hnx (n - 1) (by omega)]
    exact hG.2.1
   ·have hG:=hB hlt
    refine ⟨hG.1,?_,hG.2.2⟩
    have:n=0:=by omega
    subst this
    rw [leftG_end hso]
    exact hG.2.1
  obtain ⟨f1,f2,f3,f4⟩:=fin
  have l2':=hK2.lim
  subst hwe
  have l2q:w2.lim=w.lim:=l2'
  refine ⟨v9',w2,hc98,lp,f1,by rw [hlp]; rfl,by show w2.lim≤w.next + 2; omega,?_⟩
  have hp:lp.pending=none:=by rw [hlp]
  rw [hp]
  simp only
  generalize hH2:w2.heap.put (w.next + 2) _=H2
  have kZ:∀ x,x ≠ w.next + 2→H2.get x=w2.heap.get x:=fun x hx=>by rw [← hH2,get_put,if_neg hx]
  have hT6:TrP r d b lim w0 rv dv b6 b7 c2 c3 c6 c7 km be ⟨H2,w2.next,w2.lim⟩:=f3.keep (fun x hx=>kZ x (by omega)) (Nat.le_refl _) rfl
  obtain ⟨Lm,hLm,hKm⟩:=hT6.map
  have hup:=update_k (P:=Tryd.prog) (s:=143) map143 sg_ok hLm (by show w2.lim≤km; omega) s (leftG r d (soB b lim) n s)
  have hup:mapUpdateA Tryd.prog ⟨H2,w2.next,w2.lim⟩ 143 (.map (some km)) (.agg ⟨[.int .i64 s.done,.int .i64 s.last,.int .i64 s.row,.int .i64 s.lo,.int .i64 s.hi]⟩) (.int .i64 (leftG r d (soB b lim) n s))=_:=hup
  have q6:H2.get c6=some (.cells [.map (some km)] 143 false):=hT6.m6
  have q5:H2.get sb=some (.cells [.int .i64 s.done,.int .i64 s.last,.int .i64 s.row,.int .i64 s.lo,.int .i64 s.hi] 86 false):=by
   rw [kZ _ (by omega),hK2.keep sb (by show sb < w.next + 2 + 1; omega) (by omega)]
   show (Hh.put _ _).get sb=_
   rw [get_put,if_neg (by omega),kH _ hsb.2]; exact g5
  have q9:H2.get c9=some (.cells [.int .i64 (leftG r d (soB b lim) n s)] 3 false):=by rw [kZ _ (by omega)]; exact f2
  have n9:¬ c9=km:=by omega
  simp [v1,v5,v9,q6,q5,q9,hup,n9]
  refine hQ _ _ (hT6.upd hLm hKm s (by omega)) ⟨fun x hx hne=>?_,?_,l2'⟩ (by simp)
  ·show (H2.put km _).get x=_
   rw [get_put,if_neg (by omega),kZ _ (by omega),hK2.keep x (by show x < w.next + 2 + 1; omega) (by omega)]
   show (Hh.put _ _).get x=_
   rw [get_put,if_neg (by omega),kH _ hx]
  ·have:=hK2.next
   show w.next≤w2.next
   have e:(⟨Hh.put (w.next + 2) (some (.loop lp)),w.next + 2 + 1,w.lim⟩:AW).next=w.next + 2 + 1:=rfl
   omega
set_option maxHeartbeats 1000000 in
theorem step95 (m n:Nat) (h:HasL ov) (hR:ruleB r=true) (hD:daysB d=true) (hb:boxB b=true) (hl0:w0.lim≤w0.next) (hLim:LimW w0) (hrv:RowsV actC w0 rv r) (hdv:RowsV cdayC w0 dv d) (H:∀ n',n=n' + 1→H95 ov r d b lim w0 rv dv b6 b7 c2 c3 c6 c7 km be m n'):H95 ov r d b lim w0 rv dv b6 b7 c2 c3 c6 c7 km be (m + 3) n:=by
 intro s w hS hdn hT
 have hS':=hS
 obtain ⟨⟨so,hst,hsl⟩,hlh⟩:=hS'
 have hdl:=days_len hD
 have hf:FineS s:=fine_of hst (by omega)
 have hle:=hT.le
 have hwl:=hT.wl
 obtain ⟨l1,l2,l3,l4,l5,l6,hkm⟩:=hT.lt
 have hk0:=hT.ne.2.2.2.2.2.2
 obtain ⟨w1,hw1⟩:∃ w1:AW,w1=⟨w.heap.put w.next (some (.cells [.int .i64 s.done,.int .i64 s.last,.int .i64 s.row,.int .i64 s.lo,.int .i64 s.hi] 86 false)),w.next + 1,w.lim⟩:=⟨_,rfl⟩
 have u1:Up w w1:=by rw [hw1]; exact (Up.refl w).add _
 have n1:w1.next=w.next + 1:=by rw [hw1]
 have lm1:w1.lim=w.lim:=by rw [hw1]
 have gs1:w1.heap.get w.next=some (.cells (stgC s) 86 false):=by rw [hw1]; show (w.heap.put _ _).get _=_; rw [get_put,if_pos rfl]; rfl
 have hT1:=hT.up u1
 have uw:Up w0 w1:=⟨fun x hx=>hT1.old x hx,by omega,hT1.wl⟩
 obtain ⟨L,hL,hK⟩:=hT1.map
 have hlk:=lookup_k (P:=Tryd.prog) (s:=143) map143 sg_ok zero3 hL s true
 have g6:=hT.m6
 have g3:=hT.m3
 have m6:¬ c6=w.next:=by omega
 have m3:¬ c3=w.next:=by omega
 have hdt:d.length - s.done.toNat=n:=by rw [hst.done]; have:=hst.done; omega
 have goal:∃ v w',(run Tryd.prog ov (m + 3)).call 95 [.agg ⟨stgC s⟩,ptB c6,ptB c3,ptB c2,ptB c7] w .none=.ok (.ret v) w' .none∧v=.int .i64 (leftG r d (soB b lim) n s)∧AfP r d b lim w0 rv dv b6 b7 c2 c3 c6 c7 km be w w':=by
  refine call_wpY text95 (by simp) (h.o95 _ _) ?_
  cases hv:lookK L s with
  | some v =>
   have e:=hK s v hv
   rw [hdt] at e
   rw [hv,e] at hlk
   have hlk:lookupA Tryd.prog w1 143 (.map (some km)) (.agg ⟨[.int .i64 s.done,.int .i64 s.last,.int .i64 s.row,.int .i64 s.lo,.int .i64 s.hi]⟩) true=.val (.tuple ⟨[.int .i64 (leftG r d (soB b lim) n s),.bool true]⟩) w1:=hlk
   rw [hw1] at hlk
   simp [mc95_eq,ptB,stgC,g6,m6,hlk,tupV]
   rw [← hw1]
   exact ⟨hT1,(Kp.refl _ _).up u1⟩
  | none =>
   rw [hv] at hlk
   have hlk:lookupA Tryd.prog w1 143 (.map (some km)) (.agg ⟨[.int .i64 s.done,.int .i64 s.last,.int .i64 s.row,.int .i64 s.lo,.int .i64 s.hi]⟩) true=.val (.tuple ⟨[.int .i64 0,.bool false]⟩) w1:=hlk
   obtain ⟨_,w2,c75,rfl,u2⟩:=call75 (lim:=lim) m h.o75 h.h71 hb s hf hlh w1 (by omega) (hLim.up uw) hT1.bx hT1.lm (by omega) (by omega)
   have u12:=u1.trans u2
   have hT2:=hT.up u12
   have n2:=u2.next
   have lm2:=u2.lim
   have gs2:w2.heap.get w.next=some (.cells [.int .i64 s.done,.int .i64 s.last,.int .i64 s.row,.int .i64 s.lo,.int .i64 s.hi] 86 false):=(u2.at (by omega)).trans gs1
   have g62:=hT2.m6
   simp only [stgC,ptB] at c75
   simp only [fn75] at g3
   rw [hw1] at hlk c75
   cases hso:soB b lim s with
   | true =>
    rw [hso] at c75
    obtain ⟨L2,hL2,hK2⟩:=hT2.map
    have hup:=update_k (P:=Tryd.prog) (s:=143) map143 sg_ok hL2 (by omega) s (leftG r d (soB b lim) n s)
    have h0:leftG r d (soB b lim) n s=0:=leftG_so hso
    have hT3:=hT2.upd hL2 hK2 s hdt
    rw [h0] at hup hT3 ⊢
    have hup:mapUpdateA Tryd.prog w2 143 (.map (some km)) (.agg ⟨[.int .i64 s.done,.int .i64 s.last,.int .i64 s.row,.int .i64 s.lo,.int .i64 s.hi]⟩) (.int .i64 0)=_:=hup
    simp [mc95_eq,ptB,stgC,g6,g3,m6,m3,hlk,callV_func,c75,g62,gs2,hup,tupV]
    refine ⟨hT3,⟨fun x hx hne=>?_,?_,?_⟩⟩
    ·show (w2.heap.put km _).get x=_
     rw [get_put,if_neg hne]; exact u12.at hx
    ·exact u12.next
    ·exact u12.lim
   | false =>
    rw [hso] at c75
    have lw2:w2.lim≤w2.next:=by omega
    obtain ⟨w3,hw3⟩:∃ w3:AW,w3=⟨(w2.heap.put w2.next (some (.cells [.int .i64 0] 3 false))).put w2.next (some (.cells [.int .i64 15] 3 false)),w2.next + 1,w2.lim⟩:=⟨_,rfl⟩
    have u3:Up w2 w3:=by rw [hw3]; exact ((Up.refl w2).add _).put (Nat.le_refl _) (Nat.le_refl _)
    have n3:w3.next=w2.next + 1:=by rw [hw3]
    have g93:w3.heap.get w2.next=some (.cells [.int .i64 15] 3 false):=by rw [hw3]; show ((w2.heap.put _ _).put _ _).get _=_; rw [get_put,if_pos rfl]
    have u13:=u12.trans u3
    simp [mc95_eq,mc95_r1,ptB,stgC,g6,g3,m6,m3,hlk,callV_func,c75,lw2]
    rw [← hw3]
    refine tail95 m n h hR hD H s hS hdn hso w3 (hT.up u13) hl0 hrv hdv w.next w2.next ⟨by omega,by omega⟩ ⟨by omega,by omega⟩ (by omega) (by rw [u3.at (by omega)]; exact gs2) g93 _ _ ?_ ?_ ?_ ?_ ?_ ?_
    ·simp [ptB]
    ·simp [ptB]
    ·simp [ptB]
    ·simp [ptB]
    ·simp [ptB]
    ·intro t w' hT' hK' t6
     simp [t6,tupV]
     refine ⟨hT',⟨fun x hx hne=>?_,?_,?_⟩⟩
     ·have:=u13.next
      rw [hK'.keep x (by omega) (by have:=u12.next; omega)]; exact u13.at hx
     ·have:=u13.next; have:=hK'.next; omega
     ·have:=u13.lim; have:=hK'.lim; omega
 obtain ⟨_,w',h1,rfl,h2⟩:=goal
 exact ⟨w',h1,h2⟩
theorem call95 (h:HasL ov) (hR:ruleB r=true) (hD:daysB d=true) (hb:boxB b=true) (hl0:w0.lim≤w0.next) (hLim:LimW w0) (hrv:RowsV actC w0 rv r) (hdv:RowsV cdayC w0 dv d):∀ n m,H95 ov r d b lim w0 rv dv b6 b7 c2 c3 c6 c7 km be (m + 3 * n + 3) n
 | 0,m=>step95 m 0 h hR hD hb hl0 hLim hrv hdv fun n' e=>by omega
 | n + 1,m=>by
  have e:m + 3 * (n + 1) + 3=(m + 3 * n + 3) + 3:=by omega
  rw [e]
  refine step95 (m + 3 * n + 3) (n + 1) h hR hD hb hl0 hLim hrv hdv fun n' e=>?_
  have e:n'=n:=by omega
  subst e
  exact call95 h hR hD hb hl0 hLim hrv hdv n' m
end
theorem st_i3 {w:AW} {B k:Nat} {L:List Int} {v:Int} (hk:k < L.length) (hl:w.lim≤B):wrO w B k [.int .i64 v] (some (.cells (L.flatMap intC) 3 false))=some ⟨w.heap.put B (some (.cells ((L.set k v).flatMap intC) 3 false)),w.next,w.lim⟩:=by
 have hlen:(L.flatMap intC).length=L.length * 1:=flat_length intC_length L
 have:=flat_set intC_length L k v hk
 simp only [Nat.mul_one] at this
 rw [wrO_cells (by simp) hl (by simp [hlen]; omega),← this]
 rfl
theorem next_last {r:List CAct} {d:List CDay} {s s':Stg} {i:Nat} (h:nextS r d s ((i:Nat):Int)=some s'):s'.last=(i:Int):=by
 obtain ⟨j,hj,hjr⟩:=next_nat h
 have:j=i:=by omega
 subst this
 obtain ⟨x,hx⟩:∃ x,r[j]?=some x:=⟨_,List.getElem?_eq_getElem hjr⟩
 cases hd:d[s.done.toNat]? with
 | none=>unfold nextS at h; rw [hd] at h; cases h
 | some y =>
  rw [next_at hd hx] at h
  split at h
  ·cases Option.some.inj h; rfl
  ·cases h
structure D74 (r:List CAct) (d:List CDay) (b:CBox) (lim:Sp) (w0:AW) (rv dv:Value) (b6 b7 c2 c3 c6 c7 km be c8 c9 cA c10 k:Nat) (s:Stg) (l:List Int) (w:AW):Prop where
 tr:TrP r d b lim w0 rv dv b6 b7 c2 c3 c6 c7 km be w
 g8:w.heap.get c8=some (.cells (stgC s) 86 false)
 g9:w.heap.get c9=some (.cells [.int .i64 (k:Int)] 3 false)
 gA:w.heap.get cA=some (.cells (l.flatMap intC) 3 false)
 g10:w.heap.get c10=some (.cells [.slice (some ⟨cA,0,none⟩) k k] 28 false)
 len:l.length=k
 ord:be≤c8∧c8 < c9∧c9 < cA∧cA < c10∧c10 < w.next
section
variable {ov:Ov} {r:List CAct} {d:List CDay} {b:CBox} {lim:Sp} {w0:AW} {rv dv:Value} {b6 b7 c2 c3 c6 c7 km be c8 c9 cA c10 k:Nat}
theorem D74.keep {s:Stg} {l:List Int} {w w':AW} (h:D74 r d b lim w0 rv dv b6 b7 c2 c3 c6 c7 km be c8 c9 cA c10 k s l w) (q:∀ x,x≤c10→w'.heap.get x=w.heap.get x) (hn:w.next≤w'.next) (hl:w'.lim=w.lim):D74 r d b lim w0 rv dv b6 b7 c2 c3 c6 c7 km be c8 c9 cA c10 k s l w':=by
 obtain ⟨o1,o2,o3,o4,o5⟩:=h.ord
 exact ⟨h.tr.keep (fun x hx=>q x (by omega)) hn hl,by rw [q _ (by omega)]; exact h.g8,by rw [q _ (by omega)]; exact h.g9,by rw [q _ (by omega)]; exact h.gA,by rw [q _ (by omega)]; exact h.g10,h.len,o1,o2,o3,o4,by omega⟩
theorem D74.after {s:Stg} {l:List Int} {w w':AW} (h:D74 r d b lim w0 rv dv b6 b7 c2 c3 c6 c7 km be c8 c9 cA c10 k s l w) (hA:AfP r d b lim w0 rv dv b6 b7 c2 c3 c6 c7 km be w w'):D74 r d b lim w0 rv dv b6 b7 c2 c3 c6 c7 km be c8 c9 cA c10 k s l w':=by
 obtain ⟨o1,o2,o3,o4,o5⟩:=h.ord
 have hkm:=h.tr.lt.2.2.2.2.2.2
 have q:∀ x,x < w.next→be≤x→w'.heap.get x=w.heap.get x:=fun x h1 h2=>hA.2.keep x h1 (by omega)
 exact ⟨hA.1,by rw [q _ (by omega) (by omega)]; exact h.g8,by rw [q _ (by omega) (by omega)]; exact h.g9,by rw [q _ (by omega) (by omega)]; exact h.gA,by rw [q _ (by omega) (by omega)]; exact h.g10,h.len,o1,o2,o3,o4,by have:=hA.2.next; omega⟩
theorem D74.take {s s':Stg} {l:List Int} {w:AW} (h:D74 r d b lim w0 rv dv b6 b7 c2 c3 c6 c7 km be c8 c9 cA c10 k s l w) (i:Nat) (a:Int):D74 r d b lim w0 rv dv b6 b7 c2 c3 c6 c7 km be c8 c9 cA c10 k s' (l.set i a) ⟨(w.heap.put cA (some (.cells ((l.set i a).flatMap intC) 3 false))).put c8 (some (.cells (stgC s') 86 false)),w.next,w.lim⟩:=by
 obtain ⟨o1,o2,o3,o4,o5⟩:=h.ord
 have q:∀ x,x ≠ cA→x ≠ c8→(⟨(w.heap.put cA (some (.cells ((l.set i a).flatMap intC) 3 false))).put c8 (some (.cells (stgC s') 86 false)),w.next,w.lim⟩:AW).heap.get x=w.heap.get x:=fun x h1 h2=>by
  show ((w.heap.put _ _).put _ _).get x=_
  rw [get_put,if_neg h2,get_put,if_neg h1]
 refine ⟨h.tr.keep (fun x hx=>q x (by omega) (by omega)) (Nat.le_refl _) rfl,?_,by rw [q _ (by omega) (by omega)]; exact h.g9,?_,by rw [q _ (by omega) (by omega)]; exact h.g10,by rw [List.length_set]; exact h.len,o1,o2,o3,o4,o5⟩
 ·show ((w.heap.put _ _).put _ _).get _=_
  rw [get_put,if_pos rfl]
 ·show ((w.heap.put _ _).put _ _).get _=_
  rw [get_put,if_neg (by omega),get_put,if_pos rfl]
theorem body74 (m n:Nat) (H:H95 ov r d b lim w0 rv dv b6 b7 c2 c3 c6 c7 km be m n) (s s':Stg) (l:List Int) (hS:OkS r d s') (hdn:s'.done + (n:Int)=(d.length:Int)) (w:AW) (hD:D74 r d b lim w0 rv dv b6 b7 c2 c3 c6 c7 km be c8 c9 cA c10 k s l w) (hl0:w0.lim≤w0.next) (hk:k≤100) (i:Nat) (hi:i < k) (c11 c12:Nat) (h11:c10 < c11∧c11 < w.next) (h12:c10 < c12∧c12 < w.next) (g11:w.heap.get c11=some (.cells [.int .i64 (i:Int)] 3 false)) (g12:w.heap.get c12=some (.cells (stgC s') 86 false)) (Q:Ex→Tm→AW→Prop) (t:Tm) (t7:tget t 7=ptB c7) (t8:tget t 8=ptB c8) (t9:tget t 9=ptB c9) (t10:tget t 10=ptB c10) (t11:tget t 11=ptB c11) (t12:tget t 12=ptB c12)
  (hno:leftG r d (soB b lim) n s' ≠ (k:Int) - (i:Int) - 1→∀ t w5,AfP r d b lim w0 rv dv b6 b7 c2 c3 c6 c7 km be w w5→Q .normal t w5)
  (hyes:leftG r d (soB b lim) n s'=(k:Int) - (i:Int) - 1→∀ t w5,AfP r d b lim w0 rv dv b6 b7 c2 c3 c6 c7 km be w w5→Q (.exit 2) t ⟨(w5.heap.put cA (some (.cells ((l.set i s'.last).flatMap intC) 3 false))).put c8 (some (.cells (stgC s') 86 false)),w5.next,w5.lim⟩):wp (exY Tryd.prog (run Tryd.prog ov m) mc74_b0 t w) Q:=by
 obtain ⟨w5,c95,hA⟩:=H s' w hS hdn hD.tr
 have hD5:=hD.after hA
 obtain ⟨o1,o2,o3,o4,o5⟩:=hD.ord
 have hkm:=hD.tr.lt.2.2.2.2.2.2
 have hk0:=hD.tr.ne.2.2.2.2.2.2
 have q5:∀ x,x < w.next→be≤x→w5.heap.get x=w.heap.get x:=fun x h1 h2=>hA.2.keep x h1 (by omega)
 have g115:w5.heap.get c11=some (.cells [.int .i64 (i:Int)] 3 false):=by rw [q5 _ (by omega) (by omega)]; exact g11
 have g125:w5.heap.get c12=some (.cells (stgC s') 86 false):=by rw [q5 _ (by omega) (by omega)]; exact g12
 have g9:=hD.g9
 have g95:=hD5.g9
 have gA5:=hD5.gA
 have g105:=hD5.g10
 have g85:=hD5.g8
 have g7:=hD.tr.m7
 have w1':IntKind.wrap .i64 ((k:Int) - (i:Int))=(k:Int) - (i:Int):=wrap64_in (by omega) (by omega)
 have w2':IntKind.wrap .i64 ((k:Int) - (i:Int) - 1)=(k:Int) - (i:Int) - 1:=wrap64_in (by omega) (by omega)
 have hwl:=hA.1.wl
 have lA:w5.lim≤cA:=by omega
 have l8:w5.lim≤c8:=by omega
 have hia:∀ w',indexAddrA Tryd.prog w' 28 (.slice (some ⟨cA,0,none⟩) k k) (.int .i64 (i:Int))=.val (.pointer (some ⟨cA,i,none⟩)) w':=fun w'=>by
  have e:(⟨cA,0,none⟩:Addr).add (i * 1)=⟨cA,i,none⟩:=by
   by_cases h:i=0
   ·subst h; rfl
   ·simp [Addr.add,h]
  rw [← e]; exact ia28 w' ⟨cA,0,none⟩ k k .i64 i hi
 have hst:=st_i3 (w:=w5) (B:=cA) (k:=i) (L:=l) (v:=s'.last) (by rw [hD.len]; exact hi) lA
 simp only [fn95] at g7
 simp only [ptB] at t7 t8 t9 t10 t11 t12 c95 g7
 have n8A:¬ c8=cA:=by omega
 have n12A:¬ c12=cA:=by omega
 have sm:sameVal 5 (.agg ⟨[.int .i64 s'.done,.int .i64 s'.last,.int .i64 s'.row,.int .i64 s'.lo,.int .i64 s'.hi]⟩) (.agg ⟨[.int .i64 s'.done,.int .i64 s'.last,.int .i64 s'.row,.int .i64 s'.lo,.int .i64 s'.hi]⟩)=true:=same_agg _ (by
   intro v hv
   simp only [List.mem_cons,List.not_mem_nil,or_false] at hv
   rcases hv with rfl | rfl | rfl | rfl | rfl <;> exact sameN_int _ _ _)
 by_cases he:leftG r d (soB b lim) n s'=(k:Int) - (i:Int) - 1
 ·have fin:=hyes he
  rw [he] at c95
  simp only [stgC] at g12 c95 g125 g85 fin
  simp [mc74_b0,t7,t8,t9,t10,t11,t12,g9,g11,g7,g12,callV_func,c95,w1',w2',g95,g115,g125,g105,hia,gA5,hst,g85,n8A,n12A,l8,cellsOf_agg,sm]
  exact fin _ w5 hA
 ·simp only [stgC] at g12 c95 g125
  simp [mc74_b0,t7,t8,t9,t10,t11,t12,g9,g11,g7,g12,callV_func,c95,w1',w2',g95,g115,he]
  exact hno he _ w5 hA
theorem steps74 (m n:Nat) (H:H95 ov r d b lim w0 rv dv b6 b7 c2 c3 c6 c7 km be m n) (s s':Stg) (l:List Int) (hS:OkS r d s') (hdn:s'.done + (n:Int)=(d.length:Int)) (w:AW) (hD:D74 r d b lim w0 rv dv b6 b7 c2 c3 c6 c7 km be c8 c9 cA c10 k s l w) (hl0:w0.lim≤w0.next) (hk:k≤100) (i:Nat) (hi:i < k) (L c11:Nat) (hL:c10 < L∧L < w.next) (h11:c10 < c11∧c11 < w.next) (h11L:c11 ≠ L) (g11:w.heap.get c11=some (.cells [.int .i64 (i:Int)] 3 false)) (TT:Tm) (t7:tget TT 7=ptB c7) (t8:tget TT 8=ptB c8) (t9:tget TT 9=ptB c9) (t10:tget TT 10=ptB c10) (t11:tget TT 11=ptB c11)
  (lp:ALoop) (hlp:lp=⟨47,TT,[30],(rfOf Tryd.prog 74 0).1,(rfOf Tryd.prog 74 0).2,none,.ready⟩) (gL:w.heap.get L=some (.loop lp)) :
  ∃ go w',yieldA (run Tryd.prog ov (m + 1)) L [.agg ⟨stgC s'⟩] w=.val go w'∧Kp (fun x=>x=km∨x=L∨x=c8∨x=cA) w w'∧(go=true→leftG r d (soB b lim) n s' ≠ (k:Int) - (i:Int) - 1∧D74 r d b lim w0 rv dv b6 b7 c2 c3 c6 c7 km be c8 c9 cA c10 k s l w'∧w'.heap.get L=some (.loop lp))∧(go=false→leftG r d (soB b lim) n s'=(k:Int) - (i:Int) - 1∧D74 r d b lim w0 rv dv b6 b7 c2 c3 c6 c7 km be c8 c9 cA c10 k s' (l.set i s'.last) w'∧w'.heap.get L=some (.loop ⟨47,TT,[30],(rfOf Tryd.prog 74 0).1,(rfOf Tryd.prog 74 0).2,some (.exit 2),.done⟩)):=by
 obtain ⟨o1,o2,o3,o4,o5⟩:=hD.ord
 have hle:=hD.tr.le
 have hwl:=hD.tr.wl
 have hkm:=hD.tr.lt.2.2.2.2.2.2
 have hk0:=hD.tr.ne.2.2.2.2.2.2
 have lw:w.lim≤w.next:=by omega
 have eL:¬ L=w.next:=by omega
 have lL:w.lim≤L:=by omega
 subst hlp
 obtain ⟨C,hC⟩:∃ C:AObj,C=.cells [.int .i64 s'.done,.int .i64 s'.last,.int .i64 s'.row,.int .i64 s'.lo,.int .i64 s'.hi] 86 false:=⟨_,rfl⟩
 obtain ⟨wB,hwB⟩:∃ wB:AW,wB=⟨((w.heap.put w.next (some (.cells [.int .i64 0,.int .i64 0,.int .i64 0,.int .i64 0,.int .i64 0] 86 false))).put w.next (some C)).put L (some (.loop ⟨47,TT,[30],(rfOf Tryd.prog 74 0).1,(rfOf Tryd.prog 74 0).2,none,.busy⟩)),w.next + 1,w.lim⟩:=⟨_,rfl⟩
 have nB:wB.next=w.next + 1:=by rw [hwB]
 have lB:wB.lim=w.lim:=by rw [hwB]
 have kB:∀ x,x < w.next→x ≠ L→wB.heap.get x=w.heap.get x:=fun x h1 h2=>by
  rw [hwB]
  show (((w.heap.put _ _).put _ _).put _ _).get x=_
  rw [get_put,if_neg h2,get_put,if_neg (by omega),get_put,if_neg (by omega)]
 have gB:wB.heap.get w.next=some C:=by
  rw [hwB]
  show (((w.heap.put _ _).put _ _).put _ _).get _=_
  rw [get_put,if_neg (by omega),get_put,if_pos rfl]
 have gLB:wB.heap.get L=some (.loop ⟨47,TT,[30],(rfOf Tryd.prog 74 0).1,(rfOf Tryd.prog 74 0).2,none,.busy⟩):=by
  rw [hwB]
  show (((w.heap.put _ _).put _ _).put _ _).get _=_
  rw [get_put,if_pos rfl]
 have hDB:D74 r d b lim w0 rv dv b6 b7 c2 c3 c6 c7 km be c8 c9 cA c10 k s l wB:=hD.keep (fun x hx=>kB x (by omega) (by omega)) (by omega) lB
 obtain ⟨j,w',hy,hQ⟩:=yield_wp (P:=Tryd.prog) (ov:=ov) (m:=m) (l:=L) (args:=[.agg ⟨stgC s'⟩]) (w:=w) (Q:=fun j w'=>∃ w5,AfP r d b lim w0 rv dv b6 b7 c2 c3 c6 c7 km be wB w5∧((leftG r d (soB b lim) n s' ≠ (k:Int) - (i:Int) - 1∧j=none∧w'=⟨w5.heap.put L (some (.loop ⟨47,TT,[30],(rfOf Tryd.prog 74 0).1,(rfOf Tryd.prog 74 0).2,none,.ready⟩)),w5.next,w5.lim⟩)∨(leftG r d (soB b lim) n s'=(k:Int) - (i:Int) - 1∧j=some (.exit 2)∧w'=⟨((w5.heap.put cA (some (.cells ((l.set i s'.last).flatMap intC) 3 false))).put c8 (some (.cells (stgC s') 86 false))).put L (some (.loop ⟨47,TT,[30],(rfOf Tryd.prog 74 0).1,(rfOf Tryd.prog 74 0).2,some (.exit 2),.done⟩)),w5.next,w5.lim⟩))) gL rfl rfl ta74_0 tb74_0 (by
  simp [mc74_a0,stgC,cellsOf_agg,lw,lL,eL,gL]
  rw [← hC,← hwB]
  refine body74 m n H s s' l hS hdn wB hDB hl0 hk i hi c11 w.next ⟨h11.1,by omega⟩ ⟨by omega,by omega⟩ (by rw [kB c11 h11.2 h11L]; exact g11) (by rw [gB,hC]; rfl) _ _ ?_ ?_ ?_ ?_ ?_ ?_ ?_ ?_
  ·simp [t7]
  ·simp [t8]
  ·simp [t9]
  ·simp [t10]
  ·simp [t11]
  ·simp [ptB]
  ·intro hne t w5 hA
   have gL5:w5.heap.get L=some (.loop ⟨47,TT,[30],(rfOf Tryd.prog 74 0).1,(rfOf Tryd.prog 74 0).2,none,.busy⟩):=by rw [hA.2.keep L (by omega) (by omega)]; exact gLB
   have l5:=hA.2.lim
   exact ⟨none,rfl,⟨47,TT,[30],(rfOf Tryd.prog 74 0).1,(rfOf Tryd.prog 74 0).2,none,.busy⟩,gL5,⟨rfl,rfl,rfl,rfl,rfl⟩,by omega,w5,hA,.inl ⟨hne,rfl,rfl,rfl,rfl⟩⟩
  ·intro heq t w5 hA
   have gL5:w5.heap.get L=some (.loop ⟨47,TT,[30],(rfOf Tryd.prog 74 0).1,(rfOf Tryd.prog 74 0).2,none,.busy⟩):=by rw [hA.2.keep L (by omega) (by omega)]; exact gLB
   have l5:=hA.2.lim
   refine ⟨some (.exit 2),rfl,⟨47,TT,[30],(rfOf Tryd.prog 74 0).1,(rfOf Tryd.prog 74 0).2,none,.busy⟩,?_,⟨rfl,rfl,rfl,rfl,rfl⟩,by show w5.lim≤L; omega,w5,hA,.inr ⟨heq,rfl,by rw [hC]; rfl,rfl,rfl⟩⟩
   show ((w5.heap.put _ _).put _ _).get L=_
   rw [get_put,if_neg (by omega),get_put,if_neg (by omega)]; exact gL5)
 obtain ⟨w5,hA,hor⟩:=hQ
 have hD5:=hDB.after hA
 have n5:=hA.2.next
 have l5:=hA.2.lim
 rcases hor with ⟨hne,rfl,hw'⟩ | ⟨heq,rfl,hw'⟩
 ·refine ⟨true,w',hy,⟨fun x hx hx2=>?_,?_,?_⟩,fun _=>⟨hne,?_,?_⟩,fun hh=>by cases hh⟩
  ·rw [hw']
   show (w5.heap.put _ _).get x=_
   rw [get_put,if_neg (by omega),hA.2.keep x (by omega) (by omega),kB x hx (by omega)]
  ·rw [hw']; show w.next≤w5.next; omega
  ·rw [hw']; show w5.lim=w.lim; omega
  ·rw [hw']
   refine hD5.keep (fun x hx=>?_) (Nat.le_refl _) rfl
   show (w5.heap.put _ _).get x=_
   rw [get_put,if_neg (by omega)]
  ·rw [hw']
   show (w5.heap.put _ _).get L=_
   rw [get_put,if_pos rfl]
 ·refine ⟨false,w',hy,⟨fun x hx hx2=>?_,?_,?_⟩,(fun hh=>by cases hh),fun _=>⟨heq,?_,?_⟩⟩
  ·rw [hw']
   show (((w5.heap.put _ _).put _ _).put _ _).get x=_
   rw [get_put,if_neg (by omega),get_put,if_neg (by omega),get_put,if_neg (by omega),hA.2.keep x (by omega) (by omega),kB x hx (by omega)]
  ·rw [hw']; show w.next≤w5.next; omega
  ·rw [hw']; show w5.lim=w.lim; omega
  ·rw [hw']
   refine (hD5.take (s':=s') i s'.last).keep (fun x hx=>?_) (Nat.le_refl _) rfl
   show (((w5.heap.put _ _).put _ _).put _ _).get x=((w5.heap.put _ _).put _ _).get x
   rw [get_put,if_neg (by omega)]
  ·rw [hw']
   show (((w5.heap.put _ _).put _ _).put _ _).get L=_
   rw [get_put,if_pos rfl]
end
noncomputable def mc74_r2:MY:=.seq (.mc (.seq (.ops [⟨false,none,some 19,3,.load 3 (.tmp 9)⟩,⟨false,none,some 20,4,.binOp .eql 3 (.tmp 19) (.const (.int .i64 15)) 3⟩]) (.cond (.tmp 20) (.seq (.ops [⟨false,none,some 4,28,.assign (.const (.slice none 0 0))⟩,⟨false,none,some 5,4,.assign (.const (.bool false))⟩]) (.ret)) (.skip)))) (.seq (.mc (.ops [⟨false,none,some 21,3,.load 3 (.tmp 9)⟩,⟨false,none,some 22,28,.makeSlice 28 (.tmp 21) (.tmp 21)⟩,⟨false,none,some 10,0,.alloc 28⟩,⟨false,none,none,0,.store 28 (.tmp 10) (.tmp 22)⟩])) (.seq (.seq (.mc (.ops [⟨false,none,some 23,3,.load 3 (.tmp 9)⟩,⟨false,none,some 24,3,.move (.const (.int .i64 0))⟩])) (.block 0 (.loop mc74_l0))) (.mc (.seq (.ops [⟨false,none,some 46,28,.load 28 (.tmp 10)⟩,⟨false,none,some 4,28,.assign (.tmp 46)⟩,⟨false,none,some 5,4,.assign (.const (.bool true))⟩]) (.ret)))))
noncomputable def mc74_r1:MY:=.seq (.opy [⟨false,none,some 16,144,.load 144 (.tmp 7)⟩,⟨false,none,some 17,86,.load 86 (.tmp 8)⟩,⟨false,none,some 18,3,.call ⟨.value (.tmp 16),#[.tmp 17],#[86]⟩⟩,⟨false,none,some 9,0,.alloc 3⟩,⟨false,none,none,0,.store 3 (.tmp 9) (.tmp 18)⟩]) mc74_r2
theorem mc74_eq:mc74=.seq (.mc (.ops [⟨false,none,some 2,0,.box 89 (.tmp 0)⟩,⟨false,none,some 3,0,.box 120 (.tmp 1)⟩,⟨false,none,some 4,28,.assign (.const (.slice none 0 0))⟩,⟨false,none,some 5,4,.assign (.const (.bool false))⟩])) (.seq (.mc (.ops [⟨false,none,some 13,143,.makeMap 143 none⟩,⟨false,none,some 6,0,.alloc 143⟩,⟨false,none,none,0,.store 143 (.tmp 6) (.tmp 13)⟩])) (.seq (.mc (.ops [⟨false,none,some 7,0,.alloc 144⟩])) (.seq (.mc (.ops [⟨false,none,some 14,144,.makeFunc (.func 95) #[] #[.tmp 6,.tmp 3,.tmp 2,.tmp 7]⟩,⟨false,none,none,0,.store 144 (.tmp 7) (.tmp 14)⟩])) (.seq (.mc (.ops [⟨false,none,some 15,86,.call ⟨.value (.func 78),#[],#[]⟩⟩,⟨false,none,some 8,0,.alloc 86⟩,⟨false,none,none,0,.store 86 (.tmp 8) (.tmp 15)⟩])) mc74_r1)))):=rfl
theorem Pre.ok {r:List CAct} {d:List CDay} {so:Stg→Bool} {n k:Nat} (hR:ruleB r=true) {p:List Int} {s:Stg} (h:Pre r d so n k p s):OkS r d s∧s.done=(p.length:Int):=by
 induction h with
 | nil=>exact ⟨OkS.start r d,rfl⟩
 | snoc h1 h2 h3 h4 h5 ih =>
  obtain ⟨q1,q2⟩:=ih.1.next hR h3
  refine ⟨q1,?_⟩
  rw [q2,ih.2,List.length_append,List.length_singleton]
  omega
section
variable {ov:Ov} {r:List CAct} {d:List CDay} {b:CBox} {lim:Sp} {w0:AW} {rv dv:Value} {b6 b7 c2 c3 c6 c7 km be c8 c9 cA c10:Nat}
set_option maxHeartbeats 1000000 in
theorem loop74 (m:Nat) (h:HasL ov) (hR:ruleB r=true) (hD:daysB d=true) (hb:boxB b=true) (hl0:w0.lim≤w0.next) (hLim:LimW w0) (hrv:RowsV actC w0 rv r) (hdv:RowsV cdayC w0 dv d) (k:Nat) (h15:k < 15) (h0:leftG r d (soB b lim) d.length startS=(k:Int)) (l0:List Int) (w:AW) (hw:D74 r d b lim w0 rv dv b6 b7 c2 c3 c6 c7 km be c8 c9 cA c10 k startS l0 w) (Q:Ex→Tm→AW→Prop) (t:Tm) (t2:tget t 2=ptB c2) (t7:tget t 7=ptB c7) (t8:tget t 8=ptB c8) (t9:tget t 9=ptB c9) (t10:tget t 10=ptB c10) (t23:tget t 23=.int .i64 (k:Int)) (t24:tget t 24=.int .i64 0)
  (hQ:∀ t w p s,Pre r d (soB b lim) d.length k p s→p.length=k→D74 r d b lim w0 rv dv b6 b7 c2 c3 c6 c7 km be c8 c9 cA c10 k s p w→tget t 10=ptB c10→Q (.exit 0) t w):wp (exY Tryd.prog (run Tryd.prog ov (m + 3 * d.length + 3)) (.loop mc74_l0) t w) Q:=by
 have hdl:=days_len hD
 refine wp_roundsY (fun i t w=>∃ p s l,Pre r d (soB b lim) d.length k p s∧p.length=i∧i≤k∧D74 r d b lim w0 rv dv b6 b7 c2 c3 c6 c7 km be c8 c9 cA c10 k s l w∧l.take i=p∧tget t 2=ptB c2∧tget t 7=ptB c7∧tget t 8=ptB c8∧tget t 9=ptB c9∧tget t 10=ptB c10∧tget t 23=.int .i64 (k:Int)∧tget t 24=.int .i64 (i:Int)) 20 (by decide) ⟨[],startS,l0,Pre.nil,rfl,Nat.zero_le _,hw,rfl,t2,t7,t8,t9,t10,t23,by simpa using t24⟩ ?_
 clear t2 t7 t8 t9 t10 t23 t24 hw t w
 rintro i t w ⟨p,s,l,hP,hpl,hik,hw,hlt,t2,t7,t8,t9,t10,t23,t24⟩
 simp only [ptB] at t2 t7 t8 t9 t10
 by_cases hlt2:i < k
 ·have hlti:(i:Int) < (k:Int):=by omega
  obtain ⟨hS,hdn⟩:=hP.ok hR
  have hS':=hS
  obtain ⟨⟨so,hst,hsl⟩,hlh⟩:=hS'
  have hf:FineS s:=fine_of hst (by omega)
  have hso:s.done=(so.length:Nat):=hst.done
  have hsi:so.length=i:=by omega
  obtain ⟨hmn,i1,s1,hi1,hn1,hl1⟩:=hP.more h15 h0 (by omega)
  obtain ⟨n',hn'⟩:∃ n',n'=d.length - p.length - 1:=⟨_,rfl⟩
  rw [← hn'] at hl1
  obtain ⟨o1,o2,o3,o4,o5⟩:=hw.ord
  have hle:=hw.tr.le
  have hwl:=hw.tr.wl
  obtain ⟨z1,z2,z3,z4,z5,z6,hkm⟩:=hw.tr.lt
  have hk0:=hw.tr.ne.2.2.2.2.2.2
  have H:H95 ov r d b lim w0 rv dv b6 b7 c2 c3 c6 c7 km be (m + 3 * d.length + 1) n':=by
   have e:m + 3 * d.length + 1=(m + 3 * i + 1) + 3 * n' + 3:=by omega
   rw [e]
   exact call95 h hR hD hb hl0 hLim hrv hdv n' (m + 3 * i + 1)
  have lw:w.lim≤w.next:=by omega
  have g2:=hw.tr.m2
  have g8:=hw.g8
  have m2:¬ c2=w.next:=by omega
  have m8:¬ c8=w.next:=by omega
  have hw1:IntKind.wrap .i64 ((i:Int) + 1)=(i:Int) + 1:=wrap64_in (by omega) (by omega)
  obtain ⟨_,_,c79,rfl,rfl⟩:=call79 (ov:=ov) (m + 3 * d.length + 2) h.o79 rv dv s ⟨(w.heap.put w.next (some (.cells [.int .i64 0] 3 false))).put w.next (some (.cells [.int .i64 (i:Int)] 3 false)),w.next + 1,w.lim⟩
  have g8':=g8
  simp only [stgC] at g8' c79
  simp [mc74_l0,t2,t8,t23,t24,hlti,hlt2,lw,g2,g8',m2,m8,c79]
  obtain ⟨Hh,hH⟩:∃ Hh,Hh=(((w.heap.put w.next (some (.cells [.int .i64 0] 3 false))).put w.next (some (.cells [.int .i64 (i:Int)] 3 false))).put (w.next + 1) (some (.cells [rv,dv] 89 false))).put (w.next + 1 + 1) (some (.cells [.int .i64 s.done,.int .i64 s.last,.int .i64 s.row,.int .i64 s.lo,.int .i64 s.hi] 86 false)):=⟨_,rfl⟩
  rw [← hH]
  have kH:∀ x,x < w.next→Hh.get x=w.heap.get x:=fun x hx=>by rw [hH,get_put,if_neg (by omega),get_put,if_neg (by omega),get_put,if_neg (by omega),get_put,if_neg (by omega)]
  have gH1:Hh.get (w.next + 1 + 1)=some (.cells (stgC s) 86 false):=by rw [hH,get_put,if_pos rfl]; rfl
  have gH2:Hh.get (w.next + 1)=some (.cells [rv,dv] 89 false):=by rw [hH,get_put,if_neg (by omega),get_put,if_pos rfl]
  have gH3:Hh.get w.next=some (.cells [.int .i64 (i:Int)] 3 false):=by rw [hH,get_put,if_neg (by omega),get_put,if_neg (by omega),get_put,if_pos rfl]
  clear hH
  refine wp_seqX (wp_blockX (wp_blockX (rf_wp (g:=98) (gargs:=[.func (.yield (w.next + 1 + 2)) ⟨[]⟩ ⟨[]⟩,.pointer (some ⟨w.next + 1 + 1,0,none⟩),.pointer (some ⟨w.next + 1,0,none⟩)]) ?_ ?_)))
  ·simp [fun98,callV_func]
  ·generalize hTT:tset _ 29 _=TT
   have v2:tget TT 2=ptB c2:=by rw [← hTT]; simp [t2,ptB]
   have v7:tget TT 7=ptB c7:=by rw [← hTT]; simp [t7,ptB]
   have v8:tget TT 8=ptB c8:=by rw [← hTT]; simp [t8,ptB]
   have v9:tget TT 9=ptB c9:=by rw [← hTT]; simp [t9,ptB]
   have v10:tget TT 10=ptB c10:=by rw [← hTT]; simp [t10,ptB]
   have v11:tget TT 11=ptB w.next:=by rw [← hTT]; simp [ptB]
   have v23:tget TT 23=.int .i64 (k:Int):=by rw [← hTT]; simp [t23]
   have v24:tget TT 24=.int .i64 (i:Int):=by rw [← hTT]; simp [t24]
   clear hTT
   obtain ⟨lp,hlp⟩:∃ lp:ALoop,lp=⟨47,TT,[30],(rfOf Tryd.prog 74 0).1,(rfOf Tryd.prog 74 0).2,none,.ready⟩:=⟨_,rfl⟩
   obtain ⟨lq,hlq⟩:∃ lp:ALoop,lp=⟨47,TT,[30],(rfOf Tryd.prog 74 0).1,(rfOf Tryd.prog 74 0).2,some (.exit 2),.done⟩:=⟨_,rfl⟩
   rw [← hlp]
   obtain ⟨L,hL⟩:∃ L,L=w.next + 1 + 2:=⟨_,rfl⟩
   obtain ⟨we,hwe⟩:∃ we:AW,we=⟨Hh.put (w.next + 1 + 2) (some (.loop lp)),w.next + 1 + 2 + 1,w.lim⟩:=⟨_,rfl⟩
   have ne:we.next=w.next + 4:=by rw [hwe]
   have le:we.lim=w.lim:=by rw [hwe]
   have kE:∀ x,x < w.next + 3→we.heap.get x=Hh.get x:=fun x hx=>by rw [hwe]; show (Hh.put _ _).get x=_; rw [get_put,if_neg (by omega)]
   have gLe:we.heap.get L=some (.loop lp):=by rw [hwe,hL]; show (Hh.put _ _).get _=_; rw [get_put,if_pos rfl]
   have hDe:D74 r d b lim w0 rv dv b6 b7 c2 c3 c6 c7 km be c8 c9 cA c10 k s l we:=hw.keep (fun x hx=>by rw [kE x (by omega),kH x (by omega)]) (by omega) le
   have ue:Up w0 we:=⟨fun x hx=>hDe.tr.old x hx,by omega,hDe.tr.wl⟩
   obtain ⟨v9',w2,hc98,hK2,hA,hB⟩:=call98g (G:=fun j w'=>w'.heap.get L=some (.loop lp)∧D74 r d b lim w0 rv dv b6 b7 c2 c3 c6 c7 km be c8 c9 cA c10 k s l w'∧w'.heap.get w.next=some (.cells [.int .i64 (i:Int)] 3 false)∧L < w'.next∧∀ j':Nat,j' < j→∀ s2,nextS r d s ((j':Nat):Int)=some s2→leftG r d (soB b lim) n' s2 ≠ (k:Int) - (i:Int) - 1) (Post:=fun w'=>w'.heap.get L=some (.loop lq)∧L < w'.next∧∃ (j:Nat) (s':Stg),nextS r d s ((j:Nat):Int)=some s'∧leftG r d (soB b lim) n' s'=(k:Int) - (i:Int) - 1∧(∀ j':Nat,j' < j→∀ s2,nextS r d s ((j':Nat):Int)=some s2→leftG r d (soB b lim) n' s2 ≠ (k:Int) - (i:Int) - 1)∧D74 r d b lim w0 rv dv b6 b7 c2 c3 c6 c7 km be c8 c9 cA c10 k s' (l.set i (j:Int)) w') (Xc:=fun x=>x=km∨x=L∨x=c8∨x=cA) (m + 3 * d.length + 1) L h.o98 h.o99 h.h100 h.h107 h.h108 h.h109 h.h110 hR hf so.length hso hsl we rv dv (hdv.up ue) (w.next + 1 + 1) (w.next + 1) (by omega) (by omega) (fun x hx=>by omega) (by omega) (by rw [kE _ (by omega)]; exact gH1) (by rw [kE _ (by omega)]; exact gH2) (by omega)
    (fun w' hK=>hrv.up ⟨fun x hx=>by rw [hK.keep x (by omega) (by omega)]; exact hDe.tr.old x hx,by have:=hK.next; omega,by have:=hK.lim; omega⟩)
    (fun j w1 w1' hG u=>⟨by rw [u.at hG.2.2.2.1]; exact hG.1,hG.2.1.keep (fun x hx=>u.at (by have:=hG.2.2.2.1; omega)) u.next u.lim,by rw [u.at (by have:=hG.2.2.2.1; omega)]; exact hG.2.2.1,Nat.lt_of_lt_of_le hG.2.2.2.1 u.next,hG.2.2.2.2⟩)
    (fun j w1 hj hn hG=>⟨hG.1,hG.2.1,hG.2.2.1,hG.2.2.2.1,fun j' hj' s2 h2=>by
     by_cases e:j'=j
     ·subst e; rw [hn] at h2; cases h2
     ·exact hG.2.2.2.2 j' (by omega) s2 h2⟩)
    (fun j s' w1 hlt hj hn hK hG=>by
     obtain ⟨hS2,hd2⟩:=hS.next hR hn
     obtain ⟨go,w',y1,y2,y3,y4⟩:=steps74 (m + 3 * d.length + 1) n' H s s' l hS2 (by omega) w1 hG.2.1 hl0 (by omega) i hlt2 L w.next ⟨by omega,hG.2.2.2.1⟩ ⟨by omega,by have:=hG.2.2.2.1; omega⟩ (by omega) hG.2.2.1 TT v7 v8 v9 v10 v11 lp hlp hG.1
     refine ⟨go,w',y1,y2,fun e=>?_,fun e=>?_⟩
     ·obtain ⟨q1,q2,q3⟩:=y3 e
      refine ⟨q3,q2,by rw [y2.keep w.next (by have:=hG.2.2.2.1; omega) (by omega)]; exact hG.2.2.1,by have:=y2.next; have:=hG.2.2.2.1; omega,fun j' hj' s2 h2=>?_⟩
      by_cases e:j'=j
      ·subst e; rw [hn] at h2; cases Option.some.inj h2; exact q1
      ·exact hG.2.2.2.2 j' (by omega) s2 h2
     ·obtain ⟨q1,q2,q3⟩:=y4 e
      rw [next_last hn] at q2
      exact ⟨by rw [hlq]; exact q3,by have:=y2.next; have:=hG.2.2.2.1; omega,j,s',hn,q1,hG.2.2.2.2,q2⟩)
    ⟨gLe,hDe,by rw [kE _ (by omega)]; exact gH3,by omega,fun j' hj'=>absurd hj' (Nat.not_lt_zero _)⟩
   have hPost:w2.heap.get L=some (.loop lq)∧L < w2.next∧∃ (j:Nat) (s':Stg),nextS r d s ((j:Nat):Int)=some s'∧leftG r d (soB b lim) n' s'=(k:Int) - (i:Int) - 1∧(∀ j':Nat,j' < j→∀ s2,nextS r d s ((j':Nat):Int)=some s2→leftG r d (soB b lim) n' s2 ≠ (k:Int) - (i:Int) - 1)∧D74 r d b lim w0 rv dv b6 b7 c2 c3 c6 c7 km be c8 c9 cA c10 k s' (l.set i (j:Int)) w2:=by
    rcases hA (by omega) with hG | hG
    ·exfalso
     exact hG.2.2.2.2 i1 hi1 s1 hn1 (by omega)
    ·exact hG
   obtain ⟨f1,f2,j,s',f3,f4,f5,f6⟩:=hPost
   have l2q:w2.lim=w.lim:=hK2.lim.trans le
   subst hwe
   subst hL
   refine ⟨v9',w2,hc98,lq,f1,by rw [hlq]; rfl,by show w2.lim≤w.next + 1 + 2; omega,?_⟩
   have hp:lq.pending=some (.exit 2):=by rw [hlq]
   rw [hp]
   simp only
   generalize hH2:w2.heap.put (w.next + 1 + 2) _=H2
   have kZ:∀ x,x ≠ w.next + 1 + 2→H2.get x=w2.heap.get x:=fun x hx=>by rw [← hH2,get_put,if_neg hx]
   have hD6:D74 r d b lim w0 rv dv b6 b7 c2 c3 c6 c7 km be c8 c9 cA c10 k s' (l.set i (j:Int)) ⟨H2,w2.next,w2.lim⟩:=f6.keep (fun x hx=>kZ x (by omega)) (Nat.le_refl _) rfl
   simp [v24,hw1]
   have hlen:=hw.len
   refine ⟨by omega,p++[((j:Nat):Int)],s',?_,by rw [List.length_append,List.length_singleton,hpl],hlt2,l.set i (j:Int),hD6,?_,by simp [v2],by simp [v7],by simp [v8],by simp [v9],by simp [v10],by simp [v23]⟩
   ·rw [hn',hpl] at f4 f5
    exact Pre.snoc hP (by omega) f3 (by rw [hpl]; exact f4) (by rw [hpl]; exact f5)
   ·rw [List.take_add_one,List.getElem?_set_self (by omega),List.take_set_of_le (by omega),hlt]; rfl
 ·have hi':i=k:=by omega
  subst hi'
  have hlk:l=p:=by rw [← hlt,List.take_of_length_le (by rw [hw.len]; exact Nat.le_refl _)]
  rw [hlk] at hw
  simp [mc74_l0,t23,t24]
  exact hQ _ _ p s hP hpl hw (by simp [t10,ptB])
end
section
variable {ov:Ov} {r:List CAct} {d:List CDay} {b:CBox} {lim:Sp} {w0:AW} {rv dv:Value} {b6 b7 c2 c3 c6 c7 km be:Nat}
def PlanV (r:List CAct) (d:List CDay) (b:CBox) (lim:Sp) (w0 w:AW) (v:Value):Prop :=
 (leftG r d (soB b lim) d.length startS=15∧v=.tuple ⟨[.slice none 0 0,.bool false]⟩∧Up w0 w)∨∃ (k:Nat) (p:List Int) (s:Stg) (A:Nat),leftG r d (soB b lim) d.length startS=(k:Int)∧k < 15∧Pre r d (soB b lim) d.length k p s∧p.length=k∧w.heap.get A=some (.cells (p.flatMap intC) 3 false)∧A < w.next∧v=.tuple ⟨[.slice (some ⟨A,0,none⟩) k k,.bool true]⟩∧Up w0 w
theorem TrP.base {w:AW} (h:TrP r d b lim w0 rv dv b6 b7 c2 c3 c6 c7 km be w):Up w0 w:=⟨h.old,by have:=h.ne.2.2.2.2.2.2; have:=h.lt.2.2.2.2.2.2; have:=h.le; omega,h.wl⟩
theorem tail74 (m:Nat) (h:HasL ov) (hR:ruleB r=true) (hD:daysB d=true) (hb:boxB b=true) (hl0:w0.lim≤w0.next) (hLim:LimW w0) (hrv:RowsV actC w0 rv r) (hdv:RowsV cdayC w0 dv d) (w:AW) (hT:TrP r d b lim w0 rv dv b6 b7 c2 c3 c6 c7 km be w) (c8 c9:Nat) (h8:be≤c8∧c8 < c9) (h9:c9 < w.next) (g8:w.heap.get c8=some (.cells (stgC startS) 86 false)) (g9:w.heap.get c9=some (.cells [.int .i64 (leftG r d (soB b lim) d.length startS)] 3 false)) (Q:Ex→Tm→AW→Prop) (t:Tm) (t2:tget t 2=ptB c2) (t7:tget t 7=ptB c7) (t8:tget t 8=ptB c8) (t9:tget t 9=ptB c9)
  (hQ:∀ t w v4 v5,tget t 4=v4→tget t 5=v5→PlanV r d b lim w0 w (.tuple ⟨[v4,v5]⟩)→notJunk v4=some v4→notJunk v5=some v5→Q .ret t w):wp (exY Tryd.prog (run Tryd.prog ov (m + 3 * d.length + 3)) mc74_r2 t w) Q:=by
 have hbd:=leftG_bd (r:=r) (d:=d) (so:=soB b lim) d.length startS
 have hle:=hT.le
 have hwl:=hT.wl
 have hk0:=hT.ne.2.2.2.2.2.2
 have hkm:=hT.lt.2.2.2.2.2.2
 by_cases hq:leftG r d (soB b lim) d.length startS=15
 ·rw [hq] at g9
  simp only [ptB] at t9
  simp [mc74_r2,t9,g9]
  exact hQ _ _ (.slice none 0 0) (.bool false) (by simp) (by simp) (.inl ⟨hq,rfl,hT.base⟩) rfl rfl
 ·obtain ⟨k,hk⟩:∃ k:Nat,leftG r d (soB b lim) d.length startS=(k:Int):=⟨(leftG r d (soB b lim) d.length startS).toNat,by omega⟩
  have h15:k < 15:=by omega
  have hk15:¬ (k:Int)=15:=by omega
  have hk15':¬ k=15:=by omega
  rw [hk] at g9
  have lw1:w.lim≤w.next + 1:=by omega
  obtain ⟨cs,hcs⟩:∃ cs,cs=(List.replicate k (0:Int)).flatMap intC:=⟨_,rfl⟩
  have hmk:makeSliceA Tryd.prog w 28 (.int .i64 (k:Int)) (.int .i64 (k:Int))=.val (.slice (some ⟨w.next,0,none⟩) k k) ⟨w.heap.put w.next (some (.cells cs 3 false)),w.next + 1,w.lim⟩:=by rw [hcs]; exact mk28 k (by omega) w
  have t9':=t9
  simp only [ptB] at t9'
  have m9:¬ c9=w.next:=by omega
  have m9':¬ c9=w.next + 1:=by omega
  obtain ⟨w2,hw2⟩:∃ w2:AW,w2=⟨((w.heap.put w.next (some (.cells cs 3 false))).put (w.next + 1) (some (.cells [.slice none 0 0] 28 false))).put (w.next + 1) (some (.cells [.slice (some ⟨w.next,0,none⟩) k k] 28 false)),w.next + 1 + 1,w.lim⟩:=⟨_,rfl⟩
  have q2:∀ x,x < w.next→w2.heap.get x=w.heap.get x:=fun x hx=>by
   rw [hw2]
   show (((w.heap.put _ _).put _ _).put _ _).get x=_
   rw [get_put,if_neg (by omega),get_put,if_neg (by omega),get_put,if_neg (by omega)]
  have n2:w2.next=w.next + 2:=by rw [hw2]
  have hD2:D74 r d b lim w0 rv dv b6 b7 c2 c3 c6 c7 km be c8 c9 w.next (w.next + 1) k startS (List.replicate k 0) w2:=by
   refine ⟨hT.keep (fun x hx=>q2 x (by omega)) (by omega) (by rw [hw2]),by rw [q2 _ (by omega)]; exact g8,by rw [q2 _ h9]; exact g9,?_,?_,List.length_replicate,⟨h8.1,h8.2,h9,Nat.lt_succ_self _,by omega⟩⟩
   ·rw [hw2,← hcs]
    show (((w.heap.put _ _).put _ _).put _ _).get _=_
    rw [get_put,if_neg (by omega),get_put,if_neg (by omega),get_put,if_pos rfl]
   ·rw [hw2]
    show (((w.heap.put _ _).put _ _).put _ _).get _=_
    rw [get_put,if_pos rfl]
  simp [mc74_r2,t9',g9,hk15,hk15',hmk,lw1,m9,m9']
  rw [← hw2]
  refine wp_seqX (wp_blockX (loop74 m h hR hD hb hl0 hLim hrv hdv k h15 hk (List.replicate k 0) w2 hD2 _ _ ?_ ?_ ?_ ?_ ?_ ?_ ?_ ?_))
  ·simp [t2]
  ·simp [t7]
  ·simp [t8]
  ·simp [t9]
  ·simp [ptB]
  ·simp
  ·simp
  ·intro t w' p s hP hpl hD' t10
   have g10:=hD'.g10
   simp only [ptB] at t10
   simp [t10,g10]
   exact hQ _ _ _ _ (by simp) (by simp) (.inr ⟨k,p,s,w.next,hk,h15,hP,hpl,hD'.gA,by have:=hD'.ord.2.2.2.2; omega,rfl,hD'.tr.base⟩) rfl rfl
set_option maxHeartbeats 1000000 in
theorem call74 (m:Nat) (ho:∀ args w,ov 74 args w=none) (h:HasL ov) (hR:ruleB r=true) (hD:daysB d=true) (hb:boxB b=true) (w:AW) (hl:w.lim≤w.next) (hLim:LimW w) (hrv:RowsV actC w rv r) (hdv:RowsV cdayC w dv d) (g6:w.heap.get b6=some (.cells (boxC b) 27 false)) (g7:w.heap.get b7=some (.cells (spC lim) 25 false)) (l6:b6 < w.next) (l7:b7 < w.next) :
  ∃ v w',(run Tryd.prog ov (m + 3 * d.length + 4)).call 74 [.agg ⟨[rv,dv]⟩,fn75 b6 b7] w .none=.ok (.ret v) w' .none∧PlanV r d b lim w w' v:=by
 refine call_wpY text74 (by simp) (ho _ _) ?_
 obtain ⟨w5,hw5⟩:∃ w5:AW,w5=⟨((((((((w.heap.put w.next (some (.cells [rv,dv] 89 false))).put (w.next + 1) (some (.cells [fn75 b6 b7] 120 false))).put (w.next + 1 + 1) (some (.map [] 0))).put (w.next + 1 + 1 + 1) (some (.cells [.map none] 143 false))).put (w.next + 1 + 1 + 1) (some (.cells [.map (some (w.next + 1 + 1))] 143 false))).put (w.next + 1 + 1 + 1 + 1) (some (.cells [.nilFunc] 144 false))).put (w.next + 1 + 1 + 1 + 1) (some (.cells [fn95 (w.next + 1 + 1 + 1) (w.next + 1) w.next (w.next + 1 + 1 + 1 + 1)] 144 false))).put (w.next + 1 + 1 + 1 + 1 + 1) (some (.cells [.int .i64 0,.int .i64 0,.int .i64 0,.int .i64 0,.int .i64 0] 86 false))).put (w.next + 1 + 1 + 1 + 1 + 1) (some (.cells (stgC startS) 86 false)),w.next + 1 + 1 + 1 + 1 + 1 + 1,w.lim⟩:=⟨_,rfl⟩
 have n5:w5.next=w.next + 6:=by rw [hw5]
 have q5:∀ x,w5.heap.get x=if x=w.next + 5 then some (.cells (stgC startS) 86 false) else if x=w.next + 4 then some (.cells [fn95 (w.next + 1 + 1 + 1) (w.next + 1) w.next (w.next + 1 + 1 + 1 + 1)] 144 false) else if x=w.next + 3 then some (.cells [.map (some (w.next + 1 + 1))] 143 false) else if x=w.next + 2 then some (.map [] 0) else if x=w.next + 1 then some (.cells [fn75 b6 b7] 120 false) else if x=w.next then some (.cells [rv,dv] 89 false) else w.heap.get x:=fun x=>by
  rw [hw5]
  show (((((((((w.heap.put _ _).put _ _).put _ _).put _ _).put _ _).put _ _).put _ _).put _ _).put _ _).get x=_
  rw [get_put]
  by_cases e5:x=w.next + 1 + 1 + 1 + 1 + 1
  ·rw [if_pos e5,if_pos e5]
  ·rw [if_neg e5,if_neg e5,get_put,if_neg e5,get_put]
   by_cases e4:x=w.next + 1 + 1 + 1 + 1
   ·rw [if_pos e4,if_pos e4]
   ·rw [if_neg e4,if_neg e4,get_put,if_neg e4,get_put]
    by_cases e3:x=w.next + 1 + 1 + 1
    ·rw [if_pos e3,if_pos e3]
    ·rw [if_neg e3,if_neg e3,get_put,if_neg e3,get_put,get_put,get_put]
 have hT:TrP r d b lim w rv dv b6 b7 w.next (w.next + 1) (w.next + 1 + 1 + 1) (w.next + 1 + 1 + 1 + 1) (w.next + 1 + 1) (w.next + 5) w5:=by
  refine ⟨fun x hx=>?_,?_,?_,?_,?_,?_,?_,⟨[],?_,fun s v hv=>?_⟩,⟨by omega,by omega,by omega,by omega,by omega,by omega,by omega⟩,⟨by omega,by omega,by omega,by omega,by omega,by omega,by omega⟩,by omega,by rw [hw5]⟩
  ·rw [q5,if_neg (by omega),if_neg (by omega),if_neg (by omega),if_neg (by omega),if_neg (by omega),if_neg (by omega)]
  ·rw [q5,if_neg (by omega),if_neg (by omega),if_neg (by omega),if_neg (by omega),if_neg (by omega),if_neg (by omega)]; exact g6
  ·rw [q5,if_neg (by omega),if_neg (by omega),if_neg (by omega),if_neg (by omega),if_neg (by omega),if_neg (by omega)]; exact g7
  ·rw [q5,if_neg (by omega),if_neg (by omega),if_neg (by omega),if_neg (by omega),if_neg (by omega),if_pos rfl]
  ·rw [q5,if_neg (by omega),if_neg (by omega),if_neg (by omega),if_neg (by omega),if_pos rfl]
  ·rw [q5,if_neg (by omega),if_neg (by omega),if_pos rfl]
  ·rw [q5,if_neg (by omega),if_pos rfl]
  ·unfold MapAt
   rw [q5,if_neg (by omega),if_neg (by omega),if_neg (by omega),if_pos rfl]; rfl
  ·rw [lookK_nil] at hv; cases hv
 have g8:w5.heap.get (w.next + 5)=some (.cells (stgC startS) 86 false):=by rw [q5,if_pos rfl]
 have hdl:=days_len hD
 obtain ⟨w6,c95,hA⟩:=call95 h hR hD hb hl hLim hrv hdv d.length m startS w5 (OkS.start r d) (by show (0:Int) + _=_; omega) hT
 have lw5:w.lim≤w.next + 1 + 1 + 1 + 1 + 1:=by omega
 have lw4:w.lim≤w.next + 1 + 1 + 1 + 1:=by omega
 have lw3:w.lim≤w.next + 1 + 1 + 1:=by omega
 have r78:=S78.call (P:=Tryd.prog) h.h78 (m:=m + 3 * d.length + 2) (w:=⟨((((((w.heap.put w.next (some (.cells [rv,dv] 89 false))).put (w.next + 1) (some (.cells [fn75 b6 b7] 120 false))).put (w.next + 1 + 1) (some (.map [] 0))).put (w.next + 1 + 1 + 1) (some (.cells [.map none] 143 false))).put (w.next + 1 + 1 + 1) (some (.cells [.map (some (w.next + 1 + 1))] 143 false))).put (w.next + 1 + 1 + 1 + 1) (some (.cells [.nilFunc] 144 false))).put (w.next + 1 + 1 + 1 + 1) (some (.cells [fn95 (w.next + 1 + 1 + 1) (w.next + 1) w.next (w.next + 1 + 1 + 1 + 1)] 144 false)),w.next + 1 + 1 + 1 + 1 + 1,w.lim⟩) ⟨rfl,lw5,rfl⟩
 have n6:=hA.2.next
 have l6':=hA.2.lim
 have hw6:w6.lim≤w6.next:=by rw [hw5] at l6'; have e:w6.lim=w.lim:=l6'; omega
 simp only [fn95,fn75,ptB,stgC,startS] at hw5 c95 r78
 rw [hw5] at c95
 have cfn:∀ f a b,cellsOf (Value.func f a b)=[.func f a b]:=fun _ _ _=>rfl
 have sgf:∀ f a b,singles [Value.func f a b]=true:=fun _ _ _=>rfl
 simp [mc74_eq,fn75,ptB,lw3,lw4,lw5,r78,cellsOf_agg,cfn,sgf]
 simp [mc74_r1,callV_func,c95,hw6]
 obtain ⟨w7,hw7⟩:∃ w7:AW,w7=⟨(w6.heap.put w6.next (some (.cells [.int .i64 0] 3 false))).put w6.next (some (.cells [.int .i64 (leftG r d (soB b lim) d.length { done:=0,last := -1,row:=0,lo:=0,hi:=0 })] 3 false)),w6.next + 1,w6.lim⟩:=⟨_,rfl⟩
 have u7:Up w6 w7:=by rw [hw7]; exact ((Up.refl w6).add _).put (Nat.le_refl _) (Nat.le_refl _)
 have n7:w7.next=w6.next + 1:=by rw [hw7]
 have g97:w7.heap.get w6.next=some (.cells [.int .i64 (leftG r d (soB b lim) d.length startS)] 3 false):=by rw [hw7]; show ((w6.heap.put _ _).put _ _).get _=_; rw [get_put,if_pos rfl]; rfl
 have n5':w5.next=w.next + 6:=n5
 have g87:w7.heap.get (w.next + 5)=some (.cells (stgC startS) 86 false):=by rw [u7.at (by omega),hA.2.keep _ (by omega) (by omega)]; exact g8
 rw [← hw7]
 refine tail74 m h hR hD hb hl hLim hrv hdv w7 (hA.1.up u7) (w.next + 5) w6.next ⟨Nat.le_refl _,by omega⟩ (by omega) g87 g97 _ _ ?_ ?_ ?_ ?_ ?_
 ·simp [ptB]
 ·simp [ptB]
 ·simp [ptB]
 ·simp [ptB]
 ·intro t w' v4 v5 e4 e5 hP j4 j5
  simp [e4,e5,j4,j5,tupV]
  exact hP
def PlanE (r:List CAct) (d:List CDay) (b:CBox) (lim:Sp) (w:AW) (pv:Value) (e:Int):Prop :=
 (bxE r d b ≠ 0∧e=bxE r d b∧pv=.slice none 0 0)∨(bxE r d b=0∧spanI lim.1 lim.2 0 1000=false∧e=7∧pv=.slice none 0 0)∨(bxE r d b=0∧spanI lim.1 lim.2 0 1000=true∧leftG r d (soB b lim) d.length startS=15∧e=4∧pv=.slice none 0 0)∨(bxE r d b=0∧spanI lim.1 lim.2 0 1000=true∧e=0∧∃ (k:Nat) (p:List Int) (s:Stg) (A:Nat),leftG r d (soB b lim) d.length startS=(k:Int)∧k < 15∧Pre r d (soB b lim) d.length k p s∧p.length=k∧w.heap.get A=some (.cells (p.flatMap intC) 3 false)∧A < w.next∧pv=.slice (some ⟨A,0,none⟩) k k)
theorem bx_all {r:List CAct} {d:List CDay} {b:CBox} (h:bxE r d b=0):ruleB r=true∧daysB d=true∧boxB b=true:=by
 unfold bxE chkE at h
 by_cases h1:ruleB r=true
 ·by_cases h2:daysB d=true
  ·by_cases h3:boxB b=true
   ·exact ⟨h1,h2,h3⟩
   ·simp [h1,h2,h3] at h
  ·simp [h1,h2] at h
 ·simp [h1] at h
set_option maxHeartbeats 1000000 in
theorem call31 (M:Nat) (ho:∀ args w,ov 31 args w=none) (ho74:∀ args w,ov 74 args w=none) (h73:HasP ov 73 S73.F) (h70:HasP ov 70 S70.F) (h:HasL ov) (w:AW) (hl:w.lim≤w.next) (hLim:LimW w) (hrv:RowsV actC w rv r) (hdv:RowsV cdayC w dv d) :
  ∃ v w',(run Tryd.prog ov (M + 47)).call 31 [rv,dv,.agg ⟨boxC b⟩,.agg ⟨spC lim⟩] w .none=.ok (.ret v) w' .none∧∃ pv e,v=.tuple ⟨[pv,.int .i64 e]⟩∧Up w w'∧notJunk pv=some pv∧PlanE r d b lim w' pv e:=by
 refine call_wp text31 (by simp) (ho _ _) ?_
 obtain ⟨w1,hw1⟩:∃ w1:AW,w1=⟨(w.heap.put w.next (some (.cells [.int .i64 b.wl,.int .i64 b.wh,.int .i64 b.sl,.int .i64 b.sh] 27 false))).put (w.next + 1) (some (.cells [.int .i64 lim.1,.int .i64 lim.2] 25 false)),w.next + 1 + 1,w.lim⟩:=⟨_,rfl⟩
 have u1:Up w w1:=by rw [hw1]; exact ((Up.refl w).add _).put (Nat.le_succ _) (Nat.le_succ _)
 have n1:w1.next=w.next + 2:=by rw [hw1]
 have l1:w1.lim=w.lim:=u1.lim
 have g7:w1.heap.get (w.next + 1)=some (.cells (spC lim) 25 false):=by rw [hw1]; show ((w.heap.put _ _).put _ _).get _=_; rw [get_put,if_pos rfl]; rfl
 have g6:w1.heap.get w.next=some (.cells (boxC b) 27 false):=by rw [hw1]; show ((w.heap.put _ _).put _ _).get _=_; rw [get_put,if_neg (by omega),get_put,if_pos rfl]; rfl
 have r73:=S73.call (P:=Tryd.prog) h73 (m:=M + 45) (w:=w1) ⟨rv,dv,r,d,b,rfl,hrv.up u1,hdv.up u1,hLim.up u1,rfl⟩
 have r70:=S70.call (P:=Tryd.prog) h70 (m:=M + 45) (w:=w1) ⟨6,lim.1,lim.2,(0,1000),rfl,rfl,hLim.up u1,rfl⟩
 have rj:notJunk rv=some rv:=by obtain ⟨x,y,rfl⟩:=hrv.len; rfl
 have dj:notJunk dv=some dv:=by obtain ⟨x,y,rfl⟩:=hdv.len; rfl
 have hrv1:=hrv.up u1
 have hdv1:=hdv.up u1
 obtain ⟨ra,rc,erv⟩:=hrv.len
 obtain ⟨da,dc,edv⟩:=hdv.len
 by_cases hE:bxE r d b=0
 ·obtain ⟨hR,hD,hB⟩:=bx_all hE
  have hdl:=days_len hD
  rw [hE] at r73
  cases hS:spanI lim.1 lim.2 0 1000 with
  | false =>
   rw [hS] at r70
   rw [hw1] at r73 r70
   simp only [boxC,spC] at r73 r70
   simp [mc31,boxC,spC,cellsOf_agg,rj,dj,r73,r70,tupV]
   rw [← hw1]
   exact ⟨_,_,⟨rfl,rfl⟩,u1,rfl,.inr (.inl ⟨hE,hS,rfl,rfl⟩)⟩
  | true =>
   rw [hS] at r70
   obtain ⟨m,hm⟩:∃ m,M + 46=m + 3 * d.length + 4:=⟨M + 42 - 3 * d.length,by omega⟩
   obtain ⟨v,w2,c74,hP⟩:=call74 (lim:=lim) m ho74 h hR hD hB w1 (by omega) (hLim.up u1) hrv1 hdv1 g6 g7 (by omega) (by omega)
   rw [← hm] at c74
   have hup:Up w1 w2:=by
    rcases hP with ⟨_,_,hu⟩ | ⟨_,_,_,_,_,_,_,_,_,_,_,hu⟩ <;> exact hu
   have u2:=u1.trans hup
   rw [hw1] at r73 r70 c74
   simp only [boxC,spC,fn75,ptB] at r73 r70 c74
   subst erv edv
   rcases hP with ⟨p1,rfl,_⟩ | ⟨k,p,s,A,p1,p2,p3,p4,p5,p6,rfl,_⟩
   ·simp [mc31,boxC,spC,cellsOf_agg,rj,dj,r73,r70,c74,tupV]
    exact ⟨_,_,⟨rfl,rfl⟩,u2,rfl,.inr (.inr (.inl ⟨hE,hS,p1,rfl,rfl⟩))⟩
   ·have nj:∀ (a:Addr) n c,notJunk (.slice (some a) n c)=some (.slice (some a) n c):=fun _ _ _=>rfl
    simp [mc31,boxC,spC,cellsOf_agg,rj,dj,r73,r70,c74,nj,tupV]
    exact ⟨_,_,⟨rfl,rfl⟩,u2,rfl,.inr (.inr (.inr ⟨hE,hS,rfl,k,p,s,A,p1,p2,p3,p4,p5,p6,rfl⟩))⟩
 ·rw [hw1] at r73
  simp only [boxC] at r73
  simp [mc31,boxC,spC,cellsOf_agg,rj,dj,r73,hE,tupV]
  rw [← hw1]
  exact ⟨_,_,⟨rfl,rfl⟩,u1,rfl,.inl ⟨hE,rfl,rfl⟩⟩
end
end Go.Proofs.YtnmamelclmfplaaDoor.walk
