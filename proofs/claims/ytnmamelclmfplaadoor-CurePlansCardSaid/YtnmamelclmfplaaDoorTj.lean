/- Part of a proof: see the text with the theorem. -/
import Derived.Test.YtnmamelclmfplaaDoorTi
import Derived.Test.YtnmamelclmfplaaDoorTc
import Derived.Test.YtnmamelclmfplaaDoorTe
import Derived.Test.YtnmamelclmfplaaDoorTd
import Derived.Test.YtnmamelclmfplaaDoorShF
set_option linter.all false
namespace Go.Proofs.YtnmamelclmfplaaDoor.walk
open Go Go.Sh
set_option maxRecDepth 100000
def wrapG (n s:Int):Int:=if s < 1 then 0 else (IntKind.wrap .i64 (n.tmod s + s)).tmod s
def withG (lo hi n:Int):Int:=IntKind.wrap .i64 (lo + wrapG n (IntKind.wrap .i64 (IntKind.wrap .i64 (hi - lo) + 1)))
def S48g:PSpec where
 R args _ v:=∃ lo hi n:Int,args=[.int .i64 lo,.int .i64 hi,.int .i64 n]∧v=.int .i64 (withG lo hi n)
 uniq:=by rintro _ _ _ _ ⟨lo,hi,n,rfl,rfl⟩ ⟨_,_,_,h,rfl⟩; cases h; rfl
 shut h:=h
def genL (f:Nat→Int) (n:Nat):List Int:=(List.range n).map f
structure In34 (we:AW) (d:List CDay) (b:CBox) (rv dv av:Value) (ws s:Int) (f:Nat→Int) (i:Nat) (w:AW):Prop where
 box:w.heap.get we.next=some (.cells (curC rv dv b av) 30 false)
 res:w.heap.get (we.next + 1)=some (.cells [.int .i64 0,.int .i64 0,.slice none 0 0] 32 false)
 tru:∃ v,w.heap.get (we.next + 2)=some (.cells [.int .i64 ws,.int .i64 s,v] 32 false)∧AccR intC 3 (we.next + 2) w v (genL f i)
 up:Up we w
 next:we.next + 3≤w.next
theorem wei_some {b:CBox} {L:List Sp} {l:List CRead} (hlen:L.length≤14) {x:Nat→Int} (h:SolS (L.length + 1) (gtS (losL L)) (gtS (iniW b L l)) x):∃ V,weighF b L l=some V:=by
 cases hV:weighF b L l with
 | some V=>exact ⟨V,rfl⟩
 | none =>
  exfalso
  unfold weighF at hV
  rw [losL_length] at hV
  exact nar_none (by show L.length + 1 < (iniW b L l).length; simp [iniW]; omega) hV _ h
def incF (n:Nat):Nat→List Int→Prop
 | _,[]=>True
 | f,x::l=>∃ i:Nat,x=(i:Int)∧f≤i∧i < n∧incF n (i + 1) l
def lexL:List Int→List Int→Bool
 | [],[]=>false
 | [],_::_=>true
 | _::_,[]=>false
 | a::x,b::y=>if a=b then lexL x y else decide (a < b)
theorem incF.mono {n:Nat}:∀ {l:List Int} {f f':Nat},f'≤f→incF n f l→incF n f' l
 | [],_,_,_,_=>trivial
 | x::l,f,f',h,⟨i,h1,h2,h3,h4⟩=>⟨i,h1,by omega,h3,h4⟩
def OutV (base:Nat) (w:AW) (uv:Value) (out:List Int):Prop :=
 (uv=.slice none 0 0∧out=[])∨∃ (B:Nat) (cs:List Int),uv=.slice (some ⟨B,0,none⟩) out.length cs.length∧w.heap.get B=some (.cells (cs.flatMap intC) 3 false)∧base≤B∧B < w.next∧out=cs.take out.length
theorem OutV.rows {base:Nat} {w:AW} {uv:Value} {out:List Int} (h:OutV base w uv out):RowsV intC w uv out:=by
 rcases h with ⟨rfl,rfl⟩ | ⟨B,cs,rfl,h2,h3,h4,h5⟩
 ·exact .inl ⟨rfl,_,_,rfl⟩
 ·refine .inr ⟨B,0,none,_,rfl,⟨[],(cs.drop out.length).flatMap intC,3,false,?_,rfl⟩,h4⟩
  rw [h2,List.nil_append]
  congr 2
  conv=>lhs; rw [← List.take_append_drop out.length cs,List.flatMap_append,← h5]
theorem OutV.keep {base:Nat} {w w':AW} {uv:Value} {out:List Int} (h:OutV base w uv out) (k:∀ x,base≤x→x < w.next→w'.heap.get x=w.heap.get x) (hn:w.next≤w'.next):OutV base w' uv out:=by
 rcases h with h | ⟨B,cs,h1,h2,h3,h4,h5⟩
 ·exact .inl h
 ·exact .inr ⟨B,cs,h1,by rw [k B h3 h4,h2],h3,by omega,h5⟩
theorem OutV.ok {base:Nat} {w:AW} {uv:Value} {out:List Int} (h:OutV base w uv out):notJunk uv=some uv:=by
 rcases h with ⟨rfl,_⟩ | ⟨_,_,rfl,_⟩ <;> rfl
structure KpB (base B4:Nat) (we w:AW):Prop where
 old:∀ q,q < base→q ≠ B4→w.heap.get q=we.heap.get q
 next:we.next≤w.next
 lim:w.lim=we.lim
theorem KpB.refl (base B4:Nat) (w:AW):KpB base B4 w w:=⟨fun _ _ _=>rfl,Nat.le_refl _,rfl⟩
theorem KpB.trans {base B4:Nat} {a b c:AW} (h:KpB base B4 a b) (k:KpB base B4 b c):KpB base B4 a c:=⟨fun q h1 h2=>(k.old q h1 h2).trans (h.old q h1 h2),Nat.le_trans h.next k.next,k.lim.trans h.lim⟩
theorem KpB.ofUp {base B4:Nat} {a b:AW} (h:Up a b) (hb:base≤a.next):KpB base B4 a b:=⟨fun q h1 _=>h.at (by omega),h.next,h.lim⟩
section
variable (r:List CAct) (d:List CDay)
def minA (f:Stg→Int) (s:Stg):Nat→Int
 | 0=>15
 | i + 1=>match nextS r d s ((i:Nat):Int) with
  | some s'=>min (minA f s i) (1 + f s')
  | none=>minA f s i
def leftG (so:Stg→Bool):Nat→Stg→Int
 | 0,s=>if so s=true then 0 else 15
 | n + 1,s=>if so s=true then 0 else minA r d (leftG so n) s r.length
end
variable {r:List CAct} {d:List CDay} {so:Stg→Bool}
theorem minA_some {f:Stg→Int} {s s':Stg} {i:Nat} (h:nextS r d s ((i:Nat):Int)=some s'):minA r d f s (i + 1)=min (minA r d f s i) (1 + f s'):=by
 show (match nextS r d s ((i:Nat):Int) with | some s'=>min (minA r d f s i) (1 + f s') | none=>minA r d f s i)=_
 rw [h]
theorem minA_none {f:Stg→Int} {s:Stg} {i:Nat} (h:nextS r d s ((i:Nat):Int)=none):minA r d f s (i + 1)=minA r d f s i:=by
 show (match nextS r d s ((i:Nat):Int) with | some s'=>min (minA r d f s i) (1 + f s') | none=>minA r d f s i)=_
 rw [h]
theorem minA_bd {f:Stg→Int} {s:Stg} (hf:∀ s,0≤f s):∀ N,1≤minA r d f s N∧minA r d f s N≤15
 | 0=>by show (1:Int)≤15∧(15:Int)≤15; omega
 | N + 1=>by
  have ih:=minA_bd (f:=f) (s:=s) hf N
  cases h:nextS r d s ((N:Nat):Int) with
  | none=>rw [minA_none h]; exact ih
  | some s' =>
   rw [minA_some h,Int.min_def]
   have:=hf s'
   split <;> omega
theorem minA_le {f:Stg→Int} {s s':Stg} {i:Nat} (h:nextS r d s ((i:Nat):Int)=some s'):∀ N,i < N→minA r d f s N≤1 + f s'
 | 0,hi=>absurd hi (Nat.not_lt_zero _)
 | N + 1,hi=>by
  by_cases e:i=N
  ·subst e
   rw [minA_some h]; exact Int.min_le_right _ _
  ·have ih:=minA_le (f:=f) h N (by omega)
   cases hN:nextS r d s ((N:Nat):Int) with
   | none=>rw [minA_none hN]; exact ih
   | some s2=>rw [minA_some hN]; exact Int.le_trans (Int.min_le_left _ _) ih
theorem minA_att {f:Stg→Int} {s:Stg}:∀ N,minA r d f s N=15∨∃ i s',i < N∧nextS r d s ((i:Nat):Int)=some s'∧minA r d f s N=1 + f s'
 | 0=>.inl rfl
 | N + 1=>by
  have up:(∃ i s',i < N∧nextS r d s ((i:Nat):Int)=some s'∧minA r d f s N=1 + f s')→∃ i s',i < N + 1∧nextS r d s ((i:Nat):Int)=some s'∧minA r d f s N=1 + f s':=fun ⟨i,s',h1,h2⟩=>⟨i,s',by omega,h2⟩
  cases hN:nextS r d s ((N:Nat):Int) with
  | none =>
   rw [minA_none hN]
   exact (minA_att N).imp id up
  | some s2 =>
   rw [minA_some hN,Int.min_def]
   by_cases hle:minA r d f s N≤1 + f s2
   ·rw [if_pos hle]; exact (minA_att N).imp id up
   ·rw [if_neg hle]; exact .inr ⟨N,s2,Nat.lt_succ_self _,hN,rfl⟩
theorem leftG_so {n:Nat} {s:Stg} (h:so s=true):leftG r d so n s=0:=by
 cases n with
 | zero=>show (if so s=true then (0:Int) else 15)=0; rw [if_pos h]
 | succ n=>show (if so s=true then (0:Int) else minA r d (leftG r d so n) s r.length)=0; rw [if_pos h]
theorem leftG_not {n:Nat} {s:Stg} (h:so s=false):leftG r d so (n + 1) s=minA r d (leftG r d so n) s r.length:=by
 show (if so s=true then (0:Int) else minA r d (leftG r d so n) s r.length)=_
 rw [if_neg (by rw [h]; decide)]
theorem leftG_end {s:Stg} (h:so s=false):leftG r d so 0 s=15:=by
 show (if so s=true then (0:Int) else 15)=15
 rw [if_neg (by rw [h]; decide)]
theorem leftG_bd:∀ (n:Nat) (s:Stg),0≤leftG r d so n s∧leftG r d so n s≤15
 | 0,s=>by
  cases h:so s with
  | true=>rw [leftG_so h]; omega
  | false=>rw [leftG_end h]; omega
 | n + 1,s=>by
  cases h:so s with
  | true=>rw [leftG_so h]; omega
  | false =>
   rw [leftG_not h]
   have:=minA_bd (r:=r) (d:=d) (f:=leftG r d so n) (s:=s) (fun s=>(leftG_bd n s).1) r.length
   omega
theorem leftG_zero {n:Nat} {s:Stg} (h:leftG r d so n s=0):so s=true:=by
 cases hs:so s with
 | true=>rfl
 | false =>
  exfalso
  cases n with
  | zero=>rw [leftG_end hs] at h; omega
  | succ n =>
   rw [leftG_not hs] at h
   have:=minA_bd (r:=r) (d:=d) (f:=leftG r d so n) (s:=s) (fun s=>(leftG_bd n s).1) r.length
   omega
theorem next_nat {s s':Stg} {a:Int} (h:nextS r d s a=some s'):∃ i:Nat,a=(i:Int)∧i < r.length:=by
 unfold nextS at h
 by_cases h0:0≤a
 ·rw [if_pos h0] at h
  refine ⟨a.toNat,by omega,?_⟩
  cases hx:r[a.toNat]? with
  | none=>rw [hx] at h; cases hd:d[s.done.toNat]? <;> rw [hd] at h <;> cases h
  | some x=>exact (List.getElem?_eq_some_iff.1 hx).1
 ·rw [if_neg h0] at h
  cases hd:d[s.done.toNat]? <;> rw [hd] at h <;> cases h
theorem stgF_cons {s t:Stg} {a:Int} {bs:List Int} (h:stgF r d s (a::bs)=some t):∃ s',nextS r d s a=some s'∧stgF r d s' bs=some t:=by
 have h:(match nextS r d s a with | some s'=>stgF r d s' bs | none=>none)=some t:=h
 cases hn:nextS r d s a with
 | none=>rw [hn] at h; cases h
 | some s'=>rw [hn] at h; exact ⟨s',rfl,h⟩
theorem left_step {n:Nat} {s s':Stg} {i:Nat} (h:nextS r d s ((i:Nat):Int)=some s') (hi:i < r.length):leftG r d so (n + 1) s≤1 + leftG r d so n s':=by
 cases hs:so s with
 | true=>rw [leftG_so hs]; have:=(leftG_bd (r:=r) (d:=d) (so:=so) n s').1; omega
 | false=>rw [leftG_not hs]; exact minA_le h r.length hi
theorem left_le:∀ {acts:List Int} {n:Nat} {s t:Stg},stgF r d s acts=some t→so t=true→acts.length≤n→leftG r d so n s≤(acts.length:Int)
 | [],n,s,t,h,ht,_=>by
  have:s=t:=Option.some.inj h
  rw [leftG_so (by rw [this]; exact ht)]
  exact Int.le_refl 0
 | a::bs,0,s,t,_,_,hn=>absurd hn (by simp)
 | a::bs,n + 1,s,t,h,ht,hn=>by
  obtain ⟨s',h1,h2⟩:=stgF_cons h
  obtain ⟨i,rfl,hi⟩:=next_nat h1
  have ih:=left_le (n:=n) h2 ht (by rw [List.length_cons] at hn; omega)
  have:=left_step (so:=so) (n:=n) h1 hi
  rw [List.length_cons]
  omega
inductive Pre (r:List CAct) (d:List CDay) (so:Stg→Bool) (n k:Nat):List Int→Stg→Prop
 | nil:Pre r d so n k [] startS
 | snoc {p:List Int} {s s':Stg} {i:Nat}:Pre r d so n k p s→p.length < k→nextS r d s ((i:Nat):Int)=some s'→leftG r d so (n - p.length - 1) s'=(k:Int) - (p.length:Int) - 1→(∀ j:Nat,j < i→∀ s2,nextS r d s ((j:Nat):Int)=some s2→leftG r d so (n - p.length - 1) s2 ≠ (k:Int) - (p.length:Int) - 1)→Pre r d so n k (p++[((i:Nat):Int)]) s'
theorem Pre.stg {n k:Nat} {p:List Int} {s:Stg} (h:Pre r d so n k p s):stgF r d startS p=some s:=by
 induction h with
 | nil=>rfl
 | snoc h1 h2 h3 h4 h5 ih=>rw [stgF_snoc,ih]; exact h3
theorem Pre.le {n k:Nat} {p:List Int} {s:Stg} (h:Pre r d so n k p s):p.length≤k:=by
 cases h with
 | nil=>exact Nat.zero_le _
 | snoc h1 h2 h3 h4 h5=>rw [List.length_append]; exact h2
theorem Pre.left {n k:Nat} {p:List Int} {s:Stg} (h:Pre r d so n k p s) (h0:leftG r d so n startS=(k:Int)):leftG r d so (n - p.length) s=(k:Int) - (p.length:Int):=by
 cases h with
 | nil=>simpa using h0
 | snoc h1 h2 h3 h4 h5 =>
  rw [List.length_append,List.length_singleton]
  rw [Nat.sub_sub] at h4
  rw [h4]
  omega
theorem Pre.lex {n k:Nat} (hk:k≤n) (h0:leftG r d so n startS=(k:Int)) {acts:List Int} {t:Stg} (hs:stgF r d startS acts=some t) (ht:so t=true) (hal:acts.length=k) {p:List Int} {s:Stg} (h:Pre r d so n k p s):(∃ rest,acts=p++rest∧stgF r d s rest=some t)∨∃ (u x y:List Int) (a b:Int),acts=u++a::x∧p=u++b::y∧b < a:=by
 induction h with
 | nil=>exact .inl ⟨acts,rfl,hs⟩
 | @snoc p s s' i h1 h2 h3 h4 h5 ih =>
  rcases ih with ⟨rest,e1,e2⟩ | ⟨u,x,y,a,b,e1,e2,e3⟩
  ·cases rest with
   | nil =>
    exfalso
    rw [e1,List.append_nil] at hal
    omega
   | cons a rest =>
    obtain ⟨s1,k1,k2⟩:=stgF_cons e2
    obtain ⟨j,rfl,hj⟩:=next_nat k1
    by_cases hij:j=i
    ·subst hij
     rw [h3] at k1
     cases Option.some.inj k1
     exact .inl ⟨rest,by rw [e1,List.append_assoc]; rfl,k2⟩
    ·by_cases hlt:j < i
     ·exfalso
      have hrl:p.length + (rest.length + 1)=k:=by rw [← hal,e1,List.length_append,List.length_cons]
      have g1:=left_le (n:=n - p.length - 1) k2 ht (by omega)
      have g2:=h1.left h0
      obtain ⟨m,hm⟩:∃ m,n - p.length=m + 1:=⟨n - p.length - 1,by omega⟩
      have g3:=left_step (so:=so) (n:=m) k1 hj
      rw [hm] at g2 g1
      have hm':n - p.length - 1=m:=by omega
      refine h5 j hlt s1 k1 ?_
      rw [hm']
      rw [show m + 1 - 1=m by omega] at g1
      omega
     ·exact .inr ⟨p,rest,[],(j:Int),(i:Int),e1,rfl,by omega⟩
  ·exact .inr ⟨u,x,y++[((i:Nat):Int)],a,b,e1,by rw [e2,List.append_assoc]; rfl,e3⟩
theorem lex_self:∀ l:List Int,lexL l l=false
 | []=>rfl
 | a::l=>by
  show (if a=a then lexL l l else decide (a < a))=false
  rw [if_pos rfl]; exact lex_self l
theorem lex_gt:∀ (u x y:List Int) (a b:Int),b < a→lexL (u++a::x) (u++b::y)=false
 | [],x,y,a,b,h=>by
  show (if a=b then lexL x y else decide (a < b))=false
  rw [if_neg (by omega),decide_eq_false (by omega)]
 | c::u,x,y,a,b,h=>by
  show (if c=c then lexL (u++a::x) (u++b::y) else decide (c < c))=false
  rw [if_pos rfl]; exact lex_gt u x y a b h
theorem Pre.first {n k:Nat} (hk:k≤n) (h0:leftG r d so n startS=(k:Int)) {p:List Int} {s:Stg} (h:Pre r d so n k p s) (hp:p.length=k) {acts:List Int} {t:Stg} (hs:stgF r d startS acts=some t) (ht:so t=true) (hal:acts.length=k):lexL acts p=false:=by
 rcases h.lex hk h0 hs ht hal with ⟨rest,e,_⟩ | ⟨u,x,y,a,b,e1,e2,e3⟩
 ·have:rest=[]:=by
   rw [e,List.length_append] at hal
   exact List.eq_nil_of_length_eq_zero (by omega)
  rw [e,this,List.append_nil]; exact lex_self p
 ·rw [e1,e2]; exact lex_gt u x y a b e3
theorem Pre.end {n k:Nat} (h0:leftG r d so n startS=(k:Int)) {p:List Int} {s:Stg} (h:Pre r d so n k p s) (hp:p.length=k):so s=true:=by
 have:=h.left h0
 rw [hp] at this
 exact leftG_zero (r:=r) (d:=d) (n:=n - k) (by omega)
theorem Pre.more {n k:Nat} (h15:k < 15) (h0:leftG r d so n startS=(k:Int)) {p:List Int} {s:Stg} (h:Pre r d so n k p s) (hp:p.length < k):p.length < n∧∃ i s',i < r.length∧nextS r d s ((i:Nat):Int)=some s'∧leftG r d so (n - p.length - 1) s'=(k:Int) - (p.length:Int) - 1:=by
 have g:=h.left h0
 cases hs:so s with
 | true=>rw [leftG_so hs] at g; omega
 | false =>
  cases hm:n - p.length with
  | zero=>rw [hm,leftG_end hs] at g; omega
  | succ m =>
   rw [hm,leftG_not hs] at g
   refine ⟨by omega,?_⟩
   rcases minA_att (r:=r) (d:=d) (f:=leftG r d so m) (s:=s) r.length with e | ⟨i,s',h1,h2,h3⟩
   ·omega
   ·exact ⟨i,s',h1,h2,by rw [show m + 1 - 1=m by omega]; omega⟩
end Go.Proofs.YtnmamelclmfplaaDoor.walk
namespace Go.Proofs.YtnmamelclmfplaaDoor.walk
open Go Go.Sh
set_option maxRecDepth 100000
structure Kp (Xc:Nat→Prop) (wb w:AW):Prop where
 keep:∀ x,x < wb.next→¬ Xc x→w.heap.get x=wb.heap.get x
 next:wb.next≤w.next
 lim:w.lim=wb.lim
theorem Kp.refl (Xc:Nat→Prop) (w:AW):Kp Xc w w:=⟨fun _ _ _=>rfl,Nat.le_refl _,rfl⟩
theorem Kp.up {Xc:Nat→Prop} {wb w w':AW} (h:Kp Xc wb w) (u:Up w w'):Kp Xc wb w' :=
 ⟨fun x hx he=>by rw [u.at (by have:=h.next; omega)]; exact h.keep x hx he,by have:=h.next; have:=u.next; omega,by rw [u.lim,h.lim]⟩
theorem Kp.trans {Xc:Nat→Prop} {wa wb w:AW} (h:Kp Xc wa wb) (k:Kp Xc wb w):Kp Xc wa w :=
 ⟨fun x hx he=>by rw [k.keep x (by have:=h.next; omega) he]; exact h.keep x hx he,by have:=h.next; have:=k.next; omega,by rw [k.lim,h.lim]⟩
theorem next_at {r:List CAct} {d:List CDay} {s:Stg} {i:Nat} {x:CAct} {y:CDay} (hd:d[s.done.toNat]?=some y) (hx:r[i]?=some x):nextS r d s ((i:Nat):Int)=if fitB x (i:Nat) y s=true then some (withS s x (i:Nat)) else none:=by
 unfold nextS
 rw [hd,if_pos (by omega),Int.toNat_natCast,hx]
section
variable {ov:Ov} {r:List CAct} {d:List CDay} {s:Stg} {Xc:Nat→Prop} {G:Nat→AW→Prop} {Post:AW→Prop}
set_option maxHeartbeats 1000000 in
theorem loop98g (m L:Nat) (ho99:∀ args w,ov 99 args w=none) (h100:HasP ov 100 S100.F) (h107:HasP ov 107 S107.F) (h108:HasP ov 108 S108.F) (h109:HasP ov 109 S109.F) (h110:HasP ov 110 S110.F) (hR:ruleB r=true) (y:CDay) (hd:d[s.done.toNat]?=some y) (hs:FineS s) (we:AW) (rv:Value) (n1 n4:Nat) (hn1:n1 < we.next) (hn4:n4 < we.next) (he1:¬ Xc n1) (he4:¬ Xc n4) (g1:we.heap.get n1=some (.cells (stgC s) 86 false)) (g4:we.heap.get n4=some (.cells (dayC y s) 149 false)) (hlim:we.lim≤we.next)
  (hrow:∀ w,Kp Xc we w→RowsV actC w rv r)
  (hup:∀ i w w',G i w→Up w w'→G i w')
  (hskip:∀ i w,i < r.length→nextS r d s ((i:Nat):Int)=none→G i w→G (i + 1) w)
  (hyield:∀ i s' w,i < r.length→nextS r d s ((i:Nat):Int)=some s'→Kp Xc we w→G i w→∃ go w',yieldA (run Tryd.prog ov (m + 1)) L [.agg ⟨stgC s'⟩] w=.val go w'∧Kp Xc we w'∧(go=true→G (i + 1) w')∧(go=false→Post w'))
  (Q:Ex→Tm→AW→Prop) (t:Tm) (w:AW) (hk0:Kp Xc we w) (hG0:G 0 w) (t0:tget t 0=.func (.yield L) ⟨[]⟩ ⟨[]⟩) (t1:tget t 1=.pointer (some ⟨n1,0,none⟩)) (t4:tget t 4=.pointer (some ⟨n4,0,none⟩)) (t25:tget t 25=rv) (t26:tget t 26=.int .i64 (r.length:Nat)) (t27:tget t 27=.int .i64 0)
  (hno:∀ t w,Kp Xc we w→G r.length w→Q (.exit 0) t w)
  (hyes:∀ t w,Kp Xc we w→Post w→Q .ret t w):wp (exY Tryd.prog (run Tryd.prog ov (m + 1)) (.loop mc98_l0) t w) Q:=by
 have hrl:=rule_len hR
 refine wp_roundsY (fun i t w=>Kp Xc we w∧G i w∧tget t 0=.func (.yield L) ⟨[]⟩ ⟨[]⟩∧tget t 1=.pointer (some ⟨n1,0,none⟩)∧tget t 4=.pointer (some ⟨n4,0,none⟩)∧tget t 25=rv∧tget t 26=.int .i64 (r.length:Nat)∧tget t 27=.int .i64 (i:Nat)∧i≤r.length) 20 (by decide) ⟨hk0,hG0,t0,t1,t4,t25,t26,by simpa using t27,by omega⟩ ?_
 clear t0 t1 t4 t25 t26 t27 hk0 hG0
 rintro i t w ⟨hk,hG,t0,t1,t4,t25,t26,t27,hi⟩
 by_cases hlt:i < r.length
 ·obtain ⟨x,hx⟩:∃ p,r[i]?=some p:=⟨_,List.getElem?_eq_getElem hlt⟩
  have hfa:=fineA_of hR hx
  have hnx:=next_at (r:=r) hd hx
  obtain ⟨b,off,sq,c,hrv,hra⟩:=(hrow w hk).at_ i hlt
  rw [hrv] at t25
  have hnn:=hk.next
  have hlm:=hk.lim
  have hld:=hra.rd actC_length hx
  have hia:=fun w=>ia22 w ⟨b,off,sq⟩ r.length c .i64 i hlt
  have hw1:IntKind.wrap .i64 ((i:Int) + 1)=(i:Int) + 1:=wrap64_in (by omega) (by omega)
  have lw:w.lim≤w.next:=by omega
  have lw1:w.lim≤w.next + 1:=by omega
  simp only [actC] at hld
  obtain ⟨_,w3,c99,rfl,u3⟩:=call99 (ov:=ov) m ho99 ⟨(((w.heap.put w.next (some (.cells [.int .i64 0,.int .i64 0,.bool false,.bool false,.int .i64 0,.int .i64 0,.int .i64 0] 78 false))).put w.next (some (.cells [.int .i64 x.warm,.int .i64 x.behind,.bool x.dry,.bool x.first,.int .i64 x.most,.int .i64 x.ll,.int .i64 x.lh] 78 false))).put (w.next + 1) (some (.cells [.int .i64 0,.int .i64 0,.bool false,.bool false,.int .i64 0,.int .i64 0,.int .i64 0,.int .i64 0] 151 false))).put (w.next + 1) (some (.cells [.int .i64 x.warm,.int .i64 x.behind,.bool x.dry,.bool x.first,.int .i64 x.most,.int .i64 x.ll,.int .i64 x.lh,.int .i64 (i:Nat)] 151 false)),w.next + 1 + 1,w.lim⟩ (by show w.lim≤w.next + 1 + 1; omega)
  have u2:Up w w3:=Up.trans (((((Up.refl w).add _).put (Nat.le_refl _) (Nat.le_refl _)).add _).put (by show w.next≤w.next + 1; omega) (Nat.le_refl _)) u3
  have hk3:=hk.up u2
  have hG3:=hup i w w3 hG u2
  have g7:w3.heap.get (w.next + 1)=some (.cells (numC x i) 151 false):=by
   rw [u3.at (by show w.next + 1 < w.next + 1 + 1; omega)]
   show (((((w.heap.put _ _).put _ _).put _ _).put _ _).get _)=_
   rw [get_put,if_pos rfl]; rfl
  have hn3:=hk3.next
  have hl3:=hk3.lim
  have g43:w3.heap.get n4=some (.cells (dayC y s) 149 false):=by rw [hk3.keep n4 hn4 he4]; exact g4
  have g13:w3.heap.get n1=some (.cells (stgC s) 86 false):=by rw [hk3.keep n1 hn1 he1]; exact g1
  simp [mc98_l0,t0,t1,t4,t25,t26,t27,hlt,hia,hld,lw,lw1,c99]
  generalize hTT:tset _ 36 _=TT
  have v0:tget TT 0=.func (.yield L) ⟨[]⟩ ⟨[]⟩:=by rw [← hTT]; simp [t0]
  have v1:tget TT 1=.pointer (some ⟨n1,0,none⟩):=by rw [← hTT]; simp [t1]
  have v4:tget TT 4=.pointer (some ⟨n4,0,none⟩):=by rw [← hTT]; simp [t4]
  have v7:tget TT 7=.pointer (some ⟨w.next + 1,0,none⟩):=by rw [← hTT]; simp
  have v25:tget TT 25=.slice (some ⟨b,off,sq⟩) r.length c:=by rw [← hTT]; simp [t25]
  have v26:tget TT 26=.int .i64 (r.length:Nat):=by rw [← hTT]; simp [t26]
  have v27:tget TT 27=.int .i64 (i:Nat):=by rw [← hTT]; simp [t27]
  have v35:tget TT 35=.agg ⟨[funQ 107,funQ 108,funQ 109,funQ 110]⟩:=by rw [← hTT]; simp
  have v36:tget TT 36=.int .i64 0:=by rw [← hTT]; simp
  clear hTT
  refine wp_seqX (wp_blockX (wp_seqX (wp_blockX (inner98 m h107 h108 h109 h110 x (i:Nat) y s hs n4 (w.next + 1) _ TT w3 g43 g7 v4 v7 v35 v36 ?_ ?_))))
  ·intro hf t' hkt
   rw [if_neg (by rw [hf]; decide)] at hnx
   have hG4:=hskip i w3 hlt hnx hG3
   simp [hkt.k0,hkt.k1,hkt.k4,hkt.k25,hkt.k26,hkt.k27,v0,v1,v4,v25,v26,v27,hw1]
   exact ⟨by omega,hk3,hG4,hrv.symm,hlt⟩
  ·intro hf t' hkt
   rw [if_pos hf] at hnx
   have r100:=S100.call (P:=Tryd.prog) h100 (m:=m) (w:=w3) ⟨s,x,(i:Nat),rfl,hs,hfa,by omega,rfl⟩
   obtain ⟨go,w4,hy,hk4,hgo,hst⟩:=hyield i _ w3 hlt hnx hk3 hG3
   have k0:=hkt.k0; have k1:=hkt.k1; have k7:=hkt.k7
   rw [v0] at k0; rw [v1] at k1; rw [v7] at k7
   have g73:=g7
   simp only [numC] at g73 r100
   have g13':=g13
   generalize hS:stgC (withS s x (i:Nat))=SS at r100 hy
   simp only [stgC] at g13' r100
   cases go with
   | false =>
    simp [k0,k1,k7,g13',g73,r100,hy]
    exact hyes _ _ hk4 (hst rfl)
   | true =>
    simp [k0,k1,k7,g13',g73,r100,hy,hkt.k4,hkt.k25,hkt.k26,hkt.k27,v4,v25,v26,v27,hw1]
    exact ⟨by omega,hk4,hgo rfl,hrv.symm,hlt⟩
 ·have hi':i=r.length:=by omega
  subst hi'
  simp [mc98_l0,t26,t27]
  exact hno _ _ hk hG
set_option maxHeartbeats 1000000 in
theorem call98g (m L:Nat) (ho:∀ args w,ov 98 args w=none) (ho99:∀ args w,ov 99 args w=none) (h100:HasP ov 100 S100.F) (h107:HasP ov 107 S107.F) (h108:HasP ov 108 S108.F) (h109:HasP ov 109 S109.F) (h110:HasP ov 110 S110.F) (hR:ruleB r=true) (hs:FineS s) (k:Nat) (hk:s.done=(k:Nat)) (hkd:k≤d.length) (we:AW) (rv dv:Value) (hdv:RowsV cdayC we dv d)
  (n1 n2:Nat) (hn1:n1 < we.next) (he1:¬ Xc n1) (heN:∀ x,we.next≤x→¬ Xc x) (hn2:n2 < we.next) (g1:we.heap.get n1=some (.cells (stgC s) 86 false)) (g2:we.heap.get n2=some (.cells [rv,dv] 89 false)) (hlim:we.lim≤we.next)
  (hrow:∀ w,Kp Xc we w→RowsV actC w rv r)
  (hup:∀ i w w',G i w→Up w w'→G i w')
  (hskip:∀ i w,i < r.length→nextS r d s ((i:Nat):Int)=none→G i w→G (i + 1) w)
  (hyield:∀ i s' w,k < d.length→i < r.length→nextS r d s ((i:Nat):Int)=some s'→Kp Xc we w→G i w→∃ go w',yieldA (run Tryd.prog ov (m + 1)) L [.agg ⟨stgC s'⟩] w=.val go w'∧Kp Xc w w'∧(go=true→G (i + 1) w')∧(go=false→Post w'))
  (h0:G 0 we) :
  ∃ v w',(run Tryd.prog ov (m + 2)).call 98 [.func (.yield L) ⟨[]⟩ ⟨[]⟩,.pointer (some ⟨n1,0,none⟩),.pointer (some ⟨n2,0,none⟩)] we .none=.ok (.ret v) w' .none∧Kp Xc we w'∧(k < d.length→G r.length w'∨Post w')∧(¬ k < d.length→G 0 w'):=by
 refine call_wpY text98 (by simp) (ho _ _) ?_
 have hrv:=hrow we (Kp.refl _ _)
 have hl1:=fun w2=>len22V (w':=w2) hrv
 have hl2:=fun w2=>len23V (w':=w2) hdv
 have g1':=g1
 simp only [stgC,hk] at g1'
 by_cases hlt:k < d.length
 ·obtain ⟨y,hy⟩:∃ p,d[k]?=some p:=⟨_,List.getElem?_eq_getElem hlt⟩
  have hy':d[s.done.toNat]?=some y:=by rw [hk]; simpa using hy
  obtain ⟨b,off,sq,c,rfl,hra⟩:=hdv.at_ k hlt
  have hb:=hra.2
  have hld:=hra.rd cdayC_length hy
  have hia:=fun w=>ia23 w ⟨b,off,sq⟩ d.length c .i64 k hlt
  have e1:¬ (k:Int)=d.length:=by omega
  have e2:¬ k=d.length:=by omega
  have ne1:¬ n1=we.next:=by omega
  have ne2:¬ n2=we.next:=by omega
  have neb:¬ b=we.next:=by omega
  have nj:sameVal 5 rv rv=true∧notJunk rv=some rv:=by
   obtain ⟨p,q,rfl⟩:=hrv.len
   exact ⟨same_slice _ _ _,rfl⟩
  have sm1:sameVal 5 (.agg ⟨[.int .i64 (k:Nat),.int .i64 s.last,.int .i64 s.row,.int .i64 s.lo,.int .i64 s.hi]⟩) (.agg ⟨[.int .i64 (k:Nat),.int .i64 s.last,.int .i64 s.row,.int .i64 s.lo,.int .i64 s.hi]⟩)=true:=same_agg _ (by
   intro v hv
   simp only [List.mem_cons,List.not_mem_nil,or_false] at hv
   rcases hv with rfl | rfl | rfl | rfl | rfl <;> exact sameN_int _ _ _)
  have sm2:sameVal 5 (.agg ⟨[.int .i64 y.wl,.int .i64 y.wh,.bool y.rain]⟩) (.agg ⟨[.int .i64 y.wl,.int .i64 y.wh,.bool y.rain]⟩)=true:=same_agg _ (by
   intro v hv
   simp only [List.mem_cons,List.not_mem_nil,or_false] at hv
   rcases hv with rfl | rfl | rfl
   ·exact sameN_int _ _ _
   ·exact sameN_int _ _ _
   ·cases y.rain <;> rfl)
  simp only [cdayC] at hld
  have u1:Up we ⟨(we.heap.put we.next (some (.cells [.int .i64 0,.int .i64 0,.bool false,.int .i64 0,.int .i64 0,.int .i64 0,.int .i64 0,.int .i64 0] 149 false))).put we.next (some (.cells [.int .i64 y.wl,.int .i64 y.wh,.bool y.rain,.int .i64 (k:Nat),.int .i64 s.last,.int .i64 s.row,.int .i64 s.lo,.int .i64 s.hi] 149 false)),we.next + 1,we.lim⟩:=((Up.refl we).add _).put (Nat.le_refl _) (Nat.le_refl _)
  have gd:(⟨(we.heap.put we.next (some (.cells [.int .i64 0,.int .i64 0,.bool false,.int .i64 0,.int .i64 0,.int .i64 0,.int .i64 0,.int .i64 0] 149 false))).put we.next (some (.cells [.int .i64 y.wl,.int .i64 y.wh,.bool y.rain,.int .i64 (k:Nat),.int .i64 s.last,.int .i64 s.row,.int .i64 s.lo,.int .i64 s.hi] 149 false)),we.next + 1,we.lim⟩:AW).heap.get we.next=some (.cells (dayC y s) 149 false):=by
   show ((we.heap.put _ _).put _ _).get _=_
   rw [get_put,if_pos rfl,dayC,hk]
  have hKu:=(Kp.refl Xc we).up u1
  simp [mc98,g1',g2,hl1,hl2,e1,e2,hia,hld,ne1,ne2,neb,nj.1,sm1,sm2,hlim]
  refine wp_blockX (loop98g (G:=G) (Post:=Post) m L ho99 h100 h107 h108 h109 h110 hR y hy' hs _ rv n1 we.next (by show n1 < we.next + 1; omega) (Nat.lt_succ_self _) he1 (heN _ (Nat.le_refl _)) (by rw [u1.at hn1]; exact g1) gd (by show we.lim≤we.next + 1; omega) (fun w hw=>hrow w (hKu.trans hw)) hup hskip (fun i s' w h1 h2 h3 h4=>?_) _ _ _ (Kp.refl _ _) (hup _ _ _ h0 u1) ?_ ?_ ?_ ?_ ?_ ?_ ?_ ?_)
  case _ =>
   obtain ⟨go,w',q1,q2,q3,q4⟩:=hyield i s' w hlt h1 h2 (hKu.trans h3) h4
   exact ⟨go,w',q1,h3.trans q2,q3,q4⟩
  case _=>simp
  case _=>simp
  case _=>simp
  case _=>simp
  case _=>simp
  case _=>simp
  case _ =>
   intro t w hw hG
   have hK:=hKu.trans hw
   simp [tupV,hlt]
   exact ⟨hK,.inl hG,fun h=>absurd hlt (by omega)⟩
  case _ =>
   intro t w hw hG
   have hK:=hKu.trans hw
   simp [tupV,hlt]
   exact ⟨hK,.inr hG,fun h=>absurd hlt (by omega)⟩
 ·have hkl:k=d.length:=by omega
  simp [mc98,g1',g2,hl1,hl2,hkl,tupV]
  exact ⟨Kp.refl _ _,h0⟩
end
instance:DecidableEq Stg:=fun a b =>
 if h:a.done=b.done∧a.last=b.last∧a.row=b.row∧a.lo=b.lo∧a.hi=b.hi then isTrue (by
  obtain ⟨a1,a2,a3,a4,a5⟩:=a
  obtain ⟨b1,b2,b3,b4,b5⟩:=b
  obtain ⟨h1,h2,h3,h4,h5⟩:=h
  simp only at h1 h2 h3 h4 h5
  rw [h1,h2,h3,h4,h5]) else isFalse fun e=>h (by rw [e]; exact ⟨rfl,rfl,rfl,rfl,rfl⟩)
def sgV (s:Stg):Value:=.agg ⟨stgC s⟩
def inV (n:Int):Value:=.int .i64 n
theorem sg_ok:KeyOk (true,[0,0,0,0,0]) sgV:=by
 refine ⟨fun a=>rfl,fun a b=>?_⟩
 obtain ⟨a1,a2,a3,a4,a5⟩:=a
 obtain ⟨b1,b2,b3,b4,b5⟩:=b
 by_cases h1:a1=b1 <;> by_cases h2:a2=b2 <;> by_cases h3:a3=b3 <;> by_cases h4:a4=b4 <;> by_cases h5:a5=b5 <;> simp [sgV,stgC,eqFlat,flatCells,sameL,same1,sameInt,sameK_refl,intEq_eq,h1,h2,h3,h4,h5]
theorem map143:mapOf Tryd.prog 143=some (3,(true,[0,0,0,0,0])):=by kernel_rfl
theorem zero3:zeroA Tryd.prog 3=some (.int .i64 0):=by kernel_rfl
@[simp] theorem cf95 (w:AW) (l:List Value):callFn Tryd.prog w 95 l=.enter 95 l w:=callFn_of (by kernel_rfl) l
@[simp] theorem cf75 (w:AW) (l:List Value):callFn Tryd.prog w 75 l=.enter 75 l w:=callFn_of (by kernel_rfl) l
def ptB (b:Nat):Value:=.pointer (some ⟨b,0,none⟩)
def fn95 (c6 c3 c2 c7:Nat):Value:=.func (.func 95) ⟨[]⟩ ⟨[ptB c6,ptB c3,ptB c2,ptB c7]⟩
def fn75 (b6 b7:Nat):Value:=.func (.func 75) ⟨[]⟩ ⟨[ptB b6,ptB b7]⟩
def soB (b:CBox) (lim:Sp) (s:Stg):Bool:=surB b [(s.lo,s.hi)] lim
def OkS (r:List CAct) (d:List CDay) (s:Stg):Prop:=(∃ so,StOk r so s∧so.length≤d.length)∧s.lo≤s.hi
theorem OkS.start (r:List CAct) (d:List CDay):OkS r d startS:=⟨⟨[],start_ok r,Nat.zero_le _⟩,Int.le_refl _⟩
theorem OkS.next {r:List CAct} {d:List CDay} (hR:ruleB r=true) {s s':Stg} (h:OkS r d s) {a:Int} (hn:nextS r d s a=some s'):OkS r d s'∧s'.done=s.done + 1:=by
 obtain ⟨⟨so,h1,h2⟩,h3⟩:=h
 have hdn:s.done.toNat=so.length:=by rw [h1.done]; simp
 obtain ⟨i,rfl,hi⟩:=next_nat hn
 obtain ⟨x,hx⟩:∃ x,r[i]?=some x:=⟨_,List.getElem?_eq_getElem hi⟩
 cases hd:d[s.done.toNat]? with
 | none =>
  unfold nextS at hn
  rw [hd] at hn; cases hn
 | some y =>
  have hlt:so.length < d.length:=by rw [hdn] at hd; exact (List.getElem?_eq_some_iff.1 hd).1
  have hfa:=fineA_of hR hx
  obtain ⟨_,_,k,_⟩:=act_of hR hx
  simp only [spanI,Bool.and_eq_true,decide_eq_true_eq] at k
  have e:=next_at (r:=r) hd hx
  rw [hn] at e
  have es:s'=withS s x (i:Nat):=by
   split at e
   ·exact Option.some.inj e
   ·cases e
  rcases next_fol (d:=d) hR h1 ((i:Nat):Int) with ⟨k1,_⟩ | ⟨s2,k1,_,k3⟩
  ·rw [hn] at k1; cases k1
  ·rw [hn] at k1
   cases Option.some.inj k1
   refine ⟨⟨⟨_,k3,by rw [List.length_append,List.length_singleton]; omega⟩,?_⟩,?_⟩
   ·rw [es]; show s.lo + x.ll≤s.hi + x.lh; omega
   ·rw [es]; rfl
structure TrP (r:List CAct) (d:List CDay) (b:CBox) (lim:Sp) (w0:AW) (rv dv:Value) (b6 b7 c2 c3 c6 c7 km be:Nat) (w:AW):Prop where
 old:∀ x,x < w0.next→w.heap.get x=w0.heap.get x
 bx:w.heap.get b6=some (.cells (boxC b) 27 false)
 lm:w.heap.get b7=some (.cells (spC lim) 25 false)
 m2:w.heap.get c2=some (.cells [rv,dv] 89 false)
 m3:w.heap.get c3=some (.cells [fn75 b6 b7] 120 false)
 m6:w.heap.get c6=some (.cells [.map (some km)] 143 false)
 m7:w.heap.get c7=some (.cells [fn95 c6 c3 c2 c7] 144 false)
 map:∃ L,MapAt sgV inV w km L∧∀ s v,lookK L s=some v→v=leftG r d (soB b lim) (d.length - s.done.toNat) s
 ne:b6 ≠ km∧b7 ≠ km∧c2 ≠ km∧c3 ≠ km∧c6 ≠ km∧c7 ≠ km∧w0.next≤km
 lt:b6 < be∧b7 < be∧c2 < be∧c3 < be∧c6 < be∧c7 < be∧km < be
 le:be≤w.next
 wl:w.lim=w0.lim
section
variable {r:List CAct} {d:List CDay} {b:CBox} {lim:Sp} {w0:AW} {rv dv:Value} {b6 b7 c2 c3 c6 c7 km be:Nat}
theorem TrP.keep {w w':AW} (h:TrP r d b lim w0 rv dv b6 b7 c2 c3 c6 c7 km be w) (k:∀ x,x < be→w'.heap.get x=w.heap.get x) (hn:w.next≤w'.next) (hl:w'.lim=w.lim):TrP r d b lim w0 rv dv b6 b7 c2 c3 c6 c7 km be w':=by
 obtain ⟨l1,l2,l3,l4,l5,l6,l7⟩:=h.lt
 obtain ⟨L,q1,q2⟩:=h.map
 have hk:=h.ne.2.2.2.2.2.2
 exact ⟨fun x hx=>by rw [k x (by omega)]; exact h.old x hx,by rw [k _ l1]; exact h.bx,by rw [k _ l2]; exact h.lm,by rw [k _ l3]; exact h.m2,by rw [k _ l4]; exact h.m3,by rw [k _ l5]; exact h.m6,by rw [k _ l6]; exact h.m7,⟨L,by unfold MapAt; rw [k _ l7]; exact q1,q2⟩,h.ne,h.lt,Nat.le_trans h.le hn,by rw [hl]; exact h.wl⟩
theorem TrP.up {w w':AW} (h:TrP r d b lim w0 rv dv b6 b7 c2 c3 c6 c7 km be w) (u:Up w w'):TrP r d b lim w0 rv dv b6 b7 c2 c3 c6 c7 km be w' :=
 h.keep (fun x hx=>u.at (by have:=h.le; omega)) u.next u.lim
theorem TrP.upd {w:AW} (h:TrP r d b lim w0 rv dv b6 b7 c2 c3 c6 c7 km be w) {L:List (Stg × Int)} (hL:MapAt sgV inV w km L) (hK:∀ s v,lookK L s=some v→v=leftG r d (soB b lim) (d.length - s.done.toNat) s) (s:Stg) {n:Nat} (hn:d.length - s.done.toNat=n) :
  TrP r d b lim w0 rv dv b6 b7 c2 c3 c6 c7 km be ⟨w.heap.put km (some (.map (entsK sgV inV 0 (updK L s (leftG r d (soB b lim) n s))) (updK L s (leftG r d (soB b lim) n s)).length)),w.next,w.lim⟩:=by
 obtain ⟨e1,e2,e3,e4,e5,e6,e7⟩:=h.ne
 have g:∀ x,x ≠ km→(⟨w.heap.put km (some (.map (entsK sgV inV 0 (updK L s (leftG r d (soB b lim) n s))) (updK L s (leftG r d (soB b lim) n s)).length)),w.next,w.lim⟩:AW).heap.get x=w.heap.get x:=fun x hx=>by
  show (w.heap.put km _).get x=_
  rw [get_put,if_neg hx]
 refine ⟨fun x hx=>by rw [g x (by omega)]; exact h.old x hx,by rw [g _ e1]; exact h.bx,by rw [g _ e2]; exact h.lm,by rw [g _ e3]; exact h.m2,by rw [g _ e4]; exact h.m3,by rw [g _ e5]; exact h.m6,by rw [g _ e6]; exact h.m7,⟨updK L s (leftG r d (soB b lim) n s),?_,fun s2 v hv=>?_⟩,h.ne,h.lt,h.le,h.wl⟩
 ·unfold MapAt
  show (w.heap.put km _).get km=_
  rw [get_put,if_pos rfl]
 ·rw [lookK_upd] at hv
  by_cases es:s2=s
  ·rw [if_pos es] at hv
   rw [es,hn]
   exact (Option.some.inj hv).symm
  ·rw [if_neg es] at hv
   exact hK s2 v hv
theorem call75 {ov:Ov} (m:Nat) (ho:∀ args w,ov 75 args w=none) (h71:HasP ov 71 S71.F) (hb:boxB b=true) (s:Stg) (hs:FineS s) (hlh:s.lo≤s.hi) (w:AW) (hl:w.lim≤w.next) (hLim:LimW w) (g6:w.heap.get b6=some (.cells (boxC b) 27 false)) (g7:w.heap.get b7=some (.cells (spC lim) 25 false)) (l6:b6 < w.next) (l7:b7 < w.next) :
  ∃ v w',(run Tryd.prog ov (m + 2)).call 75 [.agg ⟨stgC s⟩,ptB b6,ptB b7] w .none=.ok (.ret v) w' .none∧v=.bool (soB b lim s)∧Up w w':=by
 refine call_wp text75 (by simp) (ho _ _) ?_
 obtain ⟨w2,hw2⟩:∃ w2:AW,w2=⟨(w.heap.put w.next (some (.cells [.int .i64 s.done,.int .i64 s.last,.int .i64 s.row,.int .i64 s.lo,.int .i64 s.hi] 86 false))).put (w.next + 1) (some (.cells [.int .i64 s.lo,.int .i64 s.hi] 25 false)),w.next + 1 + 1,w.lim⟩:=⟨_,rfl⟩
 have u2:Up w w2:=by rw [hw2]; exact ((Up.refl w).add _).put (Nat.le_succ _) (Nat.le_succ _)
 have n2:w2.next=w.next + 2:=by rw [hw2]
 have gp:w2.heap.get (w.next + 1)=some (.cells [.int .i64 s.lo,.int .i64 s.hi] 25 false):=by rw [hw2]; show ((w.heap.put _ _).put _ _).get _=_; rw [get_put,if_pos rfl]
 have hp:ProcV w2 (.slice (some ⟨w.next + 1,0,none⟩) 1 1) [(s.lo,s.hi)]:=⟨w.next + 1,rfl,gp,by omega⟩
 have h3:=hs.lo; have h4:=hs.hi
 have hL:LosW (losL [(s.lo,s.hi)]):=fun k=>by
  match k with
  | 0=>exact ⟨h3.1,hlh,h4.2⟩
  | 1=>show (0:Int)≤0∧(0:Int)≤1000000∧(1000000:Int)≤1000000; omega
  | k + 2=>show (0:Int)≤0∧(0:Int)≤0∧(0:Int)≤1000000; omega
 have r71:=S71.call (P:=Tryd.prog) h71 (m:=m) (w:=w2) ⟨b,_,[(s.lo,s.hi)],lim,rfl,hp,by simp,hL,hb,hLim.up u2,by have:=u2.lim; omega,rfl⟩
 simp only [procC,spC] at r71
 rw [hw2] at r71
 have m6:¬ b6=w.next:=by omega
 have m7:¬ b7=w.next:=by omega
 have m7':¬ b7=w.next + 1:=by omega
 simp only [boxC] at g6
 simp only [spC] at g7
 have e:surB b [(s.lo,s.hi)] lim=soB b lim s:=rfl
 rw [e] at r71
 simp [mc75,ptB,stgC,g6,g7,m6,m7,m7',cellsOf_agg,r71,tupV]
 rw [← hw2]; exact u2
def AfP (r:List CAct) (d:List CDay) (b:CBox) (lim:Sp) (w0:AW) (rv dv:Value) (b6 b7 c2 c3 c6 c7 km be:Nat) (w w':AW):Prop:=TrP r d b lim w0 rv dv b6 b7 c2 c3 c6 c7 km be w'∧Kp (fun x=>x=km) w w'
def H95 (ov:Ov) (r:List CAct) (d:List CDay) (b:CBox) (lim:Sp) (w0:AW) (rv dv:Value) (b6 b7 c2 c3 c6 c7 km be M n:Nat):Prop:=∀ (s:Stg) (w:AW),OkS r d s→s.done + (n:Int)=(d.length:Int)→TrP r d b lim w0 rv dv b6 b7 c2 c3 c6 c7 km be w →
 ∃ w',(run Tryd.prog ov M).call 95 [.agg ⟨stgC s⟩,ptB c6,ptB c3,ptB c2,ptB c7] w .none=.ok (.ret (.int .i64 (leftG r d (soB b lim) n s))) w' .none∧AfP r d b lim w0 rv dv b6 b7 c2 c3 c6 c7 km be w w'
theorem body95 {ov:Ov} (m n:Nat) (H:H95 ov r d b lim w0 rv dv b6 b7 c2 c3 c6 c7 km be m n) (s:Stg) (hS:OkS r d s) (hdn:s.done + (n:Int)=(d.length:Int)) (w:AW) (hT:TrP r d b lim w0 rv dv b6 b7 c2 c3 c6 c7 km be w) (hl:w0.lim≤w0.next) (c9 c10:Nat) (h9:be≤c9∧c9 < w.next) (h10:be≤c10∧c10 < w.next) (z:Int) (g9:w.heap.get c9=some (.cells [.int .i64 z] 3 false)) (g10:w.heap.get c10=some (.cells (stgC s) 86 false)) (Q:Ex→Tm→AW→Prop) (t:Tm) (t4:tget t 4=ptB c7) (t9:tget t 9=ptB c9) (t10:tget t 10=ptB c10)
  (hQ:∀ t w5,AfP r d b lim w0 rv dv b6 b7 c2 c3 c6 c7 km be w w5→Q .normal t ⟨w5.heap.put c9 (some (.cells [.int .i64 (min z (1 + leftG r d (soB b lim) n s))] 3 false)),w5.next,w5.lim⟩):wp (exY Tryd.prog (run Tryd.prog ov m) mc95_b0 t w) Q:=by
 obtain ⟨w5,c95,hA⟩:=H s w hS hdn hT
 have hkm:=hT.lt.2.2.2.2.2.2
 have g9':w5.heap.get c9=some (.cells [.int .i64 z] 3 false):=by rw [hA.2.keep c9 h9.2 (by omega)]; exact g9
 have hbd:=leftG_bd (r:=r) (d:=d) (so:=soB b lim) n s
 obtain ⟨q,hq⟩:∃ q,q=leftG r d (soB b lim) n s:=⟨_,rfl⟩
 rw [← hq] at c95 hbd hQ
 have hw:IntKind.wrap .i64 (1 + q)=1 + q:=wrap64_in (by omega) (by omega)
 have hl9:w5.lim≤c9:=by have:=hA.1.wl; have:=hT.ne.2.2.2.2.2.2; omega
 have g7:=hT.m7
 simp only [fn95] at g7
 simp only [ptB] at t4 t9 t10 c95 g7
 simp only [stgC] at g10 c95
 simp [mc95_b0,t4,t9,t10,g9,g7,g10,callV_func,c95,hw,g9',hl9]
 exact hQ _ w5 hA
theorem steps95 {ov:Ov} (m n:Nat) (H:H95 ov r d b lim w0 rv dv b6 b7 c2 c3 c6 c7 km be m n) (s:Stg) (hS:OkS r d s) (hdn:s.done + (n:Int)=(d.length:Int)) (w:AW) (hT:TrP r d b lim w0 rv dv b6 b7 c2 c3 c6 c7 km be w) (hl:w0.lim≤w0.next) (L c9:Nat) (hL:be≤L∧L < w.next) (h9:be≤c9∧c9 < w.next) (h9L:c9 ≠ L) (z:Int) (g9:w.heap.get c9=some (.cells [.int .i64 z] 3 false)) (TT:Tm) (t4:tget TT 4=ptB c7) (t9:tget TT 9=ptB c9)
  (lp:ALoop) (hlp:lp=⟨38,TT,[27],(rfOf Tryd.prog 95 0).1,(rfOf Tryd.prog 95 0).2,none,.ready⟩) (gL:w.heap.get L=some (.loop lp)) :
  ∃ w',yieldA (run Tryd.prog ov (m + 1)) L [.agg ⟨stgC s⟩] w=.val true w'∧TrP r d b lim w0 rv dv b6 b7 c2 c3 c6 c7 km be w'∧Kp (fun x=>x=km∨x=L∨x=c9) w w'∧w'.heap.get L=some (.loop lp)∧w'.heap.get c9=some (.cells [.int .i64 (min z (1 + leftG r d (soB b lim) n s))] 3 false):=by
 have hle:=hT.le
 have hwl:=hT.wl
 have hkm:=hT.lt.2.2.2.2.2.2
 have hk0:=hT.ne.2.2.2.2.2.2
 have lw:w.lim≤w.next:=by omega
 have eL:¬ L=w.next:=by omega
 have lL:w.lim≤L:=by omega
 subst hlp
 obtain ⟨C,hC⟩:∃ C:AObj,C=.cells [.int .i64 s.done,.int .i64 s.last,.int .i64 s.row,.int .i64 s.lo,.int .i64 s.hi] 86 false:=⟨_,rfl⟩
 obtain ⟨wB,hwB⟩:∃ wB:AW,wB=⟨((w.heap.put w.next (some (.cells [.int .i64 0,.int .i64 0,.int .i64 0,.int .i64 0,.int .i64 0] 86 false))).put w.next (some C)).put L (some (.loop ⟨38,TT,[27],(rfOf Tryd.prog 95 0).1,(rfOf Tryd.prog 95 0).2,none,.busy⟩)),w.next + 1,w.lim⟩:=⟨_,rfl⟩
 have nB:wB.next=w.next + 1:=by rw [hwB]
 have lB:wB.lim=w.lim:=by rw [hwB]
 have kB:∀ x,x < w.next→x ≠ L→wB.heap.get x=w.heap.get x:=fun x h1 h2=>by
  rw [hwB]
  show (((w.heap.put _ _).put _ _).put _ _).get x=_
  rw [get_put,if_neg h2,get_put,if_neg (by omega),get_put,if_neg (by omega)]
 have gB:wB.heap.get w.next=some C:=by
  rw [hwB]
  show (((w.heap.put _ _).put _ _).put _ _).get _=_
  rw [get_put,if_neg (by omega),get_put,if_pos rfl]
 have gLB:wB.heap.get L=some (.loop ⟨38,TT,[27],(rfOf Tryd.prog 95 0).1,(rfOf Tryd.prog 95 0).2,none,.busy⟩):=by
  rw [hwB]
  show (((w.heap.put _ _).put _ _).put _ _).get _=_
  rw [get_put,if_pos rfl]
 have hTB:TrP r d b lim w0 rv dv b6 b7 c2 c3 c6 c7 km be wB:=hT.keep (fun x hx=>kB x (by omega) (by omega)) (by omega) lB
 obtain ⟨j,w',hy,hQ⟩:=yield_wp (P:=Tryd.prog) (ov:=ov) (m:=m) (l:=L) (args:=[.agg ⟨stgC s⟩]) (w:=w) (Q:=fun j w'=>j=none∧∃ w5,AfP r d b lim w0 rv dv b6 b7 c2 c3 c6 c7 km be wB w5∧w'=⟨(w5.heap.put c9 (some (.cells [.int .i64 (min z (1 + leftG r d (soB b lim) n s))] 3 false))).put L (some (.loop ⟨38,TT,[27],(rfOf Tryd.prog 95 0).1,(rfOf Tryd.prog 95 0).2,none,.ready⟩)),w5.next,w5.lim⟩) gL rfl rfl ta95_0 tb95_0 (by
  simp [mc95_a0,stgC,cellsOf_agg,lw,lL,eL,gL]
  rw [← hC,← hwB]
  refine body95 m n H s hS hdn wB hTB hl c9 w.next ⟨h9.1,by omega⟩ ⟨by omega,by omega⟩ z (by rw [kB c9 h9.2 h9L]; exact g9) (by rw [gB,hC]; rfl) _ _ ?_ ?_ ?_ ?_
  ·simp [t4]
  ·simp [t9]
  ·simp [ptB]
  ·intro t w5 hA
   have gL5:w5.heap.get L=some (.loop ⟨38,TT,[27],(rfOf Tryd.prog 95 0).1,(rfOf Tryd.prog 95 0).2,none,.busy⟩):=by rw [hA.2.keep L (by omega) (by omega)]; exact gLB
   have l5:=hA.2.lim
   refine ⟨none,rfl,⟨38,TT,[27],(rfOf Tryd.prog 95 0).1,(rfOf Tryd.prog 95 0).2,none,.busy⟩,?_,⟨rfl,rfl,rfl,rfl,rfl⟩,by show w5.lim≤L; omega,rfl,w5,hA,rfl,rfl,rfl⟩
   show (w5.heap.put c9 _).get L=_
   rw [get_put,if_neg (Ne.symm h9L)]; exact gL5)
 obtain ⟨rfl,w5,hA,hw'⟩:=hQ
 have n5:=hA.2.next
 have l5:=hA.2.lim
 refine ⟨w',hy,?_,⟨fun x hx hne=>?_,?_,?_⟩,?_,?_⟩
 ·rw [hw']
  refine hA.1.keep (fun x hx=>?_) (Nat.le_refl _) rfl
  show ((w5.heap.put _ _).put _ _).get x=_
  rw [get_put,if_neg (by omega),get_put,if_neg (by omega)]
 ·rw [hw']
  show ((w5.heap.put _ _).put _ _).get x=_
  rw [get_put,if_neg (by omega),get_put,if_neg (by omega),hA.2.keep x (by omega) (by omega),kB x hx (by omega)]
 ·rw [hw']; show w.next≤w5.next; omega
 ·rw [hw']; show w5.lim=w.lim; omega
 ·rw [hw']
  show ((w5.heap.put _ _).put _ _).get L=_
  rw [get_put,if_pos rfl]
 ·rw [hw']
  show ((w5.heap.put _ _).put _ _).get c9=_
  rw [get_put,if_neg h9L,get_put,if_pos rfl]
end
end Go.Proofs.YtnmamelclmfplaaDoor.walk
