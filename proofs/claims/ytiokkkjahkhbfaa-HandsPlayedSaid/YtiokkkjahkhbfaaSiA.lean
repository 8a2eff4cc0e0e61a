/- Part of a proof: see the text with the theorem. -/
import Derived.Test.YtiokkkjahkhbfaaSiK
import Derived.Laws.Sem
import Derived.Laws.World
import Derived.StepT
import Derived.Below
import Derived.Calls
import Derived.Laws.Cells
import Derived.Laws.NewBlocks
import Derived.Laws.Append
import Derived.Laws.Strings
import Derived.Laws.Concat
import Derived.IntWalk
import Derived.Laws.Entries
import Derived.Laws.StructEq
import Derived.Laws.MakeOwn
set_option linter.all false
namespace Go.Sh
open Go
theorem bool_rec {α:Type} (b:Bool) (x y:α):Bool.rec (motive:=fun _=>α) x y b=if b then y else x:=by cases b <;> rfl
section lists
variable {α β:Type}
theorem nth0_eq (l:List α):∀ k,nth0 l k=l[k]?:=by
 induction l with
 | nil=>intro k; rfl
 | cons x l ih=>intro k; cases k with
  | zero=>rfl
  | succ k=>exact ih k
theorem dropL0_eq:∀ (n:Nat) (l:List α),dropL0 n l=l.drop n
 | 0,l=>rfl
 | n + 1,[]=>by simp; rfl
 | n + 1,x::l=>dropL0_eq n l
theorem skip8_eq (l:List α):skip8 l=l.drop 8:=by
 match l with
 | []=>rfl
 | [_]=>rfl
 | [_,_]=>rfl
 | [_,_,_]=>rfl
 | [_,_,_,_]=>rfl
 | [_,_,_,_,_]=>rfl
 | [_,_,_,_,_,_]=>rfl
 | [_,_,_,_,_,_,_]=>rfl
 | _::_::_::_::_::_::_::_::l=>rfl
theorem skipN_eq (l:List α):∀ n,skipN l n=l.drop (8 * n)
 | 0=>rfl
 | n + 1=>by
  show skip8 (skipN l n)=_
  rw [skip8_eq,skipN_eq l n,List.drop_drop,Nat.mul_succ]
theorem nth_eq (l:List α) (k:Nat):nth l k=l[k]?:=by
 show nth0 (skipN l (k / 8)) (k % 8)=_
 rw [nth0_eq,skipN_eq,List.getElem?_drop]
 congr 1
 omega
theorem dropL_eq (n:Nat) (l:List α):dropL n l=l.drop n:=by
 show dropL0 (n % 8) (skipN l (n / 8))=_
 rw [dropL0_eq,skipN_eq,List.drop_drop]
 congr 1
 omega
theorem takeL_eq:∀ (n:Nat) (l:List α),takeL n l=l.take n
 | 0,l=>by simp; rfl
 | n + 1,[]=>by simp; rfl
 | n + 1,x::l=>by rw [List.take_succ_cons,← takeL_eq n l]; rfl
theorem lenL_eq (l:List α):∀ n,lenL l n=l.length + n:=by
 induction l with
 | nil=>intro n; simp; rfl
 | cons x l ih=>intro n; have:=ih (n + 1); simp only [List.length_cons]; show lenL l (n + 1)=_; omega
theorem lenL0 (l:List α):lenL l 0=l.length:=lenL_eq l 0
theorem mapL_eq (f:α→β) (l:List α):mapL f l=l.map f:=by
 induction l with
 | nil=>rfl
 | cons x l ih=>simp only [List.map_cons]; rw [← ih]; rfl
theorem appL_eq (l m:List α):appL l m=l++m:=by
 induction l with
 | nil=>rfl
 | cons x l ih=>simp only [List.cons_append]; rw [← ih]; rfl
theorem spliceL_eq:∀ (n:Nat) (c vs:List α),n≤c.length→spliceL n c vs=c.take n++(vs++c.drop (n + vs.length))
 | 0,c,vs,_=>by
  show appL vs (dropL (lenL vs 0) c)=_
  rw [appL_eq,dropL_eq,lenL0]; simp
 | n + 1,[],vs,h=>by simp at h
 | n + 1,x::c,vs,h=>by
  have:=spliceL_eq n c vs (by simpa using h)
  show x::spliceL n c vs=_
  rw [this]
  have e:n + 1 + vs.length=(n + vs.length) + 1:=by omega
  simp [e]
theorem spliceL_length (n:Nat) (c vs:List α) (h:n + vs.length≤c.length):(spliceL n c vs).length=c.length:=by
 rw [spliceL_eq n c vs (by omega)]; simp; omega
end lists
section table
variable {α:Type}
theorem get0_leaf (k:Nat):T0.get (T0.leaf:T0 α) k=none:=rfl
theorem get_node0 (l r:T0 α) (v:Option α):T0.get (.node l v r) 0=v:=rfl
theorem get_nodeS (l r:T0 α) (v:Option α) (k:Nat):T0.get (.node l v r) (k + 1)=if Nat.beq (Nat.mod k 2) 0 then T0.get l (Nat.div k 2) else T0.get r (Nat.div k 2):=by
 rw [← bool_rec]; rfl
theorem setF_leaf0 (f:Nat) (a:Option α):T0.setF (f + 1) .leaf 0 a=.node .leaf a .leaf:=rfl
theorem setF_leafS (f k:Nat) (a:Option α):T0.setF (f + 1) .leaf (k + 1) a=if Nat.beq (Nat.mod k 2) 0 then .node (T0.setF f .leaf (Nat.div k 2) a) none .leaf else .node .leaf none (T0.setF f .leaf (Nat.div k 2) a):=by
 rw [← bool_rec]; rfl
theorem setF_node0 (f:Nat) (l r:T0 α) (v a:Option α):T0.setF (f + 1) (.node l v r) 0 a=.node l a r:=rfl
theorem setF_nodeS (f k:Nat) (l r:T0 α) (v a:Option α):T0.setF (f + 1) (.node l v r) (k + 1) a=if Nat.beq (Nat.mod k 2) 0 then .node (T0.setF f l (Nat.div k 2) a) v r else .node l v (T0.setF f r (Nat.div k 2) a):=by
 rw [← bool_rec]; rfl
theorem beq2 (k:Nat):(Nat.beq (Nat.mod k 2) 0=true) ↔ k % 2=0:=by
 show (Nat.beq (k % 2) 0=true) ↔ _
 rw [Nat.beq_eq]
theorem get_setF:∀ (f:Nat) (t:T0 α) (k:Nat) (a:Option α) (j:Nat),k < f→(T0.setF f t k a).get j=if j=k then a else t.get j:=by
 intro f
 induction f with
 | zero=>intro t k a j h; omega
 | succ f ih =>
  intro t k a j h
  have hd:∀ m,Nat.div m 2=m / 2:=fun _=>rfl
  cases k with
  | zero =>
   cases t with
   | leaf=>rw [setF_leaf0]; cases j with
    | zero=>simp [get_node0]
    | succ j=>rw [get_nodeS]; simp [get0_leaf]
   | node l v r=>rw [setF_node0]; cases j with
    | zero=>simp [get_node0]
    | succ j=>rw [get_nodeS,get_nodeS]; simp
  | succ k =>
   have hk:k / 2 < f:=by omega
   cases t with
   | leaf =>
    rw [setF_leafS]
    by_cases hp:Nat.beq (Nat.mod k 2) 0=true
    ·rw [if_pos hp]
     have hp':=(beq2 k).1 hp
     cases j with
     | zero=>simp [get_node0,get0_leaf]
     | succ j =>
      rw [get_nodeS,hd,hd,ih _ _ _ _ hk]
      by_cases hj:Nat.beq (Nat.mod j 2) 0=true
      ·have:=(beq2 j).1 hj
       rw [if_pos hj]
       by_cases e:j / 2=k / 2
       ·rw [if_pos e,if_pos (by omega)]
       ·rw [if_neg e,if_neg (by omega)]; rfl
      ·have:¬ (j % 2=0):=fun h=>hj ((beq2 j).2 h)
       rw [if_neg hj,if_neg (by omega)]; rfl
    ·rw [if_neg hp]
     have hp':¬ (k % 2=0):=fun h=>hp ((beq2 k).2 h)
     cases j with
     | zero=>simp [get_node0,get0_leaf]
     | succ j =>
      rw [get_nodeS,hd,hd,ih _ _ _ _ hk]
      by_cases hj:Nat.beq (Nat.mod j 2) 0=true
      ·have:=(beq2 j).1 hj
       rw [if_pos hj,if_neg (by omega)]; rfl
      ·have:¬ (j % 2=0):=fun h=>hj ((beq2 j).2 h)
       rw [if_neg hj]
       by_cases e:j / 2=k / 2
       ·rw [if_pos e,if_pos (by omega)]
       ·rw [if_neg e,if_neg (by omega)]; rfl
   | node l v r =>
    rw [setF_nodeS]
    by_cases hp:Nat.beq (Nat.mod k 2) 0=true
    ·rw [if_pos hp]
     have hp':=(beq2 k).1 hp
     cases j with
     | zero=>simp [get_node0]
     | succ j =>
      rw [get_nodeS,get_nodeS,hd,hd,ih _ _ _ _ hk]
      by_cases hj:Nat.beq (Nat.mod j 2) 0=true
      ·have:=(beq2 j).1 hj
       rw [if_pos hj,if_pos hj]
       by_cases e:j / 2=k / 2
       ·rw [if_pos e,if_pos (by omega)]
       ·rw [if_neg e,if_neg (by omega)]
      ·have:¬ (j % 2=0):=fun h=>hj ((beq2 j).2 h)
       rw [if_neg hj,if_neg hj,if_neg (by omega)]
    ·rw [if_neg hp]
     have hp':¬ (k % 2=0):=fun h=>hp ((beq2 k).2 h)
     cases j with
     | zero=>simp [get_node0]
     | succ j =>
      rw [get_nodeS,get_nodeS,hd,hd,ih _ _ _ _ hk]
      by_cases hj:Nat.beq (Nat.mod j 2) 0=true
      ·have:=(beq2 j).1 hj
       rw [if_pos hj,if_pos hj,if_neg (by omega)]
      ·have:¬ (j % 2=0):=fun h=>hj ((beq2 j).2 h)
       rw [if_neg hj,if_neg hj]
       by_cases e:j / 2=k / 2
       ·rw [if_pos e,if_pos (by omega)]
       ·rw [if_neg e,if_neg (by omega)]
theorem bool3 {β:Type} (k:Nat) (x y z u:β):Bool.rec (motive:=fun _=>β) (Bool.rec (motive:=fun _=>β) u z (Nat.beq (Nat.mod k 4) 2)) (Bool.rec (motive:=fun _=>β) y x (Nat.beq (Nat.mod k 4) 0)) (Nat.ble (Nat.mod k 4) 1) =
  if k % 4=0 then x else if k % 4=1 then y else if k % 4=2 then z else u:=by
 have h:k % 4 < 4:=Nat.mod_lt _ (by decide)
 show Bool.rec (motive:=fun _=>β) (Bool.rec (motive:=fun _=>β) u z (Nat.beq (k % 4) 2)) (Bool.rec (motive:=fun _=>β) y x (Nat.beq (k % 4) 0)) (Nat.ble (k % 4) 1)=_
 generalize k % 4=m at h ⊢
 match m,h with
 | 0,_=>rfl
 | 1,_=>rfl
 | 2,_=>rfl
 | 3,_=>rfl
theorem level {β γ δ : Type} {g : β → Nat → γ} {p : β → Nat → δ → β} {n : Nat} {x : δ} {r : γ} (h : ∀ (t : β) (k j : Nat), k < n → j < n → g (p t k x) j = if j = k then r else g t j) (t : Q β) (k j : Nat) (hk : k < 4 * n) (hj : j < 4 * n) :
    (if j % 4 = 0 then g (if k % 4 = 0 then ⟨p t.a (k / 4) x, t.b, t.c, t.d⟩ else if k % 4 = 1 then ⟨t.a, p t.b (k / 4) x, t.c, t.d⟩ else if k % 4 = 2 then ⟨t.a, t.b, p t.c (k / 4) x, t.d⟩ else ⟨t.a, t.b, t.c, p t.d (k / 4) x⟩ : Q β).a (j / 4)
      else if j % 4 = 1 then g (if k % 4 = 0 then ⟨p t.a (k / 4) x, t.b, t.c, t.d⟩ else if k % 4 = 1 then ⟨t.a, p t.b (k / 4) x, t.c, t.d⟩ else if k % 4 = 2 then ⟨t.a, t.b, p t.c (k / 4) x, t.d⟩ else ⟨t.a, t.b, t.c, p t.d (k / 4) x⟩ : Q β).b (j / 4)
      else if j % 4 = 2 then g (if k % 4 = 0 then ⟨p t.a (k / 4) x, t.b, t.c, t.d⟩ else if k % 4 = 1 then ⟨t.a, p t.b (k / 4) x, t.c, t.d⟩ else if k % 4 = 2 then ⟨t.a, t.b, p t.c (k / 4) x, t.d⟩ else ⟨t.a, t.b, t.c, p t.d (k / 4) x⟩ : Q β).c (j / 4)
      else g (if k % 4 = 0 then ⟨p t.a (k / 4) x, t.b, t.c, t.d⟩ else if k % 4 = 1 then ⟨t.a, p t.b (k / 4) x, t.c, t.d⟩ else if k % 4 = 2 then ⟨t.a, t.b, p t.c (k / 4) x, t.d⟩ else ⟨t.a, t.b, t.c, p t.d (k / 4) x⟩ : Q β).d (j / 4)) =
    if j = k then r else (if j % 4 = 0 then g t.a (j / 4) else if j % 4 = 1 then g t.b (j / 4) else if j % 4 = 2 then g t.c (j / 4) else g t.d (j / 4)) := by
  have h1 : k / 4 < n := by omega
  have h2 : j / 4 < n := by omega
  have hk4 : k % 4 = 0 ∨ k % 4 = 1 ∨ k % 4 = 2 ∨ k % 4 = 3 := by omega
  have hj4 : j % 4 = 0 ∨ j % 4 = 1 ∨ j % 4 = 2 ∨ j % 4 = 3 := by omega
  rcases hj4 with e | e | e | e <;> rcases hk4 with e' | e' | e' | e' <;> simp only [e, e', if_true, if_false, Nat.one_ne_zero, Nat.reduceEqDiff, reduceIte] <;>
    first
      | (rw [if_neg (by omega)]; done)
      | (rw [h _ _ _ h1 h2]
         by_cases ee : j / 4 = k / 4
         · rw [if_pos ee, if_pos (by omega)]
         · rw [if_neg ee, if_neg (by omega)])
theorem getQ1_eq (t:Q (α)) (k:Nat):Q.get1 t k=if k % 4=0 then t.a else if k % 4=1 then t.b else if k % 4=2 then t.c else t.d:=bool3 k _ _ _ _
theorem putQ1_eq (t:Q (α)) (k:Nat) (x:α):Q.put1 t k x=if k % 4=0 then ⟨x,t.b,t.c,t.d⟩ else if k % 4=1 then ⟨t.a,x,t.c,t.d⟩ else if k % 4=2 then ⟨t.a,t.b,x,t.d⟩ else ⟨t.a,t.b,t.c,x⟩:=bool3 k _ _ _ _
theorem get_putQ1 (x:α) (t:Q (α)) (k j:Nat) (hk:k < 4) (hj:j < 4):Q.get1 (Q.put1 t k x) j=if j=k then x else Q.get1 t j:=by
 rw [getQ1_eq,getQ1_eq,putQ1_eq]
 exact level (n:=1) (g:=fun t _=>t) (p:=fun _ _ x=>x) (fun t k j h1 h2=>by rw [if_pos (by omega)]) t k j hk hj
theorem get_allQ1 (x:α) (k:Nat):Q.get1 (Q.all1 x) k=x:=by
 rw [getQ1_eq]
 simp only [Q.all1,ite_self]
theorem getQ2_eq (t:Q (Q (α))) (k:Nat):Q.get2 t k=if k % 4=0 then Q.get1 t.a (k / 4) else if k % 4=1 then Q.get1 t.b (k / 4) else if k % 4=2 then Q.get1 t.c (k / 4) else Q.get1 t.d (k / 4):=bool3 k _ _ _ _
theorem putQ2_eq (t:Q (Q (α))) (k:Nat) (x:α):Q.put2 t k x=if k % 4=0 then ⟨Q.put1 t.a (k / 4) x,t.b,t.c,t.d⟩ else if k % 4=1 then ⟨t.a,Q.put1 t.b (k / 4) x,t.c,t.d⟩ else if k % 4=2 then ⟨t.a,t.b,Q.put1 t.c (k / 4) x,t.d⟩ else ⟨t.a,t.b,t.c,Q.put1 t.d (k / 4) x⟩:=bool3 k _ _ _ _
theorem get_putQ2 (x:α) (t:Q (Q (α))) (k j:Nat) (hk:k < 16) (hj:j < 16):Q.get2 (Q.put2 t k x) j=if j=k then x else Q.get2 t j:=by
 rw [getQ2_eq,getQ2_eq,putQ2_eq]
 exact level (n:=4) (g:=fun t k=>Q.get1 t k) (p:=fun t k x=>Q.put1 t k x) (get_putQ1 x) t k j hk hj
theorem get_allQ2 (x:α) (k:Nat):Q.get2 (Q.all2 x) k=x:=by
 rw [getQ2_eq]
 simp only [Q.all2,get_allQ1,ite_self]
theorem getQ3_eq (t:Q (Q (Q (α)))) (k:Nat):Q.get3 t k=if k % 4=0 then Q.get2 t.a (k / 4) else if k % 4=1 then Q.get2 t.b (k / 4) else if k % 4=2 then Q.get2 t.c (k / 4) else Q.get2 t.d (k / 4):=bool3 k _ _ _ _
theorem putQ3_eq (t:Q (Q (Q (α)))) (k:Nat) (x:α):Q.put3 t k x=if k % 4=0 then ⟨Q.put2 t.a (k / 4) x,t.b,t.c,t.d⟩ else if k % 4=1 then ⟨t.a,Q.put2 t.b (k / 4) x,t.c,t.d⟩ else if k % 4=2 then ⟨t.a,t.b,Q.put2 t.c (k / 4) x,t.d⟩ else ⟨t.a,t.b,t.c,Q.put2 t.d (k / 4) x⟩:=bool3 k _ _ _ _
theorem get_putQ3 (x:α) (t:Q (Q (Q (α)))) (k j:Nat) (hk:k < 64) (hj:j < 64):Q.get3 (Q.put3 t k x) j=if j=k then x else Q.get3 t j:=by
 rw [getQ3_eq,getQ3_eq,putQ3_eq]
 exact level (n:=16) (g:=fun t k=>Q.get2 t k) (p:=fun t k x=>Q.put2 t k x) (get_putQ2 x) t k j hk hj
theorem get_allQ3 (x:α) (k:Nat):Q.get3 (Q.all3 x) k=x:=by
 rw [getQ3_eq]
 simp only [Q.all3,get_allQ2,ite_self]
theorem getQ4_eq (t:Q (Q (Q (Q (α))))) (k:Nat):Q.get4 t k=if k % 4=0 then Q.get3 t.a (k / 4) else if k % 4=1 then Q.get3 t.b (k / 4) else if k % 4=2 then Q.get3 t.c (k / 4) else Q.get3 t.d (k / 4):=bool3 k _ _ _ _
theorem putQ4_eq (t:Q (Q (Q (Q (α))))) (k:Nat) (x:α):Q.put4 t k x=if k % 4=0 then ⟨Q.put3 t.a (k / 4) x,t.b,t.c,t.d⟩ else if k % 4=1 then ⟨t.a,Q.put3 t.b (k / 4) x,t.c,t.d⟩ else if k % 4=2 then ⟨t.a,t.b,Q.put3 t.c (k / 4) x,t.d⟩ else ⟨t.a,t.b,t.c,Q.put3 t.d (k / 4) x⟩:=bool3 k _ _ _ _
theorem get_putQ4 (x:α) (t:Q (Q (Q (Q (α))))) (k j:Nat) (hk:k < 256) (hj:j < 256):Q.get4 (Q.put4 t k x) j=if j=k then x else Q.get4 t j:=by
 rw [getQ4_eq,getQ4_eq,putQ4_eq]
 exact level (n:=64) (g:=fun t k=>Q.get3 t k) (p:=fun t k x=>Q.put3 t k x) (get_putQ3 x) t k j hk hj
theorem get_allQ4 (x:α) (k:Nat):Q.get4 (Q.all4 x) k=x:=by
 rw [getQ4_eq]
 simp only [Q.all4,get_allQ3,ite_self]
theorem getQ5_eq (t:Q (Q (Q (Q (Q (α)))))) (k:Nat):Q.get5 t k=if k % 4=0 then Q.get4 t.a (k / 4) else if k % 4=1 then Q.get4 t.b (k / 4) else if k % 4=2 then Q.get4 t.c (k / 4) else Q.get4 t.d (k / 4):=bool3 k _ _ _ _
theorem putQ5_eq (t:Q (Q (Q (Q (Q (α)))))) (k:Nat) (x:α):Q.put5 t k x=if k % 4=0 then ⟨Q.put4 t.a (k / 4) x,t.b,t.c,t.d⟩ else if k % 4=1 then ⟨t.a,Q.put4 t.b (k / 4) x,t.c,t.d⟩ else if k % 4=2 then ⟨t.a,t.b,Q.put4 t.c (k / 4) x,t.d⟩ else ⟨t.a,t.b,t.c,Q.put4 t.d (k / 4) x⟩:=bool3 k _ _ _ _
theorem get_putQ5 (x:α) (t:Q (Q (Q (Q (Q (α)))))) (k j:Nat) (hk:k < 1024) (hj:j < 1024):Q.get5 (Q.put5 t k x) j=if j=k then x else Q.get5 t j:=by
 rw [getQ5_eq,getQ5_eq,putQ5_eq]
 exact level (n:=256) (g:=fun t k=>Q.get4 t k) (p:=fun t k x=>Q.put4 t k x) (get_putQ4 x) t k j hk hj
theorem get_allQ5 (x:α) (k:Nat):Q.get5 (Q.all5 x) k=x:=by
 rw [getQ5_eq]
 simp only [Q.all5,get_allQ4,ite_self]
theorem getQ6_eq (t:Q (Q (Q (Q (Q (Q (α))))))) (k:Nat):Q.get6 t k=if k % 4=0 then Q.get5 t.a (k / 4) else if k % 4=1 then Q.get5 t.b (k / 4) else if k % 4=2 then Q.get5 t.c (k / 4) else Q.get5 t.d (k / 4):=bool3 k _ _ _ _
theorem putQ6_eq (t:Q (Q (Q (Q (Q (Q (α))))))) (k:Nat) (x:α):Q.put6 t k x=if k % 4=0 then ⟨Q.put5 t.a (k / 4) x,t.b,t.c,t.d⟩ else if k % 4=1 then ⟨t.a,Q.put5 t.b (k / 4) x,t.c,t.d⟩ else if k % 4=2 then ⟨t.a,t.b,Q.put5 t.c (k / 4) x,t.d⟩ else ⟨t.a,t.b,t.c,Q.put5 t.d (k / 4) x⟩:=bool3 k _ _ _ _
theorem get_putQ6 (x:α) (t:Q (Q (Q (Q (Q (Q (α))))))) (k j:Nat) (hk:k < 4096) (hj:j < 4096):Q.get6 (Q.put6 t k x) j=if j=k then x else Q.get6 t j:=by
 rw [getQ6_eq,getQ6_eq,putQ6_eq]
 exact level (n:=1024) (g:=fun t k=>Q.get5 t k) (p:=fun t k x=>Q.put5 t k x) (get_putQ5 x) t k j hk hj
theorem get_allQ6 (x:α) (k:Nat):Q.get6 (Q.all6 x) k=x:=by
 rw [getQ6_eq]
 simp only [Q.all6,get_allQ5,ite_self]
theorem getQ7_eq (t:Q (Q (Q (Q (Q (Q (Q (α)))))))) (k:Nat):Q.get7 t k=if k % 4=0 then Q.get6 t.a (k / 4) else if k % 4=1 then Q.get6 t.b (k / 4) else if k % 4=2 then Q.get6 t.c (k / 4) else Q.get6 t.d (k / 4):=bool3 k _ _ _ _
theorem putQ7_eq (t:Q (Q (Q (Q (Q (Q (Q (α)))))))) (k:Nat) (x:α):Q.put7 t k x=if k % 4=0 then ⟨Q.put6 t.a (k / 4) x,t.b,t.c,t.d⟩ else if k % 4=1 then ⟨t.a,Q.put6 t.b (k / 4) x,t.c,t.d⟩ else if k % 4=2 then ⟨t.a,t.b,Q.put6 t.c (k / 4) x,t.d⟩ else ⟨t.a,t.b,t.c,Q.put6 t.d (k / 4) x⟩:=bool3 k _ _ _ _
theorem get_putQ7 (x:α) (t:Q (Q (Q (Q (Q (Q (Q (α)))))))) (k j:Nat) (hk:k < 16384) (hj:j < 16384):Q.get7 (Q.put7 t k x) j=if j=k then x else Q.get7 t j:=by
 rw [getQ7_eq,getQ7_eq,putQ7_eq]
 exact level (n:=4096) (g:=fun t k=>Q.get6 t k) (p:=fun t k x=>Q.put6 t k x) (get_putQ6 x) t k j hk hj
theorem get_allQ7 (x:α) (k:Nat):Q.get7 (Q.all7 x) k=x:=by
 rw [getQ7_eq]
 simp only [Q.all7,get_allQ6,ite_self]
theorem T.get_eq (t:T α) (k:Nat):t.get k=if k < 16384 then Q.get7 t.lo k else T0.get t.hi k:=by
 unfold T.get
 rw [bool_rec]
 by_cases h:k < 16384
 ·rw [if_pos h,if_pos (by simpa [Nat.blt_eq] using h)]
 ·rw [if_neg h,if_neg (by simpa [Nat.blt_eq] using h)]
theorem T.put_eq (t:T α) (k:Nat) (a:Option α):t.put k a=if k < 16384 then ⟨Q.put7 t.lo k a,t.hi⟩ else ⟨t.lo,T0.setF (k + 1) t.hi k a⟩:=by
 show Bool.rec (motive:=fun _=>T α) _ _ (Nat.blt k 16384)=_
 rw [bool_rec]
 by_cases h:k < 16384
 ·rw [if_pos h,if_pos (by simpa [Nat.blt_eq] using h)]
 ·rw [if_neg h,if_neg (by simpa [Nat.blt_eq] using h)]
theorem get_leaf (k:Nat):T.get (T.leaf:T α) k=none:=by
 rw [T.get_eq]
 split
 ·exact get_allQ7 _ _
 ·rfl
theorem get_put (t:T α) (k:Nat) (a:Option α) (j:Nat):(t.put k a).get j=if j=k then a else t.get j:=by
 rw [T.put_eq,T.get_eq,T.get_eq]
 by_cases hk:k < 16384
 ·rw [if_pos hk]
  by_cases hj:j < 16384
  ·rw [if_pos hj,if_pos hj]; exact get_putQ7 a t.lo k j hk hj
  ·rw [if_neg hj,if_neg hj,if_neg (by omega)]
 ·rw [if_neg hk]
  by_cases hj:j < 16384
  ·rw [if_pos hj,if_pos hj,if_neg (by omega)]
  ·rw [if_neg hj,if_neg hj]; exact get_setF (k + 1) t.hi k a j (Nat.lt_succ_self k)
end table
noncomputable def gt0 (f:Nat) (t:Tm0) (k:Nat):Value:=(getS0 f k).val t
noncomputable def st0 (f:Nat) (t:Tm0) (k:Nat) (a:Value):Tm0:=(setS0 f k).val a t
theorem gt_nil (f k:Nat):gt0 f .nil k=undef:=by
 induction f generalizing k with
 | zero=>rfl
 | succ f ih=>cases k with
  | zero=>rfl
  | succ k=>unfold gt0 getS0; simp only; rw [bool_rec]; split <;> rfl
theorem gt_node0 (f:Nat) (v:Value) (l r:Tm0):gt0 (f + 1) (.node v l r) 0=v:=rfl
theorem gt_nodeS (f k:Nat) (v:Value) (l r:Tm0):gt0 (f + 1) (.node v l r) (k + 1)=if Nat.beq (Nat.mod k 2) 0 then gt0 f l (Nat.div k 2) else gt0 f r (Nat.div k 2):=by
 show (Bool.rec (motive:=fun _=>Box (Tm0→Value)) _ _ (Nat.beq (Nat.mod k 2) 0)).val _=_
 rw [bool_rec]; split <;> rfl
theorem st_nil0 (f:Nat) (a:Value):st0 (f + 1) .nil 0 a=.node a .nil .nil:=rfl
theorem st_node0 (f:Nat) (a v:Value) (l r:Tm0):st0 (f + 1) (.node v l r) 0 a=.node a l r:=rfl
theorem st_nilS (f k:Nat) (a:Value):st0 (f + 1) .nil (k + 1) a=if Nat.beq (Nat.mod k 2) 0 then .node undef (st0 f .nil (Nat.div k 2) a) .nil else .node undef .nil (st0 f .nil (Nat.div k 2) a):=by
 show (Bool.rec (motive:=fun _=>Box (Value→Tm0→Tm0)) _ _ (Nat.beq (Nat.mod k 2) 0)).val _ _=_
 rw [bool_rec]; split <;> rfl
theorem st_nodeS (f k:Nat) (a v:Value) (l r:Tm0):st0 (f + 1) (.node v l r) (k + 1) a=if Nat.beq (Nat.mod k 2) 0 then .node v (st0 f l (Nat.div k 2) a) r else .node v l (st0 f r (Nat.div k 2) a):=by
 show (Bool.rec (motive:=fun _=>Box (Value→Tm0→Tm0)) _ _ (Nat.beq (Nat.mod k 2) 0)).val _ _=_
 rw [bool_rec]; split <;> rfl
theorem gt_st:∀ (f:Nat) (t:Tm0) (k:Nat) (a:Value) (j:Nat),k + 1 < 2 ^ f→gt0 f (st0 f t k a) j=if j=k then a else gt0 f t j:=by
 intro f
 induction f with
 | zero=>intro t k a j h; simp at h
 | succ f ih =>
  intro t k a j h
  have hd:∀ m,Nat.div m 2=m / 2:=fun _=>rfl
  have h2:2 ^ (f + 1)=2 * 2 ^ f:=by rw [Nat.pow_succ]; omega
  cases k with
  | zero =>
   cases t with
   | nil=>rw [st_nil0]; cases j with
    | zero=>simp [gt_node0]
    | succ j=>rw [gt_nodeS]; simp [gt_nil]
   | node v l r=>rw [st_node0]; cases j with
    | zero=>simp [gt_node0]
    | succ j=>rw [gt_nodeS,gt_nodeS]; simp
  | succ k =>
   have hk:k / 2 + 1 < 2 ^ f:=by omega
   cases t with
   | nil =>
    rw [st_nilS]
    by_cases hp:Nat.beq (Nat.mod k 2) 0=true
    ·rw [if_pos hp]
     have hp':=(beq2 k).1 hp
     cases j with
     | zero=>simp [gt_node0,gt_nil]
     | succ j =>
      rw [gt_nodeS,hd,hd,ih _ _ _ _ hk,gt_nil,gt_nil]
      by_cases hj:Nat.beq (Nat.mod j 2) 0=true
      ·have:=(beq2 j).1 hj
       rw [if_pos hj]
       by_cases e:j / 2=k / 2
       ·rw [if_pos e,if_pos (by omega)]
       ·rw [if_neg e,if_neg (by omega)]
      ·have:¬ (j % 2=0):=fun h=>hj ((beq2 j).2 h)
       rw [if_neg hj,if_neg (by omega)]
    ·rw [if_neg hp]
     have hp':¬ (k % 2=0):=fun h=>hp ((beq2 k).2 h)
     cases j with
     | zero=>simp [gt_node0,gt_nil]
     | succ j =>
      rw [gt_nodeS,hd,hd,ih _ _ _ _ hk,gt_nil,gt_nil]
      by_cases hj:Nat.beq (Nat.mod j 2) 0=true
      ·have:=(beq2 j).1 hj
       rw [if_pos hj,if_neg (by omega)]
      ·have:¬ (j % 2=0):=fun h=>hj ((beq2 j).2 h)
       rw [if_neg hj]
       by_cases e:j / 2=k / 2
       ·rw [if_pos e,if_pos (by omega)]
       ·rw [if_neg e,if_neg (by omega)]
   | node v l r =>
    rw [st_nodeS]
    by_cases hp:Nat.beq (Nat.mod k 2) 0=true
    ·rw [if_pos hp]
     have hp':=(beq2 k).1 hp
     cases j with
     | zero=>simp [gt_node0]
     | succ j =>
      rw [gt_nodeS,gt_nodeS,hd,hd,ih _ _ _ _ hk]
      by_cases hj:Nat.beq (Nat.mod j 2) 0=true
      ·have:=(beq2 j).1 hj
       rw [if_pos hj,if_pos hj]
       by_cases e:j / 2=k / 2
       ·rw [if_pos e,if_pos (by omega)]
       ·rw [if_neg e,if_neg (by omega)]
      ·have:¬ (j % 2=0):=fun h=>hj ((beq2 j).2 h)
       rw [if_neg hj,if_neg hj,if_neg (by omega)]
    ·rw [if_neg hp]
     have hp':¬ (k % 2=0):=fun h=>hp ((beq2 k).2 h)
     cases j with
     | zero=>simp [gt_node0]
     | succ j =>
      rw [gt_nodeS,gt_nodeS,hd,hd,ih _ _ _ _ hk]
      by_cases hj:Nat.beq (Nat.mod j 2) 0=true
      ·have:=(beq2 j).1 hj
       rw [if_pos hj,if_pos hj,if_neg (by omega)]
      ·have:¬ (j % 2=0):=fun h=>hj ((beq2 j).2 h)
       rw [if_neg hj,if_neg hj]
       by_cases e:j / 2=k / 2
       ·rw [if_pos e,if_pos (by omega)]
       ·rw [if_neg e,if_neg (by omega)]
theorem gQ1_eq (t:Q (Value)) (k:Nat):(gQ1 k).val t=if k % 4=0 then t.a else if k % 4=1 then t.b else if k % 4=2 then t.c else t.d:=by
 unfold gQ1
 rw [bool3]
 split
 ·rfl
 ·split
  ·rfl
  ·split <;> rfl
theorem sQ1_eq (t:Q (Value)) (k:Nat) (x:Value):(sQ1 k).val x t=if k % 4=0 then ⟨x,t.b,t.c,t.d⟩ else if k % 4=1 then ⟨t.a,x,t.c,t.d⟩ else if k % 4=2 then ⟨t.a,t.b,x,t.d⟩ else ⟨t.a,t.b,t.c,x⟩:=by
 unfold sQ1
 rw [bool3]
 split
 ·rfl
 ·split
  ·rfl
  ·split <;> rfl
theorem get_setQ1 (x:Value) (t:Q (Value)) (k j:Nat) (hk:k < 4) (hj:j < 4):(gQ1 j).val ((sQ1 k).val x t)=if j=k then x else (gQ1 j).val t:=by
 rw [gQ1_eq,gQ1_eq,sQ1_eq]
 exact level (n:=1) (g:=fun t _=>t) (p:=fun _ _ x=>x) (fun t k j h1 h2=>by rw [if_pos (by omega)]) t k j hk hj
theorem all_gQ1 (x:Value) (k:Nat):(gQ1 k).val (Q.all1 x)=x:=by
 rw [gQ1_eq]
 simp only [Q.all1,ite_self]
theorem gQ2_eq (t:Q (Q (Value))) (k:Nat):(gQ2 k).val t=if k % 4=0 then (gQ1 (k / 4)).val t.a else if k % 4=1 then (gQ1 (k / 4)).val t.b else if k % 4=2 then (gQ1 (k / 4)).val t.c else (gQ1 (k / 4)).val t.d:=by
 unfold gQ2
 rw [bool3]
 split
 ·rfl
 ·split
  ·rfl
  ·split <;> rfl
theorem sQ2_eq (t:Q (Q (Value))) (k:Nat) (x:Value):(sQ2 k).val x t=if k % 4=0 then ⟨(sQ1 (k / 4)).val x t.a,t.b,t.c,t.d⟩ else if k % 4=1 then ⟨t.a,(sQ1 (k / 4)).val x t.b,t.c,t.d⟩ else if k % 4=2 then ⟨t.a,t.b,(sQ1 (k / 4)).val x t.c,t.d⟩ else ⟨t.a,t.b,t.c,(sQ1 (k / 4)).val x t.d⟩:=by
 unfold sQ2
 rw [bool3]
 split
 ·rfl
 ·split
  ·rfl
  ·split <;> rfl
theorem get_setQ2 (x:Value) (t:Q (Q (Value))) (k j:Nat) (hk:k < 16) (hj:j < 16):(gQ2 j).val ((sQ2 k).val x t)=if j=k then x else (gQ2 j).val t:=by
 rw [gQ2_eq,gQ2_eq,sQ2_eq]
 exact level (n:=4) (g:=fun t k=>(gQ1 k).val t) (p:=fun t k x=>(sQ1 k).val x t) (get_setQ1 x) t k j hk hj
theorem all_gQ2 (x:Value) (k:Nat):(gQ2 k).val (Q.all2 x)=x:=by
 rw [gQ2_eq]
 simp only [Q.all2,all_gQ1,ite_self]
theorem gQ3_eq (t:Q (Q (Q (Value)))) (k:Nat):(gQ3 k).val t=if k % 4=0 then (gQ2 (k / 4)).val t.a else if k % 4=1 then (gQ2 (k / 4)).val t.b else if k % 4=2 then (gQ2 (k / 4)).val t.c else (gQ2 (k / 4)).val t.d:=by
 unfold gQ3
 rw [bool3]
 split
 ·rfl
 ·split
  ·rfl
  ·split <;> rfl
theorem sQ3_eq (t:Q (Q (Q (Value)))) (k:Nat) (x:Value):(sQ3 k).val x t=if k % 4=0 then ⟨(sQ2 (k / 4)).val x t.a,t.b,t.c,t.d⟩ else if k % 4=1 then ⟨t.a,(sQ2 (k / 4)).val x t.b,t.c,t.d⟩ else if k % 4=2 then ⟨t.a,t.b,(sQ2 (k / 4)).val x t.c,t.d⟩ else ⟨t.a,t.b,t.c,(sQ2 (k / 4)).val x t.d⟩:=by
 unfold sQ3
 rw [bool3]
 split
 ·rfl
 ·split
  ·rfl
  ·split <;> rfl
theorem get_setQ3 (x:Value) (t:Q (Q (Q (Value)))) (k j:Nat) (hk:k < 64) (hj:j < 64):(gQ3 j).val ((sQ3 k).val x t)=if j=k then x else (gQ3 j).val t:=by
 rw [gQ3_eq,gQ3_eq,sQ3_eq]
 exact level (n:=16) (g:=fun t k=>(gQ2 k).val t) (p:=fun t k x=>(sQ2 k).val x t) (get_setQ2 x) t k j hk hj
theorem all_gQ3 (x:Value) (k:Nat):(gQ3 k).val (Q.all3 x)=x:=by
 rw [gQ3_eq]
 simp only [Q.all3,all_gQ2,ite_self]
theorem gQ4_eq (t:Q (Q (Q (Q (Value))))) (k:Nat):(gQ4 k).val t=if k % 4=0 then (gQ3 (k / 4)).val t.a else if k % 4=1 then (gQ3 (k / 4)).val t.b else if k % 4=2 then (gQ3 (k / 4)).val t.c else (gQ3 (k / 4)).val t.d:=by
 unfold gQ4
 rw [bool3]
 split
 ·rfl
 ·split
  ·rfl
  ·split <;> rfl
theorem sQ4_eq (t:Q (Q (Q (Q (Value))))) (k:Nat) (x:Value):(sQ4 k).val x t=if k % 4=0 then ⟨(sQ3 (k / 4)).val x t.a,t.b,t.c,t.d⟩ else if k % 4=1 then ⟨t.a,(sQ3 (k / 4)).val x t.b,t.c,t.d⟩ else if k % 4=2 then ⟨t.a,t.b,(sQ3 (k / 4)).val x t.c,t.d⟩ else ⟨t.a,t.b,t.c,(sQ3 (k / 4)).val x t.d⟩:=by
 unfold sQ4
 rw [bool3]
 split
 ·rfl
 ·split
  ·rfl
  ·split <;> rfl
theorem get_setQ4 (x:Value) (t:Q (Q (Q (Q (Value))))) (k j:Nat) (hk:k < 256) (hj:j < 256):(gQ4 j).val ((sQ4 k).val x t)=if j=k then x else (gQ4 j).val t:=by
 rw [gQ4_eq,gQ4_eq,sQ4_eq]
 exact level (n:=64) (g:=fun t k=>(gQ3 k).val t) (p:=fun t k x=>(sQ3 k).val x t) (get_setQ3 x) t k j hk hj
theorem all_gQ4 (x:Value) (k:Nat):(gQ4 k).val (Q.all4 x)=x:=by
 rw [gQ4_eq]
 simp only [Q.all4,all_gQ3,ite_self]
noncomputable def tget (t:Tm) (k:Nat):Value:=(getS 16 k).val t
noncomputable def tset (t:Tm) (k:Nat) (a:Value):Tm:=(setS 16 k).val a t
theorem tget_eq (t:Tm) (k:Nat):tget t k=if k < 256 then (gQ4 k).val t.lo else gt0 16 t.hi k:=by
 unfold tget getS
 rw [bool_rec]
 by_cases h:k < 256
 ·rw [if_pos h,if_pos (by simpa [Nat.blt_eq] using h)]
 ·rw [if_neg h,if_neg (by simpa [Nat.blt_eq] using h)]; rfl
theorem tset_eq (t:Tm) (k:Nat) (a:Value):tset t k a=if k < 256 then ⟨(sQ4 k).val a t.lo,t.hi⟩ else ⟨t.lo,st0 16 t.hi k a⟩:=by
 unfold tset setS
 rw [bool_rec]
 by_cases h:k < 256
 ·rw [if_pos h,if_pos (by simpa [Nat.blt_eq] using h)]
 ·rw [if_neg h,if_neg (by simpa [Nat.blt_eq] using h)]; rfl
theorem tget_tset (t:Tm) (k:Nat) (a:Value) (j:Nat) (h:k≤60000):tget (tset t k a) j=if j=k then a else tget t j:=by
 rw [tset_eq,tget_eq,tget_eq]
 by_cases hk:k < 256
 ·rw [if_pos hk]
  by_cases hj:j < 256
  ·rw [if_pos hj,if_pos hj]; exact get_setQ4 a t.lo k j hk hj
  ·rw [if_neg hj,if_neg hj,if_neg (by omega)]
 ·rw [if_neg hk]
  by_cases hj:j < 256
  ·rw [if_pos hj,if_pos hj,if_neg (by omega)]
  ·rw [if_neg hj,if_neg hj]; exact gt_st 16 t.hi k a j (by simp; omega)
theorem tget_nil (k:Nat):tget .nil k=undef:=by
 rw [tget_eq]
 split
 ·exact all_gQ4 _ _
 ·exact gt_nil 16 k
end Go.Sh
namespace Go.Sh
open Go
inductive Ent where
 | dead
 | at_ (c n s d:Nat)
abbrev Inj:=Nat→Option Ent
def Inj.le (φ φ':Inj):Prop:=∀ b e,φ b=some e→φ' b=some e∨φ' b=some .dead
theorem Inj.le_refl (φ:Inj):φ.le φ:=fun _ _ h=>.inl h
theorem Inj.le_trans {φ ψ χ:Inj} (h:φ.le ψ) (k:ψ.le χ):φ.le χ:=fun b e he=>by
 rcases h b e he with h1 | h1
 ·exact k b e h1
 ·rcases k b _ h1 with h2 | h2 <;> exact .inr h2
def AddrR (φ:Inj) (a a':Addr):Prop :=
 φ a.block=some .dead∨∃ c n s d,φ a.block=some (.at_ c n s d)∧a'.block=c∧a'.off=a.off + d∧a'.spot=none
def BlkR (φ:Inj) (b b':Nat):Prop:=φ b=some .dead∨∃ n s d,φ b=some (.at_ b' n s d)
def RoomR (φ:Inj) (b:Nat) (a':Addr) (cap:Nat):Prop:=∀ c n s d,φ b=some (.at_ c n s d)→a'.off + cap * s≤n
def FnR (φ:Inj) (f f':Fn):Prop:=(f=f'∧∀ l,f ≠ .yield l)∨∃ l l',f=.yield l∧f'=.yield l'∧BlkR φ l l'
mutual
inductive VR (φ:Inj):Value→Value→Prop
 | bool (b:Bool):VR φ (.bool b) (.bool b)
 | int (k:IntKind) (n:Int):VR φ (.int k n) (.int k n)
 | float (k:FloatKind) (n:Nat):VR φ (.float k n) (.float k n)
 | complex (k:FloatKind) (n m:Nat):VR φ (.complex k n m) (.complex k n m)
 | string (s:ByteArray):VR φ (.string s) (.string s)
 | ptrNil:VR φ (.pointer none) (.pointer none)
 | ptr {a a':Addr} (h:AddrR φ a a'):VR φ (.pointer (some a)) (.pointer (some a'))
 | slNil:VR φ (.slice none 0 0) (.slice none 0 0)
 | sl {a a':Addr} {l c c':Nat} (h:AddrR φ a a') (hl:l≤c) (hc:c≤c') (hr:a.spot=none→RoomR φ a.block a' c') (hx:a.spot=some 2→c'=c):VR φ (.slice (some a) l c) (.slice (some a') l c')
 | sl0 {a a':Addr} (h:BlkR φ a.block a'.block):VR φ (.slice (some a) 0 0) (.slice (some a') 0 0)
 | mapNil:VR φ (.map none) (.map none)
 | map {r r':Nat} (h:BlkR φ r r'):VR φ (.map (some r)) (.map (some r'))
 | func {f f':Fn} {x x' y y':List Value} (hf:FnR φ f f') (hx:LR φ x x') (hy:LR φ y y'):VR φ (.func f ⟨x⟩ ⟨y⟩) (.func f' ⟨x'⟩ ⟨y'⟩)
 | nilFunc:VR φ .nilFunc .nilFunc
 | nilIface:VR φ .nilIface .nilIface
 | iface (t:TypeId) {v v':Value} (h:VR φ v v'):VR φ (.iface t v) (.iface t v')
 | agg {l l':List Value} (h:LR φ l l'):VR φ (.agg ⟨l⟩) (.agg ⟨l'⟩)
 | tuple {l l':List Value} (h:LR φ l l'):VR φ (.tuple ⟨l⟩) (.tuple ⟨l'⟩)
 | unk {v:Value} (h:single v=true):VR φ Sh.unk v
inductive LR (φ:Inj):List Value→List Value→Prop
 | nil:LR φ [] []
 | cons {v v':Value} {l l':List Value} (h:VR φ v v') (k:LR φ l l'):LR φ (v::l) (v'::l')
end
section mono
variable {φ φ':Inj}
theorem AddrR.mono {a a':Addr} (h:AddrR φ a a') (hle:φ.le φ'):AddrR φ' a a':=by
 rcases h with h | ⟨c,n,s,d,h,h1⟩
 ·exact .inl ((hle _ _ h).elim id id)
 ·rcases hle _ _ h with h' | h'
  ·exact .inr ⟨c,n,s,d,h',h1⟩
  ·exact .inl h'
theorem BlkR.mono {a a':Nat} (h:BlkR φ a a') (hle:φ.le φ'):BlkR φ' a a':=by
 rcases h with h | ⟨n,s,d,h⟩
 ·exact .inl ((hle _ _ h).elim id id)
 ·rcases hle _ _ h with h' | h'
  ·exact .inr ⟨n,s,d,h'⟩
  ·exact .inl h'
theorem FnR.mono {f f':Fn} (h:FnR φ f f') (hle:φ.le φ'):FnR φ' f f':=by
 rcases h with h | ⟨l,l',h1,h2,h3⟩
 ·exact .inl h
 ·exact .inr ⟨l,l',h1,h2,h3.mono hle⟩
theorem RoomR.mono {a a':Addr} {c:Nat} (ha:AddrR φ a a') (h:RoomR φ a.block a' c) (hle:φ.le φ'):RoomR φ' a.block a' c:=by
 intro c1 n s d he
 rcases ha with h1 | ⟨c2,n2,s2,d2,h1,h2⟩
 ·rcases hle _ _ h1 with h3 | h3 <;> rw [h3] at he <;> cases he
 ·rcases hle _ _ h1 with h3 | h3
  ·rw [h3] at he
   injection he with he
   injection he with e1 e2 e3 e4
   subst e1 e2 e3 e4
   exact h _ _ _ _ h1
  ·rw [h3] at he; cases he
mutual
theorem VR.mono {v v':Value} (h:VR φ v v') (hle:φ.le φ'):VR φ' v v':=by
 cases h with
 | bool=>exact .bool _
 | int=>exact .int _ _
 | float=>exact .float _ _
 | complex=>exact .complex _ _ _
 | string=>exact .string _
 | ptrNil=>exact .ptrNil
 | ptr h=>exact .ptr (h.mono hle)
 | slNil=>exact .slNil
 | sl h hl hc hr hx=>exact .sl (h.mono hle) hl hc (fun e=>RoomR.mono h (hr e) hle) hx
 | sl0 h=>exact .sl0 (h.mono hle)
 | mapNil=>exact .mapNil
 | map h=>exact .map (h.mono hle)
 | func hf hx hy=>exact .func (hf.mono hle) (hx.mono hle) (hy.mono hle)
 | nilFunc=>exact .nilFunc
 | nilIface=>exact .nilIface
 | iface t h=>exact .iface t (h.mono hle)
 | agg h=>exact .agg (h.mono hle)
 | tuple h=>exact .tuple (h.mono hle)
 | unk h=>exact .unk h
theorem LR.mono {l l':List Value} (h:LR φ l l') (hle:φ.le φ'):LR φ' l l':=by
 cases h with
 | nil=>exact .nil
 | cons h k=>exact .cons (h.mono hle) (k.mono hle)
end
end mono
section lists
variable {φ:Inj}
theorem LR.length {l l':List Value} (h:LR φ l l'):l.length=l'.length:=by
 induction l generalizing l' with
 | nil=>cases h; rfl
 | cons v l ih=>cases h with | cons h k=>simp [ih k]
theorem LR.append {l l' m m':List Value} (h:LR φ l l') (k:LR φ m m'):LR φ (l++m) (l'++m'):=by
 induction l generalizing l' with
 | nil=>cases h; exact k
 | cons v l ih=>cases h with | cons h h'=>exact .cons h (ih h')
theorem LR.take {l l':List Value} (h:LR φ l l') (n:Nat):LR φ (l.take n) (l'.take n):=by
 induction l generalizing l' n with
 | nil=>cases h; simp; exact .nil
 | cons v l ih=>cases h with
  | cons h h'=>cases n with
   | zero=>simp; exact .nil
   | succ n=>simp only [List.take_succ_cons]; exact .cons h (ih h' n)
theorem LR.drop {l l':List Value} (h:LR φ l l') (n:Nat):LR φ (l.drop n) (l'.drop n):=by
 induction l generalizing l' n with
 | nil=>cases h; simp; exact .nil
 | cons v l ih=>cases h with
  | cons h h'=>cases n with
   | zero=>exact .cons h h'
   | succ n=>simp only [List.drop_succ_cons]; exact ih h' n
theorem LR.get {l l':List Value} (h:LR φ l l') {i:Nat} {v:Value} (hv:l[i]?=some v):∃ v',l'[i]?=some v'∧VR φ v v':=by
 induction l generalizing l' i with
 | nil=>simp at hv
 | cons u l ih=>cases h with
  | cons h h'=>cases i with
   | zero=>simp at hv; subst hv; exact ⟨_,rfl,h⟩
   | succ i=>simp at hv; exact ih h' hv
theorem LR.splice {l l' m m':List Value} (h:LR φ l l') (k:LR φ m m') (n:Nat) (hn:n + m.length≤l.length):LR φ (spliceL n l m) (l'.take n++(m'++l'.drop (n + m'.length))):=by
 rw [spliceL_eq n l m (by omega),← k.length]
 exact (h.take n).append (k.append (h.drop _))
end lists
theorem groundC_all {f:Value→Bool}:∀ {l:List Value},groundC.allC f l=true→∀ v ∈ l,f v=true
 | [],_,v,hv=>by cases hv
 | x::_,h,v,hv=>by
  simp only [groundC.allC] at h
  cases hx:f x with
  | false=>rw [hx] at h; simp at h
  | true =>
   rw [hx] at h
   simp at h
   cases hv with
   | head=>exact hx
   | tail _ hv=>exact groundC_all h v hv
theorem LR_self {φ:Inj}:∀ {l:List Value},(∀ v ∈ l,VR φ v v)→LR φ l l
 | [],_=>.nil
 | v::_,h=>.cons (h v (List.mem_cons_self ..)) (LR_self fun u hu=>h u (List.mem_cons_of_mem _ hu))
theorem ground_VR {φ:Inj}:∀ (n:Nat) (v:Value),groundC n v=true→VR φ v v
 | 0,v,h=>by simp [groundC] at h
 | n + 1,v,h=>by
  cases v with
  | bool b=>exact .bool b
  | int k n=>exact .int k n
  | float k n=>exact .float k n
  | complex k a b=>exact .complex k a b
  | string s=>exact .string s
  | nilFunc=>exact .nilFunc
  | nilIface=>exact .nilIface
  | pointer a=>cases a with
   | none=>exact .ptrNil
   | some a=>simp [groundC] at h
  | map a=>cases a with
   | none=>exact .mapNil
   | some a=>simp [groundC] at h
  | slice a l c=>cases a with
   | none =>
    simp [groundC] at h
    obtain ⟨rfl,rfl⟩:=h
    exact .slNil
   | some a=>simp [groundC] at h
  | agg l=>obtain ⟨l⟩:=l; exact .agg (LR_self fun v hv=>ground_VR n v (groundC_all (by simpa [groundC] using h) v hv))
  | tuple l=>obtain ⟨l⟩:=l; exact .tuple (LR_self fun v hv=>ground_VR n v (groundC_all (by simpa [groundC] using h) v hv))
  | iface t v=>exact .iface t (ground_VR n v (by simpa [groundC] using h))
  | func=>simp [groundC] at h
  | chan=>simp [groundC] at h
inductive ER (φ:Inj):List MapEntry→List MapEntry→Prop
 | nil:ER φ [] []
 | cons {e e':MapEntry} {l l':List MapEntry} (hk:VR φ e.key e'.key) (hv:VR φ e.val e'.val) (hb:e.born=e'.born) (h:ER φ l l'):ER φ (e::l) (e'::l')
theorem ER.mono {φ φ':Inj} {l l':List MapEntry} (h:ER φ l l') (hle:φ.le φ'):ER φ' l l':=by
 induction h with
 | nil=>exact .nil
 | cons hk hv hb _ ih=>exact .cons (hk.mono hle) (hv.mono hle) hb ih
theorem ER.length {φ:Inj} {l l':List MapEntry} (h:ER φ l l'):l.length=l'.length:=by
 induction h with
 | nil=>rfl
 | cons _ _ _ _ ih=>simp [ih]
def TR (φ:Inj) (n:Nat) (t:Tm) (a:Array Value):Prop:=n≤a.size∧∀ i,VR φ (tget t i) (a.getD i undef)
theorem TR.mono {φ φ':Inj} {n:Nat} {t:Tm} {a:Array Value} (h:TR φ n t a) (hle:φ.le φ'):TR φ' n t a:=⟨h.1,fun i=>(h.2 i).mono hle⟩
theorem undef_VR {φ:Inj}:VR φ undef undef:=.tuple .nil
theorem TR.set {φ:Inj} {n:Nat} {t:Tm} {a:Array Value} (h:TR φ n t a) {d:Nat} (hd:d < n) (hn:n≤60000) {v v':Value} (hv:VR φ v v'):TR φ n (tset t d v) (a.setIfInBounds d v'):=by
 refine ⟨by simpa using h.1,fun i=>?_⟩
 rw [tget_tset t d v i (by omega)]
 by_cases e:i=d
 ·subst e
  have hi:i < a.size:=Nat.lt_of_lt_of_le hd h.1
  simp [hi,hv]
 ·rw [if_neg e]
  have:=h.2 i
  simpa [Array.getElem?_setIfInBounds,Ne.symm e] using this
structure LoopR (φ:Inj) (lp:ALoop) (l:Loop):Prop where
 state:l.state=lp.state
 pending:l.pending=lp.pending
 params:l.params.toList=lp.params
 assign:l.assign=lp.assign
 body:l.body=lp.body
 tmps:TR φ lp.n lp.tmps l.tmps
 dst:∀ d ∈ lp.params,dstOk lp.n (some d)=true
theorem LoopR.mono {φ φ':Inj} {lp:ALoop} {l:Loop} (h:LoopR φ lp l) (hle:φ.le φ'):LoopR φ' lp l:=⟨h.state,h.pending,h.params,h.assign,h.body,h.tmps.mono hle,h.dst⟩
structure CellsR (P:Program) (φ:Inj) (c:List Value) (e:TypeId) (ro:Bool) (cc:List Value) (e':TypeId) (fz:Nat × Nat) (n s d:Nat):Prop where
 elem:e'=e
 size:cc.length=n
 unit:s=(szOf P e).getD 0
 fits:d + c.length≤n
 cells:LR φ c ((cc.drop d).take c.length)
 free:ro=false→∀ off,off < n→¬ (fz.1≤off∧off < fz.2)
 mult:ro=false→s ∣ d
def OR (P:Program) (φ:Inj) (o:AObj) (oc:Obj) (n s d:Nat):Prop :=
 match o with
 | .cells c e ro=>∃ cc e' fz,oc=.cells ⟨cc⟩ e' fz∧CellsR P φ c e ro cc e' fz n s d
 | .map es k=>∃ es',oc=.map ⟨es'⟩ k∧ER φ es es'
 | .siter s pos=>oc=.stringIter s pos∧d=0
 | .miter m since seen last=>d=0∧match m with
  | none=>oc=.mapIter none since ⟨seen⟩ last
  | some r=>∃ r',BlkR φ r r'∧oc=.mapIter (some r') since ⟨seen⟩ last
 | .loop lp=>∃ l,oc=.loop l∧LoopR φ lp l
theorem OR.mono {P:Program} {φ φ':Inj} {o:AObj} {oc:Obj} {n s d:Nat} (h:OR P φ o oc n s d) (hle:φ.le φ'):OR P φ' o oc n s d:=by
 cases o with
 | cells c e ro =>
  obtain ⟨cc,e',fz,h1,h2⟩:=h
  exact ⟨cc,e',fz,h1,⟨h2.elem,h2.size,h2.unit,h2.fits,h2.cells.mono hle,h2.free,h2.mult⟩⟩
 | map es k =>
  obtain ⟨es',h1,h2⟩:=h
  exact ⟨es',h1,h2.mono hle⟩
 | siter=>exact h
 | miter m since seen last =>
  refine ⟨h.1,?_⟩
  cases m with
  | none=>exact h.2
  | some r =>
   obtain ⟨r',h1,h2⟩:=h.2
   exact ⟨r',h1.mono hle,h2⟩
 | loop lp =>
  obtain ⟨l,h1,h2⟩:=h
  exact ⟨l,h1,h2.mono hle⟩
structure MR (P:Program) (φ:Inj) (A:AW) (w:World):Prop where
 obj:∀ b c n s d,φ b=some (.at_ c n s d)→∃ o oc,A.heap.get b=some o∧w.heap[c]?=some oc∧OR P φ o oc n s d
 dead:∀ b,φ b=some .dead→A.heap.get b=none
 one:∀ b b' c n s d n' s' d',φ b=some (.at_ c n s d)→φ b'=some (.at_ c n' s' d')→A.lim≤b→b=b'
 fresh:∀ b,A.next≤b→φ b=none
 globals:∀ g,g < P.globals.size→φ g=some .dead∨∃ n s,φ g=some (.at_ g n s 0)
 lim:A.lim≤A.next
structure Ext (φ:Inj) (A:AW) (w:World) (φ':Inj) (A':AW) (w':World):Prop where
 le:φ.le φ'
 lim:A'.lim=A.lim
 next:A.next≤A'.next
 low:∀ b,b < A.lim→A'.heap.get b=A.heap.get b∧φ' b=φ b
 size:w.heap.size≤w'.heap.size
 frame:∀ c,c < w.heap.size→(∀ b n s d,φ b=some (.at_ c n s d)→b < A.lim)→w'.heap[c]?=w.heap[c]?
 new:∀ b c n s d,φ' b=some (.at_ c n s d)→φ b=some (.at_ c n s d)∨(A.next≤b∧(w.heap.size≤c∨∃ b0 n0 s0 d0,φ b0=some (.at_ c n0 s0 d0)∧A.lim≤b0))
 idle:∀ b,b < A.next→φ b=none→A'.heap.get b=A.heap.get b∧φ' b=none
 os:w'.os=w.os
 tape:w'.tape=w.tape
 output:w'.output=w.output
theorem Ext.refl (φ:Inj) (A:AW) (w:World):Ext φ A w φ A w :=
 ⟨φ.le_refl,rfl,Nat.le_refl _,fun _ _=>⟨rfl,rfl⟩,Nat.le_refl _,fun _ _ _=>rfl,fun _ _ _ _ _ h=>.inl h,fun _ _ h=>⟨rfl,h⟩,rfl,rfl,rfl⟩
theorem Ext.trans {φ φ1 φ2:Inj} {A A1 A2:AW} {w w1 w2:World} (h:Ext φ A w φ1 A1 w1) (k:Ext φ1 A1 w1 φ2 A2 w2): Ext φ A w φ2 A2 w2:=by
 refine ⟨Inj.le_trans h.le k.le,k.lim.trans h.lim,Nat.le_trans h.next k.next,fun b hb=>?_,Nat.le_trans h.size k.size,fun c hc hb=>?_,fun b c n s d hb=>?_,fun b hb hn=>?_,k.os.trans h.os,k.tape.trans h.tape,k.output.trans h.output⟩
 ·have h1:=h.low b hb
  have h2:=k.low b (by rw [h.lim]; exact hb)
  exact ⟨h2.1.trans h1.1,h2.2.trans h1.2⟩
 ·rw [k.frame c (Nat.lt_of_lt_of_le hc h.size) ?_,h.frame c hc hb]
  intro b n s d he
  rw [h.lim]
  rcases h.new b c n s d he with h1 | ⟨_,h1 | ⟨b0,n0,s0,d0,h1,h2⟩⟩
  ·exact hb b n s d h1
  ·omega
  ·have:=hb b0 n0 s0 d0 h1; omega
 ·rcases k.new b c n s d hb with h1 | ⟨h0,h1 | ⟨b0,n0,s0,d0,h1,h2⟩⟩
  ·exact h.new b c n s d h1
  ·exact .inr ⟨Nat.le_trans h.next h0,.inl (Nat.le_trans h.size h1)⟩
  ·rcases h.new b0 c n0 s0 d0 h1 with h3 | ⟨_,h3⟩
   ·exact .inr ⟨Nat.le_trans h.next h0,.inr ⟨b0,n0,s0,d0,h3,by rw [h.lim] at h2; exact h2⟩⟩
   ·exact .inr ⟨Nat.le_trans h.next h0,h3⟩
 ·have h1:=h.idle b hb hn
  have h2:=k.idle b (Nat.lt_of_lt_of_le hb h.next) h1.2
  exact ⟨h2.1.trans h1.1,h2.2⟩
end Go.Sh
namespace Go.Sh
open Go
variable {P:Program} {φ:Inj} {A:AW} {w:World}
theorem cell_lit {b off:Nat} {cc:Array Value} {e:TypeId} {fz:Nat × Nat} (h:w.heap[b]?=some (.cells cc e fz)):w.cell? ⟨b,off,none⟩=cc[off]?:=by
 simp [World.cell?,h]
theorem frozen_lit {b off:Nat} {cc:Array Value} {e:TypeId} {fz:Nat × Nat} (h:w.heap[b]?=some (.cells cc e fz)):w.frozen? ⟨b,off,none⟩=(fz.1≤off && off < fz.2:Bool):=by
 obtain ⟨x,y⟩:=fz
 simp [World.frozen?,h]
theorem add_of_none {a:Addr} (h:a.spot=none) (j:Nat):a.add j=⟨a.block,a.off + j,none⟩:=by
 cases a with
 | mk b o s =>
  simp at h; subst h
  unfold Addr.add
  by_cases e:j=0 <;> simp [e]
theorem AddrR.add {a a':Addr} (h:AddrR φ a a') (j:Nat):AddrR φ (a.add j) (a'.add j):=by
 have hb:(a.add j).block=a.block:=by unfold Addr.add; split <;> rfl
 have ho:(a.add j).off=a.off + j:=by unfold Addr.add; split <;> simp_all
 rcases h with h | ⟨c,n,s,d,h,h1,h2,h3⟩
 ·exact .inl (by rw [hb]; exact h)
 ·refine .inr ⟨c,n,s,d,by rw [hb]; exact h,?_⟩
  rw [add_of_none h3,ho]
  exact ⟨h1,by simp; omega,rfl⟩
theorem MR.live (hM:MR P φ A w) {b:Nat} {o:AObj} (hg:A.heap.get b=some o) (hb:φ b ≠ none):∃ c n s d oc,φ b=some (.at_ c n s d)∧w.heap[c]?=some oc∧OR P φ o oc n s d:=by
 cases hφ:φ b with
 | none=>exact absurd hφ hb
 | some e=>cases e with
  | dead=>have:=hM.dead b hφ; rw [hg] at this; cases this
  | at_ c n s d =>
   obtain ⟨o',oc,h1,h2,h3⟩:=hM.obj b c n s d hφ
   rw [hg] at h1
   injection h1 with h1
   subst h1
   exact ⟨c,n,s,d,oc,rfl,h2,h3⟩
theorem AddrR.ne {a a':Addr} (h:AddrR φ a a'):φ a.block ≠ none:=by
 rcases h with h | ⟨c,n,s,d,h,_⟩ <;> rw [h] <;> simp
theorem BlkR.ne {b b':Nat} (h:BlkR φ b b'):φ b ≠ none:=by
 rcases h with h | ⟨n,s,d,h⟩ <;> rw [h] <;> simp
theorem MR.cells (hM:MR P φ A w) {a a':Addr} (ha:AddrR φ a a') {c:List Value} {e:TypeId} {ro:Bool} (hg:A.heap.get a.block=some (.cells c e ro)) :
  ∃ cc fz n s d,φ a.block=some (.at_ a'.block n s d)∧a'.off=a.off + d∧a'.spot=none∧w.heap[a'.block]?=some (.cells ⟨cc⟩ e fz)∧CellsR P φ c e ro cc e fz n s d:=by
 obtain ⟨c1,n,s,d,oc,h1,h2,cc,e',fz,h3,h4⟩:=hM.live hg ha.ne
 rcases ha with h | ⟨c2,n2,s2,d2,h,h5,h6,h7⟩
 ·rw [h1] at h; cases h
 ·rw [h1] at h
  injection h with h
  injection h with e1 e2 e3 e4
  subst e1 e2 e3 e4 h5
  have:=h4.elem
  subst this
  subst h3
  exact ⟨cc,fz,n,s,d,h1,h6,h7,h2,h4⟩
theorem MR.objB (hM:MR P φ A w) {b b':Nat} (hb:BlkR φ b b') {o:AObj} (hg:A.heap.get b=some o):∃ n s d oc,φ b=some (.at_ b' n s d)∧w.heap[b']?=some oc∧OR P φ o oc n s d:=by
 obtain ⟨c1,n,s,d,oc,h1,h2,h3⟩:=hM.live hg hb.ne
 rcases hb with h | ⟨n2,s2,d2,h⟩
 ·rw [h1] at h; cases h
 ·rw [h1] at h
  injection h with h
  injection h with e1
  subst e1
  exact ⟨n,s,d,oc,h1,h2,h3⟩
theorem cellsAt_some {b:Nat} {c:List Value} (h:cellsAt A b=some c):∃ e ro,A.heap.get b=some (.cells c e ro):=by
 unfold cellsAt at h
 cases hg:A.heap.get b with
 | none=>rw [hg] at h; cases h
 | some o =>
  rw [hg] at h
  cases o with
  | cells c' e ro=>simp at h; subst h; exact ⟨e,ro,rfl⟩
  | _=>simp at h
theorem rd_some {b off n:Nat} {cs:List Value} (h:rd A b off n=some cs):∃ c e ro,A.heap.get b=some (.cells c e ro)∧off + n≤c.length∧cs=(c.drop off).take n:=by
 unfold rd at h
 cases hc:cellsAt A b with
 | none=>rw [hc] at h; cases h
 | some c =>
  obtain ⟨e,ro,hg⟩:=cellsAt_some hc
  rw [hc] at h
  simp only [lenL0,takeL_eq,dropL_eq] at h
  cases hb:Nat.ble (off + n) c.length with
  | false=>rw [hb] at h; simp at h
  | true =>
   rw [hb] at h
   simp at h
   exact ⟨c,e,ro,hg,Nat.le_of_ble_eq_true hb,h.symm⟩
theorem CellsR.part {c cc:List Value} {e e':TypeId} {ro:Bool} {fz:Nat × Nat} {n s d:Nat} (h:CellsR P φ c e ro cc e' fz n s d) (off k:Nat) (hk:off + k≤c.length) :
  LR φ ((c.drop off).take k) ((cc.drop (d + off)).take k):=by
 have h1:=(h.cells.drop off).take k
 have e1:(((cc.drop d).take c.length).drop off).take k=(cc.drop (d + off)).take k:=by
  rw [List.drop_take,List.drop_drop,List.take_take,Nat.min_eq_left (by omega)]
 rw [e1] at h1
 exact h1
theorem rd_ok (hM:MR P φ A w) {a a':Addr} (ha:AddrR φ a a') {n:Nat} {cs:List Value} (h:rd A a.block a.off n=some cs) :
  ∃ cs',LR φ cs cs'∧cs'.length=n∧∀ j v,cs'[j]?=some v→w.cell? (a'.add j)=some v:=by
 obtain ⟨c,e,ro,hg,hl,rfl⟩:=rd_some h
 obtain ⟨cc,fz,m,s,d,h1,h2,h3,h4,h5⟩:=hM.cells ha hg
 refine ⟨(cc.drop (d + a.off)).take n,h5.part a.off n hl,?_,fun j v hv=>?_⟩
 ·have:=h5.fits; have:=h5.size; simp; omega
 ·rw [add_of_none h3,cell_lit h4,h2]
  have hj:j < n:=by
   have:=(List.getElem?_eq_some_iff.1 hv).1
   simp at this; omega
  rw [List.getElem?_take_of_lt hj,List.getElem?_drop] at hv
  simpa [Nat.add_comm,Nat.add_left_comm,Nat.add_assoc] using hv
theorem rd1_ok (hM:MR P φ A w) {a a':Addr} (ha:AddrR φ a a') {v:Value} (h:rd1 A a.block a.off=some v):∃ v',VR φ v v'∧w.cell? a'=some v':=by
 unfold rd1 at h
 cases hc:cellsAt A a.block with
 | none=>rw [hc] at h; cases h
 | some c =>
  obtain ⟨e,ro,hg⟩:=cellsAt_some hc
  rw [hc] at h
  simp only [nth_eq] at h
  obtain ⟨cc,fz,m,s,d,h1,h2,h3,h4,h5⟩:=hM.cells ha hg
  obtain ⟨v',h6,h7⟩:=h5.cells.get h
  refine ⟨v',h7,?_⟩
  have hl:=(List.getElem?_eq_some_iff.1 h).1
  have e1:a'=⟨a'.block,a'.off,none⟩:=by cases a'; simp_all
  rw [e1,cell_lit h4,h2]
  rw [List.getElem?_take_of_lt hl,List.getElem?_drop] at h6
  simpa [Nat.add_comm] using h6
theorem run_isAgg {t:TypeId} {b:Bool} (h:aggOf P t=some b) (w:World):(isAgg t).run P w=.ok b w:=by
 unfold aggOf at h
 cases hu:P.underlying t with
 | none=>rw [hu] at h; cases h
 | some d =>
  rw [hu] at h
  have hr:(underlying t).run P w=.ok d w:=by simp [underlying,hu]
  unfold isAgg
  cases d <;> simp at h <;> subst h <;> simp [hr]
theorem run_sizeOf {t:TypeId} {n:Nat} (h:szOf P t=some n) (w:World):(sizeOf t).run P w=.ok n w:=by
 unfold szOf at h
 cases hi:P.info? t with
 | none=>rw [hi] at h; cases h
 | some i=>rw [hi] at h; simp at h; subst h; simp [sizeOf,typeInfo,hi]
theorem ldA_ok (hM:MR P φ A w) {a a':Addr} (ha:AddrR φ a a') {t:TypeId} {v:Value} (h:ldA P A t a=some v):∃ v',VR φ v v'∧(loadVar t a').run P w=.ok v' w:=by
 unfold ldA at h
 cases hb:aggOf P t with
 | none=>rw [hb] at h; cases h
 | some b =>
  rw [hb] at h
  cases b with
  | true =>
   simp at h
   cases hs:szOf P t with
   | none=>rw [hs] at h; simp at h
   | some n =>
    rw [hs] at h
    simp at h
    cases hr:rd A a.block a.off n with
    | none=>rw [hr] at h; simp at h
    | some cs =>
     rw [hr] at h
     simp at h
     subst h
     obtain ⟨cs',h1,h2,h3⟩:=rd_ok hM ha hr
     refine ⟨_,.agg h1,?_⟩
     have:=run_loadCells_list (P:=P) w a' cs' h3
     simp [loadVar,run_isAgg hb,run_sizeOf hs,← h2,this]
  | false =>
   simp at h
   obtain ⟨v',h1,h2⟩:=rd1_ok hM ha h
   exact ⟨v',h1,by simp [loadVar,run_isAgg hb,h2]⟩
end Go.Sh
namespace Go.Sh
open Go
variable {P:Program} {φ:Inj} {A:AW} {w:World}
def setBlk (w:World) (b:Nat) (o:Obj):World:={ w with heap:=w.heap.setIfInBounds b o }
theorem setBlk_same {b:Nat} {o:Obj} (h:b < w.heap.size):(setBlk w b o).heap[b]?=some o:=by simp [setBlk,h]
theorem setBlk_other {b c:Nat} {o:Obj} (h:c ≠ b):(setBlk w b o).heap[c]?=w.heap[c]?:=by
 simp [setBlk,Ne.symm h]
theorem lt_of_heap {b:Nat} {o:Obj} (h:w.heap[b]?=some o):b < w.heap.size:=(Array.getElem?_eq_some_iff.1 h).1
theorem setBlk_setBlk {b:Nat} {o o':Obj}:setBlk (setBlk w b o) b o'=setBlk w b o':=by simp [setBlk]
theorem setBlk_self {b:Nat} {o:Obj} (h:w.heap[b]?=some o):setBlk w b o=w:=by
 unfold setBlk
 have:w.heap.setIfInBounds b o=w.heap:=by
  apply Array.ext_getElem?
  intro i
  rw [Array.getElem?_setIfInBounds]
  by_cases e:b=i
  ·subst e
   obtain ⟨h1,h2⟩:=Array.getElem?_eq_some_iff.1 h
   rw [if_pos rfl,if_pos h1,h]
  ·simp [e]
 rw [this]
theorem setCell_eq {b off:Nat} {cc:List Value} {e:TypeId} {fz:Nat × Nat} {v:Value} (h:w.heap[b]?=some (.cells ⟨cc⟩ e fz)) (_hl:off < cc.length) :
  w.setCell ⟨b,off,none⟩ v=setBlk w b (.cells ⟨cc.set off v⟩ e fz):=by
 unfold World.setCell setBlk
 congr 1
 apply Array.ext_getElem?
 intro i
 rw [Array.getElem?_modify,Array.getElem?_setIfInBounds]
 by_cases e:b=i
 ·subst e
  simp only [if_true,h,Option.map_some]
  simp [lt_of_heap h]
 ·simp [e]
theorem single_cell {v:Value} (h:single v=true):v.oneCell'=true:=by cases v <;> simp_all [single,Value.oneCell']
theorem single_VR {v v':Value} (h:VR φ v v') (hs:single v=true):single v'=true:=by
 cases h <;> first | rfl | (simp [single] at hs; done) | assumption
theorem singles_LR {l l':List Value} (h:LR φ l l') (hs:singles l=true):∀ v ∈ l',single v=true:=by
 induction l generalizing l' with
 | nil=>cases h; intro v hv; cases hv
 | cons x l ih =>
  cases h with
  | cons h k =>
   simp only [singles] at hs
   cases hx:single x with
   | false=>rw [hx] at hs; simp at hs
   | true =>
    rw [hx] at hs
    simp at hs
    intro v hv
    cases hv with
    | head=>exact single_VR h hx
    | tail _ hv=>exact ih k hs v hv
theorem cells_of_single {v:Value} (h:single v=true):v.cells=#[v]:=by cases v <;> first | rfl | (simp [single] at h)
theorem run_storeCells {a:Addr} (ha:a.spot=none) {e:TypeId} {fz:Nat × Nat} :
  ∀ (vs:List Value) (i:Nat) (w:World) (cc:List Value),w.heap[a.block]?=some (.cells ⟨cc⟩ e fz)→(∀ v ∈ vs,single v=true)→a.off + i + vs.length≤cc.length →
   (∀ off,off < cc.length→¬ (fz.1≤off∧off < fz.2)) →
   (storeCells a vs i).run P w=.ok () (setBlk w a.block (.cells ⟨cc.take (a.off + i)++(vs++cc.drop (a.off + i + vs.length))⟩ e fz))
 | [],i,w,cc,h,_,hl,_=>by
  have:cc.take (a.off + i)++([]++cc.drop (a.off + i + 0))=cc:=by simp
  simp only [List.length_nil]
  rw [this,setBlk_self h]
  rfl
 | v::vs,i,w,cc,h,hs,hl,hf=>by
  simp only [List.length_cons] at hl
  have h1:w.cell? (a.add i)=some cc[a.off + i]:=by
   rw [add_of_none ha,cell_lit h]; simp
  have h2:w.frozen? (a.add i)=false:=by
   rw [add_of_none ha,frozen_lit h]
   have:=hf (a.off + i) (by omega)
   simpa using this
  have hst:(store (a.add i) v).run P w=.ok () (setBlk w a.block (.cells ⟨cc.set (a.off + i) v⟩ e fz)):=by
   rw [run_store P w _ v _ (single_cell (hs v (List.mem_cons_self ..))),h1]
   simp only [h2]
   rw [add_of_none ha,setCell_eq h (by omega)]
   rfl
  have hlt:=lt_of_heap h
  have ih:=run_storeCells ha vs (i + 1) (setBlk w a.block (.cells ⟨cc.set (a.off + i) v⟩ e fz)) (cc.set (a.off + i) v) (setBlk_same hlt) (fun u hu=>hs u (List.mem_cons_of_mem _ hu)) (by simp; omega) (fun off ho=>hf off (by simpa using ho))
  simp only [storeCells,Sem.run_bind,hst,Result.andThen_ok]
  rw [ih,setBlk_setBlk]
  congr 2
  congr 1
  have e1:a.off + (i + 1)=(a.off + i) + 1:=by omega
  rw [e1]
  congr 1
  have e2:a.off + i + 1 + vs.length=a.off + i + (vs.length + 1):=by omega
  rw [e2]
  have e3:(cc.set (a.off + i) v).take (a.off + i + 1)=cc.take (a.off + i)++[v]:=by
   rw [List.take_add_one,List.take_set_of_le (Nat.le_refl _)]
   simp [show a.off + i < cc.length by omega]
  rw [e3,List.drop_set_of_lt (by omega)]
  simp
theorem MR.set (hM:MR P φ A w) {b c n s d n' s' d':Nat} (hb:φ b=some (.at_ c n s d)) (hlim:A.lim≤b) {o:AObj} {oc:Obj} (ho:OR P φ o oc n' s' d') (hsame:n'=n∧s'=s∧d'=d) :
  MR P φ (A.set b (some o)) (setBlk w c oc)∧Ext φ A w φ (A.set b (some o)) (setBlk w c oc):=by
 obtain ⟨rfl,rfl,rfl⟩:=hsame
 obtain ⟨o0,oc0,h1,h2,_⟩:=hM.obj _ _ _ _ _ hb
 have hlt:=lt_of_heap h2
 have hget:∀ x,(A.set b (some o)).heap.get x=if x=b then some o else A.heap.get x:=fun x=>get_put _ _ _ _
 refine ⟨⟨fun x cx nx sx dx hx=>?_,fun x hx=>?_,hM.one,hM.fresh,hM.globals,hM.lim⟩,⟨φ.le_refl,rfl,Nat.le_refl _,fun x hx=>⟨?_,rfl⟩,by simp [setBlk],fun x hx hu=>?_,fun _ _ _ _ _ h=>.inl h,fun x _ hx=>⟨?_,hx⟩,rfl,rfl,rfl⟩⟩
 ·rw [hget]
  by_cases e:x=b
  ·subst e
   rw [hb] at hx
   injection hx with hx
   injection hx with e1 e2 e3 e4
   subst e1 e2 e3 e4
   exact ⟨o,oc,if_pos rfl,setBlk_same hlt,ho⟩
  ·rw [if_neg e]
   obtain ⟨o1,oc1,h3,h4,h5⟩:=hM.obj _ _ _ _ _ hx
   have hne:cx ≠ c:=fun e1=>e (hM.one b x cx _ _ _ nx sx dx (e1 ▸ hb) hx hlim).symm
   exact ⟨o1,oc1,h3,by rw [setBlk_other hne]; exact h4,h5⟩
 ·rw [hget]
  by_cases e:x=b
  ·subst e; rw [hb] at hx; cases hx
  ·rw [if_neg e]; exact hM.dead x hx
 ·rw [hget,if_neg (by omega)]
 ·rw [setBlk_other]
  rintro rfl
  have:=hu b _ _ _ hb
  omega
 ·rw [hget,if_neg (fun e=>by rw [e,hb] at hx; cases hx)]
def Inj.add (φ:Inj) (b:Nat) (e:Ent):Inj:=fun x=>if x=b then some e else φ x
theorem Inj.le_add {φ:Inj} {b:Nat} {e:Ent} (h:φ b=none):φ.le (φ.add b e):=fun x ex hx=>by
 unfold Inj.add
 by_cases h1:x=b
 ·subst h1; rw [h] at hx; cases hx
 ·rw [if_neg h1]; exact .inl hx
theorem push_same (w:World) (oc:Obj):(w.alloc oc).heap[w.heap.size]?=some oc:=by
 show (w.heap.push oc)[w.heap.size]?=_
 simp
theorem push_old (w:World) (oc:Obj) {c:Nat} (h:c < w.heap.size):(w.alloc oc).heap[c]?=w.heap[c]?:=by
 show (w.heap.push oc)[c]?=_
 rw [Array.getElem?_push,if_neg (Nat.ne_of_lt h)]
theorem MR.add (hM:MR P φ A w) {o:AObj} {oc:Obj} {n s:Nat} (ho:OR P φ o oc n s 0) :
  MR P (φ.add A.next (.at_ w.heap.size n s 0)) (A.add o) (w.alloc oc)∧Ext φ A w (φ.add A.next (.at_ w.heap.size n s 0)) (A.add o) (w.alloc oc)∧φ.le (φ.add A.next (.at_ w.heap.size n s 0)):=by
 have hle:φ.le (φ.add A.next (.at_ w.heap.size n s 0)):=Inj.le_add (hM.fresh _ (Nat.le_refl _))
 have hget:∀ x,(A.add o).heap.get x=if x=A.next then some o else A.heap.get x:=fun x=>get_put _ _ _ _
 have hφ:∀ x,(φ.add A.next (.at_ w.heap.size n s 0)) x=if x=A.next then some (.at_ w.heap.size n s 0) else φ x:=fun _=>rfl
 have hlow:∀ x c n s d,φ x=some (.at_ c n s d)→c < w.heap.size:=fun x c n s d hx=>by
  obtain ⟨_,_,_,h,_⟩:=hM.obj _ _ _ _ _ hx
  exact lt_of_heap h
 have hlim:=hM.lim
 refine ⟨⟨fun x cx nx sx dx hx=>?_,fun x hx=>?_,fun x y c n1 s1 d1 n2 s2 d2 hx hy=>?_,fun x hx=>?_,fun g hg=>?_,Nat.le_trans hM.lim (Nat.le_succ _)⟩,⟨hle,rfl,Nat.le_succ _,fun x hx=>?_,(by show w.heap.size≤(w.heap.push oc).size; simp),fun x hx _=>push_old w oc hx,fun x c n1 s1 d1 hx=>?_,fun x hx hn=>?_,rfl,rfl,rfl⟩,hle⟩
 ·rw [hφ] at hx
  rw [hget]
  by_cases e:x=A.next
  ·rw [if_pos e] at hx ⊢
   injection hx with hx
   injection hx with e1 e2 e3 e4
   subst e1 e2 e3 e4
   exact ⟨o,oc,rfl,push_same w oc,ho.mono hle⟩
  ·rw [if_neg e] at hx ⊢
   obtain ⟨o1,oc1,h3,h4,h5⟩:=hM.obj _ _ _ _ _ hx
   exact ⟨o1,oc1,h3,by rw [push_old w oc (lt_of_heap h4)]; exact h4,h5.mono hle⟩
 ·rw [hφ] at hx
  rw [hget]
  by_cases e:x=A.next
  ·rw [if_pos e] at hx; cases hx
  ·rw [if_neg e] at hx ⊢; exact hM.dead x hx
 ·intro hlx
  rw [hφ] at hx hy
  by_cases e:x=A.next
  ·rw [if_pos e] at hx
   by_cases e':y=A.next
   ·rw [e,e']
   ·rw [if_neg e'] at hy
    injection hx with hx
    injection hx with e1
    have:=hlow _ _ _ _ _ hy
    omega
  ·rw [if_neg e] at hx
   by_cases e':y=A.next
   ·rw [if_pos e'] at hy
    injection hy with hy
    injection hy with e1
    have:=hlow _ _ _ _ _ hx
    omega
   ·rw [if_neg e'] at hy
    exact hM.one _ _ _ _ _ _ _ _ _ hx hy hlx
 ·have hx':A.next + 1≤x:=hx
  rw [hφ,if_neg (by omega)]
  exact hM.fresh x (by omega)
 ·rw [hφ]
  by_cases e:g=A.next
  ·have:=hM.fresh g (by omega)
   rcases hM.globals g hg with h | ⟨n,s,h⟩ <;> rw [this] at h <;> cases h
  ·rw [if_neg e]; exact hM.globals g hg
 ·rw [hget,hφ,if_neg (by omega),if_neg (by omega)]
  exact ⟨rfl,rfl⟩
 ·rw [hφ] at hx
  by_cases e:x=A.next
  ·rw [if_pos e] at hx
   injection hx with hx
   injection hx with e1
   exact .inr ⟨by omega,.inl (by omega)⟩
  ·rw [if_neg e] at hx; exact .inl hx
 ·rw [hget,hφ,if_neg (by omega),if_neg (by omega)]
  exact ⟨rfl,hn⟩
theorem MR.drawn (hM:MR P φ A w) (n:Nat):MR P φ A { w with drawn:=n }:=⟨hM.obj,hM.dead,hM.one,hM.fresh,hM.globals,hM.lim⟩
theorem Ext.drawn (w:World) (n:Nat):Ext φ A w φ A { w with drawn:=n } :=
 ⟨φ.le_refl,rfl,Nat.le_refl _,fun _ _=>⟨rfl,rfl⟩,Nat.le_refl _,fun _ _ _=>rfl,fun _ _ _ _ _ h=>.inl h,fun _ _ h=>⟨rfl,h⟩,rfl,rfl,rfl⟩
theorem app3 {α:Type} (x y z:List α) (i:Nat):(x++(y++z))[i]?=if i < x.length then x[i]? else if i < x.length + y.length then y[i - x.length]? else z[i - x.length - y.length]?:=by
 by_cases h:i < x.length
 ·rw [List.getElem?_append_left h,if_pos h]
 ·rw [List.getElem?_append_right (by omega),if_neg h]
  by_cases h1:i < x.length + y.length
  ·rw [List.getElem?_append_left (by omega),if_pos h1]
  ·rw [List.getElem?_append_right (by omega),if_neg h1]
theorem wr_ok (hM:MR P φ A w) {a a':Addr} (ha:AddrR φ a a') {vs vs':List Value} (hv:LR φ vs vs') {A':AW} (h:wr A a.block a.off vs=some A') :
  ∃ w',(storeCells a' vs').run P w=.ok () w'∧MR P φ A' w'∧Ext φ A w φ A' w':=by
 unfold wr at h
 cases hg:A.heap.get a.block with
 | none=>rw [hg] at h; cases h
 | some o =>
  rw [hg] at h
  cases o with
  | cells c e ro =>
   simp only [wrC,lenL0] at h
   cases ro with
   | true=>simp at h
   | false =>
    simp only [cond_false] at h
    cases hc:(singles vs && Nat.ble A.lim a.block && Nat.ble (a.off + vs.length) c.length) with
    | false=>rw [hc] at h; simp at h
    | true =>
     rw [hc] at h
     simp only [cond_true,Option.some.injEq] at h
     subst h
     simp only [Bool.and_eq_true] at hc
     obtain ⟨⟨hs,hlim⟩,hl⟩:=hc
     have hlim:=Nat.le_of_ble_eq_true hlim
     have hl:=Nat.le_of_ble_eq_true hl
     obtain ⟨cc,fz,n,s,d,h1,h2,h3,h4,h5⟩:=hM.cells ha hg
     have hlen:=hv.length
     have hfit:=h5.fits
     have hsz:=h5.size
     have hrun:=run_storeCells (P:=P) (a:=a') h3 (e:=e) (fz:=fz) vs' 0 w cc h4 (singles_LR hv hs) (by omega) (fun off ho=>h5.free rfl off (by omega))
     refine ⟨_,hrun,?_⟩
     refine hM.set h1 hlim (n':=n) (s':=s) (d':=d) ?_ ⟨rfl,rfl,rfl⟩
     refine ⟨_,_,_,rfl,⟨rfl,?_,h5.unit,?_,?_,h5.free,h5.mult⟩⟩
     ·simp; omega
     ·rw [spliceL_length _ _ _ hl]; exact hfit
     ·rw [spliceL_length _ _ _ hl,spliceL_eq _ _ _ (by omega)]
      have e1:((cc.take (a'.off + 0)++(vs'++cc.drop (a'.off + 0 + vs'.length))).drop d).take c.length=((cc.drop d).take c.length).take a.off++(vs'++((cc.drop d).take c.length).drop (a.off + vs.length)):=by
       apply List.ext_getElem?
       intro i
       rw [h2,Nat.add_zero,app3]
       have e2:(((cc.drop d).take c.length).take a.off).length=a.off:=by simp only [List.length_take,List.length_drop]; omega
       rw [e2]
       by_cases hi:i < c.length
       ·rw [List.getElem?_take_of_lt hi,List.getElem?_drop,app3]
        have e3:(cc.take (a.off + d)).length=a.off + d:=by simp only [List.length_take]; omega
        rw [e3]
        by_cases hi1:i < a.off
        ·rw [if_pos (by omega),if_pos hi1,List.getElem?_take_of_lt (by omega),List.getElem?_take_of_lt hi1,List.getElem?_take_of_lt hi,List.getElem?_drop]
        ·rw [if_neg (by omega),if_neg hi1]
         by_cases hi2:i < a.off + vs'.length
         ·rw [if_pos (by omega),if_pos hi2]
          congr 1; omega
         ·rw [if_neg (by omega),if_neg hi2,List.getElem?_drop,List.getElem?_drop,List.getElem?_take_of_lt (by omega),List.getElem?_drop]
          congr 1; omega
       ·rw [List.getElem?_eq_none (by simp only [List.length_append,List.length_take,List.length_drop]; omega),if_neg (by omega),if_neg (by omega),List.getElem?_eq_none (by simp only [List.length_take,List.length_drop]; omega)]
      rw [e1]
      exact (h5.cells.take _).append (hv.append (h5.cells.drop _))
  | _=>simp at h
end Go.Sh
namespace Go.Sh
open Go
variable {P:Program} {φ:Inj} {A:AW} {w:World}
inductive TargetR (φ:Inj):Target→Target→Prop
 | fn {f f':Fn} {c c':List Value} (hf:FnR φ f f') (hc:LR φ c c'):TargetR φ (.fn f ⟨c⟩) (.fn f' ⟨c'⟩)
structure DR (φ:Inj) (d d':Deferred):Prop where
 target:TargetR φ d.target d'.target
 args:LR φ d.args.toList d'.args.toList
def OpOk (P:Program) (φ:Inj) (A:AW) (w:World) (y:R) (res:Result Next):Prop :=
 match y with
 | .fail=>True
 | .val v A'=>∃ φ' w',MR P φ' A' w'∧Ext φ A w φ' A' w'∧((∃ v',res=.ok (.value v') w'∧VR φ' v v')∨(res=.ok .skip w'∧v=undef))
 | .enter f args A'=>A'=A∧∃ args',res=.ok (.enter f ⟨args'⟩) w∧LR φ args args'
 | .yield l args A'=>A'=A∧∃ l' args',BlkR φ l l'∧LR φ args args'∧res=(Instr.yield l' ⟨args'⟩).run P w
 | .defer d A'=>A'=A∧∃ d',DR φ d d'∧res=.ok (.defer d') w
 | .recover A'=>A'=A∧res=.ok .recover w
 | .panic v A'=>∃ φ' w',MR P φ' A' w'∧Ext φ A w φ' A' w'∧∃ v',VR φ' v v'∧res=.halt (.panic v') w'
theorem OpOk.same (hM:MR P φ A w) {v v':Value} (h:VR φ v v') {res:Result Next} (hr:res=.ok (.value v') w):OpOk P φ A w (.val v A) res :=
 ⟨φ,w,hM,Ext.refl _ _ _,.inl ⟨v',hr,h⟩⟩
theorem OpOk.pan (hM:MR P φ A w) {v v':Value} (h:VR φ v v') {res:Result Next} (hr:res=.halt (.panic v') w):OpOk P φ A w (.panic v A) res :=
 ⟨φ,w,hM,Ext.refl _ _ _,v',h,hr⟩
theorem cells_LR {v v':Value} (h:VR φ v v'):LR φ (cellsOf v) v'.cells.toList:=by
 cases h with
 | agg h=>exact h
 | unk h=>rw [cells_of_single h]; exact .cons (.unk h) .nil
 | bool=>exact .cons (.bool _) .nil
 | int=>exact .cons (.int _ _) .nil
 | float=>exact .cons (.float _ _) .nil
 | complex=>exact .cons (.complex _ _ _) .nil
 | string=>exact .cons (.string _) .nil
 | ptrNil=>exact .cons .ptrNil .nil
 | ptr h=>exact .cons (.ptr h) .nil
 | slNil=>exact .cons .slNil .nil
 | sl h hl hc hr hx=>exact .cons (.sl h hl hc hr hx) .nil
 | sl0 h=>exact .cons (.sl0 h) .nil
 | mapNil=>exact .cons .mapNil .nil
 | map h=>exact .cons (.map h) .nil
 | func hf hx hy=>exact .cons (.func hf hx hy) .nil
 | nilFunc=>exact .cons .nilFunc .nil
 | nilIface=>exact .cons .nilIface .nil
 | iface t h=>exact .cons (.iface t h) .nil
 | tuple h=>exact .cons (.tuple h) .nil
theorem newCells (hM:MR P φ A w) {e:TypeId} {c cc:List Value} (hc:LR φ c cc.toArray.toList) (extra:List Value:=[]) {fz:Nat × Nat} (hf:∀ off,off < (cc++extra).length→¬ (fz.1≤off∧off < fz.2)) :
  ∃ φ',MR P φ' (A.add (.cells c e false)) (w.alloc (.cells ⟨cc++extra⟩ e fz))∧Ext φ A w φ' (A.add (.cells c e false)) (w.alloc (.cells ⟨cc++extra⟩ e fz))∧φ.le φ'∧φ' A.next=some (.at_ w.heap.size (cc++extra).length ((szOf P e).getD 0) 0):=by
 have hc':LR φ c cc:=by simpa using hc
 have ho:OR P φ (.cells c e false) (.cells ⟨cc++extra⟩ e fz) (cc++extra).length ((szOf P e).getD 0) 0 :=
  ⟨_,_,_,rfl,⟨rfl,rfl,rfl,by have:=hc'.length; simp; omega,by have:=hc'.length; simp [this]; exact hc',fun _=>hf,fun _=>Nat.dvd_zero _⟩⟩
 obtain ⟨h1,h2,h3⟩:=hM.add ho
 exact ⟨_,h1,h2,h3,by simp [Inj.add]⟩
theorem new_ptr {φ':Inj} {b c n s:Nat} (h:φ' b=some (.at_ c n s 0)):VR φ' (ptrV b) (.pointer (some ⟨c,0,none⟩)) :=
 .ptr (.inr ⟨c,n,s,0,h,rfl,rfl,rfl⟩)
theorem new_row {φ':Inj} {b c n s l k k':Nat} (h:φ' b=some (.at_ c n s 0)) (hl:l≤k) (hk:k≤k') (hn:k' * s≤n):VR φ' (.slice (some ⟨b,0,none⟩) l k) (.slice (some ⟨c,0,none⟩) l k') :=
 .sl (.inr ⟨c,n,s,0,h,rfl,rfl,rfl⟩) hl hk (fun _ c1 n1 s1 d1 h1=>by
  rw [h] at h1
  injection h1 with h1
  injection h1 with e1 e2 e3
  subst e1 e2 e3
  simpa using hn) fun hx=>by cases hx
theorem new_lit {φ':Inj} {b c n s l:Nat} (h:φ' b=some (.at_ c n s 0)) (hn:l * s≤n):VR φ' (litV l b) (.slice (some ⟨c,0,none⟩) l l) :=
 .sl (.inr ⟨c,n,s,0,h,rfl,rfl,rfl⟩) (Nat.le_refl _) (Nat.le_refl _) (fun _ c1 n1 s1 d1 h1=>by
  change φ' b=_ at h1
  rw [h] at h1
  injection h1 with h1
  injection h1 with e1 e2 e3
  subst e1 e2 e3
  simpa using hn) fun _=>rfl
theorem zeroA_some {t:TypeId} {z:Value} (h:zeroA P t=some z):∃ i,P.info? t=some i∧i.zero=some z∧(∀ φ,VR φ z z)∧(cellsOf z).length=i.size∧singles (cellsOf z)=true:=by
 unfold zeroA at h
 cases hi:P.info? t with
 | none=>rw [hi] at h; cases h
 | some i =>
  rw [hi] at h
  simp only at h
  cases hz:i.zero with
  | none=>rw [hz] at h; cases h
  | some y =>
   rw [hz] at h
   simp only at h
   cases hb:(groundC 3 y && (Nat.beq (lenL (cellsOf y) 0) i.size && singles (cellsOf y))) with
   | false=>rw [hb] at h; simp at h
   | true =>
    rw [hb] at h
    simp at h
    subst h
    simp only [Bool.and_eq_true,lenL0] at hb
    exact ⟨i,rfl,hz,fun φ=>ground_VR 3 y hb.1,Nat.eq_of_beq_eq_true hb.2.1,hb.2.2⟩
theorem run_zeroValue {t:TypeId} {z:Value} (h:zeroA P t=some z) (w:World):(zeroValue t).run P w=.ok z w:=by
 obtain ⟨i,h1,h2,_⟩:=zeroA_some h
 simp [zeroValue,typeInfo,h1,h2]
theorem run_underlying' {t:TypeId} {d:TypeDesc} (h:P.underlying t=some d) (w:World):(underlying t).run P w=.ok d w:=by simp [underlying,h]
theorem pick_ok (hM:MR P φ A w) {c a b c' a' b':Value} (hc:VR φ c c') (ha:VR φ a a') (hb:VR φ b b') :
  OpOk P φ A w (pickA A c a b) ((do pure (.value (if ← asBool c' then a' else b'):Next):Sem Next).run P w):=by
 cases hc with
 | bool b =>
  cases b
  ·exact OpOk.same hM hb (by simp [asBool])
  ·exact OpOk.same hM ha (by simp [asBool])
 | _=>exact trivial
theorem run_v {s:Sem Value} {x:Value} {w':World} (h:s.run P w=.ok x w'):(do pure (.value (← s):Next):Sem Next).run P w=.ok (.value x) w':=by simp [h]
theorem run_vh {s:Sem Value} {x:Halt} {w':World} (h:s.run P w=.halt x w'):(do pure (.value (← s):Next):Sem Next).run P w=.halt x w':=by simp [h]
theorem run_newRow (e:TypeId) (cs:Array Value) (w:World):(newRow e cs).run P w=.ok ⟨w.heap.size,0,none⟩ (w.alloc (.cells cs e)):=by simp [newRow]
theorem box_ok (hM:MR P φ A w) (e:TypeId) {x x':Value} (hx:VR φ x x'):OpOk P φ A w (boxA A e x) ((do pure (.value (← Instr.box e x'):Next):Sem Next).run P w):=by
 obtain ⟨φ',h1,h2,_,h4⟩:=newCells hM (e:=e) (cc:=x'.cells.toList) (by simpa using cells_LR hx) [] (fz:=(0,0)) (fun off _=>by simp)
 simp only [List.append_nil] at h1 h2 h4
 exact ⟨φ',_,h1,h2,.inl ⟨_,run_v (by simp [Instr.box,newVar,run_newRow]),new_ptr h4⟩⟩
theorem alloc_ok (hM:MR P φ A w) (e:TypeId):OpOk P φ A w (allocA P A e) ((do pure (.value (← Instr.alloc e true (.tuple #[])):Next):Sem Next).run P w):=by
 unfold allocA
 cases hz:zeroA P e with
 | none=>exact trivial
 | some z =>
  obtain ⟨i,_,_,h3,_⟩:=zeroA_some hz
  obtain ⟨φ',h1,h2,_,h4⟩:=newCells hM (e:=e) (cc:=z.cells.toList) (by simpa using cells_LR (h3 φ)) [] (fz:=(0,0)) (fun off _=>by simp)
  simp only [List.append_nil] at h1 h2 h4
  exact ⟨φ',_,h1,h2,.inl ⟨_,run_v (by simp [Instr.alloc,newVar,run_newRow,run_zeroValue hz]),new_ptr h4⟩⟩
theorem load_ok (hM:MR P φ A w) (t:TypeId) {a a':Value} (ha:VR φ a a'):OpOk P φ A w (loadA P A t a) ((do pure (.value (← Instr.loadAt t a'):Next):Sem Next).run P w):=by
 cases ha with
 | ptr h =>
  rename_i b b'
  show OpOk P φ A w (vR A (ldA P A t b)) _
  cases hl:ldA P A t b with
  | none=>exact trivial
  | some v =>
   obtain ⟨v',h1,h2⟩:=ldA_ok hM h hl
   exact OpOk.same hM h1 (run_v (by simp [Instr.loadAt,Instr.sureAddr,h2]))
 | _=>exact trivial
theorem store_ok (hM:MR P φ A w) (t:TypeId) {a a' x x':Value} (ha:VR φ a a') (hx:VR φ x x'):OpOk P φ A w (storeA P A t a x) ((do Instr.storeAt t a' x'; pure .skip:Sem Next).run P w):=by
 cases ha with
 | ptr h =>
  rename_i b b'
  unfold storeA
  simp only
  cases hs:szOf P t with
  | none=>exact trivial
  | some n =>
   simp only [lenL0]
   cases hn:Nat.beq (cellsOf x).length n with
   | false=>exact trivial
   | true =>
    simp only [cond_true,storeB]
    cases hw:wr A b.block b.off (cellsOf x) with
    | none=>exact trivial
    | some A' =>
     obtain ⟨w',h1,h2,h3⟩:=wr_ok hM h (cells_LR hx) hw
     refine ⟨φ,w',h2,h3,.inr ⟨?_,rfl⟩⟩
     have hl:=(cells_LR hx).length
     have hn':=Nat.eq_of_beq_eq_true hn
     have hsz:x'.cells.size=n:=by rw [← hn',hl]; simp
     simp [Instr.storeAt,Instr.sureAddr,storeVar,run_sizeOf hs,hsz,h1]
 | _=>exact trivial
theorem run_nilDeref (w:World) {α:Type}:(runtimePanic .nilDeref:Sem α).run P w=.halt (.panic (nilV P)) w:=by simp [runtimePanic,nilV]
theorem nilCheck_ok (hM:MR P φ A w) {ρ:Operand→Value} {o:Oper} {x:Operand} (ho:o.op=.nilCheck x) {y:Value} (hy:VR φ y (ρ x)):OpOk P φ A w (nilCheckA P A y) ((execOp ρ o).run P w):=by
 unfold execOp
 rw [ho]
 simp only
 generalize ρ x=y' at hy
 have hnil:VR φ (nilV P) (nilV P):=ground_VR 3 _ rfl
 cases hy with
 | ptrNil=>exact OpOk.pan hM hnil (run_nilDeref w)
 | ptr h=>exact OpOk.same hM (.ptr h) rfl
 | nilFunc=>exact OpOk.pan hM hnil (run_nilDeref w)
 | nilIface=>exact OpOk.pan hM hnil (run_nilDeref w)
 | iface t h=>exact OpOk.same hM (.iface t h) rfl
 | func hf hx hy =>
  rename_i f f' a a' b b'
  unfold nilCheckA
  cases f with
  | method m=>exact trivial
  | func g =>
   rcases hf with ⟨rfl,_⟩ | ⟨l,l',h,_⟩
   ·exact OpOk.same hM (.func (.inl ⟨rfl,by simp⟩) hx hy) rfl
   ·cases h
  | methodOf t m =>
   rcases hf with ⟨rfl,_⟩ | ⟨l,l',h,_⟩
   ·exact OpOk.same hM (.func (.inl ⟨rfl,by simp⟩) hx hy) rfl
   ·cases h
  | via t p g q =>
   rcases hf with ⟨rfl,_⟩ | ⟨l,l',h,_⟩
   ·exact OpOk.same hM (.func (.inl ⟨rfl,by simp⟩) hx hy) rfl
   ·cases h
  | yield l =>
   rcases hf with ⟨rfl,h⟩ | ⟨l,l',h,rfl,hb⟩
   ·exact absurd rfl (h l)
   ·exact OpOk.same hM (.func (.inr ⟨_,_,rfl,rfl,by cases h; exact hb⟩) hx hy) rfl
 | _=>exact trivial
theorem part_ok {t:TypeId} {cs cs':List Value} (hc:LR φ cs cs') {off:Nat} {v:Value} (h:partA P t cs off=some v) (w:World):∃ v',VR φ v v'∧(part t ⟨cs'⟩ off).run P w=.ok v' w:=by
 unfold partA at h
 cases hb:aggOf P t with
 | none=>rw [hb] at h; cases h
 | some b =>
  rw [hb] at h
  cases b with
  | true =>
   simp only [cond_true] at h
   cases hs:szOf P t with
   | none=>rw [hs] at h; cases h
   | some n =>
    rw [hs] at h
    simp only [takeL_eq,dropL_eq,Option.some.injEq] at h
    subst h
    refine ⟨_,.agg ((hc.drop off).take n),?_⟩
    simp [part,run_isAgg hb,run_sizeOf hs,List.take_drop]
  | false =>
   simp only [cond_false,nth_eq] at h
   obtain ⟨v',h1,h2⟩:=hc.get h
   exact ⟨v',h2,by simp [part,run_isAgg hb,h1]⟩
theorem fieldOf_some {t:TypeId} {f:Nat} {x:Field} (h:fieldOf P t f=some x):∃ fs,P.underlying t=some (.struct fs)∧fs[f]?=some x:=by
 unfold fieldOf at h
 split at h
 ·rename_i fs hu
  rw [nth_eq] at h
  exact ⟨fs,hu,by simpa using h⟩
 ·cases h
theorem field_ok (hM:MR P φ A w) (t:TypeId) (f:Nat) {x x':Value} (hx:VR φ x x'):OpOk P φ A w (fieldA P A t f x) ((do pure (.value (← Instr.field t x' f):Next):Sem Next).run P w):=by
 cases hx with
 | agg h =>
  rename_i l l'
  show OpOk P φ A w (match fieldOf P t f with | some f=>vR A (partA P f.type l f.offset) | none=>.fail) _
  cases hf:fieldOf P t f with
  | none=>exact trivial
  | some fd =>
   obtain ⟨fs,h1,h2⟩:=fieldOf_some hf
   simp only
   cases hp:partA P fd.type l fd.offset with
   | none=>exact trivial
   | some v =>
    obtain ⟨v',h3,h4⟩:=part_ok h hp w
    exact OpOk.same hM h3 (run_v (by simp [Instr.field,run_underlying' h1,h2,asAgg,h4]))
 | _=>exact trivial
theorem fieldAddr_ok (hM:MR P φ A w) (t:TypeId) (f:Nat) {x x':Value} (hx:VR φ x x'):OpOk P φ A w (fieldAddrA P A t f x) ((do pure (.value (← Instr.fieldAt t x' f):Next):Sem Next).run P w):=by
 cases hx with
 | ptr h =>
  rename_i a a'
  unfold fieldAddrA
  simp only
  cases hf:fieldOf P t f with
  | none=>exact trivial
  | some fd =>
   obtain ⟨fs,h1,h2⟩:=fieldOf_some hf
   simp only
   cases hs:szOf P fd.type with
   | none=>exact trivial
   | some n=>cases n with
    | zero=>exact trivial
    | succ n =>
     simp only [cond_true]
     exact OpOk.same hM (.ptr (h.add _)) (run_v (by simp [Instr.fieldAt,run_underlying' h1,h2,Instr.sureAddr,fieldPlace,run_sizeOf hs]))
 | _=>exact trivial
theorem extract_ok (hM:MR P φ A w) (i:Nat) {x x':Value} (hx:VR φ x x'):OpOk P φ A w (extractA A x i) ((do pure (.value (← Instr.extract x' i):Next):Sem Next).run P w):=by
 cases hx with
 | tuple h =>
  rename_i l l'
  show OpOk P φ A w (vR A (nth l i)) _
  rw [nth_eq]
  cases hl:l[i]? with
  | none=>exact trivial
  | some v =>
   obtain ⟨v',h1,h2⟩:=h.get hl
   exact OpOk.same hM h2 (run_v (by simp [Instr.extract,h1]))
 | _=>exact trivial
theorem isIface_some {t:TypeId} {b:Bool} (h:isIface P t=some b):∃ d,P.underlying t=some d∧(b=true ↔ ∃ ms,d=.interface ms):=by
 unfold isIface at h
 split at h
 ·rename_i ms hu
  cases h
  exact ⟨_,hu,by simp⟩
 ·rename_i d hne hu
  cases h
  refine ⟨_,hu,by simp; intro ms hd; exact hne ms hd⟩
 ·cases h
theorem iface_ok (hM:MR P φ A w) (t:TypeId) {x x':Value} (hx:VR φ x x'):OpOk P φ A w (ifaceA P A t x) ((do pure (.value (← Instr.makeInterface t x'):Next):Sem Next).run P w):=by
 unfold ifaceA
 cases hi:isIface P t with
 | none=>exact trivial
 | some b =>
  obtain ⟨d,h1,h2⟩:=isIface_some hi
  cases b with
  | true=>exact trivial
  | false =>
   have hd:∀ ms,d ≠ .interface ms:=fun ms e=>by simpa using h2.2 ⟨ms,e⟩
   refine OpOk.same hM (.iface t hx) (run_v ?_)
   unfold Instr.makeInterface
   simp only [Sem.run_bind,run_underlying' h1,Result.andThen_ok]
   cases d <;> first | rfl | exact absurd rfl (hd _)
theorem makeMap_ok (hM:MR P φ A w) (t:TypeId):OpOk P φ A w (makeMapA A) ((do pure (.value (← Instr.makeMap t none):Next):Sem Next).run P w):=by
 have ho:OR P φ (.map [] 0) (.map #[] 0) 0 0 0:=⟨[],rfl,.nil⟩
 obtain ⟨h1,h2,_⟩:=hM.add ho
 refine ⟨_,_,h1,h2,.inl ⟨.map (some w.heap.size),run_v ?_,.map (.inr ⟨0,0,0,by simp [Inj.add]⟩)⟩⟩
 simp [Instr.makeMap]
theorem idxIn_some {i:Int} {n k:Nat} (h:idxIn i n=some k):i=k∧k < n:=by
 unfold idxIn at h
 split at h
 ·rename_i j
  cases hb:Nat.blt j n with
  | false=>rw [hb] at h; simp at h
  | true =>
   rw [hb] at h
   simp at h
   subst h
   exact ⟨rfl,by simpa [Nat.blt_eq] using hb⟩
 ·cases h
theorem idxIn_none {i:Int} {n:Nat} (h:idxIn i n=none):¬ (0≤i∧i < n):=by
 cases i with
 | ofNat j =>
  simp only [idxIn] at h
  cases hb:Nat.blt j n with
  | true=>rw [hb] at h; simp at h
  | false =>
   have:¬ j < n:=by rw [← Nat.blt_eq]; simp [hb]
   simp only [Int.ofNat_eq_natCast]
   omega
 | negSucc j =>
  intro ⟨h1,_⟩
  exact absurd h1 (by omega)
theorem bounds_ok {α:Type} (φ:Inj) (w:World) (k:IntKind) (i:Int) (n:Nat) :
  ∃ m v',(boundsPanic k i (n:Int) .index:Sem α).run P w=.halt (.panic v') { w with drawn:=m }∧VR φ (boundsP P i n) v':=by
 have hv:∀ b:Bool,VR φ (boundsP P i n) (.iface P.rt.boundsError (.agg #[.int .i64 (IntKind.i64.wrap i),.int .i64 (n:Int),.bool b,.int .u8 0])) :=
  fun b=>.iface _ (.agg (.cons (.int _ _) (.cons (.int _ _) (.cons (.unk rfl) (.cons (.int _ _) .nil)))))
 unfold boundsPanic
 split
 ·exact ⟨w.drawn + 1,_,by simp [Question.forced,runtimePanic,BoundsCode.toNat]; rfl,hv _⟩
 ·exact ⟨w.drawn,_,by simp [runtimePanic,BoundsCode.toNat]; rfl,hv _⟩
theorem OpOk.bounds (hM:MR P φ A w) (k:IntKind) (i:Int) (n:Nat) {s:Sem Value} (hs:s.run P w=(boundsPanic k i (n:Int) .index:Sem Value).run P w) :
  OpOk P φ A w (.panic (boundsP P i n) A) ((do pure (.value (← s):Next):Sem Next).run P w):=by
 obtain ⟨m,v',h1,h2⟩:=bounds_ok (P:=P) (α:=Value) φ w k i n
 exact ⟨φ,_,hM.drawn m,Ext.drawn w m,v',h2,run_vh (hs.trans h1)⟩
theorem elemA_some {t e:TypeId} (h:elemA P t=some e):P.underlying t=some (.slice e):=by
 unfold elemA at h
 split at h
 ·rename_i x hu; cases h; exact hu
 ·cases h
theorem arrN_some {t:TypeId} {p:Nat × TypeId} (h:arrN P t=some p):P.underlying t=some (.array p.1 p.2):=by
 unfold arrN at h
 split at h
 ·rename_i x y hu; cases h; exact hu
 ·cases h
theorem indexAddr_ok (hM:MR P φ A w) (t:TypeId) {x x' ix ix':Value} (hx:VR φ x x') (hi:VR φ ix ix') :
  OpOk P φ A w (indexAddrA P A t x ix) ((do pure (.value (← Instr.indexAt t x' ix'):Next):Sem Next).run P w):=by
 cases hi with
 | int k i =>
  show OpOk P φ A w (indexAddrC P A t x i) _
  cases hx with
  | ptr h =>
   rename_i a a'
   unfold indexAddrC
   simp only
   cases ha:arrN P t with
   | none=>exact trivial
   | some p =>
    have hu:=arrN_some ha
    simp only
    cases hb:Nat.ble p.1 1 with
    | true=>exact trivial
    | false =>
     simp only [cond_false,indexAddrB]
     have hb':¬ p.1≤1:=by rw [← Nat.ble_eq]; simp [hb]
     cases hix:idxIn i p.1 with
     | none =>
      have:=idxIn_none hix
      exact OpOk.bounds hM k i p.1 (by simp [Instr.indexAt,asIntOf,run_underlying' hu,Instr.sureAddr,if_neg this,hb'])
     | some j =>
      obtain ⟨rfl,hj⟩:=idxIn_some hix
      simp only
      cases hs:szOf P p.2 with
      | none=>exact trivial
      | some size =>
       refine OpOk.same hM (.ptr (h.add _)) (run_v ?_)
       simp [Instr.indexAt,asIntOf,run_underlying' hu,Instr.sureAddr,hj,run_sizeOf hs]
  | slNil =>
   unfold indexAddrC
   simp only
   cases he:elemA P t with
   | none=>exact trivial
   | some e =>
    have hu:=elemA_some he
    exact OpOk.bounds hM k i 0 (by simp [Instr.indexAt,asIntOf,run_underlying' hu])
  | sl h hl hc hr hx =>
   rename_i a a' l c c'
   unfold indexAddrC
   simp only
   cases he:elemA P t with
   | none=>exact trivial
   | some e =>
    have hu:=elemA_some he
    simp only [indexAddrB]
    cases hix:idxIn i l with
    | none =>
     have:=idxIn_none hix
     exact OpOk.bounds hM k i l (by simp [Instr.indexAt,asIntOf,run_underlying' hu,if_neg this])
    | some j =>
     obtain ⟨rfl,hj⟩:=idxIn_some hix
     simp only
     cases hs:szOf P e with
     | none=>exact trivial
     | some size =>
      refine OpOk.same hM (.ptr (h.add _)) (run_v ?_)
      simp [Instr.indexAt,asIntOf,run_underlying' hu,hj,run_sizeOf hs]
  | sl0 h =>
   rename_i a a'
   unfold indexAddrC
   simp only
   cases he:elemA P t with
   | none=>exact trivial
   | some e =>
    have hu:=elemA_some he
    have hix:idxIn i 0=none:=by
     cases hh:idxIn i 0 with
     | none=>rfl
     | some j=>have:=(idxIn_some hh).2; omega
    simp only [indexAddrB,hix]
    have:=idxIn_none hix
    exact OpOk.bounds hM k i 0 (by simp [Instr.indexAt,asIntOf,run_underlying' hu]; intro h1 h2; exact absurd ⟨h1,h2⟩ this)
  | _=>exact trivial
 | _=>exact trivial
theorem index_ok (hM:MR P φ A w) (t:TypeId) {x x' ix ix':Value} (hx:VR φ x x') (hi:VR φ ix ix') :
  OpOk P φ A w (indexA P A t x ix) ((do pure (.value (← Instr.index t x' ix'):Next):Sem Next).run P w):=by
 cases hi with
 | int k i =>
  cases hx with
  | agg h =>
   rename_i l l'
   show OpOk P φ A w (indexArr P A t l i) _
   unfold indexArr
   cases ha:arrN P t with
   | none=>exact trivial
   | some p =>
    have hu:=arrN_some ha
    simp only
    cases hix:idxIn i p.1 with
    | none =>
     have:=idxIn_none hix
     exact OpOk.bounds hM k i p.1 (by simp [Instr.index,asIntOf,run_underlying' hu,if_neg this])
    | some j =>
     obtain ⟨rfl,hj⟩:=idxIn_some hix
     simp only
     cases hs:szOf P p.2 with
     | none=>exact trivial
     | some size =>
      simp only
      cases hp:partA P p.2 l (j * size) with
      | none=>exact trivial
      | some v =>
       obtain ⟨v',h1,h2⟩:=part_ok h hp w
       refine OpOk.same hM h1 (run_v ?_)
       simp [Instr.index,asIntOf,run_underlying' hu,hj,run_sizeOf hs,h2]
  | string s =>
   show OpOk P φ A w (match P.underlying t with | some .string=>indexStr P A (bytesOf s) i | _=>.fail) _
   split
   ·rename_i hu
    have hlen:(bytesOf s).length=s.size:=rfl
    unfold indexStr
    cases i with
    | ofNat j =>
     simp only [nth_eq,lenL0]
     have hg:s[j]?=(bytesOf s)[j]?:=by
      by_cases hj:j < s.size
      ·rw [getElem?_pos s j hj,List.getElem?_eq_getElem (by rw [hlen]; exact hj)]; rfl
      ·rw [getElem?_neg s j hj,List.getElem?_eq_none (by rw [hlen]; omega)]
     cases hb:(bytesOf s)[j]? with
     | none=>exact OpOk.bounds hM k _ _ (by simp [Instr.index,asIntOf,run_underlying' hu,hg,hb,hlen])
     | some b=>exact OpOk.same hM (.int _ _) (run_v (by simp [Instr.index,asIntOf,run_underlying' hu,hg,hb]))
    | negSucc j =>
     simp only [lenL0]
     exact OpOk.bounds hM k _ _ (by simp [Instr.index,asIntOf,run_underlying' hu,hlen])
   ·exact trivial
  | _=>exact trivial
 | _=>exact trivial
end Go.Sh
namespace Go.Sh
open Go
variable {P:Program} {φ:Inj} {A:AW} {w:World}
theorem intLe_eq (a b : Int) : intLe a b = decide (a ≤ b) := by
  rw [Bool.eq_iff_iff, decide_eq_true_eq]
  cases a with
  | ofNat a => cases b with
    | ofNat b => simp only [intLe, Nat.ble_eq, Int.ofNat_eq_natCast]; omega
    | negSucc b => simp only [intLe, Int.ofNat_eq_natCast]; constructor
                   · intro h; cases h
                   · intro h; omega
  | negSucc a => cases b with
    | ofNat b => simp only [intLe, Int.ofNat_eq_natCast, true_iff]; omega
    | negSucc b => simp only [intLe, Nat.ble_eq]; omega
theorem intEq_eq (a b : Int) : intEq a b = (a == b) := by
  rw [Bool.eq_iff_iff, beq_iff_eq]
  cases a with
  | ofNat a => cases b with
    | ofNat b => simp only [intEq, Nat.beq_eq, Int.ofNat_eq_natCast]; omega
    | negSucc b => simp only [intEq, Int.ofNat_eq_natCast]; constructor
                   · intro h; cases h
                   · intro h; omega
  | negSucc a => cases b with
    | ofNat b => simp only [intEq, Int.ofNat_eq_natCast]; constructor
                 · intro h; cases h
                 · intro h; omega
    | negSucc b => simp only [intEq, Nat.beq_eq]; omega
theorem intLt_eq (a b:Int):intLt a b=decide (a < b):=by
 unfold intLt; rw [intLe_eq]; rw [Bool.eq_iff_iff]; simp
theorem wrap_small {m:Nat} (k:IntKind) (h:m≤127):k.wrap (.ofNat m)=.ofNat m:=by
 simp only [Int.ofNat_eq_natCast]
 cases k with
 | i8=>simp [IntKind.wrap,IntKind.bits,IntKind.signed]; omega
 | i16=>simp [IntKind.wrap,IntKind.bits,IntKind.signed]; omega
 | i32=>rw [IntKind.wrap_i32]; omega
 | i64=>exact IntWalk.i64_in _ (by omega)
 | u8=>exact IntWalk.u8_in _ (by omega)
 | u16=>exact IntWalk.u16_in _ (by omega)
 | u32=>exact IntWalk.u32_in _ (by omega)
 | u64=>exact IntWalk.u64_in _ (by omega)
theorem wrap64_in {n:Int} (h : -9223372036854775808≤n) (k:n≤9223372036854775807):IntKind.wrap .i64 n=n:=IntWalk.i64_in n ⟨h,k⟩
theorem le_maxI {m:Nat} (h:m≤maxI):(m:Int)≤9223372036854775807:=by
 have h1:(m:Int)≤(maxI:Int):=Int.ofNat_le.2 h
 have h2:(maxI:Int)=9223372036854775807:=by unfold maxI; rfl
 exact h2 ▸ h1
theorem wrapB_eq (k:IntKind) (m:Nat):wrapB k m=k.wrap (.ofNat m):=by
 cases k with
 | i64 =>
  show (bif Nat.ble m maxI then Int.ofNat m else IntKind.wrap .i64 (.ofNat m))=_
  cases hc:Nat.ble m maxI with
  | true =>
   have h:=le_maxI (Nat.le_of_ble_eq_true hc)
   exact (wrap64_in (n:=Int.ofNat m) (Int.le_trans (by decide) (Int.natCast_nonneg m)) h).symm
  | false=>exact cond_false _ _
 | _=>rfl
theorem wrapN_eq (k:IntKind) (m:Nat):wrapN k m=k.wrap (.negSucc m):=by
 cases k with
 | i64 =>
  show (bif Nat.ble m maxI then Int.negSucc m else IntKind.wrap .i64 (.negSucc m))=_
  cases hc:Nat.ble m maxI with
  | true =>
   have h:=le_maxI (Nat.le_of_ble_eq_true hc)
   exact (wrap64_in (n:=Int.negSucc m) (by omega) (by omega)).symm
  | false=>exact cond_false _ _
 | _=>rfl
theorem wrapA_eq (k:IntKind) (n:Int):wrapA k n=k.wrap n:=by
 cases n with
 | ofNat m =>
  show (bif Nat.ble m 127 then Int.ofNat m else wrapB k m)=_
  cases hb:Nat.ble m 127 with
  | true=>exact (wrap_small k (Nat.le_of_ble_eq_true hb)).symm
  | false=>exact wrapB_eq k m
 | negSucc m=>exact wrapN_eq k m
theorem u8_toNat_inj {a b:UInt8} (h:a.toNat=b.toNat):a=b:=UInt8.toNat_inj.1 h
theorem byteL_eq:∀ (x y:List UInt8),byteL x y=(x == y)
 | [],[]=>rfl
 | [],_::_=>rfl
 | _::_,[]=>rfl
 | a::x,b::y=>by
  simp only [byteL]
  cases h:Nat.beq a.toNat b.toNat with
  | true =>
   have:=u8_toNat_inj (Nat.eq_of_beq_eq_true h)
   subst this
   simp [byteL_eq x y]
  | false =>
   have:a ≠ b:=by rintro rfl; simp at h
   simp [this]
theorem bytesLess_eq:∀ (x y:List UInt8),bytesLess x y=Op.bytesLess x y
 | [],[]=>rfl
 | [],_::_=>rfl
 | _::_,[]=>rfl
 | a::x,b::y=>by
  simp only [bytesLess,Op.bytesLess]
  cases h:Nat.beq a.toNat b.toNat with
  | true =>
   have:=u8_toNat_inj (Nat.eq_of_beq_eq_true h)
   subst this
   simp [bytesLess_eq x y]
  | false =>
   have:a ≠ b:=by rintro rfl; simp at h
   have e:(a == b)=false:=by simpa using this
   rw [Bool.eq_iff_iff]
   simp [e,UInt8.lt_iff_toNat_lt,Nat.blt_eq]
theorem bytes_total:∀ (a b:List UInt8),Op.bytesLess b a=!(Op.bytesLess a b || a == b)
 | [],[]=>rfl
 | [],_::_=>rfl
 | _::_,[]=>rfl
 | a::x,b::y=>by
  simp only [Op.bytesLess]
  rcases Nat.lt_trichotomy a.toNat b.toNat with h | h | h
  ·have e1:(a < b):=UInt8.lt_iff_toNat_lt.2 h
   have e2:¬ (b < a):=fun k=>by have:=UInt8.lt_iff_toNat_lt.1 k; omega
   have e3:(b == a)=false:=by simp; rintro rfl; omega
   simp [e1,e2,e3]
  ·have:=u8_toNat_inj h
   subst this
   have e2:¬ (a < a):=fun k=>by have:=UInt8.lt_iff_toNat_lt.1 k; omega
   simp [e2,bytes_total x y]
  ·have e1:¬ (a < b):=fun k=>by have:=UInt8.lt_iff_toNat_lt.1 k; omega
   have e2:b < a:=UInt8.lt_iff_toNat_lt.2 h
   have e3:(a == b)=false:=by simp; rintro rfl; omega
   simp [e1,e2,e3]
theorem toList_bytes (s:ByteArray):s.toList=bytesOf s:=ByteArray.toList_eq s
theorem sameK_eq {k j:IntKind} (h:sameK k j=true):k=j:=by
 cases k <;> cases j <;> first | rfl | (exact absurd h (by decide))
theorem VR_int {k:IntKind} {n:Int} {v:Value} (h:VR φ (.int k n) v):v=.int k n:=by cases h; rfl
theorem VR_string {s:ByteArray} {v:Value} (h:VR φ (.string s) v):v=.string s:=by cases h; rfl
theorem VR_bool {b:Bool} {v:Value} (h:VR φ (.bool b) v):v=.bool b:=by cases h; rfl
def Gives (P:Program) (φ:Inj) (w:World) (v:Value) (s:Sem Value):Prop:=∃ v',VR φ v v'∧s.run P w=.ok v' w
theorem Gives.int {k:IntKind} {n m:Int} {s:Sem Value} (h:s.run P w=.ok (.int k m) w) (e:m=n):Gives P φ w (.int k n) s:=⟨_,.int _ _,e ▸ h⟩
theorem Gives.bool {b c:Bool} {s:Sem Value} (h:s.run P w=.ok (.bool c) w) (e:c=b):Gives P φ w (.bool b) s:=⟨_,.bool _,e ▸ h⟩
theorem arith_inv {f:IntKind→Int→Int→Option Int} {x y v:Value} (h:arithA f x y=some v):∃ k a b n,x=.int k a∧y=.int k b∧f k a b=some n∧v=.int k n:=by
 unfold arithA at h
 cases x <;> simp only [] at h <;> try (cases h; done)
 rename_i k a
 cases y <;> simp only [] at h <;> try (cases h; done)
 rename_i j b
 cases hk:sameK k j with
 | false=>rw [hk] at h; cases h
 | true =>
  have:=sameK_eq hk
  subst this
  rw [hk] at h
  simp only [cond_true] at h
  cases hf:f k a b with
  | none=>rw [hf] at h; cases h
  | some n=>rw [hf] at h; cases h; exact ⟨k,a,b,n,rfl,rfl,hf,rfl⟩
theorem shift_inv {f:IntKind→Int→Int→Option Int} {x y v:Value} (h:shiftV f x y=some v):∃ k a j b n,x=.int k a∧y=.int j b∧f k a b=some n∧v=.int k n:=by
 unfold shiftV at h
 cases x <;> simp only [] at h <;> try (cases h; done)
 rename_i k a
 cases y <;> simp only [] at h <;> try (cases h; done)
 rename_i j b
 cases hf:f k a b with
 | none=>rw [hf] at h; cases h
 | some n=>rw [hf] at h; cases h; exact ⟨k,a,j,b,n,rfl,rfl,hf,rfl⟩
theorem cmp_inv {f:Int→Int→Bool} {g:List UInt8→List UInt8→Bool} {x y v:Value} (h:cmpA f g x y=some v) :
  (∃ k a b,x=.int k a∧y=.int k b∧v=.bool (f a b))∨(∃ a b,x=.string a∧y=.string b∧v=.bool (g (bytesOf a) (bytesOf b))):=by
 unfold cmpA at h
 cases x <;> simp only [] at h <;> try (cases h; done)
 ·rename_i k a
  cases y <;> simp only [] at h <;> try (cases h; done)
  rename_i j b
  cases hk:sameK k j with
  | false=>rw [hk] at h; cases h
  | true =>
   have:=sameK_eq hk
   subst this
   rw [hk] at h
   cases h
   exact .inl ⟨k,a,b,rfl,rfl,rfl⟩
 ·rename_i a
  cases y <;> simp only [] at h <;> try (cases h; done)
  rename_i b
  cases h
  exact .inr ⟨a,b,rfl,rfl,rfl⟩
theorem add_inv {x y v:Value} (h:addA x y=some v) :
  (∃ k a b,x=.int k a∧y=.int k b∧v=.int k (wrapA k (a + b)))∨(∃ a b,x=.string a∧y=.string b∧(bytesOf a).length + (bytesOf b).length≤1000000∧v=catA a b):=by
 unfold addA at h
 cases x <;> simp only [] at h <;> try (cases h; done)
 ·rename_i k a
  cases y <;> simp only [] at h <;> try (cases h; done)
  rename_i j b
  cases hk:sameK k j with
  | false=>rw [hk] at h; cases h
  | true =>
   have:=sameK_eq hk
   subst this
   rw [hk] at h
   cases h
   exact .inl ⟨k,a,b,rfl,rfl,rfl⟩
 ·rename_i a
  cases y <;> simp only [] at h <;> try (cases h; done)
  rename_i b
  simp only [lenL_eq] at h
  cases hb:Nat.ble (a.data.toList.length + (b.data.toList.length + 0)) 1000000 with
  | false=>rw [hb] at h; cases h
  | true =>
   rw [hb] at h
   cases h
   exact .inr ⟨a,b,rfl,rfl,Nat.le_of_ble_eq_true hb,rfl⟩
theorem catA_eq (a b:ByteArray):catA a b=.string (a++b):=by
 obtain ⟨⟨x⟩⟩:=a
 obtain ⟨⟨y⟩⟩:=b
 have:=ByteArray.mk_append_mk x y
 simp only [catA,appL_eq]
 rw [← this]
theorem size_bytes (a:ByteArray):a.size=(bytesOf a).length:=rfl
theorem opt_some {α:Type} {a b:α} (h:some a=some b):a=b:=by injection h
theorem bin_ok (op:BinOp) (hop:op ≠ .eql∧op ≠ .neq) (t:TypeId) (xo yo:Operand) {x x' y y' v:Value} (hx:VR φ x x') (hy:VR φ y y') (h:(binS op).val x y=some v) :
  Gives P φ w v (do eqGuard op t xo yo x' y'; binOp op t x' y'):=by
 have hg:eqGuard op t xo yo x' y'=pure ():=by
  cases op <;> first | rfl | exact absurd rfl hop.1 | exact absurd rfl hop.2
 rw [hg,pure_bind]
 cases op with
 | eql=>exact absurd rfl hop.1
 | neq=>exact absurd rfl hop.2
 | add =>
  rcases add_inv h with ⟨k,a,b,rfl,rfl,rfl⟩ | ⟨a,b,rfl,rfl,hl,rfl⟩
  ·rw [VR_int hx,VR_int hy]
   exact .int (by simp [binOp_add,Op.intArith]) (wrapA_eq k _).symm
  ·rw [VR_string hx,VR_string hy,catA_eq]
   exact ⟨_,.string _,by
    show (Op.stringOp .add a b).run P w=_
    exact run_string_add_sum w a b (by rw [size_bytes,size_bytes]; omega)⟩
 | sub =>
  obtain ⟨k,a,b,n,rfl,rfl,hf,rfl⟩:=arith_inv (f:=subA) h
  rw [VR_int hx,VR_int hy,← opt_some hf]
  exact .int (by simp [binOp_sub,Op.intArith]) (wrapA_eq k _).symm
 | mul =>
  obtain ⟨k,a,b,n,rfl,rfl,hf,rfl⟩:=arith_inv (f:=mulA) h
  rw [VR_int hx,VR_int hy,← opt_some hf]
  exact .int (by simp [binOp_mul,Op.intArith]) (wrapA_eq k _).symm
 | quo =>
  obtain ⟨k,a,b,n,rfl,rfl,hf,rfl⟩:=arith_inv (f:=quoA) h
  rw [VR_int hx,VR_int hy]
  unfold quoA at hf
  rw [intEq_eq] at hf
  cases hb:(b == 0) with
  | true=>rw [hb] at hf; cases hf
  | false =>
   rw [hb] at hf
   have hb':b ≠ 0:=by simpa using hb
   rw [← opt_some hf]
   exact .int (by simp [binOp_quo,Op.intDiv,hb']) (wrapA_eq k _).symm
 | rem =>
  obtain ⟨k,a,b,n,rfl,rfl,hf,rfl⟩:=arith_inv (f:=remA) h
  rw [VR_int hx,VR_int hy]
  unfold remA at hf
  rw [intEq_eq] at hf
  cases hb:(b == 0) with
  | true=>rw [hb] at hf; cases hf
  | false =>
   rw [hb] at hf
   have hb':b ≠ 0:=by simpa using hb
   rw [← opt_some hf]
   exact .int (by simp [binOp_rem,Op.intDiv,hb']) rfl
 | and =>
  obtain ⟨k,a,b,n,rfl,rfl,hf,rfl⟩:=arith_inv (f:=andA) h
  rw [VR_int hx,VR_int hy,← opt_some hf]
  exact .int (by rw [binOp_and]; simp only [Op.intBits]; rfl) (wrapA_eq k _).symm
 | or =>
  obtain ⟨k,a,b,n,rfl,rfl,hf,rfl⟩:=arith_inv (f:=orA) h
  rw [VR_int hx,VR_int hy,← opt_some hf]
  exact .int (by rw [binOp_or]; simp only [Op.intBits]; rfl) (wrapA_eq k _).symm
 | xor =>
  obtain ⟨k,a,b,n,rfl,rfl,hf,rfl⟩:=arith_inv (f:=xorA) h
  rw [VR_int hx,VR_int hy,← opt_some hf]
  exact .int (by rw [binOp_xor]; simp only [Op.intBits]; rfl) (wrapA_eq k _).symm
 | andNot =>
  obtain ⟨k,a,b,n,rfl,rfl,hf,rfl⟩:=arith_inv (f:=andNotA) h
  rw [VR_int hx,VR_int hy,← opt_some hf]
  exact .int (by rw [binOp_andNot]; simp only [Op.intBits]; rfl) (wrapA_eq k _).symm
 | shl =>
  obtain ⟨k,a,j,b,n,rfl,rfl,hf,rfl⟩:=shift_inv (f:=shlA) h
  rw [VR_int hx,VR_int hy]
  unfold shlA at hf
  rw [intLt_eq] at hf
  by_cases hb:b < 0
  ·simp [hb] at hf
  ·simp only [hb,decide_false,cond_false] at hf
   rw [← opt_some hf]
   exact .int (by rw [binOp_shl]; simp only [Op.shift,hb,if_false]; rfl) (wrapA_eq k _).symm
 | shr =>
  obtain ⟨k,a,j,b,n,rfl,rfl,hf,rfl⟩:=shift_inv (f:=shrA) h
  rw [VR_int hx,VR_int hy]
  unfold shrA at hf
  rw [intLt_eq] at hf
  by_cases hb:b < 0
  ·simp [hb] at hf
  ·simp only [hb,decide_false,cond_false] at hf
   rw [← opt_some hf]
   exact .int (by rw [binOp_shr]; simp only [Op.shift,hb,if_false]; rfl) rfl
 | lss =>
  rcases cmp_inv (f:=intLt) (g:=bytesLess) h with ⟨k,a,b,rfl,rfl,rfl⟩ | ⟨a,b,rfl,rfl,rfl⟩
  ·rw [VR_int hx,VR_int hy]; exact .bool (by rw [binOp_lss]; rfl) (intLt_eq a b).symm
  ·rw [VR_string hx,VR_string hy]; exact .bool (by show (Op.stringOp .lss a b).run P w=_; simp only [Op.stringOp,toList_bytes]; rfl) (bytesLess_eq _ _).symm
 | leq =>
  rcases cmp_inv (f:=intLe) (g:=leS) h with ⟨k,a,b,rfl,rfl,rfl⟩ | ⟨a,b,rfl,rfl,rfl⟩
  ·rw [VR_int hx,VR_int hy]; exact .bool (by rw [binOp_leq]; rfl) (intLe_eq a b).symm
  ·rw [VR_string hx,VR_string hy]; exact .bool (by show (Op.stringOp .leq a b).run P w=_; simp only [Op.stringOp,toList_bytes]; rfl) (by unfold leS; rw [bytesLess_eq,bytes_total (bytesOf a) (bytesOf b)]; simp)
 | gtr =>
  rcases cmp_inv (f:=gtI) (g:=gtS) h with ⟨k,a,b,rfl,rfl,rfl⟩ | ⟨a,b,rfl,rfl,rfl⟩
  ·rw [VR_int hx,VR_int hy]; exact .bool (by rw [binOp_gtr]; rfl) (intLt_eq b a).symm
  ·rw [VR_string hx,VR_string hy]; exact .bool (by show (Op.stringOp .gtr a b).run P w=_; simp only [Op.stringOp,toList_bytes]; rfl) (by unfold gtS; rw [bytesLess_eq,bytes_total (bytesOf a) (bytesOf b)])
 | geq =>
  rcases cmp_inv (f:=geI) (g:=geS) h with ⟨k,a,b,rfl,rfl,rfl⟩ | ⟨a,b,rfl,rfl,rfl⟩
  ·rw [VR_int hx,VR_int hy]; exact .bool (by rw [binOp_geq]; rfl) (intLe_eq b a).symm
  ·rw [VR_string hx,VR_string hy]; exact .bool (by show (Op.stringOp .geq a b).run P w=_; simp only [Op.stringOp,toList_bytes]; rfl) (by unfold geS; rw [bytesLess_eq])
end Go.Sh
namespace Go.Sh
open Go
variable {P:Program} {φ:Inj} {A:AW} {w:World}
theorem un_ok (op:UnOp) {x x' v:Value} (hx:VR φ x x') (h:unS op x=some v):Gives P φ w v (Op.unary op x'):=by
 cases op with
 | not =>
  change notA x=some v at h
  cases x <;> simp only [notA] at h <;> try (cases h; done)
  rw [VR_bool hx,← opt_some h]
  exact .bool rfl rfl
 | neg =>
  change negA x=some v at h
  cases x <;> simp only [negA] at h <;> try (cases h; done)
  rw [VR_int hx,← opt_some h]
  exact .int (by simp [Op.unary,Op.intArith]) (wrapA_eq _ _).symm
 | xor =>
  change cplA x=some v at h
  cases x <;> simp only [cplA] at h <;> try (cases h; done)
  rw [VR_int hx,← opt_some h]
  exact .int (by simp only [Op.unary,Op.intBits]; rfl) (wrapA_eq _ _).symm
 | plus=>cases h
theorem Gives.ok (hM:MR P φ A w) {v:Value} {s:Sem Value} (h:Gives P φ w v s):OpOk P φ A w (.val v A) ((do pure (.value (← s):Next):Sem Next).run P w):=by
 obtain ⟨v',h1,h2⟩:=h
 exact OpOk.same hM h1 (run_v h2)
theorem vR_ok (hM:MR P φ A w) {o:Option Value} {s:Sem Value} (h:∀ v,o=some v→Gives P φ w v s):OpOk P φ A w (vR A o) ((do pure (.value (← s):Next):Sem Next).run P w):=by
 cases o with
 | none=>exact trivial
 | some v=>exact (h v rfl).ok hM
def OVR (φ:Inj) (x x':Option Value):Prop:=match x,x' with | none,none=>True | some v,some v'=>VR φ v v' | _,_=>False
theorem bound_some {x:Option Value} {y d n:Nat} (h:boundA x y d=some n):(x=none∧n=d)∨∃ k,x=some (.int k (n:Int))∧n≤y:=by
 cases x with
 | none=>exact .inl ⟨rfl,(opt_some h).symm⟩
 | some v =>
  simp only [boundA] at h
  cases v <;> simp only [] at h <;> try (cases h; done)
  rename_i k i
  cases i with
  | negSucc j=>cases h
  | ofNat j =>
   simp only [] at h
   cases hb:Nat.ble j y with
   | false=>rw [hb] at h; cases h
   | true=>rw [hb] at h; cases h; exact .inr ⟨k,rfl,Nat.le_of_ble_eq_true hb⟩
theorem run_sliceBound {k:IntKind} {n y:Nat} (h:n≤y) (c:BoundsCode) (w:World):(Instr.sliceBound (.int k (n:Int)) y c).run P w=.ok n w:=by
 simp [Instr.sliceBound,asIntOf]; omega
theorem bound_there {x x':Option Value} (hx:OVR φ x x') {y d n:Nat} (h:boundA x y d=some n):(x=none∧x'=none∧n=d)∨∃ k,x'=some (.int k (n:Int))∧n≤y∧x.isNone=false:=by
 rcases bound_some h with ⟨rfl,rfl⟩ | ⟨k,rfl,hle⟩
 ·cases x' with
  | none=>exact .inl ⟨rfl,rfl,rfl⟩
  | some v=>cases hx
 ·cases x' with
  | none=>cases hx
  | some v=>exact .inr ⟨k,congrArg some (VR_int hx),hle,rfl⟩
theorem run_sliceBounds {b:Bool} {len cap cap' m h l:Nat} {lo hi mx lo' hi' mx':Option Value} (hlo:OVR φ lo lo') (hhi:OVR φ hi hi') (hmx:OVR φ mx mx') (hc:cap≤cap')
  (h1:boundA mx cap cap=some m) (h2:boundA hi m len=some h) (h3:boundA lo h 0=some l) (hn:hi.isNone=true→mx.isNone=true) :
  (Instr.sliceBounds b len cap' lo' hi' mx').run P w=.ok (l,h,if mx.isNone then cap' else m) w:=by
 rcases bound_there hmx h1 with ⟨rfl,rfl,rfl⟩ | ⟨k1,rfl,hle1,e1⟩
 ·rcases bound_there hhi h2 with ⟨rfl,rfl,rfl⟩ | ⟨k2,rfl,hle2,e2⟩
  ·rcases bound_there hlo h3 with ⟨rfl,rfl,rfl⟩ | ⟨k3,rfl,hle3,e3⟩
   ·simp [Instr.sliceBounds]
   ·simp [Instr.sliceBounds,run_sliceBound hle3]
  ·rcases bound_there hlo h3 with ⟨rfl,rfl,rfl⟩ | ⟨k3,rfl,hle3,e3⟩
   ·simp [Instr.sliceBounds,run_sliceBound (Nat.le_trans hle2 hc)]
   ·simp [Instr.sliceBounds,run_sliceBound (Nat.le_trans hle2 hc),run_sliceBound hle3]
 ·have hn':hi.isNone=false:=by
   cases hh:hi.isNone with
   | false=>rfl
   | true=>rw [hn hh] at e1; cases e1
  rcases bound_there hhi h2 with ⟨rfl,rfl,rfl⟩ | ⟨k2,rfl,hle2,e2⟩
  ·cases hn'
  ·rcases bound_there hlo h3 with ⟨rfl,rfl,rfl⟩ | ⟨k3,rfl,hle3,e3⟩
   ·simp [Instr.sliceBounds,run_sliceBound (Nat.le_trans hle1 hc),run_sliceBound hle2,e1]
   ·simp [Instr.sliceBounds,run_sliceBound (Nat.le_trans hle1 hc),run_sliceBound hle2,run_sliceBound hle3,e1]
theorem sliceStr_ok (hM:MR P φ A w) {t:TypeId} (ht:P.underlying t=some .string) (s:ByteArray) {lo hi mx lo' hi' mx':Option Value} (hlo:OVR φ lo lo') (hhi:OVR φ hi hi') (hmx:OVR φ mx mx') :
  OpOk P φ A w (bif mx.isNone then sliceStr A (bytesOf s) (lenL (bytesOf s) 0) lo hi else .fail) ((do pure (.value (← Instr.slice t (.string s) lo' hi' mx'):Next):Sem Next).run P w):=by
 cases mx with
 | some v=>exact trivial
 | none =>
  cases mx' with
  | some v=>cases hmx
  | none =>
   simp only [Option.isNone_none,cond_true,sliceStr,lenL0]
   cases h2:boundA hi (bytesOf s).length (bytesOf s).length with
   | none=>exact trivial
   | some h =>
    simp only
    cases h3:boundA lo h 0 with
    | none=>exact trivial
    | some l =>
     have hb:=run_sliceBounds (P:=P) (w:=w) (b:=false) (len:=(bytesOf s).length) (cap:=(bytesOf s).length) (mx:=none) (mx':=none) hlo hhi trivial (Nat.le_refl _) rfl h2 h3 (fun _=>rfl)
     refine OpOk.same hM (.string _) (run_v ?_)
     have hsz:s.size=(bytesOf s).length:=rfl
     have hx:s.extract l h=⟨⟨dropL l (takeL h (bytesOf s))⟩⟩:=by
      rw [dropL_eq,takeL_eq]
      apply ByteArray.ext
      apply Array.ext'
      simp [bytesOf,List.drop_take]
     simp only [Instr.slice,Sem.run_bind,run_underlying' ht,Result.andThen_ok,Option.isSome_none,Bool.false_eq_true,if_false,hsz,hb,hx,Sem.run_pure]
theorem AddrR.blk {a a':Addr} (h:AddrR φ a a'):BlkR φ a.block a'.block:=by
 rcases h with h | ⟨c,n,s,d,h,h1,_⟩
 ·exact .inl h
 ·exact .inr ⟨n,s,d,h1 ▸ h⟩
theorem add_block (a:Addr) (j:Nat):(a.add j).block=a.block:=by unfold Addr.add; split <;> rfl
theorem add_off (a:Addr) (j:Nat):(a.add j).off=a.off + j:=by unfold Addr.add; split <;> simp_all
theorem cut_ok {a a' b:Addr} {c' m m' h l size:Nat} (ha:AddrR φ a a') (hb:b.block=a.block) (ho:b.off=a.off + l * size) (hr:b.spot=none→∀ c1 n s d,φ a.block=some (.at_ c1 n s d)→s=size∧a'.off + c' * s≤n) (hxx:b.spot=some 2→m'=m)
  (hlh:l≤h) (hm:h≤m) (hmm:m≤m') (hm':m'≤c') :
  VR φ (.slice (some b) (h - l) (m - l)) (.slice (some (if m'=l then a' else a'.add (l * size))) (h - l) (m' - l)):=by
 by_cases e:m'=l
 ·have e1:h=l:=by omega
  have e2:m=l:=by omega
  subst e1 e2 e
  rw [if_pos rfl]
  simp only [Nat.sub_self]
  exact .sl0 (by rw [hb]; exact ha.blk)
 ·rw [if_neg e]
  have hadd:=ha.add (l * size)
  refine .sl ?_ (by omega) (by omega) (fun hs c1 n s d h1=>?_) fun hs=>by rw [hxx hs]
  ·rcases hadd with h1 | ⟨c,n,s,d,h1,h2,h3,h4⟩
   ·exact .inl (by rw [hb]; rw [add_block] at h1; exact h1)
   ·exact .inr ⟨c,n,s,d,by rw [hb]; rw [add_block] at h1; exact h1,h2,by rw [ho,h3,add_off],h4⟩
  ·rw [hb] at h1
   obtain ⟨rfl,h2⟩:=hr hs c1 n s d h1
   rw [add_off]
   have:l * s + (m' - l) * s≤c' * s:=by rw [← Nat.add_mul]; exact Nat.mul_le_mul_right _ (by omega)
   omega
theorem boundA_le {x:Option Value} {y d n:Nat} (h:boundA x y d=some n) (hd:d≤y):n≤y:=by
 rcases bound_some h with ⟨_,rfl⟩ | ⟨_,_,h⟩
 ·exact hd
 ·exact h
theorem rowElem_some {b:Nat} {e:TypeId} (h:rowElem A b=some e):∃ c ro,A.heap.get b=some (.cells c e ro):=by
 unfold rowElem at h
 cases hg:A.heap.get b with
 | none=>rw [hg] at h; cases h
 | some o =>
  rw [hg] at h
  cases o with
  | cells c e' ro=>cases h; exact ⟨c,ro,rfl⟩
  | _=>cases h
theorem slice_ok (hM:MR P φ A w) (t:TypeId) {x x':Value} (hx:VR φ x x') {lo hi mx lo' hi' mx':Option Value} (hlo:OVR φ lo lo') (hhi:OVR φ hi hi') (hmx:OVR φ mx mx') :
  OpOk P φ A w (sliceA P A t x lo hi mx) ((do pure (.value (← Instr.sliceAt t x' lo' hi' mx'):Next):Sem Next).run P w):=by
 unfold sliceA
 cases hb1:sliceB1 hi mx with
 | false=>exact trivial
 | true =>
  have hn:hi.isNone=true→mx.isNone=true:=by
   intro h
   unfold sliceB1 at hb1
   rw [h] at hb1
   cases hh:mx.isNone with
   | true=>rfl
   | false=>rw [hh] at hb1; cases hb1
  simp only [cond_true]
  cases hx with
  | string s =>
   simp only
   split
   ·rename_i hu
    have:=sliceStr_ok hM hu s hlo hhi hmx
    simp only [Instr.sliceAt,Sem.run_bind,run_underlying' hu,Result.andThen_ok]
    simpa using this
   ·exact trivial
  | slNil =>
   simp only
   cases he:elemA P t with
   | none=>exact trivial
   | some e =>
    have hu:=elemA_some he
    simp only
    cases hs:szOf P e with
    | none=>exact trivial
    | some size =>
     simp only [sliceRow]
     cases h1:boundA mx 0 0 with
     | none=>exact trivial
     | some m =>
      simp only
      cases h2:boundA hi m 0 with
      | none=>exact trivial
      | some h =>
       simp only
       cases h3:boundA lo h 0 with
       | none=>exact trivial
       | some l =>
        have e1:=boundA_le h1 (Nat.le_refl _)
        have e2:=boundA_le h2 (Nat.zero_le _)
        have e3:=boundA_le h3 (Nat.zero_le _)
        have em:m=0:=by omega
        have eh:h=0:=by omega
        have el:l=0:=by omega
        have hb:=run_sliceBounds (P:=P) (w:=w) (b:=true) (len:=0) (cap:=0) (cap':=0) hlo hhi hmx (Nat.le_refl _) h1 h2 h3 hn
        subst em eh el
        refine OpOk.same hM .slNil (run_v ?_)
        simp [Instr.sliceAt,run_underlying' hu,Instr.slice,hb,run_sizeOf hs]
  | sl ha hl hc hr hx =>
   rename_i a a' n c c'
   simp only
   cases he:elemA P t with
   | none=>exact trivial
   | some e =>
    have hu:=elemA_some he
    simp only
    cases hs:szOf P e with
    | none=>exact trivial
    | some size =>
     simp only [sliceRow]
     cases h1:boundA mx c c with
     | none=>exact trivial
     | some m =>
      simp only
      cases h2:boundA hi m n with
      | none=>exact trivial
      | some h =>
       simp only
       cases h3:boundA lo h 0 with
       | none=>exact trivial
       | some l =>
        simp only [cutAddr]
        have e1:=boundA_le h1 (Nat.le_refl _)
        have e3:=boundA_le h3 (Nat.zero_le _)
        have e2:h≤m:=by
         rcases bound_some h2 with ⟨h4,rfl⟩ | ⟨_,_,h5⟩
         ·have h6:=hn (by rw [h4]; rfl)
          rcases bound_some h1 with ⟨_,rfl⟩ | ⟨_,h7,_⟩
          ·exact hl
          ·rw [h7] at h6; cases h6
         ·exact h5
        have hb:=run_sliceBounds (P:=P) (w:=w) (b:=true) hlo hhi hmx hc h1 h2 h3 hn
        have hm2:m≤(if mx.isNone then c' else m)∧(if mx.isNone then c' else m)≤c':=by
         cases mx.isNone <;> simp <;> omega
        cases hre:rowElem A a.block with
        | none =>
         cases hms:mx.isSome with
         | true=>exact trivial
         | false =>
          simp only [cond_false,cutR]
          refine OpOk.same hM (cut_ok (a:=a) (a':=a') (b:=⟨a.block,a.off + l * size,some 1⟩) (size:=size) (c':=c') (m':=if mx.isNone then c' else m) ha rfl rfl (fun hsp=>by cases hsp) (fun hsp=>by cases hsp) e3 e2 hm2.1 hm2.2) (run_v ?_)
          simp only [Instr.sliceAt,Sem.run_bind,run_underlying' hu,Result.andThen_ok,Instr.slice,hb,run_sizeOf hs,Sem.run_pure,Option.map_some]
          generalize (if mx.isNone=true then c' else m)=mm
          by_cases hh:mm=l
          ·rw [if_pos hh,if_pos hh]
          ·rw [if_neg hh,if_neg hh]
        | some e' =>
         simp only [cutR]
         have e1:=boundA_le h1 (Nat.le_refl _)
         have e3:=boundA_le h3 (Nat.zero_le _)
         have e2:h≤m:=by
          rcases bound_some h2 with ⟨h4,rfl⟩ | ⟨_,_,h5⟩
          ·have h6:=hn (by rw [h4]; rfl)
           rcases bound_some h1 with ⟨_,rfl⟩ | ⟨_,h7,_⟩
           ·exact hl
           ·rw [h7] at h6; cases h6
          ·exact h5
         have hb:=run_sliceBounds (P:=P) (w:=w) (b:=true) hlo hhi hmx hc h1 h2 h3 hn
         obtain ⟨c0,ro,hg⟩:=rowElem_some hre
         have hm2:m≤(if mx.isNone then c' else m)∧(if mx.isNone then c' else m)≤c':=by
          cases mx.isNone <;> simp <;> omega
         refine OpOk.same hM (cut_ok (a:=a) (a':=a') (b:=⟨a.block,a.off + l * size,bif mx.isSome then some 2 else bif Nat.beq e e' && a.spot.isNone then none else some 1⟩) (size:=size) (c':=c') (m':=if mx.isNone then c' else m) ha rfl rfl (fun hsp c1 n1 s1 d1 hφ=>?_) (fun hsp=>?_) e3 e2 hm2.1 hm2.2) (run_v ?_)
         ·obtain ⟨cc,fz,n2,s2,d2,g1,g2,g3,g4,g5⟩:=hM.cells ha hg
          rw [g1] at hφ
          injection hφ with hφ
          injection hφ with q1 q2 q3 q4
          subst q1 q2 q3 q4
          have hms:mx.isSome=false:=by
           cases hh:mx.isSome with
           | false=>rfl
           | true=>rw [hh] at hsp; cases hsp
          rw [hms,cond_false] at hsp
          cases hee:(Nat.beq e e' && a.spot.isNone) with
          | false=>rw [hee] at hsp; cases hsp
          | true =>
           simp only [Bool.and_eq_true] at hee
           have:=Nat.eq_of_beq_eq_true hee.1
           subst this
           have hu2:=g5.unit
           rw [hs] at hu2
           have hsn:a.spot=none:=by simpa using hee.2
           exact ⟨hu2,hr hsn _ _ _ _ g1⟩
         ·cases hmx0:mx with
          | some v=>rfl
          | none =>
           rw [hmx0] at hsp
           exfalso
           simp only [Option.isSome_none,cond_false] at hsp
           cases hee:(Nat.beq e e' && a.spot.isNone) with
           | false=>rw [hee] at hsp; cases hsp
           | true=>rw [hee] at hsp; cases hsp
         ·simp only [Instr.sliceAt,Sem.run_bind,run_underlying' hu,Result.andThen_ok,Instr.slice,hb,run_sizeOf hs,Sem.run_pure,Option.map_some]
          generalize (if mx.isNone=true then c' else m)=mm
          by_cases hh:mm=l
          ·rw [if_pos hh,if_pos hh]
          ·rw [if_neg hh,if_neg hh]
  | sl0 ha =>
   rename_i a a'
   simp only
   cases he:elemA P t with
   | none=>exact trivial
   | some e =>
    have hu:=elemA_some he
    simp only
    cases hs:szOf P e with
    | none=>exact trivial
    | some size =>
     simp only [sliceRow]
     cases h1:boundA mx 0 0 with
     | none=>exact trivial
     | some m =>
      simp only
      cases h2:boundA hi m 0 with
      | none=>exact trivial
      | some h =>
       simp only
       cases h3:boundA lo h 0 with
       | none=>exact trivial
       | some l =>
        simp only [cutAddr]
        cases hre:rowElem A a.block with
        | none =>
         cases hms:mx.isSome with
         | true=>exact trivial
         | false =>
          simp only [cond_false,cutR]
          have e1:=boundA_le h1 (Nat.le_refl _)
          have e2:=boundA_le h2 (Nat.zero_le _)
          have e3:=boundA_le h3 (Nat.zero_le _)
          have em:m=0:=by omega
          have eh:h=0:=by omega
          have el:l=0:=by omega
          have hb:=run_sliceBounds (P:=P) (w:=w) (b:=true) (len:=0) (cap:=0) (cap':=0) hlo hhi hmx (Nat.le_refl _) h1 h2 h3 hn
          subst em eh el
          have e5:(if mx.isNone then 0 else 0)=0:=by split <;> rfl
          rw [e5] at hb
          refine OpOk.same (v:=.slice (some ⟨a.block,a.off + 0 * size,some 1⟩) 0 0) hM (.sl0 (a':=a') ha) (run_v ?_)
          simp [Instr.sliceAt,run_underlying' hu,Instr.slice,hb,run_sizeOf hs]
        | some e' =>
         simp only [cutR]
         have e1:=boundA_le h1 (Nat.le_refl _)
         have e2:=boundA_le h2 (Nat.zero_le _)
         have e3:=boundA_le h3 (Nat.zero_le _)
         have em:m=0:=by omega
         have eh:h=0:=by omega
         have el:l=0:=by omega
         have hb:=run_sliceBounds (P:=P) (w:=w) (b:=true) (len:=0) (cap:=0) (cap':=0) hlo hhi hmx (Nat.le_refl _) h1 h2 h3 hn
         subst em eh el
         have e5:(if mx.isNone then 0 else 0)=0:=by split <;> rfl
         rw [e5] at hb
         refine OpOk.same (v:=.slice (some ⟨a.block,a.off + 0 * size,bif mx.isSome then some 2 else bif Nat.beq e e' && a.spot.isNone then none else some 1⟩) 0 0) hM (.sl0 (a':=a') ha) (run_v ?_)
         simp [Instr.sliceAt,run_underlying' hu,Instr.slice,hb,run_sizeOf hs]
  | ptr ha =>
   rename_i a a'
   simp only
   cases he:arrN P t with
   | none=>exact trivial
   | some p =>
    have hu:=arrN_some he
    simp only
    cases hs:szOf P p.2 with
    | none=>exact trivial
    | some size =>
     simp only [sliceArr]
     cases h1:boundA mx p.1 p.1 with
     | none=>exact trivial
     | some m =>
      simp only
      cases h2:boundA hi m p.1 with
      | none=>exact trivial
      | some h =>
       simp only
       cases h3:boundA lo h 0 with
       | none=>exact trivial
       | some l =>
        have e1:=boundA_le h1 (Nat.le_refl _)
        have e3:=boundA_le h3 (Nat.zero_le _)
        have e2:h≤m:=by
         rcases bound_some h2 with ⟨h4,rfl⟩ | ⟨_,_,h5⟩
         ·have h6:=hn (by rw [h4]; rfl)
          rcases bound_some h1 with ⟨_,rfl⟩ | ⟨_,h7,_⟩
          ·exact Nat.le_refl _
          ·rw [h7] at h6; cases h6
         ·exact h5
        have hb:=run_sliceBounds (P:=P) (w:=w) (b:=false) hlo hhi hmx (Nat.le_refl _) h1 h2 h3 hn
        have hmm:(if mx.isNone then p.1 else m)=m:=by
         cases hh:mx.isNone with
         | false=>rfl
         | true =>
          rcases bound_some h1 with ⟨_,rfl⟩ | ⟨_,h7,_⟩
          ·rfl
          ·rw [h7] at hh; cases hh
        rw [hmm] at hb
        refine OpOk.same hM (cut_ok (a:=a) (a':=a') (c':=m) (m':=m) ha (b:=⟨a.block,a.off + l * size,some 1⟩) rfl rfl (fun hsp=>by cases hsp) (fun hsp=>by cases hsp) e3 e2 (Nat.le_refl _) (Nat.le_refl _)) (run_v ?_)
        simp [Instr.sliceAt,run_underlying' hu,Instr.sureAddr,hb,run_sizeOf hs]
  | _=>exact trivial
end Go.Sh
namespace Go.Sh
open Go
variable {P:Program} {φ:Inj} {A:AW} {w:World}
theorem LR.repl {l l':List Value} (h:LR φ l l'):∀ n,LR φ (repl l n) (repl l' n)
 | 0=>.nil
 | n + 1=>by
  simp only [Sh.repl,appL_eq]
  exact h.append (LR.repl h n)
theorem repl_length {α:Type} (l:List α):∀ n,(repl l n).length=n * l.length
 | 0=>by simp [Sh.repl]
 | n + 1=>by simp only [Sh.repl,appL_eq,List.length_append,repl_length l n,Nat.add_mul]; omega
theorem repl_get {α:Type} (l:List α):∀ n i,i < n * l.length→(repl l n)[i]?=l[i % l.length]?
 | 0,i,h=>by simp at h
 | n + 1,i,h=>by
  simp only [Sh.repl,appL_eq]
  by_cases hi:i < l.length
  ·rw [List.getElem?_append_left hi,Nat.mod_eq_of_lt hi]
  ·rw [List.getElem?_append_right (by omega),repl_get l n _ (by rw [Nat.add_mul] at h; omega)]
   congr 1
   rw [← Nat.mod_eq_sub_mod (by omega)]
theorem range_zero (z:Array Value) (n:Nat):((Array.range (n * z.size)).map (z[· % z.size]!)).toList=repl z.toList n:=by
 apply List.ext_getElem?
 intro i
 by_cases hi:i < n * z.size
 ·rw [repl_get _ _ _ (by simpa using hi)]
  have hz:0 < z.size:=by
   rcases Nat.eq_zero_or_pos z.size with h | h
   ·rw [h] at hi; simp at hi
   ·exact h
  have hm:=Nat.mod_lt i hz
  simp [hi,hm]
 ·rw [List.getElem?_eq_none (by simp; omega),List.getElem?_eq_none (by rw [repl_length]; simp; omega)]
theorem elem_LR {z:Value} (h:∀ φ,VR φ z z):LR φ (cellsOf z) z.cells.toList:=cells_LR (h φ)
theorem cellsOf_eq (v:Value):cellsOf v=v.cells.toList:=by cases v <;> rfl
theorem smallT_some {t:TypeId} (h:smallT P t=true):∃ i z,P.info? t=some i∧i.bytes≤1000000∧i.zero=some z∧z.cells.size=i.size:=by
 unfold smallT at h
 cases hi:P.info? t with
 | none=>rw [hi] at h; cases h
 | some i =>
  rw [hi] at h
  simp only [Bool.and_eq_true] at h
  cases hz:i.zero with
  | none=>rw [hz] at h; simp at h
  | some z =>
   rw [hz] at h
   simp only [lenL0,cellsOf_eq] at h
   exact ⟨i,z,rfl,Nat.le_of_ble_eq_true h.1,hz,by simpa using Nat.eq_of_beq_eq_true h.2⟩
theorem szOf_info {t:TypeId} {i:TypeInfo} (h:P.info? t=some i):szOf P t=some i.size:=by simp [szOf,h]
theorem natA_some {v:Value} {n:Nat} (h:natA v=some n):∃ k,v=.int k (n:Int):=by
 cases v <;> simp only [natA] at h <;> try (cases h; done)
 rename_i k i
 cases i with
 | ofNat m=>cases h; exact ⟨k,rfl⟩
 | negSucc m=>cases h
theorem makeSlice_ok (hM:MR P φ A w) (t:TypeId) {l l' c c':Value} (hl:VR φ l l') (hc:VR φ c c') :
  OpOk P φ A w (makeSliceA P A t l c) ((do pure (.value (← Instr.makeSlice t l' c'):Next):Sem Next).run P w):=by
 unfold makeSliceA
 cases he:elemA P t with
 | none=>exact trivial
 | some e =>
  have hu:=elemA_some he
  simp only
  cases hn:natA l with
  | none=>exact trivial
  | some n =>
   simp only
   cases hm:natA c with
   | none=>exact trivial
   | some m =>
    obtain ⟨k1,rfl⟩:=natA_some hn
    obtain ⟨k2,rfl⟩:=natA_some hm
    have e1:=VR_int hl
    have e2:=VR_int hc
    subst e1 e2
    simp only [makeSliceB]
    cases hz:zeroA P e with
    | none=>exact trivial
    | some z =>
     obtain ⟨i,h1,h2,h3,h4,_⟩:=zeroA_some hz
     simp only
     cases hb:(Nat.ble n m && (Nat.ble m 1000000 && smallT P e)) with
     | false=>exact trivial
     | true =>
      simp only [Bool.and_eq_true] at hb
      obtain ⟨hb1,hb2,hb3⟩:=hb
      have hb1:=Nat.le_of_ble_eq_true hb1
      have hb2:=Nat.le_of_ble_eq_true hb2
      obtain ⟨i',z',g1,g2,_⟩:=smallT_some hb3
      rw [h1] at g1
      injection g1 with g1
      subst g1
      simp only [cond_true]
      have hzl:z.cells.size=i.size:=by
       have:=(elem_LR (φ:=φ) h3).length
       rw [h4] at this
       simpa using this.symm
      have hcells:madeCells z.cells (m * i.size)=⟨repl z.cells.toList m⟩:=by
       apply Array.ext'
       rw [← hzl]
       exact range_zero z.cells m
      obtain ⟨φ',g3,g4,_,g5⟩:=newCells hM (e:=e) (c:=repl (cellsOf z) m) (cc:=repl z.cells.toList m) (by simpa using (elem_LR h3).repl m) [] (fz:=(0,0)) (fun off _=>by simp)
      simp only [List.append_nil] at g3 g4 g5
      refine ⟨φ',_,g3,g4,.inl ⟨.slice (some ⟨w.heap.size,0,none⟩) n m,run_v ?_,?_⟩⟩
      ·have hbm:(i.bytes:Int) * (m:Int)≤281474976710656:=by
        have h5:i.bytes * m≤1000000 * 1000000:=Nat.mul_le_mul g2 hb2
        have h6:((i.bytes * m:Nat):Int)≤281474976710656:=by omega
        rwa [Int.natCast_mul] at h6
       have:=run_make (P:=P) w t e i z hu h1 h2 k1 k2 n m (by omega) (by omega) hbm (by omega)
       simp only [Int.toNat_natCast,hcells] at this
       exact this
      ·refine new_row g5 hb1 (Nat.le_refl _) ?_
       rw [repl_length,szOf_info h1]
       simp [hzl]
theorem isList_some {u:TypeId} (h:isList P u=true):∃ d,P.underlying u=some d∧(∀ k,d ≠ .int k):=by
 unfold isList at h
 cases hu:P.underlying u with
 | none=>rw [hu] at h; cases h
 | some d =>
  rw [hu] at h
  refine ⟨d,rfl,?_⟩
  rintro k rfl
  cases h
theorem run_append_at {ts:Array TypeId} {ty t u e:TypeId} {d:TypeDesc} {i:TypeInfo} {args:Array Value} {base:Option Addr} {n cap m:Nat} {x:Value} {news:Array Value}
  (h0:ts[0]?=some t) (h1:ts[1]?=some u) (hu:P.underlying u=some d) (_hd:∀ k,d ≠ .int k) (ht:P.underlying t=some (.slice e)) (hi:P.info? e=some i)
  (ha0:args[0]?=some (.slice base n cap)) (ha1:args[1]?=some x) (hl:(Builtin.lenOf x).run P w=.ok m w) (hf:(Builtin.firstCells i.size m x).run P w=.ok news w) (hle:n + m≤cap) :
  (Builtin.append_ ts ty args).run P w=((match base with | some a=>storeCells (a.add (n * i.size)) news.toList | none=>pure ():Sem Unit).run P w).andThen fun _ w'=>.ok (.slice base (n + m) cap) w':=by
 have hs:(sizeOf e).run P w=.ok i.size w:=by simp [sizeOf,typeInfo,hi]
 simp only [Builtin.append_,h0,h1,ha0,ha1,Sem.run_bind,run_underlying' ht,run_underlying' hu,hs,Result.andThen_ok,Sem.run_pure,Bool.false_eq_true,if_false,hl,if_pos hle,Bool.not_false,if_true,hf]
 cases base with
 | none=>simp
 | some a=>simp
theorem run_append_grown {ts:Array TypeId} {ty t u e:TypeId} {d:TypeDesc} {i:TypeInfo} {z:Value} {args:Array Value} {base:Option Addr} {n cap m:Nat} {x:Value} {old news:Array Value}
  (h0:ts[0]?=some t) (h1:ts[1]?=some u) (hu:P.underlying u=some d) (_hd:∀ k,d ≠ .int k) (ht:P.underlying t=some (.slice e)) (hi:P.info? e=some i) (hiz:i.zero=some z)
  (ha0:args[0]?=some (.slice base n cap)) (ha1:args[1]?=some x) (hl:(Builtin.lenOf x).run P w=.ok m w)
  (hold:∀ k,(Builtin.firstCells i.size n (.slice base n cap)).run P { w with drawn:=k }=.ok old { w with drawn:=k }) (hf:∀ k,(Builtin.firstCells i.size m x).run P { w with drawn:=k }=.ok news { w with drawn:=k })
  (hlt:cap < n + m) (hsm:n + m≤1000000) (hby:i.bytes≤1000000) :
  ∃ nc k,n + m≤nc∧(Builtin.append_ ts ty args).run P w=.ok (.slice (some ⟨w.heap.size,0,none⟩) (n + m) nc) (({ w with drawn:=k }:World).alloc (.cells (old++news++Builtin.zeroCells z.cells (nc - (n + m))) e)):=by
 have hs:∀ w:World,(sizeOf e).run P w=.ok i.size w:=by intro w; simp [sizeOf,typeInfo,hi]
 have hti:∀ w:World,(typeInfo e).run P w=.ok i w:=by intro w; simp [typeInfo,hi]
 have hzv:∀ w:World,(zeroValue e).run P w=.ok z w:=by intro w; simp [zeroValue,typeInfo,hi,hiz]
 have n1:¬ ((n + m:Nat):Int) > IntKind.i64.max:=by rw [IntKind.max_i64]; omega
 have n2:¬ (Builtin.nextslicecap (n + m) cap * i.bytes > 2 ^ 48):=by
  have h2:=nextslicecap_le hlt
  have h3:Builtin.nextslicecap (n + m) cap * i.bytes≤(2 * (n + m)) * i.bytes:=Nat.mul_le_mul_right _ h2
  have h4:(2 * (n + m)) * i.bytes≤(2 * 1000000) * 1000000:=Nat.mul_le_mul (by omega) hby
  have h5:(2:Nat) ^ 48=281474976710656:=by decide
  omega
 refine ⟨Question.cut (.appendCap (n + m) cap e) (w.tape w.drawn (.appendCap (n + m) cap e)),w.drawn + 1,Nat.le_add_right _ _,?_⟩
 have n3:¬ (((n + m:Nat):Int) > IntKind.i64.max∧(False∨i.bytes=0)):=fun h=>n1 h.1
 simp only [Builtin.append_,h0,h1,ha0,ha1,Sem.run_bind,run_underlying' ht,run_underlying' hu,hs,Result.andThen_ok,Sem.run_pure,Bool.false_eq_true,if_false,hl,if_neg (Nat.not_le.2 hlt),hti,if_neg n3,if_neg n2,run_choose,Question.forced,run_askRoom,hold,hf,Bool.not_false,if_true,hzv,run_newRow]
def Inj.kill (φ:Inj) (b:Nat):Inj:=fun x=>if x=b then some .dead else φ x
theorem Inj.le_kill {φ:Inj} {b:Nat}:φ.le (φ.kill b):=fun x e hx=>by
 unfold Inj.kill
 by_cases h:x=b
 ·rw [if_pos h]; exact .inr rfl
 ·rw [if_neg h]; exact .inl hx
theorem MR.kill (hM:MR P φ A w) {b:Nat} (hlim:A.lim≤b) (hb:φ b ≠ none):MR P (φ.kill b) (A.set b none) w∧Ext φ A w (φ.kill b) (A.set b none) w:=by
 have hget:∀ x,(A.set b none).heap.get x=if x=b then none else A.heap.get x:=fun x=>get_put _ _ _ _
 have hφ:∀ x,φ.kill b x=if x=b then some .dead else φ x:=fun _=>rfl
 refine ⟨⟨fun x c n s d hx=>?_,fun x hx=>?_,fun x y c n s d n' s' d' hx hy=>?_,fun x hx=>?_,fun g hg=>?_,hM.lim⟩,⟨Inj.le_kill,rfl,Nat.le_refl _,fun x hx=>?_,Nat.le_refl _,fun _ _ _=>rfl,fun x c n s d hx=>?_,fun x _ hn=>?_,rfl,rfl,rfl⟩⟩
 ·rw [hφ] at hx
  rw [hget]
  by_cases e:x=b
  ·rw [if_pos e] at hx; cases hx
  ·rw [if_neg e] at hx ⊢
   obtain ⟨o,oc,h1,h2,h3⟩:=hM.obj _ _ _ _ _ hx
   exact ⟨o,oc,h1,h2,h3.mono Inj.le_kill⟩
 ·rw [hget]
  by_cases e:x=b
  ·rw [if_pos e]
  ·rw [if_neg e]; rw [hφ,if_neg e] at hx; exact hM.dead x hx
 ·intro hlx
  rw [hφ] at hx hy
  by_cases e:x=b
  ·rw [if_pos e] at hx; cases hx
  ·by_cases e':y=b
   ·rw [if_pos e'] at hy; cases hy
   ·rw [if_neg e] at hx; rw [if_neg e'] at hy
    exact hM.one _ _ _ _ _ _ _ _ _ hx hy hlx
 ·rw [hφ]
  have:=hM.fresh x hx
  by_cases e:x=b
  ·subst e; exact absurd this hb
  ·rw [if_neg e]; exact this
 ·rw [hφ]
  by_cases e:g=b
  ·rw [if_pos e]; exact .inl rfl
  ·rw [if_neg e]; exact hM.globals g hg
 ·rw [hget,hφ,if_neg (by omega),if_neg (by omega)]
  exact ⟨rfl,rfl⟩
 ·rw [hφ] at hx
  by_cases e:x=b
  ·rw [if_pos e] at hx; cases hx
  ·rw [if_neg e] at hx; exact .inl hx
 ·have e:x ≠ b:=fun e=>hb (e ▸ hn)
  rw [hget,hφ,if_neg e,if_neg e]
  exact ⟨rfl,hn⟩
theorem MR.move (hM:MR P φ A w) {b c n s d:Nat} (hlim:A.lim≤b) (hb:φ b=some (.at_ c n s d)) {o:AObj} {oc:Obj} {n' s' d':Nat} (ho:OR P φ o oc n' s' d') :
  ∃ φ',MR P φ' ((A.set b none).add o) (setBlk w c oc)∧Ext φ A w φ' ((A.set b none).add o) (setBlk w c oc)∧φ.le φ'∧φ' A.next=some (.at_ c n' s' d'):=by
 obtain ⟨hK,hE⟩:=hM.kill hlim (by rw [hb]; simp)
 obtain ⟨o0,oc0,_,h2,_⟩:=hM.obj _ _ _ _ _ hb
 have hlt:=lt_of_heap h2
 have hnext:∀ x c n s d,φ x=some (.at_ c n s d)→x ≠ A.next:=fun x c n s d hx e=>by
  have:=hM.fresh x (by omega); rw [this] at hx; cases hx
 have hkn:φ.kill b A.next=none:=hK.fresh A.next (Nat.le_refl _)
 have hle:φ.le ((φ.kill b).add A.next (.at_ c n' s' d')):=Inj.le_trans Inj.le_kill (Inj.le_add hkn)
 have hφ:∀ x,((φ.kill b).add A.next (.at_ c n' s' d')) x=if x=A.next then some (.at_ c n' s' d') else if x=b then some .dead else φ x:=fun _=>rfl
 have hget:∀ x,((A.set b none).add o).heap.get x=if x=A.next then some o else if x=b then none else A.heap.get x:=fun x=>by
  rw [show ((A.set b none).add o).heap=(A.heap.put b none).put A.next (some o) from rfl,get_put,get_put]
 refine ⟨(φ.kill b).add A.next (.at_ c n' s' d'),⟨fun x cx nx sx dx hx=>?_,fun x hx=>?_,fun x y cx n1 s1 d1 n2 s2 d2 hx hy=>?_,fun x hx=>?_,fun g hg=>?_,Nat.le_trans hM.lim (Nat.le_succ _)⟩,⟨hle,rfl,Nat.le_succ _,fun x hx=>?_,by simp [setBlk],fun x hx hu=>?_,fun x cx n1 s1 d1 hx=>?_,fun x hx hn=>?_,rfl,rfl,rfl⟩,hle,by rw [hφ,if_pos rfl]⟩
 ·rw [hφ] at hx
  rw [hget]
  by_cases e:x=A.next
  ·rw [if_pos e] at hx ⊢
   injection hx with hx
   injection hx with e1 e2 e3 e4
   subst e1 e2 e3 e4
   exact ⟨o,oc,rfl,setBlk_same hlt,ho.mono hle⟩
  ·rw [if_neg e] at hx ⊢
   by_cases e':x=b
   ·rw [if_pos e'] at hx; cases hx
   ·rw [if_neg e'] at hx ⊢
    obtain ⟨o1,oc1,h3,h4,h5⟩:=hM.obj _ _ _ _ _ hx
    have hne:cx ≠ c:=fun e1=>e' (hM.one b x cx _ _ _ _ _ _ (e1 ▸ hb) hx hlim).symm
    exact ⟨o1,oc1,h3,by rw [setBlk_other hne]; exact h4,h5.mono hle⟩
 ·rw [hφ] at hx
  rw [hget]
  by_cases e:x=A.next
  ·rw [if_pos e] at hx; cases hx
  ·rw [if_neg e] at hx ⊢
   by_cases e':x=b
   ·rw [if_pos e']
   ·rw [if_neg e'] at hx ⊢; exact hM.dead x hx
 ·intro hlx
  rw [hφ] at hx hy
  by_cases e:x=A.next
  ·rw [if_pos e] at hx
   by_cases e':y=A.next
   ·rw [e,e']
   ·rw [if_neg e'] at hy
    by_cases e2:y=b
    ·rw [if_pos e2] at hy; cases hy
    ·rw [if_neg e2] at hy
     injection hx with hx
     injection hx with e1
     exact absurd (hM.one _ _ _ _ _ _ _ _ _ (e1 ▸ hb) hy hlim).symm e2
  ·rw [if_neg e] at hx
   by_cases e2:x=b
   ·rw [if_pos e2] at hx; cases hx
   ·rw [if_neg e2] at hx
    by_cases e':y=A.next
    ·rw [if_pos e'] at hy
     injection hy with hy
     injection hy with e1
     exact absurd (hM.one _ _ _ _ _ _ _ _ _ (e1 ▸ hb) hx hlim).symm e2
    ·rw [if_neg e'] at hy
     by_cases e3:y=b
     ·rw [if_pos e3] at hy; cases hy
     ·rw [if_neg e3] at hy
      exact hM.one _ _ _ _ _ _ _ _ _ hx hy hlx
 ·have hx':A.next + 1≤x:=hx
  rw [hφ,if_neg (by omega)]
  have:=hM.fresh x (by omega)
  by_cases e':x=b
  ·subst e'; rw [this] at hb; cases hb
  ·rw [if_neg e']; exact this
 ·rw [hφ]
  by_cases e:g=A.next
  ·have:=hM.fresh g (by omega)
   rcases hM.globals g hg with h | ⟨n,s,h⟩ <;> rw [this] at h <;> cases h
  ·rw [if_neg e]
   by_cases e':g=b
   ·rw [if_pos e']; exact .inl rfl
   ·rw [if_neg e']; exact hM.globals g hg
 ·have:=hM.lim
  rw [hget,hφ,if_neg (by omega),if_neg (by omega),if_neg (by omega),if_neg (by omega)]
  exact ⟨rfl,rfl⟩
 ·rw [setBlk_other]
  rintro rfl
  have:=hu b _ _ _ hb
  omega
 ·rw [hφ] at hx
  by_cases e:x=A.next
  ·rw [if_pos e] at hx
   injection hx with hx
   injection hx with e1
   subst e1
   exact .inr ⟨by omega,.inr ⟨b,n,s,d,hb,hlim⟩⟩
  ·rw [if_neg e] at hx
   by_cases e':x=b
   ·rw [if_pos e'] at hx; cases hx
   ·rw [if_neg e'] at hx; exact .inl hx
 ·have e:x ≠ b:=fun e=>by rw [e,hb] at hn; cases hn
  have e':x ≠ A.next:=by omega
  rw [hget,hφ]
  simp only [if_neg e,if_neg e']
  exact ⟨trivial,hn⟩
end Go.Sh
