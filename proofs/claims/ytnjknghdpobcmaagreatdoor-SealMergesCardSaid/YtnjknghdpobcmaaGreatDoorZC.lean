/- Part of a proof: see the text with the theorem. -/
import Derived.Test.YtnjknghdpobcmaaGreatDoorPQ
import Derived.Test.YtnjknghdpobcmaaGreatDoorZAb
set_option linter.all false
namespace Go.Sh
open Go
structure Cmp {α:Type} (c:α→α→Int):Prop where
 tri:∀ x y,c x y = -1∨c x y=0∨c x y=1
 neg:∀ x y,c y x = - c x y
 trans:∀ x y z,c x y≤0→c y z≤0→c x z≤0∧(c x z=0→c x y=0∧c y z=0)
theorem Cmp.wk {α:Type} {c:α→α→Int} (h:Cmp c):Wk (fun x y=>c x y < 0) where
 asym {x y} h1 h2:=by have:=h.neg x y; omega
 trans {x y z} h1 h2 h3:=by
  have a:=h.neg x y
  have b:=h.neg y z
  have d:=h.neg x z
  have:=(h.trans x y z (by omega) (by omega)).1
  omega
theorem Cmp.comap {α β:Type} {c:β→β→Int} (h:Cmp c) (f:α→β):Cmp (fun x y=>c (f x) (f y)) :=
 ⟨fun x y=>h.tri _ _,fun x y=>h.neg _ _,fun x y z=>h.trans _ _ _⟩
def lexC {α:Type} (c d:α→α→Int) (x y:α):Int:=if c x y ≠ 0 then c x y else d x y
theorem Cmp.lex {α:Type} {c d:α→α→Int} (h:Cmp c) (k:Cmp d):Cmp (lexC c d) where
 tri x y:=by
  unfold lexC
  split
  ·exact h.tri x y
  ·exact k.tri x y
 neg x y:=by
  unfold lexC
  have:=h.neg x y
  have:=k.neg x y
  split <;> split <;> omega
 trans x y z:=by
  unfold lexC
  have a:=h.trans x y z
  have b:=k.trans x y z
  intro h1 h2
  by_cases e1:c x y=0 <;> by_cases e2:c y z=0 <;> simp only [e1,e2,ne_eq,not_true_eq_false,not_false_eq_true,if_true,if_false] at h1 h2 ⊢
  ·have h3:=h.trans z y x (by have:=h.neg y z; omega) (by have:=h.neg x y; omega)
   have h4:=h.neg x z
   have e3:c x z=0:=by have:=(a (by omega) (by omega)).1; have:=h3.1; omega
   simp only [e3,not_true_eq_false,if_false]
   exact b h1 h2
  ·have h3:=a (by omega) h2
   have e3:c x z ≠ 0:=fun e=>e2 (h3.2 e).2
   simp only [e3,not_false_eq_true,if_true]
   exact ⟨h3.1,fun e=>False.elim (by first | exact e | exact e3 e)⟩
  ·have h3:=a h1 (by omega)
   have e3:c x z ≠ 0:=fun e=>e1 (h3.2 e).1
   simp only [e3,not_false_eq_true,if_true]
   exact ⟨h3.1,fun e=>False.elim (by first | exact e | exact e3 e)⟩
  ·have h3:=a h1 h2
   have e3:c x z ≠ 0:=fun e=>e1 (h3.2 e).1
   simp only [e3,not_false_eq_true,if_true]
   exact ⟨h3.1,fun e=>False.elim (by first | exact e | exact e3 e)⟩
def cmpI (a b:Int):Int:=if a < b then -1 else if b < a then 1 else 0
theorem cmpI_eq {a b:Int}:cmpI a b=0 ↔ a=b:=by unfold cmpI; split <;> (try split) <;> omega
theorem cmpI_cmp:Cmp cmpI where
 tri x y:=by unfold cmpI; split <;> (try split) <;> omega
 neg x y:=by unfold cmpI; split <;> split <;> omega
 trans x y z:=by unfold cmpI; intro h1 h2; refine ⟨?_,?_⟩ <;> (split at h1 <;> split at h2 <;> omega)
theorem cmpB_cons (a b:UInt8) (l m:List UInt8):cmpB (a::l) (b::m)=if cmpI a.toNat b.toNat ≠ 0 then cmpI a.toNat b.toNat else cmpB l m:=by
 unfold cmpI
 show (bif Nat.beq a.toNat b.toNat then cmpB l m else bif Nat.blt a.toNat b.toNat then -1 else 1)=_
 by_cases h:a.toNat=b.toNat
 ·have e:Nat.beq a.toNat b.toNat=true:=by rw [h]; exact Nat.beq_refl _
  rw [e,h]; simp
 ·have e:Nat.beq a.toNat b.toNat=false:=by
   cases hb:Nat.beq a.toNat b.toNat with
   | false=>rfl
   | true=>exact absurd (Nat.eq_of_beq_eq_true hb) h
  rw [e]
  by_cases hl:a.toNat < b.toNat
  ·have e2:Nat.blt a.toNat b.toNat=true:=by rw [Nat.blt_eq]; exact hl
   have:((a.toNat:Nat):Int) < (b.toNat:Nat):=by omega
   simp [e2,this]
  ·have e2:Nat.blt a.toNat b.toNat=false:=by
    cases hb:Nat.blt a.toNat b.toNat with
    | false=>rfl
    | true=>exact absurd (by rw [Nat.blt_eq] at hb; exact hb) hl
   have h1:¬ ((a.toNat:Nat):Int) < (b.toNat:Nat):=by omega
   have h2:((b.toNat:Nat):Int) < (a.toNat:Nat):=by omega
   simp [e2,h1,h2]
theorem cmpB_eq0:∀ {a b:List UInt8},cmpB a b=0 ↔ a=b
 | [],[]=>by simp [cmpB]
 | [],b::m=>by simp [cmpB]
 | a::l,[]=>by simp [cmpB]
 | a::l,b::m=>by
  rw [cmpB_cons]
  have ih:=@cmpB_eq0 l m
  by_cases h:cmpI a.toNat b.toNat=0
  ·simp only [h,ne_eq,not_true_eq_false,if_false]
   have e:=cmpI_eq.1 h
   have:a=b:=UInt8.toNat_inj.1 (by omega)
   subst this
   rw [ih]; simp
  ·simp only [ne_eq,h,not_false_eq_true,if_true,false_iff]
   intro e
   cases e
   exact h (cmpI_eq.2 rfl)
theorem cmpB_cmp:Cmp cmpB where
 tri:=tri
 neg:=neg
 trans:=tr
where
 tri:∀ a b,cmpB a b = -1∨cmpB a b=0∨cmpB a b=1
  | [],[]=>by simp [cmpB]
  | [],b::m=>by simp [cmpB]
  | a::l,[]=>by simp [cmpB]
  | a::l,b::m=>by
   rw [cmpB_cons]
   have:=tri l m
   have:=cmpI_cmp.tri a.toNat b.toNat
   split <;> omega
 neg:∀ a b,cmpB b a = - cmpB a b
  | [],[]=>by simp [cmpB]
  | [],b::m=>by simp [cmpB]
  | a::l,[]=>by simp [cmpB]
  | a::l,b::m=>by
   rw [cmpB_cons,cmpB_cons]
   have:=neg l m
   have:=cmpI_cmp.neg a.toNat b.toNat
   split <;> split <;> omega
 tr:∀ a b d,cmpB a b≤0→cmpB b d≤0→cmpB a d≤0∧(cmpB a d=0→cmpB a b=0∧cmpB b d=0)
  | [],[],[]=>by simp [cmpB]
  | [],[],_::_=>by simp [cmpB]
  | [],_::_,[]=>by simp [cmpB]
  | [],_::_,_::_=>by simp [cmpB]
  | _::_,[],_=>by simp [cmpB]
  | _::_,_::_,[]=>by simp [cmpB]
  | a::l,b::m,d::n=>by
   have ih:=tr l m n
   rw [cmpB_cons,cmpB_cons,cmpB_cons]
   have t1:=cmpI_cmp.trans a.toNat b.toNat d.toNat
   have t2:=cmpI_cmp.trans d.toNat b.toNat a.toNat
   have n1:=cmpI_cmp.neg a.toNat b.toNat
   have n2:=cmpI_cmp.neg b.toNat d.toNat
   have n3:=cmpI_cmp.neg a.toNat d.toNat
   intro h1 h2
   by_cases e1:cmpI a.toNat b.toNat=0 <;> by_cases e2:cmpI b.toNat d.toNat=0 <;> simp only [e1,e2,ne_eq,not_true_eq_false,not_false_eq_true,if_true,if_false] at h1 h2 ⊢
   ·have e3:cmpI a.toNat d.toNat=0:=by have:=(t1 (by omega) (by omega)).1; have:=(t2 (by omega) (by omega)).1; omega
    simp only [e3,not_true_eq_false,if_false]
    exact ih h1 h2
   ·have h3:=t1 (by omega) h2
    have e3:cmpI a.toNat d.toNat ≠ 0:=fun e=>e2 (h3.2 e).2
    simp only [e3,not_false_eq_true,if_true]
    exact ⟨h3.1,fun e=>False.elim (by first | exact e | exact e3 e)⟩
   ·have h3:=t1 h1 (by omega)
    have e3:cmpI a.toNat d.toNat ≠ 0:=fun e=>e1 (h3.2 e).1
    simp only [e3,not_false_eq_true,if_true]
    exact ⟨h3.1,fun e=>False.elim (by first | exact e | exact e3 e)⟩
   ·have h3:=t1 h1 h2
    have e3:cmpI a.toNat d.toNat ≠ 0:=fun e=>e1 (h3.2 e).1
    simp only [e3,not_false_eq_true,if_true]
    exact ⟨h3.1,fun e=>False.elim (by first | exact e | exact e3 e)⟩
end Go.Sh
namespace Go.Proofs.YtnjknghdpobcmaaGreatDoor.walk
open Go Go.Sh
set_option maxRecDepth 100000
theorem bytesLess_eq:∀ a b:Bs,bytesLess a b=decide (cmpB a b < 0)
 | a,[]=>by cases a <;> simp [bytesLess,cmpB]
 | [],b::m=>by simp [bytesLess,cmpB]
 | a::l,b::m=>by
  rw [cmpB_cons]
  show (bif Nat.beq a.toNat b.toNat then bytesLess l m else Nat.blt a.toNat b.toNat)=_
  rw [bytesLess_eq l m]
  by_cases h:a.toNat=b.toNat
  ·have e:Nat.beq a.toNat b.toNat=true:=by rw [h]; exact Nat.beq_refl _
   have e2:cmpI a.toNat b.toNat=0:=cmpI_eq.2 (by omega)
   rw [e,e2]; simp
  ·have e:Nat.beq a.toNat b.toNat=false:=by
    cases hb:Nat.beq a.toNat b.toNat with
    | false=>rfl
    | true=>exact absurd (Nat.eq_of_beq_eq_true hb) h
   have e2:cmpI a.toNat b.toNat ≠ 0:=fun k=>h (by have:=cmpI_eq.1 k; omega)
   rw [e,if_pos e2]
   unfold cmpI
   by_cases hl:a.toNat < b.toNat
   ·have e3:Nat.blt a.toNat b.toNat=true:=by rw [Nat.blt_eq]; exact hl
    have:((a.toNat:Nat):Int) < (b.toNat:Nat):=by omega
    simp [e3,this]
   ·have e3:Nat.blt a.toNat b.toNat=false:=by
     cases hb:Nat.blt a.toNat b.toNat with
     | false=>rfl
     | true=>exact absurd (by rw [Nat.blt_eq] at hb; exact hb) hl
    have h1:¬ ((a.toNat:Nat):Int) < (b.toNat:Nat):=by omega
    have h2:((b.toNat:Nat):Int) < (a.toNat:Nat):=by omega
    simp [e3,h1,h2]
@[simp] theorem bin_lssS {P:Program} {w:AW} (s:TypeId) (c:Bool) (a b:Bs):(binW P .lss s c).val (.string ⟨⟨a⟩⟩) (.string ⟨⟨b⟩⟩) w=.val (.bool (decide (cmpB a b < 0))) w:=by
 rw [← bytesLess_eq]; rfl
@[simp] theorem bin_gtrS {P:Program} {w:AW} (s:TypeId) (c:Bool) (a b:Bs):(binW P .gtr s c).val (.string ⟨⟨a⟩⟩) (.string ⟨⟨b⟩⟩) w=.val (.bool (decide (cmpB b a < 0))) w:=by
 rw [← bytesLess_eq]; rfl
def S183:PSpec where
 R args _ v:=∃ a:Bs,args=[.string ⟨⟨a⟩⟩]∧v=.bool false
 uniq:=by rintro _ _ _ _ ⟨n,rfl,rfl⟩ ⟨_,h,rfl⟩; rfl
 shut h:=h
def S184:PSpec where
 R args _ v:=∃ a:Int,args=[.int .i64 a]∧v=.bool false
 uniq:=by rintro _ _ _ _ ⟨n,rfl,rfl⟩ ⟨_,h,rfl⟩; rfl
 shut h:=h
def S164:PSpec where
 R args _ v:=∃ a b:Bs,args=[.string ⟨⟨a⟩⟩,.string ⟨⟨b⟩⟩]∧v=.int .i64 (cmpB a b)
 uniq:=by rintro _ _ _ _ ⟨a,b,rfl,rfl⟩ ⟨_,_,h,rfl⟩; cases h; rfl
 shut h:=h
def S165:PSpec where
 R args _ v:=∃ a b:Int,args=[.int .i64 a,.int .i64 b]∧v=.int .i64 (cmpI a b)
 uniq:=by rintro _ _ _ _ ⟨a,b,rfl,rfl⟩ ⟨_,_,h,rfl⟩; cases h; rfl
 shut h:=h
theorem run183 {ov:Ov} (ho:∀ args w,ov 183 args w=none) (a:Bs) (w:AW):∃ v w',(run Tryz.prog ov 2).call 183 [.string ⟨⟨a⟩⟩] w .none=.ok (.ret v) w' .none∧v=.bool false:=by
 refine call_wp text183 (by simp) (ho _ _) ?_
 simp [mc183,tupV,eq_str]
theorem run184 {ov:Ov} (ho:∀ args w,ov 184 args w=none) (a:Int) (w:AW):∃ v w',(run Tryz.prog ov 2).call 184 [.int .i64 a] w .none=.ok (.ret v) w' .none∧v=.bool false:=by
 refine call_wp text184 (by simp) (ho _ _) ?_
 simp [mc184,tupV]
theorem run164 {ov:Ov} (ho:∀ args w,ov 164 args w=none) (h183:HasP ov 183 S183.F) (a b:Bs) (w:AW):∃ v w',(run Tryz.prog ov 2).call 164 [.string ⟨⟨a⟩⟩,.string ⟨⟨b⟩⟩] w .none=.ok (.ret v) w' .none∧v=.int .i64 (cmpB a b):=by
 refine call_wp text164 (by simp) (ho _ _) ?_
 have c1:=fun a=>S183.call1 (P:=Tryz.prog) h183 (args:=[.string ⟨⟨a⟩⟩]) (w:=w) ⟨a,rfl,rfl⟩
 have n:=cmpB_cmp.neg a b
 rcases cmpB_cmp.tri a b with h | h | h
 ·simp [mc164,tupV,c1,h]
 ·have h2:cmpB b a=0:=by omega
  simp [mc164,tupV,c1,h,h2]
 ·have h2:cmpB b a = -1:=by omega
  simp [mc164,tupV,c1,h,h2]
theorem run165 {ov:Ov} (ho:∀ args w,ov 165 args w=none) (h184:HasP ov 184 S184.F) (a b:Int) (w:AW):∃ v w',(run Tryz.prog ov 2).call 165 [.int .i64 a,.int .i64 b] w .none=.ok (.ret v) w' .none∧v=.int .i64 (cmpI a b):=by
 refine call_wp text165 (by simp) (ho _ _) ?_
 have c1:=fun a=>S184.call1 (P:=Tryz.prog) h184 (args:=[.int .i64 a]) (w:=w) ⟨a,rfl,rfl⟩
 unfold cmpI
 by_cases h1:a < b
 ·simp [mc165,tupV,c1,h1]
 ·by_cases h2:b < a
  ·simp [mc165,tupV,c1,h1,h2]
  ·simp [mc165,tupV,c1,h1,h2]
theorem args2 {a b a' b':Nt} (h:[Value.agg ⟨ntC a⟩,.agg ⟨ntC b⟩]=[.agg ⟨ntC a'⟩,.agg ⟨ntC b'⟩]):a=a'∧b=b':=by
 simp only [List.cons.injEq,Value.agg.injEq,Array.mk.injEq,and_true] at h
 exact ⟨ntC_inj h.1,ntC_inj h.2⟩
def S125:PSpec where
 R args _ v:=∃ a b:Nt,args=[.agg ⟨ntC a⟩,.agg ⟨ntC b⟩]∧v=.int .i64 (cmpB a.by_ b.by_)
 uniq:=by rintro _ _ _ _ ⟨a,b,rfl,rfl⟩ ⟨a',b',h,rfl⟩; obtain ⟨rfl,rfl⟩:=args2 h; rfl
 shut h:=h
theorem run125 {ov:Ov} (ho:∀ args w,ov 125 args w=none) (h164:HasP ov 164 S164.F) (a b:Nt) (w:AW):∃ v w',(run Tryz.prog ov 2).call 125 [.agg ⟨ntC a⟩,.agg ⟨ntC b⟩] w .none=.ok (.ret v) w' .none∧v=.int .i64 (cmpB a.by_ b.by_):=by
 refine call_wp text125 (by simp) (ho _ _) ?_
 have c1:=fun w=>S164.call1 (P:=Tryz.prog) h164 (args:=[.string ⟨⟨a.by_⟩⟩,.string ⟨⟨b.by_⟩⟩]) (w:=w) ⟨_,_,rfl,rfl⟩
 simp [mc125,ntC,tupV,c1]
def S126:PSpec where
 R args _ v:=∃ a b:Nt,args=[.agg ⟨ntC a⟩,.agg ⟨ntC b⟩]∧v=.int .i64 (cmpI a.seq b.seq)
 uniq:=by rintro _ _ _ _ ⟨a,b,rfl,rfl⟩ ⟨a',b',h,rfl⟩; obtain ⟨rfl,rfl⟩:=args2 h; rfl
 shut h:=h
theorem run126 {ov:Ov} (ho:∀ args w,ov 126 args w=none) (h165:HasP ov 165 S165.F) (a b:Nt) (w:AW):∃ v w',(run Tryz.prog ov 2).call 126 [.agg ⟨ntC a⟩,.agg ⟨ntC b⟩] w .none=.ok (.ret v) w' .none∧v=.int .i64 (cmpI a.seq b.seq):=by
 refine call_wp text126 (by simp) (ho _ _) ?_
 have c1:=fun w=>S165.call1 (P:=Tryz.prog) h165 (args:=[.int .i64 a.seq,.int .i64 b.seq]) (w:=w) ⟨_,_,rfl,rfl⟩
 simp [mc126,ntC,tupV,c1]
def S127:PSpec where
 R args _ v:=∃ a b:Nt,args=[.agg ⟨ntC a⟩,.agg ⟨ntC b⟩]∧v=.int .i64 (cmpI a.kind b.kind)
 uniq:=by rintro _ _ _ _ ⟨a,b,rfl,rfl⟩ ⟨a',b',h,rfl⟩; obtain ⟨rfl,rfl⟩:=args2 h; rfl
 shut h:=h
theorem run127 {ov:Ov} (ho:∀ args w,ov 127 args w=none) (h165:HasP ov 165 S165.F) (a b:Nt) (w:AW):∃ v w',(run Tryz.prog ov 2).call 127 [.agg ⟨ntC a⟩,.agg ⟨ntC b⟩] w .none=.ok (.ret v) w' .none∧v=.int .i64 (cmpI a.kind b.kind):=by
 refine call_wp text127 (by simp) (ho _ _) ?_
 have c1:=fun w=>S165.call1 (P:=Tryz.prog) h165 (args:=[.int .i64 a.kind,.int .i64 b.kind]) (w:=w) ⟨_,_,rfl,rfl⟩
 simp [mc127,ntC,tupV,c1]
def S128:PSpec where
 R args _ v:=∃ a b:Nt,args=[.agg ⟨ntC a⟩,.agg ⟨ntC b⟩]∧v=.int .i64 (cmpB a.to_ b.to_)
 uniq:=by rintro _ _ _ _ ⟨a,b,rfl,rfl⟩ ⟨a',b',h,rfl⟩; obtain ⟨rfl,rfl⟩:=args2 h; rfl
 shut h:=h
theorem run128 {ov:Ov} (ho:∀ args w,ov 128 args w=none) (h164:HasP ov 164 S164.F) (a b:Nt) (w:AW):∃ v w',(run Tryz.prog ov 2).call 128 [.agg ⟨ntC a⟩,.agg ⟨ntC b⟩] w .none=.ok (.ret v) w' .none∧v=.int .i64 (cmpB a.to_ b.to_):=by
 refine call_wp text128 (by simp) (ho _ _) ?_
 have c1:=fun w=>S164.call1 (P:=Tryz.prog) h164 (args:=[.string ⟨⟨a.to_⟩⟩,.string ⟨⟨b.to_⟩⟩]) (w:=w) ⟨_,_,rfl,rfl⟩
 simp [mc128,ntC,tupV,c1]
def S129:PSpec where
 R args _ v:=∃ a b:Nt,args=[.agg ⟨ntC a⟩,.agg ⟨ntC b⟩]∧v=.int .i64 (cmpB a.claim b.claim)
 uniq:=by rintro _ _ _ _ ⟨a,b,rfl,rfl⟩ ⟨a',b',h,rfl⟩; obtain ⟨rfl,rfl⟩:=args2 h; rfl
 shut h:=h
theorem run129 {ov:Ov} (ho:∀ args w,ov 129 args w=none) (h164:HasP ov 164 S164.F) (a b:Nt) (w:AW):∃ v w',(run Tryz.prog ov 2).call 129 [.agg ⟨ntC a⟩,.agg ⟨ntC b⟩] w .none=.ok (.ret v) w' .none∧v=.int .i64 (cmpB a.claim b.claim):=by
 refine call_wp text129 (by simp) (ho _ _) ?_
 have c1:=fun w=>S164.call1 (P:=Tryz.prog) h164 (args:=[.string ⟨⟨a.claim⟩⟩,.string ⟨⟨b.claim⟩⟩]) (w:=w) ⟨_,_,rfl,rfl⟩
 simp [mc129,ntC,tupV,c1]
def S130:PSpec where
 R args _ v:=∃ a b:Nt,args=[.agg ⟨ntC a⟩,.agg ⟨ntC b⟩]∧v=.int .i64 (cmpI a.from_ b.from_)
 uniq:=by rintro _ _ _ _ ⟨a,b,rfl,rfl⟩ ⟨a',b',h,rfl⟩; obtain ⟨rfl,rfl⟩:=args2 h; rfl
 shut h:=h
theorem run130 {ov:Ov} (ho:∀ args w,ov 130 args w=none) (h165:HasP ov 165 S165.F) (a b:Nt) (w:AW):∃ v w',(run Tryz.prog ov 2).call 130 [.agg ⟨ntC a⟩,.agg ⟨ntC b⟩] w .none=.ok (.ret v) w' .none∧v=.int .i64 (cmpI a.from_ b.from_):=by
 refine call_wp text130 (by simp) (ho _ _) ?_
 have c1:=fun w=>S165.call1 (P:=Tryz.prog) h165 (args:=[.int .i64 a.from_,.int .i64 b.from_]) (w:=w) ⟨_,_,rfl,rfl⟩
 simp [mc130,ntC,tupV,c1]
def S131:PSpec where
 R args _ v:=∃ a b:Nt,args=[.agg ⟨ntC a⟩,.agg ⟨ntC b⟩]∧v=.int .i64 (cmpI a.until_ b.until_)
 uniq:=by rintro _ _ _ _ ⟨a,b,rfl,rfl⟩ ⟨a',b',h,rfl⟩; obtain ⟨rfl,rfl⟩:=args2 h; rfl
 shut h:=h
theorem run131 {ov:Ov} (ho:∀ args w,ov 131 args w=none) (h165:HasP ov 165 S165.F) (a b:Nt) (w:AW):∃ v w',(run Tryz.prog ov 2).call 131 [.agg ⟨ntC a⟩,.agg ⟨ntC b⟩] w .none=.ok (.ret v) w' .none∧v=.int .i64 (cmpI a.until_ b.until_):=by
 refine call_wp text131 (by simp) (ho _ _) ?_
 have c1:=fun w=>S165.call1 (P:=Tryz.prog) h165 (args:=[.int .i64 a.until_,.int .i64 b.until_]) (w:=w) ⟨_,_,rfl,rfl⟩
 simp [mc131,ntC,tupV,c1]
def S132:PSpec where
 R args _ v:=∃ a b:Nt,args=[.agg ⟨ntC a⟩,.agg ⟨ntC b⟩]∧v=.int .i64 (cmpI a.depth b.depth)
 uniq:=by rintro _ _ _ _ ⟨a,b,rfl,rfl⟩ ⟨a',b',h,rfl⟩; obtain ⟨rfl,rfl⟩:=args2 h; rfl
 shut h:=h
theorem run132 {ov:Ov} (ho:∀ args w,ov 132 args w=none) (h165:HasP ov 165 S165.F) (a b:Nt) (w:AW):∃ v w',(run Tryz.prog ov 2).call 132 [.agg ⟨ntC a⟩,.agg ⟨ntC b⟩] w .none=.ok (.ret v) w' .none∧v=.int .i64 (cmpI a.depth b.depth):=by
 refine call_wp text132 (by simp) (ho _ _) ?_
 have c1:=fun w=>S165.call1 (P:=Tryz.prog) h165 (args:=[.int .i64 a.depth,.int .i64 b.depth]) (w:=w) ⟨_,_,rfl,rfl⟩
 simp [mc132,ntC,tupV,c1]
def S133:PSpec where
 R args _ v:=∃ a b:Nt,args=[.agg ⟨ntC a⟩,.agg ⟨ntC b⟩]∧v=.int .i64 (cmpI a.of_ b.of_)
 uniq:=by rintro _ _ _ _ ⟨a,b,rfl,rfl⟩ ⟨a',b',h,rfl⟩; obtain ⟨rfl,rfl⟩:=args2 h; rfl
 shut h:=h
theorem run133 {ov:Ov} (ho:∀ args w,ov 133 args w=none) (h165:HasP ov 165 S165.F) (a b:Nt) (w:AW):∃ v w',(run Tryz.prog ov 2).call 133 [.agg ⟨ntC a⟩,.agg ⟨ntC b⟩] w .none=.ok (.ret v) w' .none∧v=.int .i64 (cmpI a.of_ b.of_):=by
 refine call_wp text133 (by simp) (ho _ _) ?_
 have c1:=fun w=>S165.call1 (P:=Tryz.prog) h165 (args:=[.int .i64 a.of_,.int .i64 b.of_]) (w:=w) ⟨_,_,rfl,rfl⟩
 simp [mc133,ntC,tupV,c1]
def stL:List Value:=[.func (.func 125) ⟨[]⟩ ⟨[]⟩,.func (.func 126) ⟨[]⟩ ⟨[]⟩,.func (.func 127) ⟨[]⟩ ⟨[]⟩,.func (.func 128) ⟨[]⟩ ⟨[]⟩,.func (.func 129) ⟨[]⟩ ⟨[]⟩,.func (.func 130) ⟨[]⟩ ⟨[]⟩,.func (.func 131) ⟨[]⟩ ⟨[]⟩,.func (.func 132) ⟨[]⟩ ⟨[]⟩,.func (.func 133) ⟨[]⟩ ⟨[]⟩]
@[simp] theorem stL_length:stL.length=9:=rfl
@[simp] theorem stL_singles:singles stL=true:=by kernel_rfl
def stepsV:Value:=.agg ⟨stL⟩
@[simp] theorem stV_cells:cellsOf (.agg ⟨stL⟩)=stL:=rfl
theorem bd116 (w:AW):buildA Tryz.prog w 116 [(0,Value.func (.func 125) #[] #[]),(1,Value.func (.func 126) #[] #[]),(2,Value.func (.func 127) #[] #[]),(3,Value.func (.func 128) #[] #[]),(4,Value.func (.func 129) #[] #[]),(5,Value.func (.func 130) #[] #[]),(6,Value.func (.func 131) #[] #[]),(7,Value.func (.func 132) #[] #[]),(8,Value.func (.func 133) #[] #[])]=.val stepsV w:=by kernel_rfl
theorem call95 {ov:Ov} (m:Nat) (ho:∀ args w,ov 95 args w=none) (w:AW) (hl:w.lim≤w.next):∃ v w',(run Tryz.prog ov (m + 1)).call 95 [] w .none=.ok (.ret v) w' .none∧v=stepsV∧Up w w':=by
 refine call_wp text95 (by simp) (ho _ _) ?_
 simp [mc95,tupV,bd116]
 simp only [stepsV]
 rw [st116 _ _ (.agg ⟨stL⟩) rfl]
 simp [hl,List.drop_eq_nil_of_le,List.take_of_length_le]
 exact ⟨rfl,((Up.refl w).add _).put (Nat.le_refl _) (Nat.le_refl _)⟩
def cmpN:Nt→Nt→Int :=
 lexC (fun a b=>cmpB a.by_ b.by_) (lexC (fun a b=>cmpI a.seq b.seq) (lexC (fun a b=>cmpI a.kind b.kind) (lexC (fun a b=>cmpB a.to_ b.to_) (lexC (fun a b=>cmpB a.claim b.claim)
  (lexC (fun a b=>cmpI a.from_ b.from_) (lexC (fun a b=>cmpI a.until_ b.until_) (lexC (fun a b=>cmpI a.depth b.depth) (fun a b=>cmpI a.of_ b.of_))))))))
theorem cmpN_cmp:Cmp cmpN :=
 .lex (cmpB_cmp.comap Nt.by_) (.lex (cmpI_cmp.comap Nt.seq) (.lex (cmpI_cmp.comap Nt.kind) (.lex (cmpB_cmp.comap Nt.to_) (.lex (cmpB_cmp.comap Nt.claim)
  (.lex (cmpI_cmp.comap Nt.from_) (.lex (cmpI_cmp.comap Nt.until_) (.lex (cmpI_cmp.comap Nt.depth) (cmpI_cmp.comap Nt.of_))))))))
theorem lexC_eq0 {α:Type} {c d:α→α→Int} {x y:α}:lexC c d x y=0 ↔ c x y=0∧d x y=0:=by
 unfold lexC
 by_cases h:c x y=0 <;> simp [h]
theorem cmpN_eq0 {a b:Nt}:cmpN a b=0 ↔ a=b:=by
 unfold cmpN
 simp only [lexC_eq0,cmpB_eq0,cmpI_eq]
 constructor
 ·rintro ⟨h1,h2,h3,h4,h5,h6,h7,h8,h9⟩
  cases a; cases b
  simp_all
 ·rintro rfl
  simp
def stpC (a b:Nt):Nat→Int
 | 0=>cmpB a.by_ b.by_
 | 1=>cmpI a.seq b.seq
 | 2=>cmpI a.kind b.kind
 | 3=>cmpB a.to_ b.to_
 | 4=>cmpB a.claim b.claim
 | 5=>cmpI a.from_ b.from_
 | 6=>cmpI a.until_ b.until_
 | 7=>cmpI a.depth b.depth
 | 8=>cmpI a.of_ b.of_
 | _ + 9=>0
theorem stpC_first {a b:Nt}:∀ {k:Nat},k < 9→(∀ j,j < k→stpC a b j=0)→stpC a b k ≠ 0→cmpN a b=stpC a b k
 | 0,_,h,h1=>by
  simp only [stpC] at *
  simp [cmpN,lexC, *]
 | 1,_,h,h1=>by
  have h0':=h 0 (by decide)
  simp only [stpC] at *
  simp [cmpN,lexC, *]
 | 2,_,h,h1=>by
  have h0':=h 0 (by decide)
  have h1':=h 1 (by decide)
  simp only [stpC] at *
  simp [cmpN,lexC, *]
 | 3,_,h,h1=>by
  have h0':=h 0 (by decide)
  have h1':=h 1 (by decide)
  have h2':=h 2 (by decide)
  simp only [stpC] at *
  simp [cmpN,lexC, *]
 | 4,_,h,h1=>by
  have h0':=h 0 (by decide)
  have h1':=h 1 (by decide)
  have h2':=h 2 (by decide)
  have h3':=h 3 (by decide)
  simp only [stpC] at *
  simp [cmpN,lexC, *]
 | 5,_,h,h1=>by
  have h0':=h 0 (by decide)
  have h1':=h 1 (by decide)
  have h2':=h 2 (by decide)
  have h3':=h 3 (by decide)
  have h4':=h 4 (by decide)
  simp only [stpC] at *
  simp [cmpN,lexC, *]
 | 6,_,h,h1=>by
  have h0':=h 0 (by decide)
  have h1':=h 1 (by decide)
  have h2':=h 2 (by decide)
  have h3':=h 3 (by decide)
  have h4':=h 4 (by decide)
  have h5':=h 5 (by decide)
  simp only [stpC] at *
  simp [cmpN,lexC, *]
 | 7,_,h,h1=>by
  have h0':=h 0 (by decide)
  have h1':=h 1 (by decide)
  have h2':=h 2 (by decide)
  have h3':=h 3 (by decide)
  have h4':=h 4 (by decide)
  have h5':=h 5 (by decide)
  have h6':=h 6 (by decide)
  simp only [stpC] at *
  simp [cmpN,lexC, *]
 | 8,_,h,h1=>by
  have h0':=h 0 (by decide)
  have h1':=h 1 (by decide)
  have h2':=h 2 (by decide)
  have h3':=h 3 (by decide)
  have h4':=h 4 (by decide)
  have h5':=h 5 (by decide)
  have h6':=h 6 (by decide)
  have h7':=h 7 (by decide)
  simp only [stpC] at *
  simp [cmpN,lexC, *]
 | k + 9,h,_,_=>absurd h (by omega)
theorem stpC_none {a b:Nt} (h:∀ j,j < 9→stpC a b j=0):cmpN a b=0:=by
 have h0':=h 0 (by decide)
 have h1':=h 1 (by decide)
 have h2':=h 2 (by decide)
 have h3':=h 3 (by decide)
 have h4':=h 4 (by decide)
 have h5':=h 5 (by decide)
 have h6':=h 6 (by decide)
 have h7':=h 7 (by decide)
 have h8':=h 8 (by decide)
 simp only [stpC] at *
 simp [cmpN,lexC, *]
theorem ix116_0 (w:AW):indexA Tryz.prog w 116 (.agg ⟨stL⟩) (.int .i64 0)=.val (.func (.func 125) ⟨[]⟩ ⟨[]⟩) w:=by kernel_rfl
theorem ix116_1 (w:AW):indexA Tryz.prog w 116 (.agg ⟨stL⟩) (.int .i64 1)=.val (.func (.func 126) ⟨[]⟩ ⟨[]⟩) w:=by kernel_rfl
theorem ix116_2 (w:AW):indexA Tryz.prog w 116 (.agg ⟨stL⟩) (.int .i64 2)=.val (.func (.func 127) ⟨[]⟩ ⟨[]⟩) w:=by kernel_rfl
theorem ix116_3 (w:AW):indexA Tryz.prog w 116 (.agg ⟨stL⟩) (.int .i64 3)=.val (.func (.func 128) ⟨[]⟩ ⟨[]⟩) w:=by kernel_rfl
theorem ix116_4 (w:AW):indexA Tryz.prog w 116 (.agg ⟨stL⟩) (.int .i64 4)=.val (.func (.func 129) ⟨[]⟩ ⟨[]⟩) w:=by kernel_rfl
theorem ix116_5 (w:AW):indexA Tryz.prog w 116 (.agg ⟨stL⟩) (.int .i64 5)=.val (.func (.func 130) ⟨[]⟩ ⟨[]⟩) w:=by kernel_rfl
theorem ix116_6 (w:AW):indexA Tryz.prog w 116 (.agg ⟨stL⟩) (.int .i64 6)=.val (.func (.func 131) ⟨[]⟩ ⟨[]⟩) w:=by kernel_rfl
theorem ix116_7 (w:AW):indexA Tryz.prog w 116 (.agg ⟨stL⟩) (.int .i64 7)=.val (.func (.func 132) ⟨[]⟩ ⟨[]⟩) w:=by kernel_rfl
theorem ix116_8 (w:AW):indexA Tryz.prog w 116 (.agg ⟨stL⟩) (.int .i64 8)=.val (.func (.func 133) ⟨[]⟩ ⟨[]⟩) w:=by kernel_rfl
structure Steps (o:Ov):Prop where
 h125:HasP o 125 S125.F
 h126:HasP o 126 S126.F
 h127:HasP o 127 S127.F
 h128:HasP o 128 S128.F
 h129:HasP o 129 S129.F
 h130:HasP o 130 S130.F
 h131:HasP o 131 S131.F
 h132:HasP o 132 S132.F
 h133:HasP o 133 S133.F
theorem Steps.at {ov:Ov} (h:Steps ov) (a b:Nt) (w:AW):∀ {k:Nat},k < 9→∃ f,indexA Tryz.prog w 116 (.agg ⟨stL⟩) (.int .i64 (k:Nat))=.val (.func (.func f) ⟨[]⟩ ⟨[]⟩) w ∧
  (∀ args,callV Tryz.prog w (.func (.func f) ⟨[]⟩ ⟨[]⟩) args=.enter f args w)∧∀ m,(run Tryz.prog ov (m + 1)).call f [.agg ⟨ntC a⟩,.agg ⟨ntC b⟩] w .none=.ok (.ret (.int .i64 (stpC a b k))) w .none
 | 0,_=>⟨125,ix116_0 w,fun args=>by rw [callV_func]; simp; exact cfe text125 _,fun m=>S125.call h.h125 ⟨a,b,rfl,rfl⟩⟩
 | 1,_=>⟨126,ix116_1 w,fun args=>by rw [callV_func]; simp; exact cfe text126 _,fun m=>S126.call h.h126 ⟨a,b,rfl,rfl⟩⟩
 | 2,_=>⟨127,ix116_2 w,fun args=>by rw [callV_func]; simp; exact cfe text127 _,fun m=>S127.call h.h127 ⟨a,b,rfl,rfl⟩⟩
 | 3,_=>⟨128,ix116_3 w,fun args=>by rw [callV_func]; simp; exact cfe text128 _,fun m=>S128.call h.h128 ⟨a,b,rfl,rfl⟩⟩
 | 4,_=>⟨129,ix116_4 w,fun args=>by rw [callV_func]; simp; exact cfe text129 _,fun m=>S129.call h.h129 ⟨a,b,rfl,rfl⟩⟩
 | 5,_=>⟨130,ix116_5 w,fun args=>by rw [callV_func]; simp; exact cfe text130 _,fun m=>S130.call h.h130 ⟨a,b,rfl,rfl⟩⟩
 | 6,_=>⟨131,ix116_6 w,fun args=>by rw [callV_func]; simp; exact cfe text131 _,fun m=>S131.call h.h131 ⟨a,b,rfl,rfl⟩⟩
 | 7,_=>⟨132,ix116_7 w,fun args=>by rw [callV_func]; simp; exact cfe text132 _,fun m=>S132.call h.h132 ⟨a,b,rfl,rfl⟩⟩
 | 8,_=>⟨133,ix116_8 w,fun args=>by rw [callV_func]; simp; exact cfe text133 _,fun m=>S133.call h.h133 ⟨a,b,rfl,rfl⟩⟩
 | k + 9,h=>absurd h (by omega)
def S60:PSpec where
 R args _ v:=∃ a b:Nt,args=[.agg ⟨ntC a⟩,.agg ⟨ntC b⟩]∧v=.int .i64 (cmpN a b)
 uniq:=by rintro _ _ _ _ ⟨a,b,rfl,rfl⟩ ⟨a',b',h,rfl⟩; obtain ⟨rfl,rfl⟩:=args2 h; rfl
 shut h:=h
theorem loop60 {ov:Ov} (m:Nat) (h:Steps ov) (a b:Nt) (p q:Nat) (w:AW) (hp:w.heap.get p=some (.cells (ntC a) 62 false)) (hq:w.heap.get q=some (.cells (ntC b) 62 false)) (Q:Ex→Tm→AW→Prop) (t:Tm)
  (t2:tget t 2=.pointer (some ⟨p,0,none⟩)) (t3:tget t 3=.pointer (some ⟨q,0,none⟩)) (t8:tget t 8=.agg ⟨stL⟩) (t9:tget t 9=.int .i64 0)
  (hQ:∀ t,cmpN a b=0→Q (.exit 0) t w) (hR:∀ t,tget t 4=.int .i64 (cmpN a b)→Q .ret t w):wp (exY Tryz.prog (run Tryz.prog ov (m + 1)) (.loop mc60_l0) t w) Q:=by
 refine wp_roundsY (fun r t w'=>w'=w∧r≤9∧(∀ j,j < r→stpC a b j=0)∧tget t 2=.pointer (some ⟨p,0,none⟩)∧tget t 3=.pointer (some ⟨q,0,none⟩)∧tget t 8=.agg ⟨stL⟩∧tget t 9=.int .i64 (r:Nat)) 10 (by decide) ⟨rfl,by omega,fun j hj=>absurd hj (by omega),t2,t3,t8,t9⟩ ?_
 clear t2 t3 t8 t9
 rintro r t w1 ⟨hw,hr,hz,t2,t3,t8,t9⟩
 rw [hw]
 clear hw w1
 obtain ⟨z,hzr⟩:∃ z:Int,z=(r:Int):=⟨_,rfl⟩
 by_cases hlt:r < 9
 ·obtain ⟨f,e1,e2,e3⟩:=h.at a b w hlt
  have e3:=e3 m
  rw [← hzr] at t9 e1
  have hz9:z < 9:=by omega
  have w1:IntKind.wrap .i64 (z + 1)=((r + 1:Nat):Int):=by rw [w6i (by omega) (by omega)]; omega
  simp only [ntC] at e3 hp hq
  by_cases hc:stpC a b r=0
  ·simp [mc60_l0,t2,t3,t8,t9,hz9,e1,e2,e3,hp,hq,hc,w1]
   refine ⟨by omega,by omega,fun j hj=>?_⟩
   by_cases hj':j < r
   ·exact hz j hj'
   ·have:j=r:=by omega
    rw [this]; exact hc
  ·have e:=stpC_first hlt hz hc
   simp [mc60_l0,t2,t3,t8,t9,hz9,e1,e2,e3,hp,hq,hc,w1]
   exact hR _ (by simp [e])
 ·have hz9:¬ z < 9:=by omega
  rw [← hzr] at t9
  simp [mc60_l0,t9,hz9]
  exact hQ _ (stpC_none fun j hj=>hz j (by omega))
theorem run60 {ov:Ov} (ho:∀ args w,ov 60 args w=none) (ho2:∀ args w,ov 95 args w=none) (h:Steps ov) (a b:Nt) (w:AW) (hl:w.lim≤w.next):∃ v w',(run Tryz.prog ov 3).call 60 [.agg ⟨ntC a⟩,.agg ⟨ntC b⟩] w .none=.ok (.ret v) w' .none∧v=.int .i64 (cmpN a b):=by
 refine call_wpY text60 (by simp) (ho _ _) ?_
 obtain ⟨_,w',c1,rfl,hu⟩:=call95 (ov:=ov) 1 ho2 ⟨(w.heap.put w.next (some (.cells (ntC a) 62 false))).put (w.next + 1) (some (.cells (ntC b) 62 false)),w.next + 1 + 1,w.lim⟩ (by show w.lim≤w.next + 1 + 1; omega)
 have g1:=hu.at (b:=w.next) (by show w.next < w.next + 1 + 1; omega)
 have g2:=hu.at (b:=w.next + 1) (by show w.next + 1 < w.next + 1 + 1; omega)
 simp at g1 g2
 simp only [ntC] at c1 g1 g2
 simp [mc60,ntC,c1]
 refine wp_seqX (wp_blockX (loop60 1 h a b w.next (w.next + 1) w' g1 g2 _ _ ?_ ?_ ?_ ?_ ?_ ?_))
 ·simp
 ·simp
 ·simp [stepsV]
 ·simp
 ·intro t e
  simp [tupV,e]
 ·intro t e
  simp [tupV,e]
end Go.Proofs.YtnjknghdpobcmaaGreatDoor.walk
