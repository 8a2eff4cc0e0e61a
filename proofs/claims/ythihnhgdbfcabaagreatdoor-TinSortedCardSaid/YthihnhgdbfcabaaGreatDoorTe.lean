/- Part of a proof: see the text with the theorem. -/
import Derived.Test.YthihnhgdbfcabaaGreatDoorTd
import Derived.Test.YthihnhgdbfcabaaGreatDoorTa
import Derived.Test.YthihnhgdbfcabaaGreatDoorTb
import Derived.Test.YthihnhgdbfcabaaGreatDoorShF
import Derived.Test.YthihnhgdbfcabaaGreatDoorShE
import Derived.KernelRfl
import Derived.Test.YthihnhgdbfcabaaGreatDoorProg
set_option linter.all false
namespace Go.Proofs.YthihnhgdbfcabaaGreatDoor.walk
open Go Go.Sh
set_option maxRecDepth 100000
section
variable {α:Type} {C:α→List Value} {V:α→Value} {sz:Nat} {cI:α→α→Int} {fv:Value} {fc:FuncId} {ov:Ov}
end
section
variable {α:Type} {C:α→List Value} {V:α→Value} {sz:Nat} {cI:α→α→Int} {fv:Value} {fc:FuncId} {ov:Ov}
end
section
variable {α:Type} {C:α→List Value} {V:α→Value} {sz:Nat} {cI:α→α→Int} {fv:Value} {fc:FuncId} {ov:Ov}
end
end Go.Proofs.YthihnhgdbfcabaaGreatDoor.walk
namespace Go.Sh
open Go
structure Cmp {α:Type} (c:α→α→Int):Prop where
 tri:∀ x y,c x y = -1∨c x y=0∨c x y=1
 neg:∀ x y,c y x = - c x y
 trans:∀ x y z,c x y≤0→c y z≤0→c x z≤0∧(c x z=0→c x y=0∧c y z=0)
theorem Cmp.wk {α:Type} {c:α→α→Int} (h:Cmp c):Wk (fun x y=>c x y < 0) where
 asym {x y} h1 h2:=by have:=h.neg x y; omega
 trans {x y z} h1 h2 h3:=by
  have a:=h.neg x y
  have b:=h.neg y z
  have d:=h.neg x z
  have:=(h.trans x y z (by omega) (by omega)).1
  omega
def cmpI (a b:Int):Int:=if a < b then -1 else if b < a then 1 else 0
theorem cmpI_eq {a b:Int}:cmpI a b=0 ↔ a=b:=by unfold cmpI; split <;> (try split) <;> omega
theorem cmpB_cons (a b:UInt8) (l m:List UInt8):cmpB (a::l) (b::m)=if cmpI a.toNat b.toNat ≠ 0 then cmpI a.toNat b.toNat else cmpB l m:=by
 unfold cmpI
 show (bif Nat.beq a.toNat b.toNat then cmpB l m else bif Nat.blt a.toNat b.toNat then -1 else 1)=_
 by_cases h:a.toNat=b.toNat
 ·have e:Nat.beq a.toNat b.toNat=true:=by rw [h]; exact Nat.beq_refl _
  rw [e,h]; simp
 ·have e:Nat.beq a.toNat b.toNat=false:=by
   cases hb:Nat.beq a.toNat b.toNat with
   | false=>rfl
   | true=>exact absurd (Nat.eq_of_beq_eq_true hb) h
  rw [e]
  by_cases hl:a.toNat < b.toNat
  ·have e2:Nat.blt a.toNat b.toNat=true:=by rw [Nat.blt_eq]; exact hl
   have:((a.toNat:Nat):Int) < (b.toNat:Nat):=by omega
   simp [e2,this]
  ·have e2:Nat.blt a.toNat b.toNat=false:=by
    cases hb:Nat.blt a.toNat b.toNat with
    | false=>rfl
    | true=>exact absurd (by rw [Nat.blt_eq] at hb; exact hb) hl
   have h1:¬ ((a.toNat:Nat):Int) < (b.toNat:Nat):=by omega
   have h2:((b.toNat:Nat):Int) < (a.toNat:Nat):=by omega
   simp [e2,h1,h2]
end Go.Sh
namespace Go.Proofs.YthihnhgdbfcabaaGreatDoor.walk
open Go Go.Sh
set_option maxRecDepth 100000
theorem bytesLess_eq:∀ a b:List UInt8,bytesLess a b=decide (cmpB a b < 0)
 | a,[]=>by cases a <;> simp [bytesLess,cmpB]
 | [],b::m=>by simp [bytesLess,cmpB]
 | a::l,b::m=>by
  rw [cmpB_cons]
  show (bif Nat.beq a.toNat b.toNat then bytesLess l m else Nat.blt a.toNat b.toNat)=_
  rw [bytesLess_eq l m]
  by_cases h:a.toNat=b.toNat
  ·have e:Nat.beq a.toNat b.toNat=true:=by rw [h]; exact Nat.beq_refl _
   have e2:cmpI a.toNat b.toNat=0:=cmpI_eq.2 (by omega)
   rw [e,e2]; simp
  ·have e:Nat.beq a.toNat b.toNat=false:=by
    cases hb:Nat.beq a.toNat b.toNat with
    | false=>rfl
    | true=>exact absurd (Nat.eq_of_beq_eq_true hb) h
   have e2:cmpI a.toNat b.toNat ≠ 0:=fun k=>h (by have:=cmpI_eq.1 k; omega)
   rw [e,if_pos e2]
   unfold cmpI
   by_cases hl:a.toNat < b.toNat
   ·have e3:Nat.blt a.toNat b.toNat=true:=by rw [Nat.blt_eq]; exact hl
    have:((a.toNat:Nat):Int) < (b.toNat:Nat):=by omega
    simp [e3,this]
   ·have e3:Nat.blt a.toNat b.toNat=false:=by
     cases hb:Nat.blt a.toNat b.toNat with
     | false=>rfl
     | true=>exact absurd (by rw [Nat.blt_eq] at hb; exact hb) hl
    have h1:¬ ((a.toNat:Nat):Int) < (b.toNat:Nat):=by omega
    have h2:((b.toNat:Nat):Int) < (a.toNat:Nat):=by omega
    simp [e3,h1,h2]
def S87:PSpec where
 R args _ v:=∃ a b:List UInt8,args=[.string ⟨⟨a⟩⟩,.string ⟨⟨b⟩⟩]∧v=.bool (decide (cmpB a b < 0))
 uniq:=by rintro _ _ _ _ ⟨a,b,rfl,rfl⟩ ⟨_,_,h,rfl⟩; cases h; rfl
 shut h:=h
def stV (x:List UInt8):Value:=.string ⟨⟨x⟩⟩
def stC (x:List UInt8):List Value:=[stV x]
section
variable {ov:Ov}
end
@[simp] theorem setPar_cons (p:Tmp) (ps:List Tmp) (a:Value) (l:List Value) (t:Tm):setParams (p::ps) (a::l) t=setParams ps l (tset t p a):=rfl
@[simp] theorem setPar_nil (t:Tm):setParams [] [] t=t:=rfl
structure J12 (c4 L:Nat) (lp:ALoop) (st:List (List UInt8)) (w:AW):Prop where
 acc:∃ sl B,w.heap.get c4=some (.cells [sl] 26 false)∧AccQ stC 9 L w sl (st.filter codeB) B
 lo:w.heap.get L=some (.loop lp)
 sg:SgAt w
 ord:w.lim≤c4∧c4 < L∧L < w.next∧0 < c4
structure Nr (ov:Ov):Prop where
 o12:∀ args w,ov 12 args w=none
 o29:∀ args w,ov 29 args w=none
 o33:∀ args w,ov 33 args w=none
 o35:∀ args w,ov 35 args w=none
 o36:∀ args w,ov 36 args w=none
 o58:∀ args w,ov 58 args w=none
 o59:∀ args w,ov 59 args w=none
 o61:∀ args w,ov 61 args w=none
 os:OsO ov
 h10:HasP ov 10 S10.F
 h62:HasP ov 62 S62.F
 h63:HasP ov 63 S63.F
 h87:HasP ov 87 S87.F
structure NearOf (s:List UInt8) (l:List (List UInt8)):Prop where
 perm:l.Perm (nearU s)
 srt:Srt (fun x y=>cmpB x y < 0) l 0 l.length
noncomputable def pow10:List Int:=[1,10,100,1000,10000,100000,1000000,10000000,100000000,1000000000,10000000000,100000000000,1000000000000,10000000000000,100000000000000,1000000000000000,10000000000000000,100000000000000000,1000000000000000000,10000000000000000000]
noncomputable def signL:List Int:=[97,98,99,100,101,102,103,104,105,106,107,108,109,110,111,112,113,114,115,116,117,118,119,120,121,122,48,49,50,51,52,53,54,55,56,57,45]
noncomputable def laidL:List LaidV:=[(0,signL.map fun z=>Value.int .u8 z,96),(1,pow10.map fun z=>Value.int .u64 z,225),(3,[unk],119)]
noncomputable def noOv:Ov:=fun _ _ _=>none
structure LaidW (w:AW):Prop where
 g0:∃ ro,w.heap.get 0=some (.cells (signL.map fun z=>Value.int .u8 z) 96 ro)
 g1:∃ ro,w.heap.get 1=some (.cells (pow10.map fun z=>Value.int .u64 z) 225 ro)
 g3:∃ ro,w.heap.get 3=some (.cells [unk] 119 ro)
 n:9≤w.next
theorem LaidW.up {w w':AW} (h:LaidW w) (u:Up w w'):LaidW w':=by
 obtain ⟨⟨r0,h0⟩,⟨r1,h1⟩,⟨r3,h3⟩,hn⟩:=h
 exact ⟨⟨r0,by rw [u.at (by omega)]; exact h0⟩,⟨r1,by rw [u.at (by omega)]; exact h1⟩,⟨r3,by rw [u.at (by omega)]; exact h3⟩,Nat.le_trans hn u.next⟩
theorem sgC_eq:sgC=signL.map fun z=>Value.int .u8 z:=by kernel_rfl
theorem LaidW.sg {w:AW} (h:LaidW w):SgAt w:=by
 obtain ⟨ro,g⟩:=h.g0
 exact ⟨_,ro,by rw [g,sgC_eq]⟩
theorem same0:sameL5 (signL.map fun z=>Value.int .u8 z) (signL.map fun z=>Value.int .u8 z)=true:=by kernel_rfl
theorem same1':sameL5 (pow10.map fun z=>Value.int .u64 z) (pow10.map fun z=>Value.int .u64 z)=true:=by kernel_rfl
theorem same3:sameL5 [unk] [unk]=true:=by kernel_rfl
theorem LaidW.all {w:AW} (h:LaidW w):hasAll w laidL=true:=by
 obtain ⟨⟨r0,h0⟩,⟨r1,h1⟩,⟨r3,h3⟩,_⟩:=h
 have e0:hasB w (0,signL.map fun z=>Value.int .u8 z,96)=true:=by
  unfold hasB
  simp only [h0,same0,Nat.beq_refl,Bool.and_self]
 have e1:hasB w (1,pow10.map fun z=>Value.int .u64 z,225)=true:=by
  unfold hasB
  simp only [h1,same1',Nat.beq_refl,Bool.and_self]
 have e3:hasB w (3,[unk],119)=true:=by
  unfold hasB
  simp only [h3,same3,Nat.beq_refl,Bool.and_self]
 show (bif hasB w (0,signL.map fun z=>Value.int .u8 z,96) then (bif hasB w (1,pow10.map fun z=>Value.int .u64 z,225) then (bif hasB w (3,[unk],119) then true else false) else false) else false)=true
 rw [e0,e1,e3]; rfl
def HasQ (ov:Ov):Prop:=∀ w,hasAll w laidL=true→ov 15 [] w=some (.ok (.ret (.bool true)) w .none)
theorem ruleQ {ov:Ov} (h:HasQ ov) {w:AW} (h1:LaidW w) (m:Nat):(run Tryz.prog ov (m + 1)).call 15 [] w .none=.ok (.ret (.bool true)) w .none:=by
 show stepO Tryz.prog (run Tryz.prog ov m) 15 [] w .none (ov 15 [] w)=_
 rw [h w h1.all]; rfl
section
variable {ov:Ov} {w0 w:AW} {v3:Value} {s x:List UInt8} {l:List (List UInt8)} {i:Nat}
end
section
variable {ov:Ov} {w0 w:AW} {v3:Value} {s:List UInt8} {l:List (List UInt8)} {i:Nat}
end
structure Has6 (ov:Ov):Prop where
 nr:Nr ov
 h21:HasP ov 21 S21.F
 hq:HasQ ov
end Go.Proofs.YthihnhgdbfcabaaGreatDoor.walk
namespace Go.Sh
structure Odd (C x:List UInt8):Prop where
 are:areB x 2 17=true
 no:codeB x=false
end Go.Sh
namespace Go.Proofs.YthihnhgdbfcabaaGreatDoor.walk
open Go Go.Sh
set_option maxRecDepth 100000
end Go.Proofs.YthihnhgdbfcabaaGreatDoor.walk
