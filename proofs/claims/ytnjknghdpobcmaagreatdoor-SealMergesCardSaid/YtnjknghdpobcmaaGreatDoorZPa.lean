/- Part of a proof: see the text with the theorem. -/
import Derived.Test.YtnjknghdpobcmaaGreatDoorShF
import Derived.Test.YtnjknghdpobcmaaGreatDoorZT3
set_option linter.all false
namespace Go.Sh
open Go
variable {P:Program}
structure PSpec where
 R:List Value→AW→Value→Prop
 uniq:∀ {args w v v'},R args w v→R args w v'→v=v'
 shut:∀ {args w v},R args w v→R args (shutA w) v
open Classical in
noncomputable def PSpec.F (S:PSpec):PureF:=fun args w=>if h:∃ v,S.R args w v then some h.choose else none
theorem PSpec.F_eq (S:PSpec) {args:List Value} {w:AW} {v:Value} (h:S.R args w v):S.F args w=some v:=by
 have hx:∃ v,S.R args w v:=⟨v,h⟩
 unfold PSpec.F
 rw [dif_pos hx]
 exact congrArg some (S.uniq hx.choose_spec h)
theorem PSpec.of_F (S:PSpec) {args:List Value} {w:AW} {v:Value} (h:S.F args w=some v):S.R args w v:=by
 unfold PSpec.F at h
 by_cases hx:∃ v,S.R args w v
 ·rw [dif_pos hx] at h
  cases h
  exact hx.choose_spec
 ·rw [dif_neg hx] at h; cases h
theorem PSpec.call (S:PSpec) {ov:Ov} {f:FuncId} (k:HasP ov f S.F) {m:Nat} {args:List Value} {w:AW} {v:Value} (h:S.R args w v):(run P ov (m + 1)).call f args w .none=.ok (.ret v) w .none:=k.call (S.F_eq h)
theorem PSpec.call1 (S:PSpec) {ov:Ov} {f:FuncId} (k:HasP ov f S.F) {args:List Value} {w:AW} {v:Value} (h:S.R args w v):(run P ov 1).call f args w .none=.ok (.ret v) w .none:=k.call (m:=0) (S.F_eq h)
theorem PSpec.ok (S:PSpec) (hP:NoCount P) (hm:P.follows .mixedOrders=true) {rest:Ov} (hO:OvOk P rest) {f:FuncId}
  (fact:∀ args w v,w.lim=w.next→S.R args w v→groundC 3 v=true∧∃ m v' w' x',(run P rest m).call f args w .none=.ok (.ret v') w' x'∧v'=v):OvOk P (ovP f S.F rest) :=
 pure_ok hP hm hO (fun args w v h=>S.F_eq (S.shut (S.of_F h))) fun args w v hl h=>by
  obtain ⟨h1,m,v',w',x',h2,rfl⟩:=fact args w v hl (S.of_F h)
  exact ⟨h1,m,w',x',h2⟩
structure Up (we w:AW):Prop where
 old:Old we.next we.heap w.heap
 next:we.next≤w.next
 lim:w.lim=we.lim
theorem Up.refl (w:AW):Up w w:=⟨Old.refl _ _,Nat.le_refl _,rfl⟩
theorem Up.trans {a b c:AW} (h:Up a b) (k:Up b c):Up a c:=⟨h.old.trans k.old h.next,Nat.le_trans h.next k.next,k.lim.trans h.lim⟩
theorem Up.put {we:AW} {H:T AObj} {n n' l k:Nat} {o:Option AObj} (h:Up we ⟨H,n,l⟩) (hk:we.next≤k) (hn:n≤n'):Up we ⟨H.put k o,n',l⟩:=⟨h.old.put hk,Nat.le_trans h.next hn,h.lim⟩
theorem Up.add {we w:AW} (h:Up we w) (o:Option AObj):Up we ⟨w.heap.put w.next o,w.next + 1,w.lim⟩:=⟨h.old.put h.next,Nat.le_trans h.next (Nat.le_succ _),h.lim⟩
theorem Up.at {we w:AW} (h:Up we w) {b:Nat} (hb:b < we.next):w.heap.get b=we.heap.get b:=h.old b hb
theorem RowsV.up {α:Type} {f:α→List Value} {we w:AW} {v:Value} {l:List α} (h:RowsV f we v l) (k:Up we w):RowsV f w v l:=h.old k.old k.next
variable {w:AW}
end Go.Sh
namespace Go.Proofs.YtnjknghdpobcmaaGreatDoor.walk
open Go Go.Sh
set_option maxRecDepth 100000
def inI (a n b:Int):Bool:=decide (a≤n) && decide (n≤b)
def S49:PSpec where
 R args _ v:=∃ n a b:Int,args=[.int .i64 n,.int .i64 a,.int .i64 b]∧v=.bool (inI a n b)
 uniq:=by rintro _ _ _ _ ⟨n,a,b,rfl,rfl⟩ ⟨_,_,_,h,rfl⟩; cases h; rfl
 shut h:=h
def S138:PSpec where
 R args _ v:=∃ c:Int,args=[.int .u8 c]∧v=.bool (inI 97 c 122)
 uniq:=by rintro _ _ _ _ ⟨c,rfl,rfl⟩ ⟨_,h,rfl⟩; cases h; rfl
 shut h:=h
def S139:PSpec where
 R args _ v:=∃ c:Int,args=[.int .u8 c]∧v=.bool (inI 48 c 57)
 uniq:=by rintro _ _ _ _ ⟨c,rfl,rfl⟩ ⟨_,h,rfl⟩; cases h; rfl
 shut h:=h
theorem rule49 {ov:Ov} (h:HasP ov 49 S49.F) (n a b:Int) (w:AW):(run Tryz.prog ov 1).call 49 [.int .i64 n,.int .i64 a,.int .i64 b] w .none=.ok (.ret (.bool (inI a n b))) w .none:=S49.call1 h ⟨n,a,b,rfl,rfl⟩
theorem rule138 {ov:Ov} (h:HasP ov 138 S138.F) (c:Int) (w:AW):(run Tryz.prog ov 1).call 138 [.int .u8 c] w .none=.ok (.ret (.bool (inI 97 c 122))) w .none:=S138.call1 h ⟨c,rfl,rfl⟩
theorem rule139 {ov:Ov} (h:HasP ov 139 S139.F) (c:Int) (w:AW):(run Tryz.prog ov 1).call 139 [.int .u8 c] w .none=.ok (.ret (.bool (inI 48 c 57))) w .none:=S139.call1 h ⟨c,rfl,rfl⟩
theorem run49 {ov:Ov} (ho:∀ args w,ov 49 args w=none) (n a b:Int) (w:AW):∃ v w',(run Tryz.prog ov 2).call 49 [.int .i64 n,.int .i64 a,.int .i64 b] w .none=.ok (.ret v) w' .none∧v=.bool (inI a n b):=by
 refine call_wp text49 (by simp) (ho _ _) ?_
 by_cases h1:a≤n <;> simp [mc49,h1,tupV,inI]
theorem run138 {ov:Ov} (ho:∀ args w,ov 138 args w=none) (c:Int) (w:AW):∃ v w',(run Tryz.prog ov 2).call 138 [.int .u8 c] w .none=.ok (.ret v) w' .none∧v=.bool (inI 97 c 122):=by
 refine call_wp text138 (by simp) (ho _ _) ?_
 by_cases h1:97≤c <;> simp [mc138,h1,tupV,inI]
theorem run139 {ov:Ov} (ho:∀ args w,ov 139 args w=none) (c:Int) (w:AW):∃ v w',(run Tryz.prog ov 2).call 139 [.int .u8 c] w .none=.ok (.ret v) w' .none∧v=.bool (inI 48 c 57):=by
 refine call_wp text139 (by simp) (ho _ _) ?_
 by_cases h1:48≤c <;> simp [mc139,h1,tupV,inI]
def letB (c:UInt8):Bool:=inI 97 c.toNat 122
def digB (c:UInt8):Bool:=inI 48 c.toNat 57
def signB (c:UInt8):Bool:=letB c || (digB c || decide ((c.toNat:Int)=45))
def wordB (s:List UInt8):Bool:=match s with | []=>false | c::_=>decide (s.length≤16) && (letB c && s.all signB)
theorem all_snoc {p:UInt8→Bool} {l:List UInt8} {i:Nat} {b:UInt8} (hb:l[i]?=some b):(l.take (i + 1)).all p=((l.take i).all p && p b):=by
 rw [List.take_add_one,hb]
 simp
theorem all_cut {p:UInt8→Bool} {l:List UInt8} {i:Nat} {b:UInt8} (hb:l[i]?=some b) (h:p b=false):l.all p=false:=by
 rw [Bool.eq_false_iff]
 intro ha
 have:=List.all_eq_true.1 ha b (List.mem_of_getElem? hb)
 rw [h] at this; cases this
def okTo (p:UInt8→Bool) (l:List UInt8) (i:Nat):Prop:=(l.take i).all p=true
theorem okTo.zero (p:UInt8→Bool) (l:List UInt8):okTo p l 0:=by simp [okTo]
theorem okTo.succ {p:UInt8→Bool} {l:List UInt8} {i:Nat} {b:UInt8} (hb:l[i]?=some b) (h:okTo p l i) (hp:p b=true):okTo p l (i + 1):=by
 unfold okTo at h ⊢
 rw [all_snoc hb,h,hp]; rfl
theorem okTo.all {p:UInt8→Bool} {l:List UInt8} {i:Nat} (h:okTo p l i) (hi:l.length≤i):l.all p=true:=by
 unfold okTo at h
 rwa [List.take_of_length_le hi] at h
theorem run99 {ov:Ov} (ho:∀ args w,ov 99 args w=none) (h82:HasP ov 138 S138.F) (h83:HasP ov 139 S139.F) (s:ByteArray) (w:AW):∃ v w',(run Tryz.prog ov 2).call 99 [.string s] w .none=.ok (.ret v) w' .none∧v=.bool (wordB s.data.toList):=by
 refine call_wp text99 (by simp) (ho _ _) ?_
 have r82:=rule138 h82
 have r83:=rule139 h83
 obtain ⟨⟨L⟩⟩:=s
 cases hL:L with
 | nil=>simp [mc99,wordB,tupV]
 | cons c l =>
  have hx0:∀ w k,indexA Tryz.prog w 9 (.string ⟨⟨c::l⟩⟩) (.int k 0)=.val (.int .u8 (c.toNat:Int)) w:=fun w k=>ix9 w _ k 0 c rfl
  by_cases h1:(16:Int) < (l.length:Int) + 1
  ·have h1':¬ l.length + 1≤16:=by omega
   simp [mc99,wordB,tupV,h1,h1']
  ·cases h2:letB c with
   | false =>
    have h2':inI 97 c.toNat 122=false:=h2
    simp [mc99,wordB,tupV,h1,h2,hx0,r82,h2']
   | true =>
    have h2':inI 97 c.toNat 122=true:=h2
    simp [mc99,tupV,h1,hx0,r82,h2']
    refine wp_seqX (wp_blockX (wp_rounds (fun i t w=>tget t 0=.string ⟨⟨c::l⟩⟩∧tget t 18=.int .i64 ((l.length + 1:Nat):Int)∧tget t 19=.int .i64 (i:Nat)∧i≤l.length + 1∧okTo signB (c::l) i) 20 (by decide) ?_ ?_))
    ·simp [okTo.zero]
    ·rintro i t w ⟨t0,t18,t19,hi,hall⟩
     by_cases hlt:i < l.length + 1
     ·obtain ⟨b,hb⟩:∃ b,(c::l)[i]?=some b:=⟨_,List.getElem?_eq_getElem (by simpa using hlt)⟩
      have hx:∀ w k,indexA Tryz.prog w 9 (.string ⟨⟨c::l⟩⟩) (.int k (i:Int))=.val (.int .u8 (b.toNat:Int)) w:=fun w k=>ix9 w _ k i b hb
      have hltI:(i:Int) < (l.length:Int) + 1:=by omega
      have hw:IntKind.wrap .i64 ((i:Int) + 1)=(i:Int) + 1:=w6i (by omega) (by omega)
      have hc:=all_cut (p:=signB) hb
      cases h3:inI 97 b.toNat 122 with
      | true =>
       have h6:signB b=true:=by simp [signB,letB,h3]
       simp [mc99_l0,t0,t18,t19,hltI,hx,r82,h3,hw]
       exact ⟨by omega,by omega,hall.succ hb h6⟩
      | false =>
       cases h4:inI 48 b.toNat 57 with
       | true =>
        have h6:signB b=true:=by simp [signB,digB,h4]
        simp [mc99_l0,t0,t18,t19,hltI,hx,r82,r83,h3,h4,hw]
        exact ⟨by omega,by omega,hall.succ hb h6⟩
       | false =>
        by_cases h5:(b.toNat:Int)=45
        ·have h6:signB b=true:=by simp [signB,h5]
         have e1:inI 97 45 122=false:=by decide
         have e2:inI 48 45 57=false:=by decide
         simp [mc99_l0,t0,t18,t19,hltI,hx,r82,r83,e1,e2,h5,hw]
         exact ⟨by omega,by omega,hall.succ hb h6⟩
        ·have h6:signB b=false:=by simp [signB,letB,digB,h3,h4,h5]
         have h7:wordB (c::l)=false:=by
          show (decide ((c::l).length≤16) && (letB c && (c::l).all signB))=false
          rw [hc h6]; simp
         simp [mc99_l0,t0,t18,t19,hltI,hx,r82,r83,h3,h4,h5,hw,tupV,h7]
     ·have hi':i=l.length + 1:=by omega
      subst hi'
      have h7:wordB (c::l)=true:=by
       have hall:=hall.all (by simp)
       show (decide ((c::l).length≤16) && (letB c && (c::l).all signB))=true
       rw [hall,h2]
       simp; omega
      simp [mc99_l0,t0,t18,t19,tupV,h7]
theorem wrap_byte (b:UInt8):IntKind.wrap .i64 (b.toNat:Int)=(b.toNat:Int):=w6i (by omega) (by have:=b.toNat_lt; omega)
def okW (L:List UInt8):Prop:=L.length≤16∧∃ c l,L=c::l∧letB c=true
def Inv48 (L:List UInt8) (i:Nat) (ok:Bool):Prop:=(ok=true→i≤L.length∧okTo signB L i∧okW L)∧(ok=false→wordB L=false)
theorem loop73 {ov:Ov} (h32:HasP ov 49 S49.F) (L:List UInt8) (Q:Ex→Tm→AW→Prop) (ok:Bool) (t:Tm) (w:AW) (t0:tget t 0=.string ⟨⟨L⟩⟩) (t3:tget t 3=.bool ok) (t4:tget t 4=.int .i64 0)
  (hy:ok=true→okW L) (hn:ok=false→wordB L=false) (hQ:∀ t w,tget t 3=.bool (wordB L)→Q (.exit 0) t w):wp (exM Tryz.prog (run Tryz.prog ov 1) (.loop mc73_l0) t w) Q:=by
 have r32:=rule49 h32
 refine wp_rounds (fun i t w=>tget t 0=.string ⟨⟨L⟩⟩∧tget t 4=.int .i64 (i:Nat)∧∃ ok,tget t 3=.bool ok∧Inv48 L i ok) 20 (by decide) ⟨t0,t4,ok,t3,fun h=>⟨Nat.zero_le _,okTo.zero _ _,hy h⟩,hn⟩ ?_
 rintro i t w ⟨t0,t4,ok,t3,hy,hn⟩
 cases ok with
 | false =>
  simp [mc73_l0,t0,t3,t4]
  exact hQ _ _ (by simp [t3,hn rfl])
 | true =>
  obtain ⟨hi,hall,hlen,c,l,rfl,hc⟩:=hy rfl
  simp only [List.length_cons] at hi hlen
  by_cases hlt:i < l.length + 1
  ·obtain ⟨b,hb⟩:∃ b,(c::l)[i]?=some b:=⟨_,List.getElem?_eq_getElem (by simpa using hlt)⟩
   have hx:∀ w k,indexA Tryz.prog w 9 (.string ⟨⟨c::l⟩⟩) (.int k (i:Int))=.val (.int .u8 (b.toNat:Int)) w:=fun w k=>ix9 w _ k i b hb
   have hltI:(i:Int) < (l.length:Int) + 1:=by omega
   have hw:IntKind.wrap .i64 ((i:Int) + 1)=(i:Int) + 1:=w6i (by omega) (by omega)
   have hwb:=wrap_byte b
   have fin:∀ x:Bool,x=signB b→Inv48 (c::l) (i + 1) x:=by
    intro x hx
    subst hx
    refine ⟨fun h=>⟨hlt,hall.succ hb h,hlen,c,l,rfl,hc⟩,fun h=>?_⟩
    show (decide ((c::l).length≤16) && (letB c && (c::l).all signB))=false
    rw [all_cut hb h]; simp
   cases h3:inI 97 b.toNat 122 with
   | true =>
    simp [mc73_l0,t0,t3,t4,hltI,hx,r32,h3,hw,hwb]
    exact ⟨by omega,fin true (by simp [signB,letB,h3])⟩
   | false =>
    cases h4:inI 48 b.toNat 57 with
    | true =>
     simp [mc73_l0,t0,t3,t4,hltI,hx,r32,h3,h4,hw,hwb]
     exact ⟨by omega,fin true (by simp [signB,digB,h4])⟩
    | false =>
     simp [mc73_l0,t0,t3,t4,hltI,hx,r32,h3,h4,hw,hwb]
     refine ⟨by omega,?_⟩
     by_cases h5:(b.toNat:Int)=45
     ·exact .inr ⟨h5,fin true (by simp [signB,h5])⟩
     ·exact .inl ⟨h5,fin false (by simp [signB,letB,digB,h3,h4,h5])⟩
  ·have hi':i=l.length + 1:=by omega
   subst hi'
   have h7:wordB (c::l)=true:=by
    show (decide ((c::l).length≤16) && (letB c && (c::l).all signB))=true
    rw [hall.all (by simp),hc]
    simp; omega
   simp [mc73_l0,t0,t3,t4]
   exact hQ _ _ (by simp [t3,h7])
theorem run73 {ov:Ov} (ho:∀ args w,ov 73 args w=none) (h32:HasP ov 49 S49.F) (s:ByteArray) (w:AW):∃ v w',(run Tryz.prog ov 2).call 73 [.string s] w .none=.ok (.ret v) w' .none∧v=.bool (wordB s.data.toList):=by
 refine call_wp text73 (by simp) (ho _ _) ?_
 have r32:=rule49 h32
 obtain ⟨⟨L⟩⟩:=s
 cases L with
 | nil =>
  have h1:inI 1 0 16=false:=by decide
  simp [mc73,r32,h1]
  refine wp_seqX (wp_blockX (loop73 h32 [] _ false _ _ ?_ ?_ ?_ (fun h=>by cases h) (fun _=>rfl) fun t w h=>?_)) <;> simp [tupV, *]
 | cons c l =>
  have hx0:∀ w k,indexA Tryz.prog w 9 (.string ⟨⟨c::l⟩⟩) (.int k 0)=.val (.int .u8 (c.toNat:Int)) w:=fun w k=>ix9 w _ k 0 c rfl
  have hwb:=wrap_byte c
  cases h1:inI 1 ((l.length:Int) + 1) 16 with
  | false =>
   have h2:¬ (c::l).length≤16:=by
    simp [inI] at h1 ⊢; omega
   simp [mc73,r32,h1]
   have h3:wordB (c::l)=false:=by
    show (decide ((c::l).length≤16) && (letB c && (c::l).all signB))=false
    simp only [h2,decide_false,Bool.false_and]
   refine wp_seqX (wp_blockX (loop73 h32 (c::l) _ false _ _ ?_ ?_ ?_ (fun h=>by cases h) (fun _=>h3) fun t w h=>?_)) <;> simp [tupV, *]
  | true =>
   have h2:(c::l).length≤16:=by
    simp [inI] at h1 ⊢; omega
   simp [mc73,r32,h1,hx0,hwb]
   have h3:letB c=false→wordB (c::l)=false:=fun h=>by
    show (decide ((c::l).length≤16) && (letB c && (c::l).all signB))=false
    simp [h]
   refine wp_seqX (wp_blockX (loop73 h32 (c::l) _ (letB c) _ _ ?_ ?_ ?_ (fun h=>⟨h2,c,l,rfl,h⟩) h3 fun t w h=>?_))
   ·simp
   ·simp [letB]
   ·simp
   ·simp [tupV,h]
def S99:PSpec where
 R args _ v:=∃ s:ByteArray,args=[.string s]∧v=.bool (wordB s.data.toList)
 uniq:=by rintro _ _ _ _ ⟨n,rfl,rfl⟩ ⟨_,h,rfl⟩; cases h; rfl
 shut h:=h
abbrev Bs:=List UInt8
def st (l:Bs):Value:=.string ⟨⟨l⟩⟩
structure Nt where
 kind:Int
 by_:Bs
 seq:Int
 to_:Bs
 claim:Bs
 from_:Int
 until_:Int
 depth:Int
 of_:Int
 deriving DecidableEq
def ntC (n:Nt):List Value:=[.int .i64 n.kind,.string ⟨⟨n.by_⟩⟩,.int .i64 n.seq,.string ⟨⟨n.to_⟩⟩,.string ⟨⟨n.claim⟩⟩,.int .i64 n.from_,.int .i64 n.until_,.int .i64 n.depth,.int .i64 n.of_]
@[simp] theorem ntC_length (n:Nt):(ntC n).length=9:=by simp [ntC]
theorem ntC_singles (n:Nt):singles (ntC n)=true:=by simp [ntC]
theorem st_inj {a b:Bs} (h:(Value.string ⟨⟨a⟩⟩)=.string ⟨⟨b⟩⟩):a=b:=by
 injection h with h; injection h with h; injection h
theorem ntC_inj {a b:Nt} (h:ntC a=ntC b):a=b:=by
 obtain ⟨a1,a2,a3,a4,a5,a6,a7,a8,a9⟩:=a
 obtain ⟨b1,b2,b3,b4,b5,b6,b7,b8,b9⟩:=b
 simp only [ntC,List.cons.injEq,Value.int.injEq,true_and,and_true] at h
 obtain ⟨rfl,h2,rfl,h4,h5,rfl,rfl,rfl,rfl⟩:=h
 rw [st_inj h2,st_inj h4,st_inj h5]
theorem sameL_string (cs:List Nat) (a b:Bs) (xs ys:List Value):sameL (2::cs) (.string ⟨⟨a⟩⟩::xs) (.string ⟨⟨b⟩⟩::ys)=bif decide (a=b) then sameL cs xs ys else some false:=by
 simp [sameL,same1,sameStr,byteL_iff]
theorem eq_str (a b:Bs):eqFlat false [2] (.string ⟨⟨a⟩⟩) (.string ⟨⟨b⟩⟩)=some (decide (a=b)):=by
 simp [eqFlat,flatCells,sameL,same1,sameStr,byteL_iff]
theorem bif_some_and (b c:Bool):(bif b then some c else some false)=some (b && c):=by cases b <;> rfl
theorem eq_nt (a b:Nt):eqFlat true [0,2,0,2,2,0,0,0,0] (.agg ⟨ntC a⟩) (.agg ⟨ntC b⟩)=some (decide (a=b)):=by
 obtain ⟨a1,a2,a3,a4,a5,a6,a7,a8,a9⟩:=a
 obtain ⟨b1,b2,b3,b4,b5,b6,b7,b8,b9⟩:=b
 rw [eqFlat_agg]
 simp only [ntC,sameL_int,sameL_string,sameL_nil,bif_some_and]
 congr 1
 simp only [Nt.mk.injEq,Bool.and_true,Bool.decide_and]
def noteB (n : Nt) : Bool := wordB n.by_ && (inI 1 n.seq 1000 && (inI 0 n.from_ 30000 &&
  (if n.kind = 1 then wordB n.to_ && (wordB n.claim && (!decide (n.to_ = n.by_) && (inI n.from_ n.until_ 30000 && (inI 0 n.depth 5 && decide (n.of_ = 0)))))
   else if n.kind = 2 then inI 1 n.of_ 1000 && (decide (n.to_ = []) && (decide (n.claim = []) && (decide (n.until_ = 0) && decide (n.depth = 0)))) else false)))
def notesB (L:List Nt):Bool:=decide (L.length≤40) && L.all noteB
abbrev S100:PSpec:=S49
def S122:PSpec where
 R args _ v:=∃ n:Int,args=[.int .i64 n]∧v=.bool (inI 1 n 1000)
 uniq:=by rintro _ _ _ _ ⟨n,rfl,rfl⟩ ⟨_,h,rfl⟩; cases h; rfl
 shut h:=h
def S68:PSpec where
 R args _ v:=∃ n:Int,args=[.int .i64 n]∧v=.bool (inI 0 n 30000)
 uniq:=by rintro _ _ _ _ ⟨n,rfl,rfl⟩ ⟨_,h,rfl⟩; cases h; rfl
 shut h:=h
theorem run100 {ov:Ov} (ho:∀ args w,ov 100 args w=none) (n a b:Int) (w:AW):∃ v w',(run Tryz.prog ov 2).call 100 [.int .i64 n,.int .i64 a,.int .i64 b] w .none=.ok (.ret v) w' .none∧v=.bool (inI a n b):=by
 refine call_wp text100 (by simp) (ho _ _) ?_
 by_cases h1:a≤n <;> simp [mc100,h1,tupV,inI]
theorem rule100 {ov:Ov} (h:HasP ov 100 S100.F) (n a b:Int) (m:Nat) (w:AW):(run Tryz.prog ov (m + 1)).call 100 [.int .i64 n,.int .i64 a,.int .i64 b] w .none=.ok (.ret (.bool (inI a n b))) w .none:=S49.call h ⟨n,a,b,rfl,rfl⟩
theorem run122 {ov:Ov} (ho:∀ args w,ov 122 args w=none) (h:HasP ov 100 S100.F) (n:Int) (w:AW):∃ v w',(run Tryz.prog ov 2).call 122 [.int .i64 n] w .none=.ok (.ret v) w' .none∧v=.bool (inI 1 n 1000):=by
 refine call_wp text122 (by simp) (ho _ _) ?_
 have r:=fun w=>rule100 h n 1 1000 0 w
 simp [mc122,r,tupV]
theorem run68 {ov:Ov} (ho:∀ args w,ov 68 args w=none) (h:HasP ov 100 S100.F) (n:Int) (w:AW):∃ v w',(run Tryz.prog ov 2).call 68 [.int .i64 n] w .none=.ok (.ret v) w' .none∧v=.bool (inI 0 n 30000):=by
 refine call_wp text68 (by simp) (ho _ _) ?_
 have r:=fun w=>rule100 h n 0 30000 0 w
 simp [mc68,r,tupV]
def stC (l:Bs):List Value:=[.string ⟨⟨l⟩⟩]
@[simp] theorem stC_length (l:Bs):(stC l).length=1:=by simp [stC]
theorem stC_inj {a b:Bs} (h:stC a=stC b):a=b:=by
 simp only [stC,List.cons.injEq,and_true] at h
 exact st_inj h
theorem len28V {w w':AW} {v:Value} {l:List Bs} (h:RowsV stC w v l):lenB Tryz.prog w' 28 v=.val (.int .i64 (l.length:Nat)) w':=by
 obtain ⟨a,c,rfl⟩:=h.len; simp
theorem len22V {w w':AW} {v:Value} {l:List Nt} (h:RowsV ntC w v l):lenB Tryz.prog w' 22 v=.val (.int .i64 (l.length:Nat)) w':=by
 obtain ⟨a,c,rfl⟩:=h.len; simp
def S67:PSpec where
 R args w v:=∃ (u:Value) (L:List Bs),args=[u]∧RowsV stC w u L∧L.length≤100∧v=.bool (L.all wordB)
 uniq:=by
  rintro _ _ _ _ ⟨u,L,rfl,h,_,rfl⟩ ⟨u',L',e,h',_,rfl⟩
  cases e
  rw [h.uniq stC_length (fun a b=>stC_inj) h']
 shut h:=h
def S57:PSpec where
 R args w v:=∃ (u:Value) (L:List Nt),args=[u]∧RowsV ntC w u L∧v=.bool (notesB L)
 uniq:=by
  rintro _ _ _ _ ⟨u,L,rfl,h,rfl⟩ ⟨u',L',e,h',rfl⟩
  cases e
  rw [h.uniq ntC_length (fun a b=>ntC_inj) h']
 shut h:=h
end Go.Proofs.YtnjknghdpobcmaaGreatDoor.walk
