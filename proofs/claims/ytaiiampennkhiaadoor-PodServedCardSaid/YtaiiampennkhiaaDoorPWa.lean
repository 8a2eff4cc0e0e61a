/- Part of a proof by a machine of ones own: see the text with the theorem. -/
import Derived.Test.YtaiiampennkhiaaDoorPT
namespace Go.Proofs.YtaiiampennkhiaaDoor.walk
open Go Go.Sh
set_option maxRecDepth 100000
def inI (a n b:Int):Bool:=decide (a≤n) && decide (n≤b)
def spanI (lo hi a b:Int):Bool:=decide (a≤lo) && (decide (lo≤hi) && decide (hi≤b))
noncomputable def F33:PureF:=fun args _=>match args with | [.int .i64 n,.int .i64 a,.int .i64 b]=>some (.bool (inI a n b)) | _=>none
noncomputable def F46:PureF:=fun args _=>match args with | [.agg ⟨[.int .i64 lo,.int .i64 hi]⟩,.int .i64 a,.int .i64 b]=>some (.bool (spanI lo hi a b)) | _=>none
noncomputable def F100:PureF:=fun args _=>match args with | [.int .u8 c]=>some (.bool (inI 97 c 122)) | _=>none
noncomputable def F101:PureF:=fun args _=>match args with | [.int .u8 c]=>some (.bool (inI 48 c 57)) | _=>none
theorem rule33 {ov:Ov} (h:HasP ov 33 F33) (n a b:Int) (w:AW):(run Tryd.prog ov 1).call 33 [.int .i64 n,.int .i64 a,.int .i64 b] w .none=.ok (.ret (.bool (inI a n b))) w .none:=h.call rfl
theorem rule46 {ov:Ov} (h:HasP ov 46 F46) (lo hi a b:Int) (w:AW):(run Tryd.prog ov 1).call 46 [.agg ⟨[.int .i64 lo,.int .i64 hi]⟩,.int .i64 a,.int .i64 b] w .none=.ok (.ret (.bool (spanI lo hi a b))) w .none:=h.call rfl
theorem rule79 {ov:Ov} (h:HasP ov 79 F46) (lo hi a b:Int) (w:AW):(run Tryd.prog ov 1).call 79 [.agg ⟨[.int .i64 lo,.int .i64 hi]⟩,.int .i64 a,.int .i64 b] w .none=.ok (.ret (.bool (spanI lo hi a b))) w .none:=h.call rfl
theorem rule100 {ov:Ov} (h:HasP ov 100 F100) (c:Int) (w:AW):(run Tryd.prog ov 1).call 100 [.int .u8 c] w .none=.ok (.ret (.bool (inI 97 c 122))) w .none:=h.call rfl
theorem rule101 {ov:Ov} (h:HasP ov 101 F101) (c:Int) (w:AW):(run Tryd.prog ov 1).call 101 [.int .u8 c] w .none=.ok (.ret (.bool (inI 48 c 57))) w .none:=h.call rfl
theorem run33 {ov:Ov} (ho:∀ args w,ov 33 args w=none) (n a b:Int) (w:AW):∃ v w',(run Tryd.prog ov 2).call 33 [.int .i64 n,.int .i64 a,.int .i64 b] w .none=.ok (.ret v) w' .none∧v=.bool (inI a n b):=by
 refine call_wp text33 (by simp) (ho _ _) ?_
 by_cases h1:a≤n <;> simp [mc33,h1,tupV,inI]
theorem run46 {ov:Ov} (ho:∀ args w,ov 46 args w=none) (lo hi a b:Int) (w:AW):∃ v w',(run Tryd.prog ov 2).call 46 [.agg ⟨[.int .i64 lo,.int .i64 hi]⟩,.int .i64 a,.int .i64 b] w .none=.ok (.ret v) w' .none∧v=.bool (spanI lo hi a b):=by
 refine call_wp text46 (by simp) (ho _ _) ?_
 by_cases h1:a≤lo <;> by_cases h2:lo≤hi <;> simp [mc46,h1,h2,tupV,spanI]
theorem run79 {ov:Ov} (ho:∀ args w,ov 79 args w=none) (lo hi a b:Int) (w:AW):∃ v w',(run Tryd.prog ov 2).call 79 [.agg ⟨[.int .i64 lo,.int .i64 hi]⟩,.int .i64 a,.int .i64 b] w .none=.ok (.ret v) w' .none∧v=.bool (spanI lo hi a b):=by
 refine call_wp text79 (by simp) (ho _ _) ?_
 by_cases h1:a≤lo <;> by_cases h2:lo≤hi <;> simp [mc79,h1,h2,tupV,spanI]
theorem run100 {ov:Ov} (ho:∀ args w,ov 100 args w=none) (c:Int) (w:AW):∃ v w',(run Tryd.prog ov 2).call 100 [.int .u8 c] w .none=.ok (.ret v) w' .none∧v=.bool (inI 97 c 122):=by
 refine call_wp text100 (by simp) (ho _ _) ?_
 by_cases h1:97≤c <;> simp [mc100,h1,tupV,inI]
theorem run101 {ov:Ov} (ho:∀ args w,ov 101 args w=none) (c:Int) (w:AW):∃ v w',(run Tryd.prog ov 2).call 101 [.int .u8 c] w .none=.ok (.ret v) w' .none∧v=.bool (inI 48 c 57):=by
 refine call_wp text101 (by simp) (ho _ _) ?_
 by_cases h1:48≤c <;> simp [mc101,h1,tupV,inI]
end Go.Proofs.YtaiiampennkhiaaDoor.walk
namespace Go.Proofs.YtaiiampennkhiaaDoor.walk
open Go Go.Sh
set_option maxRecDepth 100000
def letB (c:UInt8):Bool:=inI 97 c.toNat 122
def digB (c:UInt8):Bool:=inI 48 c.toNat 57
def signB (c:UInt8):Bool:=letB c || (digB c || decide ((c.toNat:Int)=45))
def wordB (s:List UInt8):Bool:=match s with | []=>false | c::_=>decide (s.length≤16) && (letB c && s.all signB)
theorem all_snoc {p:UInt8→Bool} {l:List UInt8} {i:Nat} {b:UInt8} (hb:l[i]?=some b):(l.take (i + 1)).all p=((l.take i).all p && p b):=by
 rw [List.take_add_one,hb]
 simp
theorem all_cut {p:UInt8→Bool} {l:List UInt8} {i:Nat} {b:UInt8} (hb:l[i]?=some b) (h:p b=false):l.all p=false:=by
 rw [Bool.eq_false_iff]
 intro ha
 have:=List.all_eq_true.1 ha b (List.mem_of_getElem? hb)
 rw [h] at this; cases this
def okTo (p:UInt8→Bool) (l:List UInt8) (i:Nat):Prop:=(l.take i).all p=true
theorem okTo.zero (p:UInt8→Bool) (l:List UInt8):okTo p l 0:=by simp [okTo]
theorem okTo.succ {p:UInt8→Bool} {l:List UInt8} {i:Nat} {b:UInt8} (hb:l[i]?=some b) (h:okTo p l i) (hp:p b=true):okTo p l (i + 1):=by
 unfold okTo at h ⊢
 rw [all_snoc hb,h,hp]; rfl
theorem okTo.all {p:UInt8→Bool} {l:List UInt8} {i:Nat} (h:okTo p l i) (hi:l.length≤i):l.all p=true:=by
 unfold okTo at h
 rwa [List.take_of_length_le hi] at h
theorem run87 {ov:Ov} (ho:∀ args w,ov 87 args w=none) (h100:HasP ov 100 F100) (h101:HasP ov 101 F101) (s:ByteArray) (w:AW):∃ v w',(run Tryd.prog ov 2).call 87 [.string s] w .none=.ok (.ret v) w' .none∧v=.bool (wordB s.data.toList):=by
 refine call_wp text87 (by simp) (ho _ _) ?_
 have r100:=rule100 h100
 have r101:=rule101 h101
 obtain ⟨⟨L⟩⟩:=s
 cases hL:L with
 | nil=>simp [mc87,wordB,tupV]
 | cons c l =>
  have hx0:∀ w k,indexA Tryd.prog w 9 (.string ⟨⟨c::l⟩⟩) (.int k 0)=.val (.int .u8 (c.toNat:Int)) w:=fun w k=>ix9 w _ k 0 c rfl
  by_cases h1:(16:Int) < (l.length:Int) + 1
  ·have h1':¬ l.length + 1≤16:=by omega
   simp [mc87,wordB,tupV,h1,h1']
  ·cases h2:letB c with
   | false =>
    have h2':inI 97 c.toNat 122=false:=h2
    simp [mc87,wordB,tupV,h1,h2,hx0,r100,h2']
   | true =>
    have h2':inI 97 c.toNat 122=true:=h2
    simp [mc87,tupV,h1,hx0,r100,h2']
    refine wp_seqX (wp_blockX (wp_rounds (fun i t w=>tget t 0=.string ⟨⟨c::l⟩⟩∧tget t 18=.int .i64 ((l.length + 1:Nat):Int)∧tget t 19=.int .i64 (i:Nat)∧i≤l.length + 1∧okTo signB (c::l) i) 20 (by decide) ?_ ?_))
    ·simp [okTo.zero]
    ·rintro i t w ⟨t0,t18,t19,hi,hall⟩
     by_cases hlt:i < l.length + 1
     ·obtain ⟨b,hb⟩:∃ b,(c::l)[i]?=some b:=⟨_,List.getElem?_eq_getElem (by simpa using hlt)⟩
      have hx:∀ w k,indexA Tryd.prog w 9 (.string ⟨⟨c::l⟩⟩) (.int k (i:Int))=.val (.int .u8 (b.toNat:Int)) w:=fun w k=>ix9 w _ k i b hb
      have hltI:(i:Int) < (l.length:Int) + 1:=by omega
      have hw:IntKind.wrap .i64 ((i:Int) + 1)=(i:Int) + 1:=wrap64_in (by omega) (by omega)
      have hc:=all_cut (p:=signB) hb
      cases h3:inI 97 b.toNat 122 with
      | true =>
       have h6:signB b=true:=by simp [signB,letB,h3]
       simp [mc87_l0,t0,t18,t19,hltI,hx,r100,h3,hw]
       exact ⟨by omega,by omega,hall.succ hb h6⟩
      | false =>
       cases h4:inI 48 b.toNat 57 with
       | true =>
        have h6:signB b=true:=by simp [signB,digB,h4]
        simp [mc87_l0,t0,t18,t19,hltI,hx,r100,r101,h3,h4,hw]
        exact ⟨by omega,by omega,hall.succ hb h6⟩
       | false =>
        by_cases h5:(b.toNat:Int)=45
        ·have h6:signB b=true:=by simp [signB,h5]
         have e1:inI 97 45 122=false:=by decide
         have e2:inI 48 45 57=false:=by decide
         simp [mc87_l0,t0,t18,t19,hltI,hx,r100,r101,e1,e2,h5,hw]
         exact ⟨by omega,by omega,hall.succ hb h6⟩
        ·have h6:signB b=false:=by simp [signB,letB,digB,h3,h4,h5]
         have h7:wordB (c::l)=false:=by
          show (decide ((c::l).length≤16) && (letB c && (c::l).all signB))=false
          rw [hc h6]; simp
         simp [mc87_l0,t0,t18,t19,hltI,hx,r100,r101,h3,h4,h5,hw,tupV,h7]
     ·have hi':i=l.length + 1:=by omega
      subst hi'
      have h7:wordB (c::l)=true:=by
       have hall:=hall.all (by simp)
       show (decide ((c::l).length≤16) && (letB c && (c::l).all signB))=true
       rw [hall,h2]
       simp; omega
      simp [mc87_l0,t0,t18,t19,tupV,h7]
end Go.Proofs.YtaiiampennkhiaaDoor.walk
namespace Go.Proofs.YtaiiampennkhiaaDoor.walk
open Go Go.Sh
set_option maxRecDepth 100000
theorem wrap_byte (b:UInt8):IntKind.wrap .i64 (b.toNat:Int)=(b.toNat:Int):=wrap64_in (by omega) (by have:=b.toNat_lt; omega)
def okW (L:List UInt8):Prop:=L.length≤16∧∃ c l,L=c::l∧letB c=true
def Inv45 (L:List UInt8) (i:Nat) (ok:Bool):Prop:=(ok=true→i≤L.length∧okTo signB L i∧okW L)∧(ok=false→wordB L=false)
theorem loop45 {ov:Ov} (h33:HasP ov 33 F33) (L:List UInt8) (Q:Ex→Tm→AW→Prop) (ok:Bool) (t:Tm) (w:AW) (t0:tget t 0=.string ⟨⟨L⟩⟩) (t3:tget t 3=.bool ok) (t4:tget t 4=.int .i64 0)
  (hy:ok=true→okW L) (hn:ok=false→wordB L=false) (hQ:∀ t w,tget t 3=.bool (wordB L)→Q (.exit 0) t w):wp (exM Tryd.prog (run Tryd.prog ov 1) (.loop mc45_l0) t w) Q:=by
 have r33:=rule33 h33
 refine wp_rounds (fun i t w=>tget t 0=.string ⟨⟨L⟩⟩∧tget t 4=.int .i64 (i:Nat)∧∃ ok,tget t 3=.bool ok∧Inv45 L i ok) 20 (by decide) ⟨t0,t4,ok,t3,fun h=>⟨Nat.zero_le _,okTo.zero _ _,hy h⟩,hn⟩ ?_
 rintro i t w ⟨t0,t4,ok,t3,hy,hn⟩
 cases ok with
 | false =>
  simp [mc45_l0,t0,t3,t4]
  exact hQ _ _ (by simp [t3,hn rfl])
 | true =>
  obtain ⟨hi,hall,hlen,c,l,rfl,hc⟩:=hy rfl
  simp only [List.length_cons] at hi hlen
  by_cases hlt:i < l.length + 1
  ·obtain ⟨b,hb⟩:∃ b,(c::l)[i]?=some b:=⟨_,List.getElem?_eq_getElem (by simpa using hlt)⟩
   have hx:∀ w k,indexA Tryd.prog w 9 (.string ⟨⟨c::l⟩⟩) (.int k (i:Int))=.val (.int .u8 (b.toNat:Int)) w:=fun w k=>ix9 w _ k i b hb
   have hltI:(i:Int) < (l.length:Int) + 1:=by omega
   have hw:IntKind.wrap .i64 ((i:Int) + 1)=(i:Int) + 1:=wrap64_in (by omega) (by omega)
   have hwb:=wrap_byte b
   have fin:∀ x:Bool,x=signB b→Inv45 (c::l) (i + 1) x:=by
    intro x hx
    subst hx
    refine ⟨fun h=>⟨hlt,hall.succ hb h,hlen,c,l,rfl,hc⟩,fun h=>?_⟩
    show (decide ((c::l).length≤16) && (letB c && (c::l).all signB))=false
    rw [all_cut hb h]; simp
   cases h3:inI 97 b.toNat 122 with
   | true =>
    simp [mc45_l0,t0,t3,t4,hltI,hx,r33,h3,hw,hwb]
    exact ⟨by omega,fin true (by simp [signB,letB,h3])⟩
   | false =>
    cases h4:inI 48 b.toNat 57 with
    | true =>
     simp [mc45_l0,t0,t3,t4,hltI,hx,r33,h3,h4,hw,hwb]
     exact ⟨by omega,fin true (by simp [signB,digB,h4])⟩
    | false =>
     simp [mc45_l0,t0,t3,t4,hltI,hx,r33,h3,h4,hw,hwb]
     refine ⟨by omega,?_⟩
     by_cases h5:(b.toNat:Int)=45
     ·exact .inr ⟨h5,fin true (by simp [signB,h5])⟩
     ·exact .inl ⟨h5,fin false (by simp [signB,letB,digB,h3,h4,h5])⟩
  ·have hi':i=l.length + 1:=by omega
   subst hi'
   have h7:wordB (c::l)=true:=by
    show (decide ((c::l).length≤16) && (letB c && (c::l).all signB))=true
    rw [hall.all (by simp),hc]
    simp; omega
   simp [mc45_l0,t0,t3,t4]
   exact hQ _ _ (by simp [t3,h7])
theorem run45 {ov:Ov} (ho:∀ args w,ov 45 args w=none) (h33:HasP ov 33 F33) (s:ByteArray) (w:AW):∃ v w',(run Tryd.prog ov 2).call 45 [.string s] w .none=.ok (.ret v) w' .none∧v=.bool (wordB s.data.toList):=by
 refine call_wp text45 (by simp) (ho _ _) ?_
 have r33:=rule33 h33
 obtain ⟨⟨L⟩⟩:=s
 cases L with
 | nil =>
  have h1:inI 1 0 16=false:=by decide
  simp [mc45,r33,h1]
  refine wp_seqX (wp_blockX (loop45 h33 [] _ false _ _ ?_ ?_ ?_ (fun h=>by cases h) (fun _=>rfl) fun t w h=>?_)) <;> simp [tupV, *]
 | cons c l =>
  have hx0:∀ w k,indexA Tryd.prog w 9 (.string ⟨⟨c::l⟩⟩) (.int k 0)=.val (.int .u8 (c.toNat:Int)) w:=fun w k=>ix9 w _ k 0 c rfl
  have hwb:=wrap_byte c
  cases h1:inI 1 ((l.length:Int) + 1) 16 with
  | false =>
   have h2:¬ (c::l).length≤16:=by
    simp [inI] at h1 ⊢; omega
   simp [mc45,r33,h1]
   have h3:wordB (c::l)=false:=by
    show (decide ((c::l).length≤16) && (letB c && (c::l).all signB))=false
    simp only [h2,decide_false,Bool.false_and]
   refine wp_seqX (wp_blockX (loop45 h33 (c::l) _ false _ _ ?_ ?_ ?_ (fun h=>by cases h) (fun _=>h3) fun t w h=>?_)) <;> simp [tupV, *]
  | true =>
   have h2:(c::l).length≤16:=by
    simp [inI] at h1 ⊢; omega
   simp [mc45,r33,h1,hx0,hwb]
   have h3:letB c=false→wordB (c::l)=false:=fun h=>by
    show (decide ((c::l).length≤16) && (letB c && (c::l).all signB))=false
    simp [h]
   refine wp_seqX (wp_blockX (loop45 h33 (c::l) _ (letB c) _ _ ?_ ?_ ?_ (fun h=>⟨h2,c,l,rfl,h⟩) h3 fun t w h=>?_))
   ·simp
   ·simp [letB]
   ·simp
   ·simp [tupV,h]
end Go.Proofs.YtaiiampennkhiaaDoor.walk
namespace Go.Proofs.YtaiiampennkhiaaDoor.walk
open Go Go.Sh
set_option maxRecDepth 100000
noncomputable def F87:PureF:=fun args _=>match args with | [.string s]=>some (.bool (wordB s.data.toList)) | _=>none
theorem rule87 {ov:Ov} (h:HasP ov 87 F87) (s:ByteArray) (w:AW):(run Tryd.prog ov 1).call 87 [.string s] w .none=.ok (.ret (.bool (wordB s.data.toList))) w .none:=h.call rfl
theorem rule45 {ov:Ov} (h:HasP ov 45 F87) (s:ByteArray) (w:AW):(run Tryd.prog ov 1).call 45 [.string s] w .none=.ok (.ret (.bool (wordB s.data.toList))) w .none:=h.call rfl
structure Pod where
 tag:ByteArray
 born:Int
 rl:Int
 rh:Int
 hl:Int
 hh:Int
 gl:Int
 gh:Int
def podC (p:Pod):List Value:=[.string p.tag,.int .i64 p.born,.int .i64 p.rl,.int .i64 p.rh,.int .i64 p.hl,.int .i64 p.hh,.int .i64 p.gl,.int .i64 p.gh]
def podB (p:Pod):Bool:=wordB p.tag.data.toList && (inI 0 p.born 1000 && (spanI p.rl p.rh 1 400 && (spanI p.hl p.hh 1 100 && spanI p.gl p.gh 0 100)))
def podOf (l:List Value):Option Pod:=match l with
 | [.string t,.int .i64 b,.int .i64 rl,.int .i64 rh,.int .i64 hl,.int .i64 hh,.int .i64 gl,.int .i64 gh]=>some ⟨t,b,rl,rh,hl,hh,gl,gh⟩
 | _=>none
theorem podOf_some {l:List Value} {p:Pod} (h:podOf l=some p):l=podC p:=by
 unfold podOf at h
 split at h
 ·cases h; rfl
 ·cases h
theorem podOf_C (p:Pod):podOf (podC p)=some p:=rfl
noncomputable def F70:PureF:=fun args _=>match args with | [.agg ⟨l⟩]=>(podOf l).map fun p=>.bool (podB p) | _=>none
theorem rule70 {ov:Ov} (h:HasP ov 70 F70) (p:Pod) (w:AW):(run Tryd.prog ov 1).call 70 [.agg ⟨podC p⟩] w .none=.ok (.ret (.bool (podB p))) w .none:=h.call rfl
theorem run70 {ov:Ov} (ho:∀ args w,ov 70 args w=none) (h87:HasP ov 87 F87) (h79:HasP ov 79 F46) (p:Pod) (w:AW):∃ v w',(run Tryd.prog ov 2).call 70 [.agg ⟨podC p⟩] w .none=.ok (.ret v) w' .none∧v=.bool (podB p):=by
 refine call_wp text70 (by simp) (ho _ _) ?_
 have r87:=rule87 h87
 have r79:=rule79 h79
 obtain ⟨t,b,rl,rh,hl,hh,gl,gh⟩:=p
 cases h1:wordB t.data.toList with
 | false=>simp [mc70,podC,r87,r79,h1,tupV,podB]
 | true =>
  by_cases h2:b < 0
  ·have h2':¬ 0≤b:=by omega
   simp [mc70,podC,r87,r79,h1,tupV,podB,h2,inI,h2']
  ·by_cases h3:1000 < b
   ·have h3':¬ b≤1000:=by omega
    simp [mc70,podC,r87,r79,h1,tupV,podB,h2,h3,inI,h3']
   ·have h4:inI 0 b 1000=true:=by simp [inI]; omega
    cases h5:spanI rl rh 1 400 with
    | false=>simp [mc70,podC,r87,r79,h1,tupV,podB,h2,h3,h4,h5]
    | true=>cases h6:spanI hl hh 1 100 <;> simp [mc70,podC,r87,r79,h1,tupV,podB,h2,h3,h4,h5,h6]
noncomputable def F48:PureF:=fun args _=>match args with | [.agg ⟨[.int .i64 a,.int .i64 b]⟩]=>some (.bool (decide (b < a))) | _=>none
theorem rule48 {ov:Ov} (h:HasP ov 48 F48) (a b:Int) (w:AW):(run Tryd.prog ov 1).call 48 [.agg ⟨[.int .i64 a,.int .i64 b]⟩] w .none=.ok (.ret (.bool (decide (b < a)))) w .none:=h.call rfl
theorem run48 {ov:Ov} (ho:∀ args w,ov 48 args w=none) (a b:Int) (w:AW):∃ v w',(run Tryd.prog ov 2).call 48 [.agg ⟨[.int .i64 a,.int .i64 b]⟩] w .none=.ok (.ret v) w' .none∧v=.bool (decide (b < a)):=by
 refine call_wp text48 (by simp) (ho _ _) ?_
 simp [mc48,tupV]
def winL (p:Pod):Int:=IntKind.wrap .i64 (p.born + p.rh)
def winH (p:Pod):Int:=IntKind.wrap .i64 (IntKind.wrap .i64 (IntKind.wrap .i64 (p.born + p.rl) + p.hl) - 1)
noncomputable def F47:PureF:=fun args _=>match args with | [.agg ⟨l⟩]=>(podOf l).map fun p=>.agg ⟨[.int .i64 (winL p),.int .i64 (winH p)]⟩ | _=>none
theorem rule47 {ov:Ov} (h:HasP ov 47 F47) (p:Pod) (w:AW):(run Tryd.prog ov 1).call 47 [.agg ⟨podC p⟩] w .none=.ok (.ret (.agg ⟨[.int .i64 (winL p),.int .i64 (winH p)]⟩)) w .none:=h.call rfl
theorem run47 {ov:Ov} (ho:∀ args w,ov 47 args w=none) (p:Pod) (w:AW) (hl:w.lim=w.next):∃ v w',(run Tryd.prog ov 2).call 47 [.agg ⟨podC p⟩] w .none=.ok (.ret v) w' .none∧v=.agg ⟨[.int .i64 (winL p),.int .i64 (winH p)]⟩:=by
 refine call_wp text47 (by simp) (ho _ _) ?_
 obtain ⟨H,n,l⟩:=w
 simp only at hl
 subst hl
 simp [mc47,podC,tupV,winL,winH]
theorem run49 {ov:Ov} (ho:∀ args w,ov 49 args w=none) (p:Pod) (w:AW) (hl:w.lim=w.next):∃ v w',(run Tryd.prog ov 2).call 49 [.agg ⟨podC p⟩] w .none=.ok (.ret v) w' .none∧v=.agg ⟨[.int .i64 (winL p),.int .i64 (winH p)]⟩:=by
 refine call_wp text49 (by simp) (ho _ _) ?_
 obtain ⟨H,n,l⟩:=w
 simp only at hl
 subst hl
 simp [mc49,podC,tupV,winL,winH]
end Go.Proofs.YtaiiampennkhiaaDoor.walk
