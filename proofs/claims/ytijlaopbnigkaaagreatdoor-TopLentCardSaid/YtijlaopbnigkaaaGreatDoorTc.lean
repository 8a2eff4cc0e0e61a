/- Part of a proof: see the text with the theorem. -/
import Derived.Test.YtijlaopbnigkaaaGreatDoorTb
import Derived.Test.YtijlaopbnigkaaaGreatDoorShF
set_option linter.all false
namespace Go.Proofs.YtijlaopbnigkaaaGreatDoor.walk
open Go Go.Sh
set_option maxRecDepth 100000
def letB (c:UInt8):Bool:=inI 97 c.toNat 122
def digB (c:UInt8):Bool:=inI 48 c.toNat 57
def signB (c:UInt8):Bool:=letB c || (digB c || decide ((c.toNat:Int)=45))
def wordB (s:List UInt8):Bool:=match s with | []=>false | c::_=>decide (s.length≤16) && (letB c && s.all signB)
theorem all_snoc {p:UInt8→Bool} {l:List UInt8} {i:Nat} {b:UInt8} (hb:l[i]?=some b):(l.take (i + 1)).all p=((l.take i).all p && p b):=by
 rw [List.take_add_one,hb]
 simp
theorem all_cut {p:UInt8→Bool} {l:List UInt8} {i:Nat} {b:UInt8} (hb:l[i]?=some b) (h:p b=false):l.all p=false:=by
 rw [Bool.eq_false_iff]
 intro ha
 have:=List.all_eq_true.1 ha b (List.mem_of_getElem? hb)
 rw [h] at this; cases this
def okTo (p:UInt8→Bool) (l:List UInt8) (i:Nat):Prop:=(l.take i).all p=true
theorem okTo.zero (p:UInt8→Bool) (l:List UInt8):okTo p l 0:=by simp [okTo]
theorem okTo.succ {p:UInt8→Bool} {l:List UInt8} {i:Nat} {b:UInt8} (hb:l[i]?=some b) (h:okTo p l i) (hp:p b=true):okTo p l (i + 1):=by
 unfold okTo at h ⊢
 rw [all_snoc hb,h,hp]; rfl
theorem okTo.all {p:UInt8→Bool} {l:List UInt8} {i:Nat} (h:okTo p l i) (hi:l.length≤i):l.all p=true:=by
 unfold okTo at h
 rwa [List.take_of_length_le hi] at h
theorem run80 {ov:Ov} (ho:∀ args w,ov 80 args w=none) (h100:HasP ov 96 F96) (h101:HasP ov 97 F97) (s:ByteArray) (w:AW):∃ v w',(run Tryz.prog ov 2).call 80 [.string s] w .none=.ok (.ret v) w' .none∧v=.bool (wordB s.data.toList):=by
 refine call_wp text80 (by simp) (ho _ _) ?_
 have r100:=rule96 h100
 have r101:=rule97 h101
 obtain ⟨⟨L⟩⟩:=s
 cases hL:L with
 | nil=>simp [mc80,wordB,tupV]
 | cons c l =>
  have hx0:∀ w k,indexA Tryz.prog w 9 (.string ⟨⟨c::l⟩⟩) (.int k 0)=.val (.int .u8 (c.toNat:Int)) w:=fun w k=>ix9 w _ k 0 c rfl
  by_cases h1:(16:Int) < (l.length:Int) + 1
  ·have h1':¬ l.length + 1≤16:=by omega
   simp [mc80,wordB,tupV,h1,h1']
  ·cases h2:letB c with
   | false =>
    have h2':inI 97 c.toNat 122=false:=h2
    simp [mc80,wordB,tupV,h1,h2,hx0,r100,h2']
   | true =>
    have h2':inI 97 c.toNat 122=true:=h2
    simp [mc80,tupV,h1,hx0,r100,h2']
    refine wp_seqX (wp_blockX (wp_rounds (fun i t w=>tget t 0=.string ⟨⟨c::l⟩⟩∧tget t 18=.int .i64 ((l.length + 1:Nat):Int)∧tget t 19=.int .i64 (i:Nat)∧i≤l.length + 1∧okTo signB (c::l) i) 20 (by decide) ?_ ?_))
    ·simp [okTo.zero]
    ·rintro i t w ⟨t0,t18,t19,hi,hall⟩
     by_cases hlt:i < l.length + 1
     ·obtain ⟨b,hb⟩:∃ b,(c::l)[i]?=some b:=⟨_,List.getElem?_eq_getElem (by simpa using hlt)⟩
      have hx:∀ w k,indexA Tryz.prog w 9 (.string ⟨⟨c::l⟩⟩) (.int k (i:Int))=.val (.int .u8 (b.toNat:Int)) w:=fun w k=>ix9 w _ k i b hb
      have hltI:(i:Int) < (l.length:Int) + 1:=by omega
      have hw:IntKind.wrap .i64 ((i:Int) + 1)=(i:Int) + 1:=wrap64_in (by omega) (by omega)
      have hc:=all_cut (p:=signB) hb
      cases h3:inI 97 b.toNat 122 with
      | true =>
       have h6:signB b=true:=by simp [signB,letB,h3]
       simp [mc80_l0,t0,t18,t19,hltI,hx,r100,h3,hw]
       exact ⟨by omega,by omega,hall.succ hb h6⟩
      | false =>
       cases h4:inI 48 b.toNat 57 with
       | true =>
        have h6:signB b=true:=by simp [signB,digB,h4]
        simp [mc80_l0,t0,t18,t19,hltI,hx,r100,r101,h3,h4,hw]
        exact ⟨by omega,by omega,hall.succ hb h6⟩
       | false =>
        by_cases h5:(b.toNat:Int)=45
        ·have h6:signB b=true:=by simp [signB,h5]
         have e1:inI 97 45 122=false:=by decide
         have e2:inI 48 45 57=false:=by decide
         simp [mc80_l0,t0,t18,t19,hltI,hx,r100,r101,e1,e2,h5,hw]
         exact ⟨by omega,by omega,hall.succ hb h6⟩
        ·have h6:signB b=false:=by simp [signB,letB,digB,h3,h4,h5]
         have h7:wordB (c::l)=false:=by
          show (decide ((c::l).length≤16) && (letB c && (c::l).all signB))=false
          rw [hc h6]; simp
         simp [mc80_l0,t0,t18,t19,hltI,hx,r100,r101,h3,h4,h5,hw,tupV,h7]
     ·have hi':i=l.length + 1:=by omega
      subst hi'
      have h7:wordB (c::l)=true:=by
       have hall:=hall.all (by simp)
       show (decide ((c::l).length≤16) && (letB c && (c::l).all signB))=true
       rw [hall,h2]
       simp; omega
      simp [mc80_l0,t0,t18,t19,tupV,h7]
noncomputable def F80:PureF:=fun args _=>match args with | [.string s]=>some (.bool (wordB s.data.toList)) | _=>none
theorem rule80 {ov:Ov} (h:HasP ov 80 F80) (s:ByteArray) (w:AW):(run Tryz.prog ov 1).call 80 [.string s] w .none=.ok (.ret (.bool (wordB s.data.toList))) w .none:=h.call rfl
structure Pod where
 tag:ByteArray
 born:Int
 rl:Int
 rh:Int
 hl:Int
 hh:Int
 gl:Int
 gh:Int
def podC (p:Pod):List Value:=[.string p.tag,.int .i64 p.born,.int .i64 p.rl,.int .i64 p.rh,.int .i64 p.hl,.int .i64 p.hh,.int .i64 p.gl,.int .i64 p.gh]
def podB (p:Pod):Bool:=wordB p.tag.data.toList && (inI 0 p.born 1000 && (spanI p.rl p.rh 1 400 && (spanI p.hl p.hh 1 100 && spanI p.gl p.gh 0 100)))
def podOf (l:List Value):Option Pod:=match l with
 | [.string t,.int .i64 b,.int .i64 rl,.int .i64 rh,.int .i64 hl,.int .i64 hh,.int .i64 gl,.int .i64 gh]=>some ⟨t,b,rl,rh,hl,hh,gl,gh⟩
 | _=>none
theorem podOf_some {l:List Value} {p:Pod} (h:podOf l=some p):l=podC p:=by
 unfold podOf at h
 split at h
 ·cases h; rfl
 ·cases h
theorem podOf_C (p:Pod):podOf (podC p)=some p:=rfl
noncomputable def F68:PureF:=fun args _=>match args with | [.agg ⟨l⟩]=>(podOf l).map fun p=>.bool (podB p) | _=>none
theorem rule68 {ov:Ov} (h:HasP ov 68 F68) (p:Pod) (w:AW):(run Tryz.prog ov 1).call 68 [.agg ⟨podC p⟩] w .none=.ok (.ret (.bool (podB p))) w .none:=h.call rfl
theorem run68 {ov:Ov} (ho:∀ args w,ov 68 args w=none) (h87:HasP ov 80 F80) (h79:HasP ov 83 F46) (p:Pod) (w:AW):∃ v w',(run Tryz.prog ov 2).call 68 [.agg ⟨podC p⟩] w .none=.ok (.ret v) w' .none∧v=.bool (podB p):=by
 refine call_wp text68 (by simp) (ho _ _) ?_
 have r87:=rule80 h87
 have r79:=rule83 h79
 obtain ⟨t,b,rl,rh,hl,hh,gl,gh⟩:=p
 cases h1:wordB t.data.toList with
 | false=>simp [mc68,podC,r87,r79,h1,tupV,podB]
 | true =>
  by_cases h2:b < 0
  ·have h2':¬ 0≤b:=by omega
   simp [mc68,podC,r87,r79,h1,tupV,podB,h2,inI,h2']
  ·by_cases h3:1000 < b
   ·have h3':¬ b≤1000:=by omega
    simp [mc68,podC,r87,r79,h1,tupV,podB,h2,h3,inI,h3']
   ·have h4:inI 0 b 1000=true:=by simp [inI]; omega
    cases h5:spanI rl rh 1 400 with
    | false=>simp [mc68,podC,r87,r79,h1,tupV,podB,h2,h3,h4,h5]
    | true=>cases h6:spanI hl hh 1 100 <;> simp [mc68,podC,r87,r79,h1,tupV,podB,h2,h3,h4,h5,h6]
@[simp] theorem lk100 (w:AW) (b:Nat) (k:ByteArray):lookupA Tryz.prog w 146 (.map (some b)) (.string k) false=lookO w k (w.heap.get b):=lookup_str (e:=4) (by kernel_rfl) (by kernel_rfl) b k
@[simp] theorem up100 (w:AW) (b:Nat) (k:ByteArray) (x:Value):mapUpdateA Tryz.prog w 146 (.map (some b)) (.string k) x=updO w b k x (w.heap.get b):=update_str (e:=4) (by kernel_rfl) b k x
def podsC (l:List Pod):List Value:=l.flatMap podC
def tagsTo (l:List Pod) (i:Nat):List ByteArray:=(l.take i).map (·.tag)
def chkB (l:List Pod):Nat→Bool
 | 0=>true
 | i + 1=>chkB l i && (match l[i]? with | some p=>podB p && !hasT (tagsTo l i) p.tag | none=>true)
def podsB (l:List Pod):Bool:=decide (l.length≤12) && chkB l l.length
@[simp] theorem podC_length (p:Pod):(podC p).length=8:=by simp [podC]
@[simp] theorem podC_singles (p:Pod):singles (podC p)=true:=by simp [podC]
@[simp] theorem podC_take (p:Pod):(podC p).take 8=podC p:=by simp [podC]
@[simp] theorem podC_g0 (p:Pod) (h:0 < (podC p).length):(podC p)[0]=.string p.tag:=by simp [podC]
@[simp] theorem podC_0 (p:Pod):(podC p)[0]?=some (.string p.tag):=by simp [podC]
theorem pods_at:∀ (l:List Pod) (i:Nat) (p:Pod) (rest:List Value),l[i]?=some p→((podsC l++rest).drop (i * 8)).take 8=podC p∧i * 8 + 8≤(podsC l++rest).length
 | [],i,p,rest,h=>by simp at h
 | q::l,0,p,rest,h=>by
  simp only [List.getElem?_cons_zero,Option.some.injEq] at h
  subst h
  refine ⟨?_,?_⟩
  ·show ((podC q++podsC l++rest).drop 0).take 8=_
   rw [List.drop_zero,List.append_assoc,List.take_append_of_le_length (by rw [podC_length]; omega),List.take_of_length_le (by rw [podC_length]; omega)]
  ·show 0 * 8 + 8≤(podC q++podsC l++rest).length
   simp [podC_length]
 | q::l,i + 1,p,rest,h=>by
  rw [List.getElem?_cons_succ] at h
  obtain ⟨h1,h2⟩:=pods_at l i p rest h
  refine ⟨?_,?_⟩
  ·show ((podC q++podsC l++rest).drop ((i + 1) * 8)).take 8=_
   have e:(i + 1) * 8=(podC q).length + i * 8:=by rw [podC_length]; omega
   rw [e,List.append_assoc,← List.drop_drop,List.drop_left,h1]
  ·show (i + 1) * 8 + 8≤(podC q++podsC l++rest).length
   rw [List.append_assoc,List.length_append,podC_length]; omega
theorem chk_snoc {l:List Pod} {i:Nat} {p:Pod} (h:l[i]?=some p):chkB l (i + 1)=(chkB l i && (podB p && !hasT (tagsTo l i) p.tag)):=by
 show (chkB l i && (match l[i]? with | some p=>podB p && !hasT (tagsTo l i) p.tag | none=>true))=_
 rw [h]
theorem chk_false {l : List Pod} {i : Nat} (h : chkB l i = false) : ∀ n, i ≤ n → chkB l n = false
  | 0, hn => by obtain rfl : i = 0 := by omega
                exact h
  | n + 1, hn => by
    rcases Nat.eq_or_lt_of_le hn with e | h1
    · rw [← e]; exact h
    · show (chkB l n && _) = false
      rw [chk_false h n (by omega)]; rfl
theorem tags_snoc {l:List Pod} {i:Nat} {p:Pod} (h:l[i]?=some p):tagsTo l (i + 1)=tagsTo l i++[p.tag]:=by
 unfold tagsTo
 rw [List.take_add_one,h]
 simp
theorem tags_length {l:List Pod} {i:Nat} (h:i≤l.length):(tagsTo l i).length=i:=by
 simp [tagsTo]; omega
theorem load_pod {w:AW} {b i:Nat} {l:List Pod} {rest:List Value} {e:TypeId} {ro:Bool} {p:Pod} (hb:w.heap.get b=some (.cells (podsC l++rest) e ro)) (hp:l[i]?=some p):rdO (w.heap.get b) (i * 8) 8=some (podC p):=by
 obtain ⟨h1,h2⟩:=pods_at l i p rest hp
 rw [hb,rdO_cells,if_pos h2,h1]
structure PodsAt (w:AW) (b:Nat) (l:List Pod):Prop where
 at_:∃ rest e ro,w.heap.get b=some (.cells (podsC l++rest) e ro)
 lt:b < w.next
structure In52 (l:List Pod) (b M N:Nat) (i:Nat) (w:AW):Prop where
 pods:l=[]∨(PodsAt w b l∧b < M)
 tags:w.heap.get M=some (.map (entsFrom 0 (tagsTo l i)) i)
 lim:w.lim≤M
 next:M < w.next
 ok:chkB l i=true
 le:i≤l.length
theorem PodsAt.put {w:AW} {b:Nat} {l:List Pod} (h:PodsAt w b l) {k n lim:Nat} {o:Option AObj} (hk:b ≠ k) (hn:w.next≤n):PodsAt ⟨w.heap.put k o,n,lim⟩ b l:=by
 obtain ⟨⟨rest,e,ro,h1⟩,h2⟩:=h
 exact ⟨⟨rest,e,ro,by rw [get_put,if_neg hk]; exact h1⟩,Nat.lt_of_lt_of_le h2 hn⟩
theorem loop52 {sq:Option Nat} {ov:Ov} (h70:HasP ov 68 F68) (l:List Pod) (b c M:Nat) (Q:Ex→Tm→AW→Prop) (t:Tm) (w:AW) (hw:In52 l b M 0 0 w) (hlen:l.length≤12)
  (t3:tget t 3=.map (some M)) (v10:Value) (t10:tget t 10=v10) (hv:∀ i,i < l.length→v10=.slice (some ⟨b,0,sq⟩) l.length c) (t11:tget t 11=.int .i64 (l.length:Nat)) (t12:tget t 12=.int .i64 0)
  (hyes:chkB l l.length=true→∀ t w,Q (.exit 0) t w) (hno:chkB l l.length=false→∀ t w,tget t 2=.bool false→Q .ret t w):wp (exM Tryz.prog (run Tryz.prog ov 1) (.loop mc52_l0) t w) Q:=by
 have r70:=rule68 h70
 refine wp_rounds (fun i t w=>tget t 3=.map (some M)∧tget t 10=v10∧tget t 11=.int .i64 (l.length:Nat)∧tget t 12=.int .i64 (i:Nat)∧In52 l b M 0 i w) 20 (by decide) ⟨t3,t10,t11,t12,hw⟩ ?_
 rintro i t w ⟨t3,t10,t11,t12,hI⟩
 by_cases hlt:i < l.length
 ·obtain ⟨p,hp⟩:∃ p,l[i]?=some p:=⟨_,List.getElem?_eq_getElem hlt⟩
  have hv10:=hv i hlt
  have hpods:PodsAt w b l∧b < M:=by
   rcases hI.pods with h | h
   ·subst h; simp at hlt
   ·exact h
  obtain ⟨rest,e,ro,hcells⟩:=hpods.1.at_
  have hld:=load_pod hcells hp
  have hbn:b ≠ w.next:=Nat.ne_of_lt hpods.1.lt
  have hbM:b ≠ M:=Nat.ne_of_lt hpods.2
  have hMn:M ≠ w.next:=Nat.ne_of_lt hI.next
  have hia:=fun w=>ia22 w ⟨b,0,sq⟩ l.length c .i64 i hlt
  have hw1:IntKind.wrap .i64 ((i:Int) + 1)=(i:Int) + 1:=wrap64_in (by omega) (by omega)
  have htag:=hI.tags
  have hlim:=hI.lim
  have hlimn:w.lim≤w.next:=by have:=hI.next; omega
  cases h1:podB p with
  | false =>
   have hbad:chkB l l.length=false:=chk_false (i:=i + 1) (by rw [chk_snoc hp,h1]; simp) _ (by omega)
   simp [mc52_l0,t3,t10,hv10,t11,t12,hlt,hia,hld,hbn,hMn,hlimn,podC_length,cellsOf_agg,r70,h1]
   refine hno hbad _ _ ?_
   simp
  | true =>
   cases h2:hasT (tagsTo l i) p.tag with
   | true =>
    have hbad:chkB l l.length=false:=chk_false (i:=i + 1) (by rw [chk_snoc hp,h2]; simp) _ (by omega)
    simp [mc52_l0,t3,t10,hv10,t11,t12,hlt,hia,hld,hbn,hMn,hlimn,podC_length,podC_0,cellsOf_agg,r70,h1,htag,h2]
    refine hno hbad _ _ ?_
    simp
   | false =>
    have hgood:chkB l (i + 1)=true:=by rw [chk_snoc hp,h1,h2,hI.ok]; rfl
    have htl:(tagsTo l i).length=i:=tags_length hI.le
    simp [mc52_l0,t3,t10,hv10,t11,t12,hlt,hia,hld,hbn,hMn,hlimn,podC_length,podC_0,cellsOf_agg,r70,h1,htag,h2,hlim,htl,hw1]
    refine ⟨by omega,.inr ⟨PodsAt.put (w:=⟨_,w.next + 1,w.lim⟩) (PodsAt.put (w:=⟨_,w.next,w.lim⟩) (hpods.1.put hbn (Nat.le_refl _)) hbn (Nat.le_succ _)) hbM (Nat.le_refl _),hpods.2⟩,?_,hlim,?_,hgood,hlt⟩
    ·simp [tags_snoc hp]
    ·have:=hI.next; simp; omega
 ·have hi:i=l.length:=by have:=hI.le; omega
  subst hi
  simp [mc52_l0,t11,t12]
  exact hyes hI.ok _ _
noncomputable def parseP:Nat→List Value→Option (List Pod)
 | 0,_=>some []
 | n + 1,cs=>match podOf (cs.take 8) with
  | some p=>match parseP n (cs.drop 8) with
   | some l=>some (p::l)
   | none=>none
  | none=>none
theorem parseP_some:∀ (n:Nat) (cs:List Value) (l:List Pod),parseP n cs=some l→l.length=n∧∃ rest,cs=podsC l++rest
 | 0,cs,l,h=>by cases h; exact ⟨rfl,cs,rfl⟩
 | n + 1,cs,l,h=>by
  unfold parseP at h
  cases h1:podOf (cs.take 8) with
  | none=>rw [h1] at h; cases h
  | some p =>
   rw [h1] at h
   simp only at h
   cases h2:parseP n (cs.drop 8) with
   | none=>rw [h2] at h; cases h
   | some l' =>
    rw [h2] at h
    cases h
    obtain ⟨h3,rest,h4⟩:=parseP_some n _ _ h2
    refine ⟨by simp [h3],rest,?_⟩
    show cs=podC p++podsC l'++rest
    rw [List.append_assoc,← h4,← podOf_some h1,List.take_append_drop]
theorem parseP_C:∀ (l:List Pod) (rest:List Value),parseP l.length (podsC l++rest)=some l
 | [],rest=>rfl
 | p::l,rest=>by
  show (match podOf ((podC p++podsC l++rest).take 8) with | some p=>(match parseP l.length ((podC p++podsC l++rest).drop 8) with | some l=>some (p::l) | none=>none) | none=>none)=_
  have h1:(podC p++podsC l++rest).take 8=podC p:=by
   rw [List.append_assoc,List.take_append_of_le_length (by simp),List.take_of_length_le (by simp)]
  have h2:(podC p++podsC l++rest).drop 8=podsC l++rest:=by
   rw [List.append_assoc]
   have:=List.drop_left (l₁:=podC p) (l₂:=podsC l++rest)
   rwa [podC_length] at this
  rw [h1,podOf_C]
  simp only [h2,parseP_C l rest]
noncomputable def podsIn (w:AW) (v:Value):Option (List Pod) :=
 match v with
 | .slice _ 0 _=>some []
 | .slice (some ⟨b,0,_⟩) n _=>if b < w.next then (cellsO (w.heap.get b)).bind (parseP n) else none
 | _=>none
def PodsV (w:AW) (v:Value) (l:List Pod):Prop:=(∃ a c,v=.slice a 0 c∧l=[])∨∃ b sq c,v=.slice (some ⟨b,0,sq⟩) l.length c∧PodsAt w b l
theorem cellsO_get {o:Option AObj} {c:List Value} (h:cellsO o=some c):∃ e ro,o=some (.cells c e ro):=by
 cases o with
 | none=>cases h
 | some o=>cases o with
  | cells c' e ro=>cases h; exact ⟨e,ro,rfl⟩
  | _=>cases h
theorem podsIn_some {w:AW} {v:Value} {l:List Pod} (h:podsIn w v=some l):PodsV w v l:=by
 unfold podsIn at h
 split at h
 ·cases h; exact .inl ⟨_,_,rfl,rfl⟩
 ·rename_i b sq n c _
  split at h
  ·rename_i hb
   obtain ⟨cs,h1,h2⟩:=Option.bind_eq_some_iff.1 h
   obtain ⟨e,ro,h3⟩:=cellsO_get h1
   obtain ⟨h4,rest,h5⟩:=parseP_some n cs l h2
   subst h4 h5
   exact .inr ⟨b,_,c,rfl,⟨rest,e,ro,h3⟩,hb⟩
  ·cases h
 ·cases h
theorem PodsAt.podsIn {w:AW} {b:Nat} {l:List Pod} (h:PodsAt w b l) (sq:Option Nat) (c:Nat):podsIn w (.slice (some ⟨b,0,sq⟩) l.length c)=some l:=by
 obtain ⟨⟨rest,e,ro,h1⟩,h2⟩:=h
 cases l with
 | nil=>rfl
 | cons p l =>
  show (if b < w.next then (cellsO (w.heap.get b)).bind (parseP (p::l).length) else none)=_
  rw [if_pos h2,h1]
  exact parseP_C (p::l) rest
theorem PodsV.podsIn {w:AW} {v:Value} {l:List Pod} (h:PodsV w v l):podsIn w v=some l:=by
 rcases h with ⟨a,c,rfl,rfl⟩ | ⟨b,sq,c,rfl,hp⟩
 ·rfl
 ·exact hp.podsIn sq c
noncomputable def F52:PureF:=fun args w=>match args with | [v]=>(podsIn w v).map fun l=>.bool (podsB l) | _=>none
noncomputable def errB (b:Bool) (e:Int):Value:=.int .i64 (bif b then 0 else e)
noncomputable def F31:PureF:=fun args w=>match args with | [v]=>(podsIn w v).map fun l=>errB (podsB l) 30 | _=>none
theorem run52 {ov:Ov} (ho:∀ args w,ov 52 args w=none) (h70:HasP ov 68 F68) (v:Value) (l:List Pod) (w:AW) (hl:w.lim=w.next) (hv:PodsV w v l):∃ u w',(run Tryz.prog ov 2).call 52 [v] w .none=.ok (.ret u) w' .none∧u=.bool (podsB l):=by
 refine call_wp text52 (by simp) (ho _ _) ?_
 rcases hv with ⟨a,c,rfl,rfl⟩ | ⟨b,sq,c,rfl,hp⟩
 ·simp [mc52]
  refine wp_seqX (wp_blockX (loop52 (sq:=none) h70 [] 0 0 w.next _ _ _ ⟨.inl rfl,?_,?_,?_,rfl,?_⟩ ?_ ?_ _ rfl ?_ ?_ ?_ ?_ ?_)) <;> simp [tupV,podsB,chkB,hl,entsFrom,tagsTo]
 ·by_cases h12:(12:Int) < (l.length:Int)
  ·have h12':¬ l.length≤12:=by omega
   simp [mc52,h12,tupV,podsB,h12']
  ·have h12':l.length≤12:=by omega
   simp [mc52,h12]
   have hne:b ≠ w.next:=Nat.ne_of_lt hp.lt
   refine wp_seqX (wp_blockX (loop52 (sq:=sq) h70 l b c w.next _ _ _ ⟨.inr ⟨hp.put hne (Nat.le_succ _),hp.lt⟩,?_,?_,?_,rfl,?_⟩ h12' ?_ _ rfl ?_ ?_ ?_ ?_ ?_))
   all_goals first
    | (simp [hl,entsFrom,tagsTo]; done)
    | (intro hc t w; simp [tupV,podsB,h12',hc]; done)
    | (intro hc t w h2; simp [tupV,podsB,h12',hc,h2]; done)
    | skip
theorem rule52 {ov:Ov} (h:HasP ov 52 F52) {v:Value} {l:List Pod} {w:AW} (hv:podsIn w v=some l):(run Tryz.prog ov 1).call 52 [v] w .none=.ok (.ret (.bool (podsB l))) w .none:=h.call (by simp [F52,hv])
theorem run31 {ov:Ov} (ho:∀ args w,ov 31 args w=none) (h44:HasP ov 52 F52) (v:Value) (l:List Pod) (w:AW) (hv:podsIn w v=some l):∃ u w',(run Tryz.prog ov 2).call 31 [v] w .none=.ok (.ret u) w' .none∧u=errB (podsB l) 30:=by
 refine call_wp text31 (by simp) (ho _ _) ?_
 have r44:=rule52 h44 hv
 cases h:podsB l <;> simp [mc31,r44,h,tupV,errB]
theorem rule31 {ov:Ov} (h:HasP ov 31 F31) {v:Value} {l:List Pod} {w:AW} (hv:podsIn w v=some l):(run Tryz.prog ov 1).call 31 [v] w .none=.ok (.ret (errB (podsB l) 30)) w .none:=h.call (by simp [F31,hv])
def PartsAt (w:AW):Prop:=∃ ro,w.heap.get 0=some (.cells partsC 140 ro)
structure In3 (l:List Pod) (b:Nat) (w:AW):Prop where
 pods:l=[]∨PodsAt w b l
 lim:w.lim≤w.next
 parts:PartsAt w
 pos:0 < w.next
theorem PartsAt.put {w:AW} (h:PartsAt w) {k n lim:Nat} {o:Option AObj} (hk:0 ≠ k):PartsAt ⟨w.heap.put k o,n,lim⟩:=by
 obtain ⟨ro,h⟩:=h
 exact ⟨ro,by rw [get_put,if_neg hk]; exact h⟩
theorem In3.add {l:List Pod} {b:Nat} {w:AW} (h:In3 l b w) (o:Option AObj):In3 l b ⟨w.heap.put w.next o,w.next + 1,w.lim⟩:=by
 obtain ⟨h1,h2,h3,h4⟩:=h
 refine ⟨?_,Nat.le_succ_of_le h2,h3.put (Nat.ne_of_lt h4),Nat.lt_succ_of_lt h4⟩
 rcases h1 with h1 | h1
 ·exact .inl h1
 ·exact .inr (h1.put (Nat.ne_of_lt h1.lt) (Nat.le_succ _))
end Go.Proofs.YtijlaopbnigkaaaGreatDoor.walk
namespace Go.Sh
structure Yl where
 ripe:Int
 green:Int
 split:Int
 left:Int
def gramI (born day r g:Int):Int:=(g * min (day - born) r).tdiv 100
def ylI (born day r h g:Int):Yl :=
 if day = -1 then ⟨0,0,0,1⟩ else if day - born < r then ⟨0,gramI born day r g,0,0⟩ else if day - born < r + h then ⟨gramI born day r g,0,0,0⟩ else ⟨0,0,1,0⟩
def dayOk (born day:Int):Prop:=day = -1∨(born≤day∧day≤2000)
theorem gram_eq {born day r g:Int} (h1:born≤day) (h2:0≤r) (h3:0≤g):gramI born day r g=g * min (day - born) r / 100 :=
 Int.tdiv_eq_ediv_of_nonneg (Int.mul_nonneg h3 (by omega))
theorem gram_mono {born day r g g':Int} (h1:born≤day) (h2:0≤r) (h3:0≤g) (h4:g≤g'):gramI born day r g≤gramI born day r g':=by
 rw [gram_eq h1 h2 h3,gram_eq h1 h2 (by omega)]
 exact Int.ediv_le_ediv (by decide) (Int.mul_le_mul_of_nonneg_right h4 (by omega))
theorem gram_nonneg {born day r g:Int} (h1:born≤day) (h2:0≤r) (h3:0≤g):0≤gramI born day r g:=by
 rw [gram_eq h1 h2 h3]
 exact Int.ediv_nonneg (Int.mul_nonneg h3 (by omega)) (by decide)
theorem gram_le {born day r g:Int} (h1:born≤day) (h2:0≤r) (h3:0≤g) (h4:g≤100) (h5:r≤400):gramI born day r g≤400:=by
 rw [gram_eq h1 h2 h3]
 have h6:g * min (day - born) r≤100 * 400:=Int.mul_le_mul h4 (by omega) (by omega) (by decide)
 omega
theorem yl_ripe {born day r hl hh h gl gh g:Int} (hd:dayOk born day) (hb:0≤born) (h1:1≤r) (h2:hl≤h) (h3:h≤hh) (h4:0≤gl) (h5:gl≤g) (h6:g≤gh) :
  (ylI born day r hl gl).ripe≤(ylI born day r h g).ripe∧(ylI born day r h g).ripe≤(ylI born day r hh gh).ripe:=by
 rcases hd with rfl | ⟨k1,k2⟩
 ·simp [ylI]
 ·have e1:=gram_mono (born:=born) (day:=day) (r:=r) k1 (by omega) h4 h5
  have e2:=gram_mono (born:=born) (day:=day) (r:=r) k1 (by omega) (show 0≤g by omega) h6
  have e3:=gram_nonneg (born:=born) (day:=day) (r:=r) k1 (by omega) h4
  have hne:¬ day = -1:=by omega
  unfold ylI
  rw [if_neg hne,if_neg hne,if_neg hne]
  by_cases c1:day - born < r
  ·simp [c1]
  ·rw [if_neg c1,if_neg c1,if_neg c1]
   by_cases c2:day - born < r + hl
   ·rw [if_pos c2,if_pos (show day - born < r + h by omega),if_pos (show day - born < r + hh by omega)]
    exact ⟨e1,e2⟩
   ·rw [if_neg c2]
    by_cases c3:day - born < r + h
    ·rw [if_pos c3,if_pos (show day - born < r + hh by omega)]
     exact ⟨by show 0≤gramI born day r g; omega,e2⟩
    ·rw [if_neg c3]
     by_cases c4:day - born < r + hh
     ·rw [if_pos c4]; exact ⟨Int.le_refl _,by show 0≤gramI born day r gh; omega⟩
     ·rw [if_neg c4]; exact ⟨Int.le_refl _,Int.le_refl _⟩
theorem yl_green {born day r h1 h2 h3 gl gh g:Int} (hd:dayOk born day) (hb:0≤born) (k:1≤r) (h4:0≤gl) (h5:gl≤g) (h6:g≤gh) :
  (ylI born day r h1 gl).green≤(ylI born day r h2 g).green∧(ylI born day r h2 g).green≤(ylI born day r h3 gh).green:=by
 rcases hd with rfl | ⟨k1,k2⟩
 ·simp [ylI]
 ·have e1:=gram_mono (born:=born) (day:=day) (r:=r) k1 (by omega) h4 h5
  have e2:=gram_mono (born:=born) (day:=day) (r:=r) k1 (by omega) (show 0≤g by omega) h6
  have hne:¬ day = -1:=by omega
  have key:∀ h g,(ylI born day r h g).green=if day - born < r then gramI born day r g else 0:=by
   intro h g
   unfold ylI
   rw [if_neg hne]
   by_cases c1:day - born < r
   ·rw [if_pos c1,if_pos c1]
   ·rw [if_neg c1,if_neg c1]
    by_cases c2:day - born < r + h
    ·rw [if_pos c2]
    ·rw [if_neg c2]
  rw [key,key,key]
  by_cases c1:day - born < r
  ·rw [if_pos c1,if_pos c1,if_pos c1]; exact ⟨e1,e2⟩
  ·rw [if_neg c1,if_neg c1,if_neg c1]; exact ⟨Int.le_refl _,Int.le_refl _⟩
theorem yl_split {born day r hl hh h g1 g2 g3:Int} (hl1:0≤hl) (h2:hl≤h) (h3:h≤hh) :
  (ylI born day r hh g1).split≤(ylI born day r h g2).split∧(ylI born day r h g2).split≤(ylI born day r hl g3).split:=by
 have key:∀ h g,(ylI born day r h g).split=if day = -1∨day - born < r∨day - born < r + h then 0 else 1:=by
  intro h g
  unfold ylI
  by_cases c0:day = -1
  ·rw [if_pos c0,if_pos (.inl c0)]
  ·rw [if_neg c0]
   by_cases c1:day - born < r
   ·rw [if_pos c1,if_pos (.inr (.inl c1))]
   ·rw [if_neg c1]
    by_cases c2:day - born < r + h
    ·rw [if_pos c2,if_pos (.inr (.inr c2))]
    ·rw [if_neg c2,if_neg (fun h=>h.elim c0 fun h=>h.elim c1 c2)]
 rw [key,key,key]
 by_cases c1:day = -1∨day - born < r∨day - born < r + hl
 ·rw [if_pos c1,if_pos (show day = -1∨day - born < r∨day - born < r + h by omega),if_pos (show day = -1∨day - born < r∨day - born < r + hh by omega)]; exact ⟨Int.le_refl _,Int.le_refl _⟩
 ·rw [if_neg c1]
  by_cases c2:day = -1∨day - born < r∨day - born < r + h
  ·rw [if_pos c2,if_pos (show day = -1∨day - born < r∨day - born < r + hh by omega)]; exact ⟨Int.le_refl _,by decide⟩
  ·rw [if_neg c2]
   by_cases c3:day = -1∨day - born < r∨day - born < r + hh
   ·rw [if_pos c3]; exact ⟨by decide,by decide⟩
   ·rw [if_neg c3]; exact ⟨Int.le_refl _,Int.le_refl _⟩
def stepE (s:Yl × Yl) (y:Yl):Yl × Yl:=(⟨min s.1.ripe y.ripe,min s.1.green y.green,min s.1.split y.split,s.1.left⟩,⟨max s.2.ripe y.ripe,max s.2.green y.green,max s.2.split y.split,s.2.left⟩)
theorem fold_min {c:Yl→Int} {g:Yl × Yl→Int} (hg:∀ s y,g (stepE s y)=min (g s) (c y)):∀ (l:List Yl) (s:Yl × Yl),g (l.foldl stepE s)≤g s∧(∀ y ∈ l,g (l.foldl stepE s)≤c y)∧(g (l.foldl stepE s)=g s∨∃ y ∈ l,g (l.foldl stepE s)=c y)
 | [],s=>⟨Int.le_refl _,(fun y h=>by cases h),.inl rfl⟩
 | z::l,s=>by
  obtain ⟨h1,h2,h3⟩:=fold_min hg l (stepE s z)
  rw [hg] at h1 h3
  rw [List.foldl_cons]
  refine ⟨by omega,fun y hy=>?_,?_⟩
  ·rcases List.mem_cons.1 hy with rfl | hy
   ·omega
   ·exact h2 y hy
  ·rcases h3 with h3 | ⟨y,hy,h3⟩
   ·by_cases h:g s≤c z
    ·exact .inl (by omega)
    ·exact .inr ⟨z,List.mem_cons_self ..,by omega⟩
   ·exact .inr ⟨y,List.mem_cons_of_mem _ hy,h3⟩
theorem fold_max {c:Yl→Int} {g:Yl × Yl→Int} (hg:∀ s y,g (stepE s y)=max (g s) (c y)):∀ (l:List Yl) (s:Yl × Yl),g s≤g (l.foldl stepE s)∧(∀ y ∈ l,c y≤g (l.foldl stepE s))∧(g (l.foldl stepE s)=g s∨∃ y ∈ l,g (l.foldl stepE s)=c y)
 | [],s=>⟨Int.le_refl _,(fun y h=>by cases h),.inl rfl⟩
 | z::l,s=>by
  obtain ⟨h1,h2,h3⟩:=fold_max hg l (stepE s z)
  rw [hg] at h1 h3
  rw [List.foldl_cons]
  refine ⟨by omega,fun y hy=>?_,?_⟩
  ·rcases List.mem_cons.1 hy with rfl | hy
   ·omega
   ·exact h2 y hy
  ·rcases h3 with h3 | ⟨y,hy,h3⟩
   ·by_cases h:c z≤g s
    ·exact .inl (by omega)
    ·exact .inr ⟨z,List.mem_cons_self ..,by omega⟩
   ·exact .inr ⟨y,List.mem_cons_of_mem _ hy,h3⟩
def Tight (lo hi:Int) (S:Int→Prop):Prop:=S lo∧S hi∧∀ x,S x→lo≤x∧x≤hi
def endsY (l:List Yl):Yl × Yl:=match l with | []=>(⟨0,0,0,0⟩,⟨0,0,0,0⟩) | y::l=>l.foldl stepE (y,y)
theorem ends_tight {c:Yl→Int} {g1 g2:Yl × Yl→Int} (h1:∀ s y,g1 (stepE s y)=min (g1 s) (c y)) (h2:∀ s y,g2 (stepE s y)=max (g2 s) (c y)) (h3:∀ y,g1 (y,y)=c y) (h4:∀ y,g2 (y,y)=c y) {l:List Yl} (hl:l ≠ []) :
  Tight (g1 (endsY l)) (g2 (endsY l)) fun x=>∃ y ∈ l,c y=x:=by
 cases l with
 | nil=>exact absurd rfl hl
 | cons y l =>
  show Tight (g1 (l.foldl stepE (y,y))) (g2 (l.foldl stepE (y,y))) _
  obtain ⟨a1,a2,a3⟩:=fold_min h1 l (y,y)
  obtain ⟨b1,b2,b3⟩:=fold_max h2 l (y,y)
  rw [h3] at a1 a3
  rw [h4] at b1 b3
  refine ⟨?_,?_,?_⟩
  ·rcases a3 with h | ⟨z,hz,h⟩
   ·exact ⟨y,List.mem_cons_self ..,h.symm⟩
   ·exact ⟨z,List.mem_cons_of_mem _ hz,h.symm⟩
  ·rcases b3 with h | ⟨z,hz,h⟩
   ·exact ⟨y,List.mem_cons_self ..,h.symm⟩
   ·exact ⟨z,List.mem_cons_of_mem _ hz,h.symm⟩
  ·rintro x ⟨z,hz,rfl⟩
   rcases List.mem_cons.1 hz with rfl | hz
   ·exact ⟨a1,b1⟩
   ·exact ⟨a2 z hz,b2 z hz⟩
theorem ends_ripe {l:List Yl} (hl:l ≠ []):Tight (endsY l).1.ripe (endsY l).2.ripe fun x=>∃ y ∈ l,y.ripe=x:=ends_tight (c:=Yl.ripe) (g1:=fun s=>s.1.ripe) (g2:=fun s=>s.2.ripe) (fun _ _=>rfl) (fun _ _=>rfl) (fun _=>rfl) (fun _=>rfl) hl
theorem ends_green {l:List Yl} (hl:l ≠ []):Tight (endsY l).1.green (endsY l).2.green fun x=>∃ y ∈ l,y.green=x:=ends_tight (c:=Yl.green) (g1:=fun s=>s.1.green) (g2:=fun s=>s.2.green) (fun _ _=>rfl) (fun _ _=>rfl) (fun _=>rfl) (fun _=>rfl) hl
theorem ends_split {l:List Yl} (hl:l ≠ []):Tight (endsY l).1.split (endsY l).2.split fun x=>∃ y ∈ l,y.split=x:=ends_tight (c:=Yl.split) (g1:=fun s=>s.1.split) (g2:=fun s=>s.2.split) (fun _ _=>rfl) (fun _ _=>rfl) (fun _=>rfl) (fun _=>rfl) hl
def four (born day hl hh gl gh r:Int):List Yl:=[ylI born day r hl gl,ylI born day r hl gh,ylI born day r hh gl,ylI born day r hh gh]
def sampN (born day rl hl hh gl gh:Int):Nat→List Yl
 | 0=>[]
 | n + 1=>sampN born day rl hl hh gl gh n++four born day hl hh gl gh (rl + n)
theorem samp_mem {born day rl hl hh gl gh:Int} {y:Yl}:∀ {n:Nat},y ∈ sampN born day rl hl hh gl gh n ↔ ∃ i:Nat,i < n∧y ∈ four born day hl hh gl gh (rl + i)
 | 0=>by constructor <;> intro h <;> simp [sampN] at h
 | n + 1=>by
  unfold sampN
  rw [List.mem_append,samp_mem]
  constructor
  ·rintro (⟨i,h1,h2⟩ | h)
   ·exact ⟨i,by omega,h2⟩
   ·exact ⟨n,by omega,h⟩
  ·rintro ⟨i,h1,h2⟩
   rcases Nat.lt_or_ge i n with h | h
   ·exact .inl ⟨i,h,h2⟩
   ·obtain rfl:i=n:=by omega
    exact .inr h2
theorem samp_length {born day rl hl hh gl gh:Int}:∀ n,(sampN born day rl hl hh gl gh n).length=4 * n
 | 0=>rfl
 | n + 1=>by unfold sampN; rw [List.length_append,samp_length n]; show _ + 4=_; omega
theorem four_mem {born day hl hh gl gh r h g:Int} (h1:h=hl∨h=hh) (h2:g=gl∨g=gh):ylI born day r h g ∈ four born day hl hh gl gh r:=by
 rcases h1 with rfl | rfl <;> rcases h2 with rfl | rfl <;> simp [four]
theorem mem_four {born day hl hh gl gh r:Int} {y:Yl} (h:y ∈ four born day hl hh gl gh r):∃ h g,(h=hl∨h=hh)∧(g=gl∨g=gh)∧y=ylI born day r h g:=by
 simp only [four,List.mem_cons,List.not_mem_nil,or_false] at h
 rcases h with rfl | rfl | rfl | rfl
 ·exact ⟨_,_,.inl rfl,.inl rfl,rfl⟩
 ·exact ⟨_,_,.inl rfl,.inr rfl,rfl⟩
 ·exact ⟨_,_,.inr rfl,.inl rfl,rfl⟩
 ·exact ⟨_,_,.inr rfl,.inr rfl,rfl⟩
structure PodOk (born rl rh hl hh gl gh:Int):Prop where
 born0:0≤born
 born1:born≤1000
 r0:1≤rl
 r1:rl≤rh
 r2:rh≤400
 h0:1≤hl
 h1:hl≤hh
 h2:hh≤100
 g0:0≤gl
 g1:gl≤gh
 g2:gh≤100
section
variable {born rl rh hl hh gl gh day:Int}
def sampY (born day rl rh hl hh gl gh:Int):List Yl:=sampN born day rl hl hh gl gh (rh - rl + 1).toNat
theorem samp_at (_hp:PodOk born rl rh hl hh gl gh) {r h g:Int} (h1:rl≤r) (h2:r≤rh) (h3:h=hl∨h=hh) (h4:g=gl∨g=gh):ylI born day r h g ∈ sampY born day rl rh hl hh gl gh:=by
 refine samp_mem.2 ⟨(r - rl).toNat,by omega,?_⟩
 rw [show rl + ((r - rl).toNat:Int)=r by omega]
 exact four_mem h3 h4
theorem samp_all {y:Yl} (h:y ∈ sampY born day rl rh hl hh gl gh):∃ r h g,rl≤r∧r≤rh∧(h=hl∨h=hh)∧(g=gl∨g=gh)∧y=ylI born day r h g:=by
 obtain ⟨i,h1,h2⟩:=samp_mem.1 h
 obtain ⟨x,g,k1,k2,rfl⟩:=mem_four h2
 exact ⟨rl + i,x,g,by omega,by omega,k1,k2,rfl⟩
theorem samp_ne (hp:PodOk born rl rh hl hh gl gh):sampY born day rl rh hl hh gl gh ≠ []:=List.ne_nil_of_mem (samp_at (day:=day) hp (Int.le_refl rl) hp.r1 (.inl rfl) (.inl rfl))
theorem in_ripe (hp:PodOk born rl rh hl hh gl gh) (hd:dayOk born day) {r h g:Int} (h1:rl≤r) (h2:r≤rh) (h3:hl≤h) (h4:h≤hh) (h5:gl≤g) (h6:g≤gh) :
  (endsY (sampY born day rl rh hl hh gl gh)).1.ripe≤(ylI born day r h g).ripe∧(ylI born day r h g).ripe≤(endsY (sampY born day rl rh hl hh gl gh)).2.ripe:=by
 have T:=ends_ripe (samp_ne (day:=day) hp)
 have hr0:=hp.r0
 have key:=yl_ripe (r:=r) hd hp.born0 (by omega) h3 h4 hp.g0 h5 h6
 have a:=(T.2.2 _ ⟨_,samp_at (day:=day) hp h1 h2 (.inl rfl) (.inl rfl),rfl⟩).1
 have b:=(T.2.2 _ ⟨_,samp_at (day:=day) hp h1 h2 (.inr rfl) (.inr rfl),rfl⟩).2
 exact ⟨Int.le_trans a key.1,Int.le_trans key.2 b⟩
theorem in_green (hp:PodOk born rl rh hl hh gl gh) (hd:dayOk born day) {r h g:Int} (h1:rl≤r) (h2:r≤rh) (h5:gl≤g) (h6:g≤gh) :
  (endsY (sampY born day rl rh hl hh gl gh)).1.green≤(ylI born day r h g).green∧(ylI born day r h g).green≤(endsY (sampY born day rl rh hl hh gl gh)).2.green:=by
 have T:=ends_green (samp_ne (day:=day) hp)
 have hr0:=hp.r0
 have key:=yl_green (r:=r) (h1:=hl) (h2:=h) (h3:=hl) hd hp.born0 (by omega) hp.g0 h5 h6
 have a:=(T.2.2 _ ⟨_,samp_at (day:=day) hp h1 h2 (.inl rfl) (.inl rfl),rfl⟩).1
 have b:=(T.2.2 _ ⟨_,samp_at (day:=day) hp h1 h2 (.inl rfl) (.inr rfl),rfl⟩).2
 exact ⟨Int.le_trans a key.1,Int.le_trans key.2 b⟩
theorem in_split (hp:PodOk born rl rh hl hh gl gh) {r h g:Int} (h1:rl≤r) (h2:r≤rh) (h3:hl≤h) (h4:h≤hh) :
  (endsY (sampY born day rl rh hl hh gl gh)).1.split≤(ylI born day r h g).split∧(ylI born day r h g).split≤(endsY (sampY born day rl rh hl hh gl gh)).2.split:=by
 have T:=ends_split (samp_ne (day:=day) hp)
 have hh0:=hp.h0
 have key:=yl_split (born:=born) (day:=day) (r:=r) (g1:=gl) (g2:=g) (g3:=gl) (show 0≤hl by omega) h3 h4
 have a:=(T.2.2 _ ⟨_,samp_at (day:=day) hp h1 h2 (.inr rfl) (.inl rfl),rfl⟩).1
 have b:=(T.2.2 _ ⟨_,samp_at (day:=day) hp h1 h2 (.inl rfl) (.inl rfl),rfl⟩).2
 exact ⟨Int.le_trans a key.1,Int.le_trans key.2 b⟩
theorem yl_bd (hp:PodOk born rl rh hl hh gl gh) (hd:dayOk born day) {r h g:Int} (h1:rl≤r) (h2:r≤rh) (h5:gl≤g) (h6:g≤gh) :
  0≤(ylI born day r h g).ripe∧(ylI born day r h g).ripe≤400∧0≤(ylI born day r h g).green∧(ylI born day r h g).green≤400∧0≤(ylI born day r h g).split∧(ylI born day r h g).split≤1∧0≤(ylI born day r h g).left∧(ylI born day r h g).left≤1:=by
 have:=hp.r0; have:=hp.r2; have:=hp.g0; have:=hp.g2
 unfold ylI
 by_cases c0:day = -1
 ·rw [if_pos c0]; simp
 ·rw [if_neg c0]
  have hb:born≤day:=by
   rcases hd with h | h
   ·exact absurd h c0
   ·exact h.1
  have e1:=gram_nonneg (r:=r) (g:=g) hb (by omega) (by omega)
  have e2:=gram_le (r:=r) (g:=g) hb (by omega) (by omega) (by omega) (by omega)
  by_cases c1:day - born < r
  ·rw [if_pos c1]; simp [e1,e2]
  ·rw [if_neg c1]
   by_cases c2:day - born < r + h
   ·rw [if_pos c2]; simp [e1,e2]
   ·rw [if_neg c2]; simp
end
def sY (c:Yl→Int):List Yl→Int
 | []=>0
 | y::l=>c y + sY c l
theorem sY_append (c:Yl→Int):∀ l m:List Yl,sY c (l++m)=sY c l + sY c m
 | [],m=>by simp [sY]
 | y::l,m=>by
  show c y + sY c (l++m)=c y + sY c l + sY c m
  rw [sY_append c l m]; omega
theorem sY_snoc {c:Yl→Int} {l:List Yl} {i:Nat} {y:Yl} (h:l[i]?=some y):sY c (l.take (i + 1))=sY c (l.take i) + c y:=by
 rw [List.take_add_one,h,sY_append]
 simp [sY]
theorem sY_bd {c:Yl→Int} {l:List Yl} {b:Int} (h:∀ y ∈ l,0≤c y∧c y≤b):0≤sY c l∧sY c l≤l.length * b:=by
 induction l with
 | nil=>simp [sY]
 | cons y l ih =>
  have h1:=h y (List.mem_cons_self ..)
  have h2:=ih fun z hz=>h z (List.mem_cons_of_mem _ hz)
  have:(((y::l).length:Nat):Int) * b=l.length * b + b:=by rw [List.length_cons,Int.natCast_add,Int.add_mul]; simp
  show 0≤c y + sY c l∧c y + sY c l≤_
  omega
end Go.Sh
namespace Go.Proofs.YtijlaopbnigkaaaGreatDoor.walk
open Go Go.Sh
set_option maxRecDepth 100000
noncomputable def F43:PureF:=fun args _=>match args with | [.int .i64 n,.agg ⟨[.int .i64 a,.int .i64 b]⟩]=>some (.bool (inI a n b)) | _=>none
theorem rule43 {ov:Ov} (h:HasP ov 43 F43) (n a b:Int) (m:Nat) (w:AW):(run Tryz.prog ov (m + 1)).call 43 [.int .i64 n,.agg ⟨[.int .i64 a,.int .i64 b]⟩] w .none=.ok (.ret (.bool (inI a n b))) w .none:=h.call rfl
theorem run43 {ov:Ov} (ho:∀ args w,ov 43 args w=none) (n a b:Int) (w:AW):∃ v w',(run Tryz.prog ov 2).call 43 [.int .i64 n,.agg ⟨[.int .i64 a,.int .i64 b]⟩] w .none=.ok (.ret v) w' .none∧v=.bool (inI a n b):=by
 refine call_wp text43 (by simp) (ho _ _) ?_
 by_cases h1:a≤n <;> by_cases h2:n≤b <;> simp [mc43,h1,h2,tupV,inI]
def numB (p:Pod) (day r h g:Int):Bool:=inI 0 p.born 1000 && (inI (-1) day 2000 && (inI 0 r 1000 && (inI 0 h 1000 && inI 0 g 100)))
theorem num_some {p:Pod} {day r h g:Int} (k:numB p day r h g=true):0≤p.born∧p.born≤1000 ∧ -1≤day∧day≤2000∧0≤r∧r≤1000∧0≤h∧h≤1000∧0≤g∧g≤100:=by
 simp only [numB,inI,Bool.and_eq_true,decide_eq_true_eq] at k
 omega
def onI (born day r h:Int):Int:=if day = -1 then 3 else if day - born < r then 0 else if day - born < r + h then 1 else 2
noncomputable def F63:PureF:=fun args _=>match args with | [.agg ⟨l⟩,.int .i64 day,.agg ⟨[.int .i64 r,.int .i64 h,.int .i64 g]⟩]=>(podOf l).bind fun p=>bif numB p day r h g then some (.int .i64 (onI p.born day r h)) else none | _=>none
noncomputable def F64:PureF:=fun args _=>match args with | [.agg ⟨l⟩,.int .i64 day,.agg ⟨[.int .i64 r,.int .i64 h,.int .i64 g]⟩]=>(podOf l).bind fun p=>bif numB p day r h g then some (.int .i64 (gramI p.born day r g)) else none | _=>none
theorem rule63 {ov:Ov} (k:HasP ov 63 F63) {p:Pod} {day r h g:Int} (hn:numB p day r h g=true) (m:Nat) (w:AW):(run Tryz.prog ov (m + 1)).call 63 [.agg ⟨podC p⟩,.int .i64 day,.agg ⟨[.int .i64 r,.int .i64 h,.int .i64 g]⟩] w .none=.ok (.ret (.int .i64 (onI p.born day r h))) w .none:=k.call (by simp [F63,podOf_C,hn])
theorem rule64 {ov:Ov} (k:HasP ov 64 F64) {p:Pod} {day r h g:Int} (hn:numB p day r h g=true) (m:Nat) (w:AW):(run Tryz.prog ov (m + 1)).call 64 [.agg ⟨podC p⟩,.int .i64 day,.agg ⟨[.int .i64 r,.int .i64 h,.int .i64 g]⟩] w .none=.ok (.ret (.int .i64 (gramI p.born day r g))) w .none:=k.call (by simp [F64,podOf_C,hn])
theorem run63 {ov:Ov} (ho:∀ args w,ov 63 args w=none) (p:Pod) (day r h g:Int) (hn:numB p day r h g=true) (w:AW):∃ v w',(run Tryz.prog ov 2).call 63 [.agg ⟨podC p⟩,.int .i64 day,.agg ⟨[.int .i64 r,.int .i64 h,.int .i64 g]⟩] w .none=.ok (.ret v) w' .none∧v=.int .i64 (onI p.born day r h):=by
 obtain ⟨k1,k2,k3,k4,k5,k6,k7,k8,_,_⟩:=num_some hn
 refine call_wp text63 (by simp) (ho _ _) ?_
 have w1:IntKind.wrap .i64 (day - p.born)=day - p.born:=wrap64_in (by omega) (by omega)
 have w2:IntKind.wrap .i64 (r + h)=r + h:=wrap64_in (by omega) (by omega)
 by_cases h1:day = -1
 ·subst h1
  simp [mc63,podC,tupV,onI]
 ·by_cases h2:day - p.born < r
  ·simp [mc63,podC,tupV,onI,h1,w1,h2]
  ·by_cases h3:day - p.born < r + h
   ·simp [mc63,podC,tupV,onI,h1,w1,h2,w2,h3]
   ·simp [mc63,podC,tupV,onI,h1,w1,h2,w2,h3]
theorem gram_bd {born day r g:Int} (h1:0≤born) (h2:born≤1000) (h3 : -1≤day) (h4:day≤2000) (h5:0≤r) (h6:r≤1000) (h7:0≤g) (h8:g≤100) : -200000≤g * min (day - born) r∧g * min (day - born) r≤200000 ∧ -200000≤gramI born day r g∧gramI born day r g≤200000:=by
 obtain ⟨m,hm⟩:∃ m,m=min (day - born) r:=⟨_,rfl⟩
 have hm1 : -1001≤m∧m≤1000:=by omega
 unfold gramI
 rw [← hm]
 have a1:g * m≤100 * 1000:=by
  by_cases h:0≤m
  ·exact Int.mul_le_mul h8 hm1.2 h (by decide)
  ·have:g * m≤0:=Int.mul_nonpos_of_nonneg_of_nonpos h7 (by omega)
   omega
 have a2 : -(100 * 1001)≤g * m:=by
  by_cases h:0≤m
  ·have:=Int.mul_nonneg h7 h; omega
  ·have:g * (-m)≤100 * 1001:=Int.mul_le_mul h8 (by omega) (by omega) (by decide)
   rw [Int.mul_neg] at this
   omega
 have a3:(g * m).tdiv 100=if 0≤g * m then g * m / 100 else -((-(g * m)) / 100):=by
  split
  ·rename_i h; exact Int.tdiv_eq_ediv_of_nonneg h
  ·rename_i h
   have:=Int.neg_tdiv (a := -(g * m)) (b:=100)
   rw [Int.neg_neg] at this
   rw [this,Int.tdiv_eq_ediv_of_nonneg (by omega)]
 rw [a3]
 split <;> omega
theorem run64 {ov:Ov} (ho:∀ args w,ov 64 args w=none) (p:Pod) (day r h g:Int) (hn:numB p day r h g=true) (w:AW):∃ v w',(run Tryz.prog ov 2).call 64 [.agg ⟨podC p⟩,.int .i64 day,.agg ⟨[.int .i64 r,.int .i64 h,.int .i64 g]⟩] w .none=.ok (.ret v) w' .none∧v=.int .i64 (gramI p.born day r g):=by
 obtain ⟨k1,k2,k3,k4,k5,k6,k7,k8,k9,k10⟩:=num_some hn
 obtain ⟨b1,b2,b3,b4⟩:=gram_bd k1 k2 k3 k4 k5 k6 k9 k10
 refine call_wp text64 (by simp) (ho _ _) ?_
 have w1:IntKind.wrap .i64 (day - p.born)=day - p.born:=wrap64_in (by omega) (by omega)
 have w2:IntKind.wrap .i64 (g * min (day - p.born) r)=g * min (day - p.born) r:=wrap64_in (by omega) (by omega)
 have w3:IntKind.wrap .i64 (gramI p.born day r g)=gramI p.born day r g:=wrap64_in (by omega) (by omega)
 unfold gramI at w3
 have hq:=fun (a:Int) (c:Bool) w=>bin_quo (P:=Tryz.prog) (w:=w) 3 c .i64 a 100 (by decide)
 simp [mc64,podC,tupV,gramI,w1,w2,hq,w3]
@[simp] theorem ia140_0 (w:AW) (a:Addr):indexAddrA Tryz.prog w 140 (.pointer (some a)) (.int .i64 0)=.val (.pointer (some (a.add 0))) w:=by kernel_rfl
@[simp] theorem ia140_1 (w:AW) (a:Addr):indexAddrA Tryz.prog w 140 (.pointer (some a)) (.int .i64 1)=.val (.pointer (some (a.add 4))) w:=by kernel_rfl
@[simp] theorem ia140_2 (w:AW) (a:Addr):indexAddrA Tryz.prog w 140 (.pointer (some a)) (.int .i64 2)=.val (.pointer (some (a.add 8))) w:=by kernel_rfl
@[simp] theorem ia140_3 (w:AW) (a:Addr):indexAddrA Tryz.prog w 140 (.pointer (some a)) (.int .i64 3)=.val (.pointer (some (a.add 12))) w:=by kernel_rfl
def ylC (y:Yl):List Value:=[.int .i64 y.ripe,.int .i64 y.green,.int .i64 y.split,.int .i64 y.left]
@[simp] theorem ylC_length (y:Yl):(ylC y).length=4:=by simp [ylC]
@[simp] theorem ylC_singles (y:Yl):singles (ylC y)=true:=by simp [ylC]
@[simp] theorem ylC_take (y:Yl):(ylC y).take 4=ylC y:=by simp [ylC]
@[simp] theorem ylC_drop (y:Yl):(ylC y).drop 4=[]:=by simp [ylC]
theorem ylC_inj (a b:Yl) (h:ylC a=ylC b):a=b:=by
 cases a; cases b
 simpa [ylC] using h
theorem same_pod (p:Pod):sameVal 5 (.agg ⟨podC p⟩) (.agg ⟨podC p⟩)=true:=same_agg _ fun v hv=>by
 simp only [podC,List.mem_cons,List.not_mem_nil,or_false] at hv
 rcases hv with rfl | rfl | rfl | rfl | rfl | rfl | rfl | rfl <;> first | exact sameN_int _ _ _ | exact sameN_string _ _
theorem same_ints (l:List Int):sameVal 5 (.agg ⟨l.map (.int .i64)⟩) (.agg ⟨l.map (.int .i64)⟩)=true:=same_agg _ fun v hv=>by
 obtain ⟨z,_,rfl⟩:=List.mem_map.1 hv
 exact sameN_int _ _ _
def PartsW (w:AW):Prop:=PartsAt w∧0 < w.next
theorem PartsW.parts {w:AW} (h:PartsW w):PartsAt w:=h.1
theorem PartsW.pos {w:AW} (h:PartsW w):0 < w.next:=h.2
open Classical in
noncomputable def F44:PureF:=fun args w=>match args with | [.agg ⟨l⟩,.int .i64 day,.agg ⟨[.int .i64 r,.int .i64 h,.int .i64 g]⟩]=>(podOf l).bind fun p=>if numB p day r h g=true∧PartsW w then some (.agg ⟨ylC (ylI p.born day r h g)⟩) else none | _=>none
theorem rule44 {ov:Ov} (k:HasP ov 44 F44) {p:Pod} {day r h g:Int} (hn:numB p day r h g=true) (m:Nat) {w:AW} (hw:PartsW w):(run Tryz.prog ov (m + 1)).call 44 [.agg ⟨podC p⟩,.int .i64 day,.agg ⟨[.int .i64 r,.int .i64 h,.int .i64 g]⟩] w .none=.ok (.ret (.agg ⟨ylC (ylI p.born day r h g)⟩)) w .none:=k.call (by simp [F44,podOf_C,hn,hw])
theorem on_four {born day r h:Int}:onI born day r h=0∨onI born day r h=1∨onI born day r h=2∨onI born day r h=3:=by
 unfold onI
 split
 ·exact .inr (.inr (.inr rfl))
 ·split
  ·exact .inl rfl
  ·split
   ·exact .inr (.inl rfl)
   ·exact .inr (.inr (.inl rfl))
theorem yl_on {born day r h g:Int}:ylI born day r h g=(match onI born day r h with | 0=>⟨0,gramI born day r g,0,0⟩ | 1=>⟨gramI born day r g,0,0,0⟩ | 2=>⟨0,0,1,0⟩ | _=>⟨0,0,0,1⟩):=by
 unfold ylI onI
 split
 ·rfl
 ·split
  ·rfl
  ·split <;> rfl
theorem run44 {ov:Ov} (ho:∀ args w,ov 44 args w=none) (h88:HasP ov 63 F63) (h89:HasP ov 64 F64) (p:Pod) (day r h g:Int) (hn:numB p day r h g=true) (w:AW) (hl:w.lim≤w.next) (hw:PartsW w) :
  ∃ v w',(run Tryz.prog ov 2).call 44 [.agg ⟨podC p⟩,.int .i64 day,.agg ⟨[.int .i64 r,.int .i64 h,.int .i64 g]⟩] w .none=.ok (.ret v) w' .none∧v=.agg ⟨ylC (ylI p.born day r h g)⟩:=by
 obtain ⟨k1,k2,k3,k4,k5,k6,k7,k8,k9,k10⟩:=num_some hn
 obtain ⟨b1,b2,b3,b4⟩:=gram_bd k1 k2 k3 k4 k5 k6 k9 k10
 refine call_wp text44 (by simp) (ho _ _) ?_
 obtain ⟨⟨ro,hp⟩,hpos⟩:=hw
 have r88:=rule63 h88 hn 0
 have r89:=rule64 h89 hn 0
 simp only [Nat.zero_add] at r88 r89
 have hne0:¬ 0=w.next:=by omega
 have hne1:¬ w.next=0:=by omega
 have s1:=same_pod p
 have s2:=same_ints [r,h,g]
 have s3:=fun a b c d=>same_ints [a,b,c,d]
 simp only [List.map_cons,List.map_nil] at s2 s3
 have l1:w.lim≤w.next + 1:=by omega
 have l2:w.lim≤w.next + 1 + 1:=by omega
 have l3:w.lim≤w.next + 1 + 1 + 1:=by omega
 have w3:IntKind.wrap .i64 (gramI p.born day r g)=gramI p.born day r g:=wrap64_in (by omega) (by omega)
 have w4:IntKind.wrap .i64 0=0:=wrap64_in (by omega) (by omega)
 rw [yl_on]
 rcases on_four (born:=p.born) (day:=day) (r:=r) (h:=h) with e | e | e | e <;> rw [e] <;>
 simp [mc44,tupV,r88,r89,s1,s2,s3,hp,hne0,hne1,l1,l2,l3,partsC,e,w3,w4,ylC]
@[simp] theorem cf53 (w:AW) (args:List Value):callFn Tryz.prog w 53 args=.enter 53 args w:=callFn_of (by kernel_rfl) args
def smallY (y:Yl):Prop:=0≤y.ripe∧y.ripe≤400∧0≤y.green∧y.green≤400∧0≤y.split∧y.split≤1∧0≤y.left∧y.left≤1
def sumYl (l:List Yl):Yl:=⟨sY Yl.ripe l,sY Yl.green l,sY Yl.split l,sY Yl.left l⟩
def addY (s y:Yl):Yl:=⟨s.ripe + y.ripe,s.green + y.green,s.split + y.split,s.left + y.left⟩
theorem sumYl_snoc {l:List Yl} {i:Nat} {y:Yl} (h:l[i]?=some y):sumYl (l.take (i + 1))=addY (sumYl (l.take i)) y:=by
 simp only [sumYl,addY,sY_snoc h]
theorem sumYl_bd {l:List Yl} (h:∀ y ∈ l,smallY y) (hl:l.length≤100):0≤(sumYl l).ripe∧(sumYl l).ripe≤40000∧0≤(sumYl l).green∧(sumYl l).green≤40000∧0≤(sumYl l).split∧(sumYl l).split≤100∧0≤(sumYl l).left∧(sumYl l).left≤100:=by
 have h1:=sY_bd (c:=Yl.ripe) (l:=l) (b:=400) fun y hy=>⟨(h y hy).1,(h y hy).2.1⟩
 have h2:=sY_bd (c:=Yl.green) (l:=l) (b:=400) fun y hy=>⟨(h y hy).2.2.1,(h y hy).2.2.2.1⟩
 have h3:=sY_bd (c:=Yl.split) (l:=l) (b:=1) fun y hy=>⟨(h y hy).2.2.2.2.1,(h y hy).2.2.2.2.2.1⟩
 have h4:=sY_bd (c:=Yl.left) (l:=l) (b:=1) fun y hy=>⟨(h y hy).2.2.2.2.2.2.1,(h y hy).2.2.2.2.2.2.2⟩
 simp only [sumYl]
 omega
def midY (s y:Yl):Prop:=(0≤s.ripe∧s.ripe≤40000∧0≤s.green∧s.green≤40000∧0≤s.split∧s.split≤100∧0≤s.left∧s.left≤100)∧smallY y
noncomputable def addW (w:AW) (B:Nat) (s y:Yl):AW :=
 ⟨((((w.heap.put w.next (some (.cells (ylC y) 47 false))).put B (some (.cells (ylC ⟨s.ripe + y.ripe,s.green,s.split,s.left⟩) 47 false))).put B (some (.cells (ylC ⟨s.ripe + y.ripe,s.green + y.green,s.split,s.left⟩) 47 false))).put B (some (.cells (ylC ⟨s.ripe + y.ripe,s.green + y.green,s.split + y.split,s.left⟩) 47 false))).put B (some (.cells (ylC (addY s y)) 47 false)),w.next + 1,w.lim⟩
theorem call53 {ov:Ov} (ho:∀ args w,ov 53 args w=none) (m:Nat) (s y:Yl) (hm:midY s y) (B:Nat) (w:AW) (hB:w.heap.get B=some (.cells (ylC s) 47 false)) (hl:w.lim≤B) (hlt:B < w.next) :
  (run Tryz.prog ov (m + 1)).call 53 [.agg ⟨ylC y⟩,.pointer (some ⟨B,0,none⟩)] w .none=.ok (.ret (.tuple ⟨[]⟩)) (addW w B s y) .none:=by
 have key:∃ v w',(run Tryz.prog ov (m + 1)).call 53 [.agg ⟨ylC y⟩,.pointer (some ⟨B,0,none⟩)] w .none=.ok (.ret v) w' .none∧(v=.tuple ⟨[]⟩∧w'=addW w B s y):=by
  refine call_wp (m:=m) (Q:=fun v w'=>v=.tuple ⟨[]⟩∧w'=addW w B s y) text53 (by simp) (ho _ _) ?_
  have hne:B ≠ w.next:=Nat.ne_of_lt hlt
  have hne':w.next ≠ B:=fun h=>hne h.symm
  obtain ⟨⟨a1,a2,a3,a4,a5,a6,a7,a8⟩,b1,b2,b3,b4,b5,b6,b7,b8⟩:=hm
  have w1:IntKind.wrap .i64 (s.ripe + y.ripe)=s.ripe + y.ripe:=wrap64_in (by omega) (by omega)
  have w2:IntKind.wrap .i64 (s.green + y.green)=s.green + y.green:=wrap64_in (by omega) (by omega)
  have w3:IntKind.wrap .i64 (s.split + y.split)=s.split + y.split:=wrap64_in (by omega) (by omega)
  have w4:IntKind.wrap .i64 (s.left + y.left)=s.left + y.left:=wrap64_in (by omega) (by omega)
  simp [mc53,tupV,hB,hne,hne',hl,ylC,w1,w2,w3,w4,addW,addY]
 obtain ⟨v,w',h1,rfl,rfl⟩:=key
 exact h1
theorem addW_get (w:AW) (B b:Nat) (s y:Yl) (hB:B < w.next):(addW w B s y).heap.get b=if b=B then some (.cells (ylC (addY s y)) 47 false) else if b=w.next then some (.cells (ylC y) 47 false) else w.heap.get b:=by
 unfold addW
 by_cases h:b=B
 ·simp [h]
 ·simp [h]
structure In35 (H0:T AObj) (n0:Nat) (ys:List Yl) (i:Nat) (w:AW):Prop where
 old:Old n0 H0 w.heap
 acc:w.heap.get (n0 + 1)=some (.cells (ylC (sumYl (ys.take i))) 47 false)
 res:w.heap.get n0=some (.cells (ylC ⟨0,0,0,0⟩) 47 false)
 next:n0 + 1 < w.next
 lim:w.lim≤n0
theorem In35.add {H0:T AObj} {n0:Nat} {ys:List Yl} {i:Nat} {w w1:AW} (hw:In35 H0 n0 ys i w) {y:Yl} (hyi:ys[i]?=some y) (h1:∀ b,b < w.next→w1.heap.get b=w.heap.get b) (h2:w.next≤w1.next) (h3:w1.lim=w.lim):In35 H0 n0 ys (i + 1) (addW w1 (n0 + 1) (sumYl (ys.take i)) y):=by
 have hn:=hw.next
 refine ⟨fun b hb=>?_,?_,?_,?_,?_⟩
 ·rw [addW_get _ _ _ _ _ (by omega),if_neg (by omega),if_neg (by omega),h1 b (by omega),hw.old b hb]
 ·rw [addW_get _ _ _ _ _ (by omega),if_pos rfl,sumYl_snoc hyi]
 ·rw [addW_get _ _ _ _ _ (by omega),if_neg (by omega),if_neg (by omega),h1 n0 (by omega),hw.res]
 ·show n0 + 1 < w1.next + 1; omega
 ·show w1.lim≤n0; rw [h3]; exact hw.lim
theorem loop35 {ov:Ov} (h90:∀ args w,ov 53 args w=none) (ys:List Yl) (hy:∀ y ∈ ys,smallY y) (hlen:ys.length≤100) (H0:T AObj) (n0:Nat) (v:Value) (hv:∀ i,i < ys.length→∃ b off sq c,v=.slice (some ⟨b,off,sq⟩) ys.length c∧RowsA ylC H0 n0 b off ys)
  (Q:Ex→Tm→AW→Prop) (t:Tm) (w:AW) (hw:In35 H0 n0 ys 0 w)
  (t2:tget t 2=.pointer (some ⟨n0,0,none⟩)) (t3:tget t 3=.pointer (some ⟨n0 + 1,0,none⟩)) (t4:tget t 4=.func (.func 53) ⟨[]⟩ ⟨[.pointer (some ⟨n0 + 1,0,none⟩)]⟩) (t8:tget t 8=v) (t9:tget t 9=.int .i64 (ys.length:Nat)) (t10:tget t 10=.int .i64 0)
  (hQ:∀ t w,tget t 2=.pointer (some ⟨n0,0,none⟩)→tget t 3=.pointer (some ⟨n0 + 1,0,none⟩)→In35 H0 n0 ys ys.length w→Q (.exit 0) t w) (m:Nat):wp (exM Tryz.prog (run Tryz.prog ov (m + 1)) (.loop mc35_l0) t w) Q:=by
 refine wp_rounds (fun i t w=>tget t 2=.pointer (some ⟨n0,0,none⟩)∧tget t 3=.pointer (some ⟨n0 + 1,0,none⟩)∧tget t 4=.func (.func 53) ⟨[]⟩ ⟨[.pointer (some ⟨n0 + 1,0,none⟩)]⟩∧tget t 8=v∧tget t 9=.int .i64 (ys.length:Nat)∧tget t 10=.int .i64 (i:Nat)∧i≤ys.length∧In35 H0 n0 ys i w) 200 (by decide) ⟨t2,t3,t4,t8,t9,t10,Nat.zero_le _,hw⟩ ?_
 clear hw t2 t3 t4 t8 t9 t10
 rintro i t w ⟨t2,t3,t4,t8,t9,t10,hi,hw⟩
 by_cases hlt:i < ys.length
 ·obtain ⟨y,hyi⟩:∃ y,ys[i]?=some y:=⟨_,List.getElem?_eq_getElem hlt⟩
  obtain ⟨b,off,sq,c,rfl,hr⟩:=hv i hlt
  have hb:=hr.2
  have hld:=hr.rd (m:=4) ylC_length hyi
  rw [← hw.old b hb] at hld
  have hne:¬ b=w.next:=by have:=hw.next; omega
  have hia:=fun w=>ia86 w ⟨b,off,sq⟩ ys.length c .i64 i hlt
  have hw1:IntKind.wrap .i64 ((i:Int) + 1)=(i:Int) + 1:=wrap64_in (by omega) (by omega)
  have hm:midY (sumYl (ys.take i)) y:=⟨sumYl_bd (fun z hz=>hy z (List.mem_of_mem_take hz)) (by rw [List.length_take]; omega),hy y (List.mem_of_getElem? hyi)⟩
  have hlim:=hw.lim
  have hnx:=hw.next
  have hacc:=hw.acc
  have hl1:w.lim≤w.next:=by omega
  have hne1:¬ n0 + 1=w.next:=by omega
  simp [mc35_l0,t2,t3,t4,t8,t9,t10,hlt,hia,hld,hne,hl1,callV_func,cellsOf_agg,ylC_length]
  rw [call53 h90 m (sumYl (ys.take i)) y hm (n0 + 1) _ (by simp [hne1,hacc]) (by show w.lim≤n0 + 1; omega) (by show n0 + 1 < w.next + 1; omega)]
  simp [t2,t3,t4,t8,t9,t10,hw1]
  refine ⟨by omega,by omega,?_⟩
  exact hw.add hyi (fun b hb=>by show ((w.heap.put w.next _).put w.next _).get b=_; rw [get_put,if_neg (by omega),get_put,if_neg (by omega)]) (Nat.le_succ _) rfl
 ·have hi':i=ys.length:=by omega
  subst hi'
  simp [mc35_l0,t9,t10]
  exact hQ _ _ (by simp [t2]) (by simp [t3]) hw
theorem run35 {ov:Ov} (ho:∀ args w,ov 35 args w=none) (h90:∀ args w,ov 53 args w=none) (v:Value) (ys:List Yl) (hy:∀ y ∈ ys,smallY y) (hlen:ys.length≤100) (w:AW) (hl:w.lim=w.next) (hv:RowsV ylC w v ys) (m:Nat) :
  ∃ u w',(run Tryz.prog ov (m + 2)).call 35 [v] w .none=.ok (.ret u) w' .none∧u=.agg ⟨ylC (sumYl ys)⟩:=by
 refine call_wp text35 (by simp) (ho _ _) ?_
 obtain ⟨a,c,hvl⟩:=hv.len
 have hln:∀ w,lenB Tryz.prog w 86 v=.val (.int .i64 (ys.length:Nat)) w:=fun w=>by rw [hvl]; simp
 simp [mc35,hln]
 refine wp_seqX (wp_blockX (loop35 h90 ys hy hlen w.heap w.next v (fun i hi=>?_) _ _ _ ?_ ?_ ?_ ?_ ?_ ?_ ?_ ?_ m))
 case _ =>
  rcases hv with ⟨rfl,_⟩ | ⟨b,off,sq,c,rfl,h⟩
  ·simp at hi
  ·exact ⟨b,off,sq,c,rfl,h⟩
 case _ =>
  refine ⟨(Old.refl _ _).put (Nat.le_refl _) |>.put (Nat.le_succ _),?_,?_,?_,?_⟩
  ·simp [ylC,sumYl,sY]
  ·simp [ylC]
  ·simp
  ·simp [hl]
 case _=>simp
 case _=>simp
 case _=>simp
 case _=>simp
 case _=>simp
 case _=>simp
 case _ =>
  intro t w' s2 s3 hI
  have hacc:=hI.acc
  have hres:=hI.res
  have hlim:=hI.lim
  rw [List.take_length] at hacc
  simp [s2,s3,hacc,hres,hlim,tupV]
open Classical in
noncomputable def F35:PureF:=fun args w=>match args with | [v]=>(rowsIn ylC w v).bind fun ys=>if (∀ y ∈ ys,smallY y)∧ys.length≤100 then some (.agg ⟨ylC (sumYl ys)⟩) else none | _=>none
theorem rule35 {ov:Ov} (k:HasP ov 35 F35) {v:Value} {ys:List Yl} (hy:∀ y ∈ ys,smallY y) (hlen:ys.length≤100) (m:Nat) {w:AW} (hv:RowsV ylC w v ys):(run Tryz.prog ov (m + 1)).call 35 [v] w .none=.ok (.ret (.agg ⟨ylC (sumYl ys)⟩)) w .none:=k.call (by
 simp only [F35,hv.rowsIn (m:=4) ylC_length ylC_inj,Option.bind_some]
 rw [if_pos ⟨hy,hlen⟩])
def planOk (p:Pod) (d:Int):Bool:=decide (d = -1) || (decide (p.born≤d) && decide (d≤2000))
def planTo (l:List Pod) (pl:List Int):Nat→Bool
 | 0=>true
 | i + 1=>planTo l pl i && (match l[i]?,pl[i]? with | some p,some d=>planOk p d | _,_=>true)
def planB (l:List Pod) (pl:List Int):Bool:=decide (pl.length=l.length) && planTo l pl l.length
theorem plan_snoc {l:List Pod} {pl:List Int} {i:Nat} {p:Pod} {d:Int} (h:l[i]?=some p) (k:pl[i]?=some d):planTo l pl (i + 1)=(planTo l pl i && planOk p d):=by
 show (planTo l pl i && _)=_
 rw [h,k]
theorem plan_false {l : List Pod} {pl : List Int} {i : Nat} (h : planTo l pl i = false) : ∀ n, i ≤ n → planTo l pl n = false
  | 0, hn => by obtain rfl : i = 0 := by omega
                exact h
  | n + 1, hn => by
    rcases Nat.eq_or_lt_of_le hn with e | h1
    · rw [← e]; exact h
    · show (planTo l pl n && _) = false
      rw [plan_false h n (by omega)]; rfl
theorem load_pf {w:AW} {b i j:Nat} {l:List Pod} {p:Pod} {x:Value} (hb:PodsAt w b l) (hp:l[i]?=some p) (hx:(podC p)[j]?=some x):rd1O (w.heap.get b) (i * 8 + j)=some x:=by
 obtain ⟨⟨rest,e,ro,h⟩,_⟩:=hb
 obtain ⟨h1,h2⟩:=pods_at l i p rest hp
 have hj:j < 8:=by
  have:=(List.getElem?_eq_some_iff.1 hx).1
  rwa [podC_length] at this
 rw [h,rd1O_cells]
 rw [← h1,List.getElem?_take_of_lt hj,List.getElem?_drop] at hx
 exact hx
theorem PodsV.at_ {w:AW} {v:Value} {l:List Pod} (h:PodsV w v l):∀ i,i < l.length→∃ b sq c,v=.slice (some ⟨b,0,sq⟩) l.length c∧PodsAt w b l:=by
 intro i hi
 rcases h with ⟨a,c,rfl,rfl⟩ | ⟨b,sq,c,rfl,hp⟩
 ·simp at hi
 ·exact ⟨b,sq,c,rfl,hp⟩
theorem PodsV.len {w:AW} {v:Value} {l:List Pod} (h:PodsV w v l):∃ a c,v=.slice a l.length c:=by
 rcases h with ⟨a,c,rfl,rfl⟩ | ⟨b,sq,c,rfl,hp⟩
 ·exact ⟨a,c,rfl⟩
 ·exact ⟨_,c,rfl⟩
theorem len22V {w:AW} {v:Value} {l:List Pod} (h:PodsV w v l) (w':AW):lenB Tryz.prog w' 22 v=.val (.int .i64 (l.length:Nat)) w':=by
 obtain ⟨a,c,rfl⟩:=h.len; simp
theorem len23V {w:AW} {v:Value} {l:List Int} (h:RowsV intC w v l) (w':AW):lenB Tryz.prog w' 23 v=.val (.int .i64 (l.length:Nat)) w':=by
 obtain ⟨a,c,rfl⟩:=h.len; simp
theorem loop32 {ov:Ov} (l:List Pod) (pl:List Int) (v u:Value) (w:AW) (hv:PodsV w v l) (hu:RowsV intC w u pl) (he:pl.length=l.length) (hlen:l.length≤100) (Q:Ex→Tm→AW→Prop) (t:Tm) (m:Nat)
  (t0:tget t 0=v) (t12:tget t 12=u) (t13:tget t 13=.int .i64 (l.length:Nat)) (t14:tget t 14=.int .i64 0)
  (hyes:planTo l pl l.length=true→∀ t,Q (.exit 0) t w) (hno:planTo l pl l.length=false→∀ t,tget t 4=.bool false→Q .ret t w):wp (exM Tryz.prog (run Tryz.prog ov m) (.loop mc32_l0) t w) Q:=by
 refine wp_rounds (fun i t w'=>w'=w∧tget t 0=v∧tget t 12=u∧tget t 13=.int .i64 (l.length:Nat)∧tget t 14=.int .i64 (i:Nat)∧i≤l.length∧planTo l pl i=true) 200 (by decide) ⟨rfl,t0,t12,t13,t14,Nat.zero_le _,rfl⟩ ?_
 clear t0 t12 t13 t14
 rintro i t w' ⟨rfl,t0,t12,t13,t14,hi,hok⟩
 by_cases hlt:i < l.length
 ·obtain ⟨p,hp⟩:∃ p,l[i]?=some p:=⟨_,List.getElem?_eq_getElem hlt⟩
  obtain ⟨d,hd⟩:∃ d,pl[i]?=some d:=⟨_,List.getElem?_eq_getElem (he ▸ hlt)⟩
  obtain ⟨b,sq,c,rfl,hpa⟩:=hv.at_ i hlt
  obtain ⟨b',off',sq',c',rfl,hra⟩:=hu.at_ i (he ▸ hlt)
  have hbn:=load_pf hpa hp (j:=1) (x:=.int .i64 p.born) rfl
  have hdn:=hra.int hd
  have hia:=fun w=>ia22 w ⟨b,0,sq⟩ l.length c .i64 i hlt
  have hib:=fun w=>ia23 w ⟨b',off',sq'⟩ pl.length c' .i64 i (he ▸ hlt)
  have hw1:IntKind.wrap .i64 ((i:Int) + 1)=(i:Int) + 1:=wrap64_in (by omega) (by omega)
  have hs:=plan_snoc hp hd
  rw [hok,Bool.true_and] at hs
  by_cases h1:d = -1
  ·subst h1
   have hs':planTo l pl (i + 1)=true:=by rw [hs]; rfl
   simp [mc32_l0,t0,t12,t13,t14,hlt,hia,hib,hdn,hw1]
   exact ⟨by omega,hlt,hs'⟩
  ·by_cases h2:d < p.born
   ·have hbad:planTo l pl l.length=false:=plan_false (i:=i + 1) (by rw [hs]; simp [planOk,h1]; omega) _ hlt
    simp [mc32_l0,t0,t12,t13,t14,hlt,hia,hib,hdn,hbn,h1,h2]
    exact hno hbad _ (by simp)
   ·by_cases h3:2000 < d
    ·have hbad:planTo l pl l.length=false:=plan_false (i:=i + 1) (by rw [hs]; simp [planOk,h1]; omega) _ hlt
     simp [mc32_l0,t0,t12,t13,t14,hlt,hia,hib,hdn,hbn,h1,h2,h3]
     exact hno hbad _ (by simp)
    ·have hs':planTo l pl (i + 1)=true:=by rw [hs]; simp [planOk,h1]; omega
     simp [mc32_l0,t0,t12,t13,t14,hlt,hia,hib,hdn,hbn,h1,h2,h3,hw1]
     exact ⟨by omega,hlt,hs'⟩
 ·have hi':i=l.length:=by omega
  subst hi'
  simp [mc32_l0,t13,t14]
  exact hyes hok _
theorem run32 {ov:Ov} (ho:∀ args w,ov 32 args w=none) (l:List Pod) (pl:List Int) (v u:Value) (w:AW) (hv:PodsV w v l) (hu:RowsV intC w u pl) (hlen:l.length≤100) :
  ∃ x w',(run Tryz.prog ov 2).call 32 [v,u] w .none=.ok (.ret x) w' .none∧x=.bool (planB l pl):=by
 refine call_wp text32 (by simp) (ho _ _) ?_
 have hl1:=len22V hv
 have hl2:=len23V hu
 by_cases he:pl.length=l.length
 ·simp [mc32,hl1,hl2,he]
  refine wp_seqX (wp_blockX (loop32 l pl v u w hv hu he hlen _ _ _ ?_ ?_ ?_ ?_ ?_ ?_))
  case _=>simp
  case _=>simp
  case _=>simp
  case _=>simp
  case _=>intro hy t; simp [planB,he,hy,tupV]
  case _=>intro hn t h4; simp [planB,he,hn,h4,tupV]
 ·have he':¬ (pl.length:Int)=l.length:=by omega
  simp [mc32,hl1,hl2,he',planB,he,tupV]
noncomputable def F32:PureF:=fun args w=>match args with | [v,u]=>(podsIn w v).bind fun l=>(rowsIn intC w u).bind fun pl=>bif decide (l.length≤100) then some (.bool (planB l pl)) else none | _=>none
theorem rule32 {ov:Ov} (k:HasP ov 32 F32) {v u:Value} {l:List Pod} {pl:List Int} {w:AW} (hv:podsIn w v=some l) (hu:RowsV intC w u pl) (hlen:l.length≤100) (m:Nat):(run Tryz.prog ov (m + 1)).call 32 [v,u] w .none=.ok (.ret (.bool (planB l pl))) w .none:=k.call (by
 simp [F32,hv,hu.rowsIn (m:=1) intC_length intC_inj,hlen])
def chkE (l:List Pod) (pl:List Int):Int:=bif podsB l then (bif planB l pl then 0 else 31) else 30
theorem podsB_len {l:List Pod} (h:podsB l=true):l.length≤12:=by
 simp only [podsB,Bool.and_eq_true,decide_eq_true_eq] at h
 exact h.1
theorem run15 {ov:Ov} (ho:∀ args w,ov 15 args w=none) (h14:HasP ov 31 F31) (h71:HasP ov 32 F32) (l:List Pod) (pl:List Int) (v u:Value) (w:AW) (hv:podsIn w v=some l) (hu:RowsV intC w u pl) :
  ∃ x w',(run Tryz.prog ov 2).call 15 [v,u] w .none=.ok (.ret x) w' .none∧x=.int .i64 (chkE l pl):=by
 refine call_wp text15 (by simp) (ho _ _) ?_
 have r14:=rule31 h14 hv
 cases hB:podsB l with
 | false=>simp [mc15,r14,errB,hB,chkE,tupV]
 | true =>
  have r71:=rule32 h71 hv hu (by have:=podsB_len hB; omega) 0
  simp only [Nat.zero_add] at r71
  cases hP:planB l pl <;> simp [mc15,r14,errB,hB,chkE,tupV,r71,hP]
noncomputable def F15:PureF:=fun args w=>match args with | [v,u]=>(podsIn w v).bind fun l=>(rowsIn intC w u).bind fun pl=>some (.int .i64 (chkE l pl)) | _=>none
theorem rule15 {ov:Ov} (k:HasP ov 15 F15) {v u:Value} {l:List Pod} {pl:List Int} {w:AW} (hv:podsIn w v=some l) (hu:RowsV intC w u pl) (m:Nat):(run Tryz.prog ov (m + 1)).call 15 [v,u] w .none=.ok (.ret (.int .i64 (chkE l pl))) w .none:=k.call (by
 simp [F15,hv,hu.rowsIn (m:=1) intC_length intC_inj])
def truthOk (p:Pod) (r h g:Int):Bool:=inI p.rl r p.rh && (inI p.hl h p.hh && inI p.gl g p.gh)
def truthTo (l:List Pod) (R H G:List Int):Nat→Bool
 | 0=>true
 | i + 1=>truthTo l R H G i && (match l[i]?,R[i]?,H[i]?,G[i]? with | some p,some r,some h,some g=>truthOk p r h g | _,_,_,_=>true)
def truthB (l:List Pod) (R H G:List Int):Bool:=decide (R.length=l.length) && (decide (H.length=l.length) && (decide (G.length=l.length) && truthTo l R H G l.length))
theorem truth_snoc {l:List Pod} {R H G:List Int} {i:Nat} {p:Pod} {r h g:Int} (k:l[i]?=some p) (k1:R[i]?=some r) (k2:H[i]?=some h) (k3:G[i]?=some g):truthTo l R H G (i + 1)=(truthTo l R H G i && truthOk p r h g):=by
 show (truthTo l R H G i && _)=_
 rw [k,k1,k2,k3]
theorem truth_false {l : List Pod} {R H G : List Int} {i : Nat} (h : truthTo l R H G i = false) : ∀ n, i ≤ n → truthTo l R H G n = false
  | 0, hn => by obtain rfl : i = 0 := by omega
                exact h
  | n + 1, hn => by
    rcases Nat.eq_or_lt_of_le hn with e | h1
    · rw [← e]; exact h
    · show (truthTo l R H G n && _) = false
      rw [truth_false h n (by omega)]; rfl
theorem load_pod' {w:AW} {b i:Nat} {l:List Pod} {p:Pod} (hb:PodsAt w b l) (hp:l[i]?=some p):rdO (w.heap.get b) (i * 8) 8=some (podC p):=by
 obtain ⟨⟨rest,e,ro,h⟩,_⟩:=hb
 exact load_pod h hp
structure Base (H0:T AObj) (n0:Nat) (cs:List Value) (e:TypeId) (w:AW):Prop where
 old:Old n0 H0 w.heap
 box:w.heap.get n0=some (.cells cs e false)
 next:n0 < w.next
 lim:w.lim≤n0
theorem Base.put {H0:T AObj} {n0:Nat} {cs:List Value} {e:TypeId} {w w':AW} (h:Base H0 n0 cs e w) (h1:∀ b,b < w.next→w'.heap.get b=w.heap.get b) (h2:w.next≤w'.next) (h3:w'.lim=w.lim):Base H0 n0 cs e w':=by
 have hn:=h.next
 exact ⟨fun b hb=>by rw [h1 b (by omega),h.old b hb],by rw [h1 n0 hn]; exact h.box,by omega,by rw [h3]; exact h.lim⟩
theorem loop22 {ov:Ov} (h72:HasP ov 43 F43) (l:List Pod) (R H G:List Int) (v vr vh vg:Value) (w0:AW) (hv:PodsV w0 v l) (hr:RowsV intC w0 vr R) (hh:RowsV intC w0 vh H) (hg:RowsV intC w0 vg G) (e1:R.length=l.length) (e2:H.length=l.length) (e3:G.length=l.length) (hlen:l.length≤100)
  (Q:Ex→Tm→AW→Prop) (t:Tm) (w:AW) (hw:Base w0.heap w0.next [vr,vh,vg] 42 w)
  (t3:tget t 3=.pointer (some ⟨w0.next,0,none⟩)) (t29:tget t 29=v) (t30:tget t 30=.int .i64 (l.length:Nat)) (t31:tget t 31=.int .i64 0)
  (hyes:truthTo l R H G l.length=true→∀ t w,Q (.exit 0) t w) (hno:truthTo l R H G l.length=false→∀ t w,tget t 4=.bool false→Q .ret t w):wp (exM Tryz.prog (run Tryz.prog ov 1) (.loop mc22_l0) t w) Q:=by
 refine wp_rounds (fun i t w=>tget t 3=.pointer (some ⟨w0.next,0,none⟩)∧tget t 29=v∧tget t 30=.int .i64 (l.length:Nat)∧tget t 31=.int .i64 (i:Nat)∧i≤l.length∧truthTo l R H G i=true∧Base w0.heap w0.next [vr,vh,vg] 42 w) 200 (by decide) ⟨t3,t29,t30,t31,Nat.zero_le _,rfl,hw⟩ ?_
 clear t3 t29 t30 t31 hw
 rintro i t w ⟨t3,t29,t30,t31,hi,hok,hw⟩
 by_cases hlt:i < l.length
 ·obtain ⟨p,hp⟩:∃ p,l[i]?=some p:=⟨_,List.getElem?_eq_getElem hlt⟩
  obtain ⟨r,hri⟩:∃ d,R[i]?=some d:=⟨_,List.getElem?_eq_getElem (e1 ▸ hlt)⟩
  obtain ⟨h,hhi⟩:∃ d,H[i]?=some d:=⟨_,List.getElem?_eq_getElem (e2 ▸ hlt)⟩
  obtain ⟨g,hgi⟩:∃ d,G[i]?=some d:=⟨_,List.getElem?_eq_getElem (e3 ▸ hlt)⟩
  obtain ⟨b,sq,c,rfl,hpa⟩:=hv.at_ i hlt
  obtain ⟨b1,o1,q1,c1,rfl,hra⟩:=hr.at_ i (e1 ▸ hlt)
  obtain ⟨b2,o2,q2,c2,rfl,hha⟩:=hh.at_ i (e2 ▸ hlt)
  obtain ⟨b3,o3,q3,c3,rfl,hga⟩:=hg.at_ i (e3 ▸ hlt)
  have hld:=load_pod' hpa hp
  have hdr:=hra.int hri
  have hdh:=hha.int hhi
  have hdg:=hga.int hgi
  rw [← hw.old _ hpa.lt] at hld
  rw [← hw.old _ hra.2] at hdr
  rw [← hw.old _ hha.2] at hdh
  rw [← hw.old _ hga.2] at hdg
  have n0:=hw.next
  have hlim:=hw.lim
  have hl1:w.lim≤w.next:=by omega
  have m0:¬ b=w.next:=by have:=hpa.lt; omega
  have m1:¬ b1=w.next:=by have:=hra.2; omega
  have m2:¬ b2=w.next:=by have:=hha.2; omega
  have m3:¬ b3=w.next:=by have:=hga.2; omega
  have m4:¬ w0.next=w.next:=by omega
  have hbox:=hw.box
  have hia:=fun w=>ia22 w ⟨b,0,sq⟩ l.length c .i64 i hlt
  have hi1:=fun w=>ia23 w ⟨b1,o1,q1⟩ R.length c1 .i64 i (e1 ▸ hlt)
  have hi2:=fun w=>ia23 w ⟨b2,o2,q2⟩ H.length c2 .i64 i (e2 ▸ hlt)
  have hi3:=fun w=>ia23 w ⟨b3,o3,q3⟩ G.length c3 .i64 i (e3 ▸ hlt)
  have hw1:IntKind.wrap .i64 ((i:Int) + 1)=(i:Int) + 1:=wrap64_in (by omega) (by omega)
  have hs:=truth_snoc hp hri hhi hgi
  rw [hok,Bool.true_and] at hs
  have r72:=fun n a b w=>rule43 h72 n a b 0 w
  simp only [Nat.zero_add] at r72
  have k2:(podC p)[2]?=some (.int .i64 p.rl):=rfl
  have d2:(podC p).drop 2=[.int .i64 p.rl,.int .i64 p.rh,.int .i64 p.hl,.int .i64 p.hh,.int .i64 p.gl,.int .i64 p.gh]:=rfl
  have d4:(podC p).drop 4=[.int .i64 p.hl,.int .i64 p.hh,.int .i64 p.gl,.int .i64 p.gh]:=rfl
  have d6:(podC p).drop 6=[.int .i64 p.gl,.int .i64 p.gh]:=rfl
  cases f1:inI p.rl r p.rh with
  | false =>
   have hbad:truthTo l R H G l.length=false:=truth_false (i:=i + 1) (by rw [hs]; simp [truthOk,f1]) _ hlt
   simp [mc22_l0,t3,t29,t30,t31,hlt,hia,hi1,hi2,hi3,hld,hdr,hdh,hdg,hl1,m0,m1,m2,m3,m4,hbox,d2,d4,d6,r72,f1,cellsOf_agg]
   exact hno hbad _ _ (by simp)
  | true =>
   cases f2:inI p.hl h p.hh with
   | false =>
    have hbad:truthTo l R H G l.length=false:=truth_false (i:=i + 1) (by rw [hs]; simp [truthOk,f2]) _ hlt
    simp [mc22_l0,t3,t29,t30,t31,hlt,hia,hi1,hi2,hi3,hld,hdr,hdh,hdg,hl1,m0,m1,m2,m3,m4,hbox,d2,d4,d6,r72,f1,f2,cellsOf_agg]
    exact hno hbad _ _ (by simp)
   | true =>
    cases f3:inI p.gl g p.gh with
    | false =>
     have hbad:truthTo l R H G l.length=false:=truth_false (i:=i + 1) (by rw [hs]; simp [truthOk,f3]) _ hlt
     simp [mc22_l0,t3,t29,t30,t31,hlt,hia,hi1,hi2,hi3,hld,hdr,hdh,hdg,hl1,m0,m1,m2,m3,m4,hbox,d2,d4,d6,r72,f1,f2,f3,cellsOf_agg]
     exact hno hbad _ _ (by simp)
    | true =>
     have hs':truthTo l R H G (i + 1)=true:=by rw [hs]; simp [truthOk,f1,f2,f3]
     simp [mc22_l0,t3,t29,t30,t31,hlt,hia,hi1,hi2,hi3,hld,hdr,hdh,hdg,hl1,m0,m1,m2,m3,m4,hbox,d2,d4,d6,r72,f1,f2,f3,cellsOf_agg,hw1]
     exact ⟨by omega,hlt,hs',hw.put (fun b hb=>by show ((w.heap.put w.next _).put w.next _).get b=_; rw [get_put,if_neg (by omega),get_put,if_neg (by omega)]) (Nat.le_succ _) rfl⟩
 ·have hi':i=l.length:=by omega
  subst hi'
  simp [mc22_l0,t30,t31]
  exact hyes hok _ _
theorem run22 {ov:Ov} (ho:∀ args w,ov 22 args w=none) (h72:HasP ov 43 F43) (l:List Pod) (R H G:List Int) (v vr vh vg:Value) (w:AW) (hl:w.lim=w.next) (hv:PodsV w v l) (hr:RowsV intC w vr R) (hh:RowsV intC w vh H) (hg:RowsV intC w vg G) (hlen:l.length≤100) :
  ∃ x w',(run Tryz.prog ov 2).call 22 [v,.agg ⟨[vr,vh,vg]⟩] w .none=.ok (.ret x) w' .none∧x=.bool (truthB l R H G):=by
 refine call_wp text22 (by simp) (ho _ _) ?_
 have hl0:=len22V hv
 have hl1:=len23V hr
 have hl2:=len23V hh
 have hl3:=len23V hg
 by_cases f1:R.length=l.length
 case' neg =>
  have f1':¬ (R.length:Int)=l.length:=by omega
  simp [mc22,hl0,hl1,f1',truthB,f1,tupV]
 by_cases f2:H.length=l.length
 case' neg =>
  have f2':¬ (H.length:Int)=l.length:=by omega
  simp [mc22,hl0,hl1,hl2,f1,f2',truthB,f2,tupV]
 by_cases f3:G.length=l.length
 case' neg =>
  have f3':¬ (G.length:Int)=l.length:=by omega
  simp [mc22,hl0,hl1,hl2,hl3,f1,f2,f3',truthB,f3,tupV]
 simp [mc22,hl0,hl1,hl2,hl3,f1,f2,f3]
 refine wp_seqX (wp_blockX (loop22 h72 l R H G v vr vh vg w hv hr hh hg f1 f2 f3 hlen _ _ _ ⟨(Old.refl _ _).put (Nat.le_refl _),?_,?_,?_⟩ ?_ ?_ ?_ ?_ ?_ ?_))
 case _=>simp
 case _=>simp
 case _=>simp [hl]
 case _=>simp
 case _=>simp
 case _=>simp
 case _=>simp
 case _=>intro hy t w; simp [truthB,f1,f2,f3,hy,tupV]
 case _=>intro hn t w h4; simp [truthB,f1,f2,f3,hn,h4,tupV]
noncomputable def F22:PureF:=fun args w=>match args with | [v,.agg ⟨[vr,vh,vg]⟩]=>(podsIn w v).bind fun l=>(rowsIn intC w vr).bind fun R=>(rowsIn intC w vh).bind fun H=>(rowsIn intC w vg).bind fun G=>bif decide (l.length≤100) then some (.bool (truthB l R H G)) else none | _=>none
theorem rule22 {ov:Ov} (k:HasP ov 22 F22) {v vr vh vg:Value} {l:List Pod} {R H G:List Int} {w:AW} (hv:podsIn w v=some l) (hr:RowsV intC w vr R) (hh:RowsV intC w vh H) (hg:RowsV intC w vg G) (hlen:l.length≤100) (m:Nat):(run Tryz.prog ov (m + 1)).call 22 [v,.agg ⟨[vr,vh,vg]⟩] w .none=.ok (.ret (.bool (truthB l R H G))) w .none:=k.call (by
 simp [F22,hv,hr.rowsIn (m:=1) intC_length intC_inj,hh.rowsIn (m:=1) intC_length intC_inj,hg.rowsIn (m:=1) intC_length intC_inj,hlen])
theorem pod_ok {p:Pod} (h:podB p=true):PodOk p.born p.rl p.rh p.hl p.hh p.gl p.gh:=by
 simp only [podB,inI,spanI,Bool.and_eq_true,decide_eq_true_eq] at h
 obtain ⟨_,⟨h1,h2⟩,⟨h3,h4,h5⟩,⟨h6,h7,h8⟩,h9,h10,h11⟩:=h
 exact ⟨h1,h2,h3,h4,h5,h6,h7,h8,h9,h10,h11⟩
theorem chk_at {l:List Pod} {i:Nat} {p:Pod} (hp:l[i]?=some p):∀ n,i < n→chkB l n=true→podB p=true
 | 0,h,_=>by omega
 | n + 1,h,hc=>by
  have hc':(chkB l n && (match l[n]? with | some p=>podB p && !hasT (tagsTo l n) p.tag | none=>true))=true:=hc
  rw [Bool.and_eq_true] at hc'
  by_cases e:i=n
  ·subst e
   rw [hp] at hc'
   have:=hc'.2
   rw [Bool.and_eq_true] at this
   exact this.1
  ·exact chk_at hp n (by omega) hc'.1
theorem pods_all {l:List Pod} (h:podsB l=true) {i:Nat} {p:Pod} (hp:l[i]?=some p):podB p=true:=by
 simp only [podsB,Bool.and_eq_true] at h
 exact chk_at hp l.length (List.getElem?_eq_some_iff.1 hp).1 h.2
theorem planTo_at {l:List Pod} {pl:List Int} {i:Nat} {p:Pod} {d:Int} (hp:l[i]?=some p) (hd:pl[i]?=some d):∀ n,i < n→planTo l pl n=true→planOk p d=true
 | 0,h,_=>by omega
 | n + 1,h,hc=>by
  have hc':(planTo l pl n && (match l[n]?,pl[n]? with | some p,some d=>planOk p d | _,_=>true))=true:=hc
  rw [Bool.and_eq_true] at hc'
  by_cases e:i=n
  ·subst e
   rw [hp,hd] at hc'
   exact hc'.2
  ·exact planTo_at hp hd n (by omega) hc'.1
theorem plan_at {l:List Pod} {pl:List Int} (h:planB l pl=true) {i:Nat} {p:Pod} {d:Int} (hp:l[i]?=some p) (hd:pl[i]?=some d):planOk p d=true:=by
 simp only [planB,Bool.and_eq_true] at h
 exact planTo_at hp hd l.length (List.getElem?_eq_some_iff.1 hp).1 h.2
theorem plan_day {p:Pod} {d:Int} (h:planOk p d=true):dayOk p.born d:=by
 simpa [planOk,dayOk] using h
theorem truthTo_at {l:List Pod} {R H G:List Int} {i:Nat} {p:Pod} {r h g:Int} (hp:l[i]?=some p) (k1:R[i]?=some r) (k2:H[i]?=some h) (k3:G[i]?=some g):∀ n,i < n→truthTo l R H G n=true→truthOk p r h g=true
 | 0,h,_=>by omega
 | n + 1,hn,hc=>by
  have hc':(truthTo l R H G n && (match l[n]?,R[n]?,H[n]?,G[n]? with | some p,some r,some h,some g=>truthOk p r h g | _,_,_,_=>true))=true:=hc
  rw [Bool.and_eq_true] at hc'
  by_cases e:i=n
  ·subst e
   rw [hp,k1,k2,k3] at hc'
   exact hc'.2
  ·exact truthTo_at hp k1 k2 k3 n (by omega) hc'.1
theorem truth_at {l:List Pod} {R H G:List Int} (hB:truthB l R H G=true) {i:Nat} {p:Pod} {r h g:Int} (hp:l[i]?=some p) (k1:R[i]?=some r) (k2:H[i]?=some h) (k3:G[i]?=some g):truthOk p r h g=true:=by
 simp only [truthB,Bool.and_eq_true] at hB
 exact truthTo_at hp k1 k2 k3 l.length (List.getElem?_eq_some_iff.1 hp).1 hB.2.2.2
theorem num_of {p:Pod} {d r h g:Int} (h1:podB p=true) (h2:planOk p d=true) (h3:truthOk p r h g=true):numB p d r h g=true:=by
 have k:=pod_ok h1
 have hd:=plan_day h2
 simp only [truthOk,inI,Bool.and_eq_true,decide_eq_true_eq] at h3
 obtain ⟨⟨a1,a2⟩,⟨a3,a4⟩,a5,a6⟩:=h3
 have:=k.born0; have:=k.born1; have:=k.r0; have:=k.r2; have:=k.h0; have:=k.h2; have:=k.g0; have:=k.g2
 simp only [numB,inI,Bool.and_eq_true,decide_eq_true_eq]
 unfold dayOk at hd
 omega
theorem small_of {p:Pod} {d r h g:Int} (h1:podB p=true) (h2:planOk p d=true) (h3:truthOk p r h g=true):smallY (ylI p.born d r h g):=by
 simp only [truthOk,inI,Bool.and_eq_true,decide_eq_true_eq] at h3
 obtain ⟨⟨a1,a2⟩,_,a5,a6⟩:=h3
 exact yl_bd (pod_ok h1) (plan_day h2) a1 a2 a5 a6
def ysH:List Pod→List Int→List Int→List Int→List Int→List Yl
 | p::l,d::pl,r::R,h::H,g::G=>ylI p.born d r h g::ysH l pl R H G
 | _,_,_,_,_=>[]
theorem ysH_length:∀ (l:List Pod) (pl R H G:List Int),pl.length=l.length→R.length=l.length→H.length=l.length→G.length=l.length→(ysH l pl R H G).length=l.length
 | [],_,_,_,_,_,_,_,_=>rfl
 | p::l,d::pl,r::R,h::H,g::G,h1,h2,h3,h4=>by
  show (ysH l pl R H G).length + 1=l.length + 1
  rw [ysH_length l pl R H G (by simpa using h1) (by simpa using h2) (by simpa using h3) (by simpa using h4)]
 | _::_,[],_,_,_,h,_,_,_=>by simp at h
 | _::_,_::_,[],_,_,_,h,_,_=>by simp at h
 | _::_,_::_,_::_,[],_,_,_,h,_=>by simp at h
 | _::_,_::_,_::_,_::_,[],_,_,_,h=>by simp at h
theorem ysH_at:∀ (l:List Pod) (pl R H G:List Int) (i:Nat) (p:Pod) (d r h g:Int),l[i]?=some p→pl[i]?=some d→R[i]?=some r→H[i]?=some h→G[i]?=some g→(ysH l pl R H G)[i]?=some (ylI p.born d r h g)
 | [],_,_,_,_,i,_,_,_,_,_,h,_,_,_,_=>by simp at h
 | _::_,[],_,_,_,i,_,_,_,_,_,_,h,_,_,_=>by simp at h
 | _::_,_::_,[],_,_,i,_,_,_,_,_,_,_,h,_,_=>by simp at h
 | _::_,_::_,_::_,[],_,i,_,_,_,_,_,_,_,_,h,_=>by simp at h
 | _::_,_::_,_::_,_::_,[],i,_,_,_,_,_,_,_,_,_,h=>by simp at h
 | p::l,d::pl,r::R,h::H,g::G,0,p',d',r',h',g',k1,k2,k3,k4,k5=>by
  simp only [List.getElem?_cons_zero,Option.some.injEq] at k1 k2 k3 k4 k5
  subst k1 k2 k3 k4 k5
  rfl
 | p::l,d::pl,r::R,h::H,g::G,i + 1,p',d',r',h',g',k1,k2,k3,k4,k5=>by
  simp only [List.getElem?_cons_succ] at k1 k2 k3 k4 k5
  exact ysH_at l pl R H G i p' d' r' h' g' k1 k2 k3 k4 k5
@[simp] theorem ms103 (n:Nat) (hn:n≤1000) (w:AW):makeSliceA Tryz.prog w 86 (.int .i64 (n:Int)) (.int .i64 (n:Int))=.val (.slice (some ⟨w.next,0,none⟩) n n) ⟨w.heap.put w.next (some (.cells ((List.replicate n (⟨0,0,0,0⟩:Yl)).flatMap ylC) 47 false)),w.next + 1,w.lim⟩:=by
 rw [← repl_flat]
 exact make_eq (e:=47) (z:=.agg ⟨ylC ⟨0,0,0,0⟩⟩) (by kernel_rfl) (by kernel_rfl) (by kernel_rfl) n hn w
@[simp] theorem bd77p (p:Pod) (w:AW):buildA Tryz.prog w 88 [(0,.agg ⟨podC p⟩)]=.val (.agg ⟨podC p⟩) w:=bd88_0 w _ _ _ _ _ _ _ _
theorem PartsW.old {w w':AW} (h:PartsW w) (ho:Old w.next w.heap w'.heap) (hn:w.next≤w'.next):PartsW w':=by
 obtain ⟨⟨ro,h1⟩,h2⟩:=h
 exact ⟨⟨ro,by rw [ho 0 h2]; exact h1⟩,by omega⟩
structure RowW (H0:T AObj) (n0:Nat) (bx:List Value) (e:TypeId) (res:List Value) (er:TypeId) (n:Nat) (P:List Yl→Prop) (w:AW):Prop where
 base:Base H0 n0 bx e w
 res:w.heap.get (n0 + 1)=some (.cells res er false)
 row:∃ Ls,w.heap.get (n0 + 2)=some (.cells (Ls.flatMap ylC) 47 false)∧Ls.length=n∧P Ls
 next:n0 + 2 < w.next
theorem RowW.step {H0:T AObj} {n0:Nat} {bx:List Value} {e:TypeId} {res:List Value} {er:TypeId} {n:Nat} {P P':List Yl→Prop} {w w1:AW} (hw:RowW H0 n0 bx e res er n P w) (h1:∀ x,x < w.next→w1.heap.get x=w.heap.get x) (h2:w.next≤w1.next) (h3:w1.lim=w.lim) {Ls:List Yl} (hl:Ls.length=n) (hP:P' Ls) :
  RowW H0 n0 bx e res er n P' ⟨w1.heap.put (n0 + 2) (some (.cells (Ls.flatMap ylC) 47 false)),w1.next,w1.lim⟩:=by
 have hn:=hw.next
 refine ⟨⟨fun b hb=>?_,?_,by show n0 < w1.next; omega,by show w1.lim≤n0; rw [h3]; exact hw.base.lim⟩,?_,⟨Ls,?_,hl,hP⟩,by show n0 + 2 < w1.next; omega⟩
 ·show (w1.heap.put (n0 + 2) _).get b=_
  rw [get_put,if_neg (by omega),h1 b (by omega),hw.base.old b hb]
 ·show (w1.heap.put (n0 + 2) _).get n0=_
  rw [get_put,if_neg (by omega),h1 n0 (by omega),hw.base.box]
 ·show (w1.heap.put (n0 + 2) _).get (n0 + 1)=_
  rw [get_put,if_neg (by omega),h1 (n0 + 1) (by omega),hw.res]
 ·show (w1.heap.put (n0 + 2) _).get (n0 + 2)=_
  rw [get_put,if_pos rfl]
theorem PodsV.old {w w':AW} {v:Value} {l:List Pod} (h:PodsV w v l) (ho:Old w.next w.heap w'.heap) (hn:w.next≤w'.next):PodsV w' v l:=by
 rcases h with h | ⟨b,sq,c,e,⟨rest,e',ro,h1⟩,h2⟩
 ·exact .inl h
 ·exact .inr ⟨b,sq,c,e,⟨rest,e',ro,by rw [ho b h2]; exact h1⟩,by omega⟩
theorem loop23 {ov:Ov} (h73:HasP ov 44 F44) (l:List Pod) (pl R H G:List Int) (v u vr vh vg:Value) (w0:AW) (hPW:PartsW w0) (hv:PodsV w0 v l) (hu:RowsV intC w0 u pl) (hr:RowsV intC w0 vr R) (hh:RowsV intC w0 vh H) (hg:RowsV intC w0 vg G)
  (hB:podsB l=true) (hP:planB l pl=true) (hT:truthB l R H G=true)
  (Q:Ex→Tm→AW→Prop) (t:Tm) (w:AW) (hw:RowW w0.heap w0.next [vr,vh,vg] 42 (ylC ⟨0,0,0,0⟩) 47 l.length (fun Ls=>True) w)
  (t1:tget t 1=u) (t5:tget t 5=.pointer (some ⟨w0.next,0,none⟩)) (t6:tget t 6=.pointer (some ⟨w0.next + 1,0,none⟩)) (t7:tget t 7=.slice (some ⟨w0.next + 2,0,none⟩) l.length l.length) (t13:tget t 13=v) (t14:tget t 14=.int .i64 (l.length:Nat)) (t15:tget t 15=.int .i64 0)
  (hQ:∀ t w,tget t 6=.pointer (some ⟨w0.next + 1,0,none⟩)→tget t 7=.slice (some ⟨w0.next + 2,0,none⟩) l.length l.length→RowW w0.heap w0.next [vr,vh,vg] 42 (ylC ⟨0,0,0,0⟩) 47 l.length (fun Ls=>∀ j,j < l.length→Ls[j]?=(ysH l pl R H G)[j]?) w→Q (.exit 0) t w):wp (exM Tryz.prog (run Tryz.prog ov 1) (.loop mc23_l0) t w) Q:=by
 have hlen:=podsB_len hB
 have e0:pl.length=l.length:=by simp only [planB,Bool.and_eq_true,decide_eq_true_eq] at hP; exact hP.1
 obtain ⟨e1,e2,e3⟩:R.length=l.length∧H.length=l.length∧G.length=l.length:=by simp only [truthB,Bool.and_eq_true,decide_eq_true_eq] at hT; exact ⟨hT.1,hT.2.1,hT.2.2.1⟩
 refine wp_rounds (fun i t w=>tget t 1=u∧tget t 5=.pointer (some ⟨w0.next,0,none⟩)∧tget t 6=.pointer (some ⟨w0.next + 1,0,none⟩)∧tget t 7=.slice (some ⟨w0.next + 2,0,none⟩) l.length l.length∧tget t 13=v∧tget t 14=.int .i64 (l.length:Nat)∧tget t 15=.int .i64 (i:Nat)∧i≤l.length∧RowW w0.heap w0.next [vr,vh,vg] 42 (ylC ⟨0,0,0,0⟩) 47 l.length (fun Ls=>∀ j,j < i→Ls[j]?=(ysH l pl R H G)[j]?) w) 200 (by decide) ⟨t1,t5,t6,t7,t13,t14,t15,Nat.zero_le _,hw.base,hw.res,(let ⟨Ls,k1,k2,_⟩:=hw.row; ⟨Ls,k1,k2,fun j hj=>by omega⟩),hw.next⟩ ?_
 clear t1 t5 t6 t7 t13 t14 t15 hw
 rintro i t w ⟨t1,t5,t6,t7,t13,t14,t15,hi,hw⟩
 by_cases hlt:i < l.length
 ·obtain ⟨p,hp⟩:∃ p,l[i]?=some p:=⟨_,List.getElem?_eq_getElem hlt⟩
  obtain ⟨d,hdi⟩:∃ d,pl[i]?=some d:=⟨_,List.getElem?_eq_getElem (e0 ▸ hlt)⟩
  obtain ⟨r,hri⟩:∃ d,R[i]?=some d:=⟨_,List.getElem?_eq_getElem (e1 ▸ hlt)⟩
  obtain ⟨h,hhi⟩:∃ d,H[i]?=some d:=⟨_,List.getElem?_eq_getElem (e2 ▸ hlt)⟩
  obtain ⟨g,hgi⟩:∃ d,G[i]?=some d:=⟨_,List.getElem?_eq_getElem (e3 ▸ hlt)⟩
  obtain ⟨b,sq,c,rfl,hpa⟩:=hv.at_ i hlt
  obtain ⟨b0,o0,q0,c0,rfl,hda⟩:=hu.at_ i (e0 ▸ hlt)
  obtain ⟨b1,o1,q1,c1,rfl,hra⟩:=hr.at_ i (e1 ▸ hlt)
  obtain ⟨b2,o2,q2,c2,rfl,hha⟩:=hh.at_ i (e2 ▸ hlt)
  obtain ⟨b3,o3,q3,c3,rfl,hga⟩:=hg.at_ i (e3 ▸ hlt)
  have hnum:=num_of (pods_all hB hp) (plan_at hP hp hdi) (truth_at hT hp hri hhi hgi)
  have hya:=ysH_at l pl R H G i p d r h g hp hdi hri hhi hgi
  have hld:=load_pod' hpa hp
  have hdd:=hda.int hdi
  have hdr:=hra.int hri
  have hdh:=hha.int hhi
  have hdg:=hga.int hgi
  rw [← hw.base.old _ hpa.lt] at hld
  rw [← hw.base.old _ hda.2] at hdd
  rw [← hw.base.old _ hra.2] at hdr
  rw [← hw.base.old _ hha.2] at hdh
  rw [← hw.base.old _ hga.2] at hdg
  have n2:=hw.next
  have hlim:=hw.base.lim
  have hl1:w.lim≤w.next:=by omega
  have hl2:w.lim≤w0.next + 2:=by omega
  have m0:¬ b=w.next:=by have:=hpa.lt; omega
  have m1:¬ b1=w.next:=by have:=hra.2; omega
  have m2:¬ b2=w.next:=by have:=hha.2; omega
  have m3:¬ b3=w.next:=by have:=hga.2; omega
  have m4:¬ w0.next=w.next:=by omega
  have m5:¬ w0.next + 2=w.next:=by omega
  have m6:¬ b0=w.next:=by have:=hda.2; omega
  have hbox:=hw.base.box
  obtain ⟨Ls,hrow,hLl,hLs⟩:=hw.row
  obtain ⟨cs,hcs⟩:∃ cs,cs=Ls.flatMap ylC:=⟨_,rfl⟩
  have hcl:cs.length=l.length * 4:=by rw [hcs,flat_length ylC_length,hLl]
  rw [← hcs] at hrow
  have hset:=flat_set ylC_length Ls i (ylI p.born d r h g) (by omega)
  rw [← hcs] at hset
  have hia:=fun w=>ia22 w ⟨b,0,sq⟩ l.length c .i64 i hlt
  have hi0:=fun w=>ia23 w ⟨b0,o0,q0⟩ pl.length c0 .i64 i (e0 ▸ hlt)
  have hi1:=fun w=>ia23 w ⟨b1,o1,q1⟩ R.length c1 .i64 i (e1 ▸ hlt)
  have hi2:=fun w=>ia23 w ⟨b2,o2,q2⟩ H.length c2 .i64 i (e2 ▸ hlt)
  have hi3:=fun w=>ia23 w ⟨b3,o3,q3⟩ G.length c3 .i64 i (e3 ▸ hlt)
  have hi4:=fun w=>ia86 w ⟨w0.next + 2,0,none⟩ l.length l.length .i64 i hlt
  have hw1:IntKind.wrap .i64 ((i:Int) + 1)=(i:Int) + 1:=wrap64_in (by omega) (by omega)
  have hfit:i * 4 + 4≤l.length * 4:=by omega
  have hold:∀ x,x < w.next→((w.heap.put w.next (some (.cells [.string ⟨⟨[]⟩⟩,.int .i64 0,.int .i64 0,.int .i64 0,.int .i64 0,.int .i64 0,.int .i64 0,.int .i64 0] 45 false))).put w.next (some (.cells (podC p) 45 false))).get x=w.heap.get x:=fun x hx=>by rw [get_put,if_neg (by omega),get_put,if_neg (by omega)]
  have hPW':PartsW ⟨(w.heap.put w.next (some (.cells [.string ⟨⟨[]⟩⟩,.int .i64 0,.int .i64 0,.int .i64 0,.int .i64 0,.int .i64 0,.int .i64 0,.int .i64 0] 45 false))).put w.next (some (.cells (podC p) 45 false)),w.next + 1,w.lim⟩:=hPW.old (fun x hx=>by rw [hold x (by omega),hw.base.old x hx]) (by show w0.next≤w.next + 1; omega)
  have r73:=rule44 h73 hnum 0 hPW'
  simp only [Nat.zero_add] at r73
  simp [mc23_l0,t1,t5,t6,t7,t13,t14,t15,hlt,hia,hi0,hi1,hi2,hi3,hi4,hld,hdd,hdr,hdh,hdg,hl1,hl2,m0,m1,m2,m3,m4,m5,m6,hbox,cellsOf_agg,r73,hrow,hcl,hfit,hset,hw1]
  refine ⟨by omega,hlt,hw.step (w1:=⟨_,w.next + 1,w.lim⟩) hold (Nat.le_succ _) rfl (by rw [List.length_set,hLl]) fun j hj=>?_⟩
  by_cases e:j=i
  ·subst e
   rw [List.getElem?_set_self (by omega),hya]
  ·rw [List.getElem?_set_ne (Ne.symm e),hLs j (by omega)]
 ·have hi':i=l.length:=by omega
  subst hi'
  simp [mc23_l0,t14,t15]
  exact hQ _ _ (by simp [t6]) (by simp [t7]) hw
theorem run23 {ov:Ov} (ho:∀ args w,ov 23 args w=none) (h73:HasP ov 44 F44) (h74:HasP ov 35 F35) (l:List Pod) (pl R H G:List Int) (v u vr vh vg:Value) (w:AW) (hl:w.lim=w.next) (hPW:PartsW w) (hv:PodsV w v l) (hu:RowsV intC w u pl) (hr:RowsV intC w vr R) (hh:RowsV intC w vh H) (hg:RowsV intC w vg G)
  (hB:podsB l=true) (hP:planB l pl=true) (hT:truthB l R H G=true) :
  ∃ x w',(run Tryz.prog ov 2).call 23 [v,u,.agg ⟨[vr,vh,vg]⟩] w .none=.ok (.ret x) w' .none∧x=.agg ⟨ylC (sumYl (ysH l pl R H G))⟩:=by
 have hlen:=podsB_len hB
 have e0:pl.length=l.length:=by simp only [planB,Bool.and_eq_true,decide_eq_true_eq] at hP; exact hP.1
 obtain ⟨e1,e2,e3⟩:R.length=l.length∧H.length=l.length∧G.length=l.length:=by simp only [truthB,Bool.and_eq_true,decide_eq_true_eq] at hT; exact ⟨hT.1,hT.2.1,hT.2.2.1⟩
 have hyl:=ysH_length l pl R H G e0 e1 e2 e3
 refine call_wp text23 (by simp) (ho _ _) ?_
 have hl0:=len22V hv
 have hms:=fun w=>ms103 l.length (by omega) w
 simp [mc23,hl0,hms]
 refine wp_seqX (wp_blockX (loop23 h73 l pl R H G v u vr vh vg w hPW hv hu hr hh hg hB hP hT _ _ _ ⟨⟨?_,?_,?_,?_⟩,?_,⟨List.replicate l.length ⟨0,0,0,0⟩,?_,?_,trivial⟩,?_⟩ ?_ ?_ ?_ ?_ ?_ ?_ ?_ ?_))
 case _=>exact (((Old.refl _ _).put (Nat.le_refl _)).put (Nat.le_succ _)).put (by omega)
 case _=>simp
 case _=>simp; try omega
 case _=>simp [hl]
 case _=>simp [ylC]
 case _=>simp
 case _=>simp
 case _=>simp; try omega
 case _=>simp
 case _=>simp
 case _=>simp
 case _=>simp
 case _=>simp
 case _=>simp
 case _=>simp
 case _ =>
  intro t w' s6 s7 hI
  obtain ⟨Ls,hrow,hLl,hLs⟩:=hI.row
  have heq:Ls=ysH l pl R H G:=List.ext_getElem? fun j=>by
   by_cases hj:j < l.length
   ·exact hLs j hj
   ·rw [List.getElem?_eq_none (by omega),List.getElem?_eq_none (by omega)]
  subst heq
  have hRV:RowsV ylC w' (.slice (some ⟨w.next + 2,0,none⟩) l.length l.length) (ysH l pl R H G):=by
   rw [← hyl]
   exact .inr ⟨_,0,none,_,rfl,⟨[],[],47,false,by rw [List.nil_append,List.append_nil]; exact hrow,rfl⟩,hI.next⟩
  have r74:=rule35 h74 (ys:=ysH l pl R H G) (fun y hy=>by
   obtain ⟨i,hi⟩:=List.mem_iff_getElem?.1 hy
   have hil:i < l.length:=by have:=(List.getElem?_eq_some_iff.1 hi).1; omega
   obtain ⟨p,hp⟩:∃ p,l[i]?=some p:=⟨_,List.getElem?_eq_getElem hil⟩
   obtain ⟨d,hdi⟩:∃ d,pl[i]?=some d:=⟨_,List.getElem?_eq_getElem (e0 ▸ hil)⟩
   obtain ⟨r,hri⟩:∃ d,R[i]?=some d:=⟨_,List.getElem?_eq_getElem (e1 ▸ hil)⟩
   obtain ⟨h,hhi⟩:∃ d,H[i]?=some d:=⟨_,List.getElem?_eq_getElem (e2 ▸ hil)⟩
   obtain ⟨g,hgi⟩:∃ d,G[i]?=some d:=⟨_,List.getElem?_eq_getElem (e3 ▸ hil)⟩
   rw [ysH_at l pl R H G i p d r h g hp hdi hri hhi hgi] at hi
   cases hi
   exact small_of (pods_all hB hp) (plan_at hP hp hdi) (truth_at hT hp hri hhi hgi)) (by omega) 0 hRV
  simp only [Nat.zero_add] at r74
  have hres:=hI.res
  have hlim:w'.lim≤w.next + 1:=by have:=hI.base.lim; omega
  simp [s6,s7,r74,hres,hlim,tupV,cellsOf_agg]
open Classical in
noncomputable def F23:PureF:=fun args w=>match args with | [v,u,.agg ⟨[vr,vh,vg]⟩]=>(podsIn w v).bind fun l=>(rowsIn intC w u).bind fun pl=>(rowsIn intC w vr).bind fun R=>(rowsIn intC w vh).bind fun H=>(rowsIn intC w vg).bind fun G=>if podsB l=true∧planB l pl=true∧truthB l R H G=true∧PartsW w then some (.agg ⟨ylC (sumYl (ysH l pl R H G))⟩) else none | _=>none
theorem rule23 {ov:Ov} (k:HasP ov 23 F23) {v u vr vh vg:Value} {l:List Pod} {pl R H G:List Int} {w:AW} (hPW:PartsW w) (hv:podsIn w v=some l) (hu:RowsV intC w u pl) (hr:RowsV intC w vr R) (hh:RowsV intC w vh H) (hg:RowsV intC w vg G) (hB:podsB l=true) (hP:planB l pl=true) (hT:truthB l R H G=true) (m:Nat) :
  (run Tryz.prog ov (m + 1)).call 23 [v,u,.agg ⟨[vr,vh,vg]⟩] w .none=.ok (.ret (.agg ⟨ylC (sumYl (ysH l pl R H G))⟩)) w .none:=k.call (by
 simp only [F23,hv,hu.rowsIn (m:=1) intC_length intC_inj,hr.rowsIn (m:=1) intC_length intC_inj,hh.rowsIn (m:=1) intC_length intC_inj,hg.rowsIn (m:=1) intC_length intC_inj,Option.bind_some]
 rw [if_pos ⟨hB,hP,hT,hPW⟩])
def harE (l:List Pod) (pl R H G:List Int):Int:=if chkE l pl=0 then (bif truthB l R H G then 0 else 32) else chkE l pl
def harY (l:List Pod) (pl R H G:List Int):Yl:=if harE l pl R H G=0 then sumYl (ysH l pl R H G) else ⟨0,0,0,0⟩
theorem chk_zero {l:List Pod} {pl:List Int} (h:chkE l pl=0):podsB l=true∧planB l pl=true:=by
 unfold chkE at h
 cases h1:podsB l with
 | false=>rw [h1] at h; cases h
 | true =>
  cases h2:planB l pl with
  | false=>rw [h1,h2] at h; cases h
  | true=>exact ⟨rfl,rfl⟩
theorem run8 {ov:Ov} (ho:∀ args w,ov 8 args w=none) (h50:HasP ov 15 F15) (h51:HasP ov 22 F22) (h52:HasP ov 23 F23) (l:List Pod) (pl R H G:List Int) (v u vr vh vg:Value) (w:AW) (hl:w.lim=w.next) (hPW:PartsW w) (hpin:podsIn w v=some l) (hu:RowsV intC w u pl) (hr:RowsV intC w vr R) (hh:RowsV intC w vh H) (hg:RowsV intC w vg G) :
  ∃ x w',(run Tryz.prog ov 2).call 8 [v,u,.agg ⟨[vr,vh,vg]⟩] w .none=.ok (.ret x) w' .none∧x=.tuple ⟨[.agg ⟨ylC (harY l pl R H G)⟩,.int .i64 (harE l pl R H G)]⟩:=by
 refine call_wp text8 (by simp) (ho _ _) ?_
 have hv:=podsIn_some hpin
 obtain ⟨W1,hW1⟩:∃ W1:AW,W1=⟨(w.heap.put w.next (some (.cells [vr,vh,vg] 42 false))).put (w.next + 1) (some (.cells [.int .i64 0,.int .i64 0,.int .i64 0,.int .i64 0] 47 false)),w.next + 1 + 1,w.lim⟩:=⟨_,rfl⟩
 have o1:Old w.next w.heap W1.heap:=by rw [hW1]; exact ((Old.refl _ _).put (Nat.le_refl _)).put (Nat.le_succ _)
 have hn:w.next≤W1.next:=by rw [hW1]; show w.next≤w.next + 1 + 1; omega
 have a0:=(hv.old o1 hn).podsIn
 have a1:=hu.old o1 hn
 have a2:=hr.old o1 hn
 have a3:=hh.old o1 hn
 have a4:=hg.old o1 hn
 have a5:=hPW.old o1 hn
 have r50:=rule15 h50 a0 a1 0
 simp only [Nat.zero_add,hW1] at r50
 have hl1:w.lim≤w.next + 1:=by omega
 by_cases hc:chkE l pl=0
 ·obtain ⟨hB,hP⟩:=chk_zero hc
  have r51:=rule22 h51 a0 a2 a3 a4 (by have:=podsB_len hB; omega) 0
  simp only [Nat.zero_add,hW1] at r51
  cases hT:truthB l R H G with
  | false =>
   have e1:harE l pl R H G=32:=by simp [harE,hc,hT]
   simp [mc8,r50,hc,r51,hT,hl1,tupV,harY,e1,ylC]
  | true =>
   have e1:harE l pl R H G=0:=by simp [harE,hc,hT]
   have r52:=rule23 h52 a5 a0 a1 a2 a3 a4 hB hP hT 0
   simp only [Nat.zero_add,hW1] at r52
   simp [mc8,r50,hc,r51,hT,r52,hl1,tupV,harY,e1,cellsOf_agg]
 ·have e1:harE l pl R H G=chkE l pl:=by simp [harE,hc]
  simp [mc8,r50,hc,hl1,tupV,harY,e1,ylC]
open Classical in
noncomputable def F8:PureF:=fun args w=>match args with | [v,u,.agg ⟨[vr,vh,vg]⟩]=>(podsIn w v).bind fun l=>(rowsIn intC w u).bind fun pl=>(rowsIn intC w vr).bind fun R=>(rowsIn intC w vh).bind fun H=>(rowsIn intC w vg).bind fun G=>if PartsW w then some (.tuple ⟨[.agg ⟨ylC (harY l pl R H G)⟩,.int .i64 (harE l pl R H G)]⟩) else none | _=>none
theorem rule8 {ov:Ov} {f:FuncId} (k:HasP ov f F8) {v u vr vh vg:Value} {l:List Pod} {pl R H G:List Int} {w:AW} (hPW:PartsW w) (hv:podsIn w v=some l) (hu:RowsV intC w u pl) (hr:RowsV intC w vr R) (hh:RowsV intC w vh H) (hg:RowsV intC w vg G) (m:Nat) :
  (run Tryz.prog ov (m + 1)).call f [v,u,.agg ⟨[vr,vh,vg]⟩] w .none=.ok (.ret (.tuple ⟨[.agg ⟨ylC (harY l pl R H G)⟩,.int .i64 (harE l pl R H G)]⟩)) w .none:=k.call (by
 simp only [F8,hv,hu.rowsIn (m:=1) intC_length intC_inj,hr.rowsIn (m:=1) intC_length intC_inj,hh.rowsIn (m:=1) intC_length intC_inj,hg.rowsIn (m:=1) intC_length intC_inj,Option.bind_some]
 rw [if_pos hPW])
theorem same_yl (y:Yl):sameVal 5 (.agg ⟨ylC y⟩) (.agg ⟨ylC y⟩)=true:=same_ints [y.ripe,y.green,y.split,y.left]
structure In34 (H0:T AObj) (n0:Nat) (s:Yl × Yl) (w:AW):Prop where
 old:Old n0 H0 w.heap
 lo:w.heap.get (n0 + 1)=some (.cells (ylC s.1) 47 false)
 hi:w.heap.get (n0 + 2)=some (.cells (ylC s.2) 47 false)
 next:n0 + 2 < w.next
 lim:w.lim≤n0
theorem fold_snoc {l:List Yl} {i:Nat} {y:Yl} (h:l[i]?=some y) (s:Yl × Yl):(l.take (i + 1)).foldl stepE s=stepE ((l.take i).foldl stepE s) y:=by
 rw [List.take_add_one,h,List.foldl_append]
 rfl
set_option maxHeartbeats 1000000 in
theorem loop34 {ov:Ov} (ys:List Yl) (hlen:ys.length≤10000) (s0:Yl × Yl) (H0:T AObj) (n0:Nat) (v:Value) (hv:∀ i,i < ys.length→∃ b off sq c,v=.slice (some ⟨b,off,sq⟩) ys.length c∧RowsA ylC H0 n0 b off ys)
  (Q:Ex→Tm→AW→Prop) (t:Tm) (w:AW) (hw:In34 H0 n0 s0 w)
  (t4:tget t 4=.pointer (some ⟨n0 + 1,0,none⟩)) (t5:tget t 5=.pointer (some ⟨n0 + 2,0,none⟩)) (t10:tget t 10=v) (t11:tget t 11=.int .i64 (ys.length:Nat)) (t12:tget t 12=.int .i64 0)
  (hQ:∀ t w,tget t 4=.pointer (some ⟨n0 + 1,0,none⟩)→tget t 5=.pointer (some ⟨n0 + 2,0,none⟩)→In34 H0 n0 (ys.foldl stepE s0) w→Q (.exit 0) t w) (m:Nat):wp (exM Tryz.prog (run Tryz.prog ov m) (.loop mc34_l0) t w) Q:=by
 refine wp_rounds (fun i t w=>tget t 4=.pointer (some ⟨n0 + 1,0,none⟩)∧tget t 5=.pointer (some ⟨n0 + 2,0,none⟩)∧tget t 10=v∧tget t 11=.int .i64 (ys.length:Nat)∧tget t 12=.int .i64 (i:Nat)∧i≤ys.length∧In34 H0 n0 ((ys.take i).foldl stepE s0) w) 20000 (by decide) ⟨t4,t5,t10,t11,t12,Nat.zero_le _,hw⟩ ?_
 clear t4 t5 t10 t11 t12 hw
 rintro i t w ⟨t4,t5,t10,t11,t12,hi,hw⟩
 by_cases hlt:i < ys.length
 ·obtain ⟨y,hyi⟩:∃ y,ys[i]?=some y:=⟨_,List.getElem?_eq_getElem hlt⟩
  obtain ⟨b,off,sq,c,rfl,hr⟩:=hv i hlt
  have hb:=hr.2
  have hld:=hr.rd (m:=4) ylC_length hyi
  rw [← hw.old b hb] at hld
  have n2:=hw.next
  have hlim:=hw.lim
  have hl1:w.lim≤w.next:=by omega
  have hl2:w.lim≤n0 + 1:=by omega
  have hl3:w.lim≤n0 + 2:=by omega
  have m1:¬ n0 + 1=w.next:=by omega
  have m2:¬ n0 + 2=w.next:=by omega
  have m3:¬ w.next=n0 + 1:=by omega
  have m4:¬ w.next=n0 + 2:=by omega
  have m5:¬ b=w.next:=by omega
  have hia:=fun w=>ia86 w ⟨b,off,sq⟩ ys.length c .i64 i hlt
  have hw1:IntKind.wrap .i64 ((i:Int) + 1)=(i:Int) + 1:=wrap64_in (by omega) (by omega)
  obtain ⟨s,hs⟩:∃ s,s=(ys.take i).foldl stepE s0:=⟨_,rfl⟩
  have hsn:=fold_snoc hyi s0
  rw [← hs] at hsn
  have hlo:=hw.lo
  have hhi:=hw.hi
  rw [← hs] at hlo hhi
  simp [mc34_l0,t4,t5,t10,t11,t12,hlt,hia,hld,hl1,hl2,hl3,m1,m2,m3,m4,m5,cellsOf_agg,hlo,hhi,ylC,hw1]
  refine ⟨by omega,hlt,⟨fun x hx=>?_,?_,?_,?_,?_⟩⟩
  ·have q1:¬ x=w.next:=by omega
   have q2:¬ x=n0 + 1:=by omega
   have q3:¬ x=n0 + 2:=by omega
   simp [q1,q2,q3]
   exact hw.old x hx
  ·rw [hsn]; simp [stepE,ylC]
  ·rw [hsn]; simp [stepE,ylC]
  ·show n0 + 2 < w.next + 1; omega
  ·exact hlim
 ·have hi':i=ys.length:=by omega
  subst hi'
  simp [mc34_l0,t11,t12]
  rw [List.take_length] at hw
  exact hQ _ _ (by simp [t4]) (by simp [t5]) hw
def endsV (s:Yl × Yl):Value:=.tuple ⟨[.agg ⟨ylC s.1⟩,.agg ⟨ylC s.2⟩]⟩
theorem run34 {ov:Ov} (ho:∀ args w,ov 34 args w=none) (y:Yl) (ys:List Yl) (hlen:ys.length≤10000) (v:Value) (w:AW) (hl:w.lim=w.next) (hv:RowsV ylC w v ys) :
  ∃ x w',(run Tryz.prog ov 2).call 34 [.agg ⟨ylC y⟩,v] w .none=.ok (.ret x) w' .none∧x=endsV (ys.foldl stepE (y,y)):=by
 refine call_wp text34 (by simp) (ho _ _) ?_
 obtain ⟨a,c,hvl⟩:=hv.len
 have hln:∀ w,lenB Tryz.prog w 86 v=.val (.int .i64 (ys.length:Nat)) w:=fun w=>by rw [hvl]; simp
 have s1:=same_yl y
 have hl1:w.lim≤w.next + 1:=by omega
 have hl2:w.lim≤w.next + 2:=by omega
 simp [mc34,hln,cellsOf_agg,hl1,hl2,s1]
 refine wp_seqX (wp_blockX (loop34 ys hlen (y,y) w.heap w.next v hv.at_ _ _ _ ⟨?_,?_,?_,?_,?_⟩ ?_ ?_ ?_ ?_ ?_ ?_ 1))
 ·intro x hx
  have q1:¬ x=w.next:=by omega
  have q2:¬ x=w.next + 1:=by omega
  have q3:¬ x=w.next + 2:=by omega
  simp only [get_put]
  rw [if_neg q3,if_neg q2,if_neg q3,if_neg q2,if_neg q1]
 ·simp
 ·simp
 ·simp; try omega
 ·simp [hl]
 ·simp
 ·simp
 ·simp
 ·simp
 ·simp
 ·
  intro t w' s4 s5 hI
  have hlo:=hI.lo
  have hhi:=hI.hi
  have k1:w'.lim≤w.next + 1:=by have:=hI.lim; omega
  have k2:w'.lim≤w.next + 2:=by have:=hI.lim; omega
  have s2:=same_yl (ys.foldl stepE (y,y)).2
  simp [s4,s5,hlo,hhi,k1,k2,s2,cellsOf_agg,tupV,endsV]
open Classical in
noncomputable def F34:PureF:=fun args w=>match args with | [.agg ⟨[.int .i64 a,.int .i64 b,.int .i64 c,.int .i64 d]⟩,v]=>(rowsIn ylC w v).bind fun ys=>if ys.length≤10000 then some (endsV (ys.foldl stepE (⟨a,b,c,d⟩,⟨a,b,c,d⟩))) else none | _=>none
theorem rule34 {ov:Ov} (k:HasP ov 34 F34) (y:Yl) {v:Value} {ys:List Yl} (hlen:ys.length≤10000) (m:Nat) {w:AW} (hv:RowsV ylC w v ys):(run Tryz.prog ov (m + 1)).call 34 [.agg ⟨ylC y⟩,v] w .none=.ok (.ret (endsV (ys.foldl stepE (y,y)))) w .none:=k.call (by
 simp only [F34,ylC,hv.rowsIn (m:=4) ylC_length ylC_inj,Option.bind_some]
 rw [if_pos hlen])
end Go.Proofs.YtijlaopbnigkaaaGreatDoor.walk
