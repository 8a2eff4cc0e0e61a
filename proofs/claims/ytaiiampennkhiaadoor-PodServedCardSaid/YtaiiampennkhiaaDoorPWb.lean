/- Part of a proof by a machine of ones own: see the text with the theorem. -/
import Derived.Test.YtaiiampennkhiaaDoorPWa
import Derived.Test.YtaiiampennkhiaaDoorShF
namespace Go.Proofs.YtaiiampennkhiaaDoor.walk
open Go Go.Sh
set_option maxRecDepth 100000
@[simp] theorem lk100 (w:AW) (b:Nat) (k:ByteArray):lookupA Tryd.prog w 100 (.map (some b)) (.string k) false=lookO w k (w.heap.get b):=lookup_str (e:=4) (by kernel_rfl) (by kernel_rfl) b k
@[simp] theorem up100 (w:AW) (b:Nat) (k:ByteArray) (x:Value):mapUpdateA Tryd.prog w 100 (.map (some b)) (.string k) x=updO w b k x (w.heap.get b):=update_str (e:=4) (by kernel_rfl) b k x
def podsC (l:List Pod):List Value:=l.flatMap podC
def tagsTo (l:List Pod) (i:Nat):List ByteArray:=(l.take i).map (·.tag)
def chkB (l:List Pod):Nat→Bool
 | 0=>true
 | i + 1=>chkB l i && (match l[i]? with | some p=>podB p && !hasT (tagsTo l i) p.tag | none=>true)
def podsB (l:List Pod):Bool:=decide (l.length≤12) && chkB l l.length
@[simp] theorem podC_length (p:Pod):(podC p).length=8:=by simp [podC]
@[simp] theorem podC_singles (p:Pod):singles (podC p)=true:=by simp [podC]
@[simp] theorem podC_drop (p:Pod):(podC p).drop 8=[]:=by simp [podC]
@[simp] theorem podC_take (p:Pod):(podC p).take 8=podC p:=by simp [podC]
@[simp] theorem podC_g0 (p:Pod) (h:0 < (podC p).length):(podC p)[0]=.string p.tag:=by simp [podC]
@[simp] theorem podC_0 (p:Pod):(podC p)[0]?=some (.string p.tag):=by simp [podC]
theorem pods_at:∀ (l:List Pod) (i:Nat) (p:Pod) (rest:List Value),l[i]?=some p→((podsC l++rest).drop (i * 8)).take 8=podC p∧i * 8 + 8≤(podsC l++rest).length
 | [],i,p,rest,h=>by simp at h
 | q::l,0,p,rest,h=>by
  simp only [List.getElem?_cons_zero,Option.some.injEq] at h
  subst h
  refine ⟨?_,?_⟩
  ·show ((podC q++podsC l++rest).drop 0).take 8=_
   rw [List.drop_zero,List.append_assoc,List.take_append_of_le_length (by rw [podC_length]; omega),List.take_of_length_le (by rw [podC_length]; omega)]
  ·show 0 * 8 + 8≤(podC q++podsC l++rest).length
   simp [podC_length]
 | q::l,i + 1,p,rest,h=>by
  rw [List.getElem?_cons_succ] at h
  obtain ⟨h1,h2⟩:=pods_at l i p rest h
  refine ⟨?_,?_⟩
  ·show ((podC q++podsC l++rest).drop ((i + 1) * 8)).take 8=_
   have e:(i + 1) * 8=(podC q).length + i * 8:=by rw [podC_length]; omega
   rw [e,List.append_assoc,← List.drop_drop,List.drop_left,h1]
  ·show (i + 1) * 8 + 8≤(podC q++podsC l++rest).length
   rw [List.append_assoc,List.length_append,podC_length]; omega
theorem chk_snoc {l:List Pod} {i:Nat} {p:Pod} (h:l[i]?=some p):chkB l (i + 1)=(chkB l i && (podB p && !hasT (tagsTo l i) p.tag)):=by
 show (chkB l i && (match l[i]? with | some p=>podB p && !hasT (tagsTo l i) p.tag | none=>true))=_
 rw [h]
theorem chk_false {l : List Pod} {i : Nat} (h : chkB l i = false) : ∀ n, i ≤ n → chkB l n = false
  | 0, hn => by obtain rfl : i = 0 := by omega
                exact h
  | n + 1, hn => by
    rcases Nat.eq_or_lt_of_le hn with e | h1
    · rw [← e]; exact h
    · show (chkB l n && _) = false
      rw [chk_false h n (by omega)]; rfl
theorem tags_snoc {l:List Pod} {i:Nat} {p:Pod} (h:l[i]?=some p):tagsTo l (i + 1)=tagsTo l i++[p.tag]:=by
 unfold tagsTo
 rw [List.take_add_one,h]
 simp
theorem tags_length {l:List Pod} {i:Nat} (h:i≤l.length):(tagsTo l i).length=i:=by
 simp [tagsTo]; omega
theorem load_pod {w:AW} {b i:Nat} {l:List Pod} {rest:List Value} {e:TypeId} {ro:Bool} {p:Pod} (hb:w.heap.get b=some (.cells (podsC l++rest) e ro)) (hp:l[i]?=some p):rdO (w.heap.get b) (i * 8) 8=some (podC p):=by
 obtain ⟨h1,h2⟩:=pods_at l i p rest hp
 rw [hb,rdO_cells,if_pos h2,h1]
structure PodsAt (w:AW) (b:Nat) (l:List Pod):Prop where
 at_:∃ rest e ro,w.heap.get b=some (.cells (podsC l++rest) e ro)
 lt:b < w.next
structure In44 (l:List Pod) (b M N:Nat) (i:Nat) (w:AW):Prop where
 pods:l=[]∨(PodsAt w b l∧b < M)
 tags:w.heap.get M=some (.map (entsFrom 0 (tagsTo l i)) i)
 lim:w.lim≤M
 next:M < w.next
 ok:chkB l i=true
 le:i≤l.length
theorem PodsAt.put {w:AW} {b:Nat} {l:List Pod} (h:PodsAt w b l) {k n lim:Nat} {o:Option AObj} (hk:b ≠ k) (hn:w.next≤n):PodsAt ⟨w.heap.put k o,n,lim⟩ b l:=by
 obtain ⟨⟨rest,e,ro,h1⟩,h2⟩:=h
 exact ⟨⟨rest,e,ro,by rw [get_put,if_neg hk]; exact h1⟩,Nat.lt_of_lt_of_le h2 hn⟩
theorem loop44 {sq:Option Nat} {ov:Ov} (h70:HasP ov 70 F70) (l:List Pod) (b c M:Nat) (Q:Ex→Tm→AW→Prop) (t:Tm) (w:AW) (hw:In44 l b M 0 0 w) (hlen:l.length≤12)
  (t3:tget t 3=.map (some M)) (v10:Value) (t10:tget t 10=v10) (hv:∀ i,i < l.length→v10=.slice (some ⟨b,0,sq⟩) l.length c) (t11:tget t 11=.int .i64 (l.length:Nat)) (t12:tget t 12=.int .i64 0)
  (hyes:chkB l l.length=true→∀ t w,Q (.exit 0) t w) (hno:chkB l l.length=false→∀ t w,tget t 2=.bool false→Q .ret t w):wp (exM Tryd.prog (run Tryd.prog ov 1) (.loop mc44_l0) t w) Q:=by
 have r70:=rule70 h70
 refine wp_rounds (fun i t w=>tget t 3=.map (some M)∧tget t 10=v10∧tget t 11=.int .i64 (l.length:Nat)∧tget t 12=.int .i64 (i:Nat)∧In44 l b M 0 i w) 20 (by decide) ⟨t3,t10,t11,t12,hw⟩ ?_
 rintro i t w ⟨t3,t10,t11,t12,hI⟩
 by_cases hlt:i < l.length
 ·obtain ⟨p,hp⟩:∃ p,l[i]?=some p:=⟨_,List.getElem?_eq_getElem hlt⟩
  have hv10:=hv i hlt
  have hpods:PodsAt w b l∧b < M:=by
   rcases hI.pods with h | h
   ·subst h; simp at hlt
   ·exact h
  obtain ⟨rest,e,ro,hcells⟩:=hpods.1.at_
  have hld:=load_pod hcells hp
  have hbn:b ≠ w.next:=Nat.ne_of_lt hpods.1.lt
  have hbM:b ≠ M:=Nat.ne_of_lt hpods.2
  have hMn:M ≠ w.next:=Nat.ne_of_lt hI.next
  have hia:=fun w=>ia22 w ⟨b,0,sq⟩ l.length c .i64 i hlt
  have hw1:IntKind.wrap .i64 ((i:Int) + 1)=(i:Int) + 1:=wrap64_in (by omega) (by omega)
  have htag:=hI.tags
  have hlim:=hI.lim
  have hlimn:w.lim≤w.next:=by have:=hI.next; omega
  cases h1:podB p with
  | false =>
   have hbad:chkB l l.length=false:=chk_false (i:=i + 1) (by rw [chk_snoc hp,h1]; simp) _ (by omega)
   simp [mc44_l0,t3,t10,hv10,t11,t12,hlt,hia,hld,hbn,hMn,hlimn,podC_length,cellsOf_agg,r70,h1]
   refine hno hbad _ _ ?_
   simp
  | true =>
   cases h2:hasT (tagsTo l i) p.tag with
   | true =>
    have hbad:chkB l l.length=false:=chk_false (i:=i + 1) (by rw [chk_snoc hp,h2]; simp) _ (by omega)
    simp [mc44_l0,t3,t10,hv10,t11,t12,hlt,hia,hld,hbn,hMn,hlimn,podC_length,podC_0,cellsOf_agg,r70,h1,htag,h2]
    refine hno hbad _ _ ?_
    simp
   | false =>
    have hgood:chkB l (i + 1)=true:=by rw [chk_snoc hp,h1,h2,hI.ok]; rfl
    have htl:(tagsTo l i).length=i:=tags_length hI.le
    simp [mc44_l0,t3,t10,hv10,t11,t12,hlt,hia,hld,hbn,hMn,hlimn,podC_length,podC_0,cellsOf_agg,r70,h1,htag,h2,hlim,htl,hw1]
    refine ⟨by omega,.inr ⟨PodsAt.put (w:=⟨_,w.next + 1,w.lim⟩) (PodsAt.put (w:=⟨_,w.next,w.lim⟩) (hpods.1.put hbn (Nat.le_refl _)) hbn (Nat.le_succ _)) hbM (Nat.le_refl _),hpods.2⟩,?_,hlim,?_,hgood,hlt⟩
    ·simp [tags_snoc hp]
    ·have:=hI.next; simp; omega
 ·have hi:i=l.length:=by have:=hI.le; omega
  subst hi
  simp [mc44_l0,t11,t12]
  exact hyes hI.ok _ _
noncomputable def parseP:Nat→List Value→Option (List Pod)
 | 0,_=>some []
 | n + 1,cs=>match podOf (cs.take 8) with
  | some p=>match parseP n (cs.drop 8) with
   | some l=>some (p::l)
   | none=>none
  | none=>none
theorem parseP_some:∀ (n:Nat) (cs:List Value) (l:List Pod),parseP n cs=some l→l.length=n∧∃ rest,cs=podsC l++rest
 | 0,cs,l,h=>by cases h; exact ⟨rfl,cs,rfl⟩
 | n + 1,cs,l,h=>by
  unfold parseP at h
  cases h1:podOf (cs.take 8) with
  | none=>rw [h1] at h; cases h
  | some p =>
   rw [h1] at h
   simp only at h
   cases h2:parseP n (cs.drop 8) with
   | none=>rw [h2] at h; cases h
   | some l' =>
    rw [h2] at h
    cases h
    obtain ⟨h3,rest,h4⟩:=parseP_some n _ _ h2
    refine ⟨by simp [h3],rest,?_⟩
    show cs=podC p++podsC l'++rest
    rw [List.append_assoc,← h4,← podOf_some h1,List.take_append_drop]
theorem parseP_C:∀ (l:List Pod) (rest:List Value),parseP l.length (podsC l++rest)=some l
 | [],rest=>rfl
 | p::l,rest=>by
  show (match podOf ((podC p++podsC l++rest).take 8) with | some p=>(match parseP l.length ((podC p++podsC l++rest).drop 8) with | some l=>some (p::l) | none=>none) | none=>none)=_
  have h1:(podC p++podsC l++rest).take 8=podC p:=by
   rw [List.append_assoc,List.take_append_of_le_length (by simp),List.take_of_length_le (by simp)]
  have h2:(podC p++podsC l++rest).drop 8=podsC l++rest:=by
   rw [List.append_assoc]
   have:=List.drop_left (l₁:=podC p) (l₂:=podsC l++rest)
   rwa [podC_length] at this
  rw [h1,podOf_C]
  simp only [h2,parseP_C l rest]
noncomputable def podsIn (w:AW) (v:Value):Option (List Pod) :=
 match v with
 | .slice _ 0 _=>some []
 | .slice (some ⟨b,0,_⟩) n _=>if b < w.next then (cellsO (w.heap.get b)).bind (parseP n) else none
 | _=>none
def PodsV (w:AW) (v:Value) (l:List Pod):Prop:=(∃ a c,v=.slice a 0 c∧l=[])∨∃ b sq c,v=.slice (some ⟨b,0,sq⟩) l.length c∧PodsAt w b l
theorem cellsO_get {o:Option AObj} {c:List Value} (h:cellsO o=some c):∃ e ro,o=some (.cells c e ro):=by
 cases o with
 | none=>cases h
 | some o=>cases o with
  | cells c' e ro=>cases h; exact ⟨e,ro,rfl⟩
  | _=>cases h
theorem podsIn_some {w:AW} {v:Value} {l:List Pod} (h:podsIn w v=some l):PodsV w v l:=by
 unfold podsIn at h
 split at h
 ·cases h; exact .inl ⟨_,_,rfl,rfl⟩
 ·rename_i b sq n c _
  split at h
  ·rename_i hb
   obtain ⟨cs,h1,h2⟩:=Option.bind_eq_some_iff.1 h
   obtain ⟨e,ro,h3⟩:=cellsO_get h1
   obtain ⟨h4,rest,h5⟩:=parseP_some n cs l h2
   subst h4 h5
   exact .inr ⟨b,_,c,rfl,⟨rest,e,ro,h3⟩,hb⟩
  ·cases h
 ·cases h
theorem PodsAt.podsIn {w:AW} {b:Nat} {l:List Pod} (h:PodsAt w b l) (sq:Option Nat) (c:Nat):podsIn w (.slice (some ⟨b,0,sq⟩) l.length c)=some l:=by
 obtain ⟨⟨rest,e,ro,h1⟩,h2⟩:=h
 cases l with
 | nil=>rfl
 | cons p l =>
  show (if b < w.next then (cellsO (w.heap.get b)).bind (parseP (p::l).length) else none)=_
  rw [if_pos h2,h1]
  exact parseP_C (p::l) rest
theorem PodsV.podsIn {w:AW} {v:Value} {l:List Pod} (h:PodsV w v l):podsIn w v=some l:=by
 rcases h with ⟨a,c,rfl,rfl⟩ | ⟨b,sq,c,rfl,hp⟩
 ·rfl
 ·exact hp.podsIn sq c
noncomputable def F44:PureF:=fun args w=>match args with | [v]=>(podsIn w v).map fun l=>.bool (podsB l) | _=>none
noncomputable def errB (b:Bool) (e:Int):Value:=.int .i64 (bif b then 0 else e)
noncomputable def F14:PureF:=fun args w=>match args with | [v]=>(podsIn w v).map fun l=>errB (podsB l) 30 | _=>none
theorem run44 {ov:Ov} (ho:∀ args w,ov 44 args w=none) (h70:HasP ov 70 F70) (v:Value) (l:List Pod) (w:AW) (hl:w.lim=w.next) (hv:PodsV w v l):∃ u w',(run Tryd.prog ov 2).call 44 [v] w .none=.ok (.ret u) w' .none∧u=.bool (podsB l):=by
 refine call_wp text44 (by simp) (ho _ _) ?_
 rcases hv with ⟨a,c,rfl,rfl⟩ | ⟨b,sq,c,rfl,hp⟩
 ·simp [mc44]
  refine wp_seqX (wp_blockX (loop44 (sq:=none) h70 [] 0 0 w.next _ _ _ ⟨.inl rfl,?_,?_,?_,rfl,?_⟩ ?_ ?_ _ rfl ?_ ?_ ?_ ?_ ?_)) <;> simp [tupV,podsB,chkB,hl,entsFrom,tagsTo]
 ·by_cases h12:(12:Int) < (l.length:Int)
  ·have h12':¬ l.length≤12:=by omega
   simp [mc44,h12,tupV,podsB,h12']
  ·have h12':l.length≤12:=by omega
   simp [mc44,h12]
   have hne:b ≠ w.next:=Nat.ne_of_lt hp.lt
   refine wp_seqX (wp_blockX (loop44 (sq:=sq) h70 l b c w.next _ _ _ ⟨.inr ⟨hp.put hne (Nat.le_succ _),hp.lt⟩,?_,?_,?_,rfl,?_⟩ h12' ?_ _ rfl ?_ ?_ ?_ ?_ ?_))
   all_goals first
    | (simp [hl,entsFrom,tagsTo]; done)
    | (intro hc t w; simp [tupV,podsB,h12',hc]; done)
    | (intro hc t w h2; simp [tupV,podsB,h12',hc,h2]; done)
    | skip
end Go.Proofs.YtaiiampennkhiaaDoor.walk
namespace Go.Proofs.YtaiiampennkhiaaDoor.walk
open Go Go.Sh
set_option maxRecDepth 100000
theorem rule44 {ov:Ov} (h:HasP ov 44 F44) {v:Value} {l:List Pod} {w:AW} (hv:podsIn w v=some l):(run Tryd.prog ov 1).call 44 [v] w .none=.ok (.ret (.bool (podsB l))) w .none:=h.call (by simp [F44,hv])
theorem run14 {ov:Ov} (ho:∀ args w,ov 14 args w=none) (h44:HasP ov 44 F44) (v:Value) (l:List Pod) (w:AW) (hv:podsIn w v=some l):∃ u w',(run Tryd.prog ov 2).call 14 [v] w .none=.ok (.ret u) w' .none∧u=errB (podsB l) 30:=by
 refine call_wp text14 (by simp) (ho _ _) ?_
 have r44:=rule44 h44 hv
 cases h:podsB l <;> simp [mc14,r44,h,tupV,errB]
theorem load_tag {w:AW} {b i:Nat} {l:List Pod} {rest:List Value} {e:TypeId} {ro:Bool} {p:Pod} (hb:w.heap.get b=some (.cells (podsC l++rest) e ro)) (hp:l[i]?=some p):rd1O (w.heap.get b) (i * 8)=some (.string p.tag):=by
 obtain ⟨h1,h2⟩:=pods_at l i p rest hp
 rw [hb,rd1O_cells]
 have h3:(((podsC l++rest).drop (i * 8)).take 8)[0]?=some (.string p.tag):=by rw [h1]; simp
 rw [List.getElem?_take_of_lt (by omega),List.getElem?_drop] at h3
 simpa using h3
theorem hasT_snoc {l:List Pod} {k:Nat} {q:Pod} (hq:l[k]?=some q) (t:ByteArray):hasT (tagsTo l (k + 1)) t=(hasT (tagsTo l k) t || decide (t.data.toList=q.tag.data.toList)):=by
 rw [tags_snoc hq]
 simp [hasT]
theorem hasT_mono {l : List Pod} {t : ByteArray} {k : Nat} (h : hasT (tagsTo l k) t = true) : ∀ i, k ≤ i → hasT (tagsTo l i) t = true
  | 0, hi => by obtain rfl : k = 0 := by omega
                exact h
  | i + 1, hi => by
    rcases Nat.eq_or_lt_of_le hi with e | h1
    · rw [← e]; exact h
    · have ih := hasT_mono h i (by omega)
      cases hq : l[i]? with
      | none =>
        have h2 : l.length ≤ i := List.getElem?_eq_none_iff.1 hq
        have : tagsTo l (i + 1) = tagsTo l i := by unfold tagsTo; rw [List.take_of_length_le h2, List.take_of_length_le (by omega)]
        rw [this]; exact ih
      | some q => rw [hasT_snoc hq, ih]; rfl
def Inv15i (l:List Pod) (t:ByteArray) (i:Nat) (ok0:Bool) (k:Nat) (ok:Bool):Prop:=(ok=true→ok0=true∧k≤i∧hasT (tagsTo l k) t=false)∧(ok=false→(ok0 && !hasT (tagsTo l i) t)=false)
theorem inner15 {sq:Option Nat} {ov:Ov} (l:List Pod) (b c i N:Nat) (tag:ByteArray) (ok0:Bool) (Q:Ex→Tm→AW→Prop) (t:Tm) (w:AW) (hp:PodsAt w b l) (hi:i < l.length) (hlen:l.length≤12)
  (t0:tget t 0=.slice (some ⟨b,0,sq⟩) l.length c) (t3:tget t 3=.bool ok0) (t4:tget t 4=.int .i64 (i:Nat)) (t5:tget t 5=.pointer (some ⟨N,0,none⟩)) (hN:rd1O (w.heap.get N) 0=some (.string tag)) (t6:tget t 6=.int .i64 0)
  (hQ:∀ t',tget t' 0=tget t 0→tget t' 3=.bool (ok0 && !hasT (tagsTo l i) tag)→tget t' 4=tget t 4→Q (.exit 2) t' w):wp (exM Tryd.prog (run Tryd.prog ov 1) (.loop mc15_l1) t w) Q:=by
 rw [t0,t4] at hQ
 refine wp_rounds (fun k t w'=>w'=w∧tget t 0=.slice (some ⟨b,0,sq⟩) l.length c∧tget t 4=.int .i64 (i:Nat)∧tget t 5=.pointer (some ⟨N,0,none⟩)∧tget t 6=.int .i64 (k:Nat)∧∃ ok,tget t 3=.bool ok∧Inv15i l tag i ok0 k ok) 20 (by decide)
  ⟨rfl,t0,t4,t5,t6,ok0,t3,fun h=>⟨h,Nat.zero_le _,rfl⟩,fun h=>by rw [h]; rfl⟩ ?_
 rintro k t w' ⟨rfl,s0,s4,s5,s6,ok,s3,hy,hn⟩
 cases ok with
 | false =>
  simp [mc15_l1,s3]
  refine hQ _ ?_ ?_ ?_ <;> simp [s0,s3,s4,hn rfl]
 | true =>
  obtain ⟨rfl,hk,hno⟩:=hy rfl
  by_cases hlt:k < i
  ·obtain ⟨q,hq⟩:∃ q,l[k]?=some q:=⟨_,List.getElem?_eq_getElem (by omega)⟩
   obtain ⟨rest,e,ro,hcells⟩:=hp.at_
   have hld:=load_tag hcells hq
   have hia:=fun w=>ia22 w ⟨b,0,sq⟩ l.length c .i64 k (by omega)
   have hw1:IntKind.wrap .i64 ((k:Int) + 1)=(k:Int) + 1:=wrap64_in (by omega) (by omega)
   have hs:=hasT_snoc hq tag
   by_cases he:q.tag.data.toList=tag.data.toList
   ·have hbad:hasT (tagsTo l i) tag=true:=hasT_mono (k:=k + 1) (by rw [hs]; simp [he]) i hlt
    have hI:Inv15i l tag i true (k + 1) false:=⟨(fun h=>by cases h),fun _=>by simp [hbad]⟩
    have he':q.tag.data=tag.data:=by simpa using he
    simp [mc15_l1,s0,s3,s4,s5,s6,hlt,hia,hld,hN,he',hw1]
    exact ⟨by omega,hI⟩
   ·have hI:Inv15i l tag i true (k + 1) true:=⟨fun _=>⟨rfl,hlt,by rw [hs,hno]; simp [Ne.symm (show q.tag.data.toList ≠ tag.data.toList from he)]⟩,fun h=>by cases h⟩
    have he':¬ q.tag.data=tag.data:=by simpa using he
    simp [mc15_l1,s0,s3,s4,s5,s6,hlt,hia,hld,hN,he',hw1]
    exact ⟨by omega,hI⟩
  ·have hk':k=i:=by omega
   subst hk'
   simp [mc15_l1,s3,s4,s6]
   refine hQ _ ?_ ?_ ?_ <;> simp [s0,s3,s4,hno]
end Go.Proofs.YtaiiampennkhiaaDoor.walk
namespace Go.Proofs.YtaiiampennkhiaaDoor.walk
open Go Go.Sh
set_option maxRecDepth 100000
def Inv15 (l:List Pod) (i:Nat) (ok:Bool):Prop:=(ok=true→i≤l.length∧chkB l i=true∧l.length≤12)∧(ok=false→podsB l=false)
structure In15 (l:List Pod) (b:Nat) (w:AW):Prop where
 pods:l=[]∨PodsAt w b l
 lim:w.lim≤w.next
theorem podC_s2 (p:Pod):((podC p).drop 2).take 2=[.int .i64 p.rl,.int .i64 p.rh]:=by simp [podC]
theorem podC_s4 (p:Pod):((podC p).drop 4).take 2=[.int .i64 p.hl,.int .i64 p.hh]:=by simp [podC]
theorem podC_s6 (p:Pod):((podC p).drop 6).take 2=[.int .i64 p.gl,.int .i64 p.gh]:=by simp [podC]
theorem podC_g1 (p:Pod) (h:1 < (podC p).length):(podC p)[1]=.int .i64 p.born:=by simp [podC]
theorem loop15 {sq:Option Nat} {ov:Ov} (h45:HasP ov 45 F87) (h33:HasP ov 33 F33) (h46:HasP ov 46 F46) (l:List Pod) (b c:Nat) (Q:Ex→Tm→AW→Prop) (ok:Bool) (t:Tm) (w:AW) (hw:In15 l b w) (v0:Value) (t0:tget t 0=v0) (hv:∀ i,i < l.length→v0=.slice (some ⟨b,0,sq⟩) l.length c) (hlen:∀ w,lenB Tryd.prog w 22 v0=.val (.int .i64 (l.length:Nat)) w)
  (t3:tget t 3=.bool ok) (t4:tget t 4=.int .i64 0) (hI:Inv15 l 0 ok)
  (hQ:∀ t w,tget t 3=.bool (podsB l)→Q (.exit 0) t w):wp (exM Tryd.prog (run Tryd.prog ov 1) (.loop mc15_l0) t w) Q:=by
 have r45:=rule45 h45
 have r33:=rule33 h33
 have r46:=rule46 h46
 refine wp_rounds (fun i t w=>tget t 0=v0∧tget t 4=.int .i64 (i:Nat)∧In15 l b w∧∃ ok,tget t 3=.bool ok∧Inv15 l i ok) 20 (by decide) ⟨t0,t4,hw,ok,t3,hI⟩ ?_
 clear hw t0 t3 t4 hI
 rintro i t w ⟨t0,t4,hw,ok,t3,hy,hn⟩
 cases ok with
 | false =>
  simp [mc15_l0,t3]
  refine hQ _ _ ?_
  simp [t3,hn rfl]
 | true =>
  obtain ⟨hi,hchk,h12⟩:=hy rfl
  by_cases hlt:i < l.length
  ·obtain ⟨p,hp⟩:∃ p,l[i]?=some p:=⟨_,List.getElem?_eq_getElem hlt⟩
   have hv0:=hv i hlt
   have hpods:PodsAt w b l:=by
    rcases hw.pods with h | h
    ·subst h; simp at hlt
    ·exact h
   obtain ⟨rest,e,ro,hcells⟩:=hpods.at_
   have hld:=load_pod hcells hp
   have hbn:b ≠ w.next:=Nat.ne_of_lt hpods.lt
   have hia:=fun w=>ia22 w ⟨b,0,sq⟩ l.length c .i64 i hlt
   have hw1:IntKind.wrap .i64 ((i:Int) + 1)=(i:Int) + 1:=wrap64_in (by omega) (by omega)
   have hlim:=hw.lim
   have fin:Inv15 l (i + 1) (podB p && !hasT (tagsTo l i) p.tag):=by
    refine ⟨fun h=>⟨hlt,by rw [chk_snoc hp,hchk,h]; rfl,h12⟩,fun h=>?_⟩
    unfold podsB
    rw [chk_false (i:=i + 1) (by rw [chk_snoc hp,h]; simp) _ hlt]
    simp
   have inw:In15 l b ⟨(w.heap.put w.next (some (.cells [.string ⟨⟨[]⟩⟩,.int .i64 0,.int .i64 0,.int .i64 0,.int .i64 0,.int .i64 0,.int .i64 0,.int .i64 0] 30 false))).put w.next (some (.cells (podC p) 30 false)),w.next + 1,w.lim⟩ :=
    ⟨.inr (PodsAt.put (w:=⟨_,w.next,w.lim⟩) (hpods.put hbn (Nat.le_refl _)) hbn (Nat.le_succ _)),Nat.le_succ_of_le hlim⟩
   subst hv0
   have pat:PodsAt ⟨(w.heap.put w.next (some (.cells [.string ⟨⟨[]⟩⟩,.int .i64 0,.int .i64 0,.int .i64 0,.int .i64 0,.int .i64 0,.int .i64 0,.int .i64 0] 30 false))).put w.next (some (.cells (podC p) 30 false)),w.next + 1,w.lim⟩ b l:=by
    rcases inw.pods with h | h
    ·subst h; simp at hlt
    ·exact h
   obtain ⟨B,hB⟩:∃ B,B=(podB p && !hasT (tagsTo l i) p.tag):=⟨_,rfl⟩
   rw [← hB] at fin
   have fin':B=false∧Inv15 l (i + 1) false∨B=true∧Inv15 l (i + 1) true:=by
    cases B with
    | false=>exact .inl ⟨rfl,fin⟩
    | true=>exact .inr ⟨rfl,fin⟩
   cases h1:wordB p.tag.data.toList with
   | false =>
    have hpb:false=podB p:=by simp [podB,h1]
    simp [mc15_l0,t0,t3,t4,hlen,hlt,hia,hld,hbn,hlim,r45,h1,podC_g1,podC_s2,podC_s4,podC_s6]
    refine wp_seqX (wp_blockX (wp_blockX (inner15 (sq:=sq) (ov:=ov) l b c i w.next p.tag (false) _ _ _ pat hlt h12 ?_ ?_ ?_ ?_ ?_ ?_ ?_)))
    case _=>simp [t0]
    case _=>simp
    case _=>simp [t4]
    case _=>simp
    case _=>simp
    case _=>simp
    case _ =>
     rintro t' e0 e3 e4
     rw [hpb,← hB] at e3
     simp [t0] at e0
     simp [t4] at e4
     simp [e0,e3,e4,hw1]
     exact ⟨by omega,inw,fin'⟩
   | true =>
    cases h2:inI 0 p.born 1000 with
    | false =>
     have hpb:false=podB p:=by simp [podB,h1,h2]
     simp [mc15_l0,t0,t3,t4,hlen,hlt,hia,hld,hbn,hlim,r45,r33,h1,h2,podC_g1,podC_s2,podC_s4,podC_s6]
     refine wp_seqX (wp_blockX (wp_blockX (inner15 (sq:=sq) (ov:=ov) l b c i w.next p.tag (false) _ _ _ pat hlt h12 ?_ ?_ ?_ ?_ ?_ ?_ ?_)))
     case _=>simp [t0]
     case _=>simp
     case _=>simp [t4]
     case _=>simp
     case _=>simp
     case _=>simp
     case _ =>
      rintro t' e0 e3 e4
      rw [hpb,← hB] at e3
      simp [t0] at e0
      simp [t4] at e4
      simp [e0,e3,e4,hw1]
      exact ⟨by omega,inw,fin'⟩
    | true =>
     cases h3:spanI p.rl p.rh 1 400 with
     | false =>
      have hpb:false=podB p:=by simp [podB,h1,h2,h3]
      simp [mc15_l0,t0,t3,t4,hlen,hlt,hia,hld,hbn,hlim,r45,r33,r46,h1,h2,h3,podC_g1,podC_s2,podC_s4,podC_s6]
      refine wp_seqX (wp_blockX (wp_blockX (inner15 (sq:=sq) (ov:=ov) l b c i w.next p.tag (false) _ _ _ pat hlt h12 ?_ ?_ ?_ ?_ ?_ ?_ ?_)))
      case _=>simp [t0]
      case _=>simp
      case _=>simp [t4]
      case _=>simp
      case _=>simp
      case _=>simp
      case _ =>
       rintro t' e0 e3 e4
       rw [hpb,← hB] at e3
       simp [t0] at e0
       simp [t4] at e4
       simp [e0,e3,e4,hw1]
       exact ⟨by omega,inw,fin'⟩
     | true =>
      cases h4:spanI p.hl p.hh 1 100 with
      | false =>
       have hpb:false=podB p:=by simp [podB,h1,h2,h3,h4]
       simp [mc15_l0,t0,t3,t4,hlen,hlt,hia,hld,hbn,hlim,r45,r33,r46,h1,h2,h3,h4,podC_g1,podC_s2,podC_s4,podC_s6]
       refine wp_seqX (wp_blockX (wp_blockX (inner15 (sq:=sq) (ov:=ov) l b c i w.next p.tag (false) _ _ _ pat hlt h12 ?_ ?_ ?_ ?_ ?_ ?_ ?_)))
       case _=>simp [t0]
       case _=>simp
       case _=>simp [t4]
       case _=>simp
       case _=>simp
       case _=>simp
       case _ =>
        rintro t' e0 e3 e4
        rw [hpb,← hB] at e3
        simp [t0] at e0
        simp [t4] at e4
        simp [e0,e3,e4,hw1]
        exact ⟨by omega,inw,fin'⟩
      | true =>
       have hpb:spanI p.gl p.gh 0 100=podB p:=by simp [podB,h1,h2,h3,h4]
       simp [mc15_l0,t0,t3,t4,hlen,hlt,hia,hld,hbn,hlim,r45,r33,r46,h1,h2,h3,h4,podC_g1,podC_s2,podC_s4,podC_s6]
       refine wp_seqX (wp_blockX (wp_blockX (inner15 (sq:=sq) (ov:=ov) l b c i w.next p.tag (spanI p.gl p.gh 0 100) _ _ _ pat hlt h12 ?_ ?_ ?_ ?_ ?_ ?_ ?_)))
       case _=>simp [t0]
       case _=>simp
       case _=>simp [t4]
       case _=>simp
       case _=>simp
       case _=>simp
       case _ =>
        rintro t' e0 e3 e4
        rw [hpb,← hB] at e3
        simp [t0] at e0
        simp [t4] at e4
        simp [e0,e3,e4,hw1]
        exact ⟨by omega,inw,fin'⟩
  ·have hi':i=l.length:=by omega
   subst hi'
   have hyes:podsB l=true:=by simp [podsB,h12,hchk]
   simp [mc15_l0,t0,t3,t4,hlen]
   refine hQ _ _ ?_
   simp [t3,hyes]
theorem run15 {ov:Ov} (ho:∀ args w,ov 15 args w=none) (h45:HasP ov 45 F87) (h33:HasP ov 33 F33) (h46:HasP ov 46 F46) (v:Value) (l:List Pod) (w:AW) (hl:w.lim=w.next) (hv:PodsV w v l):∃ u w',(run Tryd.prog ov 2).call 15 [v] w .none=.ok (.ret u) w' .none∧u=errB (podsB l) 30:=by
 refine call_wp text15 (by simp) (ho _ _) ?_
 have hlen:∀ w,lenB Tryd.prog w 22 v=.val (.int .i64 (l.length:Nat)) w:=by
  intro w
  rcases hv with ⟨a,c,rfl,rfl⟩ | ⟨b,sq,c,rfl,hp⟩ <;> simp
 obtain ⟨b,sq,c,hb,hw⟩:∃ b sq c,(∀ i,i < l.length→v=.slice (some ⟨b,0,sq⟩) l.length c)∧In15 l b w:=by
  rcases hv with ⟨a,c,rfl,rfl⟩ | ⟨b,sq,c,rfl,hp⟩
  ·exact ⟨0,none,0,fun i hi=>by simp at hi,.inl rfl,Nat.le_of_eq hl⟩
  ·exact ⟨b,sq,c,fun _ _=>rfl,.inr hp,Nat.le_of_eq hl⟩
 have hI:Inv15 l 0 (decide (l.length≤12)):=⟨fun h=>⟨Nat.zero_le _,rfl,of_decide_eq_true h⟩,fun h=>by simp [podsB]; intro h'; simp at h; omega⟩
 simp [mc15,hlen]
 refine wp_seqX (wp_blockX (loop15 (sq:=sq) h45 h33 h46 l b c _ (decide (l.length≤12)) _ _ hw v ?_ hb hlen ?_ ?_ hI ?_))
 case _=>simp
 case _=>simp; omega
 case _=>simp
 case _ =>
  intro t w h
  cases hB:podsB l <;> simp [h,hB,tupV,errB]
end Go.Proofs.YtaiiampennkhiaaDoor.walk
namespace Go.Proofs.YtaiiampennkhiaaDoor.walk
open Go Go.Sh
set_option maxRecDepth 100000
theorem rule14 {ov:Ov} (h:HasP ov 14 F14) {v:Value} {l:List Pod} {w:AW} (hv:podsIn w v=some l):(run Tryd.prog ov 1).call 14 [v] w .none=.ok (.ret (errB (podsB l) 30)) w .none:=h.call (by simp [F14,hv])
def wE (p:Pod):Int:=bif podsB [p] then (if winH p < winL p then 4 else 0) else 30
def wA (p:Pod):Int:=if wE p=0 then winL p else 0
def wB (p:Pod):Int:=if wE p=0 then winH p else 0
noncomputable def F16:PureF:=fun args _=>match args with | [.agg ⟨l⟩]=>(podOf l).map fun p=>.tuple ⟨[.agg ⟨[.int .i64 (wA p),.int .i64 (wB p)]⟩,.int .i64 (wE p)]⟩ | _=>none
theorem run16 {ov:Ov} (ho:∀ args w,ov 16 args w=none) (h14:HasP ov 14 F14) (h47:HasP ov 47 F47) (h48:HasP ov 48 F48) (p:Pod) (w:AW) (hl:w.lim=w.next):∃ u w',(run Tryd.prog ov 2).call 16 [.agg ⟨podC p⟩] w .none=.ok (.ret u) w' .none∧u=.tuple ⟨[.agg ⟨[.int .i64 (wA p),.int .i64 (wB p)]⟩,.int .i64 (wE p)]⟩:=by
 refine call_wp text16 (by simp) (ho _ _) ?_
 obtain ⟨H,n,lim⟩:=w
 simp only at hl
 subst hl
 have l2:lim≤lim + 1 + 1:=by omega
 have l3:lim≤lim + 1 + 1 + 1:=by omega
 have r47:=rule47 h47 p
 have r48:=rule48 h48
 simp only [podC] at r47
 simp [mc16,podC]
 rw [rule14 h14 (l:=[p])]
 rotate_left
 ·simp [podsIn,parseP,podOf]
 cases hB:podsB [p] with
 | false =>
  have e1:wE p=30:=by simp [wE,hB]
  simp [errB,tupV,wA,wB,e1]
 | true =>
  by_cases hw:winH p < winL p
  ·have e1:wE p=4:=by simp [wE,hB,hw]
   simp [errB,tupV,wA,wB,e1,r47,r48,hw,l2,l3]
  ·have e1:wE p=0:=by simp [wE,hB,hw]
   simp [errB,tupV,wA,wB,e1,r47,r48,hw,l2,l3]
end Go.Proofs.YtaiiampennkhiaaDoor.walk
