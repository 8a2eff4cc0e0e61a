/- Part of a proof by a machine of ones own: see the text with the theorem. -/
import Derived.Test.YtlkklcbjjompbaaDoorCWa
namespace Go.Proofs.YtlkklcbjjompbaaDoor.walk
open Go Go.Sh
set_option maxRecDepth 100000
set_option linter.unusedSimpArgs false
structure In98 (we:AW) (L c6:Nat) (lp:ALoop) (s:Stg) (w:AW):Prop where
 lo:w.heap.get L=some (.loop lp)
 cur:w.heap.get c6=some (.cells (stgC s) 86 false)
 old:∀ x,x < we.next→x ≠ L→x ≠ c6→w.heap.get x=we.heap.get x
 next:we.next≤w.next
 lim:w.lim=we.lim
theorem In98.up {we:AW} {L c6:Nat} {lp:ALoop} {s:Stg} {w w':AW} (h:In98 we L c6 lp s w) (hL:L < we.next) (hc:c6 < we.next) (u:Up w w'):In98 we L c6 lp s w' :=
 ⟨by rw [u.at (by have:=h.next; omega)]; exact h.lo,by rw [u.at (by have:=h.next; omega)]; exact h.cur,fun x h1 h2 h3=>by rw [u.at (by have:=h.next; omega)]; exact h.old x h1 h2 h3,Nat.le_trans h.next u.next,by rw [u.lim,h.lim]⟩
def StepA (ov:Ov) (m L c6:Nat) (we:AW) (a:Int) (s:Stg) (lp lq:ALoop):Prop :=
 ∀ (s':Stg) (w:AW),In98 we L c6 lp s w→∃ w',yieldA (run Tryd.prog ov m) L [.agg ⟨stgC s'⟩] w=.val (!decide (s'.last=a)) w'∧In98 we L c6 (if s'.last=a then lq else lp) (if s'.last=a then s' else s) w'
def actAt (r:List CAct) (a:Int):Option CAct:=if 0≤a then r[a.toNat]? else none
set_option maxHeartbeats 1000000 in
theorem loop98 {ov:Ov} (m L c6:Nat) (ho99:∀ args w,ov 99 args w=none) (h100:HasP ov 100 S100.F) (h107:HasP ov 107 S107.F) (h108:HasP ov 108 S108.F) (h109:HasP ov 109 S109.F) (h110:HasP ov 110 S110.F) (r:List CAct) (hR:ruleB r=true) (y:CDay) (s:Stg) (hs:FineS s) (a:Int) (w0 we:AW) (u0:Up w0 we) (hL:w0.next≤L∧L < we.next) (hc6:w0.next≤c6∧c6 < we.next) (rv:Value) (hrv:RowsV actC w0 rv r)
  (n1 n4:Nat) (hn1:n1 < we.next∧n1 ≠ L∧n1 ≠ c6) (hn4:n4 < we.next∧n4 ≠ L∧n4 ≠ c6) (g1:we.heap.get n1=some (.cells (stgC s) 86 false)) (g4:we.heap.get n4=some (.cells (dayC y s) 149 false)) (hlim:we.lim≤we.next) (sc:Stg) (lp lq:ALoop) (hst:StepA ov (m + 1) L c6 we a sc lp lq)
  (Q:Ex→Tm→AW→Prop) (t:Tm) (w:AW) (hw:In98 we L c6 lp sc w) (t0:tget t 0=.func (.yield L) ⟨[]⟩ ⟨[]⟩) (t1:tget t 1=.pointer (some ⟨n1,0,none⟩)) (t4:tget t 4=.pointer (some ⟨n4,0,none⟩)) (t25:tget t 25=rv) (t26:tget t 26=.int .i64 (r.length:Nat)) (t27:tget t 27=.int .i64 0)
  (hno:∀ t w,In98 we L c6 lp sc w→(∀ x,actAt r a=some x→fitB x a y s=false)→Q (.exit 0) t w)
  (hyes:∀ t w x,actAt r a=some x→fitB x a y s=true→In98 we L c6 lq (withS s x a) w→Q .ret t w):wp (exY Tryd.prog (run Tryd.prog ov (m + 1)) (.loop mc98_l0) t w) Q:=by
 have hrl:=rule_len hR
 refine wp_roundsY (fun i t w=>In98 we L c6 lp sc w∧tget t 0=.func (.yield L) ⟨[]⟩ ⟨[]⟩∧tget t 1=.pointer (some ⟨n1,0,none⟩)∧tget t 4=.pointer (some ⟨n4,0,none⟩)∧tget t 25=rv∧tget t 26=.int .i64 (r.length:Nat)∧tget t 27=.int .i64 (i:Nat)∧i≤r.length∧∀ j x,j < i→r[j]?=some x→(j:Int)=a→fitB x a y s=false) 20 (by decide) ⟨hw,t0,t1,t4,t25,t26,by simpa using t27,by omega,fun j x h=>by omega⟩ ?_
 clear t0 t1 t4 t25 t26 t27 hw
 rintro i t w ⟨hw,t0,t1,t4,t25,t26,t27,hi,hnf⟩
 by_cases hlt:i < r.length
 ·obtain ⟨x,hx⟩:∃ p,r[i]?=some p:=⟨_,List.getElem?_eq_getElem hlt⟩
  have hfa:=fineA_of hR hx
  obtain ⟨b,off,sq,c,rfl,hra⟩:=hrv.at_ i hlt
  have hb:=hra.2
  have hnx:=hw.next
  have hun:=u0.next
  have hlm:=hw.lim
  have hld:=hra.rd actC_length hx
  rw [← u0.at hb,← hw.old b (by omega) (by omega) (by omega)] at hld
  have hia:=fun w=>ia22 w ⟨b,off,sq⟩ r.length c .i64 i hlt
  have hw1:IntKind.wrap .i64 ((i:Int) + 1)=(i:Int) + 1:=wrap64_in (by omega) (by omega)
  obtain ⟨x,rfl⟩:∃ x',x=x':=⟨_,rfl⟩
  have lw:w.lim≤w.next:=by omega
  have lw1:w.lim≤w.next + 1:=by omega
  obtain ⟨cs,hcs⟩:∃ cs,cs=actC x:=⟨_,rfl⟩
  simp only [actC] at hld
  obtain ⟨_,w3,c99,rfl,u3⟩:=call99 (ov:=ov) m ho99 ⟨(((w.heap.put w.next (some (.cells [.int .i64 0,.int .i64 0,.bool false,.bool false,.int .i64 0,.int .i64 0,.int .i64 0] 78 false))).put w.next (some (.cells [.int .i64 x.warm,.int .i64 x.behind,.bool x.dry,.bool x.first,.int .i64 x.most,.int .i64 x.ll,.int .i64 x.lh] 78 false))).put (w.next + 1) (some (.cells [.int .i64 0,.int .i64 0,.bool false,.bool false,.int .i64 0,.int .i64 0,.int .i64 0,.int .i64 0] 151 false))).put (w.next + 1) (some (.cells [.int .i64 x.warm,.int .i64 x.behind,.bool x.dry,.bool x.first,.int .i64 x.most,.int .i64 x.ll,.int .i64 x.lh,.int .i64 (i:Nat)] 151 false)),w.next + 1 + 1,w.lim⟩ (by show w.lim≤w.next + 1 + 1; omega)
  have u2:Up w w3:=Up.trans (((((Up.refl w).add _).put (Nat.le_refl _) (Nat.le_refl _)).add _).put (by show w.next≤w.next + 1; omega) (Nat.le_refl _)) u3
  have hI3:=hw.up hL.2 hc6.2 u2
  have g7:w3.heap.get (w.next + 1)=some (.cells (numC x i) 151 false):=by
   rw [u3.at (by show w.next + 1 < w.next + 1 + 1; omega)]
   show (((((w.heap.put _ _).put _ _).put _ _).put _ _).get _)=_
   rw [get_put,if_pos rfl]; rfl
  have hn3:=hI3.next
  have hl3:=hI3.lim
  have g43:w3.heap.get n4=some (.cells (dayC y s) 149 false):=by rw [hI3.old n4 hn4.1 hn4.2.1 hn4.2.2]; exact g4
  have g13:w3.heap.get n1=some (.cells (stgC s) 86 false):=by rw [hI3.old n1 hn1.1 hn1.2.1 hn1.2.2]; exact g1
  simp [mc98_l0,t0,t1,t4,t25,t26,t27,hlt,hia,hld,lw,lw1,c99]
  generalize hTT:tset _ 36 _=TT
  have v0:tget TT 0=.func (.yield L) ⟨[]⟩ ⟨[]⟩:=by rw [← hTT]; simp [t0]
  have v1:tget TT 1=.pointer (some ⟨n1,0,none⟩):=by rw [← hTT]; simp [t1]
  have v4:tget TT 4=.pointer (some ⟨n4,0,none⟩):=by rw [← hTT]; simp [t4]
  have v7:tget TT 7=.pointer (some ⟨w.next + 1,0,none⟩):=by rw [← hTT]; simp
  have v25:tget TT 25=.slice (some ⟨b,off,sq⟩) r.length c:=by rw [← hTT]; simp [t25]
  have v26:tget TT 26=.int .i64 (r.length:Nat):=by rw [← hTT]; simp [t26]
  have v27:tget TT 27=.int .i64 (i:Nat):=by rw [← hTT]; simp [t27]
  have v35:tget TT 35=.agg ⟨[funQ 107,funQ 108,funQ 109,funQ 110]⟩:=by rw [← hTT]; simp
  have v36:tget TT 36=.int .i64 0:=by rw [← hTT]; simp
  clear hTT
  refine wp_seqX (wp_blockX (wp_seqX (wp_blockX (inner98 m h107 h108 h109 h110 x (i:Nat) y s hs n4 (w.next + 1) _ TT w3 g43 g7 v4 v7 v35 v36 ?_ ?_))))
  ·intro hf t' hk
   simp [hk.k0,hk.k1,hk.k4,hk.k25,hk.k26,hk.k27,v0,v1,v4,v25,v26,v27,hw1]
   refine ⟨by omega,hI3,hlt,fun j z hj hz e=>?_⟩
   by_cases hji:j=i
   ·subst hji
    rw [hx] at hz; cases hz
    rw [← e]; exact hf
   ·exact hnf j z (by omega) hz e
  ·intro hf t' hk
   have r100:=S100.call (P:=Tryd.prog) h100 (m:=m) (w:=w3) ⟨s,x,(i:Nat),rfl,hs,hfa,by omega,rfl⟩
   obtain ⟨w4,hy,hI4⟩:=hst (withS s x (i:Nat)) w3 hI3
   have e:(withS s x (i:Nat)).last=(i:Int):=rfl
   rw [e] at hy hI4
   have k0:=hk.k0; have k1:=hk.k1; have k7:=hk.k7
   rw [v0] at k0; rw [v1] at k1; rw [v7] at k7
   have g73:=g7
   simp only [numC] at g73 r100
   have g13':=g13
   generalize hS:stgC (withS s x (i:Nat))=SS at r100 hy
   simp only [stgC] at g13' r100
   by_cases ha:(i:Int)=a
   ·simp only [ha,if_true] at hI4
    have e2:actAt r a=some x:=by
     unfold actAt; rw [if_pos (by omega),show a.toNat=i by omega]; exact hx
    simp only [decide_eq_true ha] at hy
    simp [k0,k1,k7,g13',g73,r100,hy]
    exact hyes _ _ x e2 (by rw [← ha]; exact hf) (by rw [← ha] at hI4 ⊢; exact hI4)
   ·rw [if_neg ha,if_neg ha] at hI4
    simp only [decide_eq_false ha] at hy
    simp [k0,k1,k7,g13',g73,r100,hy,hk.k4,hk.k25,hk.k26,hk.k27,v4,v25,v26,v27,hw1]
    refine ⟨by omega,hI4,hlt,fun j z hj hz e3=>?_⟩
    by_cases hji:j=i
    ·subst hji; exact absurd e3 ha
    ·exact hnf j z (by omega) hz e3
 ·have hi':i=r.length:=by omega
  subst hi'
  simp [mc98_l0,t26,t27]
  refine hno _ _ hw fun x hx=>?_
  unfold actAt at hx
  by_cases h0:0≤a
  ·rw [if_pos h0] at hx
   exact hnf a.toNat x (List.getElem?_eq_some_iff.1 hx).1 hx (by omega)
  ·rw [if_neg h0] at hx; cases hx
end Go.Proofs.YtlkklcbjjompbaaDoor.walk
namespace Go.Proofs.YtlkklcbjjompbaaDoor.walk
open Go Go.Sh
set_option maxRecDepth 100000
set_option linter.unusedSimpArgs false
theorem In98.down {we we1:AW} {L c6:Nat} {lp:ALoop} {s:Stg} {w:AW} (h:In98 we1 L c6 lp s w) (u:Up we we1):In98 we L c6 lp s w :=
 ⟨h.lo,h.cur,fun x h1 h2 h3=>by rw [h.old x (by have:=u.next; omega) h2 h3,u.at h1],Nat.le_trans u.next h.next,by rw [h.lim,u.lim]⟩
theorem next_some {r:List CAct} {d:List CDay} {s:Stg} {a:Int} {x:CAct} {y:CDay} (hd:d[s.done.toNat]?=some y) (hx:actAt r a=some x) (hf:fitB x a y s=true):nextS r d s a=some (withS s x a):=by
 unfold actAt at hx
 unfold nextS
 rw [hd,hx]; simp [hf]
theorem next_none {r:List CAct} {d:List CDay} {s:Stg} {a:Int} {y:CDay} (hd:d[s.done.toNat]?=some y) (h:∀ x,actAt r a=some x→fitB x a y s=false):nextS r d s a=none:=by
 unfold nextS
 rw [hd]
 unfold actAt at h
 cases hx:(if 0≤a then r[a.toNat]? else none) with
 | none=>rfl
 | some x=>simp [h x hx]
set_option maxHeartbeats 1000000 in
theorem call98 {ov:Ov} (m L c6:Nat) (ho:∀ args w,ov 98 args w=none) (ho99:∀ args w,ov 99 args w=none) (h100:HasP ov 100 S100.F) (h107:HasP ov 107 S107.F) (h108:HasP ov 108 S108.F) (h109:HasP ov 109 S109.F) (h110:HasP ov 110 S110.F) (r:List CAct) (d:List CDay) (hR:ruleB r=true) (s:Stg) (hs:FineS s) (k:Nat) (hk:s.done=(k:Nat)) (hkd:k≤d.length) (a:Int) (w0 we:AW) (u0:Up w0 we) (hL:w0.next≤L∧L < we.next) (hc6:w0.next≤c6∧c6 < we.next) (rv dv:Value) (hrv:RowsV actC w0 rv r) (hdv:RowsV cdayC w0 dv d)
  (n1 n2:Nat) (hn1:n1 < we.next∧n1 ≠ L∧n1 ≠ c6) (hn2:n2 < we.next∧n2 ≠ L∧n2 ≠ c6) (g1:we.heap.get n1=some (.cells (stgC s) 86 false)) (g2:we.heap.get n2=some (.cells [rv,dv] 89 false)) (hlim:we.lim≤we.next) (sc:Stg) (lp lq:ALoop) (hlo:we.heap.get L=some (.loop lp)) (hcur:we.heap.get c6=some (.cells (stgC sc) 86 false)) (hst:∀ w1,Up we w1→StepA ov (m + 1) L c6 w1 a sc lp lq) :
  ∃ v w',(run Tryd.prog ov (m + 2)).call 98 [.func (.yield L) ⟨[]⟩ ⟨[]⟩,.pointer (some ⟨n1,0,none⟩),.pointer (some ⟨n2,0,none⟩)] we .none=.ok (.ret v) w' .none∧(match nextS r d s a with | some s'=>In98 we L c6 lq s' w' | none=>In98 we L c6 lp sc w'):=by
 refine call_wpY text98 (by simp) (ho _ _) ?_
 have hl1:=fun w2=>len22V (w':=w2) hrv
 have hl2:=fun w2=>len23V (w':=w2) hdv
 have hIe:In98 we L c6 lp sc we:=⟨hlo,hcur,fun _ _ _ _=>rfl,Nat.le_refl _,rfl⟩
 have g1':=g1
 simp only [stgC,hk] at g1'
 by_cases hlt:k < d.length
 ·obtain ⟨y,hy⟩:∃ p,d[k]?=some p:=⟨_,List.getElem?_eq_getElem hlt⟩
  have hy':d[s.done.toNat]?=some y:=by rw [hk]; simpa using hy
  obtain ⟨b,off,sq,c,rfl,hra⟩:=hdv.at_ k hlt
  have hb:=hra.2
  have hun:=u0.next
  have hld:=hra.rd cdayC_length hy
  rw [← u0.at hb] at hld
  have hia:=fun w=>ia23 w ⟨b,off,sq⟩ d.length c .i64 k hlt
  have e1:¬ (k:Int)=d.length:=by omega
  have e2:¬ k=d.length:=by omega
  have ne1:¬ n1=we.next:=by omega
  have ne2:¬ n2=we.next:=by omega
  have neb:¬ b=we.next:=by omega
  have nj:sameVal 5 rv rv=true∧notJunk rv=some rv:=by
   obtain ⟨p,q,rfl⟩:=hrv.len
   exact ⟨same_slice _ _ _,rfl⟩
  have sm1:sameVal 5 (.agg ⟨[.int .i64 (k:Nat),.int .i64 s.last,.int .i64 s.row,.int .i64 s.lo,.int .i64 s.hi]⟩) (.agg ⟨[.int .i64 (k:Nat),.int .i64 s.last,.int .i64 s.row,.int .i64 s.lo,.int .i64 s.hi]⟩)=true:=same_agg _ (by
   intro v hv
   simp only [List.mem_cons,List.not_mem_nil,or_false] at hv
   rcases hv with rfl | rfl | rfl | rfl | rfl <;> exact sameN_int _ _ _)
  have sm2:sameVal 5 (.agg ⟨[.int .i64 y.wl,.int .i64 y.wh,.bool y.rain]⟩) (.agg ⟨[.int .i64 y.wl,.int .i64 y.wh,.bool y.rain]⟩)=true:=same_agg _ (by
   intro v hv
   simp only [List.mem_cons,List.not_mem_nil,or_false] at hv
   rcases hv with rfl | rfl | rfl
   ·exact sameN_int _ _ _
   ·exact sameN_int _ _ _
   ·cases y.rain <;> rfl)
  simp only [cdayC] at hld
  have u1:Up we ⟨(we.heap.put we.next (some (.cells [.int .i64 0,.int .i64 0,.bool false,.int .i64 0,.int .i64 0,.int .i64 0,.int .i64 0,.int .i64 0] 149 false))).put we.next (some (.cells [.int .i64 y.wl,.int .i64 y.wh,.bool y.rain,.int .i64 (k:Nat),.int .i64 s.last,.int .i64 s.row,.int .i64 s.lo,.int .i64 s.hi] 149 false)),we.next + 1,we.lim⟩:=((Up.refl we).add _).put (Nat.le_refl _) (Nat.le_refl _)
  have gd:(⟨(we.heap.put we.next (some (.cells [.int .i64 0,.int .i64 0,.bool false,.int .i64 0,.int .i64 0,.int .i64 0,.int .i64 0,.int .i64 0] 149 false))).put we.next (some (.cells [.int .i64 y.wl,.int .i64 y.wh,.bool y.rain,.int .i64 (k:Nat),.int .i64 s.last,.int .i64 s.row,.int .i64 s.lo,.int .i64 s.hi] 149 false)),we.next + 1,we.lim⟩:AW).heap.get we.next=some (.cells (dayC y s) 149 false):=by
   show ((we.heap.put _ _).put _ _).get _=_
   rw [get_put,if_pos rfl,dayC,hk]
  have hIu:=hIe.up hL.2 hc6.2 u1
  have hIu':=hIu
  simp [mc98,g1',g2,hl1,hl2,e1,e2,hia,hld,ne1,ne2,neb,nj.1,sm1,sm2,hlim]
  refine wp_blockX (loop98 m L c6 ho99 h100 h107 h108 h109 h110 r hR y s hs a w0 _ (u0.trans u1) ⟨hL.1,by show L < we.next + 1; omega⟩ ⟨hc6.1,by show c6 < we.next + 1; omega⟩ rv hrv n1 we.next ⟨by show n1 < we.next + 1; omega,hn1.2⟩ ⟨Nat.lt_succ_self _,by omega,by omega⟩ (by rw [u1.at hn1.1]; exact g1) gd (by show we.lim≤we.next + 1; omega) sc lp lq (hst _ u1) _ _ _ ⟨hIu.lo,hIu.cur,fun _ _ _ _=>rfl,Nat.le_refl _,rfl⟩ ?_ ?_ ?_ ?_ ?_ ?_ ?_ ?_)
  case _=>simp
  case _=>simp
  case _=>simp
  case _=>simp
  case _=>simp
  case _=>simp
  case _ =>
   intro t w hw hn
   have e:=next_none hy' hn
   have hw':=hw.down u1
   simpa [tupV,e] using hw'
  case _ =>
   intro t w x hx hf hw
   have e:=next_some hy' hx hf
   have hw':=hw.down u1
   simpa [tupV,e] using hw'
 ·have hkl:k=d.length:=by omega
  have e:nextS r d s a=none:=by
   unfold nextS
   rw [hk]; simp [hkl]
  simp [mc98,g1',g2,hl1,hl2,hkl,e,tupV]
  exact hIe
end Go.Proofs.YtlkklcbjjompbaaDoor.walk
namespace Go.Proofs.YtlkklcbjjompbaaDoor.walk
open Go Go.Sh
set_option maxRecDepth 100000
set_option linter.unusedSimpArgs false
@[simp] theorem setParC_cons (p:Tmp) (ps:List Tmp) (a:Value) (l:List Value) (t:Tm):setParams (p::ps) (a::l) t=setParams ps l (tset t p a):=rfl
@[simp] theorem setParC_nil (t:Tm):setParams [] [] t=t:=rfl
theorem steps51 {ov:Ov} (m L c6 c8:Nat) (TT:Tm) (t6:tget TT 6=.pointer (some ⟨c6,0,none⟩)) (t8:tget TT 8=.pointer (some ⟨c8,0,none⟩)) (a:Int) (s:Stg) (we:AW) (hL:L < we.next) (hc6:c6 < we.next) (hc8:c8 < we.next) (n1:c6 ≠ L) (n2:c8 ≠ L) (n3:c8 ≠ c6) (g8:we.heap.get c8=some (.cells [.int .i64 a] 3 false)) (l1:we.lim≤c6) (l2:we.lim≤L) :
  StepA ov (m + 1) L c6 we a s ⟨29,TT,[20],(rfOf Tryd.prog 51 0).1,(rfOf Tryd.prog 51 0).2,none,.ready⟩ ⟨29,TT,[20],(rfOf Tryd.prog 51 0).1,(rfOf Tryd.prog 51 0).2,some (.exit 1),.done⟩:=by
 intro s' w hw
 have hlo:=hw.lo
 have hnx:=hw.next
 have hlm:=hw.lim
 have g8w:w.heap.get c8=some (.cells [.int .i64 a] 3 false):=by rw [hw.old c8 hc8 n2 n3]; exact g8
 have hcur:=hw.cur
 have e1:¬ L=w.next:=by omega
 have e2:¬ c6=w.next:=by omega
 have e3:¬ c8=w.next:=by omega
 have e1':¬ w.next=L:=by omega
 have e2':¬ w.next=c6:=by omega
 have l1':w.lim≤c6:=by omega
 have l2':w.lim≤L:=by omega
 have l3:w.lim≤w.next:=by omega
 have n1':=Ne.symm n1
 have n2':=Ne.symm n2
 simp only [stgC] at hcur
 obtain ⟨C,hC⟩:∃ C:AObj,C=.cells [.int .i64 s'.done,.int .i64 s'.last,.int .i64 s'.row,.int .i64 s'.lo,.int .i64 s'.hi] 86 false:=⟨_,rfl⟩
 obtain ⟨j,w',hy,hQ⟩:=yield_wp (P:=Tryd.prog) (ov:=ov) (m:=m) (l:=L) (args:=[.agg ⟨stgC s'⟩]) (w:=w) (Q:=fun j w'=>j=(if s'.last=a then some (.exit 1) else none)∧w'=if s'.last=a then ⟨((((w.heap.put w.next (some (.cells [.int .i64 0,.int .i64 0,.int .i64 0,.int .i64 0,.int .i64 0] 86 false))).put w.next (some C)).put L (some (.loop ⟨29,TT,[20],(rfOf Tryd.prog 51 0).1,(rfOf Tryd.prog 51 0).2,none,.busy⟩))).put c6 (some C)).put L (some (.loop ⟨29,TT,[20],(rfOf Tryd.prog 51 0).1,(rfOf Tryd.prog 51 0).2,some (.exit 1),.done⟩)),w.next + 1,w.lim⟩ else ⟨(((w.heap.put w.next (some (.cells [.int .i64 0,.int .i64 0,.int .i64 0,.int .i64 0,.int .i64 0] 86 false))).put w.next (some C)).put L (some (.loop ⟨29,TT,[20],(rfOf Tryd.prog 51 0).1,(rfOf Tryd.prog 51 0).2,none,.busy⟩))).put L (some (.loop ⟨29,TT,[20],(rfOf Tryd.prog 51 0).1,(rfOf Tryd.prog 51 0).2,none,.ready⟩)),w.next + 1,w.lim⟩) hlo rfl rfl ta51_0 tb51_0 (by
  rw [hC]
  simp only [stgC]
  by_cases hm:s'.last=a
  ·simp [mc51_a0,mc51_b0,hlo,jumpOf,t6,t8,g8w,hcur,e1,e2,e3,e1',e2',l1',l2',l3,n1,n2,n3,n1',n2',hm]
  ·simp [mc51_a0,mc51_b0,hlo,jumpOf,t6,t8,g8w,hcur,e1,e2,e3,e1',e2',l1',l2',l3,n1,n2,n3,n1',n2',hm])
 obtain ⟨rfl,hw'⟩:=hQ
 have hd:(if s'.last=a then some (Code.exit 1) else none).isNone=!decide (s'.last=a):=by by_cases hm:s'.last=a <;> simp [hm]
 rw [hd] at hy
 refine ⟨w',hy,?_⟩
 subst hw'
 by_cases hm:s'.last=a
 ·simp only [if_pos hm]
  refine ⟨?_,?_,fun x h1 h2 h3=>?_,by show we.next≤w.next + 1; omega,hlm⟩
  ·show (((((w.heap.put _ _).put _ _).put _ _).put _ _).put _ _).get L=_
   rw [get_put,if_pos rfl]
  ·show (((((w.heap.put _ _).put _ _).put _ _).put _ _).put _ _).get c6=_
   rw [get_put,if_neg n1,get_put,if_pos rfl,hC]; rfl
  ·show (((((w.heap.put _ _).put _ _).put _ _).put _ _).put _ _).get x=_
   rw [get_put,if_neg h2,get_put,if_neg h3,get_put,if_neg h2,get_put,if_neg (by omega),get_put,if_neg (by omega)]
   exact hw.old x h1 h2 h3
 ·simp only [if_neg hm]
  refine ⟨?_,?_,fun x h1 h2 h3=>?_,by show we.next≤w.next + 1; omega,hlm⟩
  ·show ((((w.heap.put _ _).put _ _).put _ _).put _ _).get L=_
   rw [get_put,if_pos rfl]
  ·show ((((w.heap.put _ _).put _ _).put _ _).put _ _).get c6=_
   rw [get_put,if_neg n1,get_put,if_neg n1,get_put,if_neg e2,get_put,if_neg e2]
   exact hw.cur
  ·show ((((w.heap.put _ _).put _ _).put _ _).put _ _).get x=_
   rw [get_put,if_neg h2,get_put,if_neg h2,get_put,if_neg (by omega),get_put,if_neg (by omega)]
   exact hw.old x h1 h2 h3
structure In51 (w0:AW) (rv dv:Value) (s:Stg) (w:AW):Prop where
 up:Up w0 w
 b2:w.heap.get w0.next=some (.cells [rv,dv] 89 false)
 b4:w.heap.get (w0.next + 1)=some (.cells [.int .i64 0,.int .i64 0,.int .i64 0,.int .i64 0,.int .i64 0] 86 false)
 b6:w.heap.get (w0.next + 1 + 1)=some (.cells (stgC s) 86 false)
 next:w0.next + 3≤w.next
def stgR:Option Stg→Value
 | some s=>.tuple ⟨[.agg ⟨stgC s⟩,.bool true]⟩
 | none=>.tuple ⟨[.agg ⟨stgC ⟨0,0,0,0,0⟩⟩,.bool false]⟩
@[simp] theorem cfn98 (w:AW) (l:List Value):callFn Tryd.prog w 98 l=.enter 98 l w:=callFn_of (by kernel_rfl) l
set_option maxHeartbeats 1000000 in
theorem run51 {ov:Ov} (ho:∀ args w,ov 51 args w=none) (ho79:∀ args w,ov 79 args w=none) (ho98:∀ args w,ov 98 args w=none) (ho99:∀ args w,ov 99 args w=none) (h78:HasP ov 78 S78.F) (h100:HasP ov 100 S100.F) (h107:HasP ov 107 S107.F) (h108:HasP ov 108 S108.F) (h109:HasP ov 109 S109.F) (h110:HasP ov 110 S110.F) (r:List CAct) (d:List CDay) (hR:ruleB r=true) (hD:daysB d=true) (acts:List Int) (rv dv av:Value) (w0:AW) (hl:w0.lim=w0.next) (hrv:RowsV actC w0 rv r) (hdv:RowsV cdayC w0 dv d) (hav:RowsV intC w0 av acts) :
  ∃ x w',(run Tryd.prog ov 4).call 51 [.agg ⟨[rv,dv]⟩,av] w0 .none=.ok (.ret x) w' .none∧x=stgR (stgF r d startS acts):=by
 refine call_wpY text51 (by simp) (ho _ _) ?_
 have hl1:=fun w2=>len28V (w':=w2) hav
 have hdl:=days_len hD
 have lw:w0.lim≤w0.next:=by omega
 have lw2:w0.lim≤w0.next + 1 + 1:=by omega
 have r78:=fun w hw=>S78.call (P:=Tryd.prog) h78 (m:=2) (w:=w) ⟨rfl,hw,rfl⟩
 have r78':=r78 ⟨(w0.heap.put w0.next (some (.cells [rv,dv] 89 false))).put (w0.next + 1) (some (.cells [.int .i64 0,.int .i64 0,.int .i64 0,.int .i64 0,.int .i64 0] 86 false)),w0.next + 1 + 1,w0.lim⟩ lw2
 simp only [stgC,startS] at r78'
 simp [mc51,cellsOf_agg,r78',lw2,hl1]
 refine wp_seqX (wp_blockX (wp_roundsY (fun i t w=>∃ s,In51 w0 rv dv s w∧stgF r d startS (acts.take i)=some s∧tget t 2=.pointer (some ⟨w0.next,0,none⟩)∧tget t 4=.pointer (some ⟨w0.next + 1,0,none⟩)∧tget t 6=.pointer (some ⟨w0.next + 1 + 1,0,none⟩)∧tget t 11=av∧tget t 12=.int .i64 (acts.length:Nat)∧tget t 13=.int .i64 (i:Nat)∧i≤acts.length) 20 (by decide) ?_ ?_))
 ·refine ⟨startS,⟨((((Up.refl w0).add _).put (by omega) (Nat.le_succ _)).put (by omega) (Nat.le_succ _)).put (by omega) (Nat.le_refl _),by simp,by simp,by simp [stgC,startS],by show w0.next + 3≤w0.next + 1 + 1 + 1; omega⟩,by simp [stgF],by simp,by simp,by simp,by simp,by simp,by simp,by omega⟩
 ·rintro i t w ⟨s,hw,hs,t2,t4,t6,t11,t12,t13,hi⟩
  have hsn:=stg_can (d:=d) hR acts i hi
  obtain ⟨hok⟩:Nonempty (StOk r (acts.take i) s):=by
   rcases hsn with ⟨h1,_⟩ | ⟨s',h1,_,h3⟩
   ·rw [hs] at h1; cases h1
   ·rw [hs] at h1; cases h1; exact ⟨h3⟩
  have hid:i≤d.length:=by
   have:=stg_len hR hs
   rw [List.length_take,Nat.min_eq_left hi] at this; exact this
  have hf:FineS s:=fine_of hok (by rw [List.length_take]; omega)
  have hdone:s.done=(i:Nat):=by rw [hok.done,List.length_take,Nat.min_eq_left hi]
  have hup:=hw.up
  have hnx:=hw.next
  have hlm:w.lim=w0.lim:=hup.lim
  have hb2:=hw.b2; have hb4:=hw.b4; have hb6:=hw.b6
  by_cases hlt:i < acts.length
  ·obtain ⟨a,ha⟩:∃ p,acts[i]?=some p:=⟨_,List.getElem?_eq_getElem hlt⟩
   obtain ⟨b,off,sq,c,rfl,hra⟩:=hav.at_ i hlt
   have hld:=hra.int ha
   rw [← hup.at hra.2] at hld
   have hia:=fun w=>ia28 w ⟨b,off,sq⟩ acts.length c .i64 i hlt
   simp only [Nat.mul_one] at hia
   have hw1:IntKind.wrap .i64 ((i:Int) + 1)=(i:Int) + 1:=wrap64_in (by omega) (by omega)
   have q1:w.lim≤w.next:=by omega
   have q2:¬ w0.next=w.next:=by omega
   have q3:¬ w0.next + 1=w.next:=by omega
   have q4:¬ w0.next + 1 + 1=w.next:=by omega
   obtain ⟨_,_,c79,rfl,rfl⟩:=call79 (ov:=ov) 2 ho79 rv dv s ⟨(w.heap.put w.next (some (.cells [.int .i64 0] 3 false))).put w.next (some (.cells [.int .i64 a] 3 false)),w.next + 1,w.lim⟩
   have hts:acts.take (i + 1)=acts.take i++[a]:=take_snoc ha
   have hstep:stgF r d startS (acts.take (i + 1))=nextS r d s a:=by rw [hts,stgF_snoc,hs]
   simp only [stgC] at hb6 c79
   simp only [Nat.reduceAdd] at c79
   simp [mc51_l0,t2,t4,t6,t11,t12,t13,hlt,hia,hld,q1,q2,q3,q4,hb2,hb6,c79]
   obtain ⟨H,hH⟩:∃ H,H=(((w.heap.put w.next (some (.cells [.int .i64 0] 3 false))).put w.next (some (.cells [.int .i64 a] 3 false))).put (w.next + 1) (some (.cells [rv,dv] 89 false))).put (w.next + 1 + 1) (some (.cells [.int .i64 s.done,.int .i64 s.last,.int .i64 s.row,.int .i64 s.lo,.int .i64 s.hi] 86 false)):=⟨_,rfl⟩
   rw [← hH]
   have u2:Up w ⟨H,w.next + 1 + 2,w.lim⟩:=by
    rw [hH]
    exact ((((Up.refl w).add _).put (Nat.le_refl _) (Nat.le_refl _)).put (n':=w.next + 1 + 1) (Nat.le_succ _) (Nat.le_succ _)).put (by show w.next≤w.next + 1 + 1; omega) (Nat.le_succ _)
   have gH8:H.get w.next=some (.cells [.int .i64 a] 3 false):=by rw [hH,get_put,if_neg (by omega),get_put,if_neg (by omega),get_put,if_pos rfl]
   have gH1:H.get (w.next + 1 + 1)=some (.cells (stgC s) 86 false):=by rw [hH,get_put,if_pos rfl]; rfl
   have gH2:H.get (w.next + 1)=some (.cells [rv,dv] 89 false):=by rw [hH,get_put,if_neg (by omega),get_put,if_pos rfl]
   clear hH
   refine wp_seqX (wp_blockX (wp_seqX (wp_blockX (rf_wp (g:=98) (gargs:=[.func (.yield (w.next + 1 + 2)) ⟨[]⟩ ⟨[]⟩,.pointer (some ⟨w.next + 1 + 1,0,none⟩),.pointer (some ⟨w.next + 1,0,none⟩)]) ?_ ?_))))
   ·simp [fun98,callV_func]
   ·generalize hTT:tset _ 19 _=TT
    have v2:tget TT 2=.pointer (some ⟨w0.next,0,none⟩):=by rw [← hTT]; simp [t2]
    have v4:tget TT 4=.pointer (some ⟨w0.next + 1,0,none⟩):=by rw [← hTT]; simp [t4]
    have v6:tget TT 6=.pointer (some ⟨w0.next + 1 + 1,0,none⟩):=by rw [← hTT]; simp [t6]
    have v8:tget TT 8=.pointer (some ⟨w.next,0,none⟩):=by rw [← hTT]; simp
    have v11:tget TT 11=.slice (some ⟨b,off,sq⟩) acts.length c:=by rw [← hTT]; simp [t11]
    have v12:tget TT 12=.int .i64 (acts.length:Nat):=by rw [← hTT]; simp [t12]
    have v13:tget TT 13=.int .i64 (i:Nat):=by rw [← hTT]; simp [t13]
    clear hTT
    obtain ⟨lp,hlp⟩:∃ lp:ALoop,lp=⟨29,TT,[20],(rfOf Tryd.prog 51 0).1,(rfOf Tryd.prog 51 0).2,none,.ready⟩:=⟨_,rfl⟩
    obtain ⟨lq,hlq⟩:∃ lp:ALoop,lp=⟨29,TT,[20],(rfOf Tryd.prog 51 0).1,(rfOf Tryd.prog 51 0).2,some (.exit 1),.done⟩:=⟨_,rfl⟩
    rw [← hlp]
    have hwe:∀ x,x < w.next + 1 + 2→(H.put (w.next + 1 + 2) (some (.loop lp))).get x=H.get x:=fun x hx=>by rw [get_put,if_neg (by omega)]
    have u3:Up w ⟨H.put (w.next + 1 + 2) (some (.loop lp)),w.next + 1 + 2 + 1,w.lim⟩:=u2.add _
    have hb6':w.heap.get (w0.next + 1 + 1)=some (.cells (stgC s) 86 false):=hw.b6
    obtain ⟨v9,w2,hc98,hI⟩:=call98 1 (w.next + 1 + 2) (w0.next + 1 + 1) ho98 ho99 h100 h107 h108 h109 h110 r d hR s hf i hdone hid a w0 _ (hup.trans u3) ⟨by omega,by show w.next + 1 + 2 < w.next + 1 + 2 + 1; omega⟩ ⟨by omega,by show w0.next + 1 + 1 < w.next + 1 + 2 + 1; omega⟩ rv dv hrv hdv (w.next + 1 + 1) (w.next + 1) ⟨by show w.next + 1 + 1 < w.next + 1 + 2 + 1; omega,by omega,by omega⟩ ⟨by show w.next + 1 < w.next + 1 + 2 + 1; omega,by omega,by omega⟩ (by show (H.put _ _).get _=_; rw [hwe _ (by omega)]; exact gH1) (by show (H.put _ _).get _=_; rw [hwe _ (by omega)]; exact gH2) (by show w.lim≤w.next + 1 + 2 + 1; omega) s lp lq (by show (H.put _ _).get _=_; rw [get_put,if_pos rfl]) (by rw [u3.at (by omega)]; exact hb6') (fun w1 u1=>by
     have h1:w.next + 1 + 2 + 1≤w1.next:=u1.next
     have h2:w1.lim=w.lim:=u1.lim
     rw [hlp,hlq]
     exact steps51 1 (w.next + 1 + 2) (w0.next + 1 + 1) w.next TT v6 v8 a s w1 (by omega) (by omega) (by omega) (by omega) (by omega) (by omega) (by rw [u1.at (by show w.next < w.next + 1 + 2 + 1; omega)]; show (H.put _ _).get _=_; rw [hwe _ (by omega)]; exact gH8) (by omega) (by omega))
    cases hns:nextS r d s a with
    | none =>
     rw [hns] at hI hstep
     have hn2:w.next + 1 + 2 + 1≤w2.next:=hI.next
     have hl2:w2.lim=w.lim:=hI.lim
     have hN:stgF r d startS acts=none:=by
      have:=stgF_none (bs:=acts.drop (i + 1)) hstep
      rwa [List.take_append_drop] at this
     refine ⟨v9,w2,hc98,lp,hI.lo,by rw [hlp]; rfl,by show w2.lim≤w.next + 1 + 2; omega,?_⟩
     have hp:lp.pending=none:=by rw [hlp]
     rw [hp]
     simp only
     generalize hH2:w2.heap.put (w.next + 1 + 2) _=H2
     have g4:H2.get (w0.next + 1)=some (.cells [.int .i64 0,.int .i64 0,.int .i64 0,.int .i64 0,.int .i64 0] 86 false):=by
      rw [← hH2,get_put,if_neg (by omega),hI.old _ (by show w0.next + 1 < w.next + 1 + 2 + 1; omega) (by omega) (by omega),u3.at (by omega)]; exact hb4
     have q5:w2.lim≤w0.next + 1:=by omega
     simp [v4,g4,q5,hN,stgR,stgC,tupV]
    | some s' =>
     rw [hns] at hI hstep
     have hn2:w.next + 1 + 2 + 1≤w2.next:=hI.next
     have hl2:w2.lim=w.lim:=hI.lim
     refine ⟨v9,w2,hc98,lq,hI.lo,by rw [hlq]; rfl,by show w2.lim≤w.next + 1 + 2; omega,?_⟩
     have hp:lq.pending=some (.exit 1):=by rw [hlq]
     rw [hp]
     simp only
     generalize hH2:w2.heap.put (w.next + 1 + 2) _=H2
     have hk:∀ x,x < w.next→x ≠ w0.next + 1 + 1→H2.get x=w.heap.get x:=fun x hx h=>by
      rw [← hH2,get_put,if_neg (by omega),hI.old _ (by show x < w.next + 1 + 2 + 1; omega) (by omega) h,u3.at hx]
     have g6:H2.get (w0.next + 1 + 1)=some (.cells (stgC s') 86 false):=by
      rw [← hH2,get_put,if_neg (by omega)]; exact hI.cur
     simp [v2,v4,v6,v11,v12,v13,hw1]
     refine ⟨by omega,s',⟨⟨fun x hx=>?_,by show w0.next≤w2.next; omega,by show w2.lim=w0.lim; omega⟩,?_,?_,g6,by show w0.next + 3≤w2.next; omega⟩,hstep,hlt⟩
     ·show H2.get x=_
      rw [hk x (by omega) (by omega)]; exact hup.old x hx
     ·show H2.get _=_
      rw [hk _ (by omega) (by omega)]; exact hb2
     ·show H2.get _=_
      rw [hk _ (by omega) (by omega)]; exact hb4
  ·have hi':i=acts.length:=by omega
   subst hi'
   rw [List.take_length] at hs
   have q5:w.lim≤w0.next + 1:=by omega
   have q6:¬ w0.next + 1=w0.next + 1 + 1:=by omega
   simp only [stgC] at hb6
   simp [mc51_l0,t2,t4,t6,t12,t13,hb4,hb6,q5,hs,stgR,stgC,tupV]
end Go.Proofs.YtlkklcbjjompbaaDoor.walk
namespace Go.Proofs.YtlkklcbjjompbaaDoor.walk
open Go Go.Sh
set_option maxRecDepth 100000
set_option linter.unusedSimpArgs false
def S51:PSpec where
 R args w v:=∃ (rv dv av:Value) (r:List CAct) (d:List CDay) (acts:List Int),args=[.agg ⟨[rv,dv]⟩,av]∧RowsV actC w rv r∧RowsV cdayC w dv d∧RowsV intC w av acts∧ruleB r=true∧daysB d=true∧v=stgR (stgF r d startS acts)
 uniq:=by
  rintro _ _ _ _ ⟨_,_,_,r,d,acts,rfl,h1,h2,h3,_,_,rfl⟩ ⟨_,_,_,r',d',acts',h,k1,k2,k3,_,_,rfl⟩
  cases h
  rw [h1.uniq (m:=7) actC_length actC_inj k1,h2.uniq (m:=3) cdayC_length cdayC_inj k2,h3.uniq (m:=1) intC_length intC_inj k3]
 shut h:=h
def canB (r:List CAct) (d:List CDay) (acts:List Int):Bool:=(stgF r d startS acts).isSome
theorem can_eq {r:List CAct} {d:List CDay} (hR:ruleB r=true) (acts:List Int):canL r d acts.length acts=canB r d acts:=by
 unfold canB
 rcases stg_can (d:=d) hR acts acts.length (Nat.le_refl _) with ⟨h1,h2⟩ | ⟨s,h1,h2,_⟩
 ·rw [List.take_length] at h1; rw [h1,h2]; rfl
 ·rw [List.take_length] at h1; rw [h1,h2]; rfl
theorem runL_eq {a:Int}:∀ (l:List Int) (j:Nat),(∀ k,k < j→l[k]?=some a)→(j=l.length∨∃ b,l[j]?=some b∧b ≠ a)→runL a l=j
 | [],j,h,h2=>by
  rcases h2 with rfl | ⟨b,hb,_⟩
  ·rfl
  ·simp at hb
 | c::l,0,h,h2=>by
  rcases h2 with h2 | ⟨b,hb,hn⟩
  ·simp at h2
  ·have:c=b:=by simpa using hb
   subst this
   unfold runL; rw [if_neg hn]
 | c::l,j + 1,h,h2=>by
  have hc:c=a:=by simpa using h 0 (by omega)
  unfold runL; rw [if_pos hc,runL_eq l j (fun k hk=>by simpa using h (k + 1) (by omega)) (by
   rcases h2 with h2 | ⟨b,hb,hn⟩
   ·exact .inl (by simpa using h2)
   ·exact .inr ⟨b,by simpa using hb,hn⟩)]
def S80:PSpec where
 R args w v:=∃ (rv dv sv:Value) (r:List CAct) (d:List CDay) (so:List Int) (a:Int),args=[rv,dv,sv,.int .i64 a]∧RowsV actC w rv r∧RowsV cdayC w dv d∧RowsV intC w sv so∧ruleB r=true∧daysB d=true∧(∀ z ∈ so,0≤z)∧v=.bool (folB r d so a)
 uniq:=by
  rintro _ _ _ _ ⟨_,_,_,r,d,acts,a,rfl,h1,h2,h3,_,_,_,rfl⟩ ⟨_,_,_,r',d',acts',a',h,k1,k2,k3,_,_,_,rfl⟩
  cases h
  rw [h1.uniq (m:=7) actC_length actC_inj k1,h2.uniq (m:=3) cdayC_length cdayC_inj k2,h3.uniq (m:=1) intC_length intC_inj k3]
 shut h:=h
set_option maxHeartbeats 1000000 in
theorem run80 {ov : Ov} (ho : ∀ args w, ov 80 args w = none) (h39 : HasP ov 39 S39.F) (h46 : HasP ov 46 S46.F) (r : List CAct) (d : List CDay) (hR : ruleB r = true) (hD : daysB d = true) (so : List Int) (a : Int) (hso : ∀ z ∈ so, 0 ≤ z) (rv dv sv : Value) (w : AW) (hl : w.lim = w.next) (hrv : RowsV actC w rv r) (hdv : RowsV cdayC w dv d) (hsv : RowsV intC w sv so) : ∃ x w', (run Tryd.prog ov 2).call 80 [rv, dv, sv, .int .i64 a] w .none = .ok (.ret x) w' .none ∧ x = .bool (folB r d so a) := by
  refine call_wp text80 (by simp) (ho _ _) ?_
  have hl1 := fun w2 => len22V (w' := w2) hrv
  have hl2 := fun w2 => len23V (w' := w2) hdv
  have hl3 := fun w2 => len28V (w' := w2) hsv
  have r39 := fun n a b w => S39.call1 (P := Tryd.prog) h39 (w := w) ⟨n, a, b, rfl, rfl⟩
  have hlr := rule_len hR
  have hdl := days_len hD
  have lw : w.lim ≤ w.next := by omega
  have wr1 : IntKind.wrap .i64 ((r.length : Int) - 1) = (r.length : Int) - 1 := wrap64_in (by omega) (by omega)
  by_cases h1 : d.length ≤ so.length
  · have h1' : (d.length : Int) ≤ so.length := by omega
    have e : folB r d so a = false := by
      unfold folB
      rw [List.getElem?_eq_none h1]
    simp [mc80, hl1, hl2, hl3, h1', h1, e, tupV]
  have h1' : ¬ (d.length : Int) ≤ so.length := by omega
  cases h2 : inI 0 a ((r.length : Int) - 1) with
  | false =>
    have e : folB r d so a = false := by
      have hx : (if 0 ≤ a then r[a.toNat]? else none) = none := by
        by_cases h0 : 0 ≤ a
        · rw [if_pos h0]
          refine List.getElem?_eq_none ?_
          simp only [inI, decide_eq_true h0, Bool.true_and, decide_eq_false_iff_not] at h2
          omega
        · rw [if_neg h0]
      unfold folB
      rw [hx]
      split
      · rename_i h; cases h
      · rfl
    simp [mc80, hl1, hl2, hl3, h1', h1, r39, wr1, h2, e, tupV]
  | true =>
    have h2' := h2
    simp only [inI, Bool.and_eq_true, decide_eq_true_eq] at h2'
    obtain ⟨n, rfl⟩ : ∃ n : Nat, a = (n : Int) := ⟨a.toNat, by omega⟩
    have hn : n < r.length := by omega
    obtain ⟨x, hx⟩ : ∃ p, r[n]? = some p := ⟨_, List.getElem?_eq_getElem hn⟩
    obtain ⟨y, hy⟩ : ∃ p, d[so.length]? = some p := ⟨_, List.getElem?_eq_getElem (by omega)⟩
    obtain ⟨b, off, sq, c, rfl, hra⟩ := hrv.at_ n hn
    obtain ⟨b', off', sq', c', rfl, hda⟩ := hdv.at_ so.length (by omega)
    have hld := hra.rd actC_length hx
    have hia := fun w => ia22 w ⟨b, off, sq⟩ r.length c .i64 n hn
    have hib := fun w => ia23 w ⟨b', off', sq'⟩ d.length c' .i64 so.length (by omega)
    have f0 := hda.rd1 cdayC_length hy (j := 0) (x := .int .i64 y.wl) rfl
    have f2 := hda.rd1 cdayC_length hy (j := 2) (x := .bool y.rain) rfl
    simp only [Nat.add_zero] at f0
    have nb' : ¬ b' = w.next := by have := hda.2; omega
    simp only [actC] at hld
    have e : folB r d so n = (!(decide (y.wl < x.warm) || (x.dry && y.rain)) && (match so.getLast? with
        | none => x.first
        | some z => decide ((runL n so.reverse : Int) < x.most) && (decide (z = n) || bitB x.behind z))) := by
      unfold folB
      rw [hy, if_pos (by omega)]
      simp only [Int.toNat_natCast, hx]
      cases so.getLast? <;> rfl
    by_cases h3 : y.wl < x.warm
    · have e' : folB r d so n = false := by rw [e]; simp [h3]
      simp [mc80, hl1, hl2, hl3, h1', h1, r39, wr1, h2, hia, hld, lw, hib, f0, nb', cellsOf_agg, h3, e', tupV]
    · by_cases h4 : x.dry = true ∧ y.rain = true
      · have e' : folB r d so n = false := by rw [e]; simp [h4.1, h4.2]
        simp [mc80, hl1, hl2, hl3, h1', h1, r39, wr1, h2, hia, hld, lw, hib, f0, f2, nb', cellsOf_agg, h3, h4.1, h4.2, e', tupV]
      · have e2 : folB r d so n = (match so.getLast? with
            | none => x.first
            | some z => decide ((runL n so.reverse : Int) < x.most) && (decide (z = n) || bitB x.behind z)) := by
          rw [e]
          have : (decide (y.wl < x.warm) || (x.dry && y.rain)) = false := by
            rw [decide_eq_false h3, Bool.false_or]
            cases hd : x.dry with
            | false => rfl
            | true => cases hr : y.rain with
              | false => rfl
              | true => exact absurd ⟨hd, hr⟩ h4
          rw [this]; rfl
        have h5 : x.dry = false ∨ (x.dry = true ∧ y.rain = false) := by
          cases hd : x.dry with
          | false => exact .inl rfl
          | true => cases hr : y.rain with
            | false => exact .inr ⟨rfl, rfl⟩
            | true => exact absurd ⟨hd, hr⟩ h4
        by_cases h6 : so = []
        · have e3 : folB r d so n = x.first := by rw [e2, h6]; rfl
          have hz : so.length = 0 := by rw [h6]; rfl
          have hib' : ∀ w, indexAddrA Tryd.prog w 23 (.slice (some ⟨b', off', sq'⟩) d.length c') (.int .i64 0) = .val (.pointer (some ((⟨b', off', sq'⟩ : Addr).add 0))) w := fun w => by simpa [hz] using hib w
          have hl3' : ∀ w2, lenB Tryd.prog w2 28 sv = .val (.int .i64 0) w2 := fun w2 => by simpa [hz] using hl3 w2
          have f0' : rd1O (w.heap.get b') off' = some (.int .i64 y.wl) := by simpa [hz] using f0
          have f2' : rd1O (w.heap.get b') (off' + 2) = some (.bool y.rain) := by simpa [hz] using f2
          have h1z : ¬ (d.length : Int) ≤ 0 := by omega
          have h1n : ¬ d = [] := fun e => by rw [e] at h1z; simp at h1z
          rw [e3]
          rcases h5 with h5 | ⟨h5, h7⟩
          · simp [mc80, hl1, hl2, hl3', h1z, h1n, r39, wr1, h2, hia, hld, lw, hib', f0', f2', nb', cellsOf_agg, h3, h5, tupV]
          · simp [mc80, hl1, hl2, hl3', h1z, h1n, r39, wr1, h2, hia, hld, lw, hib', f0', f2', nb', cellsOf_agg, h3, h5, h7, tupV]
        · have hne : 0 < so.length := by
            cases so with
            | nil => exact absurd rfl h6
            | cons _ _ => simp
          obtain ⟨p, hp⟩ : ∃ p, so.length = p + 1 := ⟨so.length - 1, by omega⟩
          have hz : ¬ (so.length : Int) = 0 := by omega
          obtain ⟨zl, hlast⟩ : ∃ z, so[p]? = some z := ⟨_, List.getElem?_eq_getElem (by omega)⟩
          have hzl : so.getLast? = some zl := by rw [List.getLast?_eq_getElem?, hp]; exact hlast
          have hz0 : 0 ≤ zl := hso zl (List.mem_of_getElem? hlast)
          obtain ⟨b2, off2, sq2, c2, rfl, hsa⟩ := hsv.at_ 0 hne
          obtain ⟨w1, hw1e⟩ : ∃ w1 : AW, w1 = ⟨(w.heap.put w.next (some (.cells [.int .i64 0, .int .i64 0, .bool false, .bool false, .int .i64 0, .int .i64 0, .int .i64 0] 78 false))).put w.next (some (.cells [.int .i64 x.warm, .int .i64 x.behind, .bool x.dry, .bool x.first, .int .i64 x.most, .int .i64 x.ll, .int .i64 x.lh] 78 false)), w.next + 1, w.lim⟩ := ⟨_, rfl⟩
          have u1 : Up w w1 := by rw [hw1e]; exact ((Up.refl w).add _).put (Nat.le_refl _) (Nat.le_refl _)
          have g10 : w1.heap.get w.next = some (.cells [.int .i64 x.warm, .int .i64 x.behind, .bool x.dry, .bool x.first, .int .i64 x.most, .int .i64 x.ll, .int .i64 x.lh] 78 false) := by rw [hw1e]; simp
          have ls : ∀ k z, so[k]? = some z → rd1O (w1.heap.get b2) (off2 + k) = some (.int .i64 z) := fun k z h => by rw [u1.at hsa.2]; exact hsa.int h
          have hic : ∀ w k, k < so.length → indexAddrA Tryd.prog w 28 (.slice (some ⟨b2, off2, sq2⟩) so.length c2) (.int .i64 (k : Nat)) = .val (.pointer (some ((⟨b2, off2, sq2⟩ : Addr).add k))) w := fun w k hk => by simpa using ia28 w ⟨b2, off2, sq2⟩ so.length c2 .i64 k hk
          have wl1 : IntKind.wrap .i64 ((so.length : Int) - 1) = (p : Int) := by rw [wrap64_in (by omega) (by omega)]; omega
          have r46 := fun w => S46.call1 (P := Tryd.prog) h46 (w := w) ⟨x.behind, zl, rfl, hz0, rfl⟩
          have hlp := hic
          have lsl := ls p zl hlast
          have e3 : folB r d so n = (decide ((runL n so.reverse : Int) < x.most) && (decide (zl = n) || bitB x.behind zl)) := by
            rw [e2, hzl]
          rw [e3]
          rcases h5 with h5 | ⟨h5, h7⟩
          case' inl => simp [mc80, hl1, hl2, hl3, h1', h1, r39, wr1, h2, hia, hld, lw, hib, f0, f2, nb', cellsOf_agg, h3, h5, hz, h6]
          case' inr => simp [mc80, hl1, hl2, hl3, h1', h1, r39, wr1, h2, hia, hld, lw, hib, f0, f2, nb', cellsOf_agg, h3, h5, h7, hz, h6]
          all_goals rw [h5] at hw1e
          all_goals rw [← hw1e]
          all_goals refine wp_seqX (wp_blockX (wp.mono (wp_rounds (Q := fun ex t w' => ex = .exit 0 ∧ w' = w1 ∧ tget t 2 = .slice (some ⟨b2, off2, sq2⟩) so.length c2 ∧ tget t 3 = .int .i64 (n : Nat) ∧ tget t 9 = .int .i64 (so.length : Nat) ∧ tget t 10 = .pointer (some ⟨w.next, 0, none⟩) ∧ tget t 11 = .int .i64 (runL n so.reverse : Nat)) (fun j t w' => w' = w1 ∧ tget t 2 = .slice (some ⟨b2, off2, sq2⟩) so.length c2 ∧ tget t 3 = .int .i64 (n : Nat) ∧ tget t 9 = .int .i64 (so.length : Nat) ∧ tget t 10 = .pointer (some ⟨w.next, 0, none⟩) ∧ tget t 11 = .int .i64 (j : Nat) ∧ j ≤ so.length ∧ ∀ k, k < j → so.reverse[k]? = some (n : Int)) 20 (by decide) ⟨rfl, by simp, by simp, by simp, by simp, by simp, by omega, fun k hk => by omega⟩ ?_) ?_))
          all_goals first
            | (rintro j t w' ⟨rfl, t2, t3, t9, t10, t11, hj, hall⟩
               by_cases hlt : j < so.length
               · obtain ⟨k, hk⟩ : ∃ k, p = j + k := ⟨p - j, by omega⟩
                 have hkl : k < so.length := by omega
                 obtain ⟨z, hzk⟩ : ∃ z, so[k]? = some z := ⟨_, List.getElem?_eq_getElem hkl⟩
                 have wk : IntKind.wrap .i64 ((p : Int) - (j : Int)) = (k : Int) := by rw [wrap64_in (by omega) (by omega)]; omega
                 have wj : IntKind.wrap .i64 ((j : Int) + 1) = (j : Int) + 1 := wrap64_in (by omega) (by omega)
                 have hrev : so.reverse[j]? = some z := by
                   rw [List.getElem?_reverse hlt, ← hzk]; congr 1; omega
                 have lsk := ls k z hzk
                 have hik := fun w => hic w k hkl
                 by_cases hzn : z = (n : Int)
                 · rw [hzn] at lsk hrev
                   simp [mc80_l0, t2, t3, t9, t10, t11, hlt, wl1, wk, wj, hik, lsk]
                   refine ⟨by omega, by omega, fun q hq => ?_⟩
                   by_cases hqj : q = j
                   · rw [hqj]; exact hrev
                   · exact hall q (by omega)
                 · have hrl : runL n so.reverse = j := runL_eq _ j hall (.inr ⟨z, hrev, hzn⟩)
                   simp [mc80_l0, t2, t3, t9, t10, t11, hlt, wl1, wk, wj, hik, lsk, hzn, hrl]
               · have hjl : j = so.length := by omega
                 have hrl : runL n so.reverse = j := runL_eq _ j hall (.inl (by rw [List.length_reverse]; exact hjl))
                 subst hjl
                 simp [mc80_l0, t2, t3, t9, t10, t11, hrl])
            | (rintro ex t w' ⟨rfl, rfl, t2, t3, t9, t10, t11⟩
               have hil := fun w => hic w p (by omega)
               by_cases m1 : (runL n so.reverse : Int) < x.most
               · by_cases m2 : zl = (n : Int)
                 · rw [m2] at lsl r46
                   simp [t2, t3, t9, t10, t11, g10, wl1, hil, lsl, r46, m1, m2, tupV]
                 · simp [t2, t3, t9, t10, t11, g10, wl1, hil, lsl, r46, m1, m2, tupV]
               · simp [t2, t3, t9, t10, t11, g10, m1, tupV])
end Go.Proofs.YtlkklcbjjompbaaDoor.walk
namespace Go.Proofs.YtlkklcbjjompbaaDoor.walk
open Go Go.Sh
set_option maxRecDepth 100000
set_option linter.unusedSimpArgs false
theorem slice_head {P:Program} {st e:TypeId} {sz:Nat} (h1:elemA P st=some e) (h2:szOf P e=some sz) {w:AW} {a:Addr} {n c k:Nat} {cs:List Value} {e':TypeId} {ro:Bool} (hg:w.heap.get a.block=some (.cells cs e' ro)) (hk:k≤c) :
  sliceA P w st (.slice (some a) n c) none (some (.int .i64 (k:Int))) none=.val (.slice (some ⟨a.block,a.off,bif Nat.beq e e' && a.spot.isNone then none else some 1⟩) k c) w:=by
 show sliceA P w st (.slice (some a) n c) none (some (.int .i64 (Int.ofNat k))) none=_
 have hb':Nat.ble k c=true:=Nat.ble_eq_true_of_le hk
 simp [sliceA,sliceB1,h1,h2,sliceRow,boundA,hb',cutR,cutAddr,rowElem,hg]
theorem elem28:elemA Tryd.prog 28=some 3:=by kernel_rfl
theorem sz3:szOf Tryd.prog 3=some 1:=by kernel_rfl
theorem RowsA.head {α:Type} {f:α→List Value} {w:AW} {b off:Nat} {l:List α} (h:RowsA f w.heap w.next b off l) {i:Nat} (hi:i≤l.length) (sq:Option Nat) (c:Nat):RowsV f w (.slice (some ⟨b,off,sq⟩) i c) (l.take i):=by
 obtain ⟨⟨pre,rest,e,ro,h1,h2⟩,h3⟩:=h
 refine .inr ⟨b,off,sq,c,by rw [List.length_take,Nat.min_eq_left hi],⟨pre,(l.drop i).flatMap f++rest,e,ro,?_,h2⟩,h3⟩
 rw [h1,← List.append_assoc ((l.take i).flatMap f),← List.flatMap_append,List.take_append_drop]
theorem canL_false {r:List CAct} {d:List CDay} {acts:List Int} {i:Nat} (h:canL r d i acts=false):∀ n,i≤n→canL r d n acts=false
 | 0,hn=>by
  have:i=0:=by omega
  rw [← this]; exact h
 | n + 1,hn=>by
  by_cases e:i=n + 1
  ·rw [← e]; exact h
  ·show (canL r d n acts && _)=false
   rw [canL_false h n (by omega)]; rfl
def CapV (v:Value):Prop:=∃ a n c,v=.slice a n c∧n≤c
def S52:PSpec where
 R args w v:=∃ (rv dv av:Value) (r:List CAct) (d:List CDay) (acts:List Int),args=[rv,dv,av]∧RowsV actC w rv r∧RowsV cdayC w dv d∧RowsV intC w av acts∧CapV av∧ruleB r=true∧daysB d=true∧v=.bool (canB r d acts)
 uniq:=by
  rintro _ _ _ _ ⟨_,_,_,r,d,acts,rfl,h1,h2,h3,_,_,_,rfl⟩ ⟨_,_,_,r',d',acts',h,k1,k2,k3,_,_,_,rfl⟩
  cases h
  rw [h1.uniq (m:=7) actC_length actC_inj k1,h2.uniq (m:=3) cdayC_length cdayC_inj k2,h3.uniq (m:=1) intC_length intC_inj k3]
 shut h:=h
theorem run52 {ov:Ov} (ho:∀ args w,ov 52 args w=none) (h80:HasP ov 80 S80.F) (r:List CAct) (d:List CDay) (hR:ruleB r=true) (hD:daysB d=true) (acts:List Int) (rv dv av:Value) (w:AW) (hrv:RowsV actC w rv r) (hdv:RowsV cdayC w dv d) (hav:RowsV intC w av acts) (hcap:CapV av):∃ x w',(run Tryd.prog ov 2).call 52 [rv,dv,av] w .none=.ok (.ret x) w' .none∧x=.bool (canB r d acts):=by
 refine call_wp text52 (by simp) (ho _ _) ?_
 have hl3:=fun w2=>len28V (w':=w2) hav
 have hdl:=days_len hD
 simp [mc52]
 refine wp_seqX (wp_blockX (wp_rounds (fun i t w'=>w'=w∧tget t 0=rv∧tget t 1=dv∧tget t 2=av∧tget t 7=.int .i64 (i:Nat)∧i≤acts.length∧canL r d i acts=true) 20 (by decide) ⟨rfl,by simp,by simp,by simp,by simp,by omega,rfl⟩ ?_))
 rintro i t w' ⟨rfl,t0,t1,t2,t7,hi,hc⟩
 by_cases hlt:i < acts.length
 ·obtain ⟨a,ha⟩:∃ p,acts[i]?=some p:=⟨_,List.getElem?_eq_getElem hlt⟩
  obtain ⟨b,off,sq,c,rfl,hra⟩:=hav.at_ i hlt
  obtain ⟨_,_,_,hce,hcn⟩:=hcap
  cases hce
  have hld:=hra.int ha
  have hia:=fun w=>ia28 w ⟨b,off,sq⟩ acts.length c .i64 i hlt
  simp only [Nat.mul_one] at hia
  obtain ⟨⟨pre,rest,e',ro,hg,hpre⟩,hb⟩:=id hra
  have hsl:=slice_head elem28 sz3 (w:=w') (a:=⟨b,off,sq⟩) (n:=acts.length) (c:=c) (k:=i) hg (by omega)
  have hsr:=RowsA.head (w:=w') hra (i:=i) hi (bif Nat.beq 3 e' && sq.isNone then none else some 1) c
  have hs:∃ s,stgF r d startS (acts.take i)=some s:=by
   rcases stg_can (d:=d) hR acts i hi with ⟨_,h2⟩ | ⟨s,h1,_⟩
   ·rw [hc] at h2; cases h2
   ·exact ⟨s,h1⟩
  obtain ⟨s,hs⟩:=hs
  have hid:i≤d.length:=by
   have:=stg_len hR hs
   rw [List.length_take,Nat.min_eq_left hi] at this; exact this
  have hw1:IntKind.wrap .i64 ((i:Int) + 1)=(i:Int) + 1:=wrap64_in (by omega) (by omega)
  have r80:=S80.call1 (P:=Tryd.prog) h80 ⟨rv,dv,_,r,d,acts.take i,a,rfl,hrv,hdv,hsr,hR,hD,fun z hz=>(stg_acts _ _ _ hs z hz).1,rfl⟩
  have hg1:acts.getD i 0=a:=by rw [List.getD_eq_getElem?_getD,ha]; rfl
  have hcs:canL r d (i + 1) acts=folB r d (acts.take i) a:=by
   show (canL r d i acts && folB r d (acts.take i) (acts.getD i 0))=_
   rw [hc,hg1,Bool.true_and]
  cases hf:folB r d (acts.take i) a with
  | false =>
   rw [hf] at r80 hcs
   have e:canB r d acts=false:=by rw [← can_eq hR]; exact canL_false hcs _ hlt
   simp [mc52_l0,t0,t1,t2,t7,hl3,hlt,hia,hld,hsl,r80,e,tupV]
  | true =>
   rw [hf] at r80 hcs
   simp [mc52_l0,t0,t1,t2,t7,hl3,hlt,hia,hld,hsl,r80,hw1]
   exact ⟨by omega,hlt,hcs⟩
 ·have hi':i=acts.length:=by omega
  subst hi'
  have e:canB r d acts=true:=by rw [← can_eq hR]; exact hc
  simp [mc52_l0,t0,t1,t2,t7,hl3,e,tupV]
def S15:PSpec where
 R args w v:=∃ (x y:Value) (r:List CAct) (d:List CDay),args=[x,y]∧RowsV actC w x r∧RowsV cdayC w y d∧v=.int .i64 (chkE r d)
 uniq:=by
  rintro _ _ _ _ ⟨x,y,r,d,rfl,h1,h2,rfl⟩ ⟨_,_,r',d',h,k1,k2,rfl⟩
  cases h
  rw [h1.uniq (m:=7) actC_length actC_inj k1,h2.uniq (m:=3) cdayC_length cdayC_inj k2]
 shut h:=h
def S73:PSpec where
 R args w v:=∃ (rv dv:Value) (r:List CAct) (d:List CDay) (b:CBox),args=[rv,dv,.agg ⟨boxC b⟩]∧RowsV actC w rv r∧RowsV cdayC w dv d∧LimW w∧v=.int .i64 (bxE r d b)
 uniq:=by
  rintro _ _ _ _ ⟨_,_,r,d,⟨_,_,_,_⟩,rfl,h1,h2,_,rfl⟩ ⟨_,_,r',d',⟨_,_,_,_⟩,h,k1,k2,_,rfl⟩
  cases h
  rw [h1.uniq (m:=7) actC_length actC_inj k1,h2.uniq (m:=3) cdayC_length cdayC_inj k2]
 shut h:=h
theorem run73 {ov:Ov} (ho:∀ args w,ov 73 args w=none) (h14:HasP ov 14 S14.F) (h94:HasP ov 94 S94.F) (r:List CAct) (d:List CDay) (b:CBox) (rv dv:Value) (w:AW) (hrv:RowsV actC w rv r) (hdv:RowsV cdayC w dv d) (hL:LimW w):∃ x w',(run Tryd.prog ov 2).call 73 [rv,dv,.agg ⟨boxC b⟩] w .none=.ok (.ret x) w' .none∧x=.int .i64 (bxE r d b):=by
 refine call_wp text73 (by simp) (ho _ _) ?_
 have u1:Up w ⟨w.heap.put w.next (some (.cells [.int .i64 b.wl,.int .i64 b.wh,.int .i64 b.sl,.int .i64 b.sh] 27 false)),w.next + 1,w.lim⟩:=(Up.refl w).add _
 have r14:=S14.call1 (P:=Tryd.prog) h14 ⟨rv,dv,r,d,rfl,hrv.up u1,hdv.up u1,hL.up u1,rfl⟩
 have r94:=S94.call1 (P:=Tryd.prog) h94 ⟨b,rfl,hL.up u1,rfl⟩
 simp only [boxC] at r94 ⊢
 by_cases hE:chkE r d=0
 ·rw [hE] at r14
  cases hB:boxB b <;> rw [hB] at r94 <;> simp [mc73,r14,r94,bxE,hE,hB,cellsOf_agg,tupV]
 ·simp [mc73,r14,bxE,hE,cellsOf_agg,tupV]
def S76:PSpec where
 R args w v:=∃ (rv dv:Value) (r:List CAct) (d:List CDay) (b:CBox),args=[rv,dv,.agg ⟨boxC b⟩]∧RowsV actC w rv r∧RowsV cdayC w dv d∧v=.int .i64 (bxE r d b)
 uniq:=by
  rintro _ _ _ _ ⟨_,_,r,d,⟨_,_,_,_⟩,rfl,h1,h2,rfl⟩ ⟨_,_,r',d',⟨_,_,_,_⟩,h,k1,k2,rfl⟩
  cases h
  rw [h1.uniq (m:=7) actC_length actC_inj k1,h2.uniq (m:=3) cdayC_length cdayC_inj k2]
 shut h:=h
theorem run76 {ov:Ov} (ho:∀ args w,ov 76 args w=none) (h15:HasP ov 15 S15.F) (h55:HasP ov 55 S55.F) (r:List CAct) (d:List CDay) (b:CBox) (rv dv:Value) (w:AW) (hrv:RowsV actC w rv r) (hdv:RowsV cdayC w dv d):∃ x w',(run Tryd.prog ov 2).call 76 [rv,dv,.agg ⟨boxC b⟩] w .none=.ok (.ret x) w' .none∧x=.int .i64 (bxE r d b):=by
 refine call_wp text76 (by simp) (ho _ _) ?_
 have u1:Up w ⟨w.heap.put w.next (some (.cells [.int .i64 b.wl,.int .i64 b.wh,.int .i64 b.sl,.int .i64 b.sh] 27 false)),w.next + 1,w.lim⟩:=(Up.refl w).add _
 have r15:=S15.call1 (P:=Tryd.prog) h15 ⟨rv,dv,r,d,rfl,hrv.up u1,hdv.up u1,rfl⟩
 have r55:=fun lo hi a b w=>S55.call1 (P:=Tryd.prog) h55 (w:=w) ⟨lo,hi,a,b,rfl,rfl⟩
 simp only [boxC] at ⊢
 by_cases hE:chkE r d=0
 ·rw [hE] at r15
  cases hB1:spanI b.wl b.wh 1 1000000 with
  | false=>simp [mc76,r15,r55,bxE,boxB,hE,hB1,cellsOf_agg,tupV]
  | true=>cases hB2:spanI b.sl b.sh 1 1000000 <;> simp [mc76,r15,r55,bxE,boxB,hE,hB1,hB2,cellsOf_agg,tupV]
 ·simp [mc76,r15,bxE,hE,cellsOf_agg,tupV]
def S56:PSpec where
 R args w v:=∃ (rv dv av:Value) (r:List CAct) (d:List CDay) (b:CBox) (acts:List Int),args=[rv,dv,.agg ⟨boxC b⟩,av]∧RowsV actC w rv r∧RowsV cdayC w dv d∧RowsV intC w av acts∧LimW w∧w.lim≤w.next∧v=.int .i64 (actE r d b acts)
 uniq:=by
  rintro _ _ _ _ ⟨_,_,_,r,d,⟨_,_,_,_⟩,acts,rfl,h1,h2,h3,_,_,rfl⟩ ⟨_,_,_,r',d',⟨_,_,_,_⟩,acts',h,k1,k2,k3,_,_,rfl⟩
  cases h
  rw [h1.uniq (m:=7) actC_length actC_inj k1,h2.uniq (m:=3) cdayC_length cdayC_inj k2,h3.uniq (m:=1) intC_length intC_inj k3]
 shut:=fun ⟨rv,dv,av,r,d,b,acts,h1,h2,h3,h4,h5,_,h6⟩=>⟨rv,dv,av,r,d,b,acts,h1,h2,h3,h4,h5,Nat.le_refl _,h6⟩
theorem run56 {ov:Ov} (ho:∀ args w,ov 56 args w=none) (h73:HasP ov 73 S73.F) (h51:HasP ov 51 S51.F) (r:List CAct) (d:List CDay) (b:CBox) (acts:List Int) (rv dv av:Value) (w:AW) (hl:w.lim=w.next) (hrv:RowsV actC w rv r) (hdv:RowsV cdayC w dv d) (hav:RowsV intC w av acts) (hL:LimW w):∃ x w',(run Tryd.prog ov 2).call 56 [rv,dv,.agg ⟨boxC b⟩,av] w .none=.ok (.ret x) w' .none∧x=.int .i64 (actE r d b acts):=by
 refine call_wp text56 (by simp) (ho _ _) ?_
 have u1:Up w ⟨w.heap.put w.next (some (.cells [.int .i64 b.wl,.int .i64 b.wh,.int .i64 b.sl,.int .i64 b.sh] 27 false)),w.next + 1,w.lim⟩:=(Up.refl w).add _
 have r73:=S73.call1 (P:=Tryd.prog) h73 ⟨rv,dv,r,d,b,rfl,hrv.up u1,hdv.up u1,hL.up u1,rfl⟩
 have lw:w.lim≤w.next + 1:=by omega
 simp only [boxC] at r73 ⊢
 by_cases hE:bxE r d b=0
 ·obtain ⟨hR,hD,_⟩:=bx_of hE
  have r51:=S51.call1 (P:=Tryd.prog) h51 ⟨rv,dv,av,r,d,acts,rfl,hrv.up u1,hdv.up u1,hav.up u1,hR,hD,rfl⟩
  obtain ⟨p1,p2,rfl⟩:=hrv.len
  obtain ⟨p3,p4,rfl⟩:=hdv.len
  rw [hE] at r73
  cases hs:stgF r d startS acts with
  | none =>
   rw [hs] at r51
   simp only [stgR,stgC] at r51
   simp [mc56,r73,r51,actE,hE,hs,lw,cellsOf_agg,tupV]
  | some s =>
   rw [hs] at r51
   simp only [stgR,stgC] at r51
   simp [mc56,r73,r51,actE,hE,hs,lw,cellsOf_agg,tupV]
 ·simp [mc56,r73,actE,hE,cellsOf_agg,tupV]
end Go.Proofs.YtlkklcbjjompbaaDoor.walk
