/- Part of a proof by a machine of ones own: see the text with the theorem. -/
import Derived.Test.YtlkklcbjjompbaaDoorCWm
namespace Go.Proofs.YtlkklcbjjompbaaDoor.walk
open Go Go.Sh
set_option maxRecDepth 100000
set_option linter.unusedSimpArgs false
theorem row_take {V:List Sp} {n:Nat} (h:n + 1≤V.length):(List.range (n + 1)).map (gtS V)=V.take (n + 1):=by
 apply List.ext_getElem?
 intro i
 rw [List.getElem?_map,List.getElem?_take]
 by_cases hi:i < n + 1
 ·rw [if_pos hi,List.getElem?_range hi]
  unfold gtS
  simp only [Option.map_some,List.getD_eq_getElem?_getD]
  rw [List.getElem?_eq_getElem (by omega)]
  rfl
 ·rw [if_neg hi,List.getElem?_eq_none (by simp; omega)]; rfl
theorem rowF_rows {w:AW} {BW n:Nat} {f:Nat→Sp} (g:w.heap.get BW=some (.cells (RowF n f) 25 false)) (h:BW < w.next):RowsV spC w (.slice (some ⟨BW,0,none⟩) (n + 1) (n + 1)) ((List.range (n + 1)).map f) :=
 .inr ⟨BW,0,none,n + 1,by simp,⟨[],[],25,false,by simpa [RowF] using g,rfl⟩,h⟩
theorem map_congr {n:Nat} {f g:Nat→Sp} (h:∀ k,k≤n→f k=g k):(List.range (n + 1)).map f=(List.range (n + 1)).map g:=List.map_congr_left fun k hk=>h k (by rw [List.mem_range] at hk; omega)
theorem wei_ref {r:List CAct} {d:List CDay} {b:CBox} {acts:List Int} {l:List CRead} (h:rdE r d b acts l=0):weiE r d b acts l=if okB b (lossL r acts) l=true then 0 else 65:=by
 obtain ⟨hA,_⟩:=rdE_ok h
 obtain ⟨_,h14,_⟩:=tru_ok hA
 have:=(ref_wei (l:=l) (act_ofE hA).2.2.1 (los_ok hA) (by rw [lossL_length]; exact h14)).1
 unfold weiE
 rw [if_pos h,this]
 cases weighF b (lossL r acts) l <;> rfl
theorem wei_err {r:List CAct} {d:List CDay} {b:CBox} {acts:List Int} {l:List CRead} (h:¬ rdE r d b acts l=0):weiE r d b acts l=rdE r d b acts l:=by unfold weiE; rw [if_neg h]
set_option maxHeartbeats 2000000 in
theorem call21 {ov:Ov} (m:Nat) (ho:∀ args w,ov 21 args w=none) (ho65:∀ args w,ov 65 args w=none) (h60:HasP ov 60 S60r.F) (h87:HasP ov 87 S87.F) (r:List CAct) (d:List CDay) (b:CBox) (acts:List Int) (l:List CRead) (rv dv av lv:Value) (we:AW) (hlim:we.lim≤we.next) (hrv:RowsV actC we rv r) (hdv:RowsV cdayC we dv d) (hav:RowsV intC we av acts) (hcap:CapV av) (hlv:RowsV readC we lv l) :
  ∃ v w',(run Tryd.prog ov (m + 3)).call 21 [rv,dv,.agg ⟨boxC b⟩,av,lv] we .none=.ok (.ret v) w' .none∧(∃ v1,v=.tuple ⟨[v1,.int .i64 (weiE r d b acts l)]⟩∧(weiE r d b acts l ≠ 0→v1=.slice none 0 0)∧(weiE r d b acts l=0→∃ V,weighF b (lossL r acts) l=some V∧RowsV spC w' v1 (V.take ((lossL r acts).length + 1))))∧Up we w':=by
 refine call_wp text21 (by simp) (ho _ _) ?_
 have nj:notJunk (.slice none 0 0)=some (.slice none 0 0):=rfl
 obtain ⟨w1,hw1⟩:∃ w1:AW,w1=⟨we.heap.put we.next (some (.cells [.int .i64 b.wl,.int .i64 b.wh,.int .i64 b.sl,.int .i64 b.sh] 27 false)),we.next + 1,we.lim⟩:=⟨_,rfl⟩
 have u1:Up we w1:=by rw [hw1]; exact (Up.refl we).add _
 have n1:w1.next=we.next + 1:=by rw [hw1]
 have l1:=u1.lim
 have r60:=S60r.call (P:=Tryd.prog) h60 (m:=m + 1) (w:=w1) ⟨rv,dv,av,lv,r,d,b,acts,l,rfl,hrv.up u1,hdv.up u1,hav.up u1,hlv.up u1,hcap,rfl⟩
 by_cases hrd:rdE r d b acts l=0
 case neg =>
  rw [wei_err hrd]
  rw [hw1] at r60
  simp only [boxC] at r60 ⊢
  simp [mc21,cellsOf_agg,r60,hrd,nj,tupV]
  rw [← hw1]; exact u1
 obtain ⟨hA,hRd⟩:=rdE_ok hrd
 obtain ⟨_,h14,hact⟩:=tru_ok hA
 have hLl:(lossL r acts).length=acts.length:=lossL_length r acts
 have hb:=(act_ofE hA).2.2.1
 have hlos:=los_ok hA
 obtain ⟨v65,w2,c65,⟨BW,rfl,gB,hB1,hB2⟩,u2⟩:=call65 (ov:=ov) m ho65 h87 r acts h14 hlos hact b hb l hRd rv av lv w1 (by omega) (hrv.up u1) (hav.up u1) (hlv.up u1)
 have hn2:=u2.next
 have hl2:=u2.lim
 obtain ⟨hoi,hoV⟩:=ref_wei (l:=l) hb hlos (by omega)
 rw [wei_ref hrd]
 rw [hrd,hw1] at r60
 rw [hw1] at c65
 have lw2:w2.lim≤w2.next:=by omega
 have hrow:=rowF_rows gB hB2
 have njB:notJunk (.slice (some ⟨BW,0,none⟩) (acts.length + 1) (acts.length + 1))=some (.slice (some ⟨BW,0,none⟩) (acts.length + 1) (acts.length + 1)):=rfl
 simp only [boxC,spC] at r60 c65 ⊢
 cases ho:okB b (lossL r acts) l with
 | false =>
  rw [ho] at c65
  simp [mc21,cellsOf_agg,r60,c65,lw2,nj,tupV]
  exact (((u1.trans u2).add _).put (by omega) (Nat.le_refl _))
 | true =>
  rw [ho] at c65 hoi
  obtain ⟨V,hV⟩:=Option.isSome_iff_exists.1 hoi.symm
  have hV16:V.length=16:=(weigh_ok hb hlos (by omega) hV).good.len
  rw [map_congr (g:=gtS V) fun k hk=>hoV V hV k (by omega),row_take (by omega),← hLl] at hrow
  simp [mc21,cellsOf_agg,r60,c65,lw2,njB,tupV]
  refine ⟨⟨V,hV,?_⟩,(((u1.trans u2).add _).put (by omega) (Nat.le_refl _))⟩
  rw [hLl] at hrow ⊢
  exact hrow.up (((Up.refl w2).add _).put (Nat.le_refl _) (Nat.le_refl _))
def AnsS (b:CBox) (L:List Sp) (l:List CRead) (e:Int) (v:Value):Prop:=∃ s:Sp,v=.tuple ⟨[.agg ⟨spC s⟩,.int .i64 e]⟩∧(e ≠ 0→s=(0,0))∧(e=0→∃ V,weighF b L l=some V∧s=gtS V (L.length + 1))
set_option maxHeartbeats 2000000 in
theorem call24 {ov:Ov} (m:Nat) (ho:∀ args w,ov 24 args w=none) (ho65:∀ args w,ov 65 args w=none) (h60:HasP ov 60 S60r.F) (h87:HasP ov 87 S87.F) (r:List CAct) (d:List CDay) (b:CBox) (acts:List Int) (l:List CRead) (rv dv av lv:Value) (we:AW) (hlim:we.lim≤we.next) (hrv:RowsV actC we rv r) (hdv:RowsV cdayC we dv d) (hav:RowsV intC we av acts) (hcap:CapV av) (hlv:RowsV readC we lv l) :
  ∃ v w',(run Tryd.prog ov (m + 3)).call 24 [rv,dv,.agg ⟨boxC b⟩,av,lv] we .none=.ok (.ret v) w' .none∧AnsS b (lossL r acts) l (weiE r d b acts l) v∧Up we w':=by
 refine call_wp text24 (by simp) (ho _ _) ?_
 obtain ⟨w1,hw1⟩:∃ w1:AW,w1=⟨(we.heap.put we.next (some (.cells [.int .i64 b.wl,.int .i64 b.wh,.int .i64 b.sl,.int .i64 b.sh] 27 false))).put (we.next + 1) (some (.cells [.int .i64 0,.int .i64 0] 25 false)),we.next + 1 + 1,we.lim⟩:=⟨_,rfl⟩
 have u1:Up we w1:=by rw [hw1]; exact ((Up.refl we).add _).put (Nat.le_succ _) (Nat.le_succ _)
 have n1:w1.next=we.next + 1 + 1:=by rw [hw1]
 have l1:=u1.lim
 have g1:w1.heap.get (we.next + 1)=some (.cells [.int .i64 0,.int .i64 0] 25 false):=by rw [hw1]; simp
 have lw1:we.lim≤we.next + 1:=by omega
 have r60:=S60r.call (P:=Tryd.prog) h60 (m:=m + 1) (w:=w1) ⟨rv,dv,av,lv,r,d,b,acts,l,rfl,hrv.up u1,hdv.up u1,hav.up u1,hlv.up u1,hcap,rfl⟩
 by_cases hrd:rdE r d b acts l=0
 case neg =>
  rw [wei_err hrd]
  rw [hw1] at r60
  simp only [boxC] at r60 ⊢
  simp [mc24,cellsOf_agg,r60,hrd,lw1,tupV]
  refine ⟨⟨(0,0),rfl,fun _=>rfl,fun h=>absurd h hrd⟩,?_⟩
  exact (((Up.refl we).add _).put (Nat.le_succ _) (Nat.le_succ _)).put (Nat.le_succ _) (Nat.le_refl _)
 obtain ⟨hA,hRd⟩:=rdE_ok hrd
 obtain ⟨_,h14,hact⟩:=tru_ok hA
 have hLl:(lossL r acts).length=acts.length:=lossL_length r acts
 have hb:=(act_ofE hA).2.2.1
 have hlos:=los_ok hA
 obtain ⟨v65,w2,c65,⟨BW,rfl,gB,hB1,hB2⟩,u2⟩:=call65 (ov:=ov) m ho65 h87 r acts h14 hlos hact b hb l hRd rv av lv w1 (by omega) (hrv.up u1) (hav.up u1) (hlv.up u1)
 have hn2:=u2.next
 have hl2:=u2.lim
 have g2:w2.heap.get (we.next + 1)=some (.cells [.int .i64 0,.int .i64 0] 25 false):=by rw [u2.at (by omega)]; exact g1
 obtain ⟨hoi,hoV⟩:=ref_wei (l:=l) hb hlos (by omega)
 rw [wei_ref hrd]
 rw [hrd,hw1] at r60
 rw [hw1] at c65
 have lw2:w2.lim≤w2.next:=by omega
 have lw3:w2.lim≤we.next + 1:=by omega
 have e1:¬ we.next + 1=w2.next:=by omega
 have e2:¬ w2.next=we.next + 1:=by omega
 simp only [boxC,spC] at r60 c65 ⊢
 cases ho:okB b (lossL r acts) l with
 | false =>
  rw [ho] at c65
  simp [mc24,cellsOf_agg,r60,c65,lw2,lw3,g2,e1,e2,tupV]
  refine ⟨⟨(0,0),rfl,fun _=>rfl,fun h=>by cases h⟩,?_⟩
  exact (((u1.trans u2).add _).put (by omega) (Nat.le_refl _)).put (by omega) (Nat.le_refl _)
 | true =>
  rw [ho] at c65 hoi
  obtain ⟨V,hV⟩:=Option.isSome_iff_exists.1 hoi.symm
  have hs:=hoV V hV (acts.length + 1) (by omega)
  simp [mc24,cellsOf_agg,r60,c65,lw2,lw3,g2,e1,e2,tupV]
  refine ⟨⟨refB b (lossL r acts) l (acts.length + 1),rfl,fun h=>absurd rfl h,fun _=>⟨V,hV,by rw [hs,hLl]⟩⟩,?_⟩
  exact (((u1.trans u2).add _).put (by omega) (Nat.le_refl _)).put (by omega) (Nat.le_refl _)
end Go.Proofs.YtlkklcbjjompbaaDoor.walk
namespace Go.Proofs.YtlkklcbjjompbaaDoor.walk
open Go Go.Sh
set_option maxRecDepth 100000
set_option linter.unusedSimpArgs false
theorem moL_take (L V D:List Sp) {i:Nat} (h:i < L.length + 1):(moL L V D).take (i + 1)=(moL L V D).take i++[(moI (gtS D i).1 (gtS V (L.length + 1)).2,moI (gtS V i).2 (gtS V (L.length + 1)).1)]:=take_snoc (moL_at h)
set_option maxHeartbeats 4000000 in
theorem loop67 {ov:Ov} {Q:Ex→Tm→AW→Prop} (m:Nat) (h61:HasP ov 61 S61.F) (L V W D:List Sp) (hlen:L.length≤14) (hL:LosW (losL L)) (ok:WeiOk L V W) (dok:DryOk L V D) (BW BX C11:Nat) (f g:Nat→Sp) (hf:∀ k,k≤L.length→f k=gtS V k) (hg:∀ k,k≤L.length→g k=gtS D k) (w1:AW) (t:Tm) (hlim:w1.lim < w1.next)
  (gW:w1.heap.get BW=some (.cells (RowF L.length f) 25 false)) (gX:w1.heap.get BX=some (.cells (RowF L.length g) 25 false)) (g11:w1.heap.get C11=some (.cells [.int .i64 (gtS V (L.length + 1)).1,.int .i64 (gtS V (L.length + 1)).2] 25 false)) (b1:BW < w1.next) (b2:BX < w1.next) (b3:C11 < w1.next)
  (t10:tget t 10=.slice (some ⟨BW,0,none⟩) (L.length + 1) (L.length + 1)) (t11:tget t 11=.pointer (some ⟨C11,0,none⟩)) (t14:tget t 14=.slice (some ⟨BX,0,none⟩) (L.length + 1) (L.length + 1)) (t17:tget t 17=.slice none 0 0) (t18:tget t 18=.int .i64 0)
  (hQ:∀ t' w',Up w1 w'→AccR spC 25 (w1.next - 1) w' (tget t' 17) (moL L V D)→Q .normal t' w') :
  wp (exM Tryd.prog (run Tryd.prog ov (m + 1)) (.block 0 (.loop mc67_l0)) t w1) Q:=by
 refine wp_blockX (wp_rounds (fun i t' w'=>Up w1 w'∧AccR spC 25 (w1.next - 1) w' (tget t' 17) ((moL L V D).take i)∧tget t' 10=.slice (some ⟨BW,0,none⟩) (L.length + 1) (L.length + 1)∧tget t' 11=.pointer (some ⟨C11,0,none⟩)∧tget t' 14=.slice (some ⟨BX,0,none⟩) (L.length + 1) (L.length + 1)∧tget t' 18=.int .i64 ((i:Nat):Int)∧i≤L.length + 1) 30 (by decide) ⟨Up.refl _,by rw [t17]; simpa using AccR.nil,t10,t11,t14,t18,by omega⟩ ?_)
 rintro i t' w' ⟨hup,hacc,s10,s11,s14,s18,hi⟩
 have hnx:=hup.next
 have hlm:=hup.lim
 by_cases hlt:i < L.length + 1
 ·have hlt':(i:Int) < (L.length:Int) + 1:=by omega
  obtain ⟨cs,hcs⟩:∃ cs,cs=RowF L.length f:=⟨_,rfl⟩
  obtain ⟨ds,hds⟩:∃ ds,ds=RowF L.length g:=⟨_,rfl⟩
  have X:=rowX hcs (k:=i) (by omega)
  have Y:=rowX hds (k:=i) (by omega)
  rw [← hcs] at gW
  rw [← hds] at gX
  have kW:=(hup.at b1).trans gW
  have kX:=(hup.at b2).trans gX
  have k11:=(hup.at b3).trans g11
  obtain ⟨m1,m2⟩:=mo_fits hL ok dok (k:=i) (by omega)
  have o1:=X.hi
  have o2:=Y.lo
  rw [hf i (by omega)] at o1
  rw [hg i (by omega)] at o2
  have hia:=fun w=>ia43 w ⟨BW,0,none⟩ (L.length + 1) (L.length + 1) .i64 i hlt
  have hib:=fun w=>ia43 w ⟨BX,0,none⟩ (L.length + 1) (L.length + 1) .i64 i hlt
  have r61a:=fun w=>S61.call (P:=Tryd.prog) h61 (m:=m) (w:=w) ⟨_,_,rfl,m1,rfl⟩
  have r61b:=fun w=>S61.call (P:=Tryd.prog) h61 (m:=m) (w:=w) ⟨_,_,rfl,m2,rfl⟩
  have hw1:IntKind.wrap .i64 ((i:Int) + 1)=(i:Int) + 1:=wrap64_in (by omega) (by omega)
  obtain ⟨v',w2,ha,hacc',hk,hn2,hl2⟩:=AccR.push (P:=Tryd.prog) (st:=43) (sz:=2) list43 elem43 sz25 small25 spC_length (fun _=>rfl) (by decide) hacc (by omega) (by omega) (by rw [List.length_take]; omega) (moI (gtS D i).1 (gtS V (L.length + 1)).2,moI (gtS V i).2 (gtS V (L.length + 1)).1)
  rw [← moL_take L V D hlt] at hacc'
  simp only [spC] at ha
  simp [mc67_l0,s10,s11,s14,s18,hlt',hlt,hia,hib,kW,kX,k11,o1,o2,r61a,r61b,ha,hw1]
  exact ⟨by omega,⟨fun q hq=>by rw [hk q (by omega)]; exact hup.at hq,by omega,by omega⟩,hacc',by omega⟩
 ·have hi':i=L.length + 1:=by omega
  have hlt':¬ ((i:Nat):Int) < (L.length:Int) + 1:=by omega
  have hlt2:¬ i < L.length + 1:=hlt
  rw [hi',List.take_of_length_le (by simp)] at hacc
  simp [mc67_l0,s10,s18,hlt',hlt2]
  exact hQ _ _ hup (by simpa using hacc)
def AnsM (b:CBox) (L:List Sp) (l:List CRead) (w':AW) (v:Value):Prop :=
 if okB b L l=true then ∃ v1 V D,v=.tuple ⟨[v1,.bool true]⟩∧notJunk v1=some v1∧weighF b L l=some V∧dryF L V=some D∧RowsV spC w' v1 (moL L V D) else v=.tuple ⟨[.slice none 0 0,.bool false]⟩
set_option maxHeartbeats 8000000 in
theorem call67 {ov:Ov} (m:Nat) (ho:∀ args w,ov 67 args w=none) (ho65:∀ args w,ov 65 args w=none) (h61:HasP ov 61 S61.F) (h87:HasP ov 87 S87.F) (r:List CAct) (acts:List Int) (h14:acts.length≤14) (hlos:LosW (losL (lossL r acts))) (hact:∀ a ∈ acts,0≤a∧∃ x,r[a.toNat]?=some x) (b:CBox) (hb:boxB b=true) (l:List CRead) (hRd:rdsB (acts.length:Nat) l=true) (rv av lv:Value) (we:AW) (hlim:we.lim≤we.next) (hrv:RowsV actC we rv r) (hav:RowsV intC we av acts) (hlv:RowsV readC we lv l) :
  ∃ v w',(run Tryd.prog ov (m + 3)).call 67 [rv,.agg ⟨boxC b⟩,av,lv] we .none=.ok (.ret v) w' .none∧AnsM b (lossL r acts) l w' v∧Up we w':=by
 refine call_wp text67 (by simp) (ho _ _) ?_
 have nj:notJunk (.slice none 0 0)=some (.slice none 0 0):=rfl
 have hLl:(lossL r acts).length=acts.length:=lossL_length r acts
 obtain ⟨w1,hw1⟩:∃ w1:AW,w1=⟨we.heap.put we.next (some (.cells [.int .i64 b.wl,.int .i64 b.wh,.int .i64 b.sl,.int .i64 b.sh] 27 false)),we.next + 1,we.lim⟩:=⟨_,rfl⟩
 have u1:Up we w1:=by rw [hw1]; exact (Up.refl we).add _
 have n1:w1.next=we.next + 1:=by rw [hw1]
 have l1:=u1.lim
 have g1:w1.heap.get we.next=some (.cells [.int .i64 b.wl,.int .i64 b.wh,.int .i64 b.sl,.int .i64 b.sh] 27 false):=by rw [hw1]; simp
 obtain ⟨v65,w2,c65,⟨BW,rfl,gB,hB1,hB2⟩,u2⟩:=call65 (ov:=ov) m ho65 h87 r acts h14 hlos hact b hb l hRd rv av lv w1 (by omega) (hrv.up u1) (hav.up u1) (hlv.up u1)
 have hn2:=u2.next
 have hl2:=u2.lim
 have g2:=(u2.at (show we.next < w1.next by omega)).trans g1
 obtain ⟨hoi,hoV⟩:=ref_wei (l:=l) hb hlos (by omega)
 rw [hw1] at c65
 have lw2:w2.lim≤w2.next:=by omega
 have e1:¬ we.next=w2.next:=by omega
 have e2:¬ w2.next=we.next:=by omega
 simp only [boxC,spC] at c65 ⊢
 unfold AnsM
 cases ho:okB b (lossL r acts) l with
 | false =>
  rw [ho] at c65
  simp [mc67,cellsOf_agg,c65,lw2,nj,tupV]
  exact (((u1.trans u2).add _).put (by omega) (Nat.le_refl _))
 | true =>
  rw [ho] at c65 hoi
  obtain ⟨V,hV⟩:=Option.isSome_iff_exists.1 hoi.symm
  have wok:=weigh_ok hb hlos (by omega) hV
  obtain ⟨D,hD,dok⟩:=dry_ok hlos (by omega) wok
  obtain ⟨hb',D',hD',hDD⟩:=dry_box hb hlos (by omega) wok dok
  have hs:=hoV V hV (acts.length + 1) (by omega)
  rw [← hLl] at hs gB c65
  obtain ⟨L,hLe⟩:∃ L,L=lossL r acts:=⟨_,rfl⟩
  rw [← hLe] at hLl hlos gB c65 hs hoV hV wok hD dok hb' hD' hDD ⊢
  obtain ⟨s1,hs1⟩:∃ s,s=(gtS V (L.length + 1)).1:=⟨_,rfl⟩
  obtain ⟨s2,hs2⟩:∃ s,s=(gtS V (L.length + 1)).2:=⟨_,rfl⟩
  rw [hs,← hs1,← hs2] at c65
  obtain ⟨b',hbe⟩:∃ b':CBox,b'={ b with sl:=s2,sh:=s2 }:=⟨_,rfl⟩
  rw [← hs2,← hbe] at hb' hD'
  obtain ⟨w3,hw3⟩:∃ w3:AW,w3=⟨((((w2.heap.put w2.next (some (.cells [.int .i64 0,.int .i64 0] 25 false))).put w2.next (some (.cells [.int .i64 s1,.int .i64 s2] 25 false))).put (w2.next + 1) (some (.cells [.int .i64 0,.int .i64 0,.int .i64 0,.int .i64 0] 27 false))).put (w2.next + 1) (some (.cells [.int .i64 b.wl,.int .i64 b.wh,.int .i64 b.sl,.int .i64 b.sh] 27 false))).put (w2.next + 1) (some (.cells [.int .i64 b.wl,.int .i64 b.wh,.int .i64 s2,.int .i64 s2] 27 false)),w2.next + 1 + 1,w2.lim⟩:=⟨_,rfl⟩
  have u3:Up w2 w3:=by rw [hw3]; exact (((((Up.refl w2).add _).put (Nat.le_refl _) (Nat.le_succ _)).put (Nat.le_succ _) (Nat.le_refl _)).put (Nat.le_succ _) (Nat.le_refl _)).put (Nat.le_succ _) (Nat.le_refl _)
  have n3:w3.next=w2.next + 1 + 1:=by rw [hw3]
  have l3:=u3.lim
  have u13:=u1.trans (u2.trans u3)
  have g11:w3.heap.get w2.next=some (.cells [.int .i64 s1,.int .i64 s2] 25 false):=by rw [hw3]; simp
  obtain ⟨v4,w4,c65b,⟨BX,rfl,gX,hX1,hX2⟩,u4⟩:=call65 (ov:=ov) m ho65 h87 r acts h14 (by rw [← hLe]; exact hlos) hact b' hb' l hRd rv av lv w3 (by omega) (hrv.up u13) (hav.up u13) (hlv.up u13)
  rw [← hLe] at c65b gX
  rw [← hLl] at c65b gX
  have hn4:=u4.next
  have hl4:=u4.lim
  obtain ⟨hoi',hoV'⟩:=ref_wei (l:=l) hb' (L:=L) hlos (by omega)
  rw [hD'] at hoi'
  simp only [Option.isSome_some] at hoi'
  rw [hoi',hw3] at c65b
  have hfV:∀ k,k≤L.length→refB b L l k=gtS V k:=fun k hk=>hoV V hV k (by omega)
  have hgD:∀ k,k≤L.length→refB b' L l k=gtS D k:=fun k hk=>by rw [hoV' D' hD' k (by omega),hDD k (by omega)]
  obtain ⟨S4,hS4⟩:∃ S4,S4=refB b' L l (L.length + 1):=⟨_,rfl⟩
  rw [← hS4] at c65b
  have hbc:boxC b'=[.int .i64 b.wl,.int .i64 b.wh,.int .i64 s2,.int .i64 s2]:=by rw [hbe]; rfl
  rw [hbc] at c65b
  simp only [spC] at c65b
  have lw21:w2.lim≤w2.next + 1:=by omega
  have lw4:w4.lim≤w4.next:=by omega
  obtain ⟨w5,hw5⟩:∃ w5:AW,w5=⟨(w4.heap.put w4.next (some (.cells [.int .i64 0,.int .i64 0] 25 false))).put w4.next (some (.cells [.int .i64 S4.1,.int .i64 S4.2] 25 false)),w4.next + 1,w4.lim⟩:=⟨_,rfl⟩
  have u5:Up w4 w5:=by rw [hw5]; exact ((Up.refl w4).add _).put (Nat.le_refl _) (Nat.le_refl _)
  have n5:w5.next=w4.next + 1:=by rw [hw5]
  have l5:=u5.lim
  simp [mc67,cellsOf_agg,c65,lw2,lw21,g2,e1,e2,c65b,lw4]
  rw [← hw5]
  refine wp_seqX (loop67 (m + 1) h61 L V (iniW b L l) D (by omega) hlos wok dok BW BX w2.next (refB b L l) (refB b' L l) hfV hgD w5 _ (by omega) (((u3.trans u4).trans u5).at hB2 |>.trans gB) ((u5.at hX2).trans gX) ?_ (by omega) (by omega) (by omega) (by simp) (by simp) (by simp) (by simp) (by simp) ?_)
  ·rw [← hs1,← hs2]
   exact ((u4.trans u5).at (by omega)).trans g11
  intro t' w' hup hacc
  have nja:=hacc.ok
  simp [nja,tupV]
  exact ⟨⟨V,hV,D,hD,hacc.rows⟩,(((u13.trans u4).trans u5).trans hup)⟩
set_option maxHeartbeats 2000000 in
theorem call26 {ov:Ov} (m:Nat) (ho:∀ args w,ov 26 args w=none) (ho65:∀ args w,ov 65 args w=none) (ho67:∀ args w,ov 67 args w=none) (h60:HasP ov 60 S60r.F) (h61:HasP ov 61 S61.F) (h87:HasP ov 87 S87.F) (r:List CAct) (d:List CDay) (b:CBox) (acts:List Int) (l:List CRead) (rv dv av lv:Value) (we:AW) (hlim:we.lim≤we.next) (hrv:RowsV actC we rv r) (hdv:RowsV cdayC we dv d) (hav:RowsV intC we av acts) (hcap:CapV av) (hlv:RowsV readC we lv l) :
  ∃ v w',(run Tryd.prog ov (m + 4)).call 26 [rv,dv,.agg ⟨boxC b⟩,av,lv] we .none=.ok (.ret v) w' .none∧(∃ v1,v=.tuple ⟨[v1,.int .i64 (weiE r d b acts l)]⟩∧(weiE r d b acts l ≠ 0→v1=.slice none 0 0)∧(weiE r d b acts l=0→∃ V D,weighF b (lossL r acts) l=some V∧dryF (lossL r acts) V=some D∧RowsV spC w' v1 (moL (lossL r acts) V D)))∧Up we w':=by
 refine call_wp text26 (by simp) (ho _ _) ?_
 have nj:notJunk (.slice none 0 0)=some (.slice none 0 0):=rfl
 obtain ⟨w1,hw1⟩:∃ w1:AW,w1=⟨we.heap.put we.next (some (.cells [.int .i64 b.wl,.int .i64 b.wh,.int .i64 b.sl,.int .i64 b.sh] 27 false)),we.next + 1,we.lim⟩:=⟨_,rfl⟩
 have u1:Up we w1:=by rw [hw1]; exact (Up.refl we).add _
 have n1:w1.next=we.next + 1:=by rw [hw1]
 have l1:=u1.lim
 have r60:=S60r.call (P:=Tryd.prog) h60 (m:=m + 2) (w:=w1) ⟨rv,dv,av,lv,r,d,b,acts,l,rfl,hrv.up u1,hdv.up u1,hav.up u1,hlv.up u1,hcap,rfl⟩
 by_cases hrd:rdE r d b acts l=0
 case neg =>
  rw [wei_err hrd]
  rw [hw1] at r60
  simp only [boxC] at r60 ⊢
  simp [mc26,cellsOf_agg,r60,hrd,nj,tupV]
  rw [← hw1]; exact u1
 obtain ⟨hA,hRd⟩:=rdE_ok hrd
 obtain ⟨_,h14,hact⟩:=tru_ok hA
 have hb:=(act_ofE hA).2.2.1
 have hlos:=los_ok hA
 obtain ⟨v67,w2,c67,hans,u2⟩:=call67 (ov:=ov) m ho67 ho65 h61 h87 r acts h14 hlos hact b hb l hRd rv av lv w1 (by omega) (hrv.up u1) (hav.up u1) (hlv.up u1)
 rw [wei_ref hrd]
 rw [hrd,hw1] at r60
 rw [hw1] at c67
 simp only [boxC] at r60 c67 ⊢
 unfold AnsM at hans
 cases ho:okB b (lossL r acts) l with
 | false =>
  rw [ho,if_neg (by decide)] at hans
  subst hans
  simp [mc26,cellsOf_agg,r60,c67,nj,tupV]
  exact u1.trans u2
 | true =>
  rw [ho,if_pos rfl] at hans
  obtain ⟨v1,V,D,rfl,nj1,hV,hD,hrow⟩:=hans
  simp [mc26,cellsOf_agg,r60,c67,nj1,tupV]
  exact ⟨⟨V,hV,D,hD,hrow⟩,u1.trans u2⟩
def S22:PSpec where
 R args w v:=∃ (a b:Value) (L:List Sp),args=[a,b]∧RowsV spC w a L∧RowsV spC w b L∧L.length≤1000∧v=.bool true
 uniq:=by rintro _ _ _ _ ⟨_,_,_,rfl,_,_,_,rfl⟩ ⟨_,_,_,_,_,_,_,rfl⟩; rfl
 shut h:=h
theorem run22 {ov:Ov} (ho:∀ args w,ov 22 args w=none) (L:List Sp) (hlen:L.length≤1000) (u v:Value) (w:AW) (hu:RowsV spC w u L) (hv:RowsV spC w v L):∃ y w',(run Tryd.prog ov 2).call 22 [u,v] w .none=.ok (.ret y) w' .none∧y=.bool true:=by
 refine call_wp text22 (by simp) (ho _ _) ?_
 have h1:=fun w2=>len43V (w':=w2) hu
 have h2:=fun w2=>len43V (w':=w2) hv
 simp [mc22,h1,h2]
 refine wp_seqX (wp_blockX (wp_rounds (fun i t w'=>w'=w∧tget t 0=u∧tget t 1=v∧tget t 5=.bool true∧tget t 6=.int .i64 ((i:Nat):Int)∧i≤L.length) 2000 (by decide) ⟨rfl,by simp,by simp,by simp,by simp,Nat.zero_le _⟩ ?_))
 rintro i t w' ⟨rfl,t0,t1,t5,t6,hi⟩
 by_cases hlt:i < L.length
 ·obtain ⟨z,hz⟩:∃ p,L[i]?=some p:=⟨_,List.getElem?_eq_getElem hlt⟩
  obtain ⟨bb,off,sq,c,rfl,hra⟩:=hu.at_ i hlt
  obtain ⟨bb2,off2,sq2,c2,rfl,hrb⟩:=hv.at_ i hlt
  have hld:=hra.rd (m:=2) spC_length hz
  have hlb:=hrb.rd (m:=2) spC_length hz
  simp only [spC] at hld hlb
  have hia:=fun w=>ia43 w ⟨bb,off,sq⟩ L.length c .i64 i hlt
  have hib:=fun w=>ia43 w ⟨bb2,off2,sq2⟩ L.length c2 .i64 i hlt
  have hw1:IntKind.wrap .i64 ((i:Int) + 1)=(i:Int) + 1:=wrap64_in (by omega) (by omega)
  simp [mc22_l0,t0,t1,t5,t6,h1,hlt,hia,hib,hld,hlb,hw1]
  exact ⟨by omega,hlt⟩
 ·have:i=L.length:=by omega
  subst this
  simp [mc22_l0,t0,t5,t6,h1,tupV]
end Go.Proofs.YtlkklcbjjompbaaDoor.walk
namespace Go.Proofs.YtlkklcbjjompbaaDoor.walk
open Go Go.Sh
set_option maxRecDepth 100000
theorem lexL_trans:∀ {a b c:List Int},lexL a b=true→lexL b c=true→lexL a c=true
 | [],[],_,h,_=>by simp [lexL] at h
 | [],_::_,[],_,h=>by simp [lexL] at h
 | [],_::_,_::_,_,_=>rfl
 | _::_,[],_,h,_=>by simp [lexL] at h
 | _::_,_::_,[],_,h=>by simp [lexL] at h
 | x::a,y::b,z::c,h,k=>by
  simp only [lexL] at h k ⊢
  by_cases e1:x=y
  ·subst e1
   rw [if_pos rfl] at h
   by_cases e2:x=z
   ·subst e2
    rw [if_pos rfl] at k ⊢
    exact lexL_trans h k
   ·rw [if_neg e2] at k ⊢; exact k
  ·rw [if_neg e1] at h
   have h:=of_decide_eq_true h
   by_cases e2:y=z
   ·subst e2
    rw [if_neg e1]; exact decide_eq_true h
   ·rw [if_neg e2] at k
    have k:=of_decide_eq_true k
    rw [if_neg (by omega)]; exact decide_eq_true (by omega)
theorem lexL_tot:∀ {a b:List Int},a.length=b.length→lexL a b=false→lexL b a=false→a=b
 | [],[],_,_,_=>rfl
 | [],_::_,h,_,_=>by simp at h
 | _::_,[],h,_,_=>by simp at h
 | x::a,y::b,h,k1,k2=>by
  simp only [lexL] at k1 k2
  by_cases e:x=y
  ·subst e
   rw [if_pos rfl] at k1 k2
   rw [lexL_tot (by simpa using h) k1 k2]
  ·rw [if_neg e] at k1
   rw [if_neg (fun q=>e q.symm)] at k2
   have k1:=of_decide_eq_false k1
   have k2:=of_decide_eq_false k2
   omega
def worseB (p:Option (List Int)) (O:List Int):Bool:=match p with | some B=>decide (B.length < O.length) || (decide (O.length=B.length) && !lexL O B) | none=>false
def stepB (ok:List Int→Bool) (p:Option (List Int)) (O:List Int):Option (List Int):=if worseB p O=true then p else if ok O=true then some O else p
def bestS (ok:List Int→Bool) (n:Nat):Nat→Option (List Int)
 | 0=>none
 | i + 1=>stepB ok (bestS ok n i) (othL (i:Nat) n)
def BestI (ok:List Int→Bool) (n i:Nat) (p:Option (List Int)):Prop:=match p with
 | none=>∀ j:Nat,j < i→ok (othL (j:Nat) n)=false
 | some B=>ok B=true∧incF n 0 B∧∀ j:Nat,j < i→ok (othL (j:Nat) n)=true→B.length < (othL (j:Nat) n).length∨((othL (j:Nat) n).length=B.length∧lexL (othL (j:Nat) n) B=false)
theorem lexL_self:∀ a:List Int,lexL a a=false
 | []=>rfl
 | x::a=>by simp only [lexL,if_true]; exact lexL_self a
theorem best_inv (ok:List Int→Bool) (n:Nat):∀ i:Nat,BestI ok n i (bestS ok n i)
 | 0=>fun j h=>by omega
 | i + 1=>by
  have ih:=best_inv ok n i
  show BestI ok n (i + 1) (stepB ok (bestS ok n i) (othL (i:Nat) n))
  cases hp:bestS ok n i with
  | none =>
   rw [hp] at ih
   unfold stepB worseB
   rw [if_neg (by simp)]
   by_cases ho:ok (othL (i:Nat) n)=true
   ·rw [if_pos ho]
    refine ⟨ho,othL_inc _ _,fun j hj hoj=>?_⟩
    by_cases e:j=i
    ·subst e; exact .inr ⟨rfl,lexL_self _⟩
    ·have:=ih j (by omega); rw [hoj] at this; cases this
   ·rw [if_neg ho]
    intro j hj
    by_cases e:j=i
    ·subst e; simpa using ho
    ·exact ih j (by omega)
  | some B =>
   rw [hp] at ih
   obtain ⟨h1,h2,h3⟩:=ih
   unfold stepB
   by_cases hw:worseB (some B) (othL (i:Nat) n)=true
   ·rw [if_pos hw]
    refine ⟨h1,h2,fun j hj hoj=>?_⟩
    by_cases e:j=i
    ·subst e
     simp only [worseB,Bool.or_eq_true,Bool.and_eq_true,decide_eq_true_eq,Bool.not_eq_true'] at hw
     exact hw
    ·exact h3 j (by omega) hoj
   ·rw [if_neg hw]
    by_cases ho:ok (othL (i:Nat) n)=true
    ·rw [if_pos ho]
     have hb:(othL (i:Nat) n).length < B.length∨((othL (i:Nat) n).length=B.length∧lexL (othL (i:Nat) n) B=true):=by
      simp only [worseB,Bool.or_eq_true,Bool.and_eq_true,decide_eq_true_eq,Bool.not_eq_true',not_or,not_and,Bool.not_eq_false] at hw
      by_cases e:(othL (i:Nat) n).length=B.length
      ·exact .inr ⟨e,hw.2 e⟩
      ·exact .inl (by omega)
     refine ⟨ho,othL_inc _ _,fun j hj hoj=>?_⟩
     by_cases e:j=i
     ·subst e; exact .inr ⟨rfl,lexL_self _⟩
     ·rcases h3 j (by omega) hoj with q | ⟨q1,q2⟩
      ·exact .inl (by rcases hb with q' | ⟨q',_⟩ <;> omega)
      ·rcases hb with q' | ⟨q',q''⟩
       ·exact .inl (by omega)
       ·refine .inr ⟨by omega,?_⟩
        rw [← Bool.not_eq_true]
        intro hx
        have:=lexL_trans hx q''
        rw [q2] at this; cases this
    ·rw [if_neg ho]
     refine ⟨h1,h2,fun j hj hoj=>?_⟩
     by_cases e:j=i
     ·subst e; exact absurd hoj ho
     ·exact h3 j (by omega) hoj
def codeN (s:List Int):Nat→Nat
 | 0=>0
 | n + 1=>codeN s n + if (n:Int) ∈ s then 2 ^ n else 0
theorem codeN_lt (s:List Int):∀ n:Nat,codeN s n < 2 ^ n
 | 0=>by simp [codeN]
 | n + 1=>by
  have:=codeN_lt s n
  simp only [codeN,Nat.pow_succ]
  split <;> omega
theorem codeN_bit (s:List Int):∀ (n k:Nat),k < n→(codeN s n).testBit k=decide ((k:Int) ∈ s)
 | 0,k,h=>by omega
 | n + 1,k,h=>by
  have hlt:=codeN_lt s n
  simp only [codeN]
  by_cases e:k=n
  ·subst e
   by_cases hm:(k:Int) ∈ s
   ·rw [if_pos hm,Nat.add_comm,Nat.testBit_two_pow_add_eq,Nat.testBit_lt_two_pow hlt]
    simp [hm]
   ·rw [if_neg hm,Nat.add_zero,Nat.testBit_lt_two_pow hlt]
    simp [hm]
  ·have ih:=codeN_bit s n k (by omega)
   split
   ·rw [Nat.add_comm,Nat.testBit_two_pow_add_gt (by omega),ih]
   ·rw [Nat.add_zero,ih]
theorem bitB_nat {x k:Nat} (hx:x < 2 ^ 20) (hk:k≤20):bitB (x:Int) (k:Int)=x.testBit k:=by
 have h1:shV (x:Int) (k:Int)=((x / 2 ^ k:Nat):Int):=by
  unfold shV
  rw [show min (k:Int).toNat IntKind.i64.bits=k by show min _ 64=k; omega]
  rw [show ((2:Int) ^ k)=((2 ^ k:Nat):Int) by simp]
  rw [← Int.ofNat_fdiv]
 have hd:x / 2 ^ k < 2 ^ 20:=Nat.lt_of_le_of_lt (Nat.div_le_self _ _) hx
 have h2:anV ((x / 2 ^ k:Nat):Int) 1=((x / 2 ^ k % 2:Nat):Int):=by
  unfold anV
  rw [wrapA_eq]
  have:(BitVec.ofInt IntKind.i64.bits ((x / 2 ^ k:Nat):Int) &&& BitVec.ofInt IntKind.i64.bits 1).toNat=x / 2 ^ k % 2:=by
   show (BitVec.ofInt 64 ((x / 2 ^ k:Nat):Int) &&& BitVec.ofInt 64 1).toNat=_
   rw [BitVec.toNat_and]
   rw [BitVec.ofInt_natCast,BitVec.toNat_ofNat,Nat.mod_eq_of_lt (by omega)]
   show x / 2 ^ k &&& 1=_
   rw [Nat.and_one_is_mod]
  rw [this]
  exact wrap64_in (by omega) (by omega)
 unfold bitB
 rw [h1,h2,Nat.testBit_eq_decide_div_mod_eq]
 have:((x / 2 ^ k % 2:Nat):Int)=1 ↔ x / 2 ^ k % 2=1:=by omega
 rw [decide_eq_decide]
 exact this
theorem incF_ext {n:Nat}:∀ {a b:List Int} {f:Nat},incF n f a→incF n f b→(∀ x,x ∈ a ↔ x ∈ b)→a=b
 | [],[],_,_,_,_=>rfl
 | [],y::b,_,_,_,h=>absurd ((h y).2 List.mem_cons_self) (by simp)
 | x::a,[],_,_,_,h=>absurd ((h x).1 List.mem_cons_self) (by simp)
 | x::a,y::b,f,⟨i,ei,h2,h3,h4⟩,⟨j,ej,k2,k3,k4⟩,h=>by
  subst ei ej
  have low:∀ {l:List Int} {f:Nat} {z:Int},incF n f l→z ∈ l→(f:Int)≤z:=fun {l f z} hl hz=>by
   obtain ⟨q,hq⟩:=List.getElem?_of_mem hz
   exact (incF_at hl hq).1
  have e:i=j:=by
   rcases List.mem_cons.1 ((h i).1 List.mem_cons_self) with e | e
   ·omega
   ·have:=low k4 e
    rcases List.mem_cons.1 ((h j).2 List.mem_cons_self) with e' | e'
    ·omega
    ·have:=low h4 e'; omega
  subst e
  rw [incF_ext h4 k4 fun x=>?_]
  constructor
  ·intro hx
   rcases List.mem_cons.1 ((h x).1 (List.mem_cons_of_mem _ hx)) with e | e
   ·have:=low h4 hx; omega
   ·exact e
  ·intro hx
   rcases List.mem_cons.1 ((h x).2 (List.mem_cons_of_mem _ hx)) with e | e
   ·have:=low k4 hx; omega
   ·exact e
theorem incF_code {n:Nat} (hn:n≤10) {s:List Int} (h:incF n 0 s):∃ j:Nat,j < 2 ^ n∧othL (j:Nat) n=s:=by
 refine ⟨codeN s n,codeN_lt s n,incF_ext (othL_inc _ _) h fun x=>?_⟩
 have hlt:codeN s n < 2 ^ 20:=Nat.lt_of_lt_of_le (codeN_lt s n) (Nat.pow_le_pow_right (by decide) (by omega))
 constructor
 ·intro hx
  obtain ⟨q,hq⟩:=List.getElem?_of_mem hx
  have:=incF_at (othL_inc ((codeN s n:Nat):Int) n) hq
  obtain ⟨k,rfl⟩:∃ k:Nat,x=(k:Int):=⟨x.toNat,by omega⟩
  obtain ⟨h1,h2⟩:=othL_mem.1 hx
  rw [bitB_nat hlt (by omega),codeN_bit s n k h1] at h2
  exact of_decide_eq_true h2
 ·intro hx
  obtain ⟨q,hq⟩:=List.getElem?_of_mem hx
  have:=incF_at h hq
  obtain ⟨k,rfl⟩:∃ k:Nat,x=(k:Int):=⟨x.toNat,by omega⟩
  refine othL_mem.2 ⟨by omega,?_⟩
  rw [bitB_nat hlt (by omega),codeN_bit s n k (by omega)]
  exact decide_eq_true hx
theorem best_odd {ok:List Int→Bool} {n:Nat} (hn:n≤10):bestS ok n (2 ^ n)=oddF ok n:=by
 have hI:=best_inv ok n (2 ^ n)
 cases hb:bestS ok n (2 ^ n) with
 | none =>
  rw [hb] at hI
  cases ho:oddF ok n with
  | none=>rfl
  | some r =>
   obtain ⟨h1,h2,_⟩:=odd_some ho
   obtain ⟨j,hj,rfl⟩:=incF_code hn h1
   have:=hI j hj
   rw [h2] at this; cases this
 | some B =>
  rw [hb] at hI
  obtain ⟨h1,h2,h3⟩:=hI
  cases ho:oddF ok n with
  | none=>have:=odd_none ho h2; rw [h1] at this; cases this
  | some r =>
   obtain ⟨k1,k2,k3⟩:=odd_some ho
   obtain ⟨m1,m2⟩:=k3 B h2 h1
   obtain ⟨j,hj,he⟩:=incF_code hn k1
   have:=h3 j hj (by rw [he]; exact k2)
   rw [he] at this
   rcases this with q | ⟨q1,q2⟩
   ·omega
   ·rw [lexL_tot q1.symm (m2 q1.symm) q2]
end Go.Proofs.YtlkklcbjjompbaaDoor.walk
namespace Go.Proofs.YtlkklcbjjompbaaDoor.walk
open Go Go.Sh
set_option maxRecDepth 100000
set_option linter.unusedSimpArgs false
theorem shl_ten {w:AW} {P:Program} (s:TypeId) (c:Bool) (n:Nat) (h:n≤10):(binW P .shl s c).val (.int .i64 1) (.int .i64 (n:Int)) w=.val (.int .i64 ((2 ^ n:Nat):Int)) w:=by
 show vR w (shiftV shlA (.int .i64 1) (.int .i64 (n:Int)))=_
 have h0:¬ (n:Int) < 0:=by omega
 have e:wrapA .i64 (1 * 2 ^ (min (n:Int).toNat IntKind.i64.bits))=((2 ^ n:Nat):Int):=by
  rcases n with _ | _ | _ | _ | _ | _ | _ | _ | _ | _ | _ | n
  all_goals first | decide | omega
 simp only [shiftV,shlA,intLt_eq,decide_eq_false h0,cond_false,vR]
 rw [e]
set_option maxHeartbeats 2000000 in
theorem loop28b {ov:Ov} {Q:Ex→Tm→AW→Prop} (m:Nat) (h46:HasP ov 46 S46.F) (l:List CRead) (hl10:l.length≤10) (s:Int) (lv:Value) (we:AW) (hlim:we.lim < we.next) (hlv:RowsV readC we lv l) (t:Tm)
  (t4:tget t 4=lv) (t15:tget t 15=.int .i64 s) (t16:tget t 16=.slice none 0 0) (t17:tget t 17=.slice none 0 0) (t18:tget t 18=.int .i64 0)
  (hQ:∀ t' w' v16 v17,Tri we w' (we.next - 1) v16 (.slice none 0 0) v17 (othL s l.length) [] (woL l (othL s l.length) 0)→tget t' 16=v16→tget t' 17=v17→(∀ d,d < 16→tget t' d=tget t d)→Q .normal t' w') :
  wp (exM Tryd.prog (run Tryd.prog ov (m + 1)) (.block 2 (.loop mc28_l1)) t we) Q:=by
 obtain ⟨OT,hOT⟩:∃ OT,OT=othL s l.length:=⟨_,rfl⟩
 rw [← hOT] at hQ
 have hl42:=fun w2=>len42V (w':=w2) hlv
 refine wp_blockX (wp_rounds (fun i t' w'=>Tri we w' (we.next - 1) (tget t' 16) (.slice none 0 0) (tget t' 17) (othL s i) [] (woL (l.take i) OT 0)∧tget t' 18=.int .i64 ((i:Nat):Int)∧i≤l.length∧(∀ d,d < 16→tget t' d=tget t d)) 20 (by decide) ⟨⟨fun _ _=>rfl,by omega,rfl,0,0,0,by rw [t16]; exact .nil,.nil,by rw [t17]; simpa [woL] using AccQ.nil,.inl rfl,.inl rfl,.inl rfl⟩,t18,Nat.zero_le _,fun _ _=>rfl⟩ ?_)
 rintro i t' w' ⟨hT,s18,hi,hold⟩
 have s4:tget t' 4=lv:=(hold 4 (by decide)).trans t4
 have s15:tget t' 15=.int .i64 s:=(hold 15 (by decide)).trans t15
 have hnx:=hT.next
 have hlm:=hT.lim
 have hne:∀ d,d < 16→∀ k,16≤k→¬ d=k:=fun d hd k hk=>by omega
 by_cases hlt:i < l.length
 ·obtain ⟨p,hp⟩:∃ p,l[i]?=some p:=⟨_,List.getElem?_eq_getElem hlt⟩
  have hold':Old we.next we.heap w'.heap:=fun x hx=>hT.up x (by omega)
  have hwi:IntKind.wrap .i64 ((i:Int) + 1)=(i:Int) + 1:=wrap64_in (by omega) (by omega)
  have hf2:=woL_snoc p OT (l.take i) 0
  rw [← take_snoc hp,List.length_take,Nat.min_eq_left hi,Nat.zero_add] at hf2
  have hOTi:((i:Int) ∈ OT) ↔ bitB s i=true:=by rw [hOT,othL_mem]; exact ⟨fun h=>h.2,fun h=>⟨hlt,h⟩⟩
  have hf3:=othL_snoc s i
  have hL2:=woL_len OT (l.take i) 0
  have hL3:=othL_len s i
  rw [List.length_take] at hL2
  have r46:=fun w=>S46.call (P:=Tryd.prog) h46 (m:=m) (w:=w) ⟨s,(i:Int),rfl,by omega,rfl⟩
  obtain ⟨b,off,sq,c,rfl,hra⟩:=hlv.at_ i hlt
  have hia:=fun w=>ia42 w ⟨b,off,sq⟩ l.length c .i64 i hlt
  have hld:=hra.rd (m:=3) readC_length hp
  rw [← hold' b hra.2] at hld
  simp only [readC] at hld
  have lw:w'.lim≤w'.next:=by omega
  by_cases eb:bitB s (i:Int)=true
  ·rw [if_pos eb] at hf3
   rw [if_pos (hOTi.2 eb),List.append_nil] at hf2
   obtain ⟨v3,w3,ha3,hT3⟩:=hT.push11 (by omega) (by omega) (i:Int)
   rw [← hf3,← hf2] at hT3
   simp [mc28_l1,s18,s4,s15,hl42,hlt,r46,eb,ha3,hwi]
   exact ⟨by omega,hT3,hlt,fun d hd=>by have:=hne d hd; simp [this,hold d hd]⟩
  ·have eb':bitB s (i:Int)=false:=by simpa using eb
   rw [if_neg eb,List.append_nil] at hf3
   rw [if_neg (fun h=>eb (hOTi.1 h))] at hf2
   obtain ⟨v3,w3,ha3,hT3⟩:=hT.push13 (by omega) (by omega) p
   rw [← hf3,← hf2] at hT3
   simp only [readC] at ha3
   simp [mc28_l1,s18,s4,s15,hl42,hlt,r46,eb',hia,hld,lw,ha3,hwi]
   exact ⟨by omega,hT3,hlt,fun d hd=>by have:=hne d hd; simp [this,hold d hd]⟩
 ·have hi':i=l.length:=by omega
  subst hi'
  rw [List.take_length] at hT
  rw [← hOT] at hT
  simp [mc28_l1,s18,s4,hl42]
  exact hQ _ _ _ _ hT (by simp) (by simp) fun d hd=>by have:=hne d hd; simp [this,hold d hd]
def BestV (w:AW) (f v:Value) (p:Option (List Int)):Prop:=match p with
 | none=>f=.bool false∧v=.slice none 0 0
 | some B=>f=.bool true∧RowsV intC w v B∧notJunk v=some v∧B.length≤10
theorem BestV.up {w w':AW} {f v:Value} {p:Option (List Int)} (h:BestV w f v p) (k:Up w w'):BestV w' f v p:=by
 cases p with
 | none=>exact h
 | some B=>exact ⟨h.1,h.2.1.up k,h.2.2⟩
def AnsO (ok:List Int→Bool) (n:Nat) (e:Int) (w':AW) (v:Value):Prop:=∃ v1,v=.tuple ⟨[v1,.int .i64 (if e=0 then (match oddF ok n with | some _=>0 | none=>65) else e)]⟩∧(∀ o,e=0→oddF ok n=some o→RowsV intC w' v1 o)∧((e ≠ 0∨oddF ok n=none)→v1=.slice none 0 0)
set_option maxHeartbeats 8000000 in
theorem call28 {ov:Ov} (m:Nat) (ho:∀ args w,ov 28 args w=none) (ho65:∀ args w,ov 65 args w=none) (h43:HasP ov 43 S43.F) (h46:HasP ov 46 S46.F) (h60:HasP ov 60 S60r.F) (h87:HasP ov 87 S87.F) (r:List CAct) (d:List CDay) (b:CBox) (acts:List Int) (l:List CRead) (rv dv av lv:Value) (we:AW) (hlim:we.lim≤we.next) (hrv:RowsV actC we rv r) (hdv:RowsV cdayC we dv d) (hav:RowsV intC we av acts) (hcap:CapV av) (hlv:RowsV readC we lv l) :
  ∃ v w',(run Tryd.prog ov (m + 3)).call 28 [rv,dv,.agg ⟨boxC b⟩,av,lv] we .none=.ok (.ret v) w' .none∧AnsO (okW b (lossL r acts) l) l.length (rdE r d b acts l) w' v∧Up we w':=by
 refine call_wp text28 (by simp) (ho _ _) ?_
 have nj:notJunk (.slice none 0 0)=some (.slice none 0 0):=rfl
 obtain ⟨w1,hw1⟩:∃ w1:AW,w1=⟨we.heap.put we.next (some (.cells [.int .i64 b.wl,.int .i64 b.wh,.int .i64 b.sl,.int .i64 b.sh] 27 false)),we.next + 1,we.lim⟩:=⟨_,rfl⟩
 have u1:Up we w1:=by rw [hw1]; exact (Up.refl we).add _
 have n1:w1.next=we.next + 1:=by rw [hw1]
 have l1:=u1.lim
 have g1:w1.heap.get we.next=some (.cells [.int .i64 b.wl,.int .i64 b.wh,.int .i64 b.sl,.int .i64 b.sh] 27 false):=by rw [hw1]; simp
 have r60:=S60r.call (P:=Tryd.prog) h60 (m:=m + 1) (w:=w1) ⟨rv,dv,av,lv,r,d,b,acts,l,rfl,hrv.up u1,hdv.up u1,hav.up u1,hlv.up u1,hcap,rfl⟩
 by_cases hrd:rdE r d b acts l=0
 case neg =>
  rw [hw1] at r60
  simp only [boxC] at r60 ⊢
  simp [mc28,cellsOf_agg,r60,hrd,nj,tupV]
  rw [← hw1]
  exact ⟨⟨_,by rw [if_neg hrd],fun _ h=>absurd h hrd,fun _=>rfl⟩,u1⟩
 obtain ⟨hA,hRd⟩:=rdE_ok hrd
 obtain ⟨_,h14,hact⟩:=tru_ok hA
 have hb:=(act_ofE hA).2.2.1
 have hlos:=los_ok hA
 obtain ⟨hl10,_⟩:=rds_ok hRd
 have hl42:=fun w2=>len42V (w':=w2) hlv
 obtain ⟨ok,hok⟩:∃ ok,ok=okW b (lossL r acts) l:=⟨_,rfl⟩
 rw [hrd,hw1] at r60
 rw [hrd,← hok]
 simp only [boxC] at r60 ⊢
 simp [mc28,cellsOf_agg,r60]
 rw [← hw1]
 obtain ⟨N,hN⟩:∃ N,N=2 ^ l.length:=⟨_,rfl⟩
 have hNle:N≤1024:=by rw [hN]; exact Nat.pow_le_pow_right (by decide) hl10
 have hshl:=fun (w:AW) s c=>shl_ten (P:=Tryd.prog) (w:=w) s c l.length hl10
 rw [← hN] at hshl
 have hbest:=best_odd (ok:=ok) hl10
 rw [← hN] at hbest
 refine wp_seqX (wp_blockX (wp_rounds (fun i t w'=>Up w1 w'∧BestV w' (tget t 14) (tget t 13) (bestS ok l.length i)∧tget t 0=rv∧tget t 3=av∧tget t 4=lv∧tget t 7=.pointer (some ⟨we.next,0,none⟩)∧tget t 15=.int .i64 ((i:Nat):Int)∧i≤N) 1100 (by decide) ⟨Up.refl _,⟨by simp,by simp⟩,by simp,by simp,by simp,by simp,by simp,Nat.zero_le _⟩ ?_))
 rintro i t w' ⟨hup,hB,t0,t3,t4,t7,t15,hi⟩
 have hnx:=hup.next
 have hlm:=hup.lim
 by_cases hlt:i < N
 ·have hwi:IntKind.wrap .i64 ((i:Int) + 1)=(i:Int) + 1:=wrap64_in (by omega) (by omega)
  have hlt':(i:Int) < (N:Int):=by omega
  simp [mc28_l0,t4,t15,hl42,hshl,hlt,hlt']
  refine wp_seqX (wp_blockX (wp_seqX ?_))
  refine (loop28b (m + 1) h46 l hl10 (i:Nat) lv w' (by omega) (hlv.up (u1.trans hup)) _ (by simp [t4]) (by simp [t15]) (by simp) (by simp) (by simp) ?_)
  intro t' w2 v16 v17 hT k16 k17 kold
  have s0:tget t' 0=rv:=by rw [kold 0 (by decide)]; simp [t0]
  have s3:tget t' 3=av:=by rw [kold 3 (by decide)]; simp [t3]
  have s4:tget t' 4=lv:=by rw [kold 4 (by decide)]; simp [t4]
  have s7:tget t' 7=.pointer (some ⟨we.next,0,none⟩):=by rw [kold 7 (by decide)]; simp [t7]
  have s13:tget t' 13=tget t 13:=by rw [kold 13 (by decide)]; simp
  have s14:tget t' 14=tget t 14:=by rw [kold 14 (by decide)]; simp
  have s15:tget t' 15=.int .i64 ((i:Nat):Int):=by rw [kold 15 (by decide)]; simp [t15]
  obtain ⟨O,hO⟩:∃ O,O=othL (i:Nat) l.length:=⟨_,rfl⟩
  rw [← hO] at hT
  have hOl:O.length≤10:=by have:=othL_len ((i:Nat):Int) l.length; rw [hO]; omega
  have hTn:=hT.next
  have hTl:=hT.lim
  have u2:Up w' w2:=⟨fun x hx=>hT.up x (by omega),by omega,hTl⟩
  have hup2:=hup.trans u2
  obtain ⟨B1,B2,B3,a1,a2,a3,_⟩:=hT.rows
  have hB2:=hB.up u2
  have hr16:RowsV intC w2 v16 O:=a1.rows
  have hl16:=fun w3=>len28V (w':=w3) hr16
  have g2:w2.heap.get we.next=_:=(hup2.at (by omega)).trans g1
  obtain ⟨v65,w3,c65,⟨BW,rfl,_,_,_⟩,u3⟩:=call65 (ov:=ov) m ho65 h87 r acts h14 hlos hact b hb (woL l O 0) (rds_wo hRd O) rv av v17 w2 (by omega) (hrv.up (u1.trans hup2)) (hav.up (u1.trans hup2)) a3.rows
  have hokO:okB b (lossL r acts) (woL l O 0)=ok O:=by
   rw [(ref_wei (l:=woL l O 0) hb hlos (by rw [lossL_length]; exact h14)).1,hok]; rfl
  rw [hokO] at c65
  have hn3:=u3.next
  have hl3:=u3.lim
  have lw3:w3.lim≤w3.next:=by omega
  simp only [boxC,spC] at c65
  have hstep:bestS ok l.length (i + 1)=stepB ok (bestS ok l.length i) O:=by rw [hO]; rfl
  have nj16:=a1.ok
  have hfin:∀ (w4:AW),Up w3 w4→ok O=true→BestV w4 (.bool true) v16 (some O):=fun w4 u4 _=>⟨rfl,hr16.up (u3.trans u4),nj16,hOl⟩
  obtain ⟨w5,hw5⟩:∃ w5:AW,w5=⟨(w3.heap.put w3.next (some (.cells [.int .i64 0,.int .i64 0] 25 false))).put w3.next (some (.cells [.int .i64 (refB b (lossL r acts) (woL l O 0) (acts.length + 1)).1,.int .i64 (refB b (lossL r acts) (woL l O 0) (acts.length + 1)).2] 25 false)),w3.next + 1,w3.lim⟩:=⟨_,rfl⟩
  have u5:Up w3 w5:=by rw [hw5]; exact ((Up.refl w3).add _).put (Nat.le_refl _) (Nat.le_refl _)
  have hup5:=(hup2.trans u3).trans u5
  cases hp:bestS ok l.length i with
  | none =>
   rw [hp] at hB2 hstep
   obtain ⟨e14,e13⟩:=hB2
   rw [e14] at s14
   have hst:stepB ok none O=if ok O=true then some O else none:=by unfold stepB worseB; rw [if_neg (by simp)]
   rw [hst] at hstep
   cases hoO:ok O with
   | true =>
    rw [hoO] at c65 hstep
    simp [s0,s3,s4,s7,s14,s15,k16,k17,g2,c65,lw3,cellsOf_agg,hwi]
    rw [← hw5,hstep]
    exact ⟨by omega,hup5,hfin w5 u5 hoO,hlt⟩
   | false =>
    rw [hoO] at c65 hstep
    simp [s0,s3,s4,s7,s13,s14,s15,k16,k17,g2,c65,lw3,cellsOf_agg,hwi]
    rw [← hw5,hstep]
    exact ⟨by omega,hup5,⟨rfl,e13⟩,hlt⟩
  | some B =>
   rw [hp] at hB2 hstep
   obtain ⟨e14,hrB,njB,hBl⟩:=hB2
   rw [e14] at s14
   obtain ⟨bv,hbv⟩:∃ bv,bv=tget t 13:=⟨_,rfl⟩
   rw [← hbv] at s13 hrB njB
   have hlB:=fun w3=>len28V (w':=w3) hrB
   have r43:=S43.call (P:=Tryd.prog) h43 (m:=m + 1) (w:=w2) ⟨v16,bv,O,B,rfl,hr16,hrB,by omega,by omega,rfl⟩
   have hkeep:∀ w4,Up w2 w4→BestV w4 (.bool true) bv (some B):=fun w4 u4=>⟨rfl,hrB.up u4,njB,hBl⟩
   by_cases h1:B.length < O.length
   ·have hst:stepB ok (some B) O=some B:=by unfold stepB worseB; rw [if_pos (by simp [h1])]
    rw [hst] at hstep
    have h1':(B.length:Int) < (O.length:Int):=by omega
    simp [s0,s3,s4,s7,s13,s14,s15,k16,k17,hl16,hlB,h1,h1',hwi]
    rw [hstep]
    exact ⟨by omega,hup2,hkeep w2 (Up.refl _),hlt⟩
   ·have h1':¬ (B.length:Int) < (O.length:Int):=by omega
    by_cases h2:O.length=B.length
    ·cases hx:lexL O B with
     | false =>
      have hst:stepB ok (some B) O=some B:=by unfold stepB worseB; rw [if_pos (by simp [h2,hx])]
      rw [hst] at hstep
      rw [hx] at r43
      simp [s0,s3,s4,s7,s13,s14,s15,k16,k17,hl16,hlB,h1,h1',h2,r43,hwi]
      rw [hstep]
      exact ⟨by omega,hup2,hkeep w2 (Up.refl _),hlt⟩
     | true =>
      have hst:stepB ok (some B) O=if ok O=true then some O else some B:=by unfold stepB worseB; rw [if_neg (by simp [h1,hx])]
      rw [hst] at hstep
      rw [hx] at r43
      cases hoO:ok O with
      | true =>
       rw [hoO] at c65 hstep
       simp [s0,s3,s4,s7,s13,s14,s15,k16,k17,hl16,hlB,h1,h1',h2,r43,g2,c65,lw3,cellsOf_agg,hwi]
       rw [← hw5,hstep]
       exact ⟨by omega,hup5,hfin w5 u5 hoO,hlt⟩
      | false =>
       rw [hoO] at c65 hstep
       simp [s0,s3,s4,s7,s13,s14,s15,k16,k17,hl16,hlB,h1,h1',h2,r43,g2,c65,lw3,cellsOf_agg,hwi]
       rw [← hw5,hstep]
       exact ⟨by omega,hup5,hkeep w5 (u3.trans u5),hlt⟩
    ·have h2':¬ (O.length:Int)=(B.length:Int):=by omega
     have hst:stepB ok (some B) O=if ok O=true then some O else some B:=by unfold stepB worseB; rw [if_neg (by simp [h1,h2])]
     rw [hst] at hstep
     cases hoO:ok O with
     | true =>
      rw [hoO] at c65 hstep
      simp [s0,s3,s4,s7,s13,s14,s15,k16,k17,hl16,hlB,h1,h1',h2,h2',g2,c65,lw3,cellsOf_agg,hwi]
      rw [← hw5,hstep]
      exact ⟨by omega,hup5,hfin w5 u5 hoO,hlt⟩
     | false =>
      rw [hoO] at c65 hstep
      simp [s0,s3,s4,s7,s13,s14,s15,k16,k17,hl16,hlB,h1,h1',h2,h2',g2,c65,lw3,cellsOf_agg,hwi]
      rw [← hw5,hstep]
      exact ⟨by omega,hup5,hkeep w5 (u3.trans u5),hlt⟩
 ·have hi':i=N:=by omega
  rw [hi',hbest] at hB
  have hlt':¬ ((i:Nat):Int) < (N:Int):=by omega
  cases hod:oddF ok l.length with
  | none =>
   rw [hod] at hB
   obtain ⟨e14,e13⟩:=hB
   simp [mc28_l0,t4,t15,hl42,hshl,hlt,hlt',e14,nj,tupV]
   refine ⟨⟨_,by rw [if_pos rfl,hod],fun o _ h=>(by rw [hod] at h; cases h),fun _=>rfl⟩,u1.trans hup⟩
  | some B =>
   rw [hod] at hB
   obtain ⟨e14,hrB,njB,_⟩:=hB
   simp [mc28_l0,t4,t15,hl42,hshl,hlt,hlt',e14,njB,tupV]
   refine ⟨⟨_,by rw [if_pos rfl,hod],fun o _ h=>(by rw [hod] at h; cases h; exact hrB),fun h=>?_⟩,u1.trans hup⟩
   rcases h with h | h
   ·exact absurd rfl h
   ·rw [hod] at h; cases h
end Go.Proofs.YtlkklcbjjompbaaDoor.walk
namespace Go.Proofs.YtlkklcbjjompbaaDoor.walk
open Go Go.Sh
set_option maxRecDepth 100000
set_option linter.unusedSimpArgs false
theorem odd_eq {r:List CAct} {d:List CDay} {b:CBox} {acts:List Int} {l:List CRead}:oddE r d b acts l=if rdE r d b acts l=0 then (match oddF (okW b (lossL r acts) l) l.length with | some _=>0 | none=>65) else rdE r d b acts l:=rfl
set_option maxHeartbeats 8000000 in
theorem call4 {ov:Ov} (ho:∀ args w,ov 4 args w=none) (ho20:∀ args w,ov 20 args w=none) (ho21:∀ args w,ov 21 args w=none) (ho23:∀ args w,ov 23 args w=none) (ho24:∀ args w,ov 24 args w=none) (ho25:∀ args w,ov 25 args w=none) (ho26:∀ args w,ov 26 args w=none) (ho27:∀ args w,ov 27 args w=none) (ho28:∀ args w,ov 28 args w=none) (ho57:∀ args w,ov 57 args w=none) (ho62:∀ args w,ov 62 args w=none) (ho63:∀ args w,ov 63 args w=none) (ho65:∀ args w,ov 65 args w=none) (ho66:∀ args w,ov 66 args w=none) (ho67:∀ args w,ov 67 args w=none) (ho69:∀ args w,ov 69 args w=none) (ho90:∀ args w,ov 90 args w=none) (ho91:∀ args w,ov 91 args w=none)
  (h18:HasP ov 18 S18.F) (h22:HasP ov 22 S22.F) (h43:HasP ov 43 S43.F) (h46:HasP ov 46 S46.F) (h60:HasP ov 60 S60r.F) (h61:HasP ov 61 S61.F) (h64:HasP ov 64 S64.F) (h68:HasP ov 68 S68.F) (h84:HasP ov 84 S84.F) (h86:HasP ov 86 S86.F) (h87:HasP ov 87 S87.F) (h88:HasP ov 88 S88.F) (h105:HasP ov 105 S105.F) (hW:HasW ov)
  (r:List CAct) (d:List CDay) (b:CBox) (acts:List Int) (l:List CRead) (rv dv av lv:Value) (w:AW) (hl:w.lim=w.next) (hL:LimW w) (hrv:RowsV actC w rv r) (hdv:RowsV cdayC w dv d) (hav:RowsV intC w av acts) (hcap:CapV av) (hlv:RowsV readC w lv l) :
  ∃ x w',(run Tryd.prog ov 16).call 4 [.agg ⟨curC rv dv b av⟩,lv] w .none=.ok (.ret x) w' .none∧x=.bool true:=by
 refine call_wp text4 (by simp) (ho _ _) ?_
 obtain ⟨w1,hw1e⟩:∃ w1:AW,w1=⟨w.heap.put w.next (some (.cells [rv,dv,.int .i64 b.wl,.int .i64 b.wh,.int .i64 b.sl,.int .i64 b.sh,av] 30 false)),w.next + 1,w.lim⟩:=⟨_,rfl⟩
 have u1:Up w w1:=by rw [hw1e]; exact (Up.refl w).add _
 have m1:w1.next=w.next + 1:=by rw [hw1e]
 have l1:w1.lim=w.lim:=u1.lim
 have g1:w1.heap.get w.next=some (.cells [rv,dv,.int .i64 b.wl,.int .i64 b.wh,.int .i64 b.sl,.int .i64 b.sh,av] 30 false):=by rw [hw1e]; simp
 have rW:=fun (w:AW) hw=>ruleW hW 14 (w:=w) hw
 -- the weights
 obtain ⟨v2,w2,c20,⟨x2,rfl,x2n,x2z⟩,u2⟩:=call20 (ov:=ov) 12 ho20 ho57 ho62 ho63 h64 h68 h86 r d b acts l rv dv av lv w1 (by omega) (hL.up u1) (hrv.up u1) (hdv.up u1) (hav.up u1) (hlv.up u1)
 have u02:=u1.trans u2
 have hn2:=u2.next
 have hm2:=u02.lim
 obtain ⟨v3,w3,c21,⟨x3,rfl,x3n,x3z⟩,u3⟩:=call21 (ov:=ov) 12 ho21 ho65 h60 h87 r d b acts l rv dv av lv w2 (by omega) (hrv.up u02) (hdv.up u02) (hav.up u02) hcap (hlv.up u02)
 have u03:=u02.trans u3
 have hn3:=u3.next
 have hm3:=u03.lim
 have hE:rdE r d b acts l ≠ 0∨rdE r d b acts l=0:=by omega
 have hl14:weiE r d b acts l=0→(lossL r acts).length≤14:=fun h=>by
  obtain ⟨hA,_⟩:=wei_zero h
  rw [lossL_length]; exact (tru_ok hA).2.1
 obtain ⟨e,he⟩:∃ e,e=weiE r d b acts l:=⟨_,rfl⟩
 rw [← he] at c20 c21 x2n x2z x3n x3z hl14
 obtain ⟨R,hRl,hR1,hR2⟩:∃ R:List Sp,R.length≤1000∧RowsV spC w3 x2 R∧RowsV spC w3 x3 R:=by
  by_cases h:e=0
  ·obtain ⟨V,hV,hp⟩:=x2z h
   obtain ⟨V',hV',hp'⟩:=x3z h
   rw [hV] at hV'; cases hV'
   refine ⟨_,?_,(hp.up u3).rows,hp'⟩
   have:=hl14 h
   rw [List.length_take]; omega
  ·rw [x2n h,x3n h]
   exact ⟨[],by simp,.inl ⟨rfl,_,_,rfl⟩,.inl ⟨rfl,_,_,rfl⟩⟩
 have r22a:=S22.call (P:=Tryd.prog) h22 (m:=14) (w:=w3) ⟨x2,x3,R,rfl,hR1,hR2,hRl,rfl⟩
 -- what is no water
 obtain ⟨v4,w4,c23,⟨s4,rfl,s4n,s4z⟩,u4⟩:=call23 (ov:=ov) 12 ho23 ho57 ho62 h64 h68 h86 r d b acts l rv dv av lv w3 (by omega) (hL.up u03) (hrv.up u03) (hdv.up u03) (hav.up u03) (hlv.up u03)
 have u04:=u03.trans u4
 have hn4:=u4.next
 have hm4:=u04.lim
 obtain ⟨w4b,hw4b⟩:∃ w4b:AW,w4b=⟨(w4.heap.put w4.next (some (.cells [.int .i64 0,.int .i64 0] 25 false))).put w4.next (some (.cells [.int .i64 s4.1,.int .i64 s4.2] 25 false)),w4.next + 1,w4.lim⟩:=⟨_,rfl⟩
 have u4b:Up w4 w4b:=by rw [hw4b]; exact ((Up.refl w4).add _).put (Nat.le_refl _) (Nat.le_refl _)
 have n4b:w4b.next=w4.next + 1:=by rw [hw4b]
 have u04b:=u04.trans u4b
 have l4b:=u04b.lim
 obtain ⟨v5,w5,c24,⟨s5,rfl,s5n,s5z⟩,u5⟩:=call24 (ov:=ov) 12 ho24 ho65 h60 h87 r d b acts l rv dv av lv w4b (by omega) (hrv.up u04b) (hdv.up u04b) (hav.up u04b) hcap (hlv.up u04b)
 have u05:=u04b.trans u5
 have hn5:=u5.next
 have hm5:=u05.lim
 rw [← he] at c23 c24 s4n s4z s5n s5z
 have hs:s4=s5:=by
  by_cases h:e=0
  ·obtain ⟨V,hV,h1⟩:=s4z h
   obtain ⟨V',hV',h2⟩:=s5z h
   rw [hV] at hV'; cases hV'
   rw [h1,h2]
  ·rw [s4n h,s5n h]
 subst hs
 obtain ⟨w5b,hw5b⟩:∃ w5b:AW,w5b=⟨(w5.heap.put w5.next (some (.cells [.int .i64 0,.int .i64 0] 25 false))).put w5.next (some (.cells [.int .i64 s4.1,.int .i64 s4.2] 25 false)),w5.next + 1,w5.lim⟩:=⟨_,rfl⟩
 have u5b:Up w5 w5b:=by rw [hw5b]; exact ((Up.refl w5).add _).put (Nat.le_refl _) (Nat.le_refl _)
 have n5b:w5b.next=w5.next + 1:=by rw [hw5b]
 have u05b:=u05.trans u5b
 have l5b:=u05b.lim
 have k9:w5.heap.get w4.next=some (.cells [.int .i64 s4.1,.int .i64 s4.2] 25 false):=by rw [u5.at (by omega),hw4b]; simp
 -- the moistures
 obtain ⟨v6,w6,c25,⟨x6,rfl,x6n,x6z⟩,u6⟩:=call25 (ov:=ov) 12 ho25 ho57 ho62 ho66 h64 h68 h84 h86 h88 r d b acts l rv dv av lv w5b (by omega) (hL.up u05b) (hrv.up u05b) (hdv.up u05b) (hav.up u05b) (hlv.up u05b)
 have u06:=u05b.trans u6
 have hn6:=u6.next
 have hm6:=u06.lim
 obtain ⟨v7,w7,c26,⟨x7,rfl,x7n,x7z⟩,u7⟩:=call26 (ov:=ov) 11 ho26 ho65 ho67 h60 h61 h87 r d b acts l rv dv av lv w6 (by omega) (hrv.up u06) (hdv.up u06) (hav.up u06) hcap (hlv.up u06)
 have u07:=u06.trans u7
 have hn7:=u7.next
 have hm7:=u07.lim
 rw [← he] at c25 c26 x6n x6z x7n x7z
 obtain ⟨R',hRl',hR1',hR2'⟩:∃ R:List Sp,R.length≤1000∧RowsV spC w7 x6 R∧RowsV spC w7 x7 R:=by
  by_cases h:e=0
  ·obtain ⟨V,D,hV,hD,hp⟩:=x6z h
   obtain ⟨V',D',hV',hD',hp'⟩:=x7z h
   rw [hV] at hV'; cases hV'
   rw [hD] at hD'; cases hD'
   refine ⟨_,?_,(hp.up u7).rows,hp'⟩
   have:=hl14 h
   rw [moL_length]; omega
  ·rw [x6n h,x7n h]
   exact ⟨[],by simp,.inl ⟨rfl,_,_,rfl⟩,.inl ⟨rfl,_,_,rfl⟩⟩
 have r22b:=S22.call (P:=Tryd.prog) h22 (m:=14) (w:=w7) ⟨x6,x7,R',rfl,hR1',hR2',hRl',rfl⟩
 -- what is odd
 obtain ⟨v8,w8,c27,⟨x8,rfl,x8n,x8z⟩,u8⟩:=call27 (ov:=ov) 0 ho27 ho57 ho69 ho90 ho91 h68 h86 h105 r d b acts l rv dv av lv w7 (by omega) (hL.up u07) (hrv.up u07) (hdv.up u07) (hav.up u07) (hlv.up u07)
 have u08:=u07.trans u8
 have hn8:=u8.next
 have hm8:=u08.lim
 obtain ⟨v9,w9,c28,⟨x9,rfl,x9z,x9n⟩,u9⟩:=call28 (ov:=ov) 12 ho28 ho65 h43 h46 h60 h87 r d b acts l rv dv av lv w8 (by omega) (hrv.up u08) (hdv.up u08) (hav.up u08) hcap (hlv.up u08)
 have u09:=u08.trans u9
 change (run Tryd.prog ov (12 + 3)).call 28 [rv,dv,.agg ⟨boxC b⟩,av,lv] w8 .none=.ok (.ret (.tuple ⟨[x9,.int .i64 (oddE r d b acts l)]⟩)) w9 .none at c28
 obtain ⟨eo,heo⟩:∃ e,e=oddE r d b acts l:=⟨_,rfl⟩
 obtain ⟨P,hPl,hP1,hP2⟩:∃ P:List Int,P.length≤1000∧RowsV intC w9 x8 P∧RowsV intC w9 x9 P:=by
  by_cases h:oddE r d b acts l=0
  ·obtain ⟨o,ho,hp⟩:=x8z h
   have hrd:rdE r d b acts l=0:=by
    rw [odd_eq] at h
    by_cases q:rdE r d b acts l=0
    ·exact q
    ·rw [if_neg q] at h; exact absurd h q
   obtain ⟨hl10,_⟩:=rds_ok (rdE_ok hrd).2
   have hlen:=incF_len (odd_some ho).1 (Nat.zero_le _)
   exact ⟨o,by omega,hp.up u9,x9z o hrd ho⟩
  ·have h9:x9=.slice none 0 0:=x9n (by
    by_cases q:rdE r d b acts l=0
    ·right
     rw [odd_eq,if_pos q] at h
     cases ho:oddF (okW b (lossL r acts) l) l.length with
     | none=>rfl
     | some o=>rw [ho] at h; exact absurd rfl h
    ·exact .inl q)
   rw [x8n h,h9]
   exact ⟨[],by simp,.inl ⟨rfl,_,_,rfl⟩,.inl ⟨rfl,_,_,rfl⟩⟩
 have r18:=S18.call (P:=Tryd.prog) h18 (m:=14) (w:=w9) ⟨x8,x9,P,rfl,hP1,hP2,hPl,rfl⟩
 rw [← heo] at c27 c28
 have rW9:=rW w9 (hL.up u09).1
 have g2:w2.heap.get w.next=_:=(u2.at (by omega)).trans g1
 have g3:w3.heap.get w.next=_:=(u3.at (by omega)).trans g2
 have g4:w4.heap.get w.next=_:=(u4.at (by omega)).trans g3
 have g5:w5.heap.get w.next=_:=((u4b.trans u5).at (by omega)).trans g4
 have g6:w6.heap.get w.next=_:=((u5b.trans u6).at (by omega)).trans g5
 have z1:¬ w.next=w4.next:=by omega
 have z2:¬ w.next=w5.next:=by omega
 have z3:¬ w4.next=w5.next:=by omega
 have g7:w7.heap.get w.next=_:=(u7.at (by omega)).trans g6
 have g8:w8.heap.get w.next=_:=(u8.at (by omega)).trans g7
 have q3:w5.lim≤w5.next:=by omega
 have q4:w4.lim≤w4.next:=by omega
 have q5:w3.lim≤w3.next:=by omega
 simp only [boxC,curC,spC,Nat.reduceAdd] at c20 c21 c23 c24 c25 c26 c27 c28 r22a r22b r18 rW9 ⊢
 rw [hw1e] at c20
 rw [hw4b] at c24
 rw [hw5b] at c25
 simp [mc4,z1,z2,z3,k9,cellsOf_agg,c20,g2,c21,r22a,g3,c23,g4,c24,g5,c25,g6,c26,r22b,g7,c27,g8,c28,r18,rW9,q3,q4,q5,tupV]
end Go.Proofs.YtlkklcbjjompbaaDoor.walk
