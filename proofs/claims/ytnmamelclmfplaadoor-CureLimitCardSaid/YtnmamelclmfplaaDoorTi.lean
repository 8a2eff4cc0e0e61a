/- Part of a proof: see the text with the theorem. -/
import Derived.Test.YtnmamelclmfplaaDoorTh
import Derived.Test.YtnmamelclmfplaaDoorTc
set_option linter.all false
namespace Go.Proofs.YtnmamelclmfplaaDoor.walk
open Go Go.Sh
set_option maxRecDepth 100000
def wrapG (n s:Int):Int:=if s < 1 then 0 else (IntKind.wrap .i64 (n.tmod s + s)).tmod s
theorem wrapG_eq {n s:Int} (h:s≤2 ^ 60):wrapG n s=wrapI n s:=by
 unfold wrapG wrapI
 by_cases h1:s < 1
 ·rw [if_pos h1,if_pos h1]
 ·have b1:=Int.lt_tmod_of_pos n (show 0 < s by omega)
  have b2:=Int.tmod_lt_of_pos n (show 0 < s by omega)
  rw [if_neg h1,if_neg h1,wrap64_in (by omega) (by omega)]
def S36g:PSpec where
 R args _ v:=∃ n s:Int,args=[.int .i64 n,.int .i64 s]∧v=.int .i64 (wrapG n s)
 uniq:=by rintro _ _ _ _ ⟨n,s,rfl,rfl⟩ ⟨_,_,h,rfl⟩; cases h; rfl
 shut h:=h
theorem run36g {ov:Ov} (ho:∀ args w,ov 36 args w=none) (n s:Int) (w:AW):∃ v w',(run Tryd.prog ov 2).call 36 [.int .i64 n,.int .i64 s] w .none=.ok (.ret v) w' .none∧v=.int .i64 (wrapG n s):=by
 refine call_wp text36 (by simp) (ho _ _) ?_
 by_cases h1:s < 1
 ·simp [mc36,h1,tupV,wrapG]
 ·have hr:=fun (a:Int) (c:Bool) w=>bin_rem (P:=Tryd.prog) (w:=w) 3 c .i64 a s (by omega)
  simp [mc36,h1,tupV,wrapG,hr]
theorem run37g {ov:Ov} (ho:∀ args w,ov 37 args w=none) (h36:HasP ov 36 S36g.F) (v:Value) (L:List Int) (i:Int) (w:AW) (hv:RowsV intC w v L) (hs:L.length≤2 ^ 60):∃ x w',(run Tryd.prog ov 2).call 37 [v,.int .i64 i] w .none=.ok (.ret x) w' .none∧x=.int .i64 (nthI L i):=by
 refine call_wp text37 (by simp) (ho _ _) ?_
 have hl:=fun w2=>len28V (w':=w2) hv
 have r36:=fun w=>S36g.call1 (P:=Tryd.prog) h36 (w:=w) ⟨i,L.length,rfl,rfl⟩
 rw [wrapG_eq (by omega)] at r36
 by_cases h0:L.length=0
 ·have:L=[]:=List.eq_nil_of_length_eq_zero h0
  subst this
  simp at hl
  simp [mc37,hl,tupV,nthI]
 ·have hb:=wrapI_bd (n:=i) (s:=L.length) (by omega)
  obtain ⟨k,hk⟩:∃ k:Nat,(k:Int)=wrapI i L.length:=⟨(wrapI i L.length).toNat,by omega⟩
  have hkl:k < L.length:=by omega
  obtain ⟨z,hz⟩:∃ z,L[k]?=some z:=⟨_,List.getElem?_eq_getElem hkl⟩
  obtain ⟨b,off,sq,c,rfl,hr⟩:=hv.at_ k hkl
  have hld:=hr.int hz
  have hia:=fun w=>ia28 w ⟨b,off,sq⟩ L.length c .i64 k hkl
  simp only [Nat.mul_one] at hia
  rw [← hk] at r36
  have hn:nthI L i=z:=by
   unfold nthI
   rw [← hk,Int.toNat_natCast,hz]
  have h0':¬ (L.length:Int)=0:=by omega
  simp [mc37,hl,h0,h0',r36,hia,hld,tupV,hn]
def withG (lo hi n:Int):Int:=IntKind.wrap .i64 (lo + wrapG n (IntKind.wrap .i64 (IntKind.wrap .i64 (hi - lo) + 1)))
theorem withG_eq {lo hi n:Int} (h:0≤lo∧lo≤hi∧hi≤100000000):withG lo hi n=withI lo hi n:=by
 have hbd:=with_in (n:=n) h.2.1
 unfold withG
 rw [wrap64_in (n:=hi - lo) (by omega) (by omega),wrap64_in (n:=hi - lo + 1) (by omega) (by omega),wrapG_eq (by omega)]
 unfold withI at hbd ⊢
 exact wrap64_in (by omega) (by omega)
def S48g:PSpec where
 R args _ v:=∃ lo hi n:Int,args=[.int .i64 lo,.int .i64 hi,.int .i64 n]∧v=.int .i64 (withG lo hi n)
 uniq:=by rintro _ _ _ _ ⟨lo,hi,n,rfl,rfl⟩ ⟨_,_,_,h,rfl⟩; cases h; rfl
 shut h:=h
theorem run48g {ov:Ov} (ho:∀ args w,ov 48 args w=none) (h36:HasP ov 36 S36g.F) (lo hi n:Int) (w:AW):∃ v w',(run Tryd.prog ov 2).call 48 [.int .i64 lo,.int .i64 hi,.int .i64 n] w .none=.ok (.ret v) w' .none∧v=.int .i64 (withG lo hi n):=by
 refine call_wp text48 (by simp) (ho _ _) ?_
 have r36:=fun s w=>S36g.call1 (P:=Tryd.prog) h36 (w:=w) ⟨n,s,rfl,rfl⟩
 simp [mc48,r36,tupV,withG]
def genL (f:Nat→Int) (n:Nat):List Int:=(List.range n).map f
@[simp] theorem genL_length (f:Nat→Int) (n:Nat):(genL f n).length=n:=by simp [genL]
theorem genL_snoc (f:Nat→Int) (n:Nat):genL f (n + 1)=genL f n++[f n]:=by
 unfold genL
 rw [List.range_succ,List.map_append]; rfl
def losC (r:List CAct) (acts bits:List Int) (k:Nat):Int:=withI (gtS (lossL r acts) k).1 (gtS (lossL r acts) k).2 (nthI bits ((k:Int) + 2))
structure In34 (we:AW) (d:List CDay) (b:CBox) (rv dv av:Value) (ws s:Int) (f:Nat→Int) (i:Nat) (w:AW):Prop where
 box:w.heap.get we.next=some (.cells (curC rv dv b av) 30 false)
 res:w.heap.get (we.next + 1)=some (.cells [.int .i64 0,.int .i64 0,.slice none 0 0] 32 false)
 tru:∃ v,w.heap.get (we.next + 2)=some (.cells [.int .i64 ws,.int .i64 s,v] 32 false)∧AccR intC 3 (we.next + 2) w v (genL f i)
 up:Up we w
 next:we.next + 3≤w.next
set_option maxHeartbeats 4000000 in
theorem loop34 {ov:Ov} (m:Nat) (h37:HasP ov 37 S37.F) (h48:HasP ov 48 S48g.F) (r:List CAct) (d:List CDay) (b:CBox) (acts:List Int) (hact:∀ a ∈ acts,0≤a∧∃ x,r[a.toNat]?=some x) (h14:acts.length≤14) (hLb:∀ i,i < acts.length→0≤(gtS (lossL r acts) i).1∧(gtS (lossL r acts) i).1≤(gtS (lossL r acts) i).2∧(gtS (lossL r acts) i).2≤100000000) (bits:List Int) (hbl:bits.length≤2 ^ 60) (ws s:Int) (rv dv av bv:Value) (we:AW) (hlim:we.lim≤we.next) (hrv:RowsV actC we rv r) (hav:RowsV intC we av acts) (hbv:RowsV intC we bv bits)
  (Q:Ex→Tm→AW→Prop) (t:Tm) (w:AW) (hw:In34 we d b rv dv av ws s (losC r acts bits) 0 w) (t1:tget t 1=bv) (t2:tget t 2=.pointer (some ⟨we.next,0,none⟩)) (t4:tget t 4=.pointer (some ⟨we.next + 1,0,none⟩)) (t5:tget t 5=.pointer (some ⟨we.next + 2,0,none⟩)) (t6:tget t 6=.int .i64 0)
  (hQ:∀ t' w',In34 we d b rv dv av ws s (losC r acts bits) acts.length w'→tget t' 4=.pointer (some ⟨we.next + 1,0,none⟩)→tget t' 5=.pointer (some ⟨we.next + 2,0,none⟩)→Q (.exit 0) t' w'):wp (exM Tryd.prog (run Tryd.prog ov (m + 1)) (.loop mc34_l0) t w) Q:=by
 refine wp_rounds (fun i t' w'=>In34 we d b rv dv av ws s (losC r acts bits) i w'∧tget t' 1=bv∧tget t' 2=.pointer (some ⟨we.next,0,none⟩)∧tget t' 4=.pointer (some ⟨we.next + 1,0,none⟩)∧tget t' 5=.pointer (some ⟨we.next + 2,0,none⟩)∧tget t' 6=.int .i64 (i:Nat)∧i≤acts.length) 20 (by decide) ⟨hw,t1,t2,t4,t5,by simpa using t6,Nat.zero_le _⟩ ?_
 clear t1 t2 t4 t5 t6 hw
 rintro i t' w' ⟨hw,t1,t2,t4,t5,t6,hi⟩
 have hl28:=fun w2=>len28V (w':=w2) hav
 have hbox:=hw.box
 simp only [curC] at hbox
 have hnw:=hw.next
 have hlm:=hw.up.lim
 by_cases hlt:i < acts.length
 ·obtain ⟨aI,hI⟩:∃ p,acts[i]?=some p:=⟨_,List.getElem?_eq_getElem hlt⟩
  obtain ⟨ha0,x,hx⟩:=hact aI (List.mem_of_getElem? hI)
  obtain ⟨n,rfl⟩:∃ n:Nat,aI=(n:Int):=⟨aI.toNat,by omega⟩
  simp only [Int.toNat_natCast] at hx
  have hn:=(List.getElem?_eq_some_iff.1 hx).1
  have hLi:gtS (lossL r acts) i=(x.ll,x.lh):=gtS_of (lossL_at hI (by simpa using hx))
  have hLx:=hLb i hlt
  rw [hLi] at hLx
  simp only at hLx
  obtain ⟨vv,htru,hacc⟩:=hw.tru
  obtain ⟨pa,ca,rfl⟩:=hacc.rows.len
  rw [genL_length] at htru hacc
  obtain ⟨bb,off,sq,cc,rfl,hra⟩:=hav.at_ i hlt
  obtain ⟨b2,off2,sq2,c2,rfl,hrb⟩:=hrv.at_ n hn
  have hld:=hra.int hI
  have f5:rdO (we.heap.get b2) (off2 + n * 7 + 5) 2=some [.int .i64 x.ll,.int .i64 x.lh]:=rdO_sub (hrb.rd actC_length hx) (j:=5) (k:=2) (by decide)
  rw [← hw.up.at hra.2] at hld
  rw [← hw.up.at hrb.2] at f5
  have hia:=fun w=>ia28 w ⟨bb,off,sq⟩ acts.length cc .i64 i hlt
  have hib:=fun w=>ia22 w ⟨b2,off2,sq2⟩ r.length c2 .i64 n hn
  simp only [Nat.mul_one] at hia
  have hw1:IntKind.wrap .i64 ((i:Int) + 1)=(i:Int) + 1:=wrap64_in (by omega) (by omega)
  have hw2:IntKind.wrap .i64 ((i:Int) + 2)=(i:Int) + 2:=wrap64_in (by omega) (by omega)
  obtain ⟨wa,hwae⟩:∃ wa:AW,wa=⟨(w'.heap.put w'.next (some (.cells [.int .i64 0,.int .i64 0] 25 false))).put w'.next (some (.cells [.int .i64 x.ll,.int .i64 x.lh] 25 false)),w'.next + 1,w'.lim⟩:=⟨_,rfl⟩
  have ua:Up w' wa:=by rw [hwae]; exact ((Up.refl w').add _).put (Nat.le_refl _) (Nat.le_refl _)
  have hna:wa.next=w'.next + 1:=by rw [hwae]
  have hla:wa.lim=w'.lim:=ua.lim
  have hacca:=hacc.keep (w':=wa) (fun x _ h=>ua.at h) ua.next
  have r37:=S37.call (P:=Tryd.prog) h37 (m:=m) (w:=wa) ⟨bv,bits,(i:Int) + 2,rfl,hbv.up (hw.up.trans ua),hbl,rfl⟩
  have r48:=fun w=>S48g.call (P:=Tryd.prog) h48 (m:=m) (w:=w) ⟨x.ll,x.lh,nthI bits ((i:Int) + 2),rfl,rfl⟩
  have ef:withG x.ll x.lh (nthI bits ((i:Int) + 2))=losC r acts bits i:=by unfold losC; rw [hLi,withG_eq (by omega)]
  rw [ef] at r48
  obtain ⟨v',w2,ha',hacc',hkp,hn2,hl'⟩:=AccR.push (P:=Tryd.prog) (st:=28) (sz:=1) list28 elem28 sz3 small3 intC_length (fun _=>rfl) (by decide) hacca (by omega) (by omega) (by simp; omega) (losC r acts bits i)
  rw [← genL_snoc] at hacc'
  obtain ⟨pb,cb,hvb⟩:=hacc'.rows.len
  rw [genL_length] at hvb
  subst hvb
  rw [hwae] at ha' r37
  simp only [intC] at ha'
  have e0:¬ bb=w'.next:=by have:=hra.2; omega
  have e1:¬ we.next=w'.next:=by omega
  have e2:¬ we.next + 2=w'.next:=by omega
  have e5:¬ we.next + 1=w'.next:=by omega
  have e6:¬ we.next + 2=w'.next + 1:=by omega
  have e7:¬ we.next=w'.next + 1:=by omega
  have e4:¬ b2=w'.next:=by have:=hrb.2; omega
  have g2:w2.heap.get (we.next + 2)=some (.cells [.int .i64 ws,.int .i64 s,.slice pa i ca] 32 false):=by rw [hkp _ (Nat.le_refl _),ua.at (by omega)]; exact htru
  have lw:w'.lim≤w'.next:=by omega
  have lw2:w2.lim≤we.next + 2:=by omega
  simp [mc34_l0,t1,t2,t4,t5,t6,hbox,hl28,hlt,hia,hib,hld,f5,e0,e1,e2,e4,e5,e6,e7,lw,htru,hw1,hw2,r37,r48,ha',g2,lw2]
  refine ⟨by omega,⟨?_,?_,⟨.slice pb (i + 1) cb,by simp,?_⟩,?_,?_⟩,hlt⟩
  ·show (w2.heap.put _ _).get we.next=_
   rw [get_put,if_neg (by omega),hkp _ (by omega),ua.at (by omega)]; exact hw.box
  ·show (w2.heap.put _ _).get (we.next + 1)=_
   rw [get_put,if_neg (by omega),hkp _ (by omega),ua.at (by omega)]; exact hw.res
  ·exact hacc'.keep (fun y h1 h2=>by show (w2.heap.put _ _).get y=_; rw [get_put,if_neg (by omega)]) (Nat.le_refl _)
  ·refine ⟨fun y hy=>?_,by show we.next≤w2.next; omega,by show w2.lim=we.lim; omega⟩
   show (w2.heap.put _ _).get y=_
   rw [get_put,if_neg (by omega),hkp _ (by omega),ua.at (by omega)]
   exact hw.up.at hy
  ·show we.next + 3≤w2.next; omega
 ·have:i=acts.length:=by omega
  subst this
  simp [mc34_l0,t2,t6,hbox,hl28]
  exact hQ _ _ hw (by simp [t4]) (by simp [t5])
set_option maxHeartbeats 4000000 in
theorem call34 {ov:Ov} (m:Nat) (ho:∀ args w,ov 34 args w=none) (h37:HasP ov 37 S37.F) (h48:HasP ov 48 S48g.F) (r:List CAct) (d:List CDay) (b:CBox) (acts:List Int) (hact:∀ a ∈ acts,0≤a∧∃ x,r[a.toNat]?=some x) (h14:acts.length≤14) (hLb:∀ i,i < acts.length→0≤(gtS (lossL r acts) i).1∧(gtS (lossL r acts) i).1≤(gtS (lossL r acts) i).2∧(gtS (lossL r acts) i).2≤100000000) (bits:List Int) (hbl:bits.length≤2 ^ 60) (rv dv av bv:Value) (we:AW) (hlim:we.lim≤we.next) (hrv:RowsV actC we rv r) (hav:RowsV intC we av acts) (hbv:RowsV intC we bv bits) :
  ∃ v w',(run Tryd.prog ov (m + 2)).call 34 [.agg ⟨curC rv dv b av⟩,bv] we .none=.ok (.ret v) w' .none∧(∃ lv,v=.agg ⟨[.int .i64 (withG b.wl b.wh (nthI bits 0)),.int .i64 (withG b.sl b.sh (nthI bits 1)),lv]⟩∧RowsV intC w' lv (genL (losC r acts bits) acts.length))∧Up we w':=by
 refine call_wp text34 (by simp) (ho _ _) ?_
 have r37:=fun i w hv=>S37.call (P:=Tryd.prog) h37 (m:=m) (w:=w) ⟨bv,bits,i,rfl,hv,hbl,rfl⟩
 have r48:=fun lo hi n w=>S48g.call (P:=Tryd.prog) h48 (m:=m) (w:=w) ⟨lo,hi,n,rfl,rfl⟩
 obtain ⟨w1,hw1e⟩:∃ w1:AW,w1=⟨((we.heap.put we.next (some (.cells (curC rv dv b av) 30 false))).put (we.next + 1) (some (.cells [.int .i64 0,.int .i64 0,.slice none 0 0] 32 false))).put (we.next + 1 + 1) (some (.cells [.int .i64 0,.int .i64 0,.slice none 0 0] 32 false)),we.next + 1 + 1 + 1,we.lim⟩:=⟨_,rfl⟩
 have u1:Up we w1:=by rw [hw1e]; exact (((Up.refl we).add _).put (Nat.le_succ _) (Nat.le_succ _)).put (by show we.next≤we.next + 1 + 1; omega) (Nat.le_succ _)
 have r0:=r37 0 w1 (hbv.up u1)
 have r1:=r37 1 w1 (hbv.up u1)
 rw [hw1e] at r0 r1
 have lw:we.lim≤we.next + 1 + 1:=by omega
 simp only [curC] at r0 r1 ⊢
 simp [mc34,cellsOf_agg,r0,r1,r48,lw]
 refine wp_seqX (wp_blockX (loop34 (d:=d) (b:=b) (dv:=dv) (ws:=withG b.wl b.wh (nthI bits 0)) (s:=withG b.sl b.sh (nthI bits 1)) m h37 h48 r acts hact h14 hLb bits hbl rv av bv we hlim hrv hav hbv _ _ _ ⟨by simp [curC],by simp,⟨.slice none 0 0,by simp,AccR.nil⟩,?_,by simp only; omega⟩ (by simp) (by simp) (by simp) (by simp) (by simp) ?_))
 ·exact ((((Up.refl we).add _).put (Nat.le_succ _) (Nat.le_succ _)).put (by show we.next≤we.next + 1 + 1; omega) (Nat.le_succ _)).put (by show we.next≤we.next + 1 + 1; omega) (Nat.le_refl _)
 rintro t' w' hw t4 t5
 obtain ⟨vv,htru,hacc⟩:=hw.tru
 obtain ⟨pa,ca,rfl⟩:=hacc.rows.len
 rw [genL_length] at htru hacc
 have hres:=hw.res
 have hlm:=hw.up.lim
 have hnx:=hw.next
 have lw2:w'.lim≤we.next + 1:=by omega
 simp [blockQ,t4,t5,htru,hres,lw2,tupV]
 refine ⟨?_,hw.up.put (by omega) (Nat.le_refl _)⟩
 have u3:AccR intC 3 (we.next + 2) ⟨w'.heap.put (we.next + 1) (some (.cells [.int .i64 (withG b.wl b.wh (nthI bits 0)),.int .i64 (withG b.sl b.sh (nthI bits 1)),.slice pa acts.length ca] 32 false)),w'.next,w'.lim⟩ (.slice pa acts.length ca) (genL (losC r acts bits) acts.length):=hacc.keep (fun y h1 h2=>by show (w'.heap.put _ _).get y=_; rw [get_put,if_neg (by omega)]) (Nat.le_refl _)
 exact u3.rows
theorem fold_of:∀ {l:List CRead} {s:Sp} {x:Int},inn x s→(∀ p ∈ l,inn x (readS p))→inn x (foldR l s)
 | [],_,_,h,_=>h
 | q::l,s,x,h,k=>by
  have hq:=k q List.mem_cons_self
  refine fold_of (l:=l) (s:=bothS s (readS q)) ?_ fun p hp=>k p (List.mem_cons_of_mem _ hp)
  unfold inn bothS at *
  simp only
  omega
theorem allIn_at:∀ {L:List Sp} {ls:List Int} {i:Nat} {y:Int},ls.length=L.length→allIn ls L=true→ls[i]?=some y→inn y (gtS L i)
 | [],ls,i,y,hl,_,h=>by
  have:=(List.getElem?_eq_some_iff.1 h).1
  simp at hl
  rw [hl] at this; simp at this
 | s::L,[],i,y,hl,_,h=>by simp at h
 | s::L,a::t,0,y,hl,ha,h=>by
  have ha':(inI s.1 a s.2 && allIn t L)=true:=ha
  simp only [inI,Bool.and_eq_true,decide_eq_true_eq] at ha'
  cases h
  rw [gtS_of (s:=s) rfl]
  exact ha'.1
 | s::L,a::t,i + 1,y,hl,ha,h=>by
  have ha':(inI s.1 a s.2 && allIn t L)=true:=ha
  simp only [Bool.and_eq_true] at ha'
  exact allIn_at (L:=L) (ls:=t) (i:=i) (by simpa using hl) ha'.2 (by simpa using h)
def truX (ws s:Int) (ls:List Int) (k:Nat):Int:=if k=ls.length + 1 then s else ws - (ls.take k).sum
theorem truX_at {ws s:Int} {ls:List Int} {k:Nat} (h:k≤ls.length):(wtsL ws ls)[k]?=some (truX ws s ls k):=by
 rw [wtsL_at _ _ _ h]
 unfold truX
 rw [if_neg (by omega)]
theorem tru_sol {b:CBox} {L:List Sp} {ws s:Int} {ls:List Int} {l:List CRead} (hb:boxB b=true) (hlen:L.length≤14) (hL:LosW (losL L)) (h:truB b L ws s ls=true) (hf:∀ p ∈ l,0≤p.day∧p.day≤L.length→inn (truX ws s ls p.day.toNat) (readS p)):SolS (L.length + 1) (gtS (losL L)) (gtS (iniW b L l)) (truX ws s ls):=by
 have hbx:=hb
 simp only [boxB,spanI,Bool.and_eq_true,decide_eq_true_eq] at hbx
 simp only [truB,inI,Bool.and_eq_true,decide_eq_true_eq] at h
 obtain ⟨h1,h2,h3,h4,h5⟩:=h
 have hstep:∀ i,i < L.length→inn (truX ws s ls i - truX ws s ls (i + 1)) (gtS L i):=fun i hi=>by
  obtain ⟨y,hy⟩:∃ y,ls[i]?=some y:=⟨_,List.getElem?_eq_getElem (by omega)⟩
  have:=allIn_at h3 h4 hy
  unfold truX
  rw [if_neg (by omega),if_neg (by omega),take_snoc hy,List.sum_append]
  unfold inn at this ⊢
  simp only [List.sum_cons,List.sum_nil]
  omega
 have hx0:truX ws s ls 0=ws:=by unfold truX; rw [if_neg (by omega)]; simp
 have hxn:truX ws s ls L.length=ws - ls.sum:=by unfold truX; rw [if_neg (by omega),← h3,List.take_length]
 have hxN:truX ws s ls (L.length + 1)=s:=by unfold truX; rw [h3,if_pos rfl]
 have hmono:∀ j,j≤L.length→truX ws s ls L.length≤truX ws s ls (L.length - j)∧(∀ k,k≤j→truX ws s ls k≤ws):=by
  intro j
  induction j with
  | zero=>intro _; exact ⟨Int.le_refl _,fun k hk=>by rw [show k=0 by omega,hx0]; exact Int.le_refl _⟩
  | succ j ih =>
   intro hj
   obtain ⟨i1,i2⟩:=ih (by omega)
   have s1:=hstep (L.length - (j + 1)) (by omega)
   rw [show L.length - (j + 1) + 1=L.length - j by omega] at s1
   have s2:=hstep j (by omega)
   have l1:=hL (L.length - (j + 1))
   have l2:=hL j
   rw [los_at (by omega)] at l1 l2
   unfold inn at s1 s2
   refine ⟨by omega,fun k hk=>?_⟩
   by_cases e:k=j + 1
   ·subst e
    have:=i2 j (Nat.le_refl _)
    omega
   ·exact i2 k (by omega)
 have hb2:∀ k,k≤L.length→s≤truX ws s ls k∧truX ws s ls k≤ws:=fun k hk=>by
  have a1:=(hmono (L.length - k) (by omega)).1
  rw [show L.length - (L.length - k)=k by omega] at a1
  have a2:=(hmono L.length (Nat.le_refl _)).2 k hk
  omega
 refine ⟨fun i hi=>?_,fun i hi=>?_⟩
 ·rw [iniW_at hlen hi]
  by_cases e:i=L.length + 1
  ·subst e
   unfold iniF iniG
   rw [if_neg (by omega),if_pos rfl,hxN]
   exact h2
  ·unfold iniF
   rw [if_pos (by omega)]
   refine fold_of ?_ fun p hp=>?_
   ·have hbi:=hb2 i (by omega)
    unfold iniG
    rw [if_neg e]
    by_cases e0:i=0
    ·rw [if_pos e0,e0,hx0]; exact h1
    ·rw [if_neg e0,if_pos (by omega)]
     unfold inn
     simp only
     omega
   ·unfold onDay at hp
    obtain ⟨hp1,hp2⟩:=List.mem_filter.1 hp
    have hd:p.day=(i:Int):=by simpa using hp2
    have:=hf p hp1 (by omega)
    rwa [show p.day.toNat=i by omega] at this
 ·by_cases e:i=L.length
  ·subst e
   have e2:gtS (losL L) L.length=(0,1000000):=by
    unfold gtS losL
    rw [List.getD_eq_getElem?_getD,List.getElem?_append_right (Nat.le_refl _),Nat.sub_self]; rfl
   rw [e2,hxn,hxN]
   have:=hb2 L.length (Nat.le_refl _)
   rw [hxn] at this
   unfold inn
   simp only
   omega
  ·rw [los_at (by omega)]
   exact hstep i (by omega)
theorem wei_some {b:CBox} {L:List Sp} {l:List CRead} (hlen:L.length≤14) {x:Nat→Int} (h:SolS (L.length + 1) (gtS (losL L)) (gtS (iniW b L l)) x):∃ V,weighF b L l=some V:=by
 cases hV:weighF b L l with
 | some V=>exact ⟨V,rfl⟩
 | none =>
  exfalso
  unfold weighF at hV
  rw [losL_length] at hV
  exact nar_none (by show L.length + 1 < (iniW b L l).length; simp [iniW]; omega) hV _ h
theorem mo_in {b:CBox} {L V D:List Sp} {l:List CRead} (hL:LosW (losL L)) (_hlen:L.length≤14) (ok:WeiOk L V (iniW b L l)) (dok:DryOk L V D) {x:Nat→Int} (h:SolS (L.length + 1) (gtS (losL L)) (gtS (iniW b L l)) x) {k:Nat} (hk:k≤L.length):moI (gtS D k).1 (gtS V (L.length + 1)).2≤moI (x k) (x (L.length + 1))∧moI (x k) (x (L.length + 1))≤moI (gtS V k).2 (gtS V (L.length + 1)).1:=by
 have hx:=(ok.sol x).2 h
 have fx:=mo_fits hL ok dok (k:=k) (by omega)
 have hxk:=hx.1 k (by omega)
 have hxN:=hx.1 (L.length + 1) (Nat.le_refl _)
 have hNk:x (L.length + 1)≤x k:=by
  -- weights do not grow
  have:∀ j,j≤L.length + 1 - k→x (L.length + 1)≤x (L.length + 1 - j):=by
   intro j
   induction j with
   | zero=>intro _; exact Int.le_refl _
   | succ j ih =>
    intro hj
    have i1:=ih (by omega)
    have s1:=hx.2 (L.length + 1 - (j + 1)) (by omega)
    rw [show L.length + 1 - (j + 1) + 1=L.length + 1 - j by omega] at s1
    have l1:=hL (L.length + 1 - (j + 1))
    unfold inn at s1
    omega
  have:=this (L.length + 1 - k) (Nat.le_refl _)
  rwa [show L.length + 1 - (L.length + 1 - k)=k by omega] at this
 have hlo:=ok.lo
 unfold inn at hxk hxN
 refine ⟨moist_low ok.exact dok.exact (los_le hL _) h (a:=k) (by omega) (by omega) (by omega) hNk (by omega),?_⟩
 have h1:=moI_mono (x:=x k) (y:=(gtS V k).2) (s:=x (L.length + 1)) (by omega) hxk.2 (by omega)
 have h2:=moI_anti (x:=(gtS V k).2) (s:=(gtS V (L.length + 1)).1) (r:=x (L.length + 1)) (by omega) hxN.1
 omega
theorem snd_los {r:List CAct} (h:ruleB r=true) {acts:List Int} (hact:∀ a ∈ acts,0≤a∧∃ x,r[a.toNat]?=some x):∀ i,i < acts.length→0≤(gtS (lossL r acts) i).1∧(gtS (lossL r acts) i).1≤(gtS (lossL r acts) i).2∧(gtS (lossL r acts) i).2≤100000000:=fun i hi=>by
 obtain ⟨a,ha⟩:∃ p,acts[i]?=some p:=⟨_,List.getElem?_eq_getElem hi⟩
 obtain ⟨_,x,hx⟩:=hact a (List.mem_of_getElem? ha)
 rw [gtS_of (lossL_at ha hx)]
 exact rule_range h x (List.mem_of_getElem? hx)
def incF (n:Nat):Nat→List Int→Prop
 | _,[]=>True
 | f,x::l=>∃ i:Nat,x=(i:Int)∧f≤i∧i < n∧incF n (i + 1) l
def lexL:List Int→List Int→Bool
 | [],[]=>false
 | [],_::_=>true
 | _::_,[]=>false
 | a::x,b::y=>if a=b then lexL x y else decide (a < b)
theorem incF.mono {n:Nat}:∀ {l:List Int} {f f':Nat},f'≤f→incF n f l→incF n f' l
 | [],_,_,_,_=>trivial
 | x::l,f,f',h,⟨i,h1,h2,h3,h4⟩=>⟨i,h1,by omega,h3,h4⟩
def OutV (base:Nat) (w:AW) (uv:Value) (out:List Int):Prop :=
 (uv=.slice none 0 0∧out=[])∨∃ (B:Nat) (cs:List Int),uv=.slice (some ⟨B,0,none⟩) out.length cs.length∧w.heap.get B=some (.cells (cs.flatMap intC) 3 false)∧base≤B∧B < w.next∧out=cs.take out.length
theorem OutV.rows {base:Nat} {w:AW} {uv:Value} {out:List Int} (h:OutV base w uv out):RowsV intC w uv out:=by
 rcases h with ⟨rfl,rfl⟩ | ⟨B,cs,rfl,h2,h3,h4,h5⟩
 ·exact .inl ⟨rfl,_,_,rfl⟩
 ·refine .inr ⟨B,0,none,_,rfl,⟨[],(cs.drop out.length).flatMap intC,3,false,?_,rfl⟩,h4⟩
  rw [h2,List.nil_append]
  congr 2
  conv=>lhs; rw [← List.take_append_drop out.length cs,List.flatMap_append,← h5]
theorem OutV.keep {base:Nat} {w w':AW} {uv:Value} {out:List Int} (h:OutV base w uv out) (k:∀ x,base≤x→x < w.next→w'.heap.get x=w.heap.get x) (hn:w.next≤w'.next):OutV base w' uv out:=by
 rcases h with h | ⟨B,cs,h1,h2,h3,h4,h5⟩
 ·exact .inl h
 ·exact .inr ⟨B,cs,h1,by rw [k B h3 h4,h2],h3,by omega,h5⟩
theorem OutV.ok {base:Nat} {w:AW} {uv:Value} {out:List Int} (h:OutV base w uv out):notJunk uv=some uv:=by
 rcases h with ⟨rfl,_⟩ | ⟨_,_,rfl,_⟩ <;> rfl
structure KpB (base B4:Nat) (we w:AW):Prop where
 old:∀ q,q < base→q ≠ B4→w.heap.get q=we.heap.get q
 next:we.next≤w.next
 lim:w.lim=we.lim
theorem KpB.refl (base B4:Nat) (w:AW):KpB base B4 w w:=⟨fun _ _ _=>rfl,Nat.le_refl _,rfl⟩
theorem KpB.trans {base B4:Nat} {a b c:AW} (h:KpB base B4 a b) (k:KpB base B4 b c):KpB base B4 a c:=⟨fun q h1 h2=>(k.old q h1 h2).trans (h.old q h1 h2),Nat.le_trans h.next k.next,k.lim.trans h.lim⟩
end Go.Proofs.YtnmamelclmfplaaDoor.walk
