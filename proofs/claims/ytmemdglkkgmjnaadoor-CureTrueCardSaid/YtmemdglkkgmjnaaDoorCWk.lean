/- Part of a proof by a machine of ones own: see the text with the theorem. -/
import Derived.Test.YtmemdglkkgmjnaaDoorCWj
namespace Go.Proofs.YtmemdglkkgmjnaaDoor.walk
open Go Go.Sh
set_option maxRecDepth 100000
set_option linter.unusedSimpArgs false
def wrapG (n s:Int):Int:=if s < 1 then 0 else (IntKind.wrap .i64 (n.tmod s + s)).tmod s
theorem wrapG_eq {n s:Int} (h:s≤2 ^ 60):wrapG n s=wrapI n s:=by
 unfold wrapG wrapI
 by_cases h1:s < 1
 ·rw [if_pos h1,if_pos h1]
 ·have b1:=Int.lt_tmod_of_pos n (show 0 < s by omega)
  have b2:=Int.tmod_lt_of_pos n (show 0 < s by omega)
  rw [if_neg h1,if_neg h1,wrap64_in (by omega) (by omega)]
def S36g:PSpec where
 R args _ v:=∃ n s:Int,args=[.int .i64 n,.int .i64 s]∧v=.int .i64 (wrapG n s)
 uniq:=by rintro _ _ _ _ ⟨n,s,rfl,rfl⟩ ⟨_,_,h,rfl⟩; cases h; rfl
 shut h:=h
theorem run36g {ov:Ov} (ho:∀ args w,ov 36 args w=none) (n s:Int) (w:AW):∃ v w',(run Tryd.prog ov 2).call 36 [.int .i64 n,.int .i64 s] w .none=.ok (.ret v) w' .none∧v=.int .i64 (wrapG n s):=by
 refine call_wp text36 (by simp) (ho _ _) ?_
 by_cases h1:s < 1
 ·simp [mc36,h1,tupV,wrapG]
 ·have hr:=fun (a:Int) (c:Bool) w=>bin_rem (P:=Tryd.prog) (w:=w) 3 c .i64 a s (by omega)
  simp [mc36,h1,tupV,wrapG,hr]
theorem run37g {ov:Ov} (ho:∀ args w,ov 37 args w=none) (h36:HasP ov 36 S36g.F) (v:Value) (L:List Int) (i:Int) (w:AW) (hv:RowsV intC w v L) (hs:L.length≤2 ^ 60):∃ x w',(run Tryd.prog ov 2).call 37 [v,.int .i64 i] w .none=.ok (.ret x) w' .none∧x=.int .i64 (nthI L i):=by
 refine call_wp text37 (by simp) (ho _ _) ?_
 have hl:=fun w2=>len28V (w':=w2) hv
 have r36:=fun w=>S36g.call1 (P:=Tryd.prog) h36 (w:=w) ⟨i,L.length,rfl,rfl⟩
 rw [wrapG_eq (by omega)] at r36
 by_cases h0:L.length=0
 ·have:L=[]:=List.eq_nil_of_length_eq_zero h0
  subst this
  simp at hl
  simp [mc37,hl,tupV,nthI]
 ·have hb:=wrapI_bd (n:=i) (s:=L.length) (by omega)
  obtain ⟨k,hk⟩:∃ k:Nat,(k:Int)=wrapI i L.length:=⟨(wrapI i L.length).toNat,by omega⟩
  have hkl:k < L.length:=by omega
  obtain ⟨z,hz⟩:∃ z,L[k]?=some z:=⟨_,List.getElem?_eq_getElem hkl⟩
  obtain ⟨b,off,sq,c,rfl,hr⟩:=hv.at_ k hkl
  have hld:=hr.int hz
  have hia:=fun w=>ia28 w ⟨b,off,sq⟩ L.length c .i64 k hkl
  simp only [Nat.mul_one] at hia
  rw [← hk] at r36
  have hn:nthI L i=z:=by
   unfold nthI
   rw [← hk,Int.toNat_natCast,hz]
  have h0':¬ (L.length:Int)=0:=by omega
  simp [mc37,hl,h0,h0',r36,hia,hld,tupV,hn]
def withG (lo hi n:Int):Int:=IntKind.wrap .i64 (lo + wrapG n (IntKind.wrap .i64 (IntKind.wrap .i64 (hi - lo) + 1)))
theorem withG_eq {lo hi n:Int} (h:0≤lo∧lo≤hi∧hi≤100000000):withG lo hi n=withI lo hi n:=by
 have hbd:=with_in (n:=n) h.2.1
 unfold withG
 rw [wrap64_in (n:=hi - lo) (by omega) (by omega),wrap64_in (n:=hi - lo + 1) (by omega) (by omega),wrapG_eq (by omega)]
 unfold withI at hbd ⊢
 exact wrap64_in (by omega) (by omega)
def S48g:PSpec where
 R args _ v:=∃ lo hi n:Int,args=[.int .i64 lo,.int .i64 hi,.int .i64 n]∧v=.int .i64 (withG lo hi n)
 uniq:=by rintro _ _ _ _ ⟨lo,hi,n,rfl,rfl⟩ ⟨_,_,_,h,rfl⟩; cases h; rfl
 shut h:=h
theorem run48g {ov:Ov} (ho:∀ args w,ov 48 args w=none) (h36:HasP ov 36 S36g.F) (lo hi n:Int) (w:AW):∃ v w',(run Tryd.prog ov 2).call 48 [.int .i64 lo,.int .i64 hi,.int .i64 n] w .none=.ok (.ret v) w' .none∧v=.int .i64 (withG lo hi n):=by
 refine call_wp text48 (by simp) (ho _ _) ?_
 have r36:=fun s w=>S36g.call1 (P:=Tryd.prog) h36 (w:=w) ⟨n,s,rfl,rfl⟩
 simp [mc48,r36,tupV,withG]
def S38:PSpec where
 R args w v:=∃ (lv sv:Value) (l:List Int) (S:List Sp),args=[lv,sv]∧RowsV intC w lv l∧RowsV spC w sv S∧l.length≤1000∧S.length=l.length∧(∀ k x,l[k]?=some x→inn x (gtS S k))∧v=.bool true
 uniq:=by rintro _ _ _ _ ⟨_,_,_,_,_,_,_,_,_,_,rfl⟩ ⟨_,_,_,_,_,_,_,_,_,_,rfl⟩; rfl
 shut h:=h
theorem run38 {ov:Ov} (ho:∀ args w,ov 38 args w=none) (h39:HasP ov 39 S39.F) (lv sv:Value) (l:List Int) (S:List Sp) (w:AW) (hlv:RowsV intC w lv l) (hsv:RowsV spC w sv S) (hlen:l.length≤1000) (hS:S.length=l.length) (hin:∀ k x,l[k]?=some x→inn x (gtS S k)):∃ y w',(run Tryd.prog ov 2).call 38 [lv,sv] w .none=.ok (.ret y) w' .none∧y=.bool true:=by
 refine call_wp text38 (by simp) (ho _ _) ?_
 have hl1:=fun w2=>len28V (w':=w2) hlv
 have hl2:=fun w2=>len43V (w':=w2) hsv
 rw [hS] at hl2
 have r39:=fun n a b w=>S39.call1 (P:=Tryd.prog) h39 (w:=w) ⟨n,a,b,rfl,rfl⟩
 simp [mc38,hl1,hl2]
 refine wp_seqX (wp_blockX (wp_rounds (fun i t w'=>w'=w∧tget t 0=lv∧tget t 1=sv∧tget t 5=.bool true∧tget t 6=.int .i64 (i:Nat)∧i≤l.length) 2000 (by decide) ⟨rfl,by simp,by simp,by simp,by simp,Nat.zero_le _⟩ ?_))
 rintro i t w' ⟨rfl,t0,t1,t5,t6,hi⟩
 by_cases hlt:i < l.length
 ·obtain ⟨x,hx⟩:∃ p,l[i]?=some p:=⟨_,List.getElem?_eq_getElem hlt⟩
  obtain ⟨bb,off,sq,c,rfl,hra⟩:=hlv.at_ i hlt
  obtain ⟨b2,off2,sq2,c2,rfl,hrb⟩:=hsv.at_ i (by omega)
  have hld:=hra.int hx
  have s0:=hrb.rd1 spC_length (gtS_at (W:=S) (i:=i) (by omega)) (j:=0) rfl
  have s1:=hrb.rd1 spC_length (gtS_at (W:=S) (i:=i) (by omega)) (j:=1) rfl
  simp only [Nat.add_zero] at s0
  have hia:=fun w=>ia28 w ⟨bb,off,sq⟩ l.length c .i64 i hlt
  have hib:=fun w=>ia43 w ⟨b2,off2,sq2⟩ S.length c2 .i64 i (by omega)
  simp only [Nat.mul_one] at hia
  have hw1:IntKind.wrap .i64 ((i:Int) + 1)=(i:Int) + 1:=wrap64_in (by omega) (by omega)
  have hi2:inI (gtS S i).1 x (gtS S i).2=true:=by
   have:=hin i x hx
   unfold inn at this
   simp only [inI,Bool.and_eq_true,decide_eq_true_eq]
   exact this
  simp [mc38_l0,t0,t1,t5,t6,hl1,hlt,hia,hib,hld,s0,s1,r39,hi2,hw1]
  exact ⟨by omega,hlt⟩
 ·have:i=l.length:=by omega
  subst this
  simp [mc38_l0,t0,t5,t6,hl1,tupV]
end Go.Proofs.YtmemdglkkgmjnaaDoor.walk
namespace Go.Proofs.YtmemdglkkgmjnaaDoor.walk
open Go Go.Sh
set_option maxRecDepth 100000
set_option linter.unusedSimpArgs false
def genL (f:Nat→Int) (n:Nat):List Int:=(List.range n).map f
@[simp] theorem genL_length (f:Nat→Int) (n:Nat):(genL f n).length=n:=by simp [genL]
theorem genL_snoc (f:Nat→Int) (n:Nat):genL f (n + 1)=genL f n++[f n]:=by
 unfold genL
 rw [List.range_succ,List.map_append]; rfl
def losC (r:List CAct) (acts bits:List Int) (k:Nat):Int:=withI (gtS (lossL r acts) k).1 (gtS (lossL r acts) k).2 (nthI bits ((k:Int) + 2))
structure In34 (we:AW) (d:List CDay) (b:CBox) (rv dv av:Value) (ws s:Int) (f:Nat→Int) (i:Nat) (w:AW):Prop where
 box:w.heap.get we.next=some (.cells (curC rv dv b av) 30 false)
 res:w.heap.get (we.next + 1)=some (.cells [.int .i64 0,.int .i64 0,.slice none 0 0] 32 false)
 tru:∃ v,w.heap.get (we.next + 2)=some (.cells [.int .i64 ws,.int .i64 s,v] 32 false)∧AccR intC 3 (we.next + 2) w v (genL f i)
 up:Up we w
 next:we.next + 3≤w.next
set_option maxHeartbeats 4000000 in
theorem loop34 {ov:Ov} (m:Nat) (h37:HasP ov 37 S37.F) (h48:HasP ov 48 S48g.F) (r:List CAct) (d:List CDay) (b:CBox) (acts:List Int) (hact:∀ a ∈ acts,0≤a∧∃ x,r[a.toNat]?=some x) (h14:acts.length≤14) (hLb:∀ i,i < acts.length→0≤(gtS (lossL r acts) i).1∧(gtS (lossL r acts) i).1≤(gtS (lossL r acts) i).2∧(gtS (lossL r acts) i).2≤100000000) (bits:List Int) (hbl:bits.length≤2 ^ 60) (ws s:Int) (rv dv av bv:Value) (we:AW) (hlim:we.lim≤we.next) (hrv:RowsV actC we rv r) (hav:RowsV intC we av acts) (hbv:RowsV intC we bv bits)
  (Q:Ex→Tm→AW→Prop) (t:Tm) (w:AW) (hw:In34 we d b rv dv av ws s (losC r acts bits) 0 w) (t1:tget t 1=bv) (t2:tget t 2=.pointer (some ⟨we.next,0,none⟩)) (t4:tget t 4=.pointer (some ⟨we.next + 1,0,none⟩)) (t5:tget t 5=.pointer (some ⟨we.next + 2,0,none⟩)) (t6:tget t 6=.int .i64 0)
  (hQ:∀ t' w',In34 we d b rv dv av ws s (losC r acts bits) acts.length w'→tget t' 4=.pointer (some ⟨we.next + 1,0,none⟩)→tget t' 5=.pointer (some ⟨we.next + 2,0,none⟩)→Q (.exit 0) t' w'):wp (exM Tryd.prog (run Tryd.prog ov (m + 1)) (.loop mc34_l0) t w) Q:=by
 refine wp_rounds (fun i t' w'=>In34 we d b rv dv av ws s (losC r acts bits) i w'∧tget t' 1=bv∧tget t' 2=.pointer (some ⟨we.next,0,none⟩)∧tget t' 4=.pointer (some ⟨we.next + 1,0,none⟩)∧tget t' 5=.pointer (some ⟨we.next + 2,0,none⟩)∧tget t' 6=.int .i64 (i:Nat)∧i≤acts.length) 20 (by decide) ⟨hw,t1,t2,t4,t5,by simpa using t6,Nat.zero_le _⟩ ?_
 clear t1 t2 t4 t5 t6 hw
 rintro i t' w' ⟨hw,t1,t2,t4,t5,t6,hi⟩
 have hl28:=fun w2=>len28V (w':=w2) hav
 have hbox:=hw.box
 simp only [curC] at hbox
 have hnw:=hw.next
 have hlm:=hw.up.lim
 by_cases hlt:i < acts.length
 ·obtain ⟨aI,hI⟩:∃ p,acts[i]?=some p:=⟨_,List.getElem?_eq_getElem hlt⟩
  obtain ⟨ha0,x,hx⟩:=hact aI (List.mem_of_getElem? hI)
  obtain ⟨n,rfl⟩:∃ n:Nat,aI=(n:Int):=⟨aI.toNat,by omega⟩
  simp only [Int.toNat_natCast] at hx
  have hn:=(List.getElem?_eq_some_iff.1 hx).1
  have hLi:gtS (lossL r acts) i=(x.ll,x.lh):=gtS_of (lossL_at hI (by simpa using hx))
  have hLx:=hLb i hlt
  rw [hLi] at hLx
  simp only at hLx
  obtain ⟨vv,htru,hacc⟩:=hw.tru
  obtain ⟨pa,ca,rfl⟩:=hacc.rows.len
  rw [genL_length] at htru hacc
  obtain ⟨bb,off,sq,cc,rfl,hra⟩:=hav.at_ i hlt
  obtain ⟨b2,off2,sq2,c2,rfl,hrb⟩:=hrv.at_ n hn
  have hld:=hra.int hI
  have f5:rdO (we.heap.get b2) (off2 + n * 7 + 5) 2=some [.int .i64 x.ll,.int .i64 x.lh]:=rdO_sub (hrb.rd actC_length hx) (j:=5) (k:=2) (by decide)
  rw [← hw.up.at hra.2] at hld
  rw [← hw.up.at hrb.2] at f5
  have hia:=fun w=>ia28 w ⟨bb,off,sq⟩ acts.length cc .i64 i hlt
  have hib:=fun w=>ia22 w ⟨b2,off2,sq2⟩ r.length c2 .i64 n hn
  simp only [Nat.mul_one] at hia
  have hw1:IntKind.wrap .i64 ((i:Int) + 1)=(i:Int) + 1:=wrap64_in (by omega) (by omega)
  have hw2:IntKind.wrap .i64 ((i:Int) + 2)=(i:Int) + 2:=wrap64_in (by omega) (by omega)
  obtain ⟨wa,hwae⟩:∃ wa:AW,wa=⟨(w'.heap.put w'.next (some (.cells [.int .i64 0,.int .i64 0] 25 false))).put w'.next (some (.cells [.int .i64 x.ll,.int .i64 x.lh] 25 false)),w'.next + 1,w'.lim⟩:=⟨_,rfl⟩
  have ua:Up w' wa:=by rw [hwae]; exact ((Up.refl w').add _).put (Nat.le_refl _) (Nat.le_refl _)
  have hna:wa.next=w'.next + 1:=by rw [hwae]
  have hla:wa.lim=w'.lim:=ua.lim
  have hacca:=hacc.keep (w':=wa) (fun x _ h=>ua.at h) ua.next
  have r37:=S37.call (P:=Tryd.prog) h37 (m:=m) (w:=wa) ⟨bv,bits,(i:Int) + 2,rfl,hbv.up (hw.up.trans ua),hbl,rfl⟩
  have r48:=fun w=>S48g.call (P:=Tryd.prog) h48 (m:=m) (w:=w) ⟨x.ll,x.lh,nthI bits ((i:Int) + 2),rfl,rfl⟩
  have ef:withG x.ll x.lh (nthI bits ((i:Int) + 2))=losC r acts bits i:=by unfold losC; rw [hLi,withG_eq (by omega)]
  rw [ef] at r48
  obtain ⟨v',w2,ha',hacc',hkp,hn2,hl'⟩:=AccR.push (P:=Tryd.prog) (st:=28) (sz:=1) list28 elem28 sz3 small3 intC_length (fun _=>rfl) (by decide) hacca (by omega) (by omega) (by simp; omega) (losC r acts bits i)
  rw [← genL_snoc] at hacc'
  obtain ⟨pb,cb,hvb⟩:=hacc'.rows.len
  rw [genL_length] at hvb
  subst hvb
  rw [hwae] at ha' r37
  simp only [intC] at ha'
  have e0:¬ bb=w'.next:=by have:=hra.2; omega
  have e1:¬ we.next=w'.next:=by omega
  have e2:¬ we.next + 2=w'.next:=by omega
  have e5:¬ we.next + 1=w'.next:=by omega
  have e6:¬ we.next + 2=w'.next + 1:=by omega
  have e7:¬ we.next=w'.next + 1:=by omega
  have e4:¬ b2=w'.next:=by have:=hrb.2; omega
  have g2:w2.heap.get (we.next + 2)=some (.cells [.int .i64 ws,.int .i64 s,.slice pa i ca] 32 false):=by rw [hkp _ (Nat.le_refl _),ua.at (by omega)]; exact htru
  have lw:w'.lim≤w'.next:=by omega
  have lw2:w2.lim≤we.next + 2:=by omega
  simp [mc34_l0,t1,t2,t4,t5,t6,hbox,hl28,hlt,hia,hib,hld,f5,e0,e1,e2,e4,e5,e6,e7,lw,htru,hw1,hw2,r37,r48,ha',g2,lw2]
  refine ⟨by omega,⟨?_,?_,⟨.slice pb (i + 1) cb,by simp,?_⟩,?_,?_⟩,hlt⟩
  ·show (w2.heap.put _ _).get we.next=_
   rw [get_put,if_neg (by omega),hkp _ (by omega),ua.at (by omega)]; exact hw.box
  ·show (w2.heap.put _ _).get (we.next + 1)=_
   rw [get_put,if_neg (by omega),hkp _ (by omega),ua.at (by omega)]; exact hw.res
  ·exact hacc'.keep (fun y h1 h2=>by show (w2.heap.put _ _).get y=_; rw [get_put,if_neg (by omega)]) (Nat.le_refl _)
  ·refine ⟨fun y hy=>?_,by show we.next≤w2.next; omega,by show w2.lim=we.lim; omega⟩
   show (w2.heap.put _ _).get y=_
   rw [get_put,if_neg (by omega),hkp _ (by omega),ua.at (by omega)]
   exact hw.up.at hy
  ·show we.next + 3≤w2.next; omega
 ·have:i=acts.length:=by omega
  subst this
  simp [mc34_l0,t2,t6,hbox,hl28]
  exact hQ _ _ hw (by simp [t4]) (by simp [t5])
set_option maxHeartbeats 4000000 in
theorem call34 {ov:Ov} (m:Nat) (ho:∀ args w,ov 34 args w=none) (h37:HasP ov 37 S37.F) (h48:HasP ov 48 S48g.F) (r:List CAct) (d:List CDay) (b:CBox) (acts:List Int) (hact:∀ a ∈ acts,0≤a∧∃ x,r[a.toNat]?=some x) (h14:acts.length≤14) (hLb:∀ i,i < acts.length→0≤(gtS (lossL r acts) i).1∧(gtS (lossL r acts) i).1≤(gtS (lossL r acts) i).2∧(gtS (lossL r acts) i).2≤100000000) (bits:List Int) (hbl:bits.length≤2 ^ 60) (rv dv av bv:Value) (we:AW) (hlim:we.lim≤we.next) (hrv:RowsV actC we rv r) (hav:RowsV intC we av acts) (hbv:RowsV intC we bv bits) :
  ∃ v w',(run Tryd.prog ov (m + 2)).call 34 [.agg ⟨curC rv dv b av⟩,bv] we .none=.ok (.ret v) w' .none∧(∃ lv,v=.agg ⟨[.int .i64 (withG b.wl b.wh (nthI bits 0)),.int .i64 (withG b.sl b.sh (nthI bits 1)),lv]⟩∧RowsV intC w' lv (genL (losC r acts bits) acts.length))∧Up we w':=by
 refine call_wp text34 (by simp) (ho _ _) ?_
 have r37:=fun i w hv=>S37.call (P:=Tryd.prog) h37 (m:=m) (w:=w) ⟨bv,bits,i,rfl,hv,hbl,rfl⟩
 have r48:=fun lo hi n w=>S48g.call (P:=Tryd.prog) h48 (m:=m) (w:=w) ⟨lo,hi,n,rfl,rfl⟩
 obtain ⟨w1,hw1e⟩:∃ w1:AW,w1=⟨((we.heap.put we.next (some (.cells (curC rv dv b av) 30 false))).put (we.next + 1) (some (.cells [.int .i64 0,.int .i64 0,.slice none 0 0] 32 false))).put (we.next + 1 + 1) (some (.cells [.int .i64 0,.int .i64 0,.slice none 0 0] 32 false)),we.next + 1 + 1 + 1,we.lim⟩:=⟨_,rfl⟩
 have u1:Up we w1:=by rw [hw1e]; exact (((Up.refl we).add _).put (Nat.le_succ _) (Nat.le_succ _)).put (by show we.next≤we.next + 1 + 1; omega) (Nat.le_succ _)
 have r0:=r37 0 w1 (hbv.up u1)
 have r1:=r37 1 w1 (hbv.up u1)
 rw [hw1e] at r0 r1
 have lw:we.lim≤we.next + 1 + 1:=by omega
 simp only [curC] at r0 r1 ⊢
 simp [mc34,cellsOf_agg,r0,r1,r48,lw]
 refine wp_seqX (wp_blockX (loop34 (d:=d) (b:=b) (dv:=dv) (ws:=withG b.wl b.wh (nthI bits 0)) (s:=withG b.sl b.sh (nthI bits 1)) m h37 h48 r acts hact h14 hLb bits hbl rv av bv we hlim hrv hav hbv _ _ _ ⟨by simp [curC],by simp,⟨.slice none 0 0,by simp,AccR.nil⟩,?_,by simp only; omega⟩ (by simp) (by simp) (by simp) (by simp) (by simp) ?_))
 ·exact ((((Up.refl we).add _).put (Nat.le_succ _) (Nat.le_succ _)).put (by show we.next≤we.next + 1 + 1; omega) (Nat.le_succ _)).put (by show we.next≤we.next + 1 + 1; omega) (Nat.le_refl _)
 rintro t' w' hw t4 t5
 obtain ⟨vv,htru,hacc⟩:=hw.tru
 obtain ⟨pa,ca,rfl⟩:=hacc.rows.len
 rw [genL_length] at htru hacc
 have hres:=hw.res
 have hlm:=hw.up.lim
 have hnx:=hw.next
 have lw2:w'.lim≤we.next + 1:=by omega
 simp [blockQ,t4,t5,htru,hres,lw2,tupV]
 refine ⟨?_,hw.up.put (by omega) (Nat.le_refl _)⟩
 have u3:AccR intC 3 (we.next + 2) ⟨w'.heap.put (we.next + 1) (some (.cells [.int .i64 (withG b.wl b.wh (nthI bits 0)),.int .i64 (withG b.sl b.sh (nthI bits 1)),.slice pa acts.length ca] 32 false)),w'.next,w'.lim⟩ (.slice pa acts.length ca) (genL (losC r acts bits) acts.length):=hacc.keep (fun y h1 h2=>by show (w'.heap.put _ _).get y=_; rw [get_put,if_neg (by omega)]) (Nat.le_refl _)
 exact u3.rows
end Go.Proofs.YtmemdglkkgmjnaaDoor.walk
namespace Go.Proofs.YtmemdglkkgmjnaaDoor.walk
open Go Go.Sh
set_option maxRecDepth 100000
set_option linter.unusedSimpArgs false
def rdC (W bits:List Int) (i:Nat):CRead:=⟨wrapI (nthI bits (3 * (i:Int))) W.length,max 0 (W.getD (wrapI (nthI bits (3 * (i:Int))) W.length).toNat 0 - wrapI (nthI bits (3 * (i:Int) + 1)) 30 + wrapI (nthI bits (3 * (i:Int) + 2)) (2 * wrapI (nthI bits (3 * (i:Int) + 1)) 30 + 1)),wrapI (nthI bits (3 * (i:Int) + 1)) 30⟩
def rdCs (W bits:List Int) (n:Nat):List CRead:=(List.range n).map (rdC W bits)
@[simp] theorem rdCs_length (W bits:List Int) (n:Nat):(rdCs W bits n).length=n:=by simp [rdCs]
theorem rdCs_snoc (W bits:List Int) (n:Nat):rdCs W bits (n + 1)=rdCs W bits n++[rdC W bits n]:=by
 unfold rdCs
 rw [List.range_succ,List.map_append]; rfl
set_option maxHeartbeats 4000000 in
theorem call35 {ov:Ov} (m:Nat) (ho:∀ args w,ov 35 args w=none) (h36:HasP ov 36 S36g.F) (h37:HasP ov 37 S37.F) (W:List Int) (hW:1≤W.length∧W.length≤1000) (hWb:∀ y ∈ W,0≤y∧y≤1000000) (bits:List Int) (hbl:bits.length≤2 ^ 60) (many:Nat) (hm:many≤10) (wv bv:Value) (we:AW) (hlim:we.lim < we.next) (hwv:RowsV intC we wv W) (hbv:RowsV intC we bv bits) :
  ∃ v w',(run Tryd.prog ov (m + 2)).call 35 [wv,bv,.int .i64 (many:Nat)] we .none=.ok (.ret v) w' .none∧(AccR readC 72 (we.next - 1) w' v (rdCs W bits many)∧notJunk v=some v)∧Up we w':=by
 refine call_wp text35 (by simp) (ho _ _) ?_
 have hl28:=fun w2=>len28V (w':=w2) hwv
 simp [mc35]
 refine wp_seqX (wp_blockX (wp_rounds (fun i t w'=>Up we w'∧AccR readC 72 (we.next - 1) w' (tget t 7) (rdCs W bits i)∧tget t 0=wv∧tget t 1=bv∧tget t 2=.int .i64 (many:Nat)∧tget t 8=.int .i64 (i:Nat)∧i≤many) 20 (by decide) ⟨Up.refl _,by simpa [rdCs] using AccR.nil,by simp,by simp,by simp,by simp,Nat.zero_le _⟩ ?_))
 rintro i t w' ⟨hup,hacc,t0,t1,t2,t8,hi⟩
 have hnx:=hup.next
 have hlm:=hup.lim
 by_cases hlt:i < many
 ·have w3:IntKind.wrap .i64 (3 * (i:Int))=3 * (i:Int):=wrap64_in (by omega) (by omega)
  have w31:IntKind.wrap .i64 (3 * (i:Int) + 1)=3 * (i:Int) + 1:=wrap64_in (by omega) (by omega)
  have w32:IntKind.wrap .i64 (3 * (i:Int) + 2)=3 * (i:Int) + 2:=wrap64_in (by omega) (by omega)
  have wi:IntKind.wrap .i64 ((i:Int) + 1)=(i:Int) + 1:=wrap64_in (by omega) (by omega)
  have r37:=fun j=>S37.call (P:=Tryd.prog) h37 (m:=m) (w:=w') ⟨bv,bits,j,rfl,hbv.up hup,hbl,rfl⟩
  have r36:=fun n s (hs:s≤2 ^ 60) w=>(by
   have:=S36g.call (P:=Tryd.prog) h36 (m:=m) (w:=w) ⟨n,s,rfl,rfl⟩
   rwa [wrapG_eq hs] at this:(run Tryd.prog ov (m + 1)).call 36 [.int .i64 n,.int .i64 s] w .none=.ok (.ret (.int .i64 (wrapI n s))) w .none)
  have bd:=wrapI_bd (n:=nthI bits (3 * (i:Int))) (s:=W.length) (by omega)
  have bw:=wrapI_bd (n:=nthI bits (3 * (i:Int) + 1)) (s:=30) (by omega)
  obtain ⟨D,hD⟩:∃ D:Nat,(D:Int)=wrapI (nthI bits (3 * (i:Int))) W.length:=⟨(wrapI (nthI bits (3 * (i:Int))) W.length).toNat,by omega⟩
  obtain ⟨wr,hwr⟩:∃ wr,wr=wrapI (nthI bits (3 * (i:Int) + 1)) 30:=⟨_,rfl⟩
  rw [← hwr] at bw
  have be:=wrapI_bd (n:=nthI bits (3 * (i:Int) + 2)) (s:=2 * wr + 1) (by omega)
  obtain ⟨e,hee⟩:∃ e,e=wrapI (nthI bits (3 * (i:Int) + 2)) (2 * wr + 1):=⟨_,rfl⟩
  rw [← hee] at be
  have hDl:D < W.length:=by omega
  obtain ⟨y,hy⟩:∃ y,W[D]?=some y:=⟨_,List.getElem?_eq_getElem hDl⟩
  have hyb:=hWb y (List.mem_of_getElem? hy)
  have r36a:=r36 (nthI bits (3 * (i:Int))) W.length (by omega)
  have r36b:=r36 (nthI bits (3 * (i:Int) + 1)) 30 (by decide)
  have r36c:=r36 (nthI bits (3 * (i:Int) + 2)) (2 * wr + 1) (by omega)
  rw [← hD] at r36a
  rw [← hwr] at r36b
  rw [← hee] at r36c
  have hrd:rdC W bits i=⟨D,max 0 (y - wr + e),wr⟩:=by
   unfold rdC
   rw [← hwr,← hee,← hD,Int.toNat_natCast,List.getD_eq_getElem?_getD,hy]; rfl
  obtain ⟨bb,off,sq,c,rfl,hra⟩:=hwv.at_ D hDl
  have hld:=hra.int hy
  rw [← hup.at hra.2] at hld
  have hia:=fun w=>ia28 w ⟨bb,off,sq⟩ W.length c .i64 D hDl
  simp only [Nat.mul_one] at hia
  have ws1:IntKind.wrap .i64 (y - wr)=y - wr:=wrap64_in (by omega) (by omega)
  have ws2:IntKind.wrap .i64 (2 * wr)=2 * wr:=wrap64_in (by omega) (by omega)
  have ws3:IntKind.wrap .i64 (2 * wr + 1)=2 * wr + 1:=wrap64_in (by omega) (by omega)
  have ws4:IntKind.wrap .i64 (y - wr + e)=y - wr + e:=wrap64_in (by omega) (by omega)
  obtain ⟨v',w2,ha',hacc',hkp,hn2,hl'⟩:=AccR.push (P:=Tryd.prog) (st:=42) (sz:=3) list42 elem42 sz72 small72 readC_length (fun _=>rfl) (by decide) hacc (by omega) (by omega) (by simp; omega) (rdC W bits i)
  rw [← rdCs_snoc] at hacc'
  rw [hrd] at ha'
  simp only [readC] at ha'
  simp [mc35_l0,t0,t1,t2,t8,hlt,ha',w3,w31,w32,wi,r37,hl28,r36a,r36b,hia,hld,ws1,ws2,ws3,r36c,ws4]
  exact ⟨by omega,⟨fun q hq=>by rw [hkp q (by omega)]; exact hup.old q hq,by omega,by omega⟩,hacc',hlt⟩
 ·have hi':i=many:=by omega
  subst hi'
  have nj:=hacc.ok
  simp [mc35_l0,t2,t8,nj,tupV]
  exact ⟨hacc,hup⟩
end Go.Proofs.YtmemdglkkgmjnaaDoor.walk
namespace Go.Proofs.YtmemdglkkgmjnaaDoor.walk
open Go Go.Sh
set_option maxRecDepth 100000
set_option linter.unusedSimpArgs false
theorem fold_of:∀ {l:List CRead} {s:Sp} {x:Int},inn x s→(∀ p ∈ l,inn x (readS p))→inn x (foldR l s)
 | [],_,_,h,_=>h
 | q::l,s,x,h,k=>by
  have hq:=k q List.mem_cons_self
  refine fold_of (l:=l) (s:=bothS s (readS q)) ?_ fun p hp=>k p (List.mem_cons_of_mem _ hp)
  unfold inn bothS at *
  simp only
  omega
theorem allIn_at:∀ {L:List Sp} {ls:List Int} {i:Nat} {y:Int},ls.length=L.length→allIn ls L=true→ls[i]?=some y→inn y (gtS L i)
 | [],ls,i,y,hl,_,h=>by
  have:=(List.getElem?_eq_some_iff.1 h).1
  simp at hl
  rw [hl] at this; simp at this
 | s::L,[],i,y,hl,_,h=>by simp at h
 | s::L,a::t,0,y,hl,ha,h=>by
  have ha':(inI s.1 a s.2 && allIn t L)=true:=ha
  simp only [inI,Bool.and_eq_true,decide_eq_true_eq] at ha'
  cases h
  rw [gtS_of (s:=s) rfl]
  exact ha'.1
 | s::L,a::t,i + 1,y,hl,ha,h=>by
  have ha':(inI s.1 a s.2 && allIn t L)=true:=ha
  simp only [Bool.and_eq_true] at ha'
  exact allIn_at (L:=L) (ls:=t) (i:=i) (by simpa using hl) ha'.2 (by simpa using h)
def truX (ws s:Int) (ls:List Int) (k:Nat):Int:=if k=ls.length + 1 then s else ws - (ls.take k).sum
theorem truX_at {ws s:Int} {ls:List Int} {k:Nat} (h:k≤ls.length):(wtsL ws ls)[k]?=some (truX ws s ls k):=by
 rw [wtsL_at _ _ _ h]
 unfold truX
 rw [if_neg (by omega)]
theorem tru_sol {b:CBox} {L:List Sp} {ws s:Int} {ls:List Int} {l:List CRead} (hb:boxB b=true) (hlen:L.length≤14) (hL:LosW (losL L)) (h:truB b L ws s ls=true) (hf:∀ p ∈ l,0≤p.day∧p.day≤L.length→inn (truX ws s ls p.day.toNat) (readS p)):SolS (L.length + 1) (gtS (losL L)) (gtS (iniW b L l)) (truX ws s ls):=by
 have hbx:=hb
 simp only [boxB,spanI,Bool.and_eq_true,decide_eq_true_eq] at hbx
 simp only [truB,inI,Bool.and_eq_true,decide_eq_true_eq] at h
 obtain ⟨h1,h2,h3,h4,h5⟩:=h
 have hstep:∀ i,i < L.length→inn (truX ws s ls i - truX ws s ls (i + 1)) (gtS L i):=fun i hi=>by
  obtain ⟨y,hy⟩:∃ y,ls[i]?=some y:=⟨_,List.getElem?_eq_getElem (by omega)⟩
  have:=allIn_at h3 h4 hy
  unfold truX
  rw [if_neg (by omega),if_neg (by omega),take_snoc hy,List.sum_append]
  unfold inn at this ⊢
  simp only [List.sum_cons,List.sum_nil]
  omega
 have hx0:truX ws s ls 0=ws:=by unfold truX; rw [if_neg (by omega)]; simp
 have hxn:truX ws s ls L.length=ws - ls.sum:=by unfold truX; rw [if_neg (by omega),← h3,List.take_length]
 have hxN:truX ws s ls (L.length + 1)=s:=by unfold truX; rw [h3,if_pos rfl]
 have hmono:∀ j,j≤L.length→truX ws s ls L.length≤truX ws s ls (L.length - j)∧(∀ k,k≤j→truX ws s ls k≤ws):=by
  intro j
  induction j with
  | zero=>intro _; exact ⟨Int.le_refl _,fun k hk=>by rw [show k=0 by omega,hx0]; exact Int.le_refl _⟩
  | succ j ih =>
   intro hj
   obtain ⟨i1,i2⟩:=ih (by omega)
   have s1:=hstep (L.length - (j + 1)) (by omega)
   rw [show L.length - (j + 1) + 1=L.length - j by omega] at s1
   have s2:=hstep j (by omega)
   have l1:=hL (L.length - (j + 1))
   have l2:=hL j
   rw [los_at (by omega)] at l1 l2
   unfold inn at s1 s2
   refine ⟨by omega,fun k hk=>?_⟩
   by_cases e:k=j + 1
   ·subst e
    have:=i2 j (Nat.le_refl _)
    omega
   ·exact i2 k (by omega)
 have hb2:∀ k,k≤L.length→s≤truX ws s ls k∧truX ws s ls k≤ws:=fun k hk=>by
  have a1:=(hmono (L.length - k) (by omega)).1
  rw [show L.length - (L.length - k)=k by omega] at a1
  have a2:=(hmono L.length (Nat.le_refl _)).2 k hk
  omega
 refine ⟨fun i hi=>?_,fun i hi=>?_⟩
 ·rw [iniW_at hlen hi]
  by_cases e:i=L.length + 1
  ·subst e
   unfold iniF iniG
   rw [if_neg (by omega),if_pos rfl,hxN]
   exact h2
  ·unfold iniF
   rw [if_pos (by omega)]
   refine fold_of ?_ fun p hp=>?_
   ·have hbi:=hb2 i (by omega)
    unfold iniG
    rw [if_neg e]
    by_cases e0:i=0
    ·rw [if_pos e0,e0,hx0]; exact h1
    ·rw [if_neg e0,if_pos (by omega)]
     unfold inn
     simp only
     omega
   ·unfold onDay at hp
    obtain ⟨hp1,hp2⟩:=List.mem_filter.1 hp
    have hd:p.day=(i:Int):=by simpa using hp2
    have:=hf p hp1 (by omega)
    rwa [show p.day.toNat=i by omega] at this
 ·by_cases e:i=L.length
  ·subst e
   have e2:gtS (losL L) L.length=(0,1000000):=by
    unfold gtS losL
    rw [List.getD_eq_getElem?_getD,List.getElem?_append_right (Nat.le_refl _),Nat.sub_self]; rfl
   rw [e2,hxn,hxN]
   have:=hb2 L.length (Nat.le_refl _)
   rw [hxn] at this
   unfold inn
   simp only
   omega
  ·rw [los_at (by omega)]
   exact hstep i (by omega)
end Go.Proofs.YtmemdglkkgmjnaaDoor.walk
namespace Go.Proofs.YtmemdglkkgmjnaaDoor.walk
open Go Go.Sh
set_option maxRecDepth 100000
set_option linter.unusedSimpArgs false
theorem sol_less {b:CBox} {L:List Sp} {l l':List CRead} (hlen:L.length≤14) (hs:∀ p ∈ l',p ∈ l) {x:Nat→Int} (h:SolS (L.length + 1) (gtS (losL L)) (gtS (iniW b L l)) x):SolS (L.length + 1) (gtS (losL L)) (gtS (iniW b L l')) x:=by
 refine ⟨fun i hi=>?_,h.2⟩
 have h1:=h.1 i hi
 rw [iniW_at hlen hi] at h1 ⊢
 unfold iniF at h1 ⊢
 by_cases e:i < L.length + 1
 ·rw [if_pos e] at h1 ⊢
  obtain ⟨h2,h3⟩:=fold_in h1
  refine fold_of h2 fun p hp=>h3 p ?_
  unfold onDay at hp ⊢
  obtain ⟨p1,p2⟩:=List.mem_filter.1 hp
  exact List.mem_filter.2 ⟨hs p p1,p2⟩
 ·rw [if_neg e] at h1 ⊢; exact h1
theorem wei_some {b:CBox} {L:List Sp} {l:List CRead} (hlen:L.length≤14) {x:Nat→Int} (h:SolS (L.length + 1) (gtS (losL L)) (gtS (iniW b L l)) x):∃ V,weighF b L l=some V:=by
 cases hV:weighF b L l with
 | some V=>exact ⟨V,rfl⟩
 | none =>
  exfalso
  unfold weighF at hV
  rw [losL_length] at hV
  exact nar_none (by show L.length + 1 < (iniW b L l).length; simp [iniW]; omega) hV _ h
theorem mo_in {b:CBox} {L V D:List Sp} {l:List CRead} (hL:LosW (losL L)) (_hlen:L.length≤14) (ok:WeiOk L V (iniW b L l)) (dok:DryOk L V D) {x:Nat→Int} (h:SolS (L.length + 1) (gtS (losL L)) (gtS (iniW b L l)) x) {k:Nat} (hk:k≤L.length):moI (gtS D k).1 (gtS V (L.length + 1)).2≤moI (x k) (x (L.length + 1))∧moI (x k) (x (L.length + 1))≤moI (gtS V k).2 (gtS V (L.length + 1)).1:=by
 have hx:=(ok.sol x).2 h
 have fx:=mo_fits hL ok dok (k:=k) (by omega)
 have hxk:=hx.1 k (by omega)
 have hxN:=hx.1 (L.length + 1) (Nat.le_refl _)
 have hNk:x (L.length + 1)≤x k:=by
  -- weights do not grow
  have:∀ j,j≤L.length + 1 - k→x (L.length + 1)≤x (L.length + 1 - j):=by
   intro j
   induction j with
   | zero=>intro _; exact Int.le_refl _
   | succ j ih =>
    intro hj
    have i1:=ih (by omega)
    have s1:=hx.2 (L.length + 1 - (j + 1)) (by omega)
    rw [show L.length + 1 - (j + 1) + 1=L.length + 1 - j by omega] at s1
    have l1:=hL (L.length + 1 - (j + 1))
    unfold inn at s1
    omega
  have:=this (L.length + 1 - k) (Nat.le_refl _)
  rwa [show L.length + 1 - (L.length + 1 - k)=k by omega] at this
 have hlo:=ok.lo
 unfold inn at hxk hxN
 refine ⟨moist_low ok.exact dok.exact (los_le hL _) h (a:=k) (by omega) (by omega) (by omega) hNk (by omega),?_⟩
 have h1:=moI_mono (x:=x k) (y:=(gtS V k).2) (s:=x (L.length + 1)) (by omega) hxk.2 (by omega)
 have h2:=moI_anti (x:=(gtS V k).2) (s:=(gtS V (L.length + 1)).1) (r:=x (L.length + 1)) (by omega) hxN.1
 omega
theorem mo_more {b:CBox} {L V D V' D':List Sp} {l l':List CRead} (hL:LosW (losL L)) (hlen:L.length≤14) (hs:∀ p ∈ l',p ∈ l) (ok:WeiOk L V (iniW b L l)) (dok:DryOk L V D) (ok':WeiOk L V' (iniW b L l')) (dok':DryOk L V' D') {k:Nat} (hk:k≤L.length):subS (gtS V k) (gtS V' k)∧subS (moI (gtS D k).1 (gtS V (L.length + 1)).2,moI (gtS V k).2 (gtS V (L.length + 1)).1) (moI (gtS D' k).1 (gtS V' (L.length + 1)).2,moI (gtS V' k).2 (gtS V' (L.length + 1)).1):=by
 have hsub:∀ i,i≤L.length + 1→subS (gtS V i) (gtS V' i):=ok'.exact.mono ok.exact (los_le hL _) fun x hx=>sol_less hlen hs hx
 refine ⟨hsub k (by omega),?_,?_⟩
 ·-- the least moisture is one
  have hne:=dok.good.ne k (by omega)
  obtain ⟨s1,s2⟩:=dok.exact.low (los_le hL _) (a:=k) (by omega) (v:=(gtS D k).1) ⟨Int.le_refl _,hne⟩
  generalize chainS (gtS (losL L)) (gtS D) k (gtS D k).1=x at s1 s2
  obtain ⟨s3,s4⟩:=sol_dry s1 (ok.good.ne (L.length + 1) (Nat.le_refl _))
  have s5:=sol_less hlen hs ((ok.sol x).1 s3)
  have:=(mo_in hL hlen ok' dok' s5 hk).1
  rw [s2,s4] at this
  exact this
 ·have hne:=ok.good.ne k (by omega)
  obtain ⟨s1,s2⟩:=ok.exact.low (los_le hL _) (a:=k) (by omega) (v:=(gtS V k).2) ⟨hne,Int.le_refl _⟩
  have f1:=mo_fits hL ok dok (k:=k) (by omega)
  have f2:=mo_fits hL ok' dok' (k:=k) (by omega)
  have a1:=(hsub k (by omega)).2
  have a2:=(hsub (L.length + 1) (Nat.le_refl _)).1
  have h1:=moI_mono (x:=(gtS V k).2) (y:=(gtS V' k).2) (s:=(gtS V (L.length + 1)).1) (by omega) a1 (by omega)
  have h2:=moI_anti (x:=(gtS V' k).2) (s:=(gtS V' (L.length + 1)).1) (r:=(gtS V (L.length + 1)).1) (by omega) a2
  simp only
  omega
end Go.Proofs.YtmemdglkkgmjnaaDoor.walk
namespace Go.Proofs.YtmemdglkkgmjnaaDoor.walk
open Go Go.Sh
set_option maxRecDepth 100000
set_option linter.unusedSimpArgs false
theorem snd_of {r:List CAct} {d:List CDay} {acts:List Int} (h:sndB r d acts=true):ruleB r=true∧daysB d=true∧∃ s,stgF r d startS acts=some s:=by
 unfold sndB canB at h
 simp only [Bool.and_eq_true,decide_eq_true_eq] at h
 obtain ⟨h1,h2⟩:=chk_of h.1
 refine ⟨h1,h2,?_⟩
 cases hs:stgF r d startS acts with
 | none=>rw [hs] at h; simp at h
 | some s=>exact ⟨s,rfl⟩
theorem snd_act {r:List CAct} {d:List CDay} {b:CBox} {acts:List Int} (h:sndB r d acts=true):actE r d b acts=0∨actE r d b acts=62:=by
 obtain ⟨h1,h2,s,hs⟩:=snd_of h
 unfold actE bxE chkE
 rw [if_pos h1,if_pos h2,if_pos rfl]
 by_cases hb:boxB b=true
 ·rw [if_pos hb,if_pos rfl,hs]; exact .inl rfl
 ·rw [if_neg hb]; exact .inr rfl
theorem snd_los {r:List CAct} (h:ruleB r=true) {acts:List Int} (hact:∀ a ∈ acts,0≤a∧∃ x,r[a.toNat]?=some x):∀ i,i < acts.length→0≤(gtS (lossL r acts) i).1∧(gtS (lossL r acts) i).1≤(gtS (lossL r acts) i).2∧(gtS (lossL r acts) i).2≤100000000:=fun i hi=>by
 obtain ⟨a,ha⟩:∃ p,acts[i]?=some p:=⟨_,List.getElem?_eq_getElem hi⟩
 obtain ⟨_,x,hx⟩:=hact a (List.mem_of_getElem? ha)
 rw [gtS_of (lossL_at ha hx)]
 exact rule_range h x (List.mem_of_getElem? hx)
theorem rdC_true {ws s:Int} {ls bits:List Int} {n:Nat} (hn:ls.length=n) (hb:∀ y ∈ wtsL ws ls,0≤y∧y≤1000000) (i:Nat):rdB n (rdC (wtsL ws ls) bits i)=true∧inn (truX ws s ls (rdC (wtsL ws ls) bits i).day.toNat) (readS (rdC (wtsL ws ls) bits i)):=by
 have hl:(wtsL ws ls).length=n + 1:=by rw [wtsL_length,hn]
 have bd:=wrapI_bd (n:=nthI bits (3 * (i:Int))) (s:=(wtsL ws ls).length) (by omega)
 have bw:=wrapI_bd (n:=nthI bits (3 * (i:Int) + 1)) (s:=30) (by omega)
 obtain ⟨D,hD⟩:∃ D:Nat,(D:Int)=wrapI (nthI bits (3 * (i:Int))) (wtsL ws ls).length:=⟨(wrapI (nthI bits (3 * (i:Int))) (wtsL ws ls).length).toNat,by omega⟩
 obtain ⟨wr,hwr⟩:∃ wr,wr=wrapI (nthI bits (3 * (i:Int) + 1)) 30:=⟨_,rfl⟩
 rw [← hwr] at bw
 have be:=wrapI_bd (n:=nthI bits (3 * (i:Int) + 2)) (s:=2 * wr + 1) (by omega)
 have hat:=truX_at (ws:=ws) (s:=s) (ls:=ls) (k:=D) (by omega)
 have hyb:=hb _ (List.mem_of_getElem? hat)
 unfold rdC
 rw [← hwr,← hD,Int.toNat_natCast,List.getD_eq_getElem?_getD,hat]
 simp only [rdB,inI,readS,inn,Option.getD_some,Bool.and_eq_true,decide_eq_true_eq,Int.toNat_natCast]
 generalize wrapI (nthI bits (3 * (i:Int) + 2)) (2 * wr + 1)=e at be
 omega
theorem loop6 {ov:Ov} (m:Nat) (A B C D:List Sp) (n:Nat) (hA:A.length=n) (hB:B.length=n) (hC:C.length=n) (hD:D.length=n) (hn:n≤16) (h1:∀ k,k < n→subS (gtS A k) (gtS C k)) (h2:∀ k,k < n→subS (gtS B k) (gtS D k)) (w:AW) (av bv cv dv:Value) (ha:RowsV spC w av A) (hb:RowsV spC w bv B) (hc:RowsV spC w cv C) (hd:RowsV spC w dv D)
  (Q:Ex→Tm→AW→Prop) (t:Tm) (t10:tget t 10=av) (t11:tget t 11=bv) (t17:tget t 17=cv) (t18:tget t 18=dv) (t19:tget t 19=.int .i64 0)
  (hQ:∀ t',Q (.exit 0) t' w):wp (exM Tryd.prog (run Tryd.prog ov (m + 1)) (.loop mc6_l0) t w) Q:=by
 refine wp_rounds (fun i t' w'=>w'=w∧tget t' 10=av∧tget t' 11=bv∧tget t' 17=cv∧tget t' 18=dv∧tget t' 19=.int .i64 (i:Nat)∧i≤n) 20 (by decide) ⟨rfl,t10,t11,t17,t18,by simpa using t19,Nat.zero_le _⟩ ?_
 clear t10 t11 t17 t18 t19
 rintro i t' w' ⟨rfl,t10,t11,t17,t18,t19,hi⟩
 have hl:=fun w2=>len43V (w':=w2) ha
 rw [hA] at hl
 by_cases hlt:i < n
 ·obtain ⟨a1,a2,a3,a4,rfl,ra⟩:=ha.at_ i (by omega)
  obtain ⟨b1,b2,b3,b4,rfl,rb⟩:=hb.at_ i (by omega)
  obtain ⟨c1,c2,c3,c4,rfl,rc⟩:=hc.at_ i (by omega)
  obtain ⟨d1,d2,d3,d4,rfl,rd⟩:=hd.at_ i (by omega)
  have fa0:=ra.rd1 spC_length (gtS_at (W:=A) (i:=i) (by omega)) (j:=0) rfl
  have fa1:=ra.rd1 spC_length (gtS_at (W:=A) (i:=i) (by omega)) (j:=1) rfl
  have fb0:=rb.rd1 spC_length (gtS_at (W:=B) (i:=i) (by omega)) (j:=0) rfl
  have fb1:=rb.rd1 spC_length (gtS_at (W:=B) (i:=i) (by omega)) (j:=1) rfl
  have fc0:=rc.rd1 spC_length (gtS_at (W:=C) (i:=i) (by omega)) (j:=0) rfl
  have fc1:=rc.rd1 spC_length (gtS_at (W:=C) (i:=i) (by omega)) (j:=1) rfl
  have fd0:=rd.rd1 spC_length (gtS_at (W:=D) (i:=i) (by omega)) (j:=0) rfl
  have fd1:=rd.rd1 spC_length (gtS_at (W:=D) (i:=i) (by omega)) (j:=1) rfl
  simp only [Nat.add_zero] at fa0 fb0 fc0 fd0
  have ia:=fun w=>ia43 w ⟨a1,a2,a3⟩ A.length a4 .i64 i (by omega)
  have ib:=fun w=>ia43 w ⟨b1,b2,b3⟩ B.length b4 .i64 i (by omega)
  have ic:=fun w=>ia43 w ⟨c1,c2,c3⟩ C.length c4 .i64 i (by omega)
  have id:=fun w=>ia43 w ⟨d1,d2,d3⟩ D.length d4 .i64 i (by omega)
  have hw1:IntKind.wrap .i64 ((i:Int) + 1)=(i:Int) + 1:=wrap64_in (by omega) (by omega)
  obtain ⟨p1,p2⟩:=h1 i hlt
  obtain ⟨p3,p4⟩:=h2 i hlt
  have e1:¬ (gtS A i).1 < (gtS C i).1:=by omega
  have e2:¬ (gtS C i).2 < (gtS A i).2:=by omega
  have e3:¬ (gtS B i).1 < (gtS D i).1:=by omega
  have e4:¬ (gtS D i).2 < (gtS B i).2:=by omega
  simp [mc6_l0,t10,t11,t17,t18,t19,hl,hlt,ia,ib,ic,id,fa0,fa1,fb0,fb1,fc0,fc1,fd0,fd1,e1,e2,e3,e4,hw1]
  exact ⟨by omega,hlt⟩
 ·have:i=n:=by omega
  subst this
  simp [mc6_l0,t10,t19,hl]
  exact hQ _
end Go.Proofs.YtmemdglkkgmjnaaDoor.walk
namespace Go.Proofs.YtmemdglkkgmjnaaDoor.walk
open Go Go.Sh
set_option maxRecDepth 100000
set_option linter.unusedSimpArgs false
set_option maxHeartbeats 8000000 in
theorem call6 {ov:Ov} (ho:∀ args w,ov 6 args w=none) (ho16:∀ args w,ov 16 args w=none) (ho20:∀ args w,ov 20 args w=none) (ho23:∀ args w,ov 23 args w=none) (ho25:∀ args w,ov 25 args w=none) (ho27:∀ args w,ov 27 args w=none) (ho34:∀ args w,ov 34 args w=none) (ho35:∀ args w,ov 35 args w=none) (ho57:∀ args w,ov 57 args w=none) (ho59:∀ args w,ov 59 args w=none) (ho62:∀ args w,ov 62 args w=none) (ho63:∀ args w,ov 63 args w=none) (ho66:∀ args w,ov 66 args w=none) (ho69:∀ args w,ov 69 args w=none) (ho83:∀ args w,ov 83 args w=none) (ho90:∀ args w,ov 90 args w=none) (ho91:∀ args w,ov 91 args w=none)
  (h33:HasP ov 33 S33.F) (h36:HasP ov 36 S36g.F) (h37:HasP ov 37 S37.F) (h38:HasP ov 38 S38.F) (h39:HasP ov 39 S39.F) (h48:HasP ov 48 S48g.F) (h56:HasP ov 56 S56.F) (h58:HasP ov 58 S58.F) (h64:HasP ov 64 S64.F) (h68:HasP ov 68 S68.F) (h84:HasP ov 84 S84.F) (h86:HasP ov 86 S86.F) (h88:HasP ov 88 S88.F) (h105:HasP ov 105 S105.F) (hW:HasW ov)
  (r:List CAct) (d:List CDay) (b:CBox) (acts:List Int) (bits:List Int) (hbl:bits.length≤2 ^ 60) (rv dv av bv:Value) (w:AW) (hl:w.lim=w.next) (hL:LimW w) (hrv:RowsV actC w rv r) (hdv:RowsV cdayC w dv d) (hav:RowsV intC w av acts) (hbv:RowsV intC w bv bits) :
  ∃ x w',(run Tryd.prog ov 6).call 6 [.agg ⟨curC rv dv b av⟩,bv] w .none=.ok (.ret x) w' .none∧x=.bool true:=by
 refine call_wp text6 (by simp) (ho _ _) ?_
 obtain ⟨w1,hw1e⟩:∃ w1:AW,w1=⟨w.heap.put w.next (some (.cells [rv,dv,.int .i64 b.wl,.int .i64 b.wh,.int .i64 b.sl,.int .i64 b.sh,av] 30 false)),w.next + 1,w.lim⟩:=⟨_,rfl⟩
 have u1:Up w w1:=by rw [hw1e]; exact (Up.refl w).add _
 have m1:w1.next=w.next + 1:=by rw [hw1e]
 have l1:w1.lim=w.lim:=u1.lim
 have g2:w1.heap.get w.next=some (.cells [rv,dv,.int .i64 b.wl,.int .i64 b.wh,.int .i64 b.sl,.int .i64 b.sh,av] 30 false):=by rw [hw1e]; simp
 have rW:=fun (w:AW) hw=>ruleW hW 4 (w:=w) hw
 have r33:=S33.call (P:=Tryd.prog) h33 (m:=4) (w:=w1) ⟨rv,dv,av,r,d,b,acts,rfl,hrv.up u1,hdv.up u1,hav.up u1,hL.up u1,rfl⟩
 have rW1:=rW w1 (hL.up u1).1
 simp only [curC,Nat.reduceAdd] at r33 rW1 ⊢
 by_cases hs:sndB r d acts=true
 case neg =>
  rw [hw1e] at r33 rW1
  simp [mc6,cellsOf_agg,r33,hs,rW1,tupV]
 rw [hs] at r33
 obtain ⟨hR,hDy,st,hst⟩:=snd_of hs
 have h14:acts.length≤14:=by have:=stg_len hR hst; have:=days_len hDy; omega
 have hact:=stg_acts _ _ _ hst
 obtain ⟨v2,w2,c34,⟨lv,rfl,hlv⟩,u2⟩:=call34 (ov:=ov) 3 ho34 h37 h48 r d b acts hact h14 (snd_los hR hact) bits hbl rv dv av bv w1 (by omega) (hrv.up u1) (hav.up u1) (hbv.up u1)
 obtain ⟨ws,hwse⟩:∃ ws,ws=withG b.wl b.wh (nthI bits 0):=⟨_,rfl⟩
 obtain ⟨s,hse⟩:∃ s,s=withG b.sl b.sh (nthI bits 1):=⟨_,rfl⟩
 obtain ⟨ls,hlse⟩:∃ ls,ls=genL (losC r acts bits) acts.length:=⟨_,rfl⟩
 rw [← hwse,← hse] at c34
 rw [← hlse] at hlv
 have hlsl:ls.length=acts.length:=by rw [hlse,genL_length]
 have u02:=u1.trans u2
 have hn2:=u2.next
 have hm2:=u02.lim
 obtain ⟨pl,ql,rfl⟩:=hlv.len
 obtain ⟨w3,hw3e⟩:∃ w3:AW,w3=⟨(w2.heap.put w2.next (some (.cells [.int .i64 0,.int .i64 0,.slice none 0 0] 32 false))).put w2.next (some (.cells [.int .i64 ws,.int .i64 s,.slice pl ls.length ql] 32 false)),w2.next + 1,w2.lim⟩:=⟨_,rfl⟩
 have u3:Up w2 w3:=by rw [hw3e]; exact ((Up.refl w2).add _).put (Nat.le_refl _) (Nat.le_refl _)
 have m3:w3.next=w2.next + 1:=by rw [hw3e]
 have u03:=u02.trans u3
 have hm3:=u03.lim
 have g35:w3.heap.get w2.next=some (.cells [.int .i64 ws,.int .i64 s,.slice pl ls.length ql] 32 false):=by rw [hw3e]; simp
 have g22:w2.heap.get w.next=_:=(u2.at (by omega)).trans g2
 obtain ⟨v4,w4,c16,⟨wv,mv,rfl,hwr,hmr,u4⟩⟩:=call16 (ov:=ov) 2 ho16 ho57 ho59 ho83 h56 h58 h84 r d b acts ws s ls rv dv av _ w3 (by omega) (hL.up u03) (hrv.up u03) (hdv.up u03) (hav.up u03) (hlv.up u3)
 have u04:=u03.trans u4
 have hn4:=u4.next
 have hm4:=u04.lim
 have g42:w4.heap.get w.next=_:=((u3.trans u4).at (by omega)).trans g22
 have g45:w4.heap.get w2.next=_:=(u4.at (by omega)).trans g35
 have ea:¬ w.next=w2.next:=by omega
 have lw2:w2.lim≤w2.next:=by omega
 have rW4:=rW w4 (hL.up u04).1
 simp only [boxC,curC,Nat.reduceAdd] at c34 c16 rW4
 have hcase:folE r d b acts ws s ls=0∨folE r d b acts ws s ls=62∨folE r d b acts ws s ls=66:=by
  unfold folE
  rcases snd_act (b:=b) hs with h | h
  ·rw [if_pos h]; split <;> simp
  ·rw [if_neg (by omega),h]; simp
 rw [hw1e] at r33 c34
 rw [hw3e] at c16
 rcases hcase with hE | hE | hE
 case inr.inl =>
  rw [hE] at c16
  simp [mc6,cellsOf_agg,r33,c34,lw2,g22,ea,c16,rW4,tupV]
 case inr.inr =>
  rw [hE] at c16
  simp [mc6,cellsOf_agg,r33,c34,lw2,g22,ea,c16,rW4,tupV]
 have eW:folW r d b acts ws s ls=wtsL ws ls:=by unfold folW; rw [if_pos hE]
 have eM:folM r d b acts ws s ls=mosL ws s ls:=by unfold folM; rw [if_pos hE]
 rw [hE] at c16
 rw [eW] at hwr
 rw [eM] at hmr
 have hA:actE r d b acts=0:=by
  unfold folE at hE
  by_cases h:actE r d b acts=0
  ·exact h
  ·rw [if_neg h] at hE; exact absurd hE h
 have hT:truB b (lossL r acts) ws s ls=true:=by
  unfold folE at hE
  rw [if_pos hA] at hE
  by_cases h:truB b (lossL r acts) ws s ls=true
  ·exact h
  ·rw [if_neg h] at hE; cases hE
 have hLl:(lossL r acts).length=acts.length:=lossL_length r acts
 have hb:=(act_ofE hA).2.2.1
 have hlos:=los_ok hA
 have hTok:=(tru_ok hA).1
 have hbx:=hb
 simp only [boxB,spanI,Bool.and_eq_true,decide_eq_true_eq] at hbx
 have hTT:=hT
 simp only [truB,inI,Bool.and_eq_true,decide_eq_true_eq] at hTT
 obtain ⟨t1,t2,t3,t4,t5⟩:=hTT
 have hls:LossOk ls:=allIn_ok t3 hTok.sp t4
 have hWb:∀ y ∈ wtsL ws ls,0≤y∧y≤1000000:=fun y hy=>by
  obtain ⟨k,hk,rfl⟩:=List.mem_iff_getElem.1 hy
  have:=wts_bd hls t5 (List.getElem?_eq_getElem hk)
  omega
 have hwl:(wtsL ws ls).length=acts.length + 1:=by rw [wtsL_length,hlsl]
 have hml:(mosL ws s ls).length=acts.length + 1:=by unfold mosL; rw [List.length_map,hwl]
 obtain ⟨M,hM⟩:∃ M:Nat,(M:Int)=1 + wrapI (nthI bits 4) 4:=⟨(1 + wrapI (nthI bits 4) 4).toNat,by have:=wrapI_bd (n:=nthI bits 4) (s:=4) (by omega); omega⟩
 have hMb:=wrapI_bd (n:=nthI bits 4) (s:=4) (by omega)
 obtain ⟨v5,w5,c35,⟨hacc,nj5⟩,u5⟩:=call35 (ov:=ov) 3 ho35 h36 h37 (wtsL ws ls) (by omega) hWb bits hbl M (by omega) wv bv w4 (by omega) hwr (hbv.up u04)
 have u05:=u04.trans u5
 have hn5:=u5.next
 have hm5:=u05.lim
 obtain ⟨l,hle⟩:∃ l,l=rdCs (wtsL ws ls) bits M:=⟨_,rfl⟩
 have hlM:l.length=M:=by rw [hle,rdCs_length]
 have hrl:RowsV readC w5 v5 l:=by rw [hle]; exact hacc.rows
 obtain ⟨B,rfl,hB,hBn⟩:∃ B,v5=.slice (some ⟨B,0,none⟩) M M∧w5.heap.get B=some (.cells (l.flatMap readC) 72 false)∧B < w5.next:=by
  rcases hacc with ⟨h,_⟩ | ⟨B,h1,h2,h3,h4,_⟩
  ·have:=congrArg List.length h
   rw [rdCs_length] at this
   simp at this; omega
  ·rw [rdCs_length] at h1
   exact ⟨B,h1,by rw [hle]; exact h2,h4⟩
 -- what the readings are
 have hall:∀ p ∈ l,rdB acts.length p=true∧inn (truX ws s ls p.day.toNat) (readS p):=fun p hp=>by
  rw [hle] at hp
  unfold rdCs at hp
  obtain ⟨i,_,rfl⟩:=List.mem_map.1 hp
  exact rdC_true hlsl hWb i
 have hRd:rdsB (acts.length:Nat) l=true:=by
  simp only [rdsB,Bool.and_eq_true,decide_eq_true_eq]
  exact ⟨by omega,List.all_eq_true.2 fun p hp=>(hall p hp).1⟩
 have hRd':rdsB (acts.length:Nat) (l.drop 1)=true:=by
  simp only [rdsB,Bool.and_eq_true,decide_eq_true_eq,List.length_drop]
  exact ⟨by omega,List.all_eq_true.2 fun p hp=>(hall p (List.mem_of_mem_drop hp)).1⟩
 have sol:=tru_sol hb (by omega) hlos hT (l:=l) fun p hp _=>(hall p hp).2
 have sol':=sol_less (by omega) (fun p (hp:p ∈ l.drop 1)=>List.mem_of_mem_drop hp) sol
 obtain ⟨V,hV⟩:=wei_some (by omega) sol
 obtain ⟨V',hV'⟩:=wei_some (by omega) sol'
 have he:=wei_at hA hRd hV
 have he':=wei_at hA hRd' hV'
 have ok:=weigh_ok hb hlos (by omega) hV
 have ok':=weigh_ok hb hlos (by omega) hV'
 obtain ⟨D,hD,dok⟩:=dry_ok hlos (by omega) ok
 obtain ⟨D',hD',dok'⟩:=dry_ok hlos (by omega) ok'
 obtain ⟨v6,w6,c20,⟨x20,rfl,_,x20z⟩,u6⟩:=call20 (ov:=ov) 2 ho20 ho57 ho62 ho63 h64 h68 h86 r d b acts l rv dv av _ w5 (by omega) (hL.up u05) (hrv.up u05) (hdv.up u05) (hav.up u05) hrl
 have u06:=u05.trans u6
 have hn6:=u6.next
 have hm6:=u06.lim
 obtain ⟨v7,w7,c25,⟨x25,rfl,_,x25z⟩,u7⟩:=call25 (ov:=ov) 2 ho25 ho57 ho62 ho66 h64 h68 h84 h86 h88 r d b acts l rv dv av _ w6 (by omega) (hL.up u06) (hrv.up u06) (hdv.up u06) (hav.up u06) (hrl.up u6)
 have u07:=u06.trans u7
 have hn7:=u7.next
 have hm7:=u07.lim
 obtain ⟨v8,w8,c23,⟨s23,rfl,_,s23z⟩,u8⟩:=call23 (ov:=ov) 2 ho23 ho57 ho62 h64 h68 h86 r d b acts l rv dv av _ w7 (by omega) (hL.up u07) (hrv.up u07) (hdv.up u07) (hav.up u07) (hrl.up (u6.trans u7))
 have u08:=u07.trans u8
 have hn8:=u8.next
 have hm8:=u08.lim
 obtain ⟨w9,hw9e⟩:∃ w9:AW,w9=⟨(w8.heap.put w8.next (some (.cells [.int .i64 0,.int .i64 0] 25 false))).put w8.next (some (.cells [.int .i64 s23.1,.int .i64 s23.2] 25 false)),w8.next + 1,w8.lim⟩:=⟨_,rfl⟩
 have u9:Up w8 w9:=by rw [hw9e]; exact ((Up.refl w8).add _).put (Nat.le_refl _) (Nat.le_refl _)
 have m9:w9.next=w8.next + 1:=by rw [hw9e]
 have u09:=u08.trans u9
 have hm9:=u09.lim
 have u59:=((u6.trans u7).trans u8).trans u9
 obtain ⟨v10,w10,c27,rfl,u10⟩:=call27z (ov:=ov) 0 ho27 ho57 ho69 ho90 ho91 h68 h86 h105 r d b acts l he rv dv av _ w9 (by omega) (hL.up u09) (hrv.up u09) (hdv.up u09) (hav.up u09) (hrl.up u59)
 have u010:=u09.trans u10
 have hn10:=u10.next
 have hm10:=u010.lim
 have u510:=u59.trans u10
 obtain ⟨V2,hV2,x20p⟩:=x20z he
 obtain ⟨V3,D3,hV3,hD3,x25p⟩:=x25z he
 obtain ⟨V4,hV4,hs23⟩:=s23z he
 rw [hV] at hV2 hV3 hV4
 cases hV2
 cases hV3
 cases hV4
 rw [hD] at hD3
 cases hD3
 rw [he] at c20 c25 c23
 rw [hLl] at x20p hs23
 -- the readings but the first
 have gB10:w10.heap.get B=some (.cells (l.flatMap readC) 72 false):=by rw [u510.at hBn]; exact hB
 have hBn10:B < w10.next:=Nat.lt_of_lt_of_le hBn u510.next
 obtain ⟨tv,htv⟩:∃ tv,tv=Value.slice (some ⟨B,3,none⟩) (M - 1) (M - 1):=⟨_,rfl⟩
 have hsl:=fun (w':AW) (hg:w'.heap.get B=some (.cells (l.flatMap readC) 72 false))=>slice_tail (P:=Tryd.prog) (st:=42) (w:=w') (a:=⟨B,0,none⟩) (n:=M) (c:=M) (lo:=1) elem42 sz72 hg (by omega)
 have hrow':RowsV readC w10 tv (l.drop 1):=by
  rw [htv]
  by_cases h0:l.drop 1=[]
  ·refine .inl ⟨h0,some ⟨B,3,none⟩,M - 1,?_⟩
   have:=congrArg List.length h0
   rw [List.length_drop] at this
   simp at this
   rw [show M - 1=0 by omega]
  ·refine .inr ⟨B,3,none,M - 1,by rw [List.length_drop,hlM],⟨(l.take 1).flatMap readC,[],72,false,?_,?_⟩,hBn10⟩
   ·rw [gB10,List.append_nil,← List.flatMap_append,List.take_append_drop]
   ·rw [flat_length readC_length,List.length_take]; omega
 obtain ⟨v11,w11,c20',⟨y20,rfl,_,y20z⟩,u11⟩:=call20 (ov:=ov) 2 ho20 ho57 ho62 ho63 h64 h68 h86 r d b acts (l.drop 1) rv dv av tv w10 (by omega) (hL.up u010) (hrv.up u010) (hdv.up u010) (hav.up u010) hrow'
 have u011:=u010.trans u11
 have hn11:=u11.next
 have hm11:=u011.lim
 obtain ⟨v12,w12,c25',⟨y25,rfl,_,y25z⟩,u12⟩:=call25 (ov:=ov) 2 ho25 ho57 ho62 ho66 h64 h68 h84 h86 h88 r d b acts (l.drop 1) rv dv av tv w11 (by omega) (hL.up u011) (hrv.up u011) (hdv.up u011) (hav.up u011) (hrow'.up u11)
 have u012:=u011.trans u12
 obtain ⟨V2,hV2,y20p⟩:=y20z he'
 obtain ⟨V3,D3,hV3,hD3,y25p⟩:=y25z he'
 rw [hV'] at hV2 hV3
 cases hV2
 cases hV3
 rw [hD'] at hD3
 cases hD3
 rw [he'] at c20' c25'
 rw [hLl] at y20p
 -- spans
 have l1V:=ok.good.len
 have l2V:=ok'.good.len
 have tl:(V.take (acts.length + 1)).length=acts.length + 1:=by rw [List.length_take]; omega
 have tl':(V'.take (acts.length + 1)).length=acts.length + 1:=by rw [List.length_take]; omega
 have ml:(moL (lossL r acts) V D).length=acts.length + 1:=by rw [moL_length,hLl]
 have ml':(moL (lossL r acts) V' D').length=acts.length + 1:=by rw [moL_length,hLl]
 have moAt:∀ {V D:List Sp} {k:Nat},k≤acts.length→gtS (moL (lossL r acts) V D) k=(moI (gtS D k).1 (gtS V (acts.length + 1)).2,moI (gtS V k).2 (gtS V (acts.length + 1)).1):=fun {V D k} hk=>by
  have:=moL_at (L:=lossL r acts) (V:=V) (D:=D) (k:=k) (by omega)
  rw [hLl] at this
  exact gtS_of this
 have xN:truX ws s ls (acts.length + 1)=s:=by unfold truX; rw [hlsl,if_pos rfl]
 have hX:=(ok.sol _).2 sol
 have r38a:=S38.call (P:=Tryd.prog) h38 (m:=4) (w:=w10) ⟨wv,x20,wtsL ws ls,V.take (acts.length + 1),rfl,hwr.up (u5.trans u510),x20p.rows.up (((u7.trans u8).trans u9).trans u10),by omega,by omega,fun k x hx=>by
  have hk:k≤acts.length:=by have:=(List.getElem?_eq_some_iff.1 hx).1; omega
  rw [truX_at (s:=s) (by omega)] at hx
  cases hx
  rw [gtS_take (by omega)]
  exact hX.1 k (by omega),rfl⟩
 have r38b:=S38.call (P:=Tryd.prog) h38 (m:=4) (w:=w10) ⟨mv,x25,mosL ws s ls,moL (lossL r acts) V D,rfl,hmr.up (u5.trans u510),x25p.rows.up ((u8.trans u9).trans u10),by omega,by omega,fun k x hx=>by
  have hk:k≤acts.length:=by have:=(List.getElem?_eq_some_iff.1 hx).1; omega
  unfold mosL at hx
  rw [List.getElem?_map,truX_at (s:=s) (by omega)] at hx
  cases hx
  rw [moAt hk]
  have:=mo_in hlos (by omega) ok dok sol (k:=k) (by omega)
  rw [hLl,xN] at this
  exact this,rfl⟩
 have r39:=S39.call (P:=Tryd.prog) h39 (m:=4) (w:=w10) ⟨s,s23.1,s23.2,rfl,rfl⟩
 have hsN:inI s23.1 s s23.2=true:=by
  have:=hX.1 (acts.length + 1) (by omega)
  rw [xN] at this
  rw [hs23]
  unfold inn at this
  simp only [inI,Bool.and_eq_true,decide_eq_true_eq]
  exact this
 rw [hsN] at r39
 have g52:w5.heap.get w.next=_:=(u5.at (by omega)).trans g42
 have g62:w6.heap.get w.next=_:=(u6.at (by omega)).trans g52
 have g72:w7.heap.get w.next=_:=(u7.at (by omega)).trans g62
 have g82:w8.heap.get w.next=_:=(u8.at (by omega)).trans g72
 have g102:w10.heap.get w.next=_:=((u9.trans u10).at (by omega)).trans g82
 have g112:w11.heap.get w.next=_:=(u11.at (by omega)).trans g102
 have g105:w10.heap.get w2.next=_:=((u5.trans u510).at (by omega)).trans g45
 have g1013:w10.heap.get w8.next=some (.cells [.int .i64 s23.1,.int .i64 s23.2] 25 false):=by rw [u10.at (by omega),hw9e]; simp
 have gB11:w11.heap.get B=_:=(u11.at hBn10).trans gB10
 have hs1:=hsl w10 gB10
 have hs2:=hsl w11 gB11
 simp only [Nat.one_mul,Nat.zero_add,Int.natCast_one] at hs1 hs2
 have r37:=S37.call (P:=Tryd.prog) h37 (m:=4) (w:=w4) ⟨bv,bits,4,rfl,hbv.up u04,hbl,rfl⟩
 have r36:=S36g.call (P:=Tryd.prog) h36 (m:=4) (w:=w4) ⟨nthI bits 4,4,rfl,rfl⟩
 rw [wrapG_eq (by decide)] at r36
 have wM:IntKind.wrap .i64 (1 + wrapI (nthI bits 4) 4)=(M:Int):=by rw [wrap64_in (by omega) (by omega),hM]
 have hl28w:=fun w2=>len28V (w':=w2) hwr
 have hl28a:=fun w2=>len28V (w':=w2) hav
 rw [hwl] at hl28w
 have wn1:IntKind.wrap .i64 ((acts.length:Int) + 1)=(acts.length:Int) + 1:=wrap64_in (by omega) (by omega)
 have lw8:w8.lim≤w8.next:=by omega
 have ec:¬ w.next=w8.next:=by omega
 have hl43a:=fun w2=>len43V (w':=w2) x20p.rows
 have hl43b:=fun w2=>len43V (w':=w2) x25p.rows
 have hl43c:=fun w2=>len43V (w':=w2) y20p.rows
 have hl43d:=fun w2=>len43V (w':=w2) y25p.rows
 rw [tl] at hl43a
 rw [ml] at hl43b
 rw [tl'] at hl43c
 rw [ml'] at hl43d
 have hlp:=loop6 (ov:=ov) 4 (V.take (acts.length + 1)) (moL (lossL r acts) V D) (V'.take (acts.length + 1)) (moL (lossL r acts) V' D') (acts.length + 1) tl ml tl' ml' (by omega) (fun k hk=>by
  have:=(mo_more hlos (by omega) (fun p (hp:p ∈ l.drop 1)=>List.mem_of_mem_drop hp) ok dok ok' dok' (k:=k) (by omega)).1
  rw [gtS_take hk,gtS_take hk]; exact this) (fun k hk=>by
  have:=(mo_more hlos (by omega) (fun p (hp:p ∈ l.drop 1)=>List.mem_of_mem_drop hp) ok dok ok' dok' (k:=k) (by omega)).2
  rw [hLl] at this
  rw [moAt (by omega),moAt (by omega)]; exact this) w12 x20 x25 y20 y25 (x20p.rows.up (((((u7.trans u8).trans u9).trans u10).trans u11).trans u12)) (x25p.rows.up ((((u8.trans u9).trans u10).trans u11).trans u12)) (y20p.rows.up u12) y25p.rows
 have rW12:=rW w12 (hL.up u012).1
 have nj0:notJunk (.slice none 0 0)=some (.slice none 0 0):=rfl
 rw [htv] at c20' c25'
 rw [hw9e] at c27
 simp only [boxC,spC,Nat.reduceAdd] at c20 c25 c23 c27 c20' c25' rW12 r38a r38b r39 r36 r37 c35
 simp [mc6,cellsOf_agg,r33,c34,lw2,g22,ea,c16,hl28w,hl28a,g42,wn1,r37,r36,wM,c35,g52,c20,g62,c25,g72,c23,lw8,g82,ec,c27,r38a,r38b,g105,g1013,r39,g102,hs1,c20',g112,hs2,c25',hl43a,hl43b,hl43c,hl43d]
 refine wp_seqX (wp_blockX (hlp _ _ (by simp) (by simp) (by simp) (by simp) (by simp) fun t'=>?_))
 simp [blockQ,rW12,tupV]
end Go.Proofs.YtmemdglkkgmjnaaDoor.walk
