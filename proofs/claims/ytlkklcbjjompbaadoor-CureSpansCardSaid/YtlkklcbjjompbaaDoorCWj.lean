/- Part of a proof by a machine of ones own: see the text with the theorem. -/
import Derived.Test.YtlkklcbjjompbaaDoorCT6
import Derived.Test.YtlkklcbjjompbaaDoorCWi
namespace Go.Proofs.YtlkklcbjjompbaaDoor.walk
open Go Go.Sh
set_option maxRecDepth 100000
set_option linter.unusedSimpArgs false
def idxI (L:List Int) (x:Int):Int:=if x ∈ L then ((L.takeWhile fun y=>decide (y ≠ x)).length:Nat) else -1
theorem idx_at:∀ {L:List Int} {i:Nat} {x:Int},x ∉ L.take i→L[i]?=some x→(L.takeWhile fun y=>decide (y ≠ x)).length=i
 | [],i,x,_,h=>by simp at h
 | y::L,0,x,_,h=>by
  have:y=x:=by simpa using h
  subst this
  simp
 | y::L,i + 1,x,h1,h2=>by
  simp only [List.take_succ_cons,List.mem_cons,not_or] at h1
  rw [List.takeWhile_cons,if_pos (by simpa using fun h=>h1.1 h.symm),List.length_cons,idx_at h1.2 (by simpa using h2)]
def S113:PSpec where
 R args w v:=∃ (lv:Value) (L:List Int) (x:Int),args=[lv,.int .i64 x]∧RowsV intC w lv L∧L.length≤1000∧v=.int .i64 (idxI L x)
 uniq:=by
  rintro _ _ _ _ ⟨_,L,x,rfl,h1,_,rfl⟩ ⟨_,L',x',h,k1,_,rfl⟩
  cases h
  rw [h1.uniq (m:=1) intC_length intC_inj k1]
 shut h:=h
theorem run113 {ov:Ov} (ho:∀ args w,ov 113 args w=none) (lv:Value) (L:List Int) (x:Int) (w:AW) (hlv:RowsV intC w lv L) (hlen:L.length≤1000):∃ y w',(run Tryd.prog ov 2).call 113 [lv,.int .i64 x] w .none=.ok (.ret y) w' .none∧y=.int .i64 (idxI L x):=by
 refine call_wp text113 (by simp) (ho _ _) ?_
 have hl:=fun w2=>len28V (w':=w2) hlv
 simp [mc113,hl]
 refine wp_seqX (wp_blockX (wp_rounds (fun i t w'=>w'=w∧tget t 0=lv∧tget t 1=.int .i64 x∧tget t 7=.int .i64 (L.length:Nat)∧tget t 8=.int .i64 (i:Nat)∧i≤L.length∧x ∉ L.take i) 2000 (by decide) ⟨rfl,by simp,by simp,by simp,by simp,Nat.zero_le _,by simp⟩ ?_))
 rintro i t w' ⟨rfl,t0,t1,t7,t8,hi,hx⟩
 by_cases hlt:i < L.length
 ·obtain ⟨z,hz⟩:∃ p,L[i]?=some p:=⟨_,List.getElem?_eq_getElem hlt⟩
  obtain ⟨bb,off,sq,c,rfl,hra⟩:=hlv.at_ i hlt
  have hld:=hra.int hz
  have hia:=fun w=>ia28 w ⟨bb,off,sq⟩ L.length c .i64 i hlt
  simp only [Nat.mul_one] at hia
  have hw1:IntKind.wrap .i64 ((i:Int) + 1)=(i:Int) + 1:=wrap64_in (by omega) (by omega)
  by_cases e:x=z
  ·subst e
   have hm:x ∈ L:=List.mem_of_getElem? hz
   have he:idxI L x=(i:Nat):=by unfold idxI; rw [if_pos hm,idx_at hx hz]
   simp [mc113_l0,t0,t1,t7,t8,hlt,hia,hld,tupV,he]
  ·simp [mc113_l0,t0,t1,t7,t8,hlt,hia,hld,e,hw1]
   refine ⟨by omega,hlt,?_⟩
   rw [take_snoc hz]
   simp [hx,e]
 ·have:i=L.length:=by omega
  subst this
  rw [List.take_length] at hx
  have he:idxI L x = -1:=by unfold idxI; rw [if_neg hx]
  simp [mc113_l0,t7,t8,tupV,he]
def S105:PSpec where
 R args w v:=∃ (lv:Value) (L:List Int) (x:Int),args=[lv,.int .i64 x]∧RowsV intC w lv L∧L.length≤1000∧v=.bool (decide (x ∈ L))
 uniq:=by
  rintro _ _ _ _ ⟨_,L,x,rfl,h1,_,rfl⟩ ⟨_,L',x',h,k1,_,rfl⟩
  cases h
  rw [h1.uniq (m:=1) intC_length intC_inj k1]
 shut h:=h
theorem run105 {ov:Ov} (ho:∀ args w,ov 105 args w=none) (h113:HasP ov 113 S113.F) (lv:Value) (L:List Int) (x:Int) (w:AW) (hlv:RowsV intC w lv L) (hlen:L.length≤1000):∃ y w',(run Tryd.prog ov 2).call 105 [lv,.int .i64 x] w .none=.ok (.ret y) w' .none∧y=.bool (decide (x ∈ L)):=by
 refine call_wp text105 (by simp) (ho _ _) ?_
 have r113:=fun w hv=>S113.call1 (P:=Tryd.prog) h113 (w:=w) ⟨lv,L,x,rfl,hv,hlen,rfl⟩
 have e:decide (0≤idxI L x)=decide (x ∈ L):=by
  unfold idxI
  by_cases h:x ∈ L
  ·rw [if_pos h]; simp [h]
  ·rw [if_neg h]; simp [h]
 simp [mc105,r113 w hlv,tupV]
 by_cases h:x ∈ L
 ·rw [decide_eq_true h] at e; simp [h]; simpa using e
 ·rw [decide_eq_false h] at e; simp [h]; simpa using e
end Go.Proofs.YtlkklcbjjompbaaDoor.walk
namespace Go.Proofs.YtlkklcbjjompbaaDoor.walk
open Go Go.Sh
set_option maxRecDepth 100000
set_option linter.unusedSimpArgs false
theorem list42:isList Tryd.prog 42=true:=by kernel_rfl
theorem elem42:elemA Tryd.prog 42=some 72:=by kernel_rfl
theorem sz72:szOf Tryd.prog 72=some 3:=by kernel_rfl
theorem small72:smallT Tryd.prog 72=true:=by kernel_rfl
def woL:List CRead→List Int→Nat→List CRead
 | [],_,_=>[]
 | p::l,out,k=>if (k:Int) ∈ out then woL l out (k + 1) else p::woL l out (k + 1)
theorem woL_snoc (p:CRead) (out:List Int):∀ (l:List CRead) (k:Nat),woL (l++[p]) out k=woL l out k++(if ((k + l.length:Nat):Int) ∈ out then [] else [p])
 | [],k=>by
  show woL [p] out k=_
  simp only [woL,List.length_nil,Nat.add_zero,List.nil_append]
 | q::l,k=>by
  have ih:=woL_snoc p out l (k + 1)
  rw [show k + 1 + l.length=k + (q::l).length by rw [List.length_cons]; omega] at ih
  show woL (q::(l++[p])) out k=_
  simp only [woL]
  rw [ih]
  split <;> simp
theorem woL_mem {out:List Int}:∀ {l:List CRead} {k:Nat} {p:CRead},p ∈ woL l out k→p ∈ l
 | [],_,_,h=>by simp [woL] at h
 | q::l,k,p,h=>by
  simp only [woL] at h
  by_cases e:(k:Int) ∈ out
  ·rw [if_pos e] at h; exact List.mem_cons_of_mem _ (woL_mem h)
  ·rw [if_neg e] at h
   rcases List.mem_cons.1 h with rfl | h
   ·exact List.mem_cons_self
   ·exact List.mem_cons_of_mem _ (woL_mem h)
theorem woL_len (out:List Int):∀ (l:List CRead) (k:Nat),(woL l out k).length≤l.length
 | [],_=>Nat.le_refl _
 | q::l,k=>by
  have:=woL_len out l (k + 1)
  simp only [woL]
  split
  ·rw [List.length_cons]; omega
  ·rw [List.length_cons,List.length_cons]; omega
set_option maxHeartbeats 1000000 in
theorem call91 {ov:Ov} (m:Nat) (ho:∀ args w,ov 91 args w=none) (h105:HasP ov 105 S105.F) (l:List CRead) (hlen:l.length≤10) (out:List Int) (hout:out.length≤1000) (lv uv:Value) (we:AW) (hlim:we.lim≤we.next) (hlv:RowsV readC we lv l) (huv:RowsV intC we uv out) :
  ∃ v w',(run Tryd.prog ov (m + 2)).call 91 [lv,uv] we .none=.ok (.ret v) w' .none∧(RowsV readC w' v (woL l out 0)∧notJunk v=some v)∧Up we w':=by
 refine call_wp text91 (by simp) (ho _ _) ?_
 have hl1:=fun w2=>len42V (w':=w2) hlv
 simp [mc91,hl1]
 refine wp_seqX (wp_blockX (wp_rounds (fun i t w'=>Up we w'∧AccR readC 72 we.next w' (tget t 5) (woL (l.take i) out 0)∧(i=0→w'=we)∧tget t 1=uv∧tget t 8=lv∧tget t 9=.int .i64 (l.length:Nat)∧tget t 10=.int .i64 (i:Nat)∧i≤l.length) 20 (by decide) ⟨Up.refl _,by simpa [woL] using AccR.nil,fun _=>rfl,by simp,by simp,by simp,by simp,Nat.zero_le _⟩ ?_))
 rintro i t w' ⟨hup,hacc,_,t1,t8,t9,t10,hi⟩
 have hnx:=hup.next
 have hlm:=hup.lim
 by_cases hlt:i < l.length
 ·obtain ⟨p,hp⟩:∃ p,l[i]?=some p:=⟨_,List.getElem?_eq_getElem hlt⟩
  obtain ⟨b,off,sq,c,rfl,hra⟩:=hlv.at_ i hlt
  have hld:=hra.rd (m:=3) readC_length hp
  rw [← hup.at hra.2] at hld
  simp only [readC] at hld
  have hia:=fun w=>ia42 w ⟨b,off,sq⟩ l.length c .i64 i hlt
  have hwi:IntKind.wrap .i64 ((i:Int) + 1)=(i:Int) + 1:=wrap64_in (by omega) (by omega)
  have lw:w'.lim≤w'.next:=by omega
  have hf:=woL_snoc p out (l.take i) 0
  rw [← take_snoc hp,List.length_take,Nat.min_eq_left hi,Nat.zero_add] at hf
  obtain ⟨wa,hwae⟩:∃ wa:AW,wa=⟨(w'.heap.put w'.next (some (.cells [.int .i64 0,.int .i64 0,.int .i64 0] 72 false))).put w'.next (some (.cells [.int .i64 p.day,.int .i64 p.read,.int .i64 p.wrong] 72 false)),w'.next + 1,w'.lim⟩:=⟨_,rfl⟩
  have ua:Up w' wa:=by rw [hwae]; exact ((Up.refl w').add _).put (Nat.le_refl _) (Nat.le_refl _)
  have hacca:AccR readC 72 we.next wa (tget t 5) (woL (l.take i) out 0):=hacc.keep (fun x _ h=>ua.at h) ua.next
  have hna:wa.next=w'.next + 1:=by rw [hwae]
  have hla:wa.lim=w'.lim:=ua.lim
  have hfl:=woL_len out (l.take i) 0
  rw [List.length_take] at hfl
  have r105:=S105.call (P:=Tryd.prog) h105 (m:=m) (w:=wa) ⟨uv,out,(i:Int),rfl,huv.up (hup.trans ua),hout,rfl⟩
  by_cases e:(i:Int) ∈ out
  ·rw [if_pos e,List.append_nil] at hf
   rw [decide_eq_true e] at r105
   rw [hwae] at r105
   simp [mc91_l0,t1,t8,t9,t10,hlt,hia,hld,lw,r105,hwi]
   rw [← hwae]
   exact ⟨by omega,hup.trans ua,by rw [hf]; exact hacca,hlt⟩
  ·rw [if_neg e] at hf
   rw [decide_eq_false e] at r105
   obtain ⟨v',w2,ha',hacc',hkp,hn2,hl'⟩:=AccR.push (P:=Tryd.prog) (st:=42) (sz:=3) list42 elem42 sz72 small72 readC_length (fun _=>rfl) (by decide) hacca (by omega) (by omega) (by omega) p
   rw [hwae] at ha' r105
   simp only [readC] at ha'
   simp [mc91_l0,t1,t8,t9,t10,hlt,hia,hld,lw,r105,ha',hwi]
   refine ⟨by omega,⟨fun q hq=>by rw [hkp q (by omega),ua.at (by omega)]; exact hup.old q hq,by omega,by omega⟩,by rw [hf]; exact hacc',hlt⟩
 ·have hi':i=l.length:=by omega
  subst hi'
  rw [List.take_length] at hacc
  have nj:=hacc.ok
  simp [mc91_l0,t9,t10,nj,tupV]
  exact ⟨hacc.rows,hup⟩
end Go.Proofs.YtlkklcbjjompbaaDoor.walk
namespace Go.Proofs.YtlkklcbjjompbaaDoor.walk
open Go Go.Sh
set_option maxRecDepth 100000
set_option linter.unusedSimpArgs false
set_option maxHeartbeats 2000000 in
theorem call90z {ov:Ov} (m:Nat) (ho:∀ args w,ov 90 args w=none) (ho91:∀ args w,ov 91 args w=none) (h86:HasP ov 86 S86.F) (h105:HasP ov 105 S105.F) (b:CBox) (hb:boxB b=true) (L:List Sp) (hlen:L.length≤14) (hL:LosW (losL L)) (l:List CRead) (hl10:l.length≤10) (hR:ReadOk l) (out:List Int) (hout:out.length≤1000) (fr:Int) (pv lv uv:Value) (B2 B3 B4 B5:Nat) (we:AW) (hlim:we.lim≤we.next) (hLim:LimW we) (hpv:ProcV we pv L) (hlv:RowsV readC we lv l) (huv:RowsV intC we uv out)
  (g2:we.heap.get B2=some (.cells (procC b pv) 97 false)) (g3:we.heap.get B3=some (.cells [lv] 42 false)) (g4:we.heap.get B4=some (.cells [uv] 28 false)) (hB2:B2 < we.next) (hB3:B3 < we.next) (hB4:B4 < we.next) :
  ∃ v w',(run Tryd.prog ov (m + 3)).call 90 [.int .i64 0,.int .i64 fr,.pointer (some ⟨B2,0,none⟩),.pointer (some ⟨B3,0,none⟩),.pointer (some ⟨B4,0,none⟩),.pointer (some ⟨B5,0,none⟩)] we .none=.ok (.ret v) w' .none∧v=.bool (weighF b L (woL l out 0)).isSome∧Up we w':=by
 refine call_wpY text90 (by simp) (ho _ _) ?_
 obtain ⟨p2,q2,rfl⟩:=hlv.len
 obtain ⟨p3,q3,rfl⟩:=huv.len
 obtain ⟨BP,hpe,hP1,hP2⟩:=id hpv
 subst hpe
 obtain ⟨w1,hw1e⟩:∃ w1:AW,w1=⟨we.heap.put we.next (some (.cells zerC 104 false)),we.next + 1,we.lim⟩:=⟨_,rfl⟩
 have u1:Up we w1:=by rw [hw1e]; exact (Up.refl we).add _
 have m1:w1.next=we.next + 1:=by rw [hw1e]
 have l1:=u1.lim
 obtain ⟨v91,w2,c91,⟨hr,nj⟩,u2⟩:=call91 (ov:=ov) m ho91 h105 l hl10 out hout _ _ w1 (by omega) (hlv.up u1) (huv.up u1)
 have u02:=u1.trans u2
 have hn2:=u2.next
 have hm2:=u02.lim
 have r86:=S86.call (P:=Tryd.prog) h86 (m:=m + 1) (w:=w2) ⟨b,_,v91,L,woL l out 0,rfl,hpv.up u02,hlen,hL,hb,hr,by have:=woL_len out l 0; omega,fun p hp=>hR p (woL_mem hp),hLim.up u02,by omega,rfl⟩
 have g22:w2.heap.get B2=_:=(u02.at hB2).trans g2
 have e2:¬ B2=we.next:=by omega
 have e3:¬ B3=we.next:=by omega
 have e4:¬ B4=we.next:=by omega
 have hz:zerC.length=32:=rfl
 have hzt:zerC.take 32=zerC:=rfl
 have hzd:zerC.drop 32=[]:=rfl
 have hzs:singles zerC=true:=rfl
 have g2c:w2.heap.get we.next=some (.cells zerC 104 false):=by rw [u2.at (by omega),hw1e]; simp
 have lw:w2.lim≤we.next:=by omega
 have sp:=same_proc b (some ⟨BP,0,none⟩) L.length L.length
 have hpl:(procC b (.slice (some ⟨BP,0,none⟩) L.length L.length)).length=5:=rfl
 have hpt:(procC b (.slice (some ⟨BP,0,none⟩) L.length L.length)).take 5=procC b (.slice (some ⟨BP,0,none⟩) L.length L.length):=rfl
 obtain ⟨pcs,hpcs⟩:∃ pcs,pcs=procC b (.slice (some ⟨BP,0,none⟩) L.length L.length):=⟨_,rfl⟩
 rw [← hpcs] at g2 g22 r86 sp hpl hpt
 rw [hw1e] at c91
 cases hw:weighF b L (woL l out 0) with
 | none =>
  rw [hw] at r86
  simp only [narR] at r86
  simp [mc90,g2,g3,g4,ez,hpl,hpt,e2,e3,e4,c91,sp,g22,r86,g2c,hz,hzt,hzd,hzs,lw,tupV]
  exact u02.put (by omega) (Nat.le_refl _)
 | some V =>
  have hV16:V.length=16:=by
   have:=narW_length (by simp; omega) hw
   rw [this]; simp
  have hVl:=row_len hV16
  have hVt:(V.flatMap spC).take 32=V.flatMap spC:=List.take_of_length_le (by omega)
  have hVs:=row_sing V
  rw [hw] at r86
  simp only [narR] at r86
  generalize hcs:V.flatMap spC=cs at r86 hVl hVt hVs
  simp [mc90,g2,g3,g4,ez,hpl,hpt,e2,e3,e4,c91,sp,g22,r86,g2c,hz,hzt,hzd,hzs,hVl,hVt,hVs,lw,tupV]
  exact u02.put (by omega) (Nat.le_refl _)
end Go.Proofs.YtlkklcbjjompbaaDoor.walk
namespace Go.Proofs.YtlkklcbjjompbaaDoor.walk
open Go Go.Sh
set_option maxRecDepth 100000
set_option linter.unusedSimpArgs false
@[simp] theorem cfn90 (w:AW) (l:List Value):callFn Tryd.prog w 90 l=.enter 90 l w:=callFn_of (by kernel_rfl) l
end Go.Proofs.YtlkklcbjjompbaaDoor.walk
