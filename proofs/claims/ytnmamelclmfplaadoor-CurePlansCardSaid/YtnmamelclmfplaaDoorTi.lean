/- Part of a proof: see the text with the theorem. -/
import Derived.Test.YtnmamelclmfplaaDoorTh
import Derived.Test.YtnmamelclmfplaaDoorTc
set_option linter.all false
namespace Go.Proofs.YtnmamelclmfplaaDoor.walk
open Go Go.Sh
set_option maxRecDepth 100000
def difL (n:Nat) (x:Nat→Int):List Int:=(List.range n).map fun k=>x k - x (k + 1)
structure In41 (we:AW) (r:List CAct) (d:List CDay) (b:CBox) (rv dv av:Value) (x0 sol:Int) (i:Nat) (x:Nat→Int) (w:AW):Prop where
 box:w.heap.get we.next=some (.cells (curC rv dv b av) 30 false)
 tru:∃ v,w.heap.get (we.next + 1)=some (.cells [.int .i64 x0,.int .i64 sol,v] 32 false)∧AccR intC 3 (we.next + 1) w v (difL i x)
 up:Up we w
 next:we.next + 2≤w.next
structure In10 (w1:AW) (C R:Nat) (cs:List Value) (row:List CAct) (w:AW):Prop where
 box:w.heap.get C=some (.cells (.slice (some ⟨R,0,none⟩) row.length row.length::cs) 30 false)
 row:w.heap.get R=some (.cells (row.flatMap actC) 78 false)
 up:Up w1 w
 lt:C < w.next∧R < w.next
structure KeepA (t t':Tm):Prop where
 k3:tget t' 3=tget t 3
 k4:tget t' 4=tget t 4
 k6:tget t' 6=tget t 6
 k7:tget t' 7=tget t 7
 k10:tget t' 10=tget t 10
theorem surB_none {b:CBox} {L:List Sp} {lim:Sp} (h:weighF b L []=none):surB b L lim=false:=by unfold surB; rw [h]
theorem iniW_at {b:CBox} {L:List Sp} {l:List CRead} (hlen:L.length≤14) {k:Nat} (hk:k≤L.length + 1):gtS (iniW b L l) k=iniF b L.length l (L.length + 1) k:=mkW_at _ (by omega)
theorem dry_box {b:CBox} {L V D:List Sp} {l:List CRead} (hb:boxB b=true) (hL:LosW (losL L)) (hlen:L.length≤14) (ok:WeiOk L V (iniW b L l)) (dok:DryOk L V D) :
  boxB { b with sl:=(gtS V (L.length + 1)).2,sh:=(gtS V (L.length + 1)).2 }=true∧∃ D',weighF { b with sl:=(gtS V (L.length + 1)).2,sh:=(gtS V (L.length + 1)).2 } L l=some D'∧∀ k,k≤L.length + 1→gtS D' k=gtS D k:=by
 obtain ⟨hi,hhi⟩:∃ hi,hi=(gtS V (L.length + 1)).2:=⟨_,rfl⟩
 obtain ⟨b',hb'⟩:∃ b':CBox,b'={ b with sl:=(gtS V (L.length + 1)).2,sh:=(gtS V (L.length + 1)).2 }:=⟨_,rfl⟩
 rw [← hb']
 have hne:=ok.good.ne (L.length + 1) (Nat.le_refl _)
 have hlo:=ok.lo
 have hup:=ok.hi (L.length + 1) (Nat.le_refl _)
 have hB':boxB b'=true:=by
  rw [hb']
  simp only [boxB,spanI,Bool.and_eq_true,decide_eq_true_eq] at hb ⊢
  omega
 have hI:∀ k,k≤L.length→gtS (iniW b' L l) k=gtS (iniW b L l) k:=fun k hk=>by
  rw [iniW_at hlen (by omega),iniW_at hlen (by omega)]
  unfold iniF iniG
  rw [if_neg (show ¬ k=L.length + 1 by omega),if_neg (show ¬ k=L.length + 1 by omega),hb']
 have hIN:gtS (iniW b' L l) (L.length + 1)=((gtS V (L.length + 1)).2,(gtS V (L.length + 1)).2):=by
  rw [iniW_at hlen (Nat.le_refl _)]
  unfold iniF iniG
  rw [if_neg (by omega),if_pos rfl,hb']
 have hsol:∀ x,SolS (L.length + 1) (gtS (losL L)) (dryS (L.length + 1) (gtS V)) x ↔ SolS (L.length + 1) (gtS (losL L)) (gtS (iniW b' L l)) x:=fun x=>by
  constructor
  ·intro h
   obtain ⟨h1,h2⟩:=sol_dry h hne
   have h3:=(ok.sol x).1 h1
   refine ⟨fun i hi=>?_,h3.2⟩
   by_cases e:i=L.length + 1
   ·subst e; rw [hIN]; unfold inn; simp only; omega
   ·rw [hI i (by omega)]; exact h3.1 i hi
  ·intro h
   have hN:=h.1 (L.length + 1) (Nat.le_refl _)
   rw [hIN] at hN
   unfold inn at hN
   simp only at hN
   -- the greatest that is no water lies in the box's span
   obtain ⟨y1,y2⟩:=ok.exact.low (los_le hL _) (Nat.le_refl (L.length + 1)) (v:=(gtS V (L.length + 1)).2) ⟨hne,Int.le_refl _⟩
   have y3:=y1.1 (L.length + 1) (Nat.le_refl _)
   rw [y2] at y3
   have h3:SolS (L.length + 1) (gtS (losL L)) (gtS (iniW b L l)) x:=⟨fun i hi=>by
    by_cases e:i=L.length + 1
    ·subst e
     rw [show x (L.length + 1)=(gtS V (L.length + 1)).2 by omega]; exact y3
    ·rw [← hI i (by omega)]; exact h.1 i hi,h.2⟩
   have h4:=(ok.sol x).2 h3
   refine ⟨fun i hi=>?_,h4.2⟩
   unfold dryS updS
   by_cases e:i=L.length + 1
   ·rw [if_pos e,e]; unfold inn; simp only; omega
   ·rw [if_neg e]; exact h4.1 i hi
 refine ⟨hB',?_⟩
 cases hD':weighF b' L l with
 | none =>
  exfalso
  obtain ⟨s1,_⟩:=dok.exact.low (los_le hL _) (Nat.zero_le _) (v:=(gtS D 0).1) ⟨Int.le_refl _,dok.good.ne 0 (Nat.zero_le _)⟩
  unfold weighF at hD'
  rw [losL_length] at hD'
  exact nar_none (by show L.length + 1 < (iniW b' L l).length; simp [iniW]; omega) hD' _ ((hsol _).1 s1)
 | some D' =>
  refine ⟨D',rfl,?_⟩
  have ok':=(weigh_ok hB' hL hlen hD').exact
  have hd:=dok.exact
  exact ExactS.uniq ⟨hd.tight,hd.ne,fun x=>(hd.sol x).trans (hsol x)⟩ ok' (los_le hL _)
def sumS:List Sp→Sp
 | []=>(0,0)
 | s::L=>(s.1 + (sumS L).1,s.2 + (sumS L).2)
theorem sumS_ok:∀ {L:List Sp},(∀ i,i < L.length→0≤(gtS L i).1∧(gtS L i).1≤(gtS L i).2)→0≤(sumS L).1∧(sumS L).1≤(sumS L).2
 | [],_=>by simp [sumS]
 | s::L,h=>by
  have h0:0≤s.1∧s.1≤s.2:=h 0 (Nat.succ_pos _)
  have ih:=sumS_ok (L:=L) fun i hi=>h (i + 1) (Nat.succ_lt_succ hi)
  simp only [sumS]
  omega
def splitX:List Sp→Int→Int→Nat→Int
 | [],v,_,_=>v
 | _::_,v,_,0=>v
 | s::L,v,t,k + 1=>splitX L (v - max s.1 (t - (sumS L).2)) (t - max s.1 (t - (sumS L).2)) k
theorem split_zero (L:List Sp) (v t:Int):splitX L v t 0=v:=by cases L <;> rfl
theorem split_ok:∀ (L:List Sp) (v t:Int),(∀ i,i < L.length→0≤(gtS L i).1∧(gtS L i).1≤(gtS L i).2)→(sumS L).1≤t→t≤(sumS L).2→splitX L v t L.length=v - t∧(∀ i,i < L.length→inn (splitX L v t i - splitX L v t (i + 1)) (gtS L i))∧∀ i,i≤L.length→v - t≤splitX L v t i∧splitX L v t i≤v
 | [],v,t,_,h1,h2=>by
  simp only [sumS] at h1 h2
  refine ⟨by simp only [splitX]; omega,fun i hi=>absurd hi (Nat.not_lt_zero _),fun i _=>by simp only [splitX]; omega⟩
 | s::L,v,t,h,h1,h2=>by
  have h0:0≤s.1∧s.1≤s.2:=h 0 (Nat.succ_pos _)
  have hL:∀ i,i < L.length→0≤(gtS L i).1∧(gtS L i).1≤(gtS L i).2:=fun i hi=>h (i + 1) (Nat.succ_lt_succ hi)
  have hs:=sumS_ok hL
  simp only [sumS] at h1 h2
  obtain ⟨d,hd⟩:∃ d,d=max s.1 (t - (sumS L).2):=⟨_,rfl⟩
  have hd1:s.1≤d∧d≤s.2∧t - d≤(sumS L).2∧(sumS L).1≤t - d:=by
   rw [hd,Int.max_def]
   split <;> omega
  obtain ⟨k1,k2,k3⟩:=split_ok L (v - d) (t - d) hL hd1.2.2.2 hd1.2.2.1
  have e:∀ k,splitX (s::L) v t (k + 1)=splitX L (v - d) (t - d) k:=fun k=>by rw [hd]; rfl
  have e0:splitX (s::L) v t 0=v:=rfl
  refine ⟨?_,fun i hi=>?_,fun i hi=>?_⟩
  ·rw [List.length_cons,e,k1]; omega
  ·cases i with
   | zero =>
    rw [e0,e,split_zero]
    show s.1≤_∧_≤s.2
    omega
   | succ i =>
    rw [e,e]
    exact k2 i (Nat.lt_of_succ_lt_succ hi)
  ·cases i with
   | zero=>rw [e0]; omega
   | succ i =>
    rw [e]
    have:=k3 i (Nat.le_of_succ_le_succ hi)
    omega
theorem diff_sum:∀ (L:List Sp) (x:Nat→Int),(∀ i,i < L.length→inn (x i - x (i + 1)) (gtS L i))→inn (x 0 - x L.length) (sumS L)
 | [],x,_=>by
  show (0:Int)≤x 0 - x 0∧x 0 - x 0≤0
  omega
 | s::L,x,h=>by
  have h0:s.1≤x 0 - x 1∧x 0 - x 1≤s.2:=h 0 (Nat.succ_pos _)
  have ih:(sumS L).1≤x 1 - x (L.length + 1)∧x 1 - x (L.length + 1)≤(sumS L).2:=diff_sum L (fun i=>x (i + 1)) fun i hi=>h (i + 1) (Nat.succ_lt_succ hi)
  show s.1 + (sumS L).1≤x 0 - x (L.length + 1)∧x 0 - x (L.length + 1)≤s.2 + (sumS L).2
  omega
theorem losA_at {L:List Sp} {i:Nat} (h:i < L.length):gtS (losL L) i=gtS L i:=by
 unfold gtS losL
 rw [List.getD_eq_getElem?_getD,List.getD_eq_getElem?_getD,List.getElem?_append_left h]
theorem losA_end (L:List Sp):gtS (losL L) L.length=(0,1000000):=by
 unfold gtS losL
 rw [List.getD_eq_getElem?_getD,List.getElem?_append_right (Nat.le_refl _)]
 simp
theorem ini0 {b:CBox} {L:List Sp} (hlen:L.length≤14) {k:Nat} (hk:k≤L.length + 1):gtS (iniW b L []) k=iniG b L.length k:=by
 rw [iniW_at hlen hk]
 unfold iniF
 split <;> rfl
def Att (b:CBox) (L:List Sp) (m s:Int):Prop:=∃ x,SolS (L.length + 1) (gtS (losL L)) (gtS (iniW b L [])) x∧x L.length=m∧x (L.length + 1)=s
theorem att_sum {b:CBox} {L:List Sp} (hb:boxB b=true) (hlen:L.length≤14) (hL:LosW (losL L)) (m s:Int):Att b [sumS L] m s ↔ Att b L m s:=by
 simp only [boxB,spanI,Bool.and_eq_true,decide_eq_true_eq] at hb
 have hL':∀ i,i < L.length→0≤(gtS L i).1∧(gtS L i).1≤(gtS L i).2:=fun i hi=>by
  have:=hL i
  rw [losA_at hi] at this
  omega
 have g0:gtS (losL [sumS L]) 0=sumS L:=rfl
 have g1:gtS (losL [sumS L]) 1=(0,1000000):=rfl
 have i0:gtS (iniW b [sumS L] []) 0=(b.wl,b.wh):=ini0 (by simp) (by simp)
 have i1:gtS (iniW b [sumS L] []) 1=(1,1000000):=ini0 (by simp) (by simp)
 have i2:gtS (iniW b [sumS L] []) 2=(b.sl,b.sh):=ini0 (by simp) (by simp)
 have j0:gtS (iniW b L []) 0=(b.wl,b.wh):=by rw [ini0 hlen (Nat.zero_le _)]; unfold iniG; rw [if_neg (by omega),if_pos rfl]
 have j2:gtS (iniW b L []) (L.length + 1)=(b.sl,b.sh):=by rw [ini0 hlen (Nat.le_refl _)]; unfold iniG; rw [if_pos rfl]
 have j1:∀ k,0 < k→k≤L.length→gtS (iniW b L []) k=(1,1000000):=fun k h1 h2=>by rw [ini0 hlen (by omega)]; unfold iniG; rw [if_neg (by omega),if_neg (by omega),if_pos (by omega)]
 constructor
 ·rintro ⟨y,⟨hy1,hy2⟩,rfl,rfl⟩
  have y0:=hy1 0 (by simp)
  have y1:=hy1 1 (by simp)
  have y2:=hy1 2 (by simp)
  have s0:=hy2 0 (by simp)
  have s1:=hy2 1 (by simp)
  rw [i0] at y0; rw [i1] at y1; rw [i2] at y2; rw [g0] at s0; rw [g1] at s1
  unfold inn at y0 y1 y2 s0 s1
  simp only [Nat.zero_add,Nat.reduceAdd] at y0 y1 y2 s0 s1
  obtain ⟨k1,k2,k3⟩:=split_ok L (y 0) (y 0 - y 1) hL' s0.1 s0.2
  refine ⟨fun k=>if k≤L.length then splitX L (y 0) (y 0 - y 1) k else y 2,⟨fun i hi=>?_,fun i hi=>?_⟩,?_,?_⟩
  ·by_cases h1:i≤L.length
   ·show inn (if i≤L.length then _ else _) _
    rw [if_pos h1]
    by_cases h0:i=0
    ·subst h0
     rw [split_zero,j0]; exact y0
    ·rw [j1 i (by omega) h1]
     have:=k3 i h1
     unfold inn
     simp only
     omega
   ·have:i=L.length + 1:=by omega
    subst this
    show inn (if L.length + 1≤L.length then _ else _) _
    rw [if_neg h1,j2]; exact y2
  ·show inn ((if i≤L.length then _ else _) - (if i + 1≤L.length then _ else _)) _
   by_cases h1:i < L.length
   ·rw [if_pos (by omega),if_pos (by omega),losA_at h1]
    exact k2 i h1
   ·have:i=L.length:=by omega
    subst this
    rw [if_pos (Nat.le_refl _),if_neg (by omega),k1,losA_end]
    unfold inn
    simp only
    omega
  ·show (if L.length≤L.length then _ else _)=_
   rw [if_pos (Nat.le_refl _),k1]
   show _=y 1
   omega
  ·show (if L.length + 1≤L.length then _ else _)=_
   rw [if_neg (by omega)]; rfl
 ·rintro ⟨x,⟨hx1,hx2⟩,rfl,rfl⟩
  have x0:=hx1 0 (Nat.zero_le _)
  have x2:=hx1 (L.length + 1) (Nat.le_refl _)
  have s1:=hx2 L.length (Nat.lt_succ_self _)
  have s0:=diff_sum L x fun i hi=>by rw [← losA_at hi]; exact hx2 i (by omega)
  have x1:1≤x L.length∧x L.length≤1000000:=by
   by_cases h0:L.length=0
   ·rw [h0]; rw [j0] at x0; unfold inn at x0; simp only at x0; omega
   ·have:=hx1 L.length (by omega)
    rw [j1 L.length (by omega) (Nat.le_refl _)] at this
    exact this
  rw [j0] at x0; rw [j2] at x2; rw [losA_end] at s1
  refine ⟨fun k=>if k=0 then x 0 else if k=1 then x L.length else x (L.length + 1),⟨fun i hi=>?_,fun i hi=>?_⟩,rfl,rfl⟩
  ·have:i=0∨i=1∨i=2:=by simp at hi; omega
   rcases this with rfl | rfl | rfl
   ·rw [i0]; exact x0
   ·rw [i1]; exact x1
   ·rw [i2]; exact x2
  ·have:i=0∨i=1:=by simp at hi; omega
   rcases this with rfl | rfl
   ·rw [g0]; exact s0
   ·rw [g1]; exact s1
theorem ends_eq {N N':Nat} {L U0 U L' U0' U':Nat→Sp} (h:ExactS N L U0 U) (h':ExactS N' L' U0' U') (hL:∀ i,i < N→(L i).1≤(L i).2) (hL':∀ i,i < N'→(L' i).1≤(L' i).2) {a a':Nat} (ha:a≤N) (ha':a'≤N') (hv:∀ v,(∃ x,SolS N L U0 x∧x a=v) ↔ ∃ x,SolS N' L' U0' x∧x a'=v):U a=U' a':=by
 have key:∀ v,inn v (U a) ↔ inn v (U' a'):=fun v=>by
  constructor
  ·intro hi
   obtain ⟨x,hx,e⟩:=(hv v).1 ⟨_,h.low hL ha hi⟩
   have:=((h'.sol x).2 hx).1 a' ha'
   rwa [e] at this
  ·intro hi
   obtain ⟨x,hx,e⟩:=(hv v).2 ⟨_,h'.low hL' ha' hi⟩
   have:=((h.sol x).2 hx).1 a ha
   rwa [e] at this
 have n1:=h.ne a ha
 have n2:=h'.ne a' ha'
 have a1:=(key (U a).1).1 ⟨Int.le_refl _,n1⟩
 have a2:=(key (U a).2).1 ⟨n1,Int.le_refl _⟩
 have b1:=(key (U' a').1).2 ⟨Int.le_refl _,n2⟩
 have b2:=(key (U' a').2).2 ⟨n2,Int.le_refl _⟩
 unfold inn at a1 a2 b1 b2
 exact Prod.ext (by omega) (by omega)
theorem dry_sol {N:Nat} {L U:Nat→Sp} (hne:(U N).1≤(U N).2) (x:Nat→Int):SolS N L (dryS N U) x ↔ SolS N L U x∧x N=(U N).2:=by
 unfold SolS dryS updS
 constructor
 ·rintro ⟨h1,h2⟩
  have hN:=h1 N (Nat.le_refl _)
  rw [if_pos rfl] at hN
  unfold inn at hN
  simp only at hN
  refine ⟨⟨fun i hi=>?_,h2⟩,by omega⟩
  by_cases e:i=N
  ·subst e; unfold inn; omega
  ·have:=h1 i hi
   rwa [if_neg e] at this
 ·rintro ⟨⟨h1,h2⟩,h3⟩
  refine ⟨fun i hi=>?_,h2⟩
  by_cases e:i=N
  ·subst e; rw [if_pos rfl]; unfold inn; simp only; omega
  ·rw [if_neg e]; exact h1 i hi
theorem sur_sum {b:CBox} {L:List Sp} {lim:Sp} (hb:boxB b=true) (hlen:L.length≤14) (hL:LosW (losL L)) (hs:(sumS L).2≤1000000):surB b [sumS L] lim=surB b L lim:=by
 have hL':∀ i,i < L.length→0≤(gtS L i).1∧(gtS L i).1≤(gtS L i).2:=fun i hi=>by
  have:=hL i
  rw [losA_at hi] at this
  omega
 have hss:=sumS_ok hL'
 have hL1:LosW (losL [sumS L]):=fun k=>by
  match k with
  | 0=>show 0≤(sumS L).1∧_∧_; exact ⟨hss.1,hss.2,hs⟩
  | 1=>show (0:Int)≤0∧(0:Int)≤1000000∧(1000000:Int)≤1000000; omega
  | k + 2=>show (0:Int)≤0∧(0:Int)≤0∧(0:Int)≤1000000; omega
 have ht:=att_sum (b:=b) hb hlen hL
 have hno:∀ (L:List Sp),L.length≤14→weighF b L []=none→∀ m s,¬ Att b L m s:=fun L hl h m s=>by
  rintro ⟨x,hx,_⟩
  have:=nar_none (L:=losL L) (N:=L.length + 1) (W:=iniW b L []) (by simp [iniW]; omega) (by have h:=h; unfold weighF at h; rw [losL_length] at h; exact h) x
  exact this hx
 have hyes:∀ (L V:List Sp),L.length≤14→LosW (losL L)→weighF b L []=some V→∃ m s,Att b L m s:=fun L V hl hw h=>by
  have ok:=(weigh_ok hb hw hl h).exact
  exact ⟨_,_,_,(ok.low (los_le hw _) (Nat.zero_le _) (v:=(gtS V 0).1) ⟨Int.le_refl _,ok.ne 0 (Nat.zero_le _)⟩).1,rfl,rfl⟩
 have hl1:[sumS L].length≤14:=by simp
 cases hV:weighF b L [] with
 | none =>
  cases hV1:weighF b [sumS L] [] with
  | none=>unfold surB; rw [hV,hV1]
  | some V1 =>
   obtain ⟨m,s,h⟩:=hyes _ V1 hl1 hL1 hV1
   exact absurd ((ht m s).1 h) (hno L hlen hV m s)
 | some V =>
  cases hV1:weighF b [sumS L] [] with
  | none =>
   obtain ⟨m,s,h⟩:=hyes L V hlen hL hV
   exact absurd ((ht m s).2 h) (hno _ hl1 hV1 m s)
  | some V1 =>
   have ok:=weigh_ok hb hL hlen hV
   have ok1:=weigh_ok hb hL1 hl1 hV1
   obtain ⟨D,hD,dk⟩:=dry_ok hL hlen ok
   obtain ⟨D1,hD1,dk1⟩:=dry_ok hL1 hl1 ok1
   have l0:=los_le hL (L.length + 1)
   have l1:=los_le hL1 ([sumS L].length + 1)
   have e1:gtS V1 1=gtS V L.length:=ends_eq ok1.exact ok.exact l1 l0 (by simp) (Nat.le_succ _) fun v=>by
    constructor
    ·rintro ⟨x,hx,rfl⟩
     obtain ⟨y,hy,h1,_⟩:=(ht (x 1) (x 2)).1 ⟨x,hx,rfl,rfl⟩
     exact ⟨y,hy,h1⟩
    ·rintro ⟨x,hx,rfl⟩
     obtain ⟨y,hy,h1,_⟩:=(ht (x L.length) (x (L.length + 1))).2 ⟨x,hx,rfl,rfl⟩
     exact ⟨y,hy,h1⟩
   have e2:gtS V1 2=gtS V (L.length + 1):=ends_eq ok1.exact ok.exact l1 l0 (by simp) (Nat.le_refl _) fun v=>by
    constructor
    ·rintro ⟨x,hx,rfl⟩
     obtain ⟨y,hy,_,h1⟩:=(ht (x 1) (x 2)).1 ⟨x,hx,rfl,rfl⟩
     exact ⟨y,hy,h1⟩
    ·rintro ⟨x,hx,rfl⟩
     obtain ⟨y,hy,_,h1⟩:=(ht (x L.length) (x (L.length + 1))).2 ⟨x,hx,rfl,rfl⟩
     exact ⟨y,hy,h1⟩
   have n0:=ok.exact.ne (L.length + 1) (Nat.le_refl _)
   have n1:=ok1.exact.ne 2 (by simp)
   have e3:gtS D1 1=gtS D L.length:=ends_eq dk1.exact dk.exact l1 l0 (by simp) (Nat.le_succ _) fun v=>by
    constructor
    ·rintro ⟨x,hx,rfl⟩
     obtain ⟨hx,hs⟩:=(dry_sol (N:=2) n1 x).1 hx
     obtain ⟨y,hy,h1,h2⟩:=(ht (x 1) (x 2)).1 ⟨x,(ok1.exact.sol x).1 hx,rfl,rfl⟩
     exact ⟨y,(dry_sol n0 y).2 ⟨(ok.exact.sol y).2 hy,by rw [h2,hs,e2]⟩,h1⟩
    ·rintro ⟨x,hx,rfl⟩
     obtain ⟨hx,hs⟩:=(dry_sol n0 x).1 hx
     obtain ⟨y,hy,h1,h2⟩:=(ht (x L.length) (x (L.length + 1))).2 ⟨x,(ok.exact.sol x).1 hx,rfl,rfl⟩
     refine ⟨y,(dry_sol (N:=2) n1 y).2 ⟨(ok1.exact.sol y).2 hy,?_⟩,h1⟩
     have h2:y 2=x (L.length + 1):=h2
     rw [h2,hs,e2]
   unfold surB
   rw [hV,hV1]
   simp only
   rw [hD,hD1]
   simp only
   have em:lastM [sumS L] V1 D1=lastM L V D:=by
    show (moI (gtS D1 1).1 (gtS V1 2).2,moI (gtS V1 1).2 (gtS V1 2).1)=(moI (gtS D L.length).1 (gtS V (L.length + 1)).2,moI (gtS V L.length).2 (gtS V (L.length + 1)).1)
    rw [e1,e2,e3]
   rw [em]
end Go.Proofs.YtnmamelclmfplaaDoor.walk
