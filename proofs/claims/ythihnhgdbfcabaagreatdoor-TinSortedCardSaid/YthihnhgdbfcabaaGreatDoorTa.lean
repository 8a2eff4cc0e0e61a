/- Part of a proof: see the text with the theorem. -/
import Derived.Test.YthihnhgdbfcabaaGreatDoorShF
import Derived.KernelRfl
import Derived.Test.YthihnhgdbfcabaaGreatDoorProg
set_option linter.all false
namespace Go.Sh
section
variable {α:Type} {lt:α→α→Prop}
structure Wk (lt:α→α→Prop):Prop where
 asym:∀ {x y},lt x y→¬ lt y x
 trans:∀ {x y z},¬ lt y x→¬ lt z y→¬ lt z x
theorem Wk.irr (h:Wk lt) (x:α):¬ lt x x:=fun k=>h.asym k k
theorem Wk.lt_le (h:Wk lt) {x y z:α} (h1:lt x y) (h2:¬ lt z y):lt x z:=by
 apply Classical.byContradiction
 intro h3
 exact h.trans h2 h3 h1
def swp (L:List α) (i j:Nat) (x y:α):List α:=(L.set i y).set j x
@[simp] theorem swp_len (L:List α) (i j:Nat) (x y:α):(swp L i j x y).length=L.length:=by simp [swp]
theorem swp_at {L:List α} {i j:Nat} (hi:i < L.length) (hj:j < L.length) (x y:α) (k:Nat):(swp L i j x y)[k]?=if k=j then some x else if k=i then some y else L[k]?:=by
 unfold swp
 by_cases h1:k=j
 ·subst h1; rw [if_pos rfl,List.getElem?_set_self (by rw [List.length_set]; exact hj)]
 ·rw [if_neg h1,List.getElem?_set_ne (Ne.symm h1)]
  by_cases h2:k=i
  ·subst h2; rw [if_pos rfl,List.getElem?_set_self hi]
  ·rw [if_neg h2,List.getElem?_set_ne (Ne.symm h2)]
theorem at_lt {L:List α} {i:Nat} {x:α} (h:L[i]?=some x):i < L.length:=(List.getElem?_eq_some_iff.1 h).1
theorem at_get {L:List α} {i:Nat} (h:i < L.length):∃ x,L[i]?=some x:=⟨_,List.getElem?_eq_getElem h⟩
theorem swp_perm {L:List α} {i j:Nat} {x y:α} (hx:L[i]?=some x) (hy:L[j]?=some y):(swp L i j x y).Perm L:=by
 have h1:=at_lt hx
 have h2:=at_lt hy
 have e1:L[i]=x:=by have:=List.getElem?_eq_getElem h1; rw [hx] at this; cases this; rfl
 have e2:L[j]=y:=by have:=List.getElem?_eq_getElem h2; rw [hy] at this; cases this; rfl
 have:=List.set_set_perm h1 h2
 rw [e1,e2] at this
 exact this
structure Mv (a b:Nat) (L L':List α):Prop where
 perm:L'.Perm L
 out:∀ k,k < a∨b≤k→L'[k]?=L[k]?
 fro:∀ k,a≤k→k < b→∃ j,a≤j∧j < b∧L'[k]?=L[j]?
theorem Mv.refl (a b:Nat) (L:List α):Mv a b L L:=⟨List.Perm.refl _,fun _ _=>rfl,fun k h1 h2=>⟨k,h1,h2,rfl⟩⟩
theorem Mv.len {a b:Nat} {L L':List α} (h:Mv a b L L'):L'.length=L.length:=h.perm.length_eq
theorem Mv.trans {a b:Nat} {L L' L'':List α} (h:Mv a b L L') (h':Mv a b L' L''):Mv a b L L'' :=
 ⟨h'.perm.trans h.perm,fun k hk=>(h'.out k hk).trans (h.out k hk),fun k h1 h2=>by
  obtain ⟨j,j1,j2,e⟩:=h'.fro k h1 h2
  obtain ⟨i,i1,i2,e'⟩:=h.fro j j1 j2
  exact ⟨i,i1,i2,e.trans e'⟩⟩
theorem Mv.widen {a b a' b':Nat} {L L':List α} (h:Mv a b L L') (ha:a'≤a) (hb:b≤b'):Mv a' b' L L' :=
 ⟨h.perm,fun k hk=>h.out k (by omega),fun k h1 h2=>by
  by_cases hk:a≤k∧k < b
  ·obtain ⟨j,j1,j2,e⟩:=h.fro k hk.1 hk.2
   exact ⟨j,by omega,by omega,e⟩
  ·exact ⟨k,h1,h2,h.out k (by omega)⟩⟩
theorem Mv.swap {a b i j:Nat} {L:List α} {x y:α} (hx:L[i]?=some x) (hy:L[j]?=some y) (i1:a≤i) (i2:i < b) (j1:a≤j) (j2:j < b):Mv a b L (swp L i j x y) :=
 ⟨swp_perm hx hy,fun k hk=>by rw [swp_at (at_lt hx) (at_lt hy),if_neg (by omega),if_neg (by omega)],fun k h1 h2=>by
  rw [swp_at (at_lt hx) (at_lt hy)]
  by_cases e1:k=j
  ·exact ⟨i,i1,i2,by rw [if_pos e1,hx]⟩
  ·by_cases e2:k=i
   ·exact ⟨j,j1,j2,by rw [if_neg e1,if_pos e2,hy]⟩
   ·exact ⟨k,h1,h2,by rw [if_neg e1,if_neg e2]⟩⟩
def All (P:α→Prop) (L:List α) (a b:Nat):Prop:=∀ k x,a≤k→k < b→L[k]?=some x→P x
theorem All.mv {P:α→Prop} {L L':List α} {a b:Nat} (h:All P L a b) (m:Mv a b L L'):All P L' a b:=fun k x h1 h2 hx=>by
 obtain ⟨j,j1,j2,e⟩:=m.fro k h1 h2
 exact h j x j1 j2 (by rw [← e]; exact hx)
theorem All.out {P:α→Prop} {L L':List α} {a b c d:Nat} (h:All P L c d) (m:Mv a b L L') (hd:d≤a∨b≤c):All P L' c d:=fun k x h1 h2 hx=>h k x h1 h2 (by rw [← m.out k (by omega)]; exact hx)
theorem All.part {P:α→Prop} {L:List α} {a b c d:Nat} (h:All P L a b) (h1:a≤c) (h2:d≤b):All P L c d:=fun k x k1 k2 hx=>h k x (by omega) (by omega) hx
theorem All.swp_left {P:α→Prop} {L:List α} {c i j:Nat} {x y:α} (h:All P L c i) (hx:L[i]?=some x) (hy:L[j]?=some y) (hij:i < j) (py:P y):All P (swp L i j x y) c (i + 1):=fun k z h1 h2 hz=>by
 rw [swp_at (at_lt hx) (at_lt hy),if_neg (by omega)] at hz
 by_cases hk:k=i
 ·rw [if_pos hk] at hz; cases hz; exact py
 ·rw [if_neg hk] at hz; exact h k z h1 (by omega) hz
theorem All.swp_right {P:α→Prop} {L:List α} {d i j:Nat} {x y:α} (h:All P L (j + 1) d) (hx:L[i]?=some x) (hy:L[j]?=some y) (hij:i < j) (px:P x):All P (swp L i j x y) j d:=fun k z h1 h2 hz=>by
 rw [swp_at (at_lt hx) (at_lt hy)] at hz
 by_cases hk:k=j
 ·rw [if_pos hk] at hz; cases hz; exact px
 ·rw [if_neg hk,if_neg (by omega)] at hz; exact h k z (by omega) h2 hz
theorem swp_keep {L:List α} {a i j:Nat} {x y:α} (hx:L[i]?=some x) (hy:L[j]?=some y) (h1:a ≠ i) (h2:a ≠ j):(swp L i j x y)[a]?=L[a]?:=by
 rw [swp_at (at_lt hx) (at_lt hy),if_neg h2,if_neg h1]
theorem swp_first {L:List α} {i j:Nat} {x y:α} (hx:L[i]?=some x) (hy:L[j]?=some y):(swp L i j x y)[i]?=some y:=by
 rw [swp_at (at_lt hx) (at_lt hy)]
 by_cases h:i=j
 ·subst h; rw [hx] at hy; cases hy; rw [if_pos rfl]
 ·rw [if_neg h,if_pos rfl]
def Srt (lt:α→α→Prop) (L:List α) (a b:Nat):Prop:=∀ p q x y,a≤p→p < q→q < b→L[p]?=some x→L[q]?=some y→¬ lt y x
theorem Srt.one (L:List α) {a b:Nat} (h:b≤a + 1):Srt lt L a b:=fun p q _ _ h1 h2 h3=>by omega
theorem Srt.out {L L':List α} {a b c d:Nat} (h:Srt lt L c d) (m:Mv a b L L') (hd:d≤a∨b≤c):Srt lt L' c d:=fun p q x y h1 h2 h3 hx hy=>h p q x y h1 h2 h3 (by rw [← m.out p (by omega)]; exact hx) (by rw [← m.out q (by omega)]; exact hy)
theorem Srt.part {L:List α} {a b c d:Nat} (h:Srt lt L a b) (h1:a≤c) (h2:d≤b):Srt lt L c d:=fun p q x y k1 k2 k3 hx hy=>h p q x y (by omega) k2 (by omega) hx hy
theorem Srt.cons {lt:α→α→Prop} {L:List α} {k b:Nat} {p:α} (h:Srt lt L (k + 1) b) (hp:L[k]?=some p) (hg:All (fun z=>¬ lt z p) L (k + 1) b):Srt lt L k b:=fun i j x y h1 h2 h3 hx hy=>by
 by_cases hi:i=k
 ·subst hi; rw [hp] at hx; cases hx; exact hg j y (by omega) h3 hy
 ·exact h i j x y (by omega) h2 h3 hx hy
theorem Srt.step (w:Wk lt) {L:List α} {a b:Nat} (h:Srt lt L a b) (hn:∀ x y,a < b→L[b - 1]?=some x→L[b]?=some y→¬ lt y x) (hb:b≤L.length):Srt lt L a (b + 1):=fun p q x y h1 h2 h3 hx hy=>by
 by_cases hq:q < b
 ·exact h p q x y h1 h2 hq hx hy
 ·obtain rfl:q=b:=by omega
  obtain ⟨z,hz⟩:=at_get (L:=L) (i:=q - 1) (by omega)
  have k:=hn z y (by omega) hz hy
  by_cases hp:p=q - 1
  ·subst hp; rw [hx] at hz; cases hz; exact k
  ·exact w.trans (h p (q - 1) x z h1 (by omega) (by omega) hx hz) k
def InsX (lt:α→α→Prop) (L:List α) (a n j:Nat):Prop:=∀ p q x y,a≤p→p < q→q < n→q ≠ j→L[p]?=some x→L[q]?=some y→¬ lt y x
theorem InsX.start {L:List α} {a i:Nat} (h:Srt lt L a i):InsX lt L a (i + 1) i:=fun p q x y h1 h2 h3 h4=>h p q x y h1 h2 (by omega)
theorem InsX.step (w:Wk lt) {L:List α} {a n j:Nat} {x y:α} (h:InsX lt L a n j) (ha:a < j) (hy:L[j]?=some y) (hx:L[j - 1]?=some x) (hc:lt y x):InsX lt (swp L j (j - 1) y x) a n (j - 1):=fun p q u v h1 h2 h3 h4 hu hv=>by
 rw [swp_at (at_lt hy) (at_lt hx)] at hu hv
 rw [if_neg h4] at hv
 by_cases hq:q=j
 ·rw [if_pos hq] at hv
  cases hv
  by_cases hp:p=j - 1
  ·rw [if_pos hp] at hu; cases hu
   exact w.asym hc
  ·rw [if_neg hp,if_neg (by omega)] at hu
   exact h p (j - 1) u x h1 (by omega) (by omega) (by omega) hu hx
 ·rw [if_neg hq] at hv
  by_cases hp:p=j - 1
  ·rw [if_pos hp] at hu; cases hu
   exact h j q y v (by omega) (by omega) h3 hq hy hv
  ·rw [if_neg hp] at hu
   by_cases hp2:p=j
   ·rw [if_pos hp2] at hu; cases hu
    exact h (j - 1) q x v (by omega) (by omega) h3 hq hx hv
   ·rw [if_neg hp2] at hu
    exact h p q u v h1 h2 h3 hq hu hv
theorem InsX.stop (w:Wk lt) {L:List α} {a n j:Nat} (h:InsX lt L a n j) (hj:j < L.length) (hs:∀ x y,a < j→L[j - 1]?=some x→L[j]?=some y→¬ lt y x):Srt lt L a n:=fun p q x y h1 h2 h3 hx hy=>by
 by_cases hq:q=j
 ·subst hq
  obtain ⟨z,hz⟩:=at_get (L:=L) (i:=q - 1) (by omega)
  have k:=hs z y (by omega) hz hy
  by_cases hp:p=q - 1
  ·subst hp; rw [hx] at hz; cases hz; exact k
  ·exact w.trans (h p (q - 1) x z h1 (by omega) (by omega) (by omega) hx hz) k
 ·exact h p q x y h1 h2 h3 hq hx hy
def Hp (lt:α→α→Prop) (L:List α) (f lo hi r:Nat):Prop:=(∀ k c x y,lo≤k→k ≠ r→(c=2 * k + 1∨c=2 * k + 2)→c < hi→L[f + k]?=some x→L[f + c]?=some y→¬ lt x y) ∧
 (∀ k c x y,lo≤k→(r=2 * k + 1∨r=2 * k + 2)→(c=2 * r + 1∨c=2 * r + 2)→c < hi→L[f + k]?=some x→L[f + c]?=some y→¬ lt x y)
def Heap (lt:α→α→Prop) (L:List α) (f lo hi:Nat):Prop:=∀ k c x y,lo≤k→(c=2 * k + 1∨c=2 * k + 2)→c < hi→L[f + k]?=some x→L[f + c]?=some y→¬ lt x y
theorem Hp.start {L:List α} {f lo hi:Nat} (h:Heap lt L f (lo + 1) hi):Hp lt L f lo hi lo :=
 ⟨fun k c x y h1 h2 h3 h4 hx hy=>h k c x y (by omega) h3 h4 hx hy,fun k c x y h1 h2=>by omega⟩
theorem Hp.down (w:Wk lt) {L:List α} {f lo hi r c:Nat} {x y:α} (h:Hp lt L f lo hi r) (hl:lo≤r) (hx:L[f + r]?=some x) (hy:L[f + c]?=some y) (hc:c=2 * r + 1∨c=2 * r + 2) (hh:c < hi) (hlt:lt x y)
  (hg:∀ d z,(d=2 * r + 1∨d=2 * r + 2)→d < hi→L[f + d]?=some z→¬ lt y z):Hp lt (swp L (f + r) (f + c) x y) f lo hi c:=by
 refine ⟨fun k d u v h1 h2 h3 h4 hu hv=>?_,fun k d u v h1 h2 h3 h4 hu hv=>?_⟩
 ·rw [swp_at (at_lt hx) (at_lt hy)] at hu hv
  rw [if_neg (by omega)] at hu
  by_cases hk:k=r
  ·subst hk
   rw [if_pos rfl] at hu; cases hu
   by_cases hd:d=c
   ·subst hd; rw [if_pos rfl] at hv; cases hv
    exact w.asym hlt
   ·rw [if_neg (by omega),if_neg (by omega)] at hv
    exact hg d v h3 h4 hv
  ·rw [if_neg (by omega)] at hu
   rw [if_neg (by omega)] at hv
   by_cases hd:d=r
   ·subst hd
    rw [if_pos rfl] at hv; cases hv
    exact h.2 k c u y h1 h3 hc hh hu hy
   ·rw [if_neg (by omega)] at hv
    exact h.1 k d u v h1 hk h3 h4 hu hv
 ·rw [swp_at (at_lt hx) (at_lt hy)] at hu hv
  obtain rfl:k=r:=by omega
  rw [if_neg (by omega),if_pos rfl] at hu; cases hu
  rw [if_neg (by omega),if_neg (by omega)] at hv
  exact h.1 c d y v (by omega) (by omega) h3 h4 hy hv
theorem Hp.stop {L:List α} {f lo hi r:Nat} (h:Hp lt L f lo hi r) (hs:∀ d x z,(d=2 * r + 1∨d=2 * r + 2)→d < hi→L[f + r]?=some x→L[f + d]?=some z→¬ lt x z):Heap lt L f lo hi:=fun k c x y h1 h2 h3 hx hy=>by
 by_cases hk:k=r
 ·subst hk; exact hs c x y h2 h3 hx hy
 ·exact h.1 k c x y h1 hk h2 h3 hx hy
theorem Heap.top (w:Wk lt) {L:List α} {f hi:Nat} (h:Heap lt L f 0 hi) {x:α} (hx:L[f]?=some x) (hl:f + hi≤L.length):∀ k y,k < hi→L[f + k]?=some y→¬ lt x y:=by
 intro k
 induction k using Nat.strongRecOn with
 | ind k ih =>
  intro y hk hy
  by_cases h0:k=0
  ·subst h0; rw [Nat.add_zero,hx] at hy; cases hy; exact w.irr _
  ·obtain ⟨z,hz⟩:=at_get (L:=L) (i:=f + (k - 1) / 2) (by omega)
   have h1:=ih ((k - 1) / 2) (by omega) z (by omega) hz
   have h2:=h ((k - 1) / 2) k z y (by omega) (by omega) hk hz hy
   exact w.trans h2 h1
theorem Heap.half (L:List α) {f lo hi:Nat} (h:hi≤2 * lo + 1):Heap lt L f lo hi:=fun k c x y h1 h2 h3=>by omega
theorem Heap.take (w:Wk lt) {L:List α} {f i n:Nat} {x y:α} (h:Heap lt L f 0 (i + 1)) (hx:L[f]?=some x) (hy:L[f + i]?=some y) (hn:f + n≤L.length) (hi:i < n) (hs:Srt lt L (f + i + 1) (f + n)) (hg:∀ p q u v,f≤p→p≤f + i→f + i < q→q < f + n→L[p]?=some u→L[q]?=some v→¬ lt v u) :
  Heap lt (swp L f (f + i) x y) f 1 i∧Srt lt (swp L f (f + i) x y) (f + i) (f + n)∧(∀ p q u v,f≤p→p < f + i→f + i≤q→q < f + n→(swp L f (f + i) x y)[p]?=some u→(swp L f (f + i) x y)[q]?=some v→¬ lt v u):=by
 have e:=swp_at (at_lt hx) (at_lt hy) x y
 have htop:=h.top w hx (by omega)
 refine ⟨fun k c u v h1 h2 h3 hu hv=>?_,fun p q u v h1 h2 h3 hu hv=>?_,fun p q u v h1 h2 h3 h4 hu hv=>?_⟩
 ·rw [e,if_neg (by omega),if_neg (by omega)] at hu hv
  exact h k c u v (by omega) h2 (by omega) hu hv
 ·rw [e] at hu hv
  rw [if_neg (by omega),if_neg (by omega)] at hv
  by_cases hp:p=f + i
  ·rw [if_pos hp] at hu; cases hu
   exact hg f q x v (by omega) (by omega) (by omega) h3 hx hv
  ·rw [if_neg hp,if_neg (by omega)] at hu
   exact hs p q u v (by omega) h2 h3 hu hv
 ·rw [e] at hu hv
  rw [if_neg (by omega)] at hu
  have key:∀ k z,f≤k→k≤f + i→L[k]?=some z→¬ lt x z:=fun k z k1 k2 hz=>htop (k - f) z (by omega) (by rw [show f + (k - f)=k by omega]; exact hz)
  have hu':∃ k,f≤k∧k≤f + i∧L[k]?=some u:=by
   by_cases hp:p=f
   ·rw [if_pos hp] at hu; cases hu; exact ⟨f + i,by omega,by omega,hy⟩
   ·rw [if_neg hp] at hu; exact ⟨p,by omega,by omega,hu⟩
  obtain ⟨k,k1,k2,k3⟩:=hu'
  by_cases hq:q=f + i
  ·rw [if_pos hq] at hv; cases hv
   exact key k u k1 k2 k3
  ·rw [if_neg hq,if_neg (by omega)] at hv
   exact hg k q u v k1 k2 (by omega) h4 k3 hv
structure Pdq (lt:α→α→Prop) (a0 b0 a b:Nat) (L0 L:List α):Prop where
 mv:Mv a0 b0 L0 L
 a1:a0≤a
 ab:a≤b
 b1:b≤b0
 bl:b0≤L0.length
 out:∀ p q x y,a0≤p→p < q→q < b0→(p < a∨b≤q)→L[p]?=some x→L[q]?=some y→¬ lt y x
 low:∀ x,0 < a→L[a - 1]?=some x→All (fun z=>¬ lt z x) L a b
theorem Pdq.start {L:List α} {a b:Nat} (hab:a≤b) (hl:b≤L.length) (low:∀ x,0 < a→L[a - 1]?=some x→All (fun z=>¬ lt z x) L a b):Pdq lt a b a b L L :=
 ⟨Mv.refl _ _ _,Nat.le_refl _,hab,Nat.le_refl _,hl,fun p q x y h1 h2 h3 h4=>by omega,low⟩
theorem Pdq.move {a0 b0 a b:Nat} {L0 L L':List α} (h:Pdq lt a0 b0 a b L0 L) (m:Mv a b L L'):Pdq lt a0 b0 a b L0 L':=by
 have hl:∀ k,a≤k→k < b→∀ z,L'[k]?=some z→∃ j,a≤j∧j < b∧L[j]?=some z:=fun k h1 h2 z hz=>by
  obtain ⟨j,j1,j2,e⟩:=m.fro k h1 h2
  exact ⟨j,j1,j2,by rw [← e]; exact hz⟩
 refine ⟨h.mv.trans (m.widen h.a1 h.b1),h.a1,h.ab,h.b1,h.bl,fun p q x y h1 h2 h3 h4 hx hy=>?_,fun x h0 hx=>?_⟩
 ·by_cases hp:a≤p∧p < b
  ·obtain ⟨j,j1,j2,e⟩:=hl p hp.1 hp.2 x hx
   rw [m.out q (by omega)] at hy
   exact h.out j q x y (by have:=h.a1; omega) (by omega) h3 (by omega) e hy
  ·rw [m.out p (by omega)] at hx
   by_cases hq:a≤q∧q < b
   ·obtain ⟨j,j1,j2,e⟩:=hl q hq.1 hq.2 y hy
    exact h.out p j x y h1 (by omega) (by have:=h.b1; omega) (by omega) hx e
   ·rw [m.out q (by omega)] at hy
    exact h.out p q x y h1 h2 h3 (by omega) hx hy
 ·rw [m.out (a - 1) (by omega)] at hx
  exact (h.low x h0 hx).mv m
theorem Pdq.done {a0 b0 a b:Nat} {L0 L:List α} (h:Pdq lt a0 b0 a b L0 L) (hs:Srt lt L a b):Srt lt L a0 b0:=fun p q x y h1 h2 h3 hx hy=>by
 by_cases hc:p < a∨b≤q
 ·exact h.out p q x y h1 h2 h3 hc hx hy
 ·exact hs p q x y (by omega) h2 (by omega) hx hy
theorem Pdq.right {a0 b0 a b m:Nat} {L0 L:List α} (h:Pdq lt a0 b0 a b L0 L) (h1:a≤m) (h2:m≤b) (hs:Srt lt L a m) (hg:∀ p q x y,a≤p→p < m→m≤q→q < b→L[p]?=some x→L[q]?=some y→¬ lt y x) (hm:a < m):Pdq lt a0 b0 m b L0 L :=
 ⟨h.mv,by have:=h.a1; omega,h2,h.b1,h.bl,fun p q x y k1 k2 k3 k4 hx hy=>by
  by_cases hc:p < a∨b≤q
  ·exact h.out p q x y k1 k2 k3 hc hx hy
  ·by_cases hq:q < m
   ·exact hs p q x y (by omega) k2 hq hx hy
   ·exact hg p q x y (by omega) (by omega) (by omega) (by omega) hx hy,fun x k0 hx k y k1 k2 hy=>hg (m - 1) k x y (by omega) (by omega) k1 k2 hx hy⟩
theorem Pdq.left {a0 b0 a b m:Nat} {L0 L:List α} (h:Pdq lt a0 b0 a b L0 L) (h1:a≤m) (h2:m≤b) (hs:Srt lt L m b) (hg:∀ p q x y,a≤p→p < m→m≤q→q < b→L[p]?=some x→L[q]?=some y→¬ lt y x):Pdq lt a0 b0 a m L0 L :=
 ⟨h.mv,h.a1,h1,by have:=h.b1; omega,h.bl,fun p q x y k1 k2 k3 k4 hx hy=>by
  by_cases hc:p < a∨b≤q
  ·exact h.out p q x y k1 k2 k3 hc hx hy
  ·by_cases hq:m≤p
   ·exact hs p q x y hq k2 (by omega) hx hy
   ·exact hg p q x y (by omega) (by omega) (by omega) (by omega) hx hy,fun x k0 hx=>(h.low x k0 hx).part (Nat.le_refl _) h2⟩
def Crs (cI:α→α→Int) (L:List α) (a m b:Nat):Prop:=∀ p q x y,a≤p→p < m→m≤q→q < b→L[p]?=some x→L[q]?=some y→¬ cI y x < 0
theorem Crs.mv_left {cI:α→α→Int} {L L':List α} {a m b:Nat} (h:Crs cI L a m b) (k:Mv a m L L'):Crs cI L' a m b:=fun p q x y h1 h2 h3 h4 hx hy=>by
 obtain ⟨j,j1,j2,e⟩:=k.fro p h1 h2
 rw [k.out q (by omega)] at hy
 exact h j q x y j1 j2 h3 h4 (by rw [← e]; exact hx) hy
def LtP (cI:α→α→Int) (p x:α):Prop:=cI x p < 0
def GeP (cI:α→α→Int) (p x:α):Prop:=¬ cI x p < 0
def LeP (cI:α→α→Int) (p x:α):Prop:=¬ cI p x < 0
def GtP (cI:α→α→Int) (p x:α):Prop:=cI p x < 0
structure Part (cI:α→α→Int) (L:List α) (a b m:Nat) (p:α):Prop where
 am:a≤m
 mb:m < b
 at_:L[m]?=some p
 low:All (LtP cI p) L a m
 high:All (GeP cI p) L (m + 1) b
theorem part_done {cI:α→α→Int} {L:List α} {a b j:Nat} {p y:α} (hp:L[a]?=some p) (hy:L[j]?=some y) (haj:a≤j) (hjb:j < b) (hA:All (LtP cI p) L (a + 1) (j + 1)) (hG:All (GeP cI p) L (j + 1) b):Part cI (swp L j a y p) a b j p:=by
 refine ⟨haj,hjb,?_,fun k z h1 h2 hz=>?_,fun k z h1 h2 hz=>?_⟩
 ·exact swp_first hy hp
 ·rw [swp_at (at_lt hy) (at_lt hp)] at hz
  by_cases hk:k=a
  ·rw [if_pos hk] at hz; cases hz
   exact hA j y (by omega) (by omega) hy
  ·rw [if_neg hk,if_neg (by omega)] at hz
   exact hA k z (by omega) (by omega) hz
 ·rw [swp_at (at_lt hy) (at_lt hp),if_neg (by omega),if_neg (by omega)] at hz
  exact hG k z h1 h2 hz
end
end Go.Sh
namespace Go.Sh
abbrev Pd:=Nat × Int
def pdK (p q:Pd):Int:=if p.2 < q.2 then -1 else if q.2 < p.2 then 1 else if p.1 < q.1 then -1 else if q.1 < p.1 then 1 else 0
theorem pdK_neg {p q:Pd}:pdK p q < 0 ↔ p.2 < q.2∨(p.2=q.2∧p.1 < q.1):=by
 unfold pdK
 by_cases h1:p.2 < q.2
 ·rw [if_pos h1]
  exact ⟨fun _=>.inl h1,fun _=>by decide⟩
 ·rw [if_neg h1]
  by_cases h2:q.2 < p.2
  ·rw [if_pos h2]
   constructor
   ·intro h; omega
   ·rintro (h | ⟨h,_⟩) <;> omega
  ·rw [if_neg h2]
   by_cases h3:p.1 < q.1
   ·rw [if_pos h3]
    exact ⟨fun _=>.inr ⟨by omega,h3⟩,fun _=>by decide⟩
   ·rw [if_neg h3]
    by_cases h4:q.1 < p.1
    ·rw [if_pos h4]
     constructor
     ·intro h; omega
     ·rintro (h | ⟨_,h⟩) <;> omega
    ·rw [if_neg h4]
     constructor
     ·intro h; omega
     ·rintro (h | ⟨_,h⟩) <;> omega
theorem pdK_wk:Wk fun x y:Pd=>pdK x y < 0 where
 asym h:=by
  rw [pdK_neg] at h ⊢
  omega
 trans h1 h2:=by
  rw [pdK_neg] at h1 h2 ⊢
  omega
theorem int_wk:Wk fun x y:Int=>x - y < 0 where
 asym h:=by omega
 trans h1 h2:=by omega
section
variable {α β:Type}
def runG (m:Nat) (ok:List α→Bool):Nat→List α→List (List α)
 | 0,_=>[]
 | n + 1,l=>if l.length < m then [] else if ok (l.take m) then l.take m::runG m ok n (l.drop m) else runG m ok n l.tail
theorem runG_stop {m:Nat} {ok:List α→Bool} {l:List α} (h:l.length < m):∀ n,runG m ok n l=[]
 | 0=>rfl
 | n + 1=>by unfold runG; rw [if_pos h]
theorem runG_take {m n:Nat} {ok:List α→Bool} {l:List α} (h:¬ l.length < m) (hk:ok (l.take m)=true):runG m ok (n + 1) l=l.take m::runG m ok n (l.drop m):=by
 rw [runG,if_neg h,if_pos hk]
theorem runG_skip {m n:Nat} {ok:List α→Bool} {l:List α} (h:¬ l.length < m) (hk:ok (l.take m)=false):runG m ok (n + 1) l=runG m ok n l.tail:=by
 rw [runG,if_neg h,if_neg (by rw [hk]; decide)]
theorem runG_map {f:α→β} {m:Nat} {ok:List α→Bool} {ok':List β→Bool} (h:∀ l,ok' (l.map f)=ok l):∀ (n:Nat) (l:List α),runG m ok' n (l.map f)=(runG m ok n l).map (List.map f)
 | 0,l=>rfl
 | n + 1,l=>by
  by_cases h1:l.length < m
  ·rw [runG_stop h1,runG_stop (by rw [List.length_map]; exact h1)]; rfl
  ·have h1':¬ (l.map f).length < m:=by rw [List.length_map]; exact h1
   have e:(l.map f).take m=(l.take m).map f:=by rw [List.map_take]
   cases h2:ok (l.take m) with
   | true =>
    rw [runG_take h1 h2,runG_take h1' (by rw [e,h,h2]),e,← List.map_drop,runG_map h n]; rfl
   | false =>
    rw [runG_skip h1 h2,runG_skip h1' (by rw [e,h,h2]),← List.map_tail,runG_map h n]
theorem runG_mem {m:Nat} {ok:List α→Bool}:∀ (n:Nat) (l:List α) (b:List α),b ∈ runG m ok n l→b.length=m∧ok b=true∧b.Sublist l
 | 0,l,b,h=>by cases h
 | n + 1,l,b,h=>by
  by_cases h1:l.length < m
  ·rw [runG_stop h1] at h; cases h
  ·cases h2:ok (l.take m) with
   | true =>
    rw [runG_take h1 h2] at h
    rcases List.mem_cons.1 h with rfl | h
    ·exact ⟨by rw [List.length_take]; omega,h2,List.take_sublist _ _⟩
    ·obtain ⟨a,b,c⟩:=runG_mem n _ _ h
     exact ⟨a,b,c.trans (List.drop_sublist _ _)⟩
   | false =>
    rw [runG_skip h1 h2] at h
    obtain ⟨a,b,c⟩:=runG_mem n _ _ h
    exact ⟨a,b,c.trans (List.tail_sublist _)⟩
theorem runG_flat {m:Nat} {ok:List α→Bool}:∀ (n:Nat) (l:List α),(runG m ok n l).flatten.Sublist l
 | 0,l=>List.nil_sublist _
 | n + 1,l=>by
  by_cases h1:l.length < m
  ·rw [runG_stop h1]; exact List.nil_sublist _
  ·cases h2:ok (l.take m) with
   | true =>
    rw [runG_take h1 h2,List.flatten_cons]
    have:=(List.Sublist.refl (l.take m)).append (runG_flat (m:=m) (ok:=ok) n (l.drop m))
    rwa [List.take_append_drop] at this
   | false =>
    rw [runG_skip h1 h2]
    exact (runG_flat n l.tail).trans (List.tail_sublist _)
theorem runG_len {m:Nat} {ok:List α→Bool} (hm:1≤m) (n:Nat) (l:List α):(runG m ok n l).length≤l.length:=by
 have h1:=(runG_flat (m:=m) (ok:=ok) n l).length_le
 have h2:(runG m ok n l).length≤(runG m ok n l).flatten.length:=by
  have:∀ (L:List (List α)),(∀ b ∈ L,b.length=m)→L.length≤L.flatten.length:=fun L=>by
   induction L with
   | nil=>intro _; exact Nat.le_refl _
   | cons b L ih =>
    intro h
    rw [List.flatten_cons,List.length_append,List.length_cons]
    have:=h b (.head _)
    have:=ih fun c hc=>h c (.tail _ hc)
    omega
  exact this _ fun b hb=>(runG_mem n l b hb).1
 omega
end
theorem srt_perm:∀ {l l':List Int},l.Pairwise (·≤·)→l'.Pairwise (·≤·)→l.Perm l'→l=l'
 | [],l',_,_,h=>(List.Perm.nil_eq h)
 | a::l,[],_,_,h=>by have:=h.length_eq; simp at this
 | a::l,b::l',h1,h2,h=>by
  obtain ⟨p1,p2⟩:=List.pairwise_cons.1 h1
  obtain ⟨q1,q2⟩:=List.pairwise_cons.1 h2
  have e:a=b:=by
   have ha:a ∈ b::l':=h.mem_iff.1 (.head _)
   have hb:b ∈ a::l:=h.mem_iff.2 (.head _)
   rcases List.mem_cons.1 ha with e | e
   ·exact e
   ·rcases List.mem_cons.1 hb with e' | e'
    ·exact e'.symm
    ·exact Int.le_antisymm (p1 b e') (q1 a e)
  subst e
  rw [srt_perm p2 q2 ((List.perm_cons a).1 h)]
def cntS (l:List Int) (n:Nat):List Int:=(List.range n).flatMap fun (k:Nat)=>l.filter fun z=>decide (z=(k:Int) + 1)
theorem cntS_succ (l:List Int) (n:Nat):cntS l (n + 1)=cntS l n++l.filter fun z=>decide (z=(n:Int) + 1):=by
 unfold cntS
 rw [List.range_succ,List.flatMap_append]
 simp
theorem cntS_bd {l:List Int}:∀ {n:Nat} {z:Int},z ∈ cntS l n→1≤z∧z≤n
 | 0,z,h=>by simp [cntS] at h
 | n + 1,z,h=>by
  rw [cntS_succ,List.mem_append] at h
  rcases h with h | h
  ·have:=cntS_bd h
   omega
  ·have:=of_decide_eq_true (List.mem_filter.1 h).2
   omega
theorem cntS_srt (l:List Int):∀ n:Nat,(cntS l n).Pairwise (·≤·)
 | 0=>by simp [cntS]
 | n + 1=>by
  rw [cntS_succ]
  refine List.pairwise_append.2 ⟨cntS_srt l n,?_,fun a ha b hb=>?_⟩
  ·refine List.pairwise_iff_getElem.2 fun i j hi hj hij=>?_
   have h1:=of_decide_eq_true (List.mem_filter.1 (List.getElem_mem hi)).2
   have h2:=of_decide_eq_true (List.mem_filter.1 (List.getElem_mem hj)).2
   omega
  ·have:=cntS_bd ha
   have:=of_decide_eq_true (List.mem_filter.1 hb).2
   omega
theorem cntS_perm (l:List Int):∀ n:Nat,(cntS l n).Perm (l.filter fun z=>decide (1≤z∧z≤n))
 | 0=>by
  have:(l.filter fun z=>decide (1≤z∧z≤((0:Nat):Int)))=[]:=by
   rw [List.filter_eq_nil_iff]
   intro z _ h
   have:=of_decide_eq_true h
   omega
  rw [this]
  simp [cntS]
 | n + 1=>by
  rw [cntS_succ]
  refine ((cntS_perm l n).append_right _).trans ?_
  induction l with
  | nil=>simp
  | cons a l ih =>
   by_cases h1:1≤a∧a≤(n:Int)
   ·have h2:¬ a=(n:Int) + 1:=by omega
    have h3:1≤a∧a≤((n + 1:Nat):Int):=by omega
    rw [List.filter_cons_of_pos (by simpa using h1),List.filter_cons_of_neg (by simpa using h2),List.filter_cons_of_pos (by simpa using h3)]
    exact List.Perm.cons a ih
   ·by_cases h2:a=(n:Int) + 1
    ·have h3:1≤a∧a≤((n + 1:Nat):Int):=by omega
     rw [List.filter_cons_of_neg (by simpa using h1),List.filter_cons_of_pos (by simpa using h2),List.filter_cons_of_pos (by simpa using h3)]
     exact List.perm_middle.trans (List.Perm.cons a ih)
    ·have h3:¬ (1≤a∧a≤((n + 1:Nat):Int)):=by omega
     rw [List.filter_cons_of_neg (by simpa using h1),List.filter_cons_of_neg (by simpa using h2),List.filter_cons_of_neg (by simpa using h3)]
     exact ih
theorem cntS_is {l l':List Int} (hb:∀ z ∈ l,1≤z∧z≤400) (hs:l'.Pairwise (·≤·)) (hp:l'.Perm l):cntS l 400=l':=by
 refine srt_perm (cntS_srt l 400) hs ((cntS_perm l 400).trans ?_)
 have:(l.filter fun z=>decide (1≤z∧z≤((400:Nat):Int)))=l:=by
  rw [List.filter_eq_self]
  intro z hz
  have:=hb z hz
  exact decide_eq_true (by omega)
 rw [this]
 exact hp.symm
end Go.Sh
namespace Go.Sh
section
variable {α:Type} [DecidableEq α]
theorem nodup_leA:∀ {l A:List α},l.Nodup→(∀ x ∈ l,x ∈ A)→l.length≤A.length
 | [],A,_,_=>Nat.zero_le _
 | x::l,A,hn,hs=>by
  obtain ⟨h1,h2⟩:=List.nodup_cons.1 hn
  have hx:=hs x (.head _)
  have ih:=nodup_leA (l:=l) (A:=A.erase x) h2 fun y hy=>by
   have hne:y ≠ x:=fun e=>h1 (e ▸ hy)
   exact (List.mem_erase_of_ne hne).2 (hs y (.tail _ hy))
  rw [List.length_erase_of_mem hx] at ih
  have:=List.length_pos_of_mem hx
  rw [List.length_cons]
  omega
structure Fam (m:Nat) (P:α→α→Prop) (L:List α) (F:List (List α)):Prop where
 len:∀ B ∈ F,B.length=m
 near:∀ B ∈ F,∀ x ∈ B,∀ y ∈ B,P x y
 once:F.flatten.Nodup
 inn:∀ x ∈ F.flatten,x ∈ L
def blocks (m n:Nat) (U:List α):List (List α):=(List.range n).map fun i=>(U.drop (i * m)).take m
theorem blocks_flat (m:Nat) (U:List α):∀ n,(blocks m n U).flatten=U.take (n * m)
 | 0=>by simp [blocks]
 | n + 1=>by
  have ih:=blocks_flat m U n
  unfold blocks at ih ⊢
  rw [List.range_succ,List.map_append,List.flatten_append,ih]
  simp only [List.map_cons,List.map_nil,List.flatten_cons,List.flatten_nil,List.append_nil]
  rw [Nat.add_mul,Nat.one_mul,List.take_add]
theorem flat_length' {m:Nat}:∀ {F:List (List α)},(∀ B ∈ F,B.length=m)→F.flatten.length=F.length * m
 | [],_=>by simp
 | B::F,h=>by
  rw [List.flatten_cons,List.length_append,h B (.head _),flat_length' (fun C hC=>h C (.tail _ hC)),List.length_cons,Nat.add_mul]
  omega
theorem filter_two (p:List α→Bool):∀ F:List (List α),(F.filter p++F.filter fun B=>!p B).Perm F
 | []=>List.Perm.refl _
 | B::F=>by
  cases h:p B with
  | true =>
   rw [List.filter_cons_of_pos h,List.filter_cons_of_neg (by simp [h])]
   exact List.Perm.cons B (filter_two p F)
  | false =>
   rw [List.filter_cons_of_neg (by simp [h]),List.filter_cons_of_pos (by simp [h])]
   exact List.perm_middle.trans (List.Perm.cons B (filter_two p F))
theorem flat_perm {F G:List (List α)} (h:F.Perm G):F.flatten.Perm G.flatten:=List.Perm.flatten h
theorem Fam.cut {m:Nat} {P:α→α→Prop} {A D:List α} {F:List (List α)} (hA:A.length=m) (h:Fam m P (A++D) F) (hP:∀ a ∈ A,∀ y z,z ∈ D→P y a→P y z):∃ F',Fam m P D F'∧F.length≤F'.length + 1:=by
 let p:List α→Bool:=fun B=>B.any fun x=>decide (x ∈ A)
 have hp:∀ B,p B=true ↔ ∃ x ∈ B,x ∈ A:=fun B=>by simp [p]
 have hperm:=filter_two p F
 have hfp:=flat_perm hperm
 rw [List.flatten_append] at hfp
 have hnd:((F.filter p).flatten++(F.filter fun B=>!p B).flatten).Nodup:=hfp.nodup_iff.2 h.once
 obtain ⟨n1,n2,n3⟩:=List.nodup_append.1 hnd
 have hlenF:F.length=(F.filter p).length + (F.filter fun B=>!p B).length:=by
  rw [← hperm.length_eq,List.length_append]
 have hl1:∀ B ∈ F.filter p,B.length=m:=fun B hB=>h.len B ((List.mem_filter.1 hB).1)
 have f1:=flat_length' hl1
 let U:List α:=(F.filter p).flatten.filter fun x=>!decide (x ∈ A)
 have hUs:U.Sublist (F.filter p).flatten:=List.filter_sublist
 have hUA:∀ x ∈ U,x ∉ A:=fun x hx=>by
  have:=(List.mem_filter.1 hx).2
  simpa using this
 have hcount:(F.filter p).flatten.length≤m + U.length:=by
  have a:((F.filter p).flatten.filter fun x=>decide (x ∈ A)).length≤A.length:=nodup_leA (List.Pairwise.sublist List.filter_sublist n1) fun x hx=>by
   have:=(List.mem_filter.1 hx).2
   simpa using this
  have b:∀ (l:List α),l.length=(l.filter fun x=>decide (x ∈ A)).length + (l.filter fun x=>!decide (x ∈ A)).length:=fun l=>by
   induction l with
   | nil=>rfl
   | cons x l ih =>
    by_cases hx:x ∈ A
    ·rw [List.filter_cons_of_pos (by simpa using hx),List.filter_cons_of_neg (by simpa using hx),List.length_cons,List.length_cons]
     omega
    ·rw [List.filter_cons_of_neg (by simpa using hx),List.filter_cons_of_pos (by simpa using hx),List.length_cons,List.length_cons]
     omega
  have:=b (F.filter p).flatten
  show _≤m + ((F.filter p).flatten.filter fun x=>!decide (x ∈ A)).length
  omega
 have inD:∀ x ∈ F.flatten,x ∉ A→x ∈ D:=fun x hx hn=>by
  rcases List.mem_append.1 (h.inn x hx) with e | e
  ·exact absurd e hn
  ·exact e
 have hUD:∀ x ∈ U,x ∈ D:=fun x hx=>inD x (hfp.mem_iff.1 (List.mem_append.2 (.inl (hUs.subset hx)))) (hUA x hx)
 have hUP:∀ y ∈ U,∀ z ∈ U,P y z:=fun y hy z hz=>by
  obtain ⟨B,hB,hyB⟩:=List.mem_flatten.1 (hUs.subset hy)
  obtain ⟨hB1,hB2⟩:=List.mem_filter.1 hB
  obtain ⟨a,haB,haA⟩:=(hp B).1 hB2
  exact hP a haA y z (hUD z hz) (h.near B hB1 y hyB a haB)
 refine ⟨(F.filter fun B=>!p B)++blocks m ((F.filter p).length - 1) U,⟨fun B hB=>?_,fun B hB x hx y hy=>?_,?_,fun x hx=>?_⟩,?_⟩
 ·rcases List.mem_append.1 hB with hB | hB
  ·exact h.len B ((List.mem_filter.1 hB).1)
  ·obtain ⟨i,hi,rfl⟩:=List.mem_map.1 hB
   have hi:=List.mem_range.1 hi
   rw [List.length_take,List.length_drop]
   have e1:(i + 1) * m≤((F.filter p).length - 1) * m:=Nat.mul_le_mul_right m (by omega)
   have e2:(F.filter p).length * m=((F.filter p).length - 1) * m + m:=by
    obtain ⟨k,hk⟩:∃ k,(F.filter p).length=k + 1:=⟨(F.filter p).length - 1,by omega⟩
    rw [hk,Nat.add_sub_cancel,Nat.add_mul,Nat.one_mul]
   rw [Nat.add_mul,Nat.one_mul] at e1
   omega
 ·rcases List.mem_append.1 hB with hB | hB
  ·exact h.near B ((List.mem_filter.1 hB).1) x hx y hy
  ·obtain ⟨i,_,rfl⟩:=List.mem_map.1 hB
   exact hUP x (List.mem_of_mem_drop (List.mem_of_mem_take hx)) y (List.mem_of_mem_drop (List.mem_of_mem_take hy))
 ·rw [List.flatten_append,blocks_flat]
  refine List.nodup_append.2 ⟨n2,List.Pairwise.sublist ((List.take_sublist _ _).trans hUs) n1,fun x hx y hy e=>?_⟩
  exact n3 y (hUs.subset (List.mem_of_mem_take hy)) x hx e.symm
 ·rw [List.flatten_append,blocks_flat] at hx
  rcases List.mem_append.1 hx with hx | hx
  ·refine inD x (hfp.mem_iff.1 (List.mem_append.2 (.inr hx))) fun hA=>?_
   obtain ⟨B,hB,hxB⟩:=List.mem_flatten.1 hx
   have:=(List.mem_filter.1 hB).2
   have h2:=(hp B).2 ⟨x,hxB,hA⟩
   rw [h2] at this
   cases this
  ·exact hUD x (List.mem_of_mem_take hx)
 ·rw [List.length_append]
  unfold blocks
  rw [List.length_map,List.length_range]
  omega
theorem runG_best {m:Nat} (hm:1≤m) {P:α→α→Prop} {ok:List α→Bool} (R:α→α→Prop)
  (hcut:∀ a y z,R a z→P y a→P y z)
  (hbad:∀ (L:List α),L.Pairwise R→L.Nodup→m≤L.length→ok (L.take m)=false→∀ F,Fam m P L F→∀ x ∈ F.flatten,x ∈ L.tail) :
  ∀ (n:Nat) (L:List α),L.Pairwise R→L.Nodup→L.length < n→∀ F,Fam m P L F→F.length≤(runG m ok n L).length
 | 0,L,_,_,h,_,_=>by omega
 | n + 1,L,hR,hN,hn,F,hF=>by
  by_cases h1:L.length < m
  ·cases F with
   | nil=>exact Nat.zero_le _
   | cons B F =>
    exfalso
    have hB:=hF.len B (.head _)
    have hBn:B.Nodup:=(List.nodup_append.1 (by have:=hF.once; rwa [List.flatten_cons] at this)).1
    have:=nodup_leA hBn fun x hx=>hF.inn x (by rw [List.flatten_cons]; exact List.mem_append.2 (.inl hx))
    omega
  ·cases h2:ok (L.take m) with
   | true =>
    rw [runG_take h1 h2,List.length_cons]
    have e:=List.take_append_drop m L
    have hF':=hF
    rw [← e] at hF'
    have hR':=hR
    rw [← e] at hR'
    obtain ⟨p1,p2,p3⟩:=List.pairwise_append.1 hR'
    obtain ⟨F',hf,hle⟩:=Fam.cut (by rw [List.length_take]; omega) hF' fun a ha y z hz hy=>hcut a y z (p3 a ha z hz) hy
    have:=runG_best hm R hcut hbad n (L.drop m) p2 (List.Pairwise.sublist (List.drop_sublist _ _) hN) (by rw [List.length_drop]; omega) F' hf
    omega
   | false =>
    rw [runG_skip h1 h2]
    refine runG_best hm R hcut hbad n L.tail (List.Pairwise.sublist (List.tail_sublist _) hR) (List.Pairwise.sublist (List.tail_sublist _) hN) ?_ F ⟨hF.len,hF.near,hF.once,hbad L hR hN (by omega) h2 F hF⟩
    rw [List.length_tail]
    omega
end
end Go.Sh
namespace Go.Proofs.YthihnhgdbfcabaaGreatDoor.walk
open Go Go.Sh
set_option maxRecDepth 100000
@[simp] theorem ne22 (c:Bool) (x y:Value) (w:AW):(binW Tryz.prog .neq 22 c).val x y w=vR w ((eqFlat false [0] x y).map fun b=>.bool (!b)):=bin_neq (by kernel_rfl) c x y
@[simp] theorem ne3 (c:Bool) (x y:Value) (w:AW):(binW Tryz.prog .neq 3 c).val x y w=vR w ((eqFlat false [0] x y).map fun b=>.bool (!b)):=bin_neq (by kernel_rfl) c x y
@[simp] theorem ld3 (w:AW) (a:Addr):loadA Tryz.prog w 3 (.pointer (some a))=vR w (rd1 w a.block a.off):=load_one (by kernel_rfl) a
@[simp] theorem eq3 (c:Bool) (x y:Value) (w:AW):(binW Tryz.prog .eql 3 c).val x y w=vR w ((eqFlat false [0] x y).map .bool):=bin_eql (by kernel_rfl) c x y
@[simp] theorem ix9 (w:AW) (a:ByteArray) (k:IntKind) (i:Nat) (b:UInt8) (hb:a.data.toList[i]?=some b):indexA Tryz.prog w 9 (.string a) (.int k (i:Int))=.val (.int .u8 (b.toNat:Int)) w:=index_string (by kernel_rfl) a k i b hb
@[simp] theorem bd33_0_n1 (w:AW) (x0:Int):buildSliceA Tryz.prog w 33 1 [(0,.int .i64 x0)]=.val (.slice (some ⟨w.next,0,some 2⟩) 1 1) ⟨w.heap.put w.next (some (.cells [.int .i64 x0] 3 false)),w.next + 1,w.lim⟩:=by kernel_rfl
@[simp] theorem len33 (w:AW) (a:Option Addr) (n c:Nat):lenB Tryz.prog w 33 (.slice a n c)=.val (.int .i64 n) w:=len_slice (e:=3) (by kernel_rfl) a n c
@[simp] theorem ia33 (w:AW) (a:Addr) (n c:Nat) (k:IntKind) (i:Nat) (hi:i < n):indexAddrA Tryz.prog w 33 (.slice (some a) n c) (.int k (i:Int))=.val (.pointer (some (a.add (i * 1)))) w:=indexAddr_slice (e:=3) (by kernel_rfl) (by kernel_rfl) a n c k i hi
noncomputable def mc20:MC:=.seq (.ops [⟨false,none,some 4,3,.assign (.const (.int .i64 0))⟩]) (.seq (.seq (.ops [⟨false,none,some 5,3,.move (.tmp 1)⟩,⟨false,none,some 6,4,.binOp .lss 3 (.tmp 5) (.const (.int .i64 1)) 3⟩]) (.cond (.tmp 6) (.seq (.ops [⟨false,none,some 4,3,.assign (.const (.int .i64 0))⟩]) (.ret)) (.skip))) (.seq (.ops [⟨false,none,some 7,3,.move (.tmp 0)⟩,⟨false,none,some 8,3,.move (.tmp 1)⟩,⟨false,none,some 9,3,.binOp .rem 3 (.tmp 7) (.tmp 8) 3⟩,⟨false,none,some 10,3,.move (.tmp 1)⟩,⟨false,none,some 11,3,.binOp .add 3 (.tmp 9) (.tmp 10) 3⟩,⟨false,none,some 12,3,.move (.tmp 1)⟩,⟨false,none,some 13,3,.binOp .rem 3 (.tmp 11) (.tmp 12) 3⟩,⟨false,none,some 4,3,.assign (.tmp 13)⟩]) (.ret)))
theorem text20:textF Tryz.prog 20=some (14,[.tmp 4],mc20):=by kernel_rfl
noncomputable def mc23:MC:=.seq (.ops [⟨false,none,some 6,4,.assign (.const (.bool false))⟩]) (.seq (.ops [⟨false,none,some 7,3,.move (.tmp 1)⟩,⟨false,none,some 8,3,.move (.tmp 0)⟩,⟨false,none,some 9,4,.binOp .leq 3 (.tmp 7) (.tmp 8) 3⟩,⟨false,none,some 10,4,.move (.tmp 9)⟩,⟨false,some (10,true),some 11,3,.move (.tmp 0)⟩,⟨false,some (10,true),some 12,3,.move (.tmp 2)⟩,⟨false,some (10,true),some 13,4,.binOp .leq 3 (.tmp 11) (.tmp 12) 3⟩,⟨false,none,some 14,4,.pick (.tmp 10) (.tmp 13) (.const (.bool false))⟩,⟨false,none,some 6,4,.assign (.tmp 14)⟩]) (.ret))
theorem text23:textF Tryz.prog 23=some (15,[.tmp 6],mc23):=by kernel_rfl
noncomputable def mc58:MC:=.seq (.ops [⟨false,none,some 6,4,.assign (.const (.bool false))⟩]) (.seq (.ops [⟨false,none,some 7,3,.move (.tmp 1)⟩,⟨false,none,some 8,3,.move (.tmp 0)⟩,⟨false,none,some 9,4,.binOp .leq 3 (.tmp 7) (.tmp 8) 3⟩,⟨false,none,some 10,4,.move (.tmp 9)⟩,⟨false,some (10,true),some 11,3,.move (.tmp 0)⟩,⟨false,some (10,true),some 12,3,.move (.tmp 2)⟩,⟨false,some (10,true),some 13,4,.binOp .leq 3 (.tmp 11) (.tmp 12) 3⟩,⟨false,none,some 14,4,.pick (.tmp 10) (.tmp 13) (.const (.bool false))⟩,⟨false,none,some 6,4,.assign (.tmp 14)⟩]) (.ret))
theorem text58:textF Tryz.prog 58=some (15,[.tmp 6],mc58):=by kernel_rfl
@[simp] theorem cf15 (w:AW) (l:List Value):callFn Tryz.prog w 15 l=.enter 15 l w:=callFn_of (by kernel_rfl) l
@[simp] theorem cf20 (w:AW) (l:List Value):callFn Tryz.prog w 20 l=.enter 20 l w:=callFn_enter text20 l
@[simp] theorem cf58 (w:AW) (l:List Value):callFn Tryz.prog w 58 l=.enter 58 l w:=callFn_enter text58 l
end Go.Proofs.YthihnhgdbfcabaaGreatDoor.walk
namespace Go.Sh
def sumW (f w:Nat→Int):Nat→Int
 | 0=>0
 | n + 1=>sumW f w n + f n * w n
def pwI (i:Nat):Int:=2 ^ (i + 1)
end Go.Sh
namespace Go.Sh
def sgL:List UInt8:=[97,98,99,100,101,102,103,104,105,106,107,108,109,110,111,112,113,114,115,116,117,118,119,120,121,122,48,49,50,51,52,53,54,55,56,57,45]
def sgV (c:UInt8):Nat:=sgL.idxOf c
def sgB (c:UInt8):Bool:=decide (sgV c < 37)
def vfI (s:List UInt8) (j:Nat):Int:=match s[j]? with | some c=>(sgV c:Int) | none=>0
def areB (s:List UInt8) (lo hi:Nat):Bool:=(decide (lo≤s.length) && decide (s.length≤hi)) && s.all sgB
def chkN (s:List UInt8):Nat:=(sumW (vfI s) pwI s.length % 37).toNat
def chkS (s:List UInt8):UInt8:=sgL.getD (chkN s) 0
def codeB (s:List UInt8):Bool:=areB s 2 17 && decide (s.getLast?=some (chkS s.dropLast))
def repL (s:List UInt8) (i:Nat):List (List UInt8):=(sgL.filter fun c=>decide (s[i]? ≠ some c)).map fun c=>s.set i c
def excL (s:List UInt8) (i:Nat):List (List UInt8):=match s[i]?,s[i + 1]? with
 | some a,some b=>if a=b then [] else [(s.set i b).set (i + 1) a]
 | _,_=>[]
def fltL (s:List UInt8):List (List UInt8):=(List.range s.length).flatMap (repL s)++(List.range (s.length - 1)).flatMap (excL s)
def nearU (s:List UInt8):List (List UInt8):=(fltL s).filter codeB
structure Rep (s:List UInt8) (i:Nat) (x:List UInt8):Prop where
 lt:i < s.length
 ex:∃ c,sgB c=true∧s[i]? ≠ some c∧x=s.set i c
structure Exc (s:List UInt8) (i:Nat) (x:List UInt8):Prop where
 lt:i + 1 < s.length
 ex:∃ a b,s[i]?=some a∧s[i + 1]?=some b∧a ≠ b∧x=(s.set i b).set (i + 1) a
theorem Rep.at_ {s x:List UInt8} {i:Nat} (h:Rep s i x):x.length=s.length∧x[i]? ≠ s[i]?∧∀ k:Nat,k ≠ i→x[k]?=s[k]?:=by
 obtain ⟨hi,c,_,h2,rfl⟩:=h
 refine ⟨List.length_set,?_,fun k hk=>List.getElem?_set_ne (Ne.symm hk)⟩
 rw [List.getElem?_set_self hi]
 exact Ne.symm h2
theorem Exc.at_ {s x:List UInt8} {i:Nat} (h:Exc s i x):x.length=s.length∧x[i]?=s[i + 1]?∧x[i + 1]?=s[i]?∧x[i]? ≠ s[i]?∧x[i + 1]? ≠ s[i + 1]?∧∀ k:Nat,k ≠ i→k ≠ i + 1→x[k]?=s[k]?:=by
 obtain ⟨hi,a,b,h1,h2,h3,rfl⟩:=h
 have e1:((s.set i b).set (i + 1) a)[i]?=some b:=by
  rw [List.getElem?_set_ne (by omega),List.getElem?_set_self (by omega)]
 have e2:((s.set i b).set (i + 1) a)[i + 1]?=some a:=by
  rw [List.getElem?_set_self (by rw [List.length_set]; exact hi)]
 refine ⟨by rw [List.length_set,List.length_set],by rw [e1,h2],by rw [e2,h1],?_,?_,fun k hk hk'=>?_⟩
 ·rw [e1,h1]; intro e; exact h3 (Option.some.inj e).symm
 ·rw [e2,h2]; intro e; exact h3 (Option.some.inj e)
 ·rw [List.getElem?_set_ne (Ne.symm hk'),List.getElem?_set_ne (Ne.symm hk)]
end Go.Sh
