/- Part of a proof: see the text with the theorem. -/
import Derived.Test.YtdgllbepplldoaaGreatDoorTa
import Derived.Test.YtdgllbepplldoaaGreatDoorShF
set_option linter.all false
namespace Go.Proofs.YtdgllbepplldoaaGreatDoor.walk
open Go Go.Sh
set_option maxRecDepth 100000
theorem list33:isList Tryz.prog 33=true:=by kernel_rfl
theorem elem33:elemA Tryz.prog 33=some 3:=by kernel_rfl
theorem size3:szOf Tryz.prog 3=some 1:=by kernel_rfl
theorem small3:smallT Tryz.prog 3=true:=by kernel_rfl
def intC (z:Int):List Value:=[.int .i64 z]
theorem intC_length (z:Int):(intC z).length=1:=rfl
theorem intC_single (z:Int):singles (intC z)=true:=rfl
theorem len33V {w w':AW} {v:Value} {l:List Int} (h:RowsV intC w v l):lenB Tryz.prog w' 33 v=.val (.int .i64 (l.length:Nat)) w':=by
 obtain ⟨a,c,rfl⟩:=h.len; simp
theorem row_int {H:T AObj} {n b off:Nat} {l:List Int} (h:RowsA intC H n b off l) {i:Nat} {z:Int} (hz:l[i]?=some z):rd1O (H.get b) (off + i)=some (.int .i64 z):=by
 have:=h.rd1 (m:=1) (j:=0) (x:=.int .i64 z) intC_length hz rfl
 simpa using this
def S10:PSpec where
 R args w v:=∃ s:ByteArray,args=[.string s]∧(SgAt w∧0 < w.next)∧v=.bool (codeB s.data.toList)
 uniq:=by rintro _ _ _ _ ⟨s,rfl,_,rfl⟩ ⟨_,h,_,rfl⟩; cases h; rfl
 shut:=by rintro _ _ _ ⟨s,h1,h2,h3⟩; exact ⟨s,h1,h2,h3⟩
def S62:PSpec where
 R args w v:=∃ (L:List UInt8) (i:Nat) (c:UInt8),args=[.string ⟨⟨L⟩⟩,.int .i64 (i:Int),bV c]∧i < L.length∧v=.string ⟨⟨L.set i c⟩⟩
 uniq:=by
  rintro _ _ _ _ ⟨L,i,c,rfl,_,rfl⟩ ⟨L',i',c',h,_,rfl⟩
  simp only [List.cons.injEq,Value.string.injEq,ByteArray.mk.injEq,Array.mk.injEq,Value.int.injEq,bV,and_true,true_and] at h
  obtain ⟨rfl,h2,h3⟩:=h
  have:i=i':=by omega
  have:c=c':=byte_eq.1 h3
  subst i' c'; rfl
 shut h:=h
def S63:PSpec where
 R args w v:=∃ (L:List UInt8) (i:Nat) (a b:UInt8),args=[.string ⟨⟨L⟩⟩,.int .i64 (i:Int)]∧L[i]?=some a∧L[i + 1]?=some b∧i < 1000∧v=.string ⟨⟨(L.set i b).set (i + 1) a⟩⟩
 uniq:=by
  rintro _ _ _ _ ⟨L,i,a,b,rfl,h1,h2,_,rfl⟩ ⟨L',i',a',b',h,k1,k2,_,rfl⟩
  simp only [List.cons.injEq,Value.string.injEq,ByteArray.mk.injEq,Array.mk.injEq,Value.int.injEq,and_true,true_and] at h
  obtain ⟨rfl,h3⟩:=h
  have:i=i':=by omega
  subst i'
  rw [h1] at k1
  rw [h2] at k2
  cases k1; cases k2; rfl
 shut h:=h
def S21:PSpec where
 R args w v:=∃ (L:List UInt8) (i k:Nat) (a b:UInt8),args=[.string ⟨⟨L⟩⟩,.int .i64 (i:Int),.int .i64 (k:Int)]∧L[i]?=some a∧L[k]?=some b∧v=.string ⟨⟨(L.set i b).set k a⟩⟩
 uniq:=by
  rintro _ _ _ _ ⟨L,i,k,a,b,rfl,h1,h2,rfl⟩ ⟨L',i',k',a',b',h,k1,k2,rfl⟩
  simp only [List.cons.injEq,Value.string.injEq,ByteArray.mk.injEq,Array.mk.injEq,Value.int.injEq,and_true,true_and] at h
  obtain ⟨rfl,h3,h4⟩:=h
  have:i=i':=by omega
  subst i'
  have:k=k':=by omega
  subst k'
  rw [h1] at k1
  rw [h2] at k2
  cases k1; cases k2; rfl
 shut h:=h
structure InF (J:List (List UInt8)→AW→Prop) (M:Nat→Prop) (w0:AW) (st:List (List UInt8)) (w:AW):Prop where
 j:J st w
 keep:∀ x,x < w0.next→¬ M x→w.heap.get x=w0.heap.get x
 next:w0.next≤w.next
 lim:w.lim=w0.lim
section
variable {ov:Ov} {J:List (List UInt8)→AW→Prop} {M:Nat→Prop} {w0:AW} {L n1:Nat} {s:List UInt8}
end
end Go.Proofs.YtdgllbepplldoaaGreatDoor.walk
namespace Go.Sh
section
variable {α:Type} {lt:α→α→Prop}
structure Wk (lt:α→α→Prop):Prop where
 asym:∀ {x y},lt x y→¬ lt y x
 trans:∀ {x y z},¬ lt y x→¬ lt z y→¬ lt z x
theorem Wk.irr (h:Wk lt) (x:α):¬ lt x x:=fun k=>h.asym k k
theorem Wk.lt_le (h:Wk lt) {x y z:α} (h1:lt x y) (h2:¬ lt z y):lt x z:=by
 apply Classical.byContradiction
 intro h3
 exact h.trans h2 h3 h1
def swp (L:List α) (i j:Nat) (x y:α):List α:=(L.set i y).set j x
@[simp] theorem swp_len (L:List α) (i j:Nat) (x y:α):(swp L i j x y).length=L.length:=by simp [swp]
theorem swp_at {L:List α} {i j:Nat} (hi:i < L.length) (hj:j < L.length) (x y:α) (k:Nat):(swp L i j x y)[k]?=if k=j then some x else if k=i then some y else L[k]?:=by
 unfold swp
 by_cases h1:k=j
 ·subst h1; rw [if_pos rfl,List.getElem?_set_self (by rw [List.length_set]; exact hj)]
 ·rw [if_neg h1,List.getElem?_set_ne (Ne.symm h1)]
  by_cases h2:k=i
  ·subst h2; rw [if_pos rfl,List.getElem?_set_self hi]
  ·rw [if_neg h2,List.getElem?_set_ne (Ne.symm h2)]
theorem at_lt {L:List α} {i:Nat} {x:α} (h:L[i]?=some x):i < L.length:=(List.getElem?_eq_some_iff.1 h).1
theorem at_get {L:List α} {i:Nat} (h:i < L.length):∃ x,L[i]?=some x:=⟨_,List.getElem?_eq_getElem h⟩
theorem swp_perm {L:List α} {i j:Nat} {x y:α} (hx:L[i]?=some x) (hy:L[j]?=some y):(swp L i j x y).Perm L:=by
 have h1:=at_lt hx
 have h2:=at_lt hy
 have e1:L[i]=x:=by have:=List.getElem?_eq_getElem h1; rw [hx] at this; cases this; rfl
 have e2:L[j]=y:=by have:=List.getElem?_eq_getElem h2; rw [hy] at this; cases this; rfl
 have:=List.set_set_perm h1 h2
 rw [e1,e2] at this
 exact this
structure Mv (a b:Nat) (L L':List α):Prop where
 perm:L'.Perm L
 out:∀ k,k < a∨b≤k→L'[k]?=L[k]?
 fro:∀ k,a≤k→k < b→∃ j,a≤j∧j < b∧L'[k]?=L[j]?
theorem Mv.refl (a b:Nat) (L:List α):Mv a b L L:=⟨List.Perm.refl _,fun _ _=>rfl,fun k h1 h2=>⟨k,h1,h2,rfl⟩⟩
theorem Mv.len {a b:Nat} {L L':List α} (h:Mv a b L L'):L'.length=L.length:=h.perm.length_eq
theorem Mv.trans {a b:Nat} {L L' L'':List α} (h:Mv a b L L') (h':Mv a b L' L''):Mv a b L L'' :=
 ⟨h'.perm.trans h.perm,fun k hk=>(h'.out k hk).trans (h.out k hk),fun k h1 h2=>by
  obtain ⟨j,j1,j2,e⟩:=h'.fro k h1 h2
  obtain ⟨i,i1,i2,e'⟩:=h.fro j j1 j2
  exact ⟨i,i1,i2,e.trans e'⟩⟩
theorem Mv.widen {a b a' b':Nat} {L L':List α} (h:Mv a b L L') (ha:a'≤a) (hb:b≤b'):Mv a' b' L L' :=
 ⟨h.perm,fun k hk=>h.out k (by omega),fun k h1 h2=>by
  by_cases hk:a≤k∧k < b
  ·obtain ⟨j,j1,j2,e⟩:=h.fro k hk.1 hk.2
   exact ⟨j,by omega,by omega,e⟩
  ·exact ⟨k,h1,h2,h.out k (by omega)⟩⟩
theorem Mv.swap {a b i j:Nat} {L:List α} {x y:α} (hx:L[i]?=some x) (hy:L[j]?=some y) (i1:a≤i) (i2:i < b) (j1:a≤j) (j2:j < b):Mv a b L (swp L i j x y) :=
 ⟨swp_perm hx hy,fun k hk=>by rw [swp_at (at_lt hx) (at_lt hy),if_neg (by omega),if_neg (by omega)],fun k h1 h2=>by
  rw [swp_at (at_lt hx) (at_lt hy)]
  by_cases e1:k=j
  ·exact ⟨i,i1,i2,by rw [if_pos e1,hx]⟩
  ·by_cases e2:k=i
   ·exact ⟨j,j1,j2,by rw [if_neg e1,if_pos e2,hy]⟩
   ·exact ⟨k,h1,h2,by rw [if_neg e1,if_neg e2]⟩⟩
def All (P:α→Prop) (L:List α) (a b:Nat):Prop:=∀ k x,a≤k→k < b→L[k]?=some x→P x
theorem All.mv {P:α→Prop} {L L':List α} {a b:Nat} (h:All P L a b) (m:Mv a b L L'):All P L' a b:=fun k x h1 h2 hx=>by
 obtain ⟨j,j1,j2,e⟩:=m.fro k h1 h2
 exact h j x j1 j2 (by rw [← e]; exact hx)
theorem All.out {P:α→Prop} {L L':List α} {a b c d:Nat} (h:All P L c d) (m:Mv a b L L') (hd:d≤a∨b≤c):All P L' c d:=fun k x h1 h2 hx=>h k x h1 h2 (by rw [← m.out k (by omega)]; exact hx)
theorem All.part {P:α→Prop} {L:List α} {a b c d:Nat} (h:All P L a b) (h1:a≤c) (h2:d≤b):All P L c d:=fun k x k1 k2 hx=>h k x (by omega) (by omega) hx
theorem All.swp_left {P:α→Prop} {L:List α} {c i j:Nat} {x y:α} (h:All P L c i) (hx:L[i]?=some x) (hy:L[j]?=some y) (hij:i < j) (py:P y):All P (swp L i j x y) c (i + 1):=fun k z h1 h2 hz=>by
 rw [swp_at (at_lt hx) (at_lt hy),if_neg (by omega)] at hz
 by_cases hk:k=i
 ·rw [if_pos hk] at hz; cases hz; exact py
 ·rw [if_neg hk] at hz; exact h k z h1 (by omega) hz
theorem All.swp_right {P:α→Prop} {L:List α} {d i j:Nat} {x y:α} (h:All P L (j + 1) d) (hx:L[i]?=some x) (hy:L[j]?=some y) (hij:i < j) (px:P x):All P (swp L i j x y) j d:=fun k z h1 h2 hz=>by
 rw [swp_at (at_lt hx) (at_lt hy)] at hz
 by_cases hk:k=j
 ·rw [if_pos hk] at hz; cases hz; exact px
 ·rw [if_neg hk,if_neg (by omega)] at hz; exact h k z (by omega) h2 hz
theorem swp_keep {L:List α} {a i j:Nat} {x y:α} (hx:L[i]?=some x) (hy:L[j]?=some y) (h1:a ≠ i) (h2:a ≠ j):(swp L i j x y)[a]?=L[a]?:=by
 rw [swp_at (at_lt hx) (at_lt hy),if_neg h2,if_neg h1]
theorem swp_first {L:List α} {i j:Nat} {x y:α} (hx:L[i]?=some x) (hy:L[j]?=some y):(swp L i j x y)[i]?=some y:=by
 rw [swp_at (at_lt hx) (at_lt hy)]
 by_cases h:i=j
 ·subst h; rw [hx] at hy; cases hy; rw [if_pos rfl]
 ·rw [if_neg h,if_pos rfl]
def Srt (lt:α→α→Prop) (L:List α) (a b:Nat):Prop:=∀ p q x y,a≤p→p < q→q < b→L[p]?=some x→L[q]?=some y→¬ lt y x
theorem Srt.one (L:List α) {a b:Nat} (h:b≤a + 1):Srt lt L a b:=fun p q _ _ h1 h2 h3=>by omega
theorem Srt.out {L L':List α} {a b c d:Nat} (h:Srt lt L c d) (m:Mv a b L L') (hd:d≤a∨b≤c):Srt lt L' c d:=fun p q x y h1 h2 h3 hx hy=>h p q x y h1 h2 h3 (by rw [← m.out p (by omega)]; exact hx) (by rw [← m.out q (by omega)]; exact hy)
theorem Srt.part {L:List α} {a b c d:Nat} (h:Srt lt L a b) (h1:a≤c) (h2:d≤b):Srt lt L c d:=fun p q x y k1 k2 k3 hx hy=>h p q x y (by omega) k2 (by omega) hx hy
theorem Srt.cons {lt:α→α→Prop} {L:List α} {k b:Nat} {p:α} (h:Srt lt L (k + 1) b) (hp:L[k]?=some p) (hg:All (fun z=>¬ lt z p) L (k + 1) b):Srt lt L k b:=fun i j x y h1 h2 h3 hx hy=>by
 by_cases hi:i=k
 ·subst hi; rw [hp] at hx; cases hx; exact hg j y (by omega) h3 hy
 ·exact h i j x y (by omega) h2 h3 hx hy
theorem Srt.step (w:Wk lt) {L:List α} {a b:Nat} (h:Srt lt L a b) (hn:∀ x y,a < b→L[b - 1]?=some x→L[b]?=some y→¬ lt y x) (hb:b≤L.length):Srt lt L a (b + 1):=fun p q x y h1 h2 h3 hx hy=>by
 by_cases hq:q < b
 ·exact h p q x y h1 h2 hq hx hy
 ·obtain rfl:q=b:=by omega
  obtain ⟨z,hz⟩:=at_get (L:=L) (i:=q - 1) (by omega)
  have k:=hn z y (by omega) hz hy
  by_cases hp:p=q - 1
  ·subst hp; rw [hx] at hz; cases hz; exact k
  ·exact w.trans (h p (q - 1) x z h1 (by omega) (by omega) hx hz) k
def InsX (lt:α→α→Prop) (L:List α) (a n j:Nat):Prop:=∀ p q x y,a≤p→p < q→q < n→q ≠ j→L[p]?=some x→L[q]?=some y→¬ lt y x
theorem InsX.start {L:List α} {a i:Nat} (h:Srt lt L a i):InsX lt L a (i + 1) i:=fun p q x y h1 h2 h3 h4=>h p q x y h1 h2 (by omega)
theorem InsX.step (w:Wk lt) {L:List α} {a n j:Nat} {x y:α} (h:InsX lt L a n j) (ha:a < j) (hy:L[j]?=some y) (hx:L[j - 1]?=some x) (hc:lt y x):InsX lt (swp L j (j - 1) y x) a n (j - 1):=fun p q u v h1 h2 h3 h4 hu hv=>by
 rw [swp_at (at_lt hy) (at_lt hx)] at hu hv
 rw [if_neg h4] at hv
 by_cases hq:q=j
 ·rw [if_pos hq] at hv
  cases hv
  by_cases hp:p=j - 1
  ·rw [if_pos hp] at hu; cases hu
   exact w.asym hc
  ·rw [if_neg hp,if_neg (by omega)] at hu
   exact h p (j - 1) u x h1 (by omega) (by omega) (by omega) hu hx
 ·rw [if_neg hq] at hv
  by_cases hp:p=j - 1
  ·rw [if_pos hp] at hu; cases hu
   exact h j q y v (by omega) (by omega) h3 hq hy hv
  ·rw [if_neg hp] at hu
   by_cases hp2:p=j
   ·rw [if_pos hp2] at hu; cases hu
    exact h (j - 1) q x v (by omega) (by omega) h3 hq hx hv
   ·rw [if_neg hp2] at hu
    exact h p q u v h1 h2 h3 hq hu hv
theorem InsX.stop (w:Wk lt) {L:List α} {a n j:Nat} (h:InsX lt L a n j) (hj:j < L.length) (hs:∀ x y,a < j→L[j - 1]?=some x→L[j]?=some y→¬ lt y x):Srt lt L a n:=fun p q x y h1 h2 h3 hx hy=>by
 by_cases hq:q=j
 ·subst hq
  obtain ⟨z,hz⟩:=at_get (L:=L) (i:=q - 1) (by omega)
  have k:=hs z y (by omega) hz hy
  by_cases hp:p=q - 1
  ·subst hp; rw [hx] at hz; cases hz; exact k
  ·exact w.trans (h p (q - 1) x z h1 (by omega) (by omega) (by omega) hx hz) k
 ·exact h p q x y h1 h2 h3 hq hx hy
def Hp (lt:α→α→Prop) (L:List α) (f lo hi r:Nat):Prop:=(∀ k c x y,lo≤k→k ≠ r→(c=2 * k + 1∨c=2 * k + 2)→c < hi→L[f + k]?=some x→L[f + c]?=some y→¬ lt x y) ∧
 (∀ k c x y,lo≤k→(r=2 * k + 1∨r=2 * k + 2)→(c=2 * r + 1∨c=2 * r + 2)→c < hi→L[f + k]?=some x→L[f + c]?=some y→¬ lt x y)
def Heap (lt:α→α→Prop) (L:List α) (f lo hi:Nat):Prop:=∀ k c x y,lo≤k→(c=2 * k + 1∨c=2 * k + 2)→c < hi→L[f + k]?=some x→L[f + c]?=some y→¬ lt x y
theorem Hp.start {L:List α} {f lo hi:Nat} (h:Heap lt L f (lo + 1) hi):Hp lt L f lo hi lo :=
 ⟨fun k c x y h1 h2 h3 h4 hx hy=>h k c x y (by omega) h3 h4 hx hy,fun k c x y h1 h2=>by omega⟩
theorem Hp.down (w:Wk lt) {L:List α} {f lo hi r c:Nat} {x y:α} (h:Hp lt L f lo hi r) (hl:lo≤r) (hx:L[f + r]?=some x) (hy:L[f + c]?=some y) (hc:c=2 * r + 1∨c=2 * r + 2) (hh:c < hi) (hlt:lt x y)
  (hg:∀ d z,(d=2 * r + 1∨d=2 * r + 2)→d < hi→L[f + d]?=some z→¬ lt y z):Hp lt (swp L (f + r) (f + c) x y) f lo hi c:=by
 refine ⟨fun k d u v h1 h2 h3 h4 hu hv=>?_,fun k d u v h1 h2 h3 h4 hu hv=>?_⟩
 ·rw [swp_at (at_lt hx) (at_lt hy)] at hu hv
  rw [if_neg (by omega)] at hu
  by_cases hk:k=r
  ·subst hk
   rw [if_pos rfl] at hu; cases hu
   by_cases hd:d=c
   ·subst hd; rw [if_pos rfl] at hv; cases hv
    exact w.asym hlt
   ·rw [if_neg (by omega),if_neg (by omega)] at hv
    exact hg d v h3 h4 hv
  ·rw [if_neg (by omega)] at hu
   rw [if_neg (by omega)] at hv
   by_cases hd:d=r
   ·subst hd
    rw [if_pos rfl] at hv; cases hv
    exact h.2 k c u y h1 h3 hc hh hu hy
   ·rw [if_neg (by omega)] at hv
    exact h.1 k d u v h1 hk h3 h4 hu hv
 ·rw [swp_at (at_lt hx) (at_lt hy)] at hu hv
  obtain rfl:k=r:=by omega
  rw [if_neg (by omega),if_pos rfl] at hu; cases hu
  rw [if_neg (by omega),if_neg (by omega)] at hv
  exact h.1 c d y v (by omega) (by omega) h3 h4 hy hv
theorem Hp.stop {L:List α} {f lo hi r:Nat} (h:Hp lt L f lo hi r) (hs:∀ d x z,(d=2 * r + 1∨d=2 * r + 2)→d < hi→L[f + r]?=some x→L[f + d]?=some z→¬ lt x z):Heap lt L f lo hi:=fun k c x y h1 h2 h3 hx hy=>by
 by_cases hk:k=r
 ·subst hk; exact hs c x y h2 h3 hx hy
 ·exact h.1 k c x y h1 hk h2 h3 hx hy
theorem Heap.top (w:Wk lt) {L:List α} {f hi:Nat} (h:Heap lt L f 0 hi) {x:α} (hx:L[f]?=some x) (hl:f + hi≤L.length):∀ k y,k < hi→L[f + k]?=some y→¬ lt x y:=by
 intro k
 induction k using Nat.strongRecOn with
 | ind k ih =>
  intro y hk hy
  by_cases h0:k=0
  ·subst h0; rw [Nat.add_zero,hx] at hy; cases hy; exact w.irr _
  ·obtain ⟨z,hz⟩:=at_get (L:=L) (i:=f + (k - 1) / 2) (by omega)
   have h1:=ih ((k - 1) / 2) (by omega) z (by omega) hz
   have h2:=h ((k - 1) / 2) k z y (by omega) (by omega) hk hz hy
   exact w.trans h2 h1
theorem Heap.half (L:List α) {f lo hi:Nat} (h:hi≤2 * lo + 1):Heap lt L f lo hi:=fun k c x y h1 h2 h3=>by omega
theorem Heap.take (w:Wk lt) {L:List α} {f i n:Nat} {x y:α} (h:Heap lt L f 0 (i + 1)) (hx:L[f]?=some x) (hy:L[f + i]?=some y) (hn:f + n≤L.length) (hi:i < n) (hs:Srt lt L (f + i + 1) (f + n)) (hg:∀ p q u v,f≤p→p≤f + i→f + i < q→q < f + n→L[p]?=some u→L[q]?=some v→¬ lt v u) :
  Heap lt (swp L f (f + i) x y) f 1 i∧Srt lt (swp L f (f + i) x y) (f + i) (f + n)∧(∀ p q u v,f≤p→p < f + i→f + i≤q→q < f + n→(swp L f (f + i) x y)[p]?=some u→(swp L f (f + i) x y)[q]?=some v→¬ lt v u):=by
 have e:=swp_at (at_lt hx) (at_lt hy) x y
 have htop:=h.top w hx (by omega)
 refine ⟨fun k c u v h1 h2 h3 hu hv=>?_,fun p q u v h1 h2 h3 hu hv=>?_,fun p q u v h1 h2 h3 h4 hu hv=>?_⟩
 ·rw [e,if_neg (by omega),if_neg (by omega)] at hu hv
  exact h k c u v (by omega) h2 (by omega) hu hv
 ·rw [e] at hu hv
  rw [if_neg (by omega),if_neg (by omega)] at hv
  by_cases hp:p=f + i
  ·rw [if_pos hp] at hu; cases hu
   exact hg f q x v (by omega) (by omega) (by omega) h3 hx hv
  ·rw [if_neg hp,if_neg (by omega)] at hu
   exact hs p q u v (by omega) h2 h3 hu hv
 ·rw [e] at hu hv
  rw [if_neg (by omega)] at hu
  have key:∀ k z,f≤k→k≤f + i→L[k]?=some z→¬ lt x z:=fun k z k1 k2 hz=>htop (k - f) z (by omega) (by rw [show f + (k - f)=k by omega]; exact hz)
  have hu':∃ k,f≤k∧k≤f + i∧L[k]?=some u:=by
   by_cases hp:p=f
   ·rw [if_pos hp] at hu; cases hu; exact ⟨f + i,by omega,by omega,hy⟩
   ·rw [if_neg hp] at hu; exact ⟨p,by omega,by omega,hu⟩
  obtain ⟨k,k1,k2,k3⟩:=hu'
  by_cases hq:q=f + i
  ·rw [if_pos hq] at hv; cases hv
   exact key k u k1 k2 k3
  ·rw [if_neg hq,if_neg (by omega)] at hv
   exact hg k q u v k1 k2 (by omega) h4 k3 hv
structure Pdq (lt:α→α→Prop) (a0 b0 a b:Nat) (L0 L:List α):Prop where
 mv:Mv a0 b0 L0 L
 a1:a0≤a
 ab:a≤b
 b1:b≤b0
 bl:b0≤L0.length
 out:∀ p q x y,a0≤p→p < q→q < b0→(p < a∨b≤q)→L[p]?=some x→L[q]?=some y→¬ lt y x
 low:∀ x,0 < a→L[a - 1]?=some x→All (fun z=>¬ lt z x) L a b
theorem Pdq.start {L:List α} {a b:Nat} (hab:a≤b) (hl:b≤L.length) (low:∀ x,0 < a→L[a - 1]?=some x→All (fun z=>¬ lt z x) L a b):Pdq lt a b a b L L :=
 ⟨Mv.refl _ _ _,Nat.le_refl _,hab,Nat.le_refl _,hl,fun p q x y h1 h2 h3 h4=>by omega,low⟩
theorem Pdq.move {a0 b0 a b:Nat} {L0 L L':List α} (h:Pdq lt a0 b0 a b L0 L) (m:Mv a b L L'):Pdq lt a0 b0 a b L0 L':=by
 have hl:∀ k,a≤k→k < b→∀ z,L'[k]?=some z→∃ j,a≤j∧j < b∧L[j]?=some z:=fun k h1 h2 z hz=>by
  obtain ⟨j,j1,j2,e⟩:=m.fro k h1 h2
  exact ⟨j,j1,j2,by rw [← e]; exact hz⟩
 refine ⟨h.mv.trans (m.widen h.a1 h.b1),h.a1,h.ab,h.b1,h.bl,fun p q x y h1 h2 h3 h4 hx hy=>?_,fun x h0 hx=>?_⟩
 ·by_cases hp:a≤p∧p < b
  ·obtain ⟨j,j1,j2,e⟩:=hl p hp.1 hp.2 x hx
   rw [m.out q (by omega)] at hy
   exact h.out j q x y (by have:=h.a1; omega) (by omega) h3 (by omega) e hy
  ·rw [m.out p (by omega)] at hx
   by_cases hq:a≤q∧q < b
   ·obtain ⟨j,j1,j2,e⟩:=hl q hq.1 hq.2 y hy
    exact h.out p j x y h1 (by omega) (by have:=h.b1; omega) (by omega) hx e
   ·rw [m.out q (by omega)] at hy
    exact h.out p q x y h1 h2 h3 (by omega) hx hy
 ·rw [m.out (a - 1) (by omega)] at hx
  exact (h.low x h0 hx).mv m
theorem Pdq.done {a0 b0 a b:Nat} {L0 L:List α} (h:Pdq lt a0 b0 a b L0 L) (hs:Srt lt L a b):Srt lt L a0 b0:=fun p q x y h1 h2 h3 hx hy=>by
 by_cases hc:p < a∨b≤q
 ·exact h.out p q x y h1 h2 h3 hc hx hy
 ·exact hs p q x y (by omega) h2 (by omega) hx hy
theorem Pdq.right {a0 b0 a b m:Nat} {L0 L:List α} (h:Pdq lt a0 b0 a b L0 L) (h1:a≤m) (h2:m≤b) (hs:Srt lt L a m) (hg:∀ p q x y,a≤p→p < m→m≤q→q < b→L[p]?=some x→L[q]?=some y→¬ lt y x) (hm:a < m):Pdq lt a0 b0 m b L0 L :=
 ⟨h.mv,by have:=h.a1; omega,h2,h.b1,h.bl,fun p q x y k1 k2 k3 k4 hx hy=>by
  by_cases hc:p < a∨b≤q
  ·exact h.out p q x y k1 k2 k3 hc hx hy
  ·by_cases hq:q < m
   ·exact hs p q x y (by omega) k2 hq hx hy
   ·exact hg p q x y (by omega) (by omega) (by omega) (by omega) hx hy,fun x k0 hx k y k1 k2 hy=>hg (m - 1) k x y (by omega) (by omega) k1 k2 hx hy⟩
theorem Pdq.left {a0 b0 a b m:Nat} {L0 L:List α} (h:Pdq lt a0 b0 a b L0 L) (h1:a≤m) (h2:m≤b) (hs:Srt lt L m b) (hg:∀ p q x y,a≤p→p < m→m≤q→q < b→L[p]?=some x→L[q]?=some y→¬ lt y x):Pdq lt a0 b0 a m L0 L :=
 ⟨h.mv,h.a1,h1,by have:=h.b1; omega,h.bl,fun p q x y k1 k2 k3 k4 hx hy=>by
  by_cases hc:p < a∨b≤q
  ·exact h.out p q x y k1 k2 k3 hc hx hy
  ·by_cases hq:m≤p
   ·exact hs p q x y hq k2 (by omega) hx hy
   ·exact hg p q x y (by omega) (by omega) (by omega) (by omega) hx hy,fun x k0 hx=>(h.low x k0 hx).part (Nat.le_refl _) h2⟩
def Crs (cI:α→α→Int) (L:List α) (a m b:Nat):Prop:=∀ p q x y,a≤p→p < m→m≤q→q < b→L[p]?=some x→L[q]?=some y→¬ cI y x < 0
theorem Crs.mv_left {cI:α→α→Int} {L L':List α} {a m b:Nat} (h:Crs cI L a m b) (k:Mv a m L L'):Crs cI L' a m b:=fun p q x y h1 h2 h3 h4 hx hy=>by
 obtain ⟨j,j1,j2,e⟩:=k.fro p h1 h2
 rw [k.out q (by omega)] at hy
 exact h j q x y j1 j2 h3 h4 (by rw [← e]; exact hx) hy
def LtP (cI:α→α→Int) (p x:α):Prop:=cI x p < 0
def GeP (cI:α→α→Int) (p x:α):Prop:=¬ cI x p < 0
def LeP (cI:α→α→Int) (p x:α):Prop:=¬ cI p x < 0
def GtP (cI:α→α→Int) (p x:α):Prop:=cI p x < 0
structure Part (cI:α→α→Int) (L:List α) (a b m:Nat) (p:α):Prop where
 am:a≤m
 mb:m < b
 at_:L[m]?=some p
 low:All (LtP cI p) L a m
 high:All (GeP cI p) L (m + 1) b
theorem part_done {cI:α→α→Int} {L:List α} {a b j:Nat} {p y:α} (hp:L[a]?=some p) (hy:L[j]?=some y) (haj:a≤j) (hjb:j < b) (hA:All (LtP cI p) L (a + 1) (j + 1)) (hG:All (GeP cI p) L (j + 1) b):Part cI (swp L j a y p) a b j p:=by
 refine ⟨haj,hjb,?_,fun k z h1 h2 hz=>?_,fun k z h1 h2 hz=>?_⟩
 ·exact swp_first hy hp
 ·rw [swp_at (at_lt hy) (at_lt hp)] at hz
  by_cases hk:k=a
  ·rw [if_pos hk] at hz; cases hz
   exact hA j y (by omega) (by omega) hy
  ·rw [if_neg hk,if_neg (by omega)] at hz
   exact hA k z (by omega) (by omega) hz
 ·rw [swp_at (at_lt hy) (at_lt hp),if_neg (by omega),if_neg (by omega)] at hz
  exact hG k z h1 h2 hz
end
open Go
@[simp] theorem op_nilCheck {P:Program} {t:Tm} {w:AW} (ty:TypeId) (x:Operand):(opS P ty (.nilCheck x)).val t w=nilCheckA P w ((evS x).val t):=rfl
@[simp] theorem nilCheck_ptr {P:Program} {w:AW} (a:Addr):nilCheckA P w (.pointer (some a))=.val (.pointer (some a)) w:=rfl
section
variable {α:Type}
structure InS (C:α→List Value) (e:TypeId) (w0:AW) (B:Nat) (L:List α) (w:AW):Prop where
 row:w.heap.get B=some (.cells (L.flatMap C) e false)
 old:∀ x,x < w0.next→x ≠ B→w.heap.get x=w0.heap.get x
 next:w0.next≤w.next
 lim:w.lim=w0.lim
theorem InS.refl {C:α→List Value} {e:TypeId} {w:AW} {B:Nat} {L:List α} (h:w.heap.get B=some (.cells (L.flatMap C) e false)):InS C e w B L w:=⟨h,fun _ _ _=>rfl,Nat.le_refl _,rfl⟩
theorem InS.trans {C:α→List Value} {e:TypeId} {w0 w w':AW} {B:Nat} {L L':List α} (h:InS C e w0 B L w) (h':InS C e w B L' w'):InS C e w0 B L' w' :=
 ⟨h'.row,fun x hx hb=>(h'.old x (by have:=h.next; omega) hb).trans (h.old x hx hb),Nat.le_trans h.next h'.next,h'.lim.trans h.lim⟩
structure SortT (P:Program) (st e:TypeId) (sz:Nat) (C:α→List Value) (V:α→Value):Prop where
 ix:∀ (w:AW) (B n c k:Nat),k < n→indexAddrA P w st (.slice (some ⟨B,0,none⟩) n c) (.int .i64 (k:Int))=.val (.pointer (some ⟨B,k * sz,none⟩)) w
 ld:∀ (w:AW) (B k:Nat) (L:List α) (x:α),w.heap.get B=some (.cells (L.flatMap C) e false)→L[k]?=some x→loadA P w e (.pointer (some ⟨B,k * sz,none⟩))=.val (V x) w
 st:∀ (w:AW) (B k:Nat) (L:List α) (x:α),w.heap.get B=some (.cells (L.flatMap C) e false)→k < L.length→w.lim≤B→storeA P w e (.pointer (some ⟨B,k * sz,none⟩)) (V x)=.val undef ⟨w.heap.put B (some (.cells ((L.set k x).flatMap C) e false)),w.next,w.lim⟩
theorem SortT.agg {P:Program} {st e:TypeId} {sz:Nat} {C:α→List Value} (h1:P.underlying st=some (.slice e)) (h2:szOf P e=some sz) (h3:aggOf P e=some true) (hC:∀ a,(C a).length=sz) (hs:∀ a,singles (C a)=true):SortT P st e sz C (fun x=>.agg ⟨C x⟩):=by
 refine ⟨fun w B n c k hk=>?_,fun w B k L x hr hx=>?_,fun w B k L x hr hk hl=>?_⟩
 ·rw [indexAddr_slice h1 h2 ⟨B,0,none⟩ n c .i64 k hk]; simp
 ·rw [load_agg h3 h2]
  have:=flat_at hC L k x [] hx
  rw [List.append_nil] at this
  rw [rd_eq,hr,rdO_cells,if_pos this.2,this.1]
  rfl
 ·rw [store_eq h2 _ _ (by simp [hC])]
  have hf:=flat_length hC L
  simp only [wr_eq,cellsOf_agg,hr]
  rw [wrO_cells (hs x) hl (by rw [hC,hf]; have:=Nat.mul_le_mul_right sz (show k + 1≤L.length from hk); rw [Nat.add_mul] at this; omega),hC,flat_set hC L k x hk]
  rfl
theorem SortT.one {P:Program} {st e:TypeId} {V:α→Value} (h1:P.underlying st=some (.slice e)) (h2:szOf P e=some 1) (h3:aggOf P e=some false) (hs:∀ a,cellsOf (V a)=[V a]∧singles [V a]=true):SortT P st e 1 (fun x=>[V x]) V:=by
 have hC:∀ a,((fun x=>[V x]) a).length=1:=fun a=>rfl
 refine ⟨fun w B n c k hk=>?_,fun w B k L x hr hx=>?_,fun w B k L x hr hk hl=>?_⟩
 ·rw [indexAddr_slice h1 h2 ⟨B,0,none⟩ n c .i64 k hk]; simp
 ·rw [load_one h3]
  have:=(flat_at hC L k x [] hx).1
  rw [List.append_nil] at this
  have h0:(L.flatMap fun x=>[V x])[k * 1]?=some (V x):=by
   have e:((List.drop (k * 1) (L.flatMap fun x=>[V x])).take 1)[0]?=some (V x):=by rw [this]; rfl
   rw [List.getElem?_take_of_lt (by omega),List.getElem?_drop] at e
   exact e
  rw [rd1_eq,hr,rd1O_cells,h0]
  rfl
 ·rw [store_eq h2 _ _ (by rw [(hs x).1]; rfl)]
  have hf:=flat_length hC L
  simp only [wr_eq,(hs x).1,hr]
  rw [wrO_cells (hs x).2 hl (by simp only [List.length_singleton]; rw [hf]; omega)]
  have:=flat_set hC L k x hk
  simp only [List.length_singleton]
  rw [this]
  rfl
theorem InS.swap {P:Program} {st e:TypeId} {sz:Nat} {C:α→List Value} {V:α→Value} (T:SortT P st e sz C V) {w0 w:AW} {B:Nat} {L:List α} (h:InS C e w0 B L w) (hl:w0.lim≤B) {i j:Nat} {x y:α} (hx:L[i]?=some x) (hy:L[j]?=some y) :
  ∃ w1 w2,storeA P w e (.pointer (some ⟨B,i * sz,none⟩)) (V y)=.val undef w1∧storeA P w1 e (.pointer (some ⟨B,j * sz,none⟩)) (V x)=.val undef w2∧InS C e w0 B (swp L i j x y) w2:=by
 have hlim:=h.lim
 refine ⟨_,_,T.st w B i L y h.row (at_lt hx) (by omega),T.st _ B j (L.set i y) x (by simp) (by rw [List.length_set]; exact at_lt hy) (by show w.lim≤B; omega),⟨?_,fun z hz hb=>?_,h.next,hlim⟩⟩
 ·simp [swp]
 ·simp [hb]; exact h.old z hz hb
def Two (lo hi:Nat) (x:Value):Prop:=∃ p q:Nat,x=.tuple ⟨[.int .i64 (p:Int),.int .i64 (q:Int)]⟩∧lo≤p∧p < hi∧lo≤q∧q < hi
end
end Go.Sh
