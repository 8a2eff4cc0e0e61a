/- Part of a proof by a machine of ones own: see the text with the theorem. -/
import Derived.Test.YtaiiampennkhiaaDoorLT
import Derived.Test.YtaiiampennkhiaaDoorQE
namespace Go.Proofs.YtaiiampennkhiaaDoor.walk
open Go Go.Sh
open known (partsC laidL noOv)
set_option maxRecDepth 100000
set_option linter.unusedSimpArgs false
theorem minH_mem {X:List Off} (h:∀ o ∈ X,offIn o) (hne:X ≠ []):(∃ o ∈ X,minH X=oH o)∧∀ o ∈ X,minH X≤oH o:=by
 obtain ⟨a1,a2,a3⟩:=minF X 2000
 refine ⟨?_,a2⟩
 rcases a3 with e | h'
 ·obtain ⟨o,ho⟩:=List.exists_mem_of_ne_nil X hne
  obtain ⟨i1,i2,i3⟩:=h o ho
  have:=a2 o ho
  exact ⟨o,ho,by unfold minH; omega⟩
 ·exact h'
theorem grd_cons {k:Nat} {X:List Off} (hne:X ≠ []):grd (k + 1) X=minH X::grd k (X.filter fun o=>decide (minH X < oL o)):=by
 show (if X=[] then [] else _)=_
 rw [if_neg hne]
theorem grd_mem:∀ (k:Nat) {X:List Off} {d:Int},(∀ o ∈ X,offIn o)→d ∈ grd k X→∃ o ∈ X,d=oH o
 | 0,_,d,_,hd=>by simp [grd] at hd
 | k + 1,X,d,h,hd=>by
  by_cases hne:X=[]
  ·subst hne; rw [grd_nil] at hd; simp at hd
  ·rw [grd_cons hne] at hd
   rcases List.mem_cons.1 hd with rfl | hd
   ·exact (minH_mem h hne).1
   ·obtain ⟨o,ho,e⟩:=grd_mem k (fun o ho=>h o (List.mem_filter.1 ho).1) hd
    exact ⟨o,(List.mem_filter.1 ho).1,e⟩
theorem grd_rise:∀ (k:Nat) {X:List Off},(∀ o ∈ X,offIn o)→(grd k X).Pairwise (· < ·)
 | 0,_,_=>by simp [grd]
 | k + 1,X,h=>by
  by_cases hne:X=[]
  ·subst hne; rw [grd_nil]; exact List.Pairwise.nil
  ·rw [grd_cons hne]
   have h':∀ o ∈ X.filter (fun o=>decide (minH X < oL o)),offIn o:=fun o ho=>h o (List.mem_filter.1 ho).1
   refine List.Pairwise.cons (fun d hd=>?_) (grd_rise k h')
   obtain ⟨o,ho,rfl⟩:=grd_mem k h' hd
   obtain ⟨i1,i2,i3⟩:=h' o ho
   have:=(List.mem_filter.1 ho).2
   simp at this
   omega
theorem grd_hit:∀ (k:Nat) {X:List Off},(∀ o ∈ X,offIn o)→X.length≤k→∀ o ∈ X,hitO o (grd k X)
 | 0,X,_,hk,o,ho=>by
  have:X=[]:=List.length_eq_zero_iff.1 (by omega)
  subst this; simp at ho
 | k + 1,X,h,hk,o,ho=>by
  have hne:X ≠ []:=List.ne_nil_of_mem ho
  rw [grd_cons hne]
  obtain ⟨_,m2⟩:=minH_mem h hne
  by_cases hc:oL o≤minH X
  ·exact ⟨minH X,by simp,hc,m2 o ho⟩
  ·have hl:=filter_less h hne
   obtain ⟨d,d1,d2⟩:=grd_hit k (X:=X.filter fun o=>decide (minH X < oL o)) (fun o ho=>h o (List.mem_filter.1 ho).1) (by omega) o (List.mem_filter.2 ⟨ho,by simp; omega⟩)
   exact ⟨d,List.mem_cons_of_mem _ d1,d2⟩
theorem rise_pair {n:Int} {A:List Int} (h:A.Pairwise (· < ·)) (hb:∀ x ∈ A,0≤x∧x≤n - 1):riseB n A=true:=by
 have key:∀ i,i≤A.length→riseTo n A i=true:=by
  intro i
  induction i with
  | zero=>intro _; rfl
  | succ i ih =>
   intro hi
   show (riseTo n A i && riseOk n A i)=true
   rw [ih (by omega),Bool.true_and]
   obtain ⟨x,hx⟩:∃ x,A[i]?=some x:=⟨_,List.getElem?_eq_getElem (by omega)⟩
   have hxb:=hb x (List.mem_of_getElem? hx)
   have hlt:befI A i < x:=by
    cases i with
    | zero=>show (-1:Int) < x; omega
    | succ i =>
     obtain ⟨y,hy⟩:∃ y,A[i]?=some y:=⟨_,List.getElem?_eq_getElem (by omega)⟩
     show A.getD i 0 < _
     rw [getD_of hy]
     obtain ⟨p1,e1⟩:=List.getElem?_eq_some_iff.1 hx
     obtain ⟨p2,e2⟩:=List.getElem?_eq_some_iff.1 hy
     have:=List.pairwise_iff_getElem.1 h i (i + 1) p2 p1 (by omega)
     rw [e1,e2] at this
     exact this
   simp only [riseOk,getD_of hx,inI,Bool.and_eq_true,decide_eq_true_eq]
   omega
 exact key _ (Nat.le_refl _)
theorem ref_in {l:List Pod} {a b:Int} (hE:mkErr l a b=0) {d:Int} (hd:d ∈ refL l a b):0≤d∧d≤2000∧a≤d∧d≤b:=by
 unfold refL at hd
 rw [if_pos hE] at hd
 obtain ⟨o,ho,rfl⟩:=grd_mem _ (fun o ho=>(offs_in hE o ho).1) hd
 obtain ⟨⟨i1,i2,i3⟩,⟨j,j1,j2,j3,j4⟩,_⟩:=offs_in hE o ho
 have c1:a≤oL o:=by unfold oL; rw [j3]; omega
 have c2:oH o≤b:=by unfold oH; rw [j4]; omega
 omega
theorem ref_rounds {l:List Pod} {a b:Int} (hE:mkErr l a b=0):roundsB (refL l a b)=true:=by
 have h1:=refL_len l a b
 have h2:riseB 2001 (refL l a b)=true:=rise_pair (by unfold refL; rw [if_pos hE]; exact grd_rise _ fun o ho=>(offs_in hE o ho).1) (fun x hx=>by have:=ref_in hE hx; omega)
 simp [roundsB,h1,h2]
theorem ref_plan {l:List Pod} {a b:Int} (hE:mkErr l a b=0):plE l (refL l a b)=0∧plL l (refL l a b)=l.map fun p=>cutI p (refL l a b):=by
 have hB:=(mk_span hE).1
 have e:plE l (refL l a b)=0:=by simp [plE,hB,ref_rounds hE]
 exact ⟨e,by unfold plL; rw [if_pos e]⟩
theorem offs_has {l:List Pod} {lo hi:Int} {j:Nat} {p:Pod} (hp:l[j]?=some p) (hne:oL ⟨p,lo,hi,(j:Int)⟩≤oH ⟨p,lo,hi,(j:Int)⟩):∀ k,j < k→(⟨p,lo,hi,(j:Int)⟩:Off) ∈ offsTo l lo hi k
 | 0,h=>by omega
 | k + 1,h=>by
  show _ ∈ offsTo l lo hi k++_
  rcases Nat.lt_or_ge j k with h1 | h1
  ·exact List.mem_append_left _ (offs_has hp hne k h1)
  ·have:j=k:=by omega
   subst this
   rw [hp]
   refine List.mem_append_right _ ?_
   dsimp only
   rw [if_neg (by omega)]
   simp
theorem ref_hits {l:List Pod} {a b:Int} (hE:mkErr l a b=0) {j:Nat} {p:Pod} (hp:l[j]?=some p) (hne:max (winL p) a≤min (winH p) b):∃ d ∈ refL l a b,winL p≤d∧d≤winH p:=by
 have hj:j < l.length:=(List.getElem?_eq_some_iff.1 hp).1
 have hm:=offs_has (lo:=a) (hi:=b) hp hne l.length hj
 obtain ⟨d,d1,d2,d3⟩:=grd_hit l.length (fun o ho=>(offs_in hE o ho).1) (offs_len _) _ hm
 refine ⟨d,by unfold refL; rw [if_pos hE]; exact d1,?_,?_⟩
 ·have:winL p≤oL (⟨p,a,b,(j:Int)⟩:Off):=by unfold oL; show winL p≤max (winL p) a; omega
  omega
 ·have:oH (⟨p,a,b,(j:Int)⟩:Off)≤winH p:=by unfold oH; show min (winH p) b≤winH p; omega
  omega
theorem cut_step (p:Pod):∀ (R:List Int) (s:Int),(∀ d ∈ R,0≤d)→(0≤R.foldl (stepC p) s→0≤s∨∃ d ∈ R,winL p≤d∧d≤winH p)∧(0≤s∨(∃ d ∈ R,winL p≤d∧d≤winH p)→0≤R.foldl (stepC p) s)
 | [],s,_=>⟨fun h=>.inl h,fun h=>by
   rcases h with h | ⟨d,hd,_⟩
   ·exact h
   ·simp at hd⟩
 | x::R,s,h=>by
  obtain ⟨h1,h2⟩:=cut_step p R (stepC p s x) (fun d hd=>h d (List.mem_cons_of_mem _ hd))
  have hx:=h x (by simp)
  simp only [List.foldl_cons]
  by_cases hc:winL p≤x∧x≤winH p
  ·have e:stepC p s x=x:=by
    unfold stepC inI; simp [hc.1,hc.2]
   rw [e] at h1 h2 ⊢
   exact ⟨fun _=>.inr ⟨x,by simp,hc⟩,fun _=>h2 (.inl hx)⟩
  ·have e:stepC p s x=s:=by
    unfold stepC inI
    by_cases c1:winL p≤x
    ·have c2:¬ x≤winH p:=fun c=>hc ⟨c1,c⟩
     simp [c1,c2]
    ·simp [c1]
   rw [e] at h1 h2 ⊢
   refine ⟨fun h3=>?_,fun h3=>h2 ?_⟩
   ·rcases h1 h3 with h4 | ⟨d,hd,h4⟩
    ·exact .inl h4
    ·exact .inr ⟨d,List.mem_cons_of_mem _ hd,h4⟩
   ·rcases h3 with h3 | ⟨d,hd,h4⟩
    ·exact .inl h3
    ·rcases List.mem_cons.1 hd with rfl | hd
     ·exact absurd h4 hc
     ·exact .inr ⟨d,hd,h4⟩
theorem cut_iff {p:Pod} {R:List Int} (h:∀ d ∈ R,0≤d):0≤cutI p R ↔ ∃ d ∈ R,winL p≤d∧d≤winH p:=by
 obtain ⟨h1,h2⟩:=cut_step p R (-1) h
 refine ⟨fun h3=>?_,fun h3=>h2 (.inr h3)⟩
 rcases h1 h3 with h4 | h4
 ·omega
 ·exact h4
theorem ref_cut {l:List Pod} {a b:Int} (hE:mkErr l a b=0) {j:Nat} {p:Pod} (hp:l[j]?=some p):0≤cutI p (refL l a b) ↔ max (winL p) a≤min (winH p) b:=by
 rw [cut_iff fun d hd=>(ref_in hE hd).1]
 refine ⟨fun ⟨d,d1,d2,d3⟩=>?_,fun h=>ref_hits hE hp h⟩
 obtain ⟨_,_,r3,r4⟩:=ref_in hE d1
 omega
end Go.Proofs.YtaiiampennkhiaaDoor.walk
namespace Go.Proofs.YtaiiampennkhiaaDoor.walk
open Go Go.Sh
open known (partsC laidL noOv)
set_option maxRecDepth 100000
set_option linter.unusedSimpArgs false
@[simp] theorem ia69_0 (w:AW) (a:Addr):indexAddrA Tryd.prog w 69 (.pointer (some a)) (.int .i64 0)=.val (.pointer (some (a.add 0))) w:=by kernel_rfl
@[simp] theorem ia69_1 (w:AW) (a:Addr):indexAddrA Tryd.prog w 69 (.pointer (some a)) (.int .i64 1)=.val (.pointer (some (a.add 1))) w:=by kernel_rfl
theorem rule35m {ov:Ov} (k:HasP ov 35 F35) (a b:Int) (m:Nat) (w:AW):(run Tryd.prog ov (m + 1)).call 35 [.int .i64 a,.int .i64 b] w .none=.ok (.ret (.agg ⟨[.int .i64 a,.int .i64 b]⟩)) w .none:=k.call rfl
structure In12 (w0:AW) (Bx c5:Nat) (n0 n1:Int) (X:List Pod) (w:AW):Prop where
 old:∀ x,x < w0.next→x ≠ Bx→w.heap.get x=w0.heap.get x
 row:X ≠ []→w.heap.get Bx=some (.cells (X.flatMap podC) 30 false)
 next:w0.next≤w.next
 lim:w.lim=w0.lim
end Go.Proofs.YtaiiampennkhiaaDoor.walk
namespace Go.Proofs.YtaiiampennkhiaaDoor.walk
open Go Go.Sh
open known (partsC laidL noOv)
set_option maxRecDepth 100000
set_option linter.unusedSimpArgs false
end Go.Proofs.YtaiiampennkhiaaDoor.walk
namespace Go.Proofs.YtaiiampennkhiaaDoor.walk
open Go Go.Sh
open known (partsC laidL noOv)
set_option maxRecDepth 100000
set_option linter.unusedSimpArgs false
end Go.Proofs.YtaiiampennkhiaaDoor.walk
namespace Go.Proofs.YtaiiampennkhiaaDoor.walk
open Go Go.Sh
open known (partsC laidL noOv)
set_option maxRecDepth 100000
set_option linter.unusedSimpArgs false
end Go.Proofs.YtaiiampennkhiaaDoor.walk
namespace Go.Proofs.YtaiiampennkhiaaDoor.walk
open Go Go.Sh
open known (partsC laidL noOv)
set_option maxRecDepth 100000
set_option linter.unusedSimpArgs false
end Go.Proofs.YtaiiampennkhiaaDoor.walk
