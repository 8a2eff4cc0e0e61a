/- Part of a proof by a machine of ones own: see the text with the theorem. -/
import Derived.Test.YtlkklcbjjompbaaDoorShF
namespace Go.Proofs.YtlkklcbjjompbaaDoor.walk
set_option linter.unusedSimpArgs false
set_option linter.unusedVariables false
abbrev Sp:=Int × Int
def inn (x:Int) (s:Sp):Prop:=s.1≤x∧x≤s.2
def bothS (a b:Sp):Sp:=(max a.1 b.1,min a.2 b.2)
def restS (u l:Sp):Sp:=(u.1 - l.2,u.2 - l.1)
def wholeS (u l:Sp):Sp:=(u.1 + l.1,u.2 + l.2)
def empS (a:Sp):Bool:=decide (a.2 < a.1)
def updS (U:Nat→Sp) (i:Nat) (s:Sp):Nat→Sp:=fun k=>if k=i then s else U k
def lowS (L:Nat→Sp) (d:Nat) (U:Nat→Sp):Nat→Sp:=updS U (d + 1) (bothS (U (d + 1)) (restS (U d) (L d)))
def stepS (L:Nat→Sp) (d:Nat) (U:Nat→Sp):Nat→Sp:=updS (lowS L d U) d (bothS (lowS L d U d) (wholeS (lowS L d U (d + 1)) (L d)))
def passS (L:Nat→Sp) (U:Nat→Sp):Nat→Nat→Sp
 | 0=>U
 | d + 1=>stepS L d (passS L U d)
def SolS (N:Nat) (L U:Nat→Sp) (x:Nat→Int):Prop:=(∀ i,i≤N→inn (x i) (U i))∧∀ i,i < N→inn (x i - x (i + 1)) (L i)
theorem stepS_at (L U:Nat→Sp) (d k:Nat):stepS L d U k=if k=d then bothS (U d) (wholeS (bothS (U (d + 1)) (restS (U d) (L d))) (L d)) else if k=d + 1 then bothS (U (d + 1)) (restS (U d) (L d)) else U k:=by
 have h1:lowS L d U d=U d:=by unfold lowS updS; rw [if_neg (by omega)]
 have h2:lowS L d U (d + 1)=bothS (U (d + 1)) (restS (U d) (L d)):=by unfold lowS updS; rw [if_pos rfl]
 unfold stepS
 rw [h1,h2]
 unfold updS
 by_cases e:k=d
 ·rw [if_pos e,if_pos e]
 ·rw [if_neg e,if_neg e]; rfl
theorem stepS_sol {N:Nat} {L U:Nat→Sp} {d:Nat} {x:Nat→Int} (hd:d < N):SolS N L (stepS L d U) x ↔ SolS N L U x:=by
 constructor
 ·rintro ⟨h1,h2⟩
  refine ⟨fun i hi=>?_,h2⟩
  have h:=h1 i hi
  rw [stepS_at] at h
  by_cases e:i=d
  ·subst e
   rw [if_pos rfl] at h
   unfold inn at h ⊢
   unfold bothS at h
   simp only at h
   omega
  ·rw [if_neg e] at h
   by_cases e2:i=d + 1
   ·subst e2
    rw [if_pos rfl] at h
    unfold inn at h ⊢
    unfold bothS at h
    simp only at h
    omega
   ·rw [if_neg e2] at h; exact h
 ·rintro ⟨h1,h2⟩
  refine ⟨fun i hi=>?_,h2⟩
  have k1:=h1 d (by omega)
  have k2:=h1 (d + 1) (by omega)
  have k3:=h2 d hd
  rw [stepS_at]
  unfold inn at k1 k2 k3
  by_cases e:i=d
  ·subst e
   rw [if_pos rfl]
   unfold inn bothS wholeS restS
   simp only
   omega
  ·rw [if_neg e]
   by_cases e2:i=d + 1
   ·subst e2
    rw [if_pos rfl]
    unfold inn bothS restS
    simp only
    omega
   ·rw [if_neg e2]; exact h1 i hi
theorem passS_sol {N:Nat} {L U:Nat→Sp} {x:Nat→Int}:∀ d,d≤N→(SolS N L (passS L U d) x ↔ SolS N L U x)
 | 0,_=>Iff.rfl
 | d + 1,h=>(stepS_sol (by omega)).trans (passS_sol d (by omega))
def Tight (N:Nat) (L U:Nat→Sp):Prop:=∀ d,d < N→((U d).1 - (L d).2≤(U (d + 1)).1∧(U (d + 1)).2≤(U d).2 - (L d).1)∧((U (d + 1)).1 + (L d).1≤(U d).1∧(U d).2≤(U (d + 1)).2 + (L d).2)
def subS (a b:Sp):Prop:=b.1≤a.1∧a.2≤b.2
theorem subS.refl (a:Sp):subS a a:=⟨Int.le_refl _,Int.le_refl _⟩
theorem subS.trans {a b c:Sp} (h:subS a b) (k:subS b c):subS a c:=⟨Int.le_trans k.1 h.1,Int.le_trans h.2 k.2⟩
theorem subS.eq {a b:Sp} (h:subS a b) (k:subS b a):a=b:=Prod.ext (Int.le_antisymm k.1 h.1) (Int.le_antisymm h.2 k.2)
theorem stepS_sub (L U:Nat→Sp) (d k:Nat):subS (stepS L d U k) (U k):=by
 rw [stepS_at]
 split
 ·rename_i e; subst e; unfold subS bothS; simp only; omega
 ·split
  ·rename_i e; subst e; unfold subS bothS; simp only; omega
  ·exact subS.refl _
theorem passS_sub (L U:Nat→Sp) (k:Nat):∀ d e,subS (passS L U (d + e) k) (passS L U d k)
 | d,0=>subS.refl _
 | d,e + 1=>(stepS_sub L _ _ k).trans (passS_sub L U k d e)
theorem fix_tight {N:Nat} {L U:Nat→Sp} (h:∀ k,k≤N→passS L U N k=U k):Tight N L U:=by
 have same:∀ d,d≤N→∀ k,k≤N→passS L U d k=U k:=fun d hd k hk=>by
  have h1:=passS_sub L U k 0 d
  have h2:=passS_sub L U k d (N - d)
  rw [show d + (N - d)=N by omega,h k hk] at h2
  rw [Nat.zero_add] at h1
  exact h1.eq h2
 intro d hd
 have a0:=same d (by omega) d (by omega)
 have a1:=same d (by omega) (d + 1) (by omega)
 have b0:=same (d + 1) (by omega) d (by omega)
 have b1:=same (d + 1) (by omega) (d + 1) (by omega)
 have s0:=stepS_at L (passS L U d) d d
 have s1:=stepS_at L (passS L U d) d (d + 1)
 rw [if_pos rfl,a0,a1] at s0
 rw [if_neg (by omega),if_pos rfl,a0,a1] at s1
 have c0:U d=bothS (U d) (wholeS (bothS (U (d + 1)) (restS (U d) (L d))) (L d)):=b0.symm.trans s0
 have c1:U (d + 1)=bothS (U (d + 1)) (restS (U d) (L d)):=b1.symm.trans s1
 rw [← c1] at c0
 have e1:=congrArg Prod.fst c0
 have e2:=congrArg Prod.snd c0
 have e3:=congrArg Prod.fst c1
 have e4:=congrArg Prod.snd c1
 unfold bothS wholeS at e1 e2
 unfold bothS restS at e3 e4
 simp only at e1 e2 e3 e4
 omega
def fwdS (L U:Nat→Sp) (a:Nat) (v:Int):Nat→Int
 | 0=>v
 | k + 1=>min (U (a + k + 1)).2 (fwdS L U a v k - (L (a + k)).1)
def bwdS (L U:Nat→Sp) (a:Nat) (v:Int):Nat→Int
 | 0=>v
 | k + 1=>min (U (a - k - 1)).2 (bwdS L U a v k + (L (a - k - 1)).2)
def chainS (L U:Nat→Sp) (a:Nat) (v:Int) (i:Nat):Int:=if a≤i then fwdS L U a v (i - a) else bwdS L U a v (a - i)
theorem fwdS_in {N:Nat} {L U:Nat→Sp} (hT:Tight N L U) (hL:∀ i,i < N→(L i).1≤(L i).2) (hU:∀ i,i≤N→(U i).1≤(U i).2) {a:Nat} {v:Int} (hv:inn v (U a)):∀ k,a + k≤N→inn (fwdS L U a v k) (U (a + k))∧(∀ j,k=j + 1→inn (fwdS L U a v j - fwdS L U a v (j + 1)) (L (a + j)))
 | 0,_=>⟨hv,fun j h=>by omega⟩
 | k + 1,hk=>by
  have h1:=(fwdS_in hT hL hU hv k (by omega)).1
  have h2:=(hT (a + k) (by omega))
  have h3:=hL (a + k) (by omega)
  have h4:=hU (a + k + 1) (by omega)
  have e:fwdS L U a v (k + 1)=min (U (a + k + 1)).2 (fwdS L U a v k - (L (a + k)).1):=rfl
  obtain ⟨z,hz⟩:∃ z,z=fwdS L U a v k:=⟨_,rfl⟩
  rw [← hz] at h1 e
  unfold inn at h1
  refine ⟨?_,fun j hj=>?_⟩
  ·rw [e]; show (U (a + k + 1)).1≤_∧_≤(U (a + k + 1)).2; omega
  ·obtain rfl:j=k:=by omega
   rw [e,← hz]; unfold inn; omega
theorem bwdS_in {N:Nat} {L U:Nat→Sp} (hT:Tight N L U) (hL:∀ i,i < N→(L i).1≤(L i).2) (hU:∀ i,i≤N→(U i).1≤(U i).2) {a:Nat} (ha:a≤N) {v:Int} (hv:inn v (U a)):∀ k,k≤a→inn (bwdS L U a v k) (U (a - k))∧(∀ j,k=j + 1→inn (bwdS L U a v (j + 1) - bwdS L U a v j) (L (a - j - 1)))
 | 0,_=>⟨hv,fun j h=>by omega⟩
 | k + 1,hk=>by
  have h1:=(bwdS_in hT hL hU ha hv k (by omega)).1
  have h2:=(hT (a - k - 1) (by omega))
  have h3:=hL (a - k - 1) (by omega)
  have h4:=hU (a - k - 1) (by omega)
  rw [show a - k - 1 + 1=a - k by omega] at h2
  have e:bwdS L U a v (k + 1)=min (U (a - k - 1)).2 (bwdS L U a v k + (L (a - k - 1)).2):=rfl
  obtain ⟨z,hz⟩:∃ z,z=bwdS L U a v k:=⟨_,rfl⟩
  rw [← hz] at h1 e
  unfold inn at h1
  refine ⟨?_,fun j hj=>?_⟩
  ·rw [e,show a - (k + 1)=a - k - 1 by omega]; unfold inn; omega
  ·obtain rfl:j=k:=by omega
   rw [e,← hz]; unfold inn; omega
theorem chainS_sol {N:Nat} {L U:Nat→Sp} (hT:Tight N L U) (hL:∀ i,i < N→(L i).1≤(L i).2) (hU:∀ i,i≤N→(U i).1≤(U i).2) {a:Nat} (ha:a≤N) {v:Int} (hv:inn v (U a)):SolS N L U (chainS L U a v)∧chainS L U a v a=v:=by
 refine ⟨⟨fun i hi=>?_,fun i hi=>?_⟩,?_⟩
 ·unfold chainS
  by_cases h:a≤i
  ·rw [if_pos h]
   have:=(fwdS_in hT hL hU hv (i - a) (by omega)).1
   rwa [show a + (i - a)=i by omega] at this
  ·rw [if_neg h]
   have:=(bwdS_in hT hL hU ha hv (a - i) (by omega)).1
   rwa [show a - (a - i)=i by omega] at this
 ·unfold chainS
  by_cases h:a≤i
  ·rw [if_pos h,if_pos (by omega)]
   have:=(fwdS_in hT hL hU hv (i - a + 1) (by omega)).2 (i - a) rfl
   rwa [show a + (i - a)=i by omega,show i - a + 1=i + 1 - a by omega] at this
  ·rw [if_neg h]
   have:=(bwdS_in hT hL hU ha hv (a - i) (by omega)).2 (a - i - 1) (by omega)
   rw [show a - (a - i - 1) - 1=i by omega,show a - i - 1 + 1=a - i by omega] at this
   by_cases h2:a≤i + 1
   ·rw [if_pos h2,show i + 1 - a=0 by omega]
    rw [show a - i - 1=0 by omega] at this
    exact this
   ·rw [if_neg h2]
    rwa [show a - i - 1=a - (i + 1) by omega] at this
 ·unfold chainS
  rw [if_pos (Nat.le_refl _),Nat.sub_self]; rfl
def FwdT (N:Nat) (L U:Nat→Sp):Prop:=∀ d,d < N→(U d).1 - (L d).2≤(U (d + 1)).1∧(U (d + 1)).2≤(U d).2 - (L d).1
def BackT (N:Nat) (L U:Nat→Sp) (k:Nat):Prop:=∀ d,d < N→N≤d + k→(U (d + 1)).1 + (L d).1≤(U d).1∧(U d).2≤(U (d + 1)).2 + (L d).2
theorem pass_fwd {N:Nat} {L U:Nat→Sp} (hL:∀ i,i < N→(L i).1≤(L i).2):∀ d,d≤N→(∀ e,e < d→(passS L U d e).1 - (L e).2≤(passS L U d (e + 1)).1∧(passS L U d (e + 1)).2≤(passS L U d e).2 - (L e).1)∧(∀ e,d < e→passS L U d e=U e)∧(0 < d→(passS L U d d).1 + (L (d - 1)).1≤(passS L U d (d - 1)).1∧(passS L U d (d - 1)).2≤(passS L U d d).2 + (L (d - 1)).2)
 | 0,_=>⟨fun e h=>by omega,fun e _=>rfl,fun h=>by omega⟩
 | d + 1,hd=>by
  obtain ⟨h1,h2,_⟩:=pass_fwd hL d (by omega)
  have hl:=hL d (by omega)
  have hs:∀ k,passS L U (d + 1) k=_:=fun k=>stepS_at L (passS L U d) d k
  obtain ⟨V,hV⟩:∃ V,V=passS L U d:=⟨_,rfl⟩
  rw [← hV] at h1 h2 hs
  refine ⟨fun e he=>?_,fun e he=>?_,fun _=>?_⟩
  ·have s0:=hs e
   have s1:=hs (e + 1)
   by_cases e1:e=d
   ·subst e1
    rw [if_pos rfl] at s0
    rw [if_neg (by omega),if_pos rfl] at s1
    rw [s0,s1]
    unfold bothS wholeS restS
    simp only
    omega
   ·have q:=h1 e (by omega)
    rw [if_neg e1,if_neg (by omega)] at s0
    rw [s0]
    by_cases e2:e + 1=d
    ·rw [if_pos e2] at s1
     rw [s1]
     subst e2
     unfold bothS
     simp only
     omega
    ·rw [if_neg e2,if_neg (by omega)] at s1
     rw [s1]; exact q
  ·rw [hs e,if_neg (by omega),if_neg (by omega),h2 e (by omega)]
  ·have s0:=hs d
   have s1:=hs (d + 1)
   rw [if_pos rfl] at s0
   rw [if_neg (by omega),if_pos rfl] at s1
   rw [Nat.add_sub_cancel,s0,s1]
   unfold bothS wholeS restS
   simp only
   omega
theorem pass_back {N:Nat} {L U:Nat→Sp} (hL:∀ i,i < N→(L i).1≤(L i).2) (hF:FwdT N L U):∀ d,d≤N→(∀ e,e < d→passS L U d e=bothS (U e) (wholeS (U (e + 1)) (L e)))∧(∀ e,d≤e→passS L U d e=U e)
 | 0,_=>⟨fun e h=>by omega,fun e _=>rfl⟩
 | d + 1,hd=>by
  obtain ⟨h1,h2⟩:=pass_back hL hF d (by omega)
  have hs:∀ k,passS L U (d + 1) k=_:=fun k=>stepS_at L (passS L U d) d k
  have q:=hF d (by omega)
  have u0:=h2 d (Nat.le_refl _)
  have u1:=h2 (d + 1) (by omega)
  have e0:bothS (U (d + 1)) (restS (U d) (L d))=U (d + 1):=by
   refine Prod.ext ?_ ?_
   ·show max _ _=_; unfold restS; simp only; omega
   ·show min _ _=_; unfold restS; simp only; omega
  rw [u0,u1,e0] at hs
  refine ⟨fun e he=>?_,fun e he=>?_⟩
  ·rw [hs e]
   by_cases e1:e=d
   ·subst e1; rw [if_pos rfl]
   ·rw [if_neg e1,if_neg (by omega),h1 e (by omega)]
  ·rw [hs e,if_neg (by omega)]
   by_cases e1:e=d + 1
   ·rw [if_pos e1,e1]
   ·rw [if_neg e1,h2 e (by omega)]
theorem pass_one {N:Nat} {L U:Nat→Sp} (hL:∀ i,i < N→(L i).1≤(L i).2):FwdT N L (passS L U N)∧BackT N L (passS L U N) 1:=by
 obtain ⟨h1,h2,h3⟩:=pass_fwd (U:=U) hL N (Nat.le_refl _)
 refine ⟨h1,fun d hd hk=>?_⟩
 have:=h3 (by omega)
 rw [show N - 1=d by omega,show passS L U N N=passS L U N (d + 1) by rw [show N=d + 1 by omega]] at this
 exact this
theorem pass_more {N:Nat} {L U:Nat→Sp} (hL:∀ i,i < N→(L i).1≤(L i).2) {k:Nat} (hF:FwdT N L U) (hB:BackT N L U k):FwdT N L (passS L U N)∧BackT N L (passS L U N) (k + 1):=by
 refine ⟨(pass_one hL).1,fun d hd hk=>?_⟩
 obtain ⟨h1,h2⟩:=pass_back hL hF N (Nat.le_refl _)
 have e0:=h1 d hd
 have e1:passS L U N (d + 1)=U (d + 1):=by
  by_cases e:d + 1=N
  ·exact h2 _ (by omega)
  ·rw [h1 (d + 1) (by omega)]
   have q:=hB (d + 1) (by omega) (by omega)
   refine Prod.ext ?_ ?_
   ·show max _ _=_; unfold wholeS; simp only; omega
   ·show min _ _=_; unfold wholeS; simp only; omega
 rw [e0,e1]
 unfold bothS wholeS
 simp only
 omega
theorem pass_last {N:Nat} {L U:Nat→Sp} (hL:∀ i,i < N→(L i).1≤(L i).2) (hF:FwdT N L U) (hB:BackT N L U N):∀ k,passS L U N k=U k:=by
 intro k
 obtain ⟨h1,h2⟩:=pass_back hL hF N (Nat.le_refl _)
 by_cases e:k < N
 ·rw [h1 k e]
  have q:=hB k e (by omega)
  refine Prod.ext ?_ ?_
  ·show max _ _=_; unfold wholeS; simp only; omega
  ·show min _ _=_; unfold wholeS; simp only; omega
 ·exact h2 k (by omega)
end Go.Proofs.YtlkklcbjjompbaaDoor.walk
namespace Go.Proofs.YtlkklcbjjompbaaDoor.walk
set_option linter.unusedSimpArgs false
set_option linter.unusedVariables false
def moI (x s:Int):Int:=(1000 * (x - s) + x - 1) / x
def dryS (N:Nat) (U:Nat→Sp):Nat→Sp:=updS U N ((U N).2,(U N).2)
theorem sol_dry {N:Nat} {L U:Nat→Sp} {x:Nat→Int} (h:SolS N L (dryS N U) x) (hne:(U N).1≤(U N).2):SolS N L U x∧x N=(U N).2:=by
 have hN:=h.1 N (Nat.le_refl _)
 have e:dryS N U N=((U N).2,(U N).2):=by unfold dryS updS; rw [if_pos rfl]
 rw [e] at hN
 unfold inn at hN
 simp only at hN
 refine ⟨⟨fun i hi=>?_,h.2⟩,by omega⟩
 by_cases e:i=N
 ·subst e; unfold inn; omega
 ·have:=h.1 i hi
  unfold dryS updS at this
  rwa [if_neg e] at this
structure ExactS (N:Nat) (L U0 U:Nat→Sp):Prop where
 tight:Tight N L U
 ne:∀ i,i≤N→(U i).1≤(U i).2
 sol:∀ x,SolS N L U x ↔ SolS N L U0 x
theorem ExactS.low {N:Nat} {L U0 U:Nat→Sp} (h:ExactS N L U0 U) (hL:∀ i,i < N→(L i).1≤(L i).2) {a:Nat} (ha:a≤N) {v:Int} (hv:inn v (U a)):SolS N L U0 (chainS L U a v)∧chainS L U a v a=v:=by
 obtain ⟨h1,h2⟩:=chainS_sol h.tight hL h.ne ha hv
 exact ⟨(h.sol _).1 h1,h2⟩
theorem ExactS.mono {N:Nat} {L L' U0 U V0 V:Nat→Sp} (h:ExactS N L U0 U) (k:ExactS N L' V0 V) (hL':∀ i,i < N→(L' i).1≤(L' i).2) (hs:∀ x,SolS N L' V0 x→SolS N L U0 x):∀ i,i≤N→subS (V i) (U i):=by
 intro i hi
 have hne:=k.ne i hi
 obtain ⟨a1,a2⟩:=k.low hL' hi (v:=(V i).1) ⟨Int.le_refl _,hne⟩
 obtain ⟨b1,b2⟩:=k.low hL' hi (v:=(V i).2) ⟨hne,Int.le_refl _⟩
 have c1:=((h.sol _).2 (hs _ a1)).1 i hi
 have c2:=((h.sol _).2 (hs _ b1)).1 i hi
 rw [a2] at c1
 rw [b2] at c2
 exact ⟨c1.1,c2.2⟩
theorem ExactS.uniq {N:Nat} {L U0 U V:Nat→Sp} (h:ExactS N L U0 U) (k:ExactS N L U0 V) (hL:∀ i,i < N→(L i).1≤(L i).2):∀ i,i≤N→V i=U i:=fun i hi =>
 (h.mono k hL (fun _ h=>h) i hi).eq (k.mono h hL (fun _ h=>h) i hi)
end Go.Proofs.YtlkklcbjjompbaaDoor.walk
