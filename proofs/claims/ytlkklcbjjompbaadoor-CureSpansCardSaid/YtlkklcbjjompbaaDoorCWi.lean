/- Part of a proof by a machine of ones own: see the text with the theorem. -/
import Derived.Test.YtlkklcbjjompbaaDoorCWh
import Derived.Test.YtlkklcbjjompbaaDoorCWg
namespace Go.Proofs.YtlkklcbjjompbaaDoor.walk
open Go Go.Sh
set_option maxRecDepth 100000
set_option linter.unusedSimpArgs false
theorem iniW_at {b:CBox} {L:List Sp} {l:List CRead} (hlen:L.length≤14) {k:Nat} (hk:k≤L.length + 1):gtS (iniW b L l) k=iniF b L.length l (L.length + 1) k:=mkW_at _ (by omega)
theorem dry_box {b:CBox} {L V D:List Sp} {l:List CRead} (hb:boxB b=true) (hL:LosW (losL L)) (hlen:L.length≤14) (ok:WeiOk L V (iniW b L l)) (dok:DryOk L V D) :
  boxB { b with sl:=(gtS V (L.length + 1)).2,sh:=(gtS V (L.length + 1)).2 }=true∧∃ D',weighF { b with sl:=(gtS V (L.length + 1)).2,sh:=(gtS V (L.length + 1)).2 } L l=some D'∧∀ k,k≤L.length + 1→gtS D' k=gtS D k:=by
 obtain ⟨hi,hhi⟩:∃ hi,hi=(gtS V (L.length + 1)).2:=⟨_,rfl⟩
 obtain ⟨b',hb'⟩:∃ b':CBox,b'={ b with sl:=(gtS V (L.length + 1)).2,sh:=(gtS V (L.length + 1)).2 }:=⟨_,rfl⟩
 rw [← hb']
 have hne:=ok.good.ne (L.length + 1) (Nat.le_refl _)
 have hlo:=ok.lo
 have hup:=ok.hi (L.length + 1) (Nat.le_refl _)
 have hB':boxB b'=true:=by
  rw [hb']
  simp only [boxB,spanI,Bool.and_eq_true,decide_eq_true_eq] at hb ⊢
  omega
 have hI:∀ k,k≤L.length→gtS (iniW b' L l) k=gtS (iniW b L l) k:=fun k hk=>by
  rw [iniW_at hlen (by omega),iniW_at hlen (by omega)]
  unfold iniF iniG
  rw [if_neg (show ¬ k=L.length + 1 by omega),if_neg (show ¬ k=L.length + 1 by omega),hb']
 have hIN:gtS (iniW b' L l) (L.length + 1)=((gtS V (L.length + 1)).2,(gtS V (L.length + 1)).2):=by
  rw [iniW_at hlen (Nat.le_refl _)]
  unfold iniF iniG
  rw [if_neg (by omega),if_pos rfl,hb']
 have hsol:∀ x,SolS (L.length + 1) (gtS (losL L)) (dryS (L.length + 1) (gtS V)) x ↔ SolS (L.length + 1) (gtS (losL L)) (gtS (iniW b' L l)) x:=fun x=>by
  constructor
  ·intro h
   obtain ⟨h1,h2⟩:=sol_dry h hne
   have h3:=(ok.sol x).1 h1
   refine ⟨fun i hi=>?_,h3.2⟩
   by_cases e:i=L.length + 1
   ·subst e; rw [hIN]; unfold inn; simp only; omega
   ·rw [hI i (by omega)]; exact h3.1 i hi
  ·intro h
   have hN:=h.1 (L.length + 1) (Nat.le_refl _)
   rw [hIN] at hN
   unfold inn at hN
   simp only at hN
   -- the greatest that is no water lies in the box's span
   obtain ⟨y1,y2⟩:=ok.exact.low (los_le hL _) (Nat.le_refl (L.length + 1)) (v:=(gtS V (L.length + 1)).2) ⟨hne,Int.le_refl _⟩
   have y3:=y1.1 (L.length + 1) (Nat.le_refl _)
   rw [y2] at y3
   have h3:SolS (L.length + 1) (gtS (losL L)) (gtS (iniW b L l)) x:=⟨fun i hi=>by
    by_cases e:i=L.length + 1
    ·subst e
     rw [show x (L.length + 1)=(gtS V (L.length + 1)).2 by omega]; exact y3
    ·rw [← hI i (by omega)]; exact h.1 i hi,h.2⟩
   have h4:=(ok.sol x).2 h3
   refine ⟨fun i hi=>?_,h4.2⟩
   unfold dryS updS
   by_cases e:i=L.length + 1
   ·rw [if_pos e,e]; unfold inn; simp only; omega
   ·rw [if_neg e]; exact h4.1 i hi
 refine ⟨hB',?_⟩
 cases hD':weighF b' L l with
 | none =>
  exfalso
  obtain ⟨s1,_⟩:=dok.exact.low (los_le hL _) (Nat.zero_le _) (v:=(gtS D 0).1) ⟨Int.le_refl _,dok.good.ne 0 (Nat.zero_le _)⟩
  unfold weighF at hD'
  rw [losL_length] at hD'
  exact nar_none (by show L.length + 1 < (iniW b' L l).length; simp [iniW]; omega) hD' _ ((hsol _).1 s1)
 | some D' =>
  refine ⟨D',rfl,?_⟩
  have ok':=(weigh_ok hB' hL hlen hD').exact
  have hd:=dok.exact
  exact ExactS.uniq ⟨hd.tight,hd.ne,fun x=>(hd.sol x).trans (hsol x)⟩ ok' (los_le hL _)
end Go.Proofs.YtlkklcbjjompbaaDoor.walk
namespace Go.Proofs.YtlkklcbjjompbaaDoor.walk
open Go Go.Sh
set_option maxRecDepth 100000
set_option linter.unusedSimpArgs false
end Go.Proofs.YtlkklcbjjompbaaDoor.walk
namespace Go.Proofs.YtlkklcbjjompbaaDoor.walk
open Go Go.Sh
set_option maxRecDepth 100000
set_option linter.unusedSimpArgs false
end Go.Proofs.YtlkklcbjjompbaaDoor.walk
