/- Part of a proof by a machine of ones own: see the text with the theorem. -/
import Derived.Test.YtmemdglkkgmjnaaDoorCWh
import Derived.Test.YtmemdglkkgmjnaaDoorCWg
namespace Go.Proofs.YtmemdglkkgmjnaaDoor.walk
open Go Go.Sh
set_option maxRecDepth 100000
set_option linter.unusedSimpArgs false
theorem fold_in:∀ {l:List CRead} {s:Sp} {x:Int},inn x (foldR l s)→inn x s∧∀ p ∈ l,inn x (readS p)
 | [],_,_,h=>⟨h,fun p hp=>by simp at hp⟩
 | q::l,s,x,h=>by
  obtain ⟨h1,h2⟩:=fold_in (l:=l) (s:=bothS s (readS q)) h
  unfold inn bothS at h1
  simp only at h1
  refine ⟨by unfold inn; omega,fun p hp=>?_⟩
  rcases List.mem_cons.1 hp with rfl | hp
  ·unfold inn; omega
  ·exact h2 p hp
theorem iniW_at {b:CBox} {L:List Sp} {l:List CRead} (hlen:L.length≤14) {k:Nat} (hk:k≤L.length + 1):gtS (iniW b L l) k=iniF b L.length l (L.length + 1) k:=mkW_at _ (by omega)
end Go.Proofs.YtmemdglkkgmjnaaDoor.walk
namespace Go.Proofs.YtmemdglkkgmjnaaDoor.walk
open Go Go.Sh
set_option maxRecDepth 100000
set_option linter.unusedSimpArgs false
end Go.Proofs.YtmemdglkkgmjnaaDoor.walk
namespace Go.Proofs.YtmemdglkkgmjnaaDoor.walk
open Go Go.Sh
set_option maxRecDepth 100000
set_option linter.unusedSimpArgs false
theorem wei_at {r:List CAct} {d:List CDay} {b:CBox} {acts:List Int} {l:List CRead} (hA:actE r d b acts=0) (hR:rdsB (acts.length:Nat) l=true) {V:List Sp} (h:weighF b (lossL r acts) l=some V):weiE r d b acts l=0:=by
 have:rdE r d b acts l=0:=by unfold rdE; rw [if_pos hA,hR]; rfl
 unfold weiE
 rw [if_pos this,h]
end Go.Proofs.YtmemdglkkgmjnaaDoor.walk
