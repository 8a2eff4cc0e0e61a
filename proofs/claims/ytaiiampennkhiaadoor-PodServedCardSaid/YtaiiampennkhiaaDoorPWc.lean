/- Part of a proof by a machine of ones own: see the text with the theorem. -/
import Derived.Test.YtaiiampennkhiaaDoorPWb
import Derived.Test.YtaiiampennkhiaaDoorPBase
namespace Go.Proofs.YtaiiampennkhiaaDoor.walk
open Go Go.Sh
open known (partsC laidL noOv)
set_option maxRecDepth 100000
def PartsAt (w:AW):Prop:=∃ ro,w.heap.get 0=some (.cells partsC 122 ro)
theorem parts_same:sameL5 partsC partsC=true:=by kernel_rfl
theorem hasAll_parts {w:AW} (h:PartsAt w):hasAll w laidL=true:=by
 obtain ⟨ro,h⟩:=h
 have h1:hasB w (0,partsC,122)=true:=by
  unfold hasB
  simp only [h,parts_same,Nat.beq_refl,Bool.and_self]
 show (bif hasB w (0,partsC,122) then true else false)=true
 rw [h1]; rfl
def HasW (ov:Ov):Prop:=∀ w,PartsAt w→ov 18 [] w=some (.ok (.ret (.bool true)) w .none)
structure In3 (l:List Pod) (b:Nat) (w:AW):Prop where
 pods:l=[]∨PodsAt w b l
 lim:w.lim≤w.next
 parts:PartsAt w
 pos:0 < w.next
theorem PartsAt.put {w:AW} (h:PartsAt w) {k n lim:Nat} {o:Option AObj} (hk:0 ≠ k):PartsAt ⟨w.heap.put k o,n,lim⟩:=by
 obtain ⟨ro,h⟩:=h
 exact ⟨ro,by rw [get_put,if_neg hk]; exact h⟩
theorem In3.add {l:List Pod} {b:Nat} {w:AW} (h:In3 l b w) (o:Option AObj):In3 l b ⟨w.heap.put w.next o,w.next + 1,w.lim⟩:=by
 obtain ⟨h1,h2,h3,h4⟩:=h
 refine ⟨?_,Nat.le_succ_of_le h2,h3.put (Nat.ne_of_lt h4),Nat.succ_pos _⟩
 rcases h1 with h1 | h1
 ·exact .inl h1
 ·exact .inr (h1.put (Nat.ne_of_lt h1.lt) (Nat.le_succ _))
end Go.Proofs.YtaiiampennkhiaaDoor.walk
