/- Part of a proof by a machine of ones own: see the text with the theorem. -/
import Derived.Test.YthfidomphkednaaAWb
namespace Go.Proofs.Ythfidomphkednaa.walk
open Go Go.Sh
set_option maxRecDepth 100000
set_option linter.unusedSimpArgs false
set_option linter.unusedVariables false
end Go.Proofs.Ythfidomphkednaa.walk

namespace Go.Proofs.Ythfidomphkednaa.walk
open Go Go.Sh
set_option maxRecDepth 100000
set_option linter.unusedSimpArgs false
set_option linter.unusedVariables false
theorem LOk.up {M : Int} {ps : List Pt} {ds : List Dt} (h : LOk M ps ds) {M' : Int} (hM : M ≤ M') : LOk M' ps ds := ⟨h.n1, h.n8, fun p hp => ⟨(h.cash p hp).1, by have := (h.cash p hp).2; omega⟩, h.d16, h.debt⟩
/-! payments -/
def liF (L : List Int) : Int → Int := fun p => if 0 ≤ p then (L[p.toNat]?).getD 0 else 0
theorem liF_at {L : List Int} {i : Nat} {z : Int} (h : L[i]? = some z) : liF L (i : Int) = z := by
  unfold liF
  rw [if_pos (by omega), Int.toNat_natCast, h]; rfl
theorem payV_rows {L : List Int} : lsF L.length (liF L) = L := by
  apply List.ext_getElem?
  intro i
  by_cases h : i < L.length
  · rw [lsF_at _ _ h, List.getElem?_eq_getElem h]
    rw [liF_at (List.getElem?_eq_getElem h)]
  · rw [List.getElem?_eq_none (by simp; omega), List.getElem?_eq_none (by omega)]
end Go.Proofs.Ythfidomphkednaa.walk

namespace Go.Proofs.Ythfidomphkednaa.walk
open Go Go.Sh
set_option maxRecDepth 100000
set_option linter.unusedSimpArgs false
set_option linter.unusedVariables false
/-! Pay, Clear -/
end Go.Proofs.Ythfidomphkednaa.walk

namespace Go.Proofs.Ythfidomphkednaa.walk
open Go Go.Sh
set_option maxRecDepth 100000
set_option linter.unusedSimpArgs false
set_option linter.unusedVariables false
end Go.Proofs.Ythfidomphkednaa.walk
