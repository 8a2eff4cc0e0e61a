/- Part of a proof by a machine of ones own: see the text with the theorem. -/
import Derived.Test.YthfidomphkednaaAWd
namespace Go.Proofs.Ythfidomphkednaa.walk
open Go Go.Sh
set_option maxRecDepth 100000
set_option linter.unusedSimpArgs false
set_option linter.unusedVariables false
/-! CreditCents: numbers, Rises -/
theorem totL_ls (x : Int → Int) : ∀ n : Nat, totL (lsF n x) = sN (fun k => x (k : Int)) n
  | 0 => rfl
  | n + 1 => by
    have : lsF (n + 1) x = lsF n x ++ [x (n : Int)] := by simp [lsF, List.range_succ]
    rw [this, totL_app, totL_ls x n]
    simp [totL, sN]
end Go.Proofs.Ythfidomphkednaa.walk

namespace Go.Proofs.Ythfidomphkednaa.walk
open Go Go.Sh
set_option maxRecDepth 100000
set_option linter.unusedSimpArgs false
set_option linter.unusedVariables false
/-! a party with more cash -/
/-- the ledger in which a party has another cash -/
def morP (ps : List Pt) (k : Nat) (c : Int) : List Pt := match ps[k]? with | some p => ps.set k ⟨p.nm, c⟩ | none => ps
@[simp] theorem morP_len (ps : List Pt) (k : Nat) (c : Int) : (morP ps k c).length = ps.length := by
  unfold morP; split <;> simp
end Go.Proofs.Ythfidomphkednaa.walk
