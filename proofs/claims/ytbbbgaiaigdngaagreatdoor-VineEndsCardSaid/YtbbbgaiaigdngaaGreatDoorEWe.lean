/- Part of a proof by a machine of ones own: see the text with the theorem. -/
import Derived.Test.YtbbbgaiaigdngaaGreatDoorEZc
import Derived.Test.YtbbbgaiaigdngaaGreatDoorEBas
namespace Go.Proofs.YtbbbgaiaigdngaaGreatDoor.walk
open Go Go.Sh
set_option maxRecDepth 100000
set_option linter.unusedSimpArgs false
set_option linter.unusedVariables false
/-! law 4: whatever the weather is -/
def HasW (ov : Ov) : Prop := ∀ w, hasAll w laidL = true → ov 10 [] w = some (.ok (.ret (.bool true)) w .none)
theorem ruleW {ov : Ov} (h : HasW ov) {w : AW} (hw : hasAll w laidL = true) (m : Nat) : (run Tryz.prog ov (m + 1)).call 10 [] w .none = .ok (.ret (.bool true)) w .none := by
  show stepO Tryz.prog (run Tryz.prog ov m) 10 [] w .none (ov 10 [] w) = _
  rw [h w hw]
  rfl
theorem start_of {w : AW} (h : hasAll w laidL = true) : ∃ ro, w.heap.get 0 = some (.cells [.int .i64 (-1), .int .i64 0] 102 ro) := by
  have h1 : hasB w (0, [.int .i64 (-1), .int .i64 0], 102) = true := by
    unfold laidL at h
    unfold hasAll at h
    cases hb : hasB w (0, [.int .i64 (-1), .int .i64 0], 102) with
    | true => rfl
    | false => rw [hb] at h; cases h
  unfold hasB at h1
  split at h1
  · rename_i o ho
    split at h1
    · rename_i cs e ro
      simp only [Bool.and_eq_true] at h1
      have e1 := sameVals_eq (sameVal_eq 5) h1.1
      have e2 := Nat.eq_of_beq_eq_true h1.2
      rw [ho, e1, e2]
      exact ⟨ro, rfl⟩
    · cases h1
  · cases h1
end Go.Proofs.YtbbbgaiaigdngaaGreatDoor.walk
