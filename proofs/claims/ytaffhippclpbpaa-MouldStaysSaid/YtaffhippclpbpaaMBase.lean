/- Part of a proof by a machine of ones own: see the text with the theorem. -/
import Derived.Test.YtaffhippclpbpaaShE
import Derived.KernelRfl
import Derived.Test.YtaffhippclpbpaaProg
namespace Go.Proofs.Ytaffhippclpbpaa.walk
open Go Go.Sh
noncomputable def noOv : Ov := fun _ _ _ => none
/-- the run of the chapter, as it lies in memory from a block on -/
noncomputable def runV (b : Nat) : Value := .agg ⟨[.int .i64 4, .int .i64 3, .int .i64 1, .int .i64 1, .slice (some ⟨b + 2, 0, none⟩) 2 2, .slice (some ⟨b + 3, 0, none⟩) 1 1]⟩
noncomputable def runL (b : Nat) : List LaidV := [(b, [.int .i64 0, .int .i64 0, .int .i64 1, .int .i64 2], 3), (b + 1, [.int .i64 0, .int .i64 1, .int .i64 1, .int .i64 2], 3), (b + 2, [.slice (some ⟨b, 0, none⟩) 4 4, .slice (some ⟨b + 1, 0, none⟩) 4 4], 26), (b + 3, [.int .i64 1, .int .i64 2], 37)]
/-- a call of worst with a pod -/
noncomputable def worstA (k : Int) : List Value := [.agg ⟨[.int .i64 4, .int .i64 3, .int .i64 1, .int .i64 1, .slice (some ⟨564, 0, none⟩) 2 2, .slice (some ⟨565, 0, none⟩) 1 1]⟩, .int .i64 k, .slice none 0 0]
noncomputable def worstL : List LaidV := [(562, [.int .i64 0, .int .i64 0, .int .i64 1, .int .i64 2], 3), (563, [.int .i64 0, .int .i64 1, .int .i64 1, .int .i64 2], 3), (564, [.slice (some ⟨562, 0, none⟩) 4 4, .slice (some ⟨563, 0, none⟩) 4 4], 26), (565, [.int .i64 1, .int .i64 2], 37)]
noncomputable def worksOv : Ov := memoOv 58 (worstA 0) worstL (.int .i64 4) (memoOv 58 (worstA 1) worstL (.int .i64 4) (memoOv 58 (worstA 2) worstL (.int .i64 4) (memoOv 58 (worstA 3) worstL (.int .i64 4) noOv)))
noncomputable def canA1 : List Value := [.agg ⟨[.int .i64 4, .int .i64 3, .int .i64 1, .int .i64 1, .slice (some ⟨701, 0, none⟩) 2 2, .slice (some ⟨702, 0, none⟩) 1 1]⟩, .slice none 0 0, .int .i64 0]
noncomputable def canL1 : List LaidV := [(699, [.int .i64 0, .int .i64 0, .int .i64 1, .int .i64 2], 3), (700, [.int .i64 0, .int .i64 1, .int .i64 1, .int .i64 2], 3), (701, [.slice (some ⟨699, 0, none⟩) 4 4, .slice (some ⟨700, 0, none⟩) 4 4], 26), (702, [.int .i64 1, .int .i64 2], 37)]
noncomputable def canA2 : List Value := [.agg ⟨[.int .i64 4, .int .i64 3, .int .i64 1, .int .i64 1, .slice (some ⟨706, 0, none⟩) 2 2, .slice (some ⟨707, 0, none⟩) 1 1]⟩, .slice none 0 0, .int .i64 2]
noncomputable def canL2 : List LaidV := [(704, [.int .i64 0, .int .i64 0, .int .i64 1, .int .i64 2], 3), (705, [.int .i64 0, .int .i64 1, .int .i64 1, .int .i64 2], 3), (706, [.slice (some ⟨704, 0, none⟩) 4 4, .slice (some ⟨705, 0, none⟩) 4 4], 26), (707, [.int .i64 1, .int .i64 2], 37)]
noncomputable def canR : Value := .tuple ⟨[.int .i64 15, .int .i64 0, .int .i64 0]⟩
noncomputable def knownOv : Ov := memoOv 18 canA1 canL1 canR (memoOv 18 canA2 canL2 canR (memoOv 11 [] [] (.bool true) noOv))
end Go.Proofs.Ytaffhippclpbpaa.walk
