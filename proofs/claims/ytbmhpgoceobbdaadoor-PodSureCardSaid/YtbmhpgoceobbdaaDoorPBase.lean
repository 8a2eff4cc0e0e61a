/- Part of a proof by a machine of ones own: see the text with the theorem. -/
import Derived.Test.YtbmhpgoceobbdaaDoorShE
import Derived.KernelRfl
import Derived.Test.YtbmhpgoceobbdaaDoorProg
namespace Go.Proofs.YtbmhpgoceobbdaaDoor.known
open Go Go.Sh
noncomputable def noOv : Ov := fun _ _ _ => none
/-- the variable that the program reads: what each state adds to a yield -/
noncomputable def partsC : List Value := [0, 1, 0, 0, 1, 0, 0, 0, 0, 0, 1, 0, 0, 0, 0, 1].map fun z => Value.int .i64 z
noncomputable def laidL : List LaidV := [(0, partsC, 122)]
/-- the pods of the chapter: their cells -/
def podsC : List Value := [.string ⟨⟨[97]⟩⟩, .int .i64 10, .int .i64 240, .int .i64 260, .int .i64 30, .int .i64 40, .int .i64 8, .int .i64 10, .string ⟨⟨[98]⟩⟩, .int .i64 30, .int .i64 250, .int .i64 255, .int .i64 20, .int .i64 30, .int .i64 5, .int .i64 5, .string ⟨⟨[99]⟩⟩, .int .i64 12, .int .i64 250, .int .i64 280, .int .i64 20, .int .i64 25, .int .i64 9, .int .i64 9]
/-- a call of surely, as it is made: pods, and a market of ten days -/
noncomputable def surelyA (b : Nat) (i : Nat) : List Value := [.slice (some ⟨b, 0, none⟩) 3 3, .agg ⟨[.int .i64 (.ofNat (1000 + i)), .int .i64 (.ofNat (1009 + i))]⟩]
noncomputable def surelyL (b : Nat) : List LaidV := (b, podsC, 30) :: laidL
noncomputable def zeroY : Value := .agg ⟨[.int .i64 0, .int .i64 0, .int .i64 0, .int .i64 0]⟩
/-- which of these calls is it? -/
noncomputable def surelyIx (args : List Value) : Option Nat :=
  match args with
  | [_, .agg ⟨.int _ (.ofNat k) :: _⟩] => bif Nat.ble 1000 k then some (k - 1000) else none
  | _ => none
noncomputable def weighA : List Value := [.slice (some ⟨754, 0, none⟩) 3 3, .slice (some ⟨755, 0, none⟩) 3 3]
noncomputable def weighL : List LaidV := (754, podsC, 30) :: (755, [.int .i64 200, .int .i64 290, .int .i64 (-1)], 3) :: laidL
noncomputable def weighV : Value := .tuple ⟨[.agg ⟨[.int .i64 12, .int .i64 12, .int .i64 15, .int .i64 19, .int .i64 0, .int .i64 0]⟩, .int .i64 0]⟩
end Go.Proofs.YtbmhpgoceobbdaaDoor.known
