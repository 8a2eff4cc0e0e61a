/- Part of a proof by a machine of ones own: see the text with the theorem. -/
import Derived.Test.YtcolofoifhbdpaaGreatDoorShE
import Derived.KernelRfl
import Derived.Test.YtcolofoifhbdpaaGreatDoorProg
namespace Go.Proofs.YtcolofoifhbdpaaGreatDoor.walk
open Go Go.Sh
noncomputable def pow10 : List Int := [1, 10, 100, 1000, 10000, 100000, 1000000, 10000000, 100000000, 1000000000, 10000000000, 100000000000, 1000000000000, 10000000000000, 100000000000000, 1000000000000000, 10000000000000000, 100000000000000000, 1000000000000000000, 10000000000000000000]
/-- the variables that the program reads -/
noncomputable def laidL : List LaidV := [(0, [.int .i64 (-1), .int .i64 0], 114), (2, pow10.map fun z => Value.int .u64 z, 164), (3, [unk], 94)]
noncomputable def noOv : Ov := fun _ _ _ => none
/-- the season of the chapter, and its racemes: their cells -/
def daysC : List Value := [.int .i64 20, .int .i64 22, .int .i64 0, .int .i64 0, .int .i64 18, .int .i64 20, .int .i64 0, .int .i64 10, .int .i64 25, .int .i64 25, .int .i64 0, .int .i64 0, .int .i64 20, .int .i64 24, .int .i64 0, .int .i64 0]
def racemesC : List Value := [.int .i64 6, .int .i64 2, .int .i64 12, .int .i64 3]
def seasonV (b : Nat) : Value := .agg ⟨[.slice (some ⟨b, 0, none⟩) 4 4, .int .i64 10, .int .i64 5, .int .i64 40, .int .i64 10, .int .i64 30, .int .i64 30, .int .i64 60, .slice none 0 0]⟩
/-- a call of Flowers, as it is made: the blocks of its season and of its racemes, and the day -/
noncomputable def flowersA (b c : Nat) (day : Int) : List Value := [seasonV b, .slice (some ⟨c, 0, none⟩) 2 2, .int .i64 day]
noncomputable def flowersL (b c : Nat) : List LaidV := (b, daysC, 76) :: (c, racemesC, 35) :: laidL
noncomputable def spanV (low high : Int) : Value := .tuple ⟨[.agg ⟨[.int .i64 low, .int .i64 high]⟩, .int .i64 0]⟩
end Go.Proofs.YtcolofoifhbdpaaGreatDoor.walk
