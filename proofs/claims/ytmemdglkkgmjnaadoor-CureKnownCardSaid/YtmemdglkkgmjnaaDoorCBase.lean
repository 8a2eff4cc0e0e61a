/- Part of a proof by a machine of ones own: see the text with the theorem. -/
import Derived.Test.YtmemdglkkgmjnaaDoorShE
import Derived.KernelRfl
import Derived.Test.YtmemdglkkgmjnaaDoorProg
namespace Go.Proofs.YtmemdglkkgmjnaaDoor.walk
open Go Go.Sh
noncomputable def noOv : Ov := fun _ _ _ => none
def limI : List Int := [0, 60, 1, 14, 0, 10000, 1, 1000000, 0, 1010000, 0, 10000, 0, 1000]
/-- the variable that the program reads: between what quantities lie -/
noncomputable def limC : List Value := limI.map fun z => Value.int .i64 z
noncomputable def laidL : List LaidV := [(0, limC, 141)]
/-- the rule and the days of the chapter: their cells -/
def ruleC : List Value := [.int .i64 0, .int .i64 0, .bool false, .bool true, .int .i64 1, .int .i64 0, .int .i64 2, .int .i64 25, .int .i64 5, .bool true, .bool false, .int .i64 2, .int .i64 20, .int .i64 30, .int .i64 0, .int .i64 3, .bool false, .bool false, .int .i64 3, .int .i64 5, .int .i64 8]
def daysC : List Value := [.int .i64 20, .int .i64 22, .bool false, .int .i64 26, .int .i64 30, .bool false, .int .i64 28, .int .i64 33, .bool true, .int .i64 30, .int .i64 31, .bool false, .int .i64 22, .int .i64 30, .bool false]
/-- a call of Plan with a limit, as it is made -/
noncomputable def planA (lo hi : Int) : List Value := [.slice (some ⟨6, 0, none⟩) 3 3, .slice (some ⟨12, 0, none⟩) 5 5, .agg ⟨[.int .i64 200, .int .i64 204, .int .i64 100, .int .i64 102]⟩, .agg ⟨[.int .i64 lo, .int .i64 hi]⟩]
noncomputable def planL : List LaidV := (6, ruleC, 78) :: (12, daysC, 83) :: laidL
noncomputable def planV : Value := .tuple ⟨[.slice none 0 0, .int .i64 4]⟩
end Go.Proofs.YtmemdglkkgmjnaaDoor.walk
