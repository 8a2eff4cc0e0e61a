/- Part of a proof by a machine of ones own: see the text with the theorem. -/
import Derived.Test.YtbbbgaiaigdngaaGreatDoorShE
import Derived.KernelRfl
import Derived.Test.YtbbbgaiaigdngaaGreatDoorProg
namespace Go.Proofs.YtbbbgaiaigdngaaGreatDoor.walk
open Go Go.Sh
noncomputable def pow10 : List Int := [1, 10, 100, 1000, 10000, 100000, 1000000, 10000000, 100000000, 1000000000, 10000000000, 100000000000, 1000000000000, 10000000000000, 100000000000000, 1000000000000000, 10000000000000000, 100000000000000000, 1000000000000000000, 10000000000000000000]
/-- the variables that the program reads -/
noncomputable def laidL : List LaidV := [(0, [.int .i64 (-1), .int .i64 0], 102), (2, pow10.map fun z => Value.int .u64 z, 175), (3, [unk], 119)]
noncomputable def noOv : Ov := fun _ _ _ => none
theorem hasAll_congr {w w' : AW} : ∀ (L : List LaidV), (∀ x ∈ L, w.heap.get x.1 = w'.heap.get x.1) → hasAll w L = hasAll w' L
  | [], _ => rfl
  | x :: L, h => by
    have h1 : hasB w x = hasB w' x := by
      obtain ⟨b, c, t⟩ := x
      unfold hasB
      rw [h (b, c, t) (List.mem_cons_self ..)]
    show (bif hasB w x then hasAll w L else false) = (bif hasB w' x then hasAll w' L else false)
    rw [h1, hasAll_congr L fun x hx => h x (List.mem_cons_of_mem _ hx)]
theorem laid_lt : ∀ x ∈ laidL, x.1 < 7 := by
  intro x hx
  unfold laidL at hx
  simp at hx
  rcases hx with rfl | rfl | rfl <;> decide
/-- the season of the chapter, and its racemes: their cells -/
def daysC : List Value := [.int .i64 20, .int .i64 22, .int .i64 0, .int .i64 0, .int .i64 18, .int .i64 20, .int .i64 0, .int .i64 10, .int .i64 25, .int .i64 25, .int .i64 0, .int .i64 0, .int .i64 20, .int .i64 24, .int .i64 0, .int .i64 0]
def racemesC : List Value := [.int .i64 6, .int .i64 2, .int .i64 12, .int .i64 3]
def seasonV (b : Nat) : Value := .agg ⟨[.slice (some ⟨b, 0, none⟩) 4 4, .int .i64 10, .int .i64 5, .int .i64 40, .int .i64 10, .int .i64 30, .int .i64 30, .int .i64 60, .slice none 0 0]⟩
/-- a call of Flowers, as it is made: the blocks of its season and of its racemes, and the day -/
noncomputable def flowersA (b c : Nat) (day : Int) : List Value := [seasonV b, .slice (some ⟨c, 0, none⟩) 2 2, .int .i64 day]
noncomputable def flowersL (b c : Nat) : List LaidV := (b, daysC, 49) :: (c, racemesC, 32) :: laidL
noncomputable def spanV (low high : Int) : Value := .tuple ⟨[.agg ⟨[.int .i64 low, .int .i64 high]⟩, .int .i64 0]⟩
noncomputable def worksOv : Ov := memoOv 8 (flowersA 246 248 1) (flowersL 246 248) (spanV 1 2) noOv
end Go.Proofs.YtbbbgaiaigdngaaGreatDoor.walk
