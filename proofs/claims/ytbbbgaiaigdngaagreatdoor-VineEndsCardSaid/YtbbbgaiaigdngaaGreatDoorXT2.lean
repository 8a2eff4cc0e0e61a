/- Part of a proof by a machine of ones own: see the text with the theorem. -/
import Derived.Test.YtbbbgaiaigdngaaGreatDoorShF
import Derived.Test.YtbbbgaiaigdngaaGreatDoorXT
import Derived.KernelRfl
import Derived.Test.YtbbbgaiaigdngaaGreatDoorProg
namespace Go.Proofs.YtbbbgaiaigdngaaGreatDoor.walk
open Go Go.Sh
set_option maxRecDepth 100000
/-! what is asked of types -/
@[simp] theorem ne24 (c : Bool) (x y : Value) (w : AW) : (binW Tryz.prog .neq 24 c).val x y w = vR w ((eqFlat true [0, 0] x y).map fun b => .bool (!b)) := bin_neq (by kernel_rfl) c x y
@[simp] theorem eq24 (c : Bool) (x y : Value) (w : AW) : (binW Tryz.prog .eql 24 c).val x y w = vR w ((eqFlat true [0, 0] x y).map .bool) := bin_eql (by kernel_rfl) c x y
/-! the texts, made flat -/
end Go.Proofs.YtbbbgaiaigdngaaGreatDoor.walk
