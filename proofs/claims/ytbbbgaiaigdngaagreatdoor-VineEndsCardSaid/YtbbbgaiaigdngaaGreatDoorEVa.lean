/- Part of a proof by a machine of ones own: see the text with the theorem. -/
import Derived.Test.YtbbbgaiaigdngaaGreatDoorEWe
import Derived.Test.YtbbbgaiaigdngaaGreatDoorXT2
namespace Go.Proofs.YtbbbgaiaigdngaaGreatDoor.walk
open Go Go.Sh
set_option maxRecDepth 100000
set_option linter.unusedSimpArgs false
set_option linter.unusedVariables false
/-! the specification's flowers: what is added on a way -/
end Go.Proofs.YtbbbgaiaigdngaaGreatDoor.walk

namespace Go.Proofs.YtbbbgaiaigdngaaGreatDoor.walk
open Go Go.Sh
set_option maxRecDepth 100000
set_option linter.unusedSimpArgs false
set_option linter.unusedVariables false
/-! the heats that a day can give, as the specification lists them -/
structure In27 (w0 : AW) (cs : List Value) (v : Value) (g : List Int) (B : Nat) (w : AW) : Prop where
  old : Old w0.next w0.heap w.heap
  sea : w.heap.get w0.next = some (.cells cs 29 false)
  acc : AccI w0.next w v g B
  next : w0.next < w.next
  lim : w.lim = w0.lim
end Go.Proofs.YtbbbgaiaigdngaaGreatDoor.walk

namespace Go.Proofs.YtbbbgaiaigdngaaGreatDoor.walk
open Go Go.Sh
set_option maxRecDepth 100000
set_option linter.unusedSimpArgs false
set_option linter.unusedVariables false
/-! the specification's best number: pairs of a sum and a number -/
abbrev Prs := List (Int × Int)
def b2 (bt : Bool) (x n : Int) : Int := if bt = true then max x n else min x n
/-! where it is -/
end Go.Proofs.YtbbbgaiaigdngaaGreatDoor.walk

namespace Go.Proofs.YtbbbgaiaigdngaaGreatDoor.walk
open Go Go.Sh
set_option maxRecDepth 100000
set_option linter.unusedSimpArgs false
set_option linter.unusedVariables false
/-! the specification's pairs are those of all ways -/
end Go.Proofs.YtbbbgaiaigdngaaGreatDoor.walk
