/- Part of a proof by a machine of ones own: see the text with the theorem. -/
import Derived.Test.YtbbbgaiaigdngaaGreatDoorEVa
namespace Go.Proofs.YtbbbgaiaigdngaaGreatDoor.walk
open Go Go.Sh
set_option maxRecDepth 100000
set_option linter.unusedSimpArgs false
set_option linter.unusedVariables false
/-! the specification's best number: its loops -/
/-- what the next day's rows are, while they are put together -/
structure InE (w1 : AW) (acc : Prs) (v14 v15 : Value) (C1 C2 : Nat) (w : AW) : Prop where
  old : ∀ x, x < w1.next → w.heap.get x = w1.heap.get x
  a1 : AccI (w1.next - 1) w v14 (acc.map (·.1)) C1
  a2 : AccI (w1.next - 1) w v15 (acc.map (·.2)) C2
  ne : C1 = C2 → C1 = 0
  next : w1.next ≤ w.next
  lim : w.lim = w1.lim
end Go.Proofs.YtbbbgaiaigdngaaGreatDoor.walk

namespace Go.Proofs.YtbbbgaiaigdngaaGreatDoor.walk
open Go Go.Sh
set_option maxRecDepth 100000
set_option linter.unusedSimpArgs false
set_option linter.unusedVariables false
structure In32 (w0 : AW) (cs : List Value) (P : Prs) (sv bv : Value) (w : AW) : Prop where
  old : Old w0.next w0.heap w.heap
  sea : w.heap.get w0.next = some (.cells cs 29 false)
  rs : RowsV intC w sv (P.map (·.1))
  rb : RowsV intC w bv (P.map (·.2))
  next : w0.next < w.next
  lim : w.lim = w0.lim
end Go.Proofs.YtbbbgaiaigdngaaGreatDoor.walk

namespace Go.Proofs.YtbbbgaiaigdngaaGreatDoor.walk
open Go Go.Sh
set_option maxRecDepth 100000
set_option linter.unusedSimpArgs false
set_option linter.unusedVariables false
end Go.Proofs.YtbbbgaiaigdngaaGreatDoor.walk
