/- Part of a proof by a machine of ones own: see the text with the theorem. -/
import Derived.Test.YtimnfedgbkgdeaaGreatDoorEWc
namespace Go.Proofs.YtimnfedgbkgdeaaGreatDoor.walk
open Go Go.Sh
set_option maxRecDepth 100000
set_option linter.unusedSimpArgs false
set_option linter.unusedVariables false
/-- what is needed of the functions that are run as they stand -/
structure None8 (ov : Ov) : Prop where
  o8 : ∀ args w, ov 8 args w = none
  o21 : ∀ args w, ov 21 args w = none
  o31 : ∀ args w, ov 31 args w = none
  o59 : ∀ args w, ov 59 args w = none
  o60 : ∀ args w, ov 60 args w = none
  o53 : ∀ args w, ov 53 args w = none
  o78 : ∀ args w, ov 78 args w = none
  o79 : ∀ args w, ov 79 args w = none
  o29 : ∀ args w, ov 29 args w = none
  o30 : ∀ args w, ov 30 args w = none
  p20 : HasP ov 20 F20
  p51 : HasP ov 51 F51
  p52 : HasP ov 52 F52
  p77 : HasP ov 77 F77
  p15 : HasP ov 15 F15
  p6 : HasP ov 6 F6
end Go.Proofs.YtimnfedgbkgdeaaGreatDoor.walk

namespace Go.Proofs.YtimnfedgbkgdeaaGreatDoor.walk
open Go Go.Sh
set_option maxRecDepth 100000
set_option linter.unusedSimpArgs false
set_option linter.unusedVariables false
end Go.Proofs.YtimnfedgbkgdeaaGreatDoor.walk
