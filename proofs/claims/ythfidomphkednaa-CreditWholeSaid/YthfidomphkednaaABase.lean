/- Part of a proof by a machine of ones own: see the text with the theorem. -/
import Derived.Test.YthfidomphkednaaShE
import Derived.KernelRfl
import Derived.Test.YthfidomphkednaaProg
namespace Go.Proofs.Ythfidomphkednaa.walk
open Go Go.Sh
noncomputable def noOv : Ov := fun _ _ _ => none
noncomputable def knownOv : Ov := memoOv 19 [] [] (.bool true) noOv
end Go.Proofs.Ythfidomphkednaa.walk
