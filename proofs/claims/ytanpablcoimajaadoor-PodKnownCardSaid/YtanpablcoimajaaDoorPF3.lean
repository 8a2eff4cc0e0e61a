/- Part of a proof by a machine of ones own: see the text with the theorem. -/
import Derived.Test.YtanpablcoimajaaDoorPBase
namespace Go.Proofs.YtanpablcoimajaaDoor.known
open Go Go.Sh
noncomputable def knownOv : Ov := memoOv 21 weighA weighL weighV (famOv 86 (surelyL 2098) 992 surelyIx (surelyA 2098) (fun _ => zeroY) (memoOv 18 [] laidL (.bool true) noOv))
set_option maxRecDepth 1000000 in
theorem known_true : retIs true ((run Tryd.prog knownOv 1000).call 13 [] (startA 1 laidL) .none) = true := by kernel_rfl
end Go.Proofs.YtanpablcoimajaaDoor.known
