/- Part of a proof: see the text with the theorem. -/
import Derived.Test.YtnjknghdpobcmaaGreatDoorZG3
import Derived.Test.YtnjknghdpobcmaaGreatDoorZGF0
import Derived.Test.YtnjknghdpobcmaaGreatDoorZGF2
set_option linter.all false
namespace Go.Proofs.YtnjknghdpobcmaaGreatDoor.walk
open Go.ChangeShapes Go.WideShapes Go.ChangeAt Go.RowKit Go.Sh
theorem and_t {a b:Bool} (h:a=true) (k:b=true):(a && b)=true:=by rw [h,k]; rfl
set_option maxRecDepth 100000 in
theorem joined:joinedFacts Tryz.pinned.checked.prog 3 Tryz.f3 (OpenSpec.ofChange Rows.sealMergesSpec).bare Rows.sealMergesRow=true:=by
 unfold joinedFacts
 with_reducible repeat' (refine and_t ?_ ?_)
 all_goals first | with_reducible exact j_inPlace | with_reducible exact j_unfollowed | with_reducible exact j_recurses | with_reducible exact j_named | kernel_rfl
end Go.Proofs.YtnjknghdpobcmaaGreatDoor.walk
