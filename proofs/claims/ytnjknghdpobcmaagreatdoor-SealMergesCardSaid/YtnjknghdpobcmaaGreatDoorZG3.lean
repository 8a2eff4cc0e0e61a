/- Part of a proof: see the text with the theorem. -/
import Derived.Test.YtnjknghdpobcmaaGreatDoorZG1
set_option linter.all false
namespace Go.Proofs.YtnjknghdpobcmaaGreatDoor.walk
open Go.ChangeShapes Go.WideShapes Go.ChangeAt Go.RowKit Go.Sh
set_option maxRecDepth 100000 in
theorem lifted (os:Os) (started:os.Started) (H:Type) (enc:TypeId × Value→H) (F:Stop.Interp) :
  ReturnsInHanded {} Tryz.checked os 3 .any ((OpenSpec.ofChange Rows.sealMergesSpec).preRow enc Tryz.prog Tryz.f3 Rows.sealMergesRow.domain false Rows.sealMergesRow.laid) (((OpenSpec.ofChange Rows.sealMergesSpec).at F).post enc Tryz.prog Tryz.f3 false true false false):=by
 obtain ⟨places,hx⟩:=reads os enc
 refine returnsInHanded_of_row (C:=Tryz.checked) (s:=OpenSpec.ofChange Rows.sealMergesSpec) own started (by kernel_rfl) Tryz.func3
  (witness_row_atRef (enc:=enc) (C:=Tryz.checked) false (laidWorld os) #[.slice none 0 0,.slice none 0 0] rfl (by kernel_rfl) (by kernel_rfl) (by kernel_rfl)
   (OpenSpec.preRow_of_cond 8 hx (by kernel_rfl) (fun k hk=>by cases hk) (by kernel_rfl) (laid_met os _))) ?_
 intro W base args ds gs before hval hW _ _ hz hL hs _
 exact contract H enc W base args ds gs before hval hW hz hL hs
end Go.Proofs.YtnjknghdpobcmaaGreatDoor.walk
