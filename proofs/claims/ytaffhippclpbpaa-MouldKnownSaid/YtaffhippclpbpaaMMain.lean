/-
  rostellumlaw07.MouldKnown (what the chapter of mould says of single runs and sniffs) answers true, and changes nothing that stood before the call.
  Conditions: those of the given row alone.
  How: a machine of its own (the texts Sh) is proved to say of each closed call what the model does, whatever order is drawn; the kernel evaluates it (MF1 to MF8).
-/
import Derived.Test.YtaffhippclpbpaaRows
import Derived.Test.YtaffhippclpbpaaMF1
import Derived.Test.YtaffhippclpbpaaMF2
import Derived.Test.YtaffhippclpbpaaMF3
import Derived.Test.YtaffhippclpbpaaMF4
import Derived.Test.YtaffhippclpbpaaMF5
import Derived.Test.YtaffhippclpbpaaMF6
import Derived.Test.YtaffhippclpbpaaMF7
import Derived.Test.YtaffhippclpbpaaMF8
import Derived.WalkKit
import Derived.ProofKit
import Derived.OpenShut
import Derived.Deep.DeepHandedRow
import Derived.Deep.DeepWitnessRowRef

namespace Go.Proofs.Ytaffhippclpbpaa.walk
open Go.ChangeShapes Go.WideShapes Go.ChangeAt Go.RowKit Go.Sh

theorem own : ownKnob Try.prog.godebug = none := by kernel_rfl
theorem mixed : Try.prog.follows .mixedOrders = true := by kernel_rfl
theorem globals0 : Try.prog.globals.size = 0 := by kernel_rfl
theorem no_count : NoCount Try.prog := NoCount.of (by kernel_rfl)
theorem worst_ov : OvOk Try.prog worksOv :=
  memo_ok no_count mixed ov_none worst0 (by kernel_rfl) (by kernel_rfl) (by rw [globals0]; exact Nat.zero_le _) (by kernel_rfl)
    (memo_ok no_count mixed ov_none worst1 (by kernel_rfl) (by kernel_rfl) (by rw [globals0]; exact Nat.zero_le _) (by kernel_rfl)
      (memo_ok no_count mixed ov_none worst2 (by kernel_rfl) (by kernel_rfl) (by rw [globals0]; exact Nat.zero_le _) (by kernel_rfl)
        (memo_ok no_count mixed ov_none worst3 (by kernel_rfl) (by kernel_rfl) (by rw [globals0]; exact Nat.zero_le _) (by kernel_rfl) ov_none)))
theorem known_ov : OvOk Try.prog knownOv :=
  memo_ok no_count mixed ov_none can1_true (by kernel_rfl) (by kernel_rfl) (by rw [globals0]; exact Nat.zero_le _) (by kernel_rfl)
    (memo_ok no_count mixed ov_none can2_true (by kernel_rfl) (by kernel_rfl) (by rw [globals0]; exact Nat.zero_le _) (by kernel_rfl)
      (memo_ok no_count mixed worst_ov works_true (by kernel_rfl) (by kernel_rfl) (by rw [globals0]; exact Nat.le_refl _) (by kernel_rfl) ov_none))
noncomputable def aWorld (os : Os) : World := World.holding Try.prog os ⟨#[], #[], []⟩
theorem laid_met (os : Os) (args : Array Value) : laidMet Try.prog [] ((aWorld os).forCall (fun _ _ => 0) ⟨#[], args, []⟩).memory :=
  laidMet_of_run' 8 (by kernel_rfl) (by kernel_rfl)
theorem reads (os : Os) {H : Type} (enc : TypeId × Value → H) : ∃ places, DataW.whole enc Try.prog ((aWorld os).forCall (fun _ _ => 0) ⟨#[], #[], []⟩).memory Try.f9.params.toList Rows.mouldKnownSpec.vars false (#[] : Array Value).toList 8 = some ([], [], places) :=
  ⟨[], by kernel_rfl⟩
set_option maxRecDepth 100000 in
theorem contract (H : Type) (enc : TypeId × Value → H) (W : World) (args : Array Value) (ds gs : List (DataW H)) (before : List MemPlace)
    (hW : DataW.Whole enc Try.prog Try.f9.params.toList Rows.mouldKnownSpec.vars false W args.toList ds gs before) :
    Calls Try.prog 9 args W fun e W' => ∃ v, e = .returned v ∧ Rows.mouldKnownSpec.post enc Try.prog Try.f9 false true false false W args v W' := by
  have hW' := hW
  obtain ⟨p, q, hA0, hV, rfl, hfz, hnd⟩ := hW
  have hA : DataW.TrodAll enc Try.prog W 0 (fun _ => true) true [] args.toList ds p := hA0
  obtain ⟨hargs, rfl, rfl⟩ := trodAll_nil hA
  obtain rfl : args = #[] := by cases args; simp_all
  obtain ⟨rfl, rfl⟩ := trodVars_none hV
  have key := closed_call no_count mixed (ov := knownOv) known_ov (W := W) (l := []) (fun x hx => by cases hx) (f := 9) (m := 1000) (b := true) (by rw [globals0]; exact known_true)
  refine key.mono fun e W' ⟨he, hk⟩ => ?_
  subst he
  exact ⟨_, rfl, post_stays (pa := []) (pv := []) hW' (fun _ _ _ => trodAll_cons_mk (shut_bool Try.underlying4 _) trodAll_mk0) (fun _ _ => trodAll_mk0) (fun _ _ => rfl) rfl hk (ok_one (by kernel_rfl) rfl (okWide_bool_mk Try.underlying4 _))⟩
set_option maxRecDepth 100000 in
theorem lifted (os : Os) (started : os.Started) (H : Type) (enc : TypeId × Value → H) (F : Stop.Interp) :
    ReturnsInHanded {} Try.checked os 9 .any ((OpenSpec.ofChange Rows.mouldKnownSpec).preRow enc Try.prog Try.f9 Rows.mouldKnownRow.domain false Rows.mouldKnownRow.laid) (((OpenSpec.ofChange Rows.mouldKnownSpec).at F).post enc Try.prog Try.f9 false true false false) := by
  obtain ⟨places, hx⟩ := reads os enc
  refine returnsInHanded_of_row (C := Try.checked) (s := OpenSpec.ofChange Rows.mouldKnownSpec) own started (by kernel_rfl) Try.func9
    (witness_row_atRef (enc := enc) (C := Try.checked) false (aWorld os) #[] rfl (by kernel_rfl) (by kernel_rfl) (by kernel_rfl)
      (OpenSpec.preRow_of_cond 8 hx (by kernel_rfl) (fun k hk => by cases hk) (by kernel_rfl) (laid_met os _))) ?_
  intro W base args ds gs before hval hW _ _ _ _ _ _
  exact contract H enc W args ds gs before hW
set_option maxRecDepth 100000 in
theorem said : Rows.MouldKnownSaid :=
  OpenClaim.holds_of_cond 9 Try.f9 rfl rfl rfl rfl rfl rfl rfl ⟨rfl, rfl, rfl, rfl, rfl⟩ rfl rfl rfl rfl rfl (by kernel_rfl) Try.func9 (by kernel_rfl)
    (of_decide_eq_true (by kernel_rfl)) (by unfold Func.isWrapper; first | (rw [if_pos (by decide +kernel)]; kernel_rfl) | (rw [if_neg (by decide +kernel)]; exact ⟨rfl, rfl⟩))
    (fun os started H enc _ F => by rw [OpenClaim.pre_eq_preRow]; exact lifted os started H enc F)
end Go.Proofs.Ytaffhippclpbpaa.walk
