/-
  rostellumlaw09.CreditWhole (the whole sum is shared out; each share is less than a cent away from its quota; who has no less gets no less) answers true whatever the sum and the shares are, and they read behind the call as before.
  Conditions: those of the given row alone.
  How: a machine of its own (the texts Sh) is proved to say of each call what the model does, whatever order is drawn; arguments that come in are laid into its memory; each function is said by a relation or by what it leaves in memory (AW), and these are put together (AJA); who gets a cent that is left has a quota that was rounded down, and stands before who gets none (AW52).
-/
import Derived.Test.YthfidomphkednaaAJn
import Derived.Test.YthfidomphkednaaRows
import Derived.WalkKit
import Derived.ProofKit
import Derived.OpenShut
import Derived.Deep.DeepHandedRow
import Derived.Deep.DeepWitnessRowRef

namespace Go.Proofs.Ythfidomphkednaa.walk
open Go.ChangeShapes Go.WideShapes Go.ChangeAt Go.RowKit Go.Sh

theorem own : ownKnob Try.prog.godebug = none := by kernel_rfl
theorem laid_ok {W : World} : LaidOk Try.prog W [] := fun x hx => by cases hx
theorem kids : Kids Try.prog (· < Try.prog.types.size) := kids_rows (by kernel_rfl) (by kernel_rfl)
theorem wide : slicesWide Try.prog = true := by kernel_rfl
noncomputable def laidWorld (os : Os) : World := World.holding Try.prog os ⟨#[], #[], []⟩
theorem laid_met (os : Os) (args : Array Value) : laidMet Try.prog [] ((laidWorld os).forCall (fun _ _ => 0) ⟨#[], args, []⟩).memory :=
  laidMet_of_run' 8 (by kernel_rfl) (by kernel_rfl)
theorem reads (os : Os) {H : Type} (enc : TypeId × Value → H) : ∃ places, DataW.whole enc Try.prog ((laidWorld os).forCall (fun _ _ => 0) ⟨#[], #[.int .i64 0, .slice none 0 0], []⟩).memory Try.f12.params.toList Rows.creditWholeSpec.vars false (#[Value.int .i64 0, .slice none 0 0] : Array Value).toList 8 = some ([.lit (.int .i64 0), .nil], [], places) :=
  ⟨[], by kernel_rfl⟩
theorem mem_all {t a b : Nat} (h : t ∈ [a, b]) : t = a ∨ t = b := by simpa using h
theorem params12 : Try.f12.params.toList = [3, 26] := by kernel_rfl
set_option maxRecDepth 100000 in
theorem contract (H : Type) (enc : TypeId × Value → H) (W : World) (base : Nat) (args : Array Value) (ds gs : List (DataW H)) (before : List MemPlace)
    (hval : ∀ (j : Nat) t v, Try.f12.params[j]? = some t → args[j]? = some v → Value.okWide Try.prog W .any base t v)
    (hW : DataW.Whole enc Try.prog Try.f12.params.toList Rows.creditWholeSpec.vars false W args.toList ds gs before) {tw : List TypeId} (hz : (DataW.weightsEach Try.prog (Try.f12.params.toList ++ tw) (ds ++ gs)).all (· ≤ reachBytes) = true) :
    Calls Try.prog 12 args W fun e W' => ∃ v, e = .returned v ∧ Rows.creditWholeSpec.post enc Try.prog Try.f12 false true false false W args v W' := by
  have hW' := hW
  obtain ⟨vs⟩ := args
  obtain ⟨p, q, hA, hV, rfl, hfz, hnd⟩ := hW
  obtain ⟨rfl, rfl⟩ := trodVars_none hV
  have hA' := hA
  rw [params12] at hA'
  rw [params12] at hz
  obtain ⟨_, hlen⟩ := trodAll_length _ _ _ _ hA'
  have key := input_sized no_count mixed ok79 (laid_ok (W := W)) (d := 6) (ts := [3, 26]) (f := 12) (m := 7) (fun t ht => by rcases mem_all ht with rfl | rfl; exact ty3; exact ty26) (fun j t v h1 h2 => hval j t v (by rw [← Array.getElem?_toList, params12]; exact h1) (by simpa using h2)) hA' hlen hz start_true
  match ds, hlen with
  | [d1, d2], _ =>
    refine key.mono fun e W' ⟨he, hk⟩ => ?_
    subst he
    exact ⟨_, rfl, post_stays (pa := p) (pv := []) hW' (fun _ _ _ => trodAll_cons_mk (shut_bool Try.underlying4 _) trodAll_mk0)
      (fun sp hsp => by
        show DataW.TrodAll enc Try.prog W' 0 sp true Try.f12.params.toList vs [d1, d2] p
        rw [params12]
        exact args_again kids wide hk [3, 26] vs [d1, d2] p (fun t ht => by rcases mem_all ht with rfl | rfl <;> decide +kernel) hA' (fun x hx => hW'.lt x (by simpa using hx)) (fun x hx => hsp x (by simpa using hx)))
      (fun _ _ => rfl) rfl hk (ok_one (by kernel_rfl) rfl (okWide_bool_mk Try.underlying4 _))⟩
set_option maxRecDepth 100000 in
theorem lifted (os : Os) (started : os.Started) (H : Type) (enc : TypeId × Value → H) (F : Stop.Interp) :
    ReturnsInHanded {} Try.checked os 12 .any ((OpenSpec.ofChange Rows.creditWholeSpec).preRow enc Try.prog Try.f12 Rows.creditWholeRow.domain false Rows.creditWholeRow.laid) (((OpenSpec.ofChange Rows.creditWholeSpec).at F).post enc Try.prog Try.f12 false true false false) := by
  obtain ⟨places, hx⟩ := reads os enc
  refine returnsInHanded_of_row (C := Try.checked) (s := OpenSpec.ofChange Rows.creditWholeSpec) own started (by kernel_rfl) Try.func12
    (witness_row_atRef (enc := enc) (C := Try.checked) false (laidWorld os) #[.int .i64 0, .slice none 0 0] rfl (by kernel_rfl) (by kernel_rfl) (by kernel_rfl)
      (OpenSpec.preRow_of_cond 8 hx (by kernel_rfl) (fun k hk => by cases hk) (by kernel_rfl) (laid_met os _))) ?_
  intro W base args ds gs before hval hW _ _ hz hL hs _
  exact contract H enc W base args ds gs before hval hW hz
set_option maxRecDepth 100000 in
theorem said : Rows.CreditWholeSaid :=
  OpenClaim.holds_of_cond 12 Try.f12 rfl rfl rfl rfl rfl rfl rfl ⟨rfl, rfl, rfl, rfl, rfl⟩ rfl rfl rfl rfl rfl (by kernel_rfl) Try.func12 (by kernel_rfl)
    (of_decide_eq_true (by kernel_rfl)) (by unfold Func.isWrapper; first | (rw [if_pos (by decide +kernel)]; kernel_rfl) | (rw [if_neg (by decide +kernel)]; exact ⟨rfl, rfl⟩))
    (fun os started H enc _ F => by rw [OpenClaim.pre_eq_preRow]; exact lifted os started H enc F)
end Go.Proofs.Ythfidomphkednaa.walk
