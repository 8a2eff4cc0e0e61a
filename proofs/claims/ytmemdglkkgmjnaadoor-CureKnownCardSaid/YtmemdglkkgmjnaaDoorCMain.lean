/-
  rostellumlaw06.CureKnown (what the chapter of cure says of single rules, boxes and readings) answers true, and changes nothing that stood before the call.
  Conditions: those of the given row alone (its listed variable of the program holds what its initialiser lays; the card ties it to the text of the program).
  How: a machine of its own (the texts Sh) is proved to say of each closed call what the model does, whatever order is drawn; the kernel evaluates it (CF1 to CF4).
-/
import Derived.Test.YtmemdglkkgmjnaaDoorCards
import Derived.Test.YtmemdglkkgmjnaaDoorTie
import Derived.Test.YtmemdglkkgmjnaaDoorCF1
import Derived.Test.YtmemdglkkgmjnaaDoorCF2
import Derived.Test.YtmemdglkkgmjnaaDoorCF3
import Derived.Test.YtmemdglkkgmjnaaDoorCF4
import Derived.WalkKit
import Derived.ProofKit
import Derived.OpenShut
import Derived.Deep.DeepHandedRow
import Derived.Deep.DeepWitnessRowRef

namespace Go.Proofs.YtmemdglkkgmjnaaDoor.walk
open Go.ChangeShapes Go.WideShapes Go.ChangeAt Go.RowKit Go.Sh
/-! ## what every statement of this seat needs -/
theorem own : ownKnob Tryd.prog.godebug = none := by kernel_rfl
theorem mixed : Tryd.prog.follows .mixedOrders = true := by kernel_rfl
theorem globals1 : Tryd.prog.globals.size = 1 := by kernel_rfl
theorem row0 : RowOf Tryd.prog 0 14 141 := .of (by kernel_rfl)
theorem g0 : Tryd.prog.globalNamed "rostellum/cure.limits" = some 0 := by kernel_rfl
theorem t0 : (Tryd.prog.globals[0]?).map (·.type) = some 141 := by kernel_rfl
theorem lim_dat : datC Tryd.prog 5 141 Rows.laid_rostellum_cure_limits = some limC := by kernel_rfl
def laidRow : List (String × DataW Unit) := [("rostellum/cure.limits", Rows.laid_rostellum_cure_limits)]
theorem laid_ok {W : World} (hs : W.ShapedOpen Tryd.prog) (hL : laidMet Tryd.prog laidRow W) : LaidOk Tryd.prog W laidL := by
  intro x hx
  unfold laidL at hx
  rcases List.mem_cons.1 hx with rfl | hx
  · exact laid_plain hs hL (.head _) g0 (by rw [globals1]; decide) t0 lim_dat (by kernel_rfl) row0
  · cases hx
theorem no_count : NoCount Tryd.prog := NoCount.of (by kernel_rfl)
theorem works_ov : OvOk Tryd.prog (memoOv 19 [] laidL (.bool true) noOv) :=
  memo_ok no_count mixed ov_none works_true (by kernel_rfl) (by kernel_rfl) (by rw [globals1]; exact Nat.le_refl _) (by kernel_rfl) ov_none
theorem known_ov : OvOk Tryd.prog knownOv :=
  memo_ok no_count mixed ov_none plan2 (by kernel_rfl) (by kernel_rfl) (by rw [globals1]; decide) (by kernel_rfl)
    (memo_ok no_count mixed ov_none plan3 (by kernel_rfl) (by kernel_rfl) (by rw [globals1]; decide) (by kernel_rfl) works_ov)

/-! ## CureKnown -/
/-- the world of the witness: the settled one, with the listed variable -/
noncomputable def laidWorld (os : Os) : World :=
  let w0 := World.holding Tryd.prog os ⟨#[], #[], []⟩
  { w0 with heap := w0.heap.modify 0 fun
    | .cells _ t frozen => .cells limC.toArray t frozen
    | o => o }
theorem laid_met (os : Os) (args : Array Value) : laidMet Tryd.prog laidRow ((laidWorld os).forCall (fun _ _ => 0) ⟨#[], args, []⟩).memory :=
  laidMet_of_run' 8 (by kernel_rfl) (by kernel_rfl)
theorem reads (os : Os) {H : Type} (enc : TypeId × Value → H) : ∃ places, DataW.whole enc Tryd.prog ((laidWorld os).forCall (fun _ _ => 0) ⟨#[], #[], []⟩).memory Tryd.f11.params.toList Rows.cureKnownSpec.vars false (#[] : Array Value).toList 8 = some ([], [], places) :=
  ⟨[], by kernel_rfl⟩
set_option maxRecDepth 100000 in
theorem contract (H : Type) (enc : TypeId × Value → H) (W : World) (args : Array Value) (ds gs : List (DataW H)) (before : List MemPlace)
    (hW : DataW.Whole enc Tryd.prog Tryd.f11.params.toList Rows.cureKnownSpec.vars false W args.toList ds gs before) (hL : laidMet Tryd.prog laidRow W) (hs : W.ShapedOpen Tryd.prog) :
    Calls Tryd.prog 11 args W fun e W' => ∃ v, e = .returned v ∧ Rows.cureKnownSpec.post enc Tryd.prog Tryd.f11 false true false false W args v W' := by
  have hW' := hW
  obtain ⟨p, q, hA0, hV, rfl, hfz, hnd⟩ := hW
  have hA : DataW.TrodAll enc Tryd.prog W 0 (fun _ => true) true [] args.toList ds p := hA0
  obtain ⟨hargs, rfl, rfl⟩ := trodAll_nil hA
  obtain rfl : args = #[] := by cases args; simp_all
  obtain ⟨rfl, rfl⟩ := trodVars_none hV
  have key := closed_call no_count mixed (ov := knownOv) known_ov (laid_ok hs hL) (f := 11) (m := 1000) (b := true) (by rw [globals1]; exact known_true)
  refine key.mono fun e W' ⟨he, hk⟩ => ?_
  subst he
  exact ⟨_, rfl, post_stays (pa := []) (pv := []) hW' (fun _ _ _ => trodAll_cons_mk (shut_bool Tryd.underlying4 _) trodAll_mk0) (fun _ _ => trodAll_mk0) (fun _ _ => rfl) rfl hk (ok_one (by kernel_rfl) rfl (okWide_bool_mk Tryd.underlying4 _))⟩
set_option maxRecDepth 100000 in
theorem lifted (os : Os) (started : os.Started) (H : Type) (enc : TypeId × Value → H) (F : Stop.Interp) :
    ReturnsInHanded {} Tryd.checked os 11 .any ((OpenSpec.ofChange Rows.cureKnownSpec).preRow enc Tryd.prog Tryd.f11 Rows.cureKnownRow.domain false Rows.cureKnownRow.laid) (((OpenSpec.ofChange Rows.cureKnownSpec).at F).post enc Tryd.prog Tryd.f11 false true false false) := by
  obtain ⟨places, hx⟩ := reads os enc
  refine returnsInHanded_of_row (C := Tryd.checked) (s := OpenSpec.ofChange Rows.cureKnownSpec) own started (by kernel_rfl) Tryd.func11
    (witness_row_atRef (enc := enc) (C := Tryd.checked) false (laidWorld os) #[] rfl (by kernel_rfl) (by kernel_rfl) (by kernel_rfl)
      (OpenSpec.preRow_of_cond 8 hx (by kernel_rfl) (fun k hk => by cases hk) (by kernel_rfl) (laid_met os _))) ?_
  intro W base args ds gs before hval hW _ _ _ hL hs _
  exact contract H enc W args ds gs before hW hL hs
theorem said : Rows.CureKnownSaid :=
  OpenClaim.holds_of_cond 11 Tryd.f11 rfl rfl rfl rfl rfl rfl rfl ⟨rfl, rfl, rfl, rfl, rfl⟩ rfl rfl rfl rfl rfl (by kernel_rfl) Tryd.func11 (by kernel_rfl)
    (of_decide_eq_true (by kernel_rfl)) (by unfold Func.isWrapper; first | (rw [if_pos (by decide +kernel)]; kernel_rfl) | (rw [if_neg (by decide +kernel)]; exact ⟨rfl, rfl⟩))
    (fun os started H enc _ F => by rw [OpenClaim.pre_eq_preRow]; exact lifted os started H enc F)
theorem plain (f : FuncId) (fn : Func) (hf : Tryd.pinned.checked.prog.funcNamed "rostellum/rostellumlaw06.CureKnown" = some f) (hfn : Tryd.pinned.checked.prog.funcs[f]? = some fn) :
    false = Tryd.pinned.checked.prog.looks [] ∧ ∀ (j : Nat) t, fn.params[j]? = some t → Tryd.pinned.checked.prog.wantsStandIn t = false := by
  obtain rfl : f = 11 := Option.some.inj ((show Tryd.prog.funcNamed "rostellum/rostellumlaw06.CureKnown" = some 11 by kernel_rfl).symm.trans hf) |>.symm
  obtain rfl : fn = Tryd.f11 := (Option.some.inj (Tryd.func11.symm.trans hfn)).symm
  refine ⟨by kernel_rfl, fun j t ht => ?_⟩
  have : Tryd.f11.params = #[] := by kernel_rfl
  rw [this] at ht
  simp at ht
set_option maxRecDepth 100000 in
/-- the card -/
theorem card : Rows.CureKnownCardSaid :=
  Claim7.holds_tied_plain_at .later [] _ _ _ _ said (fun _ h => by cases h) (by kernel_rfl) (fun _ h => by cases h) cureKnown_row_tie rfl ⟨rfl, rfl⟩ (by kernel_rfl) rfl plain (by kernel_rfl)
end Go.Proofs.YtmemdglkkgmjnaaDoor.walk
