/-
  rostellumlaw03.PodKnown (what the chapter of pod says of single pods and markets) answers true, and changes nothing that stood before the call.
  Conditions: those of the given row alone (its listed variable of the program holds what its initialiser lays; the card ties it to the text of the program).
  How: a machine of its own (the texts Sh) is proved to say of each closed call what the model does, whatever order is drawn; the kernel evaluates it (PF1 to PF3, PS0 to PS4).
-/
import Derived.Test.YtanpablcoimajaaDoorCards
import Derived.Test.YtanpablcoimajaaDoorTie
import Derived.Test.YtanpablcoimajaaDoorPF1
import Derived.Test.YtanpablcoimajaaDoorPF2
import Derived.Test.YtanpablcoimajaaDoorPF3
import Derived.Test.YtanpablcoimajaaDoorPS0
import Derived.Test.YtanpablcoimajaaDoorPS1
import Derived.Test.YtanpablcoimajaaDoorPS2
import Derived.Test.YtanpablcoimajaaDoorPS3
import Derived.Test.YtanpablcoimajaaDoorPS4
import Derived.WalkKit
import Derived.ProofKit
import Derived.OpenShut
import Derived.Deep.DeepHandedRow
import Derived.Deep.DeepWitnessRowRef
namespace Go.Proofs.YtanpablcoimajaaDoor.known
open Go.ChangeShapes Go.WideShapes Go.ChangeAt Go.RowKit Go.Sh
/-! ## what every statement of this seat needs -/
theorem own : ownKnob Tryd.prog.godebug = none := by kernel_rfl
theorem mixed : Tryd.prog.follows .mixedOrders = true := by kernel_rfl
theorem globals1 : Tryd.prog.globals.size = 1 := by kernel_rfl
theorem row0 : RowOf Tryd.prog 0 16 122 := .of (by kernel_rfl)
theorem g0 : Tryd.prog.globalNamed "rostellum/pod.parts" = some 0 := by kernel_rfl
theorem t0 : (Tryd.prog.globals[0]?).map (·.type) = some 122 := by kernel_rfl
theorem parts_dat : datC Tryd.prog 5 122 Rows.laid_rostellum_pod_parts = some partsC := by kernel_rfl
def laidRow : List (String × DataW Unit) := [("rostellum/pod.parts", Rows.laid_rostellum_pod_parts)]
theorem laid_ok {W : World} (hs : W.ShapedOpen Tryd.prog) (hL : laidMet Tryd.prog laidRow W) : LaidOk Tryd.prog W laidL := by
  intro x hx
  unfold laidL at hx
  rcases List.mem_cons.1 hx with rfl | hx
  · exact laid_plain hs hL (.head _) g0 (by rw [globals1]; decide) t0 parts_dat (by kernel_rfl) row0
  · cases hx
theorem no_count : NoCount Tryd.prog := NoCount.of (by kernel_rfl)
theorem works_ov : OvOk Tryd.prog (memoOv 18 [] laidL (.bool true) noOv) :=
  memo_ok no_count mixed ov_none works_true (by kernel_rfl) (by kernel_rfl) (by rw [globals1]; exact Nat.le_refl _) (by kernel_rfl) ov_none
theorem surely_all (i : Nat) (hi : i < 992) : resIs zeroY ((run Tryd.prog noOv 1000).call 86 (surelyA 2098 i) (startA 2099 (surelyL 2098)) .none) = true := by
  by_cases h0 : i < 200
  · exact allUp_mem surely0 i (by omega) (by omega)
  by_cases h1 : i < 400
  · exact allUp_mem surely1 i (by omega) (by omega)
  by_cases h2 : i < 600
  · exact allUp_mem surely2 i (by omega) (by omega)
  by_cases h3 : i < 800
  · exact allUp_mem surely3 i (by omega) (by omega)
  · exact allUp_mem surely4 i (by omega) (by omega)
theorem known_ov : OvOk Tryd.prog knownOv :=
  memo_ok no_count mixed ov_none weigh1 (by kernel_rfl) (by kernel_rfl) (by rw [globals1]; decide) (by kernel_rfl)
    (fam_ok no_count mixed ov_none surely_all (by kernel_rfl) (fun _ _ => by kernel_rfl) (by rw [globals1]; decide) (fun _ _ => by kernel_rfl) works_ov)

/-! ## PodKnown -/
/-- the world of the witness: the settled one, with the listed variable -/
noncomputable def laidWorld (os : Os) : World :=
  let w0 := World.holding Tryd.prog os ⟨#[], #[], []⟩
  { w0 with heap := w0.heap.modify 0 fun
    | .cells _ t frozen => .cells partsC.toArray t frozen
    | o => o }
theorem laid_met (os : Os) (args : Array Value) : laidMet Tryd.prog laidRow ((laidWorld os).forCall (fun _ _ => 0) ⟨#[], args, []⟩).memory :=
  laidMet_of_run' 8 (by kernel_rfl) (by kernel_rfl)
theorem reads (os : Os) {H : Type} (enc : TypeId × Value → H) : ∃ places, DataW.whole enc Tryd.prog ((laidWorld os).forCall (fun _ _ => 0) ⟨#[], #[], []⟩).memory Tryd.f13.params.toList Rows.podKnownSpec.vars false (#[] : Array Value).toList 8 = some ([], [], places) :=
  ⟨[], by kernel_rfl⟩
set_option maxRecDepth 100000 in
theorem contract (H : Type) (enc : TypeId × Value → H) (W : World) (args : Array Value) (ds gs : List (DataW H)) (before : List MemPlace)
    (hW : DataW.Whole enc Tryd.prog Tryd.f13.params.toList Rows.podKnownSpec.vars false W args.toList ds gs before) (hL : laidMet Tryd.prog laidRow W) (hs : W.ShapedOpen Tryd.prog) :
    Calls Tryd.prog 13 args W fun e W' => ∃ v, e = .returned v ∧ Rows.podKnownSpec.post enc Tryd.prog Tryd.f13 false true false false W args v W' := by
  have hW' := hW
  obtain ⟨p, q, hA0, hV, rfl, hfz, hnd⟩ := hW
  have hA : DataW.TrodAll enc Tryd.prog W 0 (fun _ => true) true [] args.toList ds p := hA0
  obtain ⟨hargs, rfl, rfl⟩ := trodAll_nil hA
  obtain rfl : args = #[] := by cases args; simp_all
  obtain ⟨rfl, rfl⟩ := trodVars_none hV
  have key := closed_call no_count mixed (ov := knownOv) known_ov (laid_ok hs hL) (f := 13) (m := 1000) (b := true) (by rw [globals1]; exact known_true)
  refine key.mono fun e W' ⟨he, hk⟩ => ?_
  subst he
  exact ⟨_, rfl, post_stays (pa := []) (pv := []) hW' (fun _ _ _ => trodAll_cons_mk (shut_bool Tryd.underlying4 _) trodAll_mk0) (fun _ _ => trodAll_mk0) (fun _ _ => rfl) rfl hk (ok_one (by kernel_rfl) rfl (okWide_bool_mk Tryd.underlying4 _))⟩
set_option maxRecDepth 100000 in
theorem lifted (os : Os) (started : os.Started) (H : Type) (enc : TypeId × Value → H) (F : Stop.Interp) :
    ReturnsInHanded {} Tryd.checked os 13 .any ((OpenSpec.ofChange Rows.podKnownSpec).preRow enc Tryd.prog Tryd.f13 Rows.podKnownRow.domain false Rows.podKnownRow.laid) (((OpenSpec.ofChange Rows.podKnownSpec).at F).post enc Tryd.prog Tryd.f13 false true false false) := by
  obtain ⟨places, hx⟩ := reads os enc
  refine returnsInHanded_of_row (C := Tryd.checked) (s := OpenSpec.ofChange Rows.podKnownSpec) own started (by kernel_rfl) Tryd.func13
    (witness_row_atRef (enc := enc) (C := Tryd.checked) false (laidWorld os) #[] rfl (by kernel_rfl) (by kernel_rfl) (by kernel_rfl)
      (OpenSpec.preRow_of_cond 8 hx (by kernel_rfl) (fun k hk => by cases hk) (by kernel_rfl) (laid_met os _))) ?_
  intro W base args ds gs before hval hW _ _ _ hL hs _
  exact contract H enc W args ds gs before hW hL hs
theorem said : Rows.PodKnownSaid :=
  OpenClaim.holds_of_cond 13 Tryd.f13 rfl rfl rfl rfl rfl rfl rfl ⟨rfl, rfl, rfl, rfl, rfl⟩ rfl rfl rfl rfl rfl (by kernel_rfl) Tryd.func13 (by kernel_rfl)
    (of_decide_eq_true (by kernel_rfl)) (by unfold Func.isWrapper; first | (rw [if_pos (by decide +kernel)]; kernel_rfl) | (rw [if_neg (by decide +kernel)]; exact ⟨rfl, rfl⟩))
    (fun os started H enc _ F => by rw [OpenClaim.pre_eq_preRow]; exact lifted os started H enc F)
theorem plain (f : FuncId) (fn : Func) (hf : Tryd.pinned.checked.prog.funcNamed "rostellum/rostellumlaw03.PodKnown" = some f) (hfn : Tryd.pinned.checked.prog.funcs[f]? = some fn) :
    false = Tryd.pinned.checked.prog.looks [] ∧ ∀ (j : Nat) t, fn.params[j]? = some t → Tryd.pinned.checked.prog.wantsStandIn t = false := by
  obtain rfl : f = 13 := Option.some.inj ((show Tryd.prog.funcNamed "rostellum/rostellumlaw03.PodKnown" = some 13 by kernel_rfl).symm.trans hf) |>.symm
  obtain rfl : fn = Tryd.f13 := (Option.some.inj (Tryd.func13.symm.trans hfn)).symm
  refine ⟨by kernel_rfl, fun j t ht => ?_⟩
  have : Tryd.f13.params = #[] := by kernel_rfl
  rw [this] at ht
  simp at ht
set_option maxRecDepth 100000 in
/-- the card -/
theorem card : Rows.PodKnownCardSaid :=
  Claim7.holds_tied_plain_at .later [] _ _ _ _ said (fun _ h => by cases h) (by kernel_rfl) (fun _ h => by cases h) podKnown_row_tie rfl ⟨rfl, rfl⟩ (by kernel_rfl) rfl plain (by kernel_rfl)
end Go.Proofs.YtanpablcoimajaaDoor.known
