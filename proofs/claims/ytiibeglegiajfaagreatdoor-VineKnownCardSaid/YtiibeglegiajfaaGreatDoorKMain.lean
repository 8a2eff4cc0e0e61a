/-
  rostellumlaw01.VineKnown (what the chapter of vine says of single seasons, vines and texts) answers true, and changes nothing that stood before the call.
  Conditions: those of the given row alone (its listed variables of the library and of the program hold what their initialisers lay; the card ties them to the text of the program).
  How: a machine of its own (the texts Sh) is proved to say of each closed call what the model does, whatever order is drawn; the kernel evaluates it (KF1 to KF4).
-/
import Derived.Test.YtiibeglegiajfaaGreatDoorCards
import Derived.Test.YtiibeglegiajfaaGreatDoorTie
import Derived.Test.YtiibeglegiajfaaGreatDoorKF1
import Derived.Test.YtiibeglegiajfaaGreatDoorKF2
import Derived.Test.YtiibeglegiajfaaGreatDoorKF3
import Derived.Test.YtiibeglegiajfaaGreatDoorKF4
import Derived.WalkKit
import Derived.ProofKit
import Derived.OpenShut
import Derived.Deep.DeepHandedRow
import Derived.Deep.DeepWitnessRowRef
namespace Go.Proofs.YtiibeglegiajfaaGreatDoor.known
open Go.ChangeShapes Go.WideShapes Go.ChangeAt Go.RowKit Go.Sh
/-! ## what every statement of this seat needs -/
theorem own : ownKnob Tryz.prog.godebug = none := by kernel_rfl
theorem mixed : Tryz.prog.follows .mixedOrders = true := by kernel_rfl
theorem globals7 : Tryz.prog.globals.size = 7 := by kernel_rfl
theorem row0 : RowOf Tryz.prog 0 2 145 := .of (by kernel_rfl)
theorem row2 : RowOf Tryz.prog 2 20 195 := .of (by kernel_rfl)
theorem row3 : RowOf Tryz.prog 3 1 123 := .of (by kernel_rfl)
theorem g0 : Tryz.prog.globalNamed "rostellum/vine.start" = some 0 := by kernel_rfl
theorem g2 : Tryz.prog.globalNamed "internal/strconv.uint64pow10" = some 2 := by kernel_rfl
theorem g3 : Tryz.prog.globalNamed "strconv.ErrSyntax" = some 3 := by kernel_rfl
theorem t0 : (Tryz.prog.globals[0]?).map (·.type) = some 145 := by kernel_rfl
theorem t2 : (Tryz.prog.globals[2]?).map (·.type) = some 195 := by kernel_rfl
theorem t3 : (Tryz.prog.globals[3]?).map (·.type) = some 123 := by kernel_rfl
theorem size_le {g : Nat} (h : g < 7) : g < Tryz.prog.globals.size := by rw [globals7]; exact h
def dayF : Field := { name := "day", type := 3, offset := 0, embedded := false, tag := "", pkgPath := "rostellum/vine", byteOffset := 0 }
def sumF : Field := { name := "sum", type := 3, offset := 1, embedded := false, tag := "", pkgPath := "rostellum/vine", byteOffset := 8 }
theorem u145 : Tryz.prog.underlying 145 = some (.struct #[dayF, sumF]) := by kernel_rfl
theorem u195 : Tryz.prog.underlying 195 = some (.array 20 183) := by kernel_rfl
theorem u183 : Tryz.prog.underlying 183 = some (.int .u64) := by kernel_rfl
theorem u123 : Tryz.prog.underlying 123 = some (.interface #[("Error", 128)]) := by kernel_rfl
theorem u3 : Tryz.prog.underlying 3 = some (.int .i64) := by kernel_rfl
theorem c3 : Tryz.prog.cellsOf 3 = 1 := by kernel_rfl
theorem c145 : Tryz.prog.cellsOf 145 = 2 := by kernel_rfl
theorem c183 : Tryz.prog.cellsOf 183 = 1 := by kernel_rfl
theorem c195 : Tryz.prog.cellsOf 195 = 20 := by kernel_rfl
def laidRow : List (String × DataW Unit) := [("math/bits.deBruijn32tab", Rows.laid_math_bits_deBruijn32tab), ("math/bits.deBruijn64tab", Rows.laid_math_bits_deBruijn64tab), ("internal/strconv.uint64pow10", Rows.laid_internal_strconv_uint64pow10), ("strconv.ErrRange", Rows.laid_strconv_ErrRange), ("strconv.ErrSyntax", Rows.laid_strconv_ErrSyntax), ("rostellum/vine.start", Rows.laid_rostellum_vine_start)]
theorem laid_ok {W : World} (hs : W.ShapedOpen Tryz.prog) (hL : laidMet Tryz.prog laidRow W) : LaidOk Tryz.prog W laidL := by
  intro x hx
  unfold laidL at hx
  rcases List.mem_cons.1 hx with rfl | hx
  · exact laid_struct2 hs hL (z0 := -1) (z1 := 0) (.tail _ (.tail _ (.tail _ (.tail _ (.tail _ (.head _)))))) g0 (size_le (by decide)) t0 u145 rfl u3 u3 rfl rfl c3 c3 c145 row0
  rcases List.mem_cons.1 hx with rfl | hx
  · exact laid_tab hs hL (zs := pow10) (.tail _ (.tail _ (.head _))) g2 (size_le (by decide)) t2 u195 u183 c183 c195 row2
  rcases List.mem_cons.1 hx with rfl | hx
  · exact laid_iface hs hL (.tail _ (.tail _ (.tail _ (.tail _ (.head _))))) g3 (size_le (by decide)) t3 u123 row3
  · cases hx
theorem no_count : NoCount Tryz.prog := NoCount.of (by kernel_rfl)
theorem flowers_ok {b c n : Nat} {day low high : Int} (hn : 7 ≤ n) (hcl : closedB n (flowersL b c) = true) (ha : inDom.allD (inDom (numsOf (flowersL b c)) 5) (flowersA b c day) = true) (hv : groundC 3 (spanV low high) = true)
    (fact : resIs (spanV low high) ((run Tryz.prog noOv 1000).call 33 (flowersA b c day) (startA n (flowersL b c)) .none) = true) {rest : Ov} (hrest : OvOk Tryz.prog rest) : OvOk Tryz.prog (memoOv 33 (flowersA b c day) (flowersL b c) (spanV low high) rest) :=
  memo_ok no_count mixed ov_none fact hcl ha (by rw [globals7]; exact hn) hv hrest
theorem works_ov : OvOk Tryz.prog worksOv := flowers_ok (by decide) (by kernel_rfl) (by kernel_rfl) (by kernel_rfl) flowers1 ov_none
theorem known_ov : OvOk Tryz.prog knownOv :=
  flowers_ok (by decide) (by kernel_rfl) (by kernel_rfl) (by kernel_rfl) flowers2
    (memo_ok no_count mixed works_ov works_true (by kernel_rfl) (by kernel_rfl) (by rw [globals7]; exact Nat.le_refl _) (by kernel_rfl) ov_none)

/-! ## VineKnown -/
/-- the world of the witness: the settled one, with the listed variables -/
noncomputable def laidWorld (os : Os) : World :=
  let w0 := World.holding Tryz.prog os ⟨#[], #[], []⟩
  let put (h : Array Obj) (g : Nat) (cs : Array Value) : Array Obj := h.modify g fun
    | .cells _ t frozen => .cells cs t frozen
    | o => o
  let ints (k : IntKind) (zs : List Int) : Array Value := (zs.map fun z => Value.int k z).toArray
  let h := put w0.heap 0 #[.int .i64 (-1), .int .i64 0]
  let h := put h 2 (ints .u64 pow10)
  let h := put h 3 #[.iface 218 (.pointer (some ⟨12, 0, none⟩))]
  let h := put h 4 #[.iface 218 (.pointer (some ⟨13, 0, none⟩))]
  let h := put h 5 (ints .u8 [0, 1, 28, 2, 29, 14, 24, 3, 30, 22, 20, 15, 25, 17, 4, 8, 31, 27, 13, 23, 21, 19, 16, 7, 26, 12, 18, 6, 11, 5, 10, 9])
  let h := put h 6 (ints .u8 [0, 1, 56, 2, 57, 49, 28, 3, 61, 58, 42, 50, 38, 29, 17, 4, 62, 47, 59, 36, 45, 43, 51, 22, 53, 39, 33, 30, 24, 18, 12, 5, 63, 55, 48, 27, 60, 41, 37, 16, 46, 35, 44, 21, 52, 32, 23, 11, 54, 26, 40, 15, 34, 20, 31, 10, 25, 14, 19, 9, 13, 8, 7, 6])
  { w0 with heap := (h.push (.cells #[.string ⟨#[105, 110, 118, 97, 108, 105, 100, 32, 115, 121, 110, 116, 97, 120]⟩] 220)).push (.cells #[.string ⟨#[118, 97, 108, 117, 101, 32, 111, 117, 116, 32, 111, 102, 32, 114, 97, 110, 103, 101]⟩] 220) }
theorem laid_met (os : Os) (args : Array Value) : laidMet Tryz.prog laidRow ((laidWorld os).forCall (fun _ _ => 0) ⟨#[], args, []⟩).memory :=
  laidMet_of_run' 8 (by kernel_rfl) (by kernel_rfl)
theorem reads (os : Os) {H : Type} (enc : TypeId × Value → H) : ∃ places, DataW.whole enc Tryz.prog ((laidWorld os).forCall (fun _ _ => 0) ⟨#[], #[], []⟩).memory Tryz.f14.params.toList Rows.vineKnownSpec.vars false (#[] : Array Value).toList 8 = some ([], [], places) :=
  ⟨[], by kernel_rfl⟩
set_option maxRecDepth 100000 in
theorem contract (H : Type) (enc : TypeId × Value → H) (W : World) (args : Array Value) (ds gs : List (DataW H)) (before : List MemPlace)
    (hW : DataW.Whole enc Tryz.prog Tryz.f14.params.toList Rows.vineKnownSpec.vars false W args.toList ds gs before) (hL : laidMet Tryz.prog laidRow W) (hs : W.ShapedOpen Tryz.prog) :
    Calls Tryz.prog 14 args W fun e W' => ∃ v, e = .returned v ∧ Rows.vineKnownSpec.post enc Tryz.prog Tryz.f14 false true false false W args v W' := by
  have hW' := hW
  obtain ⟨p, q, hA0, hV, rfl, hfz, hnd⟩ := hW
  have hA : DataW.TrodAll enc Tryz.prog W 0 (fun _ => true) true [] args.toList ds p := hA0
  obtain ⟨hargs, rfl, rfl⟩ := trodAll_nil hA
  obtain rfl : args = #[] := by cases args; simp_all
  obtain ⟨rfl, rfl⟩ := trodVars_none hV
  have key := closed_call no_count mixed (ov := knownOv) known_ov (laid_ok hs hL) (f := 14) (m := 1000) (b := true) (by rw [globals7]; exact known_true)
  refine key.mono fun e W' ⟨he, hk⟩ => ?_
  subst he
  exact ⟨_, rfl, post_stays (pa := []) (pv := []) hW' (fun _ _ _ => trodAll_cons_mk (shut_bool Tryz.underlying4 _) trodAll_mk0) (fun _ _ => trodAll_mk0) (fun _ _ => rfl) rfl hk (ok_one (by kernel_rfl) rfl (okWide_bool_mk Tryz.underlying4 _))⟩
set_option maxRecDepth 100000 in
theorem lifted (os : Os) (started : os.Started) (H : Type) (enc : TypeId × Value → H) (F : Stop.Interp) :
    ReturnsInHanded {} Tryz.checked os 14 .any ((OpenSpec.ofChange Rows.vineKnownSpec).preRow enc Tryz.prog Tryz.f14 Rows.vineKnownRow.domain false Rows.vineKnownRow.laid) (((OpenSpec.ofChange Rows.vineKnownSpec).at F).post enc Tryz.prog Tryz.f14 false true false false) := by
  obtain ⟨places, hx⟩ := reads os enc
  refine returnsInHanded_of_row (C := Tryz.checked) (s := OpenSpec.ofChange Rows.vineKnownSpec) own started (by kernel_rfl) Tryz.func14
    (witness_row_atRef (enc := enc) (C := Tryz.checked) false (laidWorld os) #[] rfl (by kernel_rfl) (by kernel_rfl) (by kernel_rfl)
      (OpenSpec.preRow_of_cond 8 hx (by kernel_rfl) (fun k hk => by cases hk) (by kernel_rfl) (laid_met os _))) ?_
  intro W base args ds gs before hval hW _ _ _ hL hs _
  exact contract H enc W args ds gs before hW hL hs
theorem said : Rows.VineKnownSaid :=
  OpenClaim.holds_of_cond 14 Tryz.f14 rfl rfl rfl rfl rfl rfl rfl ⟨rfl, rfl, rfl, rfl, rfl⟩ rfl rfl rfl rfl rfl (by kernel_rfl) Tryz.func14 (by kernel_rfl)
    (of_decide_eq_true (by kernel_rfl)) (by unfold Func.isWrapper; first | (rw [if_pos (by decide +kernel)]; kernel_rfl) | (rw [if_neg (by decide +kernel)]; exact ⟨rfl, rfl⟩))
    (fun os started H enc _ F => by rw [OpenClaim.pre_eq_preRow]; exact lifted os started H enc F)
theorem plain (f : FuncId) (fn : Func) (hf : Tryz.pinned.checked.prog.funcNamed "rostellum/rostellumlaw01.VineKnown" = some f) (hfn : Tryz.pinned.checked.prog.funcs[f]? = some fn) :
    true = Tryz.pinned.checked.prog.looks [] ∧ ∀ (j : Nat) t, fn.params[j]? = some t → Tryz.pinned.checked.prog.wantsStandIn t = false := by
  obtain rfl : f = 14 := Option.some.inj ((show Tryz.prog.funcNamed "rostellum/rostellumlaw01.VineKnown" = some 14 by kernel_rfl).symm.trans hf) |>.symm
  obtain rfl : fn = Tryz.f14 := (Option.some.inj (Tryz.func14.symm.trans hfn)).symm
  refine ⟨by kernel_rfl, fun j t ht => ?_⟩
  have : Tryz.f14.params = #[] := by kernel_rfl
  rw [this] at ht
  simp at ht
set_option maxRecDepth 100000 in
/-- the card -/
theorem card : Rows.VineKnownCardSaid :=
  Claim7.holds_tied_plain_at .later [] _ _ _ _ said (fun _ h => by cases h) (by kernel_rfl) (fun _ h => by cases h) vineKnown_row_tie rfl ⟨rfl, rfl⟩ (by kernel_rfl) rfl plain (by kernel_rfl)
end Go.Proofs.YtiibeglegiajfaaGreatDoor.known
