/-
  rostellumlaw01.VineEnds (each end of what Flowers and Opens say is so with some truth: of the first days of a season all truths are tried) answers true whatever the season, the racemes and the day are, and they read behind the call as before.
  Conditions: those of the given row alone (its listed variables of the library and of the program hold what their initialisers lay; the card ties them to the text of the program).
  How: a machine of its own (the texts Sh) is proved to say of each call what the model does, whatever order is drawn; arguments that come in are laid into its memory; what it does with them is proved function by function (XW, XY, EW, EV, EZ); that the best number of flowers over all ways through the days comes of one of the truths that are tried is arithmetic (EN1 to EN7).
-/
import Derived.Test.YtbbbgaiaigdngaaGreatDoorCards
import Derived.Test.YtbbbgaiaigdngaaGreatDoorTie
import Derived.Test.YtbbbgaiaigdngaaGreatDoorEYn
import Derived.Test.YtbbbgaiaigdngaaGreatDoorEF01
import Derived.WalkKit
import Derived.ProofKit
import Derived.OpenShut
import Derived.Deep.DeepHandedRow
import Derived.Deep.DeepWitnessRowRef

namespace Go.Proofs.YtbbbgaiaigdngaaGreatDoor.walk
open Go.ChangeShapes Go.WideShapes Go.ChangeAt Go.RowKit Go.Sh

theorem own : ownKnob Tryz.prog.godebug = none := by kernel_rfl
theorem row0 : RowOf Tryz.prog 0 2 102 := .of (by kernel_rfl)
theorem row2 : RowOf Tryz.prog 2 20 175 := .of (by kernel_rfl)
theorem row3 : RowOf Tryz.prog 3 1 119 := .of (by kernel_rfl)
theorem g0 : Tryz.prog.globalNamed "rostellum/vine.start" = some 0 := by kernel_rfl
theorem g2 : Tryz.prog.globalNamed "internal/strconv.uint64pow10" = some 2 := by kernel_rfl
theorem g3 : Tryz.prog.globalNamed "strconv.ErrSyntax" = some 3 := by kernel_rfl
theorem t0 : (Tryz.prog.globals[0]?).map (·.type) = some 102 := by kernel_rfl
theorem t2 : (Tryz.prog.globals[2]?).map (·.type) = some 175 := by kernel_rfl
theorem t3 : (Tryz.prog.globals[3]?).map (·.type) = some 119 := by kernel_rfl
theorem size_le {g : Nat} (h : g < 7) : g < Tryz.prog.globals.size := by rw [globals7]; exact h
def dayF : Field := { name := "day", type := 3, offset := 0, embedded := false, tag := "", pkgPath := "rostellum/vine", byteOffset := 0 }
def sumF : Field := { name := "sum", type := 3, offset := 1, embedded := false, tag := "", pkgPath := "rostellum/vine", byteOffset := 8 }
theorem uZZ114 : Tryz.prog.underlying 102 = some (.struct #[dayF, sumF]) := by kernel_rfl
theorem uZZ164 : Tryz.prog.underlying 175 = some (.array 20 163) := by kernel_rfl
theorem uZZ152 : Tryz.prog.underlying 163 = some (.int .u64) := by kernel_rfl
theorem uZE : Tryz.prog.underlying 119 = some (.interface #[("Error", 125)]) := by kernel_rfl
theorem cZZ114 : Tryz.prog.cellsOf 102 = 2 := by kernel_rfl
theorem cZZ152 : Tryz.prog.cellsOf 163 = 1 := by kernel_rfl
theorem cZZ164 : Tryz.prog.cellsOf 175 = 20 := by kernel_rfl
def laidRow : List (String × DataW Unit) := [("math/bits.deBruijn32tab", Rows.laid_math_bits_deBruijn32tab), ("math/bits.deBruijn64tab", Rows.laid_math_bits_deBruijn64tab), ("internal/strconv.uint64pow10", Rows.laid_internal_strconv_uint64pow10), ("strconv.ErrRange", Rows.laid_strconv_ErrRange), ("strconv.ErrSyntax", Rows.laid_strconv_ErrSyntax), ("rostellum/vine.start", Rows.laid_rostellum_vine_start)]
theorem laid_ok {W : World} (hs : W.ShapedOpen Tryz.prog) (hL : laidMet Tryz.prog laidRow W) : LaidOk Tryz.prog W laidL := by
  intro x hx
  unfold laidL at hx
  rcases List.mem_cons.1 hx with rfl | hx
  · exact laid_struct2 hs hL (z0 := -1) (z1 := 0) (.tail _ (.tail _ (.tail _ (.tail _ (.tail _ (.head _)))))) g0 (size_le (by decide)) t0 uZZ114 rfl u3 u3 rfl rfl c3 c3 cZZ114 row0
  rcases List.mem_cons.1 hx with rfl | hx
  · exact laid_tab hs hL (zs := pow10) (.tail _ (.tail _ (.head _))) g2 (size_le (by decide)) t2 uZZ164 uZZ152 cZZ152 cZZ164 row2
  rcases List.mem_cons.1 hx with rfl | hx
  · exact laid_iface hs hL (.tail _ (.tail _ (.tail _ (.tail _ (.head _))))) g3 (size_le (by decide)) t3 uZE row3
  · cases hx
theorem kids : Kids Tryz.prog (· < Tryz.prog.types.size) := kids_rows (by kernel_rfl) (by kernel_rfl)
theorem wide : slicesWide Tryz.prog = true := by kernel_rfl
/-- the world of the witness: the settled one, with the listed variables -/
noncomputable def laidWorld (os : Os) : World :=
  let w0 := World.holding Tryz.prog os ⟨#[], #[], []⟩
  let put (h : Array Obj) (g : Nat) (cs : Array Value) : Array Obj := h.modify g fun
    | .cells _ t frozen => .cells cs t frozen
    | o => o
  let ints (k : IntKind) (zs : List Int) : Array Value := (zs.map fun z => Value.int k z).toArray
  let h := put w0.heap 0 #[.int .i64 (-1), .int .i64 0]
  let h := put h 2 (ints .u64 pow10)
  let h := put h 3 #[.iface 198 (.pointer (some ⟨12, 0, none⟩))]
  let h := put h 4 #[.iface 198 (.pointer (some ⟨13, 0, none⟩))]
  let h := put h 5 (ints .u8 [0, 1, 28, 2, 29, 14, 24, 3, 30, 22, 20, 15, 25, 17, 4, 8, 31, 27, 13, 23, 21, 19, 16, 7, 26, 12, 18, 6, 11, 5, 10, 9])
  let h := put h 6 (ints .u8 [0, 1, 56, 2, 57, 49, 28, 3, 61, 58, 42, 50, 38, 29, 17, 4, 62, 47, 59, 36, 45, 43, 51, 22, 53, 39, 33, 30, 24, 18, 12, 5, 63, 55, 48, 27, 60, 41, 37, 16, 46, 35, 44, 21, 52, 32, 23, 11, 54, 26, 40, 15, 34, 20, 31, 10, 25, 14, 19, 9, 13, 8, 7, 6])
  { w0 with heap := (h.push (.cells #[.string ⟨#[105, 110, 118, 97, 108, 105, 100, 32, 115, 121, 110, 116, 97, 120]⟩] 200)).push (.cells #[.string ⟨#[118, 97, 108, 117, 101, 32, 111, 117, 116, 32, 111, 102, 32, 114, 97, 110, 103, 101]⟩] 200) }
theorem laid_met (os : Os) (args : Array Value) : laidMet Tryz.prog laidRow ((laidWorld os).forCall (fun _ _ => 0) ⟨#[], args, []⟩).memory :=
  laidMet_of_run' 8 (by kernel_rfl) (by kernel_rfl)
theorem reads (os : Os) {H : Type} (enc : TypeId × Value → H) : ∃ places, DataW.whole enc Tryz.prog ((laidWorld os).forCall (fun _ _ => 0) ⟨#[], #[.agg ⟨[.slice none 0 0, .int .i64 0, .int .i64 0, .int .i64 0, .int .i64 0, .int .i64 0, .int .i64 0, .int .i64 0, .slice none 0 0]⟩, .slice none 0 0, .int .i64 0], []⟩).memory Tryz.f5.params.toList Rows.vineEndsSpec.vars false (#[Value.agg ⟨[.slice none 0 0, .int .i64 0, .int .i64 0, .int .i64 0, .int .i64 0, .int .i64 0, .int .i64 0, .int .i64 0, .slice none 0 0]⟩, .slice none 0 0, .int .i64 0] : Array Value).toList 8 = some ([.agg [.nil, .lit (.int .i64 0), .lit (.int .i64 0), .agg [.lit (.int .i64 0), .lit (.int .i64 0), .lit (.int .i64 0), .agg [.lit (.int .i64 0), .lit (.int .i64 0)]], .nil], .nil, .lit (.int .i64 0)], [], places) :=
  ⟨[], by kernel_rfl⟩
theorem mem_all {t a b c : Nat} (h : t ∈ [a, b, c]) : t = a ∨ t = b ∨ t = c := by simpa using h
theorem params5 : Tryz.f5.params.toList = [29, 30, 3] := by kernel_rfl
set_option maxRecDepth 100000 in
theorem contract (H : Type) (enc : TypeId × Value → H) (W : World) (base : Nat) (args : Array Value) (ds gs : List (DataW H)) (before : List MemPlace)
    (hval : ∀ (j : Nat) t v, Tryz.f5.params[j]? = some t → args[j]? = some v → Value.okWide Tryz.prog W .any base t v)
    (hW : DataW.Whole enc Tryz.prog Tryz.f5.params.toList Rows.vineEndsSpec.vars false W args.toList ds gs before) {tw : List TypeId} (hz : (DataW.weightsEach Tryz.prog (Tryz.f5.params.toList ++ tw) (ds ++ gs)).all (· ≤ reachBytes) = true) (hL : laidMet Tryz.prog laidRow W) (hs : W.ShapedOpen Tryz.prog) :
    Calls Tryz.prog 5 args W fun e W' => ∃ v, e = .returned v ∧ Rows.vineEndsSpec.post enc Tryz.prog Tryz.f5 false true false false W args v W' := by
  have hW' := hW
  obtain ⟨vs⟩ := args
  obtain ⟨p, q, hA, hV, rfl, hfz, hnd⟩ := hW
  obtain ⟨rfl, rfl⟩ := trodVars_none hV
  have hA' := hA
  rw [params5] at hA'
  rw [params5] at hz
  obtain ⟨_, hlen⟩ := trodAll_length _ _ _ _ hA'
  have key := input_sized no_count mixed (ok19 flowers1) (laid_ok hs hL) (d := 6) (ts := [29, 30, 3]) (f := 5) (m := 100) (fun t ht => by rcases mem_all ht with rfl | rfl | rfl; exact ty29; exact ty30; exact ty3) (fun j t v h1 h2 => hval j t v (by rw [← Array.getElem?_toList, params5]; exact h1) (by simpa using h2)) hA' hlen hz start_true
  match ds, hlen with
  | [d1, d2, d3], _ =>
    refine key.mono fun e W' ⟨he, hk⟩ => ?_
    subst he
    exact ⟨_, rfl, post_stays (pa := p) (pv := []) hW' (fun _ _ _ => trodAll_cons_mk (shut_bool Tryz.underlying4 _) trodAll_mk0)
      (fun sp hsp => by
        show DataW.TrodAll enc Tryz.prog W' 0 sp true Tryz.f5.params.toList vs [d1, d2, d3] p
        rw [params5]
        exact args_again kids wide hk [29, 30, 3] vs [d1, d2, d3] p (fun t ht => by rcases mem_all ht with rfl | rfl | rfl <;> decide +kernel) hA' (fun x hx => hW'.lt x (by simpa using hx)) (fun x hx => hsp x (by simpa using hx)))
      (fun _ _ => rfl) rfl hk (ok_one (by kernel_rfl) rfl (okWide_bool_mk Tryz.underlying4 _))⟩
set_option maxRecDepth 100000 in
theorem lifted (os : Os) (started : os.Started) (H : Type) (enc : TypeId × Value → H) (F : Stop.Interp) :
    ReturnsInHanded {} Tryz.checked os 5 .any ((OpenSpec.ofChange Rows.vineEndsSpec).preRow enc Tryz.prog Tryz.f5 Rows.vineEndsRow.domain false Rows.vineEndsRow.laid) (((OpenSpec.ofChange Rows.vineEndsSpec).at F).post enc Tryz.prog Tryz.f5 false true false false) := by
  obtain ⟨places, hx⟩ := reads os enc
  refine returnsInHanded_of_row (C := Tryz.checked) (s := OpenSpec.ofChange Rows.vineEndsSpec) own started (by kernel_rfl) Tryz.func5
    (witness_row_atRef (enc := enc) (C := Tryz.checked) false (laidWorld os) #[.agg ⟨[.slice none 0 0, .int .i64 0, .int .i64 0, .int .i64 0, .int .i64 0, .int .i64 0, .int .i64 0, .int .i64 0, .slice none 0 0]⟩, .slice none 0 0, .int .i64 0] rfl (by kernel_rfl) (by kernel_rfl) (by kernel_rfl)
      (OpenSpec.preRow_of_cond 8 hx (by kernel_rfl) (fun k hk => by cases hk) (by kernel_rfl) (laid_met os _))) ?_
  intro W base args ds gs before hval hW _ _ hz hL hs _
  exact contract H enc W base args ds gs before hval hW hz hL hs
theorem said : Rows.VineEndsSaid :=
  OpenClaim.holds_of_cond 5 Tryz.f5 rfl rfl rfl rfl rfl rfl rfl ⟨rfl, rfl, rfl, rfl, rfl⟩ rfl rfl rfl rfl rfl (by kernel_rfl) Tryz.func5 (by kernel_rfl)
    (of_decide_eq_true (by kernel_rfl)) (by unfold Func.isWrapper; first | (rw [if_pos (by decide +kernel)]; kernel_rfl) | (rw [if_neg (by decide +kernel)]; exact ⟨rfl, rfl⟩))
    (fun os started H enc _ F => by rw [OpenClaim.pre_eq_preRow]; exact lifted os started H enc F)
theorem plain (f : FuncId) (fn : Func) (hf : Tryz.pinned.checked.prog.funcNamed "rostellum/rostellumlaw01.VineEnds" = some f) (hfn : Tryz.pinned.checked.prog.funcs[f]? = some fn) :
    true = Tryz.pinned.checked.prog.looks [] ∧ ∀ (j : Nat) t, fn.params[j]? = some t → Tryz.pinned.checked.prog.wantsStandIn t = false := by
  obtain rfl : f = 5 := Option.some.inj ((show Tryz.prog.funcNamed "rostellum/rostellumlaw01.VineEnds" = some 5 by kernel_rfl).symm.trans hf) |>.symm
  obtain rfl : fn = Tryz.f5 := (Option.some.inj (Tryz.func5.symm.trans hfn)).symm
  refine ⟨by kernel_rfl, fun j t ht => ?_⟩
  have h1 : t ∈ Tryz.f5.params.toList := by
    rw [← Array.getElem?_toList] at ht
    exact List.mem_of_getElem? ht
  rw [params5] at h1
  have k3 : Tryz.prog.wantsStandIn 3 = false := by kernel_rfl
  have k29 : Tryz.prog.wantsStandIn 29 = false := by kernel_rfl
  have k30 : Tryz.prog.wantsStandIn 30 = false := by kernel_rfl
  rcases mem_all h1 with rfl | rfl | rfl
  · exact k29
  · exact k30
  · exact k3
set_option maxRecDepth 100000 in
/-- the card -/
theorem card : Rows.VineEndsCardSaid :=
  Claim7.holds_tied_plain_at .later [] _ _ _ _ said (fun _ h => by cases h) (by kernel_rfl) (fun _ h => by cases h) vineEnds_row_tie rfl ⟨rfl, rfl⟩ (by kernel_rfl) rfl plain (by kernel_rfl)
end Go.Proofs.YtbbbgaiaigdngaaGreatDoor.walk
