/- Part of a proof by a machine of ones own: see the text with the theorem. -/
import Derived.Test.YthfidomphkednaaAWf
import Derived.Test.YthfidomphkednaaAF1
import Derived.Test.YthfidomphkednaaShF
import Derived.Test.YthfidomphkednaaRows
import Derived.WalkKit
import Derived.ProofKit
import Derived.OpenShut
import Derived.Deep.DeepHandedRow
import Derived.Deep.DeepWitnessRowRef
namespace Go.Proofs.Ythfidomphkednaa.walk
open Go Go.Sh Go.ChangeShapes Go.WideShapes Go.ChangeAt Go.RowKit
set_option maxRecDepth 100000
set_option linter.unusedVariables false
theorem mixed : Try.prog.follows .mixedOrders = true := by kernel_rfl
theorem globals0 : Try.prog.globals.size = 0 := by kernel_rfl
theorem no_count : NoCount Try.prog := NoCount.of (by kernel_rfl)
noncomputable def oW : Ov := knownOv
theorem okW' : OvOk Try.prog oW := memo_ok no_count mixed ov_none works_true (by kernel_rfl) (by kernel_rfl) (by rw [globals0]; exact Nat.le_refl _) (by kernel_rfl) ov_none
theorem oW_none {f : Nat} (hf : f ≠ 19) (args : List Value) (w : AW) : oW f args w = none := by
  have : Nat.beq f 19 = false := by rw [← Bool.not_eq_true]; intro h; exact hf (Nat.eq_of_beq_eq_true h)
  simp [oW, knownOv, memoOv, this, noOv]
theorem oW_has : HasW oW := fun w => by
  simp [oW, knownOv, memoOv, hasAll, sameL5, sameVal.sameVals]
theorem HasW.skip {f : Nat} {F : PureF} {rest : Ov} (hf : 19 ≠ f) (h : HasW rest) : HasW (ovP f F rest) := fun w => by simp [ovP, hf, h w]
theorem ovP_none {f g : Nat} {F : PureF} {rest : Ov} (hne : g ≠ f) (h : ∀ args w, rest g args w = none) (args : List Value) (w : AW) : ovP f F rest g args w = none := by simp [ovP, hne, h]
noncomputable def ovL : List (Nat × PureF) → Ov
  | [] => oW
  | x :: l => ovP x.1 x.2 (ovL l)
def keyB (g : Nat) : List (Nat × PureF) → Bool
  | [] => Nat.beq g 19
  | x :: l => Nat.beq g x.1 || keyB g l
def lookF (g : Nat) : List (Nat × PureF) → Option PureF
  | [] => none
  | x :: l => bif Nat.beq g x.1 then some x.2 else lookF g l
theorem beq_no {a b : Nat} (h : Nat.beq a b = false) : a ≠ b := fun e => by rw [e, Nat.beq_refl] at h; cases h
theorem chN {g : Nat} : ∀ {l : List (Nat × PureF)}, keyB g l = false → ∀ args w, ovL l g args w = none
  | [], h => oW_none (beq_no h)
  | x :: l, h => by
    simp only [keyB, Bool.or_eq_false_iff] at h
    exact ovP_none (beq_no h.1) (chN h.2)
theorem chH {g : Nat} {F : PureF} : ∀ {l : List (Nat × PureF)}, lookF g l = some F → HasP (ovL l) g F
  | [], h => by cases h
  | x :: l, h => by
    simp only [lookF] at h
    cases hb : Nat.beq g x.1 with
    | true =>
      rw [hb] at h
      cases h
      have e := Nat.eq_of_beq_eq_true hb
      subst e
      exact .here
    | false =>
      rw [hb] at h
      exact HasP.skip (beq_no hb) (chH h)
def memB (g : Nat) : List (Nat × PureF) → Bool
  | [] => false
  | x :: l => Nat.beq g x.1 || memB g l
theorem chW : ∀ {l : List (Nat × PureF)}, memB 19 l = false → HasW (ovL l)
  | [], _ => oW_has
  | x :: l, h => by
    simp only [memB, Bool.or_eq_false_iff] at h
    exact HasW.skip (beq_no h.1) (chW h.2)
noncomputable def cl57 : List (Nat × PureF) := (57, S32.F) :: []
noncomputable def o57 : Ov := ovL cl57
theorem ok57 : OvOk Try.prog (ovP 57 S32.F (ovL [])) := S32.ok no_count mixed okW' fun args w v hl h => by
  obtain ⟨n, a, b, rfl, rfl⟩ := h
  obtain ⟨v', w', hc, e⟩ := run57 (ov := (ovL [])) (chN rfl) n a b w
  exact ⟨rfl, 2, v', w', _, hc, e⟩
noncomputable def cl82 : List (Nat × PureF) := (82, S82.F) :: cl57
noncomputable def o82 : Ov := ovL cl82
theorem ok82 : OvOk Try.prog (ovP 82 S82.F o57) := S82.ok no_count mixed ok57 fun args w v hl h => by
  obtain ⟨c, rfl, rfl⟩ := h
  obtain ⟨v', w', hc, e⟩ := run82 (ov := o57) (chN rfl) c w
  exact ⟨rfl, 2, v', w', _, hc, e⟩
noncomputable def cl83 : List (Nat × PureF) := (83, S83.F) :: cl82
noncomputable def o83 : Ov := ovL cl83
theorem ok83 : OvOk Try.prog (ovP 83 S83.F o82) := S83.ok no_count mixed ok82 fun args w v hl h => by
  obtain ⟨c, rfl, rfl⟩ := h
  obtain ⟨v', w', hc, e⟩ := run83 (ov := o82) (chN rfl) c w
  exact ⟨rfl, 2, v', w', _, hc, e⟩
noncomputable def cl75 : List (Nat × PureF) := (75, S75.F) :: cl83
noncomputable def o75 : Ov := ovL cl75
theorem ok75 : OvOk Try.prog (ovP 75 S75.F o83) := S75.ok no_count mixed ok83 fun args w v hl h => by
  obtain ⟨s, rfl, rfl⟩ := h
  obtain ⟨v', w', hc, e⟩ := run75 (ov := o83) (chN rfl) (chH rfl) (chH rfl) s w
  exact ⟨rfl, 2, v', w', _, hc, e⟩
noncomputable def cl65 : List (Nat × PureF) := (65, S65.F) :: cl75
noncomputable def o65 : Ov := ovL cl65
theorem ok65 : OvOk Try.prog (ovP 65 S65.F o75) := S65.ok no_count mixed ok75 fun args w v hl h => by
  obtain ⟨pv, ps, rfl, hv, rfl⟩ := h
  obtain ⟨v', w', hc, e⟩ := run65 (ov := o75) (chN rfl) (chH rfl) (chH rfl) pv ps w hl hv
  exact ⟨rfl, 2, v', w', _, hc, e⟩
noncomputable def cl54 : List (Nat × PureF) := (54, S54.F) :: cl65
noncomputable def o54 : Ov := ovL cl54
theorem ok54 : OvOk Try.prog (ovP 54 S54.F o65) := S54.ok no_count mixed ok65 fun args w v hl h => by
  obtain ⟨pv, dv, ps, i, rfl, hv, hn, rfl⟩ := h
  obtain ⟨v', w', hc, e⟩ := run54 (ov := o65) (chN rfl) (chH rfl) pv dv ps i w hl hv hn
  exact ⟨rfl, 2, v', w', _, hc, e⟩
noncomputable def cl76 : List (Nat × PureF) := (76, S76.F) :: cl54
noncomputable def o76 : Ov := ovL cl76
theorem ok76 : OvOk Try.prog (ovP 76 S76.F o54) := S76.ok no_count mixed ok54 fun args w v hl h => by
  obtain ⟨d, rfl, rfl⟩ := h
  obtain ⟨v', w', hc, e⟩ := run76 (ov := o54) (chN rfl) d w hl
  exact ⟨rfl, 2, v', w', _, hc, e⟩
noncomputable def cl66 : List (Nat × PureF) := (66, S66.F) :: cl76
noncomputable def o66 : Ov := ovL cl66
theorem ok66 : OvOk Try.prog (ovP 66 S66.F o76) := S66.ok no_count mixed ok76 fun args w v hl h => by
  obtain ⟨pv, dv, ps, ds, rfl, hL, hn, rfl⟩ := h
  obtain ⟨v', w', hc, e⟩ := run66 (ov := o76) (chN rfl) (chH rfl) (chH rfl) (chH rfl) pv dv ps ds w hl hL hn
  exact ⟨rfl, 2, v', w', _, hc, e⟩
noncomputable def cl47 : List (Nat × PureF) := (47, S47.F) :: cl66
noncomputable def o47 : Ov := ovL cl47
theorem ok47 : OvOk Try.prog (ovP 47 S47.F o66) := S47.ok no_count mixed ok66 fun args w v hl h => by
  obtain ⟨pv, dv, ps, ds, rfl, hL, rfl⟩ := h
  obtain ⟨v', w', hc, e⟩ := run47 (ov := o66) (chN rfl) (chH rfl) (chH rfl) pv dv ps ds w hl hL
  exact ⟨rfl, 2, v', w', _, hc, e⟩
noncomputable def cl17 : List (Nat × PureF) := (17, S17.F) :: cl47
noncomputable def o17 : Ov := ovL cl17
theorem ok17 : OvOk Try.prog (ovP 17 S17.F o47) := S17.ok no_count mixed ok47 fun args w v hl h => by
  obtain ⟨pv, dv, ps, ds, rfl, hL, rfl⟩ := h
  obtain ⟨v', w', hc, e⟩ := run17 (ov := o47) (chN rfl) (chH rfl) pv dv ps ds w hl hL
  exact ⟨rfl, 2, v', w', _, hc, e⟩
noncomputable def cl32 : List (Nat × PureF) := (32, S32.F) :: cl17
noncomputable def o32 : Ov := ovL cl32
theorem ok32 : OvOk Try.prog (ovP 32 S32.F o17) := S32.ok no_count mixed ok17 fun args w v hl h => by
  obtain ⟨n, a, b, rfl, rfl⟩ := h
  obtain ⟨v', w', hc, e⟩ := run32 (ov := o17) (chN rfl) n a b w
  exact ⟨rfl, 2, v', w', _, hc, e⟩
noncomputable def cl30 : List (Nat × PureF) := (30, S30.F) :: cl32
noncomputable def o30 : Ov := ovL cl30
theorem ok30 : OvOk Try.prog (ovP 30 S30.F o32) := S30.ok no_count mixed ok32 fun args w v hl h => by
  obtain ⟨pv, dv, ps, ds, rfl, hL, rfl⟩ := h
  obtain ⟨v', w', hc, e⟩ := run30 (ov := o32) (chN rfl) (chH rfl) (chH rfl) pv dv ps ds w hl hL
  exact ⟨rfl, 2, v', w', _, hc, e⟩
noncomputable def cl33 : List (Nat × PureF) := (33, S33.F) :: cl30
noncomputable def o33 : Ov := ovL cl33
theorem ok33 : OvOk Try.prog (ovP 33 S33.F o30) := S33.ok no_count mixed ok30 fun args w v hl h => by
  obtain ⟨n, s, rfl, hs, rfl⟩ := h
  obtain ⟨v', w', hc, e⟩ := run33 (ov := o30) (chN rfl) n s hs w
  exact ⟨rfl, 2, v', w', _, hc, e⟩
noncomputable def cl62 : List (Nat × PureF) := (62, S62.F) :: cl33
noncomputable def o62 : Ov := ovL cl62
theorem ok62 : OvOk Try.prog (ovP 62 S62.F o33) := S62.ok no_count mixed ok33 fun args w v hl h => by
  obtain ⟨a, U, rfl, hv, hs, rfl⟩ := h
  obtain ⟨v', w', hc, e⟩ := run62 (ov := o33) (chN rfl) U hs a w hv
  exact ⟨rfl, 2, v', w', _, hc, e⟩
noncomputable def cl63 : List (Nat × PureF) := (63, S63.F) :: cl62
noncomputable def o63 : Ov := ovL cl63
theorem ok63 : OvOk Try.prog (ovP 63 S63.F o62) := S63.ok no_count mixed ok62 fun args w v hl h => by
  obtain ⟨pv, dv, o, x, d, rfl, hf, hc, hx, hO, rfl⟩ := h
  obtain ⟨v', w', hc, e⟩ := run63 (ov := o62) (chN rfl) pv dv o x d w hl hf hc hx hO
  exact ⟨rfl, 2, v', w', _, hc, e⟩
noncomputable def cl44 : List (Nat × PureF) := (44, S44.F) :: cl63
noncomputable def o44 : Ov := ovL cl44
theorem ok44 : OvOk Try.prog (ovP 44 S44.F o63) := S44.ok no_count mixed ok63 fun args w v hl h => by
  obtain ⟨pv, dv, ps, ds, x, rfl, hL, hk, hx, rfl⟩ := h
  obtain ⟨v', w', hc, e⟩ := run44 (ov := o63) (chN rfl) (chH rfl) pv dv ps ds x w hl hL hk hx
  exact ⟨rfl, 2, v', w', _, hc, e⟩
noncomputable def cl41 : List (Nat × PureF) := (41, S41.F) :: cl44
noncomputable def o41 : Ov := ovL cl41
theorem ok41 : OvOk Try.prog (ovP 41 S41.F o44) := S41.ok no_count mixed ok44 fun args w v hl h => by
  obtain ⟨pv, dv, lv, ps, ds, L, rfl, hL, hk, hr, rfl⟩ := h
  obtain ⟨v', w', hc, e⟩ := run41 (ov := o44) (chN rfl) (chH rfl) pv dv lv ps ds L w hl hL hk hr
  exact ⟨rfl, 2, v', w', _, hc, e⟩
theorem top_true (pv dv : Value) (ps : List Pt) (ds : List Dt) (lv : Value) (L : List Int) (q0 q1 : Int) (w : AW) (hl : w.lim = w.next) (hL : LedV w pv dv ps ds) (hr : RowsV intC w lv L) :
    ∃ w' x', (run Try.prog o41 6).call 7 [.agg ⟨[pv, dv]⟩, lv, .agg ⟨[.int .i64 q0, .int .i64 q1]⟩] w .none = .ok (.ret (.bool true)) w' x' := by
  obtain ⟨v, w', hc, rfl⟩ := call7 (ov := o41) 1 (chN rfl) (chN rfl) (chN rfl) (chN rfl) (chN rfl) (chN rfl) (chN rfl) (chN rfl) (chN rfl) (chN rfl) (chW rfl) (chH rfl) (chH rfl) (chH rfl) (chH rfl) (chH rfl) (chH rfl) (chH rfl) (chH rfl) pv dv lv ps ds L q0 q1 w (Nat.le_of_eq hl) hL hr
  exact ⟨w', _, hc⟩
theorem u3 : Try.prog.underlying 3 = some (.int .i64) := by kernel_rfl
theorem u9 : Try.prog.underlying 9 = some .string := by kernel_rfl
theorem u22 : Try.prog.underlying 22 = some (.slice 49) := by kernel_rfl
theorem u23 : Try.prog.underlying 23 = some (.slice 46) := by kernel_rfl
theorem u26 : Try.prog.underlying 26 = some (.slice 3) := by kernel_rfl
theorem u25 : Try.prog.underlying 25 = some (.struct (fieldsOf Try.prog 25)) := by kernel_rfl
theorem u46 : Try.prog.underlying 46 = some (.struct (fieldsOf Try.prog 46)) := by kernel_rfl
theorem u49 : Try.prog.underlying 49 = some (.struct (fieldsOf Try.prog 49)) := by kernel_rfl
theorem f25 : (fieldsOf Try.prog 25).toList.map (fun f => (f.type, f.offset)) = [(22, 0), (23, 1)] := by kernel_rfl
theorem f46 : (fieldsOf Try.prog 46).toList.map (fun f => (f.type, f.offset)) = [(3, 0), (3, 1), (3, 2)] := by kernel_rfl
theorem f49 : (fieldsOf Try.prog 49).toList.map (fun f => (f.type, f.offset)) = [(9, 0), (3, 1)] := by kernel_rfl
theorem c3 : Try.prog.cellsOf 3 = 1 := by kernel_rfl
theorem c9 : Try.prog.cellsOf 9 = 1 := by kernel_rfl
theorem c22 : Try.prog.cellsOf 22 = 1 := by kernel_rfl
theorem c23 : Try.prog.cellsOf 23 = 1 := by kernel_rfl
theorem c25 : Try.prog.cellsOf 25 = 2 := by kernel_rfl
theorem c46 : Try.prog.cellsOf 46 = 3 := by kernel_rfl
theorem c49 : Try.prog.cellsOf 49 = 2 := by kernel_rfl
theorem pt_of {H : T AObj} {n : Nat} {cs : List Value} (h : WT Try.prog H n 49 cs) : ∃ p, cs = ptC p := by
  obtain ⟨hl, hf⟩ := h.toStruct u49
  rw [f49] at hf
  rw [c49] at hl
  obtain ⟨a, ha, _⟩ := (hf (9, 0) (by simp)).toStr u9
  obtain ⟨b, hb, _⟩ := (hf (3, 1) (by simp)).toInt u3
  rw [c9] at ha
  rw [c3] at hb
  match cs, hl with
  | [x, y], _ =>
    simp at ha hb
    exact ⟨⟨a, b⟩, by rw [ha, hb]; rfl⟩
theorem dt_of {H : T AObj} {n : Nat} {cs : List Value} (h : WT Try.prog H n 46 cs) : ∃ d, cs = dtC d := by
  obtain ⟨hl, hf⟩ := h.toStruct u46
  rw [f46] at hf
  rw [c46] at hl
  obtain ⟨a, ha, _⟩ := (hf (3, 0) (by simp)).toInt u3
  obtain ⟨b, hb, _⟩ := (hf (3, 1) (by simp)).toInt u3
  obtain ⟨c, hc, _⟩ := (hf (3, 2) (by simp)).toInt u3
  rw [c3] at ha hb hc
  match cs, hl with
  | [x, y, z], _ =>
    simp at ha hb hc
    exact ⟨⟨a, b, c⟩, by rw [ha, hb, hc]; rfl⟩
theorem rows_ofW {α : Type} {f : α → List Value} {m : Nat} {H : T AObj} {n lim : Nat} {t e : TypeId} {cs : List Value} (hu : Try.prog.underlying t = some (.slice e)) (hc : Try.prog.cellsOf e = m) (hf : ∀ a, (f a).length = m) (hone : ∀ cs, WT Try.prog H n e cs → ∃ a, cs = f a) (h : WT Try.prog H n t cs) :
    ∃ v l, cs = [v] ∧ RowsV f ⟨H, n, lim⟩ v l ∧ CapN v := by
  obtain ⟨v, l, hv, hr⟩ := rows_of_WT (lim := lim) hu hc hf hone h
  refine ⟨v, l, hv, hr, ?_⟩
  rcases WT.toSlice hu h with ⟨a, ha⟩ | ⟨b, k, c, ty, ro, ha, _⟩
  · rw [hv] at ha; cases ha; exact ⟨a, 0, 0, rfl, Nat.le_refl _⟩
  · rw [hv] at ha; cases ha; exact ⟨_, k, k, rfl, Nat.le_refl _⟩
theorem led_arg {A : AW} {m : Value} (h : ArgT Try.prog A.heap A.next 25 m) : ∃ pv dv ps ds, m = .agg ⟨[pv, dv]⟩ ∧ LedV A pv dv ps ds := by
  unfold ArgT at h
  rw [u25] at h
  obtain ⟨c, rfl, h⟩ := h
  obtain ⟨hl, hf⟩ := h.toStruct u25
  rw [f25] at hf
  rw [c25] at hl
  obtain ⟨pv, ps, h5, hW, hC⟩ := rows_ofW (lim := A.lim) u22 c49 ptC_length (fun cs h => pt_of h) (hf (22, 0) (by simp))
  obtain ⟨dv, ds, h6, hN, hD⟩ := rows_ofW (lim := A.lim) u23 c46 dtC_length (fun cs h => dt_of h) (hf (23, 1) (by simp))
  rw [c22] at h5
  rw [c23] at h6
  match c, hl with
  | [x0, x1], _ =>
    simp at h5 h6
    exact ⟨pv, dv, ps, ds, by rw [h5, h6], hW, hN, hC, hD⟩
theorem ints_arg {A : AW} {m : Value} (h : ArgT Try.prog A.heap A.next 26 m) : ∃ l, RowsV intC A m l := by
  unfold ArgT at h
  rw [u26] at h
  obtain ⟨v, l, hv, hr, _⟩ := rows_ofW (lim := A.lim) u26 c3 intC_length (fun cs h => by
    obtain ⟨z, hz, _⟩ := h.toInt u3
    exact ⟨z, hz⟩) h
  cases hv
  exact ⟨l, hr⟩
theorem b3 : Try.prog.bytesOf 3 = 8 := by kernel_rfl
theorem u43 : Try.prog.underlying 43 = some (.array 2 3) := by kernel_rfl
theorem c43 : Try.prog.cellsOf 43 = 2 := by kernel_rfl
theorem two_arg {A : AW} {m : Value} (h : ArgT Try.prog A.heap A.next 43 m) : ∃ a b, m = .agg ⟨[.int .i64 a, .int .i64 b]⟩ := by
  unfold ArgT at h
  rw [u43] at h
  obtain ⟨c, rfl, h⟩ := h
  obtain ⟨hl, hf⟩ := h.toArray u43
  rw [c43] at hl
  obtain ⟨a, ha, _⟩ := (hf 0 (by decide)).toInt u3
  obtain ⟨b, hb, _⟩ := (hf 1 (by decide)).toInt u3
  rw [c3] at ha hb
  match c, hl with
  | [x0, x1], _ =>
    simp at ha hb
    exact ⟨a, b, by rw [ha, hb]⟩
theorem ty25 : tyOk Try.prog 6 25 = true := by kernel_rfl
theorem ty26 : tyOk Try.prog 6 26 = true := by kernel_rfl
theorem ty43 : tyOk Try.prog 6 43 = true := by kernel_rfl
theorem start_true (A : AW) (ms : List Value) (hl : A.lim = A.next) (hG : Try.prog.globals.size ≤ A.next) (hs : ∀ b, b < Try.prog.globals.size → A.heap.get b = (startH []).get b) (hms : ArgsT Try.prog A.heap A.next [25, 26, 43] ms) (hz : ∀ (j : Nat) t e a k c, [25, 26, 43][j]? = some t → Try.prog.underlying t = some (.slice e) → ms[j]? = some (.slice a k c) → k * Try.prog.bytesOf e ≤ reachBytes) :
    ∃ A' x', (run Try.prog o41 6).call 7 ms A .none = .ok (.ret (.bool true)) A' x' := by
  match ms, hms, hz with
  | [m1, m2, m3], hm, hz =>
    obtain ⟨pv, dv, ps, ds, rfl, hL⟩ := led_arg hm.1
    obtain ⟨L, h4⟩ := ints_arg hm.2.1
    obtain ⟨q0, q1, rfl⟩ := two_arg hm.2.2.1
    exact top_true pv dv ps ds m2 L q0 q1 A hl hL h4
end Go.Proofs.Ythfidomphkednaa.walk
