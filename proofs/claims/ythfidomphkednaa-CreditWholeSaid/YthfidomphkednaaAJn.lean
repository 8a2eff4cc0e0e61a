/- Part of a proof by a machine of ones own: see the text with the theorem. -/
import Derived.Test.YthfidomphkednaaAWg
import Derived.Test.YthfidomphkednaaAF1
import Derived.Test.YthfidomphkednaaShF
import Derived.Test.YthfidomphkednaaRows
import Derived.WalkKit
import Derived.ProofKit
import Derived.OpenShut
import Derived.Deep.DeepHandedRow
import Derived.Deep.DeepWitnessRowRef
namespace Go.Proofs.Ythfidomphkednaa.walk
open Go Go.Sh Go.ChangeShapes Go.WideShapes Go.ChangeAt Go.RowKit
set_option maxRecDepth 100000
set_option linter.unusedVariables false
theorem mixed : Try.prog.follows .mixedOrders = true := by kernel_rfl
theorem globals0 : Try.prog.globals.size = 0 := by kernel_rfl
theorem no_count : NoCount Try.prog := NoCount.of (by kernel_rfl)
noncomputable def oW : Ov := knownOv
theorem okW' : OvOk Try.prog oW := memo_ok no_count mixed ov_none works_true (by kernel_rfl) (by kernel_rfl) (by rw [globals0]; exact Nat.le_refl _) (by kernel_rfl) ov_none
theorem oW_none {f : Nat} (hf : f ≠ 19) (args : List Value) (w : AW) : oW f args w = none := by
  have : Nat.beq f 19 = false := by rw [← Bool.not_eq_true]; intro h; exact hf (Nat.eq_of_beq_eq_true h)
  simp [oW, knownOv, memoOv, this, noOv]
theorem oW_has : HasW oW := fun w => by
  simp [oW, knownOv, memoOv, hasAll, sameL5, sameVal.sameVals]
theorem HasW.skip {f : Nat} {F : PureF} {rest : Ov} (hf : 19 ≠ f) (h : HasW rest) : HasW (ovP f F rest) := fun w => by simp [ovP, hf, h w]
theorem ovP_none {f g : Nat} {F : PureF} {rest : Ov} (hne : g ≠ f) (h : ∀ args w, rest g args w = none) (args : List Value) (w : AW) : ovP f F rest g args w = none := by simp [ovP, hne, h]
noncomputable def ovL : List (Nat × PureF) → Ov
  | [] => oW
  | x :: l => ovP x.1 x.2 (ovL l)
def keyB (g : Nat) : List (Nat × PureF) → Bool
  | [] => Nat.beq g 19
  | x :: l => Nat.beq g x.1 || keyB g l
def lookF (g : Nat) : List (Nat × PureF) → Option PureF
  | [] => none
  | x :: l => bif Nat.beq g x.1 then some x.2 else lookF g l
theorem beq_no {a b : Nat} (h : Nat.beq a b = false) : a ≠ b := fun e => by rw [e, Nat.beq_refl] at h; cases h
theorem chN {g : Nat} : ∀ {l : List (Nat × PureF)}, keyB g l = false → ∀ args w, ovL l g args w = none
  | [], h => oW_none (beq_no h)
  | x :: l, h => by
    simp only [keyB, Bool.or_eq_false_iff] at h
    exact ovP_none (beq_no h.1) (chN h.2)
theorem chH {g : Nat} {F : PureF} : ∀ {l : List (Nat × PureF)}, lookF g l = some F → HasP (ovL l) g F
  | [], h => by cases h
  | x :: l, h => by
    simp only [lookF] at h
    cases hb : Nat.beq g x.1 with
    | true =>
      rw [hb] at h
      cases h
      have e := Nat.eq_of_beq_eq_true hb
      subst e
      exact .here
    | false =>
      rw [hb] at h
      exact HasP.skip (beq_no hb) (chH h)
def memB (g : Nat) : List (Nat × PureF) → Bool
  | [] => false
  | x :: l => Nat.beq g x.1 || memB g l
theorem chW : ∀ {l : List (Nat × PureF)}, memB 19 l = false → HasW (ovL l)
  | [], _ => oW_has
  | x :: l, h => by
    simp only [memB, Bool.or_eq_false_iff] at h
    exact HasW.skip (beq_no h.1) (chW h.2)
noncomputable def cl57 : List (Nat × PureF) := (57, S32.F) :: []
noncomputable def o57 : Ov := ovL cl57
theorem ok57 : OvOk Try.prog (ovP 57 S32.F (ovL [])) := S32.ok no_count mixed okW' fun args w v hl h => by
  obtain ⟨n, a, b, rfl, rfl⟩ := h
  obtain ⟨v', w', hc, e⟩ := run57 (ov := (ovL [])) (chN rfl) n a b w
  exact ⟨rfl, 2, v', w', _, hc, e⟩
noncomputable def cl32 : List (Nat × PureF) := (32, S32.F) :: cl57
noncomputable def o32 : Ov := ovL cl32
theorem ok32 : OvOk Try.prog (ovP 32 S32.F o57) := S32.ok no_count mixed ok57 fun args w v hl h => by
  obtain ⟨n, a, b, rfl, rfl⟩ := h
  obtain ⟨v', w', hc, e⟩ := run32 (ov := o57) (chN rfl) n a b w
  exact ⟨rfl, 2, v', w', _, hc, e⟩
noncomputable def cl38 : List (Nat × PureF) := (38, S62.F) :: cl32
noncomputable def o38 : Ov := ovL cl38
theorem ok38 : OvOk Try.prog (ovP 38 S62.F o32) := S62.ok no_count mixed ok32 fun args w v hl h => by
  obtain ⟨a, U, rfl, hv, hs, rfl⟩ := h
  obtain ⟨v', w', hc, e⟩ := run38 (ov := o32) (chN rfl) U hs a w hv
  exact ⟨rfl, 2, v', w', _, hc, e⟩
noncomputable def cl62 : List (Nat × PureF) := (62, S62.F) :: cl38
noncomputable def o62 : Ov := ovL cl62
theorem ok62 : OvOk Try.prog (ovP 62 S62.F o38) := S62.ok no_count mixed ok38 fun args w v hl h => by
  obtain ⟨a, U, rfl, hv, hs, rfl⟩ := h
  obtain ⟨v', w', hc, e⟩ := run62 (ov := o38) (chN rfl) U hs a w hv
  exact ⟨rfl, 2, v', w', _, hc, e⟩
noncomputable def cl58 : List (Nat × PureF) := (58, S58.F) :: cl62
noncomputable def o58 : Ov := ovL cl58
theorem ok58 : OvOk Try.prog (ovP 58 S58.F o62) := S58.ok no_count mixed ok62 fun args w v hl h => by
  obtain ⟨a, U, rfl, hv, hs, rfl⟩ := h
  obtain ⟨v', w', hc, e⟩ := run58 (ov := o62) (chN rfl) (chH rfl) (chH rfl) U hs a w hv
  exact ⟨rfl, 2, v', w', _, hc, e⟩
noncomputable def cl94 : List (Nat × PureF) := (94, S94.F) :: cl58
noncomputable def o94 : Ov := ovL cl94
theorem ok94 : OvOk Try.prog (ovP 94 S94.F o58) := S94.ok no_count mixed ok58 fun args w v hl h => by
  obtain ⟨n, rfl, rfl⟩ := h
  obtain ⟨v', w', hc, e⟩ := run94 (ov := o58) (chN rfl) n w
  exact ⟨rfl, 2, v', w', _, hc, e⟩
noncomputable def cl81 : List (Nat × PureF) := (81, S81.F) :: cl94
noncomputable def o81 : Ov := ovL cl81
theorem ok81 : OvOk Try.prog (ovP 81 S81.F o94) := S81.ok no_count mixed ok94 fun args w v hl h => by
  obtain ⟨n, k, rfl, rfl⟩ := h
  obtain ⟨v', w', hc, e⟩ := run81 (ov := o94) (chN rfl) (chH rfl) n k w
  exact ⟨rfl, 2, v', w', _, hc, e⟩
noncomputable def cl80 : List (Nat × PureF) := (80, S80.F) :: cl81
noncomputable def o80 : Ov := ovL cl80
theorem ok80 : OvOk Try.prog (ovP 80 S80.F o81) := S80.ok no_count mixed ok81 fun args w v hl h => by
  obtain ⟨a, x, y, rfl, hv, rfl⟩ := h
  obtain ⟨v', w', hc, e⟩ := run80 (ov := o81) (chN rfl) a x y w hv
  exact ⟨rfl, 2, v', w', _, hc, e⟩
noncomputable def cl73 : List (Nat × PureF) := (73, S73.F) :: cl80
noncomputable def o73 : Ov := ovL cl73
theorem ok73 : OvOk Try.prog (ovP 73 S73.F o80) := S73.ok no_count mixed ok80 fun args w v hl h => by
  obtain ⟨s, u, rfl, hs, hu, rfl⟩ := h
  obtain ⟨v', w', hc, e⟩ := run73 (ov := o80) (chN rfl) (chH rfl) (chH rfl) s u hs hu w hl
  exact ⟨rfl, 2, v', w', _, hc, e⟩
noncomputable def cl93 : List (Nat × PureF) := (93, S93.F) :: cl73
noncomputable def o93 : Ov := ovL cl93
theorem ok93 : OvOk Try.prog (ovP 93 S93.F o73) := S93.ok no_count mixed ok73 fun args w v hl h => by
  obtain ⟨n, rfl, hn, rfl⟩ := h
  obtain ⟨v', w', hc, e⟩ := run93 (ov := o73) (chN rfl) n hn w
  exact ⟨rfl, 2, v', w', _, hc, e⟩
noncomputable def cl79 : List (Nat × PureF) := (79, S93.F) :: cl93
noncomputable def o79 : Ov := ovL cl79
theorem ok79 : OvOk Try.prog (ovP 79 S93.F o93) := S93.ok no_count mixed ok93 fun args w v hl h => by
  obtain ⟨n, rfl, hn, rfl⟩ := h
  obtain ⟨v', w', hc, e⟩ := run79 (ov := o93) (chN rfl) (chH rfl) n hn w
  exact ⟨rfl, 2, v', w', _, hc, e⟩
theorem top_true (S : Int) (av : Value) (P : List Int) (hlen : P.length ≤ 2 ^ 60) (w : AW) (hl : w.lim = w.next) (hv : RowsV intC w av P) :
    ∃ w' x', (run Try.prog o79 7).call 12 [.int .i64 S, av] w .none = .ok (.ret (.bool true)) w' x' := by
  obtain ⟨v, w', hc, rfl⟩ := call12 (ov := o79) 0 (chN rfl) (chN rfl) (chN rfl) (chN rfl) (chN rfl) (chN rfl) (chW rfl) (chH rfl) (chH rfl) (chH rfl) (chH rfl) (chH rfl) (chH rfl) S av P hlen w (Nat.le_of_eq hl) hv
  exact ⟨w', _, hc⟩
theorem u3 : Try.prog.underlying 3 = some (.int .i64) := by kernel_rfl
theorem u26 : Try.prog.underlying 26 = some (.slice 3) := by kernel_rfl
theorem c3 : Try.prog.cellsOf 3 = 1 := by kernel_rfl
theorem rows_ofW {α : Type} {f : α → List Value} {m : Nat} {H : T AObj} {n lim : Nat} {t e : TypeId} {cs : List Value} (hu : Try.prog.underlying t = some (.slice e)) (hc : Try.prog.cellsOf e = m) (hf : ∀ a, (f a).length = m) (hone : ∀ cs, WT Try.prog H n e cs → ∃ a, cs = f a) (h : WT Try.prog H n t cs) :
    ∃ v l, cs = [v] ∧ RowsV f ⟨H, n, lim⟩ v l ∧ CapN v := by
  obtain ⟨v, l, hv, hr⟩ := rows_of_WT (lim := lim) hu hc hf hone h
  refine ⟨v, l, hv, hr, ?_⟩
  rcases WT.toSlice hu h with ⟨a, ha⟩ | ⟨b, k, c, ty, ro, ha, _⟩
  · rw [hv] at ha; cases ha; exact ⟨a, 0, 0, rfl, Nat.le_refl _⟩
  · rw [hv] at ha; cases ha; exact ⟨_, k, k, rfl, Nat.le_refl _⟩
theorem ints_arg {A : AW} {m : Value} (h : ArgT Try.prog A.heap A.next 26 m) : ∃ l, RowsV intC A m l := by
  unfold ArgT at h
  rw [u26] at h
  obtain ⟨v, l, hv, hr, _⟩ := rows_ofW (lim := A.lim) u26 c3 intC_length (fun cs h => by
    obtain ⟨z, hz, _⟩ := h.toInt u3
    exact ⟨z, hz⟩) h
  cases hv
  exact ⟨l, hr⟩
theorem int_arg {A : AW} {m : Value} (h : ArgT Try.prog A.heap A.next 3 m) : ∃ z, m = .int .i64 z ∧ (Lit.int .i64 z).wf = true := by
  unfold ArgT at h
  rw [u3] at h
  obtain ⟨z, hz, hw⟩ := h.toInt u3
  cases hz
  exact ⟨z, rfl, hw⟩
theorem b3 : Try.prog.bytesOf 3 = 8 := by kernel_rfl
theorem short_of {A : AW} {m : Value} {L : List Int} (h : RowsV intC A m L) (k : ∀ (a : Option Addr) (n c : Nat), m = .slice a n c → n * Try.prog.bytesOf 3 ≤ reachBytes) : L.length ≤ 2 ^ 60 := by
  obtain ⟨a, c, e⟩ := h.len
  have := k a _ c e
  rw [b3] at this
  unfold reachBytes at this
  omega
theorem ty3 : tyOk Try.prog 6 3 = true := by kernel_rfl
theorem ty26 : tyOk Try.prog 6 26 = true := by kernel_rfl
theorem start_true (A : AW) (ms : List Value) (hl : A.lim = A.next) (hG : Try.prog.globals.size ≤ A.next) (hs : ∀ b, b < Try.prog.globals.size → A.heap.get b = (startH []).get b) (hms : ArgsT Try.prog A.heap A.next [3, 26] ms) (hz : ∀ (j : Nat) t e a k c, [3, 26][j]? = some t → Try.prog.underlying t = some (.slice e) → ms[j]? = some (.slice a k c) → k * Try.prog.bytesOf e ≤ reachBytes) :
    ∃ A' x', (run Try.prog o79 7).call 12 ms A .none = .ok (.ret (.bool true)) A' x' := by
  match ms, hms, hz with
  | [m1, m2], hm, hz =>
    obtain ⟨s, rfl, _⟩ := int_arg hm.1
    obtain ⟨P, h4⟩ := ints_arg hm.2.1
    exact top_true s m2 P (short_of h4 fun a n c e => hz 1 26 3 a n c rfl u26 (by rw [e]; rfl)) A hl h4
end Go.Proofs.Ythfidomphkednaa.walk
