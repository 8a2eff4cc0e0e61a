/- Part of a proof by a machine of ones own: see the text with the theorem. -/
import Derived.Test.YtanpablcoimajaaDoorSh27
set_option linter.unusedVariables false
set_option linter.unusedSimpArgs false
namespace Go.Sh
open Go
variable {P : Program} {φ : Inj} {A : AW} {w : World}

/-! ## What reads -/
def Reads (A : AW) (y : R) : Prop := ∀ v A', y = .val v A' → A' = A
theorem Reads.val (A : AW) (v : Value) : Reads A (.val v A) := fun _ _ h => by cases h; rfl
theorem Reads.fail (A : AW) : Reads A .fail := fun _ _ h => by cases h
theorem Reads.vR (A : AW) (v : Option Value) : Reads A (vR A v) := by
  cases v with
  | none => exact .fail _
  | some v => exact .val _ _
theorem load_reads (A : AW) (t : TypeId) (a : Value) : Reads A (loadA P A t a) := by
  cases a with
  | pointer a => cases a with
    | none => exact .fail _
    | some a => exact .vR _ _
  | _ => exact .fail _
theorem lookR_reads (A : AW) (e : TypeId) (ok : Bool) (r : Option (Option (Nat × Value))) : Reads A (lookR P A e ok r) := by
  cases r with
  | none => exact .fail _
  | some r => cases r with
    | some p => exact .val _ _
    | none =>
      unfold lookR
      simp only
      cases zeroA P e with
      | none => exact .fail _
      | some z => exact .val _ _
theorem lookup_reads (A : AW) (t : TypeId) (m k : Value) (ok : Bool) : Reads A (lookupA P A t m k ok) := by
  unfold lookupA
  cases mapOf P t with
  | none => exact .fail _
  | some p =>
    simp only
    cases keyFits p.2 k
    · exact .fail _
    · exact lookR_reads A _ _ _
theorem cutR_reads (A : AW) (h l m : Nat) (a : Option Addr) : Reads A (cutR A h l m a) := by
  cases a with
  | none => exact .fail _
  | some a => exact .val _ _
theorem sliceStr_reads (A : AW) (l : List UInt8) (n : Nat) (lo hi : Option Value) : Reads A (sliceStr A l n lo hi) := by
  unfold sliceStr
  cases boundA hi n n with
  | none => exact .fail _
  | some h =>
    simp only
    cases boundA lo h 0 with
    | none => exact .fail _
    | some lo => exact .val _ _
theorem sliceRow_reads (A : AW) (e : TypeId) (a : Option Addr) (n cap size : Nat) (lo hi mx : Option Value) : Reads A (sliceRow A e a n cap size lo hi mx) := by
  unfold sliceRow
  cases boundA mx cap cap with
  | none => exact .fail _
  | some m =>
    simp only
    cases boundA hi m n with
    | none => exact .fail _
    | some h =>
      simp only
      cases boundA lo h 0 with
      | none => exact .fail _
      | some l => cases a with
        | none => exact .val _ _
        | some a => exact cutR_reads A _ _ _ _
theorem sliceArr_reads (A : AW) (a : Addr) (n size : Nat) (lo hi mx : Option Value) : Reads A (sliceArr A a n size lo hi mx) := by
  unfold sliceArr
  cases boundA mx n n with
  | none => exact .fail _
  | some m =>
    simp only
    cases boundA hi m n with
    | none => exact .fail _
    | some h =>
      simp only
      cases boundA lo h 0 with
      | none => exact .fail _
      | some l => exact .val _ _
theorem slice_reads (A : AW) (t : TypeId) (x : Value) (lo hi mx : Option Value) : Reads A (sliceA P A t x lo hi mx) := by
  unfold sliceA
  cases sliceB1 hi mx
  · exact .fail _
  · simp only [cond_true]
    cases x with
    | string s =>
      simp only
      cases P.underlying t with
      | none => exact .fail _
      | some d =>
        cases d <;> first | exact .fail _ | skip
        simp only
        cases mx.isNone
        · exact .fail _
        · exact sliceStr_reads A _ _ _ _
    | slice a n cap =>
      simp only
      cases elemA P t with
      | none => exact .fail _
      | some e =>
        simp only
        cases szOf P e with
        | none => exact .fail _
        | some size => exact sliceRow_reads A _ _ _ _ _ _ _ _
    | pointer a => cases a with
      | none => exact .fail _
      | some a =>
        simp only
        cases arrN P t with
        | none => exact .fail _
        | some p =>
          simp only
          cases szOf P p.2 with
          | none => exact .fail _
          | some size => exact sliceArr_reads A _ _ _ _ _ _
    | _ => exact .fail _
theorem len_reads (A : AW) (ts : List TypeId) (l : List Value) : Reads A (len1 P A ts l) := by
  cases ts with
  | nil => exact .fail _
  | cons t ts => cases l with
    | nil => exact .fail _
    | cons x l =>
      show Reads A (lenB P A t x)
      unfold lenB
      cases P.underlying t with
      | none => exact .fail _
      | some d =>
        cases d <;> first | exact .fail _ | exact .val _ _ | skip
        · simp only
          cases x <;> first | exact .val _ _ | exact .fail _
        · rename_i a
          simp only
          cases arrN P a with
          | none => exact .fail _
          | some p => exact .val _ _
        · simp only
          cases x <;> first | exact .val _ _ | exact .fail _
        · simp only
          cases x <;> first | exact .fail _ | skip
          rename_i r
          cases r with
          | none => exact .val _ _
          | some r =>
            simp only
            unfold lenOfMap
            split <;> first | exact .fail _ | exact .val _ _ | skip
theorem binE_reads (A : AW) {op : BinOp} (h : kindE op = 1) (ty : TypeId) (c : Bool) (x y : Value) : Reads A ((binW P op ty c).val x y A) := by
  cases op <;> first | (cases h; done) | exact .vR _ _
theorem read_op {o : Op} (h : kindOf P o = 1) (ty : TypeId) (t : Tm) (A : AW) : Reads A ((opS P ty o).val t A) := by
  cases o with
  | load ty a => exact load_reads A ty _
  | lookup ty x k ok => exact lookup_reads A ty _ _ ok
  | slice ty x lo hi mx => exact slice_reads A ty _ _ _ _
  | binOp op ty x y yt => exact binE_reads A h ty _ _ _
  | convert s d x =>
    unfold kindOf at h
    simp only at h
    split at h <;> cases h
  | call c =>
    obtain ⟨callee, args, ats⟩ := c
    cases callee with
    | builtin b =>
      cases b <;> first | (cases h; done) | skip
      · exact len_reads A _ _
    | _ => cases h
  | _ => cases h

/-! ## What lays a new block -/
/-- what it lays, and what it gives: wherever the block is known by -/
def NewOk (P : Program) (φ : Inj) (w : World) (o : AObj) (f : Nat → Value) (res : Result Next) : Prop :=
  ∃ oc n s v', OR P φ o oc n s 0 ∧ res = .ok (.value v') (w.alloc oc) ∧ ∀ (φ' : Inj) (b : Nat), φ' b = some (.at_ w.heap.size n s 0) → VR φ' (f b) v'
def NewR (y : AW → R) (o : AObj) (f : Nat → Value) : Prop := ∀ A : AW, y A = newR A o f
theorem newRow_ok {e : TypeId} {c : List Value} {cc : List Value} (hc : LR φ c cc) {f : Nat → Value} {v' : Value} {res : Result Next} (hr : res = .ok (.value v') (w.alloc (.cells ⟨cc⟩ e)))
    (hf : ∀ (φ' : Inj) (b : Nat), φ' b = some (.at_ w.heap.size cc.length ((szOf P e).getD 0) 0) → VR φ' (f b) v') : NewOk P φ w (.cells c e false) f res :=
  ⟨_, cc.length, (szOf P e).getD 0, v', ⟨_, _, _, rfl, ⟨rfl, rfl, rfl, by have := hc.length; simp; omega, by have := hc.length; simp [this]; exact hc, fun _ off _ => by simp, Nat.dvd_zero _⟩⟩, hr, hf⟩
theorem box_new (e : TypeId) {x x' : Value} (hx : VR φ x x') : NewOk P φ w (.cells (cellsOf x) e false) ptrV ((do pure (.value (← Instr.box e x') : Next) : Sem Next).run P w) :=
  newRow_ok (cells_LR hx) (v' := .pointer (some ⟨w.heap.size, 0, none⟩)) (run_v (by simp [Instr.box, newVar, run_newRow])) fun φ' b h => new_ptr h
theorem alloc_new {e : TypeId} {z : Value} (hz : zeroA P e = some z) : NewOk P φ w (.cells (cellsOf z) e false) ptrV ((do pure (.value (← Instr.alloc e true (.tuple #[])) : Next) : Sem Next).run P w) := by
  obtain ⟨i, _, _, h3, _⟩ := zeroA_some hz
  exact newRow_ok (cells_LR (h3 φ)) (v' := .pointer (some ⟨w.heap.size, 0, none⟩)) (run_v (by simp [Instr.alloc, newVar, run_newRow, run_zeroValue hz])) fun φ' b h => new_ptr h
theorem makeMap_new (t : TypeId) : NewOk P φ w (.map [] 0) mapV ((do pure (.value (← Instr.makeMap t none) : Next) : Sem Next).run P w) :=
  ⟨.map #[] 0, 0, 0, .map (some w.heap.size), ⟨[], rfl, .nil⟩, run_v (by simp [Instr.makeMap]), fun φ' b h => .map (.inr ⟨0, 0, 0, h⟩)⟩
end Go.Sh
