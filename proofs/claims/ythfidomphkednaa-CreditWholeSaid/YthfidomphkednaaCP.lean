/- Part of a proof by a machine of ones own: see the text with the theorem. -/
import Derived.Test.YthfidomphkednaaShF
set_option linter.unusedVariables false
namespace Go.Sh
open Go
variable {P : Program}
/-! functions that leave memory as it was, said by a relation -/
structure PSpec where
  R : List Value → AW → Value → Prop
  uniq : ∀ {args w v v'}, R args w v → R args w v' → v = v'
  shut : ∀ {args w v}, R args w v → R args (shutA w) v
open Classical in
noncomputable def PSpec.F (S : PSpec) : PureF := fun args w => if h : ∃ v, S.R args w v then some h.choose else none
theorem PSpec.F_eq (S : PSpec) {args : List Value} {w : AW} {v : Value} (h : S.R args w v) : S.F args w = some v := by
  have hx : ∃ v, S.R args w v := ⟨v, h⟩
  unfold PSpec.F
  rw [dif_pos hx]
  exact congrArg some (S.uniq hx.choose_spec h)
theorem PSpec.of_F (S : PSpec) {args : List Value} {w : AW} {v : Value} (h : S.F args w = some v) : S.R args w v := by
  unfold PSpec.F at h
  by_cases hx : ∃ v, S.R args w v
  · rw [dif_pos hx] at h
    cases h
    exact hx.choose_spec
  · rw [dif_neg hx] at h; cases h
theorem PSpec.call (S : PSpec) {ov : Ov} {f : FuncId} (k : HasP ov f S.F) {m : Nat} {args : List Value} {w : AW} {v : Value} (h : S.R args w v) : (run P ov (m + 1)).call f args w .none = .ok (.ret v) w .none := k.call (S.F_eq h)
theorem PSpec.call1 (S : PSpec) {ov : Ov} {f : FuncId} (k : HasP ov f S.F) {args : List Value} {w : AW} {v : Value} (h : S.R args w v) : (run P ov 1).call f args w .none = .ok (.ret v) w .none := k.call (m := 0) (S.F_eq h)
theorem PSpec.ok (S : PSpec) (hP : NoCount P) (hm : P.follows .mixedOrders = true) {rest : Ov} (hO : OvOk P rest) {f : FuncId}
    (fact : ∀ args w v, w.lim = w.next → S.R args w v → groundC 3 v = true ∧ ∃ m v' w' x', (run P rest m).call f args w .none = .ok (.ret v') w' x' ∧ v' = v) : OvOk P (ovP f S.F rest) :=
  pure_ok hP hm hO (fun args w v h => S.F_eq (S.shut (S.of_F h))) fun args w v hl h => by
    obtain ⟨h1, m, v', w', x', h2, rfl⟩ := fact args w v hl (S.of_F h)
    exact ⟨h1, m, w', x', h2⟩
/-- memory has grown -/
structure Up (we w : AW) : Prop where
  old : Old we.next we.heap w.heap
  next : we.next ≤ w.next
  lim : w.lim = we.lim
theorem Up.refl (w : AW) : Up w w := ⟨Old.refl _ _, Nat.le_refl _, rfl⟩
theorem Up.trans {a b c : AW} (h : Up a b) (k : Up b c) : Up a c := ⟨h.old.trans k.old h.next, Nat.le_trans h.next k.next, k.lim.trans h.lim⟩
theorem Up.put {we : AW} {H : T AObj} {n n' l k : Nat} {o : Option AObj} (h : Up we ⟨H, n, l⟩) (hk : we.next ≤ k) (hn : n ≤ n') : Up we ⟨H.put k o, n', l⟩ := ⟨h.old.put hk, Nat.le_trans h.next hn, h.lim⟩
theorem Up.add {we w : AW} (h : Up we w) (o : Option AObj) : Up we ⟨w.heap.put w.next o, w.next + 1, w.lim⟩ := ⟨h.old.put h.next, Nat.le_trans h.next (Nat.le_succ _), h.lim⟩
theorem Up.at {we w : AW} (h : Up we w) {b : Nat} (hb : b < we.next) : w.heap.get b = we.heap.get b := h.old b hb
theorem RowsV.up {α : Type} {f : α → List Value} {we w : AW} {v : Value} {l : List α} (h : RowsV f we v l) (k : Up we w) : RowsV f w v l := h.old k.old k.next
/-! bits -/
def anV (a b : Int) : Int := wrapA .i64 (BitVec.ofInt IntKind.i64.bits a &&& BitVec.ofInt IntKind.i64.bits b).toNat
variable {w : AW}
@[simp] theorem bin_and (s : TypeId) (c : Bool) (a b : Int) : (binW P .and s c).val (.int .i64 a) (.int .i64 b) w = .val (.int .i64 (anV a b)) w := by
  show vR w (arithA andA (.int .i64 a) (.int .i64 b)) = _
  simp [arithA, andA, sameK_refl, vR, anV]
end Go.Sh
