/- Part of a proof by a machine of ones own: see the text with the theorem. -/
import Derived.Test.YthfidomphkednaaAWa
import Derived.Test.YthfidomphkednaaShF
namespace Go.Proofs.Ythfidomphkednaa.walk
open Go Go.Sh
set_option maxRecDepth 100000
set_option linter.unusedSimpArgs false
set_option linter.unusedVariables false
/-! the debts of a party, one by one -/
structure In74 {σ : Type} (J : σ → AW → Prop) (M : Nat → Prop) (w0 : AW) (st : σ) (w : AW) : Prop where
  j : J st w
  keep : ∀ x, x < w0.next → ¬ M x → w.heap.get x = w0.heap.get x
  next : w0.next ≤ w.next
  lim : w.lim = w0.lim
theorem RowsV.keep {α : Type} {f : α → List Value} {we w : AW} {v : Value} {l : List α} (h : RowsV f we v l) (k : ∀ x, x < we.next → w.heap.get x = we.heap.get x) (hn : we.next ≤ w.next) : RowsV f w v l := h.old k hn
end Go.Proofs.Ythfidomphkednaa.walk

namespace Go.Proofs.Ythfidomphkednaa.walk
open Go Go.Sh
set_option maxRecDepth 100000
set_option linter.unusedSimpArgs false
set_option linter.unusedVariables false
/-! what each owes -/
theorem list26 : isList Try.prog 26 = true := by kernel_rfl
theorem elem26 : elemA Try.prog 26 = some 3 := by kernel_rfl
theorem small3 : smallT Try.prog 3 = true := by kernel_rfl
@[simp] theorem setPar_cons (p : Tmp) (ps : List Tmp) (a : Value) (l : List Value) (t : Tm) : setParams (p :: ps) (a :: l) t = setParams ps l (tset t p a) := rfl
@[simp] theorem setPar_nil (t : Tm) : setParams [] [] t = t := rfl
structure J40 (c5 L : Nat) (lp : ALoop) (st : List Int) (w : AW) : Prop where
  acc : ∃ sl B, w.heap.get c5 = some (.cells [sl] 26 false) ∧ AccQ intC 3 L w sl st B
  lo : w.heap.get L = some (.loop lp)
  ord : w.lim ≤ c5 ∧ c5 < L ∧ L < w.next
theorem J40.stay {c5 L : Nat} {lp : ALoop} (st : List Int) (w w' : AW) (h : J40 c5 L lp st w) (k : ∀ x, x < w.next → w'.heap.get x = w.heap.get x) (hn : w.next ≤ w'.next) (hl : w'.lim = w.lim) : J40 c5 L lp st w' := by
  obtain ⟨⟨sl, B, h1, h2⟩, h3, h4, h5, h6⟩ := h
  exact ⟨⟨sl, B, by rw [k _ (by omega)]; exact h1, h2.keep (fun _ _ hB => k B hB) hn⟩, by rw [k _ h6]; exact h3, by omega, h5, by omega⟩
end Go.Proofs.Ythfidomphkednaa.walk

namespace Go.Proofs.Ythfidomphkednaa.walk
open Go Go.Sh
set_option maxRecDepth 100000
set_option linter.unusedSimpArgs false
set_option linter.unusedVariables false
end Go.Proofs.Ythfidomphkednaa.walk

namespace Go.Proofs.Ythfidomphkednaa.walk
open Go Go.Sh
set_option maxRecDepth 100000
set_option linter.unusedSimpArgs false
set_option linter.unusedVariables false
/-- the first numbers of an array, as a list -/
def lsF (n : Nat) (x : Int → Int) : List Int := (List.range n).map fun (k : Nat) => x (k : Int)
@[simp] theorem lsF_len (n : Nat) (x : Int → Int) : (lsF n x).length = n := by simp [lsF]
theorem lsF_at (n : Nat) (x : Int → Int) {k : Nat} (h : k < n) : (lsF n x)[k]? = some (x (k : Int)) := by simp [lsF, h]
@[simp] theorem eqn26s (B n c : Nat) (w : AW) : (binW Try.prog .eql 26 true).val (.slice (some ⟨B, 0, some 1⟩) n c) (.slice none 0 0) w = .val (.bool false) w := by kernel_rfl
@[simp] theorem isC_tmp (n : Nat) : isConst (.tmp n) = false := rfl
@[simp] theorem isC_const (v : Value) : isConst (.const v) = true := rfl
/-! what is paid of each -/
end Go.Proofs.Ythfidomphkednaa.walk

namespace Go.Proofs.Ythfidomphkednaa.walk
open Go Go.Sh
set_option maxRecDepth 100000
set_option linter.unusedSimpArgs false
set_option linter.unusedVariables false
/-! Check -/
def okR (f : Nat → Bool) (i : Nat) : Prop := (List.range i).all f = true
theorem okR.zero (f : Nat → Bool) : okR f 0 := by simp [okR]
theorem okR.succ {f : Nat → Bool} {i : Nat} (h : okR f i) (k : f i = true) : okR f (i + 1) := by
  unfold okR at *
  rw [List.range_succ, List.all_append, h]; simp [k]
theorem okR.at {f : Nat → Bool} {n i : Nat} (h : (List.range n).all f = true) (hi : i < n) : f i = true := List.all_eq_true.1 h i (List.mem_range.2 hi)
@[simp] theorem lk96 (w : AW) (b : Nat) (k : ByteArray) : lookupA Try.prog w 96 (.map (some b)) (.string k) false = lookO w k (w.heap.get b) := lookup_str (e := 4) (by kernel_rfl) (by kernel_rfl) b k
@[simp] theorem up96 (w : AW) (b : Nat) (k : ByteArray) (x : Value) : mapUpdateA Try.prog w 96 (.map (some b)) (.string k) x = updO w b k x (w.heap.get b) := update_str (e := 4) (by kernel_rfl) b k x
end Go.Proofs.Ythfidomphkednaa.walk
