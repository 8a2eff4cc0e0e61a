/- Part of a proof by a machine of ones own: see the text with the theorem. -/
import Derived.Test.YthfidomphkednaaAWc
namespace Go.Proofs.Ythfidomphkednaa.walk
open Go Go.Sh
set_option maxRecDepth 100000
set_option linter.unusedSimpArgs false
set_option linter.unusedVariables false
/-! the law's own small functions -/
/-! rows that are made and written into -/
def lsC (n : Nat) (x : Int → Int) : List Value := (List.range n).map fun (k : Nat) => .int .i64 (x (k : Int))
theorem lsC_flat (n : Nat) (x : Int → Int) : (lsF n x).flatMap intC = lsC n x := by
  unfold lsF lsC intC
  rw [List.flatMap_def, List.map_map]
  induction (List.range n) with
  | nil => rfl
  | cons a l ih => simp [ih]
@[simp] theorem lsC_len (n : Nat) (x : Int → Int) : (lsC n x).length = n := by simp [lsC]
theorem lsC_get (n : Nat) (x : Int → Int) {k : Nat} (h : k < n) : (lsC n x)[k]? = some (.int .i64 (x (k : Int))) := by simp [lsC, h]
@[simp] theorem lsC_getE (n : Nat) (x : Int → Int) {k : Nat} (h : k < (lsC n x).length) : (lsC n x)[k] = .int .i64 (x (k : Int)) := by simp [lsC]
theorem lsC_set (n : Nat) (x : Int → Int) (v : Int) {k : Nat} (h : k < n) : (lsC n x).take k ++ (.int .i64 v :: (lsC n x).drop (k + 1)) = lsC n (updF x (k : Int) v) := by
  apply List.ext_getElem?
  intro j
  have hl := lsC_len n x
  by_cases h1 : j < k
  · rw [List.getElem?_append_left (by rw [List.length_take]; omega), List.getElem?_take_of_lt h1, lsC_get n x (by omega), lsC_get _ _ (by omega)]
    simp [updF, show ¬ (j : Int) = (k : Int) by omega]
  · rw [List.getElem?_append_right (by rw [List.length_take]; omega)]
    have e1 : ((lsC n x).take k).length = k := by rw [List.length_take]; omega
    rw [e1]
    by_cases h2 : j = k
    · subst h2
      rw [Nat.sub_self, List.getElem?_cons_zero, lsC_get _ _ h]
      simp [updF]
    · obtain ⟨e, rfl⟩ : ∃ e, j = k + 1 + e := ⟨j - (k + 1), by omega⟩
      rw [show k + 1 + e - k = e + 1 by omega, List.getElem?_cons_succ, List.getElem?_drop]
      by_cases h3 : k + 1 + e < n
      · rw [lsC_get n x h3, lsC_get _ _ h3]
        simp [updF, show ¬ ((k + 1 + e : Nat) : Int) = (k : Int) by omega]
        try (intro h; omega)
      · rw [List.getElem?_eq_none (by omega), List.getElem?_eq_none (by rw [lsC_len]; omega)]
theorem rows_ls {w : AW} {B n : Nat} {x : Int → Int} (h : w.heap.get B = some (.cells (lsC n x) 3 false)) (hb : B < w.next) (c : Nat) : RowsV intC w (.slice (some ⟨B, 0, none⟩) n c) (lsF n x) :=
  .inr ⟨B, 0, none, c, by rw [lsF_len], ⟨[], [], 3, false, by rw [h, List.nil_append, List.append_nil, lsC_flat], rfl⟩, hb⟩
theorem st_ls {w : AW} {B n : Nat} {x : Int → Int} {v : Int} {k : Nat} (hk : k < n) (hl : w.lim ≤ B) : wrO w B k [.int .i64 v] (some (.cells (lsC n x) 3 false)) = some ⟨w.heap.put B (some (.cells (lsC n (updF x (k : Int) v)) 3 false)), w.next, w.lim⟩ := by
  rw [wrO_cells (by simp) hl (by simp; omega), ← lsC_set n x v hk]
  rfl
end Go.Proofs.Ythfidomphkednaa.walk

namespace Go.Proofs.Ythfidomphkednaa.walk
open Go Go.Sh
set_option maxRecDepth 100000
set_option linter.unusedSimpArgs false
set_option linter.unusedVariables false
/-! CreditSettled -/
def HasW (ov : Ov) : Prop := ∀ w, ov 19 [] w = some (.ok (.ret (.bool true)) w .none)
theorem ruleW {ov : Ov} (h : HasW ov) (m : Nat) (w : AW) : (run Try.prog ov (m + 1)).call 19 [] w .none = .ok (.ret (.bool true)) w .none := by
  show stepO Try.prog (run Try.prog ov m) 19 [] w .none (ov 19 [] w) = _
  rw [h w]; rfl
/-- the place and the number in a row that is read -/
theorem row_ld {w : AW} {v : Value} {L : List Int} (h : RowsV intC w v L) {i : Nat} {z : Int} (hz : L[i]? = some z) :
    ∃ b off sq c, v = .slice (some ⟨b, off, sq⟩) L.length c ∧ rd1O (w.heap.get b) (off + i) = some (.int .i64 z) ∧ ∀ w2 : AW, indexAddrA Try.prog w2 26 (.slice (some ⟨b, off, sq⟩) L.length c) (.int .i64 (i : Nat)) = .val (.pointer (some ((⟨b, off, sq⟩ : Addr).add i))) w2 := by
  have hlt : i < L.length := (List.getElem?_eq_some_iff.1 hz).1
  obtain ⟨b, off, sq, c, rfl, hra⟩ := h.at_ i hlt
  refine ⟨b, off, sq, c, rfl, hra.int hz, fun w2 => ?_⟩
  have := ia26 w2 ⟨b, off, sq⟩ L.length c .i64 i hlt
  rw [this, Nat.mul_one]
end Go.Proofs.Ythfidomphkednaa.walk

namespace Go.Proofs.Ythfidomphkednaa.walk
open Go Go.Sh
set_option maxRecDepth 100000
set_option linter.unusedSimpArgs false
set_option linter.unusedVariables false
/-! what is left -/
structure J51 (pv dv : Value) (ds : List Dt) (y : Int → Int) (p : Int) (n2 n3 b5 c6 L : Nat) (lp : ALoop) (x : Int → Int) (w : AW) : Prop where
  g2 : w.heap.get n2 = some (.cells (pv :: dv :: arC (owD ds)) 63 false)
  g3 : w.heap.get n3 = some (.cells (arC y) 61 false)
  g5 : w.heap.get b5 = some (.cells (arC x) 61 false)
  g6 : w.heap.get c6 = some (.cells [.int .i64 p] 3 false)
  lo : w.heap.get L = some (.loop lp)
  ord : w.lim ≤ b5 ∧ n2 < n3 ∧ n3 < b5 ∧ b5 < c6 ∧ c6 < L ∧ L < w.next
theorem J51.stay {pv dv : Value} {ds : List Dt} {y : Int → Int} {p : Int} {n2 n3 b5 c6 L : Nat} {lp : ALoop} (x : Int → Int) (w w' : AW) (h : J51 pv dv ds y p n2 n3 b5 c6 L lp x w) (k : ∀ x, x < w.next → w'.heap.get x = w.heap.get x) (hn : w.next ≤ w'.next) (hl : w'.lim = w.lim) : J51 pv dv ds y p n2 n3 b5 c6 L lp x w' := by
  obtain ⟨h1, h2, h3, h4, h5, o1, o2, o3, o4, o5, o6⟩ := h
  exact ⟨by rw [k _ (by omega)]; exact h1, by rw [k _ (by omega)]; exact h2, by rw [k _ (by omega)]; exact h3, by rw [k _ (by omega)]; exact h4, by rw [k _ (by omega)]; exact h5, by omega, o2, o3, o4, o5, by omega⟩
end Go.Proofs.Ythfidomphkednaa.walk

namespace Go.Proofs.Ythfidomphkednaa.walk
open Go Go.Sh
set_option maxRecDepth 100000
set_option linter.unusedSimpArgs false
set_option linter.unusedVariables false
end Go.Proofs.Ythfidomphkednaa.walk

namespace Go.Proofs.Ythfidomphkednaa.walk
open Go Go.Sh
set_option maxRecDepth 100000
set_option linter.unusedSimpArgs false
set_option linter.unusedVariables false
/-! Left, Short -/
end Go.Proofs.Ythfidomphkednaa.walk
