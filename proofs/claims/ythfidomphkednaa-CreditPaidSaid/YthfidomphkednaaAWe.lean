/- Part of a proof by a machine of ones own: see the text with the theorem. -/
import Derived.Test.YthfidomphkednaaAWd
namespace Go.Proofs.Ythfidomphkednaa.walk
open Go Go.Sh
set_option maxRecDepth 100000
set_option linter.unusedSimpArgs false
set_option linter.unusedVariables false
/-! what is left -/
structure J51 (pv dv : Value) (ds : List Dt) (y : Int → Int) (p : Int) (n2 n3 b5 c6 L : Nat) (lp : ALoop) (x : Int → Int) (w : AW) : Prop where
  g2 : w.heap.get n2 = some (.cells (pv :: dv :: arC (owD ds)) 63 false)
  g3 : w.heap.get n3 = some (.cells (arC y) 61 false)
  g5 : w.heap.get b5 = some (.cells (arC x) 61 false)
  g6 : w.heap.get c6 = some (.cells [.int .i64 p] 3 false)
  lo : w.heap.get L = some (.loop lp)
  ord : w.lim ≤ b5 ∧ n2 < n3 ∧ n3 < b5 ∧ b5 < c6 ∧ c6 < L ∧ L < w.next
theorem J51.stay {pv dv : Value} {ds : List Dt} {y : Int → Int} {p : Int} {n2 n3 b5 c6 L : Nat} {lp : ALoop} (x : Int → Int) (w w' : AW) (h : J51 pv dv ds y p n2 n3 b5 c6 L lp x w) (k : ∀ x, x < w.next → w'.heap.get x = w.heap.get x) (hn : w.next ≤ w'.next) (hl : w'.lim = w.lim) : J51 pv dv ds y p n2 n3 b5 c6 L lp x w' := by
  obtain ⟨h1, h2, h3, h4, h5, o1, o2, o3, o4, o5, o6⟩ := h
  exact ⟨by rw [k _ (by omega)]; exact h1, by rw [k _ (by omega)]; exact h2, by rw [k _ (by omega)]; exact h3, by rw [k _ (by omega)]; exact h4, by rw [k _ (by omega)]; exact h5, by omega, o2, o3, o4, o5, by omega⟩
end Go.Proofs.Ythfidomphkednaa.walk

namespace Go.Proofs.Ythfidomphkednaa.walk
open Go Go.Sh
set_option maxRecDepth 100000
set_option linter.unusedSimpArgs false
set_option linter.unusedVariables false
end Go.Proofs.Ythfidomphkednaa.walk

namespace Go.Proofs.Ythfidomphkednaa.walk
open Go Go.Sh
set_option maxRecDepth 100000
set_option linter.unusedSimpArgs false
set_option linter.unusedVariables false
/-! Left, Short -/
end Go.Proofs.Ythfidomphkednaa.walk

namespace Go.Proofs.Ythfidomphkednaa.walk
open Go Go.Sh
set_option maxRecDepth 100000
set_option linter.unusedSimpArgs false
set_option linter.unusedVariables false
/-! CreditCents: numbers, Rises -/
theorem inT_bd {ps : List Pt} {ds : List Dt} (hk : LK ps ds) {y : Int → Int} (hy : ∀ p, 0 ≤ y p ∧ y p ≤ owD ds p) (p : Int) (j : Nat) : 0 ≤ sI (fun d => if d.t = p then ptD (owD ds) y d else 0) (ds.take j) ∧ sI (fun d => if d.t = p then ptD (owD ds) y d else 0) (ds.take j) ≤ 1600000 := sI_bd (fun d hd => by
  have := pt_bd hk hy (List.mem_of_mem_take hd)
  show 0 ≤ (if d.t = p then ptD (owD ds) y d else 0) ∧ (if d.t = p then ptD (owD ds) y d else 0) ≤ 100000
  split <;> omega) (by have := hk.d16; rw [List.length_take]; omega)
end Go.Proofs.Ythfidomphkednaa.walk

namespace Go.Proofs.Ythfidomphkednaa.walk
open Go Go.Sh
set_option maxRecDepth 100000
set_option linter.unusedSimpArgs false
set_option linter.unusedVariables false
/-! a party with more cash -/
theorem src_rows {α : Type} {f : α → List Value} {m : Nat} (hf : ∀ a, (f a).length = m) (hm : 0 < m) {w : AW} {v : Value} {l : List α} (h : RowsV f w v l) (hl : l ≠ []) : srcCells w m v = some (l.flatMap f) ∧ lenA v = some l.length := by
  rcases h with ⟨h, _⟩ | ⟨b, off, sq, c, rfl, ⟨pre, rest, e, ro, h1, h2⟩, h3⟩
  · exact absurd h hl
  · refine ⟨?_, rfl⟩
    have hlen : (l.flatMap f).length = l.length * m := flat_length hf l
    have hpos : 0 < l.length := List.length_pos_iff.2 hl
    have hp : 0 < l.length * m := Nat.mul_pos hpos hm
    show (bif Nat.beq (l.length * m) 0 then some [] else rd w b off (l.length * m)) = _
    have e1 : Nat.beq (l.length * m) 0 = false := by rw [← Bool.not_eq_true]; intro h; have := Nat.eq_of_beq_eq_true h; omega
    rw [e1, cond_false, rd_eq, h1, rdO_cells, if_pos (by rw [List.length_append, List.length_append, hlen]; omega)]
    rw [← h2, List.drop_left, ← hlen, List.take_left]
/-- the ledger in which a party has another cash -/
def morP (ps : List Pt) (k : Nat) (c : Int) : List Pt := match ps[k]? with | some p => ps.set k ⟨p.nm, c⟩ | none => ps
@[simp] theorem morP_len (ps : List Pt) (k : Nat) (c : Int) : (morP ps k c).length = ps.length := by
  unfold morP; split <;> simp
end Go.Proofs.Ythfidomphkednaa.walk

namespace Go.Proofs.Ythfidomphkednaa.walk
open Go Go.Sh
set_option maxRecDepth 100000
set_option linter.unusedSimpArgs false
set_option linter.unusedVariables false
/-! CreditMore -/
theorem ia43_0 (w : AW) (a : Addr) : indexAddrA Try.prog w 43 (.pointer (some a)) (.int .i64 0) = .val (.pointer (some (a.add 0))) w := by kernel_rfl
theorem ia43_1 (w : AW) (a : Addr) : indexAddrA Try.prog w 43 (.pointer (some a)) (.int .i64 1) = .val (.pointer (some (a.add 1))) w := by kernel_rfl
end Go.Proofs.Ythfidomphkednaa.walk
