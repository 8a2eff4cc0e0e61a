/- Part of a proof by a machine of ones own: see the text with the theorem. -/
import Derived.Test.YthfidomphkednaaAWd
namespace Go.Proofs.Ythfidomphkednaa.walk
open Go Go.Sh
set_option maxRecDepth 100000
set_option linter.unusedSimpArgs false
set_option linter.unusedVariables false
/-! CreditCents: numbers, Rises -/
theorem totL_ls (x : Int → Int) : ∀ n : Nat, totL (lsF n x) = sN (fun k => x (k : Int)) n
  | 0 => rfl
  | n + 1 => by
    have : lsF (n + 1) x = lsF n x ++ [x (n : Int)] := by simp [lsF, List.range_succ]
    rw [this, totL_app, totL_ls x n]
    simp [totL, sN]
end Go.Proofs.Ythfidomphkednaa.walk

namespace Go.Proofs.Ythfidomphkednaa.walk
open Go Go.Sh
set_option maxRecDepth 100000
set_option linter.unusedSimpArgs false
set_option linter.unusedVariables false
/-- blocks below stay, but for two -/
structure Kq (A B : Nat) (we w : AW) : Prop where
  old : ∀ q, q < we.next → q ≠ A → q ≠ B → w.heap.get q = we.heap.get q
  next : we.next ≤ w.next
  lim : w.lim = we.lim
theorem Kq.refl (A B : Nat) (w : AW) : Kq A B w w := ⟨fun _ _ _ _ => rfl, Nat.le_refl _, rfl⟩
theorem Kq.new {A B : Nat} {we : AW} {H : T AObj} {n n' l k : Nat} {o : Option AObj} (h : Kq A B we ⟨H, n, l⟩) (hk : we.next ≤ k ∨ k = A ∨ k = B) (hn : n ≤ n') : Kq A B we ⟨H.put k o, n', l⟩ :=
  ⟨fun q hq ha hb => by
    show (H.put k o).get q = _
    rw [get_put, if_neg (by omega)]; exact h.old q hq ha hb, Nat.le_trans h.next hn, h.lim⟩
theorem Kq.up {A B : Nat} {w we w' : AW} (u : Up w we) (h : Kq A B we w') (hA : w.next ≤ A) (hB : w.next ≤ B) : Up w w' :=
  ⟨fun q hq => by have := u.next; rw [h.old q (by omega) (by omega) (by omega)]; exact u.old q hq, Nat.le_trans u.next h.next, h.lim.trans u.lim⟩
end Go.Proofs.Ythfidomphkednaa.walk

namespace Go.Proofs.Ythfidomphkednaa.walk
open Go Go.Sh
set_option maxRecDepth 100000
set_option linter.unusedSimpArgs false
set_option linter.unusedVariables false
/-! a party with more cash -/
theorem src_rows {α : Type} {f : α → List Value} {m : Nat} (hf : ∀ a, (f a).length = m) (hm : 0 < m) {w : AW} {v : Value} {l : List α} (h : RowsV f w v l) (hl : l ≠ []) : srcCells w m v = some (l.flatMap f) ∧ lenA v = some l.length := by
  rcases h with ⟨h, _⟩ | ⟨b, off, sq, c, rfl, ⟨pre, rest, e, ro, h1, h2⟩, h3⟩
  · exact absurd h hl
  · refine ⟨?_, rfl⟩
    have hlen : (l.flatMap f).length = l.length * m := flat_length hf l
    have hpos : 0 < l.length := List.length_pos_iff.2 hl
    have hp : 0 < l.length * m := Nat.mul_pos hpos hm
    show (bif Nat.beq (l.length * m) 0 then some [] else rd w b off (l.length * m)) = _
    have e1 : Nat.beq (l.length * m) 0 = false := by rw [← Bool.not_eq_true]; intro h; have := Nat.eq_of_beq_eq_true h; omega
    rw [e1, cond_false, rd_eq, h1, rdO_cells, if_pos (by rw [List.length_append, List.length_append, hlen]; omega)]
    rw [← h2, List.drop_left, ← hlen, List.take_left]
/-- the ledger in which a party has another cash -/
def morP (ps : List Pt) (k : Nat) (c : Int) : List Pt := match ps[k]? with | some p => ps.set k ⟨p.nm, c⟩ | none => ps
@[simp] theorem morP_len (ps : List Pt) (k : Nat) (c : Int) : (morP ps k c).length = ps.length := by
  unfold morP; split <;> simp
end Go.Proofs.Ythfidomphkednaa.walk
