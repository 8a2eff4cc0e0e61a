/- Part of a proof by a machine of ones own: see the text with the theorem. -/
import Derived.Test.YtipglpmelgmelaaDoorQWa
namespace Go.Proofs.YtipglpmelgmelaaDoor.walk
open Go Go.Sh
open known (partsC laidL noOv)
set_option maxRecDepth 100000
/-! the least and the greatest of yields -/
structure In77 (H0 : T AObj) (n0 : Nat) (s : Yl × Yl) (w : AW) : Prop where
  old : Old n0 H0 w.heap
  lo : w.heap.get (n0 + 1) = some (.cells (ylC s.1) 37 false)
  hi : w.heap.get (n0 + 2) = some (.cells (ylC s.2) 37 false)
  next : n0 + 2 < w.next
  lim : w.lim ≤ n0
end Go.Proofs.YtipglpmelgmelaaDoor.walk

namespace Go.Proofs.YtipglpmelgmelaaDoor.walk
open Go Go.Sh
open known (partsC laidL noOv)
set_option maxRecDepth 100000
/-! the samples of a pod -/
@[simp] theorem bs103y (w : AW) (y : Yl) : buildSliceA Tryd.prog w 103 1 [(0, .agg ⟨ylC y⟩)] = .val (.slice (some ⟨w.next, 0, none⟩) 1 1) ⟨w.heap.put w.next (some (.cells (ylC y) 37 false)), w.next + 1, w.lim⟩ := bd103_0_n1 w _ _ _ _
@[simp] theorem ix69_0 (w : AW) (a b : Int) : indexA Tryd.prog w 69 (.agg ⟨[.int .i64 a, .int .i64 b]⟩) (.int .i64 0) = .val (.int .i64 a) w := by kernel_rfl
@[simp] theorem ix69_1 (w : AW) (a b : Int) : indexA Tryd.prog w 69 (.agg ⟨[.int .i64 a, .int .i64 b]⟩) (.int .i64 1) = .val (.int .i64 b) w := by kernel_rfl
/-- a row that has been put together -/
def AccV (n0 : Nat) (w : AW) (v : Value) (acc : List Yl) : Prop := (acc = [] ∧ v = .slice none 0 0) ∨ ∃ B, v = .slice (some ⟨B, 0, none⟩) acc.length acc.length ∧ w.heap.get B = some (.cells (acc.flatMap ylC) 37 false) ∧ n0 < B ∧ B < w.next
structure In76 (w0 : AW) (p : Pod) (v : Value) (acc : List Yl) (w : AW) : Prop where
  base : Base w0.heap w0.next (podC p) 77 w
  acc : AccV w0.next w v acc
  lm : w.lim = w0.lim
theorem In76.parts {w0 w : AW} {p : Pod} {v : Value} {acc : List Yl} (h : In76 w0 p v acc w) (hPW : PartsW w0) : PartsW w := hPW.old h.base.old (Nat.le_of_lt h.base.next)
end Go.Proofs.YtipglpmelgmelaaDoor.walk

namespace Go.Proofs.YtipglpmelgmelaaDoor.walk
open Go Go.Sh
open known (partsC laidL noOv)
set_option maxRecDepth 100000
/-! between what the parts of a yield lie -/
def podS (p : Pod) (day : Int) : List Yl := sampY p.born day p.rl p.rh p.hl p.hh p.gl p.gh
def esH : List Pod → List Int → List (Yl × Yl)
  | p :: l, d :: pl => endsY (podS p d) :: esH l pl
  | _, _ => []
@[simp] theorem ia103_0 (w : AW) (a : Addr) (n c : Nat) (hn : 0 < n) : indexAddrA Tryd.prog w 103 (.slice (some a) n c) (.int .i64 0) = .val (.pointer (some (a.add (0 * 4)))) w := ia103 w a n c .i64 0 hn
/-- the rows of weigh -/
structure In56 (w0 : AW) (es : List (Yl × Yl)) (n i : Nat) (w : AW) : Prop where
  old : Old w0.next w0.heap w.heap
  res : w.heap.get w0.next = some (.cells [.int .i64 0, .int .i64 0, .int .i64 0, .int .i64 0, .int .i64 0, .int .i64 0] 41 false)
  row : ∃ Ls : List Yl, w.heap.get (w0.next + 1) = some (.cells (Ls.flatMap ylC) 37 false) ∧ Ls.length = 2 * n ∧ ∀ j, j < i → Ls[j]? = (es[j]?).map (·.1) ∧ Ls[n + j]? = (es[j]?).map (·.2)
  next : w0.next + 1 < w.next
  lim : w.lim = w0.lim
theorem In56.parts {w0 w : AW} {es : List (Yl × Yl)} {n i : Nat} (h : In56 w0 es n i w) (hPW : PartsW w0) : PartsW w := hPW.old h.old (by have := h.next; omega)
/-- what weigh answers: six numbers -/
def loS (l : List Pod) (pl : List Int) : Yl := sumYl ((esH l pl).map (·.1))
def hiS (l : List Pod) (pl : List Int) : Yl := sumYl ((esH l pl).map (·.2))
def wgC (l : List Pod) (pl : List Int) : List Value := [.int .i64 (loS l pl).ripe, .int .i64 (hiS l pl).ripe, .int .i64 (loS l pl).green, .int .i64 (hiS l pl).green, .int .i64 (loS l pl).split, .int .i64 (hiS l pl).split]
end Go.Proofs.YtipglpmelgmelaaDoor.walk

namespace Go.Proofs.YtipglpmelgmelaaDoor.walk
open Go Go.Sh
open known (partsC laidL noOv)
set_option maxRecDepth 100000
def zero6 : List Value := [.int .i64 0, .int .i64 0, .int .i64 0, .int .i64 0, .int .i64 0, .int .i64 0]
@[simp] theorem wgC_length (l : List Pod) (pl : List Int) : (wgC l pl).length = 6 := by simp [wgC]
@[simp] theorem wgC_singles (l : List Pod) (pl : List Int) : singles (wgC l pl) = true := by simp [wgC]
@[simp] theorem wgC_take (l : List Pod) (pl : List Int) : (wgC l pl).take 6 = wgC l pl := by simp [wgC]
@[simp] theorem wgC_drop (l : List Pod) (pl : List Int) : (wgC l pl).drop 6 = [] := by simp [wgC]
end Go.Proofs.YtipglpmelgmelaaDoor.walk
