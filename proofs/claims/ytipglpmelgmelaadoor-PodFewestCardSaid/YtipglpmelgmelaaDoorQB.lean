/- Part of a proof by a machine of ones own: see the text with the theorem. -/
import Derived.Test.YtipglpmelgmelaaDoorQHb
namespace Go.Proofs.YtipglpmelgmelaaDoor.walk
open Go Go.Sh
open known (partsC laidL noOv)
set_option maxRecDepth 100000
set_option linter.unusedSimpArgs false
/-! numbers that choose -/
def wrapI (n s : Int) : Int := if s < 1 then 0 else (n.tmod s + s).tmod s
theorem wrapI_bd {n s : Int} (h : 1 ≤ s) : 0 ≤ wrapI n s ∧ wrapI n s < s := by
  have h2 := Int.lt_tmod_of_pos n (show 0 < s by omega)
  unfold wrapI
  rw [if_neg (by omega)]
  exact ⟨Int.tmod_nonneg _ (by omega), Int.tmod_lt_of_pos _ (by omega)⟩
noncomputable def F42 : PureF := fun args _ => match args with | [.int .i64 n, .int .i64 s] => bif decide (s ≤ 2 ^ 60) then some (.int .i64 (wrapI n s)) else none | _ => none
theorem rule42 {ov : Ov} (k : HasP ov 42 F42) (n : Int) {s : Int} (hs : s ≤ 2 ^ 60) (w : AW) : (run Tryd.prog ov 1).call 42 [.int .i64 n, .int .i64 s] w .none = .ok (.ret (.int .i64 (wrapI n s))) w .none := k.call (by
  show (bif decide (s ≤ 2 ^ 60) then some (Value.int .i64 (wrapI n s)) else none) = _
  rw [decide_eq_true hs]; rfl)
theorem run42 {ov : Ov} (ho : ∀ args w, ov 42 args w = none) (n s : Int) (hs : s ≤ 2 ^ 60) (w : AW) : ∃ v w', (run Tryd.prog ov 2).call 42 [.int .i64 n, .int .i64 s] w .none = .ok (.ret v) w' .none ∧ v = .int .i64 (wrapI n s) := by
  refine call_wp text42 (by simp) (ho _ _) ?_
  by_cases h1 : s < 1
  · simp [mc42, h1, tupV, wrapI]
  · have hr := fun (a : Int) (c : Bool) w => bin_rem (P := Tryd.prog) (w := w) 3 c .i64 a s (by omega)
    have b1 := Int.lt_tmod_of_pos n (show 0 < s by omega)
    have b2 := Int.tmod_lt_of_pos n (show 0 < s by omega)
    have w1 : IntKind.wrap .i64 (n.tmod s + s) = n.tmod s + s := wrap64_in (by omega) (by omega)
    simp [mc42, h1, tupV, wrapI, hr, w1]
def withI (lo hi n : Int) : Int := lo + wrapI n (hi - lo + 1)
noncomputable def F38 : PureF := fun args _ => match args with | [.int .i64 lo, .int .i64 hi, .int .i64 n] => bif inI 0 lo 100000 && inI 0 hi 100000 then some (.int .i64 (withI lo hi n)) else none | _ => none
theorem run38 {ov : Ov} (ho : ∀ args w, ov 38 args w = none) (h42 : HasP ov 42 F42) (lo hi n : Int) (hb : (0 ≤ lo ∧ lo ≤ 100000) ∧ 0 ≤ hi ∧ hi ≤ 100000) (w : AW) : ∃ v w', (run Tryd.prog ov 2).call 38 [.int .i64 lo, .int .i64 hi, .int .i64 n] w .none = .ok (.ret v) w' .none ∧ v = .int .i64 (withI lo hi n) := by
  refine call_wp text38 (by simp) (ho _ _) ?_
  have w1 : IntKind.wrap .i64 (hi - lo) = hi - lo := wrap64_in (by omega) (by omega)
  have w2 : IntKind.wrap .i64 (hi - lo + 1) = hi - lo + 1 := wrap64_in (by omega) (by omega)
  have r42 := rule42 h42 n (s := hi - lo + 1) (by omega)
  have hbd : -1 ≤ wrapI n (hi - lo + 1) ∧ wrapI n (hi - lo + 1) ≤ 200001 := by
    by_cases h : 1 ≤ hi - lo + 1
    · have := wrapI_bd (n := n) h; omega
    · unfold wrapI; rw [if_pos (by omega)]; omega
  have w3 : IntKind.wrap .i64 (lo + wrapI n (hi - lo + 1)) = lo + wrapI n (hi - lo + 1) := wrap64_in (by omega) (by omega)
  simp [mc38, w1, w2, r42, w3, tupV, withI]
end Go.Proofs.YtipglpmelgmelaaDoor.walk

namespace Go.Proofs.YtipglpmelgmelaaDoor.walk
open Go Go.Sh
open known (partsC laidL noOv)
set_option maxRecDepth 100000
set_option linter.unusedSimpArgs false
/-! the numbers that are chosen -/
theorem isList33 : isList Tryd.prog 33 = true := by kernel_rfl
theorem elem33 : elemA Tryd.prog 33 = some 3 := by kernel_rfl
theorem sz3 : szOf Tryd.prog 3 = some 1 := by kernel_rfl
theorem small3 : smallT Tryd.prog 3 = true := by kernel_rfl
def AccI (n1 : Nat) (w : AW) (v : Value) (acc : List Int) (B : Nat) : Prop := (acc = [] ∧ v = .slice none 0 0 ∧ B = 0) ∨ (v = .slice (some ⟨B, 0, none⟩) acc.length acc.length ∧ w.heap.get B = some (.cells (acc.flatMap intC) 3 false) ∧ n1 < B ∧ B < w.next)
theorem AccI.lt {n1 : Nat} {w : AW} {v : Value} {acc : List Int} {B : Nat} (h : AccI n1 w v acc B) (hn : 0 < w.next) : B < w.next := by
  rcases h with ⟨_, _, rfl⟩ | ⟨_, _, _, h⟩
  · exact hn
  · exact h
theorem AccI.keep {n1 : Nat} {w w' : AW} {v : Value} {acc : List Int} {B B0 : Nat} (h : AccI n1 w v acc B) (k : ∀ x, x < w.next → (x = B0 → B0 = 0) → n1 < x → w'.heap.get x = w.heap.get x) (hn : w.next ≤ w'.next) (hs : B = B0 → B = 0) : AccI n1 w' v acc B := by
  rcases h with h | ⟨h1, h2, h3, h4⟩
  · exact .inl h
  · refine .inr ⟨h1, ?_, h3, by omega⟩
    rw [k B h4 (fun e => by have := hs e; omega) h3, h2]
theorem AccI.same {n1 : Nat} {w : AW} {v : Value} {acc : List Int} {B : Nat} (h : AccI n1 w v acc B) : sameVal 5 v v = true := by
  rcases h with ⟨_, rfl, _⟩ | ⟨rfl, _⟩
  · exact sameN_slice 4 _ _ _
  · exact sameN_slice 4 _ _ _
theorem int_push {n1 : Nat} {w : AW} {v : Value} {acc : List Int} {B : Nat} (h : AccI n1 w v acc B) (hl : w.lim ≤ n1) (hn : n1 < w.next) (hlen : acc.length ≤ 90000) (z : Int) :
    ∃ v' w' B', append1 Tryd.prog ⟨w.heap.put w.next (some (.cells [.int .i64 z] 3 false)), w.next + 1, w.lim⟩ [33, 33] [v, .slice (some ⟨w.next, 0, none⟩) 1 1] = .val v' w' ∧ AccI n1 w' v' (acc ++ [z]) B' ∧ (∀ x, x < w.next → (x = B → B = 0) → w'.heap.get x = w.heap.get x) ∧ w.next ≤ B' ∧ w.next ≤ w'.next ∧ w'.lim = w.lim := by
  have hsrc : srcCells ⟨w.heap.put w.next (some (.cells [.int .i64 z] 3 false)), w.next + 1, w.lim⟩ 1 (.slice (some ⟨w.next, 0, none⟩) 1 1) = some [.int .i64 z] := src_row (e' := 3) (ro := false) (k := 1) (by simp) (by simp) (by decide) (by decide)
  rcases h with ⟨rfl, rfl, rfl⟩ | ⟨rfl, hB, h1, h2⟩
  · refine ⟨_, _, w.next + 1, append_nil isList33 elem33 sz3 small3 (m := 1) rfl hsrc (by simp) (by decide) (by decide), .inr ⟨rfl, ?_, ?_, ?_⟩, fun x hx _ => ?_, by omega, ?_, rfl⟩
    · simp [intC]
    · omega
    · exact Nat.lt_succ_self _
    · show ((w.heap.put w.next _).put (w.next + 1) _).get x = _
      rw [get_put, if_neg (by omega), get_put, if_neg (by omega)]
    · show w.next ≤ w.next + 1 + 1; omega
  · have hB' : (w.heap.put w.next (some (.cells [.int .i64 z] 3 false))).get B = some (.cells (acc.flatMap intC) 3 false) := by rw [get_put, if_neg (by omega)]; exact hB
    refine ⟨_, _, w.next + 1, append_full isList33 elem33 sz3 small3 (n := acc.length) (m := 1) (c := acc.flatMap intC) rfl hsrc (by simp) (by simp) (by decide) (by omega) hB' (flat_length intC_length acc) (by show w.lim ≤ B; omega), .inr ⟨?_, ?_, ?_, ?_⟩, fun x hx hxB => ?_, by omega, ?_, rfl⟩
    · simp
    · show (((w.heap.put w.next _).put B none).put (w.next + 1) _).get (w.next + 1) = _
      rw [get_put, if_pos rfl]; simp [intC]
    · omega
    · exact Nat.lt_succ_self _
    · have : ¬ x = B := fun e => by have := hxB e; omega
      show (((w.heap.put w.next _).put B none).put (w.next + 1) _).get x = _
      rw [get_put, if_neg (by omega), get_put, if_neg this, get_put, if_neg (by omega)]
    · show w.next ≤ w.next + 1 + 1; omega
structure In34 (w0 : AW) (vr vh vg : Value) (R H G : List Int) (Br Bh Bg : Nat) (w : AW) : Prop where
  old : Old w0.next w0.heap w.heap
  res : w.heap.get w0.next = some (.cells [.slice none 0 0, .slice none 0 0, .slice none 0 0] 35 false)
  box : w.heap.get (w0.next + 1) = some (.cells [vr, vh, vg] 35 false)
  ar : AccI (w0.next + 1) w vr R Br
  ah : AccI (w0.next + 1) w vh H Bh
  ag : AccI (w0.next + 1) w vg G Bg
  rh : Br = Bh → Br = 0
  rg : Br = Bg → Br = 0
  hg : Bh = Bg → Bh = 0
  next : w0.next + 1 < w.next
  lim : w.lim = w0.lim
structure Pd34 (n pb : Nat) (p : Pod) (Br Bh Bg : Nat) (w : AW) : Prop where
  pod : w.heap.get pb = some (.cells (podC p) 30 false)
  lo : n + 1 < pb
  hi : pb < w.next
  sr : ¬ pb = Br
  sh : ¬ pb = Bh
  sg : ¬ pb = Bg
end Go.Proofs.YtipglpmelgmelaaDoor.walk
