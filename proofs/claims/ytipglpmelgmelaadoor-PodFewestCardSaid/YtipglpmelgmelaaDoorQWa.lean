/- Part of a proof by a machine of ones own: see the text with the theorem. -/
import Derived.Test.YtipglpmelgmelaaDoorQT
namespace Go.Proofs.YtipglpmelgmelaaDoor.walk
open Go Go.Sh
open known (partsC laidL noOv)
set_option maxRecDepth 100000
/-! what one pod yields -/
noncomputable def F72 : PureF := fun args _ => match args with | [.int .i64 n, .agg ⟨[.int .i64 a, .int .i64 b]⟩] => some (.bool (inI a n b)) | _ => none
theorem run72 {ov : Ov} (ho : ∀ args w, ov 72 args w = none) (n a b : Int) (w : AW) : ∃ v w', (run Tryd.prog ov 2).call 72 [.int .i64 n, .agg ⟨[.int .i64 a, .int .i64 b]⟩] w .none = .ok (.ret v) w' .none ∧ v = .bool (inI a n b) := by
  refine call_wp text72 (by simp) (ho _ _) ?_
  by_cases h1 : a ≤ n <;> by_cases h2 : n ≤ b <;> simp [mc72, h1, h2, tupV, inI]
end Go.Proofs.YtipglpmelgmelaaDoor.walk

namespace Go.Proofs.YtipglpmelgmelaaDoor.walk
open Go Go.Sh
open known (partsC laidL noOv)
set_option maxRecDepth 100000
@[simp] theorem ia122_0 (w : AW) (a : Addr) : indexAddrA Tryd.prog w 122 (.pointer (some a)) (.int .i64 0) = .val (.pointer (some (a.add 0))) w := by kernel_rfl
@[simp] theorem ia122_1 (w : AW) (a : Addr) : indexAddrA Tryd.prog w 122 (.pointer (some a)) (.int .i64 1) = .val (.pointer (some (a.add 4))) w := by kernel_rfl
@[simp] theorem ia122_2 (w : AW) (a : Addr) : indexAddrA Tryd.prog w 122 (.pointer (some a)) (.int .i64 2) = .val (.pointer (some (a.add 8))) w := by kernel_rfl
@[simp] theorem ia122_3 (w : AW) (a : Addr) : indexAddrA Tryd.prog w 122 (.pointer (some a)) (.int .i64 3) = .val (.pointer (some (a.add 12))) w := by kernel_rfl
/-- a yield as a value -/
def ylC (y : Yl) : List Value := [.int .i64 y.ripe, .int .i64 y.green, .int .i64 y.split, .int .i64 y.left]
@[simp] theorem ylC_length (y : Yl) : (ylC y).length = 4 := by simp [ylC]
@[simp] theorem ylC_singles (y : Yl) : singles (ylC y) = true := by simp [ylC]
@[simp] theorem ylC_take (y : Yl) : (ylC y).take 4 = ylC y := by simp [ylC]
@[simp] theorem ylC_drop (y : Yl) : (ylC y).drop 4 = [] := by simp [ylC]
theorem same_pod (p : Pod) : sameVal 5 (.agg ⟨podC p⟩) (.agg ⟨podC p⟩) = true := same_agg _ fun v hv => by
  simp only [podC, List.mem_cons, List.not_mem_nil, or_false] at hv
  rcases hv with rfl | rfl | rfl | rfl | rfl | rfl | rfl | rfl <;> first | exact sameN_int _ _ _ | exact sameN_string _ _
theorem same_ints (l : List Int) : sameVal 5 (.agg ⟨l.map (.int .i64)⟩) (.agg ⟨l.map (.int .i64)⟩) = true := same_agg _ fun v hv => by
  obtain ⟨z, _, rfl⟩ := List.mem_map.1 hv
  exact sameN_int _ _ _
/-- the variable of the program is there -/
def PartsW (w : AW) : Prop := PartsAt w ∧ 0 < w.next
theorem PartsW.parts {w : AW} (h : PartsW w) : PartsAt w := h.1
theorem PartsW.pos {w : AW} (h : PartsW w) : 0 < w.next := h.2
end Go.Proofs.YtipglpmelgmelaaDoor.walk

namespace Go.Proofs.YtipglpmelgmelaaDoor.walk
open Go Go.Sh
open known (partsC laidL noOv)
set_option maxRecDepth 100000
/-! the sum of yields -/
@[simp] theorem cf90 (w : AW) (args : List Value) : callFn Tryd.prog w 90 args = .enter 90 args w := callFn_of (by kernel_rfl) args
def sumYl (l : List Yl) : Yl := ⟨sY Yl.ripe l, sY Yl.green l, sY Yl.split l, sY Yl.left l⟩
def addY (s y : Yl) : Yl := ⟨s.ripe + y.ripe, s.green + y.green, s.split + y.split, s.left + y.left⟩
theorem sumYl_snoc {l : List Yl} {i : Nat} {y : Yl} (h : l[i]? = some y) : sumYl (l.take (i + 1)) = addY (sumYl (l.take i)) y := by
  simp only [sumYl, addY, sY_snoc h]
noncomputable def addW (w : AW) (B : Nat) (s y : Yl) : AW :=
  ⟨((((w.heap.put w.next (some (.cells (ylC y) 37 false))).put B (some (.cells (ylC ⟨s.ripe + y.ripe, s.green, s.split, s.left⟩) 37 false))).put B (some (.cells (ylC ⟨s.ripe + y.ripe, s.green + y.green, s.split, s.left⟩) 37 false))).put B (some (.cells (ylC ⟨s.ripe + y.ripe, s.green + y.green, s.split + y.split, s.left⟩) 37 false))).put B (some (.cells (ylC (addY s y)) 37 false)), w.next + 1, w.lim⟩
theorem addW_get (w : AW) (B b : Nat) (s y : Yl) (hB : B < w.next) : (addW w B s y).heap.get b = if b = B then some (.cells (ylC (addY s y)) 37 false) else if b = w.next then some (.cells (ylC y) 37 false) else w.heap.get b := by
  unfold addW
  by_cases h : b = B
  · simp [h]
  · simp [h]
structure In74 (H0 : T AObj) (n0 : Nat) (ys : List Yl) (i : Nat) (w : AW) : Prop where
  old : Old n0 H0 w.heap
  acc : w.heap.get (n0 + 1) = some (.cells (ylC (sumYl (ys.take i))) 37 false)
  res : w.heap.get n0 = some (.cells (ylC ⟨0, 0, 0, 0⟩) 37 false)
  next : n0 + 1 < w.next
  lim : w.lim ≤ n0
theorem In74.add {H0 : T AObj} {n0 : Nat} {ys : List Yl} {i : Nat} {w w1 : AW} (hw : In74 H0 n0 ys i w) {y : Yl} (hyi : ys[i]? = some y) (h1 : ∀ b, b < w.next → w1.heap.get b = w.heap.get b) (h2 : w.next ≤ w1.next) (h3 : w1.lim = w.lim) : In74 H0 n0 ys (i + 1) (addW w1 (n0 + 1) (sumYl (ys.take i)) y) := by
  have hn := hw.next
  refine ⟨fun b hb => ?_, ?_, ?_, ?_, ?_⟩
  · rw [addW_get _ _ _ _ _ (by omega), if_neg (by omega), if_neg (by omega), h1 b (by omega), hw.old b hb]
  · rw [addW_get _ _ _ _ _ (by omega), if_pos rfl, sumYl_snoc hyi]
  · rw [addW_get _ _ _ _ _ (by omega), if_neg (by omega), if_neg (by omega), h1 n0 (by omega), hw.res]
  · show n0 + 1 < w1.next + 1; omega
  · show w1.lim ≤ n0; rw [h3]; exact hw.lim
end Go.Proofs.YtipglpmelgmelaaDoor.walk

namespace Go.Proofs.YtipglpmelgmelaaDoor.walk
open Go Go.Sh
open known (partsC laidL noOv)
set_option maxRecDepth 100000
/-! plans and truths -/
theorem PodsV.at_ {w : AW} {v : Value} {l : List Pod} (h : PodsV w v l) : ∀ i, i < l.length → ∃ b sq c, v = .slice (some ⟨b, 0, sq⟩) l.length c ∧ PodsAt w b l := by
  intro i hi
  rcases h with ⟨a, c, rfl, rfl⟩ | ⟨b, sq, c, rfl, hp⟩
  · simp at hi
  · exact ⟨b, sq, c, rfl, hp⟩
theorem PodsV.len {w : AW} {v : Value} {l : List Pod} (h : PodsV w v l) : ∃ a c, v = .slice a l.length c := by
  rcases h with ⟨a, c, rfl, rfl⟩ | ⟨b, sq, c, rfl, hp⟩
  · exact ⟨a, c, rfl⟩
  · exact ⟨_, c, rfl⟩
theorem len22V {w : AW} {v : Value} {l : List Pod} (h : PodsV w v l) (w' : AW) : lenB Tryd.prog w' 22 v = .val (.int .i64 (l.length : Nat)) w' := by
  obtain ⟨a, c, rfl⟩ := h.len; simp
theorem len33V {w : AW} {v : Value} {l : List Int} (h : RowsV intC w v l) (w' : AW) : lenB Tryd.prog w' 33 v = .val (.int .i64 (l.length : Nat)) w' := by
  obtain ⟨a, c, rfl⟩ := h.len; simp
theorem podsB_len {l : List Pod} (h : podsB l = true) : l.length ≤ 12 := by
  simp only [podsB, Bool.and_eq_true, decide_eq_true_eq] at h
  exact h.1
end Go.Proofs.YtipglpmelgmelaaDoor.walk

namespace Go.Proofs.YtipglpmelgmelaaDoor.walk
open Go Go.Sh
open known (partsC laidL noOv)
set_option maxRecDepth 100000
theorem load_pod' {w : AW} {b i : Nat} {l : List Pod} {p : Pod} (hb : PodsAt w b l) (hp : l[i]? = some p) : rdO (w.heap.get b) (i * 8) 8 = some (podC p) := by
  obtain ⟨⟨rest, e, ro, h⟩, _⟩ := hb
  exact load_pod h hp
/-- a box, and what is below it -/
structure Base (H0 : T AObj) (n0 : Nat) (cs : List Value) (e : TypeId) (w : AW) : Prop where
  old : Old n0 H0 w.heap
  box : w.heap.get n0 = some (.cells cs e false)
  next : n0 < w.next
  lim : w.lim ≤ n0
theorem Base.put {H0 : T AObj} {n0 : Nat} {cs : List Value} {e : TypeId} {w w' : AW} (h : Base H0 n0 cs e w) (h1 : ∀ b, b < w.next → w'.heap.get b = w.heap.get b) (h2 : w.next ≤ w'.next) (h3 : w'.lim = w.lim) : Base H0 n0 cs e w' := by
  have hn := h.next
  exact ⟨fun b hb => by rw [h1 b (by omega), h.old b hb], by rw [h1 n0 hn]; exact h.box, by omega, by rw [h3]; exact h.lim⟩
end Go.Proofs.YtipglpmelgmelaaDoor.walk

namespace Go.Proofs.YtipglpmelgmelaaDoor.walk
open Go Go.Sh
open known (partsC laidL noOv)
set_option maxRecDepth 100000
/-! a harvest -/
theorem pod_ok {p : Pod} (h : podB p = true) : PodOk p.born p.rl p.rh p.hl p.hh p.gl p.gh := by
  simp only [podB, inI, spanI, Bool.and_eq_true, decide_eq_true_eq] at h
  obtain ⟨_, ⟨h1, h2⟩, ⟨h3, h4, h5⟩, ⟨h6, h7, h8⟩, h9, h10, h11⟩ := h
  exact ⟨h1, h2, h3, h4, h5, h6, h7, h8, h9, h10, h11⟩
theorem chk_at {l : List Pod} {i : Nat} {p : Pod} (hp : l[i]? = some p) : ∀ n, i < n → chkB l n = true → podB p = true
  | 0, h, _ => by omega
  | n + 1, h, hc => by
    have hc' : (chkB l n && (match l[n]? with | some p => podB p && !hasT (tagsTo l n) p.tag | none => true)) = true := hc
    rw [Bool.and_eq_true] at hc'
    by_cases e : i = n
    · subst e
      rw [hp] at hc'
      have := hc'.2
      rw [Bool.and_eq_true] at this
      exact this.1
    · exact chk_at hp n (by omega) hc'.1
theorem pods_all {l : List Pod} (h : podsB l = true) {i : Nat} {p : Pod} (hp : l[i]? = some p) : podB p = true := by
  simp only [podsB, Bool.and_eq_true] at h
  exact chk_at hp l.length (List.getElem?_eq_some_iff.1 hp).1 h.2
@[simp] theorem ms103 (n : Nat) (hn : n ≤ 1000) (w : AW) : makeSliceA Tryd.prog w 103 (.int .i64 (n : Int)) (.int .i64 (n : Int)) = .val (.slice (some ⟨w.next, 0, none⟩) n n) ⟨w.heap.put w.next (some (.cells ((List.replicate n (⟨0, 0, 0, 0⟩ : Yl)).flatMap ylC) 37 false)), w.next + 1, w.lim⟩ := by
  rw [← repl_flat]
  exact make_eq (e := 37) (z := .agg ⟨ylC ⟨0, 0, 0, 0⟩⟩) (by kernel_rfl) (by kernel_rfl) (by kernel_rfl) n hn w
@[simp] theorem bd77p (p : Pod) (w : AW) : buildA Tryd.prog w 77 [(0, .agg ⟨podC p⟩)] = .val (.agg ⟨podC p⟩) w := bd77_0 w _ _ _ _ _ _ _ _
theorem PartsW.old {w w' : AW} (h : PartsW w) (ho : Old w.next w.heap w'.heap) (hn : w.next ≤ w'.next) : PartsW w' := by
  obtain ⟨⟨ro, h1⟩, h2⟩ := h
  exact ⟨⟨ro, by rw [ho 0 h2]; exact h1⟩, by omega⟩
/-- boxes of a function, and a row that it writes -/
structure RowW (H0 : T AObj) (n0 : Nat) (bx : List Value) (e : TypeId) (res : List Value) (er : TypeId) (n : Nat) (P : List Yl → Prop) (w : AW) : Prop where
  base : Base H0 n0 bx e w
  res : w.heap.get (n0 + 1) = some (.cells res er false)
  row : ∃ Ls, w.heap.get (n0 + 2) = some (.cells (Ls.flatMap ylC) 37 false) ∧ Ls.length = n ∧ P Ls
  next : n0 + 2 < w.next
theorem PodsV.old {w w' : AW} {v : Value} {l : List Pod} (h : PodsV w v l) (ho : Old w.next w.heap w'.heap) (hn : w.next ≤ w'.next) : PodsV w' v l := by
  rcases h with h | ⟨b, sq, c, e, ⟨rest, e', ro, h1⟩, h2⟩
  · exact .inl h
  · exact .inr ⟨b, sq, c, e, ⟨rest, e', ro, by rw [ho b h2]; exact h1⟩, by omega⟩
end Go.Proofs.YtipglpmelgmelaaDoor.walk
