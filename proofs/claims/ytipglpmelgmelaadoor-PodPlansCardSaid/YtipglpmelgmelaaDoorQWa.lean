/- Part of a proof by a machine of ones own: see the text with the theorem. -/
import Derived.Test.YtipglpmelgmelaaDoorQT
namespace Go.Proofs.YtipglpmelgmelaaDoor.walk
open Go Go.Sh
open known (partsC laidL noOv)
set_option maxRecDepth 100000
/-! what one pod yields -/
noncomputable def F72 : PureF := fun args _ => match args with | [.int .i64 n, .agg ⟨[.int .i64 a, .int .i64 b]⟩] => some (.bool (inI a n b)) | _ => none
theorem rule72 {ov : Ov} (h : HasP ov 72 F72) (n a b : Int) (m : Nat) (w : AW) : (run Tryd.prog ov (m + 1)).call 72 [.int .i64 n, .agg ⟨[.int .i64 a, .int .i64 b]⟩] w .none = .ok (.ret (.bool (inI a n b))) w .none := h.call rfl
theorem run72 {ov : Ov} (ho : ∀ args w, ov 72 args w = none) (n a b : Int) (w : AW) : ∃ v w', (run Tryd.prog ov 2).call 72 [.int .i64 n, .agg ⟨[.int .i64 a, .int .i64 b]⟩] w .none = .ok (.ret v) w' .none ∧ v = .bool (inI a n b) := by
  refine call_wp text72 (by simp) (ho _ _) ?_
  by_cases h1 : a ≤ n <;> by_cases h2 : n ≤ b <;> simp [mc72, h1, h2, tupV, inI]
def numB (p : Pod) (day r h g : Int) : Bool := inI 0 p.born 1000 && (inI (-1) day 2000 && (inI 0 r 1000 && (inI 0 h 1000 && inI 0 g 100)))
theorem num_some {p : Pod} {day r h g : Int} (k : numB p day r h g = true) : 0 ≤ p.born ∧ p.born ≤ 1000 ∧ -1 ≤ day ∧ day ≤ 2000 ∧ 0 ≤ r ∧ r ≤ 1000 ∧ 0 ≤ h ∧ h ≤ 1000 ∧ 0 ≤ g ∧ g ≤ 100 := by
  simp only [numB, inI, Bool.and_eq_true, decide_eq_true_eq] at k
  omega
def onI (born day r h : Int) : Int := if day = -1 then 3 else if day - born < r then 0 else if day - born < r + h then 1 else 2
noncomputable def F88 : PureF := fun args _ => match args with | [.agg ⟨l⟩, .int .i64 day, .agg ⟨[.int .i64 r, .int .i64 h, .int .i64 g]⟩] => (podOf l).bind fun p => bif numB p day r h g then some (.int .i64 (onI p.born day r h)) else none | _ => none
noncomputable def F89 : PureF := fun args _ => match args with | [.agg ⟨l⟩, .int .i64 day, .agg ⟨[.int .i64 r, .int .i64 h, .int .i64 g]⟩] => (podOf l).bind fun p => bif numB p day r h g then some (.int .i64 (gramI p.born day r g)) else none | _ => none
theorem rule88 {ov : Ov} (k : HasP ov 88 F88) {p : Pod} {day r h g : Int} (hn : numB p day r h g = true) (m : Nat) (w : AW) : (run Tryd.prog ov (m + 1)).call 88 [.agg ⟨podC p⟩, .int .i64 day, .agg ⟨[.int .i64 r, .int .i64 h, .int .i64 g]⟩] w .none = .ok (.ret (.int .i64 (onI p.born day r h))) w .none := k.call (by simp [F88, podOf_C, hn])
theorem rule89 {ov : Ov} (k : HasP ov 89 F89) {p : Pod} {day r h g : Int} (hn : numB p day r h g = true) (m : Nat) (w : AW) : (run Tryd.prog ov (m + 1)).call 89 [.agg ⟨podC p⟩, .int .i64 day, .agg ⟨[.int .i64 r, .int .i64 h, .int .i64 g]⟩] w .none = .ok (.ret (.int .i64 (gramI p.born day r g))) w .none := k.call (by simp [F89, podOf_C, hn])
theorem run88 {ov : Ov} (ho : ∀ args w, ov 88 args w = none) (p : Pod) (day r h g : Int) (hn : numB p day r h g = true) (w : AW) : ∃ v w', (run Tryd.prog ov 2).call 88 [.agg ⟨podC p⟩, .int .i64 day, .agg ⟨[.int .i64 r, .int .i64 h, .int .i64 g]⟩] w .none = .ok (.ret v) w' .none ∧ v = .int .i64 (onI p.born day r h) := by
  obtain ⟨k1, k2, k3, k4, k5, k6, k7, k8, _, _⟩ := num_some hn
  refine call_wp text88 (by simp) (ho _ _) ?_
  have w1 : IntKind.wrap .i64 (day - p.born) = day - p.born := wrap64_in (by omega) (by omega)
  have w2 : IntKind.wrap .i64 (r + h) = r + h := wrap64_in (by omega) (by omega)
  by_cases h1 : day = -1
  · subst h1
    simp [mc88, podC, tupV, onI]
  · by_cases h2 : day - p.born < r
    · simp [mc88, podC, tupV, onI, h1, w1, h2]
    · by_cases h3 : day - p.born < r + h
      · simp [mc88, podC, tupV, onI, h1, w1, h2, w2, h3]
      · simp [mc88, podC, tupV, onI, h1, w1, h2, w2, h3]
theorem gram_bd {born day r g : Int} (h1 : 0 ≤ born) (h2 : born ≤ 1000) (h3 : -1 ≤ day) (h4 : day ≤ 2000) (h5 : 0 ≤ r) (h6 : r ≤ 1000) (h7 : 0 ≤ g) (h8 : g ≤ 100) : -200000 ≤ g * min (day - born) r ∧ g * min (day - born) r ≤ 200000 ∧ -200000 ≤ gramI born day r g ∧ gramI born day r g ≤ 200000 := by
  obtain ⟨m, hm⟩ : ∃ m, m = min (day - born) r := ⟨_, rfl⟩
  have hm1 : -1001 ≤ m ∧ m ≤ 1000 := by omega
  unfold gramI
  rw [← hm]
  have a1 : g * m ≤ 100 * 1000 := by
    by_cases h : 0 ≤ m
    · exact Int.mul_le_mul h8 hm1.2 h (by decide)
    · have : g * m ≤ 0 := Int.mul_nonpos_of_nonneg_of_nonpos h7 (by omega)
      omega
  have a2 : -(100 * 1001) ≤ g * m := by
    by_cases h : 0 ≤ m
    · have := Int.mul_nonneg h7 h; omega
    · have : g * (-m) ≤ 100 * 1001 := Int.mul_le_mul h8 (by omega) (by omega) (by decide)
      rw [Int.mul_neg] at this
      omega
  have a3 : (g * m).tdiv 100 = if 0 ≤ g * m then g * m / 100 else -((-(g * m)) / 100) := by
    split
    · rename_i h; exact Int.tdiv_eq_ediv_of_nonneg h
    · rename_i h
      have := Int.neg_tdiv (a := -(g * m)) (b := 100)
      rw [Int.neg_neg] at this
      rw [this, Int.tdiv_eq_ediv_of_nonneg (by omega)]
  rw [a3]
  split <;> omega
theorem run89 {ov : Ov} (ho : ∀ args w, ov 89 args w = none) (p : Pod) (day r h g : Int) (hn : numB p day r h g = true) (w : AW) : ∃ v w', (run Tryd.prog ov 2).call 89 [.agg ⟨podC p⟩, .int .i64 day, .agg ⟨[.int .i64 r, .int .i64 h, .int .i64 g]⟩] w .none = .ok (.ret v) w' .none ∧ v = .int .i64 (gramI p.born day r g) := by
  obtain ⟨k1, k2, k3, k4, k5, k6, k7, k8, k9, k10⟩ := num_some hn
  obtain ⟨b1, b2, b3, b4⟩ := gram_bd k1 k2 k3 k4 k5 k6 k9 k10
  refine call_wp text89 (by simp) (ho _ _) ?_
  have w1 : IntKind.wrap .i64 (day - p.born) = day - p.born := wrap64_in (by omega) (by omega)
  have w2 : IntKind.wrap .i64 (g * min (day - p.born) r) = g * min (day - p.born) r := wrap64_in (by omega) (by omega)
  have w3 : IntKind.wrap .i64 (gramI p.born day r g) = gramI p.born day r g := wrap64_in (by omega) (by omega)
  unfold gramI at w3
  have hq := fun (a : Int) (c : Bool) w => bin_quo (P := Tryd.prog) (w := w) 3 c .i64 a 100 (by decide)
  simp [mc89, podC, tupV, gramI, w1, w2, hq, w3]
end Go.Proofs.YtipglpmelgmelaaDoor.walk

namespace Go.Proofs.YtipglpmelgmelaaDoor.walk
open Go Go.Sh
open known (partsC laidL noOv)
set_option maxRecDepth 100000
@[simp] theorem ia122_0 (w : AW) (a : Addr) : indexAddrA Tryd.prog w 122 (.pointer (some a)) (.int .i64 0) = .val (.pointer (some (a.add 0))) w := by kernel_rfl
@[simp] theorem ia122_1 (w : AW) (a : Addr) : indexAddrA Tryd.prog w 122 (.pointer (some a)) (.int .i64 1) = .val (.pointer (some (a.add 4))) w := by kernel_rfl
@[simp] theorem ia122_2 (w : AW) (a : Addr) : indexAddrA Tryd.prog w 122 (.pointer (some a)) (.int .i64 2) = .val (.pointer (some (a.add 8))) w := by kernel_rfl
@[simp] theorem ia122_3 (w : AW) (a : Addr) : indexAddrA Tryd.prog w 122 (.pointer (some a)) (.int .i64 3) = .val (.pointer (some (a.add 12))) w := by kernel_rfl
/-- a yield as a value -/
def ylC (y : Yl) : List Value := [.int .i64 y.ripe, .int .i64 y.green, .int .i64 y.split, .int .i64 y.left]
@[simp] theorem ylC_length (y : Yl) : (ylC y).length = 4 := by simp [ylC]
@[simp] theorem ylC_singles (y : Yl) : singles (ylC y) = true := by simp [ylC]
@[simp] theorem ylC_take (y : Yl) : (ylC y).take 4 = ylC y := by simp [ylC]
@[simp] theorem ylC_drop (y : Yl) : (ylC y).drop 4 = [] := by simp [ylC]
theorem ylC_inj (a b : Yl) (h : ylC a = ylC b) : a = b := by
  cases a; cases b
  simpa [ylC] using h
theorem same_pod (p : Pod) : sameVal 5 (.agg ⟨podC p⟩) (.agg ⟨podC p⟩) = true := same_agg _ fun v hv => by
  simp only [podC, List.mem_cons, List.not_mem_nil, or_false] at hv
  rcases hv with rfl | rfl | rfl | rfl | rfl | rfl | rfl | rfl <;> first | exact sameN_int _ _ _ | exact sameN_string _ _
theorem same_ints (l : List Int) : sameVal 5 (.agg ⟨l.map (.int .i64)⟩) (.agg ⟨l.map (.int .i64)⟩) = true := same_agg _ fun v hv => by
  obtain ⟨z, _, rfl⟩ := List.mem_map.1 hv
  exact sameN_int _ _ _
/-- the variable of the program is there -/
def PartsW (w : AW) : Prop := PartsAt w ∧ 0 < w.next
theorem PartsW.parts {w : AW} (h : PartsW w) : PartsAt w := h.1
theorem PartsW.pos {w : AW} (h : PartsW w) : 0 < w.next := h.2
open Classical in
noncomputable def F73 : PureF := fun args w => match args with | [.agg ⟨l⟩, .int .i64 day, .agg ⟨[.int .i64 r, .int .i64 h, .int .i64 g]⟩] => (podOf l).bind fun p => if numB p day r h g = true ∧ PartsW w then some (.agg ⟨ylC (ylI p.born day r h g)⟩) else none | _ => none
theorem rule73 {ov : Ov} (k : HasP ov 73 F73) {p : Pod} {day r h g : Int} (hn : numB p day r h g = true) (m : Nat) {w : AW} (hw : PartsW w) : (run Tryd.prog ov (m + 1)).call 73 [.agg ⟨podC p⟩, .int .i64 day, .agg ⟨[.int .i64 r, .int .i64 h, .int .i64 g]⟩] w .none = .ok (.ret (.agg ⟨ylC (ylI p.born day r h g)⟩)) w .none := k.call (by simp [F73, podOf_C, hn, hw])
theorem on_four {born day r h : Int} : onI born day r h = 0 ∨ onI born day r h = 1 ∨ onI born day r h = 2 ∨ onI born day r h = 3 := by
  unfold onI
  split
  · exact .inr (.inr (.inr rfl))
  · split
    · exact .inl rfl
    · split
      · exact .inr (.inl rfl)
      · exact .inr (.inr (.inl rfl))
theorem yl_on {born day r h g : Int} : ylI born day r h g = (match onI born day r h with | 0 => ⟨0, gramI born day r g, 0, 0⟩ | 1 => ⟨gramI born day r g, 0, 0, 0⟩ | 2 => ⟨0, 0, 1, 0⟩ | _ => ⟨0, 0, 0, 1⟩) := by
  unfold ylI onI
  split
  · rfl
  · split
    · rfl
    · split <;> rfl
theorem run73 {ov : Ov} (ho : ∀ args w, ov 73 args w = none) (h88 : HasP ov 88 F88) (h89 : HasP ov 89 F89) (p : Pod) (day r h g : Int) (hn : numB p day r h g = true) (w : AW) (hl : w.lim ≤ w.next) (hw : PartsW w) :
    ∃ v w', (run Tryd.prog ov 2).call 73 [.agg ⟨podC p⟩, .int .i64 day, .agg ⟨[.int .i64 r, .int .i64 h, .int .i64 g]⟩] w .none = .ok (.ret v) w' .none ∧ v = .agg ⟨ylC (ylI p.born day r h g)⟩ := by
  obtain ⟨k1, k2, k3, k4, k5, k6, k7, k8, k9, k10⟩ := num_some hn
  obtain ⟨b1, b2, b3, b4⟩ := gram_bd k1 k2 k3 k4 k5 k6 k9 k10
  refine call_wp text73 (by simp) (ho _ _) ?_
  obtain ⟨⟨ro, hp⟩, hpos⟩ := hw
  have r88 := rule88 h88 hn 0
  have r89 := rule89 h89 hn 0
  simp only [Nat.zero_add] at r88 r89
  have hne0 : ¬ 0 = w.next := by omega
  have s1 := same_pod p
  have s2 := same_ints [r, h, g]
  have s3 := fun a b c d => same_ints [a, b, c, d]
  simp only [List.map_cons, List.map_nil] at s2 s3
  have l1 : w.lim ≤ w.next + 1 := by omega
  have l2 : w.lim ≤ w.next + 1 + 1 := by omega
  have l3 : w.lim ≤ w.next + 1 + 1 + 1 := by omega
  have w3 : IntKind.wrap .i64 (gramI p.born day r g) = gramI p.born day r g := wrap64_in (by omega) (by omega)
  have w4 : IntKind.wrap .i64 0 = 0 := wrap64_in (by omega) (by omega)
  rw [yl_on]
  rcases on_four (born := p.born) (day := day) (r := r) (h := h) with e | e | e | e <;> rw [e] <;>
  simp [mc73, tupV, r88, r89, s1, s2, s3, hp, hne0, l1, l2, l3, partsC, e, w3, w4, ylC]
end Go.Proofs.YtipglpmelgmelaaDoor.walk

namespace Go.Proofs.YtipglpmelgmelaaDoor.walk
open Go Go.Sh
open known (partsC laidL noOv)
set_option maxRecDepth 100000
/-! the sum of yields -/
@[simp] theorem cf90 (w : AW) (args : List Value) : callFn Tryd.prog w 90 args = .enter 90 args w := callFn_of (by kernel_rfl) args
def smallY (y : Yl) : Prop := 0 ≤ y.ripe ∧ y.ripe ≤ 400 ∧ 0 ≤ y.green ∧ y.green ≤ 400 ∧ 0 ≤ y.split ∧ y.split ≤ 1 ∧ 0 ≤ y.left ∧ y.left ≤ 1
def sumYl (l : List Yl) : Yl := ⟨sY Yl.ripe l, sY Yl.green l, sY Yl.split l, sY Yl.left l⟩
def addY (s y : Yl) : Yl := ⟨s.ripe + y.ripe, s.green + y.green, s.split + y.split, s.left + y.left⟩
theorem sumYl_snoc {l : List Yl} {i : Nat} {y : Yl} (h : l[i]? = some y) : sumYl (l.take (i + 1)) = addY (sumYl (l.take i)) y := by
  simp only [sumYl, addY, sY_snoc h]
theorem sumYl_bd {l : List Yl} (h : ∀ y ∈ l, smallY y) (hl : l.length ≤ 100) : 0 ≤ (sumYl l).ripe ∧ (sumYl l).ripe ≤ 40000 ∧ 0 ≤ (sumYl l).green ∧ (sumYl l).green ≤ 40000 ∧ 0 ≤ (sumYl l).split ∧ (sumYl l).split ≤ 100 ∧ 0 ≤ (sumYl l).left ∧ (sumYl l).left ≤ 100 := by
  have h1 := sY_bd (c := Yl.ripe) (l := l) (b := 400) fun y hy => ⟨(h y hy).1, (h y hy).2.1⟩
  have h2 := sY_bd (c := Yl.green) (l := l) (b := 400) fun y hy => ⟨(h y hy).2.2.1, (h y hy).2.2.2.1⟩
  have h3 := sY_bd (c := Yl.split) (l := l) (b := 1) fun y hy => ⟨(h y hy).2.2.2.2.1, (h y hy).2.2.2.2.2.1⟩
  have h4 := sY_bd (c := Yl.left) (l := l) (b := 1) fun y hy => ⟨(h y hy).2.2.2.2.2.2.1, (h y hy).2.2.2.2.2.2.2⟩
  simp only [sumYl]
  omega
def midY (s y : Yl) : Prop := (0 ≤ s.ripe ∧ s.ripe ≤ 40000 ∧ 0 ≤ s.green ∧ s.green ≤ 40000 ∧ 0 ≤ s.split ∧ s.split ≤ 100 ∧ 0 ≤ s.left ∧ s.left ≤ 100) ∧ smallY y
noncomputable def addW (w : AW) (B : Nat) (s y : Yl) : AW :=
  ⟨((((w.heap.put w.next (some (.cells (ylC y) 37 false))).put B (some (.cells (ylC ⟨s.ripe + y.ripe, s.green, s.split, s.left⟩) 37 false))).put B (some (.cells (ylC ⟨s.ripe + y.ripe, s.green + y.green, s.split, s.left⟩) 37 false))).put B (some (.cells (ylC ⟨s.ripe + y.ripe, s.green + y.green, s.split + y.split, s.left⟩) 37 false))).put B (some (.cells (ylC (addY s y)) 37 false)), w.next + 1, w.lim⟩
theorem call90 {ov : Ov} (ho : ∀ args w, ov 90 args w = none) (m : Nat) (s y : Yl) (hm : midY s y) (B : Nat) (w : AW) (hB : w.heap.get B = some (.cells (ylC s) 37 false)) (hl : w.lim ≤ B) (hlt : B < w.next) :
    (run Tryd.prog ov (m + 1)).call 90 [.agg ⟨ylC y⟩, .pointer (some ⟨B, 0, none⟩)] w .none = .ok (.ret (.tuple ⟨[]⟩)) (addW w B s y) .none := by
  have key : ∃ v w', (run Tryd.prog ov (m + 1)).call 90 [.agg ⟨ylC y⟩, .pointer (some ⟨B, 0, none⟩)] w .none = .ok (.ret v) w' .none ∧ (v = .tuple ⟨[]⟩ ∧ w' = addW w B s y) := by
    refine call_wp (m := m) (Q := fun v w' => v = .tuple ⟨[]⟩ ∧ w' = addW w B s y) text90 (by simp) (ho _ _) ?_
    have hne : B ≠ w.next := Nat.ne_of_lt hlt
    have hne' : w.next ≠ B := fun h => hne h.symm
    obtain ⟨⟨a1, a2, a3, a4, a5, a6, a7, a8⟩, b1, b2, b3, b4, b5, b6, b7, b8⟩ := hm
    have w1 : IntKind.wrap .i64 (s.ripe + y.ripe) = s.ripe + y.ripe := wrap64_in (by omega) (by omega)
    have w2 : IntKind.wrap .i64 (s.green + y.green) = s.green + y.green := wrap64_in (by omega) (by omega)
    have w3 : IntKind.wrap .i64 (s.split + y.split) = s.split + y.split := wrap64_in (by omega) (by omega)
    have w4 : IntKind.wrap .i64 (s.left + y.left) = s.left + y.left := wrap64_in (by omega) (by omega)
    simp [mc90, tupV, hB, hne, hne', hl, ylC, w1, w2, w3, w4, addW, addY]
  obtain ⟨v, w', h1, rfl, rfl⟩ := key
  exact h1
theorem addW_get (w : AW) (B b : Nat) (s y : Yl) (hB : B < w.next) : (addW w B s y).heap.get b = if b = B then some (.cells (ylC (addY s y)) 37 false) else if b = w.next then some (.cells (ylC y) 37 false) else w.heap.get b := by
  unfold addW
  by_cases h : b = B
  · simp [h]
  · simp [h]
structure In74 (H0 : T AObj) (n0 : Nat) (ys : List Yl) (i : Nat) (w : AW) : Prop where
  old : Old n0 H0 w.heap
  acc : w.heap.get (n0 + 1) = some (.cells (ylC (sumYl (ys.take i))) 37 false)
  res : w.heap.get n0 = some (.cells (ylC ⟨0, 0, 0, 0⟩) 37 false)
  next : n0 + 1 < w.next
  lim : w.lim ≤ n0
theorem In74.add {H0 : T AObj} {n0 : Nat} {ys : List Yl} {i : Nat} {w w1 : AW} (hw : In74 H0 n0 ys i w) {y : Yl} (hyi : ys[i]? = some y) (h1 : ∀ b, b < w.next → w1.heap.get b = w.heap.get b) (h2 : w.next ≤ w1.next) (h3 : w1.lim = w.lim) : In74 H0 n0 ys (i + 1) (addW w1 (n0 + 1) (sumYl (ys.take i)) y) := by
  have hn := hw.next
  refine ⟨fun b hb => ?_, ?_, ?_, ?_, ?_⟩
  · rw [addW_get _ _ _ _ _ (by omega), if_neg (by omega), if_neg (by omega), h1 b (by omega), hw.old b hb]
  · rw [addW_get _ _ _ _ _ (by omega), if_pos rfl, sumYl_snoc hyi]
  · rw [addW_get _ _ _ _ _ (by omega), if_neg (by omega), if_neg (by omega), h1 n0 (by omega), hw.res]
  · show n0 + 1 < w1.next + 1; omega
  · show w1.lim ≤ n0; rw [h3]; exact hw.lim
theorem loop74 {ov : Ov} (h90 : ∀ args w, ov 90 args w = none) (ys : List Yl) (hy : ∀ y ∈ ys, smallY y) (hlen : ys.length ≤ 100) (H0 : T AObj) (n0 : Nat) (v : Value) (hv : ∀ i, i < ys.length → ∃ b off sq c, v = .slice (some ⟨b, off, sq⟩) ys.length c ∧ RowsA ylC H0 n0 b off ys)
    (Q : Ex → Tm → AW → Prop) (t : Tm) (w : AW) (hw : In74 H0 n0 ys 0 w)
    (t2 : tget t 2 = .pointer (some ⟨n0, 0, none⟩)) (t3 : tget t 3 = .pointer (some ⟨n0 + 1, 0, none⟩)) (t4 : tget t 4 = .func (.func 90) ⟨[]⟩ ⟨[.pointer (some ⟨n0 + 1, 0, none⟩)]⟩) (t8 : tget t 8 = v) (t9 : tget t 9 = .int .i64 (ys.length : Nat)) (t10 : tget t 10 = .int .i64 0)
    (hQ : ∀ t w, tget t 2 = .pointer (some ⟨n0, 0, none⟩) → tget t 3 = .pointer (some ⟨n0 + 1, 0, none⟩) → In74 H0 n0 ys ys.length w → Q (.exit 0) t w) (m : Nat) : wp (exM Tryd.prog (run Tryd.prog ov (m + 1)) (.loop mc74_l0) t w) Q := by
  refine wp_rounds (fun i t w => tget t 2 = .pointer (some ⟨n0, 0, none⟩) ∧ tget t 3 = .pointer (some ⟨n0 + 1, 0, none⟩) ∧ tget t 4 = .func (.func 90) ⟨[]⟩ ⟨[.pointer (some ⟨n0 + 1, 0, none⟩)]⟩ ∧ tget t 8 = v ∧ tget t 9 = .int .i64 (ys.length : Nat) ∧ tget t 10 = .int .i64 (i : Nat) ∧ i ≤ ys.length ∧ In74 H0 n0 ys i w) 200 (by decide) ⟨t2, t3, t4, t8, t9, t10, Nat.zero_le _, hw⟩ ?_
  clear hw t2 t3 t4 t8 t9 t10
  rintro i t w ⟨t2, t3, t4, t8, t9, t10, hi, hw⟩
  by_cases hlt : i < ys.length
  · obtain ⟨y, hyi⟩ : ∃ y, ys[i]? = some y := ⟨_, List.getElem?_eq_getElem hlt⟩
    obtain ⟨b, off, sq, c, rfl, hr⟩ := hv i hlt
    have hb := hr.2
    have hld := hr.rd (m := 4) ylC_length hyi
    rw [← hw.old b hb] at hld
    have hne : ¬ b = w.next := by have := hw.next; omega
    have hia := fun w => ia103 w ⟨b, off, sq⟩ ys.length c .i64 i hlt
    have hw1 : IntKind.wrap .i64 ((i : Int) + 1) = (i : Int) + 1 := wrap64_in (by omega) (by omega)
    have hm : midY (sumYl (ys.take i)) y := ⟨sumYl_bd (fun z hz => hy z (List.mem_of_mem_take hz)) (by rw [List.length_take]; omega), hy y (List.mem_of_getElem? hyi)⟩
    have hlim := hw.lim
    have hnx := hw.next
    have hacc := hw.acc
    have hl1 : w.lim ≤ w.next := by omega
    have hne1 : ¬ n0 + 1 = w.next := by omega
    simp [mc74_l0, t2, t3, t4, t8, t9, t10, hlt, hia, hld, hne, hl1, callV_func, cellsOf_agg, ylC_length]
    rw [call90 h90 m (sumYl (ys.take i)) y hm (n0 + 1) _ (by simp [hne1, hacc]) (by show w.lim ≤ n0 + 1; omega) (by show n0 + 1 < w.next + 1; omega)]
    simp [t2, t3, t4, t8, t9, t10, hw1]
    refine ⟨by omega, by omega, ?_⟩
    exact hw.add hyi (fun b hb => by show ((w.heap.put w.next _).put w.next _).get b = _; rw [get_put, if_neg (by omega), get_put, if_neg (by omega)]) (Nat.le_succ _) rfl
  · have hi' : i = ys.length := by omega
    subst hi'
    simp [mc74_l0, t9, t10]
    exact hQ _ _ (by simp [t2]) (by simp [t3]) hw
theorem run74 {ov : Ov} (ho : ∀ args w, ov 74 args w = none) (h90 : ∀ args w, ov 90 args w = none) (v : Value) (ys : List Yl) (hy : ∀ y ∈ ys, smallY y) (hlen : ys.length ≤ 100) (w : AW) (hl : w.lim = w.next) (hv : RowsV ylC w v ys) (m : Nat) :
    ∃ u w', (run Tryd.prog ov (m + 2)).call 74 [v] w .none = .ok (.ret u) w' .none ∧ u = .agg ⟨ylC (sumYl ys)⟩ := by
  refine call_wp text74 (by simp) (ho _ _) ?_
  obtain ⟨a, c, hvl⟩ := hv.len
  have hln : ∀ w, lenB Tryd.prog w 103 v = .val (.int .i64 (ys.length : Nat)) w := fun w => by rw [hvl]; simp
  simp [mc74, hln]
  refine wp_seqX (wp_blockX (loop74 h90 ys hy hlen w.heap w.next v (fun i hi => ?_) _ _ _ ?_ ?_ ?_ ?_ ?_ ?_ ?_ ?_ m))
  case _ =>
    rcases hv with ⟨rfl, _⟩ | ⟨b, off, sq, c, rfl, h⟩
    · simp at hi
    · exact ⟨b, off, sq, c, rfl, h⟩
  case _ =>
    refine ⟨(Old.refl _ _).put (Nat.le_refl _) |>.put (Nat.le_succ _), ?_, ?_, ?_, ?_⟩
    · simp [ylC, sumYl, sY]
    · simp [ylC]
    · simp
    · simp [hl]
  case _ => simp
  case _ => simp
  case _ => simp
  case _ => simp
  case _ => simp
  case _ => simp
  case _ =>
    intro t w' s2 s3 hI
    have hacc := hI.acc
    have hres := hI.res
    have hlim := hI.lim
    rw [List.take_length] at hacc
    simp [s2, s3, hacc, hres, hlim, tupV]
open Classical in
noncomputable def F74 : PureF := fun args w => match args with | [v] => (rowsIn ylC w v).bind fun ys => if (∀ y ∈ ys, smallY y) ∧ ys.length ≤ 100 then some (.agg ⟨ylC (sumYl ys)⟩) else none | _ => none
theorem rule74 {ov : Ov} (k : HasP ov 74 F74) {v : Value} {ys : List Yl} (hy : ∀ y ∈ ys, smallY y) (hlen : ys.length ≤ 100) (m : Nat) {w : AW} (hv : RowsV ylC w v ys) : (run Tryd.prog ov (m + 1)).call 74 [v] w .none = .ok (.ret (.agg ⟨ylC (sumYl ys)⟩)) w .none := k.call (by
  simp only [F74, hv.rowsIn (m := 4) ylC_length ylC_inj, Option.bind_some]
  rw [if_pos ⟨hy, hlen⟩])
end Go.Proofs.YtipglpmelgmelaaDoor.walk

namespace Go.Proofs.YtipglpmelgmelaaDoor.walk
open Go Go.Sh
open known (partsC laidL noOv)
set_option maxRecDepth 100000
/-! plans and truths -/
def planOk (p : Pod) (d : Int) : Bool := decide (d = -1) || (decide (p.born ≤ d) && decide (d ≤ 2000))
theorem PodsV.at_ {w : AW} {v : Value} {l : List Pod} (h : PodsV w v l) : ∀ i, i < l.length → ∃ b sq c, v = .slice (some ⟨b, 0, sq⟩) l.length c ∧ PodsAt w b l := by
  intro i hi
  rcases h with ⟨a, c, rfl, rfl⟩ | ⟨b, sq, c, rfl, hp⟩
  · simp at hi
  · exact ⟨b, sq, c, rfl, hp⟩
theorem PodsV.len {w : AW} {v : Value} {l : List Pod} (h : PodsV w v l) : ∃ a c, v = .slice a l.length c := by
  rcases h with ⟨a, c, rfl, rfl⟩ | ⟨b, sq, c, rfl, hp⟩
  · exact ⟨a, c, rfl⟩
  · exact ⟨_, c, rfl⟩
theorem len22V {w : AW} {v : Value} {l : List Pod} (h : PodsV w v l) (w' : AW) : lenB Tryd.prog w' 22 v = .val (.int .i64 (l.length : Nat)) w' := by
  obtain ⟨a, c, rfl⟩ := h.len; simp
theorem len33V {w : AW} {v : Value} {l : List Int} (h : RowsV intC w v l) (w' : AW) : lenB Tryd.prog w' 33 v = .val (.int .i64 (l.length : Nat)) w' := by
  obtain ⟨a, c, rfl⟩ := h.len; simp
theorem podsB_len {l : List Pod} (h : podsB l = true) : l.length ≤ 12 := by
  simp only [podsB, Bool.and_eq_true, decide_eq_true_eq] at h
  exact h.1
end Go.Proofs.YtipglpmelgmelaaDoor.walk

namespace Go.Proofs.YtipglpmelgmelaaDoor.walk
open Go Go.Sh
open known (partsC laidL noOv)
set_option maxRecDepth 100000
def truthOk (p : Pod) (r h g : Int) : Bool := inI p.rl r p.rh && (inI p.hl h p.hh && inI p.gl g p.gh)
theorem load_pod' {w : AW} {b i : Nat} {l : List Pod} {p : Pod} (hb : PodsAt w b l) (hp : l[i]? = some p) : rdO (w.heap.get b) (i * 8) 8 = some (podC p) := by
  obtain ⟨⟨rest, e, ro, h⟩, _⟩ := hb
  exact load_pod h hp
/-- a box, and what is below it -/
structure Base (H0 : T AObj) (n0 : Nat) (cs : List Value) (e : TypeId) (w : AW) : Prop where
  old : Old n0 H0 w.heap
  box : w.heap.get n0 = some (.cells cs e false)
  next : n0 < w.next
  lim : w.lim ≤ n0
theorem Base.put {H0 : T AObj} {n0 : Nat} {cs : List Value} {e : TypeId} {w w' : AW} (h : Base H0 n0 cs e w) (h1 : ∀ b, b < w.next → w'.heap.get b = w.heap.get b) (h2 : w.next ≤ w'.next) (h3 : w'.lim = w.lim) : Base H0 n0 cs e w' := by
  have hn := h.next
  exact ⟨fun b hb => by rw [h1 b (by omega), h.old b hb], by rw [h1 n0 hn]; exact h.box, by omega, by rw [h3]; exact h.lim⟩
end Go.Proofs.YtipglpmelgmelaaDoor.walk

namespace Go.Proofs.YtipglpmelgmelaaDoor.walk
open Go Go.Sh
open known (partsC laidL noOv)
set_option maxRecDepth 100000
/-! a harvest -/
theorem pod_ok {p : Pod} (h : podB p = true) : PodOk p.born p.rl p.rh p.hl p.hh p.gl p.gh := by
  simp only [podB, inI, spanI, Bool.and_eq_true, decide_eq_true_eq] at h
  obtain ⟨_, ⟨h1, h2⟩, ⟨h3, h4, h5⟩, ⟨h6, h7, h8⟩, h9, h10, h11⟩ := h
  exact ⟨h1, h2, h3, h4, h5, h6, h7, h8, h9, h10, h11⟩
theorem chk_at {l : List Pod} {i : Nat} {p : Pod} (hp : l[i]? = some p) : ∀ n, i < n → chkB l n = true → podB p = true
  | 0, h, _ => by omega
  | n + 1, h, hc => by
    have hc' : (chkB l n && (match l[n]? with | some p => podB p && !hasT (tagsTo l n) p.tag | none => true)) = true := hc
    rw [Bool.and_eq_true] at hc'
    by_cases e : i = n
    · subst e
      rw [hp] at hc'
      have := hc'.2
      rw [Bool.and_eq_true] at this
      exact this.1
    · exact chk_at hp n (by omega) hc'.1
theorem pods_all {l : List Pod} (h : podsB l = true) {i : Nat} {p : Pod} (hp : l[i]? = some p) : podB p = true := by
  simp only [podsB, Bool.and_eq_true] at h
  exact chk_at hp l.length (List.getElem?_eq_some_iff.1 hp).1 h.2
theorem plan_day {p : Pod} {d : Int} (h : planOk p d = true) : dayOk p.born d := by
  simpa [planOk, dayOk] using h
theorem num_of {p : Pod} {d r h g : Int} (h1 : podB p = true) (h2 : planOk p d = true) (h3 : truthOk p r h g = true) : numB p d r h g = true := by
  have k := pod_ok h1
  have hd := plan_day h2
  simp only [truthOk, inI, Bool.and_eq_true, decide_eq_true_eq] at h3
  obtain ⟨⟨a1, a2⟩, ⟨a3, a4⟩, a5, a6⟩ := h3
  have := k.born0; have := k.born1; have := k.r0; have := k.r2; have := k.h0; have := k.h2; have := k.g0; have := k.g2
  simp only [numB, inI, Bool.and_eq_true, decide_eq_true_eq]
  unfold dayOk at hd
  omega
@[simp] theorem ms103 (n : Nat) (hn : n ≤ 1000) (w : AW) : makeSliceA Tryd.prog w 103 (.int .i64 (n : Int)) (.int .i64 (n : Int)) = .val (.slice (some ⟨w.next, 0, none⟩) n n) ⟨w.heap.put w.next (some (.cells ((List.replicate n (⟨0, 0, 0, 0⟩ : Yl)).flatMap ylC) 37 false)), w.next + 1, w.lim⟩ := by
  rw [← repl_flat]
  exact make_eq (e := 37) (z := .agg ⟨ylC ⟨0, 0, 0, 0⟩⟩) (by kernel_rfl) (by kernel_rfl) (by kernel_rfl) n hn w
@[simp] theorem bd77p (p : Pod) (w : AW) : buildA Tryd.prog w 77 [(0, .agg ⟨podC p⟩)] = .val (.agg ⟨podC p⟩) w := bd77_0 w _ _ _ _ _ _ _ _
theorem PartsW.old {w w' : AW} (h : PartsW w) (ho : Old w.next w.heap w'.heap) (hn : w.next ≤ w'.next) : PartsW w' := by
  obtain ⟨⟨ro, h1⟩, h2⟩ := h
  exact ⟨⟨ro, by rw [ho 0 h2]; exact h1⟩, by omega⟩
/-- boxes of a function, and a row that it writes -/
structure RowW (H0 : T AObj) (n0 : Nat) (bx : List Value) (e : TypeId) (res : List Value) (er : TypeId) (n : Nat) (P : List Yl → Prop) (w : AW) : Prop where
  base : Base H0 n0 bx e w
  res : w.heap.get (n0 + 1) = some (.cells res er false)
  row : ∃ Ls, w.heap.get (n0 + 2) = some (.cells (Ls.flatMap ylC) 37 false) ∧ Ls.length = n ∧ P Ls
  next : n0 + 2 < w.next
theorem RowW.step {H0 : T AObj} {n0 : Nat} {bx : List Value} {e : TypeId} {res : List Value} {er : TypeId} {n : Nat} {P P' : List Yl → Prop} {w w1 : AW} (hw : RowW H0 n0 bx e res er n P w) (h1 : ∀ x, x < w.next → w1.heap.get x = w.heap.get x) (h2 : w.next ≤ w1.next) (h3 : w1.lim = w.lim) {Ls : List Yl} (hl : Ls.length = n) (hP : P' Ls) :
    RowW H0 n0 bx e res er n P' ⟨w1.heap.put (n0 + 2) (some (.cells (Ls.flatMap ylC) 37 false)), w1.next, w1.lim⟩ := by
  have hn := hw.next
  refine ⟨⟨fun b hb => ?_, ?_, by show n0 < w1.next; omega, by show w1.lim ≤ n0; rw [h3]; exact hw.base.lim⟩, ?_, ⟨Ls, ?_, hl, hP⟩, by show n0 + 2 < w1.next; omega⟩
  · show (w1.heap.put (n0 + 2) _).get b = _
    rw [get_put, if_neg (by omega), h1 b (by omega), hw.base.old b hb]
  · show (w1.heap.put (n0 + 2) _).get n0 = _
    rw [get_put, if_neg (by omega), h1 n0 (by omega), hw.base.box]
  · show (w1.heap.put (n0 + 2) _).get (n0 + 1) = _
    rw [get_put, if_neg (by omega), h1 (n0 + 1) (by omega), hw.res]
  · show (w1.heap.put (n0 + 2) _).get (n0 + 2) = _
    rw [get_put, if_pos rfl]
theorem PodsV.old {w w' : AW} {v : Value} {l : List Pod} (h : PodsV w v l) (ho : Old w.next w.heap w'.heap) (hn : w.next ≤ w'.next) : PodsV w' v l := by
  rcases h with h | ⟨b, sq, c, e, ⟨rest, e', ro, h1⟩, h2⟩
  · exact .inl h
  · exact .inr ⟨b, sq, c, e, ⟨rest, e', ro, by rw [ho b h2]; exact h1⟩, by omega⟩
end Go.Proofs.YtipglpmelgmelaaDoor.walk
