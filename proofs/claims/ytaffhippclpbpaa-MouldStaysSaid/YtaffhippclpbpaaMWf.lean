/- Part of a proof by a machine of ones own: see the text with the theorem. -/
import Derived.Test.YtaffhippclpbpaaMWe
namespace Go.Proofs.Ytaffhippclpbpaa.walk
open Go Go.Sh
set_option maxRecDepth 100000
set_option linter.unusedSimpArgs false
set_option linter.unusedVariables false
noncomputable def ops3a : List MOp := [⟨false, none, some 88, 3, .move (.tmp 9)⟩, ⟨false, none, some 89, 0, .fieldAddr 25 (.tmp 2) 4⟩, ⟨false, none, some 90, 22, .load 22 (.tmp 89)⟩, ⟨false, none, some 91, 3, .move (.tmp 8)⟩, ⟨false, none, some 92, 0, .indexAddr 22 (.tmp 90) (.tmp 91)⟩, ⟨false, none, some 93, 26, .load 26 (.tmp 92)⟩, ⟨false, none, some 94, 3, .move (.tmp 11)⟩, ⟨false, none, some 95, 0, .indexAddr 26 (.tmp 93) (.tmp 94)⟩, ⟨false, none, some 96, 3, .load 3 (.tmp 95)⟩, ⟨false, none, some 97, 3, .binOp .shl 3 (.const (.int .i64 1)) (.tmp 96) 3⟩, ⟨false, none, some 98, 3, .binOp .or 3 (.tmp 88) (.tmp 97) 3⟩, ⟨false, none, some 9, 3, .assign (.tmp 98)⟩]
noncomputable def cond3a : MC := .cond (.tmp 87) (.ops ops3a) (.skip)
theorem mc3_l1_eq : mc3_l1 = .seq (.seq (.ops [⟨false, none, some 76, 3, .move (.tmp 11)⟩, ⟨false, none, some 77, 0, .fieldAddr 25 (.tmp 2) 0⟩, ⟨false, none, some 78, 3, .load 3 (.tmp 77)⟩, ⟨false, none, some 79, 4, .binOp .lss 3 (.tmp 76) (.tmp 78) 3⟩]) (.cond (.tmp 79) (.skip) (.exit 2))) (.seq (.block 3 (.seq (.ops [⟨false, none, some 82, 26, .move (.tmp 6)⟩, ⟨false, none, some 83, 3, .move (.tmp 8)⟩, ⟨false, none, some 84, 0, .indexAddr 26 (.tmp 82) (.tmp 83)⟩, ⟨false, none, some 85, 3, .load 3 (.tmp 84)⟩, ⟨false, none, some 86, 3, .move (.tmp 11)⟩, ⟨false, none, some 87, 4, .call ⟨.value (.func 14), #[.tmp 85, .tmp 86], #[3, 3]⟩⟩]) cond3a)) (.ops [⟨false, none, some 80, 3, .move (.tmp 11)⟩, ⟨false, none, some 81, 3, .binOp .add 3 (.tmp 80) (.const (.int .i64 1)) 3⟩, ⟨false, none, some 11, 3, .assign (.tmp 81)⟩])) := rfl
noncomputable def ops3b : List MOp := [⟨true, none, some 106, 0, .fieldAddr 25 (.tmp 2) 5⟩, ⟨true, none, some 107, 23, .load 23 (.tmp 106)⟩, ⟨true, none, some 108, 3, .move (.tmp 12)⟩, ⟨true, none, some 109, 0, .indexAddr 23 (.tmp 107) (.tmp 108)⟩, ⟨true, none, some 110, 0, .fieldAddr 37 (.tmp 109) 0⟩, ⟨true, none, some 111, 3, .load 3 (.tmp 110)⟩, ⟨true, none, some 112, 3, .binOp .shl 3 (.const (.int .i64 1)) (.tmp 111) 3⟩, ⟨true, none, some 113, 0, .fieldAddr 25 (.tmp 2) 5⟩, ⟨true, none, some 114, 23, .load 23 (.tmp 113)⟩, ⟨true, none, some 115, 3, .move (.tmp 12)⟩, ⟨true, none, some 116, 0, .indexAddr 23 (.tmp 114) (.tmp 115)⟩, ⟨true, none, some 117, 0, .fieldAddr 37 (.tmp 116) 1⟩, ⟨true, none, some 118, 3, .load 3 (.tmp 117)⟩, ⟨true, none, some 119, 3, .binOp .shl 3 (.const (.int .i64 1)) (.tmp 118) 3⟩, ⟨true, none, some 120, 3, .binOp .or 3 (.tmp 112) (.tmp 119) 3⟩, ⟨true, none, some 13, 3, .assign (.tmp 120)⟩]
theorem mc3_l2_eq : mc3_l2 = .seq (.seq (.ops [⟨false, none, some 99, 3, .move (.tmp 12)⟩, ⟨false, none, some 100, 0, .fieldAddr 25 (.tmp 2) 5⟩, ⟨false, none, some 101, 23, .load 23 (.tmp 100)⟩, ⟨false, none, some 102, 3, .call ⟨.builtin .len, #[.tmp 101], #[23]⟩⟩, ⟨false, none, some 103, 4, .binOp .lss 3 (.tmp 99) (.tmp 102) 3⟩]) (.cond (.tmp 103) (.skip) (.exit 4))) (.seq (.block 5 (.seq (.ops ops3b) (.seq (.ops [⟨false, none, some 121, 0, .fieldAddr 30 (.tmp 5) 1⟩, ⟨false, none, some 122, 26, .load 26 (.tmp 121)⟩, ⟨false, none, some 123, 3, .move (.tmp 8)⟩, ⟨false, none, some 124, 0, .indexAddr 26 (.tmp 122) (.tmp 123)⟩, ⟨false, none, some 125, 3, .load 3 (.tmp 124)⟩, ⟨false, none, some 126, 3, .move (.tmp 12)⟩, ⟨false, none, some 127, 4, .call ⟨.value (.func 14), #[.tmp 125, .tmp 126], #[3, 3]⟩⟩, ⟨false, none, some 128, 4, .move (.tmp 127)⟩, ⟨false, some (128, true), some 129, 3, .move (.tmp 9)⟩, ⟨false, some (128, true), some 130, 3, .move (.tmp 13)⟩, ⟨false, some (128, true), some 131, 3, .binOp .and 3 (.tmp 129) (.tmp 130) 3⟩, ⟨false, some (128, true), some 132, 4, .binOp .neq 3 (.tmp 131) (.const (.int .i64 0)) 3⟩, ⟨false, none, some 133, 4, .pick (.tmp 128) (.tmp 132) (.const (.bool false))⟩]) (.cond (.tmp 133) (.ops [⟨false, none, some 134, 3, .move (.tmp 10)⟩, ⟨false, none, some 135, 3, .move (.tmp 13)⟩, ⟨false, none, some 136, 3, .binOp .or 3 (.tmp 134) (.tmp 135) 3⟩, ⟨false, none, some 10, 3, .assign (.tmp 136)⟩]) (.skip))))) (.ops [⟨false, none, some 104, 3, .move (.tmp 12)⟩, ⟨false, none, some 105, 3, .binOp .add 3 (.tmp 104) (.const (.int .i64 1)) 3⟩, ⟨false, none, some 12, 3, .assign (.tmp 105)⟩])) := rfl
variable {r : Rec} {Q : Ex → Tm → AW → Prop} {t : Tm} {w : AW}
theorem shl_any {rest} {q : Bool} {a b : Nat} (k : Nat) (hk : k ≤ 10) (h : tget t b = .int .i64 (k : Int)) : exOps Try.prog r (⟨q, none, some a, 3, .binOp .shl 3 (.const (.int .i64 1)) (.tmp b) 3⟩ :: rest) t w = exOps Try.prog r rest (tset t a (.int .i64 ((2 ^ k : Nat) : Int))) w := by
  have hsh := fun (w : AW) s c => shl_nat (P := Try.prog) (w := w) s c k hk
  obtain ⟨z, hz⟩ : ∃ z, z = 2 ^ k := ⟨_, rfl⟩
  simp only [← hz] at hsh ⊢
  simp [h, hsh]
theorem or_any {rest} {q : Bool} {a b c : Nat} (x y : Nat) (hx : x < 2 ^ 20) (hy : y < 2 ^ 20) (h : tget t b = .int .i64 (x : Int)) (h' : tget t c = .int .i64 (y : Int)) : exOps Try.prog r (⟨q, none, some a, 3, .binOp .or 3 (.tmp b) (.tmp c) 3⟩ :: rest) t w = exOps Try.prog r rest (tset t a (.int .i64 ((x ||| y : Nat) : Int))) w := by
  have hor := or_nat hx hy
  obtain ⟨z, hz⟩ : ∃ z, z = x ||| y := ⟨_, rfl⟩
  rw [← hz] at hor ⊢
  simp [h, h', hor]
theorem ne3a (d : Nat) (h : d < 76) : ¬ d = 76 ∧ ¬ d = 77 ∧ ¬ d = 78 ∧ ¬ d = 79 ∧ ¬ d = 80 ∧ ¬ d = 81 ∧ ¬ d = 82 ∧ ¬ d = 83 ∧ ¬ d = 84 ∧ ¬ d = 85 ∧ ¬ d = 86 ∧ ¬ d = 87 ∧ ¬ d = 88 ∧ ¬ d = 89 ∧ ¬ d = 90 ∧ ¬ d = 91 ∧ ¬ d = 92 ∧ ¬ d = 93 ∧ ¬ d = 94 ∧ ¬ d = 95 ∧ ¬ d = 96 ∧ ¬ d = 97 ∧ ¬ d = 98 := by omega
theorem ne3b (d : Nat) (h : d < 99) : ¬ d = 99 ∧ ¬ d = 100 ∧ ¬ d = 101 ∧ ¬ d = 102 ∧ ¬ d = 103 ∧ ¬ d = 104 ∧ ¬ d = 105 ∧ ¬ d = 106 ∧ ¬ d = 107 ∧ ¬ d = 108 ∧ ¬ d = 109 ∧ ¬ d = 110 ∧ ¬ d = 111 ∧ ¬ d = 112 ∧ ¬ d = 113 ∧ ¬ d = 114 ∧ ¬ d = 115 ∧ ¬ d = 116 ∧ ¬ d = 117 ∧ ¬ d = 118 ∧ ¬ d = 119 ∧ ¬ d = 120 ∧ ¬ d = 121 ∧ ¬ d = 122 ∧ ¬ d = 123 ∧ ¬ d = 124 ∧ ¬ d = 125 ∧ ¬ d = 126 ∧ ¬ d = 127 ∧ ¬ d = 128 ∧ ¬ d = 129 ∧ ¬ d = 130 ∧ ¬ d = 131 ∧ ¬ d = 132 ∧ ¬ d = 133 ∧ ¬ d = 134 ∧ ¬ d = 135 ∧ ¬ d = 136 := by omega
theorem pre3a {rest} (B D k x : Nat) (z : Int) (l : List Int) (R : MRun) (wv nv : Value) (hR : RunV w R wv nv) (g1 : w.heap.get B = some (.cells [.int .i64 R.pods, .int .i64 R.boxes, .int .i64 R.few, .int .i64 R.delay, wv, nv] 25 false)) (hd : R.days[D]? = some l) (hz : l[k]? = some z)
    (t2 : tget t 2 = .pointer (some ⟨B, 0, none⟩)) (t8 : tget t 8 = .int .i64 (D : Int)) (t9 : tget t 9 = .int .i64 (x : Int)) (t11 : tget t 11 = .int .i64 (k : Int))
    (h : ∀ T, tget T 88 = .int .i64 (x : Int) → tget T 96 = .int .i64 z → (∀ d, d < 76 → tget T d = tget t d) → wp (exOps Try.prog r rest T w) Q) : wp (exOps Try.prog r (⟨false, none, some 88, 3, .move (.tmp 9)⟩ :: ⟨false, none, some 89, 0, .fieldAddr 25 (.tmp 2) 4⟩ :: ⟨false, none, some 90, 22, .load 22 (.tmp 89)⟩ :: ⟨false, none, some 91, 3, .move (.tmp 8)⟩ :: ⟨false, none, some 92, 0, .indexAddr 22 (.tmp 90) (.tmp 91)⟩ :: ⟨false, none, some 93, 26, .load 26 (.tmp 92)⟩ :: ⟨false, none, some 94, 3, .move (.tmp 11)⟩ :: ⟨false, none, some 95, 0, .indexAddr 26 (.tmp 93) (.tmp 94)⟩ :: ⟨false, none, some 96, 3, .load 3 (.tmp 95)⟩ :: rest) t w) Q := by
  obtain ⟨⟨vs, hvs, hrel⟩, _⟩ := hR
  obtain ⟨v, hv, hrow⟩ := hrel.at hd
  have hdl : D < vs.length := by
    rw [List.getElem?_eq_some_iff] at hv
    exact hv.1
  have hkl : k < l.length := by
    rw [List.getElem?_eq_some_iff] at hz
    exact hz.1
  obtain ⟨bk, off, sq, c, rfl, hra⟩ := hvs.at_ D hdl
  have hld := hra.rd1 valC_length hv (j := 0) (x := v) rfl
  have hia := fun w => ia22 w ⟨bk, off, sq⟩ vs.length c .i64 D hdl
  obtain ⟨b2, off2, sq2, c2, rfl, hra2⟩ := hrow.at_ k hkl
  have hld2 := hra2.int hz
  have hia2 := fun w => ia26 w ⟨b2, off2, sq2⟩ l.length c2 .i64 k hkl
  simp only [Nat.mul_one, Nat.add_zero] at hld hia hia2
  simp [t2, t8, t9, t11, g1, hia, hld, hia2, hld2]
  refine h _ (by simp) (by simp) fun d hd => ?_
  have hne := ne3a d hd
  simp [hne]
theorem cond3a_wp (B D k x z : Nat) (b : Bool) (l : List Int) (R : MRun) (wv nv : Value) (hR : RunV w R wv nv) (g1 : w.heap.get B = some (.cells [.int .i64 R.pods, .int .i64 R.boxes, .int .i64 R.few, .int .i64 R.delay, wv, nv] 25 false)) (hd : R.days[D]? = some l) (hz : l[k]? = some (z : Int)) (hz10 : z ≤ 10) (hx : x < 2 ^ 20)
    (t2 : tget t 2 = .pointer (some ⟨B, 0, none⟩)) (t8 : tget t 8 = .int .i64 (D : Int)) (t9 : tget t 9 = .int .i64 (x : Int)) (t11 : tget t 11 = .int .i64 (k : Int)) (t87 : tget t 87 = .bool b)
    (hQ : ∀ t', tget t' 9 = .int .i64 ((if b = true then x ||| 2 ^ z else x : Nat) : Int) → (∀ d, d < 76 → d ≠ 9 → tget t' d = tget t d) → Q .normal t' w) : wp (exM Try.prog r cond3a t w) Q := by
  cases b with
  | false =>
    simp [cond3a, t87]
    exact hQ _ (by simpa using t9) fun _ _ _ => rfl
  | true =>
    simp only [if_true] at hQ
    simp [cond3a, t87]
    rw [ops3a]
    refine pre3a B D k x z l R wv nv hR g1 hd hz t2 t8 t9 t11 fun T k1 k2 k3 => ?_
    rw [shl_any z hz10 k2, or_any x (2 ^ z) hx (Nat.pow_lt_pow_right (by decide) (by omega)) (by simp [k1]) (by simp)]
    obtain ⟨y, hy⟩ : ∃ y, y = x ||| 2 ^ z := ⟨_, rfl⟩
    rw [← hy] at hQ ⊢
    simp
    refine hQ _ (by simp) fun d h1 h2 => ?_
    have hne := ne3a d h1
    simp [hne, h2, k3 d h1]
theorem pre3b1 {rest} (B k : Nat) (p : Int × Int) (R : MRun) (wv nv : Value) (hR : RunV w R wv nv) (g1 : w.heap.get B = some (.cells [.int .i64 R.pods, .int .i64 R.boxes, .int .i64 R.few, .int .i64 R.delay, wv, nv] 25 false)) (hp : R.near[k]? = some p)
    (t2 : tget t 2 = .pointer (some ⟨B, 0, none⟩)) (t12 : tget t 12 = .int .i64 (k : Int))
    (h : ∀ T, tget T 111 = .int .i64 p.1 → (∀ d, d < 99 → tget T d = tget t d) → wp (exOps Try.prog r rest T w) Q) : wp (exOps Try.prog r (⟨true, none, some 106, 0, .fieldAddr 25 (.tmp 2) 5⟩ :: ⟨true, none, some 107, 23, .load 23 (.tmp 106)⟩ :: ⟨true, none, some 108, 3, .move (.tmp 12)⟩ :: ⟨true, none, some 109, 0, .indexAddr 23 (.tmp 107) (.tmp 108)⟩ :: ⟨true, none, some 110, 0, .fieldAddr 37 (.tmp 109) 0⟩ :: ⟨true, none, some 111, 3, .load 3 (.tmp 110)⟩ :: rest) t w) Q := by
  have hkl : k < R.near.length := by
    rw [List.getElem?_eq_some_iff] at hp
    exact hp.1
  obtain ⟨bk, off, sq, c, rfl, hra⟩ := hR.2.1.at_ k hkl
  have hld := hra.rd1 prC_length hp (j := 0) (x := .int .i64 p.1) rfl
  have hia := fun w => ia23 w ⟨bk, off, sq⟩ R.near.length c .i64 k hkl
  simp only [Nat.add_zero] at hld
  simp [t2, t12, g1, hia, hld]
  refine h _ (by simp) fun d hd => ?_
  have hne := ne3b d hd
  simp [hne]
theorem pre3b2 {rest} (B k : Nat) (p : Int × Int) (R : MRun) (wv nv : Value) (hR : RunV w R wv nv) (g1 : w.heap.get B = some (.cells [.int .i64 R.pods, .int .i64 R.boxes, .int .i64 R.few, .int .i64 R.delay, wv, nv] 25 false)) (hp : R.near[k]? = some p)
    (t2 : tget t 2 = .pointer (some ⟨B, 0, none⟩)) (t12 : tget t 12 = .int .i64 (k : Int))
    (h : ∀ T, tget T 118 = .int .i64 p.2 → tget T 112 = tget t 112 → (∀ d, d < 99 → tget T d = tget t d) → wp (exOps Try.prog r rest T w) Q) : wp (exOps Try.prog r (⟨true, none, some 113, 0, .fieldAddr 25 (.tmp 2) 5⟩ :: ⟨true, none, some 114, 23, .load 23 (.tmp 113)⟩ :: ⟨true, none, some 115, 3, .move (.tmp 12)⟩ :: ⟨true, none, some 116, 0, .indexAddr 23 (.tmp 114) (.tmp 115)⟩ :: ⟨true, none, some 117, 0, .fieldAddr 37 (.tmp 116) 1⟩ :: ⟨true, none, some 118, 3, .load 3 (.tmp 117)⟩ :: rest) t w) Q := by
  have hkl : k < R.near.length := by
    rw [List.getElem?_eq_some_iff] at hp
    exact hp.1
  obtain ⟨bk, off, sq, c, rfl, hra⟩ := hR.2.1.at_ k hkl
  have hld := hra.rd1 prC_length hp (j := 1) (x := .int .i64 p.2) rfl
  have hia := fun w => ia23 w ⟨bk, off, sq⟩ R.near.length c .i64 k hkl
  simp [t2, t12, g1, hia, hld]
  refine h _ (by simp) (by simp) fun d hd => ?_
  have hne := ne3b d hd
  simp [hne]
theorem ops3b_wp (B k a b : Nat) (R : MRun) (wv nv : Value) (hR : RunV w R wv nv) (g1 : w.heap.get B = some (.cells [.int .i64 R.pods, .int .i64 R.boxes, .int .i64 R.few, .int .i64 R.delay, wv, nv] 25 false)) (hp : R.near[k]? = some ((a : Int), (b : Int))) (ha : a ≤ 10) (hb : b ≤ 10)
    (t2 : tget t 2 = .pointer (some ⟨B, 0, none⟩)) (t12 : tget t 12 = .int .i64 (k : Int))
    (hQ : ∀ t', tget t' 13 = .int .i64 ((2 ^ a ||| 2 ^ b : Nat) : Int) → (∀ d, d < 99 → d ≠ 13 → tget t' d = tget t d) → Q .normal t' w) : wp (exOps Try.prog r ops3b t w) Q := by
  rw [ops3b]
  refine pre3b1 B k _ R wv nv hR g1 hp t2 t12 fun T k1 k2 => ?_
  rw [shl_any a ha k1]
  refine pre3b2 B k _ R wv nv hR g1 hp (by simp [k2 2 (by decide), t2]) (by simp [k2 12 (by decide), t12]) fun T' k3 k4 k5 => ?_
  have ha20 : 2 ^ a < 2 ^ 20 := Nat.pow_lt_pow_right (by decide) (by omega)
  have hb20 : 2 ^ b < 2 ^ 20 := Nat.pow_lt_pow_right (by decide) (by omega)
  rw [shl_any b hb k3, or_any (2 ^ a) (2 ^ b) ha20 hb20 (by simp [k4]) (by simp)]
  obtain ⟨y, hy⟩ : ∃ y, y = 2 ^ a ||| 2 ^ b := ⟨_, rfl⟩
  rw [← hy] at hQ ⊢
  simp
  refine hQ _ (by simp) fun d h1 h2 => ?_
  have hne := ne3b d h1
  have k5' := k5 d h1
  simp [hne, k2 d h1] at k5'
  simp [hne, h2, k5']
end Go.Proofs.Ytaffhippclpbpaa.walk

namespace Go.Proofs.Ytaffhippclpbpaa.walk
open Go Go.Sh
set_option maxRecDepth 100000
set_option linter.unusedSimpArgs false
set_option linter.unusedVariables false
/-! the law's loops -/
structure C3 (w : AW) (R : MRun) (wv nv : Value) (B T f : Nat) (lv pv : Value) (ls : List Nat) : Prop where
  hR : RunV w R wv nv
  g1 : w.heap.get B = some (.cells [.int .i64 R.pods, .int .i64 R.boxes, .int .i64 R.few, .int .i64 R.delay, wv, nv] 25 false)
  g2 : w.heap.get T = some (.cells [.int .i64 (f : Int), lv] 30 false)
  hv : RowsV natC w lv ls
  hp : RowsV natC w pv (plL R ls f R.days.length)
  ok : TruthOk R f ls
theorem pl20 {R : MRun} {ls : List Nat} {f : Nat} (h : TruthOk R f ls) (i : Nat) : plN R ls f i < 2 ^ 20 := by
  have := (runB_bnd h.run).p8
  exact p20 (n := R.pods.toNat) (by omega) (plN_lt h i)
theorem bx20 {R : MRun} (hb : Bnd R) {l : List Int} (hl : l ∈ R.days) (p : Nat) : ∀ m : Nat, bxB l p m < 2 ^ 20
  | 0 => by simp [bxB]
  | m + 1 => by
    unfold bxB
    cases hz : l[m]? with
    | none => exact bx20 hb hl p m
    | some z =>
      have := (hb.day l hl).2 z (List.mem_of_getElem? hz)
      have := hb.b5
      show (if _ then _ else _ : Nat) < _
      split
      · exact Nat.or_lt_two_pow (bx20 hb hl p m) (Nat.pow_lt_pow_right (by decide) (by omega))
      · exact bx20 hb hl p m
theorem both20 {R : MRun} (hb : Bnd R) {q : Int × Int} (hq : q ∈ R.near) : 2 ^ q.1.toNat ||| 2 ^ q.2.toNat < 2 ^ 20 := by
  have := hb.pair q hq
  have := hb.b5
  exact Nat.or_lt_two_pow (Nat.pow_lt_pow_right (by decide) (by omega)) (Nat.pow_lt_pow_right (by decide) (by omega))
theorem mr20 {R : MRun} (hb : Bnd R) (lk bx : Nat) : ∀ m : Nat, mrB R.near lk bx m < 2 ^ 20
  | 0 => by simp [mrB]
  | m + 1 => by
    unfold mrB
    cases hz : R.near[m]? with
    | none => exact mr20 hb lk bx m
    | some q =>
      show (if _ then _ else _ : Nat) < _
      split
      · exact Nat.or_lt_two_pow (mr20 hb lk bx m) (both20 hb (List.mem_of_getElem? hz))
      · exact mr20 hb lk bx m
variable {ov : Ov} {Q : Ex → Tm → AW → Prop} {t : Tm} {w : AW} {R : MRun} {wv nv lv pv : Value} {B T f : Nat} {ls : List Nat}
theorem loop3a (m : Nat) (h14 : HasP ov 14 S14.F) (C : C3 w R wv nv B T f lv pv ls) (D : Nat) (l : List Int) (hd : R.days[D]? = some l)
    (t2 : tget t 2 = .pointer (some ⟨B, 0, none⟩)) (t6 : tget t 6 = pv) (t8 : tget t 8 = .int .i64 (D : Int)) (t9 : tget t 9 = .int .i64 0) (t11 : tget t 11 = .int .i64 0)
    (hQ : ∀ t', tget t' 9 = .int .i64 ((bxB l (plN R ls f D) l.length : Nat) : Int) → (∀ d, d < 76 → d ≠ 9 → d ≠ 11 → tget t' d = tget t d) → Q .normal t' w) :
    wp (blockX 2 (exM Try.prog (run Try.prog ov (m + 1)) (.loop mc3_l1) t w)) Q := by
  have hb := runB_bnd C.ok.run
  have hml := List.mem_of_getElem? hd
  have hll := (hb.day l hml).1
  have p8 := hb.p8
  have d10 := hb.d10
  have hDl : D < R.days.length := by
    rw [List.getElem?_eq_some_iff] at hd
    exact hd.1
  refine wp_blockX (wp_rounds (fun i t' w' => w' = w ∧ tget t' 9 = .int .i64 ((bxB l (plN R ls f D) i : Nat) : Int) ∧ tget t' 11 = .int .i64 (i : Nat) ∧ i ≤ l.length ∧ (∀ d, d < 76 → d ≠ 9 → d ≠ 11 → tget t' d = tget t d)) 20 (by decide) ⟨rfl, by simpa [bxB] using t9, t11, Nat.zero_le _, fun _ _ _ _ => rfl⟩ ?_)
  rintro i t' w' ⟨rfl, s9, s11, hi, ht⟩
  have s2 := (ht 2 (by decide) (by decide) (by decide)).trans t2
  have s6 := (ht 6 (by decide) (by decide) (by decide)).trans t6
  have s8 := (ht 8 (by decide) (by decide) (by decide)).trans t8
  have g1 := C.g1
  have hw1 : IntKind.wrap .i64 ((i : Int) + 1) = (i : Int) + 1 := wrap64_in (by omega) (by omega)
  by_cases hlt : i < l.length
  · obtain ⟨z, hz⟩ : ∃ z, l[i]? = some z := ⟨_, List.getElem?_eq_getElem hlt⟩
    have hzb := (hb.day l hml).2 z (List.mem_of_getElem? hz)
    have hb5 := hb.b5
    obtain ⟨zn, hzn⟩ : ∃ zn : Nat, z = (zn : Int) := ⟨z.toNat, by omega⟩
    subst hzn
    have hltp : (i : Int) < R.pods := by omega
    obtain ⟨b, off, sq, c, hsl, hra⟩ := C.hp.at_ D (by rw [plL_len]; omega)
    have hld := hra.rd1 natC_length (plL_at (Nat.le_of_lt hDl)) (j := 0) (x := .int .i64 ((plN R ls f D : Nat) : Int)) rfl
    have hia := fun w => ia26 w ⟨b, off, sq⟩ (plL R ls f R.days.length).length c .i64 D (by rw [plL_len]; omega)
    rw [← hsl] at hia
    simp only [Nat.mul_one, Nat.add_zero] at hld hia
    have r14 := fun w => S14.call (P := Try.prog) h14 (m := m) (w := w) ⟨((plN R ls f D : Nat) : Int), (i : Int), rfl, by omega, rfl⟩
    rw [bit_nat (pl20 C.ok D) (by omega)] at r14
    have hnx : bxB l (plN R ls f D) (i + 1) = if (plN R ls f D).testBit i = true then bxB l (plN R ls f D) i ||| 2 ^ zn else bxB l (plN R ls f D) i := by
      rw [bxB, hz]; rfl
    simp [mc3_l1_eq, s2, s6, s8, s9, s11, g1, hltp, hia, hld, r14]
    refine wp_seqX (wp_blockX (cond3a_wp B D i (bxB l (plN R ls f D) i) zn ((plN R ls f D).testBit i) l R wv nv C.hR g1 hd hz (by omega) (bx20 hb hml (plN R ls f D) i) (by simp [s2]) (by simp [s8]) (by simp [s9]) (by simp [s11]) (by simp) fun t2' k1 k2 => ?_))
    rw [← hnx] at k1
    have k3 := k2 11 (by decide) (by decide)
    simp [s11] at k3
    simp [k3, hw1]
    refine ⟨by omega, k1, by omega, fun d h1 h2 h3 => ?_⟩
    have hne := ne3a d h1
    rw [← ht d h1 h2 h3]
    have k4 := k2 d h1 h2
    simp [hne] at k4
    simp [hne, h3, k4]
  · have hi' : i = l.length := by omega
    subst hi'
    have hltp : ¬ (l.length : Int) < R.pods := by omega
    simp [mc3_l1_eq, s2, s11, g1, hltp]
    refine hQ _ (by simpa using s9) fun d h1 h2 h3 => ?_
    have hne := ne3a d h1
    rw [← ht d h1 h2 h3]
    simp [hne]
theorem loop3b (m : Nat) (h14 : HasP ov 14 S14.F) (C : C3 w R wv nv B T f lv pv ls) (D : Nat) (k bx : Nat) (hk : ls[D]? = some k) (hbx : bx < 2 ^ 20)
    (t2 : tget t 2 = .pointer (some ⟨B, 0, none⟩)) (t5 : tget t 5 = .pointer (some ⟨T, 0, none⟩)) (t8 : tget t 8 = .int .i64 (D : Int)) (t9 : tget t 9 = .int .i64 (bx : Int)) (t10 : tget t 10 = .int .i64 0) (t12 : tget t 12 = .int .i64 0)
    (hQ : ∀ t', tget t' 10 = .int .i64 ((mrB R.near k bx R.near.length : Nat) : Int) → (∀ d, d < 99 → d ≠ 10 → d ≠ 12 → d ≠ 13 → tget t' d = tget t d) → Q .normal t' w) :
    wp (blockX 4 (exM Try.prog (run Try.prog ov (m + 1)) (.loop mc3_l2) t w)) Q := by
  have hb := runB_bnd C.ok.run
  have n4 := hb.n4
  have hb5 := hb.b5
  have hkl := C.ok.all k (List.mem_of_getElem? hk)
  have hk20 : k < 2 ^ 20 := Nat.lt_of_lt_of_le hkl (Nat.pow_le_pow_right (by decide) (by omega))
  have hDl : D < ls.length := by
    rw [List.getElem?_eq_some_iff] at hk
    exact hk.1
  have hl23 := fun w2 => len23V (w' := w2) C.hR.2.1
  refine wp_blockX (wp_rounds (fun i t' w' => w' = w ∧ tget t' 10 = .int .i64 ((mrB R.near k bx i : Nat) : Int) ∧ tget t' 12 = .int .i64 (i : Nat) ∧ i ≤ R.near.length ∧ (∀ d, d < 99 → d ≠ 10 → d ≠ 12 → d ≠ 13 → tget t' d = tget t d)) 20 (by decide) ⟨rfl, by simpa [mrB] using t10, t12, Nat.zero_le _, fun _ _ _ _ _ => rfl⟩ ?_)
  rintro i t' w' ⟨rfl, s10, s12, hi, ht⟩
  have s2 := (ht 2 (by decide) (by decide) (by decide) (by decide)).trans t2
  have s5 := (ht 5 (by decide) (by decide) (by decide) (by decide)).trans t5
  have s8 := (ht 8 (by decide) (by decide) (by decide) (by decide)).trans t8
  have s9 := (ht 9 (by decide) (by decide) (by decide) (by decide)).trans t9
  have g1 := C.g1
  have g2 := C.g2
  have hw1 : IntKind.wrap .i64 ((i : Int) + 1) = (i : Int) + 1 := wrap64_in (by omega) (by omega)
  by_cases hlt : i < R.near.length
  · obtain ⟨q, hq⟩ : ∃ z, R.near[i]? = some z := ⟨_, List.getElem?_eq_getElem hlt⟩
    have hqm := List.mem_of_getElem? hq
    have hqb := hb.pair q hqm
    have hboth := both20 hb hqm
    obtain ⟨a, ha⟩ : ∃ a : Nat, q.1 = (a : Int) := ⟨q.1.toNat, by omega⟩
    obtain ⟨b, hbb⟩ : ∃ a : Nat, q.2 = (a : Int) := ⟨q.2.toNat, by omega⟩
    have hq' : R.near[i]? = some ((a : Int), (b : Int)) := by rw [hq, ← ha, ← hbb]
    have hnx : mrB R.near k bx (i + 1) = if k.testBit i = true ∧ bx &&& (2 ^ a ||| 2 ^ b) ≠ 0 then mrB R.near k bx i ||| (2 ^ a ||| 2 ^ b) else mrB R.near k bx i := by
      rw [mrB, hq']; rfl
    rw [ha, hbb, Int.toNat_natCast, Int.toNat_natCast] at hboth
    obtain ⟨bk, off, sq, c, hlv, hra⟩ := C.hv.at_ D hDl
    have hld := hra.rd1 natC_length hk (j := 0) (x := .int .i64 (k : Int)) rfl
    have hia := fun w => ia26 w ⟨bk, off, sq⟩ ls.length c .i64 D hDl
    rw [← hlv] at hia
    simp only [Nat.mul_one, Nat.add_zero] at hld hia
    have r14 := fun w => S14.call (P := Try.prog) h14 (m := m) (w := w) ⟨(k : Int), (i : Int), rfl, by omega, rfl⟩
    rw [bit_nat hk20 (by omega)] at r14
    simp [mc3_l2_eq, s2, s12, g1, hl23, hlt]
    refine wp_seqX (wp_blockX (wp_seqX (ops3b_wp B i a b R wv nv C.hR g1 hq' (by omega) (by omega) (by simp [s2]) (by simp [s12]) fun t2' k1 k2 => ?_)))
    have p5 := k2 5 (by decide) (by decide)
    have p8 := k2 8 (by decide) (by decide)
    have p9 := k2 9 (by decide) (by decide)
    have p10 := k2 10 (by decide) (by decide)
    have p12 := k2 12 (by decide) (by decide)
    simp [s5, s8, s9, s10, s12] at p5 p8 p9 p10 p12
    obtain ⟨u, hu⟩ : ∃ u, u = 2 ^ a ||| 2 ^ b := ⟨_, rfl⟩
    obtain ⟨x, hx⟩ : ∃ x, x = mrB R.near k bx i := ⟨_, rfl⟩
    have hx20 := mr20 hb k bx i
    rw [← hu] at hboth hnx k1
    rw [← hx] at hnx p10 hx20
    have han := an_nat hbx hboth
    have hor := or_nat hx20 hboth
    obtain ⟨av, hav⟩ : ∃ av, av = bx &&& u := ⟨_, rfl⟩
    rw [← hav] at han hnx
    have fin : ∀ d, d < 99 → d ≠ 10 → d ≠ 12 → d ≠ 13 → tget t2' d = tget t d := fun d h1 h2 h3 h4 => by
      have hne := ne3b d h1
      have k4 := k2 d h1 h4
      rw [k4, ← ht d h1 h2 h3 h4]
      have : ¬ d = 99 := hne.1
      simp [hne]
    by_cases hbit : k.testBit i = true
    · rw [hbit] at r14
      by_cases hm : av = 0
      · rw [if_neg (fun h => h.2 hm)] at hnx
        subst hm
        simp [k1, p5, p8, p9, p10, p12, g2, hia, hld, r14, han, hw1, hnx]
        refine ⟨by omega, by omega, fun d h1 h2 h3 h4 => ?_⟩
        have hne := ne3b d h1
        rw [← fin d h1 h2 h3 h4]
        simp [hne, h3]
      · rw [if_pos ⟨hbit, hm⟩] at hnx
        rw [← hnx] at hor
        have hm' : ¬ (av : Int) = 0 := by omega
        simp [k1, p5, p8, p9, p10, p12, g2, hia, hld, r14, han, hm, hm', hor, hw1]
        refine ⟨by omega, by omega, fun d h1 h2 h3 h4 => ?_⟩
        have hne := ne3b d h1
        rw [← fin d h1 h2 h3 h4]
        simp [hne, h2, h3]
    · rw [if_neg (fun h => hbit h.1)] at hnx
      simp only [Bool.not_eq_true] at hbit
      rw [hbit] at r14
      simp [k1, p5, p8, p9, p10, p12, g2, hia, hld, r14, hw1, hnx]
      refine ⟨by omega, by omega, fun d h1 h2 h3 h4 => ?_⟩
      have hne := ne3b d h1
      rw [← fin d h1 h2 h3 h4]
      simp [hne, h3]
  · have hi' : i = R.near.length := by omega
    subst hi'
    simp [mc3_l2_eq, s2, s12, g1, hl23]
    refine hQ _ (by simpa using s10) fun d h1 h2 h3 h4 => ?_
    have hne := ne3b d h1
    rw [← ht d h1 h2 h3 h4]
    simp [hne]
end Go.Proofs.Ytaffhippclpbpaa.walk

namespace Go.Proofs.Ytaffhippclpbpaa.walk
open Go Go.Sh
set_option maxRecDepth 100000
set_option linter.unusedSimpArgs false
set_option linter.unusedVariables false
variable {ov : Ov} {Q : Ex → Tm → AW → Prop} {t : Tm} {w : AW} {R : MRun} {wv nv lv pv : Value} {B T f : Nat} {ls : List Nat}
theorem ne3c (d : Nat) (h : d < 76) : ¬ d = 137 ∧ ¬ d = 138 ∧ ¬ d = 139 ∧ ¬ d = 140 ∧ ¬ d = 141 ∧ ¬ d = 142 ∧ ¬ d = 143 ∧ ¬ d = 144 ∧ ¬ d = 145 ∧ ¬ d = 146 ∧ ¬ d = 147 ∧ ¬ d = 148 ∧ ¬ d = 149 ∧ ¬ d = 150 ∧ ¬ d = 151 ∧ ¬ d = 152 ∧ ¬ d = 153 ∧ ¬ d = 154 ∧ ¬ d = 155 ∧ ¬ d = 156 ∧ ¬ d = 157 ∧ ¬ d = 158 ∧ ¬ d = 159 ∧ ¬ d = 160 ∧ ¬ d = 161 ∧ ¬ d = 162 := by omega
theorem loop3c (m : Nat) (h14 : HasP ov 14 S14.F) (C : C3 w R wv nv B T f lv pv ls) (D : Nat) (l : List Int) (hd : R.days[D]? = some l) (bx mr : Nat) (hbx : bx < 2 ^ 20) (hmr : mr < 2 ^ 20)
    (hlaw : ∀ (k : Nat) (z : Int), k < l.length → l[k]? = some z → (plN R ls f (D + 1)).testBit k = (bx ||| mr).testBit z.toNat)
    (t2 : tget t 2 = .pointer (some ⟨B, 0, none⟩)) (t6 : tget t 6 = pv) (t8 : tget t 8 = .int .i64 (D : Int)) (t9 : tget t 9 = .int .i64 (bx : Int)) (t10 : tget t 10 = .int .i64 (mr : Int)) (t14 : tget t 14 = .int .i64 0)
    (hQ : ∀ t', (∀ d, d < 76 → d ≠ 14 → tget t' d = tget t d) → Q .normal t' w) :
    wp (blockX 6 (exM Try.prog (run Try.prog ov (m + 1)) (.loop mc3_l3) t w)) Q := by
  have hb := runB_bnd C.ok.run
  have hml := List.mem_of_getElem? hd
  have hll := (hb.day l hml).1
  have p8 := hb.p8
  have d10 := hb.d10
  have hb5 := hb.b5
  have hDl : D < R.days.length := by
    rw [List.getElem?_eq_some_iff] at hd
    exact hd.1
  refine wp_blockX (wp_rounds (fun i t' w' => w' = w ∧ tget t' 14 = .int .i64 (i : Nat) ∧ i ≤ l.length ∧ (∀ d, d < 76 → d ≠ 14 → tget t' d = tget t d)) 20 (by decide) ⟨rfl, t14, Nat.zero_le _, fun _ _ _ => rfl⟩ ?_)
  rintro i t' w' ⟨rfl, s14, hi, ht⟩
  have s2 := (ht 2 (by decide) (by decide)).trans t2
  have s6 := (ht 6 (by decide) (by decide)).trans t6
  have s8 := (ht 8 (by decide) (by decide)).trans t8
  have s9 := (ht 9 (by decide) (by decide)).trans t9
  have s10 := (ht 10 (by decide) (by decide)).trans t10
  have g1 := C.g1
  have hw1 : IntKind.wrap .i64 ((i : Int) + 1) = (i : Int) + 1 := wrap64_in (by omega) (by omega)
  have hwD : IntKind.wrap .i64 ((D : Int) + 1) = (D : Int) + 1 := wrap64_in (by omega) (by omega)
  by_cases hlt : i < l.length
  · obtain ⟨z, hz⟩ : ∃ z, l[i]? = some z := ⟨_, List.getElem?_eq_getElem hlt⟩
    have hzb := (hb.day l hml).2 z (List.mem_of_getElem? hz)
    have hlw := hlaw i z hlt hz
    obtain ⟨zn, hzn⟩ : ∃ zn : Nat, z = (zn : Int) := ⟨z.toNat, by omega⟩
    subst hzn
    rw [Int.toNat_natCast] at hlw
    have hltp : (i : Int) < R.pods := by omega
    obtain ⟨b, off, sq, c, hsl, hra⟩ := C.hp.at_ (D + 1) (by rw [plL_len]; omega)
    have hld := hra.rd1 natC_length (plL_at (show D + 1 ≤ R.days.length by omega)) (j := 0) (x := .int .i64 ((plN R ls f (D + 1) : Nat) : Int)) rfl
    have hia : ∀ w, indexAddrA Try.prog w 26 (.slice (some ⟨b, off, sq⟩) (plL R ls f R.days.length).length c) (.int .i64 ((D : Int) + 1)) = .val (.pointer (some ((⟨b, off, sq⟩ : Addr).add ((D + 1) * 1)))) w := fun w => by
      rw [show ((D : Int) + 1) = ((D + 1 : Nat) : Int) by omega]
      exact ia26 w ⟨b, off, sq⟩ (plL R ls f R.days.length).length c .i64 (D + 1) (by rw [plL_len]; omega)
    rw [← hsl] at hia
    simp only [Nat.mul_one, Nat.add_zero] at hld hia
    obtain ⟨⟨vs, hvs, hrel⟩, _⟩ := C.hR
    obtain ⟨v, hv, hrow⟩ := hrel.at hd
    have hdl : D < vs.length := by
      rw [List.getElem?_eq_some_iff] at hv
      exact hv.1
    obtain ⟨bk, off1, sq1, c1, hwv, hra1⟩ := hvs.at_ D hdl
    have hld1 := hra1.rd1 valC_length hv (j := 0) (x := v) rfl
    have hia1 := fun w => ia22 w ⟨bk, off1, sq1⟩ vs.length c1 .i64 D hdl
    rw [← hwv] at hia1
    obtain ⟨b2, off2, sq2, c2, hv2, hra2⟩ := hrow.at_ i hlt
    have hld2 := hra2.int hz
    have hia2 := fun w => ia26 w ⟨b2, off2, sq2⟩ l.length c2 .i64 i hlt
    rw [← hv2] at hia2
    simp only [Nat.mul_one, Nat.add_zero] at hld1 hia1 hia2
    have hsv : sameVal 5 v v = true := by rw [hv2]; exact sameN_slice 4 _ _ _
    have hswv : sameVal 5 wv wv = true := by rw [hwv]; exact sameN_slice 4 _ _ _
    have hor := or_nat hbx hmr
    have hbm : bx ||| mr < 2 ^ 20 := Nat.or_lt_two_pow hbx hmr
    obtain ⟨u, hu⟩ : ∃ u, u = bx ||| mr := ⟨_, rfl⟩
    obtain ⟨y, hy⟩ : ∃ y, y = plN R ls f (D + 1) := ⟨_, rfl⟩
    rw [← hu] at hor hbm hlw
    have hy20 := pl20 C.ok (D + 1)
    rw [← hy] at hld hlw hy20
    have r14a := fun w => S14.call (P := Try.prog) h14 (m := m) (w := w) ⟨(y : Int), (i : Int), rfl, by omega, rfl⟩
    have r14b := fun w => S14.call (P := Try.prog) h14 (m := m) (w := w) ⟨(u : Int), (zn : Int), rfl, by omega, rfl⟩
    rw [bit_nat hy20 (by omega), hlw] at r14a
    rw [bit_nat hbm (by omega)] at r14b
    obtain ⟨e, he⟩ : ∃ e, e = u.testBit zn := ⟨_, rfl⟩
    rw [← he] at r14a r14b
    simp [mc3_l3, s2, s6, s8, s9, s10, s14, g1, hltp, hwD, hia, hld, hia1, hld1, hia2, hld2, hor, r14a, r14b, sameN_int, hsv, hswv, hw1]
    refine ⟨by omega, by omega, fun d h1 h2 => ?_⟩
    have hne := ne3c d h1
    rw [← ht d h1 h2]
    simp [hne, h2]
  · have hi' : i = l.length := by omega
    subst hi'
    have hltp : ¬ (l.length : Int) < R.pods := by omega
    simp [mc3_l3, s2, s14, g1, hltp]
    refine hQ _ fun d h1 h2 => ?_
    have hne := ne3c d h1
    rw [← ht d h1 h2]
    simp [hne]
end Go.Proofs.Ytaffhippclpbpaa.walk
