/- Part of a proof by a machine of ones own: see the text with the theorem. -/
import Derived.Test.YtaffhippclpbpaaMT
import Derived.Test.YtaffhippclpbpaaMWa
namespace Go.Proofs.Ytaffhippclpbpaa.walk
open Go Go.Sh
set_option maxRecDepth 100000
set_option linter.unusedSimpArgs false
/-! mould: what small functions say -/
theorem len22V {w w' : AW} {v : Value} {l : List Value} {f : Value → List Value} (h : RowsV f w v l) : lenB Try.prog w' 22 v = .val (.int .i64 (l.length : Nat)) w' := by
  obtain ⟨a, c, rfl⟩ := h.len; simp
theorem len23V {w w' : AW} {v : Value} {l : List (Int × Int)} {f : Int × Int → List Value} (h : RowsV f w v l) : lenB Try.prog w' 23 v = .val (.int .i64 (l.length : Nat)) w' := by
  obtain ⟨a, c, rfl⟩ := h.len; simp
theorem len26V {α : Type} {w w' : AW} {v : Value} {l : List α} {f : α → List Value} (h : RowsV f w v l) : lenB Try.prog w' 26 v = .val (.int .i64 (l.length : Nat)) w' := by
  obtain ⟨a, c, rfl⟩ := h.len; simp
def natC (n : Nat) : List Value := [.int .i64 (n : Int)]
@[simp] theorem natC_length (n : Nat) : (natC n).length = 1 := rfl
theorem natC_inj (a b : Nat) (h : natC a = natC b) : a = b := by
  simp [natC] at h
  omega
def prC (p : Int × Int) : List Value := [.int .i64 p.1, .int .i64 p.2]
@[simp] theorem prC_length (p : Int × Int) : (prC p).length = 2 := rfl
theorem prC_inj (a b : Int × Int) (h : prC a = prC b) : a = b := by
  simp [prC] at h
  exact Prod.ext h.1 h.2
def valC (v : Value) : List Value := [v]
@[simp] theorem valC_length (v : Value) : (valC v).length = 1 := rfl
theorem valC_inj (a b : Value) (h : valC a = valC b) : a = b := by simpa [valC] using h
def inI (a n b : Int) : Bool := decide (a ≤ n) && decide (n ≤ b)
def S24 : PSpec where
  R args _ v := ∃ n a b : Int, args = [.int .i64 n, .int .i64 a, .int .i64 b] ∧ v = .bool (inI a n b)
  uniq := by rintro _ _ _ _ ⟨n, a, b, rfl, rfl⟩ ⟨_, _, _, h, rfl⟩; cases h; rfl
  shut h := h
theorem run24 {ov : Ov} (ho : ∀ args w, ov 24 args w = none) (n a b : Int) (w : AW) : ∃ v w', (run Try.prog ov 2).call 24 [.int .i64 n, .int .i64 a, .int .i64 b] w .none = .ok (.ret v) w' .none ∧ v = .bool (inI a n b) := by
  refine call_wp text24 (by simp) (ho _ _) ?_
  by_cases h1 : a ≤ n <;> simp [mc24, h1, tupV, inI]
theorem run48 {ov : Ov} (ho : ∀ args w, ov 48 args w = none) (n a b : Int) (w : AW) : ∃ v w', (run Try.prog ov 2).call 48 [.int .i64 n, .int .i64 a, .int .i64 b] w .none = .ok (.ret v) w' .none ∧ v = .bool (inI a n b) := by
  refine call_wp text48 (by simp) (ho _ _) ?_
  by_cases h1 : a ≤ n <;> simp [mc48, h1, tupV, inI]
def S14 : PSpec where
  R args _ v := ∃ s k : Int, args = [.int .i64 s, .int .i64 k] ∧ 0 ≤ k ∧ v = .bool (bitB s k)
  uniq := by rintro _ _ _ _ ⟨n, a, rfl, _, rfl⟩ ⟨_, _, h, _, rfl⟩; cases h; rfl
  shut h := h
theorem run14 {ov : Ov} (ho : ∀ args w, ov 14 args w = none) (s k : Int) (hk : 0 ≤ k) (w : AW) : ∃ v w', (run Try.prog ov 2).call 14 [.int .i64 s, .int .i64 k] w .none = .ok (.ret v) w' .none ∧ v = .bool (bitB s k) := by
  refine call_wp text14 (by simp) (ho _ _) ?_
  simp [mc14, bin_shr (h := hk), tupV, bitB]
def wrapI (n s : Int) : Int := if s < 1 then 0 else (n.tmod s + s).tmod s
theorem wrapI_bd {n s : Int} (h : 1 ≤ s) : 0 ≤ wrapI n s ∧ wrapI n s < s := by
  have b1 := Int.lt_tmod_of_pos n (show 0 < s by omega)
  unfold wrapI
  rw [if_neg (by omega)]
  exact ⟨Int.tmod_nonneg _ (by omega), Int.tmod_lt_of_pos _ (by omega)⟩
def S16 : PSpec where
  R args _ v := ∃ n s : Int, args = [.int .i64 n, .int .i64 s] ∧ s ≤ 2 ^ 60 ∧ v = .int .i64 (wrapI n s)
  uniq := by rintro _ _ _ _ ⟨n, s, rfl, _, rfl⟩ ⟨_, _, h, _, rfl⟩; cases h; rfl
  shut h := h
theorem run16 {ov : Ov} (ho : ∀ args w, ov 16 args w = none) (n s : Int) (hs : s ≤ 2 ^ 60) (w : AW) : ∃ v w', (run Try.prog ov 2).call 16 [.int .i64 n, .int .i64 s] w .none = .ok (.ret v) w' .none ∧ v = .int .i64 (wrapI n s) := by
  refine call_wp text16 (by simp) (ho _ _) ?_
  by_cases h1 : s < 1
  · simp [mc16, h1, tupV, wrapI]
  · have b1 := Int.lt_tmod_of_pos n (show 0 < s by omega)
    have b2 := Int.tmod_lt_of_pos n (show 0 < s by omega)
    have hr := fun (a : Int) (c : Bool) w => bin_rem (P := Try.prog) (w := w) 3 c .i64 a s (by omega)
    have w1 : IntKind.wrap .i64 (n.tmod s + s) = n.tmod s + s := wrap64_in (by omega) (by omega)
    simp [mc16, h1, tupV, wrapI, hr, w1]
def nthI (L : List Int) (i : Int) : Int := match L[(wrapI i L.length).toNat]? with | some z => z | none => 0
def S29 : PSpec where
  R args w v := ∃ (lv : Value) (L : List Int) (i : Int), args = [lv, .int .i64 i] ∧ RowsV intC w lv L ∧ L.length ≤ 2 ^ 60 ∧ v = .int .i64 (nthI L i)
  uniq := by
    rintro _ _ _ _ ⟨lv, L, i, rfl, h, _, rfl⟩ ⟨_, L', _, e, h', _, rfl⟩
    cases e
    rw [h.uniq (m := 1) intC_length intC_inj h']
  shut h := h
theorem run29 {ov : Ov} (ho : ∀ args w, ov 29 args w = none) (h16 : HasP ov 16 S16.F) (v : Value) (L : List Int) (i : Int) (w : AW) (hv : RowsV intC w v L) (hs : L.length ≤ 2 ^ 60) : ∃ x w', (run Try.prog ov 2).call 29 [v, .int .i64 i] w .none = .ok (.ret x) w' .none ∧ x = .int .i64 (nthI L i) := by
  refine call_wp text29 (by simp) (ho _ _) ?_
  have hl := fun w2 => len26V (w' := w2) hv
  have r16 := fun w => S16.call1 (P := Try.prog) h16 (w := w) ⟨i, L.length, rfl, by omega, rfl⟩
  by_cases h0 : L.length = 0
  · have : L = [] := List.eq_nil_of_length_eq_zero h0
    subst this
    simp at hl
    simp [mc29, hl, tupV, nthI]
  · have hb := wrapI_bd (n := i) (s := L.length) (by omega)
    obtain ⟨k, hk⟩ : ∃ k : Nat, (k : Int) = wrapI i L.length := ⟨(wrapI i L.length).toNat, by omega⟩
    have hkl : k < L.length := by omega
    obtain ⟨z, hz⟩ : ∃ z, L[k]? = some z := ⟨_, List.getElem?_eq_getElem hkl⟩
    obtain ⟨b, off, sq, c, rfl, hr⟩ := hv.at_ k hkl
    have hld := hr.int hz
    have hia := fun w => ia26 w ⟨b, off, sq⟩ L.length c .i64 k hkl
    simp only [Nat.mul_one] at hia
    rw [← hk] at r16
    have hn : nthI L i = z := by
      unfold nthI
      rw [← hk, Int.toNat_natCast, hz]
    have h0' : ¬ (L.length : Int) = 0 := by omega
    simp [mc29, hl, h0, h0', r16, hia, hld, tupV, hn]
def S64 : PSpec where
  R args _ v := ∃ a b : Nat, args = [.int .i64 a, .int .i64 b] ∧ a < 2 ^ 20 ∧ b < 2 ^ 20 ∧ v = .bool (decide (a &&& b ≠ 0))
  uniq := by
    rintro _ _ _ _ ⟨n, a, rfl, _, _, rfl⟩ ⟨n', a', h, _, _, rfl⟩
    simp at h
    have h1 : n = n' := by omega
    have h2 : a = a' := by omega
    subst h1; subst h2; rfl
  shut h := h
theorem run64 {ov : Ov} (ho : ∀ args w, ov 64 args w = none) (a b : Nat) (ha : a < 2 ^ 20) (hb : b < 2 ^ 20) (w : AW) : ∃ v w', (run Try.prog ov 2).call 64 [.int .i64 a, .int .i64 b] w .none = .ok (.ret v) w' .none ∧ v = .bool (decide (a &&& b ≠ 0)) := by
  refine call_wp text64 (by simp) (ho _ _) ?_
  have e := an_nat ha hb
  by_cases h : a &&& b = 0
  · rw [h] at e
    simp [mc64, e, tupV, h]
  · have h' : ¬ ((a &&& b : Nat) : Int) = 0 := by omega
    simp [mc64, e, tupV, h]
    try omega
def S65 : PSpec where
  R args _ v := ∃ a : Nat, args = [.int .i64 a] ∧ a ≤ 10 ∧ v = .int .i64 ((2 ^ a : Nat) : Int)
  uniq := by
    rintro _ _ _ _ ⟨n, rfl, _, rfl⟩ ⟨n', h, _, rfl⟩
    simp at h
    have h1 : n = n' := by omega
    subst h1; rfl
  shut h := h
theorem run65 {ov : Ov} (ho : ∀ args w, ov 65 args w = none) (a : Nat) (ha : a ≤ 10) (w : AW) : ∃ v w', (run Try.prog ov 2).call 65 [.int .i64 a] w .none = .ok (.ret v) w' .none ∧ v = .int .i64 ((2 ^ a : Nat) : Int) := by
  refine call_wp text65 (by simp) (ho _ _) ?_
  have e := fun (w : AW) s c => shl_nat (P := Try.prog) (w := w) s c a ha
  simp [mc65, e, tupV]
def S61 : PSpec where
  R args _ v := ∃ (n : Int) (a : Nat), args = [.int .i64 n, .int .i64 a] ∧ a ≤ 10 ∧ v = .bool (inI 0 n (((2 ^ a : Nat) : Int) - 1))
  uniq := by
    rintro _ _ _ _ ⟨z, n, rfl, _, rfl⟩ ⟨z', n', h, _, rfl⟩
    simp at h
    obtain ⟨h0, h⟩ := h
    have h1 : n = n' := by omega
    subst h1; subst h0; rfl
  shut h := h
theorem pow_le10 {a : Nat} (ha : a ≤ 10) : 2 ^ a ≤ 1024 := Nat.pow_le_pow_right (n := 2) (by decide) ha
theorem run61 {ov : Ov} (ho : ∀ args w, ov 61 args w = none) (h48 : HasP ov 48 S24.F) (n : Int) (a : Nat) (ha : a ≤ 10) (w : AW) : ∃ v w', (run Try.prog ov 2).call 61 [.int .i64 n, .int .i64 a] w .none = .ok (.ret v) w' .none ∧ v = .bool (inI 0 n (((2 ^ a : Nat) : Int) - 1)) := by
  refine call_wp text61 (by simp) (ho _ _) ?_
  have e := fun (w : AW) s c => shl_nat (P := Try.prog) (w := w) s c a ha
  have hp := pow_le10 ha
  obtain ⟨q, hq⟩ : ∃ q : Nat, q = 2 ^ a := ⟨_, rfl⟩
  rw [← hq] at hp
  simp only [← hq] at e ⊢
  have w1 : IntKind.wrap .i64 ((q : Int) - 1) = (q : Int) - 1 := wrap64_in (by omega) (by omega)
  have r48 := fun w => S24.call1 (P := Try.prog) h48 (w := w) ⟨n, 0, (q : Int) - 1, rfl, rfl⟩
  simp [mc61, e, w1, r48, tupV]
def S73 : PSpec where
  R args _ v := ∃ a : Nat, args = [.int .u64 a] ∧ a < 256 ∧ v = .int .i64 (popN a : Nat)
  uniq := by
    rintro _ _ _ _ ⟨n, rfl, _, rfl⟩ ⟨n', h, _, rfl⟩
    simp at h
    have h1 : n = n' := by omega
    subst h1; rfl
  shut h := h
theorem run73 {ov : Ov} (ho : ∀ args w, ov 73 args w = none) (h76 : HasP ov 76 S73.F) (a : Nat) (ha : a < 256) (w : AW) : ∃ v w', (run Try.prog ov 2).call 73 [.int .u64 a] w .none = .ok (.ret v) w' .none ∧ v = .int .i64 (popN a : Nat) := by
  refine call_wp text73 (by simp) (ho _ _) ?_
  have r76 := fun w => S73.call1 (P := Try.prog) h76 (w := w) ⟨a, rfl, ha, rfl⟩
  simp [mc73, r76, tupV]
def S62 : PSpec where
  R args _ v := ∃ a : Nat, args = [.int .i64 a] ∧ a < 256 ∧ v = .int .i64 (popN a : Nat)
  uniq := by
    rintro _ _ _ _ ⟨n, rfl, _, rfl⟩ ⟨n', h, _, rfl⟩
    simp at h
    have h1 : n = n' := by omega
    subst h1; rfl
  shut h := h
theorem run62 {ov : Ov} (ho : ∀ args w, ov 62 args w = none) (h73 : HasP ov 73 S73.F) (a : Nat) (ha : a < 256) (w : AW) : ∃ v w', (run Try.prog ov 2).call 62 [.int .i64 a] w .none = .ok (.ret v) w' .none ∧ v = .int .i64 (popN a : Nat) := by
  refine call_wp text62 (by simp) (ho _ _) ?_
  have r73 := fun w => S73.call1 (P := Try.prog) h73 (w := w) ⟨a, rfl, ha, rfl⟩
  have e : IntKind.wrap .u64 (a : Int) = (a : Int) := by
    have : ∀ a : Nat, a < 256 → IntKind.wrap .u64 (a : Int) = (a : Int) := by decide +kernel
    exact this a ha
  simp [mc62, e, r73, tupV]
end Go.Proofs.Ytaffhippclpbpaa.walk

namespace Go.Proofs.Ytaffhippclpbpaa.walk
open Go Go.Sh
set_option maxRecDepth 100000
set_option linter.unusedSimpArgs false
noncomputable def bl1 (rest : MC) : MC := .seq (.ops [⟨false, none, some 3, 119, .move (.tmp 0)⟩, ⟨false, none, some 4, 119, .binOp .shr 119 (.tmp 3) (.const (.int .u64 1)) 114⟩, ⟨false, none, some 5, 119, .binOp .and 119 (.tmp 4) (.const (.int .u64 6148914691236517205)) 119⟩, ⟨false, none, some 6, 119, .move (.tmp 0)⟩, ⟨false, none, some 7, 119, .binOp .and 119 (.tmp 6) (.const (.int .u64 6148914691236517205)) 119⟩, ⟨false, none, some 8, 119, .binOp .add 119 (.tmp 5) (.tmp 7) 119⟩, ⟨false, none, some 0, 119, .assign (.tmp 8)⟩]) rest
noncomputable def bl2 (rest : MC) : MC := .seq (.ops [⟨false, none, some 9, 119, .move (.tmp 0)⟩, ⟨false, none, some 10, 119, .binOp .shr 119 (.tmp 9) (.const (.int .u64 2)) 114⟩, ⟨false, none, some 11, 119, .binOp .and 119 (.tmp 10) (.const (.int .u64 3689348814741910323)) 119⟩, ⟨false, none, some 12, 119, .move (.tmp 0)⟩, ⟨false, none, some 13, 119, .binOp .and 119 (.tmp 12) (.const (.int .u64 3689348814741910323)) 119⟩, ⟨false, none, some 14, 119, .binOp .add 119 (.tmp 11) (.tmp 13) 119⟩, ⟨false, none, some 0, 119, .assign (.tmp 14)⟩]) rest
noncomputable def bl3 (rest : MC) : MC := .seq (.ops [⟨false, none, some 15, 119, .move (.tmp 0)⟩, ⟨false, none, some 16, 119, .binOp .shr 119 (.tmp 15) (.const (.int .u64 4)) 114⟩, ⟨false, none, some 17, 119, .move (.tmp 0)⟩, ⟨false, none, some 18, 119, .binOp .add 119 (.tmp 16) (.tmp 17) 119⟩, ⟨false, none, some 19, 119, .binOp .and 119 (.tmp 18) (.const (.int .u64 1085102592571150095)) 119⟩, ⟨false, none, some 0, 119, .assign (.tmp 19)⟩]) rest
noncomputable def bl4 (rest : MC) : MC := .seq (.ops [⟨false, none, some 20, 119, .move (.tmp 0)⟩, ⟨false, none, some 21, 119, .move (.tmp 0)⟩, ⟨false, none, some 22, 119, .binOp .shr 119 (.tmp 21) (.const (.int .u64 8)) 114⟩, ⟨false, none, some 23, 119, .binOp .add 119 (.tmp 20) (.tmp 22) 119⟩, ⟨false, none, some 0, 119, .assign (.tmp 23)⟩]) rest
noncomputable def bl5 (rest : MC) : MC := .seq (.ops [⟨false, none, some 24, 119, .move (.tmp 0)⟩, ⟨false, none, some 25, 119, .move (.tmp 0)⟩, ⟨false, none, some 26, 119, .binOp .shr 119 (.tmp 25) (.const (.int .u64 16)) 114⟩, ⟨false, none, some 27, 119, .binOp .add 119 (.tmp 24) (.tmp 26) 119⟩, ⟨false, none, some 0, 119, .assign (.tmp 27)⟩]) rest
noncomputable def bl6 (rest : MC) : MC := .seq (.ops [⟨false, none, some 28, 119, .move (.tmp 0)⟩, ⟨false, none, some 29, 119, .move (.tmp 0)⟩, ⟨false, none, some 30, 119, .binOp .shr 119 (.tmp 29) (.const (.int .u64 32)) 114⟩, ⟨false, none, some 31, 119, .binOp .add 119 (.tmp 28) (.tmp 30) 119⟩, ⟨false, none, some 0, 119, .assign (.tmp 31)⟩]) rest
noncomputable def bl7 : MC := .seq (.ops [⟨false, none, some 32, 119, .move (.tmp 0)⟩, ⟨false, none, some 33, 3, .convert 119 3 (.tmp 32)⟩, ⟨false, none, some 34, 3, .binOp .and 3 (.tmp 33) (.const (.int .i64 127)) 3⟩, ⟨false, none, some 2, 3, .assign (.tmp 34)⟩]) (.ret)
theorem mc76_eq : mc76 = .seq (.ops [⟨false, none, some 2, 3, .assign (.const (.int .i64 0))⟩]) (bl1 (bl2 (bl3 (bl4 (bl5 (bl6 bl7)))))) := rfl
def e1 (x : Int) : Int := IntKind.wrap .u64 (anK .u64 (shK .u64 x 1) 6148914691236517205 + anK .u64 x 6148914691236517205)
def e2 (x : Int) : Int := IntKind.wrap .u64 (anK .u64 (shK .u64 x 2) 3689348814741910323 + anK .u64 x 3689348814741910323)
def e3 (x : Int) : Int := anK .u64 (IntKind.wrap .u64 (shK .u64 x 4 + x)) 1085102592571150095
def e4 (x : Int) : Int := IntKind.wrap .u64 (x + shK .u64 x 8)
def e5 (x : Int) : Int := IntKind.wrap .u64 (x + shK .u64 x 16)
def e6 (x : Int) : Int := IntKind.wrap .u64 (x + shK .u64 x 32)
def e7 (x : Int) : Int := anV (IntKind.wrap .i64 x) 127
variable {r : Rec} {Q : Ex → Tm → AW → Prop} {t : Tm} {w : AW}
theorem sb7 (x : Int) (t0 : tget t 0 = .int .u64 x) (hQ : ∀ t', tget t' 2 = .int .i64 (e7 x) → Q .ret t' w) : wp (exM Try.prog r bl7 t w) Q := by
  simp [bl7, t0]
  exact hQ _ (by simp [e7])
theorem sb1 (rest : MC) (x : Int) (t0 : tget t 0 = .int .u64 x) (h : ∀ t', tget t' 0 = .int .u64 (e1 x) → wp (exM Try.prog r rest t' w) Q) : wp (exM Try.prog r (bl1 rest) t w) Q := by
  simp [bl1, t0, bin_shrU, bin_andU]
  exact h _ (by simp [e1])
theorem sb2 (rest : MC) (x : Int) (t0 : tget t 0 = .int .u64 x) (h : ∀ t', tget t' 0 = .int .u64 (e2 x) → wp (exM Try.prog r rest t' w) Q) : wp (exM Try.prog r (bl2 rest) t w) Q := by
  simp [bl2, t0, bin_shrU, bin_andU]
  exact h _ (by simp [e2])
theorem sb3 (rest : MC) (x : Int) (t0 : tget t 0 = .int .u64 x) (h : ∀ t', tget t' 0 = .int .u64 (e3 x) → wp (exM Try.prog r rest t' w) Q) : wp (exM Try.prog r (bl3 rest) t w) Q := by
  simp [bl3, t0, bin_shrU, bin_andU]
  exact h _ (by simp [e3])
theorem sb4 (rest : MC) (x : Int) (t0 : tget t 0 = .int .u64 x) (h : ∀ t', tget t' 0 = .int .u64 (e4 x) → wp (exM Try.prog r rest t' w) Q) : wp (exM Try.prog r (bl4 rest) t w) Q := by
  simp [bl4, t0, bin_shrU, bin_andU]
  exact h _ (by simp [e4])
theorem sb5 (rest : MC) (x : Int) (t0 : tget t 0 = .int .u64 x) (h : ∀ t', tget t' 0 = .int .u64 (e5 x) → wp (exM Try.prog r rest t' w) Q) : wp (exM Try.prog r (bl5 rest) t w) Q := by
  simp [bl5, t0, bin_shrU, bin_andU]
  exact h _ (by simp [e5])
theorem sb6 (rest : MC) (x : Int) (t0 : tget t 0 = .int .u64 x) (h : ∀ t', tget t' 0 = .int .u64 (e6 x) → wp (exM Try.prog r rest t' w) Q) : wp (exM Try.prog r (bl6 rest) t w) Q := by
  simp [bl6, t0, bin_shrU, bin_andU]
  exact h _ (by simp [e6])
theorem ones_eq {a : Nat} (ha : a < 256) : e7 (e6 (e5 (e4 (e3 (e2 (e1 (a : Int))))))) = (popN a : Nat) := by
  have : ∀ a : Nat, a < 256 → e7 (e6 (e5 (e4 (e3 (e2 (e1 (a : Int))))))) = (popN a : Nat) := by decide +kernel
  exact this a ha
theorem sb0 (rest : MC) (x : Int) (t0 : tget t 0 = .int .u64 x) (h : ∀ t', tget t' 0 = .int .u64 x → wp (exM Try.prog r rest t' w) Q) : wp (exM Try.prog r (.seq (.ops [⟨false, none, some 2, 3, .assign (.const (.int .i64 0))⟩]) rest) t w) Q := by
  simp
  exact h _ (by simp [t0])
theorem run76 {ov : Ov} (ho : ∀ args w, ov 76 args w = none) (a : Nat) (ha : a < 256) (w : AW) : ∃ v w', (run Try.prog ov 2).call 76 [.int .u64 a] w .none = .ok (.ret v) w' .none ∧ v = .int .i64 (popN a : Nat) := by
  refine call_wp text76 (by simp) (ho _ _) ?_
  rw [mc76_eq]
  refine sb0 _ a (by simp) fun _ h => sb1 _ _ h fun _ h => sb2 _ _ h fun _ h => sb3 _ _ h fun _ h => sb4 _ _ h fun _ h => sb5 _ _ h fun _ h => sb6 _ _ h fun _ h => sb7 _ h fun t' h => ?_
  rw [ones_eq ha] at h
  exact ⟨.inr rfl, [.int .i64 (popN a : Nat)], by simp [h], rfl⟩
end Go.Proofs.Ytaffhippclpbpaa.walk

namespace Go.Proofs.Ytaffhippclpbpaa.walk
open Go Go.Sh
set_option maxRecDepth 100000
set_option linter.unusedSimpArgs false
set_option linter.unusedVariables false
/-! a run in memory; the pods of a box -/
structure MRun where
  pods : Int
  boxes : Int
  few : Int
  delay : Int
  days : List (List Int)
  near : List (Int × Int)
def runC (r : MRun) (wv nv : Value) : List Value := [.int .i64 r.pods, .int .i64 r.boxes, .int .i64 r.few, .int .i64 r.delay, wv, nv]
def RelR (w : AW) : List Value → List (List Int) → Prop
  | [], [] => True
  | v :: vs, l :: ls => RowsV intC w v l ∧ RelR w vs ls
  | _, _ => False
theorem RelR.at {w : AW} : ∀ {vs : List Value} {ls : List (List Int)}, RelR w vs ls → ∀ {i : Nat} {l : List Int}, ls[i]? = some l → ∃ v, vs[i]? = some v ∧ RowsV intC w v l
  | [], [], _, i, l, h => by simp at h
  | [], _ :: _, h, _, _, _ => h.elim
  | _ :: _, [], h, _, _, _ => h.elim
  | v :: vs, l :: ls, h, 0, l', h' => by simp at h'; subst h'; exact ⟨v, rfl, h.1⟩
  | v :: vs, l :: ls, h, i + 1, l', h' => by simpa using RelR.at h.2 (i := i) (by simpa using h')
theorem RelR.len {w : AW} : ∀ {vs : List Value} {ls : List (List Int)}, RelR w vs ls → vs.length = ls.length
  | [], [], _ => rfl
  | [], _ :: _, h => h.elim
  | _ :: _, [], h => h.elim
  | v :: vs, l :: ls, h => congrArg (· + 1) (RelR.len h.2)
theorem RelR.up {we w : AW} (k : Up we w) : ∀ {vs : List Value} {ls : List (List Int)}, RelR we vs ls → RelR w vs ls
  | [], [], _ => trivial
  | [], _ :: _, h => h.elim
  | _ :: _, [], h => h.elim
  | v :: vs, l :: ls, h => ⟨h.1.up k, RelR.up k h.2⟩
theorem RelR.uniq {w : AW} : ∀ {vs : List Value} {ls ls' : List (List Int)}, RelR w vs ls → RelR w vs ls' → ls = ls'
  | [], [], [], _, _ => rfl
  | [], _ :: _, _, h, _ => h.elim
  | [], [], _ :: _, _, h => h.elim
  | _ :: _, [], _, h, _ => h.elim
  | _ :: _, _ :: _, [], _, h => h.elim
  | v :: vs, l :: ls, l' :: ls', h, k => by rw [h.1.uniq (m := 1) intC_length intC_inj k.1, RelR.uniq h.2 k.2]
theorem RelR.shut {w : AW} : ∀ {vs : List Value} {ls : List (List Int)}, RelR w vs ls → RelR (shutA w) vs ls
  | [], [], _ => trivial
  | [], _ :: _, h => h.elim
  | _ :: _, [], h => h.elim
  | v :: vs, l :: ls, h => ⟨h.1, RelR.shut h.2⟩
def CapN (v : Value) : Prop := ∃ a n c, v = .slice a n c ∧ n ≤ c
def RunV (w : AW) (r : MRun) (wv nv : Value) : Prop := (∃ vs, RowsV valC w wv vs ∧ RelR w vs r.days) ∧ RowsV prC w nv r.near ∧ CapN nv
theorem RunV.up {we w : AW} {r : MRun} {wv nv : Value} (h : RunV we r wv nv) (k : Up we w) : RunV w r wv nv := by
  obtain ⟨⟨vs, h1, h2⟩, h3, h4⟩ := h
  exact ⟨⟨vs, h1.up k, h2.up k⟩, h3.up k, h4⟩
theorem RunV.shut {w : AW} {r : MRun} {wv nv : Value} (h : RunV w r wv nv) : RunV (shutA w) r wv nv := by
  obtain ⟨⟨vs, h1, h2⟩, h3, h4⟩ := h
  exact ⟨⟨vs, h1, h2.shut⟩, h3, h4⟩
theorem RunV.same {w : AW} {r r' : MRun} {wv nv wv' nv' : Value} (e : runC r wv nv = runC r' wv' nv') (h : RunV w r wv nv) (k : RunV w r' wv' nv') : r = r' := by
  obtain ⟨a, b, c, d, ds, ns⟩ := r
  obtain ⟨a', b', c', d', ds', ns'⟩ := r'
  simp [runC] at e
  obtain ⟨rfl, rfl, rfl, rfl, rfl, rfl⟩ := e
  obtain ⟨⟨vs, h1, h2⟩, h3, _⟩ := h
  obtain ⟨⟨vs', k1, k2⟩, k3, _⟩ := k
  have := h1.uniq (m := 1) valC_length valC_inj k1
  subst this
  rw [show ds = ds' from h2.uniq k2, show ns = ns' from h3.uniq (m := 2) prC_length prC_inj k3]
theorem two_rows {w : AW} {B a b : Nat} {e : TypeId} {ro : Bool} (h : w.heap.get B = some (.cells [.int .i64 (a : Int), .int .i64 (b : Int)] e ro)) (hB : B < w.next) : RowsV natC w (.slice (some ⟨B, 0, none⟩) 2 2) [a, b] :=
  .inr ⟨B, 0, none, 2, rfl, ⟨[], [], e, ro, by rw [h]; rfl, rfl⟩, hB⟩
def orL (l : List Nat) : Nat := l.foldl (fun a b => a ||| b) 0
theorem orL_snoc {l : List Nat} {i x : Nat} (h : l[i]? = some x) : orL (l.take (i + 1)) = orL (l.take i) ||| x := by
  unfold orL
  rw [List.take_add_one, h]
  simp
theorem orL_lt {l : List Nat} (h : ∀ x ∈ l, x < 2 ^ 20) : orL l < 2 ^ 20 := by
  unfold orL
  have : ∀ (l : List Nat) (a : Nat), a < 2 ^ 20 → (∀ x ∈ l, x < 2 ^ 20) → l.foldl (fun a b => a ||| b) a < 2 ^ 20 := by
    intro l
    induction l with
    | nil => intro a h _; exact h
    | cons x l ih => intro a h1 h2; exact ih _ (Nat.or_lt_two_pow h1 (h2 x (by simp))) fun y hy => h2 y (by simp [hy])
  exact this l 0 (by decide) h
theorem orL_two (a b : Nat) : orL [a, b] = a ||| b := by simp [orL]
def S56 : PSpec where
  R args w v := ∃ (x : Value) (l : List Nat), args = [x] ∧ RowsV natC w x l ∧ (∀ y ∈ l, y < 2 ^ 20) ∧ l.length ≤ 10 ∧ v = .int .i64 (orL l : Nat)
  uniq := by
    rintro _ _ _ _ ⟨x, l, rfl, h1, _, _, rfl⟩ ⟨_, l', h, h2, _, _, rfl⟩
    cases h
    rw [h1.uniq (m := 1) natC_length natC_inj h2]
  shut h := h
theorem len108V {w w' : AW} {v : Value} {l : List Nat} (h : RowsV natC w v l) : lenB Try.prog w' 108 v = .val (.int .i64 (l.length : Nat)) w' := by
  obtain ⟨a, c, rfl⟩ := h.len; simp
theorem run56 {ov : Ov} (ho : ∀ args w, ov 56 args w = none) (x : Value) (l : List Nat) (w : AW) (hv : RowsV natC w x l) (hs : ∀ y ∈ l, y < 2 ^ 20) (hlen : l.length ≤ 10) : ∃ v w', (run Try.prog ov 2).call 56 [x] w .none = .ok (.ret v) w' .none ∧ v = .int .i64 (orL l : Nat) := by
  refine call_wp text56 (by simp) (ho _ _) ?_
  have hl1 := fun w2 => len108V (w' := w2) hv
  simp [mc56, hl1]
  refine wp_seqX (wp_blockX (wp_rounds (fun i t w' => w' = w ∧ tget t 3 = .int .i64 (orL (l.take i) : Nat) ∧ tget t 6 = x ∧ tget t 7 = .int .i64 (l.length : Nat) ∧ tget t 8 = .int .i64 (i : Nat) ∧ i ≤ l.length) 20 (by decide) ⟨rfl, by simp [orL], by simp, by simp, by simp, by omega⟩ ?_))
  rintro i t w' ⟨rfl, t3, t6, t7, t8, hi⟩
  by_cases hlt : i < l.length
  · obtain ⟨p, hp⟩ : ∃ p, l[i]? = some p := ⟨_, List.getElem?_eq_getElem hlt⟩
    obtain ⟨b, off, sq, c, rfl, hra⟩ := hv.at_ i hlt
    have hld := hra.rd1 natC_length hp (j := 0) (x := .int .i64 (p : Int)) rfl
    have hia := fun w => ia108 w ⟨b, off, sq⟩ l.length c .i64 i hlt
    simp only [Nat.mul_one, Nat.add_zero] at hld hia
    have hw1 : IntKind.wrap .i64 ((i : Int) + 1) = (i : Int) + 1 := wrap64_in (by omega) (by omega)
    have hor := or_nat (orL_lt fun y hy => hs y (List.mem_of_mem_take hy)) (hs p (List.mem_of_getElem? hp)) (a := orL (l.take i))
    rw [← orL_snoc hp] at hor
    simp [mc56_l0, t3, t6, t7, t8, hlt, hia, hld, hor, hw1]
    omega
  · have hi' : i = l.length := by omega
    subst hi'
    rw [List.take_length] at t3
    simp [mc56_l0, t3, t7, t8, tupV]
def S63 : PSpec where
  R args w v := ∃ (r : MRun) (wv nv : Value) (d : Nat) (l : List Int) (b : Int), args = [.agg ⟨runC r wv nv⟩, .int .i64 d, .int .i64 b] ∧ RunV w r wv nv ∧ r.days[d]? = some l ∧ l.length ≤ 10 ∧ v = .int .i64 (inB l b l.length : Nat)
  uniq := by
    rintro _ _ _ _ ⟨r, wv, nv, d, l, b, rfl, h1, h2, _, rfl⟩ ⟨r', wv', nv', d', l', b', h, k1, k2, _, rfl⟩
    simp only [List.cons.injEq, Value.agg.injEq, Array.mk.injEq, Value.int.injEq, and_true, true_and] at h
    obtain ⟨e1, e2, rfl⟩ := h
    have := RunV.same e1 h1 k1
    subst this
    have : d = d' := by omega
    subst this
    rw [h2] at k2; cases k2; rfl
  shut := by
    rintro _ _ _ ⟨r, wv, nv, d, l, b, h1, h2, h3⟩
    exact ⟨r, wv, nv, d, l, b, h1, h2.shut, h3⟩
theorem run63 {ov : Ov} (ho : ∀ args w, ov 63 args w = none) (h56 : HasP ov 56 S56.F) (h65 : HasP ov 65 S65.F) (r : MRun) (wv nv : Value) (d : Nat) (l : List Int) (b : Int) (w : AW) (hl : w.lim = w.next) (hR : RunV w r wv nv) (hd : r.days[d]? = some l) (hlen : l.length ≤ 10) :
    ∃ v w', (run Try.prog ov 2).call 63 [.agg ⟨runC r wv nv⟩, .int .i64 d, .int .i64 b] w .none = .ok (.ret v) w' .none ∧ v = .int .i64 (inB l b l.length : Nat) := by
  refine call_wp text63 (by simp) (ho _ _) ?_
  have u1 : Up w ⟨w.heap.put w.next (some (.cells (runC r wv nv) 67 false)), w.next + 1, w.lim⟩ := (Up.refl w).add _
  obtain ⟨⟨vs, hvs, hrel⟩, hnv⟩ := hR
  obtain ⟨v, hv, hrow⟩ := hrel.at hd
  have hdl : d < vs.length := by
    rw [List.getElem?_eq_some_iff] at hv
    exact hv.1
  obtain ⟨bk, off, sq, c, rfl, hra⟩ := hvs.at_ d hdl
  have hld := hra.rd1 valC_length hv (j := 0) (x := v) rfl
  have hia := fun w => ia22 w ⟨bk, off, sq⟩ vs.length c .i64 d hdl
  simp only [Nat.mul_one, Nat.add_zero] at hld hia
  have hl1 := fun w2 => len26V (w' := w2) hrow
  have hne : ¬ bk = w.next := by have := hra.2; omega
  replace hrow := hrow.up u1
  simp only [runC] at u1 hrow ⊢
  simp [mc63, cellsOf_agg, hia, hld, hl1, hne]
  refine wp_seqX (wp_blockX (wp_rounds (fun i t w' => Up ⟨w.heap.put w.next (some (.cells (runC r (.slice (some ⟨bk, off, sq⟩) vs.length c) nv) 67 false)), w.next + 1, w.lim⟩ w' ∧ w'.lim ≤ w'.next ∧ tget t 2 = .int .i64 b ∧ tget t 7 = .int .i64 (inB l b i : Nat) ∧ tget t 15 = v ∧ tget t 16 = .int .i64 (l.length : Nat) ∧ tget t 17 = .int .i64 (i : Nat) ∧ i ≤ l.length) 20 (by decide) ⟨Up.refl _, by show w.lim ≤ w.next + 1; omega, by simp, by simp [inB], by simp, by simp, by simp, by omega⟩ ?_))
  rintro i t w' ⟨hu, hle, t2, t7, t15, t16, t17, hi⟩
  by_cases hlt : i < l.length
  · obtain ⟨p, hp⟩ : ∃ p, l[i]? = some p := ⟨_, List.getElem?_eq_getElem hlt⟩
    have hrow' := hrow.up hu
    obtain ⟨b2, off2, sq2, c2, rfl, hra2⟩ := hrow'.at_ i hlt
    have hld2 := hra2.int hp
    have hia2 := fun w => ia26 w ⟨b2, off2, sq2⟩ l.length c2 .i64 i hlt
    simp only [Nat.mul_one] at hia2
    have hw1 : IntKind.wrap .i64 ((i : Int) + 1) = (i : Int) + 1 := wrap64_in (by omega) (by omega)
    by_cases hb : p = b
    · subst hb
      have hnx : inB l p (i + 1) = inB l p i ||| 2 ^ i := by rw [inB, if_pos hp]
      have hq20 : 2 ^ i < 2 ^ 20 := Nat.pow_lt_pow_right (by decide) (by omega)
      have hI20 : inB l p i < 2 ^ 20 := Nat.lt_of_lt_of_le (inB_lt l p i) (Nat.pow_le_pow_right (by decide) (by omega))
      obtain ⟨q, hq⟩ : ∃ q, q = 2 ^ i := ⟨_, rfl⟩
      obtain ⟨s, hs⟩ : ∃ s, s = inB l p i := ⟨_, rfl⟩
      have r65 := fun w => S65.call1 (P := Try.prog) h65 (w := w) ⟨i, rfl, by omega, rfl⟩
      simp only [← hq] at r65 hnx hq20
      rw [← hs] at hnx hI20 t7
      have r56 := S56.call1 (P := Try.prog) h56 (w := ⟨w'.heap.put w'.next (some (.cells [.int .i64 (s : Int), .int .i64 (q : Int)] 77 false)), w'.next + 1, w'.lim⟩) ⟨_, [s, q], rfl, two_rows (by rw [get_put, if_pos rfl]) (Nat.lt_succ_self _), by simp; omega, by simp, rfl⟩
      rw [orL_two, ← hnx] at r56
      simp [mc63_l0, t2, t7, t15, t16, t17, hlt, hia2, hld2, r65, r56, hw1]
      exact ⟨by omega, hu.add _, by omega, by omega⟩
    · have hnx : inB l b (i + 1) = inB l b i := by rw [inB, if_neg (by rw [hp]; simpa using hb)]
      simp [mc63_l0, t2, t7, t15, t16, t17, hlt, hia2, hld2, hb, hw1, hnx]
      exact ⟨by omega, hu, by omega, by omega⟩
  · have hi' : i = l.length := by omega
    subst hi'
    simp [mc63_l0, t7, t16, t17, tupV]
end Go.Proofs.Ytaffhippclpbpaa.walk
