/- Part of a proof by a machine of ones own: see the text with the theorem. -/
import Derived.Test.YtaffhippclpbpaaCP
namespace Go.Sh
open Go
variable {P : Program} {w : AW}
/-! bits of numbers that are not less than nothing -/
def anK (k : IntKind) (a b : Int) : Int := wrapA k (BitVec.ofInt k.bits a &&& BitVec.ofInt k.bits b).toNat
theorem orK_ex : ∃ f : IntKind → Int → Int → Int, ∀ k a b, f k a b = wrapA k (BitVec.ofInt k.bits a ||| BitVec.ofInt k.bits b).toNat := ⟨_, fun _ _ _ => rfl⟩
theorem adK_ex : ∃ f : IntKind → Int → Int → Int, ∀ k a b, f k a b = wrapA k (BitVec.ofInt k.bits a &&& ~~~BitVec.ofInt k.bits b).toNat := ⟨_, fun _ _ _ => rfl⟩
/-- hidden, so that the kernel does not open it -/
noncomputable def orK : IntKind → Int → Int → Int := orK_ex.choose
noncomputable def adK : IntKind → Int → Int → Int := adK_ex.choose
theorem orK_eq (k : IntKind) (a b : Int) : orK k a b = wrapA k (BitVec.ofInt k.bits a ||| BitVec.ofInt k.bits b).toNat := orK_ex.choose_spec k a b
theorem adK_eq (k : IntKind) (a b : Int) : adK k a b = wrapA k (BitVec.ofInt k.bits a &&& ~~~BitVec.ofInt k.bits b).toNat := adK_ex.choose_spec k a b
def shK (k : IntKind) (a b : Int) : Int := a.fdiv (2 ^ (min b.toNat k.bits))
theorem bin_andU (s : TypeId) (c : Bool) (a b : Int) : (binW P .and s c).val (.int .u64 a) (.int .u64 b) w = .val (.int .u64 (anK .u64 a b)) w := by
  show vR w (arithA andA (.int .u64 a) (.int .u64 b)) = _
  simp [arithA, andA, sameK_refl, vR, anK]
@[simp] theorem bin_orK (k : IntKind) (s : TypeId) (c : Bool) (a b : Int) : (binW P .or s c).val (.int k a) (.int k b) w = .val (.int k (orK k a b)) w := by
  show vR w (arithA orA (.int k a) (.int k b)) = _
  simp [arithA, orA, sameK_refl, vR, orK_eq]
@[simp] theorem bin_adK (k : IntKind) (s : TypeId) (c : Bool) (a b : Int) : (binW P .andNot s c).val (.int k a) (.int k b) w = .val (.int k (adK k a b)) w := by
  show vR w (arithA andNotA (.int k a) (.int k b)) = _
  simp [arithA, andNotA, sameK_refl, vR, adK_eq]
theorem bin_shrU (s : TypeId) (c : Bool) (a b : Int) (j : IntKind) (h : 0 ≤ b) : (binW P .shr s c).val (.int .u64 a) (.int j b) w = .val (.int .u64 (shK .u64 a b)) w := by
  show vR w (shiftV shrA (.int .u64 a) (.int j b)) = _
  have : ¬ b < 0 := by omega
  simp [shiftV, shrA, vR, intLt_eq, this, shK]
theorem ofNat64 {a : Nat} (ha : a < 2 ^ 20) : (BitVec.ofInt 64 (a : Int)).toNat = a := by
  rw [BitVec.ofInt_natCast, BitVec.toNat_ofNat, Nat.mod_eq_of_lt (by omega)]
theorem an_nat {a b : Nat} (ha : a < 2 ^ 20) (hb : b < 2 ^ 20) : anV (a : Int) (b : Int) = ((a &&& b : Nat) : Int) := by
  unfold anV
  rw [wrapA_eq]
  have : (BitVec.ofInt IntKind.i64.bits (a : Int) &&& BitVec.ofInt IntKind.i64.bits (b : Int)).toNat = a &&& b := by
    show (BitVec.ofInt 64 (a : Int) &&& BitVec.ofInt 64 (b : Int)).toNat = _
    rw [BitVec.toNat_and, ofNat64 ha, ofNat64 hb]
  rw [this]
  have h2 : a &&& b ≤ a := Nat.and_le_left
  exact wrap64_in (by omega) (by omega)
theorem or_nat {a b : Nat} (ha : a < 2 ^ 20) (hb : b < 2 ^ 20) : orK .i64 (a : Int) (b : Int) = ((a ||| b : Nat) : Int) := by
  rw [orK_eq]
  rw [wrapA_eq]
  have : (BitVec.ofInt IntKind.i64.bits (a : Int) ||| BitVec.ofInt IntKind.i64.bits (b : Int)).toNat = a ||| b := by
    show (BitVec.ofInt 64 (a : Int) ||| BitVec.ofInt 64 (b : Int)).toNat = _
    rw [BitVec.toNat_or, ofNat64 ha, ofNat64 hb]
  rw [this]
  have h2 : a ||| b < 2 ^ 20 := Nat.or_lt_two_pow ha hb
  exact wrap64_in (by omega) (by omega)
theorem ad_nat {a b : Nat} (ha : a < 2 ^ 20) (hb : b < 2 ^ 20) (h : ∀ i, a.testBit i = true → b.testBit i = true) : adK .i64 (a : Int) (b : Int) = 0 := by
  rw [adK_eq]
  rw [wrapA_eq]
  have : (BitVec.ofInt IntKind.i64.bits (a : Int) &&& ~~~BitVec.ofInt IntKind.i64.bits (b : Int)) = 0#64 := by
    show (BitVec.ofInt 64 (a : Int) &&& ~~~BitVec.ofInt 64 (b : Int)) = 0#64
    apply BitVec.eq_of_getLsbD_eq
    intro i hi
    rw [BitVec.getLsbD_and, BitVec.getLsbD_not, ← BitVec.testBit_toNat, ← BitVec.testBit_toNat, ofNat64 ha, ofNat64 hb]
    cases hx : a.testBit i
    · simp
    · simp [h i hx]
  rw [this]
  rfl
theorem shl_nat (s : TypeId) (c : Bool) (n : Nat) (h : n ≤ 10) : (binW P .shl s c).val (.int .i64 1) (.int .i64 (n : Int)) w = .val (.int .i64 ((2 ^ n : Nat) : Int)) w := by
  show vR w (shiftV shlA (.int .i64 1) (.int .i64 (n : Int))) = _
  have hn : ¬ (n : Int) < 0 := by omega
  have e : wrapA .i64 (1 * 2 ^ (min (n : Int).toNat IntKind.i64.bits)) = ((2 ^ n : Nat) : Int) := by
    have : ∀ n : Nat, n ≤ 10 → wrapA .i64 (1 * 2 ^ (min (n : Int).toNat IntKind.i64.bits)) = ((2 ^ n : Nat) : Int) := by decide
    exact this n h
  simp only [shiftV, shlA, intLt_eq, decide_eq_false hn, cond_false, vR]
  rw [e]
theorem bit_nat {x k : Nat} (hx : x < 2 ^ 20) (hk : k ≤ 20) : bitB (x : Int) (k : Int) = x.testBit k := by
  have h1 : shV (x : Int) (k : Int) = ((x / 2 ^ k : Nat) : Int) := by
    unfold shV
    rw [show min (k : Int).toNat IntKind.i64.bits = k by show min _ 64 = k; omega]
    rw [show ((2 : Int) ^ k) = ((2 ^ k : Nat) : Int) by simp]
    rw [← Int.ofNat_fdiv]
  have hd : x / 2 ^ k < 2 ^ 20 := Nat.lt_of_le_of_lt (Nat.div_le_self _ _) hx
  have h2 : anV ((x / 2 ^ k : Nat) : Int) 1 = ((x / 2 ^ k % 2 : Nat) : Int) := by
    have := an_nat (a := x / 2 ^ k) (b := 1) hd (by decide)
    rw [Nat.and_one_is_mod] at this
    exact this
  unfold bitB
  rw [h1, h2, Nat.testBit_eq_decide_div_mod_eq]
  congr 1
  apply propext
  omega
/-- how many pods a set has -/
def popN (x : Nat) : Nat := (List.range 8).countP fun k => x.testBit k
theorem pop_or {x k : Nat} (hx : x < 256) (hk : k < 8) : popN (x ||| 2 ^ k) ≤ popN x + 1 := by
  have : ∀ x, x < 256 → ∀ k, k < 8 → popN (x ||| 2 ^ k) ≤ popN x + 1 := by decide +kernel
  exact this x hx k hk
end Go.Sh

namespace Go.Sh
open Go
/-! mould: numbers alone -/
theorem meet_iff {a b : Nat} : a &&& b ≠ 0 ↔ ∃ k, a.testBit k = true ∧ b.testBit k = true := by
  constructor
  · intro h
    obtain ⟨i, hi⟩ := Nat.exists_testBit_of_ne_zero h
    rw [Nat.testBit_and, Bool.and_eq_true] at hi
    exact ⟨i, hi⟩
  · rintro ⟨k, h1, h2⟩ h
    have : (a &&& b).testBit k = true := by rw [Nat.testBit_and, h1, h2]; rfl
    rw [h, Nat.zero_testBit] at this
    cases this
def inB (day : List Int) (b : Int) : Nat → Nat
  | 0 => 0
  | i + 1 => if day[i]? = some b then inB day b i ||| 2 ^ i else inB day b i
theorem inB_bit {day : List Int} {b : Int} : ∀ {i k : Nat}, (inB day b i).testBit k = true ↔ k < i ∧ day[k]? = some b
  | 0, k => by simp [inB]
  | i + 1, k => by
    unfold inB
    by_cases h : day[i]? = some b
    · rw [if_pos h, Nat.testBit_or, Bool.or_eq_true, inB_bit, Nat.testBit_two_pow, decide_eq_true_eq]
      constructor
      · rintro (⟨h1, h2⟩ | rfl)
        · exact ⟨by omega, h2⟩
        · exact ⟨by omega, h⟩
      · rintro ⟨h1, h2⟩
        by_cases e : i = k
        · exact .inr e
        · exact .inl ⟨by omega, h2⟩
    · rw [if_neg h, inB_bit]
      constructor
      · rintro ⟨h1, h2⟩; exact ⟨by omega, h2⟩
      · rintro ⟨h1, h2⟩
        by_cases e : i = k
        · subst e; exact absurd h2 h
        · exact ⟨by omega, h2⟩
theorem inB_lt (day : List Int) (b : Int) : ∀ i : Nat, inB day b i < 2 ^ i
  | 0 => by simp [inB]
  | i + 1 => by
    unfold inB
    have h1 := inB_lt day b i
    have h2 : 2 ^ i < 2 ^ (i + 1) := Nat.pow_lt_pow_right (by decide) (by omega)
    split
    · exact Nat.or_lt_two_pow (by omega) h2
    · omega
def spB (day : List Int) (p n : Nat) : Nat → Nat
  | 0 => p
  | b + 1 => if inB day (b : Nat) n &&& spB day p n b = 0 then spB day p n b else spB day p n b ||| inB day (b : Nat) n
theorem spB_lt {day : List Int} {p n : Nat} (hp : p < 2 ^ n) : ∀ b : Nat, spB day p n b < 2 ^ n
  | 0 => hp
  | b + 1 => by
    unfold spB
    split
    · exact spB_lt hp b
    · exact Nat.or_lt_two_pow (spB_lt hp b) (inB_lt _ _ _)
theorem spB_bit {day : List Int} {p n : Nat} : ∀ {b k : Nat}, (spB day p n b).testBit k = true ↔ p.testBit k = true ∨ ∃ x : Nat, x < b ∧ k < n ∧ day[k]? = some (x : Int) ∧ ∃ j, j < n ∧ day[j]? = some (x : Int) ∧ p.testBit j = true
  | 0, k => by simp [spB]
  | b + 1, k => by
    have hm : inB day (b : Nat) n &&& spB day p n b ≠ 0 ↔ ∃ j, j < n ∧ day[j]? = some (b : Int) ∧ p.testBit j = true := by
      rw [meet_iff]
      constructor
      · rintro ⟨j, h1, h2⟩
        rw [inB_bit] at h1
        rw [spB_bit] at h2
        rcases h2 with h2 | ⟨x, hx, _, h3, _⟩
        · exact ⟨j, h1.1, h1.2, h2⟩
        · rw [h1.2] at h3; simp at h3; omega
      · rintro ⟨j, h1, h2, h3⟩
        exact ⟨j, inB_bit.2 ⟨h1, h2⟩, spB_bit.2 (.inl h3)⟩
    unfold spB
    by_cases h : inB day (b : Nat) n &&& spB day p n b = 0
    · rw [if_pos h, spB_bit]
      constructor
      · rintro (h1 | ⟨x, hx, h2⟩)
        · exact .inl h1
        · exact .inr ⟨x, by omega, h2⟩
      · rintro (h1 | ⟨x, hx, h2, h3, h4⟩)
        · exact .inl h1
        · by_cases e : x = b
          · subst e; exact absurd h (hm.2 h4)
          · exact .inr ⟨x, by omega, h2, h3, h4⟩
    · rw [if_neg h, Nat.testBit_or, Bool.or_eq_true, spB_bit, inB_bit]
      have hj := hm.1 h
      constructor
      · rintro ((h1 | ⟨x, hx, h2⟩) | ⟨h1, h2⟩)
        · exact .inl h1
        · exact .inr ⟨x, by omega, h2⟩
        · exact .inr ⟨b, by omega, h1, h2, hj⟩
      · rintro (h1 | ⟨x, hx, h2, h3, h4⟩)
        · exact .inl (.inl h1)
        · by_cases e : x = b
          · subst e; exact .inr ⟨h2, h3⟩
          · exact .inl (.inr ⟨x, by omega, h2, h3, h4⟩)
def lkB (day : List Int) (bf : Nat) (near : List (Int × Int)) (pairs n : Nat) : Nat → Nat
  | 0 => bf
  | m + 1 => match near[m]? with
    | some p => if pairs.testBit m = true ∧ (inB day p.1 n ||| inB day p.2 n) &&& bf ≠ 0 then lkB day bf near pairs n m ||| (inB day p.1 n ||| inB day p.2 n) else lkB day bf near pairs n m
    | none => lkB day bf near pairs n m
theorem lkB_lt {day : List Int} {bf : Nat} {near : List (Int × Int)} {pairs n : Nat} (hp : bf < 2 ^ n) : ∀ m : Nat, lkB day bf near pairs n m < 2 ^ n
  | 0 => hp
  | m + 1 => by
    unfold lkB
    split
    · split
      · exact Nat.or_lt_two_pow (lkB_lt hp m) (Nat.or_lt_two_pow (inB_lt _ _ _) (inB_lt _ _ _))
      · exact lkB_lt hp m
    · exact lkB_lt hp m
theorem lkB_bit {day : List Int} {bf : Nat} {near : List (Int × Int)} {pairs n : Nat} : ∀ {m k : Nat}, (lkB day bf near pairs n m).testBit k = true ↔ bf.testBit k = true ∨ ∃ i p, i < m ∧ near[i]? = some p ∧ pairs.testBit i = true ∧ k < n ∧ (day[k]? = some p.1 ∨ day[k]? = some p.2) ∧ ∃ j, j < n ∧ (day[j]? = some p.1 ∨ day[j]? = some p.2) ∧ bf.testBit j = true
  | 0, k => by simp [lkB]
  | m + 1, k => by
    unfold lkB
    have up : ∀ {k}, (lkB day bf near pairs n m).testBit k = true → bf.testBit k = true ∨ ∃ i p, i < m + 1 ∧ near[i]? = some p ∧ pairs.testBit i = true ∧ k < n ∧ (day[k]? = some p.1 ∨ day[k]? = some p.2) ∧ ∃ j, j < n ∧ (day[j]? = some p.1 ∨ day[j]? = some p.2) ∧ bf.testBit j = true := by
      intro k h
      rcases lkB_bit.1 h with h | ⟨i, p, hi, h⟩
      · exact .inl h
      · exact .inr ⟨i, p, by omega, h⟩
    have down : ∀ {k}, (bf.testBit k = true ∨ ∃ i p, i < m + 1 ∧ near[i]? = some p ∧ pairs.testBit i = true ∧ k < n ∧ (day[k]? = some p.1 ∨ day[k]? = some p.2) ∧ ∃ j, j < n ∧ (day[j]? = some p.1 ∨ day[j]? = some p.2) ∧ bf.testBit j = true) → (lkB day bf near pairs n m).testBit k = true ∨ ∃ p, near[m]? = some p ∧ pairs.testBit m = true ∧ k < n ∧ (day[k]? = some p.1 ∨ day[k]? = some p.2) ∧ ∃ j, j < n ∧ (day[j]? = some p.1 ∨ day[j]? = some p.2) ∧ bf.testBit j = true := by
      rintro k (h | ⟨i, p, hi, h⟩)
      · exact .inl (lkB_bit.2 (.inl h))
      · by_cases e : i = m
        · subst e; exact .inr ⟨p, h⟩
        · exact .inl (lkB_bit.2 (.inr ⟨i, p, by omega, h⟩))
    cases hp : near[m]? with
    | none =>
      refine ⟨up, fun h => ?_⟩
      rcases down h with h | ⟨p, hp', _⟩
      · exact h
      · rw [hp] at hp'; cases hp'
    | some p =>
      have hm : ((inB day p.1 n ||| inB day p.2 n) &&& bf ≠ 0) ↔ ∃ j, j < n ∧ (day[j]? = some p.1 ∨ day[j]? = some p.2) ∧ bf.testBit j = true := by
        rw [meet_iff]
        constructor
        · rintro ⟨j, h1, h2⟩
          rw [Nat.testBit_or, Bool.or_eq_true, inB_bit, inB_bit] at h1
          rcases h1 with h1 | h1
          · exact ⟨j, h1.1, .inl h1.2, h2⟩
          · exact ⟨j, h1.1, .inr h1.2, h2⟩
        · rintro ⟨j, h1, h2, h3⟩
          refine ⟨j, ?_, h3⟩
          rw [Nat.testBit_or, Bool.or_eq_true, inB_bit, inB_bit]
          exact h2.imp (fun h => ⟨h1, h⟩) fun h => ⟨h1, h⟩
      show (if _ then _ else _ : Nat).testBit k = true ↔ _
      by_cases h : pairs.testBit m = true ∧ (inB day p.1 n ||| inB day p.2 n) &&& bf ≠ 0
      · rw [if_pos h, Nat.testBit_or, Bool.or_eq_true, Nat.testBit_or, Bool.or_eq_true, inB_bit, inB_bit]
        have hj := hm.1 h.2
        constructor
        · rintro (h1 | h1 | h1)
          · exact up h1
          · exact .inr ⟨m, p, by omega, hp, h.1, h1.1, .inl h1.2, hj⟩
          · exact .inr ⟨m, p, by omega, hp, h.1, h1.1, .inr h1.2, hj⟩
        · intro h1
          rcases down h1 with h1 | ⟨q, hq, _, h2, h3, _⟩
          · exact .inl h1
          · rw [hp] at hq; cases hq
            exact .inr (h3.imp (fun h => ⟨h2, h⟩) fun h => ⟨h2, h⟩)
      · rw [if_neg h]
        refine ⟨up, fun h1 => ?_⟩
        rcases down h1 with h1 | ⟨q, hq, h2, _, _, h4⟩
        · exact h1
        · rw [hp] at hq; cases hq
          exact absurd ⟨h2, hm.2 h4⟩ h
def bxB (day : List Int) (p : Nat) : Nat → Nat
  | 0 => 0
  | k + 1 => match day[k]? with
    | some z => if p.testBit k = true then bxB day p k ||| 2 ^ z.toNat else bxB day p k
    | none => bxB day p k
theorem bxB_bit {day : List Int} {p : Nat} : ∀ {m c : Nat}, (bxB day p m).testBit c = true ↔ ∃ k z, k < m ∧ p.testBit k = true ∧ day[k]? = some z ∧ z.toNat = c
  | 0, c => by simp [bxB]
  | m + 1, c => by
    unfold bxB
    have up : (bxB day p m).testBit c = true → ∃ k z, k < m + 1 ∧ p.testBit k = true ∧ day[k]? = some z ∧ z.toNat = c := fun h => by
      obtain ⟨k, z, hk, h⟩ := bxB_bit.1 h
      exact ⟨k, z, by omega, h⟩
    have down : (∃ k z, k < m + 1 ∧ p.testBit k = true ∧ day[k]? = some z ∧ z.toNat = c) → (bxB day p m).testBit c = true ∨ ∃ z, p.testBit m = true ∧ day[m]? = some z ∧ z.toNat = c := by
      rintro ⟨k, z, hk, h⟩
      by_cases e : k = m
      · subst e; exact .inr ⟨z, h⟩
      · exact .inl (bxB_bit.2 ⟨k, z, by omega, h⟩)
    cases hz : day[m]? with
    | none =>
      refine ⟨up, fun h => ?_⟩
      rcases down h with h | ⟨z, _, h, _⟩
      · exact h
      · rw [hz] at h; cases h
    | some z =>
      show (if _ then _ else _ : Nat).testBit c = true ↔ _
      by_cases h : p.testBit m = true
      · rw [if_pos h, Nat.testBit_or, Bool.or_eq_true, Nat.testBit_two_pow, decide_eq_true_eq]
        constructor
        · rintro (h1 | h1)
          · exact up h1
          · exact ⟨m, z, by omega, h, hz, h1⟩
        · intro h1
          rcases down h1 with h1 | ⟨y, _, h2, h3⟩
          · exact .inl h1
          · rw [hz] at h2; cases h2; exact .inr h3
      · rw [if_neg h]
        refine ⟨up, fun h1 => ?_⟩
        rcases down h1 with h1 | ⟨y, h2, _⟩
        · exact h1
        · exact absurd h2 h
def mrB (near : List (Int × Int)) (leaks bx : Nat) : Nat → Nat
  | 0 => 0
  | m + 1 => match near[m]? with
    | some p => if leaks.testBit m = true ∧ bx &&& (2 ^ p.1.toNat ||| 2 ^ p.2.toNat) ≠ 0 then mrB near leaks bx m ||| (2 ^ p.1.toNat ||| 2 ^ p.2.toNat) else mrB near leaks bx m
    | none => mrB near leaks bx m
theorem two_bit {a b c : Nat} : (2 ^ a ||| 2 ^ b).testBit c = true ↔ a = c ∨ b = c := by
  rw [Nat.testBit_or, Bool.or_eq_true, Nat.testBit_two_pow, Nat.testBit_two_pow, decide_eq_true_eq, decide_eq_true_eq]
theorem mrB_bit {near : List (Int × Int)} {leaks bx : Nat} : ∀ {m c : Nat}, (mrB near leaks bx m).testBit c = true ↔ ∃ i p, i < m ∧ near[i]? = some p ∧ leaks.testBit i = true ∧ (p.1.toNat = c ∨ p.2.toNat = c) ∧ (bx.testBit p.1.toNat = true ∨ bx.testBit p.2.toNat = true)
  | 0, c => by simp [mrB]
  | m + 1, c => by
    unfold mrB
    have up : (mrB near leaks bx m).testBit c = true → ∃ i p, i < m + 1 ∧ near[i]? = some p ∧ leaks.testBit i = true ∧ (p.1.toNat = c ∨ p.2.toNat = c) ∧ (bx.testBit p.1.toNat = true ∨ bx.testBit p.2.toNat = true) := fun h => by
      obtain ⟨i, p, hi, h⟩ := mrB_bit.1 h
      exact ⟨i, p, by omega, h⟩
    have down : (∃ i p, i < m + 1 ∧ near[i]? = some p ∧ leaks.testBit i = true ∧ (p.1.toNat = c ∨ p.2.toNat = c) ∧ (bx.testBit p.1.toNat = true ∨ bx.testBit p.2.toNat = true)) → (mrB near leaks bx m).testBit c = true ∨ ∃ p, near[m]? = some p ∧ leaks.testBit m = true ∧ (p.1.toNat = c ∨ p.2.toNat = c) ∧ (bx.testBit p.1.toNat = true ∨ bx.testBit p.2.toNat = true) := by
      rintro ⟨i, p, hi, h⟩
      by_cases e : i = m
      · subst e; exact .inr ⟨p, h⟩
      · exact .inl (mrB_bit.2 ⟨i, p, by omega, h⟩)
    cases hp : near[m]? with
    | none =>
      refine ⟨up, fun h => ?_⟩
      rcases down h with h | ⟨p, h, _⟩
      · exact h
      · rw [hp] at h; cases h
    | some p =>
      have hm : bx &&& (2 ^ p.1.toNat ||| 2 ^ p.2.toNat) ≠ 0 ↔ (bx.testBit p.1.toNat = true ∨ bx.testBit p.2.toNat = true) := by
        rw [meet_iff]
        constructor
        · rintro ⟨k, h1, h2⟩
          rcases two_bit.1 h2 with h2 | h2
          · exact .inl (h2 ▸ h1)
          · exact .inr (h2 ▸ h1)
        · rintro (h | h)
          · exact ⟨_, h, two_bit.2 (.inl rfl)⟩
          · exact ⟨_, h, two_bit.2 (.inr rfl)⟩
      show (if _ then _ else _ : Nat).testBit c = true ↔ _
      by_cases h : leaks.testBit m = true ∧ bx &&& (2 ^ p.1.toNat ||| 2 ^ p.2.toNat) ≠ 0
      · rw [if_pos h, Nat.testBit_or, Bool.or_eq_true, two_bit]
        have hj := hm.1 h.2
        constructor
        · rintro (h1 | h1)
          · exact up h1
          · exact ⟨m, p, by omega, hp, h.1, h1, hj⟩
        · intro h1
          rcases down h1 with h1 | ⟨q, hq, _, h3, _⟩
          · exact .inl h1
          · rw [hp] at hq; cases hq; exact .inr h3
      · rw [if_neg h]
        refine ⟨up, fun h1 => ?_⟩
        rcases down h1 with h1 | ⟨q, hq, h2, _, h4⟩
        · exact h1
        · rw [hp] at hq; cases hq
          exact absurd ⟨h2, hm.2 h4⟩ h
/-- one day -/
def dayB (day : List Int) (near : List (Int × Int)) (n boxes leaks p : Nat) : Nat := lkB day (spB day p n boxes) near leaks n near.length
theorem dayB_lt {day : List Int} {near : List (Int × Int)} {n boxes leaks p : Nat} (hp : p < 2 ^ n) : dayB day near n boxes leaks p < 2 ^ n := lkB_lt (spB_lt hp _) _
theorem dayB_stays {day : List Int} {near : List (Int × Int)} {n boxes leaks p i : Nat} (h : p.testBit i = true) : (dayB day near n boxes leaks p).testBit i = true := lkB_bit.2 (.inl (spB_bit.2 (.inl h)))
theorem dayB_law {day : List Int} {near : List (Int × Int)} {n boxes leaks p : Nat} (hp : p < 2 ^ n) (hd : ∀ z ∈ day, 0 ≤ z ∧ z < boxes) (hn : ∀ q ∈ near, 0 ≤ q.1 ∧ 0 ≤ q.2) {k : Nat} {z : Int} (hk : k < n) (hz : day[k]? = some z) (hlen : day.length = n) :
    (dayB day near n boxes leaks p).testBit k = (bxB day p n ||| mrB near leaks (bxB day p n) near.length).testBit z.toNat := by
  have hlt : ∀ {j}, p.testBit j = true → j < n := fun {j} h => Classical.byContradiction fun hj => by
    rw [Nat.testBit_lt_two_pow (Nat.lt_of_lt_of_le hp (Nat.pow_le_pow_right (by decide) (Nat.le_of_not_lt hj)))] at h
    cases h
  have nn : ∀ {j : Nat} {y : Int}, day[j]? = some y → 0 ≤ y ∧ y < (boxes : Int) := fun h => hd _ (List.mem_of_getElem? h)
  have hS : ∀ {j y}, j < n → day[j]? = some y → ((spB day p n boxes).testBit j = true ↔ (bxB day p n).testBit y.toNat = true) := by
    intro j y hj hy
    rw [spB_bit, bxB_bit]
    constructor
    · rintro (h | ⟨x, hx, _, h1, i, h2, h3, h4⟩)
      · exact ⟨j, y, hj, h, hy, rfl⟩
      · rw [hy] at h1; cases h1
        exact ⟨i, _, h2, h4, h3, rfl⟩
    · rintro ⟨i, x, h1, h2, h3, h4⟩
      have := nn h3
      have := nn hy
      obtain rfl : x = y := by omega
      refine .inr ⟨x.toNat, by omega, hj, by rw [hy]; congr 1; omega, i, h1, by rw [h3]; congr 1; omega, h2⟩
  apply Bool.eq_iff_iff.2
  rw [Nat.testBit_or, Bool.or_eq_true, mrB_bit]
  unfold dayB
  rw [lkB_bit, hS hk hz]
  have ez := nn hz
  refine or_congr Iff.rfl ?_
  constructor
  · rintro ⟨i, q, h1, h2, h3, _, h5, j, h6, h7, h8⟩
    have hq := hn q (List.mem_of_getElem? h2)
    refine ⟨i, q, h1, h2, h3, ?_, ?_⟩
    · rw [hz] at h5
      rcases h5 with h | h <;> cases h
      · exact .inl rfl
      · exact .inr rfl
    · rcases h7 with h | h
      · exact .inl ((hS h6 h).1 h8)
      · exact .inr ((hS h6 h).1 h8)
  · rintro ⟨i, q, h1, h2, h3, h4, h5⟩
    have hq := hn q (List.mem_of_getElem? h2)
    refine ⟨i, q, h1, h2, h3, hk, ?_, ?_⟩
    · rw [hz]
      rcases h4 with h | h
      · exact .inl (congrArg some (by omega))
      · exact .inr (congrArg some (by omega))
    · rcases h5 with h | h
      · obtain ⟨j, y, g1, g2, g3, g4⟩ := bxB_bit.1 h
        have := nn g3
        obtain rfl : y = q.1 := by omega
        exact ⟨j, g1, .inl g3, spB_bit.2 (.inl g2)⟩
      · obtain ⟨j, y, g1, g2, g3, g4⟩ := bxB_bit.1 h
        have := nn g3
        obtain rfl : y = q.2 := by omega
        exact ⟨j, g1, .inr g3, spB_bit.2 (.inl g2)⟩
end Go.Sh
