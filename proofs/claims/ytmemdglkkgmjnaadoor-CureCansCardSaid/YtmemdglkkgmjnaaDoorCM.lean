/- Part of a proof by a machine of ones own: see the text with the theorem. -/
import Derived.Test.YtmemdglkkgmjnaaDoorShF
namespace Go.Proofs.YtmemdglkkgmjnaaDoor.walk
set_option linter.unusedSimpArgs false
set_option linter.unusedVariables false
/-! Rows of spans whose neighbours differ by spans: numbers alone -/
abbrev Sp := Int × Int
def inn (x : Int) (s : Sp) : Prop := s.1 ≤ x ∧ x ≤ s.2
/-- a choice that fits -/
def SolS (N : Nat) (L U : Nat → Sp) (x : Nat → Int) : Prop := (∀ i, i ≤ N → inn (x i) (U i)) ∧ ∀ i, i < N → inn (x i - x (i + 1)) (L i)
/-- a row in which each two neighbours agree -/
def Tight (N : Nat) (L U : Nat → Sp) : Prop := ∀ d, d < N → ((U d).1 - (L d).2 ≤ (U (d + 1)).1 ∧ (U (d + 1)).2 ≤ (U d).2 - (L d).1) ∧ ((U (d + 1)).1 + (L d).1 ≤ (U d).1 ∧ (U d).2 ≤ (U (d + 1)).2 + (L d).2)
def subS (a b : Sp) : Prop := b.1 ≤ a.1 ∧ a.2 ≤ b.2
theorem subS.refl (a : Sp) : subS a a := ⟨Int.le_refl _, Int.le_refl _⟩
theorem subS.trans {a b c : Sp} (h : subS a b) (k : subS b c) : subS a c := ⟨Int.le_trans k.1 h.1, Int.le_trans h.2 k.2⟩
theorem subS.eq {a b : Sp} (h : subS a b) (k : subS b a) : a = b := Prod.ext (Int.le_antisymm k.1 h.1) (Int.le_antisymm h.2 k.2)
/-- what follows a number of a tight row -/
def fwdS (L U : Nat → Sp) (a : Nat) (v : Int) : Nat → Int
  | 0 => v
  | k + 1 => min (U (a + k + 1)).2 (fwdS L U a v k - (L (a + k)).1)
def bwdS (L U : Nat → Sp) (a : Nat) (v : Int) : Nat → Int
  | 0 => v
  | k + 1 => min (U (a - k - 1)).2 (bwdS L U a v k + (L (a - k - 1)).2)
def chainS (L U : Nat → Sp) (a : Nat) (v : Int) (i : Nat) : Int := if a ≤ i then fwdS L U a v (i - a) else bwdS L U a v (a - i)
theorem fwdS_in {N : Nat} {L U : Nat → Sp} (hT : Tight N L U) (hL : ∀ i, i < N → (L i).1 ≤ (L i).2) (hU : ∀ i, i ≤ N → (U i).1 ≤ (U i).2) {a : Nat} {v : Int} (hv : inn v (U a)) : ∀ k, a + k ≤ N → inn (fwdS L U a v k) (U (a + k)) ∧ (∀ j, k = j + 1 → inn (fwdS L U a v j - fwdS L U a v (j + 1)) (L (a + j)))
  | 0, _ => ⟨hv, fun j h => by omega⟩
  | k + 1, hk => by
    have h1 := (fwdS_in hT hL hU hv k (by omega)).1
    have h2 := (hT (a + k) (by omega))
    have h3 := hL (a + k) (by omega)
    have h4 := hU (a + k + 1) (by omega)
    have e : fwdS L U a v (k + 1) = min (U (a + k + 1)).2 (fwdS L U a v k - (L (a + k)).1) := rfl
    obtain ⟨z, hz⟩ : ∃ z, z = fwdS L U a v k := ⟨_, rfl⟩
    rw [← hz] at h1 e
    unfold inn at h1
    refine ⟨?_, fun j hj => ?_⟩
    · rw [e]; show (U (a + k + 1)).1 ≤ _ ∧ _ ≤ (U (a + k + 1)).2; omega
    · obtain rfl : j = k := by omega
      rw [e, ← hz]; unfold inn; omega
theorem bwdS_in {N : Nat} {L U : Nat → Sp} (hT : Tight N L U) (hL : ∀ i, i < N → (L i).1 ≤ (L i).2) (hU : ∀ i, i ≤ N → (U i).1 ≤ (U i).2) {a : Nat} (ha : a ≤ N) {v : Int} (hv : inn v (U a)) : ∀ k, k ≤ a → inn (bwdS L U a v k) (U (a - k)) ∧ (∀ j, k = j + 1 → inn (bwdS L U a v (j + 1) - bwdS L U a v j) (L (a - j - 1)))
  | 0, _ => ⟨hv, fun j h => by omega⟩
  | k + 1, hk => by
    have h1 := (bwdS_in hT hL hU ha hv k (by omega)).1
    have h2 := (hT (a - k - 1) (by omega))
    have h3 := hL (a - k - 1) (by omega)
    have h4 := hU (a - k - 1) (by omega)
    rw [show a - k - 1 + 1 = a - k by omega] at h2
    have e : bwdS L U a v (k + 1) = min (U (a - k - 1)).2 (bwdS L U a v k + (L (a - k - 1)).2) := rfl
    obtain ⟨z, hz⟩ : ∃ z, z = bwdS L U a v k := ⟨_, rfl⟩
    rw [← hz] at h1 e
    unfold inn at h1
    refine ⟨?_, fun j hj => ?_⟩
    · rw [e, show a - (k + 1) = a - k - 1 by omega]; unfold inn; omega
    · obtain rfl : j = k := by omega
      rw [e, ← hz]; unfold inn; omega
/-- each number of a tight row is in a choice that fits -/
theorem chainS_sol {N : Nat} {L U : Nat → Sp} (hT : Tight N L U) (hL : ∀ i, i < N → (L i).1 ≤ (L i).2) (hU : ∀ i, i ≤ N → (U i).1 ≤ (U i).2) {a : Nat} (ha : a ≤ N) {v : Int} (hv : inn v (U a)) : SolS N L U (chainS L U a v) ∧ chainS L U a v a = v := by
  refine ⟨⟨fun i hi => ?_, fun i hi => ?_⟩, ?_⟩
  · unfold chainS
    by_cases h : a ≤ i
    · rw [if_pos h]
      have := (fwdS_in hT hL hU hv (i - a) (by omega)).1
      rwa [show a + (i - a) = i by omega] at this
    · rw [if_neg h]
      have := (bwdS_in hT hL hU ha hv (a - i) (by omega)).1
      rwa [show a - (a - i) = i by omega] at this
  · unfold chainS
    by_cases h : a ≤ i
    · rw [if_pos h, if_pos (by omega)]
      have := (fwdS_in hT hL hU hv (i - a + 1) (by omega)).2 (i - a) rfl
      rwa [show a + (i - a) = i by omega, show i - a + 1 = i + 1 - a by omega] at this
    · rw [if_neg h]
      have := (bwdS_in hT hL hU ha hv (a - i) (by omega)).2 (a - i - 1) (by omega)
      rw [show a - (a - i - 1) - 1 = i by omega, show a - i - 1 + 1 = a - i by omega] at this
      by_cases h2 : a ≤ i + 1
      · rw [if_pos h2, show i + 1 - a = 0 by omega]
        rw [show a - i - 1 = 0 by omega] at this
        exact this
      · rw [if_neg h2]
        rwa [show a - i - 1 = a - (i + 1) by omega] at this
  · unfold chainS
    rw [if_pos (Nat.le_refl _), Nat.sub_self]; rfl
end Go.Proofs.YtmemdglkkgmjnaaDoor.walk

namespace Go.Proofs.YtmemdglkkgmjnaaDoor.walk
set_option linter.unusedSimpArgs false
set_option linter.unusedVariables false
/-- the moisture of a weight of which so much is no water -/
def moI (x s : Int) : Int := (1000 * (x - s) + x - 1) / x
/-- a row that agrees, and the choices that fit, say the same -/
structure ExactS (N : Nat) (L U0 U : Nat → Sp) : Prop where
  tight : Tight N L U
  ne : ∀ i, i ≤ N → (U i).1 ≤ (U i).2
  sol : ∀ x, SolS N L U x ↔ SolS N L U0 x
theorem ExactS.low {N : Nat} {L U0 U : Nat → Sp} (h : ExactS N L U0 U) (hL : ∀ i, i < N → (L i).1 ≤ (L i).2) {a : Nat} (ha : a ≤ N) {v : Int} (hv : inn v (U a)) : SolS N L U0 (chainS L U a v) ∧ chainS L U a v a = v := by
  obtain ⟨h1, h2⟩ := chainS_sol h.tight hL h.ne ha hv
  exact ⟨(h.sol _).1 h1, h2⟩
/-- two exact rows of rows with more and with less -/
theorem ExactS.mono {N : Nat} {L L' U0 U V0 V : Nat → Sp} (h : ExactS N L U0 U) (k : ExactS N L' V0 V) (hL' : ∀ i, i < N → (L' i).1 ≤ (L' i).2) (hs : ∀ x, SolS N L' V0 x → SolS N L U0 x) : ∀ i, i ≤ N → subS (V i) (U i) := by
  intro i hi
  have hne := k.ne i hi
  obtain ⟨a1, a2⟩ := k.low hL' hi (v := (V i).1) ⟨Int.le_refl _, hne⟩
  obtain ⟨b1, b2⟩ := k.low hL' hi (v := (V i).2) ⟨hne, Int.le_refl _⟩
  have c1 := ((h.sol _).2 (hs _ a1)).1 i hi
  have c2 := ((h.sol _).2 (hs _ b1)).1 i hi
  rw [a2] at c1
  rw [b2] at c2
  exact ⟨c1.1, c2.2⟩
theorem ExactS.uniq {N : Nat} {L U0 U V : Nat → Sp} (h : ExactS N L U0 U) (k : ExactS N L U0 V) (hL : ∀ i, i < N → (L i).1 ≤ (L i).2) : ∀ i, i ≤ N → V i = U i := fun i hi =>
  (h.mono k hL (fun _ h => h) i hi).eq (k.mono h hL (fun _ h => h) i hi)
end Go.Proofs.YtmemdglkkgmjnaaDoor.walk
