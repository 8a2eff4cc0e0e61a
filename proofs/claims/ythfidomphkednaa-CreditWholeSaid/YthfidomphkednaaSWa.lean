/- Part of a proof by a machine of ones own: see the text with the theorem. -/
import Derived.Test.YthfidomphkednaaShF
namespace Go.Sh
/-! sorting by exchange of neighbours: numbers alone -/
section
variable {α : Type} (key : α → Int)
def SortTo (L : List α) (n : Nat) : Prop := ∀ x y a b, x < y → y < n → L[x]? = some a → L[y]? = some b → key a ≤ key b
def SortX (L : List α) (n j : Nat) : Prop := (∀ x y a b, x < y → y < n → x ≠ j → y ≠ j → L[x]? = some a → L[y]? = some b → key a ≤ key b) ∧ (∀ y a b, j < y → y < n → L[j]? = some a → L[y]? = some b → key a ≤ key b)
def swapL (L : List α) (j : Nat) (a b : α) : List α := (L.set (j + 1) a).set j b
theorem swap_at {L : List α} {j : Nat} (h : j + 1 < L.length) (a b : α) (x : Nat) : (swapL L j a b)[x]? = if x = j then some b else if x = j + 1 then some a else L[x]? := by
  unfold swapL
  by_cases h1 : x = j
  · subst h1; rw [if_pos rfl, List.getElem?_set_self (by rw [List.length_set]; omega)]
  · rw [if_neg h1, List.getElem?_set_ne (Ne.symm h1)]
    by_cases h2 : x = j + 1
    · subst h2; rw [if_pos rfl, List.getElem?_set_self h]
    · rw [if_neg h2, List.getElem?_set_ne (Ne.symm h2)]
theorem swap_perm : ∀ {L : List α} {j : Nat} {a b : α}, L[j]? = some a → L[j + 1]? = some b → (swapL L j a b).Perm L
  | [], _, _, _, h, _ => by simp at h
  | [_], 0, _, _, _, h => by simp at h
  | x :: y :: L, 0, a, b, h1, h2 => by
    simp at h1 h2
    subst h1 h2
    exact List.Perm.swap _ _ _
  | x :: L, j + 1, a, b, h1, h2 => by
    have h1' : L[j]? = some a := by simpa using h1
    have h2' : L[j + 1]? = some b := by simpa using h2
    have := swap_perm h1' h2'
    exact List.Perm.cons x this
variable {key}
theorem sortX_start {L : List α} {i : Nat} (h : SortTo key L i) : SortX key L (i + 1) i :=
  ⟨fun x y a b h1 h2 h3 h4 h5 h6 => h x y a b h1 (by omega) h5 h6, fun y a b h1 h2 => absurd h1 (by omega)⟩
theorem sortX_step {L : List α} {n j : Nat} {a b : α} (h : SortX key L n (j + 1)) (hl : j + 1 < L.length) (ha : L[j]? = some a) (hb : L[j + 1]? = some b) (hk : key b < key a) : SortX key (swapL L j a b) n j := by
  refine ⟨fun x y c d h1 h2 h3 h4 h5 h6 => ?_, fun y c d h1 h2 h5 h6 => ?_⟩
  · rw [swap_at hl, if_neg h3] at h5
    rw [swap_at hl, if_neg h4] at h6
    by_cases e1 : x = j + 1
    · rw [if_pos e1] at h5
      rw [if_neg (by omega)] at h6
      cases h5
      exact h.1 j y a d (by omega) h2 (by omega) (by omega) ha h6
    · rw [if_neg e1] at h5
      by_cases e2 : y = j + 1
      · rw [if_pos e2] at h6
        cases h6
        exact h.1 x j c a (by omega) (by omega) e1 (by omega) h5 ha
      · rw [if_neg e2] at h6
        exact h.1 x y c d h1 h2 e1 e2 h5 h6
  · rw [swap_at hl, if_pos rfl] at h5
    cases h5
    rw [swap_at hl, if_neg (by omega)] at h6
    by_cases e2 : y = j + 1
    · rw [if_pos e2] at h6
      cases h6
      omega
    · rw [if_neg e2] at h6
      exact h.2 y b d (by omega) h2 hb h6
theorem sortX_stop {L : List α} {n j : Nat} (h : SortX key L n j) (hs : ∀ j' a b, j = j' + 1 → L[j']? = some a → L[j]? = some b → key a ≤ key b) (hl : j < L.length) : SortTo key L n := by
  intro x y a b h1 h2 h3 h4
  by_cases e1 : x = j
  · subst e1; exact h.2 y a b h1 h2 h3 h4
  · by_cases e2 : y = j
    · subst e2
      obtain ⟨j', rfl⟩ : ∃ j', y = j' + 1 := ⟨y - 1, by omega⟩
      obtain ⟨c, hc⟩ : ∃ c, L[j']? = some c := ⟨_, List.getElem?_eq_getElem (by omega)⟩
      have k1 := hs j' c b rfl hc h4
      by_cases e3 : x = j'
      · subst e3
        rw [h3] at hc; cases hc
        exact k1
      · have := h.1 x j' a c (by omega) (by omega) e1 (by omega) h3 hc
        omega
    · exact h.1 x y a b h1 h2 e1 e2 h3 h4
theorem sortTo_one (L : List α) : SortTo key L 1 := fun x y _ _ h1 h2 => by omega
end
end Go.Sh
