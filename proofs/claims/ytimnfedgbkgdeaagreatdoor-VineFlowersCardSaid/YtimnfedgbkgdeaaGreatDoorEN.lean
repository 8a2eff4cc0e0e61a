/- Part of a proof by a machine of ones own: see the text with the theorem. -/
import Derived.Test.YtimnfedgbkgdeaaGreatDoorXY
import Derived.Test.YtimnfedgbkgdeaaGreatDoorXWc
namespace Go.Proofs.YtimnfedgbkgdeaaGreatDoor.walk
open Go Go.Sh
set_option maxRecDepth 100000
set_option linter.unusedSimpArgs false
set_option linter.unusedVariables false
/-! the best number of flowers: numbers alone -/
def btB (bt : Bool) (a b : Int) : Bool := if bt = true then decide (b < a) else decide (a < b)
theorem bt_irr (bt : Bool) (a : Int) : btB bt a a = false := by cases bt <;> simp [btB]
theorem bt_trans {bt : Bool} {a b c : Int} (h1 : btB bt a b = false) (h2 : btB bt b c = false) : btB bt a c = false := by
  cases bt <;> simp [btB] at * <;> omega
theorem bt_add {bt : Bool} {a b : Int} (n : Int) (h : btB bt a b = false) : btB bt (a + n) (b + n) = false := by
  cases bt <;> simp [btB] at * <;> omega
theorem bt_of {bt : Bool} {a b : Int} (h : btB bt a b = true) : btB bt b a = false := by
  cases bt <;> simp [btB] at * <;> omega
/-- what can be got to, and the best number with it -/
abbrev Ga := Nat → Option Int
def upG (g : Ga) (k : Nat) (n : Int) : Ga := fun j => if j = k then some n else g j
def stepG (bt : Bool) (b : Int) (ad : Nat → Int) (u : Nat) (g : Ga) (h : Nat) : Ga :=
  match g (u + h) with
  | none => upG g (u + h) (b + ad h)
  | some x => if btB bt (b + ad h) x = true then upG g (u + h) (b + ad h) else g
def foldU (bt : Bool) (b : Int) (ad : Nat → Int) (u : Nat) (hs : List Nat) (g : Ga) : Ga := hs.foldl (stepG bt b ad u) g
/-- one day: from each sum that can be, up to some number of them -/
def dayG (bt : Bool) (ad : Nat → Nat → Int) (hs : List Nat) (g : Ga) : Nat → Ga
  | 0 => fun _ => none
  | u + 1 => match g u with
    | none => dayG bt ad hs g u
    | some b => foldU bt b (ad u) u hs (dayG bt ad hs g u)
theorem step_at (bt : Bool) (b : Int) (ad : Nat → Int) (u : Nat) (g : Ga) (h : Nat) : ∃ n, stepG bt b ad u g h (u + h) = some n ∧ btB bt (b + ad h) n = false := by
  unfold stepG
  cases hg : g (u + h) with
  | none => exact ⟨b + ad h, if_pos rfl, bt_irr _ _⟩
  | some x =>
    simp only
    split
    · exact ⟨b + ad h, if_pos rfl, bt_irr _ _⟩
    · rename_i hb
      exact ⟨x, hg, by simpa using hb⟩
theorem step_keep (bt : Bool) (b : Int) (ad : Nat → Int) (u : Nat) (g : Ga) (h k : Nat) {m : Int} (hk : g k = some m) : ∃ n, stepG bt b ad u g h k = some n ∧ btB bt m n = false := by
  unfold stepG
  cases hg : g (u + h) with
  | none =>
    simp only [upG]
    by_cases e : k = u + h
    · rw [e, hg] at hk; cases hk
    · rw [if_neg e]; exact ⟨m, hk, bt_irr _ _⟩
  | some x =>
    simp only
    split
    · rename_i hb
      simp only [upG]
      by_cases e : k = u + h
      · rw [if_pos e]
        rw [e, hg] at hk
        cases hk
        exact ⟨_, rfl, bt_of hb⟩
      · rw [if_neg e]; exact ⟨m, hk, bt_irr _ _⟩
    · exact ⟨m, hk, bt_irr _ _⟩
theorem step_from (bt : Bool) (b : Int) (ad : Nat → Int) (u : Nat) (g : Ga) (h k : Nat) {n : Int} (hk : stepG bt b ad u g h k = some n) : g k = some n ∨ (k = u + h ∧ n = b + ad h) := by
  unfold stepG at hk
  cases hg : g (u + h) with
  | none =>
    rw [hg] at hk
    simp only [upG] at hk
    split at hk
    · cases hk; rename_i e; exact .inr ⟨e, rfl⟩
    · exact .inl hk
  | some x =>
    rw [hg] at hk
    simp only at hk
    split at hk
    · simp only [upG] at hk
      split at hk
      · cases hk; rename_i e; exact .inr ⟨e, rfl⟩
      · exact .inl hk
    · exact .inl hk
theorem fold_keep (bt : Bool) (b : Int) (ad : Nat → Int) (u : Nat) : ∀ (hs : List Nat) (g : Ga) (k : Nat) (m : Int), g k = some m → ∃ n, foldU bt b ad u hs g k = some n ∧ btB bt m n = false
  | [], g, k, m, h => ⟨m, h, bt_irr _ _⟩
  | x :: hs, g, k, m, h => by
    obtain ⟨n1, h1, h2⟩ := step_keep bt b ad u g x k h
    obtain ⟨n2, h3, h4⟩ := fold_keep bt b ad u hs (stepG bt b ad u g x) k n1 h1
    exact ⟨n2, h3, bt_trans h2 h4⟩
theorem fold_at (bt : Bool) (b : Int) (ad : Nat → Int) (u : Nat) : ∀ (hs : List Nat) (g : Ga) (h : Nat), h ∈ hs → ∃ n, foldU bt b ad u hs g (u + h) = some n ∧ btB bt (b + ad h) n = false
  | x :: hs, g, h, hm => by
    rcases List.mem_cons.1 hm with rfl | hm
    · obtain ⟨n1, h1, h2⟩ := step_at bt b ad u g h
      obtain ⟨n2, h3, h4⟩ := fold_keep bt b ad u hs (stepG bt b ad u g h) (u + h) n1 h1
      exact ⟨n2, h3, bt_trans h2 h4⟩
    · exact fold_at bt b ad u hs (stepG bt b ad u g x) h hm
theorem fold_from (bt : Bool) (b : Int) (ad : Nat → Int) (u : Nat) : ∀ (hs : List Nat) (g : Ga) (k : Nat) (n : Int), foldU bt b ad u hs g k = some n → g k = some n ∨ ∃ h, h ∈ hs ∧ k = u + h ∧ n = b + ad h
  | [], g, k, n, h => .inl h
  | x :: hs, g, k, n, h => by
    rcases fold_from bt b ad u hs (stepG bt b ad u g x) k n h with h1 | ⟨y, h1, h2⟩
    · rcases step_from bt b ad u g x k h1 with h2 | h2
      · exact .inl h2
      · exact .inr ⟨x, List.mem_cons_self .., h2⟩
    · exact .inr ⟨y, List.mem_cons_of_mem _ h1, h2⟩
theorem day_keep (bt : Bool) (ad : Nat → Nat → Int) (hs : List Nat) (g : Ga) : ∀ (u v k : Nat) (m : Int), u ≤ v → dayG bt ad hs g u k = some m → ∃ n, dayG bt ad hs g v k = some n ∧ btB bt m n = false
  | u, 0, k, m, h, hk => by
    obtain rfl : u = 0 := by omega
    exact ⟨m, hk, bt_irr _ _⟩
  | u, v + 1, k, m, h, hk => by
    by_cases e : u = v + 1
    · subst e; exact ⟨m, hk, bt_irr _ _⟩
    · obtain ⟨n, h1, h2⟩ := day_keep bt ad hs g u v k m (by omega) hk
      unfold dayG
      cases hg : g v with
      | none => exact ⟨n, h1, h2⟩
      | some b =>
        obtain ⟨n2, h3, h4⟩ := fold_keep bt b (ad v) v hs _ k n h1
        exact ⟨n2, h3, bt_trans h2 h4⟩
theorem day_at (bt : Bool) (ad : Nat → Nat → Int) (hs : List Nat) (g : Ga) {u v h : Nat} {b : Int} (hu : u < v) (hg : g u = some b) (hh : h ∈ hs) : ∃ n, dayG bt ad hs g v (u + h) = some n ∧ btB bt (b + ad u h) n = false := by
  have h1 : dayG bt ad hs g (u + 1) = foldU bt b (ad u) u hs (dayG bt ad hs g u) := by
    rw [dayG, hg]
  obtain ⟨n1, h2, h3⟩ := fold_at bt b (ad u) u hs (dayG bt ad hs g u) h hh
  rw [← h1] at h2
  obtain ⟨n2, h4, h5⟩ := day_keep bt ad hs g (u + 1) v (u + h) n1 (by omega) h2
  exact ⟨n2, h4, bt_trans h3 h5⟩
theorem day_from (bt : Bool) (ad : Nat → Nat → Int) (hs : List Nat) (g : Ga) : ∀ (v k : Nat) (n : Int), dayG bt ad hs g v k = some n → ∃ u b h, u < v ∧ g u = some b ∧ h ∈ hs ∧ k = u + h ∧ n = b + ad u h
  | 0, k, n, h => by cases h
  | v + 1, k, n, h => by
    unfold dayG at h
    cases hg : g v with
    | none =>
      rw [hg] at h
      obtain ⟨u, b, x, h1, h2⟩ := day_from bt ad hs g v k n h
      exact ⟨u, b, x, by omega, h2⟩
    | some b =>
      rw [hg] at h
      rcases fold_from bt b (ad v) v hs _ k n h with h1 | ⟨x, h1, h2, h3⟩
      · obtain ⟨u, b', y, h4, h5⟩ := day_from bt ad hs g v k n h1
        exact ⟨u, b', y, by omega, h5⟩
      · exact ⟨v, b, x, by omega, hg, h1, h2, h3⟩
/-- which is picked -/
def pickG (bt : Bool) (g : Ga) : Nat → Option Int
  | 0 => none
  | k + 1 => match g k with
    | none => pickG bt g k
    | some n => match pickG bt g k with
      | none => some n
      | some b => if btB bt n b = true then some n else some b
theorem pick_at (bt : Bool) (g : Ga) : ∀ (v k : Nat) (n : Int), k < v → g k = some n → ∃ b, pickG bt g v = some b ∧ btB bt n b = false
  | v + 1, k, n, hk, hg => by
    by_cases e : k = v
    · subst e
      unfold pickG
      rw [hg]
      cases hp : pickG bt g k with
      | none => exact ⟨n, rfl, bt_irr _ _⟩
      | some b =>
        simp only
        split
        · exact ⟨n, rfl, bt_irr _ _⟩
        · rename_i h; exact ⟨b, rfl, by simpa using h⟩
    · obtain ⟨b, h1, h2⟩ := pick_at bt g v k n (by omega) hg
      unfold pickG
      cases hv : g v with
      | none => exact ⟨b, h1, h2⟩
      | some m =>
        simp only [h1]
        split
        · rename_i h; exact ⟨m, rfl, bt_trans h2 (bt_of h)⟩
        · exact ⟨b, rfl, h2⟩
theorem pick_from (bt : Bool) (g : Ga) : ∀ (v : Nat) (b : Int), pickG bt g v = some b → ∃ k, k < v ∧ g k = some b
  | v + 1, b, h => by
    unfold pickG at h
    cases hv : g v with
    | none =>
      rw [hv] at h
      obtain ⟨k, h1, h2⟩ := pick_from bt g v b h
      exact ⟨k, by omega, h2⟩
    | some m =>
      rw [hv] at h
      cases hp : pickG bt g v with
      | none => rw [hp] at h; cases h; exact ⟨v, by omega, hv⟩
      | some c =>
        rw [hp] at h
        simp only at h
        split at h
        · cases h; exact ⟨v, by omega, hv⟩
        · cases h
          obtain ⟨k, h1, h2⟩ := pick_from bt g v _ hp
          exact ⟨k, by omega, h2⟩
end Go.Proofs.YtimnfedgbkgdeaaGreatDoor.walk

namespace Go.Proofs.YtimnfedgbkgdeaaGreatDoor.walk
open Go Go.Sh
set_option maxRecDepth 100000
set_option linter.unusedSimpArgs false
set_option linter.unusedVariables false
/-! ways through the days -/
def sumP (p : Nat → Nat) : Nat → Nat
  | 0 => 0
  | i + 1 => sumP p i + p i
def cntP (ad : Nat → Nat → Nat → Int) (p : Nat → Nat) : Nat → Int
  | 0 => 0
  | i + 1 => cntP ad p i + ad i (sumP p i) (p i)
def Gd (bt : Bool) (ad : Nat → Nat → Nat → Int) (Hs : Nat → List Nat) : Nat → Ga
  | 0 => fun k => if k = 0 then some 0 else none
  | d + 1 => dayG bt (ad d) (Hs d) (Gd bt ad Hs d) (50 * d + 1)
theorem sum_congr {p q : Nat → Nat} : ∀ d, (∀ i, i < d → p i = q i) → sumP p d = sumP q d
  | 0, _ => rfl
  | d + 1, h => by rw [sumP, sumP, sum_congr d (fun i hi => h i (by omega)), h d (by omega)]
theorem cnt_congr {ad : Nat → Nat → Nat → Int} {p q : Nat → Nat} : ∀ d, (∀ i, i < d → p i = q i) → cntP ad p d = cntP ad q d
  | 0, _ => rfl
  | d + 1, h => by rw [cntP, cntP, cnt_congr d (fun i hi => h i (by omega)), sum_congr d (fun i hi => h i (by omega)), h d (by omega)]
theorem sum_bd {p : Nat → Nat} : ∀ d, (∀ i, i < d → p i ≤ 50) → sumP p d ≤ 50 * d
  | 0, _ => by simp [sumP]
  | d + 1, h => by
    have h1 := sum_bd d fun i hi => h i (by omega)
    have h2 := h d (by omega)
    rw [sumP]; omega
theorem path_at {bt : Bool} {ad : Nat → Nat → Nat → Int} {Hs : Nat → List Nat} (hH : ∀ i h, h ∈ Hs i → h ≤ 50) {p : Nat → Nat} : ∀ d, (∀ i, i < d → p i ∈ Hs i) → ∃ n, Gd bt ad Hs d (sumP p d) = some n ∧ btB bt (cntP ad p d) n = false
  | 0, _ => ⟨0, rfl, bt_irr _ _⟩
  | d + 1, h => by
    obtain ⟨b, h1, h2⟩ := path_at hH (ad := ad) (p := p) d fun i hi => h i (by omega)
    have hs := sum_bd d fun i hi => hH i _ (h i (by omega))
    obtain ⟨n, h3, h4⟩ := day_at bt (ad d) (Hs d) (Gd bt ad Hs d) (v := 50 * d + 1) (by omega) h1 (h d (by omega))
    exact ⟨n, h3, bt_trans (bt_add _ h2) h4⟩
theorem path_from {bt : Bool} {ad : Nat → Nat → Nat → Int} {Hs : Nat → List Nat} : ∀ d k n, Gd bt ad Hs d k = some n → ∃ p : Nat → Nat, (∀ i, i < d → p i ∈ Hs i) ∧ sumP p d = k ∧ cntP ad p d = n
  | 0, k, n, h => by
    unfold Gd at h
    split at h
    · rename_i e
      cases h
      exact ⟨fun _ => 0, fun i hi => by omega, e.symm, rfl⟩
    · cases h
  | d + 1, k, n, h => by
    obtain ⟨u, b, x, h1, h2, h3, rfl, rfl⟩ := day_from _ _ _ _ _ _ _ h
    obtain ⟨p, h4, h5, h6⟩ := path_from d u b h2
    have hq : ∀ i, i < d → (fun i => if i = d then x else p i) i = p i := fun i hi => by show (if i = d then x else p i) = p i; rw [if_neg (by omega)]
    have hd : (fun i => if i = d then x else p i) d = x := by show (if d = d then x else p d) = x; rw [if_pos rfl]
    refine ⟨fun i => if i = d then x else p i, fun i hi => ?_, ?_, ?_⟩
    · by_cases e : i = d
      · subst e; rw [hd]; exact h3
      · rw [hq i (by omega)]; exact h4 i (by omega)
    · rw [sumP, sum_congr d hq, if_pos rfl, h5]
    · rw [cntP, cnt_congr d hq, sum_congr d hq, if_pos rfl, h5, h6]
def bestI (bt : Bool) (g : Ga) : Int := (pickG bt g 2001).getD 0
theorem best_at {bt : Bool} {ad : Nat → Nat → Nat → Int} {Hs : Nat → List Nat} (hH : ∀ i h, h ∈ Hs i → h ≤ 50) {p : Nat → Nat} {d : Nat} (hd : d ≤ 40) (hp : ∀ i, i < d → p i ∈ Hs i) : btB bt (cntP ad p d) (bestI bt (Gd bt ad Hs d)) = false := by
  obtain ⟨n, h1, h2⟩ := path_at hH (bt := bt) (ad := ad) d hp
  have hs := sum_bd d fun i hi => hH i _ (hp i hi)
  obtain ⟨b, h3, h4⟩ := pick_at bt (Gd bt ad Hs d) 2001 _ n (by omega) h1
  unfold bestI
  rw [h3, Option.getD_some]
  exact bt_trans h2 h4
theorem best_from {bt : Bool} {ad : Nat → Nat → Nat → Int} {Hs : Nat → List Nat} (hH : ∀ i h, h ∈ Hs i → h ≤ 50) {d : Nat} (hd : d ≤ 40) (hne : ∀ i, i < d → Hs i ≠ []) : ∃ p : Nat → Nat, (∀ i, i < d → p i ∈ Hs i) ∧ cntP ad p d = bestI bt (Gd bt ad Hs d) := by
  have hp : ∀ i, i < d → (fun i => (Hs i).headD 0) i ∈ Hs i := fun i hi => by
    show (Hs i).headD 0 ∈ Hs i
    cases h : Hs i with
    | nil => exact absurd h (hne i hi)
    | cons x l => exact List.mem_cons_self ..
  obtain ⟨n, h1, h2⟩ := path_at hH (bt := bt) (ad := ad) d hp
  have hs := sum_bd d fun i hi => hH i _ (hp i hi)
  obtain ⟨b, h3, h4⟩ := pick_at bt (Gd bt ad Hs d) 2001 _ n (by omega) h1
  obtain ⟨k, h5, h6⟩ := pick_from bt (Gd bt ad Hs d) 2001 b h3
  obtain ⟨q, h7, h8, h9⟩ := path_from d k b h6
  refine ⟨q, h7, ?_⟩
  unfold bestI
  rw [h3, h9]; rfl
/-- where all numbers are 0, the best one is -/
theorem pick_zero (bt : Bool) (g : Ga) (h0 : ∀ k n, k < 2001 → g k = some n → n = 0) : bestI bt g = 0 := by
  unfold bestI
  cases hp : pickG bt g 2001 with
  | none => rfl
  | some b =>
    obtain ⟨k, h1, h2⟩ := pick_from bt g 2001 b hp
    rw [h0 k b h1 h2]; rfl
end Go.Proofs.YtimnfedgbkgdeaaGreatDoor.walk

namespace Go.Proofs.YtimnfedgbkgdeaaGreatDoor.walk
open Go Go.Sh
set_option maxRecDepth 100000
set_option linter.unusedSimpArgs false
set_option linter.unusedVariables false
/-! how many racemes open on the way: that is how many flowers there are -/
def adR (D : Nat) (r : Rac) (i u h : Nat) : Bool := (decide (r.need ≤ ((u + h : Nat) : Int)) && (decide (i = 0) || decide ((u : Int) < r.need))) && decide ((D : Int) < (i : Int) + r.fl)
def adK (rs : List Rac) (D i u h : Nat) : Nat → Int
  | 0 => 0
  | k + 1 => adK rs D i u h k + (match rs[k]? with | some r => if adR D r i u h = true then 1 else 0 | none => 0)
theorem adK_bd (rs : List Rac) (D i u h : Nat) : ∀ k, 0 ≤ adK rs D i u h k ∧ adK rs D i u h k ≤ k
  | 0 => ⟨Int.le_refl _, Int.le_refl _⟩
  | k + 1 => by
    have ih := adK_bd rs D i u h k
    unfold adK
    cases rs[k]? with
    | none => simp only; omega
    | some r => simp only; split <;> omega
def adI (rs : List Rac) (D i u h : Nat) : Int := adK rs D i u h rs.length
end Go.Proofs.YtimnfedgbkgdeaaGreatDoor.walk
