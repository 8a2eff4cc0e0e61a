/- Part of a proof by a machine of ones own: see the text with the theorem. -/
import Derived.Test.YtbbbgaiaigdngaaGreatDoorXY
import Derived.Test.YtbbbgaiaigdngaaGreatDoorXWc
namespace Go.Proofs.YtbbbgaiaigdngaaGreatDoor.walk
open Go Go.Sh
set_option maxRecDepth 100000
set_option linter.unusedSimpArgs false
set_option linter.unusedVariables false
/-! the best number of flowers: numbers alone -/
def btB (bt : Bool) (a b : Int) : Bool := if bt = true then decide (b < a) else decide (a < b)
theorem bt_irr (bt : Bool) (a : Int) : btB bt a a = false := by cases bt <;> simp [btB]
theorem bt_trans {bt : Bool} {a b c : Int} (h1 : btB bt a b = false) (h2 : btB bt b c = false) : btB bt a c = false := by
  cases bt <;> simp [btB] at * <;> omega
theorem bt_add {bt : Bool} {a b : Int} (n : Int) (h : btB bt a b = false) : btB bt (a + n) (b + n) = false := by
  cases bt <;> simp [btB] at * <;> omega
theorem bt_of {bt : Bool} {a b : Int} (h : btB bt a b = true) : btB bt b a = false := by
  cases bt <;> simp [btB] at * <;> omega
/-- what can be got to, and the best number with it -/
abbrev Ga := Nat → Option Int
def upG (g : Ga) (k : Nat) (n : Int) : Ga := fun j => if j = k then some n else g j
def stepG (bt : Bool) (b : Int) (ad : Nat → Int) (u : Nat) (g : Ga) (h : Nat) : Ga :=
  match g (u + h) with
  | none => upG g (u + h) (b + ad h)
  | some x => if btB bt (b + ad h) x = true then upG g (u + h) (b + ad h) else g
def foldU (bt : Bool) (b : Int) (ad : Nat → Int) (u : Nat) (hs : List Nat) (g : Ga) : Ga := hs.foldl (stepG bt b ad u) g
/-- one day: from each sum that can be, up to some number of them -/
def dayG (bt : Bool) (ad : Nat → Nat → Int) (hs : List Nat) (g : Ga) : Nat → Ga
  | 0 => fun _ => none
  | u + 1 => match g u with
    | none => dayG bt ad hs g u
    | some b => foldU bt b (ad u) u hs (dayG bt ad hs g u)
theorem step_at (bt : Bool) (b : Int) (ad : Nat → Int) (u : Nat) (g : Ga) (h : Nat) : ∃ n, stepG bt b ad u g h (u + h) = some n ∧ btB bt (b + ad h) n = false := by
  unfold stepG
  cases hg : g (u + h) with
  | none => exact ⟨b + ad h, if_pos rfl, bt_irr _ _⟩
  | some x =>
    simp only
    split
    · exact ⟨b + ad h, if_pos rfl, bt_irr _ _⟩
    · rename_i hb
      exact ⟨x, hg, by simpa using hb⟩
theorem step_keep (bt : Bool) (b : Int) (ad : Nat → Int) (u : Nat) (g : Ga) (h k : Nat) {m : Int} (hk : g k = some m) : ∃ n, stepG bt b ad u g h k = some n ∧ btB bt m n = false := by
  unfold stepG
  cases hg : g (u + h) with
  | none =>
    simp only [upG]
    by_cases e : k = u + h
    · rw [e, hg] at hk; cases hk
    · rw [if_neg e]; exact ⟨m, hk, bt_irr _ _⟩
  | some x =>
    simp only
    split
    · rename_i hb
      simp only [upG]
      by_cases e : k = u + h
      · rw [if_pos e]
        rw [e, hg] at hk
        cases hk
        exact ⟨_, rfl, bt_of hb⟩
      · rw [if_neg e]; exact ⟨m, hk, bt_irr _ _⟩
    · exact ⟨m, hk, bt_irr _ _⟩
theorem step_from (bt : Bool) (b : Int) (ad : Nat → Int) (u : Nat) (g : Ga) (h k : Nat) {n : Int} (hk : stepG bt b ad u g h k = some n) : g k = some n ∨ (k = u + h ∧ n = b + ad h) := by
  unfold stepG at hk
  cases hg : g (u + h) with
  | none =>
    rw [hg] at hk
    simp only [upG] at hk
    split at hk
    · cases hk; rename_i e; exact .inr ⟨e, rfl⟩
    · exact .inl hk
  | some x =>
    rw [hg] at hk
    simp only at hk
    split at hk
    · simp only [upG] at hk
      split at hk
      · cases hk; rename_i e; exact .inr ⟨e, rfl⟩
      · exact .inl hk
    · exact .inl hk
theorem fold_keep (bt : Bool) (b : Int) (ad : Nat → Int) (u : Nat) : ∀ (hs : List Nat) (g : Ga) (k : Nat) (m : Int), g k = some m → ∃ n, foldU bt b ad u hs g k = some n ∧ btB bt m n = false
  | [], g, k, m, h => ⟨m, h, bt_irr _ _⟩
  | x :: hs, g, k, m, h => by
    obtain ⟨n1, h1, h2⟩ := step_keep bt b ad u g x k h
    obtain ⟨n2, h3, h4⟩ := fold_keep bt b ad u hs (stepG bt b ad u g x) k n1 h1
    exact ⟨n2, h3, bt_trans h2 h4⟩
theorem fold_at (bt : Bool) (b : Int) (ad : Nat → Int) (u : Nat) : ∀ (hs : List Nat) (g : Ga) (h : Nat), h ∈ hs → ∃ n, foldU bt b ad u hs g (u + h) = some n ∧ btB bt (b + ad h) n = false
  | x :: hs, g, h, hm => by
    rcases List.mem_cons.1 hm with rfl | hm
    · obtain ⟨n1, h1, h2⟩ := step_at bt b ad u g h
      obtain ⟨n2, h3, h4⟩ := fold_keep bt b ad u hs (stepG bt b ad u g h) (u + h) n1 h1
      exact ⟨n2, h3, bt_trans h2 h4⟩
    · exact fold_at bt b ad u hs (stepG bt b ad u g x) h hm
theorem fold_from (bt : Bool) (b : Int) (ad : Nat → Int) (u : Nat) : ∀ (hs : List Nat) (g : Ga) (k : Nat) (n : Int), foldU bt b ad u hs g k = some n → g k = some n ∨ ∃ h, h ∈ hs ∧ k = u + h ∧ n = b + ad h
  | [], g, k, n, h => .inl h
  | x :: hs, g, k, n, h => by
    rcases fold_from bt b ad u hs (stepG bt b ad u g x) k n h with h1 | ⟨y, h1, h2⟩
    · rcases step_from bt b ad u g x k h1 with h2 | h2
      · exact .inl h2
      · exact .inr ⟨x, List.mem_cons_self .., h2⟩
    · exact .inr ⟨y, List.mem_cons_of_mem _ h1, h2⟩
theorem day_keep (bt : Bool) (ad : Nat → Nat → Int) (hs : List Nat) (g : Ga) : ∀ (u v k : Nat) (m : Int), u ≤ v → dayG bt ad hs g u k = some m → ∃ n, dayG bt ad hs g v k = some n ∧ btB bt m n = false
  | u, 0, k, m, h, hk => by
    obtain rfl : u = 0 := by omega
    exact ⟨m, hk, bt_irr _ _⟩
  | u, v + 1, k, m, h, hk => by
    by_cases e : u = v + 1
    · subst e; exact ⟨m, hk, bt_irr _ _⟩
    · obtain ⟨n, h1, h2⟩ := day_keep bt ad hs g u v k m (by omega) hk
      unfold dayG
      cases hg : g v with
      | none => exact ⟨n, h1, h2⟩
      | some b =>
        obtain ⟨n2, h3, h4⟩ := fold_keep bt b (ad v) v hs _ k n h1
        exact ⟨n2, h3, bt_trans h2 h4⟩
theorem day_at (bt : Bool) (ad : Nat → Nat → Int) (hs : List Nat) (g : Ga) {u v h : Nat} {b : Int} (hu : u < v) (hg : g u = some b) (hh : h ∈ hs) : ∃ n, dayG bt ad hs g v (u + h) = some n ∧ btB bt (b + ad u h) n = false := by
  have h1 : dayG bt ad hs g (u + 1) = foldU bt b (ad u) u hs (dayG bt ad hs g u) := by
    rw [dayG, hg]
  obtain ⟨n1, h2, h3⟩ := fold_at bt b (ad u) u hs (dayG bt ad hs g u) h hh
  rw [← h1] at h2
  obtain ⟨n2, h4, h5⟩ := day_keep bt ad hs g (u + 1) v (u + h) n1 (by omega) h2
  exact ⟨n2, h4, bt_trans h3 h5⟩
theorem day_from (bt : Bool) (ad : Nat → Nat → Int) (hs : List Nat) (g : Ga) : ∀ (v k : Nat) (n : Int), dayG bt ad hs g v k = some n → ∃ u b h, u < v ∧ g u = some b ∧ h ∈ hs ∧ k = u + h ∧ n = b + ad u h
  | 0, k, n, h => by cases h
  | v + 1, k, n, h => by
    unfold dayG at h
    cases hg : g v with
    | none =>
      rw [hg] at h
      obtain ⟨u, b, x, h1, h2⟩ := day_from bt ad hs g v k n h
      exact ⟨u, b, x, by omega, h2⟩
    | some b =>
      rw [hg] at h
      rcases fold_from bt b (ad v) v hs _ k n h with h1 | ⟨x, h1, h2, h3⟩
      · obtain ⟨u, b', y, h4, h5⟩ := day_from bt ad hs g v k n h1
        exact ⟨u, b', y, by omega, h5⟩
      · exact ⟨v, b, x, by omega, hg, h1, h2, h3⟩
/-- which is picked -/
def pickG (bt : Bool) (g : Ga) : Nat → Option Int
  | 0 => none
  | k + 1 => match g k with
    | none => pickG bt g k
    | some n => match pickG bt g k with
      | none => some n
      | some b => if btB bt n b = true then some n else some b
theorem pick_at (bt : Bool) (g : Ga) : ∀ (v k : Nat) (n : Int), k < v → g k = some n → ∃ b, pickG bt g v = some b ∧ btB bt n b = false
  | v + 1, k, n, hk, hg => by
    by_cases e : k = v
    · subst e
      unfold pickG
      rw [hg]
      cases hp : pickG bt g k with
      | none => exact ⟨n, rfl, bt_irr _ _⟩
      | some b =>
        simp only
        split
        · exact ⟨n, rfl, bt_irr _ _⟩
        · rename_i h; exact ⟨b, rfl, by simpa using h⟩
    · obtain ⟨b, h1, h2⟩ := pick_at bt g v k n (by omega) hg
      unfold pickG
      cases hv : g v with
      | none => exact ⟨b, h1, h2⟩
      | some m =>
        simp only [h1]
        split
        · rename_i h; exact ⟨m, rfl, bt_trans h2 (bt_of h)⟩
        · exact ⟨b, rfl, h2⟩
theorem pick_from (bt : Bool) (g : Ga) : ∀ (v : Nat) (b : Int), pickG bt g v = some b → ∃ k, k < v ∧ g k = some b
  | v + 1, b, h => by
    unfold pickG at h
    cases hv : g v with
    | none =>
      rw [hv] at h
      obtain ⟨k, h1, h2⟩ := pick_from bt g v b h
      exact ⟨k, by omega, h2⟩
    | some m =>
      rw [hv] at h
      cases hp : pickG bt g v with
      | none => rw [hp] at h; cases h; exact ⟨v, by omega, hv⟩
      | some c =>
        rw [hp] at h
        simp only at h
        split at h
        · cases h; exact ⟨v, by omega, hv⟩
        · cases h
          obtain ⟨k, h1, h2⟩ := pick_from bt g v _ hp
          exact ⟨k, by omega, h2⟩
end Go.Proofs.YtbbbgaiaigdngaaGreatDoor.walk

namespace Go.Proofs.YtbbbgaiaigdngaaGreatDoor.walk
open Go Go.Sh
set_option maxRecDepth 100000
set_option linter.unusedSimpArgs false
set_option linter.unusedVariables false
/-! ways through the days -/
def sumP (p : Nat → Nat) : Nat → Nat
  | 0 => 0
  | i + 1 => sumP p i + p i
def cntP (ad : Nat → Nat → Nat → Int) (p : Nat → Nat) : Nat → Int
  | 0 => 0
  | i + 1 => cntP ad p i + ad i (sumP p i) (p i)
def Gd (bt : Bool) (ad : Nat → Nat → Nat → Int) (Hs : Nat → List Nat) : Nat → Ga
  | 0 => fun k => if k = 0 then some 0 else none
  | d + 1 => dayG bt (ad d) (Hs d) (Gd bt ad Hs d) (50 * d + 1)
theorem sum_congr {p q : Nat → Nat} : ∀ d, (∀ i, i < d → p i = q i) → sumP p d = sumP q d
  | 0, _ => rfl
  | d + 1, h => by rw [sumP, sumP, sum_congr d (fun i hi => h i (by omega)), h d (by omega)]
theorem cnt_congr {ad : Nat → Nat → Nat → Int} {p q : Nat → Nat} : ∀ d, (∀ i, i < d → p i = q i) → cntP ad p d = cntP ad q d
  | 0, _ => rfl
  | d + 1, h => by rw [cntP, cntP, cnt_congr d (fun i hi => h i (by omega)), sum_congr d (fun i hi => h i (by omega)), h d (by omega)]
theorem sum_bd {p : Nat → Nat} : ∀ d, (∀ i, i < d → p i ≤ 50) → sumP p d ≤ 50 * d
  | 0, _ => by simp [sumP]
  | d + 1, h => by
    have h1 := sum_bd d fun i hi => h i (by omega)
    have h2 := h d (by omega)
    rw [sumP]; omega
theorem path_at {bt : Bool} {ad : Nat → Nat → Nat → Int} {Hs : Nat → List Nat} (hH : ∀ i h, h ∈ Hs i → h ≤ 50) {p : Nat → Nat} : ∀ d, (∀ i, i < d → p i ∈ Hs i) → ∃ n, Gd bt ad Hs d (sumP p d) = some n ∧ btB bt (cntP ad p d) n = false
  | 0, _ => ⟨0, rfl, bt_irr _ _⟩
  | d + 1, h => by
    obtain ⟨b, h1, h2⟩ := path_at hH (ad := ad) (p := p) d fun i hi => h i (by omega)
    have hs := sum_bd d fun i hi => hH i _ (h i (by omega))
    obtain ⟨n, h3, h4⟩ := day_at bt (ad d) (Hs d) (Gd bt ad Hs d) (v := 50 * d + 1) (by omega) h1 (h d (by omega))
    exact ⟨n, h3, bt_trans (bt_add _ h2) h4⟩
theorem path_from {bt : Bool} {ad : Nat → Nat → Nat → Int} {Hs : Nat → List Nat} : ∀ d k n, Gd bt ad Hs d k = some n → ∃ p : Nat → Nat, (∀ i, i < d → p i ∈ Hs i) ∧ sumP p d = k ∧ cntP ad p d = n
  | 0, k, n, h => by
    unfold Gd at h
    split at h
    · rename_i e
      cases h
      exact ⟨fun _ => 0, fun i hi => by omega, e.symm, rfl⟩
    · cases h
  | d + 1, k, n, h => by
    obtain ⟨u, b, x, h1, h2, h3, rfl, rfl⟩ := day_from _ _ _ _ _ _ _ h
    obtain ⟨p, h4, h5, h6⟩ := path_from d u b h2
    have hq : ∀ i, i < d → (fun i => if i = d then x else p i) i = p i := fun i hi => by show (if i = d then x else p i) = p i; rw [if_neg (by omega)]
    have hd : (fun i => if i = d then x else p i) d = x := by show (if d = d then x else p d) = x; rw [if_pos rfl]
    refine ⟨fun i => if i = d then x else p i, fun i hi => ?_, ?_, ?_⟩
    · by_cases e : i = d
      · subst e; rw [hd]; exact h3
      · rw [hq i (by omega)]; exact h4 i (by omega)
    · rw [sumP, sum_congr d hq, if_pos rfl, h5]
    · rw [cntP, cnt_congr d hq, sum_congr d hq, if_pos rfl, h5, h6]
def bestI (bt : Bool) (g : Ga) : Int := (pickG bt g 2001).getD 0
theorem best_from {bt : Bool} {ad : Nat → Nat → Nat → Int} {Hs : Nat → List Nat} (hH : ∀ i h, h ∈ Hs i → h ≤ 50) {d : Nat} (hd : d ≤ 40) (hne : ∀ i, i < d → Hs i ≠ []) : ∃ p : Nat → Nat, (∀ i, i < d → p i ∈ Hs i) ∧ cntP ad p d = bestI bt (Gd bt ad Hs d) := by
  have hp : ∀ i, i < d → (fun i => (Hs i).headD 0) i ∈ Hs i := fun i hi => by
    show (Hs i).headD 0 ∈ Hs i
    cases h : Hs i with
    | nil => exact absurd h (hne i hi)
    | cons x l => exact List.mem_cons_self ..
  obtain ⟨n, h1, h2⟩ := path_at hH (bt := bt) (ad := ad) d hp
  have hs := sum_bd d fun i hi => hH i _ (hp i hi)
  obtain ⟨b, h3, h4⟩ := pick_at bt (Gd bt ad Hs d) 2001 _ n (by omega) h1
  obtain ⟨k, h5, h6⟩ := pick_from bt (Gd bt ad Hs d) 2001 b h3
  obtain ⟨q, h7, h8, h9⟩ := path_from d k b h6
  refine ⟨q, h7, ?_⟩
  unfold bestI
  rw [h3, h9]; rfl
/-- where all numbers are 0, the best one is -/
theorem pick_zero (bt : Bool) (g : Ga) (h0 : ∀ k n, k < 2001 → g k = some n → n = 0) : bestI bt g = 0 := by
  unfold bestI
  cases hp : pickG bt g 2001 with
  | none => rfl
  | some b =>
    obtain ⟨k, h1, h2⟩ := pick_from bt g 2001 b hp
    rw [h0 k b h1 h2]; rfl
end Go.Proofs.YtbbbgaiaigdngaaGreatDoor.walk

namespace Go.Proofs.YtbbbgaiaigdngaaGreatDoor.walk
open Go Go.Sh
set_option maxRecDepth 100000
set_option linter.unusedSimpArgs false
set_option linter.unusedVariables false
/-! how many racemes open on the way: that is how many flowers there are -/
def adR (D : Nat) (r : Rac) (i u h : Nat) : Bool := (decide (r.need ≤ ((u + h : Nat) : Int)) && (decide (i = 0) || decide ((u : Int) < r.need))) && decide ((D : Int) < (i : Int) + r.fl)
def adK (rs : List Rac) (D i u h : Nat) : Nat → Int
  | 0 => 0
  | k + 1 => adK rs D i u h k + (match rs[k]? with | some r => if adR D r i u h = true then 1 else 0 | none => 0)
theorem adK_bd (rs : List Rac) (D i u h : Nat) : ∀ k, 0 ≤ adK rs D i u h k ∧ adK rs D i u h k ≤ k
  | 0 => ⟨Int.le_refl _, Int.le_refl _⟩
  | k + 1 => by
    have ih := adK_bd rs D i u h k
    unfold adK
    cases rs[k]? with
    | none => simp only; omega
    | some r => simp only; split <;> omega
def adI (rs : List Rac) (D i u h : Nat) : Int := adK rs D i u h rs.length
def preL : List Int → Nat → Int
  | _, 0 => 0
  | [], _ + 1 => 0
  | z :: l, j + 1 => z + preL l j
theorem pre_nn : ∀ (l : List Int) (j : Nat), (∀ z ∈ l, 0 ≤ z) → 0 ≤ preL l j
  | _, 0, _ => by simp [preL]
  | [], _ + 1, _ => by simp [preL]
  | z :: l, j + 1, h => by
    have h1 := h z (List.mem_cons_self ..)
    have h2 := pre_nn l j fun y hy => h y (List.mem_cons_of_mem _ hy)
    unfold preL; omega
theorem pre_snoc : ∀ (l : List Int) (j : Nat) (z : Int), l[j]? = some z → preL l (j + 1) = preL l j + z
  | [], j, z, h => by simp at h
  | x :: l, 0, z, h => by
    simp at h; subst h
    simp [preL]
  | x :: l, j + 1, z, h => by
    have := pre_snoc l j z (by simpa using h)
    show x + preL l (j + 1) = x + preL l j + z
    omega
theorem opF_le (need : Int) : ∀ (l : List Int) (sum : Int) (i j : Nat), j < l.length → (∀ z ∈ l, 0 ≤ z) → (opF need l sum i ≤ i + j ↔ need ≤ sum + preL l (j + 1))
  | [], sum, i, j, h, _ => by simp at h
  | z :: l, sum, i, j, h, hn => by
    unfold opF preL
    have hz := hn z (List.mem_cons_self ..)
    have hn' : ∀ y ∈ l, 0 ≤ y := fun y hy => hn y (List.mem_cons_of_mem _ hy)
    have hp := pre_nn l j hn'
    by_cases e : need ≤ sum + z
    · rw [if_pos e]
      constructor
      · intro _; omega
      · intro _; omega
    · rw [if_neg e]
      cases j with
      | zero =>
        have := (opF_ge need l (sum + z) (i + 1)).1
        constructor
        · intro h; omega
        · intro h; simp [preL] at h; omega
      | succ j =>
        have ih := opF_le need l (sum + z) (i + 1) j (by simpa using h) hn'
        rw [show i + 1 + j = i + (j + 1) by omega] at ih
        rw [ih]
        constructor <;> intro h <;> omega
theorem sum_pre {L : List Int} {p : Nat → Nat} (hn : ∀ z ∈ L, 0 ≤ z) (hp : ∀ i z, L[i]? = some z → p i = z.toNat) : ∀ d, d ≤ L.length → ((sumP p d : Nat) : Int) = preL L d
  | 0, _ => by cases L <;> simp [sumP, preL]
  | d + 1, hd => by
    have ih := sum_pre hn hp d (by omega)
    obtain ⟨z, hz⟩ : ∃ z, L[d]? = some z := ⟨_, List.getElem?_eq_getElem (by omega)⟩
    have h0 := hn z (List.mem_of_getElem? hz)
    rw [pre_snoc L d z hz, sumP, hp d z hz]
    omega
theorem cntP_add {f g : Nat → Nat → Nat → Int} {p : Nat → Nat} : ∀ d, cntP (fun i u h => f i u h + g i u h) p d = cntP f p d + cntP g p d
  | 0 => rfl
  | d + 1 => by
    rw [cntP, cntP, cntP, cntP_add d]; omega
theorem cntP_zero {p : Nat → Nat} : ∀ d, cntP (fun _ _ _ => 0) p d = 0
  | 0 => rfl
  | d + 1 => by rw [cntP, cntP_zero d]; rfl
theorem one_eq {L : List Int} {p : Nat → Nat} (hn : ∀ z ∈ L, 0 ≤ z) (hp : ∀ i z, L[i]? = some z → p i = z.toNat) (D : Nat) (r : Rac) (hneed : 0 ≤ r.need) : ∀ d, d ≤ L.length → cntP (fun i u h => if adR D r i u h = true then 1 else 0) p d = if opI L r.need < d ∧ (D : Int) < opI L r.need + r.fl then 1 else 0
  | 0, _ => by simp [cntP]
  | d + 1, hd => by
    have ih := one_eq hn hp D r hneed d (by omega)
    rw [cntP, ih]
    have h1 := opF_le r.need L 0 0 d (by omega) hn
    simp only [Nat.zero_add, Int.zero_add] at h1
    have s1 := sum_pre hn hp (d + 1) hd
    have s0 := sum_pre hn hp d (by omega)
    have hs : sumP p (d + 1) = sumP p d + p d := rfl
    rw [hs] at s1
    have h0 : d ≠ 0 → (opI L r.need < d ↔ r.need ≤ preL L d) := fun hd0 => by
      obtain ⟨e, rfl⟩ : ∃ e, d = e + 1 := ⟨d - 1, by omega⟩
      have := opF_le r.need L 0 0 e (by omega) hn
      simp only [Nat.zero_add, Int.zero_add] at this
      unfold opI
      rw [← this]; omega
    have hopi : opI L r.need = opF r.need L 0 0 := rfl
    rw [← hopi] at h1
    by_cases hlt : opI L r.need < d
    · have hd0 : d ≠ 0 := by omega
      have := (h0 hd0).1 hlt
      have hf : adR D r d (sumP p d) (p d) = false := by
        have e1 : ¬ ((sumP p d : Nat) : Int) < r.need := by omega
        simp [adR, hd0, e1]
      rw [hf, if_neg Bool.false_ne_true]
      by_cases hD : (D : Int) < opI L r.need + r.fl
      · rw [if_pos ⟨hlt, hD⟩, if_pos ⟨by omega, hD⟩]; simp
      · rw [if_neg (fun h => hD h.2), if_neg (fun h => hD h.2)]; simp
    · rw [if_neg (fun h => hlt h.1)]
      by_cases he : opI L r.need = d
      · have hle : r.need ≤ preL L (d + 1) := h1.1 (by omega)
        have hno : d = 0 ∨ ((sumP p d : Nat) : Int) < r.need := by
          by_cases hd0 : d = 0
          · exact .inl hd0
          · right
            have := mt (h0 hd0).2 hlt
            omega
        have hle2 : r.need ≤ ((sumP p d + p d : Nat) : Int) := by omega
        have hno' : (decide (d = 0) || decide (((sumP p d : Nat) : Int) < r.need)) = true := by
          rcases hno with h | h
          · simp [h]
          · simp [h]
        by_cases hD : (D : Int) < opI L r.need + r.fl
        · have : adR D r d (sumP p d) (p d) = true := by
            unfold adR
            rw [decide_eq_true hle2, hno', decide_eq_true (by omega)]; rfl
          rw [this, (if_pos rfl : (if true = true then (1 : Int) else 0) = 1), if_pos ⟨by omega, hD⟩]; simp
        · have : adR D r d (sumP p d) (p d) = false := by
            unfold adR
            rw [decide_eq_false (show ¬ (D : Int) < (d : Int) + r.fl by omega), Bool.and_false]
          rw [this, if_neg Bool.false_ne_true, if_neg (fun h => hD h.2)]; simp
      · have hgt : ¬ r.need ≤ preL L (d + 1) := fun h => by have := h1.2 h; omega
        have hf : adR D r d (sumP p d) (p d) = false := by
          unfold adR
          rw [decide_eq_false (show ¬ r.need ≤ ((sumP p d + p d : Nat) : Int) by omega)]; rfl
        rw [hf, if_neg Bool.false_ne_true, if_neg (fun h => by omega)]; simp
theorem way_cnt {L : List Int} {rs : List Rac} {p : Nat → Nat} (hn : ∀ z ∈ L, 0 ≤ z) (hp : ∀ i z, L[i]? = some z → p i = z.toNat) (hr : racB rs = true) {D : Nat} (hD : D < L.length) : cntP (adI rs D) p (D + 1) = cnt L rs rs.length D := by
  have key : ∀ k, k ≤ rs.length → cntP (fun i u h => adK rs D i u h k) p (D + 1) = cnt L rs k D := by
    intro k
    induction k with
    | zero => intro _; exact cntP_zero _
    | succ k ih =>
      intro hk
      obtain ⟨r, hrk⟩ : ∃ r, rs[k]? = some r := ⟨_, List.getElem?_eq_getElem (by omega)⟩
      have e1 : (fun i u h => adK rs D i u h (k + 1)) = fun i u h => adK rs D i u h k + (if adR D r i u h = true then 1 else 0) := by
        funext i u h
        rw [adK, hrk]
      simp only [racB, Bool.and_eq_true, decide_eq_true_eq] at hr
      have hok := rac_of rs.length hr.2 k r (by omega) hrk
      simp only [racOk, inI, Bool.and_eq_true, decide_eq_true_eq] at hok
      rw [e1, cntP_add, ih (by omega), one_eq hn hp D r hok.1.1 (D + 1) (by omega), cnt_snoc hrk]
      congr 1
      unfold isOn
      by_cases h1 : opI L r.need ≤ D
      · by_cases h2 : (D : Int) < opI L r.need + r.fl
        · rw [if_pos ⟨by omega, h2⟩]; simp [h1, h2]
        · rw [if_neg (fun h => h2 h.2)]; simp [h2]
      · rw [if_neg (fun h => by omega)]; simp [h1]
  exact key rs.length (Nat.le_refl _)
end Go.Proofs.YtbbbgaiaigdngaaGreatDoor.walk
