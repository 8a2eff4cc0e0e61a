/- Part of a proof by a machine of ones own: see the text with the theorem. -/
import Derived.Test.YtkkoeeleieplhaaGreatDoorNWb
import Derived.Test.YtkkoeeleieplhaaGreatDoorShF
namespace Go.Proofs.YtkkoeeleieplhaaGreatDoor.walk
open Go Go.Sh
set_option maxRecDepth 100000
set_option linter.unusedSimpArgs false
set_option linter.unusedVariables false
/-! the fewest cuts: numbers alone -/
def cutN (s : Sea) (z : Int) : Int := min z s.cut
def gro (s : Sea) (z : Int) : Int := min (z + s.grows) 100
def goodB (s : Sea) (z : Int) : Bool := inI s.gl z s.gh
def wiF (f : Int → Int) (s : Sea) (c z : Int) : Int := if goodB s z = true then min (c + f (gro s z)) 41 else 41
def fw (s : Sea) : Nat → Int → Int
  | 0, _ => 0
  | k + 1, z => min (min 41 (wiF (fw s k) s 1 (cutN s z))) (wiF (fw s k) s 0 z)
theorem fw_bd (s : Sea) : ∀ k z, 0 ≤ fw s k z ∧ fw s k z ≤ 41
  | 0, z => ⟨by show (0 : Int) ≤ 0; omega, by show (0 : Int) ≤ 41; omega⟩
  | k + 1, z => by
    have h1 := fw_bd s k (gro s (cutN s z))
    have h2 := fw_bd s k (gro s z)
    show 0 ≤ min (min 41 (wiF (fw s k) s 1 (cutN s z))) (wiF (fw s k) s 0 z) ∧ min (min 41 (wiF (fw s k) s 1 (cutN s z))) (wiF (fw s k) s 0 z) ≤ 41
    unfold wiF
    split <;> split <;> omega
theorem wiF_bd (s : Sea) (k : Nat) {c : Int} (hc : 0 ≤ c) (z : Int) : 0 ≤ wiF (fw s k) s c z ∧ wiF (fw s k) s c z ≤ 41 := by
  have h1 := fw_bd s k (gro s z)
  unfold wiF
  split <;> omega
theorem fw_succ (s : Sea) (k : Nat) (z : Int) : fw s (k + 1) z = min (min 41 (wiF (fw s k) s 1 (cutN s z))) (wiF (fw s k) s 0 z) := rfl
theorem fw_cut {s : Sea} {k : Nat} {z : Int} (h : wiF (fw s k) s 1 (cutN s z) = fw s (k + 1) z) (h40 : fw s (k + 1) z ≤ 40) : goodB s (cutN s z) = true ∧ fw s k (gro s (cutN s z)) = fw s (k + 1) z - 1 := by
  rw [← h] at h40 ⊢
  unfold wiF at h40 ⊢
  split at h40
  · rename_i hg
    rw [if_pos hg]
    exact ⟨hg, by omega⟩
  · omega
theorem fw_no {s : Sea} {k : Nat} {z : Int} (h : wiF (fw s k) s 1 (cutN s z) ≠ fw s (k + 1) z) (h40 : fw s (k + 1) z ≤ 40) : wiF (fw s k) s 0 z = fw s (k + 1) z ∧ goodB s z = true ∧ fw s k (gro s z) = fw s (k + 1) z := by
  have e := fw_succ s k z
  have h1 : wiF (fw s k) s 0 z = fw s (k + 1) z := by omega
  refine ⟨h1, ?_⟩
  rw [← h1] at h40 ⊢
  unfold wiF at h40 ⊢
  split at h40
  · rename_i hg
    rw [if_pos hg]
    exact ⟨hg, by omega⟩
  · omega
def tl (s : Sea) : Nat → Int → Nat → List Int
  | 0, _, _ => []
  | k + 1, z, d => if wiF (fw s k) s 1 (cutN s z) = fw s (k + 1) z then (d : Int) :: tl s k (gro s (cutN s z)) (d + 1) else tl s k (gro s z) (d + 1)
theorem tl_len {s : Sea} : ∀ k z d, fw s k z ≤ 40 → ((tl s k z d).length : Int) = fw s k z
  | 0, z, d, h => rfl
  | k + 1, z, d, h => by
    unfold tl
    by_cases hc : wiF (fw s k) s 1 (cutN s z) = fw s (k + 1) z
    · obtain ⟨_, h2⟩ := fw_cut hc h
      rw [if_pos hc, List.length_cons]
      have := tl_len (s := s) k (gro s (cutN s z)) (d + 1) (by omega)
      omega
    · obtain ⟨_, _, h2⟩ := fw_no hc h
      rw [if_neg hc]
      have := tl_len (s := s) k (gro s z) (d + 1) (by omega)
      omega
theorem tl_mem {s : Sea} {x : Int} : ∀ k z d, x ∈ tl s k z d → (d : Int) ≤ x ∧ x < d + k
  | 0, z, d, h => by cases h
  | k + 1, z, d, h => by
    unfold tl at h
    split at h
    · rcases List.mem_cons.1 h with rfl | h
      · omega
      · have := tl_mem k _ (d + 1) h; omega
    · have := tl_mem k _ (d + 1) h; omega
/-! what rises -/
def risB : List Int → Int → Int → Prop
  | [], _, _ => True
  | x :: l, lo, n => lo < x ∧ x < n ∧ risB l x n
theorem risB.mono {n : Int} : ∀ {l : List Int} {lo lo' : Int}, risB l lo n → lo' ≤ lo → risB l lo' n
  | [], _, _, _, _ => trivial
  | x :: l, lo, lo', h, hl => ⟨by have := h.1; omega, h.2.1, h.2.2⟩
def prevL (lo : Int) (l : List Int) : Nat → Int
  | 0 => lo
  | i + 1 => l[i]?.getD (-1)
theorem ris_at {n : Int} : ∀ {l : List Int} {lo : Int}, risB l lo n → ∀ (i : Nat) c, l[i]? = some c → prevL lo l i < c ∧ c < n
  | [], _, _, i, c, h => by simp at h
  | x :: l, lo, hr, 0, c, h => by
    simp at h; subst h
    exact ⟨hr.1, hr.2.1⟩
  | x :: l, lo, hr, i + 1, c, h => by
    have h : l[i]? = some c := by simpa using h
    have := ris_at hr.2.2 i c h
    cases i with
    | zero => simpa [prevL] using this
    | succ i => simpa [prevL] using this
theorem cuts_of {l : List Int} {n : Int} (h : risB l (-1) n) : cutsB l n = true := by
  have key : ∀ i, i ≤ l.length → cutsTo n l i = true := by
    intro i
    induction i with
    | zero => intro _; rfl
    | succ i ih =>
      intro hi
      obtain ⟨c, hc⟩ : ∃ c, l[i]? = some c := ⟨_, List.getElem?_eq_getElem (by omega)⟩
      rw [cuts_snoc hc, ih (by omega)]
      have := ris_at h i c hc
      have e : lastI l i = prevL (-1) l i := by cases i <;> rfl
      rw [e]
      simp [this]
  exact key _ (Nat.le_refl _)
theorem tl_ris {s : Sea} {n : Int} : ∀ (k : Nat) (z : Int) (d : Nat), (d : Int) + k ≤ n → risB (tl s k z d) ((d : Int) - 1) n
  | 0, z, d, h => trivial
  | k + 1, z, d, h => by
    unfold tl
    split
    · refine ⟨by omega, by omega, ?_⟩
      have := tl_ris (s := s) (n := n) k (gro s (cutN s z)) (d + 1) (by omega)
      exact this.mono (by omega)
    · have := tl_ris (s := s) (n := n) k (gro s z) (d + 1) (by omega)
      exact this.mono (by omega)
/-! days that numbers choose -/
def ot (p : Nat → Bool) : Nat → Nat → List Int
  | 0, _ => []
  | k + 1, d => if p d = true then (d : Int) :: ot p k (d + 1) else ot p k (d + 1)
theorem ot_snoc (p : Nat → Bool) : ∀ k d, ot p (k + 1) d = ot p k d ++ (if p (d + k) = true then [((d + k : Nat) : Int)] else [])
  | 0, d => by simp [ot]
  | k + 1, d => by
    have ih := ot_snoc p k (d + 1)
    rw [show d + 1 + k = d + (k + 1) by omega] at ih
    rw [ot, ih]
    by_cases h : p d = true
    · rw [if_pos h]
      conv => rhs; rw [ot, if_pos h]
      rfl
    · rw [if_neg h]
      conv => rhs; rw [ot, if_neg h]
theorem ot_mem {p : Nat → Bool} {j : Nat} : ∀ k d, (j : Int) ∈ ot p k d ↔ (d ≤ j ∧ j < d + k) ∧ p j = true
  | 0, d => by simp [ot]; omega
  | k + 1, d => by
    unfold ot
    by_cases h : p d = true
    · rw [if_pos h, List.mem_cons, ot_mem k (d + 1)]
      constructor
      · rintro (h1 | h1)
        · have : j = d := by omega
          subst this; exact ⟨by omega, h⟩
        · exact ⟨by omega, h1.2⟩
      · rintro ⟨h1, h2⟩
        by_cases e : j = d
        · left; omega
        · right; exact ⟨by omega, h2⟩
    · rw [if_neg h, ot_mem k (d + 1)]
      constructor
      · rintro h1; exact ⟨by omega, h1.2⟩
      · rintro ⟨h1, h2⟩
        have : j ≠ d := by rintro rfl; exact h h2
        exact ⟨by omega, h2⟩
theorem ot_ris {p : Nat → Bool} {n : Int} : ∀ (k d : Nat), (d : Int) + k ≤ n → risB (ot p k d) ((d : Int) - 1) n
  | 0, d, h => trivial
  | k + 1, d, h => by
    have := ot_ris (p := p) (n := n) k (d + 1) (by omega)
    unfold ot
    split
    · exact ⟨by omega, by omega, this.mono (by omega)⟩
    · exact this.mono (by omega)
theorem ot_ge {p : Nat → Bool} {x : Int} : ∀ k d, x ∈ ot p k d → (d : Int) ≤ x
  | 0, d, h => by cases h
  | k + 1, d, h => by
    unfold ot at h
    split at h
    · rcases List.mem_cons.1 h with rfl | h
      · omega
      · have := ot_ge k (d + 1) h; omega
    · have := ot_ge k (d + 1) h; omega
theorem ot_len (p : Nat → Bool) : ∀ k d, (ot p k d).length ≤ k
  | 0, d => by simp [ot]
  | k + 1, d => by
    have := ot_len p k (d + 1)
    unfold ot
    split
    · simp; omega
    · omega
/-! shades with cuts -/
theorem cur_succ (s : Sea) (c : List Int) (d : Nat) : curS s c (d + 1) = gro s (shB s c (d + 1)) := rfl
theorem fw_opt {s : Sea} (hs : shadeB s = true) {c : List Int} {p : Nat → Bool} : ∀ k d, (∀ j, d ≤ j → j < d + k → (((j : Nat) : Int) ∈ c ↔ p j = true)) → (∀ j, d ≤ j → j < d + k → goodB s (shB s c (j + 1)) = true) → fw s k (curS s c d) ≤ ((ot p k d).length : Int)
  | 0, d, hp, hg => by show (0 : Int) ≤ _; omega
  | k + 1, d, hp, hg => by
    have ih := fw_opt hs (c := c) (p := p) k (d + 1) (fun j h1 h2 => hp j (by omega) (by omega)) (fun j h1 h2 => hg j (by omega) (by omega))
    have hgd := hg d (Nat.le_refl _) (by omega)
    have hcur := shB_cur hs c d
    rw [fw_succ]
    rw [cur_succ] at ih
    unfold ot
    by_cases hd : ((d : Nat) : Int) ∈ c
    · rw [if_pos hd] at hcur
      rw [if_pos ((hp d (Nat.le_refl _) (by omega)).1 hd), List.length_cons]
      rw [hcur] at ih hgd
      have : wiF (fw s k) s 1 (cutN s (curS s c d)) ≤ 1 + fw s k (gro s (min (curS s c d) s.cut)) := by
        unfold wiF cutN
        rw [if_pos hgd]; omega
      omega
    · rw [if_neg hd] at hcur
      have hpd : ¬ p d = true := fun h => hd ((hp d (Nat.le_refl _) (by omega)).2 h)
      rw [if_neg hpd]
      rw [hcur] at ih hgd
      have : wiF (fw s k) s 0 (curS s c d) ≤ fw s k (gro s (curS s c d)) := by
        unfold wiF
        rw [if_pos hgd]; omega
      omega
theorem tl_good {s : Sea} (hs : shadeB s = true) {C : List Int} : ∀ k d, (∀ j, d ≤ j → (((j : Nat) : Int) ∈ C ↔ ((j : Nat) : Int) ∈ tl s k (curS s C d) d)) → fw s k (curS s C d) ≤ 40 → ∀ j, d ≤ j → j < d + k → goodB s (shB s C (j + 1)) = true
  | 0, d, hm, h40, j, h1, h2 => by omega
  | k + 1, d, hm, h40, j, h1, h2 => by
    have hcur := shB_cur hs C d
    by_cases hc : wiF (fw s k) s 1 (cutN s (curS s C d)) = fw s (k + 1) (curS s C d)
    · obtain ⟨g1, g2⟩ := fw_cut hc h40
      have hd : ((d : Nat) : Int) ∈ C := (hm d (Nat.le_refl _)).2 (by unfold tl; rw [if_pos hc]; exact List.mem_cons_self ..)
      rw [if_pos hd] at hcur
      by_cases e : j = d
      · subst e; rw [hcur]; exact g1
      · have hn : curS s C (d + 1) = gro s (cutN s (curS s C d)) := by rw [cur_succ, hcur]; rfl
        refine tl_good hs k (d + 1) (fun i hi => ?_) (by rw [hn]; omega) j (by omega) (by omega)
        rw [hm i (by omega), hn]
        conv => lhs; unfold tl; rw [if_pos hc]
        rw [List.mem_cons]
        constructor
        · rintro (h | h)
          · omega
          · exact h
        · exact .inr
    · obtain ⟨_, g1, g2⟩ := fw_no hc h40
      have hd : ¬ ((d : Nat) : Int) ∈ C := fun h => by
        have := (hm d (Nat.le_refl _)).1 h
        unfold tl at this
        rw [if_neg hc] at this
        have := (tl_mem k _ (d + 1) this).1
        omega
      rw [if_neg hd] at hcur
      by_cases e : j = d
      · subst e; rw [hcur]; exact g1
      · have hn : curS s C (d + 1) = gro s (curS s C d) := by rw [cur_succ, hcur]
        refine tl_good hs k (d + 1) (fun i hi => ?_) (by rw [hn]; omega) j (by omega) (by omega)
        rw [hm i (by omega), hn]
        conv => lhs; unfold tl; rw [if_neg hc]
def lessL : List Int → List Int → Bool
  | x :: a, y :: b => if x = y then lessL a b else decide (x < y)
  | a, b => decide (a.length < b.length)
theorem tl_first {s : Sea} (hs : shadeB s = true) {c : List Int} {p : Nat → Bool} : ∀ k d, (∀ j, d ≤ j → j < d + k → (((j : Nat) : Int) ∈ c ↔ p j = true)) → (∀ j, d ≤ j → j < d + k → goodB s (shB s c (j + 1)) = true) → ((ot p k d).length : Int) = fw s k (curS s c d) → fw s k (curS s c d) ≤ 40 → lessL (ot p k d) (tl s k (curS s c d) d) = false
  | 0, d, hp, hg, hl, h40 => rfl
  | k + 1, d, hp, hg, hl, h40 => by
    have hp' : ∀ j, d + 1 ≤ j → j < d + 1 + k → (((j : Nat) : Int) ∈ c ↔ p j = true) := fun j h1 h2 => hp j (by omega) (by omega)
    have hg' : ∀ j, d + 1 ≤ j → j < d + 1 + k → goodB s (shB s c (j + 1)) = true := fun j h1 h2 => hg j (by omega) (by omega)
    have hopt := fw_opt hs k (d + 1) hp' hg'
    have ih := tl_first hs k (d + 1) hp' hg'
    have hgd := hg d (Nat.le_refl _) (by omega)
    have hcur := shB_cur hs c d
    rw [cur_succ] at ih hopt
    unfold ot at hl ⊢
    unfold tl
    by_cases hd : ((d : Nat) : Int) ∈ c
    · have hpd := (hp d (Nat.le_refl _) (by omega)).1 hd
      rw [if_pos hd] at hcur
      rw [if_pos hpd] at hl ⊢
      rw [List.length_cons] at hl
      rw [hcur] at ih hopt hgd
      by_cases hc : wiF (fw s k) s 1 (cutN s (curS s c d)) = fw s (k + 1) (curS s c d)
      · obtain ⟨g1, g2⟩ := fw_cut hc h40
        rw [if_pos hc]
        show (if (d : Int) = d then lessL _ _ else _) = false
        rw [if_pos rfl]
        exact ih (by show _ = fw s k (gro s (cutN s (curS s c d))); omega) (by show fw s k (gro s (cutN s (curS s c d))) ≤ 40; omega)
      · exfalso
        have e := fw_succ s k (curS s c d)
        have : wiF (fw s k) s 1 (cutN s (curS s c d)) ≤ 1 + fw s k (gro s (min (curS s c d) s.cut)) := by
          unfold wiF cutN
          rw [if_pos hgd]; omega
        omega
    · have hpd : ¬ p d = true := fun h => hd ((hp d (Nat.le_refl _) (by omega)).2 h)
      rw [if_neg hd] at hcur
      rw [if_neg hpd] at hl ⊢
      rw [hcur] at ih hopt hgd
      by_cases hc : wiF (fw s k) s 1 (cutN s (curS s c d)) = fw s (k + 1) (curS s c d)
      · obtain ⟨g1, g2⟩ := fw_cut hc h40
        rw [if_pos hc]
        have b := fw_bd s k (gro s (cutN s (curS s c d)))
        cases ho : ot p k (d + 1) with
        | nil => rw [ho] at hl; simp at hl; omega
        | cons x a =>
          have hx := ot_ge k (d + 1) (x := x) (by rw [ho]; exact List.mem_cons_self ..)
          show (if x = (d : Int) then lessL _ _ else decide (x < (d : Int))) = false
          rw [if_neg (by omega)]
          simp; omega
      · obtain ⟨_, g1, g2⟩ := fw_no hc h40
        rw [if_neg hc]
        exact ih (by omega) (by omega)
end Go.Proofs.YtkkoeeleieplhaaGreatDoor.walk

namespace Go.Proofs.YtkkoeeleieplhaaGreatDoor.walk
open Go Go.Sh
set_option maxRecDepth 100000
set_option linter.unusedSimpArgs false
set_option linter.unusedVariables false
/-! what can be done on a day, and where it leads to -/
noncomputable def F45 : PureF := fun args _ => match args with | [.agg ⟨[_, .int .i64 _, .int .i64 _, .int .i64 _, .int .i64 _, .int .i64 c, .int .i64 _, .int .i64 _, _, _]⟩, .agg ⟨[.int .i64 d, .int .i64 z]⟩] => some (.agg ⟨[.int .i64 1, .int .i64 (min z c), .int .i64 0, .int .i64 z]⟩) | _ => none
theorem rule45 {ov : Ov} (k : HasP ov 45 F45) (s : Sea) (dv cv sv : Value) (d z : Int) (m : Nat) (w : AW) : (run Tryz.prog ov (m + 1)).call 45 [.agg ⟨yearC s dv cv sv⟩, .agg ⟨[.int .i64 d, .int .i64 z]⟩] w .none = .ok (.ret (.agg ⟨[.int .i64 1, .int .i64 (cutN s z), .int .i64 0, .int .i64 z]⟩)) w .none := k.call rfl
theorem run45 {ov : Ov} (ho : ∀ args w, ov 45 args w = none) (h39 : HasP ov 39 F39) (s : Sea) (dv cv sv : Value) (d z : Int) (w : AW) (hl : w.lim ≤ w.next) : ∃ x w', (run Tryz.prog ov 2).call 45 [.agg ⟨yearC s dv cv sv⟩, .agg ⟨[.int .i64 d, .int .i64 z]⟩] w .none = .ok (.ret x) w' .none ∧ x = .agg ⟨[.int .i64 1, .int .i64 (min z s.cut), .int .i64 0, .int .i64 z]⟩ := by
  refine call_wp text45 (by simp) (ho _ _) ?_
  have r39 := fun w => rule39 h39 s dv cv sv z 0 w
  have l2 : w.lim ≤ w.next + 1 + 1 := by omega
  simp only [yearC, Nat.zero_add] at r39
  simp [mc45, yearC, r39, tupV, cellsOf_agg, l2]
noncomputable def F43 : PureF := fun args _ => match args with | [.agg ⟨[_, .int .i64 _, .int .i64 _, .int .i64 _, .int .i64 g, .int .i64 _, .int .i64 _, .int .i64 _, _, _]⟩, .agg ⟨[.int .i64 d, .int .i64 _]⟩, .agg ⟨[.int .i64 _, .int .i64 n]⟩] => bif (inI 0 n 100 && inI 0 g 50) && inI 0 d 100 then some (.agg ⟨[.int .i64 (d + 1), .int .i64 (min (n + g) 100)]⟩) else none | _ => none
theorem rule43 {ov : Ov} (k : HasP ov 43 F43) (s : Sea) (dv cv sv : Value) {d n : Int} (z c : Int) (h1 : 0 ≤ n ∧ n ≤ 100) (h2 : 0 ≤ s.grows ∧ s.grows ≤ 50) (h3 : 0 ≤ d ∧ d ≤ 100) (m : Nat) (w : AW) : (run Tryz.prog ov (m + 1)).call 43 [.agg ⟨yearC s dv cv sv⟩, .agg ⟨[.int .i64 d, .int .i64 z]⟩, .agg ⟨[.int .i64 c, .int .i64 n]⟩] w .none = .ok (.ret (.agg ⟨[.int .i64 (d + 1), .int .i64 (gro s n)]⟩)) w .none := k.call (by
  simp [F43, yearC, inI, h1, h2, h3, gro])
theorem run43 {ov : Ov} (ho : ∀ args w, ov 43 args w = none) (h40 : HasP ov 40 F40) (s : Sea) (dv cv sv : Value) (d z c n : Int) (h1 : 0 ≤ n ∧ n ≤ 100) (h2 : 0 ≤ s.grows ∧ s.grows ≤ 50) (h3 : 0 ≤ d ∧ d ≤ 100) (w : AW) (hl : w.lim ≤ w.next) : ∃ x w', (run Tryz.prog ov 2).call 43 [.agg ⟨yearC s dv cv sv⟩, .agg ⟨[.int .i64 d, .int .i64 z]⟩, .agg ⟨[.int .i64 c, .int .i64 n]⟩] w .none = .ok (.ret x) w' .none ∧ x = .agg ⟨[.int .i64 (d + 1), .int .i64 (min (n + s.grows) 100)]⟩ := by
  refine call_wp text43 (by simp) (ho _ _) ?_
  have r40 := fun w => rule40 h40 s dv cv sv h1 h2 0 w
  have w1 : IntKind.wrap .i64 (d + 1) = d + 1 := wrap64_in (by omega) (by omega)
  have l3 : w.lim ≤ w.next + 1 + 1 + 1 := by omega
  simp only [yearC, Nat.zero_add] at r40
  simp [mc43, yearC, r40, tupV, cellsOf_agg, w1, l3]
end Go.Proofs.YtkkoeeleieplhaaGreatDoor.walk

namespace Go.Proofs.YtkkoeeleieplhaaGreatDoor.walk
open Go Go.Sh
set_option maxRecDepth 100000
set_option linter.unusedSimpArgs false
set_option linter.unusedVariables false
/-! how few cuts: the closures that call each other, and what they remember -/
def dkC (p : Int × Int) : Value := .agg ⟨[.int .i64 p.1, .int .i64 p.2]⟩
def inV (n : Int) : Value := .int .i64 n
theorem dk_ok : KeyOk (true, [0, 0]) dkC := by
  refine ⟨fun a => rfl, fun a b => ?_⟩
  obtain ⟨a1, a2⟩ := a
  obtain ⟨b1, b2⟩ := b
  by_cases h1 : a1 = b1
  · by_cases h2 : a2 = b2
    · simp [dkC, eqFlat, flatCells, sameL, same1, sameInt, sameK_refl, intEq_eq, h1, h2]
    · simp [dkC, eqFlat, flatCells, sameL, same1, sameInt, sameK_refl, intEq_eq, h1, h2]
  · simp [dkC, eqFlat, flatCells, sameL, same1, sameInt, sameK_refl, intEq_eq, h1]
theorem map84 : mapOf Tryz.prog 84 = some (3, (true, [0, 0])) := by kernel_rfl
theorem zero3 : zeroA Tryz.prog 3 = some (.int .i64 0) := by kernel_rfl
@[simp] theorem cf44 (w : AW) (l : List Value) : callFn Tryz.prog w 44 l = .enter 44 l w := callFn_enter text44 l
@[simp] theorem cf41 (w : AW) (l : List Value) : callFn Tryz.prog w 41 l = .enter 41 l w := callFn_enter text41 l
def ptrB (b : Nat) : Value := .pointer (some ⟨b, 0, none⟩)
def fn44 (bY b4 b6 : Nat) : Value := .func (.func 44) ⟨[]⟩ ⟨[ptrB bY, ptrB b4, ptrB b6]⟩
def fn41 (bY b5 : Nat) : Value := .func (.func 41) ⟨[]⟩ ⟨[ptrB bY, ptrB b5]⟩
theorem same_fn44 (a b c : Nat) : sameVal 5 (fn44 a b c) (fn44 a b c) = true := by
  show ((Fn.func 44 == Fn.func 44) && (sameVal.sameVals (sameVal 4) [] [] && sameVal.sameVals (sameVal 4) [ptrB a, ptrB b, ptrB c] [ptrB a, ptrB b, ptrB c])) = true
  have hp : ∀ x, sameVal 4 (ptrB x) (ptrB x) = true := fun x => by show ((some (⟨x, 0, none⟩ : Addr)) == some ⟨x, 0, none⟩) = true; simp
  simp [sameVal.sameVals, hp]
structure Tr (s : Sea) (dv cv sv : Value) (n bY b4 b5 b6 km : Nat) (w : AW) : Prop where
  year : w.heap.get bY = some (.cells (yearC s dv cv sv) 44 false)
  m4 : w.heap.get b4 = some (.cells [.map (some km)] 84 false)
  m5 : w.heap.get b5 = some (.cells [fn44 bY b4 b6] 85 false)
  m6 : w.heap.get b6 = some (.cells [fn41 bY b5] 92 false)
  map : ∃ L, MapAt dkC inV w km L ∧ ∀ d z v, lookK L (d, z) = some v → ∃ k : Nat, d + (k : Int) = n ∧ v = fw s k z
  ne : bY ≠ km ∧ b4 ≠ km ∧ b5 ≠ km ∧ b6 ≠ km
  lt : bY < w.next ∧ b4 < w.next ∧ b5 < w.next ∧ b6 < w.next ∧ km < w.next
  lim : w.lim ≤ km
theorem Tr.up {s : Sea} {dv cv sv : Value} {n bY b4 b5 b6 km : Nat} {w w' : AW} (h : Tr s dv cv sv n bY b4 b5 b6 km w) (k : ∀ x, x < w.next → w'.heap.get x = w.heap.get x) (hn : w.next ≤ w'.next) (hl : w'.lim = w.lim) : Tr s dv cv sv n bY b4 b5 b6 km w' := by
  obtain ⟨l1, l2, l3, l4, l5⟩ := h.lt
  obtain ⟨L, h1, h2⟩ := h.map
  exact ⟨by rw [k _ l1]; exact h.year, by rw [k _ l2]; exact h.m4, by rw [k _ l3]; exact h.m5, by rw [k _ l4]; exact h.m6, ⟨L, by unfold MapAt; rw [k _ l5]; exact h1, h2⟩, h.ne, ⟨by omega, by omega, by omega, by omega, by omega⟩, by rw [hl]; exact h.lim⟩
/-- what such a call leaves -/
structure Af (s : Sea) (dv cv sv : Value) (n bY b4 b5 b6 km : Nat) (w w' : AW) : Prop where
  tr : Tr s dv cv sv n bY b4 b5 b6 km w'
  keep : ∀ x, x < w.next → x ≠ km → w'.heap.get x = w.heap.get x
  next : w.next ≤ w'.next
  lim : w'.lim = w.lim
def H44 (ov : Ov) (s : Sea) (dv cv sv : Value) (n : Nat) (M k : Nat) : Prop := ∀ (d : Nat) (z : Int) (bY b4 b5 b6 km : Nat) (w : AW), d + k = n → 0 ≤ z ∧ z ≤ 100 → w.lim ≤ w.next → Tr s dv cv sv n bY b4 b5 b6 km w →
  ∃ w', (run Tryz.prog ov M).call 44 [.agg ⟨[.int .i64 (d : Nat), .int .i64 z]⟩, ptrB bY, ptrB b4, ptrB b6] w .none = .ok (.ret (.int .i64 (fw s k z))) w' .none ∧ Af s dv cv sv n bY b4 b5 b6 km w w'
theorem call41 {ov : Ov} (m : Nat) (ho : ∀ args w, ov 41 args w = none) (h42 : HasP ov 42 F42) (h43 : HasP ov 43 F43) {s : Sea} (hs : shadeB s = true) (dv cv sv : Value) (n k : Nat) (h40 : n ≤ 40) (H : H44 ov s dv cv sv n (m + 1) k) (d : Nat) (z c z' : Int) (hc : 0 ≤ c ∧ c ≤ 1) (bY b4 b5 b6 km : Nat) (w : AW) (hd : d + (k + 1) = n) (hz : 0 ≤ z' ∧ z' ≤ 100) (hl : w.lim ≤ w.next) (hT : Tr s dv cv sv n bY b4 b5 b6 km w) :
    ∃ v w', (run Tryz.prog ov (m + 2)).call 41 [.agg ⟨[.int .i64 (d : Nat), .int .i64 z]⟩, .agg ⟨[.int .i64 c, .int .i64 z']⟩, ptrB bY, ptrB b5] w .none = .ok (.ret v) w' .none ∧ v = .int .i64 (wiF (fw s k) s c z') ∧ Af s dv cv sv n bY b4 b5 b6 km w w' := by
  refine call_wp text41 (by simp) (ho _ _) ?_
  obtain ⟨nf, ng, nc⟩ := shade_nums hs
  obtain ⟨l1, l2, l3, l4, l5⟩ := hT.lt
  obtain ⟨e1, e2, e3, e4⟩ := hT.ne
  obtain ⟨w1, hw1⟩ : ∃ w1 : AW, w1 = ⟨(w.heap.put w.next (some (.cells [.int .i64 (d : Nat), .int .i64 z] 87 false))).put (w.next + 1) (some (.cells [.int .i64 c, .int .i64 z'] 89 false)), w.next + 1 + 1, w.lim⟩ := ⟨_, rfl⟩
  have k1 : ∀ x, x < w.next → w1.heap.get x = w.heap.get x := fun x hx => by rw [hw1]; simp [show ¬ x = w.next by omega, show ¬ x = w.next + 1 by omega]
  have n1 : w1.next = w.next + 2 := by rw [hw1]
  have lm1 : w1.lim = w.lim := by rw [hw1]
  have hT1 := hT.up k1 (by omega) lm1
  have r42 := fun w => rule42 h42 z' s.gl s.gh m w
  have gy := hT.year
  have m1 : ¬ bY = w.next := by omega
  have m2 : ¬ bY = w.next + 1 := by omega
  have m3 : ¬ b5 = w.next := by omega
  have m4 : ¬ b5 = w.next + 1 := by omega
  simp only [yearC] at gy
  have g5 := hT.m5
  by_cases hg : inI s.gl z' s.gh = true
  · have r43 := fun w => rule43 h43 s dv cv sv (d := (d : Nat)) z c hz ng (by omega) m w
    simp only [yearC] at r43
    obtain ⟨w2, hc44, hA⟩ := H (d + 1) (gro s z') bY b4 b5 b6 km w1 (by omega) (by unfold gro; omega) (by omega) hT1
    have b := fw_bd s k (gro s z')
    have kk := hA.keep
    have g5' : w2.heap.get b5 = some (.cells [fn44 bY b4 b6] 85 false) := hA.tr.m5
    have gc : w2.heap.get (w.next + 1) = some (.cells [.int .i64 c, .int .i64 z'] 89 false) := by
      rw [kk _ (by omega) (by omega), hw1]; simp
    have ww : IntKind.wrap .i64 (c + fw s k (gro s z')) = c + fw s k (gro s z') := wrap64_in (by omega) (by omega)
    have ed : ((d + 1 : Nat) : Int) = (d : Int) + 1 := by omega
    rw [hw1, ed] at hc44
    have sf := same_fn44 bY b4 b6
    have hAf : Af s dv cv sv n bY b4 b5 b6 km w w2 := ⟨hA.tr, fun x hx hne => by rw [kk x (by omega) hne, k1 x hx], by have := hA.next; omega, by rw [hA.lim, lm1]⟩
    have hwi : wiF (fw s k) s c z' = min (c + fw s k (gro s z')) 41 := by unfold wiF goodB; rw [if_pos hg]
    rw [hwi]
    simp only [fn44, ptrB] at hc44 sf g5' g5
    simp [mc41, ptrB, gy, g5, m1, m2, m3, m4, r42, hg, r43, callV_func, hc44, g5', gc, sf, ww, tupV]
    exact hAf
  · have hwi : wiF (fw s k) s c z' = 41 := by unfold wiF goodB; rw [if_neg hg]
    rw [hwi]
    have hg' : inI s.gl z' s.gh = false := by simpa using hg
    simp [mc41, ptrB, gy, m1, m2, r42, hg', tupV]
    have hAf : Af s dv cv sv n bY b4 b5 b6 km w w1 := ⟨hT1, fun x hx hne => k1 x hx, by omega, lm1⟩
    rw [hw1] at hAf
    exact hAf
end Go.Proofs.YtkkoeeleieplhaaGreatDoor.walk

namespace Go.Proofs.YtkkoeeleieplhaaGreatDoor.walk
open Go Go.Sh
set_option maxRecDepth 100000
set_option linter.unusedSimpArgs false
set_option linter.unusedVariables false
@[simp] theorem ix94_0 (w : AW) (a b c d : Value) : indexA Tryz.prog w 94 (.agg ⟨[a, b, c, d]⟩) (.int .i64 0) = .val (.agg ⟨[a, b]⟩) w := by kernel_rfl
@[simp] theorem ix94_1 (w : AW) (a b c d : Value) : indexA Tryz.prog w 94 (.agg ⟨[a, b, c, d]⟩) (.int .i64 1) = .val (.agg ⟨[c, d]⟩) w := by kernel_rfl
theorem Af.trans {s : Sea} {dv cv sv : Value} {n bY b4 b5 b6 km : Nat} {w w1 w2 : AW} (h : Af s dv cv sv n bY b4 b5 b6 km w w1) (k : Af s dv cv sv n bY b4 b5 b6 km w1 w2) : Af s dv cv sv n bY b4 b5 b6 km w w2 :=
  ⟨k.tr, fun x hx hne => by rw [k.keep x (by have := h.next; omega) hne, h.keep x hx hne], by have := h.next; have := k.next; omega, by rw [k.lim, h.lim]⟩
theorem Af.up {s : Sea} {dv cv sv : Value} {n bY b4 b5 b6 km : Nat} {w w' : AW} (h : Tr s dv cv sv n bY b4 b5 b6 km w) (k : ∀ x, x < w.next → w'.heap.get x = w.heap.get x) (hn : w.next ≤ w'.next) (hl : w'.lim = w.lim) : Af s dv cv sv n bY b4 b5 b6 km w w' := ⟨h.up k hn hl, fun x hx _ => k x hx, hn, hl⟩
def valL (s : Sea) (k : Nat) (z : Int) : Nat → Int
  | 0 => 41
  | 1 => min 41 (wiF (fw s k) s 1 (cutN s z))
  | _ => fw s (k + 1) z
theorem loop44 {ov : Ov} (m : Nat) (ho : ∀ args w, ov 41 args w = none) (h42 : HasP ov 42 F42) (h43 : HasP ov 43 F43) {s : Sea} (hs : shadeB s = true) (dv cv sv : Value) (n k : Nat) (h40 : n ≤ 40) (H : H44 ov s dv cv sv n (m + 1) k) (d : Nat) (z : Int) (bY b4 b5 b6 km : Nat) (w0 : AW) (hd : d + (k + 1) = n) (hz : 0 ≤ z ∧ z ≤ 100) (b : Nat) (hb : b < w0.next) (hbk : b ≠ km) (hbd : w0.heap.get b = some (.cells [.int .i64 (d : Nat), .int .i64 z] 87 false)) (hl : w0.lim ≤ w0.next) (hT : Tr s dv cv sv n bY b4 b5 b6 km w0)
    (Q : Ex → Tm → AW → Prop) (t : Tm) (t2 : tget t 2 = ptrB b4) (t3 : tget t 3 = ptrB b6) (t4 : tget t 4 = ptrB b) (t8 : tget t 8 = .int .i64 41) (t28 : tget t 28 = .agg ⟨[.int .i64 1, .int .i64 (cutN s z), .int .i64 0, .int .i64 z]⟩) (t29 : tget t 29 = .int .i64 0)
    (hQ : ∀ t w, Af s dv cv sv n bY b4 b5 b6 km w0 w → tget t 2 = ptrB b4 → tget t 4 = ptrB b → tget t 8 = .int .i64 (fw s (k + 1) z) → Q (.exit 0) t w) : wp (exM Tryz.prog (run Tryz.prog ov (m + 2)) (.loop mc44_l0) t w0) Q := by
  refine wp_rounds (fun i t w => Af s dv cv sv n bY b4 b5 b6 km w0 w ∧ i ≤ 2 ∧ tget t 2 = ptrB b4 ∧ tget t 3 = ptrB b6 ∧ tget t 4 = ptrB b ∧ tget t 8 = .int .i64 (valL s k z i) ∧ tget t 28 = .agg ⟨[.int .i64 1, .int .i64 (cutN s z), .int .i64 0, .int .i64 z]⟩ ∧ tget t 29 = .int .i64 (i : Nat)) 200 (by decide) ⟨Af.up hT (fun _ _ => rfl) (Nat.le_refl _) rfl, by omega, t2, t3, t4, t8, t28, by simpa using t29⟩ ?_
  clear t2 t3 t4 t8 t28 t29
  rintro i t w ⟨hA, hi, t2, t3, t4, t8, t28, t29⟩
  obtain ⟨nf, ng, nc⟩ := shade_nums hs
  have hT' := hA.tr
  obtain ⟨l1, l2, l3, l4, l5⟩ := hT'.lt
  obtain ⟨e1, e2, e3, e4⟩ := hT'.ne
  have hn := hA.next
  have hlm := hA.lim
  have hkl := hT'.lim
  have gb : w.heap.get b = some (.cells [.int .i64 (d : Nat), .int .i64 z] 87 false) := by rw [hA.keep b hb hbk]; exact hbd
  have g6 := hT'.m6
  have mb : ¬ b = w.next := by omega
  have m6 : ¬ b6 = w.next := by omega
  have hlw : w.lim ≤ w.next := by omega
  have key : ∀ (c z' : Int), 0 ≤ c ∧ c ≤ 1 → 0 ≤ z' ∧ z' ≤ 100 → ∃ w2, (run Tryz.prog ov (m + 2)).call 41 [.agg ⟨[.int .i64 (d : Nat), .int .i64 z]⟩, .agg ⟨[.int .i64 c, .int .i64 z']⟩, ptrB bY, ptrB b5] ⟨(w.heap.put w.next (some (.cells [.int .i64 0, .int .i64 0] 89 false))).put w.next (some (.cells [.int .i64 c, .int .i64 z'] 89 false)), w.next + 1, w.lim⟩ .none = .ok (.ret (.int .i64 (wiF (fw s k) s c z'))) w2 .none ∧ Af s dv cv sv n bY b4 b5 b6 km w0 w2 := by
    intro c z' hc hz'
    obtain ⟨w1, hw1⟩ : ∃ w1 : AW, w1 = ⟨(w.heap.put w.next (some (.cells [.int .i64 0, .int .i64 0] 89 false))).put w.next (some (.cells [.int .i64 c, .int .i64 z'] 89 false)), w.next + 1, w.lim⟩ := ⟨_, rfl⟩
    have k1 : ∀ x, x < w.next → w1.heap.get x = w.heap.get x := fun x hx => by rw [hw1]; simp [show ¬ x = w.next by omega]
    have n1 : w1.next = w.next + 1 := by rw [hw1]
    have lm1 : w1.lim = w.lim := by rw [hw1]
    have hA1 := hA.trans (Af.up hT' k1 (by omega) lm1)
    obtain ⟨_, w2, h1, rfl, h2⟩ := call41 m ho h42 h43 hs dv cv sv n k h40 H d z c z' hc bY b4 b5 b6 km w1 hd hz' (by omega) hA1.tr
    rw [← hw1]
    exact ⟨w2, h1, hA1.trans h2⟩
  have i0 : i = 0 ∨ i = 1 ∨ i = 2 := by omega
  rcases i0 with rfl | rfl | rfl
  · obtain ⟨w2, hc, hA2⟩ := key 1 (cutN s z) (by omega) (by unfold cutN; omega)
    simp only [fn41, ptrB] at g6 hc t2 t3 t4 hQ
    simp [mc44_l0, t2, t3, t4, t8, t28, t29, gb, g6, mb, m6, hlw, callV_func, hc, ptrB, valL]
    exact ⟨hA2, by decide⟩
  · obtain ⟨w2, hc, hA2⟩ := key 0 z (by omega) hz
    have ev : min (min 41 (wiF (fw s k) s 1 (cutN s z))) (wiF (fw s k) s 0 z) = fw s (k + 1) z := rfl
    simp only [fn41, ptrB] at g6 hc t2 t3 t4 hQ
    simp [mc44_l0, t2, t3, t4, t8, t28, t29, gb, g6, mb, m6, hlw, callV_func, hc, ptrB, valL, ev]
    exact ⟨hA2, by decide⟩
  · simp only [ptrB] at t2 t3 t4 hQ
    simp [mc44_l0, t29]
    exact hQ _ _ hA (by simp [t2]) (by simp [t4]) (by simp [t8, valL])
theorem call44 {ov : Ov} (ho : ∀ args w, ov 44 args w = none) (ho41 : ∀ args w, ov 41 args w = none) (h42 : HasP ov 42 F42) (h43 : HasP ov 43 F43) (h45 : HasP ov 45 F45) {s : Sea} (hs : shadeB s = true) (da : Option Addr) (dc : Nat) (cv sv : Value) (n : Nat) (h40 : n ≤ 40) : ∀ k m, H44 ov s (.slice da n dc) cv sv n (m + 2 * k + 1) k
  | 0, m => by
    intro d z bY b4 b5 b6 km w hd hz hl hT
    obtain ⟨w1, hw1⟩ : ∃ w1 : AW, w1 = ⟨w.heap.put w.next (some (.cells [.int .i64 (d : Nat), .int .i64 z] 87 false)), w.next + 1, w.lim⟩ := ⟨_, rfl⟩
    have k1 : ∀ x, x < w.next → w1.heap.get x = w.heap.get x := fun x hx => by rw [hw1]; simp [show ¬ x = w.next by omega]
    have hA : Af s (.slice da n dc) cv sv n bY b4 b5 b6 km w w1 := Af.up hT k1 (by rw [hw1]; show w.next ≤ w.next + 1; omega) (by rw [hw1])
    obtain ⟨v, w', h1, rfl, h2⟩ : ∃ v w', (run Tryz.prog ov (m + 1)).call 44 [.agg ⟨[.int .i64 (d : Nat), .int .i64 z]⟩, ptrB bY, ptrB b4, ptrB b6] w .none = .ok (.ret v) w' .none ∧ v = .int .i64 (fw s 0 z) ∧ w' = w1 := by
      refine call_wp text44 (by simp) (ho _ _) ?_
      have gy := hT.year
      obtain ⟨l1, l2, l3, l4, l5⟩ := hT.lt
      have m1 : ¬ bY = w.next := by omega
      have ed : d = n := by omega
      subst ed
      simp only [yearC] at gy
      simp [mc44, ptrB, gy, m1, hw1, tupV, fw]
    exact ⟨w', h1, by rw [h2]; exact hA⟩
  | k + 1, m => by
    intro d z bY b4 b5 b6 km w hd hz hl hT
    have H := call44 ho ho41 h42 h43 h45 hs da dc cv sv n h40 k m
    obtain ⟨nf, ng, nc⟩ := shade_nums hs
    obtain ⟨l1, l2, l3, l4, l5⟩ := hT.lt
    obtain ⟨e1, e2, e3, e4⟩ := hT.ne
    have hkl := hT.lim
    obtain ⟨w1, hw1⟩ : ∃ w1 : AW, w1 = ⟨w.heap.put w.next (some (.cells [.int .i64 (d : Nat), .int .i64 z] 87 false)), w.next + 1, w.lim⟩ := ⟨_, rfl⟩
    have k1 : ∀ x, x < w.next → w1.heap.get x = w.heap.get x := fun x hx => by rw [hw1]; simp [show ¬ x = w.next by omega]
    have n1 : w1.next = w.next + 1 := by rw [hw1]
    have lm1 : w1.lim = w.lim := by rw [hw1]
    have hA : Af s (.slice da n dc) cv sv n bY b4 b5 b6 km w w1 := Af.up hT k1 (by omega) lm1
    have hT1 := hA.tr
    obtain ⟨L, hL, hK⟩ := hT1.map
    have hlk := lookup_k (P := Tryz.prog) (s := 84) map84 dk_ok zero3 hL ((d : Int), z) true
    have gy := hT.year
    have m1 : ¬ bY = w.next := by omega
    have m4 : ¬ b4 = w.next := by omega
    have g4 := hT.m4
    have hdn : ¬ ((d : Nat) : Int) = (n : Nat) := by omega
    have gd : w1.heap.get w.next = some (.cells [.int .i64 (d : Nat), .int .i64 z] 87 false) := by rw [hw1]; simp
    have goal : ∃ v w', (run Tryz.prog ov (m + 2 * k + 3)).call 44 [.agg ⟨[.int .i64 (d : Nat), .int .i64 z]⟩, ptrB bY, ptrB b4, ptrB b6] w .none = .ok (.ret v) w' .none ∧ v = .int .i64 (fw s (k + 1) z) ∧ Af s (.slice da n dc) cv sv n bY b4 b5 b6 km w w' := by
      refine call_wp text44 (by simp) (ho _ _) ?_
      cases hv : lookK L ((d : Int), z) with
      | some v =>
        obtain ⟨k', hk', rfl⟩ := hK _ _ _ hv
        have : k' = k + 1 := by omega
        subst this
        rw [hv] at hlk
        have hlk : lookupA Tryz.prog w1 84 (.map (some km)) (.agg ⟨[.int .i64 (d : Nat), .int .i64 z]⟩) true = .val (.tuple ⟨[.int .i64 (fw s (k + 1) z), .bool true]⟩) w1 := hlk
        rw [hw1] at hlk
        simp only [yearC] at gy
        simp [mc44, ptrB, gy, g4, m1, m4, hdn, hlk, tupV]
        rw [hw1] at hA
        exact hA
      | none =>
        rw [hv] at hlk
        have hlk : lookupA Tryz.prog w1 84 (.map (some km)) (.agg ⟨[.int .i64 (d : Nat), .int .i64 z]⟩) true = .val (.tuple ⟨[.int .i64 0, .bool false]⟩) w1 := hlk
        have r45 := rule45 h45 s (.slice da n dc) cv sv (d : Nat) z (m + 2 * k + 1) w1
        rw [hw1] at hlk r45
        simp only [yearC] at gy r45
        simp [mc44, ptrB, gy, g4, m1, m4, hdn, hlk, r45, tupV]
        rw [← hw1]
        refine wp_seqX (wp_blockX (loop44 (m + 2 * k) ho41 h42 h43 hs (.slice da n dc) cv sv n k h40 H d z bY b4 b5 b6 km w1 (by omega) hz w.next (by omega) (by omega) gd (by omega) hT1 _ _ ?_ ?_ ?_ ?_ ?_ ?_ ?_))
        case _ => simp [ptrB]
        case _ => simp [ptrB]
        case _ => simp [ptrB]
        case _ => simp
        case _ => simp
        case _ => simp
        case _ =>
          intro t w2 hA2 t2 t4 t8
          have hT2 := hA2.tr
          obtain ⟨L2, hL2, hK2⟩ := hT2.map
          have hup := update_k (P := Tryz.prog) (s := 84) map84 dk_ok hL2 hT2.lim ((d : Int), z) (fw s (k + 1) z)
          have hup : mapUpdateA Tryz.prog w2 84 (.map (some km)) (.agg ⟨[.int .i64 (d : Nat), .int .i64 z]⟩) (.int .i64 (fw s (k + 1) z)) = _ := hup
          have g4' := hT2.m4
          have gd' : w2.heap.get w.next = some (.cells [.int .i64 (d : Nat), .int .i64 z] 87 false) := by rw [hA2.keep _ (by omega) (by omega)]; exact gd
          simp only [ptrB] at t2 t4
          simp [t2, t4, t8, g4', gd', hup, tupV]
          obtain ⟨q1, q2, q3, q4, q5⟩ := hT2.lt
          obtain ⟨w3, hw3⟩ : ∃ w3 : AW, w3 = ⟨w2.heap.put km (some (.map (entsK dkC inV 0 (updK L2 ((d : Int), z) (fw s (k + 1) z))) (updK L2 ((d : Int), z) (fw s (k + 1) z)).length)), w2.next, w2.lim⟩ := ⟨_, rfl⟩
          rw [← hw3]
          have kk : ∀ x, x ≠ km → w3.heap.get x = w2.heap.get x := fun x hx => by rw [hw3]; simp [hx]
          have nn3 : w3.next = w2.next := by rw [hw3]
          have ll3 : w3.lim = w2.lim := by rw [hw3]
          have hT3 : Tr s (.slice da n dc) cv sv n bY b4 b5 b6 km w3 := by
            refine ⟨by rw [kk _ e1]; exact hT2.year, by rw [kk _ e2]; exact hT2.m4, by rw [kk _ e3]; exact hT2.m5, by rw [kk _ e4]; exact hT2.m6, ⟨updK L2 ((d : Int), z) (fw s (k + 1) z), ?_, ?_⟩, hT2.ne, by rw [nn3]; exact hT2.lt, by rw [ll3]; exact hT2.lim⟩
            · unfold MapAt; rw [hw3]; simp
            · intro d' z' v hv'
              rw [lookK_upd] at hv'
              split at hv'
              · rename_i he
                cases he
                cases hv'
                exact ⟨k + 1, by omega, rfl⟩
              · exact hK2 d' z' v hv'
          have hA3 : Af s (.slice da n dc) cv sv n bY b4 b5 b6 km w2 w3 := ⟨hT3, fun x _ hx => kk x hx, by omega, ll3⟩
          exact hA.trans (hA2.trans hA3)
    obtain ⟨v, w', h1, rfl, h2⟩ := goal
    exact ⟨w', h1, h2⟩
end Go.Proofs.YtkkoeeleieplhaaGreatDoor.walk

namespace Go.Proofs.YtkkoeeleieplhaaGreatDoor.walk
open Go Go.Sh
set_option maxRecDepth 100000
set_option linter.unusedSimpArgs false
set_option linter.unusedVariables false
/-! the list of cuts, day by day -/
theorem h44_at {ov : Ov} (ho : ∀ args w, ov 44 args w = none) (ho41 : ∀ args w, ov 41 args w = none) (h42 : HasP ov 42 F42) (h43 : HasP ov 43 F43) (h45 : HasP ov 45 F45) {s : Sea} (hs : shadeB s = true) (da : Option Addr) (dc : Nat) (cv sv : Value) (n : Nat) (h40 : n ≤ 40) {M k : Nat} (h : 2 * k + 1 ≤ M) : H44 ov s (.slice da n dc) cv sv n M k := by
  obtain ⟨m, rfl⟩ : ∃ m, M = m + 2 * k + 1 := ⟨M - 2 * k - 1, by omega⟩
  exact call44 ho ho41 h42 h43 h45 hs da dc cv sv n h40 k m
theorem Tr.ex {s : Sea} {dv cv sv : Value} {n bY b4 b5 b6 km : Nat} {w w' : AW} (h : Tr s dv cv sv n bY b4 b5 b6 km w) (k : ∀ x, x = bY ∨ x = b4 ∨ x = b5 ∨ x = b6 ∨ x = km → w'.heap.get x = w.heap.get x) (hn : w.next ≤ w'.next) (hl : w'.lim = w.lim) : Tr s dv cv sv n bY b4 b5 b6 km w' := by
  obtain ⟨l1, l2, l3, l4, l5⟩ := h.lt
  obtain ⟨L, h1, h2⟩ := h.map
  exact ⟨by rw [k _ (by simp)]; exact h.year, by rw [k _ (by simp)]; exact h.m4, by rw [k _ (by simp)]; exact h.m5, by rw [k _ (by simp)]; exact h.m6, ⟨L, by unfold MapAt; rw [k _ (by simp)]; exact h1, h2⟩, h.ne, ⟨by omega, by omega, by omega, by omega, by omega⟩, by rw [hl]; exact h.lim⟩
structure Dy (s : Sea) (dv cv sv : Value) (n N : Nat) (H0 : T AObj) (lm : Nat) (i : Nat) (z : Int) (acc : List Int) (v : Value) (w : AW) : Prop where
  tr : Tr s dv cv sv n N (N + 2) (N + 3) (N + 4) (N + 1) w
  dusk : w.heap.get (N + 5) = some (.cells [.int .i64 (i : Nat), .int .i64 z] 87 false)
  row : AccR intC 3 (N + 5) w v acc
  old : ∀ x, x < N → w.heap.get x = H0.get x
  next : N + 5 < w.next
  lim : w.lim = lm
theorem Dy.af {s : Sea} {dv cv sv : Value} {n N : Nat} {H0 : T AObj} {lm i : Nat} {z : Int} {acc : List Int} {v : Value} {w w' : AW} (h : Dy s dv cv sv n N H0 lm i z acc v w) (k : Af s dv cv sv n N (N + 2) (N + 3) (N + 4) (N + 1) w w') : Dy s dv cv sv n N H0 lm i z acc v w' :=
  have hn := h.next
  ⟨k.tr, by rw [k.keep _ hn (by omega)]; exact h.dusk, h.row.keep (fun x h1 h2 => k.keep x h2 (by omega)) k.next, fun x hx => by rw [k.keep x (by omega) (by omega)]; exact h.old x hx, by have := k.next; omega, by rw [k.lim]; exact h.lim⟩
def Th (N n i : Nat) (lf : Int) (v : Value) (t : Tm) : Prop := (tget t 1 = ptrB N ∧ tget t 6 = ptrB (N + 4)) ∧ (tget t 7 = ptrB (N + 5) ∧ tget t 8 = .int .i64 lf) ∧ (tget t 9 = v ∧ tget t 29 = .int .i64 (n : Nat)) ∧ tget t 30 = .int .i64 (i : Nat)
theorem push27 {n0 : Nat} {w : AW} {v : Value} {acc : List Int} (h : AccR intC 3 n0 w v acc) (hl : w.lim ≤ n0) (hn : n0 < w.next) (hlen : acc.length ≤ 90000) (y : Int) :
    ∃ v' w', append1 Tryz.prog ⟨w.heap.put w.next (some (.cells [.int .i64 y] 3 false)), w.next + 1, w.lim⟩ [27, 27] [v, .slice (some ⟨w.next, 0, none⟩) 1 1] = .val v' w' ∧ AccR intC 3 n0 w' v' (acc ++ [y]) ∧ (∀ x, x ≤ n0 → w'.heap.get x = w.heap.get x) ∧ w.next ≤ w'.next ∧ w'.lim = w.lim :=
  AccR.push isList27 elem27 sz3 small3 (fun a => rfl) (fun a => rfl) (by decide) h hl hn hlen y
theorem step43 {ov : Ov} (m : Nat) (h43 : HasP ov 43 F43) {s : Sea} (hs : shadeB s = true) (dv cv sv : Value) (n : Nat) (hn40 : n ≤ 40) (N : Nat) (H0 : T AObj) (lm i : Nat) (hi : i < n) (z z' : Int) (hz' : 0 ≤ z' ∧ z' ≤ 100) (c : Int) (acc : List Int) (v : Value) (w : AW) (hD : Dy s dv cv sv n N H0 lm i z acc v w) (hlN : lm ≤ N) :
    Dy s dv cv sv n N H0 lm (i + 1) (gro s z') acc v ⟨w.heap.put (N + 5) (some (.cells [.int .i64 ((i : Int) + 1), .int .i64 (gro s z')] 87 false)), w.next, w.lim⟩ := by
  have hnx := hD.next
  refine ⟨hD.tr.ex (fun x hx => ?_) (Nat.le_refl _) rfl, ?_, hD.row.keep (fun x h1 h2 => ?_) (Nat.le_refl _), fun x hx => ?_, hnx, hD.lim⟩
  · show (w.heap.put _ _).get x = _
    rw [get_put, if_neg (by omega)]
  · show (w.heap.put _ _).get _ = _
    rw [get_put, if_pos rfl]
    simp
  · show (w.heap.put _ _).get x = _
    rw [get_put, if_neg (by omega)]
  · show (w.heap.put _ _).get x = _
    rw [get_put, if_neg (by omega)]
    exact hD.old x hx
set_option maxHeartbeats 1000000 in
theorem loop16b {ov : Ov} (m : Nat) (ho41 : ∀ args w, ov 41 args w = none) (h42 : HasP ov 42 F42) (h43 : HasP ov 43 F43) {s : Sea} (hs : shadeB s = true) (dv cv sv : Value) (n k : Nat) (h40 : n ≤ 40) (H : H44 ov s dv cv sv n (m + 1) k) (N : Nat) (H0 : T AObj) (lm i : Nat) (hik : i + (k + 1) = n) (z : Int) (hz : 0 ≤ z ∧ z ≤ 100) (hf : fw s (k + 1) z ≤ 40) (acc : List Int) (hacc : acc.length ≤ 100) (v : Value) (w0 : AW) (hD0 : Dy s dv cv sv n N H0 lm i z acc v w0) (hlN : lm ≤ N)
    (Q : Ex → Tm → AW → Prop) (t : Tm) (ht : Th N n i (fw s (k + 1) z) v t) (t10 : tget t 10 = .int .i64 (i : Nat)) (t35 : tget t 35 = .agg ⟨[.int .i64 1, .int .i64 (cutN s z), .int .i64 0, .int .i64 z]⟩) (t36 : tget t 36 = .int .i64 0)
    (hcut : wiF (fw s k) s 1 (cutN s z) = fw s (k + 1) z → ∀ t w v', Dy s dv cv sv n N H0 lm (i + 1) (gro s (cutN s z)) (acc ++ [(i : Int)]) v' w → Th N n i (fw s k (gro s (cutN s z))) v' t → Q (.exit 2) t w)
    (hno : wiF (fw s k) s 1 (cutN s z) ≠ fw s (k + 1) z → ∀ t w, Dy s dv cv sv n N H0 lm (i + 1) (gro s z) acc v w → Th N n i (fw s k (gro s z)) v t → Q (.exit 1) t w) :
    wp (exM Tryz.prog (run Tryz.prog ov (m + 2)) (.loop mc16_l1) t w0) Q := by
  refine wp_rounds (fun j t w => Dy s dv cv sv n N H0 lm i z acc v w ∧ Th N n i (fw s (k + 1) z) v t ∧ tget t 10 = .int .i64 (i : Nat) ∧ tget t 35 = .agg ⟨[.int .i64 1, .int .i64 (cutN s z), .int .i64 0, .int .i64 z]⟩ ∧ tget t 36 = .int .i64 (j : Nat) ∧ (j = 0 ∨ (j = 1 ∧ wiF (fw s k) s 1 (cutN s z) ≠ fw s (k + 1) z))) 200 (by decide) ⟨hD0, ht, t10, t35, by simpa using t36, .inl rfl⟩ ?_
  clear ht t10 t35 t36 hD0
  rintro j t w ⟨hD, ht, t10, t35, t36, hj⟩
  obtain ⟨⟨t1, t6⟩, ⟨t7, t8⟩, ⟨t9, t29⟩, t30⟩ := ht
  obtain ⟨nf, ng, nc⟩ := shade_nums hs
  have hT := hD.tr
  have hnx := hD.next
  have hlm := hD.lim
  have hlw : w.lim ≤ w.next := by omega
  have g7 := hD.dusk
  have g6 := hT.m6
  have m7 : ¬ N + 5 = w.next := by omega
  have m6 : ¬ N + 4 = w.next := by omega
  have m6' : ¬ N = w.next := by omega
  -- what a round does up to the comparison
  have key : ∀ (c z' : Int), 0 ≤ c ∧ c ≤ 1 → 0 ≤ z' ∧ z' ≤ 100 → ∃ w2, (run Tryz.prog ov (m + 2)).call 41 [.agg ⟨[.int .i64 (i : Nat), .int .i64 z]⟩, .agg ⟨[.int .i64 c, .int .i64 z']⟩, ptrB N, ptrB (N + 3)] ⟨(w.heap.put w.next (some (.cells [.int .i64 0, .int .i64 0] 89 false))).put w.next (some (.cells [.int .i64 c, .int .i64 z'] 89 false)), w.next + 1, w.lim⟩ .none = .ok (.ret (.int .i64 (wiF (fw s k) s c z'))) w2 .none ∧ Dy s dv cv sv n N H0 lm i z acc v w2 ∧ w2.heap.get w.next = some (.cells [.int .i64 c, .int .i64 z'] 89 false) ∧ w.next < w2.next := by
    intro c z' hc hz'
    obtain ⟨w1, hw1⟩ : ∃ w1 : AW, w1 = ⟨(w.heap.put w.next (some (.cells [.int .i64 0, .int .i64 0] 89 false))).put w.next (some (.cells [.int .i64 c, .int .i64 z'] 89 false)), w.next + 1, w.lim⟩ := ⟨_, rfl⟩
    have k1 : ∀ x, x < w.next → w1.heap.get x = w.heap.get x := fun x hx => by rw [hw1]; simp [show ¬ x = w.next by omega]
    have n1 : w1.next = w.next + 1 := by rw [hw1]
    have lm1 : w1.lim = w.lim := by rw [hw1]
    have hA1 := Af.up hT k1 (by omega) lm1
    obtain ⟨_, w2, h1, rfl, h2⟩ := call41 m ho41 h42 h43 hs dv cv sv n k h40 H i z c z' hc N (N + 2) (N + 3) (N + 4) (N + 1) w1 hik hz' (by omega) hA1.tr
    rw [← hw1]
    refine ⟨w2, h1, hD.af (hA1.trans h2), ?_, by have := h2.next; omega⟩
    rw [h2.keep _ (by omega) (by omega), hw1]; simp
  rcases hj with rfl | ⟨rfl, hC⟩
  · obtain ⟨w2, hc, hD2, gc, hw2⟩ := key 1 (cutN s z) (by omega) (by unfold cutN; omega)
    have hn2 := hD2.next
    have hl2 := hD2.lim
    by_cases hC : wiF (fw s k) s 1 (cutN s z) = fw s (k + 1) z
    · obtain ⟨_, hfk⟩ := fw_cut hC hf
      have gy := hD2.tr.year
      have g7' := hD2.dusk
      have r43 := rule43 h43 s dv cv sv (d := (i : Nat)) (n := cutN s z) z 1 (by unfold cutN; omega) ng (by omega) (m + 1) w2
      have hD3 := step43 m h43 hs dv cv sv n h40 N H0 lm i (by omega) z (cutN s z) (by unfold cutN; omega) 1 acc v w2 hD2 hlN
      obtain ⟨w3, hw3⟩ : ∃ w3 : AW, w3 = ⟨w2.heap.put (N + 5) (some (.cells [.int .i64 ((i : Int) + 1), .int .i64 (gro s (cutN s z))] 87 false)), w2.next, w2.lim⟩ := ⟨_, rfl⟩
      rw [← hw3] at hD3
      have n3 : w3.next = w2.next := by rw [hw3]
      have l3 : w3.lim = w2.lim := by rw [hw3]
      obtain ⟨v', w4, ha, hrow, hk4, hn4, hl4⟩ := push27 hD3.row (by omega) (by omega) (by omega) (i : Int)
      have hD4 : Dy s dv cv sv n N H0 lm (i + 1) (gro s (cutN s z)) (acc ++ [(i : Int)]) v' w4 :=
        ⟨hD3.tr.ex (fun x hx => hk4 x (by omega)) hn4 hl4, by rw [hk4 _ (Nat.le_refl _)]; exact hD3.dusk, hrow, fun x hx => by rw [hk4 x (by omega)]; exact hD3.old x hx, by omega, by omega⟩
      have l5 : w2.lim ≤ N + 5 := by omega
      have m8 : ¬ w.next = N + 5 := by omega
      have ww : IntKind.wrap .i64 (fw s (k + 1) z - 1) = fw s (k + 1) z - 1 := by have := fw_bd s (k + 1) z; exact wrap64_in (by omega) (by omega)
      simp only [yearC] at gy r43
      rw [hw3] at ha
      simp only [fn41, ptrB] at g6 hc t1 t6 t7
      simp [mc16_l1, t1, t6, t7, t8, t9, t10, t35, t36, g7, g6, m7, m6, m6', hlw, callV_func, hc, ptrB, hC, gy, g7', gc, r43, l5, m8, ww, ha]
      refine hcut hC _ _ v' hD4 ?_
      simp only [Th, ptrB]
      simp [t1, t6, t7, t29, t30, hfk]
    · simp only [fn41, ptrB] at g6 hc t1 t6 t7
      simp [mc16_l1, t1, t6, t7, t8, t9, t10, t35, t36, g7, g6, m7, m6, m6', hlw, callV_func, hc, ptrB, hC]
      refine ⟨hD2, ?_, by decide⟩
      simp only [Th, ptrB]
      simp [t1, t6, t7, t8, t9, t29, t30]
  · obtain ⟨hC0, _, hfk⟩ := fw_no hC hf
    obtain ⟨w2, hc, hD2, gc, hw2⟩ := key 0 z (by omega) hz
    have hn2 := hD2.next
    have hl2 := hD2.lim
    have gy := hD2.tr.year
    have g7' := hD2.dusk
    have r43 := rule43 h43 s dv cv sv (d := (i : Nat)) (n := z) z 0 hz ng (by omega) (m + 1) w2
    have hD3 := step43 m h43 hs dv cv sv n h40 N H0 lm i (by omega) z z hz 0 acc v w2 hD2 hlN
    have l5 : w2.lim ≤ N + 5 := by omega
    have m8 : ¬ w.next = N + 5 := by omega
    have ww : IntKind.wrap .i64 (fw s (k + 1) z) = fw s (k + 1) z := by have := fw_bd s (k + 1) z; exact wrap64_in (by omega) (by omega)
    simp only [yearC] at gy r43
    simp only [fn41, ptrB] at g6 hc t1 t6 t7
    simp [mc16_l1, t1, t6, t7, t8, t9, t10, t35, t36, g7, g6, m7, m6, m6', hlw, callV_func, hc, ptrB, hC0, gy, g7', gc, r43, l5, m8, ww]
    refine hno hC _ _ hD3 ?_
    simp only [Th, ptrB]
    simp [t1, t6, t7, t9, t29, t30, hfk]
end Go.Proofs.YtkkoeeleieplhaaGreatDoor.walk
