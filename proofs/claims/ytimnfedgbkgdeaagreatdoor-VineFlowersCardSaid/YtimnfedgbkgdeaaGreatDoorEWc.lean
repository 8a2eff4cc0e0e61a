/- Part of a proof by a machine of ones own: see the text with the theorem. -/
import Derived.Test.YtimnfedgbkgdeaaGreatDoorEWb
namespace Go.Proofs.YtimnfedgbkgdeaaGreatDoor.walk
open Go Go.Sh
set_option maxRecDepth 100000
set_option linter.unusedSimpArgs false
set_option linter.unusedVariables false
/-! whatever the weather is: numbers -/
theorem hsN_mem (s : Sea) (d : Day) (z : Int) : ∀ n k, k < n → heatI s (d.wl + (k : Nat)) d.rl z ∈ hsN s d z n
  | 0, k, h => by omega
  | n + 1, k, h => by
    unfold hsN
    rw [List.mem_append]
    by_cases e : k = n
    · subst e; exact .inr (List.mem_singleton.2 rfl)
    · exact .inl (hsN_mem s d z n k (by omega))
theorem hsN_of (s : Sea) (d : Day) (z : Int) : ∀ n x, x ∈ hsN s d z n → ∃ k : Nat, k < n ∧ x = heatI s (d.wl + (k : Nat)) d.rl z
  | 0, x, h => by simp [hsN] at h
  | n + 1, x, h => by
    unfold hsN at h
    rw [List.mem_append] at h
    rcases h with h | h
    · obtain ⟨k, h1, h2⟩ := hsN_of s d z n x h
      exact ⟨k, by omega, h2⟩
    · exact ⟨n, by omega, List.mem_singleton.1 h⟩
theorem hs_bd {s : Sea} {d : Day} {z : Int} (hok : ∀ a, d.wl ≤ a → a ≤ d.wh → heatB s a z = true) : ∀ x ∈ hsL s d z, 0 ≤ x ∧ x ≤ 50 := by
  intro x hx
  unfold hsL at hx
  rw [List.mem_append] at hx
  rcases hx with hx | hx
  · split at hx
    · simp at hx; omega
    · simp at hx
  · obtain ⟨k, h1, rfl⟩ := hsN_of _ _ _ _ _ hx
    exact heat_bd d.rl (hok _ (by omega) (by omega))
theorem HsF_eq {s : Sea} {l : List Day} {S : List Int} {i : Nat} {d : Day} {z : Int} (h1 : l[i]? = some d) (h2 : S[i]? = some z) : HsF s l S i = heatsN s d z := by
  unfold HsF; rw [h1, h2]
theorem HsF_bd {s : Sea} {l : List Day} {c : List Int} (hE : seaE s l c = 0) : ∀ i h, h ∈ HsF s l (shL s c l.length) i → h ≤ 50 := by
  obtain ⟨f1, f2⟩ := sea_facts hE
  intro i h hh
  unfold HsF at hh
  split at hh
  · rename_i d z hd hz
    unfold heatsN at hh
    obtain ⟨x, hx, rfl⟩ := List.mem_map.1 hh
    have := hs_bd (fun a => f1 i d z a hd hz) x hx
    omega
  · simp at hh
theorem HsF_ne {s : Sea} {l : List Day} {c : List Int} (hE : seaE s l c = 0) {i : Nat} (hi : i < l.length) : HsF s l (shL s c l.length) i ≠ [] := by
  obtain ⟨f1, f2⟩ := sea_facts hE
  have hd : l[i]? = some l[i] := List.getElem?_eq_getElem hi
  have hz := shL_at s c l.length i hi
  rw [HsF_eq hd hz]
  have hb := f2 i _ hd
  simp only [dayB, spanB, Bool.and_eq_true, decide_eq_true_eq] at hb
  unfold heatsN
  intro h
  have h := List.map_eq_nil_iff.1 h
  have := hsN_mem s l[i] (shB s c (i + 1)) ((l[i].wh - l[i].wl + 1).toNat) 0 (by omega)
  unfold hsL at h
  rw [List.append_eq_nil_iff] at h
  rw [h.2] at this
  simp at this
end Go.Proofs.YtimnfedgbkgdeaaGreatDoor.walk

namespace Go.Proofs.YtimnfedgbkgdeaaGreatDoor.walk
open Go Go.Sh
set_option maxRecDepth 100000
set_option linter.unusedSimpArgs false
set_option linter.unusedVariables false
/-! a truth that numbers choose -/
end Go.Proofs.YtimnfedgbkgdeaaGreatDoor.walk

namespace Go.Proofs.YtimnfedgbkgdeaaGreatDoor.walk
open Go Go.Sh
set_option maxRecDepth 100000
set_option linter.unusedSimpArgs false
set_option linter.unusedVariables false
structure In12 (w0 : AW) (s : Sea) (dv cv : Value) (W R : List Int) (v1 v2 : Value) (B1 B2 : Nat) (w : AW) : Prop where
  old : Old w0.next w0.heap w.heap
  sea : w.heap.get w0.next = some (.cells (seaC s dv cv) 29 false)
  res : w.heap.get (w0.next + 1) = some (.cells [.slice none 0 0, .slice none 0 0] 41 false)
  two : w.heap.get (w0.next + 2) = some (.cells [v1, v2] 41 false)
  a1 : AccI (w0.next + 2) w v1 W B1
  a2 : AccI (w0.next + 2) w v2 R B2
  ne : B1 = B2 → B1 = 0
  next : w0.next + 2 < w.next
  lim : w.lim = w0.lim
theorem AccI.slice {n1 : Nat} {w : AW} {v : Value} {acc : List Int} {B : Nat} (h : AccI n1 w v acc B) : ∃ a n c, v = .slice a n c := by
  rcases h with ⟨_, rfl, _⟩ | ⟨rfl, _⟩
  · exact ⟨_, _, _, rfl⟩
  · exact ⟨_, _, _, rfl⟩
theorem AccI.nb {n1 : Nat} {w : AW} {v : Value} {acc : List Int} {B : Nat} (h : AccI n1 w v acc B) (x : Nat) (hx : x ≤ n1) : x = B → B = 0 := by
  rcases h with ⟨_, _, h⟩ | ⟨_, _, h, _⟩
  · exact fun _ => h
  · intro e; omega
end Go.Proofs.YtimnfedgbkgdeaaGreatDoor.walk

namespace Go.Proofs.YtimnfedgbkgdeaaGreatDoor.walk
open Go Go.Sh
set_option maxRecDepth 100000
set_option linter.unusedSimpArgs false
set_option linter.unusedVariables false
end Go.Proofs.YtimnfedgbkgdeaaGreatDoor.walk
