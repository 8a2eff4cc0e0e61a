/- Part of a proof by a machine of ones own: see the text with the theorem. -/
import Derived.Test.YtbbbgaiaigdngaaGreatDoorEZb
import Derived.Test.YtbbbgaiaigdngaaGreatDoorEWc
namespace Go.Proofs.YtbbbgaiaigdngaaGreatDoor.walk
open Go Go.Sh
set_option maxRecDepth 100000
set_option linter.unusedSimpArgs false
set_option linter.unusedVariables false
/-! VineEnds: the season of the first days is one -/
theorem cutsTo_app {n z : Int} {L : List Int} : ∀ i, i ≤ L.length → cutsTo n (L ++ [z]) i = cutsTo n L i ∧ lastI (L ++ [z]) i = lastI L i
  | 0, _ => ⟨rfl, rfl⟩
  | i + 1, h => by
    obtain ⟨h1, h2⟩ := cutsTo_app (n := n) (z := z) (L := L) i (by omega)
    have hi : i < L.length := by omega
    have e : (L ++ [z])[i]? = L[i]? := List.getElem?_append_left hi
    obtain ⟨c, hc⟩ : ∃ c, L[i]? = some c := ⟨_, List.getElem?_eq_getElem (by omega)⟩
    refine ⟨?_, ?_⟩
    · rw [cuts_snoc (by rw [e]; exact hc), cuts_snoc hc, h1, h2]
    · show ((L ++ [z])[i]?).getD (-1) = (L[i]?).getD (-1)
      rw [e]
theorem few_cuts {n : Int} {c : List Int} (m : Nat) : ∀ k, k ≤ c.length → cutsTo n c k = true → cutsTo (m : Int) (fewC c m k) (fewC c m k).length = true ∧ lastI (fewC c m k) (fewC c m k).length ≤ lastI c k
  | 0, _, _ => by simp [fewC, cutsTo, lastI]
  | k + 1, hk, h => by
    obtain ⟨z, hz⟩ : ∃ z, c[k]? = some z := ⟨_, List.getElem?_eq_getElem (by omega)⟩
    rw [cuts_snoc hz] at h
    simp only [Bool.and_eq_true, decide_eq_true_eq] at h
    obtain ⟨h1, h2⟩ := few_cuts m k (by omega) h.1
    have hl : lastI c (k + 1) = z := by show (c[k]?).getD (-1) = z; rw [hz]; rfl
    by_cases hc : z < (m : Int)
    · rw [fewC_yes hz hc, List.length_append, List.length_singleton, hl]
      obtain ⟨a1, a2⟩ := cutsTo_app (n := (m : Int)) (z := z) (L := fewC c m k) _ (Nat.le_refl _)
      have hg : (fewC c m k ++ [z])[(fewC c m k).length]? = some z := by rw [List.getElem?_append_right (Nat.le_refl _), Nat.sub_self]; rfl
      refine ⟨?_, ?_⟩
      · rw [cuts_snoc hg, a1, a2, h1, Bool.true_and, decide_eq_true (by omega), decide_eq_true hc]; rfl
      · show ((fewC c m k ++ [z])[(fewC c m k).length]?).getD (-1) ≤ z
        rw [hg]; exact Int.le_refl _
    · rw [fewC_no hz hc, hl]
      exact ⟨h1, by omega⟩
theorem few_day {l : List Day} {n : Nat} (hd : ∀ (i : Nat) d, l[i]? = some d → dayB d = true) : ∀ (i : Nat) d, (fewD l n)[i]? = some d → dayB d = true := by
  intro i d h
  unfold fewD at h
  rw [List.getElem?_map] at h
  obtain ⟨e, he, rfl⟩ := Option.map_eq_some_iff.1 h
  have hi : i < n := by
    have := (List.getElem?_eq_some_iff.1 he).1
    rw [List.length_take] at this; omega
  rw [List.getElem?_take_of_lt hi] at he
  have hb := hd i e he
  simp only [dayB, Bool.and_eq_true] at hb ⊢
  have h1 := span_le hb.1
  have h2 : spanB e.wl (min e.wh (e.wl + 2)) 50 = true := by
    simp only [spanB, Bool.and_eq_true, decide_eq_true_eq]
    omega
  exact ⟨h2, hb.2⟩
theorem few_ok {s : Sea} {l : List Day} {c : List Int} (hE : seaE s l c = 0) {n : Nat} (hn : n = min 3 l.length) : seaE s (fewD l n) (fewC c (fewD l n).length c.length) = 0 ∧ (fewD l n).length = n ∧ 1 ≤ n := by
  obtain ⟨z1, z2, z3, z4, z5⟩ := sea_zero hE
  obtain ⟨f1, f2⟩ := sea_facts hE
  have h40 := days_len z1
  have hlen : (fewD l n).length = n := by unfold fewD; rw [List.length_map, List.length_take]; omega
  refine ⟨?_, hlen, by omega⟩
  have k1 : daysB (fewD l n) = true := by
    unfold daysB
    rw [hlen, days_all n (fun i d _ h => few_day f2 i d h), decide_eq_true (by omega : 1 ≤ n), decide_eq_true (by omega : n ≤ 40)]
    rfl
  have k2 : cutsB (fewC c (fewD l n).length c.length) ((fewD l n).length : Int) = true := (few_cuts (n := (l.length : Int)) (fewD l n).length c.length (Nat.le_refl _) z2).1
  unfold seaE seaB
  rw [k1, k2, z3, z4, z5]
  rfl
/-- few truths -/
theorem edL_few {l : List Day} (hd : ∀ (i : Nat) d, l[i]? = some d → (d.wh - d.wl + 1).toNat ≤ 3) (h3 : l.length ≤ 3) : ∀ k, k ≤ l.length → (edL l k).length ≤ 6 ^ k
  | 0, _ => by simp [edL]
  | k + 1, hk => by
    obtain ⟨d, hdk⟩ : ∃ d, l[k]? = some d := ⟨_, List.getElem?_eq_getElem (by omega)⟩
    have ih := edL_few hd h3 k (by omega)
    have e : edL l (k + 1) = e0 d (edL l k) := by
      show (match l[k]? with | some d => e0 d (edL l k) | none => edL l k) = _
      rw [hdk]
    rw [e, e0_len, Nat.pow_succ]
    have := hd k d hdk
    exact Nat.mul_le_mul ih (by omega)
end Go.Proofs.YtbbbgaiaigdngaaGreatDoor.walk

namespace Go.Proofs.YtbbbgaiaigdngaaGreatDoor.walk
open Go Go.Sh
set_option maxRecDepth 100000
set_option linter.unusedSimpArgs false
set_option linter.unusedVariables false
/-! VineEnds: the best of the truths that are tried -/
theorem edge_mem {l : List Day} {W R : List Int} : (W, R) ∈ edL l l.length ↔ edgeB l W R := by
  rw [edL_mem l l.length (Nat.le_refl _)]
  unfold edgeB
  constructor
  · rintro ⟨h1, h2, h3⟩
    exact ⟨h1, h2, fun i d hd => h3 i d (List.getElem?_eq_some_iff.1 hd).1 hd⟩
  · rintro ⟨h1, h2, h3⟩
    exact ⟨h1, h2, fun i d _ hd => h3 i d hd⟩
theorem ends_any {s : Sea} {l : List Day} {c : List Int} {rs : List Rac} (hE : seaE s l c = 0) (hR : racB rs = true) (bt : Bool) {D : Nat} (hD : D < l.length) : anD s l c rs D (flG s l c rs bt D) (edL l l.length) = true := by
  obtain ⟨W, R, h1, h2⟩ := morning_at hE hR bt hD
  unfold anD
  rw [List.any_eq_true]
  exact ⟨(W, R), edge_mem.2 h1, by simp [hpD, h2]⟩
theorem fold_min {f : List Int × List Int → Int} {lo : Int} : ∀ (o : List (List Int × List Int)) (a b : Int), (∀ p ∈ o, lo ≤ f p) → lo ≤ a → (a = lo ∨ ∃ p ∈ o, f p = lo) → (o.foldl (fun (a : Int × Int) p => (min a.1 (f p), max a.2 (f p))) (a, b)).1 = lo
  | [], a, b, _, h2, h3 => by
    rcases h3 with h | ⟨p, hp, _⟩
    · exact h
    · cases hp
  | p :: o, a, b, h1, h2, h3 => by
    have hp := h1 p (List.mem_cons_self ..)
    refine fold_min o _ _ (fun q hq => h1 q (List.mem_cons_of_mem _ hq)) (by show lo ≤ min a (f p); omega) ?_
    rcases h3 with h | ⟨q, hq, h⟩
    · exact .inl (by show min a (f p) = lo; omega)
    · rcases List.mem_cons.1 hq with rfl | hq
      · exact .inl (by show min a (f q) = lo; omega)
      · exact .inr ⟨q, hq, h⟩
theorem fold_max {f : List Int × List Int → Int} {hi : Int} : ∀ (o : List (List Int × List Int)) (a b : Int), (∀ p ∈ o, f p ≤ hi) → b ≤ hi → (b = hi ∨ ∃ p ∈ o, f p = hi) → (o.foldl (fun (a : Int × Int) p => (min a.1 (f p), max a.2 (f p))) (a, b)).2 = hi
  | [], a, b, _, h2, h3 => by
    rcases h3 with h | ⟨p, hp, _⟩
    · exact h
    · cases hp
  | p :: o, a, b, h1, h2, h3 => by
    have hp := h1 p (List.mem_cons_self ..)
    refine fold_max o _ _ (fun q hq => h1 q (List.mem_cons_of_mem _ hq)) (by show max b (f p) ≤ hi; omega) ?_
    rcases h3 with h | ⟨q, hq, h⟩
    · exact .inl (by show max b (f p) = hi; omega)
    · rcases List.mem_cons.1 hq with rfl | hq
      · exact .inl (by show max b (f q) = hi; omega)
      · exact .inr ⟨q, hq, h⟩
theorem ends_open {s : Sea} {l : List Day} {c : List Int} (hE : seaE s l c = 0) (r : Rac) (rs : List Rac) (hR : racB (r :: rs) = true) (hR1 : racB [r] = true) : foF s l c (r :: rs) (edL l l.length) = (oA s l c r, oB s l c r) := by
  obtain ⟨f1, f2⟩ := sea_facts hE
  have hB : oE s l c r = 0 := by unfold oE bothE; rw [if_pos hE, if_pos hR1]
  have eA : oA s l c r = ((opI (MS s l c) r.need : Nat) : Int) := by unfold oA; rw [if_pos hB]
  have eB : oB s l c r = ((opI (LS s l c) r.need : Nat) : Int) := by unfold oB; rw [if_pos hB]
  obtain ⟨hm, hq⟩ := hot_eq (s := s) (l := l) (c := c) hE
  obtain ⟨cm, cq⟩ := cold_eq (s := s) (l := l) (c := c) hE
  have all : ∀ p ∈ edL l l.length, oA s l c r ≤ opD s l c r p ∧ opD s l c r p ≤ oB s l c r := fun p hp => by
    have := opens_in hE (edge_tr f2 (edge_mem.1 (show (p.1, p.2) ∈ _ from hp))) r.need
    rw [eA, eB]
    unfold opD
    omega
  have hotm : opD s l c r (l.map Day.wh, l.map Day.rl) = oA s l c r := by unfold opD; simp only; rw [hq, eA]
  have coldm : opD s l c r (l.map Day.wl, l.map Day.rh) = oB s l c r := by unfold opD; simp only; rw [cq, eB]
  have hmem := edge_mem.2 hm
  have cmem := edge_mem.2 cm
  have hle : oA s l c r ≤ (l.length : Int) := by
    have := (all _ hmem).2
    rw [eA]
    have h := opI_le (MS s l c) r.need
    have e : (MS s l c).length = l.length := by simp [MS]
    omega
  have e : foF s l c (r :: rs) (edL l l.length) = (edL l l.length).foldl (fun (a : Int × Int) p => (min a.1 (opD s l c r p), max a.2 (opD s l c r p))) ((l.length : Int), 0) := rfl
  rw [e]
  have h1 := fold_min (f := opD s l c r) (lo := oA s l c r) (edL l l.length) (l.length : Int) 0 (fun p hp => (all p hp).1) hle (.inr ⟨_, hmem, hotm⟩)
  have h2 := fold_max (f := opD s l c r) (hi := oB s l c r) (edL l l.length) (l.length : Int) 0 (fun p hp => (all p hp).2) (by rw [eB]; omega) (.inr ⟨_, cmem, coldm⟩)
  exact Prod.ext h1 h2
end Go.Proofs.YtbbbgaiaigdngaaGreatDoor.walk

namespace Go.Proofs.YtbbbgaiaigdngaaGreatDoor.walk
open Go Go.Sh
set_option maxRecDepth 100000
set_option linter.unusedSimpArgs false
set_option linter.unusedVariables false
end Go.Proofs.YtbbbgaiaigdngaaGreatDoor.walk
