/- Part of a proof by a machine of ones own: see the text with the theorem. -/
import Derived.Test.YtbbbgaiaigdngaaGreatDoorEWb
namespace Go.Proofs.YtbbbgaiaigdngaaGreatDoor.walk
open Go Go.Sh
set_option maxRecDepth 100000
set_option linter.unusedSimpArgs false
set_option linter.unusedVariables false
/-! whatever the weather is: numbers -/
theorem hsN_mem (s : Sea) (d : Day) (z : Int) : ∀ n k, k < n → heatI s (d.wl + (k : Nat)) d.rl z ∈ hsN s d z n
  | 0, k, h => by omega
  | n + 1, k, h => by
    unfold hsN
    rw [List.mem_append]
    by_cases e : k = n
    · subst e; exact .inr (List.mem_singleton.2 rfl)
    · exact .inl (hsN_mem s d z n k (by omega))
theorem hsN_of (s : Sea) (d : Day) (z : Int) : ∀ n x, x ∈ hsN s d z n → ∃ k : Nat, k < n ∧ x = heatI s (d.wl + (k : Nat)) d.rl z
  | 0, x, h => by simp [hsN] at h
  | n + 1, x, h => by
    unfold hsN at h
    rw [List.mem_append] at h
    rcases h with h | h
    · obtain ⟨k, h1, h2⟩ := hsN_of s d z n x h
      exact ⟨k, by omega, h2⟩
    · exact ⟨n, by omega, List.mem_singleton.1 h⟩
theorem hs_bd {s : Sea} {d : Day} {z : Int} (hok : ∀ a, d.wl ≤ a → a ≤ d.wh → heatB s a z = true) : ∀ x ∈ hsL s d z, 0 ≤ x ∧ x ≤ 50 := by
  intro x hx
  unfold hsL at hx
  rw [List.mem_append] at hx
  rcases hx with hx | hx
  · split at hx
    · simp at hx; omega
    · simp at hx
  · obtain ⟨k, h1, rfl⟩ := hsN_of _ _ _ _ _ hx
    exact heat_bd d.rl (hok _ (by omega) (by omega))
theorem HsF_eq {s : Sea} {l : List Day} {S : List Int} {i : Nat} {d : Day} {z : Int} (h1 : l[i]? = some d) (h2 : S[i]? = some z) : HsF s l S i = heatsN s d z := by
  unfold HsF; rw [h1, h2]
theorem HsF_bd {s : Sea} {l : List Day} {c : List Int} (hE : seaE s l c = 0) : ∀ i h, h ∈ HsF s l (shL s c l.length) i → h ≤ 50 := by
  obtain ⟨f1, f2⟩ := sea_facts hE
  intro i h hh
  unfold HsF at hh
  split at hh
  · rename_i d z hd hz
    unfold heatsN at hh
    obtain ⟨x, hx, rfl⟩ := List.mem_map.1 hh
    have := hs_bd (fun a => f1 i d z a hd hz) x hx
    omega
  · simp at hh
theorem HsF_ne {s : Sea} {l : List Day} {c : List Int} (hE : seaE s l c = 0) {i : Nat} (hi : i < l.length) : HsF s l (shL s c l.length) i ≠ [] := by
  obtain ⟨f1, f2⟩ := sea_facts hE
  have hd : l[i]? = some l[i] := List.getElem?_eq_getElem hi
  have hz := shL_at s c l.length i hi
  rw [HsF_eq hd hz]
  have hb := f2 i _ hd
  simp only [dayB, spanB, Bool.and_eq_true, decide_eq_true_eq] at hb
  unfold heatsN
  intro h
  have h := List.map_eq_nil_iff.1 h
  have := hsN_mem s l[i] (shB s c (i + 1)) ((l[i].wh - l[i].wl + 1).toNat) 0 (by omega)
  unfold hsL at h
  rw [List.append_eq_nil_iff] at h
  rw [h.2] at this
  simp at this
theorem ht_at (s : Sea) (S W R : List Int) : ∀ n i (z a r : Int), i < n → S[i]? = some z → W[i]? = some a → R[i]? = some r → (htL s S W R n)[i]? = some (heatI s a r z)
  | 0, i, z, a, r, h, _, _, _ => by omega
  | n + 1, i, z, a, r, h, h1, h2, h3 => by
    unfold htL
    by_cases e : i < n
    · rw [List.getElem?_append_left (by rw [htL_length]; exact e)]
      exact ht_at s S W R n i z a r e h1 h2 h3
    · have e' : i = n := by omega
      subst e'
      rw [List.getElem?_append_right (by rw [htL_length]; omega), htL_length, Nat.sub_self, h1, h2, h3]
      rfl
/-- a day of a truth -/
theorem tr_day {s : Sea} {l : List Day} {c W R : List Int} (hE : seaE s l c = 0) (hT : trB l W R = true) {i : Nat} (hi : i < l.length) : ∃ d a r, l[i]? = some d ∧ inI d.wl a d.wh = true ∧ inI d.rl r d.rh = true ∧ (htL s (shL s c l.length) W R l.length)[i]? = some (heatI s a r (shD s c i)) := by
  obtain ⟨e1, e2, ht⟩ := tr_lens hT
  have hd : l[i]? = some l[i] := List.getElem?_eq_getElem hi
  have ha : W[i]? = some W[i] := List.getElem?_eq_getElem (by omega)
  have hr : R[i]? = some R[i] := List.getElem?_eq_getElem (by omega)
  obtain ⟨t1, t2⟩ := tr_of _ ht i _ _ _ hi hd ha hr
  exact ⟨_, _, _, hd, t1, t2, ht_at s _ W R _ i _ _ _ hi (shL_at s c l.length i hi) ha hr⟩
def toP (L : List Int) (i : Nat) : Nat := ((L[i]?).getD 0).toNat
theorem map_self (L : List Int) : L = (List.range L.length).map fun k => (L[k]?).getD 0 := by
  apply List.ext_getElem?
  intro j
  rw [List.getElem?_map]
  by_cases h : j < L.length
  · rw [List.getElem?_range h, List.getElem?_eq_getElem h]; simp [h]
  · rw [List.getElem?_eq_none (by omega), List.getElem?_eq_none (by simp; omega)]; rfl
theorem opens_in {s : Sea} {l : List Day} {c W R : List Int} (hE : seaE s l c = 0) (hT : trB l W R = true) (need : Int) :
    opI (MS s l c) need ≤ opI (htL s (shL s c l.length) W R l.length) need ∧ opI (htL s (shL s c l.length) W R l.length) need ≤ opI (LS s l c) need := by
  obtain ⟨f1, f2⟩ := sea_facts hE
  have hlen : (htL s (shL s c l.length) W R l.length).length = l.length := htL_length _ _ _ _ _
  have key : ∀ k, k ∈ List.range l.length → (exD s l (shL s c l.length) k).1 ≤ ((htL s (shL s c l.length) W R l.length)[k]?).getD 0 ∧ ((htL s (shL s c l.length) W R l.length)[k]?).getD 0 ≤ (exD s l (shL s c l.length) k).2 := by
    intro k hk
    have hk := List.mem_range.1 hk
    obtain ⟨d, a, r, hd, t1, t2, hz⟩ := tr_day (s := s) (c := c) hE hT hk
    have hsh := shL_at s c l.length k hk
    have bd := ends_bd hE hd
    rw [exD_eq hE hd, hz]
    simp only [inI, Bool.and_eq_true, decide_eq_true_eq] at t1 t2
    have hb := f1 k d _ a hd hsh t1.1 t1.2
    have b0 := heat_bd r hb
    have hz100 : shD s c k ≤ 100 := by
      simp only [heatB, inI, Bool.and_eq_true, decide_eq_true_eq] at hb
      exact hb.2.2.2
    show loD s d (shD s c k) ≤ heatI s a r (shD s c k) ∧ heatI s a r (shD s c k) ≤ hiD s d (shD s c k)
    have b0' : 0 ≤ heatI s a r (shD s c k) := b0.1
    have e : ¬ s.wet < r → heatI s a r (shD s c k) = heatI s a d.rl (shD s c k) := fun h => by
      unfold heatI
      rw [if_neg h, if_neg (by omega)]
    constructor
    · unfold loD
      split
      · exact b0'
      · rw [e (by omega)]
        exact heat_mono rfl (Int.le_refl _) t1.1 (Int.le_refl _) hz100
    · by_cases hw : s.wet < r
      · have : heatI s a r (shD s c k) = 0 := by unfold heatI; rw [if_pos hw]
        rw [this]; exact bd.2.1
      · rw [e hw]
        exact heat_mono rfl (Int.le_refl _) t1.2 (Int.le_refl _) hz100
  have e := map_self (htL s (shL s c l.length) W R l.length)
  rw [hlen] at e
  unfold opI
  constructor
  · refine opF_mono _ _ _ _ _ _ _ ?_ (Int.le_refl _) (Int.le_refl _)
    rw [e]
    exact leL_map _ _ _ fun k hk => (key k hk).2
  · refine opF_mono _ _ _ _ _ _ _ ?_ (Int.le_refl _) (Int.le_refl _)
    rw [e]
    exact leL_map _ _ _ fun k hk => (key k hk).1
end Go.Proofs.YtbbbgaiaigdngaaGreatDoor.walk

namespace Go.Proofs.YtbbbgaiaigdngaaGreatDoor.walk
open Go Go.Sh
set_option maxRecDepth 100000
set_option linter.unusedSimpArgs false
set_option linter.unusedVariables false
/-! each end is so with some truth: numbers of VineEnds -/
theorem span_le {lo hi most : Int} (h : spanB lo hi most = true) : 0 ≤ lo ∧ lo ≤ hi ∧ hi ≤ most := by
  simpa only [spanB, Bool.and_eq_true, decide_eq_true_eq] using h
/-- a heat of a day comes of a warmth and of the least or the greatest rain -/
theorem hs_from {s : Sea} {d : Day} {z x : Int} (hd : dayB d = true) (h : x ∈ hsL s d z) : ∃ a r, inI d.wl a d.wh = true ∧ (r = d.rl ∨ r = d.rh) ∧ heatI s a r z = x := by
  simp only [dayB, Bool.and_eq_true] at hd
  have h1 := span_le hd.1
  have h2 := span_le hd.2
  unfold hsL at h
  rw [List.mem_append] at h
  rcases h with h | h
  · by_cases hw : s.wet < d.rh
    · rw [if_pos hw] at h
      refine ⟨d.wl, d.rh, by simp [inI]; omega, .inr rfl, ?_⟩
      unfold heatI
      rw [if_pos hw, List.mem_singleton.1 h]
    · rw [if_neg hw] at h
      simp at h
  · obtain ⟨k, hk, rfl⟩ := hsN_of _ _ _ _ _ h
    exact ⟨d.wl + (k : Nat), d.rl, by simp [inI]; omega, .inl rfl, rfl⟩
theorem cntP_congr {ad : Nat → Nat → Nat → Int} {p q : Nat → Nat} : ∀ d, (∀ i, i < d → p i = q i) → sumP p d = sumP q d ∧ cntP ad p d = cntP ad q d
  | 0, _ => ⟨rfl, rfl⟩
  | d + 1, h => by
    obtain ⟨h1, h2⟩ := cntP_congr (ad := ad) d fun i hi => h i (by omega)
    simp only [sumP, cntP, h1, h2, h d (by omega), and_self]
/-- the truths that are tried: of each day a warmth, and the least or the greatest rain -/
def edgeB (l : List Day) (W R : List Int) : Prop := W.length = l.length ∧ R.length = l.length ∧ ∀ (i : Nat) d, l[i]? = some d → ∃ a r, W[i]? = some a ∧ R[i]? = some r ∧ inI d.wl a d.wh = true ∧ (r = d.rl ∨ r = d.rh)
theorem trTo_of {l : List Day} {W R : List Int} (h : ∀ (i : Nat) d a b, l[i]? = some d → W[i]? = some a → R[i]? = some b → inI d.wl a d.wh = true ∧ inI d.rl b d.rh = true) : ∀ n, trTo l W R n = true
  | 0 => rfl
  | n + 1 => by
    show (trTo l W R n && _) = true
    rw [trTo_of h n, Bool.true_and]
    split
    · rename_i d a b h1 h2 h3
      obtain ⟨e1, e2⟩ := h n d a b h1 h2 h3
      rw [e1, e2]; rfl
    · rfl
theorem edge_tr {l : List Day} {W R : List Int} (hd : ∀ (i : Nat) d, l[i]? = some d → dayB d = true) (h : edgeB l W R) : trB l W R = true := by
  obtain ⟨h1, h2, h3⟩ := h
  simp only [trB, Bool.and_eq_true, decide_eq_true_eq]
  refine ⟨h1, h2, trTo_of (fun i d a b k1 k2 k3 => ?_) _⟩
  obtain ⟨a', r', e1, e2, e3, e4⟩ := h3 i d k1
  rw [k2] at e1
  rw [k3] at e2
  cases e1; cases e2
  have hb := hd i d k1
  simp only [dayB, Bool.and_eq_true] at hb
  have := span_le hb.2
  refine ⟨e3, ?_⟩
  rcases e4 with rfl | rfl <;> simp [inI] <;> omega
/-- for each day something: lists of it -/
theorem pick_rows {l : List Day} {P : Nat → Day → Int → Int → Prop} (h : ∀ (i : Nat) d, l[i]? = some d → ∃ a r, P i d a r) : ∃ W R : List Int, W.length = l.length ∧ R.length = l.length ∧ ∀ (i : Nat) d, l[i]? = some d → ∃ a r, W[i]? = some a ∧ R[i]? = some r ∧ P i d a r := by
  have : ∀ i : Nat, ∃ ar : Int × Int, ∀ d, l[i]? = some d → P i d ar.1 ar.2 := fun i => by
    cases hd : l[i]? with
    | none => exact ⟨(0, 0), fun d h => by cases h⟩
    | some d =>
      obtain ⟨a, r, hp⟩ := h i d hd
      exact ⟨(a, r), fun d' h => by cases h; exact hp⟩
  obtain ⟨f, hf⟩ := Classical.axiomOfChoice this
  refine ⟨(List.range l.length).map fun i => (f i).1, (List.range l.length).map fun i => (f i).2, by simp, by simp, fun i d hd => ?_⟩
  have hi : i < l.length := (List.getElem?_eq_some_iff.1 hd).1
  exact ⟨(f i).1, (f i).2, by simp [hi], by simp [hi], hf i d hd⟩
theorem morning_at {s : Sea} {l : List Day} {c : List Int} {rs : List Rac} (hE : seaE s l c = 0) (hR : racB rs = true) (bt : Bool) {D : Nat} (hD : D < l.length) :
    ∃ W R, edgeB l W R ∧ cnt (htL s (shL s c l.length) W R l.length) rs rs.length D = flG s l c rs bt D := by
  have h40 := (days_len (sea_zero hE).1).2
  obtain ⟨f1, f2⟩ := sea_facts hE
  obtain ⟨p, h1, h2⟩ := best_from (bt := bt) (ad := adI rs D) (HsF_bd hE) (d := D + 1) (by omega) (fun i hi => HsF_ne hE (by omega))
  obtain ⟨W, R, e1, e2, e3⟩ := pick_rows (l := l) (P := fun i d a r => inI d.wl a d.wh = true ∧ (r = d.rl ∨ r = d.rh) ∧ (i < D + 1 → heatI s a r (shD s c i) = (p i : Int))) (fun i d hd => by
    by_cases hi : i < D + 1
    · have := h1 i hi
      rw [HsF_eq hd (shL_at s c l.length i (by omega))] at this
      unfold heatsN at this
      obtain ⟨x, hx, hxp⟩ := List.mem_map.1 this
      have hx0 := (hs_bd (fun a k1 k2 => f1 i d _ a hd (shL_at s c l.length i (by omega)) k1 k2) x hx).1
      obtain ⟨a, r, q1, q2, q3⟩ := hs_from (f2 i d hd) hx
      refine ⟨a, r, q1, q2, fun _ => ?_⟩
      show heatI s a r (shB s c (i + 1)) = _
      rw [q3]; omega
    · have hb := f2 i d hd
      simp only [dayB, Bool.and_eq_true] at hb
      have := span_le hb.1
      exact ⟨d.wl, d.rl, by simp [inI]; omega, .inl rfl, fun h => absurd h hi⟩)
  have hed : edgeB l W R := ⟨e1, e2, fun i d hd => by
    obtain ⟨a, r, k1, k2, k3, k4, _⟩ := e3 i d hd
    exact ⟨a, r, k1, k2, k3, k4⟩⟩
  have hT := edge_tr f2 hed
  refine ⟨W, R, hed, ?_⟩
  obtain ⟨L, hL⟩ : ∃ L, L = htL s (shL s c l.length) W R l.length := ⟨_, rfl⟩
  have hsm : small L = true := by rw [hL]; exact ht_bd hE hT
  have hlen : L.length = l.length := by rw [hL, htL_length]
  have hn : ∀ z ∈ L, 0 ≤ z := fun z hz => by
    obtain ⟨i, hi, rfl⟩ := List.mem_iff_getElem.1 hz
    exact (small_at hsm (List.getElem?_eq_getElem hi)).1
  have e := way_cnt (rs := rs) (p := toP L) hn (fun i z h => by unfold toP; rw [h]; rfl) hR (D := D) (by omega)
  rw [← hL, ← e]
  unfold flG
  rw [← h2]
  refine (cntP_congr (D + 1) fun i hi => ?_).2
  obtain ⟨d, hd⟩ : ∃ d, l[i]? = some d := ⟨_, List.getElem?_eq_getElem (by omega)⟩
  obtain ⟨a, r, k1, k2, k3, k4, k5⟩ := e3 i d hd
  have hz := ht_at s (shL s c l.length) W R l.length i _ a r (by omega) (shL_at s c l.length i (by omega)) k1 k2
  rw [← hL] at hz
  unfold toP
  rw [hz]
  have := k5 hi
  show (heatI s a r (shB s c (i + 1))).toNat = p i
  have k5' : heatI s a r (shB s c (i + 1)) = (p i : Int) := this
  rw [k5']; rfl
theorem rows_eq {L M : List Int} {n : Nat} (h1 : L.length = n) (h2 : M.length = n) (h : ∀ i, i < n → L[i]? = M[i]?) : L = M := by
  apply List.ext_getElem?
  intro i
  by_cases hi : i < n
  · exact h i hi
  · rw [List.getElem?_eq_none (by omega), List.getElem?_eq_none (by omega)]
/-- the warmest truth gives the greatest heats, the coldest and wettest the least ones -/
theorem hot_eq {s : Sea} {l : List Day} {c : List Int} (hE : seaE s l c = 0) : edgeB l (l.map Day.wh) (l.map Day.rl) ∧ htL s (shL s c l.length) (l.map Day.wh) (l.map Day.rl) l.length = MS s l c := by
  obtain ⟨f1, f2⟩ := sea_facts hE
  refine ⟨⟨by simp, by simp, fun i d hd => ⟨d.wh, d.rl, by simp [hd], by simp [hd], ?_, .inl rfl⟩⟩, rows_eq (n := l.length) (htL_length _ _ _ _ _) (by simp [MS]) fun i hi => ?_⟩
  · have hb := f2 i d hd
    simp only [dayB, Bool.and_eq_true] at hb
    have := span_le hb.1
    simp [inI]; omega
  · obtain ⟨d, hd⟩ : ∃ d, l[i]? = some d := ⟨_, List.getElem?_eq_getElem hi⟩
    rw [ht_at s (shL s c l.length) _ _ l.length i _ d.wh d.rl hi (shL_at s c l.length i hi) (by simp [hd]) (by simp [hd])]
    unfold MS
    rw [List.getElem?_map, List.getElem?_range hi, Option.map_some, exD_eq hE hd]
    rfl
theorem cold_eq {s : Sea} {l : List Day} {c : List Int} (hE : seaE s l c = 0) : edgeB l (l.map Day.wl) (l.map Day.rh) ∧ htL s (shL s c l.length) (l.map Day.wl) (l.map Day.rh) l.length = LS s l c := by
  obtain ⟨f1, f2⟩ := sea_facts hE
  refine ⟨⟨by simp, by simp, fun i d hd => ⟨d.wl, d.rh, by simp [hd], by simp [hd], ?_, .inr rfl⟩⟩, rows_eq (n := l.length) (htL_length _ _ _ _ _) (by simp [LS]) fun i hi => ?_⟩
  · have hb := f2 i d hd
    simp only [dayB, Bool.and_eq_true] at hb
    have := span_le hb.1
    simp [inI]; omega
  · obtain ⟨d, hd⟩ : ∃ d, l[i]? = some d := ⟨_, List.getElem?_eq_getElem hi⟩
    rw [ht_at s (shL s c l.length) _ _ l.length i _ d.wl d.rh hi (shL_at s c l.length i hi) (by simp [hd]) (by simp [hd])]
    unfold LS
    rw [List.getElem?_map, List.getElem?_range hi, Option.map_some, exD_eq hE hd]
    have hb := f2 i d hd
    simp only [dayB, Bool.and_eq_true] at hb
    have h2 := span_le hb.2
    show some (heatI s d.wl d.rh (shD s c i)) = some (loD s d (shD s c i))
    unfold loD heatI
    by_cases hw : s.wet < d.rh
    · rw [if_pos hw, if_pos hw]
    · rw [if_neg hw, if_neg hw, if_neg (by omega)]
end Go.Proofs.YtbbbgaiaigdngaaGreatDoor.walk

namespace Go.Proofs.YtbbbgaiaigdngaaGreatDoor.walk
open Go Go.Sh
set_option maxRecDepth 100000
set_option linter.unusedSimpArgs false
set_option linter.unusedVariables false
/-! a truth that numbers choose -/
end Go.Proofs.YtbbbgaiaigdngaaGreatDoor.walk

namespace Go.Proofs.YtbbbgaiaigdngaaGreatDoor.walk
open Go Go.Sh
set_option maxRecDepth 100000
set_option linter.unusedSimpArgs false
set_option linter.unusedVariables false
structure In12 (w0 : AW) (s : Sea) (dv cv : Value) (W R : List Int) (v1 v2 : Value) (B1 B2 : Nat) (w : AW) : Prop where
  old : Old w0.next w0.heap w.heap
  sea : w.heap.get w0.next = some (.cells (seaC s dv cv) 29 false)
  res : w.heap.get (w0.next + 1) = some (.cells [.slice none 0 0, .slice none 0 0] 41 false)
  two : w.heap.get (w0.next + 2) = some (.cells [v1, v2] 41 false)
  a1 : AccI (w0.next + 2) w v1 W B1
  a2 : AccI (w0.next + 2) w v2 R B2
  ne : B1 = B2 → B1 = 0
  next : w0.next + 2 < w.next
  lim : w.lim = w0.lim
theorem AccI.slice {n1 : Nat} {w : AW} {v : Value} {acc : List Int} {B : Nat} (h : AccI n1 w v acc B) : ∃ a n c, v = .slice a n c := by
  rcases h with ⟨_, rfl, _⟩ | ⟨rfl, _⟩
  · exact ⟨_, _, _, rfl⟩
  · exact ⟨_, _, _, rfl⟩
theorem AccI.nb {n1 : Nat} {w : AW} {v : Value} {acc : List Int} {B : Nat} (h : AccI n1 w v acc B) (x : Nat) (hx : x ≤ n1) : x = B → B = 0 := by
  rcases h with ⟨_, _, h⟩ | ⟨_, _, h, _⟩
  · exact fun _ => h
  · intro e; omega
end Go.Proofs.YtbbbgaiaigdngaaGreatDoor.walk

namespace Go.Proofs.YtbbbgaiaigdngaaGreatDoor.walk
open Go Go.Sh
set_option maxRecDepth 100000
set_option linter.unusedSimpArgs false
set_option linter.unusedVariables false
end Go.Proofs.YtbbbgaiaigdngaaGreatDoor.walk
