/- Part of a proof by a machine of ones own: see the text with the theorem. -/
import Derived.Test.YtimnfedgbkgdeaaGreatDoorEWb
namespace Go.Proofs.YtimnfedgbkgdeaaGreatDoor.walk
open Go Go.Sh
set_option maxRecDepth 100000
set_option linter.unusedSimpArgs false
set_option linter.unusedVariables false
/-! whatever the weather is: numbers -/
theorem hsN_mem (s : Sea) (d : Day) (z : Int) : ∀ n k, k < n → heatI s (d.wl + (k : Nat)) d.rl z ∈ hsN s d z n
  | 0, k, h => by omega
  | n + 1, k, h => by
    unfold hsN
    rw [List.mem_append]
    by_cases e : k = n
    · subst e; exact .inr (List.mem_singleton.2 rfl)
    · exact .inl (hsN_mem s d z n k (by omega))
theorem hsN_of (s : Sea) (d : Day) (z : Int) : ∀ n x, x ∈ hsN s d z n → ∃ k : Nat, k < n ∧ x = heatI s (d.wl + (k : Nat)) d.rl z
  | 0, x, h => by simp [hsN] at h
  | n + 1, x, h => by
    unfold hsN at h
    rw [List.mem_append] at h
    rcases h with h | h
    · obtain ⟨k, h1, h2⟩ := hsN_of s d z n x h
      exact ⟨k, by omega, h2⟩
    · exact ⟨n, by omega, List.mem_singleton.1 h⟩
theorem hs_bd {s : Sea} {d : Day} {z : Int} (hok : ∀ a, d.wl ≤ a → a ≤ d.wh → heatB s a z = true) : ∀ x ∈ hsL s d z, 0 ≤ x ∧ x ≤ 50 := by
  intro x hx
  unfold hsL at hx
  rw [List.mem_append] at hx
  rcases hx with hx | hx
  · split at hx
    · simp at hx; omega
    · simp at hx
  · obtain ⟨k, h1, rfl⟩ := hsN_of _ _ _ _ _ hx
    exact heat_bd d.rl (hok _ (by omega) (by omega))
theorem heat_in {s : Sea} {d : Day} {z a r : Int} (h1 : inI d.wl a d.wh = true) (h2 : inI d.rl r d.rh = true) : heatI s a r z ∈ hsL s d z := by
  simp only [inI, Bool.and_eq_true, decide_eq_true_eq] at h1 h2
  unfold hsL
  rw [List.mem_append]
  by_cases hw : s.wet < r
  · left
    rw [if_pos (by omega)]
    unfold heatI
    rw [if_pos hw]
    exact List.mem_singleton.2 rfl
  · right
    have e : heatI s a r z = heatI s (d.wl + ((a - d.wl).toNat : Nat)) d.rl z := by
      unfold heatI
      rw [if_neg hw, if_neg (by omega), show d.wl + (((a - d.wl).toNat : Nat) : Int) = a by omega]
    rw [e]
    exact hsN_mem s d z _ _ (by omega)
theorem HsF_eq {s : Sea} {l : List Day} {S : List Int} {i : Nat} {d : Day} {z : Int} (h1 : l[i]? = some d) (h2 : S[i]? = some z) : HsF s l S i = heatsN s d z := by
  unfold HsF; rw [h1, h2]
theorem HsF_bd {s : Sea} {l : List Day} {c : List Int} (hE : seaE s l c = 0) : ∀ i h, h ∈ HsF s l (shL s c l.length) i → h ≤ 50 := by
  obtain ⟨f1, f2⟩ := sea_facts hE
  intro i h hh
  unfold HsF at hh
  split at hh
  · rename_i d z hd hz
    unfold heatsN at hh
    obtain ⟨x, hx, rfl⟩ := List.mem_map.1 hh
    have := hs_bd (fun a => f1 i d z a hd hz) x hx
    omega
  · simp at hh
theorem HsF_ne {s : Sea} {l : List Day} {c : List Int} (hE : seaE s l c = 0) {i : Nat} (hi : i < l.length) : HsF s l (shL s c l.length) i ≠ [] := by
  obtain ⟨f1, f2⟩ := sea_facts hE
  have hd : l[i]? = some l[i] := List.getElem?_eq_getElem hi
  have hz := shL_at s c l.length i hi
  rw [HsF_eq hd hz]
  have hb := f2 i _ hd
  simp only [dayB, spanB, Bool.and_eq_true, decide_eq_true_eq] at hb
  unfold heatsN
  intro h
  have h := List.map_eq_nil_iff.1 h
  have := hsN_mem s l[i] (shB s c (i + 1)) ((l[i].wh - l[i].wl + 1).toNat) 0 (by omega)
  unfold hsL at h
  rw [List.append_eq_nil_iff] at h
  rw [h.2] at this
  simp at this
theorem ht_at (s : Sea) (S W R : List Int) : ∀ n i (z a r : Int), i < n → S[i]? = some z → W[i]? = some a → R[i]? = some r → (htL s S W R n)[i]? = some (heatI s a r z)
  | 0, i, z, a, r, h, _, _, _ => by omega
  | n + 1, i, z, a, r, h, h1, h2, h3 => by
    unfold htL
    by_cases e : i < n
    · rw [List.getElem?_append_left (by rw [htL_length]; exact e)]
      exact ht_at s S W R n i z a r e h1 h2 h3
    · have e' : i = n := by omega
      subst e'
      rw [List.getElem?_append_right (by rw [htL_length]; omega), htL_length, Nat.sub_self, h1, h2, h3]
      rfl
/-- a day of a truth -/
theorem tr_day {s : Sea} {l : List Day} {c W R : List Int} (hE : seaE s l c = 0) (hT : trB l W R = true) {i : Nat} (hi : i < l.length) : ∃ d a r, l[i]? = some d ∧ inI d.wl a d.wh = true ∧ inI d.rl r d.rh = true ∧ (htL s (shL s c l.length) W R l.length)[i]? = some (heatI s a r (shD s c i)) := by
  obtain ⟨e1, e2, ht⟩ := tr_lens hT
  have hd : l[i]? = some l[i] := List.getElem?_eq_getElem hi
  have ha : W[i]? = some W[i] := List.getElem?_eq_getElem (by omega)
  have hr : R[i]? = some R[i] := List.getElem?_eq_getElem (by omega)
  obtain ⟨t1, t2⟩ := tr_of _ ht i _ _ _ hi hd ha hr
  exact ⟨_, _, _, hd, t1, t2, ht_at s _ W R _ i _ _ _ hi (shL_at s c l.length i hi) ha hr⟩
def toP (L : List Int) (i : Nat) : Nat := ((L[i]?).getD 0).toNat
theorem morning_in {s : Sea} {l : List Day} {c W R : List Int} {rs : List Rac} (hE : seaE s l c = 0) (hR : racB rs = true) (hT : trB l W R = true) {D : Nat} (hD : D < l.length) :
    flG s l c rs false D ≤ cnt (htL s (shL s c l.length) W R l.length) rs rs.length D ∧ cnt (htL s (shL s c l.length) W R l.length) rs rs.length D ≤ flG s l c rs true D := by
  have h40 := (days_len (sea_zero hE).1).2
  obtain ⟨L, hL⟩ : ∃ L, L = htL s (shL s c l.length) W R l.length := ⟨_, rfl⟩
  have hsm : small L = true := by rw [hL]; exact ht_bd hE hT
  have hlen : L.length = l.length := by rw [hL, htL_length]
  rw [← hL]
  have hp : ∀ (i : Nat) (z : Int), L[i]? = some z → toP L i = z.toNat := fun i z h => by unfold toP; rw [h]; rfl
  have hn : ∀ z ∈ L, 0 ≤ z := fun z hz => by
    obtain ⟨i, hi, rfl⟩ := List.mem_iff_getElem.1 hz
    exact (small_at hsm (List.getElem?_eq_getElem hi)).1
  have hpath : ∀ i, i < D + 1 → toP L i ∈ HsF s l (shL s c l.length) i := fun i hi => by
    obtain ⟨d, a, r, hd, t1, t2, hz⟩ := tr_day (s := s) (c := c) hE hT (i := i) (by omega)
    rw [← hL] at hz
    rw [hp i _ hz, HsF_eq hd (shL_at s c l.length i (by omega))]
    exact List.mem_map_of_mem (heat_in t1 t2)
  have e := way_cnt (rs := rs) (p := toP L) hn hp hR (D := D) (by omega)
  have b1 := best_at (bt := false) (ad := adI rs D) (HsF_bd hE) (d := D + 1) (by omega) hpath
  have b2 := best_at (bt := true) (ad := adI rs D) (HsF_bd hE) (d := D + 1) (by omega) hpath
  rw [e] at b1 b2
  simp only [btB, if_true, Bool.false_eq_true, if_false, decide_eq_false_iff_not] at b1 b2
  unfold flG
  constructor <;> omega
theorem flG_bd {s : Sea} {l : List Day} {c : List Int} {rs : List Rac} (hE : seaE s l c = 0) (hR : racB rs = true) (bt : Bool) {D : Nat} (hD : D < l.length) : 0 ≤ flG s l c rs bt D ∧ flG s l c rs bt D ≤ rs.length := by
  have h40 := (days_len (sea_zero hE).1).2
  obtain ⟨p, h1, h2⟩ := best_from (bt := bt) (ad := adI rs D) (HsF_bd hE) (d := D + 1) (by omega) (fun i hi => HsF_ne hE (by omega))
  have e := way_cnt (L := (List.range (D + 1)).map fun i => (p i : Int)) (rs := rs) (p := p) (fun z hz => by
    obtain ⟨i, _, rfl⟩ := List.mem_map.1 hz
    omega) (fun i z hz => by
    rw [List.getElem?_map] at hz
    by_cases hi : i < D + 1
    · rw [List.getElem?_range hi] at hz
      simp at hz; omega
    · rw [List.getElem?_eq_none (by simp; omega)] at hz
      cases hz) hR (D := D) (by simp)
  have := cnt_bd ((List.range (D + 1)).map fun i => (p i : Int)) rs D rs.length
  unfold flG
  rw [← h2, e]
  exact this
theorem map_self (L : List Int) : L = (List.range L.length).map fun k => (L[k]?).getD 0 := by
  apply List.ext_getElem?
  intro j
  rw [List.getElem?_map]
  by_cases h : j < L.length
  · rw [List.getElem?_range h, List.getElem?_eq_getElem h]; simp [h]
  · rw [List.getElem?_eq_none (by omega), List.getElem?_eq_none (by simp; omega)]; rfl
theorem opens_in {s : Sea} {l : List Day} {c W R : List Int} (hE : seaE s l c = 0) (hT : trB l W R = true) (need : Int) :
    opI (MS s l c) need ≤ opI (htL s (shL s c l.length) W R l.length) need ∧ opI (htL s (shL s c l.length) W R l.length) need ≤ opI (LS s l c) need := by
  obtain ⟨f1, f2⟩ := sea_facts hE
  have hlen : (htL s (shL s c l.length) W R l.length).length = l.length := htL_length _ _ _ _ _
  have key : ∀ k, k ∈ List.range l.length → (exD s l (shL s c l.length) k).1 ≤ ((htL s (shL s c l.length) W R l.length)[k]?).getD 0 ∧ ((htL s (shL s c l.length) W R l.length)[k]?).getD 0 ≤ (exD s l (shL s c l.length) k).2 := by
    intro k hk
    have hk := List.mem_range.1 hk
    obtain ⟨d, a, r, hd, t1, t2, hz⟩ := tr_day (s := s) (c := c) hE hT hk
    have hsh := shL_at s c l.length k hk
    have bd := ends_bd hE hd
    rw [exD_eq hE hd, hz]
    simp only [inI, Bool.and_eq_true, decide_eq_true_eq] at t1 t2
    have hb := f1 k d _ a hd hsh t1.1 t1.2
    have b0 := heat_bd r hb
    have hz100 : shD s c k ≤ 100 := by
      simp only [heatB, inI, Bool.and_eq_true, decide_eq_true_eq] at hb
      exact hb.2.2.2
    show loD s d (shD s c k) ≤ heatI s a r (shD s c k) ∧ heatI s a r (shD s c k) ≤ hiD s d (shD s c k)
    have b0' : 0 ≤ heatI s a r (shD s c k) := b0.1
    have e : ¬ s.wet < r → heatI s a r (shD s c k) = heatI s a d.rl (shD s c k) := fun h => by
      unfold heatI
      rw [if_neg h, if_neg (by omega)]
    constructor
    · unfold loD
      split
      · exact b0'
      · rw [e (by omega)]
        exact heat_mono rfl (Int.le_refl _) t1.1 (Int.le_refl _) hz100
    · by_cases hw : s.wet < r
      · have : heatI s a r (shD s c k) = 0 := by unfold heatI; rw [if_pos hw]
        rw [this]; exact bd.2.1
      · rw [e hw]
        exact heat_mono rfl (Int.le_refl _) t1.2 (Int.le_refl _) hz100
  have e := map_self (htL s (shL s c l.length) W R l.length)
  rw [hlen] at e
  unfold opI
  constructor
  · refine opF_mono _ _ _ _ _ _ _ ?_ (Int.le_refl _) (Int.le_refl _)
    rw [e]
    exact leL_map _ _ _ fun k hk => (key k hk).2
  · refine opF_mono _ _ _ _ _ _ _ ?_ (Int.le_refl _) (Int.le_refl _)
    rw [e]
    exact leL_map _ _ _ fun k hk => (key k hk).1
theorem both_one {s : Sea} {l : List Day} {c : List Int} {rs : List Rac} (hB : bothE s l c rs = 0) {i : Nat} {r : Rac} (hr : rs[i]? = some r) : bothE s l c [r] = 0 := by
  obtain ⟨hE, hR⟩ := both_zero hB
  simp only [racB, Bool.and_eq_true, decide_eq_true_eq] at hR
  have := rac_of _ hR.2 i r (List.getElem?_eq_some_iff.1 hr).1 hr
  unfold bothE
  rw [if_pos hE]
  have : racB [r] = true := by simp [racB, racTo, this]
  rw [if_pos this]
end Go.Proofs.YtimnfedgbkgdeaaGreatDoor.walk

namespace Go.Proofs.YtimnfedgbkgdeaaGreatDoor.walk
open Go Go.Sh
set_option maxRecDepth 100000
set_option linter.unusedSimpArgs false
set_option linter.unusedVariables false
/-! a truth that numbers choose -/
def nthI (L : List Int) (i : Int) : Int := match L[(wrapI i L.length).toNat]? with | some z => z | none => 0
noncomputable def F45 : PureF := fun args w => match args with | [v, .int .i64 i] => (rowsIn intC w v).bind fun L => bif decide (L.length ≤ 2 ^ 60) then some (.int .i64 (nthI L i)) else none | _ => none
theorem rule45 {ov : Ov} (k : HasP ov 45 F45) {v : Value} {L : List Int} (i : Int) {w : AW} (hv : RowsV intC w v L) (hs : L.length ≤ 2 ^ 60) (m : Nat) : (run Tryz.prog ov (m + 1)).call 45 [v, .int .i64 i] w .none = .ok (.ret (.int .i64 (nthI L i))) w .none := k.call (by
  unfold F45
  simp only [hv.rowsIn (m := 1) intC_length intC_inj, Option.bind_some, decide_eq_true hs]; rfl)
theorem run45 {ov : Ov} (ho : ∀ args w, ov 45 args w = none) (h10 : HasP ov 16 F16) (v : Value) (L : List Int) (i : Int) (w : AW) (hv : RowsV intC w v L) (hs : L.length ≤ 2 ^ 60) : ∃ x w', (run Tryz.prog ov 2).call 45 [v, .int .i64 i] w .none = .ok (.ret x) w' .none ∧ x = .int .i64 (nthI L i) := by
  refine call_wp text45 (by simp) (ho _ _) ?_
  have hl := len27V hv
  have r10 := fun w => rule16 h10 i (s := L.length) (by omega) 0 w
  simp only [Nat.zero_add] at r10
  by_cases h0 : L.length = 0
  · have : L = [] := List.eq_nil_of_length_eq_zero h0
    subst this
    simp [mc45, hl, tupV, nthI]
  · have hb := wrapI_bd (n := i) (s := L.length) (by omega)
    obtain ⟨k, hk⟩ : ∃ k : Nat, (k : Int) = wrapI i L.length := ⟨(wrapI i L.length).toNat, by omega⟩
    have hkl : k < L.length := by omega
    obtain ⟨z, hz⟩ : ∃ z, L[k]? = some z := ⟨_, List.getElem?_eq_getElem hkl⟩
    obtain ⟨b, off, sq, c, rfl, hr⟩ := hv.at_ k hkl
    have hld := hr.int hz
    have hia := fun w => ia27 w ⟨b, off, sq⟩ L.length c .i64 k hkl
    rw [← hk] at r10
    have hn : nthI L i = z := by
      unfold nthI
      rw [← hk, Int.toNat_natCast, hz]
    have h0' : ¬ (L.length : Int) = 0 := by omega
    simp [mc45, hl, h0, h0', r10, hia, hld, tupV, hn]
noncomputable def F44 : PureF := fun args _ => match args with | [.int .i64 a, .int .i64 b, .int .i64 n] => bif inI 0 a 1000 && inI a b 1000 then some (.int .i64 (a + wrapI n (b - a + 1))) else none | _ => none
theorem rule44 {ov : Ov} (k : HasP ov 44 F44) {a b : Int} (n : Int) (ha : 0 ≤ a) (hab : a ≤ b) (hb : b ≤ 1000) (m : Nat) (w : AW) : (run Tryz.prog ov (m + 1)).call 44 [.int .i64 a, .int .i64 b, .int .i64 n] w .none = .ok (.ret (.int .i64 (a + wrapI n (b - a + 1)))) w .none := k.call (by
  have h1 : (inI 0 a 1000 && inI a b 1000) = true := by simp [inI]; omega
  simp [F44, h1])
theorem run44 {ov : Ov} (ho : ∀ args w, ov 44 args w = none) (h16 : HasP ov 16 F16) (a b n : Int) (ha : 0 ≤ a) (hab : a ≤ b) (hb : b ≤ 1000) (w : AW) : ∃ x w', (run Tryz.prog ov 2).call 44 [.int .i64 a, .int .i64 b, .int .i64 n] w .none = .ok (.ret x) w' .none ∧ x = .int .i64 (a + wrapI n (b - a + 1)) := by
  refine call_wp text44 (by simp) (ho _ _) ?_
  have w1 : IntKind.wrap .i64 (b - a) = b - a := wrap64_in (by omega) (by omega)
  have w2 : IntKind.wrap .i64 (b - a + 1) = b - a + 1 := wrap64_in (by omega) (by omega)
  have bd := wrapI_bd (n := n) (s := b - a + 1) (by omega)
  have w3 : IntKind.wrap .i64 (a + wrapI n (b - a + 1)) = a + wrapI n (b - a + 1) := wrap64_in (by omega) (by omega)
  have r16 := fun w => rule16 h16 n (s := b - a + 1) (by omega) 0 w
  simp only [Nat.zero_add] at r16
  simp [mc44, w1, w2, w3, r16, tupV]
def wN (bits : List Int) (d : Day) (i : Nat) : Int := d.wl + wrapI (nthI bits (2 * (i : Int))) (d.wh - d.wl + 1)
def rN (bits : List Int) (d : Day) (i : Nat) : Int := d.rl + wrapI (nthI bits (2 * (i : Int) + 1)) (d.rh - d.rl + 1)
def truW (l : List Day) (bits : List Int) : Nat → List Int
  | 0 => []
  | i + 1 => truW l bits i ++ [match l[i]? with | some d => wN bits d i | none => 0]
def truR (l : List Day) (bits : List Int) : Nat → List Int
  | 0 => []
  | i + 1 => truR l bits i ++ [match l[i]? with | some d => rN bits d i | none => 0]
theorem truW_length (l : List Day) (bits : List Int) : ∀ n, (truW l bits n).length = n
  | 0 => rfl
  | n + 1 => by simp [truW, truW_length l bits n]
theorem truR_length (l : List Day) (bits : List Int) : ∀ n, (truR l bits n).length = n
  | 0 => rfl
  | n + 1 => by simp [truR, truR_length l bits n]
theorem truW_at {l : List Day} {bits : List Int} : ∀ n i d, i < n → l[i]? = some d → (truW l bits n)[i]? = some (wN bits d i)
  | 0, i, d, h, _ => by omega
  | n + 1, i, d, h, hd => by
    unfold truW
    by_cases e : i < n
    · rw [List.getElem?_append_left (by rw [truW_length]; exact e)]; exact truW_at n i d e hd
    · have e' : i = n := by omega
      subst e'
      rw [List.getElem?_append_right (by rw [truW_length]; omega), truW_length, Nat.sub_self, hd]; rfl
theorem truR_at {l : List Day} {bits : List Int} : ∀ n i d, i < n → l[i]? = some d → (truR l bits n)[i]? = some (rN bits d i)
  | 0, i, d, h, _ => by omega
  | n + 1, i, d, h, hd => by
    unfold truR
    by_cases e : i < n
    · rw [List.getElem?_append_left (by rw [truR_length]; exact e)]; exact truR_at n i d e hd
    · have e' : i = n := by omega
      subst e'
      rw [List.getElem?_append_right (by rw [truR_length]; omega), truR_length, Nat.sub_self, hd]; rfl
theorem tru_to {l : List Day} (hday : ∀ (i : Nat) d, l[i]? = some d → dayB d = true) (bits : List Int) : ∀ n, n ≤ l.length → trTo l (truW l bits l.length) (truR l bits l.length) n = true
  | 0, _ => rfl
  | n + 1, h => by
    have hd : l[n]? = some l[n] := List.getElem?_eq_getElem (by omega)
    have hb := hday n _ hd
    simp only [dayB, spanB, Bool.and_eq_true, decide_eq_true_eq] at hb
    rw [tr_snoc hd (truW_at l.length n _ (by omega) hd) (truR_at l.length n _ (by omega) hd), tru_to hday bits n (by omega)]
    have b1 := wrapI_bd (n := nthI bits (2 * (n : Int))) (s := l[n].wh - l[n].wl + 1) (by omega)
    have b2 := wrapI_bd (n := nthI bits (2 * (n : Int) + 1)) (s := l[n].rh - l[n].rl + 1) (by omega)
    simp only [inI, wN, rN, Bool.true_and, Bool.and_eq_true, decide_eq_true_eq]
    exact ⟨⟨decide_eq_true (by omega), decide_eq_true (by omega)⟩, decide_eq_true (by omega), decide_eq_true (by omega)⟩
theorem tru_ok {l : List Day} (hday : ∀ (i : Nat) d, l[i]? = some d → dayB d = true) (bits : List Int) : trB l (truW l bits l.length) (truR l bits l.length) = true := by
  simp only [trB, truW_length, truR_length, decide_true, Bool.true_and]
  exact tru_to hday bits _ (Nat.le_refl _)
end Go.Proofs.YtimnfedgbkgdeaaGreatDoor.walk

namespace Go.Proofs.YtimnfedgbkgdeaaGreatDoor.walk
open Go Go.Sh
set_option maxRecDepth 100000
set_option linter.unusedSimpArgs false
set_option linter.unusedVariables false
structure In12 (w0 : AW) (s : Sea) (dv cv : Value) (W R : List Int) (v1 v2 : Value) (B1 B2 : Nat) (w : AW) : Prop where
  old : Old w0.next w0.heap w.heap
  sea : w.heap.get w0.next = some (.cells (seaC s dv cv) 29 false)
  res : w.heap.get (w0.next + 1) = some (.cells [.slice none 0 0, .slice none 0 0] 41 false)
  two : w.heap.get (w0.next + 2) = some (.cells [v1, v2] 41 false)
  a1 : AccI (w0.next + 2) w v1 W B1
  a2 : AccI (w0.next + 2) w v2 R B2
  ne : B1 = B2 → B1 = 0
  next : w0.next + 2 < w.next
  lim : w.lim = w0.lim
theorem AccI.slice {n1 : Nat} {w : AW} {v : Value} {acc : List Int} {B : Nat} (h : AccI n1 w v acc B) : ∃ a n c, v = .slice a n c := by
  rcases h with ⟨_, rfl, _⟩ | ⟨rfl, _⟩
  · exact ⟨_, _, _, rfl⟩
  · exact ⟨_, _, _, rfl⟩
theorem AccI.nb {n1 : Nat} {w : AW} {v : Value} {acc : List Int} {B : Nat} (h : AccI n1 w v acc B) (x : Nat) (hx : x ≤ n1) : x = B → B = 0 := by
  rcases h with ⟨_, _, h⟩ | ⟨_, _, h, _⟩
  · exact fun _ => h
  · intro e; omega
set_option maxHeartbeats 4000000 in
theorem loop12 {ov : Ov} (m : Nat) (h44 : HasP ov 44 F44) (h45 : HasP ov 45 F45) (s : Sea) (l : List Day) (h40 : l.length ≤ 40) (hday : ∀ (i : Nat) d, l[i]? = some d → dayB d = true) (bits : List Int) (hb : bits.length ≤ 2 ^ 60) (dv cv bv : Value) (w0 : AW) (hl0 : w0.lim ≤ w0.next) (hv : RowsV dayC w0 dv l) (hbv : RowsV intC w0 bv bits)
    (Q : Ex → Tm → AW → Prop) (t : Tm) (w : AW) (hI : ∃ v1 v2 B1 B2, In12 w0 s dv cv [] [] v1 v2 B1 B2 w) (t1 : tget t 1 = bv) (t2 : tget t 2 = .pointer (some ⟨w0.next, 0, none⟩)) (t4 : tget t 4 = .pointer (some ⟨w0.next + 1, 0, none⟩)) (t5 : tget t 5 = .pointer (some ⟨w0.next + 2, 0, none⟩)) (t6 : tget t 6 = .int .i64 0)
    (hQ : ∀ t w v1 v2 B1 B2, In12 w0 s dv cv (truW l bits l.length) (truR l bits l.length) v1 v2 B1 B2 w → tget t 4 = .pointer (some ⟨w0.next + 1, 0, none⟩) → tget t 5 = .pointer (some ⟨w0.next + 2, 0, none⟩) → Q (.exit 0) t w) : wp (exM Tryz.prog (run Tryz.prog ov (m + 1)) (.loop mc12_l0) t w) Q := by
  refine wp_rounds (fun i t w => (∃ v1 v2 B1 B2, In12 w0 s dv cv (truW l bits i) (truR l bits i) v1 v2 B1 B2 w) ∧ tget t 1 = bv ∧ tget t 2 = .pointer (some ⟨w0.next, 0, none⟩) ∧ tget t 4 = .pointer (some ⟨w0.next + 1, 0, none⟩) ∧ tget t 5 = .pointer (some ⟨w0.next + 2, 0, none⟩) ∧ tget t 6 = .int .i64 (i : Nat) ∧ i ≤ l.length) 200 (by decide) ⟨hI, t1, t2, t4, t5, by simpa using t6, Nat.zero_le _⟩ ?_
  clear t1 t2 t4 t5 t6 hI
  rintro i t w ⟨⟨v1, v2, B1, B2, hI⟩, t1, t2, t4, t5, t6, hi⟩
  have hsea := hI.sea
  have hln := fun w => len22V hv w
  by_cases hlt : i < l.length
  · obtain ⟨d, hd⟩ : ∃ d, l[i]? = some d := ⟨_, List.getElem?_eq_getElem hlt⟩
    have hdb := hday i d hd
    simp only [dayB, spanB, Bool.and_eq_true, decide_eq_true_eq] at hdb
    obtain ⟨b, off, sq, c, rfl, hr⟩ := hv.at_ i hlt
    have hbl := hr.2
    have hld := hr.rd (m := 4) dayC_length hd
    rw [← hI.old b hbl] at hld
    have hn := hI.next
    have hlm := hI.lim
    have hia := fun w => ia22 w ⟨b, off, sq⟩ l.length c .i64 i hlt
    have lw : w.lim ≤ w.next := by omega
    have m0 : ¬ b = w.next := by omega
    have m1 : ¬ w0.next = w.next := by omega
    have m2 : ¬ w0.next + 2 = w.next := by omega
    obtain ⟨wd, ewd⟩ : ∃ wd : AW, wd = ⟨(w.heap.put w.next (some (.cells [.int .i64 0, .int .i64 0, .int .i64 0, .int .i64 0] 49 false))).put w.next (some (.cells (dayC d) 49 false)), w.next + 1, w.lim⟩ := ⟨_, rfl⟩
    have kd : ∀ x, x < w.next → wd.heap.get x = w.heap.get x := fun x hx => by rw [ewd]; simp [show ¬ x = w.next by omega]
    have nd : wd.next = w.next + 1 := by rw [ewd]
    have ld : wd.lim = w.lim := by rw [ewd]
    have gd : wd.heap.get w.next = some (.cells (dayC d) 49 false) := by rw [ewd]; simp
    have hbd : RowsV intC wd bv bits := hbv.old (fun x hx => by rw [kd x (by omega), hI.old x hx]) (by omega)
    have r45 := rule45 h45 (2 * (i : Int)) hbd hb m
    have r44 := fun w => rule44 h44 (nthI bits (2 * (i : Int))) (a := d.wl) (b := d.wh) (by omega) (by omega) (by omega) m w
    have q1 : AccI (w0.next + 2) wd v1 (truW l bits i) B1 := hI.a1.keep (B0 := 0) (fun x hx _ _ => kd x hx) (by omega) (fun h => h)
    have q2 : AccI (w0.next + 2) wd v2 (truR l bits i) B2 := hI.a2.keep (B0 := 0) (fun x hx _ _ => kd x hx) (by omega) (fun h => h)
    have two := hI.two
    have res := hI.res
    have p1 := hI.a1.lt (by omega)
    have p2 := hI.a2.lt (by omega)
    obtain ⟨u1, w2, C1, ha1, ac1, kk1, nb1, nx1, lm1⟩ := int_push q1 (by omega) (by omega) (by rw [truW_length]; omega) (wN bits d i)
    have pc1 := ac1.lt (by omega)
    have two2 : w2.heap.get (w0.next + 2) = some (.cells [v1, v2] 41 false) := by rw [kk1 _ (by omega) (q1.nb _ (Nat.le_refl _)), kd _ (by omega)]; exact two
    obtain ⟨w3, ew3⟩ : ∃ w3 : AW, w3 = ⟨w2.heap.put (w0.next + 2) (some (.cells [u1, v2] 41 false)), w2.next, w2.lim⟩ := ⟨_, rfl⟩
    have n3 : w3.next = w2.next := by rw [ew3]
    have l3 : w3.lim = w2.lim := by rw [ew3]
    have k3 : ∀ x, x ≠ w0.next + 2 → w3.heap.get x = w2.heap.get x := fun x hx => by rw [ew3]; simp [hx]
    have g3 : ∀ x, x < w.next → x ≠ w0.next + 2 → (x = B1 → B1 = 0) → w3.heap.get x = w.heap.get x := fun x h1 h2 h3 => by rw [k3 x h2, kk1 x (by omega) h3, kd x h1]
    have o3 : ∀ x, x < w0.next → w3.heap.get x = w0.heap.get x := fun x hx => by rw [g3 x (by omega) (by omega) (q1.nb _ (by omega)), hI.old x hx]
    have gd3 : w3.heap.get w.next = some (.cells (dayC d) 49 false) := by rw [k3 _ (by omega), kk1 _ (by omega) (fun h => by omega)]; exact gd
    have sea3 : w3.heap.get w0.next = some (.cells (seaC s (.slice (some ⟨b, off, sq⟩) l.length c) cv) 29 false) := by rw [g3 _ (by omega) (by omega) (q1.nb _ (by omega))]; exact hsea
    have hbd3 : RowsV intC w3 bv bits := hbv.old o3 (by omega)
    have r45' := rule45 h45 (2 * (i : Int) + 1) hbd3 hb m
    have r44' := fun w => rule44 h44 (nthI bits (2 * (i : Int) + 1)) (a := d.rl) (b := d.rh) (by omega) (by omega) (by omega) m w
    have q2' : AccI (w0.next + 2) w3 v2 (truR l bits i) B2 := q2.keep (B0 := B1) (fun x h1 h2 h3 => by rw [k3 x (by omega), kk1 x h1 h2]) (by omega) (fun h => by have := hI.ne h.symm; omega)
    have q1' : AccI (w0.next + 2) w3 u1 (truW l bits i ++ [wN bits d i]) C1 := ac1.keep (B0 := 0) (fun x h1 h2 h3 => k3 x (by omega)) (by omega) (fun h => h)
    obtain ⟨u2, w4, C2, ha2, ac2, kk2, nb2, nx2, lm2⟩ := int_push q2' (by omega) (by omega) (by rw [truR_length]; omega) (rN bits d i)
    have two4 : w4.heap.get (w0.next + 2) = some (.cells [u1, v2] 41 false) := by rw [kk2 _ (by omega) (q2'.nb _ (Nat.le_refl _)), ew3]; simp
    obtain ⟨w5, ew5⟩ : ∃ w5 : AW, w5 = ⟨w4.heap.put (w0.next + 2) (some (.cells [u1, u2] 41 false)), w4.next, w4.lim⟩ := ⟨_, rfl⟩
    have n5 : w5.next = w4.next := by rw [ew5]
    have l5 : w5.lim = w4.lim := by rw [ew5]
    have k5 : ∀ x, x ≠ w0.next + 2 → w5.heap.get x = w4.heap.get x := fun x hx => by rw [ew5]; simp [hx]
    have g5 : ∀ x, x < w.next → x ≠ w0.next + 2 → (x = B1 → B1 = 0) → (x = B2 → B2 = 0) → w5.heap.get x = w.heap.get x := fun x h1 h2 h3 h4 => by rw [k5 x h2, kk2 x (by omega) h4, g3 x h1 h2 h3]
    have eW : truW l bits (i + 1) = truW l bits i ++ [wN bits d i] := by rw [truW, hd]
    have eR : truR l bits (i + 1) = truR l bits i ++ [rN bits d i] := by rw [truR, hd]
    have fin : In12 w0 s (.slice (some ⟨b, off, sq⟩) l.length c) cv (truW l bits (i + 1)) (truR l bits (i + 1)) u1 u2 C1 C2 w5 := by
      rw [eW, eR]
      refine ⟨fun x hx => ?_, ?_, ?_, ?_, ?_, ?_, fun h => by omega, by omega, by omega⟩
      · rw [g5 x (by omega) (by omega) (q1.nb _ (by omega)) (q2.nb _ (by omega))]; exact hI.old x hx
      · rw [g5 _ (by omega) (by omega) (q1.nb _ (by omega)) (q2.nb _ (by omega))]; exact hsea
      · rw [g5 _ (by omega) (by omega) (q1.nb _ (by omega)) (q2.nb _ (by omega))]; exact res
      · rw [ew5]; simp
      · exact q1'.keep (B0 := B2) (fun x h1 h2 h3 => by rw [k5 x (by omega), kk2 x h1 h2]) (by omega) (fun h => by omega)
      · exact ac2.keep (B0 := 0) (fun x h1 h2 h3 => k5 x (by omega)) (by omega) (fun h => h)
    have s1 := q1.same
    have s2 := q2.same
    obtain ⟨a1, b1, c1, rfl⟩ := q1'.slice
    obtain ⟨a2, b2, c2, rfl⟩ := ac2.slice
    obtain ⟨a3, b3, c3, rfl⟩ := q1.slice
    obtain ⟨a4, b4, c4, rfl⟩ := q2.slice
    have sv1 := fun (k : IntKind) (a : Int) => sameN_int 4 k a
    have lw2 : w2.lim ≤ w0.next + 2 := by omega
    have lw4 : w4.lim ≤ w0.next + 2 := by omega
    have e2 : ¬ w0.next + 2 = w.next + 1 := by omega
    have e3 : ¬ w0.next = w.next + 1 := by omega
    have e4 : ¬ w.next = w0.next + 2 := by omega
    have e5 : ¬ w0.next + 2 = w2.next := by omega
    have e6 : ¬ w.next = w2.next := by omega
    have ww1 : IntKind.wrap .i64 (2 * (i : Int)) = 2 * (i : Int) := wrap64_in (by omega) (by omega)
    have ww2 : IntKind.wrap .i64 (2 * (i : Int) + 1) = 2 * (i : Int) + 1 := wrap64_in (by omega) (by omega)
    have ww3 : IntKind.wrap .i64 ((i : Int) + 1) = (i : Int) + 1 := wrap64_in (by omega) (by omega)
    unfold wN at ha1
    unfold rN at ha2
    simp only [ewd, dayC] at r45 ha1
    simp only [ew3] at r45' ha2 sea3 gd3
    simp only [ew5] at fin
    simp only [seaC] at hsea sea3
    simp only [dayC] at gd3 hld
    simp [mc12_l0, t1, t2, t4, t5, t6, hsea, seaC, hln, hlt, hia, hld, lw, m0, m1, m2, cellsOf_agg, two, r45, r44, ww1, ww2, ww3, ha1, two2, lw2, gd3, sea3, r45', r44', ha2, two4, lw4, e2, e3, e4, e5, e6, s1, s2, sv1]
    exact ⟨by omega, ⟨_, _, _, _, fin⟩, by omega⟩
  · have hi' : i = l.length := by omega
    subst hi'
    simp [mc12_l0, t2, t6, hsea, seaC, hln]
    exact hQ _ _ _ _ _ _ hI (by simp [t4]) (by simp [t5])
end Go.Proofs.YtimnfedgbkgdeaaGreatDoor.walk

namespace Go.Proofs.YtimnfedgbkgdeaaGreatDoor.walk
open Go Go.Sh
set_option maxRecDepth 100000
set_option linter.unusedSimpArgs false
set_option linter.unusedVariables false
set_option maxHeartbeats 1000000 in
theorem call12 {ov : Ov} (m : Nat) (ho : ∀ args w, ov 12 args w = none) (h44 : HasP ov 44 F44) (h45 : HasP ov 45 F45) (s : Sea) (l : List Day) (h40 : l.length ≤ 40) (hday : ∀ (i : Nat) d, l[i]? = some d → dayB d = true) (bits : List Int) (hb : bits.length ≤ 2 ^ 60) (dv cv bv : Value) (w : AW) (hl : w.lim ≤ w.next) (hv : RowsV dayC w dv l) (hbv : RowsV intC w bv bits) :
    ∃ x w', (run Tryz.prog ov (m + 2)).call 12 [.agg ⟨seaC s dv cv⟩, bv] w .none = .ok (.ret x) w' .none ∧ ∃ v1 v2, x = .agg ⟨[v1, v2]⟩ ∧ RowsV intC w' v1 (truW l bits l.length) ∧ RowsV intC w' v2 (truR l bits l.length) ∧ Old w.next w.heap w'.heap ∧ w.next ≤ w'.next ∧ w'.lim = w.lim := by
  refine call_wp text12 (by simp) (ho _ _) ?_
  obtain ⟨w1, ew1⟩ : ∃ w1 : AW, w1 = ⟨((w.heap.put w.next (some (.cells (seaC s dv cv) 29 false))).put (w.next + 1) (some (.cells [.slice none 0 0, .slice none 0 0] 41 false))).put (w.next + 1 + 1) (some (.cells [.slice none 0 0, .slice none 0 0] 41 false)), w.next + 1 + 1 + 1, w.lim⟩ := ⟨_, rfl⟩
  have I1 : In12 w s dv cv [] [] (.slice none 0 0) (.slice none 0 0) 0 0 w1 := by
    refine ⟨fun x hx => ?_, ?_, ?_, ?_, .inl ⟨rfl, rfl, rfl⟩, .inl ⟨rfl, rfl, rfl⟩, fun _ => rfl, ?_, ?_⟩ <;> rw [ew1]
    · simp [show ¬ x = w.next by omega, show ¬ x = w.next + 1 by omega, show ¬ x = w.next + 1 + 1 by omega, show ¬ x = w.next + 2 by omega]
    · simp
    · simp
    · simp
    · show w.next + 2 < w.next + 1 + 1 + 1; omega
  have key := fun Q t => loop12 (ov := ov) m h44 h45 s l h40 hday bits hb dv cv bv w hl hv hbv Q t w1 ⟨_, _, _, _, I1⟩
  simp only [ew1, seaC] at key
  simp [mc12, seaC, cellsOf_agg]
  refine wp_seqX (wp_blockX (key _ _ ?_ ?_ ?_ ?_ ?_ ?_))
  case _ => simp
  case _ => simp
  case _ => simp
  case _ => simp
  case _ => simp
  case _ =>
    intro t w2 v1 v2 B1 B2 hI t4 t5
    have two := hI.two
    have res := hI.res
    have hn := hI.next
    have hlm := hI.lim
    have r1 := acc_rows hI.a1
    have r2 := acc_rows hI.a2
    have hne := hI.a1.nb (w.next + 1) (by omega)
    have hne2 := hI.a2.nb (w.next + 1) (by omega)
    have lw : w2.lim ≤ w.next + 1 := by omega
    obtain ⟨w3, ew3⟩ : ∃ w3 : AW, w3 = ⟨w2.heap.put (w.next + 1) (some (.cells [v1, v2] 41 false)), w2.next, w2.lim⟩ := ⟨_, rfl⟩
    have f1 := acc_rows (hI.a1.keep (w' := w3) (B0 := 0) (fun x h1 h2 h3 => by rw [ew3]; simp [show ¬ x = w.next + 1 by omega]) (by rw [ew3]; exact Nat.le_refl _) (fun h => h))
    have f2 := acc_rows (hI.a2.keep (w' := w3) (B0 := 0) (fun x h1 h2 h3 => by rw [ew3]; simp [show ¬ x = w.next + 1 by omega]) (by rw [ew3]; exact Nat.le_refl _) (fun h => h))
    have fo : Old w.next w.heap w3.heap := fun x hx => by rw [ew3]; simp [show ¬ x = w.next + 1 by omega]; exact hI.old x hx
    obtain ⟨a1, b1, c1, rfl⟩ := hI.a1.slice
    obtain ⟨a2, b2, c2, rfl⟩ := hI.a2.slice
    rw [ew3] at f1 f2 fo
    simp [t4, t5, two, res, lw, tupV]
    exact ⟨_, _, ⟨rfl, rfl⟩, f1, f2, fo, by omega, hlm⟩
end Go.Proofs.YtimnfedgbkgdeaaGreatDoor.walk
