/- Part of a proof by a machine of ones own: see the text with the theorem. -/
import Derived.Test.YtbmhpgoceobbdaaDoorQWb
namespace Go.Proofs.YtbmhpgoceobbdaaDoor.walk
open Go Go.Sh
open known (partsC laidL noOv)
set_option maxRecDepth 100000
/-! the specification's own checks -/
theorem run53 {ov : Ov} (ho : ∀ args w, ov 53 args w = none) (h33 : HasP ov 33 F33) (l : List Pod) (pl : List Int) (v u : Value) (w : AW) (hv : PodsV w v l) (hu : RowsV intC w u pl) (hlen : l.length ≤ 100) :
    ∃ x w', (run Tryd.prog ov 2).call 53 [v, u] w .none = .ok (.ret x) w' .none ∧ x = .bool (planB l pl) := by
  refine call_wp text53 (by simp) (ho _ _) ?_
  have hl1 := len22V hv
  have hl2 := len33V hu
  have r33 := rule33 h33
  simp [mc53, hl1, hl2]
  refine wp_seqX (wp_blockX (wp_rounds (fun i t w' => w' = w ∧ tget t 0 = v ∧ tget t 1 = u ∧ tget t 6 = .int .i64 (i : Nat) ∧ ∃ ok, tget t 5 = .bool ok ∧ (ok = true → pl.length = l.length ∧ planTo l pl i = true ∧ i ≤ l.length) ∧ (ok = false → planB l pl = false)) 200 (by decide) ?_ ?_))
  · refine ⟨rfl, by simp, by simp, by simp, decide (pl.length = l.length), ?_, ?_, ?_⟩
    · simp
      by_cases h : pl.length = l.length
      · simp [h]
      · have h' : ¬ (pl.length : Int) = l.length := by omega
        simp [h, h']
    · intro h
      simp only [decide_eq_true_eq] at h
      exact ⟨h, rfl, Nat.zero_le _⟩
    · intro h
      simp only [decide_eq_false_iff_not] at h
      simp [planB, h]
  · rintro i t w' ⟨rfl, t0, t1, t6, ok, t5, hy, hn⟩
    cases ok with
    | false =>
      have := hn rfl
      simp [mc53_l0, t5, this, tupV]
    | true =>
      obtain ⟨he, hok, hi⟩ := hy rfl
      by_cases hlt : i < l.length
      · obtain ⟨p, hp⟩ : ∃ p, l[i]? = some p := ⟨_, List.getElem?_eq_getElem hlt⟩
        obtain ⟨d, hd⟩ : ∃ d, pl[i]? = some d := ⟨_, List.getElem?_eq_getElem (he ▸ hlt)⟩
        obtain ⟨b, sq, c, rfl, hpa⟩ := hv.at_ i hlt
        obtain ⟨b', off', sq', c', rfl, hra⟩ := hu.at_ i (he ▸ hlt)
        have hbn := load_pf hpa hp (j := 1) (x := .int .i64 p.born) rfl
        have hdn := hra.int hd
        have hia := fun w => ia22 w ⟨b, 0, sq⟩ l.length c .i64 i hlt
        have hib := fun w => ia33 w ⟨b', off', sq'⟩ pl.length c' .i64 i (he ▸ hlt)
        have hw1 : IntKind.wrap .i64 ((i : Int) + 1) = (i : Int) + 1 := wrap64_in (by omega) (by omega)
        have hs := plan_snoc hp hd
        rw [hok, Bool.true_and] at hs
        have hbad : planOk p d = false → planB l pl = false := fun h => by
          simp only [planB, plan_false (i := i + 1) (by rw [hs, h]) l.length hlt, Bool.and_false]
        by_cases h1 : d = -1
        · subst h1
          have hg : planOk p (-1) = true := rfl
          simp [mc53_l0, t0, t1, t5, t6, hlt, hl1, hia, hib, hdn, hw1]
          exact ⟨by omega, he, by rw [hs, hg], hlt⟩
        · have hg : planOk p d = inI p.born d 2000 := by simp [planOk, h1, inI]
          cases h2 : inI p.born d 2000 with
          | false =>
            have hb := hbad (by rw [hg, h2])
            simp [mc53_l0, t0, t1, t5, t6, hlt, hl1, hia, hib, hdn, hbn, h1, r33, h2, hw1]
            exact ⟨by omega, hb⟩
          | true =>
            simp [mc53_l0, t0, t1, t5, t6, hlt, hl1, hia, hib, hdn, hbn, h1, r33, h2, hw1]
            exact ⟨by omega, he, by rw [hs, hg, h2], hlt⟩
      · have hi' : i = l.length := by omega
        subst hi'
        have hP : planB l pl = true := by simp [planB, he, hok]
        simp [mc53_l0, t0, t5, t6, hl1, hP, tupV]
theorem rule53 {ov : Ov} (k : HasP ov 53 F71) {v u : Value} {l : List Pod} {pl : List Int} {w : AW} (hv : podsIn w v = some l) (hu : RowsV intC w u pl) (hlen : l.length ≤ 100) (m : Nat) : (run Tryd.prog ov (m + 1)).call 53 [v, u] w .none = .ok (.ret (.bool (planB l pl))) w .none := k.call (by
  simp [F71, hv, hu.rowsIn (m := 1) intC_length intC_inj, hlen])
theorem run54 {ov : Ov} (ho : ∀ args w, ov 54 args w = none) (h33 : HasP ov 33 F33) (l : List Pod) (R H G : List Int) (v vr vh vg : Value) (w : AW) (hl : w.lim = w.next) (hv : PodsV w v l) (hr : RowsV intC w vr R) (hh : RowsV intC w vh H) (hg : RowsV intC w vg G) (hlen : l.length ≤ 100) :
    ∃ x w', (run Tryd.prog ov 2).call 54 [v, .agg ⟨[vr, vh, vg]⟩] w .none = .ok (.ret x) w' .none ∧ x = .bool (truthB l R H G) := by
  refine call_wp text54 (by simp) (ho _ _) ?_
  have hl0 := len22V hv
  have hl1 := len33V hr
  have hl2 := len33V hh
  have hl3 := len33V hg
  have r33 := rule33 h33
  obtain ⟨ok0, hok0, hy0, hn0⟩ : ∃ ok0 : Bool, ok0 = (decide (R.length = l.length) && (decide (H.length = l.length) && decide (G.length = l.length))) ∧ (ok0 = true → R.length = l.length ∧ H.length = l.length ∧ G.length = l.length) ∧ (ok0 = false → truthB l R H G = false) := by
    refine ⟨_, rfl, fun h => by simpa [Bool.and_eq_true] using h, fun h => ?_⟩
    simp only [truthB]
    revert h
    cases decide (R.length = l.length) <;> cases decide (H.length = l.length) <;> cases decide (G.length = l.length) <;> simp
  have hdo : ∀ Q : Ex → Tm → AW → Prop, (∀ t w', tget t 0 = v → tget t 3 = .pointer (some ⟨w.next, 0, none⟩) → tget t 5 = .bool ok0 → tget t 6 = .int .i64 0 → Base w.heap w.next [vr, vh, vg] 35 w' → wp (exM Tryd.prog (run Tryd.prog ov 1) (.seq (.block 0 (.loop mc54_l0)) (.seq (.ops [⟨false, none, some 83, 4, .move (.tmp 5)⟩, ⟨false, none, some 4, 4, .assign (.tmp 83)⟩]) .ret)) t w') Q) → wp (exM Tryd.prog (run Tryd.prog ov 1) mc54 (enterT 0 [v, .agg ⟨[vr, vh, vg]⟩] .nil) w) Q := by
    intro Q hQ
    have hb : Base w.heap w.next [vr, vh, vg] 35 ⟨w.heap.put w.next (some (.cells [vr, vh, vg] 35 false)), w.next + 1, w.lim⟩ := ⟨(Old.refl _ _).put (Nat.le_refl _), by simp, by simp, by simp [hl]⟩
    by_cases f1 : R.length = l.length
    case' neg =>
      have f1' : ¬ (R.length : Int) = l.length := by omega
      have e : ok0 = false := by simp [hok0, f1]
      simp [mc54, hl0, hl1, f1']
      refine hQ _ _ ?_ ?_ ?_ ?_ hb <;> simp [e]
    by_cases f2 : H.length = l.length
    case' neg =>
      have f2' : ¬ (H.length : Int) = l.length := by omega
      have e : ok0 = false := by simp [hok0, f2]
      simp [mc54, hl0, hl1, hl2, f1, f2']
      refine hQ _ _ ?_ ?_ ?_ ?_ hb <;> simp [e]
    by_cases f3 : G.length = l.length
    case' neg =>
      have f3' : ¬ (G.length : Int) = l.length := by omega
      have e : ok0 = false := by simp [hok0, f3]
      simp [mc54, hl0, hl1, hl2, hl3, f1, f2, f3']
      refine hQ _ _ ?_ ?_ ?_ ?_ hb <;> simp [e]
    have e : ok0 = true := by simp [hok0, f1, f2, f3]
    simp [mc54, hl0, hl1, hl2, hl3, f1, f2, f3]
    refine hQ _ _ ?_ ?_ ?_ ?_ hb <;> simp [e]
  refine hdo _ fun t w1 t0 t3 t5 t6 hw => ?_
  simp only [exM_seq, exM_block]
  refine wp_seqX (wp_blockX (wp_rounds (fun i t w1 => tget t 0 = v ∧ tget t 3 = .pointer (some ⟨w.next, 0, none⟩) ∧ tget t 6 = .int .i64 (i : Nat) ∧ Base w.heap w.next [vr, vh, vg] 35 w1 ∧ ∃ ok, tget t 5 = .bool ok ∧ (ok = true → (R.length = l.length ∧ H.length = l.length ∧ G.length = l.length) ∧ truthTo l R H G i = true ∧ i ≤ l.length) ∧ (ok = false → truthB l R H G = false)) 200 (by decide)
    ⟨t0, t3, t6, hw, ok0, t5, fun h => ⟨hy0 h, rfl, Nat.zero_le _⟩, hn0⟩ ?_))
  clear t0 t3 t5 t6 hw
  rintro i t w1 ⟨t0, t3, t6, hw, ok, t5, hy, hn⟩
  cases ok with
  | false =>
    have := hn rfl
    simp [mc54_l0, t5, this, tupV]
  | true =>
    obtain ⟨⟨e1, e2, e3⟩, hok, hi⟩ := hy rfl
    by_cases hlt : i < l.length
    · obtain ⟨p, hp⟩ : ∃ p, l[i]? = some p := ⟨_, List.getElem?_eq_getElem hlt⟩
      obtain ⟨r, hri⟩ : ∃ d, R[i]? = some d := ⟨_, List.getElem?_eq_getElem (e1 ▸ hlt)⟩
      obtain ⟨h, hhi⟩ : ∃ d, H[i]? = some d := ⟨_, List.getElem?_eq_getElem (e2 ▸ hlt)⟩
      obtain ⟨g, hgi⟩ : ∃ d, G[i]? = some d := ⟨_, List.getElem?_eq_getElem (e3 ▸ hlt)⟩
      obtain ⟨b, sq, c, rfl, hpa⟩ := hv.at_ i hlt
      obtain ⟨b1, o1, q1, c1, rfl, hra⟩ := hr.at_ i (e1 ▸ hlt)
      obtain ⟨b2, o2, q2, c2, rfl, hha⟩ := hh.at_ i (e2 ▸ hlt)
      obtain ⟨b3, o3, q3, c3, rfl, hga⟩ := hg.at_ i (e3 ▸ hlt)
      have hld := load_pod' hpa hp
      have hdr := hra.int hri
      have hdh := hha.int hhi
      have hdg := hga.int hgi
      rw [← hw.old _ hpa.lt] at hld
      rw [← hw.old _ hra.2] at hdr
      rw [← hw.old _ hha.2] at hdh
      rw [← hw.old _ hga.2] at hdg
      have n0 := hw.next
      have hlim := hw.lim
      have z1 : w1.lim ≤ w1.next := by omega
      have m0 : ¬ b = w1.next := by have := hpa.lt; omega
      have m1 : ¬ b1 = w1.next := by have := hra.2; omega
      have m2 : ¬ b2 = w1.next := by have := hha.2; omega
      have m3 : ¬ b3 = w1.next := by have := hga.2; omega
      have m4 : ¬ w.next = w1.next := by omega
      have hbox := hw.box
      have hia := fun w => ia22 w ⟨b, 0, sq⟩ l.length c .i64 i hlt
      have hi1 := fun w => ia33 w ⟨b1, o1, q1⟩ R.length c1 .i64 i (e1 ▸ hlt)
      have hi2 := fun w => ia33 w ⟨b2, o2, q2⟩ H.length c2 .i64 i (e2 ▸ hlt)
      have hi3 := fun w => ia33 w ⟨b3, o3, q3⟩ G.length c3 .i64 i (e3 ▸ hlt)
      have hw1 : IntKind.wrap .i64 ((i : Int) + 1) = (i : Int) + 1 := wrap64_in (by omega) (by omega)
      have hs := truth_snoc hp hri hhi hgi
      rw [hok, Bool.true_and] at hs
      have k2 : ∀ h, (podC p)[2]'h = .int .i64 p.rl := fun _ => rfl
      have k3 : ∀ h, (podC p)[3]'h = .int .i64 p.rh := fun _ => rfl
      have k4 : ∀ h, (podC p)[4]'h = .int .i64 p.hl := fun _ => rfl
      have k5 : ∀ h, (podC p)[5]'h = .int .i64 p.hh := fun _ => rfl
      have k6 : ∀ h, (podC p)[6]'h = .int .i64 p.gl := fun _ => rfl
      have k7 : ∀ h, (podC p)[7]'h = .int .i64 p.gh := fun _ => rfl
      have hnext : Base w.heap w.next [.slice (some ⟨b1, o1, q1⟩) R.length c1, .slice (some ⟨b2, o2, q2⟩) H.length c2, .slice (some ⟨b3, o3, q3⟩) G.length c3] 35 ⟨(w1.heap.put w1.next (some (.cells [.string ⟨⟨[]⟩⟩, .int .i64 0, .int .i64 0, .int .i64 0, .int .i64 0, .int .i64 0, .int .i64 0, .int .i64 0] 30 false))).put w1.next (some (.cells (podC p) 30 false)), w1.next + 1, w1.lim⟩ :=
        hw.put (fun b hb => by show ((w1.heap.put w1.next _).put w1.next _).get b = _; rw [get_put, if_neg (by omega), get_put, if_neg (by omega)]) (Nat.le_succ _) rfl
      cases f1 : inI p.rl r p.rh with
      | false =>
        have hbad : truthB l R H G = false := by simp only [truthB, truth_false (i := i + 1) (by rw [hs]; simp [truthOk, f1]) l.length hlt, Bool.and_false]
        simp [mc54_l0, t0, t3, t5, t6, hl0, hlt, hia, hi1, hi2, hi3, hld, hdr, hdh, hdg, z1, m0, m1, m2, m3, m4, hbox, k2, k3, k4, k5, k6, k7, r33, f1, cellsOf_agg, hw1]
        exact ⟨by omega, hnext, hbad⟩
      | true =>
        cases f2 : inI p.hl h p.hh with
        | false =>
          have hbad : truthB l R H G = false := by simp only [truthB, truth_false (i := i + 1) (by rw [hs]; simp [truthOk, f2]) l.length hlt, Bool.and_false]
          simp [mc54_l0, t0, t3, t5, t6, hl0, hlt, hia, hi1, hi2, hi3, hld, hdr, hdh, hdg, z1, m0, m1, m2, m3, m4, hbox, k2, k3, k4, k5, k6, k7, r33, f1, f2, cellsOf_agg, hw1]
          exact ⟨by omega, hnext, hbad⟩
        | true =>
          cases f3 : inI p.gl g p.gh with
          | false =>
            have hbad : truthB l R H G = false := by simp only [truthB, truth_false (i := i + 1) (by rw [hs]; simp [truthOk, f3]) l.length hlt, Bool.and_false]
            simp [mc54_l0, t0, t3, t5, t6, hl0, hlt, hia, hi1, hi2, hi3, hld, hdr, hdh, hdg, z1, m0, m1, m2, m3, m4, hbox, k2, k3, k4, k5, k6, k7, r33, f1, f2, f3, cellsOf_agg, hw1]
            exact ⟨by omega, hnext, hbad⟩
          | true =>
            have hs' : truthTo l R H G (i + 1) = true := by rw [hs]; simp [truthOk, f1, f2, f3]
            simp [mc54_l0, t0, t3, t5, t6, hl0, hlt, hia, hi1, hi2, hi3, hld, hdr, hdh, hdg, z1, m0, m1, m2, m3, m4, hbox, k2, k3, k4, k5, k6, k7, r33, f1, f2, f3, cellsOf_agg, hw1]
            exact ⟨by omega, hnext, ⟨e1, e2, e3⟩, hs', hlt⟩
    · have hi' : i = l.length := by omega
      subst hi'
      have hT : truthB l R H G = true := by simp [truthB, e1, e2, e3, hok]
      simp [mc54_l0, t0, t5, t6, hl0, hT, tupV]
theorem rule54 {ov : Ov} (k : HasP ov 54 F51) {v vr vh vg : Value} {l : List Pod} {R H G : List Int} {w : AW} (hv : podsIn w v = some l) (hr : RowsV intC w vr R) (hh : RowsV intC w vh H) (hg : RowsV intC w vg G) (hlen : l.length ≤ 100) (m : Nat) : (run Tryd.prog ov (m + 1)).call 54 [v, .agg ⟨[vr, vh, vg]⟩] w .none = .ok (.ret (.bool (truthB l R H G))) w .none := k.call (by
  simp [F51, hv, hr.rowsIn (m := 1) intC_length intC_inj, hh.rowsIn (m := 1) intC_length intC_inj, hg.rowsIn (m := 1) intC_length intC_inj, hlen])
end Go.Proofs.YtbmhpgoceobbdaaDoor.walk

namespace Go.Proofs.YtbmhpgoceobbdaaDoor.walk
open Go Go.Sh
open known (partsC laidL noOv)
set_option maxRecDepth 100000
noncomputable def F75 : PureF := fun args _ => match args with | [.int .i64 a, .int .i64 b] => bif decide (b = 100) && inI 0 a 1000000 then some (.int .i64 (a / 100)) else none | _ => none
theorem rule75 {ov : Ov} (k : HasP ov 75 F75) {a : Int} (h1 : 0 ≤ a) (h2 : a ≤ 1000000) (w : AW) : (run Tryd.prog ov 1).call 75 [.int .i64 a, .int .i64 100] w .none = .ok (.ret (.int .i64 (a / 100))) w .none := k.call (by simp [F75, inI, h1, h2])
theorem run75 {ov : Ov} (ho : ∀ args w, ov 75 args w = none) (a : Int) (h1 : 0 ≤ a) (h2 : a ≤ 1000000) (w : AW) : ∃ v w', (run Tryd.prog ov 2).call 75 [.int .i64 a, .int .i64 100] w .none = .ok (.ret v) w' .none ∧ v = .int .i64 (a / 100) := by
  refine call_wp text75 (by simp) (ho _ _) ?_
  have hq := fun (c : Bool) w => bin_quo (P := Tryd.prog) (w := w) 3 c .i64 a 100 (by decide)
  have hr := fun (c : Bool) w => bin_rem (P := Tryd.prog) (w := w) 3 c .i64 a 100 (by decide)
  have e1 : a.tdiv 100 = a / 100 := Int.tdiv_eq_ediv_of_nonneg h1
  have e2 : ¬ a.tmod 100 < 0 := by have := Int.tmod_nonneg 100 h1; omega
  have e3 : IntKind.wrap .i64 (a / 100) = a / 100 := wrap64_in (by omega) (by omega)
  simp [mc75, hq, hr, e1, e2, e3, tupV]
noncomputable def F55 : PureF := fun args _ => match args with | [.agg ⟨l⟩, .int .i64 day, .int .i64 r, .int .i64 h, .int .i64 g] => (podOf l).bind fun p => bif numB p day r h g && planOk p day then some (.agg ⟨ylC (ylI p.born day r h g)⟩) else none | _ => none
theorem rule55 {ov : Ov} (k : HasP ov 55 F55) {p : Pod} {day r h g : Int} (hn : numB p day r h g = true) (hp : planOk p day = true) (m : Nat) (w : AW) : (run Tryd.prog ov (m + 1)).call 55 [.agg ⟨podC p⟩, .int .i64 day, .int .i64 r, .int .i64 h, .int .i64 g] w .none = .ok (.ret (.agg ⟨ylC (ylI p.born day r h g)⟩)) w .none := k.call (by simp [F55, podOf_C, hn, hp])
theorem run55 {ov : Ov} (ho : ∀ args w, ov 55 args w = none) (h75 : HasP ov 75 F75) (p : Pod) (day r h g : Int) (hn : numB p day r h g = true) (hp : planOk p day = true) (w : AW) (hl : w.lim ≤ w.next) :
    ∃ v w', (run Tryd.prog ov 2).call 55 [.agg ⟨podC p⟩, .int .i64 day, .int .i64 r, .int .i64 h, .int .i64 g] w .none = .ok (.ret v) w' .none ∧ v = .agg ⟨ylC (ylI p.born day r h g)⟩ := by
  obtain ⟨k1, k2, k3, k4, k5, k6, k7, k8, k9, k10⟩ := num_some hn
  obtain ⟨b1, b2, b3, b4⟩ := gram_bd k1 k2 k3 k4 k5 k6 k9 k10
  have hd := plan_day hp
  refine call_wp text55 (by simp) (ho _ _) ?_
  have j1 : ∀ h, (podC p)[1]'h = .int .i64 p.born := fun _ => rfl
  have hl1 : w.lim ≤ w.next + 1 := by omega
  by_cases c0 : day = -1
  · subst c0
    simp [mc55, hl1, tupV, ylI, ylC]
  · have hb : p.born ≤ day := by
      rcases hd with h | h
      · exact absurd h c0
      · exact h.1
    have c0' : ¬ day < 0 := by omega
    have w1 : IntKind.wrap .i64 (p.born + r) = p.born + r := wrap64_in (by omega) (by omega)
    have w2 : IntKind.wrap .i64 (p.born + r + h) = p.born + r + h := wrap64_in (by omega) (by omega)
    have w3 : IntKind.wrap .i64 (day - p.born) = day - p.born := wrap64_in (by omega) (by omega)
    have w4 : IntKind.wrap .i64 (g * min (day - p.born) r) = g * min (day - p.born) r := wrap64_in (by omega) (by omega)
    have hnn : 0 ≤ g * min (day - p.born) r := Int.mul_nonneg k9 (by omega)
    have r75 := rule75 h75 hnn (by omega)
    have eg : g * min (day - p.born) r / 100 = gramI p.born day r g := (gram_eq hb k5 k9).symm
    rw [eg] at r75
    by_cases c1 : p.born + r + h ≤ day
    · have e : ylI p.born day r h g = ⟨0, 0, 1, 0⟩ := by
        unfold ylI; rw [if_neg c0, if_neg (by omega), if_neg (by omega)]
      simp [mc55, hl1, tupV, c0', j1, w1, w2, c1, e, ylC]
    · by_cases c2 : p.born + r ≤ day
      · have e : ylI p.born day r h g = ⟨gramI p.born day r g, 0, 0, 0⟩ := by
          unfold ylI; rw [if_neg c0, if_neg (by omega), if_pos (by omega)]
        simp [mc55, hl1, tupV, c0', j1, w1, w2, w3, w4, c1, c2, r75, e, ylC]
      · have e : ylI p.born day r h g = ⟨0, gramI p.born day r g, 0, 0⟩ := by
          unfold ylI; rw [if_neg c0, if_pos (by omega)]
        simp [mc55, hl1, tupV, c0', j1, w1, w2, w3, w4, c1, c2, r75, e, ylC]
/-! spans -/
noncomputable def F78 : PureF := fun args _ => match args with | [.agg ⟨[.int .i64 a, .int .i64 b]⟩, .int .i64 n] => some (.agg ⟨[.int .i64 (min a n), .int .i64 (max b n)]⟩) | _ => none
theorem rule78 {ov : Ov} (k : HasP ov 78 F78) (a b n : Int) (w : AW) : (run Tryd.prog ov 1).call 78 [.agg ⟨[.int .i64 a, .int .i64 b]⟩, .int .i64 n] w .none = .ok (.ret (.agg ⟨[.int .i64 (min a n), .int .i64 (max b n)]⟩)) w .none := k.call rfl
theorem run78 {ov : Ov} (ho : ∀ args w, ov 78 args w = none) (a b n : Int) (w : AW) (hl : w.lim ≤ w.next) : ∃ v w', (run Tryd.prog ov 2).call 78 [.agg ⟨[.int .i64 a, .int .i64 b]⟩, .int .i64 n] w .none = .ok (.ret v) w' .none ∧ v = .agg ⟨[.int .i64 (min a n), .int .i64 (max b n)]⟩ := by
  refine call_wp text78 (by simp) (ho _ _) ?_
  simp [mc78, hl, tupV]
noncomputable def F58 : PureF := fun args _ => match args with | [.agg ⟨[.int .i64 a, .int .i64 b]⟩, .agg ⟨[.int .i64 c, .int .i64 d]⟩] => bif inI 0 a 100000 && (inI 0 b 100000 && (inI 0 c 100000 && inI 0 d 100000)) then some (.agg ⟨[.int .i64 (a + c), .int .i64 (b + d)]⟩) else none | _ => none
def spanOk (a b : Int) : Prop := 0 ≤ a ∧ a ≤ 100000 ∧ 0 ≤ b ∧ b ≤ 100000
theorem rule58 {ov : Ov} (k : HasP ov 58 F58) {a b c d : Int} (h1 : spanOk a b) (h2 : spanOk c d) (w : AW) : (run Tryd.prog ov 1).call 58 [.agg ⟨[.int .i64 a, .int .i64 b]⟩, .agg ⟨[.int .i64 c, .int .i64 d]⟩] w .none = .ok (.ret (.agg ⟨[.int .i64 (a + c), .int .i64 (b + d)]⟩)) w .none := k.call (by
  obtain ⟨a1, a2, a3, a4⟩ := h1
  obtain ⟨b1, b2, b3, b4⟩ := h2
  simp [F58, inI, a1, a2, a3, a4, b1, b2, b3, b4])
theorem run58 {ov : Ov} (ho : ∀ args w, ov 58 args w = none) (a b c d : Int) (h1 : spanOk a b) (h2 : spanOk c d) (w : AW) (hl : w.lim ≤ w.next) : ∃ v w', (run Tryd.prog ov 2).call 58 [.agg ⟨[.int .i64 a, .int .i64 b]⟩, .agg ⟨[.int .i64 c, .int .i64 d]⟩] w .none = .ok (.ret v) w' .none ∧ v = .agg ⟨[.int .i64 (a + c), .int .i64 (b + d)]⟩ := by
  obtain ⟨a1, a2, a3, a4⟩ := h1
  obtain ⟨b1, b2, b3, b4⟩ := h2
  have w1 : IntKind.wrap .i64 (a + c) = a + c := wrap64_in (by omega) (by omega)
  have w2 : IntKind.wrap .i64 (b + d) = b + d := wrap64_in (by omega) (by omega)
  refine call_wp text58 (by simp) (ho _ _) ?_
  have hl2 : w.lim ≤ w.next + 2 := by omega
  have hl3 : w.lim ≤ w.next + 1 + 1 := by omega
  simp [mc58, hl2, hl3, tupV, w1, w2]
end Go.Proofs.YtbmhpgoceobbdaaDoor.walk

namespace Go.Proofs.YtbmhpgoceobbdaaDoor.walk
open Go Go.Sh
open known (partsC laidL noOv)
set_option maxRecDepth 100000
structure In20 (H0 : T AObj) (n0 : Nat) (bx : List Value) (s : Yl) (w : AW) : Prop where
  base : Base H0 n0 bx 35 w
  res : w.heap.get (n0 + 1) = some (.cells (ylC ⟨0, 0, 0, 0⟩) 37 false)
  acc : w.heap.get (n0 + 2) = some (.cells (ylC s) 37 false)
  next : n0 + 2 < w.next
theorem In20.step {H0 : T AObj} {n0 : Nat} {bx : List Value} {s s' : Yl} {w w1 : AW} (hw : In20 H0 n0 bx s w) (h1 : ∀ x, x < w.next → w1.heap.get x = w.heap.get x) (h2 : w.next ≤ w1.next) (h3 : w1.lim = w.lim) :
    In20 H0 n0 bx s' ⟨w1.heap.put (n0 + 2) (some (.cells (ylC s') 37 false)), w1.next, w1.lim⟩ := by
  have hn := hw.next
  refine ⟨⟨fun b hb => ?_, ?_, by show n0 < w1.next; omega, by show w1.lim ≤ n0; rw [h3]; exact hw.base.lim⟩, ?_, ?_, by show n0 + 2 < w1.next; omega⟩
  · show (w1.heap.put (n0 + 2) _).get b = _
    rw [get_put, if_neg (by omega), h1 b (by omega), hw.base.old b hb]
  · show (w1.heap.put (n0 + 2) _).get n0 = _
    rw [get_put, if_neg (by omega), h1 n0 (by omega), hw.base.box]
  · show (w1.heap.put (n0 + 2) _).get (n0 + 1) = _
    rw [get_put, if_neg (by omega), h1 (n0 + 1) (by omega), hw.res]
  · show (w1.heap.put (n0 + 2) _).get (n0 + 2) = _
    rw [get_put, if_pos rfl]
theorem ysH_small {l : List Pod} {pl R H G : List Int} (hB : podsB l = true) (hP : planB l pl = true) (hT : truthB l R H G = true) : (∀ y ∈ ysH l pl R H G, smallY y) ∧ (ysH l pl R H G).length = l.length := by
  have e0 : pl.length = l.length := by simp only [planB, Bool.and_eq_true, decide_eq_true_eq] at hP; exact hP.1
  obtain ⟨e1, e2, e3⟩ : R.length = l.length ∧ H.length = l.length ∧ G.length = l.length := by simp only [truthB, Bool.and_eq_true, decide_eq_true_eq] at hT; exact ⟨hT.1, hT.2.1, hT.2.2.1⟩
  have hyl := ysH_length l pl R H G e0 e1 e2 e3
  refine ⟨fun y hy => ?_, hyl⟩
  obtain ⟨i, hi⟩ := List.mem_iff_getElem?.1 hy
  have hil : i < l.length := by have := (List.getElem?_eq_some_iff.1 hi).1; omega
  obtain ⟨p, hp⟩ : ∃ p, l[i]? = some p := ⟨_, List.getElem?_eq_getElem hil⟩
  obtain ⟨d, hdi⟩ : ∃ d, pl[i]? = some d := ⟨_, List.getElem?_eq_getElem (e0 ▸ hil)⟩
  obtain ⟨r, hri⟩ : ∃ d, R[i]? = some d := ⟨_, List.getElem?_eq_getElem (e1 ▸ hil)⟩
  obtain ⟨h, hhi⟩ : ∃ d, H[i]? = some d := ⟨_, List.getElem?_eq_getElem (e2 ▸ hil)⟩
  obtain ⟨g, hgi⟩ : ∃ d, G[i]? = some d := ⟨_, List.getElem?_eq_getElem (e3 ▸ hil)⟩
  rw [ysH_at l pl R H G i p d r h g hp hdi hri hhi hgi] at hi
  cases hi
  exact small_of (pods_all hB hp) (plan_at hP hp hdi) (truth_at hT hp hri hhi hgi)
set_option maxHeartbeats 2000000 in
theorem loop20 {ov : Ov} (h55 : HasP ov 55 F55) (l : List Pod) (pl R H G : List Int) (v u vr vh vg : Value) (w0 : AW) (hv : PodsV w0 v l) (hu : RowsV intC w0 u pl) (hr : RowsV intC w0 vr R) (hh : RowsV intC w0 vh H) (hg : RowsV intC w0 vg G)
    (hB : podsB l = true) (hP : planB l pl = true) (hT : truthB l R H G = true)
    (Q : Ex → Tm → AW → Prop) (t : Tm) (w : AW) (hw : In20 w0.heap w0.next [vr, vh, vg] ⟨0, 0, 0, 0⟩ w)
    (t0 : tget t 0 = v) (t1 : tget t 1 = u) (t5 : tget t 5 = .pointer (some ⟨w0.next, 0, none⟩)) (t6 : tget t 6 = .pointer (some ⟨w0.next + 1, 0, none⟩)) (t9 : tget t 9 = .pointer (some ⟨w0.next + 2, 0, none⟩)) (t10 : tget t 10 = .int .i64 0)
    (hQ : ∀ t w, tget t 6 = .pointer (some ⟨w0.next + 1, 0, none⟩) → tget t 9 = .pointer (some ⟨w0.next + 2, 0, none⟩) → In20 w0.heap w0.next [vr, vh, vg] (sumYl (ysH l pl R H G)) w → Q (.exit 0) t w) : wp (exM Tryd.prog (run Tryd.prog ov 1) (.loop mc20_l0) t w) Q := by
  have hlen := podsB_len hB
  have e0 : pl.length = l.length := by simp only [planB, Bool.and_eq_true, decide_eq_true_eq] at hP; exact hP.1
  obtain ⟨e1, e2, e3⟩ : R.length = l.length ∧ H.length = l.length ∧ G.length = l.length := by simp only [truthB, Bool.and_eq_true, decide_eq_true_eq] at hT; exact ⟨hT.1, hT.2.1, hT.2.2.1⟩
  obtain ⟨hsm, hyl⟩ := ysH_small hB hP hT
  have hl0 := len22V hv
  refine wp_rounds (fun i t w => tget t 0 = v ∧ tget t 1 = u ∧ tget t 5 = .pointer (some ⟨w0.next, 0, none⟩) ∧ tget t 6 = .pointer (some ⟨w0.next + 1, 0, none⟩) ∧ tget t 9 = .pointer (some ⟨w0.next + 2, 0, none⟩) ∧ tget t 10 = .int .i64 (i : Nat) ∧ i ≤ l.length ∧ In20 w0.heap w0.next [vr, vh, vg] (sumYl ((ysH l pl R H G).take i)) w) 200 (by decide) ⟨t0, t1, t5, t6, t9, t10, Nat.zero_le _, hw⟩ ?_
  clear t0 t1 t5 t6 t9 t10 hw
  rintro i t w ⟨t0, t1, t5, t6, t9, t10, hi, hw⟩
  by_cases hlt : i < l.length
  · obtain ⟨p, hp⟩ : ∃ p, l[i]? = some p := ⟨_, List.getElem?_eq_getElem hlt⟩
    obtain ⟨d, hdi⟩ : ∃ d, pl[i]? = some d := ⟨_, List.getElem?_eq_getElem (e0 ▸ hlt)⟩
    obtain ⟨r, hri⟩ : ∃ d, R[i]? = some d := ⟨_, List.getElem?_eq_getElem (e1 ▸ hlt)⟩
    obtain ⟨h, hhi⟩ : ∃ d, H[i]? = some d := ⟨_, List.getElem?_eq_getElem (e2 ▸ hlt)⟩
    obtain ⟨g, hgi⟩ : ∃ d, G[i]? = some d := ⟨_, List.getElem?_eq_getElem (e3 ▸ hlt)⟩
    obtain ⟨b, sq, c, rfl, hpa⟩ := hv.at_ i hlt
    obtain ⟨b0, o0, q0, c0, rfl, hda⟩ := hu.at_ i (e0 ▸ hlt)
    obtain ⟨b1, o1, q1, c1, rfl, hra⟩ := hr.at_ i (e1 ▸ hlt)
    obtain ⟨b2, o2, q2, c2, rfl, hha⟩ := hh.at_ i (e2 ▸ hlt)
    obtain ⟨b3, o3, q3, c3, rfl, hga⟩ := hg.at_ i (e3 ▸ hlt)
    have hnum := num_of (pods_all hB hp) (plan_at hP hp hdi) (truth_at hT hp hri hhi hgi)
    have hya := ysH_at l pl R H G i p d r h g hp hdi hri hhi hgi
    have hld := load_pod' hpa hp
    have hdd := hda.int hdi
    have hdr := hra.int hri
    have hdh := hha.int hhi
    have hdg := hga.int hgi
    rw [← hw.base.old _ hpa.lt] at hld
    rw [← hw.base.old _ hda.2] at hdd
    rw [← hw.base.old _ hra.2] at hdr
    rw [← hw.base.old _ hha.2] at hdh
    rw [← hw.base.old _ hga.2] at hdg
    have n2 := hw.next
    have hlim := hw.base.lim
    have hl1 : w.lim ≤ w.next := by omega
    have hl2 : w.lim ≤ w0.next + 2 := by omega
    have m0 : ¬ b = w.next := by have := hpa.lt; omega
    have m1 : ¬ b1 = w.next := by have := hra.2; omega
    have m2 : ¬ b2 = w.next := by have := hha.2; omega
    have m3 : ¬ b3 = w.next := by have := hga.2; omega
    have m4 : ¬ w0.next = w.next := by omega
    have m5 : ¬ w0.next + 2 = w.next := by omega
    have m6 : ¬ b0 = w.next := by have := hda.2; omega
    have m7 : ¬ w.next = w0.next + 2 := by omega
    have hbox := hw.base.box
    have hacc := hw.acc
    have hia := fun w => ia22 w ⟨b, 0, sq⟩ l.length c .i64 i hlt
    have hi0 := fun w => ia33 w ⟨b0, o0, q0⟩ pl.length c0 .i64 i (e0 ▸ hlt)
    have hi1 := fun w => ia33 w ⟨b1, o1, q1⟩ R.length c1 .i64 i (e1 ▸ hlt)
    have hi2 := fun w => ia33 w ⟨b2, o2, q2⟩ H.length c2 .i64 i (e2 ▸ hlt)
    have hi3 := fun w => ia33 w ⟨b3, o3, q3⟩ G.length c3 .i64 i (e3 ▸ hlt)
    have hw1 : IntKind.wrap .i64 ((i : Int) + 1) = (i : Int) + 1 := wrap64_in (by omega) (by omega)
    obtain ⟨s, hs⟩ : ∃ s, s = sumYl ((ysH l pl R H G).take i) := ⟨_, rfl⟩
    have hsn := sumYl_snoc hya
    have hsb := sumYl_bd (l := (ysH l pl R H G).take i) (fun z hz => hsm z (List.mem_of_mem_take hz)) (by rw [List.length_take]; omega)
    rw [← hs] at hsn hsb hacc
    obtain ⟨y, hy⟩ : ∃ y, y = ylI p.born d r h g := ⟨_, rfl⟩
    have hysm := small_of (pods_all hB hp) (plan_at hP hp hdi) (truth_at hT hp hri hhi hgi)
    have r55 := fun w => rule55 h55 hnum (plan_at hP hp hdi) 0 w
    simp only [Nat.zero_add] at r55
    rw [← hy] at hsn hysm
    simp only [← hy] at r55
    obtain ⟨a1, a2, a3, a4, a5, a6, a7, a8⟩ := hsb
    obtain ⟨c1', c2', c3', c4', c5', c6', c7', c8'⟩ := hysm
    have v1 : IntKind.wrap .i64 (s.ripe + y.ripe) = s.ripe + y.ripe := wrap64_in (by omega) (by omega)
    have v2 : IntKind.wrap .i64 (s.green + y.green) = s.green + y.green := wrap64_in (by omega) (by omega)
    have v3 : IntKind.wrap .i64 (s.split + y.split) = s.split + y.split := wrap64_in (by omega) (by omega)
    have v4 : IntKind.wrap .i64 (s.left + y.left) = s.left + y.left := wrap64_in (by omega) (by omega)
    simp [mc20_l0, t0, t1, t5, t6, t9, t10, hl0, hlt, hia, hi0, hi1, hi2, hi3, hld, hdd, hdr, hdh, hdg, hl1, hl2, m0, m1, m2, m3, m4, m5, m6, m7, hbox, cellsOf_agg, same_pod, r55, hacc, ylC, v1, v2, v3, v4, hw1]
    refine ⟨by omega, hlt, ?_⟩
    rw [hsn]
    exact hw.step (w1 := ⟨_, w.next + 1, w.lim⟩) (fun x hx => by show ((w.heap.put w.next _).put w.next _).get x = _; rw [get_put, if_neg (by omega), get_put, if_neg (by omega)]) (Nat.le_succ _) rfl
  · have hi' : i = l.length := by omega
    subst hi'
    simp [mc20_l0, t0, t10, hl0]
    rw [List.take_of_length_le (by omega)] at hw
    exact hQ _ _ (by simp [t6]) (by simp [t9]) hw
set_option maxHeartbeats 2000000 in
theorem run20 {ov : Ov} (ho : ∀ args w, ov 20 args w = none) (h15 : HasP ov 15 F14) (h53 : HasP ov 53 F71) (h54 : HasP ov 54 F51) (h55 : HasP ov 55 F55) (l : List Pod) (pl R H G : List Int) (v u vr vh vg : Value) (w : AW) (hl : w.lim = w.next) (hpin : podsIn w v = some l) (hu : RowsV intC w u pl) (hr : RowsV intC w vr R) (hh : RowsV intC w vh H) (hg : RowsV intC w vg G) :
    ∃ x w', (run Tryd.prog ov 2).call 20 [v, u, .agg ⟨[vr, vh, vg]⟩] w .none = .ok (.ret x) w' .none ∧ x = .tuple ⟨[.agg ⟨ylC (harY l pl R H G)⟩, .int .i64 (harE l pl R H G)]⟩ := by
  refine call_wp text20 (by simp) (ho _ _) ?_
  have hv := podsIn_some hpin
  obtain ⟨W1, hW1⟩ : ∃ W1 : AW, W1 = ⟨(w.heap.put w.next (some (.cells [vr, vh, vg] 35 false))).put (w.next + 1) (some (.cells [.int .i64 0, .int .i64 0, .int .i64 0, .int .i64 0] 37 false)), w.next + 1 + 1, w.lim⟩ := ⟨_, rfl⟩
  have o1 : Old w.next w.heap W1.heap := by rw [hW1]; exact ((Old.refl _ _).put (Nat.le_refl _)).put (Nat.le_succ _)
  have hn : w.next ≤ W1.next := by rw [hW1]; show w.next ≤ w.next + 1 + 1; omega
  have a0 := (hv.old o1 hn).podsIn
  have a1 := hu.old o1 hn
  have a2 := hr.old o1 hn
  have a3 := hh.old o1 hn
  have a4 := hg.old o1 hn
  have r15 := rule15 h15 a0
  simp only [hW1] at r15
  have hl1 : w.lim ≤ w.next + 1 := by omega
  cases hB : podsB l with
  | false =>
    have e1 : harE l pl R H G = 30 := by simp [harE, chkE, hB]
    simp [mc20, r15, hB, errB, hl1, tupV, harY, e1, ylC]
  | true =>
    have hlen := podsB_len hB
    have r53 := rule53 h53 a0 a1 (by omega) 0
    simp only [Nat.zero_add, hW1] at r53
    cases hP : planB l pl with
    | false =>
      have e1 : harE l pl R H G = 31 := by simp [harE, chkE, hB, hP]
      simp [mc20, r15, hB, errB, r53, hP, hl1, tupV, harY, e1, ylC]
    | true =>
      have hc : chkE l pl = 0 := by simp [chkE, hB, hP]
      have r54 := rule54 h54 a0 a2 a3 a4 (by omega) 0
      simp only [Nat.zero_add, hW1] at r54
      cases hT : truthB l R H G with
      | false =>
        have e1 : harE l pl R H G = 32 := by simp [harE, hc, hT]
        simp [mc20, r15, hB, errB, r53, hP, r54, hT, hl1, tupV, harY, e1, ylC]
      | true =>
        have e1 : harE l pl R H G = 0 := by simp [harE, hc, hT]
        simp [mc20, r15, hB, errB, r53, hP, r54, hT]
        refine wp_seqX (wp_blockX (loop20 h55 l pl R H G v u vr vh vg w hv hu hr hh hg hB hP hT _ _ _ ⟨⟨?_, ?_, ?_, ?_⟩, ?_, ?_, ?_⟩ ?_ ?_ ?_ ?_ ?_ ?_ ?_))
        · exact (((Old.refl _ _).put (Nat.le_refl _)).put (Nat.le_succ _)).put (by omega)
        · simp
        · simp; try omega
        · simp [hl]
        · simp [ylC]
        · simp [ylC]
        · simp; try omega
        · simp
        · simp
        · simp
        · simp
        · simp
        · simp
        · intro t w' s6 s9 hI
          have hres := hI.res
          have hacc := hI.acc
          have hlim : w'.lim ≤ w.next + 1 := by have := hI.base.lim; omega
          simp [s6, s9, hres, hacc, hlim, tupV, harY, e1, cellsOf_agg]
/-! the specification's spans: all truths, one by one -/
theorem pod_same_refl : True := trivial
end Go.Proofs.YtbmhpgoceobbdaaDoor.walk
