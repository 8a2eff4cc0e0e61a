/- Part of a proof by a machine of ones own: see the text with the theorem. -/
import Derived.Test.YtbmhpgoceobbdaaDoorQBa
namespace Go.Proofs.YtbmhpgoceobbdaaDoor.walk
open Go Go.Sh
open known (partsC laidL noOv)
set_option maxRecDepth 100000
set_option linter.unusedSimpArgs false
/-! what is chosen is a truth, and what it yields lies within what was weighed -/
theorem choose_ok {p : Pod} (hp : podB p = true) (bits : List Int) (i : Nat) : truthOk p (fR bits i p) (fH bits i p) (fG bits i p) = true := by
  have k := pod_ok hp
  have := k.r1; have := k.h1; have := k.g1
  simp only [truthOk, Bool.and_eq_true]
  exact ⟨with_in (by assumption), with_in (by assumption), with_in (by assumption)⟩
theorem choose_to {l : List Pod} (hB : podsB l = true) (bits : List Int) : ∀ n, n ≤ l.length → truthTo l (pk (fR bits) l l.length) (pk (fH bits) l l.length) (pk (fG bits) l l.length) n = true
  | 0, _ => rfl
  | n + 1, h => by
    obtain ⟨p, hp⟩ : ∃ p, l[n]? = some p := ⟨_, List.getElem?_eq_getElem (by omega)⟩
    rw [truth_snoc hp (pk_at _ l hp _ h) (pk_at _ l hp _ h) (pk_at _ l hp _ h), choose_to hB bits n (by omega), choose_ok (pods_all hB hp)]
    rfl
theorem choose_truth {l : List Pod} (hB : podsB l = true) (bits : List Int) : truthB l (pk (fR bits) l l.length) (pk (fH bits) l l.length) (pk (fG bits) l l.length) = true := by
  simp [truthB, pk_length, choose_to hB bits l.length (Nat.le_refl _)]
theorem sY_le {c : Yl → Int} : ∀ A B : List Yl, A.length = B.length → (∀ (i : Nat) (a b : Yl), A[i]? = some a → B[i]? = some b → c a ≤ c b) → sY c A ≤ sY c B
  | [], [], _, _ => Int.le_refl _
  | [], _ :: _, h, _ => by simp at h
  | _ :: _, [], h, _ => by simp at h
  | a :: A, b :: B, h, k => by
    show c a + sY c A ≤ c b + sY c B
    have h1 := k 0 a b rfl rfl
    have h2 := sY_le A B (by simpa using h) fun i a b e1 e2 => k (i + 1) a b (by simpa using e1) (by simpa using e2)
    omega
theorem truth_lens {l : List Pod} {R H G : List Int} (hT : truthB l R H G = true) : R.length = l.length ∧ H.length = l.length ∧ G.length = l.length := by
  simp only [truthB, Bool.and_eq_true, decide_eq_true_eq] at hT; exact ⟨hT.1, hT.2.1, hT.2.2.1⟩
theorem plan_len {l : List Pod} {pl : List Int} (hP : planB l pl = true) : pl.length = l.length := by simp only [planB, Bool.and_eq_true, decide_eq_true_eq] at hP; exact hP.1
theorem lies {l : List Pod} {pl R H G : List Int} (hB : podsB l = true) (hP : planB l pl = true) (hT : truthB l R H G = true) :
    ((loS l pl).ripe ≤ (sumYl (ysH l pl R H G)).ripe ∧ (sumYl (ysH l pl R H G)).ripe ≤ (hiS l pl).ripe) ∧ ((loS l pl).green ≤ (sumYl (ysH l pl R H G)).green ∧ (sumYl (ysH l pl R H G)).green ≤ (hiS l pl).green) ∧ ((loS l pl).split ≤ (sumYl (ysH l pl R H G)).split ∧ (sumYl (ysH l pl R H G)).split ≤ (hiS l pl).split) := by
  obtain ⟨e1, e2, e3⟩ := truth_lens hT
  have e0 := plan_len hP
  have hy := ysH_length l pl R H G e0 e1 e2 e3
  have he := esH_length l pl e0
  have key : ∀ (i : Nat) (y : Yl) (e : Yl × Yl), (ysH l pl R H G)[i]? = some y → (esH l pl)[i]? = some e → (e.1.ripe ≤ y.ripe ∧ y.ripe ≤ e.2.ripe) ∧ (e.1.green ≤ y.green ∧ y.green ≤ e.2.green) ∧ (e.1.split ≤ y.split ∧ y.split ≤ e.2.split) := by
    intro i y e h1 h2
    have hlt : i < l.length := by have := (List.getElem?_eq_some_iff.1 h1).1; omega
    obtain ⟨p, hp⟩ : ∃ p, l[i]? = some p := ⟨_, List.getElem?_eq_getElem hlt⟩
    obtain ⟨d, hdi⟩ : ∃ d, pl[i]? = some d := ⟨_, List.getElem?_eq_getElem (e0 ▸ hlt)⟩
    obtain ⟨r, hri⟩ : ∃ d, R[i]? = some d := ⟨_, List.getElem?_eq_getElem (e1 ▸ hlt)⟩
    obtain ⟨h, hhi⟩ : ∃ d, H[i]? = some d := ⟨_, List.getElem?_eq_getElem (e2 ▸ hlt)⟩
    obtain ⟨g, hgi⟩ : ∃ d, G[i]? = some d := ⟨_, List.getElem?_eq_getElem (e3 ▸ hlt)⟩
    rw [ysH_at l pl R H G i p d r h g hp hdi hri hhi hgi] at h1
    rw [esH_at l pl i p d hp hdi] at h2
    cases h1
    cases h2
    have k := pod_ok (pods_all hB hp)
    have hd := plan_day (plan_at hP hp hdi)
    have ht := truth_at hT hp hri hhi hgi
    simp only [truthOk, inI, Bool.and_eq_true, decide_eq_true_eq] at ht
    obtain ⟨⟨a1, a2⟩, ⟨a3, a4⟩, a5, a6⟩ := ht
    exact ⟨in_ripe k hd a1 a2 a3 a4 a5 a6, in_green k hd a1 a2 a5 a6, in_split k a1 a2 a3 a4⟩
  have lo : ∀ (i : Nat) (y e : Yl), ((esH l pl).map (·.1))[i]? = some e → (ysH l pl R H G)[i]? = some y → ∃ e', (esH l pl)[i]? = some e' ∧ e'.1 = e := fun i y e h1 h2 => by
    rw [List.getElem?_map] at h1
    cases hx : (esH l pl)[i]? with
    | none => rw [hx] at h1; cases h1
    | some e' => rw [hx] at h1; cases h1; exact ⟨_, rfl, rfl⟩
  have hi : ∀ (i : Nat) (y e : Yl), ((esH l pl).map (·.2))[i]? = some e → (ysH l pl R H G)[i]? = some y → ∃ e', (esH l pl)[i]? = some e' ∧ e'.2 = e := fun i y e h1 h2 => by
    rw [List.getElem?_map] at h1
    cases hx : (esH l pl)[i]? with
    | none => rw [hx] at h1; cases h1
    | some e' => rw [hx] at h1; cases h1; exact ⟨_, rfl, rfl⟩
  refine ⟨⟨sY_le _ _ (by simp [hy, he]) fun i a b h1 h2 => ?_, sY_le _ _ (by simp [hy, he]) fun i a b h1 h2 => ?_⟩, ⟨sY_le _ _ (by simp [hy, he]) fun i a b h1 h2 => ?_, sY_le _ _ (by simp [hy, he]) fun i a b h1 h2 => ?_⟩, sY_le _ _ (by simp [hy, he]) fun i a b h1 h2 => ?_, sY_le _ _ (by simp [hy, he]) fun i a b h1 h2 => ?_⟩
  · obtain ⟨e', k1, rfl⟩ := lo i b a h1 h2; exact (key i b e' h2 k1).1.1
  · obtain ⟨e', k1, rfl⟩ := hi i a b h2 h1; exact (key i a e' h1 k1).1.2
  · obtain ⟨e', k1, rfl⟩ := lo i b a h1 h2; exact (key i b e' h2 k1).2.1.1
  · obtain ⟨e', k1, rfl⟩ := hi i a b h2 h1; exact (key i a e' h1 k1).2.1.2
  · obtain ⟨e', k1, rfl⟩ := lo i b a h1 h2; exact (key i b e' h2 k1).2.2.1
  · obtain ⟨e', k1, rfl⟩ := hi i a b h2 h1; exact (key i a e' h1 k1).2.2.2
set_option maxHeartbeats 2000000 in
theorem loop8 {ov : Ov} (l : List Pod) (pl R H G : List Int) (v u vr vh vg : Value) (w : AW) (hv : PodsV w v l) (hu : RowsV intC w u pl) (hr : RowsV intC w vr R) (hh : RowsV intC w vh H) (hg : RowsV intC w vg G) (hB : podsB l = true) (hP : planB l pl = true) (hT : truthB l R H G = true) (nb : Nat) (hbox : w.heap.get nb = some (.cells [vr, vh, vg] 35 false)) (v10 : Value)
    (Q : Ex → Tm → AW → Prop) (t : Tm) (m : Nat)
    (t0 : tget t 0 = v) (t1 : tget t 1 = u) (t9 : tget t 9 = .pointer (some ⟨nb, 0, none⟩)) (t10 : tget t 10 = v10) (t11 : tget t 11 = .int .i64 0) (t12 : tget t 12 = .int .i64 0) (t13 : tget t 13 = .int .i64 0) (t14 : tget t 14 = .int .i64 0) (t15 : tget t 15 = .int .i64 0)
    (hQ : ∀ t, tget t 10 = v10 → tget t 11 = .int .i64 (sumYl (ysH l pl R H G)).ripe → tget t 12 = .int .i64 (sumYl (ysH l pl R H G)).green → tget t 13 = .int .i64 (sumYl (ysH l pl R H G)).split → tget t 14 = .int .i64 (sumYl (ysH l pl R H G)).left → Q (.exit 0) t w) :
    wp (exM Tryd.prog (run Tryd.prog ov m) (.loop mc8_l0) t w) Q := by
  obtain ⟨e1, e2, e3⟩ := truth_lens hT
  have e0 := plan_len hP
  have hlen := podsB_len hB
  have hyl := ysH_length l pl R H G e0 e1 e2 e3
  have hsm := (ysH_small hB hP hT).1
  have hln := fun w => len22V hv w
  refine wp_rounds (fun i t w' => w' = w ∧ tget t 0 = v ∧ tget t 1 = u ∧ tget t 9 = .pointer (some ⟨nb, 0, none⟩) ∧ tget t 10 = v10 ∧ tget t 11 = .int .i64 (sumYl ((ysH l pl R H G).take i)).ripe ∧ tget t 12 = .int .i64 (sumYl ((ysH l pl R H G).take i)).green ∧ tget t 13 = .int .i64 (sumYl ((ysH l pl R H G).take i)).split ∧ tget t 14 = .int .i64 (sumYl ((ysH l pl R H G).take i)).left ∧ tget t 15 = .int .i64 (i : Nat) ∧ i ≤ l.length) 200 (by decide) ⟨rfl, t0, t1, t9, t10, t11, t12, t13, t14, by simpa using t15, Nat.zero_le _⟩ ?_
  clear t0 t1 t9 t10 t11 t12 t13 t14 t15
  rintro i t w' ⟨rfl, t0, t1, t9, t10, t11, t12, t13, t14, t15, hi⟩
  by_cases hlt : i < l.length
  · obtain ⟨p, hp⟩ : ∃ p, l[i]? = some p := ⟨_, List.getElem?_eq_getElem hlt⟩
    obtain ⟨d, hdi⟩ : ∃ d, pl[i]? = some d := ⟨_, List.getElem?_eq_getElem (e0 ▸ hlt)⟩
    obtain ⟨r, hri⟩ : ∃ d, R[i]? = some d := ⟨_, List.getElem?_eq_getElem (e1 ▸ hlt)⟩
    obtain ⟨h, hhi⟩ : ∃ d, H[i]? = some d := ⟨_, List.getElem?_eq_getElem (e2 ▸ hlt)⟩
    obtain ⟨g, hgi⟩ : ∃ d, G[i]? = some d := ⟨_, List.getElem?_eq_getElem (e3 ▸ hlt)⟩
    obtain ⟨b, sq, c, rfl, hpa⟩ := hv.at_ i hlt
    obtain ⟨b0, o0, q0, c0, rfl, hda⟩ := hu.at_ i (e0 ▸ hlt)
    obtain ⟨b1, o1, q1, c1, rfl, hra⟩ := hr.at_ i (e1 ▸ hlt)
    obtain ⟨b2, o2, q2, c2, rfl, hha⟩ := hh.at_ i (e2 ▸ hlt)
    obtain ⟨b3, o3, q3, c3, rfl, hga⟩ := hg.at_ i (e3 ▸ hlt)
    have k := pod_ok (pods_all hB hp)
    have hd := plan_day (plan_at hP hp hdi)
    have ht := truth_at hT hp hri hhi hgi
    simp only [truthOk, inI, Bool.and_eq_true, decide_eq_true_eq] at ht
    obtain ⟨⟨a1, a2⟩, ⟨a3, a4⟩, a5, a6⟩ := ht
    have hya := ysH_at l pl R H G i p d r h g hp hdi hri hhi hgi
    have hs := sumYl_snoc hya
    obtain ⟨Z, hZ⟩ : ∃ Z, Z = sumYl (List.take (i + 1) (ysH l pl R H G)) := ⟨_, rfl⟩
    obtain ⟨S, hS⟩ : ∃ S, S = sumYl (List.take i (ysH l pl R H G)) := ⟨_, rfl⟩
    have hbd := sumYl_bd (l := List.take i (ysH l pl R H G)) (fun y hy => hsm y (List.mem_of_mem_take hy)) (by rw [List.length_take]; omega)
    rw [← hS] at t11 t12 t13 t14 hs hbd
    rw [← hZ] at hs
    have hbn := load_pf hpa hp (j := 1) (x := .int .i64 p.born) rfl
    have hdd := hda.int hdi
    have hdr := hra.int hri
    have hdh := hha.int hhi
    have hdg := hga.int hgi
    have hia := fun w => ia22 w ⟨b, 0, sq⟩ l.length c .i64 i hlt
    have hi0 := fun w => ia33 w ⟨b0, o0, q0⟩ pl.length c0 .i64 i (e0 ▸ hlt)
    have hi1 := fun w => ia33 w ⟨b1, o1, q1⟩ R.length c1 .i64 i (e1 ▸ hlt)
    have hi2 := fun w => ia33 w ⟨b2, o2, q2⟩ H.length c2 .i64 i (e2 ▸ hlt)
    have hi3 := fun w => ia33 w ⟨b3, o3, q3⟩ G.length c3 .i64 i (e3 ▸ hlt)
    have hw1 : IntKind.wrap .i64 ((i : Int) + 1) = (i : Int) + 1 := wrap64_in (by omega) (by omega)
    have kb := k.born0; have kb1 := k.born1; have kr0 := k.r0; have kr2 := k.r2; have kh0 := k.h0; have kh2 := k.h2; have kg0 := k.g0; have kg2 := k.g2
    have hq := fun (a : Int) (c : Bool) w => bin_quo (P := Tryd.prog) (w := w) 3 c .i64 a 100 (by decide)
    have w1 : IntKind.wrap .i64 (d - p.born) = d - p.born := by rcases hd with rfl | ⟨x1, x2⟩ <;> exact wrap64_in (by omega) (by omega)
    have w2 : IntKind.wrap .i64 (r + h) = r + h := wrap64_in (by omega) (by omega)
    by_cases n1 : d < 0
    · have : d = -1 := by rcases hd with h | ⟨h, _⟩ <;> omega
      subst this
      have hy : Z = ⟨S.ripe, S.green, S.split, S.left + 1⟩ := by rw [hs]; simp [addY, ylI]
      have w3 : IntKind.wrap .i64 (S.left + 1) = S.left + 1 := wrap64_in (by omega) (by omega)
      simp [mc8_l0, t0, t1, t9, t10, t11, t12, t13, t14, t15, hlt, hln, hia, hi0, hi1, hi2, hi3, hdd, hdr, hdh, hdg, hbn, hbox, hw1, w1, w2, w3, ← hZ, hy]
      omega
    · obtain ⟨x1, x2⟩ : p.born ≤ d ∧ d ≤ 2000 := by rcases hd with h | h <;> omega
      have n0 : ¬ d = -1 := by omega
      by_cases n2 : r + h ≤ d - p.born
      · have hy : Z = ⟨S.ripe, S.green, S.split + 1, S.left⟩ := by rw [hs]; simp [addY, ylI, n0, show ¬ d - p.born < r by omega, show ¬ d - p.born < r + h by omega]
        have w3 : IntKind.wrap .i64 (S.split + 1) = S.split + 1 := wrap64_in (by omega) (by omega)
        simp [mc8_l0, t0, t1, t9, t10, t11, t12, t13, t14, t15, hlt, hln, hia, hi0, hi1, hi2, hi3, hdd, hdr, hdh, hdg, hbn, hbox, hw1, w1, w2, w3, n1, n2, ← hZ, hy]
        omega
      · have g1 := gram_nonneg (born := p.born) (day := d) (r := r) (g := g) x1 (by omega) (by omega)
        have g2 := gram_le (born := p.born) (day := d) (r := r) (g := g) x1 (by omega) (by omega) (by omega) (by omega)
        by_cases n3 : r ≤ d - p.born
        · have hm : min (d - p.born) r = r := by omega
          have hy : Z = ⟨S.ripe + (g * r).tdiv 100, S.green, S.split, S.left⟩ := by rw [hs]; simp [addY, ylI, n0, show ¬ d - p.born < r by omega, show d - p.born < r + h by omega, gramI, hm]
          unfold gramI at g1 g2
          rw [hm] at g1 g2
          have hmul : 0 ≤ g * r ∧ g * r ≤ 100 * 400 := ⟨Int.mul_nonneg (by omega) (by omega), Int.mul_le_mul (by omega) (by omega) (by omega) (by omega)⟩
          have w3 : IntKind.wrap .i64 (g * r) = g * r := wrap64_in (by omega) (by omega)
          have w4 : IntKind.wrap .i64 ((g * r).tdiv 100) = (g * r).tdiv 100 := wrap64_in (by omega) (by omega)
          have w5 : IntKind.wrap .i64 (S.ripe + (g * r).tdiv 100) = S.ripe + (g * r).tdiv 100 := wrap64_in (by omega) (by omega)
          simp [mc8_l0, t0, t1, t9, t10, t11, t12, t13, t14, t15, hlt, hln, hia, hi0, hi1, hi2, hi3, hdd, hdr, hdh, hdg, hbn, hbox, hw1, w1, w2, w3, w4, w5, hq, n1, n2, n3, ← hZ, hy]
          omega
        · have hm : min (d - p.born) r = d - p.born := by omega
          have hy : Z = ⟨S.ripe, S.green + (g * (d - p.born)).tdiv 100, S.split, S.left⟩ := by rw [hs]; simp [addY, ylI, n0, show d - p.born < r by omega, gramI, hm]
          unfold gramI at g1 g2
          rw [hm] at g1 g2
          have hmul : 0 ≤ g * (d - p.born) ∧ g * (d - p.born) ≤ 100 * 2000 := ⟨Int.mul_nonneg (by omega) (by omega), Int.mul_le_mul (by omega) (by omega) (by omega) (by omega)⟩
          have w3 : IntKind.wrap .i64 (g * (d - p.born)) = g * (d - p.born) := wrap64_in (by omega) (by omega)
          have w4 : IntKind.wrap .i64 ((g * (d - p.born)).tdiv 100) = (g * (d - p.born)).tdiv 100 := wrap64_in (by omega) (by omega)
          have w5 : IntKind.wrap .i64 (S.green + (g * (d - p.born)).tdiv 100) = S.green + (g * (d - p.born)).tdiv 100 := wrap64_in (by omega) (by omega)
          simp [mc8_l0, t0, t1, t9, t10, t11, t12, t13, t14, t15, hlt, hln, hia, hi0, hi1, hi2, hi3, hdd, hdr, hdh, hdg, hbn, hbox, hw1, w1, w2, w3, w4, w5, hq, n1, n2, n3, ← hZ, hy]
          omega
  · have hi' : i = l.length := by omega
    subst hi'
    rw [List.take_of_length_le (by omega)] at t11 t12 t13 t14
    simp [mc8_l0, t0, t15, hln]
    exact hQ _ (by simp [t10]) (by simp [t11]) (by simp [t12]) (by simp [t13]) (by simp [t14])
end Go.Proofs.YtbmhpgoceobbdaaDoor.walk

namespace Go.Proofs.YtbmhpgoceobbdaaDoor.walk
open Go Go.Sh
open known (partsC laidL noOv)
set_option maxRecDepth 100000
set_option linter.unusedSimpArgs false
/-! law 8 -/
noncomputable def mc8_r2 : MC := .seq (.ops [⟨false, none, some 67, 22, .move (.tmp 0)⟩, ⟨false, none, some 68, 33, .move (.tmp 1)⟩, ⟨false, none, some 69, 35, .load 35 (.tmp 9)⟩, ⟨false, none, some 70, 38, .call ⟨.value (.func 19), #[.tmp 67, .tmp 68, .tmp 69], #[22, 33, 35]⟩⟩, ⟨false, none, some 66, 38, .move (.tmp 70)⟩, ⟨false, none, some 71, 37, .extract (.tmp 66) 0⟩, ⟨false, none, some 72, 23, .extract (.tmp 66) 1⟩, ⟨false, none, some 10, 0, .alloc 37⟩, ⟨false, none, none, 0, .store 37 (.tmp 10) (.tmp 71)⟩, ⟨false, none, some 8, 23, .assign (.tmp 72)⟩]) (.seq (.seq (.ops [⟨false, none, some 73, 23, .move (.tmp 8)⟩, ⟨false, none, some 74, 4, .binOp .neq 23 (.tmp 73) (.const (.int .i64 0)) 23⟩, ⟨false, none, some 75, 4, .move (.tmp 74)⟩, ⟨false, some (75, false), some 76, 0, .fieldAddr 37 (.tmp 10) 0⟩, ⟨false, some (75, false), some 77, 3, .load 3 (.tmp 76)⟩, ⟨false, some (75, false), some 78, 0, .fieldAddr 41 (.tmp 7) 0⟩, ⟨false, some (75, false), some 79, 0, .fieldAddr 26 (.tmp 78) 0⟩, ⟨false, some (75, false), some 80, 3, .load 3 (.tmp 79)⟩, ⟨false, some (75, false), some 81, 0, .fieldAddr 41 (.tmp 7) 0⟩, ⟨false, some (75, false), some 82, 0, .fieldAddr 26 (.tmp 81) 1⟩, ⟨false, some (75, false), some 83, 3, .load 3 (.tmp 82)⟩, ⟨false, some (75, false), some 84, 4, .call ⟨.value (.func 33), #[.tmp 77, .tmp 80, .tmp 83], #[3, 3, 3]⟩⟩, ⟨false, some (75, false), some 85, 4, .unOp .not 4 (.tmp 84)⟩, ⟨false, none, some 86, 4, .pick (.tmp 75) (.const (.bool true)) (.tmp 85)⟩, ⟨false, none, some 87, 4, .move (.tmp 86)⟩, ⟨false, some (87, false), some 88, 0, .fieldAddr 37 (.tmp 10) 1⟩, ⟨false, some (87, false), some 89, 3, .load 3 (.tmp 88)⟩, ⟨false, some (87, false), some 90, 0, .fieldAddr 41 (.tmp 7) 1⟩, ⟨false, some (87, false), some 91, 0, .fieldAddr 26 (.tmp 90) 0⟩, ⟨false, some (87, false), some 92, 3, .load 3 (.tmp 91)⟩, ⟨false, some (87, false), some 93, 0, .fieldAddr 41 (.tmp 7) 1⟩, ⟨false, some (87, false), some 94, 0, .fieldAddr 26 (.tmp 93) 1⟩, ⟨false, some (87, false), some 95, 3, .load 3 (.tmp 94)⟩, ⟨false, some (87, false), some 96, 4, .call ⟨.value (.func 33), #[.tmp 89, .tmp 92, .tmp 95], #[3, 3, 3]⟩⟩, ⟨false, some (87, false), some 97, 4, .unOp .not 4 (.tmp 96)⟩, ⟨false, none, some 98, 4, .pick (.tmp 87) (.const (.bool true)) (.tmp 97)⟩, ⟨false, none, some 99, 4, .move (.tmp 98)⟩, ⟨false, some (99, false), some 100, 0, .fieldAddr 37 (.tmp 10) 2⟩, ⟨false, some (99, false), some 101, 3, .load 3 (.tmp 100)⟩, ⟨false, some (99, false), some 102, 0, .fieldAddr 41 (.tmp 7) 2⟩, ⟨false, some (99, false), some 103, 0, .fieldAddr 26 (.tmp 102) 0⟩, ⟨false, some (99, false), some 104, 3, .load 3 (.tmp 103)⟩, ⟨false, some (99, false), some 105, 0, .fieldAddr 41 (.tmp 7) 2⟩, ⟨false, some (99, false), some 106, 0, .fieldAddr 26 (.tmp 105) 1⟩, ⟨false, some (99, false), some 107, 3, .load 3 (.tmp 106)⟩, ⟨false, some (99, false), some 108, 4, .call ⟨.value (.func 33), #[.tmp 101, .tmp 104, .tmp 107], #[3, 3, 3]⟩⟩, ⟨false, some (99, false), some 109, 4, .unOp .not 4 (.tmp 108)⟩, ⟨false, none, some 110, 4, .pick (.tmp 99) (.const (.bool true)) (.tmp 109)⟩]) (.cond (.tmp 110) (.seq (.ops [⟨false, none, some 6, 4, .assign (.const (.bool false))⟩]) (.ret)) (.skip))) (.seq (.ops [⟨false, none, some 11, 3, .assign (.const (.int .i64 0))⟩, ⟨false, none, some 12, 3, .assign (.const (.int .i64 0))⟩, ⟨false, none, some 13, 3, .assign (.const (.int .i64 0))⟩, ⟨false, none, some 14, 3, .assign (.const (.int .i64 0))⟩]) (.seq (.seq (.ops [⟨false, none, some 15, 3, .assign (.const (.int .i64 0))⟩]) (.block 0 (.loop mc8_l0))) (.seq (.ops [⟨false, none, some 183, 37, .load 37 (.tmp 10)⟩, ⟨false, none, some 184, 3, .move (.tmp 11)⟩, ⟨false, none, some 185, 3, .move (.tmp 12)⟩, ⟨false, none, some 186, 3, .move (.tmp 13)⟩, ⟨false, none, some 187, 3, .move (.tmp 14)⟩, ⟨false, none, some 188, 37, .build 37 #[(0, .tmp 184), (1, .tmp 185), (2, .tmp 186), (3, .tmp 187)]⟩, ⟨false, none, some 189, 4, .binOp .eql 37 (.tmp 183) (.tmp 188) 37⟩, ⟨false, none, some 190, 4, .move (.tmp 189)⟩, ⟨false, some (190, true), some 191, 4, .call ⟨.value (.func 18), #[], #[]⟩⟩, ⟨false, none, some 192, 4, .pick (.tmp 190) (.tmp 191) (.const (.bool false))⟩, ⟨false, none, some 6, 4, .assign (.tmp 192)⟩]) (.ret)))))
noncomputable def mc8_r1 : MC := .seq (.ops [⟨false, none, some 63, 22, .move (.tmp 0)⟩, ⟨false, none, some 64, 33, .move (.tmp 2)⟩, ⟨false, none, some 65, 35, .call ⟨.value (.func 34), #[.tmp 63, .tmp 64], #[22, 33]⟩⟩, ⟨false, none, some 9, 0, .alloc 35⟩, ⟨false, none, none, 0, .store 35 (.tmp 9) (.tmp 65)⟩]) mc8_r2
theorem mc8_eq : mc8 = .seq (.ops [⟨false, none, some 6, 4, .assign (.const (.bool false))⟩]) (.seq (.ops [⟨false, none, some 18, 22, .move (.tmp 0)⟩, ⟨false, none, some 19, 33, .move (.tmp 1)⟩, ⟨false, none, some 20, 42, .call ⟨.value (.func 21), #[.tmp 18, .tmp 19], #[22, 33]⟩⟩, ⟨false, none, some 17, 42, .move (.tmp 20)⟩, ⟨false, none, some 21, 41, .extract (.tmp 17) 0⟩, ⟨false, none, some 22, 23, .extract (.tmp 17) 1⟩, ⟨false, none, some 7, 0, .alloc 41⟩, ⟨false, none, none, 0, .store 41 (.tmp 7) (.tmp 21)⟩, ⟨false, none, some 8, 23, .assign (.tmp 22)⟩]) (.seq (.seq (.ops [⟨false, none, some 23, 23, .move (.tmp 8)⟩, ⟨false, none, some 24, 4, .binOp .neq 23 (.tmp 23) (.const (.int .i64 0)) 23⟩, ⟨false, none, some 25, 4, .move (.tmp 24)⟩, ⟨false, some (25, false), some 26, 22, .move (.tmp 0)⟩, ⟨false, some (25, false), some 27, 23, .call ⟨.value (.func 14), #[.tmp 26], #[22]⟩⟩, ⟨false, some (25, false), some 28, 4, .binOp .neq 23 (.tmp 27) (.const (.int .i64 0)) 23⟩, ⟨false, none, some 29, 4, .pick (.tmp 25) (.const (.bool true)) (.tmp 28)⟩, ⟨false, none, some 30, 4, .move (.tmp 29)⟩, ⟨false, some (30, false), some 31, 22, .move (.tmp 0)⟩, ⟨false, some (30, false), some 32, 3, .call ⟨.builtin .len, #[.tmp 31], #[22]⟩⟩, ⟨false, some (30, false), some 33, 4, .binOp .gtr 3 (.tmp 32) (.const (.int .i64 12)) 3⟩, ⟨false, none, some 34, 4, .pick (.tmp 30) (.const (.bool true)) (.tmp 33)⟩, ⟨false, none, some 35, 4, .move (.tmp 34)⟩, ⟨false, some (35, false), some 36, 33, .move (.tmp 1)⟩, ⟨false, some (35, false), some 37, 3, .call ⟨.builtin .len, #[.tmp 36], #[33]⟩⟩, ⟨false, some (35, false), some 38, 22, .move (.tmp 0)⟩, ⟨false, some (35, false), some 39, 3, .call ⟨.builtin .len, #[.tmp 38], #[22]⟩⟩, ⟨false, some (35, false), some 40, 4, .binOp .neq 3 (.tmp 37) (.tmp 39) 3⟩, ⟨false, none, some 41, 4, .pick (.tmp 35) (.const (.bool true)) (.tmp 40)⟩]) (.cond (.tmp 41) (.seq (.ops [⟨false, none, some 42, 23, .move (.tmp 8)⟩, ⟨false, none, some 43, 4, .binOp .eql 23 (.tmp 42) (.const (.int .i64 0)) 23⟩, ⟨false, none, some 44, 4, .move (.tmp 43)⟩, ⟨false, some (44, false), some 45, 41, .load 41 (.tmp 7)⟩, ⟨false, some (44, false), some 46, 41, .build 41 #[]⟩, ⟨false, some (44, false), some 47, 4, .binOp .eql 41 (.tmp 45) (.tmp 46) 41⟩, ⟨false, none, some 48, 4, .pick (.tmp 44) (.const (.bool true)) (.tmp 47)⟩, ⟨false, none, some 49, 4, .move (.tmp 48)⟩, ⟨false, some (49, true), some 50, 23, .move (.tmp 8)⟩, ⟨false, some (49, true), some 51, 4, .binOp .neq 23 (.tmp 50) (.const (.int .i64 0)) 23⟩, ⟨false, some (49, true), some 52, 4, .move (.tmp 51)⟩, ⟨false, some (52, false), some 53, 33, .move (.tmp 1)⟩, ⟨false, some (52, false), some 54, 3, .call ⟨.builtin .len, #[.tmp 53], #[33]⟩⟩, ⟨false, some (52, false), some 55, 22, .move (.tmp 0)⟩, ⟨false, some (52, false), some 56, 3, .call ⟨.builtin .len, #[.tmp 55], #[22]⟩⟩, ⟨false, some (52, false), some 57, 4, .binOp .eql 3 (.tmp 54) (.tmp 56) 3⟩, ⟨false, some (49, true), some 58, 4, .pick (.tmp 52) (.const (.bool true)) (.tmp 57)⟩, ⟨false, none, some 59, 4, .pick (.tmp 49) (.tmp 58) (.const (.bool false))⟩, ⟨false, none, some 60, 4, .move (.tmp 59)⟩, ⟨false, some (60, true), some 61, 4, .call ⟨.value (.func 18), #[], #[]⟩⟩, ⟨false, none, some 62, 4, .pick (.tmp 60) (.tmp 61) (.const (.bool false))⟩, ⟨false, none, some 6, 4, .assign (.tmp 62)⟩]) (.ret)) (.skip))) mc8_r1)) := rfl
theorem wgC_cells (l : List Pod) (pl : List Int) : wgC l pl = [.int .i64 (loS l pl).ripe, .int .i64 (hiS l pl).ripe, .int .i64 (loS l pl).green, .int .i64 (hiS l pl).green, .int .i64 (loS l pl).split, .int .i64 (hiS l pl).split] := rfl
theorem later2W {ov : Ov} (h : HasW ov) {w : AW} (hPW : PartsW w) (Hp : T AObj) (n lim : Nat) (ho : Old w.next w.heap Hp) (hn : w.next ≤ n) : (run Tryd.prog ov 2).call 18 [] ⟨Hp, n, lim⟩ .none = .ok (.ret (.bool true)) ⟨Hp, n, lim⟩ .none := by
  show stepO Tryd.prog (run Tryd.prog ov 1) 18 [] ⟨Hp, n, lim⟩ .none (ov 18 [] ⟨Hp, n, lim⟩) = _
  rw [h _ (hPW.old (w' := ⟨Hp, n, lim⟩) ho hn).parts]; rfl
set_option maxHeartbeats 4000000 in
theorem rest8 {ov : Ov} (h19 : HasP ov 19 F19) (h33 : HasP ov 33 F33) (hW : HasW ov) (l : List Pod) (pl R H G : List Int) (v u vr vh vg : Value) (w : AW) (hPW : PartsW w) (hv : PodsV w v l) (hu : RowsV intC w u pl) (hr : RowsV intC w vr R) (hh : RowsV intC w vh H) (hg : RowsV intC w vg G) (hB : podsB l = true) (hP : planB l pl = true) (hT : truthB l R H G = true) (hl : w.lim ≤ w.next)
    (n7 n9 : Nat) (h7 : w.heap.get n7 = some (.cells (wgC l pl) 41 false)) (h9 : w.heap.get n9 = some (.cells [vr, vh, vg] 35 false)) (l7 : n7 < w.next) (l9 : n9 < w.next)
    (Q : Ex → Tm → AW → Prop) (t : Tm) (t0 : tget t 0 = v) (t1 : tget t 1 = u) (t7 : tget t 7 = .pointer (some ⟨n7, 0, none⟩)) (t9 : tget t 9 = .pointer (some ⟨n9, 0, none⟩))
    (hQ : ∀ t w, tget t 6 = .bool true → Q .ret t w) :
    wp (exM Tryd.prog (run Tryd.prog ov 2) mc8_r2 t w) Q := by
  have r19 : (run Tryd.prog ov 2).call 19 [v, u, .agg ⟨[vr, vh, vg]⟩] w .none = .ok (.ret (.tuple ⟨[.agg ⟨ylC (harY l pl R H G)⟩, .int .i64 (harE l pl R H G)]⟩)) w .none := rule19 h19 hPW hv.podsIn hu hr hh hg 1
  have e1 : harE l pl R H G = 0 := by simp [harE, hT, show chkE l pl = 0 by simp [chkE, hB, hP]]
  have e2 : harY l pl R H G = sumYl (ysH l pl R H G) := by simp [harY, e1]
  rw [e1, e2] at r19
  obtain ⟨⟨i1, i2⟩, ⟨i3, i4⟩, i5, i6⟩ := lies hB hP hT
  obtain ⟨Y, hY⟩ : ∃ Y, Y = sumYl (ysH l pl R H G) := ⟨_, rfl⟩
  rw [← hY] at r19 i1 i2 i3 i4 i5 i6
  rw [wgC_cells] at h7
  have b1 : inI (loS l pl).ripe Y.ripe (hiS l pl).ripe = true := by simp [inI, i1, i2]
  have b2 : inI (loS l pl).green Y.green (hiS l pl).green = true := by simp [inI, i3, i4]
  have b3 : inI (loS l pl).split Y.split (hiS l pl).split = true := by simp [inI, i5, i6]
  have r33 : ∀ (n a b : Int) w, (run Tryd.prog ov 2).call 33 [.int .i64 n, .int .i64 a, .int .i64 b] w .none = .ok (.ret (.bool (inI a n b))) w .none := fun n a b w => h33.call rfl
  have rW := later2W hW hPW
  have m7 : ¬ n7 = w.next := by omega
  have m9 : ¬ n9 = w.next := by omega
  simp [mc8_r2, t0, t1, t7, t9, h7, h9, r19, hl, m7, m9, cellsOf_agg, ylC, r33, b1, b2, b3]
  refine wp_seqX (wp_blockX (loop8 l pl R H G v u vr vh vg _ ?_ ?_ ?_ ?_ ?_ hB hP hT n9 ?_ (.pointer (some ⟨w.next, 0, none⟩)) _ _ 2 ?_ ?_ ?_ ?_ ?_ ?_ ?_ ?_ ?_ ?_))
  case _ => exact hv.old (w' := ⟨_, _, _⟩) (((Old.refl _ _).put (Nat.le_refl _)).put (Nat.le_refl _)) (Nat.le_succ _)
  case _ => exact hu.old (w' := ⟨_, _, _⟩) (((Old.refl _ _).put (Nat.le_refl _)).put (Nat.le_refl _)) (Nat.le_succ _)
  case _ => exact hr.old (w' := ⟨_, _, _⟩) (((Old.refl _ _).put (Nat.le_refl _)).put (Nat.le_refl _)) (Nat.le_succ _)
  case _ => exact hh.old (w' := ⟨_, _, _⟩) (((Old.refl _ _).put (Nat.le_refl _)).put (Nat.le_refl _)) (Nat.le_succ _)
  case _ => exact hg.old (w' := ⟨_, _, _⟩) (((Old.refl _ _).put (Nat.le_refl _)).put (Nat.le_refl _)) (Nat.le_succ _)
  case _ => simp [m9, h9]
  case _ => simp [t0]
  case _ => simp [t1]
  case _ => simp [t9]
  case _ => simp
  case _ => simp
  case _ => simp
  case _ => simp
  case _ => simp
  case _ => simp
  case _ =>
    intro t t10 t11 t12 t13 t14
    rw [← hY] at t11 t12 t13 t14
    simp (maxDischargeDepth := 40) [t10, t11, t12, t13, t14, rW, ylC]
    exact hQ _ _ (by simp)
theorem RowsV.single {w : AW} {v : Value} {l : List Int} (h : RowsV intC w v l) : Go.Sh.single v = true := by
  obtain ⟨a, c, rfl⟩ := h.len
  rfl
set_option maxHeartbeats 2000000 in
theorem mid8 {ov : Ov} (h34 : ∀ args w, ov 34 args w = none) (h41 : HasP ov 41 F41) (h38 : HasP ov 38 F38) (h19 : HasP ov 19 F19) (h33 : HasP ov 33 F33) (hW : HasW ov) (l : List Pod) (pl bits : List Int) (v u bv : Value) (w : AW) (hPW : PartsW w) (hv : PodsV w v l) (hu : RowsV intC w u pl) (hb : RowsV intC w bv bits) (hbl : bits.length ≤ 2 ^ 60) (hB : podsB l = true) (hP : planB l pl = true) (hl : w.lim ≤ w.next)
    (n7 : Nat) (h7 : w.heap.get n7 = some (.cells (wgC l pl) 41 false)) (l7 : n7 < w.next)
    (Q : Ex → Tm → AW → Prop) (t : Tm) (t0 : tget t 0 = v) (t1 : tget t 1 = u) (t2 : tget t 2 = bv) (t7 : tget t 7 = .pointer (some ⟨n7, 0, none⟩))
    (hQ : ∀ t w, tget t 6 = .bool true → Q .ret t w) :
    wp (exM Tryd.prog (run Tryd.prog ov 2) mc8_r1 t w) Q := by
  obtain ⟨x, w', hc, vr, vh, vg, rfl, k1, k2, k3, ho, hn, hlm⟩ := call34 h34 h41 h38 bv v bits l w hl hv hb hbl hB
  have hs : singles [vr, vh, vg] = true := by simp [singles, RowsV.single k1, RowsV.single k2, RowsV.single k3]
  have l1 : w'.lim ≤ w'.next := by omega
  have h7' : w'.heap.get n7 = some (.cells (wgC l pl) 41 false) := by rw [ho _ l7, h7]
  have m7 : ¬ n7 = w'.next := by omega
  simp [mc8_r1, t0, t2, hc, cellsOf_agg, hs, l1]
  have oo : ∀ a b, Old w'.next w'.heap ((w'.heap.put w'.next a).put w'.next b) := fun a b => ((Old.refl _ _).put (Nat.le_refl _)).put (Nat.le_refl _)
  have o2 : ∀ a b, Old w.next w.heap ((w'.heap.put w'.next a).put w'.next b) := fun a b => ho.trans (oo a b) hn
  refine rest8 h19 h33 hW l pl _ _ _ v u vr vh vg _ ?_ ?_ ?_ ?_ ?_ ?_ hB hP (choose_truth hB bits) ?_ n7 w'.next ?_ ?_ ?_ ?_ Q _ ?_ ?_ ?_ ?_ hQ
  case _ => exact hPW.old (w' := ⟨_, _, _⟩) (o2 _ _) (by show w.next ≤ w'.next + 1; omega)
  case _ => exact hv.old (w' := ⟨_, _, _⟩) (o2 _ _) (by show w.next ≤ w'.next + 1; omega)
  case _ => exact hu.old (w' := ⟨_, _, _⟩) (o2 _ _) (by show w.next ≤ w'.next + 1; omega)
  case _ => exact k1.old (w' := ⟨_, _, _⟩) (oo _ _) (Nat.le_succ _)
  case _ => exact k2.old (w' := ⟨_, _, _⟩) (oo _ _) (Nat.le_succ _)
  case _ => exact k3.old (w' := ⟨_, _, _⟩) (oo _ _) (Nat.le_succ _)
  case _ => show w'.lim ≤ w'.next + 1; omega
  case _ => simp [m7, h7']
  case _ => simp
  case _ => show n7 < w'.next + 1; omega
  case _ => exact Nat.lt_succ_self _
  case _ => simp [t0]
  case _ => simp [t1]
  case _ => simp [t7]
  case _ => simp
set_option maxHeartbeats 4000000 in
theorem run8 {ov : Ov} (ho : ∀ args w, ov 8 args w = none) (h34 : ∀ args w, ov 34 args w = none) (h14 : HasP ov 14 F14) (h41 : HasP ov 41 F41) (h38 : HasP ov 38 F38) (h19 : HasP ov 19 F19) (h21 : HasP ov 21 F21) (h33 : HasP ov 33 F33) (hW : HasW ov) (l : List Pod) (pl bits : List Int) (v u bv : Value) (w : AW) (hl : w.lim = w.next) (hPW : PartsW w) (hv : PodsV w v l) (hu : RowsV intC w u pl) (hb : RowsV intC w bv bits) (hbl : bits.length ≤ 2 ^ 60) :
    ∃ x w', (run Tryd.prog ov 3).call 8 [v, u, bv] w .none = .ok (.ret x) w' .none ∧ x = .bool true := by
  refine call_wp text8 (by simp) (ho _ _) ?_
  have r21 : (run Tryd.prog ov 2).call 21 [v, u] w .none = .ok (.ret (weiV l pl)) w .none := rule21 h21 hPW hv.podsIn hu 1
  have r14 : ∀ (Hp : T AObj) (n lim : Nat), Old w.next w.heap Hp → w.next ≤ n → (run Tryd.prog ov 2).call 14 [v] ⟨Hp, n, lim⟩ .none = .ok (.ret (errB (podsB l) 30)) ⟨Hp, n, lim⟩ .none := fun Hp n lim h1 h2 => h14.call (by simp [F14, (hv.old (w' := ⟨Hp, n, lim⟩) h1 h2).podsIn])
  have rW := later2W hW hPW
  have l1 : w.lim ≤ w.next := by omega
  have hlv := fun w' => len22V hv w'
  have hlu := fun w' => len33V hu w'
  unfold weiV at r21
  by_cases hc : chkE l pl = 0
  · obtain ⟨hB, hP⟩ := chk_zero hc
    have hlen := podsB_len hB
    have e0 := plan_len hP
    rw [weiC, if_pos hc, hc, wgC_cells] at r21
    rw [hB] at r14
    have c1 : ¬ 12 < (l.length : Int) := by omega
    have c2 : (pl.length : Int) = l.length := by omega
    rw [mc8_eq]
    simp (maxDischargeDepth := 40) [r21, r14, errB, l1, hlv, hlu, c1, c2, cellsOf_agg]
    have oo : ∀ a b, Old w.next w.heap ((w.heap.put w.next a).put w.next b) := fun a b => ((Old.refl _ _).put (Nat.le_refl _)).put (Nat.le_refl _)
    refine mid8 h34 h41 h38 h19 h33 hW l pl bits v u bv _ ?_ ?_ ?_ ?_ hbl hB hP ?_ w.next ?_ ?_ _ _ ?_ ?_ ?_ ?_ ?_
    case _ => exact hPW.old (w' := ⟨_, _, _⟩) (oo _ _) (Nat.le_succ _)
    case _ => exact hv.old (w' := ⟨_, _, _⟩) (oo _ _) (Nat.le_succ _)
    case _ => exact hu.old (w' := ⟨_, _, _⟩) (oo _ _) (Nat.le_succ _)
    case _ => exact hb.old (w' := ⟨_, _, _⟩) (oo _ _) (Nat.le_succ _)
    case _ => show w.lim ≤ w.next + 1; omega
    case _ => simp [wgC_cells]
    case _ => exact Nat.lt_succ_self _
    case _ => simp
    case _ => simp
    case _ => simp
    case _ => simp
    case _ => intro t w t6; simp [t6, tupV]
  · rw [weiC, if_neg hc] at r21
    rw [mc8_eq]
    simp (maxDischargeDepth := 40) [r21, r14, errB, l1, hlv, hlu, hc, zero6, rW, cellsOf_agg, tupV]
end Go.Proofs.YtbmhpgoceobbdaaDoor.walk
