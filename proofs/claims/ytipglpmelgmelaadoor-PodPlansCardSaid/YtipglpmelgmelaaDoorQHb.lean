/- Part of a proof by a machine of ones own: see the text with the theorem. -/
import Derived.Test.YtipglpmelgmelaaDoorQHa
namespace Go.Proofs.YtipglpmelgmelaaDoor.walk
open Go Go.Sh
open known (partsC laidL noOv)
set_option maxRecDepth 100000
/-! the specification's spans: all truths, one by one -/
def sixC (e : Yl × Yl) : List Value := [.int .i64 e.1.ripe, .int .i64 e.2.ripe, .int .i64 e.1.green, .int .i64 e.2.green, .int .i64 e.1.split, .int .i64 e.2.split]
@[simp] theorem sixC_length (e : Yl × Yl) : (sixC e).length = 6 := by simp [sixC]
@[simp] theorem sixC_singles (e : Yl × Yl) : singles (sixC e) = true := by simp [sixC]
@[simp] theorem sixC_take (e : Yl × Yl) : (sixC e).take 6 = sixC e := by simp [sixC]
@[simp] theorem sixC_drop (e : Yl × Yl) : (sixC e).drop 6 = [] := by simp [sixC]
def inN (p : Pod) (d r : Int) : Nat → List Yl
  | 0 => []
  | k + 1 => inN p d r k ++ [ylI p.born d r (p.hl + k) p.gl, ylI p.born d r (p.hl + k) p.gh]
def outN (p : Pod) (d : Int) : Nat → List Yl
  | 0 => []
  | k + 1 => outN p d k ++ inN p d (p.rl + k) (p.hh - p.hl + 1).toNat
theorem inN_mem {p : Pod} {d r : Int} {y : Yl} : ∀ {n : Nat}, y ∈ inN p d r n ↔ ∃ k : Nat, k < n ∧ (y = ylI p.born d r (p.hl + k) p.gl ∨ y = ylI p.born d r (p.hl + k) p.gh)
  | 0 => by constructor <;> intro h <;> simp [inN] at h
  | n + 1 => by
    unfold inN
    rw [List.mem_append, inN_mem]
    constructor
    · rintro (⟨k, h1, h2⟩ | h)
      · exact ⟨k, by omega, h2⟩
      · exact ⟨n, by omega, by simpa using h⟩
    · rintro ⟨k, h1, h2⟩
      rcases Nat.lt_or_ge k n with h | h
      · exact .inl ⟨k, h, h2⟩
      · obtain rfl : k = n := by omega
        exact .inr (by simpa using h2)
theorem outN_mem {p : Pod} {d : Int} {y : Yl} : ∀ {n : Nat}, y ∈ outN p d n ↔ ∃ k : Nat, k < n ∧ y ∈ inN p d (p.rl + k) (p.hh - p.hl + 1).toNat
  | 0 => by constructor <;> intro h <;> simp [outN] at h
  | n + 1 => by
    unfold outN
    rw [List.mem_append, outN_mem]
    constructor
    · rintro (⟨k, h1, h2⟩ | h)
      · exact ⟨k, by omega, h2⟩
      · exact ⟨n, by omega, h⟩
    · rintro ⟨k, h1, h2⟩
      rcases Nat.lt_or_ge k n with h | h
      · exact .inl ⟨k, h, h2⟩
      · obtain rfl : k = n := by omega
        exact .inr h2
def firstY (p : Pod) (d : Int) : Yl := ylI p.born d p.rl p.hl p.gl
def allY (p : Pod) (d : Int) : List Yl := firstY p d :: outN p d (p.rh - p.rl + 1).toNat
theorem allY_mem {p : Pod} (hp : podB p = true) {d : Int} {y : Yl} : y ∈ allY p d ↔ allT p.born d p.rl p.rh p.hl p.hh p.gl p.gh y := by
  have k := pod_ok hp
  have := k.r1; have := k.h1
  unfold allY
  rw [List.mem_cons, outN_mem]
  constructor
  · rintro (rfl | ⟨i, h1, h2⟩)
    · exact ⟨_, _, _, Int.le_refl _, by omega, Int.le_refl _, by omega, .inl rfl, rfl⟩
    · obtain ⟨j, h3, h4⟩ := inN_mem.1 h2
      rcases h4 with rfl | rfl
      · exact ⟨_, _, _, by omega, by omega, by omega, by omega, .inl rfl, rfl⟩
      · exact ⟨_, _, _, by omega, by omega, by omega, by omega, .inr rfl, rfl⟩
  · rintro ⟨r, h, g, h1, h2, h3, h4, h5, rfl⟩
    refine .inr ⟨(r - p.rl).toNat, by omega, inN_mem.2 ⟨(h - p.hl).toNat, by omega, ?_⟩⟩
    rw [show p.rl + ((r - p.rl).toNat : Int) = r by omega, show p.hl + ((h - p.hl).toNat : Int) = h by omega]
    rcases h5 with rfl | rfl
    · exact .inl rfl
    · exact .inr rfl
theorem Tight.congr {lo hi : Int} {S T : Int → Prop} (h : Tight lo hi S) (k : ∀ x, S x ↔ T x) : Tight lo hi T := ⟨(k _).1 h.1, (k _).1 h.2.1, fun x hx => h.2.2 x ((k x).2 hx)⟩
/-- the ends of all truths are those of the corners -/
theorem six_eq {p : Pod} {d : Int} (hp : podDay p d) : sixC (endsY (allY p d)) = sixC (endsY (podS p d)) := by
  have k := pod_ok hp.1
  have hd := plan_day hp.2
  have hne : allY p d ≠ [] := List.cons_ne_nil _ _
  have cg : ∀ c : Yl → Int, ∀ x, (∃ y ∈ allY p d, c y = x) ↔ (∃ y, allT p.born d p.rl p.rh p.hl p.hh p.gl p.gh y ∧ c y = x) := fun c x => by
    constructor
    · rintro ⟨y, h1, h2⟩; exact ⟨y, (allY_mem hp.1).1 h1, h2⟩
    · rintro ⟨y, h1, h2⟩; exact ⟨y, (allY_mem hp.1).2 h1, h2⟩
  obtain ⟨e1, e2⟩ := (Tight.congr (ends_ripe hne) (cg _)).uniq (all_ripe k hd)
  obtain ⟨e3, e4⟩ := (Tight.congr (ends_green hne) (cg _)).uniq (all_green k hd)
  obtain ⟨e5, e6⟩ := (Tight.congr (ends_split hne) (cg _)).uniq (all_split k)
  unfold sixC podS
  rw [e1, e2, e3, e4, e5, e6]
/-- the boxes of the specification's weigh -/
structure In57 (w0 : AW) (p : Pod) (e : Yl × Yl) (w : AW) : Prop where
  base : Base w0.heap w0.next (podC p) 30 w
  res : w.heap.get (w0.next + 1) = some (.cells zero6 41 false)
  acc : w.heap.get (w0.next + 3) = some (.cells (sixC e) 41 false)
  next : w0.next + 3 < w.next
theorem In57.step {w0 w w1 : AW} {p : Pod} {e e' : Yl × Yl} (hw : In57 w0 p e w) (h1 : ∀ x, x < w.next → w1.heap.get x = w.heap.get x) (h2 : w.next ≤ w1.next) (h3 : w1.lim = w.lim) :
    In57 w0 p e' ⟨w1.heap.put (w0.next + 3) (some (.cells (sixC e') 41 false)), w1.next, w1.lim⟩ := by
  have hn := hw.next
  refine ⟨⟨fun b hb => ?_, ?_, by show w0.next < w1.next; omega, by show w1.lim ≤ w0.next; rw [h3]; exact hw.base.lim⟩, ?_, ?_, by show w0.next + 3 < w1.next; omega⟩
  · show (w1.heap.put (w0.next + 3) _).get b = _
    rw [get_put, if_neg (by omega), h1 b (by omega), hw.base.old b hb]
  · show (w1.heap.put (w0.next + 3) _).get w0.next = _
    rw [get_put, if_neg (by omega), h1 _ (by omega), hw.base.box]
  · show (w1.heap.put (w0.next + 3) _).get (w0.next + 1) = _
    rw [get_put, if_neg (by omega), h1 _ (by omega), hw.res]
  · show (w1.heap.put (w0.next + 3) _).get (w0.next + 3) = _
    rw [get_put, if_pos rfl]
theorem split_g (born d r h g g' : Int) : (ylI born d r h g).split = (ylI born d r h g').split := by
  unfold ylI
  split
  · rfl
  · split
    · rfl
    · split <;> rfl
set_option maxHeartbeats 4000000 in
theorem loop57b {ov : Ov} (h55 : HasP ov 55 F55) (h78 : HasP ov 78 F78) (p : Pod) (d : Int) (hp : podDay p d) (w0 : AW) (i : Nat) (hi : p.rl + i ≤ p.rh) (e0 : Yl × Yl)
    (Q : Ex → Tm → AW → Prop) (t : Tm) (w : AW) (hw : In57 w0 p e0 w)
    (t1 : tget t 1 = .int .i64 d) (t2 : tget t 2 = .pointer (some ⟨w0.next, 0, none⟩)) (t4 : tget t 4 = .pointer (some ⟨w0.next + 1, 0, none⟩)) (t6 : tget t 6 = .pointer (some ⟨w0.next + 3, 0, none⟩)) (t7 : tget t 7 = .int .i64 (p.rl + i)) (t8 : tget t 8 = .int .i64 p.hl)
    (hQ : ∀ t w, In57 w0 p ((inN p d (p.rl + i) (p.hh - p.hl + 1).toNat).foldl stepE e0) w → tget t 1 = .int .i64 d → tget t 2 = .pointer (some ⟨w0.next, 0, none⟩) → tget t 4 = .pointer (some ⟨w0.next + 1, 0, none⟩) → tget t 6 = .pointer (some ⟨w0.next + 3, 0, none⟩) → tget t 7 = .int .i64 (p.rl + i) → Q (.exit 2) t w) :
    wp (exM Tryd.prog (run Tryd.prog ov 1) (.loop mc57_l1) t w) Q := by
  have k := pod_ok hp.1
  have kh0 := k.h0; have kh1 := k.h1; have kh2 := k.h2; have kr0 := k.r0; have kr2 := k.r2; have kg0 := k.g0; have kg1 := k.g1; have kg2 := k.g2
  obtain ⟨n, hn⟩ : ∃ n, n = (p.hh - p.hl + 1).toNat := ⟨_, rfl⟩
  rw [← hn] at hQ
  refine wp_rounds (fun j t w => In57 w0 p ((inN p d (p.rl + i) j).foldl stepE e0) w ∧ tget t 1 = .int .i64 d ∧ tget t 2 = .pointer (some ⟨w0.next, 0, none⟩) ∧ tget t 4 = .pointer (some ⟨w0.next + 1, 0, none⟩) ∧ tget t 6 = .pointer (some ⟨w0.next + 3, 0, none⟩) ∧ tget t 7 = .int .i64 (p.rl + i) ∧ tget t 8 = .int .i64 (p.hl + j) ∧ j ≤ n) 200 (by decide)
    ⟨hw, t1, t2, t4, t6, t7, by simpa using t8, Nat.zero_le _⟩ ?_
  clear t1 t2 t4 t6 t7 t8 hw
  rintro j t w ⟨hw, t1, t2, t4, t6, t7, t8, hj⟩
  have hbox := hw.base.box
  have k5 : ∀ h, (podC p)[5]'h = .int .i64 p.hh := fun _ => rfl
  by_cases hlt : j < n
  · have k6 : ∀ h, (podC p)[6]'h = .int .i64 p.gl := fun _ => rfl
    have k7 : ∀ h, (podC p)[7]'h = .int .i64 p.gh := fun _ => rfl
    have c1 : p.hl + (j : Int) ≤ p.hh := by omega
    have hnum : ∀ g, (g = p.gl ∨ g = p.gh) → numB p d (p.rl + i) (p.hl + j) g = true := fun g hg => by
      refine num_of hp.1 hp.2 ?_
      simp only [truthOk, inI, Bool.and_eq_true, decide_eq_true_eq]
      omega
    have ra := fun w => rule55 h55 (hnum p.gl (.inl rfl)) hp.2 0 w
    have rb := fun w => rule55 h55 (hnum p.gh (.inr rfl)) hp.2 0 w
    have r78 := rule78 h78
    simp only [Nat.zero_add] at ra rb
    obtain ⟨e, he⟩ : ∃ e, e = (inN p d (p.rl + i) j).foldl stepE e0 := ⟨_, rfl⟩
    obtain ⟨a, ha⟩ : ∃ a, a = ylI p.born d (p.rl + i) (p.hl + j) p.gl := ⟨_, rfl⟩
    obtain ⟨b, hb⟩ : ∃ b, b = ylI p.born d (p.rl + i) (p.hl + j) p.gh := ⟨_, rfl⟩
    simp only [← ha] at ra
    simp only [← hb] at rb
    have hsp : a.split = b.split := by rw [ha, hb]; exact split_g _ _ _ _ _ _
    have hfold : (inN p d (p.rl + i) (j + 1)).foldl stepE e0 = stepE (stepE e a) b := by
      show (inN p d (p.rl + i) j ++ _).foldl stepE e0 = _
      rw [List.foldl_append, ← he, ← ha, ← hb]; rfl
    have hacc := hw.acc
    rw [← he] at hacc hw
    have n3 := hw.next
    have hlim := hw.base.lim
    have hl1 : w.lim ≤ w.next := by omega
    have hl2 : w.lim ≤ w.next + 1 := by omega
    have hl3 : w.lim ≤ w0.next + 3 := by omega
    have m0 : ¬ w0.next = w.next := by omega
    have m1 : ¬ w0.next = w.next + 1 := by omega
    have m2 : ¬ w0.next + 3 = w.next := by omega
    have m3 : ¬ w0.next + 3 = w.next + 1 := by omega
    have m4 : ¬ w.next = w0.next + 3 := by omega
    have m5 : ¬ w.next + 1 = w0.next + 3 := by omega
    have w1 : IntKind.wrap .i64 (p.hl + (j : Int) + 1) = p.hl + (j : Int) + 1 := wrap64_in (by omega) (by omega)
    have hsix : sixC (stepE (stepE e a) b) = [.int .i64 (min e.1.ripe (min a.ripe b.ripe)), .int .i64 (max e.2.ripe (max a.ripe b.ripe)), .int .i64 (min e.1.green (min a.green b.green)), .int .i64 (max e.2.green (max a.green b.green)), .int .i64 (min e.1.split a.split), .int .i64 (max e.2.split a.split)] := by
      unfold sixC stepE
      simp only
      rw [← hsp, Int.min_assoc, Int.min_assoc, Int.min_assoc, Int.max_assoc, Int.max_assoc, Int.max_assoc, Int.min_self, Int.max_self]
    have sv := fun x y => same_ints [x, y]
    simp only [List.map_cons, List.map_nil] at sv
    simp [mc57_l1, t1, t2, t4, t6, t7, t8, hbox, k5, k6, k7, c1, ra, rb, r78, hacc, sixC, same_pod, sv, cellsOf_agg, hl1, hl2, hl3, m0, m1, m2, m3, m4, m5, ylC, w1]
    refine ⟨by omega, ?_, by omega, by omega⟩
    have hst := hw.step (e' := stepE (stepE e a) b) (w1 := ⟨(((w.heap.put w.next (some (.cells [.int .i64 0, .int .i64 0, .int .i64 0, .int .i64 0] 37 false))).put (w.next + 1) (some (.cells [.int .i64 0, .int .i64 0, .int .i64 0, .int .i64 0] 37 false))).put w.next (some (.cells (ylC a) 37 false))).put (w.next + 1) (some (.cells (ylC b) 37 false)), w.next + 1 + 1, w.lim⟩)
      (fun x hx => by show ((((w.heap.put w.next _).put (w.next + 1) _).put w.next _).put (w.next + 1) _).get x = _; rw [get_put, if_neg (by omega), get_put, if_neg (by omega), get_put, if_neg (by omega), get_put, if_neg (by omega)]) (by show w.next ≤ w.next + 1 + 1; omega) rfl
    rw [hsix] at hst
    rw [hfold]
    exact hst
  · have hj' : j = n := by omega
    subst hj'
    have c1 : ¬ p.hl + (j : Int) ≤ p.hh := by omega
    simp [mc57_l1, t2, t8, hbox, k5, c1]
    exact hQ _ _ hw (by simp [t1]) (by simp [t2]) (by simp [t4]) (by simp [t6]) (by simp [t7])
theorem loop57a {ov : Ov} (h55 : HasP ov 55 F55) (h78 : HasP ov 78 F78) (p : Pod) (d : Int) (hp : podDay p d) (w0 : AW) (e0 : Yl × Yl)
    (Q : Ex → Tm → AW → Prop) (t : Tm) (w : AW) (hw : In57 w0 p e0 w)
    (t1 : tget t 1 = .int .i64 d) (t2 : tget t 2 = .pointer (some ⟨w0.next, 0, none⟩)) (t4 : tget t 4 = .pointer (some ⟨w0.next + 1, 0, none⟩)) (t6 : tget t 6 = .pointer (some ⟨w0.next + 3, 0, none⟩)) (t7 : tget t 7 = .int .i64 p.rl)
    (hQ : ∀ t w, In57 w0 p ((outN p d (p.rh - p.rl + 1).toNat).foldl stepE e0) w → tget t 4 = .pointer (some ⟨w0.next + 1, 0, none⟩) → tget t 6 = .pointer (some ⟨w0.next + 3, 0, none⟩) → Q (.exit 0) t w) :
    wp (exM Tryd.prog (run Tryd.prog ov 1) (.loop mc57_l0) t w) Q := by
  have k := pod_ok hp.1
  have kr0 := k.r0; have kr1 := k.r1; have kr2 := k.r2
  obtain ⟨n, hn⟩ : ∃ n, n = (p.rh - p.rl + 1).toNat := ⟨_, rfl⟩
  rw [← hn] at hQ
  refine wp_rounds (fun i t w => In57 w0 p ((outN p d i).foldl stepE e0) w ∧ tget t 1 = .int .i64 d ∧ tget t 2 = .pointer (some ⟨w0.next, 0, none⟩) ∧ tget t 4 = .pointer (some ⟨w0.next + 1, 0, none⟩) ∧ tget t 6 = .pointer (some ⟨w0.next + 3, 0, none⟩) ∧ tget t 7 = .int .i64 (p.rl + i) ∧ i ≤ n) 1000 (by decide)
    ⟨hw, t1, t2, t4, t6, by simpa using t7, Nat.zero_le _⟩ ?_
  clear t1 t2 t4 t6 t7 hw
  rintro i t w ⟨hw, t1, t2, t4, t6, t7, hi⟩
  have hbox := hw.base.box
  have k3 : ∀ h, (podC p)[3]'h = .int .i64 p.rh := fun _ => rfl
  by_cases hlt : i < n
  · have k4 : ∀ h, (podC p)[4]'h = .int .i64 p.hl := fun _ => rfl
    have c1 : p.rl + (i : Int) ≤ p.rh := by omega
    have w1 : IntKind.wrap .i64 (p.rl + (i : Int) + 1) = p.rl + (i : Int) + 1 := wrap64_in (by omega) (by omega)
    have hout : (outN p d (i + 1)).foldl stepE e0 = (inN p d (p.rl + i) (p.hh - p.hl + 1).toNat).foldl stepE ((outN p d i).foldl stepE e0) := by
      show (outN p d i ++ _).foldl stepE e0 = _
      rw [List.foldl_append]
    simp [mc57_l0, t1, t2, t4, t6, t7, hbox, k3, k4, c1]
    refine wp_seqX (wp_blockX (wp_blockX (loop57b h55 h78 p d hp w0 i c1 _ _ _ _ hw ?_ ?_ ?_ ?_ ?_ ?_ ?_)))
    · simp [t1]
    · simp [t2]
    · simp [t4]
    · simp [t6]
    · simp [t7]
    · simp
    · intro t w hI s1 s2 s4 s6 s7
      simp [s1, s2, s4, s6, s7, w1]
      rw [← hout] at hI
      exact ⟨by omega, hI, by omega, by omega⟩
  · have hi' : i = n := by omega
    subst hi'
    have c1 : ¬ p.rl + (i : Int) ≤ p.rh := by omega
    simp [mc57_l0, t2, t7, hbox, k3, c1]
    exact hQ _ _ hw (by simp [t4]) (by simp [t6])
set_option maxHeartbeats 2000000 in
theorem run57 {ov : Ov} (ho : ∀ args w, ov 57 args w = none) (h55 : HasP ov 55 F55) (h78 : HasP ov 78 F78) (p : Pod) (d : Int) (hp : podDay p d) (w : AW) (hl : w.lim = w.next) :
    ∃ x w', (run Tryd.prog ov 2).call 57 [.agg ⟨podC p⟩, .int .i64 d] w .none = .ok (.ret x) w' .none ∧ x = .agg ⟨sixC (endsY (podS p d))⟩ := by
  refine call_wp text57 (by simp) (ho _ _) ?_
  have k := pod_ok hp.1
  have kr1 := k.r1; have kh1 := k.h1; have kg1 := k.g1
  have k2 : ∀ h, (podC p)[2]'h = .int .i64 p.rl := fun _ => rfl
  have k4 : ∀ h, (podC p)[4]'h = .int .i64 p.hl := fun _ => rfl
  have k6 : ∀ h, (podC p)[6]'h = .int .i64 p.gl := fun _ => rfl
  have hnum : numB p d p.rl p.hl p.gl = true := by
    refine num_of hp.1 hp.2 ?_
    simp only [truthOk, inI, Bool.and_eq_true, decide_eq_true_eq]
    omega
  have ra := fun w => rule55 h55 hnum hp.2 0 w
  simp only [Nat.zero_add] at ra
  obtain ⟨a, ha⟩ : ∃ a, a = firstY p d := ⟨_, rfl⟩
  have ra' : ∀ w, (run Tryd.prog ov 1).call 55 [.agg ⟨podC p⟩, .int .i64 d, .int .i64 p.rl, .int .i64 p.hl, .int .i64 p.gl] w .none = .ok (.ret (.agg ⟨ylC a⟩)) w .none := fun w => by rw [ha]; exact ra w
  have hl1 : w.lim ≤ w.next + 2 := by omega
  have hl2 : w.lim ≤ w.next + 3 := by omega
  have hl3 : w.lim ≤ w.next + 1 := by omega
  simp [mc57, k2, k4, k6, ra', ylC, hl1, hl2, cellsOf_agg]
  refine wp_seqX (wp_blockX (loop57a h55 h78 p d hp w (a, a) _ _ _ ⟨⟨?_, ?_, ?_, ?_⟩, ?_, ?_, ?_⟩ ?_ ?_ ?_ ?_ ?_ ?_))
  · intro x hx
    have q1 : ¬ x = w.next := by omega
    have q2 : ¬ x = w.next + 1 := by omega
    have q3 : ¬ x = w.next + 2 := by omega
    have q4 : ¬ x = w.next + 3 := by omega
    simp only [get_put]
    simp [q1, q2, q3, q4]
  · simp
  · simp; try omega
  · simp [hl]
  · simp [zero6]
  · simp [sixC]
  · simp; try omega
  · simp
  · simp
  · simp
  · simp
  · simp
  · intro t w' hI s4 s6
    have hfin : (outN p d (p.rh - p.rl + 1).toNat).foldl stepE (a, a) = endsY (allY p d) := by rw [ha]; rfl
    have hsix := six_eq hp
    rw [hfin] at hI
    have hacc := hI.acc
    have hres := hI.res
    rw [hsix] at hacc
    have hlim : w'.lim ≤ w.next + 1 := by have := hI.base.lim; omega
    simp [s4, s6, hacc, hres, hlim, zero6, tupV, cellsOf_agg]
open Classical in
noncomputable def F57 : PureF := fun args _ => match args with | [.agg ⟨l⟩, .int .i64 d] => (podOf l).bind fun p => if podDay p d then some (.agg ⟨sixC (endsY (podS p d))⟩) else none | _ => none
end Go.Proofs.YtipglpmelgmelaaDoor.walk

namespace Go.Proofs.YtipglpmelgmelaaDoor.walk
open Go Go.Sh
open known (partsC laidL noOv)
set_option maxRecDepth 100000
structure In22 (w0 : AW) (e : Yl × Yl) (w : AW) : Prop where
  base : Base w0.heap w0.next zero6 41 w
  acc : w.heap.get (w0.next + 1) = some (.cells (sixC e) 41 false)
  next : w0.next + 1 < w.next
theorem In22.step {w0 w w1 : AW} {e e' : Yl × Yl} (hw : In22 w0 e w) (h1 : ∀ x, x < w.next → w1.heap.get x = w.heap.get x) (h2 : w.next ≤ w1.next) (h3 : w1.lim = w.lim) :
    In22 w0 e' ⟨w1.heap.put (w0.next + 1) (some (.cells (sixC e') 41 false)), w1.next, w1.lim⟩ := by
  have hn := hw.next
  refine ⟨⟨fun b hb => ?_, ?_, by show w0.next < w1.next; omega, by show w1.lim ≤ w0.next; rw [h3]; exact hw.base.lim⟩, ?_, by show w0.next + 1 < w1.next; omega⟩
  · show (w1.heap.put (w0.next + 1) _).get b = _
    rw [get_put, if_neg (by omega), h1 b (by omega), hw.base.old b hb]
  · show (w1.heap.put (w0.next + 1) _).get w0.next = _
    rw [get_put, if_neg (by omega), h1 _ (by omega), hw.base.box]
  · show (w1.heap.put (w0.next + 1) _).get (w0.next + 1) = _
    rw [get_put, if_pos rfl]
end Go.Proofs.YtipglpmelgmelaaDoor.walk

namespace Go.Proofs.YtipglpmelgmelaaDoor.walk
open Go Go.Sh
open known (partsC laidL noOv)
set_option maxRecDepth 100000
@[simp] theorem old_same (n : Nat) (H : T AObj) : Old n H H := Old.refl n H
@[simp] theorem old_put {n k : Nat} {H H' : T AObj} {o : Option AObj} (h : Old n H H') (hk : n ≤ k) : Old n H (H'.put k o) := h.put hk
end Go.Proofs.YtipglpmelgmelaaDoor.walk
