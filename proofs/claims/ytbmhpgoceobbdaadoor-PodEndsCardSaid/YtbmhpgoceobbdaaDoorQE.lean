/- Part of a proof by a machine of ones own: see the text with the theorem. -/
import Derived.Test.YtbmhpgoceobbdaaDoorQHb
namespace Go.Proofs.YtbmhpgoceobbdaaDoor.walk
open Go Go.Sh
open known (partsC laidL noOv)
set_option maxRecDepth 100000
set_option linter.unusedSimpArgs false
/-! what PodEnds does with all truths of a pod -/
noncomputable def F35 : PureF := fun args _ => match args with | [.int .i64 a, .int .i64 b] => some (.agg ⟨[.int .i64 a, .int .i64 b]⟩) | _ => none
theorem rule35 {ov : Ov} (k : HasP ov 35 F35) (a b : Int) (w : AW) : (run Tryd.prog ov 1).call 35 [.int .i64 a, .int .i64 b] w .none = .ok (.ret (.agg ⟨[.int .i64 a, .int .i64 b]⟩)) w .none := k.call rfl
theorem run35 {ov : Ov} (ho : ∀ args w, ov 35 args w = none) (a b : Int) (w : AW) (hl : w.lim ≤ w.next) : ∃ v w', (run Tryd.prog ov 2).call 35 [.int .i64 a, .int .i64 b] w .none = .ok (.ret v) w' .none ∧ v = .agg ⟨[.int .i64 a, .int .i64 b]⟩ := by
  refine call_wp text35 (by simp) (ho _ _) ?_
  simp [mc35, hl, tupV]
theorem outAll_mem {p : Pod} (hp : podB p = true) {d : Int} {y : Yl} : y ∈ outN p d (p.rh - p.rl + 1).toNat ↔ allT p.born d p.rl p.rh p.hl p.hh p.gl p.gh y := by
  have k := pod_ok hp
  have := k.r1; have := k.h1
  rw [outN_mem]
  constructor
  · rintro ⟨i, h1, h2⟩
    obtain ⟨j, h3, h4⟩ := inN_mem.1 h2
    rcases h4 with rfl | rfl
    · exact ⟨_, _, _, by omega, by omega, by omega, by omega, .inl rfl, rfl⟩
    · exact ⟨_, _, _, by omega, by omega, by omega, by omega, .inr rfl, rfl⟩
  · rintro ⟨r, h, g, h1, h2, h3, h4, h5, rfl⟩
    refine ⟨(r - p.rl).toNat, by omega, inN_mem.2 ⟨(h - p.hl).toNat, by omega, ?_⟩⟩
    rw [show p.rl + ((r - p.rl).toNat : Int) = r by omega, show p.hl + ((h - p.hl).toNat : Int) = h by omega]
    rcases h5 with rfl | rfl
    · exact .inl rfl
    · exact .inr rfl
theorem outAll_ne {p : Pod} (hp : podB p = true) (d : Int) : outN p d (p.rh - p.rl + 1).toNat ≠ [] := by
  have k := pod_ok hp
  exact List.ne_nil_of_mem ((outAll_mem hp).2 ⟨p.rl, p.hl, p.gl, Int.le_refl _, k.r1, Int.le_refl _, k.h1, .inl rfl, rfl⟩)
theorem six_out {p : Pod} {d : Int} (hp : podDay p d) : sixC (endsY (outN p d (p.rh - p.rl + 1).toNat)) = sixC (endsY (podS p d)) := by
  have k := pod_ok hp.1
  have hd := plan_day hp.2
  have hne := outAll_ne hp.1 d
  have cg : ∀ c : Yl → Int, ∀ x, (∃ y ∈ outN p d (p.rh - p.rl + 1).toNat, c y = x) ↔ (∃ y, allT p.born d p.rl p.rh p.hl p.hh p.gl p.gh y ∧ c y = x) := fun c x => by
    constructor
    · rintro ⟨y, h1, h2⟩; exact ⟨y, (outAll_mem hp.1).1 h1, h2⟩
    · rintro ⟨y, h1, h2⟩; exact ⟨y, (outAll_mem hp.1).2 h1, h2⟩
  obtain ⟨e1, e2⟩ := (Tight.congr (ends_ripe hne) (cg _)).uniq (all_ripe k hd)
  obtain ⟨e3, e4⟩ := (Tight.congr (ends_green hne) (cg _)).uniq (all_green k hd)
  obtain ⟨e5, e6⟩ := (Tight.congr (ends_split hne) (cg _)).uniq (all_split k)
  unfold sixC podS
  rw [e1, e2, e3, e4, e5, e6]
theorem ends_snoc {l : List Yl} (h : l ≠ []) (y : Yl) : endsY (l ++ [y]) = stepE (endsY l) y := by
  cases l with
  | nil => exact absurd rfl h
  | cons z l => show (l ++ [y]).foldl stepE (z, z) = _; rw [List.foldl_append]; rfl
/-- the boxes of PodEnds -/
structure In9 (w0 : AW) (p : Pod) (sC : List Value) (seen : List Yl) (w : AW) : Prop where
  base : Base w0.heap w0.next (podC p) 30 w
  pods : w.heap.get (w0.next + 1) = some (.cells (podC p) 30 false)
  sum : w.heap.get (w0.next + 3) = some (.cells sC 41 false)
  all : ∃ cur : List Value, w.heap.get (w0.next + 4) = some (.cells cur 41 false) ∧ (∃ a b c d e f : Int, cur = [.int .i64 a, .int .i64 b, .int .i64 c, .int .i64 d, .int .i64 e, .int .i64 f]) ∧ (seen ≠ [] → cur = sixC (endsY seen))
  next : w0.next + 4 < w.next
theorem In9.step {w0 w w1 : AW} {p : Pod} {sC : List Value} {seen seen' : List Yl} (hw : In9 w0 p sC seen w) (h1 : ∀ x, x < w.next → x ≠ w0.next + 4 → w1.heap.get x = w.heap.get x) (h2 : w.next ≤ w1.next) (h3 : w1.lim = w.lim) {e' : Yl × Yl} (he : sixC e' = sixC (endsY seen')) :
    In9 w0 p sC seen' ⟨w1.heap.put (w0.next + 4) (some (.cells (sixC e') 41 false)), w1.next, w1.lim⟩ := by
  have hn := hw.next
  refine ⟨⟨fun b hb => ?_, ?_, by show w0.next < w1.next; omega, by show w1.lim ≤ w0.next; rw [h3]; exact hw.base.lim⟩, ?_, ?_, ⟨sixC e', ?_, ⟨_, _, _, _, _, _, rfl⟩, fun _ => he⟩, by show w0.next + 4 < w1.next; omega⟩
  · show (w1.heap.put (w0.next + 4) _).get b = _
    rw [get_put, if_neg (by omega), h1 b (by omega) (by omega), hw.base.old b hb]
  · show (w1.heap.put (w0.next + 4) _).get w0.next = _
    rw [get_put, if_neg (by omega), h1 _ (by omega) (by omega), hw.base.box]
  · show (w1.heap.put (w0.next + 4) _).get (w0.next + 1) = _
    rw [get_put, if_neg (by omega), h1 _ (by omega) (by omega), hw.pods]
  · show (w1.heap.put (w0.next + 4) _).get (w0.next + 3) = _
    rw [get_put, if_neg (by omega), h1 _ (by omega) (by omega), hw.sum]
  · show (w1.heap.put (w0.next + 4) _).get (w0.next + 4) = _
    rw [get_put, if_pos rfl]
/-- the harvest of one pod -/
theorem har_one {p : Pod} {d r h g : Int} (hp : podsB [p] = true) (hd : planB [p] [d] = true) (ht : truthOk p r h g = true) : harE [p] [d] [r] [h] [g] = 0 ∧ harY [p] [d] [r] [h] [g] = ylI p.born d r h g := by
  have hT : truthB [p] [r] [h] [g] = true := by simp [truthB, truthTo, ht]
  have e : harE [p] [d] [r] [h] [g] = 0 := by simp [harE, chkE, hp, hd, hT]
  refine ⟨e, ?_⟩
  unfold harY
  rw [if_pos e]
  show sumYl [ylI p.born d r h g] = _
  simp [sumYl, sY]
def fstB (l : List Yl) : Bool := match l with | [] => true | _ => false
theorem fst_nil : fstB [] = true := rfl
theorem fst_cons (z : Yl) (l : List Yl) : fstB (z :: l) = false := rfl
set_option maxHeartbeats 4000000 in
theorem loop9c {ov : Ov} (h19 : HasP ov 19 F19) (h35 : HasP ov 35 F35) (p : Pod) (d : Int) (hB : podsB [p] = true) (hP : planB [p] [d] = true) (w0 : AW) (hPW : PartsW w0) (sC : List Value) (r h : Int) (hr1 : p.rl ≤ r) (hr2 : r ≤ p.rh) (hh1 : p.hl ≤ h) (hh2 : h ≤ p.hh) (acc : List Yl)
    (Q : Ex → Tm → AW → Prop) (t : Tm) (w : AW) (hw : In9 w0 p sC acc w)
    (t1 : tget t 1 = .int .i64 d) (t2 : tget t 2 = .pointer (some ⟨w0.next, 0, none⟩)) (t5 : tget t 5 = .slice (some ⟨w0.next + 1, 0, none⟩) 1 1) (t6 : tget t 6 = .pointer (some ⟨w0.next + 3, 0, none⟩)) (t8 : tget t 8 = .bool (fstB acc)) (t9 : tget t 9 = .pointer (some ⟨w0.next + 4, 0, none⟩)) (t10 : tget t 10 = .int .i64 r) (t11 : tget t 11 = .int .i64 h) (t12 : tget t 12 = .int .i64 0)
    (hQ : ∀ t w, In9 w0 p sC (acc ++ [ylI p.born d r h p.gl, ylI p.born d r h p.gh]) w → tget t 1 = .int .i64 d → tget t 2 = .pointer (some ⟨w0.next, 0, none⟩) → tget t 5 = .slice (some ⟨w0.next + 1, 0, none⟩) 1 1 → tget t 6 = .pointer (some ⟨w0.next + 3, 0, none⟩) → tget t 8 = .bool false → tget t 9 = .pointer (some ⟨w0.next + 4, 0, none⟩) → tget t 10 = .int .i64 r → tget t 11 = .int .i64 h → Q (.exit 4) t w) :
    wp (exM Tryd.prog (run Tryd.prog ov 1) (.loop mc9_l2) t w) Q := by
  obtain ⟨L2, hL2⟩ : ∃ L2, L2 = [ylI p.born d r h p.gl, ylI p.born d r h p.gh] := ⟨_, rfl⟩
  rw [← hL2] at hQ
  have hl2 : L2.length = 2 := by rw [hL2]; rfl
  have hpb : podB p = true := pods_all hB (i := 0) rfl
  have k := pod_ok hpb
  have kg1 := k.g1
  have k6 : ∀ h, (podC p)[6]'h = .int .i64 p.gl := fun _ => rfl
  have k7 : ∀ h, (podC p)[7]'h = .int .i64 p.gh := fun _ => rfl
  refine wp_rounds (fun j t w => In9 w0 p sC (acc ++ L2.take j) w ∧ tget t 1 = .int .i64 d ∧ tget t 2 = .pointer (some ⟨w0.next, 0, none⟩) ∧ tget t 5 = .slice (some ⟨w0.next + 1, 0, none⟩) 1 1 ∧ tget t 6 = .pointer (some ⟨w0.next + 3, 0, none⟩) ∧ tget t 8 = .bool (fstB (acc ++ L2.take j)) ∧ tget t 9 = .pointer (some ⟨w0.next + 4, 0, none⟩) ∧ tget t 10 = .int .i64 r ∧ tget t 11 = .int .i64 h ∧ tget t 12 = .int .i64 (j : Nat) ∧ j ≤ 2) 20 (by decide)
    ⟨by simpa using hw, t1, t2, t5, t6, by simpa using t8, t9, t10, t11, t12, by decide⟩ ?_
  clear t1 t2 t5 t6 t8 t9 t10 t11 t12 hw
  rintro j t w ⟨hw, t1, t2, t5, t6, t8, t9, t10, t11, t12, hj⟩
  by_cases hj2 : j = 2
  · subst hj2
    have hne : fstB (acc ++ L2) = false := by
      cases acc with
      | nil => rw [hL2]; rfl
      | cons a l => rfl
    rw [List.take_of_length_le (by omega)] at hw t8
    rw [hne] at t8
    simp [mc9_l2, t12]
    exact hQ _ _ hw (by simp [t1]) (by simp [t2]) (by simp [t5]) (by simp [t6]) (by simp [t8]) (by simp [t9]) (by simp [t10]) (by simp [t11])
  · obtain ⟨g, hg, hg', htk⟩ : ∃ g, (g = p.gl ∨ g = p.gh) ∧ ([Value.int .i64 p.gl, .int .i64 p.gh] : List Value)[j]? = some (.int .i64 g) ∧ L2.take (j + 1) = L2.take j ++ [ylI p.born d r h g] := by
      have : j = 0 ∨ j = 1 := by omega
      rcases this with rfl | rfl
      · exact ⟨_, .inl rfl, rfl, by rw [hL2]; rfl⟩
      · exact ⟨_, .inr rfl, rfl, by rw [hL2]; rfl⟩
    have hjlt : (j : Int) < 2 := by omega
    have ht : truthOk p r h g = true := by
      simp only [truthOk, inI, Bool.and_eq_true, decide_eq_true_eq]
      omega
    obtain ⟨eE, eY⟩ := har_one hB hP ht
    have n4 := hw.next
    have hlim := hw.base.lim
    have hbox := hw.base.box
    obtain ⟨W, hW⟩ : ∃ W : AW, W = ⟨((((w.heap.put w.next (some (.cells [.int .i64 d] 3 false))).put (w.next + 1) (some (.cells [.int .i64 r] 3 false))).put (w.next + 1 + 1) (some (.cells [.int .i64 h] 3 false))).put (w.next + 1 + 1 + 1) (some (.cells [.int .i64 p.gl, .int .i64 p.gh] 3 false))).put (w.next + 1 + 1 + 1 + 1) (some (.cells [.int .i64 g] 3 false)), w.next + 1 + 1 + 1 + 1 + 1, w.lim⟩ := ⟨_, rfl⟩
    have hsame : ∀ x, x < w.next → W.heap.get x = w.heap.get x := fun x hx => by
      rw [hW]
      show (((((w.heap.put w.next _).put (w.next + 1) _).put (w.next + 1 + 1) _).put (w.next + 1 + 1 + 1) _).put (w.next + 1 + 1 + 1 + 1) _).get x = _
      rw [get_put, if_neg (by omega), get_put, if_neg (by omega), get_put, if_neg (by omega), get_put, if_neg (by omega), get_put, if_neg (by omega)]
    have hWn : W.next = w.next + 1 + 1 + 1 + 1 + 1 := by rw [hW]
    have hWl : W.lim = w.lim := by rw [hW]
    have hPWW : PartsW W := hPW.old (fun x hx => by rw [hsame x (by omega), hw.base.old x hx]) (by omega)
    have hpv : PodsV W (.slice (some ⟨w0.next + 1, 0, none⟩) 1 1) [p] := .inr ⟨w0.next + 1, none, 1, rfl, ⟨[], 30, false, by rw [hsame _ (by omega), hw.pods]; simp [podsC]⟩, by omega⟩
    have hone : ∀ b z, W.heap.get b = some (.cells [.int .i64 z] 3 false) → b < W.next → RowsV intC W (.slice (some ⟨b, 0, none⟩) 1 1) [z] := fun b z h1 h2 => .inr ⟨b, 0, none, 1, rfl, ⟨[], [], 3, false, by rw [h1]; rfl, rfl⟩, h2⟩
    have q0 := hone w.next d (by rw [hW]; simp) (by omega)
    have q1 := hone (w.next + 1) r (by rw [hW]; simp) (by omega)
    have q2 := hone (w.next + 1 + 1) h (by rw [hW]; simp) (by omega)
    have q3 := hone (w.next + 1 + 1 + 1 + 1) g (by rw [hW]; simp) (by omega)
    have r19 := rule19 h19 hPWW hpv.podsIn q0 q1 q2 q3 0
    rw [eE, eY] at r19
    simp only [Nat.zero_add, hW] at r19
    have r35 := rule35 h35
    obtain ⟨cur, hcur, ⟨a1, a2, a3, a4, a5, a6, hc6⟩, hce⟩ := hw.all
    obtain ⟨y, hy⟩ : ∃ y, y = ylI p.born d r h g := ⟨_, rfl⟩
    rw [← hy] at r19 htk
    have hia := fun w c => ia33 w ⟨c, 0, none⟩ 2 2 .i64 j (by omega)
    have w1 : IntKind.wrap .i64 ((j : Int) + 1) = (j : Int) + 1 := wrap64_in (by omega) (by omega)
    have l1 : w.lim ≤ w.next + 5 := by omega
    have l2 : w.lim ≤ w0.next + 4 := by omega
    have ma0 : ¬ w0.next = w.next := by omega
    have mb0 : ¬ w.next = w0.next := by omega
    have ma1 : ¬ w0.next + 1 = w.next := by omega
    have mb1 : ¬ w.next = w0.next + 1 := by omega
    have ma2 : ¬ w0.next + 2 = w.next := by omega
    have mb2 : ¬ w.next = w0.next + 2 := by omega
    have ma3 : ¬ w0.next + 3 = w.next := by omega
    have mb3 : ¬ w.next = w0.next + 3 := by omega
    have ma4 : ¬ w0.next + 4 = w.next := by omega
    have mb4 : ¬ w.next = w0.next + 4 := by omega
    have mc1_ : ¬ w0.next = w.next + 1 := by omega
    have md1 : ¬ w.next + 1 = w0.next := by omega
    have mc2_ : ¬ w0.next = w.next + 2 := by omega
    have md2 : ¬ w.next + 2 = w0.next := by omega
    have mc3_ : ¬ w0.next = w.next + 3 := by omega
    have md3 : ¬ w.next + 3 = w0.next := by omega
    have mc4_ : ¬ w0.next = w.next + 4 := by omega
    have md4 : ¬ w.next + 4 = w0.next := by omega
    have mc5_ : ¬ w0.next = w.next + 5 := by omega
    have md5 : ¬ w.next + 5 = w0.next := by omega
    have mc6_ : ¬ w0.next = w.next + 6 := by omega
    have md6 : ¬ w.next + 6 = w0.next := by omega
    have hstep : ∀ e' : Yl × Yl, sixC e' = sixC (endsY (acc ++ L2.take j ++ [y])) → ∀ w1 : AW, (∀ x, x < w.next → x ≠ w0.next + 4 → w1.heap.get x = w.heap.get x) → w.next ≤ w1.next → w1.lim = w.lim → In9 w0 p sC (acc ++ L2.take (j + 1)) ⟨w1.heap.put (w0.next + 4) (some (.cells (sixC e') 41 false)), w1.next, w1.lim⟩ := fun e' he w1 h1 h2 h3 => by
      rw [htk, ← List.append_assoc]
      exact hw.step h1 h2 h3 he
    have hfst : fstB (acc ++ L2.take (j + 1)) = false := by
      rw [htk, ← List.append_assoc]
      cases acc ++ L2.take j <;> rfl
    have sv := fun x y => same_ints [x, y]
    simp only [List.map_cons, List.map_nil] at sv
    cases hseen : acc ++ L2.take j with
    | nil =>
      rw [hseen] at t8 hstep
      simp [mc9_l2, fst_nil, hfst, t1, t2, t5, t6, t8, t9, t10, t11, t12, hjlt, hbox, k6, k7, hia, hg', r19, r35, ylC, cellsOf_agg, hcur, hc6, l1, l2, w1, sv, ma0, mb0, ma1, mb1, ma2, mb2, ma3, mb3, ma4, mb4, mc1_, md1, mc2_, md2, mc3_, md3, mc4_, md4, mc5_, md5, mc6_, md6]
      refine ⟨by omega, ?_, by omega⟩
      exact hstep (y, y) rfl ⟨(((((((w.heap.put w.next (some (.cells [.int .i64 d] 3 false))).put (w.next + 1) (some (.cells [.int .i64 r] 3 false))).put (w.next + 1 + 1) (some (.cells [.int .i64 h] 3 false))).put (w.next + 1 + 1 + 1) (some (.cells [.int .i64 p.gl, .int .i64 p.gh] 3 false))).put (w.next + 1 + 1 + 1 + 1) (some (.cells [.int .i64 g] 3 false))).put (w.next + 1 + 1 + 1 + 1 + 1) (some (.cells [.int .i64 0, .int .i64 0, .int .i64 0, .int .i64 0] 37 false))).put (w.next + 1 + 1 + 1 + 1 + 1) (some (.cells (ylC y) 37 false))).put (w0.next + 4) (some (.cells (sixC (y, y)) 41 false)), w.next + 1 + 1 + 1 + 1 + 1 + 1, w.lim⟩
        (fun x hx hx4 => by
          show ((((((((w.heap.put w.next _).put (w.next + 1) _).put (w.next + 1 + 1) _).put (w.next + 1 + 1 + 1) _).put (w.next + 1 + 1 + 1 + 1) _).put (w.next + 1 + 1 + 1 + 1 + 1) _).put (w.next + 1 + 1 + 1 + 1 + 1) _).put (w0.next + 4) _).get x = _
          rw [get_put, if_neg (by omega)]
          rw [get_put, if_neg (by omega), get_put, if_neg (by omega), get_put, if_neg (by omega), get_put, if_neg (by omega), get_put, if_neg (by omega), get_put, if_neg (by omega), get_put, if_neg (by omega)]) (by show w.next ≤ w.next + 1 + 1 + 1 + 1 + 1 + 1; omega) rfl
    | cons z zs =>
      rw [hseen] at t8 hstep hce
      obtain ⟨e, he⟩ : ∃ e, e = endsY (z :: zs) := ⟨_, rfl⟩
      have hcur' := hcur
      rw [hce (List.cons_ne_nil _ _), ← he] at hcur'
      have hfin : sixC (stepE e y) = sixC (endsY (z :: zs ++ [y])) := by rw [ends_snoc (List.cons_ne_nil _ _), he]
      unfold sixC at hcur'
      simp [mc9_l2, fst_cons, hfst, t1, t2, t5, t6, t8, t9, t10, t11, t12, hjlt, hbox, k6, k7, hia, hg', r19, r35, ylC, cellsOf_agg, hcur', l1, l2, w1, sv, ma0, mb0, ma1, mb1, ma2, mb2, ma3, mb3, ma4, mb4, mc1_, md1, mc2_, md2, mc3_, md3, mc4_, md4, mc5_, md5, mc6_, md6]
      refine ⟨by omega, ?_, by omega⟩
      exact hstep (stepE e y) hfin ⟨((((((w.heap.put w.next (some (.cells [.int .i64 d] 3 false))).put (w.next + 1) (some (.cells [.int .i64 r] 3 false))).put (w.next + 1 + 1) (some (.cells [.int .i64 h] 3 false))).put (w.next + 1 + 1 + 1) (some (.cells [.int .i64 p.gl, .int .i64 p.gh] 3 false))).put (w.next + 1 + 1 + 1 + 1) (some (.cells [.int .i64 g] 3 false))).put (w.next + 1 + 1 + 1 + 1 + 1) (some (.cells [.int .i64 0, .int .i64 0, .int .i64 0, .int .i64 0] 37 false))).put (w.next + 1 + 1 + 1 + 1 + 1) (some (.cells (ylC y) 37 false)), w.next + 1 + 1 + 1 + 1 + 1 + 1, w.lim⟩
        (fun x hx hx4 => by
          show (((((((w.heap.put w.next _).put (w.next + 1) _).put (w.next + 1 + 1) _).put (w.next + 1 + 1 + 1) _).put (w.next + 1 + 1 + 1 + 1) _).put (w.next + 1 + 1 + 1 + 1 + 1) _).put (w.next + 1 + 1 + 1 + 1 + 1) _).get x = _
          rw [get_put, if_neg (by omega), get_put, if_neg (by omega), get_put, if_neg (by omega), get_put, if_neg (by omega), get_put, if_neg (by omega), get_put, if_neg (by omega), get_put, if_neg (by omega)]) (by show w.next ≤ w.next + 1 + 1 + 1 + 1 + 1 + 1; omega) rfl
end Go.Proofs.YtbmhpgoceobbdaaDoor.walk

namespace Go.Proofs.YtbmhpgoceobbdaaDoor.walk
open Go Go.Sh
open known (partsC laidL noOv)
set_option maxRecDepth 100000
set_option linter.unusedSimpArgs false
theorem fst_app (l : List Yl) (a b : Yl) : fstB (l ++ [a, b]) = false := by cases l <;> rfl
theorem loop9b {ov : Ov} (h19 : HasP ov 19 F19) (h35 : HasP ov 35 F35) (p : Pod) (d : Int) (hB : podsB [p] = true) (hP : planB [p] [d] = true) (w0 : AW) (hPW : PartsW w0) (sC : List Value) (r : Int) (hr1 : p.rl ≤ r) (hr2 : r ≤ p.rh) (acc : List Yl)
    (Q : Ex → Tm → AW → Prop) (t : Tm) (w : AW) (hw : In9 w0 p sC acc w)
    (t1 : tget t 1 = .int .i64 d) (t2 : tget t 2 = .pointer (some ⟨w0.next, 0, none⟩)) (t5 : tget t 5 = .slice (some ⟨w0.next + 1, 0, none⟩) 1 1) (t6 : tget t 6 = .pointer (some ⟨w0.next + 3, 0, none⟩)) (t8 : tget t 8 = .bool (fstB acc)) (t9 : tget t 9 = .pointer (some ⟨w0.next + 4, 0, none⟩)) (t10 : tget t 10 = .int .i64 r) (t11 : tget t 11 = .int .i64 p.hl)
    (hQ : ∀ t w, In9 w0 p sC (acc ++ inN p d r (p.hh - p.hl + 1).toNat) w → tget t 1 = .int .i64 d → tget t 2 = .pointer (some ⟨w0.next, 0, none⟩) → tget t 5 = .slice (some ⟨w0.next + 1, 0, none⟩) 1 1 → tget t 6 = .pointer (some ⟨w0.next + 3, 0, none⟩) → tget t 8 = .bool (fstB (acc ++ inN p d r (p.hh - p.hl + 1).toNat)) → tget t 9 = .pointer (some ⟨w0.next + 4, 0, none⟩) → tget t 10 = .int .i64 r → Q (.exit 2) t w) :
    wp (exM Tryd.prog (run Tryd.prog ov 1) (.loop mc9_l1) t w) Q := by
  have k := pod_ok (pods_all hB (i := 0) (p := p) rfl)
  have kh0 := k.h0; have kh1 := k.h1; have kh2 := k.h2
  obtain ⟨n, hn⟩ : ∃ n, n = (p.hh - p.hl + 1).toNat := ⟨_, rfl⟩
  rw [← hn] at hQ
  refine wp_rounds (fun j t w => In9 w0 p sC (acc ++ inN p d r j) w ∧ tget t 1 = .int .i64 d ∧ tget t 2 = .pointer (some ⟨w0.next, 0, none⟩) ∧ tget t 5 = .slice (some ⟨w0.next + 1, 0, none⟩) 1 1 ∧ tget t 6 = .pointer (some ⟨w0.next + 3, 0, none⟩) ∧ tget t 8 = .bool (fstB (acc ++ inN p d r j)) ∧ tget t 9 = .pointer (some ⟨w0.next + 4, 0, none⟩) ∧ tget t 10 = .int .i64 r ∧ tget t 11 = .int .i64 (p.hl + j) ∧ j ≤ n) 200 (by decide)
    ⟨by simpa [inN] using hw, t1, t2, t5, t6, by simpa [inN] using t8, t9, t10, by simpa using t11, Nat.zero_le _⟩ ?_
  clear t1 t2 t5 t6 t8 t9 t10 t11 hw
  rintro j t w ⟨hw, t1, t2, t5, t6, t8, t9, t10, t11, hj⟩
  have hbox := hw.base.box
  have k5 : ∀ h, (podC p)[5]'h = .int .i64 p.hh := fun _ => rfl
  by_cases hlt : j < n
  · have c1 : p.hl + (j : Int) ≤ p.hh := by omega
    have w1 : IntKind.wrap .i64 (p.hl + (j : Int) + 1) = p.hl + (j : Int) + 1 := wrap64_in (by omega) (by omega)
    have hin : acc ++ inN p d r (j + 1) = acc ++ inN p d r j ++ [ylI p.born d r (p.hl + j) p.gl, ylI p.born d r (p.hl + j) p.gh] := by
      show acc ++ (inN p d r j ++ _) = _
      rw [List.append_assoc]
    simp [mc9_l1, t1, t2, t5, t6, t8, t9, t10, t11, hbox, k5, c1]
    refine wp_seqX (wp_blockX (wp_blockX (loop9c h19 h35 p d hB hP w0 hPW sC r (p.hl + j) hr1 hr2 (by omega) c1 _ _ _ _ hw ?_ ?_ ?_ ?_ ?_ ?_ ?_ ?_ ?_ ?_)))
    · simp [t1]
    · simp [t2]
    · simp [t5]
    · simp [t6]
    · simp [t8]
    · simp [t9]
    · simp [t10]
    · simp [t11]
    · simp
    · intro t w hI s1 s2 s5 s6 s8 s9 s10 s11
      rw [← hin] at hI
      have hf : fstB (acc ++ inN p d r (j + 1)) = false := by rw [hin]; exact fst_app _ _ _
      simp [s1, s2, s5, s6, s8, s9, s10, s11, w1, hf]
      exact ⟨by omega, hI, by omega, by omega⟩
  · have hj' : j = n := by omega
    subst hj'
    have c1 : ¬ p.hl + (j : Int) ≤ p.hh := by omega
    simp [mc9_l1, t2, t11, hbox, k5, c1]
    exact hQ _ _ hw (by simp [t1]) (by simp [t2]) (by simp [t5]) (by simp [t6]) (by simp [t8]) (by simp [t9]) (by simp [t10])
theorem loop9a {ov : Ov} (h19 : HasP ov 19 F19) (h35 : HasP ov 35 F35) (p : Pod) (d : Int) (hB : podsB [p] = true) (hP : planB [p] [d] = true) (w0 : AW) (hPW : PartsW w0) (sC : List Value)
    (Q : Ex → Tm → AW → Prop) (t : Tm) (w : AW) (hw : In9 w0 p sC [] w)
    (t1 : tget t 1 = .int .i64 d) (t2 : tget t 2 = .pointer (some ⟨w0.next, 0, none⟩)) (t5 : tget t 5 = .slice (some ⟨w0.next + 1, 0, none⟩) 1 1) (t6 : tget t 6 = .pointer (some ⟨w0.next + 3, 0, none⟩)) (t8 : tget t 8 = .bool true) (t9 : tget t 9 = .pointer (some ⟨w0.next + 4, 0, none⟩)) (t10 : tget t 10 = .int .i64 p.rl)
    (hQ : ∀ t w, In9 w0 p sC (outN p d (p.rh - p.rl + 1).toNat) w → tget t 6 = .pointer (some ⟨w0.next + 3, 0, none⟩) → tget t 9 = .pointer (some ⟨w0.next + 4, 0, none⟩) → Q (.exit 0) t w) :
    wp (exM Tryd.prog (run Tryd.prog ov 1) (.loop mc9_l0) t w) Q := by
  have k := pod_ok (pods_all hB (i := 0) (p := p) rfl)
  have kr0 := k.r0; have kr1 := k.r1; have kr2 := k.r2
  obtain ⟨n, hn⟩ : ∃ n, n = (p.rh - p.rl + 1).toNat := ⟨_, rfl⟩
  rw [← hn] at hQ
  refine wp_rounds (fun i t w => In9 w0 p sC (outN p d i) w ∧ tget t 1 = .int .i64 d ∧ tget t 2 = .pointer (some ⟨w0.next, 0, none⟩) ∧ tget t 5 = .slice (some ⟨w0.next + 1, 0, none⟩) 1 1 ∧ tget t 6 = .pointer (some ⟨w0.next + 3, 0, none⟩) ∧ tget t 8 = .bool (fstB (outN p d i)) ∧ tget t 9 = .pointer (some ⟨w0.next + 4, 0, none⟩) ∧ tget t 10 = .int .i64 (p.rl + i) ∧ i ≤ n) 1000 (by decide)
    ⟨hw, t1, t2, t5, t6, t8, t9, by simpa using t10, Nat.zero_le _⟩ ?_
  clear t1 t2 t5 t6 t8 t9 t10 hw
  rintro i t w ⟨hw, t1, t2, t5, t6, t8, t9, t10, hi⟩
  have hbox := hw.base.box
  have k3 : ∀ h, (podC p)[3]'h = .int .i64 p.rh := fun _ => rfl
  by_cases hlt : i < n
  · have k4 : ∀ h, (podC p)[4]'h = .int .i64 p.hl := fun _ => rfl
    have c1 : p.rl + (i : Int) ≤ p.rh := by omega
    have w1 : IntKind.wrap .i64 (p.rl + (i : Int) + 1) = p.rl + (i : Int) + 1 := wrap64_in (by omega) (by omega)
    have hout : outN p d (i + 1) = outN p d i ++ inN p d (p.rl + i) (p.hh - p.hl + 1).toNat := rfl
    simp [mc9_l0, t1, t2, t5, t6, t8, t9, t10, hbox, k3, k4, c1]
    refine wp_seqX (wp_blockX (wp_blockX (loop9b h19 h35 p d hB hP w0 hPW sC (p.rl + i) (by omega) c1 _ _ _ _ hw ?_ ?_ ?_ ?_ ?_ ?_ ?_ ?_ ?_)))
    · simp [t1]
    · simp [t2]
    · simp [t5]
    · simp [t6]
    · simp [t8]
    · simp [t9]
    · simp [t10]
    · simp
    · intro t w hI s1 s2 s5 s6 s8 s9 s10
      rw [← hout] at hI s8
      simp [s1, s2, s5, s6, s8, s9, s10, w1]
      exact ⟨by omega, hI, by omega, by omega⟩
  · have hi' : i = n := by omega
    subst hi'
    have c1 : ¬ p.rl + (i : Int) ≤ p.rh := by omega
    simp [mc9_l0, t2, t10, hbox, k3, c1]
    exact hQ _ _ hw (by simp [t6]) (by simp [t9])
/-- the pod that PodEnds looks at -/
def podE (p : Pod) : Pod := { p with rh := min p.rh (IntKind.wrap .i64 (p.rl + 20)), hh := min p.hh (IntKind.wrap .i64 (p.hl + 10)) }
noncomputable def mc9_r : MC := .seq (.ops [⟨false, none, some 35, 30, .load 30 (.tmp 2)⟩, ⟨false, none, some 36, 22, .buildSlice 22 1 #[(0, .tmp 35)]⟩, ⟨false, none, some 5, 22, .assign (.tmp 36)⟩]) (.seq (.ops [⟨false, none, some 38, 22, .move (.tmp 5)⟩, ⟨false, none, some 39, 3, .move (.tmp 1)⟩, ⟨false, none, some 40, 33, .buildSlice 33 1 #[(0, .tmp 39)]⟩, ⟨false, none, some 41, 42, .call ⟨.value (.func 21), #[.tmp 38, .tmp 40], #[22, 33]⟩⟩, ⟨false, none, some 37, 42, .move (.tmp 41)⟩, ⟨false, none, some 42, 41, .extract (.tmp 37) 0⟩, ⟨false, none, some 43, 23, .extract (.tmp 37) 1⟩, ⟨false, none, some 6, 0, .alloc 41⟩, ⟨false, none, none, 0, .store 41 (.tmp 6) (.tmp 42)⟩, ⟨false, none, some 7, 23, .assign (.tmp 43)⟩]) (.seq (.seq (.ops [⟨false, none, some 44, 23, .move (.tmp 7)⟩, ⟨false, none, some 45, 4, .binOp .neq 23 (.tmp 44) (.const (.int .i64 0)) 23⟩, ⟨false, none, some 46, 4, .move (.tmp 45)⟩, ⟨false, some (46, false), some 47, 22, .move (.tmp 5)⟩, ⟨false, some (46, false), some 48, 23, .call ⟨.value (.func 14), #[.tmp 47], #[22]⟩⟩, ⟨false, some (46, false), some 49, 4, .binOp .neq 23 (.tmp 48) (.const (.int .i64 0)) 23⟩, ⟨false, none, some 50, 4, .pick (.tmp 46) (.const (.bool true)) (.tmp 49)⟩]) (.cond (.tmp 50) (.seq (.ops [⟨false, none, some 51, 23, .move (.tmp 7)⟩, ⟨false, none, some 52, 4, .binOp .eql 23 (.tmp 51) (.const (.int .i64 0)) 23⟩, ⟨false, none, some 53, 4, .move (.tmp 52)⟩, ⟨false, some (53, false), some 54, 41, .load 41 (.tmp 6)⟩, ⟨false, some (53, false), some 55, 41, .build 41 #[]⟩, ⟨false, some (53, false), some 56, 4, .binOp .eql 41 (.tmp 54) (.tmp 55) 41⟩, ⟨false, none, some 57, 4, .pick (.tmp 53) (.const (.bool true)) (.tmp 56)⟩, ⟨false, none, some 58, 4, .move (.tmp 57)⟩, ⟨false, some (58, true), some 59, 4, .call ⟨.value (.func 18), #[], #[]⟩⟩, ⟨false, none, some 60, 4, .pick (.tmp 58) (.tmp 59) (.const (.bool false))⟩, ⟨false, none, some 4, 4, .assign (.tmp 60)⟩]) (.ret)) (.skip))) (.seq (.ops [⟨false, none, some 8, 4, .assign (.const (.bool true))⟩]) (.seq (.ops [⟨false, none, some 9, 0, .alloc 41⟩]) (.seq (.seq (.ops [⟨false, none, some 61, 0, .fieldAddr 30 (.tmp 2) 2⟩, ⟨false, none, some 62, 0, .fieldAddr 26 (.tmp 61) 0⟩, ⟨false, none, some 63, 3, .load 3 (.tmp 62)⟩, ⟨false, none, some 10, 3, .assign (.tmp 63)⟩]) (.block 0 (.loop mc9_l0))) (.seq (.ops [⟨false, none, some 167, 41, .load 41 (.tmp 9)⟩, ⟨false, none, some 168, 41, .load 41 (.tmp 6)⟩, ⟨false, none, some 169, 4, .binOp .eql 41 (.tmp 167) (.tmp 168) 41⟩, ⟨false, none, some 170, 4, .move (.tmp 169)⟩, ⟨false, some (170, true), some 171, 4, .call ⟨.value (.func 18), #[], #[]⟩⟩, ⟨false, none, some 172, 4, .pick (.tmp 170) (.tmp 171) (.const (.bool false))⟩, ⟨false, none, some 4, 4, .assign (.tmp 172)⟩]) (.ret)))))))
theorem mc9_eq : mc9 = .seq (.ops [⟨false, none, some 2, 0, .box 30 (.tmp 0)⟩, ⟨false, none, some 4, 4, .assign (.const (.bool false))⟩]) (.seq (.ops [⟨false, none, some 15, 0, .fieldAddr 30 (.tmp 2) 2⟩, ⟨false, none, some 16, 0, .fieldAddr 26 (.tmp 15) 1⟩, ⟨false, none, some 17, 3, .load 3 (.tmp 16)⟩, ⟨false, none, some 18, 0, .fieldAddr 30 (.tmp 2) 2⟩, ⟨false, none, some 19, 0, .fieldAddr 26 (.tmp 18) 0⟩, ⟨false, none, some 20, 3, .load 3 (.tmp 19)⟩, ⟨false, none, some 21, 3, .binOp .add 3 (.tmp 20) (.const (.int .i64 20)) 3⟩, ⟨false, none, some 22, 3, .call ⟨.builtin .min, #[.tmp 17, .tmp 21], #[3, 3]⟩⟩, ⟨false, none, some 23, 0, .fieldAddr 30 (.tmp 2) 2⟩, ⟨false, none, some 24, 0, .fieldAddr 26 (.tmp 23) 1⟩, ⟨false, none, none, 0, .store 3 (.tmp 24) (.tmp 22)⟩]) (.seq (.ops [⟨false, none, some 25, 0, .fieldAddr 30 (.tmp 2) 3⟩, ⟨false, none, some 26, 0, .fieldAddr 26 (.tmp 25) 1⟩, ⟨false, none, some 27, 3, .load 3 (.tmp 26)⟩, ⟨false, none, some 28, 0, .fieldAddr 30 (.tmp 2) 3⟩, ⟨false, none, some 29, 0, .fieldAddr 26 (.tmp 28) 0⟩, ⟨false, none, some 30, 3, .load 3 (.tmp 29)⟩, ⟨false, none, some 31, 3, .binOp .add 3 (.tmp 30) (.const (.int .i64 10)) 3⟩, ⟨false, none, some 32, 3, .call ⟨.builtin .min, #[.tmp 27, .tmp 31], #[3, 3]⟩⟩, ⟨false, none, some 33, 0, .fieldAddr 30 (.tmp 2) 3⟩, ⟨false, none, some 34, 0, .fieldAddr 26 (.tmp 33) 1⟩, ⟨false, none, none, 0, .store 3 (.tmp 34) (.tmp 32)⟩]) mc9_r)) := rfl
@[simp] theorem bs22p (w : AW) (p : Pod) : buildSliceA Tryd.prog w 22 1 [(0, .agg ⟨podC p⟩)] = .val (.slice (some ⟨w.next, 0, none⟩) 1 1) ⟨w.heap.put w.next (some (.cells (podC p) 30 false)), w.next + 1, w.lim⟩ := bd22_0_n1 w _ _ _ _ _ _ _ _
theorem pre9 {ov : Ov} (p : Pod) (d : Int) (w : AW) (hl : w.lim = w.next) (Q : Ex → Tm → AW → Prop)
    (hQ : ∀ t H, tget t 1 = .int .i64 d → tget t 2 = .pointer (some ⟨w.next, 0, none⟩) → Base w.heap w.next (podC (podE p)) 30 ⟨H, w.next + 1, w.lim⟩ → wp (exM Tryd.prog (run Tryd.prog ov 1) mc9_r t ⟨H, w.next + 1, w.lim⟩) Q) :
    wp (exM Tryd.prog (run Tryd.prog ov 1) mc9 (enterT 0 [.agg ⟨podC p⟩, .int .i64 d] .nil) w) Q := by
  rw [mc9_eq]
  have l1 : w.lim ≤ w.next := by omega
  simp [podC, l1]
  refine hQ _ _ ?_ ?_ ⟨fun b hb => ?_, ?_, ?_, ?_⟩
  · simp
  · simp
  · have q1 : ¬ b = w.next := by omega
    simp [q1]
  · simp [podC, podE]
  · simp
  · simp [hl]
theorem wg_one (p : Pod) (d : Int) : wgC [p] [d] = sixC (endsY (podS p d)) := by
  simp [wgC, loS, hiS, esH, sumYl, sY, sixC]
set_option maxHeartbeats 4000000 in
theorem run9 {ov : Ov} (ho : ∀ args w, ov 9 args w = none) (h14 : HasP ov 14 F14) (h19 : HasP ov 19 F19) (h21 : HasP ov 21 F21) (h35 : HasP ov 35 F35) (hW : HasW ov) (p : Pod) (d : Int) (w : AW) (hl : w.lim = w.next) (hPW : PartsW w) :
    ∃ x w', (run Tryd.prog ov 2).call 9 [.agg ⟨podC p⟩, .int .i64 d] w .none = .ok (.ret x) w' .none ∧ x = .bool true := by
  refine call_wp text9 (by simp) (ho _ _) ?_
  refine pre9 p d w hl _ fun t H t1 t2 hb => ?_
  obtain ⟨P, hPd⟩ : ∃ P, P = podE p := ⟨_, rfl⟩
  rw [← hPd] at hb
  have hbox : H.get w.next = some (.cells (podC P) 30 false) := hb.box
  have hold : Old w.next w.heap H := hb.old
  -- memory when Weigh is asked
  obtain ⟨W, hWd⟩ : ∃ W : AW, W = ⟨(H.put (w.next + 1) (some (.cells (podC P) 30 false))).put (w.next + 1 + 1) (some (.cells [.int .i64 d] 3 false)), w.next + 1 + 1 + 1, w.lim⟩ := ⟨_, rfl⟩
  have gW : ∀ (Hp : T AObj) (n lim : Nat), Old (w.next + 1 + 1 + 1) W.heap Hp → w.next + 1 + 1 + 1 ≤ n → PartsW ⟨Hp, n, lim⟩ ∧ PodsV ⟨Hp, n, lim⟩ (.slice (some ⟨w.next + 1, 0, none⟩) 1 1) [P] ∧ RowsV intC ⟨Hp, n, lim⟩ (.slice (some ⟨w.next + 1 + 1, 0, none⟩) 1 1) [d] := by
    intro Hp n lim ho hn
    have e1 : Hp.get (w.next + 1) = some (.cells (podC P) 30 false) := by rw [ho _ (by omega), hWd]; simp
    have e2 : Hp.get (w.next + 1 + 1) = some (.cells [.int .i64 d] 3 false) := by rw [ho _ (by omega), hWd]; simp
    refine ⟨hPW.old (w' := ⟨Hp, n, lim⟩) (fun b hb => ?_) (by show w.next ≤ n; omega), .inr ⟨_, none, 1, rfl, ⟨[], 30, false, by show Hp.get _ = _; rw [e1]; simp [podsC]⟩, by show w.next + 1 < n; omega⟩, .inr ⟨_, 0, none, 1, rfl, ⟨[], [], 3, false, by show Hp.get _ = _; rw [e2]; rfl, rfl⟩, by show w.next + 1 + 1 < n; omega⟩⟩
    show Hp.get b = _
    rw [ho b (by omega), hWd]
    show ((H.put (w.next + 1) _).put (w.next + 1 + 1) _).get b = _
    rw [get_put, if_neg (by omega), get_put, if_neg (by omega), hold b hb]
  obtain ⟨g1, g2, g3⟩ := gW W.heap W.next W.lim (Old.refl _ _) (by rw [hWd]; exact Nat.le_refl _)
  have r21 := rule21 h21 (w := W) g1 g2.podsIn g3 0
  simp only [Nat.zero_add, hWd] at r21
  have rW := fun Hp n lim h1 h2 => ruleW hW (w := ⟨Hp, n, lim⟩) (gW Hp n lim h1 h2).1.parts
  simp only [hWd] at rW
  have r14 := fun Hp n lim h1 h2 => rule14 h14 (w := ⟨Hp, n, lim⟩) (gW Hp n lim h1 h2).2.1.podsIn
  simp only [hWd] at r14
  have l1 : w.lim ≤ w.next + 3 := by omega
  by_cases hc : chkE [P] [d] = 0
  · obtain ⟨hB, hP⟩ := chk_zero hc
    have hpd : podDay P d := ⟨pods_all hB (i := 0) rfl, plan_at hP (i := 0) rfl rfl⟩
    have e1 : weiC [P] [d] = sixC (endsY (podS P d)) := by simp [weiC, hc, wg_one]
    unfold weiV at r21
    rw [e1, hc] at r21
    have r14' : ∀ (Hp : T AObj) (n lim : Nat), _ → _ → (run Tryd.prog ov 1).call 14 [.slice (some ⟨w.next + 1, 0, none⟩) 1 1] ⟨Hp, n, lim⟩ .none = .ok (.ret (.int .i64 0)) ⟨Hp, n, lim⟩ .none := fun Hp n lim h1 h2 => by have := r14 Hp n lim h1 h2; rw [hB] at this; exact this
    have k2 : ∀ h, (podC P)[2]'h = .int .i64 P.rl := fun _ => rfl
    simp (maxDischargeDepth := 40) [mc9_r, t1, t2, hbox, r21, r14', l1, k2, cellsOf_agg]
    refine wp_seqX (wp_blockX (loop9a h19 h35 P d hB hP w hPW (sixC (endsY (podS P d))) _ _ _ ⟨⟨?_, ?_, ?_, ?_⟩, ?_, ?_, ⟨zero6, ?_, ⟨_, _, _, _, _, _, rfl⟩, fun h => absurd rfl h⟩, ?_⟩ ?_ ?_ ?_ ?_ ?_ ?_ ?_ ?_))
    · intro x hx
      have q1 : ¬ x = w.next + 1 := by omega
      have q2 : ¬ x = w.next + 2 := by omega
      have q3 : ¬ x = w.next + 3 := by omega
      have q4 : ¬ x = w.next + 4 := by omega
      simp [q1, q2, q3, q4]
      exact hold x hx
    · simp [hbox]
    · simp; try omega
    · simp [hl]
    · simp
    · simp
    · simp [zero6]
    · simp; try omega
    · simp [t1]
    · simp [t2]
    · simp
    · simp
    · simp
    · simp
    · simp
    · intro t w' hI s6 s9
      have hsum := hI.sum
      obtain ⟨cur, hcur, _, hce⟩ := hI.all
      rw [hce (outAll_ne hpd.1 d), six_out hpd] at hcur
      have hoW : ∀ b, b < w.next → w'.heap.get b = w.heap.get b := hI.base.old
      have rW' := ruleW hW (w := w') (hPW.old (w' := w') hoW (Nat.le_of_lt hI.base.next)).parts
      unfold sixC at hsum hcur
      simp [s6, s9, hsum, hcur, rW', tupV]
  · have e1 : weiC [P] [d] = zero6 := by simp [weiC, hc]
    unfold weiV at r21
    rw [e1] at r21
    simp (maxDischargeDepth := 40) [mc9_r, t1, t2, hbox, r21, zero6, hc, l1, rW, tupV]
end Go.Proofs.YtbmhpgoceobbdaaDoor.walk
