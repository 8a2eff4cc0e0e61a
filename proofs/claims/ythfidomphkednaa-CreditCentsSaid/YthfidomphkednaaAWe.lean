/- Part of a proof by a machine of ones own: see the text with the theorem. -/
import Derived.Test.YthfidomphkednaaAWd
namespace Go.Proofs.Ythfidomphkednaa.walk
open Go Go.Sh
set_option maxRecDepth 100000
set_option linter.unusedSimpArgs false
set_option linter.unusedVariables false
/-! CreditCents: numbers, Rises -/
def Inc (U : List Int) (n : Int) : Prop := (∀ z ∈ U, 0 ≤ z ∧ z < n) ∧ U.Pairwise (· < ·)
theorem shP_inc (ps : List Pt) (ds : List Dt) : ∀ i : Nat, Inc (shP ps ds i) (i : Int)
  | 0 => by constructor <;> simp [shP]
  | i + 1 => by
    obtain ⟨h1, h2⟩ := shP_inc ps ds i
    cases h : shB ps ds i with
    | true =>
      rw [shP_yes h]
      refine ⟨fun z hz => ?_, ?_⟩
      · rcases List.mem_append.1 hz with hz | hz
        · have := h1 z hz; omega
        · rw [List.mem_singleton.1 hz]; omega
      · rw [List.pairwise_append]
        refine ⟨h2, List.pairwise_singleton _ _, fun a ha b hb => ?_⟩
        rw [List.mem_singleton.1 hb]
        exact (h1 a ha).2
    | false =>
      rw [shP_no h]
      exact ⟨fun z hz => by have := h1 z hz; omega, h2⟩
theorem shP_mem (ps : List Pt) (ds : List Dt) {n k : Nat} (hk : k < n) : (k : Int) ∈ shP ps ds n ↔ shB ps ds k = true := by
  unfold shP
  rw [List.mem_map]
  constructor
  · rintro ⟨a, ha, e⟩
    have : a = k := by omega
    subst this
    exact (List.mem_filter.1 ha).2
  · intro h
    exact ⟨k, List.mem_filter.2 ⟨List.mem_range.2 hk, h⟩, rfl⟩
def S36 : PSpec where
  R args w v := ∃ (a : Value) (U : List Int) (n : Int), args = [a, .int .i64 n] ∧ RowsV intC w a U ∧ U.length ≤ 1000 ∧ (-1000 ≤ n ∧ n ≤ 1000) ∧ Inc U n ∧ v = .bool true
  uniq := by rintro _ _ _ _ ⟨_, _, _, rfl, _, _, _, _, rfl⟩ ⟨_, _, _, _, _, _, _, _, rfl⟩; rfl
  shut h := h
theorem run36 {ov : Ov} (ho : ∀ args w, ov 36 args w = none) (h32 : HasP ov 32 S32.F) (U : List Int) (n : Int) (hlen : U.length ≤ 1000) (hn : -1000 ≤ n ∧ n ≤ 1000) (hI : Inc U n) (u : Value) (w : AW) (hu : RowsV intC w u U) : ∃ y w', (run Try.prog ov 2).call 36 [u, .int .i64 n] w .none = .ok (.ret y) w' .none ∧ y = .bool true := by
  refine call_wp text36 (by simp) (ho _ _) ?_
  have hlu := fun w2 => len26V (w' := w2) hu
  simp [mc36]
  refine wp_seqX (wp_blockX (wp_rounds (fun i t w' => w' = w ∧ tget t 0 = u ∧ tget t 1 = .int .i64 n ∧ tget t 5 = .int .i64 (i : Nat) ∧ i ≤ U.length) 2000 (by decide) ⟨rfl, by simp, by simp, by simp, Nat.zero_le _⟩ ?_))
  rintro i t w' ⟨rfl, t0, t1, t5, hi⟩
  by_cases hlt : i < U.length
  · obtain ⟨z, hz⟩ : ∃ z, U[i]? = some z := ⟨_, List.getElem?_eq_getElem hlt⟩
    obtain ⟨b, o, sq, c, rfl, ld, ia⟩ := row_ld hu hz
    have hzn := hI.1 z (List.mem_of_getElem? hz)
    have r32 := fun n a b w => S32.call1 (P := Try.prog) h32 (w := w) ⟨n, a, b, rfl, rfl⟩
    have hin : inI 0 z (n - 1) = true := by simp only [inI, Bool.and_eq_true, decide_eq_true_eq]; omega
    have hw1 : IntKind.wrap .i64 ((i : Int) + 1) = (i : Int) + 1 := wrap64_in (by omega) (by omega)
    have hw2 : IntKind.wrap .i64 (n - 1) = n - 1 := wrap64_in (by omega) (by omega)
    by_cases hi0 : i = 0
    · subst hi0
      simp only [Int.natCast_zero, Int.zero_add, Nat.add_zero] at *
      simp [mc36_l0, t0, t1, t5, hlu, hlt, ia, ld, r32, hin, hw1, hw2]
      try omega
    · obtain ⟨k, rfl⟩ : ∃ k, i = k + 1 := ⟨i - 1, by omega⟩
      obtain ⟨y, hy⟩ : ∃ z, U[k]? = some z := ⟨_, List.getElem?_eq_getElem (by omega)⟩
      obtain ⟨b', o', sq', c', e', ld', ia'⟩ := row_ld hu hy
      cases e'
      have hyz : y < z := by
        have := (List.pairwise_iff_getElem.1 hI.2) k (k + 1) (by omega) hlt (by omega)
        rw [List.getElem?_eq_getElem (by omega)] at hy
        rw [List.getElem?_eq_getElem hlt] at hz
        cases hy; cases hz
        exact this
      obtain ⟨q, hq⟩ : ∃ q : Int, q = ((k + 1 : Nat) : Int) := ⟨_, rfl⟩
      have hqk : IntKind.wrap .i64 (q - 1) = (k : Int) := by rw [wrap64_in (by omega) (by omega)]; omega
      rw [← hq] at t5 ia hw1
      have hq0 : 0 < q := by omega
      have hql : q < (U.length : Int) := by omega
      have hyz' : ¬ z ≤ y := by omega
      simp [mc36_l0, t0, t1, t5, hlu, hql, ia, ld, ia', ld', r32, hin, hw1, hw2, hq0, hqk, hyz']
      omega
  · have hi' : i = U.length := by omega
    subst hi'
    simp [mc36_l0, t0, t5, hlu, tupV]
theorem totL_ls (x : Int → Int) : ∀ n : Nat, totL (lsF n x) = sN (fun k => x (k : Int)) n
  | 0 => rfl
  | n + 1 => by
    have : lsF (n + 1) x = lsF n x ++ [x (n : Int)] := by simp [lsF, List.range_succ]
    rw [this, totL_app, totL_ls x n]
    simp [totL, sN]
theorem cn_pos {ps : List Pt} {ds : List Dt} (hk : LK ps ds) {p : Int} (h : 0 < owD ds p) : 1 ≤ cnD ds p := by
  have h0 : 0 ≤ cnD ds p := sI_nonneg fun d _ => by split <;> omega
  apply Classical.byContradiction
  intro hn
  have hc0 : cnD ds p = 0 := by omega
  have : owD ds p = 0 := by
    unfold owD
    rw [sI_congr (k := fun _ => 0), sI_zero]
    intro d hd
    by_cases e : d.f = p
    · have := sI_one (g := fun d => if d.f = p then 1 else 0) (l := ds) (fun e he => by
        show 0 ≤ (if e.f = p then (1 : Int) else 0)
        split <;> omega) d hd
      simp only [if_pos e] at this
      unfold cnD at hc0; omega
    · rw [if_neg e]
  omega
theorem left_ok {ps : List Pt} {ds : List Dt} (hk : LK ps ds) (p : Int) : 0 ≤ leD ps ds (stF ps ds) p ∧ (stF ps ds p < owD ds p → leD ps ds (stF ps ds) p < cnD ds p) := by
  have h1 := hk.out_le (st_rng hk) p
  have h2 := (st_gfp hk).1 p
  have h3 := gfp_settles hk (st_gfp hk) p
  have h4 : 0 ≤ ouD ds (stF ps ds) p := sI_nonneg fun d hd => by
    have := (hk.pt_in (st_rng hk) hd).1
    split <;> omega
  refine ⟨by unfold leD; omega, fun hlt => ?_⟩
  have he : stF ps ds p = haD ps ds (stF ps ds) p := by omega
  unfold leD
  rw [← he]
  by_cases hz : stF ps ds p = 0
  · have := cn_pos hk (p := p) (by omega)
    omega
  · have := h1.2 hz
    omega
def cnP (ds : List Dt) (i : Nat) : Int → Int := fun p => sI (fun d => if d.f = p then 1 else 0) (ds.take i)
theorem cnP_zero (ds : List Dt) : cnP ds 0 = fun _ => 0 := by funext p; simp [cnP, sI]
theorem cnP_all (ds : List Dt) : cnP ds ds.length = cnD ds := by funext p; simp [cnP, cnD]
theorem cnP_step {ds : List Dt} {i : Nat} {d : Dt} (h : ds[i]? = some d) : updF (cnP ds i) d.f (cnP ds i d.f + 1) = cnP ds (i + 1) := by
  funext p
  unfold updF cnP
  rw [sI_step h]
  by_cases h1 : p = d.f
  · subst h1
    simp only [if_true]
  · have h2 : ¬ d.f = p := fun e => h1 e.symm
    simp only [if_neg h1, if_neg h2]; omega
theorem cnP_bd {ps : List Pt} {ds : List Dt} (h : LK ps ds) (i : Nat) (p : Int) : 0 ≤ cnP ds i p ∧ cnP ds i p ≤ 1600000 := sI_bd (fun d hd => by
  show 0 ≤ (if d.f = p then (1 : Int) else 0) ∧ (if d.f = p then (1 : Int) else 0) ≤ 100000
  split <;> omega) (by have := h.d16; rw [List.length_take]; omega)
def wnP (ds : List Dt) (x : Int → Int) (i : Nat) : Int → Int := fun p => sI (fun d => if d.t = p then ptD (owD ds) x d else 0) (ds.take i) - sI (fun d => if d.f = p then ptD (owD ds) x d else 0) (ds.take i)
theorem wnP_zero (ds : List Dt) (x : Int → Int) : wnP ds x 0 = fun _ => 0 := by funext p; simp [wnP, sI]
theorem wnP_all (ds : List Dt) (x : Int → Int) : wnP ds x ds.length = fun p => inD ds x p - ouD ds x p := by funext p; simp [wnP, inD, ouD]
theorem wnP_step {ds : List Dt} {x : Int → Int} {i : Nat} {d : Dt} (h : ds[i]? = some d) (hne : d.f ≠ d.t) : updF (updF (wnP ds x i) d.f (wnP ds x i d.f - ptD (owD ds) x d)) d.t (wnP ds x i d.t + ptD (owD ds) x d) = wnP ds x (i + 1) := by
  funext p
  unfold updF wnP
  rw [sI_step h, sI_step h]
  by_cases h1 : p = d.t
  · subst h1
    simp only [if_true, if_neg hne]; omega
  · have h2 : ¬ d.t = p := fun e => h1 e.symm
    by_cases h3 : p = d.f
    · subst h3
      simp only [if_neg h1, if_neg h2, if_true]; omega
    · have h4 : ¬ d.f = p := fun e => h3 e.symm
      simp only [if_neg h1, if_neg h2, if_neg h3, if_neg h4]; omega
theorem inT_bd {ps : List Pt} {ds : List Dt} (hk : LK ps ds) {y : Int → Int} (hy : ∀ p, 0 ≤ y p ∧ y p ≤ owD ds p) (p : Int) (j : Nat) : 0 ≤ sI (fun d => if d.t = p then ptD (owD ds) y d else 0) (ds.take j) ∧ sI (fun d => if d.t = p then ptD (owD ds) y d else 0) (ds.take j) ≤ 1600000 := sI_bd (fun d hd => by
  have := pt_bd hk hy (List.mem_of_mem_take hd)
  show 0 ≤ (if d.t = p then ptD (owD ds) y d else 0) ∧ (if d.t = p then ptD (owD ds) y d else 0) ≤ 100000
  split <;> omega) (by have := hk.d16; rw [List.length_take]; omega)
end Go.Proofs.Ythfidomphkednaa.walk

namespace Go.Proofs.Ythfidomphkednaa.walk
open Go Go.Sh
set_option maxRecDepth 100000
set_option linter.unusedSimpArgs false
set_option linter.unusedVariables false
/-- blocks below stay, but for two -/
structure Kq (A B : Nat) (we w : AW) : Prop where
  old : ∀ q, q < we.next → q ≠ A → q ≠ B → w.heap.get q = we.heap.get q
  next : we.next ≤ w.next
  lim : w.lim = we.lim
theorem Kq.refl (A B : Nat) (w : AW) : Kq A B w w := ⟨fun _ _ _ _ => rfl, Nat.le_refl _, rfl⟩
theorem Kq.new {A B : Nat} {we : AW} {H : T AObj} {n n' l k : Nat} {o : Option AObj} (h : Kq A B we ⟨H, n, l⟩) (hk : we.next ≤ k ∨ k = A ∨ k = B) (hn : n ≤ n') : Kq A B we ⟨H.put k o, n', l⟩ :=
  ⟨fun q hq ha hb => by
    show (H.put k o).get q = _
    rw [get_put, if_neg (by omega)]; exact h.old q hq ha hb, Nat.le_trans h.next hn, h.lim⟩
theorem Kq.up {A B : Nat} {w we w' : AW} (u : Up w we) (h : Kq A B we w') (hA : w.next ≤ A) (hB : w.next ≤ B) : Up w w' :=
  ⟨fun q hq => by have := u.next; rw [h.old q (by omega) (by omega) (by omega)]; exact u.old q hq, Nat.le_trans u.next h.next, h.lim.trans u.lim⟩
set_option maxHeartbeats 2000000 in
theorem loop9a {ov : Ov} (m : Nat) (pv dv qv v3 v5 v7 v10 : Value) (ps : List Pt) (ds : List Dt) (hk : LK ps ds) (x : Int → Int) (hx : ∀ p, 0 ≤ x p ∧ x p ≤ owD ds p) (we w0 : AW) (hL : LedV we pv dv ps ds) (u0 : Up we w0) (hlw : we.lim ≤ we.next) (n1 : Nat) (hn1 : n1 < we.next) (g1 : we.heap.get n1 = some (.cells [pv, dv] 25 false)) (hq : RowsV intC we qv (paF ds x)) (A B : Nat) (hA : we.next ≤ A) (hAB : A < B) (hB0 : B < w0.next) (gA : w0.heap.get A = some (.cells (lsC ps.length fun _ => 0) 3 false)) (gB : w0.heap.get B = some (.cells (lsC ps.length fun _ => 0) 3 false))
    (Q : Ex → Tm → AW → Prop) (t : Tm) (t1 : tget t 1 = .pointer (some ⟨n1, 0, none⟩)) (t3 : tget t 3 = v3) (t5 : tget t 5 = v5) (t7 : tget t 7 = v7) (t10 : tget t 10 = v10) (t11 : tget t 11 = .int .i64 0) (t8 : tget t 8 = qv) (t12 : tget t 12 = .slice (some ⟨A, 0, none⟩) ps.length ps.length) (t13 : tget t 13 = .slice (some ⟨B, 0, none⟩) ps.length ps.length) (t14 : tget t 14 = .int .i64 0)
    (hQ : ∀ t w', Up we w' → w'.heap.get A = some (.cells (lsC ps.length (cnD ds)) 3 false) → w'.heap.get B = some (.cells (lsC ps.length fun p => inD ds x p - ouD ds x p) 3 false) → B < w'.next → tget t 1 = .pointer (some ⟨n1, 0, none⟩) → tget t 3 = v3 → tget t 5 = v5 → tget t 7 = v7 → tget t 10 = v10 → tget t 11 = .int .i64 0 → tget t 12 = .slice (some ⟨A, 0, none⟩) ps.length ps.length → tget t 13 = .slice (some ⟨B, 0, none⟩) ps.length ps.length → Q (.exit 0) t w') : wp (exM Try.prog (run Try.prog ov m) (.loop mc9_l0) t w0) Q := by
  have h16 := hk.d16
  have h8 := hk.n8
  refine wp_rounds (fun i t w' => Kq A B w0 w' ∧ w'.heap.get A = some (.cells (lsC ps.length (cnP ds i)) 3 false) ∧ w'.heap.get B = some (.cells (lsC ps.length (wnP ds x i)) 3 false) ∧ tget t 1 = .pointer (some ⟨n1, 0, none⟩) ∧ tget t 3 = v3 ∧ tget t 5 = v5 ∧ tget t 7 = v7 ∧ tget t 10 = v10 ∧ tget t 11 = .int .i64 0 ∧ tget t 8 = qv ∧ tget t 12 = .slice (some ⟨A, 0, none⟩) ps.length ps.length ∧ tget t 13 = .slice (some ⟨B, 0, none⟩) ps.length ps.length ∧ tget t 14 = .int .i64 (i : Nat) ∧ i ≤ ds.length) 20 (by decide) ⟨Kq.refl _ _ _, by rw [cnP_zero]; exact gA, by rw [wnP_zero]; exact gB, t1, t3, t5, t7, t10, t11, t8, t12, t13, by simpa using t14, Nat.zero_le _⟩ ?_
  clear t1 t3 t5 t7 t10 t11 t8 t12 t13 t14
  rintro i t w' ⟨hkp, ga, gb, t1, t3, t5, t7, t10, t11, t8, t12, t13, t14, hi⟩
  have hup := hkp.up u0 hA (by omega)
  have hlm := hup.lim
  have hnx := hup.next
  have hk3 := hkp.next
  have hl23 := fun w2 => len23V (w' := w2) hL.d
  have g := hup.at hn1
  rw [g1] at g
  by_cases hlt : i < ds.length
  · obtain ⟨d, hd⟩ : ∃ a, ds[i]? = some a := ⟨_, List.getElem?_eq_getElem hlt⟩
    have hdm := List.mem_of_getElem? hd
    obtain ⟨b, off, sq, c, rfl, hra⟩ := (hL.d.up hup).at_ i hlt
    have hld := hra.rd dtC_length hd
    have hia := fun w => ia23 w ⟨b, off, sq⟩ ds.length c .i64 i hlt
    have hdb := hk.debt d hdm
    have hpb := pt_bd hk hx hdm
    have epl : (paF ds x).length = ds.length := by unfold paF; rw [List.length_map]
    have hpq : (paF ds x)[i]? = some (ptD (owD ds) x d) := by unfold paF; simp [hd]
    obtain ⟨b8, o8, s8, c8, rfl, hr8⟩ := hq.at_ i (by rw [epl]; exact hlt)
    have hb8 := hr8.2
    have ld8 := (hr8.old hup.old hup.next).int hpq
    have ia8 := fun w2 => ia26 w2 ⟨b8, o8, s8⟩ (paF ds x).length c8 .i64 i (by rw [epl]; exact hlt)
    simp only [Nat.mul_one, epl] at ia8
    have c1 := cnP_bd hk i d.f
    have s1 := cnP_step hd
    have s2 := wnP_step (x := x) hd hdb.2.2.1
    have w1 := inT_bd hk hx d.f i
    have w2 := ouT_bd hk hx d.f i
    have w3 := inT_bd hk hx d.t i
    have w4 := ouT_bd hk hx d.t i
    have eW : ∀ p, wnP ds x i p = sI (fun d => if d.t = p then ptD (owD ds) x d else 0) (ds.take i) - sI (fun d => if d.f = p then ptD (owD ds) x d else 0) (ds.take i) := fun p => rfl
    have y1 := eW d.f
    have y2 := eW d.t
    obtain ⟨V, hV⟩ : ∃ X, X = ptD (owD ds) x d := ⟨_, rfl⟩
    rw [← hV] at ld8 hpb s2
    obtain ⟨f, tt, cc⟩ := d
    simp only at hdb c1 s1 s2 w1 w2 w3 w4 y1 y2
    obtain ⟨kf, rfl⟩ : ∃ k : Nat, f = (k : Int) := ⟨f.toNat, by omega⟩
    obtain ⟨k, rfl⟩ : ∃ k : Nat, tt = (k : Int) := ⟨tt.toNat, by omega⟩
    have hkn : k < ps.length := by omega
    have hkf : kf < ps.length := by omega
    obtain ⟨C, hC⟩ : ∃ X, X = cnP ds i (kf : Int) := ⟨_, rfl⟩
    obtain ⟨F, hF⟩ : ∃ X, X = wnP ds x i (kf : Int) := ⟨_, rfl⟩
    obtain ⟨G, hG⟩ : ∃ X, X = wnP ds x i (k : Int) := ⟨_, rfl⟩
    rw [← hC] at c1 s1
    rw [← hF] at s2 y1
    rw [← hG] at s2 y2
    have q1 := lsC_get ps.length (cnP ds i) hkf
    have q2 := lsC_get ps.length (wnP ds x i) hkf
    have q3 := lsC_get ps.length (updF (wnP ds x i) (kf : Int) (F - V)) hkn
    have hne : ¬ (k : Int) = (kf : Int) := fun e => hdb.2.2.1 e.symm
    have e3 : updF (wnP ds x i) (kf : Int) (F - V) (k : Int) = G := by unfold updF; rw [if_neg hne, hG]
    rw [← hC] at q1
    rw [← hF] at q2
    rw [e3] at q3
    have wa : IntKind.wrap .i64 (C + 1) = C + 1 := wrap64_in (by omega) (by omega)
    have wb : IntKind.wrap .i64 (F - V) = F - V := wrap64_in (by omega) (by omega)
    have wc : IntKind.wrap .i64 (G + V) = G + V := wrap64_in (by omega) (by omega)
    have wd : IntKind.wrap .i64 ((i : Int) + 1) = (i : Int) + 1 := wrap64_in (by omega) (by omega)
    simp only [dtC] at hld
    have iA := fun w => ia26 w ⟨A, 0, none⟩ ps.length ps.length .i64 kf hkf
    have iB := fun w => ia26 w ⟨B, 0, none⟩ ps.length ps.length .i64 kf hkf
    have iC := fun w => ia26 w ⟨B, 0, none⟩ ps.length ps.length .i64 k hkn
    simp only [Nat.mul_one] at iA iB iC
    have z0 : ¬ A = w'.next := by omega
    have z1 : ¬ B = w'.next := by omega
    have z2 : ¬ A = B := by omega
    have z3 : ¬ B = A := by omega
    have z4 : ¬ b8 = w'.next := by omega
    have z5 : ¬ b8 = A := by omega
    have z6 : ¬ b8 = B := by omega
    have z7 : ¬ w'.next = A := by omega
    have z8 : ¬ w'.next = B := by omega
    have la : w'.lim ≤ A := by omega
    have lb : w'.lim ≤ B := by omega
    have ln : w'.lim ≤ w'.next := by omega
    have sA : ∀ w5 : AW, w5.lim ≤ A → wrO w5 A kf [.int .i64 (C + 1)] (some (.cells (lsC ps.length (cnP ds i)) 3 false)) = some ⟨w5.heap.put A (some (.cells (lsC ps.length (cnP ds (i + 1))) 3 false)), w5.next, w5.lim⟩ := fun w5 h => by rw [st_ls hkf h, s1]
    have sB : ∀ w5 : AW, w5.lim ≤ B → wrO w5 B kf [.int .i64 (F - V)] (some (.cells (lsC ps.length (wnP ds x i)) 3 false)) = some ⟨w5.heap.put B (some (.cells (lsC ps.length (updF (wnP ds x i) (kf : Int) (F - V))) 3 false)), w5.next, w5.lim⟩ := fun w5 h => st_ls hkf h
    have sC : ∀ w5 : AW, w5.lim ≤ B → wrO w5 B k [.int .i64 (G + V)] (some (.cells (lsC ps.length (updF (wnP ds x i) (kf : Int) (F - V))) 3 false)) = some ⟨w5.heap.put B (some (.cells (lsC ps.length (wnP ds x (i + 1))) 3 false)), w5.next, w5.lim⟩ := fun w5 h => by rw [st_ls hkn h, s2]
    have sD : ∀ w5 : AW, w5.lim ≤ w'.next → wrO w5 w'.next 0 [.int .i64 (kf : Int), .int .i64 (k : Int), .int .i64 cc] (some (.cells [.int .i64 0, .int .i64 0, .int .i64 0] 46 false)) = some ⟨w5.heap.put w'.next (some (.cells [.int .i64 (kf : Int), .int .i64 (k : Int), .int .i64 cc] 46 false)), w5.next, w5.lim⟩ := fun w5 h => by rw [wrO_cells (by simp) h (by simp)]; rfl
    simp [mc9_l0, t1, t3, t5, t7, t8, t10, t11, t12, t13, t14, g, hl23, epl, hlt, hia, hld, ld8, ia8, iA, iB, iC, ga, gb, q1, q2, q3, hC.symm, hF.symm, hG.symm, e3, z0, z1, z2, z3, z4, z5, z6, z7, z8, la, lb, ln, wa, wb, wc, wd, sA, sB, sC, sD, -wrO_cells]
    refine ⟨by omega, ?_, hlt⟩
    exact ((((hkp.new (.inl hk3) (Nat.le_refl _)).new (.inl hk3) (Nat.le_refl _)).new (.inr (.inl rfl)) (Nat.le_refl _)).new (.inr (.inr rfl)) (Nat.le_refl _)).new (.inr (.inr rfl)) (Nat.le_succ _)
  · have hi' : i = ds.length := by omega
    subst hi'
    rw [cnP_all] at ga
    rw [wnP_all] at gb
    simp [mc9_l0, t1, t14, g, hl23]
    exact hQ _ _ hup ga gb (by omega) (by simp [t1]) (by simp [t3]) (by simp [t5]) (by simp [t7]) (by simp [t10]) (by simp [t11]) (by simp [t12]) (by simp [t13])
end Go.Proofs.Ythfidomphkednaa.walk

namespace Go.Proofs.Ythfidomphkednaa.walk
open Go Go.Sh
set_option maxRecDepth 100000
set_option linter.unusedSimpArgs false
set_option linter.unusedVariables false
theorem first_at {U : List Int} {z : Int} (h : z ∈ U) : ∃ i : Nat, U[i]? = some z ∧ ∀ j, j < i → U[j]? ≠ some z := by
  obtain ⟨j, hj⟩ := List.getElem?_of_mem h
  have : ∀ n : Nat, U[n]? = some z → ∃ i : Nat, U[i]? = some z ∧ ∀ j, j < i → U[j]? ≠ some z := by
    intro n
    induction n using Nat.strongRecOn with
    | ind n ih =>
      intro h
      by_cases hx : ∃ j, j < n ∧ U[j]? = some z
      · obtain ⟨j, h1, h2⟩ := hx
        exact ih j h1 h2
      · exact ⟨n, h, fun j hj e => hx ⟨j, hj, e⟩⟩
  exact this j hj
set_option maxHeartbeats 2000000 in
theorem loop9b {ov : Ov} (m : Nat) (h37 : HasP ov 37 S37.F) (pv dv v3 v5 v7 v10 v12 v13 : Value) (ps : List Pt) (ds : List Dt) (hk : LK ps ds) (w0 : AW) (hL : LedV w0 pv dv ps ds) (n1 : Nat) (g1 : w0.heap.get n1 = some (.cells [pv, dv] 25 false))
    (h3 : RowsV intC w0 v3 (lsF ps.length (leD ps ds (stF ps ds)))) (h5 : RowsV intC w0 v5 (shP ps ds ps.length)) (h7 : RowsV intC w0 v7 (lsF ps.length (stF ps ds))) (h10 : RowsV intC w0 v10 (lsF ps.length (owD ds))) (h12 : RowsV intC w0 v12 (lsF ps.length (cnD ds))) (h13 : RowsV intC w0 v13 (lsF ps.length fun p => inD ds (stF ps ds) p - ouD ds (stF ps ds) p))
    (Q : Ex → Tm → AW → Prop) (t : Tm) (t1 : tget t 1 = .pointer (some ⟨n1, 0, none⟩)) (t3 : tget t 3 = v3) (t5 : tget t 5 = v5) (t7 : tget t 7 = v7) (t10 : tget t 10 = v10) (t11 : tget t 11 = .int .i64 0) (t12 : tget t 12 = v12) (t13 : tget t 13 = v13) (t16 : tget t 16 = .int .i64 0)
    (hQ : ∀ t, tget t 3 = v3 → tget t 11 = .int .i64 (totL (lsF ps.length (caP ps))) → Q (.exit 2) t w0) : wp (exM Try.prog (run Try.prog ov (m + 1)) (.loop mc9_l1) t w0) Q := by
  have h8 := hk.n8
  refine wp_rounds (fun i t w' => w' = w0 ∧ tget t 1 = .pointer (some ⟨n1, 0, none⟩) ∧ tget t 3 = v3 ∧ tget t 5 = v5 ∧ tget t 7 = v7 ∧ tget t 10 = v10 ∧ tget t 11 = .int .i64 (totL (lsF i (caP ps))) ∧ tget t 12 = v12 ∧ tget t 13 = v13 ∧ tget t 16 = .int .i64 (i : Nat) ∧ i ≤ ps.length) 20 (by decide) ⟨rfl, t1, t3, t5, t7, t10, by simpa [lsF, totL] using t11, t12, t13, by simpa using t16, Nat.zero_le _⟩ ?_
  clear t1 t3 t5 t7 t10 t11 t12 t13 t16
  rintro i t w' ⟨rfl, t1, t3, t5, t7, t10, t11, t12, t13, t16, hi⟩
  have hla := fun w2 => len26V (w' := w2) h10
  rw [lsF_len] at hla
  by_cases hlt : i < ps.length
  · obtain ⟨b1, o1, s1, c1, rfl, ld1, ia1⟩ := row_ld h3 (lsF_at ps.length (leD ps ds (stF ps ds)) hlt)
    obtain ⟨b2, o2, s2, c2, rfl, ld2, ia2⟩ := row_ld h7 (lsF_at ps.length (stF ps ds) hlt)
    obtain ⟨b3, o3, s3, c3, rfl, ld3, ia3⟩ := row_ld h10 (lsF_at ps.length (owD ds) hlt)
    obtain ⟨b4, o4, s4, c4, rfl, ld4, ia4⟩ := row_ld h12 (lsF_at ps.length (cnD ds) hlt)
    obtain ⟨b5, o5, s5, c5, rfl, ld5, ia5⟩ := row_ld h13 (lsF_at ps.length (fun p => inD ds (stF ps ds) p - ouD ds (stF ps ds) p) hlt)
    obtain ⟨a, ha⟩ : ∃ a, ps[i]? = some a := ⟨_, List.getElem?_eq_getElem hlt⟩
    obtain ⟨b, off, sq, c, rfl, hra⟩ := hL.p.at_ i hlt
    have lp := hra.rd1 (j := 1) ptC_length ha (x := .int .i64 a.ch) rfl
    have hia := fun w => ia22 w ⟨b, off, sq⟩ ps.length c .i64 i hlt
    have hca := ca_at ha
    simp only [lsF_len] at ia1 ia2 ia3 ia4 ia5
    obtain ⟨k1, k2⟩ := left_ok hk (i : Int)
    have hlD : leD ps ds (stF ps ds) (i : Int) = caP ps (i : Int) + inD ds (stF ps ds) (i : Int) - ouD ds (stF ps ds) (i : Int) := rfl
    have hmem := shP_mem ps ds hlt
    have hsb : shB ps ds i = decide (stF ps ds (i : Int) < owD ds (i : Int)) := rfl
    have hcb := hk.ca (i : Int)
    have hin := hk.in_in (st_rng hk) (i : Int)
    have hou := ouT_bd hk (st_rng hk) (i : Int) ds.length
    rw [List.take_length] at hou
    have hou' : 0 ≤ ouD ds (stF ps ds) (i : Int) ∧ ouD ds (stF ps ds) (i : Int) ≤ 1600000 := hou
    obtain ⟨E, hE⟩ : ∃ X, X = leD ps ds (stF ps ds) (i : Int) := ⟨_, rfl⟩
    obtain ⟨S, hS⟩ : ∃ X, X = stF ps ds (i : Int) := ⟨_, rfl⟩
    obtain ⟨O, hO⟩ : ∃ X, X = owD ds (i : Int) := ⟨_, rfl⟩
    obtain ⟨C, hC⟩ : ∃ X, X = cnD ds (i : Int) := ⟨_, rfl⟩
    obtain ⟨W, hWe⟩ : ∃ X, X = inD ds (stF ps ds) (i : Int) - ouD ds (stF ps ds) (i : Int) := ⟨_, rfl⟩
    rw [← hE] at ld1 k1 k2 hlD
    rw [← hS] at ld2 k2 hsb
    rw [← hO] at ld3 k2 hsb
    rw [← hC] at ld4 k2
    rw [← hWe] at ld5
    rw [hca] at hlD hcb
    have hEW : E = a.ch + W := by omega
    have hw1' : IntKind.wrap .i64 ((i : Int) + 1) = (i : Int) + 1 := wrap64_in (by omega) (by omega)
    have hw2' : IntKind.wrap .i64 (a.ch + W) = E := by rw [← hEW]; exact wrap64_in (by omega) (by omega)
    have htl : totL (lsF (i + 1) (caP ps)) = totL (lsF i (caP ps)) + a.ch := by
      have : lsF (i + 1) (caP ps) = lsF i (caP ps) ++ [caP ps (i : Int)] := by simp [lsF, List.range_succ]
      rw [this, totL_app, hca]; simp [totL]
    have hti := totL_in (l := lsF i (caP ps)) (M := 2000000) (fun z hz => by
      unfold lsF at hz
      obtain ⟨q, _, rfl⟩ := List.mem_map.1 hz
      have := hk.ca (q : Int)
      omega)
    rw [lsF_len] at hti
    obtain ⟨T, hT⟩ : ∃ X, X = totL (lsF i (caP ps)) := ⟨_, rfl⟩
    rw [← hT] at t11 htl hti
    have hw3' : IntKind.wrap .i64 (T + a.ch) = T + a.ch := wrap64_in (by omega) (by omega)
    have hsl := shP_len ps ds ps.length
    by_cases hc : S < O
    · have hin := hmem.2 (by rw [hsb, decide_eq_true hc])
      obtain ⟨j, hj, hjm⟩ := first_at hin
      have r37 := S37.call (P := Try.prog) h37 (m := m) (w := w') ⟨v5, _, (i : Int), (j : Int), rfl, h5, by omega, rfl, .inr ⟨j, rfl, hj, hjm⟩⟩
      have hk2 := k2 hc
      have q1 : ¬ E < 0 := by omega
      have q2 : ¬ C ≤ E := by omega
      have q3 : (0 : Int) ≤ (j : Int) := by omega
      simp [mc9_l1, t1, t3, t5, t7, t10, t11, t12, t13, t16, hla, hlt, g1, hia, lp, ia1, ia2, ia3, ia4, ia5, ld1, ld2, ld3, ld4, ld5, r37, q1, q2, q3, hc, hw1', hw2', hw3', htl]
      omega
    · have hin : (i : Int) ∉ shP ps ds ps.length := fun h => by
        have := hmem.1 h
        rw [hsb, decide_eq_false hc] at this
        cases this
      have r37 := S37.call (P := Try.prog) h37 (m := m) (w := w') ⟨v5, _, (i : Int), -1, rfl, h5, by omega, rfl, .inl ⟨rfl, hin⟩⟩
      have q1 : ¬ E < 0 := by omega
      simp [mc9_l1, t1, t3, t5, t7, t10, t11, t12, t13, t16, hla, hlt, g1, hia, lp, ia1, ia2, ia3, ia4, ia5, ld1, ld2, ld3, ld4, ld5, r37, q1, hc, hw1', hw2', hw3', htl]
      omega
  · have hi' : i = ps.length := by omega
    subst hi'
    simp [mc9_l1, t10, t16, hla]
    exact hQ _ (by simp [t3]) (by simp [t11])
set_option maxHeartbeats 2000000 in
theorem call9 {ov : Ov} (m : Nat) (ho : ∀ args w, ov 9 args w = none) (ho20 : ∀ args w, ov 20 args w = none) (ho22 : ∀ args w, ov 22 args w = none) (ho24 : ∀ args w, ov 24 args w = none) (ho31 : ∀ args w, ov 31 args w = none) (ho52 : ∀ args w, ov 52 args w = none) (ho40 : ∀ args w, ov 40 args w = none) (ho61 : ∀ args w, ov 61 args w = none) (ho74 : ∀ args w, ov 74 args w = none) (ho42 : ∀ args w, ov 42 args w = none) (ho43 : ∀ args w, ov 43 args w = none) (ho64 : ∀ args w, ov 64 args w = none)
    (hW : HasW ov) (h17 : HasP ov 17 S17.F) (h30 : HasP ov 30 S30.F) (h36 : HasP ov 36 S36.F) (h37 : HasP ov 37 S37.F) (h38 : HasP ov 38 S62.F) (h49 : HasP ov 49 S49.F) (h51 : HasP ov 51 S51.F) (h62 : HasP ov 62 S62.F) (h63 : HasP ov 63 S63.F)
    (pv dv : Value) (ps : List Pt) (ds : List Dt) (w : AW) (hl : w.lim ≤ w.next) (hL : LedV w pv dv ps ds) :
    ∃ v w', (run Try.prog ov (m + 5)).call 9 [.agg ⟨[pv, dv]⟩] w .none = .ok (.ret v) w' .none ∧ v = .bool true := by
  refine call_wp text9 (by simp) (ho _ _) ?_
  obtain ⟨w1, hw1⟩ : ∃ w1, w1 = (⟨w.heap.put w.next (some (.cells [pv, dv] 25 false)), w.next + 1, w.lim⟩ : AW) := ⟨_, rfl⟩
  have u1 : Up w w1 := hw1 ▸ (Up.refl w).add _
  have n1 : w1.next = w.next + 1 := by rw [hw1]
  have m1 : w1.lim = w.lim := by rw [hw1]
  have g1 : w1.heap.get w.next = some (.cells [pv, dv] 25 false) := by rw [hw1]; simp
  obtain ⟨_, w2, c22, v3, rfl, hr3, u2⟩ := call22 (ov := ov) m ho22 ho40 ho61 ho74 ho43 ho64 h62 h17 h49 h51 pv dv ps ds w1 (by omega) (hL.up u1)
  have n2 := u2.next
  have m2 := u2.lim
  have g2 := u2.at (b := w.next) (by omega)
  rw [g1] at g2
  have y2 := u1.trans u2
  obtain ⟨_, w3, c24, v5, rfl, hr5, u3⟩ := call24 (ov := ov) m ho24 ho40 ho61 ho74 ho52 h62 h17 h49 pv dv ps ds w2 (by omega) (hL.up y2)
  have n3 := u3.next
  have m3 := u3.lim
  have g3 := u3.at (b := w.next) (by omega)
  rw [g2] at g3
  have y3 := y2.trans u3
  obtain ⟨_, w4, c20, v7, v8, rfl, hr7, hr8, u4⟩ := call20 (ov := ov) m ho20 ho40 ho61 ho74 ho42 ho43 ho64 h62 h17 h49 h63 pv dv ps ds w3 (by omega) (hL.up y3)
  have n4 := u4.next
  have m4 := u4.lim
  have g4 := u4.at (b := w.next) (by omega)
  rw [g3] at g4
  have y4 := y3.trans u4
  have rW := fun w => ruleW (m := m + 3) hW w
  have hl3 := fun w2 => len26V (w' := w2) hr3
  have hl5 := fun w2 => len26V (w' := w2) hr5
  have hl7 := fun w2 => len26V (w' := w2) hr7
  have hl8 := fun w2 => len26V (w' := w2) hr8
  have hl23 := fun w2 => len23V (w' := w2) hL.d
  rw [hw1] at c22
  have z0 : IntKind.wrap .i64 0 = 0 := by decide
  by_cases hC : chE ps ds = 0
  case neg =>
    have e3 : lfL ps ds = [] := by unfold lfL; rw [if_neg hC]
    have e5 : shL ps ds = [] := by unfold shL; rw [if_neg hC]
    have e7 : clP ps ds = [] := by unfold clP; rw [if_neg hC]
    rw [e3] at hl3
    rw [e5] at hl5
    rw [e7] at hl7
    simp only [List.length_nil] at hl3 hl5 hl7
    simp [mc9, cellsOf_agg, c22, g2, c24, g3, c20, hC, hl3, hl5, hl7, z0, rW, tupV]
  case pos =>
    have hO := ch_lk hC
    have hk : LK ps ds := hO.up (by decide)
    have h8 := hO.n8
    have e3 : lfL ps ds = lsF ps.length (leD ps ds (stF ps ds)) := by unfold lfL; rw [if_pos hC]
    have e5 : shL ps ds = shP ps ds ps.length := by unfold shL; rw [if_pos hC]
    have e7 : clP ps ds = lsF ps.length (stF ps ds) := by unfold clP; rw [if_pos hC]
    have e8 : clA ps ds = paF ds (stF ps ds) := by unfold clA; rw [if_pos hC]
    have epl : (paF ds (stF ps ds)).length = ds.length := by unfold paF; rw [List.length_map]
    rw [e3] at hr3 hl3
    rw [e5] at hr5 hl5
    rw [e7] at hr7 hl7
    rw [e8] at hr8 hl8
    rw [epl] at hl8
    simp only [lsF_len] at hl3 hl7
    rw [hC] at c22 c24 c20
    have r30 := S30.call (P := Try.prog) h30 (m := m + 3) (w := w4) ⟨pv, dv, ps, ds, rfl, hL.up y4, rfl⟩
    rw [hC] at r30
    obtain ⟨_, w5, c31, B0, rfl, gB0, hB1, hB2, u5⟩ := call31 (ov := ov) (m + 3) ho31 pv dv ps ds w4 (by omega) (hL.up y4) hk
    have n5 := u5.next
    have m5 := u5.lim
    have g5 := u5.at (b := w.next) (by omega)
    rw [g4] at g5
    have y5 := y4.trans u5
    have hr10 : RowsV intC w5 (.slice (some ⟨B0, 0, none⟩) ps.length ps.length) (lsF ps.length (owD ds)) := rows_ls gB0 hB2 _
    have hl10 := fun w2 => len26V (w' := w2) hr10
    simp only [lsF_len] at hl10
    have hsl := shP_len ps ds ps.length
    have r36 := S36.call (P := Try.prog) h36 (m := m + 3) (w := w5) ⟨v5, _, (ps.length : Int), rfl, hr5.up (u4.trans u5), by omega, by omega, shP_inc ps ds ps.length, rfl⟩
    have hmk := fun w => mk26 ps.length (by omega) w
    obtain ⟨w6, hw6⟩ : ∃ w6, w6 = (⟨(w5.heap.put w5.next (some (.cells (lsC ps.length fun _ => 0) 3 false))).put (w5.next + 1) (some (.cells (lsC ps.length fun _ => 0) 3 false)), w5.next + 1 + 1, w5.lim⟩ : AW) := ⟨_, rfl⟩
    have u6 : Up w5 w6 := by rw [hw6]; exact ((Up.refl w5).put (Nat.le_refl _) (Nat.le_refl _)).put (Nat.le_succ _) (by omega)
    have gA6 : w6.heap.get w5.next = some (.cells (lsC ps.length fun _ => 0) 3 false) := by rw [hw6]; simp
    have gB6 : w6.heap.get (w5.next + 1) = some (.cells (lsC ps.length fun _ => 0) 3 false) := by rw [hw6]; simp
    have n6 : w6.next = w5.next + 1 + 1 := by rw [hw6]
    have key := fun Q t => loop9a (ov := ov) (m + 4) pv dv v8 v3 v5 v7 (.slice (some ⟨B0, 0, none⟩) ps.length ps.length) ps ds hk (stF ps ds) (st_rng hk) w5 w6 (hL.up y5) u6 (by omega) w.next (by omega) g5 (hr8.up u5) w5.next (w5.next + 1) (Nat.le_refl _) (Nat.lt_succ_self _) (by omega) gA6 gB6 Q t
    rw [hw6] at key
    simp [mc9, cellsOf_agg, c22, g2, c24, g3, c20, r30, g4, c31, hl3, hl5, hl7, hl8, hl10, g5, hl23, r36, hmk]
    refine wp_seqX (wp_blockX (key _ _ ?_ ?_ ?_ ?_ ?_ ?_ ?_ ?_ ?_ ?_ ?_))
    case _ => simp
    case _ => simp
    case _ => simp
    case _ => simp
    case _ => simp
    case _ => simp
    case _ => simp
    case _ => simp
    case _ => simp
    case _ => simp
    case _ =>
      intro t w7 u7 gA gB hB7 t1 t3 t5 t7 t10 t11 t12 t13
      have g7 := u7.at (b := w.next) (by omega)
      rw [g5] at g7
      have y7 := y5.trans u7
      have hA7 : w5.next < w7.next := by omega
      have key2 := fun Q t => loop9b (ov := ov) (m + 3) h37 pv dv v3 v5 v7 (.slice (some ⟨B0, 0, none⟩) ps.length ps.length) (.slice (some ⟨w5.next, 0, none⟩) ps.length ps.length) (.slice (some ⟨w5.next + 1, 0, none⟩) ps.length ps.length) ps ds hk w7 (hL.up y7) w.next g7 (hr3.up (((u3.trans u4).trans u5).trans u7)) (hr5.up ((u4.trans u5).trans u7)) (hr7.up (u5.trans u7)) (hr10.up u7) (rows_ls gA hA7 _) (rows_ls gB hB7 _) Q t
      simp
      refine wp_seqX (wp_blockX (key2 _ _ ?_ ?_ ?_ ?_ ?_ ?_ ?_ ?_ ?_ ?_))
      case _ => simp [t1]
      case _ => simp [t3]
      case _ => simp [t5]
      case _ => simp [t7]
      case _ => simp [t10]
      case _ => simp [t11]
      case _ => simp [t12]
      case _ => simp [t13]
      case _ => simp
      case _ =>
        intro t t3 t11
        have r38 := S62.call (P := Try.prog) h38 (m := m + 3) (w := w7) ⟨v3, _, rfl, hr3.up (((u3.trans u4).trans u5).trans u7), by rw [lsF_len]; omega, rfl⟩
        have et : totW (lsF ps.length (leD ps ds (stF ps ds))) = totL (lsF ps.length (caP ps)) := by
          rw [totW_eq (fun z hz => ?_) (by rw [lsF_len]; omega), totL_ls, totL_ls, hk.left_all]
          unfold lsF at hz
          obtain ⟨q, _, rfl⟩ := List.mem_map.1 hz
          have := (left_ok hk (q : Int)).1
          have hh := hk.ha_in (st_rng hk) (q : Int)
          have ho : 0 ≤ ouD ds (stF ps ds) (q : Int) := sI_nonneg fun d hd => by
            have := (hk.pt_in (st_rng hk) hd).1
            split <;> omega
          refine ⟨this, ?_⟩
          unfold leD
          omega
        rw [et] at r38
        simp [t3, t11, r38, rW, tupV]
end Go.Proofs.Ythfidomphkednaa.walk
