/- Part of a proof by a machine of ones own: see the text with the theorem. -/
import Derived.Test.YthfidomphkednaaAWe
namespace Go.Proofs.Ythfidomphkednaa.walk
open Go Go.Sh
set_option maxRecDepth 100000
set_option linter.unusedSimpArgs false
set_option linter.unusedVariables false
/-! CreditPaid -/
theorem call34 {ov : Ov} (m : Nat) (ho : ∀ args w, ov 34 args w = none) (lv : Value) (L : List Int) (z : Int) (w : AW) (hv : RowsV intC w lv L) (hn : 1 ≤ L.length) (hn2 : L.length ≤ 1000) (hl : w.lim ≤ w.next) :
    ∃ v w', (run Try.prog ov (m + 1)).call 34 [lv, .int .i64 z] w .none = .ok (.ret v) w' .none ∧ ∃ B, v = .slice (some ⟨B, 0, none⟩) (L.length + 1) (L.length + 1) ∧ w'.heap.get B = some (.cells ((L ++ [z]).flatMap intC) 3 false) ∧ w.next ≤ B ∧ B < w'.next ∧ Up w w' := by
  refine call_wp text34 (by simp) (ho _ _) ?_
  have hne : L ≠ [] := fun e => by rw [e] at hn; simp at hn
  have hu : Up w ⟨w.heap.put w.next (some (.cells [] 3 false)), w.next + 1, w.lim⟩ := (Up.refl w).add _
  obtain ⟨h5, h4⟩ := src_rows intC_length (by decide) (hv.up hu) hne
  have a1 := append_full (P := Try.prog) list26 elem26 size3 small3 (w := ⟨w.heap.put w.next (some (.cells [] 3 false)), w.next + 1, w.lim⟩) (B := w.next) (n := 0) (m := L.length) (c := []) h4 h5 (by rw [flat_length intC_length]) (flat_singles (fun _ => by simp [intC]) _) (by omega) (by omega) (by simp) (by simp) hl
  obtain ⟨w2, hw2⟩ : ∃ w2, (⟨((w.heap.put w.next (some (.cells [] 3 false))).put w.next none).put (w.next + 1) (some (.cells (L.flatMap intC) 3 false)), w.next + 1 + 1, w.lim⟩ : AW) = w2 := ⟨_, rfl⟩
  have u2 : Up w w2 := by
    rw [← hw2]
    exact (((Up.refl w).put (Nat.le_refl _) (Nat.le_refl _)).put (Nat.le_refl _) (Nat.le_refl _)).put (Nat.le_succ _) (by omega)
  have n2 : w2.next = w.next + 1 + 1 := by rw [← hw2]
  have m2 : w2.lim = w.lim := by rw [← hw2]
  have g2 : w2.heap.get (w.next + 1) = some (.cells (L.flatMap intC) 3 false) := by rw [← hw2]; simp
  simp only [List.nil_append, Nat.zero_add] at a1
  rw [hw2] at a1
  obtain ⟨w3, hw3⟩ : ∃ w3, (⟨w2.heap.put w2.next (some (.cells [.int .i64 z] 3 false)), w2.next + 1, w2.lim⟩ : AW) = w3 := ⟨_, rfl⟩
  have u3 : Up w2 w3 := hw3 ▸ (Up.refl w2).add _
  have n3 : w3.next = w2.next + 1 := by rw [← hw3]
  have m3 : w3.lim = w2.lim := by rw [← hw3]
  have hz : RowsV intC w3 (.slice (some ⟨w2.next, 0, none⟩) 1 1) [z] := .inr ⟨w2.next, 0, none, 1, rfl, ⟨[], [], 3, false, by rw [← hw3]; simp [intC], rfl⟩, by omega⟩
  obtain ⟨k5, k4⟩ := src_rows intC_length (by decide) hz (by simp)
  have g3 := u3.at (b := w.next + 1) (by omega)
  rw [g2] at g3
  have a2 := append_full (P := Try.prog) list26 elem26 size3 small3 (w := w3) (B := w.next + 1) (n := L.length) (m := 1) (c := L.flatMap intC) k4 k5 (by simp [intC]) (flat_singles (fun _ => by simp [intC]) _) (by omega) (by omega) g3 (flat_length intC_length L) (by omega)
  obtain ⟨w4, hw4⟩ : ∃ w4, (⟨(w3.heap.put (w.next + 1) none).put w3.next (some (.cells (L.flatMap intC ++ [z].flatMap intC) 3 false)), w3.next + 1, w3.lim⟩ : AW) = w4 := ⟨_, rfl⟩
  rw [hw4] at a2
  have nj : ∀ (a : Addr) n c, notJunk (.slice (some a) n c) = some (.slice (some a) n c) := fun _ _ _ => rfl
  simp [mc34, a1, hw2, hw3, a2, nj, tupV]
  refine ⟨?_, by omega, ?_, ?_⟩
  · rw [← hw4]; simp
  · rw [← hw4]; simp
  · have y3 := u2.trans u3
    rw [← hw4]
    refine ⟨fun x hx => ?_, by show w.next ≤ w3.next + 1; omega, by show w3.lim = w.lim; omega⟩
    have q1 : ¬ x = w.next + 1 := by omega
    have q2 : ¬ x = w3.next := by omega
    simp [q1, q2]
    exact y3.at hx
theorem sl26 (w : AW) (B n c k : Nat) (cs : List Value) (hB : w.heap.get B = some (.cells cs 3 false)) (hk : k ≤ c) : sliceA Try.prog w 26 (.slice (some ⟨B, 0, none⟩) n c) none (some (.int .i64 (k : Int))) none = .val (.slice (some ⟨B, 0, none⟩) k c) w := by
  show sliceA Try.prog w 26 (.slice (some ⟨B, 0, none⟩) n c) none (some (.int .i64 (Int.ofNat k))) none = _
  have hb' : Nat.ble k c = true := Nat.ble_eq_true_of_le hk
  simp [sliceA, sliceB1, elem26, size3, sliceRow, boundA, hb', cutAddr, rowElem, hB, cutR]
/-- what is paid to each, by the first debts -/
def inP (ds : List Dt) (x : Int → Int) (i : Nat) : Int → Int := fun p => sI (fun d => if d.t = p then ptD (owD ds) x d else 0) (ds.take i)
theorem inP_zero (ds : List Dt) (x : Int → Int) : inP ds x 0 = fun _ => 0 := by funext p; simp [inP, sI]
theorem inP_all (ds : List Dt) (x : Int → Int) : inP ds x ds.length = inD ds x := by funext p; simp [inP, inD]
theorem inP_step {ds : List Dt} {x : Int → Int} {i : Nat} {d : Dt} (h : ds[i]? = some d) : updF (inP ds x i) d.t (inP ds x i d.t + ptD (owD ds) x d) = inP ds x (i + 1) := by
  funext p
  unfold updF inP
  rw [sI_step h]
  by_cases h1 : p = d.t
  · subst h1
    simp only [if_true]
  · have h2 : ¬ d.t = p := fun e => h1 e.symm
    simp only [if_neg h1, if_neg h2]; omega
set_option maxHeartbeats 2000000 in
theorem loop7a {ov : Ov} (m : Nat) (h32 : HasP ov 32 S32.F) (pv dv lv qv v5 v8 : Value) (B0 : Nat) (ps : List Pt) (ds : List Dt) (hk : LK ps ds) (L : List Int) (hLn : L.length = ps.length) (hx : ∀ p, 0 ≤ liF L p ∧ liF L p ≤ owD ds p) (we w0 : AW) (hL : LedV we pv dv ps ds) (u0 : Up we w0) (hlw : we.lim ≤ we.next) (n1 : Nat) (hn1 : n1 < we.next) (g1 : we.heap.get n1 = some (.cells [pv, dv] 25 false)) (hq : RowsV intC we qv (paF ds (liF L))) (hv : RowsV intC we lv L) (ho : RowsV intC we (.slice (some ⟨B0, 0, none⟩) ps.length ps.length) (lsF ps.length (owD ds))) (A : Nat) (hA : we.next ≤ A) (hB0 : A < w0.next) (gA : w0.heap.get A = some (.cells (lsC ps.length fun _ => 0) 3 false))
    (Q : Ex → Tm → AW → Prop) (t : Tm) (t1 : tget t 1 = lv) (t3 : tget t 3 = .pointer (some ⟨n1, 0, none⟩)) (t5 : tget t 5 = v5) (t7 : tget t 7 = qv) (t8 : tget t 8 = v8) (t10 : tget t 10 = .slice (some ⟨B0, 0, none⟩) ps.length ps.length) (t11 : tget t 11 = .slice (some ⟨A, 0, none⟩) ps.length ps.length) (t12 : tget t 12 = .int .i64 0)
    (hQ : ∀ t w', Up we w' → w'.heap.get A = some (.cells (lsC ps.length (inD ds (liF L))) 3 false) → A < w'.next → tget t 1 = lv → tget t 3 = .pointer (some ⟨n1, 0, none⟩) → tget t 5 = v5 → tget t 7 = qv → tget t 8 = v8 → tget t 10 = .slice (some ⟨B0, 0, none⟩) ps.length ps.length → tget t 11 = .slice (some ⟨A, 0, none⟩) ps.length ps.length → Q (.exit 0) t w') : wp (exM Try.prog (run Try.prog ov (m + 1)) (.loop mc7_l0) t w0) Q := by
  have h16 := hk.d16
  have h8 := hk.n8
  refine wp_rounds (fun i t w' => Kp A w0 w' ∧ w'.heap.get A = some (.cells (lsC ps.length (inP ds (liF L) i)) 3 false) ∧ tget t 1 = lv ∧ tget t 3 = .pointer (some ⟨n1, 0, none⟩) ∧ tget t 5 = v5 ∧ tget t 7 = qv ∧ tget t 8 = v8 ∧ tget t 10 = .slice (some ⟨B0, 0, none⟩) ps.length ps.length ∧ tget t 11 = .slice (some ⟨A, 0, none⟩) ps.length ps.length ∧ tget t 12 = .int .i64 (i : Nat) ∧ i ≤ ds.length) 20 (by decide) ⟨Kp.refl _ _, by rw [inP_zero]; exact gA, t1, t3, t5, t7, t8, t10, t11, by simpa using t12, Nat.zero_le _⟩ ?_
  clear t1 t3 t5 t7 t8 t10 t11 t12
  rintro i t w' ⟨hkp, ga, t1, t3, t5, t7, t8, t10, t11, t12, hi⟩
  have hup := hkp.up u0 hA
  have hlm := hup.lim
  have hnx := hup.next
  have hk3 := hkp.next
  have epl : (paF ds (liF L)).length = ds.length := by unfold paF; rw [List.length_map]
  have hlq := fun w2 => len26V (w' := w2) hq
  rw [epl] at hlq
  have g := hup.at hn1
  rw [g1] at g
  by_cases hlt : i < ds.length
  · obtain ⟨d, hd⟩ : ∃ a, ds[i]? = some a := ⟨_, List.getElem?_eq_getElem hlt⟩
    have hdm := List.mem_of_getElem? hd
    obtain ⟨b, off, sq, c, rfl, hra⟩ := (hL.d.up hup).at_ i hlt
    have hld := hra.rd dtC_length hd
    have hia := fun w => ia23 w ⟨b, off, sq⟩ ds.length c .i64 i hlt
    have hdb := hk.debt d hdm
    have hpb := hk.pt_in hx hdm
    have how := hk.ow_pos hdm
    have hol := hk.ow_le d.f
    have hpd : ptD (owD ds) (liF L) d = liF L d.f * d.c / owD ds d.f := rfl
    have hpq : (paF ds (liF L))[i]? = some (ptD (owD ds) (liF L) d) := by unfold paF; simp [hd]
    obtain ⟨b8, o8, s8, c8, rfl, hr8⟩ := hq.at_ i (by rw [epl]; exact hlt)
    have hb8 := hr8.2
    have ld8 := (hr8.old hup.old hup.next).int hpq
    have ia8 := fun w2 => ia26 w2 ⟨b8, o8, s8⟩ (paF ds (liF L)).length c8 .i64 i (by rw [epl]; exact hlt)
    simp only [Nat.mul_one, epl] at ia8
    obtain ⟨kf, hkf0⟩ : ∃ k : Nat, d.f = (k : Int) := ⟨d.f.toNat, by omega⟩
    obtain ⟨k, hk0⟩ : ∃ k : Nat, d.t = (k : Int) := ⟨d.t.toNat, by omega⟩
    have hkn : k < ps.length := by omega
    have hkf : kf < ps.length := by omega
    obtain ⟨b1, o1, s1, c1, rfl, hr1⟩ := hv.at_ kf (by omega)
    have hb1 := hr1.2
    have hz1 : L[kf]? = some (liF L (kf : Int)) := by
      obtain ⟨z, hz⟩ : ∃ z, L[kf]? = some z := ⟨_, List.getElem?_eq_getElem (by omega)⟩
      rw [hz, liF_at hz]
    have ld1 := (hr1.old hup.old hup.next).int hz1
    have ia1 := fun w2 => ia26 w2 ⟨b1, o1, s1⟩ L.length c1 .i64 kf (by omega)
    simp only [Nat.mul_one] at ia1
    obtain ⟨b2, o2, s2, c2, e2, hr2⟩ := ho.at_ kf (by rw [lsF_len]; exact hkf)
    have hb2 := hr2.2
    have ld2 := (hr2.old hup.old hup.next).int (lsF_at ps.length (owD ds) hkf)
    simp only [Value.slice.injEq, Option.some.injEq, Addr.mk.injEq] at e2
    obtain ⟨⟨rfl, rfl, rfl⟩, _, rfl⟩ := e2
    have ia2 := fun w2 => ia26 w2 ⟨B0, 0, none⟩ ps.length ps.length .i64 kf hkf
    have iC := fun w => ia26 w ⟨A, 0, none⟩ ps.length ps.length .i64 k hkn
    simp only [Nat.mul_one] at ia2 iC
    simp only [Nat.zero_add] at ld2
    have s2 := inP_step (x := liF L) hd
    have w1 := inT_bd hk hx d.t i
    have eW : inP ds (liF L) i d.t = sI (fun d' => if d'.t = d.t then ptD (owD ds) (liF L) d' else 0) (ds.take i) := rfl
    have hxf := hx d.f
    obtain ⟨V, hV⟩ : ∃ X, X = ptD (owD ds) (liF L) d := ⟨_, rfl⟩
    obtain ⟨G, hG⟩ : ∃ X, X = inP ds (liF L) i d.t := ⟨_, rfl⟩
    obtain ⟨X, hX⟩ : ∃ X, X = liF L d.f := ⟨_, rfl⟩
    obtain ⟨O, hO⟩ : ∃ X, X = owD ds d.f := ⟨_, rfl⟩
    rw [← hV] at ld8 hpb s2 hpd
    rw [← hG] at s2 eW
    rw [← hX] at hpd hxf
    rw [← hO] at hpd how hol hxf
    rw [← hkf0, ← hX] at ld1
    rw [← hkf0, ← hO] at ld2
    have q2 := lsC_get ps.length (inP ds (liF L) i) hkn
    rw [← hk0, ← hG] at q2
    obtain ⟨f, tt, cc⟩ := d
    simp only at hdb w1 eW s2 hkf0 hk0 how hpb hpd
    subst hkf0 hk0
    have hcc : 0 ≤ X * cc ∧ X * cc ≤ 1600000 * 100000 := ⟨Int.mul_nonneg hxf.1 (by omega), Int.mul_le_mul (by omega) (by omega) (by omega) (by decide)⟩
    have hvo : 0 ≤ V * O ∧ V * O ≤ 1600000 * 100000 := by
      have : V * O ≤ 100000 * 1600000 := Int.mul_le_mul (by omega) (by omega) (by omega) (by decide)
      exact ⟨Int.mul_nonneg hpb.1 (by omega), by omega⟩
    have hmod : 0 ≤ X * cc - V * O ∧ X * cc - V * O ≤ O - 1 := by
      have e1 := Int.emod_add_mul_ediv (X * cc) O
      have e2 := Int.emod_nonneg (X * cc) (show O ≠ 0 by omega)
      have e3 := Int.emod_lt_of_pos (X * cc) (show 0 < O by omega)
      rw [← hpd, Int.mul_comm O V] at e1
      omega
    have wa : IntKind.wrap .i64 (X * cc) = X * cc := wrap64_in (by omega) (by omega)
    have wb : IntKind.wrap .i64 (V * O) = V * O := wrap64_in (by omega) (by omega)
    have wc : IntKind.wrap .i64 (G + V) = G + V := wrap64_in (by omega) (by omega)
    have wd : IntKind.wrap .i64 ((i : Int) + 1) = (i : Int) + 1 := wrap64_in (by omega) (by omega)
    have we' : IntKind.wrap .i64 (X * cc - V * O) = X * cc - V * O := wrap64_in (by omega) (by omega)
    have wf : IntKind.wrap .i64 (O - 1) = O - 1 := wrap64_in (by omega) (by omega)
    have ra := fun w => S32.call (P := Try.prog) h32 (m := m) (w := w) ⟨V, 0, cc, rfl, rfl⟩
    have rb := fun w => S32.call (P := Try.prog) h32 (m := m) (w := w) ⟨X * cc - V * O, 0, O - 1, rfl, rfl⟩
    have ea : inI 0 V cc = true := by unfold inI; simp; omega
    have eb : inI 0 (X * cc - V * O) (O - 1) = true := by unfold inI; simp; omega
    rw [ea] at ra
    rw [eb] at rb
    simp only [dtC] at hld
    have z0 : ¬ A = w'.next := by omega
    have z1 : ¬ b1 = w'.next := by omega
    have z2 : ¬ B0 = w'.next := by omega
    have z4 : ¬ b8 = w'.next := by omega
    have z7 : ¬ w'.next = A := by omega
    have la : w'.lim ≤ A := by omega
    have ln : w'.lim ≤ w'.next := by omega
    have sA : ∀ w5 : AW, w5.lim ≤ A → wrO w5 A k [.int .i64 (G + V)] (some (.cells (lsC ps.length (inP ds (liF L) i)) 3 false)) = some ⟨w5.heap.put A (some (.cells (lsC ps.length (inP ds (liF L) (i + 1))) 3 false)), w5.next, w5.lim⟩ := fun w5 h => by rw [st_ls hkn h, s2]
    have sD : ∀ w5 : AW, w5.lim ≤ w'.next → wrO w5 w'.next 0 [.int .i64 (kf : Int), .int .i64 (k : Int), .int .i64 cc] (some (.cells [.int .i64 0, .int .i64 0, .int .i64 0] 46 false)) = some ⟨w5.heap.put w'.next (some (.cells [.int .i64 (kf : Int), .int .i64 (k : Int), .int .i64 cc] 46 false)), w5.next, w5.lim⟩ := fun w5 h => by rw [wrO_cells (by simp) h (by simp)]; rfl
    simp [mc7_l0, t1, t3, t5, t7, t8, t10, t11, t12, g, hlq, epl, hlt, hia, hld, ld8, ia8, ld1, ia1, ld2, ia2, iC, ga, q2, z0, z1, z2, z4, z7, la, ln, wa, wb, wc, wd, we', wf, ra, rb, sA, sD, -wrO_cells]
    refine ⟨by omega, ?_, hlt⟩
    exact ((hkp.new (.inl hk3) (Nat.le_refl _)).new (.inl hk3) (Nat.le_refl _)).new (.inr rfl) (Nat.le_succ _)
  · have hi' : i = ds.length := by omega
    subst hi'
    rw [inP_all] at ga
    simp [mc7_l0, t7, t12, hlq]
    exact hQ _ _ hup ga (by omega) (by simp [t1]) (by simp [t3]) (by simp [t5]) (by simp [t7]) (by simp [t8]) (by simp [t10]) (by simp [t11])
theorem loop7b {ov : Ov} (m : Nat) (pv dv v1 v5 v7 v8 v10 v11 : Value) (ps : List Pt) (ds : List Dt) (hk : LK ps ds) (x : Int → Int) (hx : ∀ p, 0 ≤ x p ∧ x p ≤ owD ds p) (w0 : AW) (hL : LedV w0 pv dv ps ds) (n1 : Nat) (g1 : w0.heap.get n1 = some (.cells [pv, dv] 25 false))
    (h8' : RowsV intC w0 v8 (lsF ps.length (haD ps ds x))) (h10 : RowsV intC w0 v10 (lsF ps.length (owD ds))) (h11 : RowsV intC w0 v11 (lsF ps.length (inD ds x)))
    (Q : Ex → Tm → AW → Prop) (t : Tm) (t1 : tget t 1 = v1) (t3 : tget t 3 = .pointer (some ⟨n1, 0, none⟩)) (t5 : tget t 5 = v5) (t7 : tget t 7 = v7) (t8 : tget t 8 = v8) (t10 : tget t 10 = v10) (t11 : tget t 11 = v11) (t15 : tget t 15 = .int .i64 0)
    (hQ : ∀ t, tget t 1 = v1 → tget t 3 = .pointer (some ⟨n1, 0, none⟩) → tget t 5 = v5 → tget t 7 = v7 → tget t 10 = v10 → Q (.exit 2) t w0) : wp (exM Try.prog (run Try.prog ov m) (.loop mc7_l1) t w0) Q := by
  have h8 := hk.n8
  refine wp_rounds (fun i t w' => w' = w0 ∧ tget t 1 = v1 ∧ tget t 3 = .pointer (some ⟨n1, 0, none⟩) ∧ tget t 5 = v5 ∧ tget t 7 = v7 ∧ tget t 8 = v8 ∧ tget t 10 = v10 ∧ tget t 11 = v11 ∧ tget t 15 = .int .i64 (i : Nat) ∧ i ≤ ps.length) 20 (by decide) ⟨rfl, t1, t3, t5, t7, t8, t10, t11, by simpa using t15, Nat.zero_le _⟩ ?_
  clear t1 t3 t5 t7 t8 t10 t11 t15
  rintro i t w' ⟨rfl, t1, t3, t5, t7, t8, t10, t11, t15, hi⟩
  have hla := fun w2 => len26V (w' := w2) h10
  rw [lsF_len] at hla
  by_cases hlt : i < ps.length
  · obtain ⟨b1, o1, s1, c1, rfl, ld1, ia1⟩ := row_ld h8' (lsF_at ps.length (haD ps ds x) hlt)
    obtain ⟨b2, o2, s2, c2, rfl, ld2, ia2⟩ := row_ld h11 (lsF_at ps.length (inD ds x) hlt)
    obtain ⟨a, ha⟩ : ∃ a, ps[i]? = some a := ⟨_, List.getElem?_eq_getElem hlt⟩
    obtain ⟨b, off, sq, c, rfl, hra⟩ := hL.p.at_ i hlt
    have lp := hra.rd1 (j := 1) ptC_length ha (x := .int .i64 a.ch) rfl
    have hia := fun w => ia22 w ⟨b, off, sq⟩ ps.length c .i64 i hlt
    have hca := ca_at ha
    simp only [lsF_len] at ia1 ia2
    have hHD : haD ps ds x (i : Int) = caP ps (i : Int) + inD ds x (i : Int) := rfl
    have hcb := hk.ca (i : Int)
    have hin := hk.in_in hx (i : Int)
    obtain ⟨H, hH⟩ : ∃ X, X = haD ps ds x (i : Int) := ⟨_, rfl⟩
    obtain ⟨N, hN⟩ : ∃ X, X = inD ds x (i : Int) := ⟨_, rfl⟩
    rw [← hH] at ld1 hHD
    rw [← hN] at ld2 hHD hin
    rw [hca] at hHD hcb
    have hw1' : IntKind.wrap .i64 ((i : Int) + 1) = (i : Int) + 1 := wrap64_in (by omega) (by omega)
    have hw2' : IntKind.wrap .i64 (a.ch + N) = H := by rw [← hHD]; exact wrap64_in (by omega) (by omega)
    simp [mc7_l1, t1, t3, t5, t7, t8, t10, t11, t15, hla, hlt, g1, hia, lp, ia1, ia2, ld1, ld2, hw1', hw2']
    omega
  · have hi' : i = ps.length := by omega
    subst hi'
    simp [mc7_l1, t10, t15, hla]
    exact hQ _ (by simp [t1]) (by simp [t3]) (by simp [t5]) (by simp [t7]) (by simp [t10])
theorem loop7c {ov : Ov} (m : Nat) (v7 v18 : Value) (U V : List Int) (hl : U.length = V.length) (hU : U.length ≤ 100) (huv : ∀ (i : Nat) a b, U[i]? = some a → V[i]? = some b → a ≤ b) (w0 : AW) (h7 : RowsV intC w0 v7 U) (h18 : RowsV intC w0 v18 V)
    (Q : Ex → Tm → AW → Prop) (t : Tm) (t7 : tget t 7 = v7) (t18 : tget t 18 = v18) (t20 : tget t 20 = .int .i64 0)
    (hQ : ∀ t, Q (.exit 4) t w0) : wp (exM Try.prog (run Try.prog ov m) (.loop mc7_l2) t w0) Q := by
  refine wp_rounds (fun i t w' => w' = w0 ∧ tget t 7 = v7 ∧ tget t 18 = v18 ∧ tget t 20 = .int .i64 (i : Nat) ∧ i ≤ U.length) 200 (by decide) ⟨rfl, t7, t18, by simpa using t20, Nat.zero_le _⟩ ?_
  clear t7 t18 t20
  rintro i t w' ⟨rfl, t7, t18, t20, hi⟩
  have hla := fun w2 => len26V (w' := w2) h7
  by_cases hlt : i < U.length
  · obtain ⟨a, ha⟩ : ∃ a, U[i]? = some a := ⟨_, List.getElem?_eq_getElem hlt⟩
    obtain ⟨b, hb⟩ : ∃ a, V[i]? = some a := ⟨_, List.getElem?_eq_getElem (by omega)⟩
    obtain ⟨b1, o1, s1, c1, rfl, ld1, ia1⟩ := row_ld h7 ha
    obtain ⟨b2, o2, s2, c2, rfl, ld2, ia2⟩ := row_ld h18 hb
    have hw1' : IntKind.wrap .i64 ((i : Int) + 1) = (i : Int) + 1 := wrap64_in (by omega) (by omega)
    have hc := huv i a b ha hb
    have hc' : ¬ b < a := by omega
    simp [mc7_l2, t7, t18, t20, hla, hlt, ia1, ia2, ld1, ld2, hw1', hc']
    omega
  · have hi' : i = U.length := by omega
    subst hi'
    simp [mc7_l2, t7, t20, hla]
    exact hQ _
end Go.Proofs.Ythfidomphkednaa.walk

namespace Go.Proofs.Ythfidomphkednaa.walk
open Go Go.Sh
set_option maxRecDepth 100000
set_option linter.unusedSimpArgs false
set_option linter.unusedVariables false
theorem st_li {w : AW} {B k : Nat} {L : List Int} {v : Int} (hk : k < L.length) (hl : w.lim ≤ B) : wrO w B k [.int .i64 v] (some (.cells (L.flatMap intC) 3 false)) = some ⟨w.heap.put B (some (.cells ((L.set k v).flatMap intC) 3 false)), w.next, w.lim⟩ := by
  have hlen : (L.flatMap intC).length = L.length * 1 := flat_length intC_length L
  have := flat_set intC_length L k v hk
  simp only [Nat.mul_one] at this
  rw [wrO_cells (by simp) hl (by simp [hlen]; omega), ← this]
  rfl
theorem liF_set {L : List Int} {k : Nat} {z M : Int} (hz : L[k]? = some z) (hM : z ≤ M) (p : Int) : liF L p ≤ liF (L.set k M) p := by
  have hk : k < L.length := (List.getElem?_eq_some_iff.1 hz).1
  by_cases hp : p < 0 ∨ (L.length : Int) ≤ p
  · rw [liF_out hp, liF_out (by rw [List.length_set]; exact hp)]; exact Int.le_refl _
  · obtain ⟨j, rfl⟩ : ∃ j : Nat, p = (j : Int) := ⟨p.toNat, by omega⟩
    obtain ⟨y, hy⟩ : ∃ y, L[j]? = some y := ⟨_, List.getElem?_eq_getElem (by omega)⟩
    by_cases e : j = k
    · subst e
      rw [hy] at hz; cases hz
      rw [liF_at hy, liF_at (show (L.set j M)[j]? = some M by rw [List.getElem?_set_self hk])]
      exact hM
    · rw [liF_at hy, liF_at (show (L.set k M)[j]? = some y by rw [List.getElem?_set_ne (fun h => e h.symm)]; exact hy)]
      exact Int.le_refl _
set_option maxHeartbeats 4000000 in
theorem call7 {ov : Ov} (m : Nat) (ho : ∀ args w, ov 7 args w = none) (ho14 : ∀ args w, ov 14 args w = none) (ho31 : ∀ args w, ov 31 args w = none) (ho34 : ∀ args w, ov 34 args w = none) (ho40 : ∀ args w, ov 40 args w = none) (ho61 : ∀ args w, ov 61 args w = none) (ho74 : ∀ args w, ov 74 args w = none) (ho42 : ∀ args w, ov 42 args w = none) (ho43 : ∀ args w, ov 43 args w = none) (ho64 : ∀ args w, ov 64 args w = none)
    (hW : HasW ov) (h17 : HasP ov 17 S17.F) (h30 : HasP ov 30 S30.F) (h32 : HasP ov 32 S32.F) (h33 : HasP ov 33 S33.F) (h41 : HasP ov 41 S41.F) (h44 : HasP ov 44 S44.F) (h62 : HasP ov 62 S62.F) (h63 : HasP ov 63 S63.F)
    (pv dv lv : Value) (ps : List Pt) (ds : List Dt) (L : List Int) (q0 q1 : Int) (w : AW) (hl : w.lim ≤ w.next) (hL : LedV w pv dv ps ds) (hr : RowsV intC w lv L) :
    ∃ v w', (run Try.prog ov (m + 5)).call 7 [.agg ⟨[pv, dv]⟩, lv, .agg ⟨[.int .i64 q0, .int .i64 q1]⟩] w .none = .ok (.ret v) w' .none ∧ v = .bool true := by
  refine call_wp text7 (by simp) (ho _ _) ?_
  obtain ⟨w1, hw1⟩ : ∃ w1, w1 = (⟨(w.heap.put w.next (some (.cells [pv, dv] 25 false))).put (w.next + 1) (some (.cells [.int .i64 q0, .int .i64 q1] 43 false)), w.next + 1 + 1, w.lim⟩ : AW) := ⟨_, rfl⟩
  have u1 : Up w w1 := by rw [hw1]; exact ((Up.refl w).put (Nat.le_refl _) (Nat.le_refl _)).put (Nat.le_succ _) (by omega)
  have n1 : w1.next = w.next + 1 + 1 := by rw [hw1]
  have m1 : w1.lim = w.lim := by rw [hw1]
  have g1 : w1.heap.get w.next = some (.cells [pv, dv] 25 false) := by rw [hw1]; simp
  have f1 : w1.heap.get (w.next + 1) = some (.cells [.int .i64 q0, .int .i64 q1] 43 false) := by rw [hw1]; simp
  obtain ⟨_, w2, c14, v7, v8, rfl, hr7, hr8, u2⟩ := call14 (ov := ov) m ho14 ho40 ho61 ho74 ho42 ho43 ho64 h62 h17 h41 h44 h63 pv dv lv ps ds L w1 (by omega) (hL.up u1) (hr.up u1)
  have n2 := u2.next
  have m2 := u2.lim
  have g2 := u2.at (b := w.next) (by omega)
  rw [g1] at g2
  have f2 := u2.at (b := w.next + 1) (by omega)
  rw [f1] at f2
  have y2 := u1.trans u2
  have rW := fun w => ruleW (m := m + 3) hW w
  have hl7 := fun w2 => len26V (w' := w2) hr7
  have hl8 := fun w2 => len26V (w' := w2) hr8
  have hll := fun w2 => len26V (w' := w2) hr
  have hl23 := fun w2 => len23V (w' := w2) hL.d
  rw [hw1] at c14
  have z0 : IntKind.wrap .i64 0 = 0 := by decide
  by_cases hE : pyE ps ds L = 0
  case neg =>
    have e7 : pyP ps ds L = [] := by unfold pyP; rw [if_neg hE]
    have e8 : pyH ps ds L = [] := by unfold pyH; rw [if_neg hE]
    rw [e7] at hl7
    rw [e8] at hl8
    simp only [List.length_nil] at hl7 hl8
    simp [mc7, cellsOf_agg, c14, g2, hE, hl7, hl8, z0, rW, tupV]
  case pos =>
    have hC : chE ps ds = 0 := by unfold pyE at hE; split at hE <;> assumption
    have hB : payB ps ds L = true := by
      unfold pyE at hE
      rw [if_pos hC] at hE
      cases h : payB ps ds L with
      | true => rfl
      | false => rw [h] at hE; cases hE
    have hLn : L.length = ps.length := by
      have := hB
      simp only [payB, Bool.and_eq_true, decide_eq_true_eq] at this
      exact this.1
    have hO := ch_lk hC
    have hk : LK ps ds := hO.up (by decide)
    have h8 := hO.n8
    have hn := hO.n1
    have h16 := hk.d16
    have hx := pay_rng hk hB
    have e7 : pyP ps ds L = paF ds (liF L) := by unfold pyP; rw [if_pos hE]
    have e8 : pyH ps ds L = lsF ps.length (haD ps ds (liF L)) := by unfold pyH; rw [if_pos hE]
    have epl : ∀ x, (paF ds x).length = ds.length := fun x => by unfold paF; rw [List.length_map]
    rw [e7] at hr7 hl7
    rw [e8] at hr8 hl8
    rw [epl] at hl7
    rw [lsF_len] at hl8
    rw [hE] at c14
    rw [hLn] at hll
    have r30 := S30.call (P := Try.prog) h30 (m := m + 3) (w := w2) ⟨pv, dv, ps, ds, rfl, hL.up y2, rfl⟩
    rw [hC] at r30
    obtain ⟨_, w3, c31, B0, rfl, gB0, hB1, hB2, u3⟩ := call31 (ov := ov) (m + 3) ho31 pv dv ps ds w2 (by omega) (hL.up y2) hk
    have n3 := u3.next
    have m3 := u3.lim
    have g3 := u3.at (b := w.next) (by omega)
    rw [g2] at g3
    have f3 := u3.at (b := w.next + 1) (by omega)
    rw [f2] at f3
    have y3 := y2.trans u3
    have hr10 : RowsV intC w3 (.slice (some ⟨B0, 0, none⟩) ps.length ps.length) (lsF ps.length (owD ds)) := rows_ls gB0 hB2 _
    have hmk := fun w => mk26 ps.length (by omega) w
    obtain ⟨w4, hw4⟩ : ∃ w4, (⟨w3.heap.put w3.next (some (.cells (lsC ps.length fun _ => 0) 3 false)), w3.next + 1, w3.lim⟩ : AW) = w4 := ⟨_, rfl⟩
    have u4 : Up w3 w4 := hw4 ▸ (Up.refl w3).add _
    have n4 : w4.next = w3.next + 1 := by rw [← hw4]
    have gA4 : w4.heap.get w3.next = some (.cells (lsC ps.length fun _ => 0) 3 false) := by rw [← hw4]; simp
    have key := fun Q t => loop7a (ov := ov) (m + 3) h32 pv dv lv v7 (.pointer (some ⟨w.next + 1, 0, none⟩)) v8 B0 ps ds hk L hLn hx w3 w4 (hL.up y3) u4 (by omega) w.next (by omega) g3 (hr7.up u3) (hr.up y3) hr10 w3.next (Nat.le_refl _) (by omega) gA4 Q t
    simp [mc7, cellsOf_agg, c14, g2, r30, c31, hl7, hl8, hll, hl23, g3, hmk]
    rw [hw4]
    refine wp_seqX (wp_blockX (key _ _ ?_ ?_ ?_ ?_ ?_ ?_ ?_ ?_ ?_))
    case _ => simp
    case _ => simp
    case _ => simp
    case _ => simp
    case _ => simp
    case _ => simp
    case _ => simp
    case _ => simp
    case _ =>
      intro t w5 u5 gA hA5 t1 t3 t5 t7 t8 t10 t11
      have n5 := u5.next
      have m5 := u5.lim
      have g5 := u5.at (b := w.next) (by omega)
      rw [g3] at g5
      have f5 := u5.at (b := w.next + 1) (by omega)
      rw [f3] at f5
      have y5 := y3.trans u5
      have key2 := fun Q t => loop7b (ov := ov) (m + 4) pv dv lv (.pointer (some ⟨w.next + 1, 0, none⟩)) v7 v8 (.slice (some ⟨B0, 0, none⟩) ps.length ps.length) (.slice (some ⟨w3.next, 0, none⟩) ps.length ps.length) ps ds hk (liF L) hx w5 (hL.up y5) w.next g5 (hr8.up (u3.trans u5)) (hr10.up u5) (rows_ls gA hA5 _) Q t
      simp
      refine wp_seqX (wp_blockX (key2 _ _ ?_ ?_ ?_ ?_ ?_ ?_ ?_ ?_ ?_))
      case _ => simp [t1]
      case _ => simp [t3]
      case _ => simp [t5]
      case _ => simp [t7]
      case _ => simp [t8]
      case _ => simp [t10]
      case _ => simp [t11]
      case _ => simp
      case _ =>
        intro t t1 t3 t5 t7 t10
        have hb := wrapI_bd (n := q0) (s := ps.length) (by omega)
        have hb5 := wrapI_bd (n := q1) (s := 50) (by decide)
        obtain ⟨k, hkk⟩ : ∃ k : Nat, (k : Int) = wrapI q0 ps.length := ⟨(wrapI q0 ps.length).toNat, by omega⟩
        have hkl : k < ps.length := by omega
        have r33a := fun w => S33.call (P := Try.prog) h33 (m := m + 3) (w := w) ⟨q0, ps.length, rfl, by omega, rfl⟩
        have r33b := fun w => S33.call (P := Try.prog) h33 (m := m + 3) (w := w) ⟨q1, 50, rfl, by decide, rfl⟩
        rw [← hkk] at r33a
        obtain ⟨R, hR⟩ : ∃ R, R = wrapI q1 50 := ⟨_, rfl⟩
        rw [← hR] at r33b hb5
        obtain ⟨_, w6, c34, B6, rfl, gB6, hB6, hB7, u6⟩ := call34 (ov := ov) (m + 3) ho34 lv L 0 w5 (hr.up y5) (by omega) (by omega) (by omega)
        have n6 := u6.next
        have m6 := u6.lim
        have g6 := u6.at (b := w.next) (by omega)
        rw [g5] at g6
        have f6 := u6.at (b := w.next + 1) (by omega)
        rw [f5] at f6
        have y6 := y5.trans u6
        have hsl := sl26 w6 B6 (L.length + 1) (L.length + 1) ps.length _ gB6 (by omega)
        obtain ⟨X, hX⟩ : ∃ X, L[k]? = some X := ⟨_, List.getElem?_eq_getElem (by omega)⟩
        obtain ⟨b1, o1, s1, c1, rfl, ld1, ia1⟩ := row_ld (hr.up y6) hX
        obtain ⟨b2, o2, s2, c2, e2, ld2, ia2⟩ := row_ld (hr10.up (u5.trans u6)) (lsF_at ps.length (owD ds) hkl)
        simp only [Value.slice.injEq, Option.some.injEq, Addr.mk.injEq, lsF_len, true_and] at e2
        obtain ⟨⟨rfl, rfl, rfl⟩, rfl⟩ := e2
        simp only [lsF_len, Nat.zero_add] at ld2 ia2
        have hxk := hx (k : Int)
        rw [liF_at hX] at hxk
        have how := hk.ow_le (k : Int)
        obtain ⟨O, hOo⟩ : ∃ X, X = owD ds (k : Int) := ⟨_, rfl⟩
        rw [← hOo] at ld2 hxk how
        have hwr : IntKind.wrap .i64 (X + R) = X + R := wrap64_in (by omega) (by omega)
        obtain ⟨M, hM⟩ : ∃ M, M = min O (X + R) := ⟨_, rfl⟩
        have iB := fun w => ia26 w ⟨B6, 0, none⟩ ps.length (L.length + 1) .i64 k hkl
        simp only [Nat.mul_one] at iB
        have eset : (L ++ [0]).set k M = L.set k M ++ [0] := List.set_append_left k M (by omega)
        have sB : ∀ w5 : AW, w5.lim ≤ B6 → wrO w5 B6 k [.int .i64 M] (some (.cells ((L ++ [0]).flatMap intC) 3 false)) = some ⟨w5.heap.put B6 (some (.cells ((L.set k M ++ [0]).flatMap intC) 3 false)), w5.next, w5.lim⟩ := fun w5 h => by rw [st_li (by simp; omega) h, eset]
        have l6 : w6.lim ≤ B6 := by omega
        obtain ⟨w7, hw7⟩ : ∃ w7, (⟨w6.heap.put B6 (some (.cells ((L.set k M ++ [0]).flatMap intC) 3 false)), w6.next, w6.lim⟩ : AW) = w7 := ⟨_, rfl⟩
        have u7 : Up w5 w7 := by
          rw [← hw7]
          exact ⟨fun x hx => by
            have : ¬ x = B6 := by omega
            simp [this]; exact u6.at hx, by show w5.next ≤ w6.next; omega, by show w6.lim = w5.lim; omega⟩
        have n7 : w7.next = w6.next := by rw [← hw7]
        have m7 : w7.lim = w6.lim := by rw [← hw7]
        have g7 := u7.at (b := w.next) (by omega)
        rw [g5] at g7
        have y7 := y5.trans u7
        have hr17 : RowsV intC w7 (.slice (some ⟨B6, 0, none⟩) ps.length (L.length + 1)) (L.set k M) := .inr ⟨B6, 0, none, L.length + 1, by rw [List.length_set, hLn], ⟨[], [.int .i64 0], 3, false, by rw [← hw7]; simp [intC], rfl⟩, by omega⟩
        obtain ⟨_, w8, c14b, v18, v19, rfl, hr18, hr19, u8⟩ := call14 (ov := ov) m ho14 ho40 ho61 ho74 ho42 ho43 ho64 h62 h17 h41 h44 h63 pv dv _ ps ds (L.set k M) w7 (by omega) (hL.up y7) hr17
        have hB' : payB ps ds (L.set k M) = true := pay_of (by rw [List.length_set]; exact hLn) fun i z hz => by
          by_cases e : i = k
          · subst e
            rw [List.getElem?_set_self (by omega)] at hz
            cases hz
            rw [← hOo]
            omega
          · rw [List.getElem?_set_ne (fun h => e h.symm)] at hz
            have := hx (i : Int)
            rw [liF_at hz] at this
            exact this
        have hE' : pyE ps ds (L.set k M) = 0 := by unfold pyE; rw [if_pos hC, hB']; rfl
        have e18 : pyP ps ds (L.set k M) = paF ds (liF (L.set k M)) := by unfold pyP; rw [if_pos hE']
        rw [e18] at hr18
        rw [hE'] at c14b
        have hl18 := fun w2 => len26V (w' := w2) hr18
        rw [epl] at hl18
        have key3 := fun Q t => loop7c (ov := ov) (m + 4) v7 v18 (paF ds (liF L)) (paF ds (liF (L.set k M))) (by rw [epl, epl]) (by rw [epl]; omega) (fun i a b ha hb => by
          unfold paF at ha hb
          rw [List.getElem?_map] at ha hb
          obtain ⟨d, hd, rfl⟩ := Option.map_eq_some_iff.1 ha
          rw [hd] at hb
          cases hb
          exact hk.pt_mono (liF_set hX (by omega)) (List.mem_of_getElem? hd)) w8 (hr7.up ((((u3.trans u5).trans u7)).trans u8)) hr18 Q t
        simp [t1, t3, t5, t7, t10, f5, f6, g6, g7, ia43_0, ia43_1, r33a, r33b, c34, hll, hsl, ld1, ia1, ld2, ia2, hwr, least2, ← hM, iB, gB6, sB, l6, hw7, c14b, hl7, hl18, -wrO_cells, -List.flatMap_append]
        refine wp_seqX (wp_blockX (key3 _ _ ?_ ?_ ?_ ?_))
        case _ => simp [t7]
        case _ => simp
        case _ => simp
        case _ =>
          intro t
          simp [rW, tupV]
end Go.Proofs.Ythfidomphkednaa.walk
