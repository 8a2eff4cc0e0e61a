/- Part of a proof by a machine of ones own: see the text with the theorem. -/
import Derived.Test.YtimnfedgbkgdeaaGreatDoorEWd
import Derived.Test.YtimnfedgbkgdeaaGreatDoorEBas
namespace Go.Proofs.YtimnfedgbkgdeaaGreatDoor.walk
open Go Go.Sh
set_option maxRecDepth 100000
set_option linter.unusedSimpArgs false
set_option linter.unusedVariables false
/-! law 4: whatever the weather is -/
def HasW (ov : Ov) : Prop := ∀ w, hasAll w laidL = true → ov 10 [] w = some (.ok (.ret (.bool true)) w .none)
theorem ruleW {ov : Ov} (h : HasW ov) {w : AW} (hw : hasAll w laidL = true) (m : Nat) : (run Tryz.prog ov (m + 1)).call 10 [] w .none = .ok (.ret (.bool true)) w .none := by
  show stepO Tryz.prog (run Tryz.prog ov m) 10 [] w .none (ov 10 [] w) = _
  rw [h w hw]
  rfl
theorem start_of {w : AW} (h : hasAll w laidL = true) : ∃ ro, w.heap.get 0 = some (.cells [.int .i64 (-1), .int .i64 0] 102 ro) := by
  have h1 : hasB w (0, [.int .i64 (-1), .int .i64 0], 102) = true := by
    unfold laidL at h
    unfold hasAll at h
    cases hb : hasB w (0, [.int .i64 (-1), .int .i64 0], 102) with
    | true => rfl
    | false => rw [hb] at h; cases h
  unfold hasB at h1
  split at h1
  · rename_i o ho
    split at h1
    · rename_i cs e ro
      simp only [Bool.and_eq_true] at h1
      have e1 := sameVals_eq (sameVal_eq 5) h1.1
      have e2 := Nat.eq_of_beq_eq_true h1.2
      rw [ho, e1, e2]
      exact ⟨ro, rfl⟩
    · cases h1
  · cases h1
set_option maxHeartbeats 4000000 in
theorem run4 {ov : Ov} (hN : None8 ov) (ho : ∀ args w, ov 4 args w = none) (ho12 : ∀ args w, ov 12 args w = none) (ho13 : ∀ args w, ov 13 args w = none) (ho14 : ∀ args w, ov 14 args w = none) (ho47 : ∀ args w, ov 47 args w = none) (ho48 : ∀ args w, ov 48 args w = none) (h11 : HasP ov 11 F11) (h23 : HasP ov 23 F23) (h43 : HasP ov 43 F43) (h44 : HasP ov 44 F44) (h45 : HasP ov 45 F45) (h46 : HasP ov 46 F46) (hW : HasW ov) (s : Sea) (l : List Day) (c bits : List Int) (hb : bits.length ≤ 2 ^ 60) (rs : List Rac) (dv cv rv bv : Value) (w : AW) (hl : w.lim ≤ w.next) (h7n : 7 ≤ w.next) (hlaid : hasAll w laidL = true) (hv : RowsV dayC w dv l) (hu : RowsV intC w cv c) (hrv : RowsV racC w rv rs) (hbv : RowsV intC w bv bits) :
    ∃ x w', (run Tryz.prog ov 100).call 4 [.agg ⟨seaC s dv cv⟩, rv, bv] w .none = .ok (.ret x) w' .none ∧ x = .bool true := by
  refine call_wp text4 (by simp) (ho _ _) ?_
  obtain ⟨w0, hw0⟩ : ∃ w0 : AW, w0 = ⟨w.heap.put w.next (some (.cells (seaC s dv cv) 29 false)), w.next + 1, w.lim⟩ := ⟨_, rfl⟩
  have b0 : w0.heap.get w.next = some (.cells (seaC s dv cv) 29 false) := by rw [hw0]; simp
  have e0 : w0.next = w.next + 1 := by rw [hw0]
  have e1 : w0.lim = w.lim := by rw [hw0]
  have o0 : Old w.next w.heap w0.heap := by rw [hw0]; exact (Old.refl _ _).put (Nat.le_refl _)
  have hv0 : RowsV dayC w0 dv l := hv.old o0 (by omega)
  have hu0 : RowsV intC w0 cv c := hu.old o0 (by omega)
  have hr0 : RowsV racC w0 rv rs := hrv.old o0 (by omega)
  have hb0 : RowsV intC w0 bv bits := hbv.old o0 (by omega)
  have hlw : ∀ w' : AW, (∀ x, x < w.next → w'.heap.get x = w.heap.get x) → hasAll w' laidL = true := fun w' h => by
    rw [← hlaid]
    exact hasAll_congr _ fun x hx => h _ (by have := laid_lt x hx; omega)
  have r11 := rule11 h11 (s := s) hv0 hu0 98
  have kW0 := ruleW hW (hlw w0 o0) 98
  have hlr := fun w => len30V hrv w
  obtain ⟨ro, gS⟩ := start_of hlaid
  rw [hw0] at r11 kW0
  by_cases hE : seaE s l c = 0
  · by_cases h8 : rs.length ≤ 8
    · have h8' : ¬ (8 : Int) < (rs.length : Nat) := by omega
      obtain ⟨f1, f2⟩ := sea_facts hE
      have h40 := (days_len (sea_zero hE).1).2
      obtain ⟨_, w1, c12, v1, v2, rfl, rW, rR, o1, n1, l1⟩ := call12 (ov := ov) 97 ho12 h44 h45 s l h40 f2 bits hb dv cv bv w0 (by omega) hv0 hb0
      have hT := tru_ok f2 bits
      have k1 : ∀ x, x < w.next → w1.heap.get x = w.heap.get x := fun x hx => by rw [o1 x (by omega), o0 x hx]
      have s1 : w1.heap.get w.next = some (.cells (seaC s dv cv) 29 false) := by rw [o1 _ (by omega)]; exact b0
      obtain ⟨a1, c1, rfl⟩ := rW.len
      obtain ⟨a2, c2, rfl⟩ := rR.len
      obtain ⟨x1, hx1⟩ : ∃ x1 : Value, x1 = .slice a1 (truW l bits l.length).length c1 := ⟨_, rfl⟩
      obtain ⟨x2, hx2⟩ : ∃ x2 : Value, x2 = .slice a2 (truR l bits l.length).length c2 := ⟨_, rfl⟩
      rw [← hx1] at rW
      rw [← hx2] at rR
      obtain ⟨w2, ew2⟩ : ∃ w2 : AW, w2 = ⟨(w1.heap.put w1.next (some (.cells [.slice none 0 0, .slice none 0 0] 41 false))).put w1.next (some (.cells [x1, x2] 41 false)), w1.next + 1, w1.lim⟩ := ⟨_, rfl⟩
      have k2 : ∀ x, x < w1.next → w2.heap.get x = w1.heap.get x := fun x hx => by rw [ew2]; simp [show ¬ x = w1.next by omega]
      have n2 : w2.next = w1.next + 1 := by rw [ew2]
      have l2 : w2.lim = w1.lim := by rw [ew2]
      have t2 : w2.heap.get w1.next = some (.cells [x1, x2] 41 false) := by rw [ew2]; simp
      have o02 : ∀ x, x < w0.next → w2.heap.get x = w0.heap.get x := fun x hx => by rw [k2 x (by omega), o1 x hx]
      have hv2 := hv0.old o02 (by omega : w0.next ≤ w2.next)
      have hu2 := hu0.old o02 (by omega : w0.next ≤ w2.next)
      have hr2 := hr0.old o02 (by omega : w0.next ≤ w2.next)
      have rW2 := rW.old k2 (by omega : w1.next ≤ w2.next)
      have rR2 := rR.old k2 (by omega : w1.next ≤ w2.next)
      obtain ⟨_, w3, c13, nv, rfl, rN, o3, n3, l3⟩ := call13 (ov := ov) 96 ho13 hN.o21 ho48 ho47 hN.p20 h46 h23 hN.p51 hN.p52 hN.p77 s l c (truW l bits l.length) (truR l bits l.length) rs dv cv x1 x2 rv w2 (by omega) hv2 hu2 rW2 rR2 hr2
      have k3 : ∀ x, x < w.next → w3.heap.get x = w.heap.get x := fun x hx => by rw [o3 x (by omega), k2 x (by omega), k1 x hx]
      have s3 : w3.heap.get w.next = some (.cells (seaC s dv cv) 29 false) := by rw [o3 _ (by omega), k2 _ (by omega)]; exact s1
      have t3 : w3.heap.get w1.next = some (.cells [x1, x2] 41 false) := by rw [o3 _ (by omega)]; exact t2
      have m1 : ¬ w.next = w1.next := by omega
      have lw1 : w1.lim ≤ w1.next := by omega
      rw [hw0] at c12
      rw [ew2] at c13
      rw [← hx1, ← hx2] at c12
      cases hR : racB rs with
      | false =>
        have hB : bothE s l c rs = 11 := by unfold bothE; rw [if_pos hE, hR]; rfl
        have hbE : blE s l c (truW l bits l.length) (truR l bits l.length) rs = 11 := by unfold blE; rw [hB]; rfl
        have hbV : blV s l c (truW l bits l.length) (truR l bits l.length) rs = [] := by unfold blV; rw [hB]; rfl
        rw [hbE] at c13
        rw [hbV] at rN
        have hnl := fun w => len27V rN w
        have kW := ruleW hW (hlw w3 k3) 98
        simp only [seaC] at r11 c12 c13 s1
        subst hx1
        subst hx2
        simp [mc4, seaC, r11, hE, hlr, h8', c12, c13, s1, lw1, m1, hnl, kW, tupV]
      | true =>
        have hB : bothE s l c rs = 0 := by unfold bothE; rw [if_pos hE, hR]; rfl
        have hbE : blE s l c (truW l bits l.length) (truR l bits l.length) rs = 0 := by unfold blE; rw [if_pos hB, if_pos hT]
        have hbV : blV s l c (truW l bits l.length) (truR l bits l.length) rs = blL (htL s (shL s c l.length) (truW l bits l.length) (truR l bits l.length) l.length) rs l.length := by unfold blV; rw [if_pos ⟨hB, hT⟩]
        rw [hbE] at c13
        rw [hbV] at rN
        have hnl := fun w => len27V rN w
        simp only [blL_length] at hnl
        have hv3 := hv2.old o3 n3
        have hu3 := hu2.old o3 n3
        have hr3 := hr2.old o3 n3
        obtain ⟨_, w4, c14, hv', rfl, rH, o4, n4, l4⟩ := call14 (ov := ov) 96 ho14 hN.o21 ho48 h43 h46 hN.p51 hN.p52 hN.p77 s l c (truW l bits l.length) (truR l bits l.length) dv cv x1 x2 w3 (by omega) hv3 hu3 (rW2.old o3 n3) (rR2.old o3 n3)
        have hhE : heE s l c (truW l bits l.length) (truR l bits l.length) = 0 := by unfold heE; rw [if_pos hE, if_pos hT]
        have hhV : heV s l c (truW l bits l.length) (truR l bits l.length) = htL s (shL s c l.length) (truW l bits l.length) (truR l bits l.length) l.length := by unfold heV; rw [if_pos ⟨hE, hT⟩]
        rw [hhE] at c14
        rw [hhV] at rH
        have hhl := fun w => len27V rH w
        simp only [htL_length] at hhl
        have hdl := fun w => len22V hv w
        have k4 : ∀ x, x < w.next → w4.heap.get x = w.heap.get x := fun x hx => by rw [o4 x (by omega), k3 x hx]
        have s4 : w4.heap.get w.next = some (.cells (seaC s dv cv) 29 false) := by rw [o4 _ (by omega)]; exact s3
        have key := fun Q t => loop4a (ov := ov) 92 hN s l c (truW l bits l.length) (truR l bits l.length) rs hB hT dv cv rv nv hv' w4 (by omega) (by omega) (hv3.old o4 n4) (hu3.old o4 n4) (hr3.old o4 n4) (rN.old o4 n4) rH ro (by rw [k4 _ (by omega)]; exact gS) w.next (by omega) s4 Q t w4 (Ol.refl _)
        have keb := fun Q t w' hI => loop4b (ov := ov) 98 hN s l c (truW l bits l.length) (truR l bits l.length) rs hB hT dv cv rv hv' w4 (by omega) (hv3.old o4 n4) (hu3.old o4 n4) (hr3.old o4 n4) rH w.next (by omega) s4 Q t w' hI
        have kWf : ∀ w', Ol w4 w' → (run Tryz.prog ov 99).call 10 [] w' .none = .ok (.ret (.bool true)) w' .none := fun w' hI => ruleW hW (hlw w' fun x hx => by rw [hI.old x (by omega), k4 x hx]) 98
        simp only [seaC] at r11 c12 c13 c14 s1 s3 s4
        subst hx1
        subst hx2
        simp [mc4, seaC, r11, hE, hlr, h8', c12, c13, c14, s1, s3, s4, t3, lw1, m1, hnl, hhl, hdl]
        refine wp_seqX (wp_blockX (key _ _ ?_ ?_ ?_ ?_ ?_ ?_))
        case _ => simp
        case _ => simp
        case _ => simp
        case _ => simp
        case _ => simp
        case _ =>
          intro t w5 hI t1 t3 t10
          simp
          refine wp_seqX (wp_blockX (keb _ _ _ hI ?_ ?_ ?_ ?_ ?_))
          case _ => simp [t1]
          case _ => simp [t3]
          case _ => simp [t10]
          case _ => simp
          case _ =>
            intro t w6 hI6
            have kW := kWf w6 hI6
            simp [kW, tupV]
    · have h8' : (8 : Int) < (rs.length : Nat) := by omega
      simp only [seaC] at r11 kW0
      simp [mc4, seaC, r11, hE, hlr, h8', kW0, tupV]
  · simp only [seaC] at r11 kW0
    simp [mc4, seaC, r11, hE, kW0, tupV]
end Go.Proofs.YtimnfedgbkgdeaaGreatDoor.walk
