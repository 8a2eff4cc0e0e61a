/- Part of a proof by a machine of ones own: see the text with the theorem. -/
import Derived.Test.YtbbbgaiaigdngaaGreatDoorEVb
namespace Go.Proofs.YtbbbgaiaigdngaaGreatDoor.walk
open Go Go.Sh
set_option maxRecDepth 100000
set_option linter.unusedSimpArgs false
set_option linter.unusedVariables false
/-! the ends of what the specification lists -/
end Go.Proofs.YtbbbgaiaigdngaaGreatDoor.walk

namespace Go.Proofs.YtbbbgaiaigdngaaGreatDoor.walk
open Go Go.Sh
set_option maxRecDepth 100000
set_option linter.unusedSimpArgs false
set_option linter.unusedVariables false
structure In7 (w0 : AW) (n : Nat) (A B : List Int) (v8 v9 : Value) (C1 C2 : Nat) (w : AW) : Prop where
  old : ∀ x, x ≤ n → w.heap.get x = w0.heap.get x
  a1 : AccI n w v8 A C1
  a2 : AccI n w v9 B C2
  ne : C1 = C2 → C1 = 0
  next : n < w.next
  lim : w.lim = w0.lim
end Go.Proofs.YtbbbgaiaigdngaaGreatDoor.walk

namespace Go.Proofs.YtbbbgaiaigdngaaGreatDoor.walk
open Go Go.Sh
set_option maxRecDepth 100000
set_option linter.unusedSimpArgs false
set_option linter.unusedVariables false
end Go.Proofs.YtbbbgaiaigdngaaGreatDoor.walk

namespace Go.Proofs.YtbbbgaiaigdngaaGreatDoor.walk
open Go Go.Sh
set_option maxRecDepth 100000
set_option linter.unusedSimpArgs false
set_option linter.unusedVariables false
/-! Flowers, of anything that is asked -/
def flE (s : Sea) (l : List Day) (c : List Int) (rs : List Rac) (D : Int) : Int := if bothE s l c rs = 0 then (if inI 0 D ((l.length : Int) - 1) = true then 0 else 12) else bothE s l c rs
def flV (s : Sea) (l : List Day) (c : List Int) (rs : List Rac) (bt : Bool) (D : Int) : Int := if flE s l c rs D = 0 then flG s l c rs bt D.toNat else 0
set_option maxHeartbeats 4000000 in
theorem call8g {ov : Ov} (m : Nat) (hN : None8 ov) (s : Sea) (l : List Day) (c : List Int) (rs : List Rac) (D : Int) (dv cv rv : Value) (w : AW) (hl : w.lim ≤ w.next) (n0 : 0 < w.next) (hv : RowsV dayC w dv l) (hu : RowsV intC w cv c) (hrs : RowsV racC w rv rs) (ro : Bool) (gS : w.heap.get 0 = some (.cells [.int .i64 (-1), .int .i64 0] 102 ro)) :
    ∃ x w', (run Tryz.prog ov (m + 7)).call 8 [.agg ⟨seaC s dv cv⟩, rv, .int .i64 D] w .none = .ok (.ret x) w' .none ∧ x = .tuple ⟨[.agg ⟨[.int .i64 (flV s l c rs false D), .int .i64 (flV s l c rs true D)]⟩, .int .i64 (flE s l c rs D)]⟩ ∧ Old w.next w.heap w'.heap ∧ w.next ≤ w'.next ∧ w'.lim = w.lim := by
  obtain ⟨w1, ew1⟩ : ∃ w1 : AW, w1 = ⟨(w.heap.put w.next (some (.cells (seaC s dv cv) 29 false))).put (w.next + 1) (some (.cells [.int .i64 0, .int .i64 0] 24 false)), w.next + 1 + 1, w.lim⟩ := ⟨_, rfl⟩
  have k1 : ∀ x, x < w.next → w1.heap.get x = w.heap.get x := fun x hx => by rw [ew1]; simp [show ¬ x = w.next by omega, show ¬ x = w.next + 1 by omega]
  have n1 : w1.next = w.next + 2 := by rw [ew1]
  have r20 := rule20 (s := s) hN.p20 (hv.old k1 (by omega)) (hu.old k1 (by omega)) (hrs.old k1 (by omega)) (m + 5)
  have hlv := len22V hv
  have lw : w.lim ≤ w.next + 1 := by omega
  have f1 : Old w.next w.heap (w1.heap.put (w.next + 1) (some (.cells [.int .i64 0, .int .i64 0] 24 false))) := fun x hx => by rw [get_put, if_neg (by omega)]; exact k1 x hx
  by_cases hB : bothE s l c rs = 0
  · by_cases hD : inI 0 D ((l.length : Int) - 1) = true
    · have hE0 : flE s l c rs D = 0 := by unfold flE; rw [if_pos hB, if_pos hD]
      have v1 : flV s l c rs false D = flG s l c rs false D.toNat := by unfold flV; rw [if_pos hE0]
      have v2 : flV s l c rs true D = flG s l c rs true D.toNat := by unfold flV; rw [if_pos hE0]
      simp only [inI, Bool.and_eq_true, decide_eq_true_eq] at hD
      obtain ⟨d, rfl⟩ := Int.eq_ofNat_of_zero_le hD.1
      rw [v1, v2, hE0, Int.toNat_natCast]
      exact call8 m hN.o8 hN.o21 hN.o31 hN.o59 hN.o60 hN.o53 hN.o78 hN.o79 hN.o29 hN.o30 hN.p20 hN.p51 hN.p52 hN.p77 s l c rs hB d (by omega) dv cv rv w hl n0 hv hu hrs ro gS
    · have hE0 : flE s l c rs D = 12 := by unfold flE; rw [if_pos hB, if_neg hD]
      have v1 : ∀ bt, flV s l c rs bt D = 0 := fun bt => by unfold flV; rw [hE0]; rfl
      rw [v1, v1, hE0]
      refine call_wp text8 (by simp) (hN.o8 _ _) ?_
      rw [hB] at r20
      simp only [inI, Bool.and_eq_true, decide_eq_true_eq] at hD
      rw [ew1] at r20 f1
      simp only [seaC] at r20 f1
      by_cases hneg : D < 0
      · simp [mc8, seaC, r20, hlv, hneg, lw, tupV]
        exact f1
      · have hge : (l.length : Int) ≤ D := by omega
        simp [mc8, seaC, r20, hlv, hneg, hge, lw, tupV]
        exact f1
  · have hE0 : flE s l c rs D = bothE s l c rs := by unfold flE; rw [if_neg hB]
    have v1 : ∀ bt, flV s l c rs bt D = 0 := fun bt => by unfold flV; rw [hE0, if_neg hB]
    rw [v1, v1, hE0]
    refine call_wp text8 (by simp) (hN.o8 _ _) ?_
    rw [ew1] at r20 f1
    simp only [seaC] at r20 f1
    simp [mc8, seaC, r20, hB, lw, tupV]
    exact f1
end Go.Proofs.YtbbbgaiaigdngaaGreatDoor.walk
