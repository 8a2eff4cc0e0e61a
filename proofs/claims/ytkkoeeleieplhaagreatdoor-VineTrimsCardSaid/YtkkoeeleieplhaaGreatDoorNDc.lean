/- Part of a proof by a machine of ones own: see the text with the theorem. -/
import Derived.Test.YtkkoeeleieplhaaGreatDoorNDb
import Derived.Test.YtkkoeeleieplhaaGreatDoorNBas
namespace Go.Proofs.YtkkoeeleieplhaaGreatDoor.walk
open Go Go.Sh
set_option maxRecDepth 100000
set_option linter.unusedSimpArgs false
set_option linter.unusedVariables false
/-! law 3: VineTrims -/
def HasW (ov : Ov) : Prop := ∀ w, hasAll w laidL = true → ov 8 [] w = some (.ok (.ret (.bool true)) w .none)
theorem ruleW {ov : Ov} (h : HasW ov) {w : AW} (hw : hasAll w laidL = true) (m : Nat) : (run Tryz.prog ov (m + 1)).call 8 [] w .none = .ok (.ret (.bool true)) w .none := by
  show stepO Tryz.prog (run Tryz.prog ov m) 8 [] w .none (ov 8 [] w) = _
  rw [h w hw]; rfl
theorem trV_len (s : Sea) (l : List Day) (c : List Int) : (trV s l c).length ≤ 1000 := by
  unfold trV
  split
  · rename_i h
    have h40 := (days_len (sea_zero h).1).2
    unfold trL
    split
    · rename_i hf
      have := tl_len l.length s.from_ 0 hf
      omega
    · simp
  · simp
set_option maxHeartbeats 1000000 in
theorem run3 {ov : Ov} (ho : ∀ f ∈ [3, 5, 6, 15, 16, 18, 19, 41, 44], ∀ args w, ov f args w = none) (h7 : HasP ov 7 F7) (h14 : HasP ov 14 F14) (h17 : HasP ov 17 F14) (h20 : HasP ov 20 F20) (h34 : HasP ov 34 F34) (h39 : HasP ov 39 F39) (h40' : HasP ov 40 F40) (h42 : HasP ov 42 F42) (h43 : HasP ov 43 F43) (h45 : HasP ov 45 F45) (hW : HasW ov) (s : Sea) (l : List Day) (c : List Int) (dv cv : Value) (w : AW) (hl : w.lim ≤ w.next) (h7n : 7 ≤ w.next) (hlaid : hasAll w laidL = true) (hv : RowsV dayC w dv l) (hu : RowsV intC w cv c) :
    ∃ x w', (run Tryz.prog ov 100).call 3 [.agg ⟨seaC s dv cv⟩] w .none = .ok (.ret x) w' .none ∧ x = .bool true := by
  simp only [List.mem_cons, List.not_mem_nil, or_false, forall_eq_or_imp, forall_eq] at ho
  obtain ⟨o3, o5, o6, o15, o16, o18, o19, o41, o44⟩ := ho
  refine call_wp text3 (by simp) (o3 _ _) ?_
  obtain ⟨w0, hw0⟩ : ∃ w0 : AW, w0 = ⟨w.heap.put w.next (some (.cells (seaC s dv cv) 29 false)), w.next + 1, w.lim⟩ := ⟨_, rfl⟩
  have b0 : w0.heap.get w.next = some (.cells (seaC s dv cv) 29 false) := by rw [hw0]; simp
  have e0 : w0.next = w.next + 1 := by rw [hw0]
  have e1 : w0.lim = w.lim := by rw [hw0]
  have o0 : Old w.next w.heap w0.heap := by rw [hw0]; exact (Old.refl _ _).put (Nat.le_refl _)
  have hv0 : RowsV dayC w0 dv l := hv.old o0 (by omega)
  have hu0 : RowsV intC w0 cv c := hu.old o0 (by omega)
  obtain ⟨_, w1, c5, v5, rfl, r5, p5, n5, l5⟩ := call5 o5 o15 o16 o44 o41 h14 h39 h40' h42 h43 h45 s l c dv cv w0 (by omega) hv0 hu0
  have hv1 := hv0.old p5 n5
  have hu1 := hu0.old p5 n5
  obtain ⟨_, w2, c6, v6, rfl, r6, p6, n6, l6⟩ := call6 o6 o18 o19 h17 h20 h34 s l c dv cv w1 (by omega) hv1 hu1
  have k7 := rule7 h7 (trV_len s l c) (r5.old p6 n6) r6 98
  have hl6 : hasAll w2 laidL = true := by
    rw [← hlaid]
    refine hasAll_congr _ fun x hx => ?_
    have := laid_lt x hx
    rw [p6 _ (by omega), p5 _ (by omega), o0 _ (by omega)]
  have kW := ruleW hW hl6 98
  have g1 : w1.heap.get w.next = some (.cells (seaC s dv cv) 29 false) := by rw [p5 _ (by omega)]; exact b0
  rw [hw0] at c5
  simp only [seaC, Nat.reduceAdd] at c5 c6 g1
  simp [mc3, seaC, c5, c6, k7, g1, kW, tupV]
end Go.Proofs.YtkkoeeleieplhaaGreatDoor.walk
