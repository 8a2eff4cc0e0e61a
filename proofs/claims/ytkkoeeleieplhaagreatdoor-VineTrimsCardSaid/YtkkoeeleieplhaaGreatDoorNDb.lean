/- Part of a proof by a machine of ones own: see the text with the theorem. -/
import Derived.Test.YtkkoeeleieplhaaGreatDoorNDa
namespace Go.Proofs.YtkkoeeleieplhaaGreatDoor.walk
open Go Go.Sh
set_option maxRecDepth 100000
set_option linter.unusedSimpArgs false
set_option linter.unusedVariables false
theorem loop16a {ov : Ov} (ho44 : ∀ args w, ov 44 args w = none) (ho41 : ∀ args w, ov 41 args w = none) (h42 : HasP ov 42 F42) (h43 : HasP ov 43 F43) (h45 : HasP ov 45 F45) {s : Sea} (hs : shadeB s = true) (da : Option Addr) (dc : Nat) (cv sv : Value) (n : Nat) (h40 : n ≤ 40) (N : Nat) (H0 : T AObj) (lm : Nat) (hlN : lm ≤ N) (TL : List Int)
    (Q : Ex → Tm → AW → Prop) (z0 : Int) (t : Tm) (w : AW) (hD0 : Dy s (.slice da n dc) cv sv n N H0 lm 0 z0 [] (.slice none 0 0) w) (ht : Th N n 0 (fw s n z0) (.slice none 0 0) t) (hz0 : 0 ≤ z0 ∧ z0 ≤ 100) (hf0 : fw s n z0 ≤ 40) (hTL : tl s n z0 0 = TL)
    (hQ : ∀ t w v, RowsV intC w v TL → (∀ x, x < N → w.heap.get x = H0.get x) → N < w.next → w.lim = lm → notJunk v = some v → tget t 9 = v → Q (.exit 0) t w) :
    wp (exM Tryz.prog (run Tryz.prog ov 97) (.loop mc16_l0) t w) Q := by
  refine wp_rounds (fun i t w => ∃ z acc v, Dy s (.slice da n dc) cv sv n N H0 lm i z acc v w ∧ Th N n i (fw s (n - i) z) v t ∧ (0 ≤ z ∧ z ≤ 100) ∧ fw s (n - i) z ≤ 40 ∧ acc ++ tl s (n - i) z i = TL ∧ acc.length ≤ i ∧ i ≤ n) 200 (by decide) ⟨z0, [], _, hD0, by simpa using ht, hz0, by simpa using hf0, by simpa using hTL, by simp, Nat.zero_le _⟩ ?_
  clear hD0 ht hz0 hf0 hTL
  rintro i t w ⟨z, acc, v, hD, ht, hz, hf, hTL, hal, hin⟩
  have ht0 := ht
  obtain ⟨⟨t1, t6⟩, ⟨t7, t8⟩, ⟨t9, t29⟩, t30⟩ := ht
  by_cases hi : i < n
  · obtain ⟨k, hk⟩ : ∃ k, i + (k + 1) = n := ⟨n - i - 1, by omega⟩
    have e1 : n - i = k + 1 := by omega
    have e2 : n - (i + 1) = k := by omega
    rw [e1] at hf hTL ht0
    have hH := h44_at ho44 ho41 h42 h43 h45 hs da dc cv sv n h40 (M := 96) (k := k) (by omega)
    have gy := hD.tr.year
    have g7 := hD.dusk
    have r45 := rule45 h45 s (.slice da n dc) cv sv (i : Nat) z 96 w
    have hii : ((i : Nat) : Int) < (n : Nat) := by omega
    have hw1 : IntKind.wrap .i64 ((i : Int) + 1) = (i : Int) + 1 := wrap64_in (by omega) (by omega)
    obtain ⟨nf, ng, nc⟩ := shade_nums hs
    simp only [ptrB] at t1 t7
    simp only [yearC] at gy r45
    simp [mc16_l0, t1, t7, t29, t30, hii, gy, g7, r45, hi]
    refine wp_seqX (wp_blockX (wp_blockX (loop16b 95 ho41 h42 h43 hs (.slice da n dc) cv sv n k h40 hH N H0 lm i hk z hz hf acc (by omega) v w hD hlN _ _ ?_ ?_ ?_ ?_ ?_ ?_)))
    case _ =>
      obtain ⟨⟨t1, t6⟩, ⟨t7, t8⟩, ⟨t9, t29⟩, t30⟩ := ht0
      simp only [Th, ptrB] at *
      simp [t1, t6, t7, t8, t9, t29, t30]
    case _ => simp
    case _ => simp [cutN]
    case _ => simp
    case _ =>
      intro hC t2 w2 v2 hD2 ht2
      have ht3 := ht2
      obtain ⟨⟨s1, s6⟩, ⟨s7, s8⟩, ⟨s9, s29⟩, s30⟩ := ht2
      obtain ⟨_, hfk⟩ := fw_cut hC hf
      simp [s30, hw1]
      refine ⟨by omega, gro s (cutN s z), acc ++ [(i : Int)], v2, hD2, ?_, ⟨by unfold gro cutN; omega, by unfold gro cutN; omega⟩, by rw [e2]; omega, ?_, by simp; omega, by omega⟩
      · rw [e2]
        simp only [Th, ptrB] at *
        simp [s1, s6, s7, s8, s9, s29, s30]
      · rw [e2, ← hTL]
        conv => rhs; rw [tl, if_pos hC]
        simp
    case _ =>
      intro hC t2 w2 hD2 ht2
      obtain ⟨⟨s1, s6⟩, ⟨s7, s8⟩, ⟨s9, s29⟩, s30⟩ := ht2
      obtain ⟨_, _, hfk⟩ := fw_no hC hf
      simp [s30, hw1]
      refine ⟨by omega, gro s z, acc, v, hD2, ?_, ⟨by unfold gro; omega, by unfold gro; omega⟩, by rw [e2]; omega, ?_, by omega, by omega⟩
      · rw [e2]
        simp only [Th, ptrB] at *
        simp [s1, s6, s7, s8, s9, s29, s30]
      · rw [e2, ← hTL]
        conv => rhs; rw [tl, if_neg hC]
  · have e : i = n := by omega
    subst e
    have e1 : i - i = 0 := by omega
    rw [e1] at hTL
    have : acc = TL := by rw [← hTL]; simp [tl]
    subst this
    simp [mc16_l0, t29, t30]
    exact hQ _ _ v hD.row.rows hD.old (by have := hD.next; omega) hD.lim hD.row.ok (by simp [t9])
def trL (s : Sea) (n : Nat) : List Int := if fw s n s.from_ ≤ 40 then tl s n s.from_ 0 else []
set_option maxHeartbeats 1000000 in
theorem call16 {ov : Ov} (ho : ∀ args w, ov 16 args w = none) (ho44 : ∀ args w, ov 44 args w = none) (ho41 : ∀ args w, ov 41 args w = none) (h42 : HasP ov 42 F42) (h43 : HasP ov 43 F43) (h45 : HasP ov 45 F45) {s : Sea} (hs : shadeB s = true) (da : Option Addr) (dc : Nat) (cv sv : Value) (n : Nat) (h40 : n ≤ 40) (w : AW) (hl : w.lim ≤ w.next) :
    ∃ x w', (run Tryz.prog ov 98).call 16 [.agg ⟨yearC s (.slice da n dc) cv sv⟩] w .none = .ok (.ret x) w' .none ∧ ∃ v, x = .tuple ⟨[v, .bool (decide (fw s n s.from_ ≤ 40))]⟩ ∧ RowsV intC w' v (trL s n) ∧ Old w.next w.heap w'.heap ∧ w.next ≤ w'.next ∧ w'.lim = w.lim := by
  refine call_wp text16 (by simp) (ho _ _) ?_
  obtain ⟨nf, ng, nc⟩ := shade_nums hs
  obtain ⟨w1, hw1⟩ : ∃ w1 : AW, w1 = ⟨((((((((((w.heap.put w.next (some (.cells (yearC s (.slice da n dc) cv sv) 44 false))).put (w.next + 1) (some (.map [] 0))).put (w.next + 2) (some (.cells [.map none] 84 false))).put (w.next + 2) (some (.cells [.map (some (w.next + 1))] 84 false))).put (w.next + 3) (some (.cells [.nilFunc] 85 false))).put (w.next + 4) (some (.cells [.nilFunc] 92 false))).put (w.next + 4) (some (.cells [fn41 w.next (w.next + 3)] 92 false))).put (w.next + 3) (some (.cells [fn44 w.next (w.next + 2) (w.next + 4)] 85 false))).put (w.next + 5) (some (.cells [.int .i64 0, .int .i64 0] 87 false))).put (w.next + 5) (some (.cells [.int .i64 0, .int .i64 s.from_] 87 false))), w.next + 6, w.lim⟩ := ⟨_, rfl⟩
  have hT : Tr s (.slice da n dc) cv sv n w.next (w.next + 2) (w.next + 3) (w.next + 4) (w.next + 1) w1 := by
    refine ⟨by rw [hw1]; simp, by rw [hw1]; simp, by rw [hw1]; simp, by rw [hw1]; simp, ⟨[], by unfold MapAt; rw [hw1]; simp [entsK], fun d z v h => by simp at h⟩, ⟨by omega, by omega, by omega, by omega⟩, by rw [hw1]; exact ⟨by show w.next < w.next + 6; omega, by show w.next + 2 < w.next + 6; omega, by show w.next + 3 < w.next + 6; omega, by show w.next + 4 < w.next + 6; omega, by show w.next + 1 < w.next + 6; omega⟩, by rw [hw1]; show w.lim ≤ w.next + 1; omega⟩
  have n1 : w1.next = w.next + 6 := by rw [hw1]
  have lm1 : w1.lim = w.lim := by rw [hw1]
  have d1 : w1.heap.get (w.next + 5) = some (.cells [.int .i64 ((0 : Nat) : Int), .int .i64 s.from_] 87 false) := by rw [hw1]; simp
  have o1 : ∀ x, x < w.next → w1.heap.get x = w.heap.get x := fun x hx => by
    rw [hw1]
    simp [show ¬ x = w.next by omega, show ¬ x = w.next + 1 by omega, show ¬ x = w.next + 2 by omega, show ¬ x = w.next + 3 by omega, show ¬ x = w.next + 4 by omega, show ¬ x = w.next + 5 by omega]
  have hH := h44_at ho44 ho41 h42 h43 h45 hs da dc cv sv n h40 (M := 97) (k := n) (by omega)
  obtain ⟨w2, hc, hA⟩ := hH 0 s.from_ w.next (w.next + 2) (w.next + 3) (w.next + 4) (w.next + 1) w1 (by omega) nf (by omega) hT
  have hD1 : Dy s (.slice da n dc) cv sv n w.next w.heap w.lim 0 s.from_ [] (.slice none 0 0) w1 := ⟨hT, d1, AccR.nil, o1, by omega, lm1⟩
  have hD2 := hD1.af hA
  have gy := hA.tr.year
  have b := fw_bd s n s.from_
  have q2 : w.lim ≤ w.next + 1 + 1 := by omega
  have q3 : w.lim ≤ w.next + 1 + 1 + 1 := by omega
  have q4 : w.lim ≤ w.next + 1 + 1 + 1 + 1 := by omega
  have q5 : w.lim ≤ w.next + 1 + 1 + 1 + 1 + 1 := by omega
  have c41 : ∀ a b, cellsOf (.func (.func 41) ⟨[]⟩ ⟨[a, b]⟩) = [.func (.func 41) ⟨[]⟩ ⟨[a, b]⟩] := fun _ _ => rfl
  have c44 : ∀ a b c, cellsOf (.func (.func 44) ⟨[]⟩ ⟨[a, b, c]⟩) = [.func (.func 44) ⟨[]⟩ ⟨[a, b, c]⟩] := fun _ _ _ => rfl
  have s41 : ∀ a b, singles [.func (.func 41) ⟨[]⟩ ⟨[a, b]⟩] = true := fun _ _ => rfl
  have s44 : ∀ a b c, singles [.func (.func 44) ⟨[]⟩ ⟨[a, b, c]⟩] = true := fun _ _ _ => rfl
  have smp : ∀ r, singles [.map r] = true := fun _ => rfl
  have cmp : ∀ r, cellsOf (.map r) = [.map r] := fun _ => rfl
  have x2 : w.next + 2 = w.next + 1 + 1 := rfl
  have x3 : w.next + 3 = w.next + 1 + 1 + 1 := rfl
  have x4 : w.next + 4 = w.next + 1 + 1 + 1 + 1 := rfl
  have x5 : w.next + 5 = w.next + 1 + 1 + 1 + 1 + 1 := rfl
  have x6 : w.next + 6 = w.next + 1 + 1 + 1 + 1 + 1 + 1 := rfl
  rw [hw1] at hc
  simp only [yearC] at gy hc
  simp only [fn41, fn44, ptrB] at hc
  have hnz : ((0 : Nat) : Int) = 0 := rfl
  rw [hnz] at hc
  simp only [x2, x3, x4, x5, x6] at hc
  by_cases hf : fw s n s.from_ ≤ 40
  · have h41 : ¬ fw s n s.from_ = 41 := by omega
    simp [mc16, yearC, c41, c44, cmp, s41, s44, smp, q2, q3, q4, q5, callV_func, hc, h41, gy]
    refine wp_seqX (wp_blockX (loop16a ho44 ho41 h42 h43 h45 hs da dc cv sv n h40 w.next w.heap w.lim hl (trL s n) _ s.from_ _ w2 hD2 ?_ nf hf (by unfold trL; rw [if_pos hf]) ?_))
    case _ =>
      simp only [Th, ptrB]
      simp
    case _ =>
      intro t w3 v hr ho hn hl3 hj t9
      simp [t9, hj, tupV]
      exact ⟨v, ⟨rfl, hf⟩, hr, fun b hb => ho b hb, by omega, hl3⟩
  · have h41 : fw s n s.from_ = 41 := by omega
    rw [h41] at hc
    simp [mc16, yearC, c41, c44, cmp, s41, s44, smp, q2, q3, q4, q5, callV_func, hc, h41, tupV]
    refine ⟨.inl ⟨by unfold trL; rw [if_neg hf], _, _, rfl⟩, fun b hb => ?_, ?_, ?_⟩
    · rw [hA.keep b (by omega) (by omega), o1 b hb]
    · have := hA.next; omega
    · rw [hA.lim, lm1]
end Go.Proofs.YtkkoeeleieplhaaGreatDoor.walk

namespace Go.Proofs.YtkkoeeleieplhaaGreatDoor.walk
open Go Go.Sh
set_option maxRecDepth 100000
set_option linter.unusedSimpArgs false
set_option linter.unusedVariables false
/-! Trim -/
def trE (s : Sea) (l : List Day) (c : List Int) : Int := if seaE s l c = 0 then (if fw s l.length s.from_ ≤ 40 then 0 else 4) else seaE s l c
def trV (s : Sea) (l : List Day) (c : List Int) : List Int := if seaE s l c = 0 then trL s l.length else []
set_option maxHeartbeats 1000000 in
theorem call5 {ov : Ov} (ho : ∀ args w, ov 5 args w = none) (ho15 : ∀ args w, ov 15 args w = none) (ho16 : ∀ args w, ov 16 args w = none) (ho44 : ∀ args w, ov 44 args w = none) (ho41 : ∀ args w, ov 41 args w = none) (h14 : HasP ov 14 F14) (h39 : HasP ov 39 F39) (h40' : HasP ov 40 F40) (h42 : HasP ov 42 F42) (h43 : HasP ov 43 F43) (h45 : HasP ov 45 F45) (s : Sea) (l : List Day) (c : List Int) (dv cv : Value) (w : AW) (hl : w.lim ≤ w.next) (hv : RowsV dayC w dv l) (hu : RowsV intC w cv c) :
    ∃ x w', (run Tryz.prog ov 99).call 5 [.agg ⟨seaC s dv cv⟩] w .none = .ok (.ret x) w' .none ∧ ∃ v, x = .tuple ⟨[v, .int .i64 (trE s l c)]⟩ ∧ RowsV intC w' v (trV s l c) ∧ Old w.next w.heap w'.heap ∧ w.next ≤ w'.next ∧ w'.lim = w.lim := by
  refine call_wp text5 (by simp) (ho _ _) ?_
  have o1 : Old w.next w.heap (w.heap.put w.next (some (.cells (seaC s dv cv) 29 false))) := (Old.refl _ _).put (Nat.le_refl _)
  have hv1 := hv.old (w' := ⟨w.heap.put w.next (some (.cells (seaC s dv cv) 29 false)), w.next + 1, w.lim⟩) o1 (Nat.le_succ _)
  have hu1 := hu.old (w' := ⟨w.heap.put w.next (some (.cells (seaC s dv cv) 29 false)), w.next + 1, w.lim⟩) o1 (Nat.le_succ _)
  have r8 := rule14 (f := 14) (s := s) h14 hv1 hu1 97
  have hl1 : w.lim ≤ w.next + 1 := by omega
  by_cases hE : seaE s l c = 0
  · obtain ⟨hd, hcB, hs, _, _⟩ := sea_zero hE
    have h40 := (days_len hd).2
    have hcl := cuts_len (by omega) hcB
    obtain ⟨x, w', hc, B, rfl, k1, k2, k3, ho', hn, hlm⟩ := call15 96 ho15 h39 h40' s hs l h40 c hcB (by omega) dv cv _ hl1 hv1 hu1
    have hn' : w.next + 1 ≤ w'.next := hn
    have hlm' : w'.lim = w.lim := hlm
    have ho2 : Old w.next w.heap w'.heap := o1.trans ho' (Nat.le_succ _)
    obtain ⟨da, dc, rfl⟩ := hv.len
    obtain ⟨y, w2, hc16, v, rfl, hr, o3, n3, l3⟩ := call16 ho16 ho44 ho41 h42 h43 h45 hs da dc cv (.slice (some ⟨B, 0, none⟩) l.length l.length) l.length h40 w' (by omega)
    rw [hE] at r8
    simp only [seaC, yearC, Nat.reduceAdd] at r8 hc hc16
    have hoo : Old w.next w.heap w2.heap := ho2.trans o3 (by omega)
    by_cases hf : fw s l.length s.from_ ≤ 40
    · simp [mc5, seaC, r8, hc, hc16, tupV, hE, hf, trE]
      have hj : notJunk v = some v := by
        obtain ⟨a, b, rfl⟩ := hr.len; rfl
      simp [hj]
      exact ⟨by simpa [trV, hE] using hr, hoo, by omega, by omega⟩
    · simp [mc5, seaC, r8, hc, hc16, tupV, hE, hf, trE]
      exact ⟨.inl ⟨by simp [trV, hE, trL, hf], _, _, rfl⟩, hoo, by omega, by omega⟩
  · simp only [seaC, Nat.reduceAdd] at r8
    simp [mc5, seaC, r8, tupV, hE, trE]
    exact .inl ⟨by simp [trV, hE], _, _, rfl⟩
end Go.Proofs.YtkkoeeleieplhaaGreatDoor.walk

namespace Go.Proofs.YtkkoeeleieplhaaGreatDoor.walk
open Go Go.Sh
set_option maxRecDepth 100000
set_option linter.unusedSimpArgs false
set_option linter.unusedVariables false
/-! the specification's side: numbers -/
def rnF (f : Int → Int) (s : Sea) (b : Int) (cut : Bool) : Int := if goodB s (nextI s b cut) = true then (if cut = true then 1 + f (nextI s b cut) else f (nextI s b cut)) else 1000
def rn (s : Sea) : Nat → Int → Int
  | 0, _ => 0
  | k + 1, b => min (min 1000 (rnF (rn s k) s b true)) (rnF (rn s k) s b false)
theorem rn_bd (s : Sea) : ∀ k b, 0 ≤ rn s k b ∧ rn s k b ≤ 1000
  | 0, b => ⟨by show (0 : Int) ≤ 0; omega, by show (0 : Int) ≤ 1000; omega⟩
  | k + 1, b => by
    have h1 := rn_bd s k (nextI s b true)
    have h2 := rn_bd s k (nextI s b false)
    show 0 ≤ min (min 1000 (rnF (rn s k) s b true)) (rnF (rn s k) s b false) ∧ min (min 1000 (rnF (rn s k) s b true)) (rnF (rn s k) s b false) ≤ 1000
    unfold rnF
    simp only [if_true, Bool.false_eq_true, if_false]
    split <;> split <;> omega
theorem rnF_bd (s : Sea) (k : Nat) (b : Int) (cut : Bool) : 0 ≤ rnF (rn s k) s b cut ∧ rnF (rn s k) s b cut ≤ 1001 := by
  have h1 := rn_bd s k (nextI s b cut)
  unfold rnF
  split
  · split <;> omega
  · omega
theorem nx_cut (s : Sea) (b : Int) : nextI s b true = cutN s (nextI s b false) := by simp [nextI, cutN]
theorem nx_gro (s : Sea) {z : Int} (h : 0 ≤ z) : nextI s z false = gro s z := by simp only [nextI, gro, Bool.false_eq_true, if_false, if_pos h]; omega
theorem nx_bd {s : Sea} (hs : shadeB s = true) {b : Int} (h : -1 ≤ b ∧ b ≤ 100) (cut : Bool) : 0 ≤ nextI s b cut ∧ nextI s b cut ≤ 100 := by
  obtain ⟨a, g, c⟩ := shade_nums hs
  unfold nextI
  split <;> split <;> omega
theorem rn_fw {s : Sea} (hs : shadeB s = true) : ∀ (k : Nat) (b : Int), k ≤ 40 → (-1 ≤ b ∧ b ≤ 100) → (fw s k (nextI s b false) ≤ k ∧ rn s k b = fw s k (nextI s b false)) ∨ (fw s k (nextI s b false) = 41 ∧ rn s k b = 1000)
  | 0, b, _, _ => .inl ⟨by show (0 : Int) ≤ 0; omega, rfl⟩
  | k + 1, b, hk, hb => by
    have z1 := nx_bd hs hb true
    have z2 := nx_bd hs hb false
    have i1 := rn_fw hs k (nextI s b true) (by omega) (by omega)
    have i2 := rn_fw hs k (nextI s b false) (by omega) (by omega)
    rw [nx_gro s z1.1] at i1
    rw [nx_gro s z2.1] at i2
    rw [nx_cut] at i1
    have b1 := fw_bd s k (gro s (cutN s (nextI s b false)))
    have b2 := fw_bd s k (gro s (nextI s b false))
    show (min (min 41 (wiF (fw s k) s 1 (cutN s (nextI s b false)))) (wiF (fw s k) s 0 (nextI s b false)) ≤ ((k + 1 : Nat) : Int) ∧ min (min 1000 (rnF (rn s k) s b true)) (rnF (rn s k) s b false) = min (min 41 (wiF (fw s k) s 1 (cutN s (nextI s b false)))) (wiF (fw s k) s 0 (nextI s b false))) ∨ _ ∧ min (min 1000 (rnF (rn s k) s b true)) (rnF (rn s k) s b false) = 1000
    rw [fw_succ]
    unfold rnF wiF
    rw [nx_cut]
    simp only [if_true, Bool.false_eq_true, if_false]
    split <;> split <;> omega
theorem cut_iff {s : Sea} (hs : shadeB s = true) {k : Nat} {b : Int} (hk : k + 1 ≤ 40) (hb : -1 ≤ b ∧ b ≤ 100) (hf : fw s (k + 1) (nextI s b false) ≤ 40) :
    (0 < fw s (k + 1) (nextI s b false) ∧ rnF (rn s k) s b true = fw s (k + 1) (nextI s b false)) ↔ wiF (fw s k) s 1 (cutN s (nextI s b false)) = fw s (k + 1) (nextI s b false) := by
  have z1 := nx_bd hs hb true
  have i1 := rn_fw hs k (nextI s b true) (by omega) (by omega)
  rw [nx_gro s z1.1] at i1
  rw [nx_cut] at i1
  have b1 := fw_bd s k (gro s (cutN s (nextI s b false)))
  generalize fw s (k + 1) (nextI s b false) = F at *
  unfold rnF wiF
  rw [nx_cut]
  simp only [if_true]
  split
  · constructor
    · rintro ⟨h1, h2⟩; omega
    · intro h; omega
  · constructor
    · rintro ⟨h1, h2⟩; omega
    · intro h; omega
@[simp] theorem op_nilCheck {P : Program} {t : Tm} {w : AW} (ty : TypeId) (x : Operand) : (opS P ty (.nilCheck x)).val t w = nilCheckA P w ((evS x).val t) := rfl
@[simp] theorem nil_ptr {P : Program} {w : AW} (a : Addr) : nilCheckA P w (.pointer (some a)) = .val (.pointer (some a)) w := rfl
theorem least3 {P : Program} (ts : Array TypeId) (ty : TypeId) (k : IntKind) (a b c : Int) (w : AW) : builtinA P w .min ts ty [.int k a, .int k b, .int k c] = .val (.int k (min (min a b) c)) w := by
  show vR w (leastB k a [.int k b, .int k c]) = _
  unfold leastB
  simp only [intLt_eq]
  unfold leastB
  simp only [intLt_eq]
  by_cases h : b < a
  · by_cases h2 : c < b <;> simp [h, h2, leastB, vR] <;> omega
  · by_cases h2 : c < a <;> simp [h, h2, leastB, vR] <;> omega
end Go.Proofs.YtkkoeeleieplhaaGreatDoor.walk

namespace Go.Proofs.YtkkoeeleieplhaaGreatDoor.walk
open Go Go.Sh
set_option maxRecDepth 100000
set_option linter.unusedSimpArgs false
set_option linter.unusedVariables false
/-! the specification's search, which remembers by a number -/
theorem in_ok : KeyOk (false, [0]) inV := ⟨fun a => rfl, fun a b => eqFlat_int .i64 a b⟩
theorem map48 : mapOf Tryz.prog 48 = some (3, (false, [0])) := by kernel_rfl
structure Tn (s : Sea) (dv cv : Value) (n bT km : Nat) (w : AW) : Prop where
  box : w.heap.get bT = some (.cells [dv, .int .i64 s.base, .int .i64 s.wet, .int .i64 s.from_, .int .i64 s.grows, .int .i64 s.cut, .int .i64 s.gl, .int .i64 s.gh, cv, .map (some km)] 50 false)
  map : ∃ L, MapAt inV inV w km L ∧ ∀ key v, lookK L key = some v → ∃ (k d : Nat) (b : Int), key = 200 * (d : Int) + b + 1 ∧ (-1 ≤ b ∧ b ≤ 100) ∧ d + k = n ∧ v = rn s k b
  ne : bT ≠ km
  lt : bT < w.next ∧ km < w.next
  lim : w.lim ≤ km
structure An (s : Sea) (dv cv : Value) (n bT km : Nat) (w w' : AW) : Prop where
  tr : Tn s dv cv n bT km w'
  keep : ∀ x, x < w.next → x ≠ km → w'.heap.get x = w.heap.get x
  next : w.next ≤ w'.next
  lim : w'.lim = w.lim
theorem An.trans {s : Sea} {dv cv : Value} {n bT km : Nat} {w w1 w2 : AW} (h : An s dv cv n bT km w w1) (k : An s dv cv n bT km w1 w2) : An s dv cv n bT km w w2 :=
  ⟨k.tr, fun x hx hne => by rw [k.keep x (by have := h.next; omega) hne, h.keep x hx hne], by have := h.next; have := k.next; omega, by rw [k.lim, h.lim]⟩
theorem An.refl {s : Sea} {dv cv : Value} {n bT km : Nat} {w : AW} (h : Tn s dv cv n bT km w) : An s dv cv n bT km w w := ⟨h, fun _ _ _ => rfl, Nat.le_refl _, rfl⟩
def H18 (ov : Ov) (s : Sea) (dv cv : Value) (n M k : Nat) : Prop := ∀ (d : Nat) (b : Int) (bT km : Nat) (w : AW), d + k = n → -1 ≤ b ∧ b ≤ 100 → w.lim ≤ w.next → Tn s dv cv n bT km w →
  ∃ w', (run Tryz.prog ov M).call 18 [ptrB bT, .int .i64 (d : Nat), .int .i64 b] w .none = .ok (.ret (.int .i64 (rn s k b))) w' .none ∧ An s dv cv n bT km w w'
theorem call19 {ov : Ov} (m : Nat) (ho : ∀ args w, ov 19 args w = none) (h20 : HasP ov 20 F20) (h34 : HasP ov 34 F34) {s : Sea} (hs : shadeB s = true) (dv cv : Value) (n k : Nat) (h40 : n ≤ 40) (H : H18 ov s dv cv n (m + 1) k) (d : Nat) (b : Int) (cut : Bool) (bT km : Nat) (w : AW) (hd : d + (k + 1) = n) (hb : -1 ≤ b ∧ b ≤ 100) (hl : w.lim ≤ w.next) (hT : Tn s dv cv n bT km w) :
    ∃ v w', (run Tryz.prog ov (m + 2)).call 19 [ptrB bT, .int .i64 (d : Nat), .int .i64 b, .bool cut] w .none = .ok (.ret v) w' .none ∧ v = .int .i64 (rnF (rn s k) s b cut) ∧ An s dv cv n bT km w w' := by
  refine call_wp text19 (by simp) (ho _ _) ?_
  obtain ⟨nf, ng, nc⟩ := shade_nums hs
  have gb := hT.box
  have r20 := fun w => rule20 h20 s cut hb ng m w
  have r34 := fun w => rule34 h34 (nextI s b cut) s.gl s.gh m w
  have zb := nx_bd hs hb cut
  have hw1 : IntKind.wrap .i64 ((d : Int) + 1) = (d : Int) + 1 := wrap64_in (by omega) (by omega)
  have sv2 := fun (k : IntKind) (a : Int) => sameN_int 4 k a
  by_cases hg : inI s.gl (nextI s b cut) s.gh = true
  · obtain ⟨w2, hc, hA⟩ := H (d + 1) (nextI s b cut) bT km w (by omega) (by omega) hl hT
    have ed : ((d + 1 : Nat) : Int) = (d : Int) + 1 := by omega
    rw [ed] at hc
    have bd := rn_bd s k (nextI s b cut)
    have ww : IntKind.wrap .i64 (1 + rn s k (nextI s b cut)) = 1 + rn s k (nextI s b cut) := wrap64_in (by omega) (by omega)
    simp only [ptrB] at hc
    cases cut with
    | true => simp [mc19, ptrB, gb, r20, r34, hg, hw1, hc, ww, tupV, rnF, goodB]; exact hA
    | false => simp [mc19, ptrB, gb, r20, r34, hg, hw1, hc, tupV, rnF, goodB]; exact hA
  · have hg' : inI s.gl (nextI s b cut) s.gh = false := by simpa using hg
    simp [mc19, ptrB, gb, r20, r34, hg', tupV, rnF, goodB]
    exact .refl hT
theorem call18 {ov : Ov} (ho : ∀ args w, ov 18 args w = none) (ho19 : ∀ args w, ov 19 args w = none) (h20 : HasP ov 20 F20) (h34 : HasP ov 34 F34) {s : Sea} (hs : shadeB s = true) (da : Option Addr) (dc : Nat) (cv : Value) (n : Nat) (h40 : n ≤ 40) : ∀ k m, H18 ov s (.slice da n dc) cv n (m + 2 * k + 1) k
  | 0, m => by
    intro d b bT km w hd hb hl hT
    obtain ⟨v, w', h1, rfl, h2⟩ : ∃ v w', (run Tryz.prog ov (m + 1)).call 18 [ptrB bT, .int .i64 (d : Nat), .int .i64 b] w .none = .ok (.ret v) w' .none ∧ v = .int .i64 (rn s 0 b) ∧ w' = w := by
      refine call_wp text18 (by simp) (ho _ _) ?_
      have gb := hT.box
      have ed : d = n := by omega
      subst ed
      simp [mc18, ptrB, gb, tupV, rn]
    exact ⟨w', h1, by rw [h2]; exact .refl hT⟩
  | k + 1, m => by
    intro d b bT km w hd hb hl hT
    have H := call18 ho ho19 h20 h34 hs da dc cv n h40 k m
    obtain ⟨L, hL, hK⟩ := hT.map
    have hlk := lookup_k (P := Tryz.prog) (s := 48) map48 in_ok zero3 hL (200 * (d : Int) + b + 1) true
    have gb := hT.box
    have hdn : ¬ ((d : Nat) : Int) = (n : Nat) := by omega
    have w1 : IntKind.wrap .i64 (200 * (d : Int)) = 200 * (d : Int) := wrap64_in (by omega) (by omega)
    have w2 : IntKind.wrap .i64 (200 * (d : Int) + b) = 200 * (d : Int) + b := wrap64_in (by omega) (by omega)
    have w3 : IntKind.wrap .i64 (200 * (d : Int) + b + 1) = 200 * (d : Int) + b + 1 := wrap64_in (by omega) (by omega)
    have goal : ∃ v w', (run Tryz.prog ov (m + 2 * k + 3)).call 18 [ptrB bT, .int .i64 (d : Nat), .int .i64 b] w .none = .ok (.ret v) w' .none ∧ v = .int .i64 (rn s (k + 1) b) ∧ An s (.slice da n dc) cv n bT km w w' := by
      refine call_wp text18 (by simp) (ho _ _) ?_
      cases hv : lookK L (200 * (d : Int) + b + 1) with
      | some v =>
        obtain ⟨k', d', b', e1, e2, e3, rfl⟩ := hK _ _ hv
        have e4 : d' = d := by omega
        have e5 : b' = b := by omega
        have e6 : k' = k + 1 := by omega
        subst e4 e5 e6
        rw [hv] at hlk
        have hlk : lookupA Tryz.prog w 48 (.map (some km)) (.int .i64 (200 * (d' : Int) + b' + 1)) true = .val (.tuple ⟨[.int .i64 (rn s (k + 1) b'), .bool true]⟩) w := hlk
        simp [mc18, ptrB, gb, hdn, w1, w2, w3, hlk, tupV]
        exact .refl hT
      | none =>
        rw [hv] at hlk
        have hlk : lookupA Tryz.prog w 48 (.map (some km)) (.int .i64 (200 * (d : Int) + b + 1)) true = .val (.tuple ⟨[.int .i64 0, .bool false]⟩) w := hlk
        obtain ⟨_, wa, ha, rfl, hA⟩ := call19 (m + 2 * k) ho19 h20 h34 hs (.slice da n dc) cv n k h40 H d b true bT km w hd hb hl hT
        obtain ⟨_, wb, hb2, rfl, hB⟩ := call19 (m + 2 * k) ho19 h20 h34 hs (.slice da n dc) cv n k h40 H d b false bT km wa hd hb (by have := hA.next; have := hA.lim; omega) hA.tr
        have hT2 := hB.tr
        obtain ⟨L2, hL2, hK2⟩ := hT2.map
        have hup := update_k (P := Tryz.prog) (s := 48) map48 in_ok hL2 hT2.lim (200 * (d : Int) + b + 1) (rn s (k + 1) b)
        have hup : mapUpdateA Tryz.prog wb 48 (.map (some km)) (.int .i64 (200 * (d : Int) + b + 1)) (.int .i64 (rn s (k + 1) b)) = _ := hup
        obtain ⟨w4, hw4⟩ : ∃ w4 : AW, w4 = ⟨wb.heap.put km (some (.map (entsK inV inV 0 (updK L2 (200 * (d : Int) + b + 1) (rn s (k + 1) b))) (updK L2 (200 * (d : Int) + b + 1) (rn s (k + 1) b)).length)), wb.next, wb.lim⟩ := ⟨_, rfl⟩
        rw [← hw4] at hup
        have ev : rn s (k + 1) b = min 1000 (min (rnF (rn s k) s b true) (rnF (rn s k) s b false)) := by
          show min (min 1000 (rnF (rn s k) s b true)) (rnF (rn s k) s b false) = _
          omega
        rw [ev] at hup
        simp only [ptrB] at ha hb2
        have l3 := fun (ts : Array TypeId) (ty : TypeId) w => least3 (P := Tryz.prog) ts ty .i64 1000 (rnF (rn s k) s b true) (rnF (rn s k) s b false) w
        simp [mc18, ptrB, gb, hdn, w1, w2, w3, hlk, ha, hb2, l3, hup, tupV]
        have kk : ∀ x, x ≠ km → w4.heap.get x = wb.heap.get x := fun x hx => by rw [hw4]; simp [hx]
        have nn : w4.next = wb.next := by rw [hw4]
        have ll : w4.lim = wb.lim := by rw [hw4]
        have hT4 : Tn s (.slice da n dc) cv n bT km w4 := by
          refine ⟨by rw [kk _ hT2.ne]; exact hT2.box, ⟨updK L2 (200 * (d : Int) + b + 1) (rn s (k + 1) b), ?_, ?_⟩, hT2.ne, by rw [nn]; exact hT2.lt, by rw [ll]; exact hT2.lim⟩
          · unfold MapAt; rw [hw4]; simp
          · intro key v hv'
            rw [lookK_upd] at hv'
            split at hv'
            · rename_i he
              cases hv'
              exact ⟨k + 1, d, b, he, hb, by omega, rfl⟩
            · exact hK2 key v hv'
        exact ⟨ev.symm, hA.trans (hB.trans ⟨hT4, fun x _ hx => kk x hx, by omega, ll⟩)⟩
    obtain ⟨v, w', h1, rfl, h2⟩ := goal
    exact ⟨w', h1, h2⟩
end Go.Proofs.YtkkoeeleieplhaaGreatDoor.walk

namespace Go.Proofs.YtkkoeeleieplhaaGreatDoor.walk
open Go Go.Sh
set_option maxRecDepth 100000
set_option linter.unusedSimpArgs false
set_option linter.unusedVariables false
/-! the specification's list of cuts -/
theorem h18_at {ov : Ov} (ho : ∀ args w, ov 18 args w = none) (ho19 : ∀ args w, ov 19 args w = none) (h20 : HasP ov 20 F20) (h34 : HasP ov 34 F34) {s : Sea} (hs : shadeB s = true) (da : Option Addr) (dc : Nat) (cv : Value) (n : Nat) (h40 : n ≤ 40) {M k : Nat} (h : 2 * k + 1 ≤ M) : H18 ov s (.slice da n dc) cv n M k := by
  obtain ⟨m, rfl⟩ : ∃ m, M = m + 2 * k + 1 := ⟨M - 2 * k - 1, by omega⟩
  exact call18 ho ho19 h20 h34 hs da dc cv n h40 k m
structure Dr (s : Sea) (dv cv : Value) (n N : Nat) (H0 : T AObj) (lm : Nat) (acc : List Int) (v : Value) (w : AW) : Prop where
  tr : Tn s dv cv n (N + 2) (N + 1) w
  sea : w.heap.get N = some (.cells (seaC s dv cv) 29 false)
  row : AccR intC 3 (N + 2) w v acc
  old : ∀ x, x < N → w.heap.get x = H0.get x
  next : N + 2 < w.next
  lim : w.lim = lm
theorem Dr.af {s : Sea} {dv cv : Value} {n N : Nat} {H0 : T AObj} {lm : Nat} {acc : List Int} {v : Value} {w w' : AW} (h : Dr s dv cv n N H0 lm acc v w) (k : An s dv cv n (N + 2) (N + 1) w w') : Dr s dv cv n N H0 lm acc v w' :=
  have hn := h.next
  ⟨k.tr, by rw [k.keep _ (by omega) (by omega)]; exact h.sea, h.row.keep (fun x h1 h2 => k.keep x h2 (by omega)) k.next, fun x hx => by rw [k.keep x (by omega) (by omega)]; exact h.old x hx, by have := k.next; omega, by rw [k.lim]; exact h.lim⟩
theorem Tn.ex {s : Sea} {dv cv : Value} {n bT km : Nat} {w w' : AW} (h : Tn s dv cv n bT km w) (k : ∀ x, x = bT ∨ x = km → w'.heap.get x = w.heap.get x) (hn : w.next ≤ w'.next) (hl : w'.lim = w.lim) : Tn s dv cv n bT km w' := by
  obtain ⟨l1, l2⟩ := h.lt
  obtain ⟨L, h1, h2⟩ := h.map
  exact ⟨by rw [k _ (.inl rfl)]; exact h.box, ⟨L, by unfold MapAt; rw [k _ (.inr rfl)]; exact h1, h2⟩, h.ne, ⟨by omega, by omega⟩, by rw [hl]; exact h.lim⟩
set_option maxHeartbeats 1000000 in
theorem loop6 {ov : Ov} (ho18 : ∀ args w, ov 18 args w = none) (ho19 : ∀ args w, ov 19 args w = none) (h20 : HasP ov 20 F20) (h34 : HasP ov 34 F34) {s : Sea} (hs : shadeB s = true) (da : Option Addr) (dc : Nat) (cv : Value) (n : Nat) (h40 : n ≤ 40) (N : Nat) (H0 : T AObj) (lm : Nat) (hlN : lm ≤ N) (TL : List Int)
    (Q : Ex → Tm → AW → Prop) (t : Tm) (w : AW) (hD0 : Dr s (.slice da n dc) cv n N H0 lm [] (.slice none 0 0) w) (t1 : tget t 1 = ptrB N) (t5 : tget t 5 = ptrB (N + 2)) (t6 : tget t 6 = .int .i64 (fw s n (nextI s (-1) false))) (t7 : tget t 7 = .slice none 0 0) (t8 : tget t 8 = .int .i64 (-1)) (t9 : tget t 9 = .int .i64 0) (hf0 : fw s n (nextI s (-1) false) ≤ 40) (hTL : tl s n (nextI s (-1) false) 0 = TL)
    (hQ : ∀ t w v, RowsV intC w v TL → (∀ x, x < N → w.heap.get x = H0.get x) → N < w.next → w.lim = lm → notJunk v = some v → tget t 7 = v → Q (.exit 0) t w) :
    wp (exM Tryz.prog (run Tryz.prog ov 98) (.loop mc6_l0) t w) Q := by
  refine wp_rounds (fun i t w => ∃ b acc v, Dr s (.slice da n dc) cv n N H0 lm acc v w ∧ ((tget t 1 = ptrB N ∧ tget t 5 = ptrB (N + 2)) ∧ (tget t 6 = .int .i64 (fw s (n - i) (nextI s b false)) ∧ tget t 7 = v) ∧ tget t 8 = .int .i64 b ∧ tget t 9 = .int .i64 (i : Nat)) ∧ (-1 ≤ b ∧ b ≤ 100) ∧ fw s (n - i) (nextI s b false) ≤ 40 ∧ acc ++ tl s (n - i) (nextI s b false) i = TL ∧ acc.length ≤ i ∧ i ≤ n) 200 (by decide) ⟨-1, [], _, hD0, ⟨⟨t1, t5⟩, ⟨by simpa using t6, t7⟩, t8, by simpa using t9⟩, by omega, by simpa using hf0, by simpa using hTL, by simp, Nat.zero_le _⟩ ?_
  clear hD0 t1 t5 t6 t7 t8 t9 hf0 hTL
  rintro i t w ⟨b, acc, v, hD, ⟨⟨t1, t5⟩, ⟨t6, t7⟩, t8, t9⟩, hb, hf, hTL, hal, hin⟩
  have gs := hD.sea
  simp only [ptrB] at t1
  by_cases hi : i < n
  · obtain ⟨k, hk⟩ : ∃ k, i + (k + 1) = n := ⟨n - i - 1, by omega⟩
    have e1 : n - i = k + 1 := by omega
    have e2 : n - (i + 1) = k := by omega
    rw [e1] at hf hTL t6
    have hH := h18_at ho18 ho19 h20 h34 hs da dc cv n h40 (M := 97) (k := k) (by omega)
    have hnx := hD.next
    have hlm := hD.lim
    obtain ⟨_, w2, hc, rfl, hA⟩ := call19 96 ho19 h20 h34 hs (.slice da n dc) cv n k h40 hH i b true (N + 2) (N + 1) w hk hb (by omega) hD.tr
    have hD2 := hD.af hA
    have gs2 := hD2.sea
    have hn2 := hD2.next
    have hl2 := hD2.lim
    obtain ⟨nf, ng, nc⟩ := shade_nums hs
    have hci := cut_iff hs (k := k) (b := b) (by omega) hb hf
    have zt := nx_bd hs hb true
    have zf := nx_bd hs hb false
    have hii : ((i : Nat) : Int) < (n : Nat) := by omega
    have hw1 : IntKind.wrap .i64 ((i : Int) + 1) = (i : Int) + 1 := wrap64_in (by omega) (by omega)
    have bf := fw_bd s (k + 1) (nextI s b false)
    have hw2 : IntKind.wrap .i64 (fw s (k + 1) (nextI s b false) - 1) = fw s (k + 1) (nextI s b false) - 1 := wrap64_in (by omega) (by omega)
    have r20t := fun w => rule20 h20 s true hb ng 97 w
    have r20f := fun w => rule20 h20 s false hb ng 97 w
    have ed : ((i + 1 : Nat) : Int) = (i : Int) + 1 := by omega
    simp only [ptrB] at t5 hc
    by_cases hC : wiF (fw s k) s 1 (cutN s (nextI s b false)) = fw s (k + 1) (nextI s b false)
    · obtain ⟨hp, hR⟩ := hci.2 hC
      obtain ⟨_, hfk⟩ := fw_cut hC hf
      obtain ⟨v', w4, ha, hrow, hk4, hn4, hl4⟩ := push27 hD2.row (by omega) (by omega) (by omega) (i : Int)
      have hD4 : Dr s (.slice da n dc) cv n N H0 lm (acc ++ [(i : Int)]) v' w4 :=
        ⟨hD2.tr.ex (fun x hx => hk4 x (by omega)) hn4 hl4, by rw [hk4 _ (by omega)]; exact gs2, hrow, fun x hx => by rw [hk4 x (by omega)]; exact hD2.old x hx, by omega, by omega⟩
      have gs4 := hD4.sea
      simp only [seaC] at gs gs2 gs4
      have hnx2 : nextI s (nextI s b true) false = gro s (cutN s (nextI s b false)) := by rw [nx_gro s zt.1, nx_cut]
      simp [mc6_l0, t1, t5, t6, t7, t8, t9, gs, hi, hii, hp, hc, hR, ha, hw2, gs4, r20t, hw1]
      refine ⟨by omega, nextI s b true, acc ++ [(i : Int)], v', hD4, ?_, by omega, ?_, ?_, by simp; omega, by omega⟩
      · rw [e2, hnx2, hfk]
        simp only [ptrB]
        simp [t1, t5]
      · rw [e2, hnx2]; omega
      · rw [e2, ← hTL, hnx2]
        conv => rhs; rw [tl, if_pos hC]
        simp
    · obtain ⟨_, _, hfk⟩ := fw_no hC hf
      have hnx2 : nextI s (nextI s b false) false = gro s (nextI s b false) := nx_gro s zf.1
      simp only [seaC] at gs gs2
      by_cases hp : 0 < fw s (k + 1) (nextI s b false)
      · have hR : ¬ rnF (rn s k) s b true = fw s (k + 1) (nextI s b false) := fun h => hC (hci.1 ⟨hp, h⟩)
        simp [mc6_l0, t1, t5, t6, t7, t8, t9, gs, hi, hii, hp, hc, hR, gs2, r20f, hw1]
        refine ⟨by omega, nextI s b false, acc, v, hD2, ?_, by omega, ?_, ?_, by omega, by omega⟩
        · rw [e2, hnx2, hfk]
          simp only [ptrB]
          simp [t1, t5, t6, t7]
        · rw [e2, hnx2]; omega
        · rw [e2, ← hTL, hnx2]
          conv => rhs; rw [tl, if_neg hC]
      · simp [mc6_l0, t1, t5, t6, t7, t8, t9, gs, hi, hii, hp, gs2, r20f, hw1]
        refine ⟨by omega, nextI s b false, acc, v, hD, ?_, by omega, ?_, ?_, by omega, by omega⟩
        · rw [e2, hnx2, hfk]
          simp only [ptrB]
          simp [t1, t5, t6, t7]
        · rw [e2, hnx2]; omega
        · rw [e2, ← hTL, hnx2]
          conv => rhs; rw [tl, if_neg hC]
  · have e : i = n := by omega
    subst e
    have e1 : i - i = 0 := by omega
    rw [e1] at hTL
    have : acc = TL := by rw [← hTL]; simp [tl]
    subst this
    simp only [seaC] at gs
    simp [mc6_l0, t1, t9, gs]
    exact hQ _ _ v hD.row.rows hD.old (by have := hD.next; omega) hD.lim hD.row.ok (by simp [t7])
set_option maxHeartbeats 1000000 in
theorem call6 {ov : Ov} (ho : ∀ args w, ov 6 args w = none) (ho18 : ∀ args w, ov 18 args w = none) (ho19 : ∀ args w, ov 19 args w = none) (h17 : HasP ov 17 F14) (h20 : HasP ov 20 F20) (h34 : HasP ov 34 F34) (s : Sea) (l : List Day) (c : List Int) (dv cv : Value) (w : AW) (hl : w.lim ≤ w.next) (hv : RowsV dayC w dv l) (hu : RowsV intC w cv c) :
    ∃ x w', (run Tryz.prog ov 99).call 6 [.agg ⟨seaC s dv cv⟩] w .none = .ok (.ret x) w' .none ∧ ∃ v, x = .tuple ⟨[v, .int .i64 (trE s l c)]⟩ ∧ RowsV intC w' v (trV s l c) ∧ Old w.next w.heap w'.heap ∧ w.next ≤ w'.next ∧ w'.lim = w.lim := by
  refine call_wp text6 (by simp) (ho _ _) ?_
  have o1 : Old w.next w.heap (w.heap.put w.next (some (.cells (seaC s dv cv) 29 false))) := (Old.refl _ _).put (Nat.le_refl _)
  have hv1 := hv.old (w' := ⟨w.heap.put w.next (some (.cells (seaC s dv cv) 29 false)), w.next + 1, w.lim⟩) o1 (Nat.le_succ _)
  have hu1 := hu.old (w' := ⟨w.heap.put w.next (some (.cells (seaC s dv cv) 29 false)), w.next + 1, w.lim⟩) o1 (Nat.le_succ _)
  have r8 := rule14 (f := 17) (s := s) h17 hv1 hu1 97
  by_cases hE : seaE s l c = 0
  · obtain ⟨hd, hcB, hs, _, _⟩ := sea_zero hE
    have h40 := (days_len hd).2
    obtain ⟨nf, ng, nc⟩ := shade_nums hs
    obtain ⟨da, dc, rfl⟩ := hv.len
    obtain ⟨w1, hw1⟩ : ∃ w1 : AW, w1 = ⟨((w.heap.put w.next (some (.cells (seaC s (.slice da l.length dc) cv) 29 false))).put (w.next + 1) (some (.map [] 0))).put (w.next + 1 + 1) (some (.cells [.slice da l.length dc, .int .i64 s.base, .int .i64 s.wet, .int .i64 s.from_, .int .i64 s.grows, .int .i64 s.cut, .int .i64 s.gl, .int .i64 s.gh, cv, .map (some (w.next + 1))] 50 false)), w.next + 1 + 1 + 1, w.lim⟩ := ⟨_, rfl⟩
    have hT : Tn s (.slice da l.length dc) cv l.length (w.next + 2) (w.next + 1) w1 := by
      refine ⟨by rw [hw1]; simp, ⟨[], by unfold MapAt; rw [hw1]; simp [entsK], fun k v h => by simp at h⟩, by omega, by rw [hw1]; exact ⟨by show w.next + 2 < w.next + 1 + 1 + 1; omega, by show w.next + 1 < w.next + 1 + 1 + 1; omega⟩, by rw [hw1]; show w.lim ≤ w.next + 1; omega⟩
    have n1 : w1.next = w.next + 3 := by rw [hw1]
    have lm1 : w1.lim = w.lim := by rw [hw1]
    have o1' : ∀ x, x < w.next → w1.heap.get x = w.heap.get x := fun x hx => by
      rw [hw1]
      simp [show ¬ x = w.next by omega, show ¬ x = w.next + 1 by omega, show ¬ x = w.next + 1 + 1 by omega]
    have g0 : w1.heap.get w.next = some (.cells (seaC s (.slice da l.length dc) cv) 29 false) := by rw [hw1]; simp
    have hH := h18_at ho18 ho19 h20 h34 hs da dc cv l.length h40 (M := 98) (k := l.length) (by omega)
    obtain ⟨w2, hc, hA⟩ := hH 0 (-1) (w.next + 2) (w.next + 1) w1 (by omega) (by omega) (by omega) hT
    have hD1 : Dr s (.slice da l.length dc) cv l.length w.next w.heap w.lim [] (.slice none 0 0) w1 := ⟨hT, g0, AccR.nil, o1', by omega, lm1⟩
    have hD2 := hD1.af hA
    have hnxt : nextI s (-1) false = s.from_ := by simp [nextI]
    have hrel := rn_fw hs l.length (-1) h40 (by omega)
    rw [hnxt] at hrel
    rw [hE] at r8
    rw [hw1] at hc
    simp only [ptrB, seaC] at hc
    simp only [seaC] at r8
    have x2 : w.next + 2 = w.next + 1 + 1 := rfl
    have hnz : ((0 : Nat) : Int) = 0 := rfl
    rw [x2, hnz] at hc
    simp only [Nat.reduceAdd] at r8 hc
    have cmp : ∀ r, cellsOf (.map r) = [.map r] := fun _ => rfl
    have smp : ∀ r, singles [.map r] = true := fun _ => rfl
    by_cases hf : fw s l.length s.from_ ≤ 40
    · have hr : rn s l.length (-1) = fw s l.length s.from_ := by omega
      have h1000 : ¬ fw s l.length s.from_ = 1000 := by omega
      rw [hr] at hc
      simp [mc6, seaC, cellsOf_agg, r8, hc, h1000]
      refine wp_seqX (wp_blockX (loop6 ho18 ho19 h20 h34 hs da dc cv l.length h40 w.next w.heap w.lim hl (trL s l.length) _ _ w2 hD2 ?_ ?_ ?_ ?_ ?_ ?_ ?_ ?_ ?_))
      case _ => simp [ptrB]
      case _ => simp [ptrB]
      case _ => simp [hnxt]
      case _ => simp
      case _ => simp
      case _ => simp
      case _ => rw [hnxt]; exact hf
      case _ => rw [hnxt]; unfold trL; rw [if_pos hf]
      case _ =>
        intro t w3 v hr ho hn hl3 hj t7
        simp [t7, hj, tupV]
        exact ⟨v, ⟨rfl, by simp [trE, hE, hf]⟩, by simpa [trV, hE] using hr, fun b hb => ho b hb, by omega, hl3⟩
    · have hr : rn s l.length (-1) = 1000 := by omega
      rw [hr] at hc
      simp [mc6, seaC, cellsOf_agg, r8, hc, tupV]
      refine ⟨_, ⟨rfl, by simp [trE, hE, hf]⟩, .inl ⟨by simp [trV, hE, trL, hf], _, _, rfl⟩, fun b hb => ?_, ?_, ?_⟩
      · rw [hA.keep b (by omega) (by omega), o1' b hb]
      · have := hA.next; omega
      · rw [hA.lim, lm1]
  · simp only [seaC, Nat.reduceAdd] at r8
    simp [mc6, seaC, r8, tupV, hE, trE]
    exact .inl ⟨by simp [trV, hE], _, _, rfl⟩
end Go.Proofs.YtkkoeeleieplhaaGreatDoor.walk
