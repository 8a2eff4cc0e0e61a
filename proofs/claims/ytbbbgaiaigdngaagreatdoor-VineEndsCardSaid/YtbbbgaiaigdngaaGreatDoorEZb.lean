/- Part of a proof by a machine of ones own: see the text with the theorem. -/
import Derived.Test.YtbbbgaiaigdngaaGreatDoorEZa
import Derived.Test.YtbbbgaiaigdngaaGreatDoorXWc
import Derived.Test.YtbbbgaiaigdngaaGreatDoorEWc
namespace Go.Proofs.YtbbbgaiaigdngaaGreatDoor.walk
open Go Go.Sh
set_option maxRecDepth 100000
set_option linter.unusedSimpArgs false
set_option linter.unusedVariables false
/-- on which day a raceme opens, by Heats -/
theorem call18 {ov : Ov} (m : Nat) (ho : ∀ args w, ov 18 args w = none) (ho14 : ∀ args w, ov 14 args w = none) (ho19 : ∀ args w, ov 21 args w = none) (ho29 : ∀ args w, ov 48 args w = none) (h8 : HasP ov 43 F43) (h28 : HasP ov 46 F46) (h47 : HasP ov 51 F51) (h48 : HasP ov 52 F52) (h53 : HasP ov 77 F77) (s : Sea) (l : List Day) (c W R : List Int) (hE : seaE s l c = 0) (hT : trB l W R = true) (r : Rac) (dv cv wv rv : Value) (w : AW) (hl : w.lim ≤ w.next) (hv : RowsV dayC w dv l) (hu : RowsV intC w cv c) (hw : RowsV intC w wv W) (hr : RowsV intC w rv R) :
    ∃ x w', (run Tryz.prog ov (m + 4)).call 18 [.agg ⟨seaC s dv cv⟩, .agg ⟨[wv, rv]⟩, .agg ⟨racC r⟩] w .none = .ok (.ret x) w' .none ∧ x = .int .i64 ((opI (htL s (shL s c l.length) W R l.length) r.need : Nat) : Int) ∧ Ol w w' := by
  refine call_wp text18 (by simp) (ho _ _) ?_
  have h40 := (days_len (sea_zero hE).1).2
  obtain ⟨w1, hw1⟩ : ∃ w1, (⟨((w.heap.put w.next (some (.cells (seaC s dv cv) 29 false))).put (w.next + 1) (some (.cells [wv, rv] 41 false))).put (w.next + 1 + 1) (some (.cells (racC r) 32 false)), w.next + 1 + 1 + 1, w.lim⟩ : AW) = w1 := ⟨_, rfl⟩
  have o1 : Old w.next w.heap w1.heap := by
    rw [← hw1]
    exact (((Old.refl _ _).put (Nat.le_refl _)).put (Nat.le_succ _)).put (by omega)
  have n1 : w1.next = w.next + 1 + 1 + 1 := by rw [← hw1]
  have m1 : w1.lim = w.lim := by rw [← hw1]
  have gs : w1.heap.get w.next = some (.cells (seaC s dv cv) 29 false) := by rw [← hw1]; simp
  have gr : w1.heap.get (w.next + 1 + 1) = some (.cells (racC r) 32 false) := by rw [← hw1]; simp
  obtain ⟨_, w2, c14, hv', rfl, rH, o2, n2, l2⟩ := call14 (ov := ov) m ho14 ho19 ho29 h8 h28 h47 h48 h53 s l c W R dv cv wv rv w1 (by omega) (hv.old o1 (by omega)) (hu.old o1 (by omega)) (hw.old o1 (by omega)) (hr.old o1 (by omega))
  have hhE : heE s l c W R = 0 := by unfold heE; rw [if_pos hE, if_pos hT]
  have hhV : heV s l c W R = htL s (shL s c l.length) W R l.length := by unfold heV; rw [if_pos ⟨hE, hT⟩]
  rw [hhE] at c14
  rw [hhV] at rH
  obtain ⟨L, hL⟩ : ∃ L, L = htL s (shL s c l.length) W R l.length := ⟨_, rfl⟩
  have hsm : small L = true := by rw [hL]; exact ht_bd hE hT
  have hlen : L.length = l.length := by rw [hL, htL_length]
  rw [← hL] at rH ⊢
  have hhl := fun w => len27V rH w
  have hdl := fun w => len22V hv w
  have gs2 : w2.heap.get w.next = some (.cells (seaC s dv cv) 29 false) := by rw [o2 _ (by omega)]; exact gs
  have gr2 : w2.heap.get (w.next + 1 + 1) = some (.cells (racC r) 32 false) := by rw [o2 _ (by omega)]; exact gr
  have hO : Ol w w2 := ⟨fun x hx => by rw [o2 x (by omega)]; exact o1 x hx, by omega, by omega⟩
  simp only [seaC, racC] at c14 gs gr gs2 gr2 hw1
  have hw1c := hw1
  simp [mc18, cellsOf_agg, seaC, racC]
  rw [hw1]
  simp [c14]
  refine wp_seqX (wp_blockX (wp_rounds (fun i t w' => w' = w2 ∧ tget t 3 = .pointer (some ⟨w.next, 0, none⟩) ∧ tget t 5 = .pointer (some ⟨w.next + 1 + 1, 0, none⟩) ∧ tget t 7 = hv' ∧ tget t 8 = .int .i64 0 ∧ (∃ S, tget t 9 = .int .i64 S ∧ 0 ≤ S ∧ S ≤ 50 * (i : Int) ∧ opF r.need (L.drop i) S i = opI L r.need) ∧ tget t 10 = .int .i64 (i : Nat) ∧ i ≤ L.length) 100 (by decide) ⟨rfl, by simp, by simp, by simp, by simp, ⟨0, by simp, by omega, by omega, by simp [opI]⟩, by simp, by omega⟩ ?_))
  rintro i t w' ⟨rfl, t3, t5, t7, t8, ⟨S, t9, hS0, hS1, hop⟩, t10, hi⟩
  by_cases hlt : i < L.length
  · have hlt' : (i : Int) < (L.length : Int) := by omega
    obtain ⟨z, hz⟩ : ∃ z, L[i]? = some z := ⟨_, List.getElem?_eq_getElem hlt⟩
    obtain ⟨b, off, sq, cc, rfl, hra⟩ := rH.at_ i hlt
    have hld := hra.int hz
    have hia := fun w => ia27 w ⟨b, off, sq⟩ L.length cc .i64 i hlt
    have hzb := small_at hsm hz
    have hw1' : IntKind.wrap .i64 (S + z) = S + z := wrap64_in (by omega) (by omega)
    have hw2' : IntKind.wrap .i64 ((i : Int) + 1) = (i : Int) + 1 := wrap64_in (by omega) (by omega)
    rw [drop_cons hz] at hop
    unfold opF at hop
    by_cases hc : r.need ≤ S + z
    · rw [if_pos hc] at hop
      simp [mc18_l0, t3, t5, t7, t8, t9, t10, hhl, hlt', hia, hld, hw1', gr2, hc, tupV]
      exact ⟨by rw [hop], hO⟩
    · rw [if_neg hc] at hop
      simp [mc18_l0, t3, t5, t7, t8, t9, t10, hhl, hlt', hia, hld, hw1', gr2, hc, hw2']
      exact ⟨by omega, ⟨by omega, by omega, hop⟩, hlt⟩
  · have hi' : i = L.length := by omega
    subst hi'
    rw [List.drop_length] at hop
    have hop' : L.length = opI L r.need := hop
    simp [mc18_l0, t3, t7, t8, t10, hhl, gs2, hdl, tupV]
    exact ⟨by rw [← hlen, hop'], hO⟩
end Go.Proofs.YtbbbgaiaigdngaaGreatDoor.walk

namespace Go.Proofs.YtbbbgaiaigdngaaGreatDoor.walk
open Go Go.Sh
set_option maxRecDepth 100000
set_option linter.unusedSimpArgs false
set_option linter.unusedVariables false
/-! VineEnds: the season with few days -/
theorem list22' : isList Tryz.prog 22 = true := by kernel_rfl
theorem elem22' : elemA Tryz.prog 22 = some 49 := by kernel_rfl
theorem size49' : szOf Tryz.prog 49 = some 4 := by kernel_rfl
theorem small49' : smallT Tryz.prog 49 = true := by kernel_rfl
def cutD (d : Day) : Day := ⟨d.wl, min d.wh (d.wl + 2), d.rl, d.rh⟩
def fewD (l : List Day) (i : Nat) : List Day := (l.take i).map cutD
theorem fewD_step {l : List Day} {i : Nat} {d : Day} (h : l[i]? = some d) : fewD l (i + 1) = fewD l i ++ [cutD d] := by
  unfold fewD
  rw [List.take_add_one, h, List.map_append]; rfl
set_option maxHeartbeats 2000000 in
theorem loop5a {ov : Ov} (m : Nat) (s : Sea) (dv cv v0 v1 v2 : Value) (l : List Day) (hday : ∀ (i : Nat) d, l[i]? = some d → dayB d = true) (n : Nat) (hn : n = min 3 l.length) (ws w0 : AW) (hO : Ol ws w0) (hv : RowsV dayC ws dv l) (ns nx : Nat) (hns : ns < ws.next) (hnx : ws.next ≤ nx) (hn0 : w0.next = nx + 1) (hl : ws.lim ≤ ws.next) (gs : ws.heap.get ns = some (.cells (seaC s dv cv) 29 false)) (gx : w0.heap.get nx = some (.cells (seaC s (.slice none 0 0) (.slice none 0 0)) 29 false))
    (Q : Ex → Tm → AW → Prop) (t : Tm) (t1 : tget t 1 = v1) (t2 : tget t 2 = v2) (t3 : tget t 3 = .pointer (some ⟨ns, 0, none⟩)) (t7 : tget t 7 = .pointer (some ⟨nx, 0, none⟩)) (t8 : tget t 8 = .int .i64 0)
    (hQ : ∀ t w vD B, Ol ws w → nx < w.next → w.heap.get nx = some (.cells (seaC s vD (.slice none 0 0)) 29 false) → AccQ dayC 49 nx w vD (fewD l n) B → tget t 1 = v1 → tget t 2 = v2 → tget t 3 = .pointer (some ⟨ns, 0, none⟩) → tget t 7 = .pointer (some ⟨nx, 0, none⟩) → Q (.exit 0) t w) : wp (exM Tryz.prog (run Tryz.prog ov m) (.loop mc5_l0) t w0) Q := by
  refine wp_rounds (fun k t w => Ol ws w ∧ nx < w.next ∧ (∃ vD B, w.heap.get nx = some (.cells (seaC s vD (.slice none 0 0)) 29 false) ∧ AccQ dayC 49 nx w vD (fewD l k) B) ∧ tget t 1 = v1 ∧ tget t 2 = v2 ∧ tget t 3 = .pointer (some ⟨ns, 0, none⟩) ∧ tget t 7 = .pointer (some ⟨nx, 0, none⟩) ∧ tget t 8 = .int .i64 (k : Nat) ∧ k ≤ n) 20 (by decide) ⟨hO, by omega, ⟨_, 0, gx, .inl ⟨by simp [fewD], rfl⟩⟩, t1, t2, t3, t7, by simpa using t8, by omega⟩ ?_
  clear t1 t2 t3 t7 t8 hO gx
  rintro k t w ⟨hO, hxw, ⟨vD, B, gx, ha⟩, t1, t2, t3, t7, t8, hk⟩
  have hnw := hO.next
  have hlm := hO.lim
  have g := hO.old ns hns
  rw [gs] at g
  simp only [seaC] at g gx
  have hl22 := len22V hv
  have hw1 : IntKind.wrap .i64 ((k : Int) + 1) = (k : Int) + 1 := wrap64_in (by omega) (by omega)
  by_cases hlt : k < n
  · have hlt' : (k : Int) < (l.length : Int) := by omega
    have hlt3 : (k : Int) < 3 := by omega
    have hkl : k < l.length := by omega
    obtain ⟨d, hd⟩ : ∃ d, l[k]? = some d := ⟨_, List.getElem?_eq_getElem hkl⟩
    have hdb := hday k d hd
    simp only [dayB, Bool.and_eq_true] at hdb
    have hsp := span_le hdb.1
    obtain ⟨b, off, sq, c, rfl, hra⟩ := (hv.old hO.old hnw).at_ k hkl
    have hld := hra.rd (m := 4) (fun _ => by simp [dayC]) hd
    have hia := fun w => ia22 w ⟨b, off, sq⟩ l.length c .i64 k hkl
    have hst := fewD_step hd
    have hw2 : IntKind.wrap .i64 (d.wl + 2) = d.wl + 2 := wrap64_in (by omega) (by omega)
    obtain ⟨w1, hw1'⟩ : ∃ w1, (⟨((w.heap.put w.next (some (.cells [.int .i64 0, .int .i64 0, .int .i64 0, .int .i64 0] 49 false))).put w.next (some (.cells (dayC d) 49 false))).put w.next (some (.cells (dayC (cutD d)) 49 false)), w.next + 1, w.lim⟩ : AW) = w1 := ⟨_, rfl⟩
    have n1 : w1.next = w.next + 1 := by rw [← hw1']
    have m1 : w1.lim = w.lim := by rw [← hw1']
    have o1 : ∀ x, x < w.next → w1.heap.get x = w.heap.get x := fun x hx => by
      rw [← hw1']
      show (((w.heap.put w.next _).put w.next _).put w.next _).get x = _
      rw [get_put, if_neg (by omega), get_put, if_neg (by omega), get_put, if_neg (by omega)]
    have g1 : w1.heap.get w.next = some (.cells (dayC (cutD d)) 49 false) := by rw [← hw1']; simp
    have gx1 : w1.heap.get nx = some (.cells [vD, .int .i64 s.base, .int .i64 s.wet, .int .i64 s.from_, .int .i64 s.grows, .int .i64 s.cut, .int .i64 s.gl, .int .i64 s.gh, .slice none 0 0] 29 false) := by rw [o1 nx hxw]; exact gx
    have ha1 := ha.keep (w' := w1) (fun _ _ h => o1 B h) (by omega)
    obtain ⟨v', w4, hap, ⟨B', hB', ha'⟩, hkp, hn4, hl4⟩ := AccQ.push (P := Tryz.prog) (st := 22) (sz := 4) list22' elem22' size49' small49' (fun _ => by simp [dayC]) (fun _ => by simp [dayC]) (by decide) ha1 (by omega) (by omega) (by unfold fewD; rw [List.length_map, List.length_take]; omega) (cutD d)
    rw [← hst] at ha'
    obtain ⟨va, vc, rfl⟩ := ha'.rows.len
    have hBl : fewD l k ≠ [] → nx < B ∧ B < w.next := fun h => ha.lt h
    have gx4 : w4.heap.get nx = some (.cells [vD, .int .i64 s.base, .int .i64 s.wet, .int .i64 s.from_, .int .i64 s.grows, .int .i64 s.cut, .int .i64 s.gl, .int .i64 s.gh, .slice none 0 0] 29 false) := by rw [hkp nx (by omega) (fun h => by have := hBl h; omega)]; exact gx1
    have z1 : ¬ nx = w.next := by omega
    have z2 : ¬ b = w.next := by have := hra.2; omega
    have z3 : ¬ ns = w.next := by omega
    have sD : ∀ w5 : AW, w5.lim ≤ w.next → wrO w5 w.next 0 (dayC d) (some (.cells [.int .i64 0, .int .i64 0, .int .i64 0, .int .i64 0] 49 false)) = some ⟨w5.heap.put w.next (some (.cells (dayC d) 49 false)), w5.next, w5.lim⟩ := fun w5 h => by rw [wrO_cells (by simp [dayC]) h (by simp [dayC])]; rfl
    have sE : ∀ w5 : AW, w5.lim ≤ w.next → wrO w5 w.next 1 [.int .i64 (min d.wh (d.wl + 2))] (some (.cells (dayC d) 49 false)) = some ⟨w5.heap.put w.next (some (.cells (dayC (cutD d)) 49 false)), w5.next, w5.lim⟩ := fun w5 h => by rw [wrO_cells (by simp) h (by simp [dayC])]; rfl
    have sX : ∀ w5 : AW, w5.lim ≤ nx → wrO w5 nx 0 [.slice va (fewD l (k + 1)).length vc] (some (.cells [vD, .int .i64 s.base, .int .i64 s.wet, .int .i64 s.from_, .int .i64 s.grows, .int .i64 s.cut, .int .i64 s.gl, .int .i64 s.gh, .slice none 0 0] 29 false)) = some ⟨w5.heap.put nx (some (.cells (seaC s (.slice va (fewD l (k + 1)).length vc) (.slice none 0 0)) 29 false)), w5.next, w5.lim⟩ := fun w5 h => by rw [wrO_cells (by simp) h (by simp)]; rfl
    have l0 : w.lim ≤ w.next := by omega
    have l4 : w4.lim ≤ nx := by omega
    simp only [dayC, cutD] at hld sD sE hw1' g1 hap
    simp only [seaC] at sX
    rw [← hw1'] at hap
    dsimp only at hap
    simp [mc5_l0, hap, gx4, sX, l4, hw1, t1, t2, t3, t7, t8, g, hl22, hlt', hlt3, hia, hld, sD, sE, l0, hw2, least2, gx, gx1, z1, z2, z3, -wrO_cells]
    refine ⟨by omega, ⟨fun x hx => ?_, by show ws.next ≤ w4.next; omega, by show w4.lim = ws.lim; omega⟩, by omega, ⟨_, rfl, B', ha'.keep (fun _ h1 h2 => by show (w4.heap.put nx _).get B' = _; rw [get_put, if_neg (by omega)]) (Nat.le_refl _)⟩, by omega⟩
    show (w4.heap.put nx _).get x = _
    rw [get_put, if_neg (by omega), hkp x (by omega) (fun h => by have := hBl h; omega), o1 x (by omega)]
    exact hO.old x hx
  · have hk' : k = n := by omega
    subst hk'
    by_cases h3 : (k : Int) < (l.length : Int)
    · have h4 : ¬ (k : Int) < 3 := by omega
      simp [mc5_l0, t1, t2, t3, t7, t8, g, hl22, h3, h4]
      exact hQ _ _ vD B hO hxw gx ha (by simp [t1]) (by simp [t2]) (by simp [t3]) (by simp [t7])
    · simp [mc5_l0, t1, t2, t3, t7, t8, g, hl22, h3]
      exact hQ _ _ vD B hO hxw gx ha (by simp [t1]) (by simp [t2]) (by simp [t3]) (by simp [t7])
end Go.Proofs.YtbbbgaiaigdngaaGreatDoor.walk

namespace Go.Proofs.YtbbbgaiaigdngaaGreatDoor.walk
open Go Go.Sh
set_option maxRecDepth 100000
set_option linter.unusedSimpArgs false
set_option linter.unusedVariables false
def fewC (c : List Int) (n i : Nat) : List Int := (c.take i).filter fun z => decide (z < (n : Int))
theorem fewC_yes {c : List Int} {n i : Nat} {z : Int} (h : c[i]? = some z) (hz : z < (n : Int)) : fewC c n (i + 1) = fewC c n i ++ [z] := by
  unfold fewC
  rw [List.take_add_one, h, List.filter_append]
  simp [hz]
theorem fewC_no {c : List Int} {n i : Nat} {z : Int} (h : c[i]? = some z) (hz : ¬ z < (n : Int)) : fewC c n (i + 1) = fewC c n i := by
  unfold fewC
  rw [List.take_add_one, h, List.filter_append]
  simp [hz]
set_option maxHeartbeats 2000000 in
theorem loop5b {ov : Ov} (m : Nat) (s : Sea) (dv cv v1 v2 : Value) (c : List Int) (hc1 : c.length ≤ 100) (ws w0 : AW) (hO : Ol ws w0) (hu : RowsV intC ws cv c) (ns nx : Nat) (hns : ns < ws.next) (hnx : ws.next ≤ nx) (hxn : nx < w0.next) (hl : ws.lim ≤ ws.next) (gs : ws.heap.get ns = some (.cells (seaC s dv cv) 29 false)) (vD : Value) (D : List Day) (B : Nat) (hD : AccQ dayC 49 nx w0 vD D B) (hDn : D ≠ []) (gx : w0.heap.get nx = some (.cells (seaC s vD (.slice none 0 0)) 29 false))
    (Q : Ex → Tm → AW → Prop) (t : Tm) (t1 : tget t 1 = v1) (t2 : tget t 2 = v2) (t3 : tget t 3 = .pointer (some ⟨ns, 0, none⟩)) (t7 : tget t 7 = .pointer (some ⟨nx, 0, none⟩)) (t10 : tget t 10 = .int .i64 0)
    (hQ : ∀ t w vC, Ol ws w → nx < w.next → w.heap.get nx = some (.cells (seaC s vD vC) 29 false) → RowsV dayC w vD D → RowsV intC w vC (fewC c D.length c.length) → tget t 1 = v1 → tget t 2 = v2 → tget t 7 = .pointer (some ⟨nx, 0, none⟩) → Q (.exit 2) t w) : wp (exM Tryz.prog (run Tryz.prog ov m) (.loop mc5_l1) t w0) Q := by
  refine wp_rounds (fun k t w => Ol ws w ∧ nx < w.next ∧ (∃ vC BC, w.heap.get nx = some (.cells (seaC s vD vC) 29 false) ∧ AccQ dayC 49 nx w vD D B ∧ AccQ intC 3 nx w vC (fewC c D.length k) BC ∧ (fewC c D.length k = [] ∨ BC ≠ B)) ∧ tget t 1 = v1 ∧ tget t 2 = v2 ∧ tget t 3 = .pointer (some ⟨ns, 0, none⟩) ∧ tget t 7 = .pointer (some ⟨nx, 0, none⟩) ∧ tget t 10 = .int .i64 (k : Nat) ∧ k ≤ c.length) 200 (by decide) ⟨hO, hxn, ⟨_, 0, gx, hD, .inl ⟨by simp [fewC], rfl⟩, .inl (by simp [fewC])⟩, t1, t2, t3, t7, by simpa using t10, by omega⟩ ?_
  clear t1 t2 t3 t7 t10 hO gx hD hxn
  rintro k t w ⟨hO, hxw, ⟨vC, BC, gx, hD, ha, hne⟩, t1, t2, t3, t7, t10, hk⟩
  have hnw := hO.next
  have hlm := hO.lim
  have g := hO.old ns hns
  rw [gs] at g
  simp only [seaC] at g gx
  have hcl := len27V hu
  have hdl := len22V hD.rows
  have hDl := hD.lt hDn
  have hw1 : IntKind.wrap .i64 ((k : Int) + 1) = (k : Int) + 1 := wrap64_in (by omega) (by omega)
  by_cases hlt : k < c.length
  · have hlt' : (k : Int) < (c.length : Int) := by omega
    obtain ⟨z, hz⟩ : ∃ z, c[k]? = some z := ⟨_, List.getElem?_eq_getElem hlt⟩
    obtain ⟨b, off, sq, cc, rfl, hra⟩ := (hu.old hO.old hnw).at_ k hlt
    have hld := hra.int hz
    have hia := fun w => ia27 w ⟨b, off, sq⟩ c.length cc .i64 k hlt
    simp only [Nat.mul_one] at hia
    have hbw : b < w.next := hra.2
    by_cases hzc : z < (D.length : Int)
    · have hst := fewC_yes hz hzc
      obtain ⟨v', w4, hap, ⟨B', hB', ha'⟩, hkp, hn4, hl4⟩ := AccQ.push (P := Tryz.prog) (st := 27) (sz := 1) isList27 elem27 sz3 small3 intC_length (fun _ => by simp [intC]) (by decide) ha (by omega) (by omega) (by
        have : (fewC c D.length k).length ≤ (c.take k).length := List.length_filter_le _ _
        rw [List.length_take] at this; omega) z
      rw [← hst] at ha'
      have hCl : fewC c D.length k ≠ [] → nx < BC ∧ BC < w.next := fun h => ha.lt h
      have hns' : fewC c D.length k ≠ [] → BC ≠ B := fun h => by rcases hne with e | e; exact absurd e h; exact e
      obtain ⟨va, vc, rfl⟩ := ha'.rows.len
      obtain ⟨ca, ccc, rfl⟩ := ha.rows.len
      have gx4 : w4.heap.get nx = w.heap.get nx := hkp nx hxw (fun h => by have := hCl h; omega)
      rw [gx] at gx4
      have z1 : ¬ nx = w.next := by omega
      have z2 : ¬ b = w.next := by omega
      have z3 : ¬ ns = w.next := by omega
      have sX : ∀ w5 : AW, w5.lim ≤ nx → wrO w5 nx 8 [.slice va (fewC c D.length (k + 1)).length vc] (some (.cells [vD, .int .i64 s.base, .int .i64 s.wet, .int .i64 s.from_, .int .i64 s.grows, .int .i64 s.cut, .int .i64 s.gl, .int .i64 s.gh, .slice ca (fewC c D.length k).length ccc] 29 false)) = some ⟨w5.heap.put nx (some (.cells (seaC s vD (.slice va (fewC c D.length (k + 1)).length vc)) 29 false)), w5.next, w5.lim⟩ := fun w5 h => by rw [wrO_cells (by simp) h (by simp)]; rfl
      have l4 : w4.lim ≤ nx := by omega
      simp only [seaC] at sX
      simp only [intC] at hap
      simp [mc5_l1, t1, t2, t3, t7, t10, g, gx, hcl, hdl, hlt', hia, hld, hzc, z1, z2, z3, hap, gx4, sX, l4, hw1, -wrO_cells]
      have kp : ∀ b', nx < b' → b' < w4.next → ((⟨w4.heap.put nx (some (.cells [vD, .int .i64 s.base, .int .i64 s.wet, .int .i64 s.from_, .int .i64 s.grows, .int .i64 s.cut, .int .i64 s.gl, .int .i64 s.gh, .slice va (fewC c D.length (k + 1)).length vc] 29 false)), w4.next, w4.lim⟩ : AW)).heap.get b' = w4.heap.get b' := fun b' h1 h2 => by
        show (w4.heap.put nx _).get b' = _
        rw [get_put, if_neg (by omega)]
      have hD4 : AccQ dayC 49 nx w4 vD D B := hD.keep (fun _ h1 h2 => hkp B h2 (fun h e => hns' h e.symm)) hn4
      refine ⟨by omega, ⟨fun x hx => ?_, by show ws.next ≤ w4.next; omega, by show w4.lim = ws.lim; omega⟩, by omega, ⟨_, rfl, hD4.keep (fun _ h1 h2 => kp B h1 h2) (Nat.le_refl _), B', ha'.keep (fun _ h1 h2 => kp B' h1 h2) (Nat.le_refl _), .inr (by omega)⟩, hlt⟩
      show (w4.heap.put nx _).get x = _
      rw [get_put, if_neg (by omega), hkp x (by omega) (fun h => by have := hCl h; omega)]
      exact hO.old x hx
    · have hst := fewC_no hz hzc
      simp [mc5_l1, t1, t2, t3, t7, t10, g, gx, hcl, hdl, hlt', hia, hld, hzc, hw1]
      exact ⟨by omega, hO, hxw, ⟨vC, rfl, hD, BC, by rw [hst]; exact ha, by rw [hst]; exact hne⟩, hlt⟩
  · have hk' : k = c.length := by omega
    subst hk'
    simp [mc5_l1, t1, t2, t3, t7, t10, g, hcl]
    exact hQ _ _ vC hO hxw gx hD.rows ha.rows (by simp [t1]) (by simp [t2]) (by simp [t7])
end Go.Proofs.YtbbbgaiaigdngaaGreatDoor.walk

namespace Go.Proofs.YtbbbgaiaigdngaaGreatDoor.walk
open Go Go.Sh
set_option maxRecDepth 100000
set_option linter.unusedSimpArgs false
set_option linter.unusedVariables false
/-- what is needed of the functions that are run as they stand -/
structure None8 (ov : Ov) : Prop where
  o8 : ∀ args w, ov 8 args w = none
  o21 : ∀ args w, ov 21 args w = none
  o31 : ∀ args w, ov 31 args w = none
  o59 : ∀ args w, ov 59 args w = none
  o60 : ∀ args w, ov 60 args w = none
  o53 : ∀ args w, ov 53 args w = none
  o78 : ∀ args w, ov 78 args w = none
  o79 : ∀ args w, ov 79 args w = none
  o29 : ∀ args w, ov 29 args w = none
  o30 : ∀ args w, ov 30 args w = none
  p20 : HasP ov 20 F20
  p51 : HasP ov 51 F51
  p52 : HasP ov 52 F52
  p77 : HasP ov 77 F77
  p15 : HasP ov 15 F15
  p6 : HasP ov 6 F6
theorem blL_at (L : List Int) (rs : List Rac) {n d : Nat} (h : d < n) : (blL L rs n)[d]? = some (cnt L rs rs.length d) := by
  unfold blL
  rw [List.getElem?_map, List.getElem?_range h]; rfl
end Go.Proofs.YtbbbgaiaigdngaaGreatDoor.walk

namespace Go.Proofs.YtbbbgaiaigdngaaGreatDoor.walk
open Go Go.Sh
set_option maxRecDepth 100000
set_option linter.unusedSimpArgs false
set_option linter.unusedVariables false
/-! VineEnds: all truths are tried -/
def hpD (s : Sea) (l : List Day) (c : List Int) (rs : List Rac) (D : Nat) (p : List Int × List Int) : Int := cnt (htL s (shL s c l.length) p.1 p.2 l.length) rs rs.length D
def opD (s : Sea) (l : List Day) (c : List Int) (r : Rac) (p : List Int × List Int) : Int := ((opI (htL s (shL s c l.length) p.1 p.2 l.length) r.need : Nat) : Int)
def stF (s : Sea) (l : List Day) (c : List Int) (rs : List Rac) (a : Int × Int) (p : List Int × List Int) : Int × Int := match rs with | r :: _ => (min a.1 (opD s l c r p), max a.2 (opD s l c r p)) | [] => a
def foF (s : Sea) (l : List Day) (c : List Int) (rs : List Rac) (o : List (List Int × List Int)) : Int × Int := o.foldl (stF s l c rs) ((l.length : Int), 0)
theorem foF_step {s : Sea} {l : List Day} {c : List Int} {rs : List Rac} {o : List (List Int × List Int)} {i : Nat} {p : List Int × List Int} (h : o[i]? = some p) : foF s l c rs (o.take (i + 1)) = stF s l c rs (foF s l c rs (o.take i)) p := by
  unfold foF
  rw [List.take_add_one, h, List.foldl_append]
  rfl
def anD (s : Sea) (l : List Day) (c : List Int) (rs : List Rac) (D : Nat) (z : Int) (o : List (List Int × List Int)) : Bool := o.any fun p => decide (hpD s l c rs D p = z)
theorem any_step {f : List Int × List Int → Bool} {o : List (List Int × List Int)} {i : Nat} {p : List Int × List Int} (h : o[i]? = some p) : (o.take (i + 1)).any f = ((o.take i).any f || f p) := by
  rw [List.take_add_one, h, List.any_append]
  simp
set_option maxHeartbeats 2000000 in
theorem loop5c {ov : Ov} (m : Nat) (ho13 : ∀ args w, ov 13 args w = none) (ho14 : ∀ args w, ov 14 args w = none) (ho18 : ∀ args w, ov 18 args w = none) (ho21 : ∀ args w, ov 21 args w = none) (ho48 : ∀ args w, ov 48 args w = none) (ho47 : ∀ args w, ov 47 args w = none) (h20 : HasP ov 20 F20) (h23 : HasP ov 23 F23) (h43 : HasP ov 43 F43) (h46 : HasP ov 46 F46) (h51 : HasP ov 51 F51) (h52 : HasP ov 52 F52) (h77 : HasP ov 77 F77)
    (s : Sea) (l : List Day) (c : List Int) (rs : List Rac) (hE : seaE s l c = 0) (hR : racB rs = true) (D : Nat) (hD : D < l.length) (lo hi : Int) (vD vC rv v13 : Value) (o : List (List Int × List Int)) (ho : ∀ p ∈ o, trB l p.1 p.2 = true) (hon : o.length ≤ 1000) (w0 : AW) (hl : w0.lim ≤ w0.next) (hv : RowsV dayC w0 vD l) (hu : RowsV intC w0 vC c) (hrs : RowsV racC w0 rv rs) (hout : OutV w0 v13 o) (nx nb : Nat) (hnx : nx < w0.next) (hnb : nb < w0.next) (gx : w0.heap.get nx = some (.cells (seaC s vD vC) 29 false)) (gb : w0.heap.get nb = some (.cells [.int .i64 lo, .int .i64 hi] 24 false))
    (Q : Ex → Tm → AW → Prop) (t : Tm) (t1 : tget t 1 = rv) (t2 : tget t 2 = .int .i64 (D : Nat)) (t7 : tget t 7 = .pointer (some ⟨nx, 0, none⟩)) (t11 : tget t 11 = .pointer (some ⟨nb, 0, none⟩)) (t13 : tget t 13 = v13) (t14 : tget t 14 = .bool false) (t15 : tget t 15 = .bool false) (t16 : tget t 16 = .int .i64 (l.length : Nat)) (t17 : tget t 17 = .int .i64 0) (t18 : tget t 18 = .int .i64 0)
    (hQ : ∀ t w, Ol w0 w → tget t 1 = rv → tget t 7 = .pointer (some ⟨nx, 0, none⟩) → tget t 14 = .bool (anD s l c rs D lo o) → tget t 15 = .bool (anD s l c rs D hi o) → tget t 16 = .int .i64 (foF s l c rs o).1 → tget t 17 = .int .i64 (foF s l c rs o).2 → Q (.exit 4) t w) : wp (exM Tryz.prog (run Tryz.prog ov (m + 4)) (.loop mc5_l2) t w0) Q := by
  obtain ⟨out, B, hout1, hgo, hmap⟩ := hout
  have hlo : out.length = o.length := by rw [← hmap, List.length_map]
  refine wp_rounds (fun i t w => Ol w0 w ∧ tget t 1 = rv ∧ tget t 2 = .int .i64 (D : Nat) ∧ tget t 7 = .pointer (some ⟨nx, 0, none⟩) ∧ tget t 11 = .pointer (some ⟨nb, 0, none⟩) ∧ tget t 13 = v13 ∧ tget t 14 = .bool (anD s l c rs D lo (o.take i)) ∧ tget t 15 = .bool (anD s l c rs D hi (o.take i)) ∧ tget t 16 = .int .i64 (foF s l c rs (o.take i)).1 ∧ tget t 17 = .int .i64 (foF s l c rs (o.take i)).2 ∧ tget t 18 = .int .i64 (i : Nat) ∧ i ≤ o.length) 2000 (by decide) ⟨Ol.refl _, t1, t2, t7, t11, t13, by simpa [anD] using t14, by simpa [anD] using t15, by simpa [foF] using t16, by simpa [foF] using t17, by simpa using t18, by omega⟩ ?_
  clear t1 t2 t7 t11 t13 t14 t15 t16 t17 t18
  rintro i t w ⟨hO, t1, t2, t7, t11, t13, t14, t15, t16, t17, t18, hi'⟩
  have hnw := hO.next
  have hlm := hO.lim
  have h13l := len51V hout1
  rw [hlo] at h13l
  have hw1 : IntKind.wrap .i64 ((i : Int) + 1) = (i : Int) + 1 := wrap64_in (by omega) (by omega)
  by_cases hlt : i < o.length
  · have hlt' : (i : Int) < (o.length : Int) := by omega
    obtain ⟨y, hy⟩ : ∃ y, out[i]? = some y := ⟨_, List.getElem?_eq_getElem (by omega)⟩
    have hp : o[i]? = some (y.W, y.R) := by rw [← hmap, List.getElem?_map, hy]; rfl
    have hT := ho _ (List.mem_of_getElem? hp)
    simp only at hT
    have hgy := hgo y (List.mem_of_getElem? hy)
    have hbE : blE s l c y.W y.R rs = 0 := by unfold blE bothE; rw [if_pos hE, if_pos hR, if_pos rfl, if_pos hT]
    have hbV : blV s l c y.W y.R rs = blL (htL s (shL s c l.length) y.W y.R l.length) rs l.length := by unfold blV bothE; rw [if_pos hE, if_pos hR]; rw [if_pos ⟨rfl, hT⟩]
    obtain ⟨_, w2, c13, v19, rfl, r19, o2, n2, l2⟩ := call13 (ov := ov) (m + 1) ho13 ho21 ho48 ho47 h20 h46 h23 h51 h52 h77 s l c y.W y.R rs vD vC y.wv y.rv rv w (by omega) (hv.old hO.old hnw) (hu.old hO.old hnw) (hgy.1.rows.old hO.old hnw) (hgy.2.rows.old hO.old hnw) (hrs.old hO.old hnw)
    rw [hbE] at c13
    rw [hbV] at r19
    have hO2 : Ol w0 w2 := ⟨fun x hx => by rw [o2 x (by omega)]; exact hO.old x hx, by omega, by omega⟩
    have g := hO.old nx hnx
    rw [gx] at g
    have g2 := hO2.old nx hnx
    rw [gx] at g2
    have gb2 := hO2.old nb hnb
    rw [gb] at gb2
    have h19l := fun w => len27V r19 w
    simp only [blL_length] at h19l
    have hdl := len22V hv
    obtain ⟨b, off, sq, cc, e13, hra⟩ := (hout1.old hO.old hnw).at_ i (by omega)
    have hld := hra.rd wrC_length hy
    have hbw := hra.2
    have hld2 : rdO (w2.heap.get b) (off + i * 2) 2 = some (wrC y) := by rw [o2 b hbw]; exact hld
    have hia := fun w => ia51 w ⟨b, off, sq⟩ out.length cc .i64 i (by omega)
    obtain ⟨b9, o9, s9, c9, rfl, hr9⟩ := r19.at_ D (by rw [blL_length]; exact hD)
    have h9 := hr9.int (blL_at (htL s (shL s c l.length) y.W y.R l.length) rs hD)
    have ia9 := fun w => ia27 w ⟨b9, o9, s9⟩ (blL (htL s (shL s c l.length) y.W y.R l.length) rs l.length).length c9 .i64 D (by rw [blL_length]; exact hD)
    simp only [Nat.mul_one] at ia9
    have st := foF_step (s := s) (l := l) (c := c) (rs := rs) hp
    have sa : anD s l c rs D lo (o.take (i + 1)) = (anD s l c rs D lo (o.take i) || decide (hpD s l c rs D (y.W, y.R) = lo)) := any_step hp
    have sb : anD s l c rs D hi (o.take (i + 1)) = (anD s l c rs D hi (o.take i) || decide (hpD s l c rs D (y.W, y.R) = hi)) := any_step hp
    obtain ⟨H, hH⟩ : ∃ H, H = hpD s l c rs D (y.W, y.R) := ⟨_, rfl⟩
    rw [← hH] at sa sb
    have hH' : cnt (htL s (shL s c l.length) y.W y.R l.length) rs rs.length D = H := hH.symm
    rw [hH'] at h9
    obtain ⟨fl, hfl⟩ : ∃ b, b = anD s l c rs D lo (o.take i) := ⟨_, rfl⟩
    obtain ⟨fh, hfh⟩ : ∃ b, b = anD s l c rs D hi (o.take i) := ⟨_, rfl⟩
    rw [← hfl] at t14 sa
    rw [← hfh] at t15 sb
    obtain ⟨F, hF⟩ : ∃ F, F = foF s l c rs (o.take i) := ⟨_, rfl⟩
    rw [← hF] at t16 t17 st
    obtain ⟨F1, F2⟩ := F
    rw [e13] at t13 h13l
    simp only [wrC] at hld hld2
    simp only [seaC] at g g2 c13
    have hlr := fun w => len30V hrs w
    cases rs with
    | nil =>
      have q1 : (foF s l c [] (o.take (i + 1))).1 = F1 := by rw [st]; rfl
      have q2 : (foF s l c [] (o.take (i + 1))).2 = F2 := by rw [st]; rfl
      cases fl <;> cases fh <;> simp [mc5_l2, t1, t2, t7, t11, t13, t14, t15, t16, t17, t18, h13l, hlt', g, hia, hld, c13, h19l, g2, hdl, ia9, h9, gb2, hlr, hw1, sa, sb, q1, q2]
      all_goals exact ⟨by omega, hO2, e13.symm, hlt⟩
    | cons r rs' =>
      obtain ⟨_, w3, c18, rfl, hO3⟩ := call18 (ov := ov) m ho18 ho14 ho21 ho48 h43 h46 h51 h52 h77 s l c y.W y.R hE hT r vD vC y.wv y.rv w2 (by omega) (hv.old hO2.old (by omega)) (hu.old hO2.old (by omega)) (hgy.1.rows.old hO2.old (by omega)) (hgy.2.rows.old hO2.old (by omega))
      obtain ⟨br, or', sr, cr, er, hrr⟩ := (hrs.old hO2.old (by omega)).at_ 0 (by simp)
      have ldr := hrr.rd racC_length (i := 0) (a := r) rfl
      simp only [Nat.zero_mul, Nat.add_zero] at ldr
      have iar : ∀ w : AW, indexAddrA Tryz.prog w 30 rv (.int .i64 0) = .val (.pointer (some ⟨br, or', sr⟩)) w := fun w => by
        rw [er]
        exact ia30 w ⟨br, or', sr⟩ (r :: rs').length cr .i64 0 (by simp)
      have q1 : (foF s l c (r :: rs') (o.take (i + 1))).1 = min F1 (opD s l c r (y.W, y.R)) := by rw [st]; rfl
      have q2 : (foF s l c (r :: rs') (o.take (i + 1))).2 = max F2 (opD s l c r (y.W, y.R)) := by rw [st]; rfl
      have eo : ((opI (htL s (shL s c l.length) y.W y.R l.length) r.need : Nat) : Int) = opD s l c r (y.W, y.R) := rfl
      rw [eo] at c18
      simp only [seaC] at c18
      obtain ⟨nr, hnr⟩ : ∃ nr, nr = (r :: rs').length := ⟨_, rfl⟩
      rw [← hnr] at hlr
      have hnp : 0 < nr := by rw [hnr]; simp
      simp only [racC] at ldr c18
      have hO3' : Ol w0 w3 := ⟨fun x hx => by rw [hO3.old x (by omega)]; exact hO2.old x hx, by have := hO3.next; omega, by have := hO3.lim; omega⟩
      cases fl <;> cases fh <;> simp [mc5_l2, t1, t2, t7, t11, t13, t14, t15, t16, t17, t18, h13l, hlt', g, hia, hld, hld2, c13, h19l, g2, hdl, ia9, h9, gb2, hlr, hw1, sa, sb, q1, q2, iar, ldr, c18, least2, most2, hnp]
      all_goals exact ⟨by omega, hO3', e13.symm, hlt⟩
  · have hi2 : i = o.length := by omega
    subst hi2
    rw [List.take_length] at t14 t15 t16 t17
    simp [mc5_l2, t13, t18, h13l]
    exact hQ _ _ hO (by simp [t1]) (by simp [t7]) (by simp [t14]) (by simp [t15]) (by simp [t16]) (by simp [t17])
end Go.Proofs.YtbbbgaiaigdngaaGreatDoor.walk
