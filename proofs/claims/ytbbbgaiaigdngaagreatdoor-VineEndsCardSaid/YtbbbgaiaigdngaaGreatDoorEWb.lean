/- Part of a proof by a machine of ones own: see the text with the theorem. -/
import Derived.Test.YtbbbgaiaigdngaaGreatDoorEWa
namespace Go.Proofs.YtbbbgaiaigdngaaGreatDoor.walk
open Go Go.Sh
set_option maxRecDepth 100000
set_option linter.unusedSimpArgs false
set_option linter.unusedVariables false
/-! a day of a morning -/
structure Io (mc : List Value) (i n mb : Nat) (gp : Ga) (we w0 : AW) (g : Ga) (w : AW) : Prop where
  mor : w.heap.get n = some (.cells mc 69 false)
  day : w.heap.get (n + 1) = some (.cells [.int .i64 (i : Nat)] 3 false)
  bef : w.heap.get (n + 2) = some (.cells (talC gp) 105 false)
  mp : w.heap.get (n + 3) = some (.cells [.map (some mb)] 103 false)
  res : w.heap.get (n + 4) = some (.cells (talC fun _ => none) 105 false)
  aft : w.heap.get (n + 5) = some (.cells (talC g) 105 false)
  map : MapR mb i gp g w
  keep : ∀ x, x < n → x ≠ mb → w.heap.get x = w0.heap.get x
  ord : 0 < we.next ∧ we.next ≤ mb ∧ mb < n ∧ n + 5 < w.next ∧ w.lim ≤ mb
  lim : w.lim = w0.lim
theorem Io.up {mc : List Value} {i n mb : Nat} {gp : Ga} {we w0 : AW} {g : Ga} {w w' : AW} (h : Io mc i n mb gp we w0 g w) (k : ∀ x, x < n + 6 → w'.heap.get x = w.heap.get x) (hn : n + 5 < w'.next) (hl : w'.lim = w.lim) : Io mc i n mb gp we w0 g w' := by
  obtain ⟨o1, o2, o3, o4, o5⟩ := h.ord
  exact ⟨by rw [k _ (by omega)]; exact h.mor, by rw [k _ (by omega)]; exact h.day, by rw [k _ (by omega)]; exact h.bef, by rw [k _ (by omega)]; exact h.mp, by rw [k _ (by omega)]; exact h.res, by rw [k _ (by omega)]; exact h.aft, h.map.mv (k _ (by omega)), fun x h1 h2 => by rw [k x (by omega), h.keep x h1 h2], ⟨o1, o2, o3, by omega, by omega⟩, by rw [hl]; exact h.lim⟩
def heatsN (s : Sea) (d : Day) (z : Int) : List Nat := (hsL s d z).map Int.toNat
theorem fold_E (bt : Bool) (b : Int) (rs : List Rac) (D i u : Nat) (l : List Int) (g : Ga) : l.foldl (stE bt b rs D i u) g = foldU bt b (adI rs D i u) u (l.map Int.toNat) g := by
  unfold foldU
  rw [List.foldl_map]
  rfl
set_option maxHeartbeats 4000000 in
theorem loop59 {ov : Ov} (m : Nat) (ho53 : ∀ args w, ov 53 args w = none) (ho78 : ∀ args w, ov 78 args w = none) (h77 : HasP ov 77 F77) (ho79 : ∀ args w, ov 79 args w = none) (ho29 : ∀ args w, ov 29 args w = none) (ho30 : ∀ args w, ov 30 args w = none) (s : Sea) (dv cv sv rv : Value) (bt : Bool) (l : List Day) (h40 : l.length ≤ 40) (S : List Int) (rs : List Rac) (hr : racB rs = true) (D i : Nat) (hi : i ≤ 39) (d : Day) (z : Int) (hdi : l[i]? = some d) (hz : S[i]? = some z) (hok : ∀ a, d.wl ≤ a → a ≤ d.wh → heatB s a z = true) (hd : dayB d = true) (gp : Ga) (hgp : ∀ u b, gp u = some b → 0 ≤ b ∧ b ≤ 1000) (we w0 : AW) (hv : RowsV dayC we dv l) (hS : RowsV intC we sv S) (hrs : RowsV racC we rv rs) (ro : Bool) (gS : we.heap.get 0 = some (.cells [.int .i64 (-1), .int .i64 0] 102 ro)) (hold0 : ∀ x, x < we.next → w0.heap.get x = we.heap.get x) (n mb : Nat)
    (Q : Ex → Tm → AW → Prop) (t : Tm) (w : AW) (hI : Io (morC s dv cv sv rv D bt) i n mb gp we w0 (fun _ => none) w)
    (t4 : tget t 4 = .pointer (some ⟨n, 0, none⟩)) (t5 : tget t 5 = .pointer (some ⟨n + 1, 0, none⟩)) (t6 : tget t 6 = .pointer (some ⟨n + 2, 0, none⟩)) (t7 : tget t 7 = .pointer (some ⟨n + 3, 0, none⟩)) (t8 : tget t 8 = .pointer (some ⟨n + 4, 0, none⟩)) (t9 : tget t 9 = .pointer (some ⟨n + 5, 0, none⟩)) (t17 : tget t 17 = .int .i64 (50 * i + 1 : Nat)) (t18 : tget t 18 = .int .i64 0)
    (hQ : ∀ t w, Io (morC s dv cv sv rv D bt) i n mb gp we w0 (dayG bt (adI rs D i) (heatsN s d z) gp (50 * i + 1)) w → tget t 8 = .pointer (some ⟨n + 4, 0, none⟩) → tget t 9 = .pointer (some ⟨n + 5, 0, none⟩) → Q (.exit 0) t w) :
    wp (exY Tryz.prog (run Tryz.prog ov (m + 4)) (.loop mc59_l0) t w) Q := by
  refine wp_roundsY (fun u t w => Io (morC s dv cv sv rv D bt) i n mb gp we w0 (dayG bt (adI rs D i) (heatsN s d z) gp u) w ∧ tget t 4 = .pointer (some ⟨n, 0, none⟩) ∧ tget t 5 = .pointer (some ⟨n + 1, 0, none⟩) ∧ tget t 6 = .pointer (some ⟨n + 2, 0, none⟩) ∧ tget t 7 = .pointer (some ⟨n + 3, 0, none⟩) ∧ tget t 8 = .pointer (some ⟨n + 4, 0, none⟩) ∧ tget t 9 = .pointer (some ⟨n + 5, 0, none⟩) ∧ tget t 17 = .int .i64 (50 * i + 1 : Nat) ∧ tget t 18 = .int .i64 (u : Nat) ∧ u ≤ 50 * i + 1) 3000 (by decide) ⟨hI, t4, t5, t6, t7, t8, t9, t17, by simpa using t18, Nat.zero_le _⟩ ?_
  clear t4 t5 t6 t7 t8 t9 t17 t18 hI
  rintro u t w ⟨hI, t4, t5, t6, t7, t8, t9, t17, t18, hu⟩
  by_cases hlt : u < 50 * i + 1
  · obtain ⟨o1, o2, o3, o4, o5⟩ := hI.ord
    have hlm := hI.lim
    have lw : w.lim ≤ w.next := by omega
    have lw1 : w.lim ≤ w.next + 1 := by omega
    have g4 := hI.mor
    have g5 := hI.day
    have g7 := hI.mp
    have hlt' : ((u : Nat) : Int) < 50 * (i : Int) + 1 := by omega
    have hle' : ((u : Nat) : Int) ≤ 50 * (i : Int) := by omega
    have hw1 : IntKind.wrap .i64 ((u : Int) + 1) = (u : Int) + 1 := wrap64_in (by omega) (by omega)
    have hw2 : IntKind.wrap .i64 ((i : Int) - 1) = (i : Int) - 1 := wrap64_in (by omega) (by omega)
    have e0 : ¬ n = w.next := by omega
    have e1 : ¬ n + 1 = w.next := by omega
    have e3 : ¬ n + 3 = w.next := by omega
    have e0' : ¬ n = w.next + 1 := by omega
    have e1' : ¬ n + 1 = w.next + 1 := by omega
    have e1'' : ¬ n = w.next := by omega
    have e3' : ¬ n + 3 = w.next + 1 := by omega
    obtain ⟨wA, ewA⟩ : ∃ wA : AW, wA = ⟨(((w.heap.put w.next (some (.cells [.int .i64 0] 3 false))).put w.next (some (.cells [.int .i64 (u : Nat)] 3 false))).put (w.next + 1) (some (.cells [.int .i64 0, .int .i64 0] 102 false))).put (w.next + 1) (some (.cells [.int .i64 ((i : Int) - 1), .int .i64 (u : Nat)] 102 false)), w.next + 1 + 1, w.lim⟩ := ⟨_, rfl⟩
    have kA : ∀ x, x < w.next → wA.heap.get x = w.heap.get x := fun x hx => by rw [ewA]; simp [show ¬ x = w.next by omega, show ¬ x = w.next + 1 by omega]
    have nA : wA.next = w.next + 2 := by rw [ewA]
    have lA : wA.lim = w.lim := by rw [ewA]
    have IA : Io (morC s dv cv sv rv D bt) i n mb gp we w0 (dayG bt (adI rs D i) (heatsN s d z) gp u) wA := hI.up (fun x hx => kA x (by omega)) (by omega) lA
    have lk := IA.map.lookP u (a := (i : Int) - 1) rfl
    cases hgu : gp u with
    | none =>
      rw [hgu] at lk
      simp only [Option.isSome_none] at lk
      have eD : dayG bt (adI rs D i) (heatsN s d z) gp (u + 1) = dayG bt (adI rs D i) (heatsN s d z) gp u := by rw [dayG, hgu]
      rw [ewA] at lk IA
      simp only [morC, yearC, List.cons_append, List.nil_append] at g4
      simp [mc59_l0, t4, t5, t6, t7, t8, t9, t17, t18, hlt', hle', g4, g5, g7, lw, lw1, e0, e1, e3, e0', e1', e3', hw1, hw2, lk]
      rw [eD]
      exact ⟨by omega, IA, by omega⟩
    | some b =>
      rw [hgu] at lk
      simp only [Option.isSome_some] at lk
      have hb := hgp u b hgu
      have eD : dayG bt (adI rs D i) (heatsN s d z) gp (u + 1) = foldU bt b (adI rs D i u) u (heatsN s d z) (dayG bt (adI rs D i) (heatsN s d z) gp u) := by rw [dayG, hgu]
      obtain ⟨_, _, c53, rfl, rfl⟩ := call53 (ov := ov) (m + 3) ho53 (yearC s dv cv sv) rfl i wA
      rw [nA] at c53
      obtain ⟨H, hH⟩ : ∃ H, H = (wA.heap.put (w.next + 2) (some (.cells (yearC s dv cv sv) 58 false))).put (w.next + 2 + 1) (some (.cells [.int .i64 (i : Nat)] 3 false)) := ⟨_, rfl⟩
      have kH : ∀ x, x < w.next + 2 → H.get x = wA.heap.get x := fun x hx => by rw [hH]; simp [show ¬ x = w.next + 2 by omega, show ¬ x = w.next + 2 + 1 by omega]
      have gy : H.get (w.next + 2) = some (.cells (yearC s dv cv sv) 58 false) := by rw [hH]; simp
      have gi : H.get (w.next + 3) = some (.cells [.int .i64 (i : Nat)] 3 false) := by rw [hH]; simp
      rw [← hH] at c53
      rw [ewA] at lk c53
      simp only [morC, yearC, List.cons_append, List.nil_append, Nat.add_assoc, Nat.reduceAdd] at g4 c53 lk
      simp [mc59_l0, t4, t5, t6, t7, t8, t9, t17, t18, hlt', hle', g4, g5, g7, lw, lw1, e0, e1, e3, e0', e1', e3', hw1, hw2, lk, c53]
      refine wp_seqX (wp_blockX (wp_blockX (rf_wp (g := 78) (gargs := [.func (.yield (w.next + 4)) ⟨[]⟩ ⟨[]⟩, .pointer (some ⟨w.next + 2, 0, none⟩), .pointer (some ⟨w.next + 3, 0, none⟩)]) ?_ ?_)))
      · simp [callV_func]
      · generalize hTT : tset _ 32 _ = TT
        have u4 : tget TT 4 = .pointer (some ⟨n, 0, none⟩) := by rw [← hTT]; simp [t4]
        have u5 : tget TT 5 = .pointer (some ⟨n + 1, 0, none⟩) := by rw [← hTT]; simp [t5]
        have u6 : tget TT 6 = .pointer (some ⟨n + 2, 0, none⟩) := by rw [← hTT]; simp [t6]
        have u7 : tget TT 7 = .pointer (some ⟨n + 3, 0, none⟩) := by rw [← hTT]; simp [t7]
        have u8 : tget TT 8 = .pointer (some ⟨n + 4, 0, none⟩) := by rw [← hTT]; simp [t8]
        have u9 : tget TT 9 = .pointer (some ⟨n + 5, 0, none⟩) := by rw [← hTT]; simp [t9]
        have u10 : tget TT 10 = .pointer (some ⟨w.next, 0, none⟩) := by rw [← hTT]; simp
        have u11 : tget TT 11 = .pointer (some ⟨w.next + 1, 0, none⟩) := by rw [← hTT]; simp
        have u17 : tget TT 17 = .int .i64 (50 * i + 1 : Nat) := by rw [← hTT]; simp [t17]
        have u18 : tget TT 18 = .int .i64 (u : Nat) := by rw [← hTT]; simp [t18]
        clear hTT
        have hst := steps59 (ov := ov) m ho79 ho29 ho30 s dv cv sv rv bt rs hr D i u ((i : Int) - 1) rfl hi (fun h => by subst h; omega) (by omega) b gp hgu hb ⟨mb, n, n + 1, n + 2, n + 3, n + 5, w.next, w.next + 1, w.next + 4⟩ we hrs ro gS TT u4 u5 u6 u7 u9 u10 u11
        obtain ⟨lp, hlp⟩ : ∃ lp : ALoop, lp = ⟨69, TT, [33], (rfOf Tryz.prog 59 0).1, (rfOf Tryz.prog 59 0).2, none, .ready⟩ := ⟨_, rfl⟩
        rw [← hlp] at hst ⊢
        obtain ⟨wL, ewL⟩ : ∃ wL : AW, wL = ⟨H.put (w.next + 4) (some (.loop lp)), w.next + 4 + 1, w.lim⟩ := ⟨_, rfl⟩
        rw [← ewL]
        have kL : ∀ x, x < w.next + 4 → wL.heap.get x = H.get x := fun x hx => by rw [ewL]; simp [show ¬ x = w.next + 4 by omega]
        have nL : wL.next = w.next + 5 := by rw [ewL]
        have lL : wL.lim = w.lim := by rw [ewL]
        have kLA : ∀ x, x < w.next + 2 → wL.heap.get x = wA.heap.get x := fun x hx => by rw [kL x (by omega), kH x hx]
        have g10 : wL.heap.get w.next = some (.cells [.int .i64 (u : Nat)] 3 false) := by rw [kLA _ (by omega), ewA]; simp
        have g11 : wL.heap.get (w.next + 1) = some (.cells [.int .i64 ((i : Int) - 1), .int .i64 (u : Nat)] 102 false) := by rw [kLA _ (by omega), ewA]; simp
        have IL : Io (morC s dv cv sv rv D bt) i n mb gp we w0 (dayG bt (adI rs D i) (heatsN s d z) gp u) wL := IA.up (fun x hx => kLA x (by omega)) (by omega) (by omega)
        have oldL : ∀ x, x < we.next → wL.heap.get x = we.heap.get x := fun x hx => by rw [IL.keep x (by omega) (by omega), hold0 x hx]
        have hJ0 : Jn (morC s dv cv sv rv D bt) i u ((i : Int) - 1) ⟨mb, n, n + 1, n + 2, n + 3, n + 5, w.next, w.next + 1, w.next + 4⟩ gp lp we (dayG bt (adI rs D i) (heatsN s d z) gp u) wL := by
          refine ⟨⟨IL.mor, IL.day, IL.bef, IL.mp, IL.aft, g10, g11, IL.map, oldL, ?_⟩, ?_, by omega⟩
          · show 0 < we.next ∧ we.next ≤ mb ∧ mb < n ∧ n < n + 1 ∧ n + 1 < n + 2 ∧ n + 2 < n + 3 ∧ n + 3 < n + 5 ∧ n + 5 < w.next ∧ w.next < w.next + 1 ∧ w.next + 1 < w.next + 4 ∧ w.next + 4 < wL.next ∧ wL.lim ≤ mb
            omega
          · show wL.heap.get (w.next + 4) = _
            rw [ewL]; simp
        obtain ⟨v, w2, hc, hJ2, hk2, hn2, hl2⟩ := call78 (m + 2) ho78 h77 (stE bt b rs D i u) _ (fun x => x = n + 5 ∨ x = mb ∨ x = w.next + 4) (w.next + 4) hst s dv cv sv l h40 S i d z hdi hz hok hd we wL (by omega) hv hS (by omega) (fun x hx => by omega) oldL (fun st w w' h k hn hl => h.stay st w w' k hn hl) (w.next + 2) (w.next + 3) (by omega) (by omega) (by omega) (by omega) (by rw [kL _ (by omega)]; exact gy) (by rw [kL _ (by omega)]; exact gi) (dayG bt (adI rs D i) (heatsN s d z) gp u) hJ0
        rw [fold_E] at hJ2
        have hlo : w2.heap.get (w.next + 4) = some (.loop lp) := hJ2.lo
        refine ⟨v, w2, hc, lp, hlo, by rw [hlp]; rfl, by show w2.lim ≤ w.next + 4; omega, ?_⟩
        have hI2 : Io (morC s dv cv sv rv D bt) i n mb gp we w0 (foldU bt b (adI rs D i u) u (heatsN s d z) (dayG bt (adI rs D i) (heatsN s d z) gp u)) w2 := by
          have J := hJ2.jb
          refine ⟨J.mor, J.day, J.bef, J.mp, ?_, J.aft, J.map, fun x h1 h2 => ?_, ⟨o1, o2, o3, by omega, by omega⟩, by omega⟩
          · rw [hk2 _ (by omega) (by omega)]; exact IL.res
          · rw [hk2 x (by omega) (by omega)]; exact IL.keep x h1 h2
        have hI3 : Io (morC s dv cv sv rv D bt) i n mb gp we w0 (foldU bt b (adI rs D i u) u (heatsN s d z) (dayG bt (adI rs D i) (heatsN s d z) gp u)) ⟨w2.heap.put (w.next + 4) (some (.loop ⟨lp.n, lp.tmps, lp.params, lp.assign, lp.body, lp.pending, .exhausted⟩)), w2.next, w2.lim⟩ := hI2.up (fun x hx => by show (w2.heap.put _ _).get x = _; rw [get_put, if_neg (by omega)]) (by show n + 5 < w2.next; omega) rfl
        rw [← eD] at hI3
        have hpd : lp.pending = none := by rw [hlp]
        rw [hpd] at hI3 ⊢
        simp [u4, u5, u6, u7, u8, u9, u17, u18, hw1]
        exact ⟨by omega, hI3, by omega⟩
  · have hu' : u = 50 * i + 1 := by omega
    subst hu'
    simp [mc59_l0, t17, t18]
    exact hQ _ _ hI (by simp [t8]) (by simp [t9])
end Go.Proofs.YtbbbgaiaigdngaaGreatDoor.walk

namespace Go.Proofs.YtbbbgaiaigdngaaGreatDoor.walk
open Go Go.Sh
set_option maxRecDepth 100000
set_option linter.unusedSimpArgs false
set_option linter.unusedVariables false
theorem talC_drop (g : Ga) : (talC g).drop 2001 = [] := List.drop_eq_nil_of_le (by rw [talC_len]; omega)
theorem talC_take (g : Ga) : (talC g).take 2001 = talC g := List.take_of_length_le (by rw [talC_len]; omega)
theorem al105' (w : AW) : allocA Tryz.prog w 105 = .val (.pointer (some ⟨w.next, 0, none⟩)) ⟨w.heap.put w.next (some (.cells (talC fun _ => none) 105 false)), w.next + 1, w.lim⟩ := by
  rw [al105, talC_none]
theorem bd105' (w : AW) : buildA Tryz.prog w 105 [] = .val (.agg ⟨talC fun _ => none⟩) w := by
  rw [bd105, talC_none]
set_option maxHeartbeats 4000000 in
theorem call59 {ov : Ov} (m : Nat) (ho : ∀ args w, ov 59 args w = none) (ho53 : ∀ args w, ov 53 args w = none) (ho78 : ∀ args w, ov 78 args w = none) (h77 : HasP ov 77 F77) (ho79 : ∀ args w, ov 79 args w = none) (ho29 : ∀ args w, ov 29 args w = none) (ho30 : ∀ args w, ov 30 args w = none) (s : Sea) (dv cv sv rv : Value) (bt : Bool) (l : List Day) (h40 : l.length ≤ 40) (S : List Int) (rs : List Rac) (hr : racB rs = true) (D i : Nat) (hi : i ≤ 39) (d : Day) (z : Int) (hdi : l[i]? = some d) (hz : S[i]? = some z) (hok : ∀ a, d.wl ≤ a → a ≤ d.wh → heatB s a z = true) (hd : dayB d = true) (gp : Ga) (hgp : ∀ u b, gp u = some b → 0 ≤ b ∧ b ≤ 1000) (we w : AW) (hv : RowsV dayC we dv l) (hS : RowsV intC we sv S) (hrs : RowsV racC we rv rs) (ro : Bool) (gS : we.heap.get 0 = some (.cells [.int .i64 (-1), .int .i64 0] 102 ro)) (hold0 : ∀ x, x < we.next → w.heap.get x = we.heap.get x) (mb : Nat) (hmb : 0 < we.next ∧ we.next ≤ mb ∧ mb < w.next ∧ w.lim ≤ mb) (hM : MapR mb i gp (fun _ => none) w) :
    ∃ x w', (run Tryz.prog ov (m + 5)).call 59 [.agg ⟨morC s dv cv sv rv D bt⟩, .int .i64 (i : Nat), .agg ⟨talC gp⟩, .map (some mb)] w .none = .ok (.ret x) w' .none ∧ x = .agg ⟨talC (dayG bt (adI rs D i) (heatsN s d z) gp (50 * i + 1))⟩ ∧ MapR mb i gp (dayG bt (adI rs D i) (heatsN s d z) gp (50 * i + 1)) w' ∧ (∀ x, x < w.next → x ≠ mb → w'.heap.get x = w.heap.get x) ∧ w.next ≤ w'.next ∧ w'.lim = w.lim := by
  refine call_wpY text59 (by simp) (ho _ _) ?_
  have hw1 : IntKind.wrap .i64 ((i : Int) * 50) = (i : Int) * 50 := wrap64_in (by omega) (by omega)
  have hw2 : IntKind.wrap .i64 ((i : Int) * 50 + 1) = (i : Int) * 50 + 1 := wrap64_in (by omega) (by omega)
  obtain ⟨w1, ew1⟩ : ∃ w1 : AW, w1 = ⟨(((((w.heap.put w.next (some (.cells (morC s dv cv sv rv D bt) 69 false))).put (w.next + 1) (some (.cells [.int .i64 (i : Nat)] 3 false))).put (w.next + 2) (some (.cells (talC gp) 105 false))).put (w.next + 3) (some (.cells [.map (some mb)] 103 false))).put (w.next + 4) (some (.cells (talC fun _ => none) 105 false))).put (w.next + 5) (some (.cells (talC fun _ => none) 105 false)), w.next + 6, w.lim⟩ := ⟨_, rfl⟩
  have k1 : ∀ x, x < w.next → w1.heap.get x = w.heap.get x := fun x hx => by
    rw [ew1]; simp [show ¬ x = w.next by omega, show ¬ x = w.next + 1 by omega, show ¬ x = w.next + 2 by omega, show ¬ x = w.next + 3 by omega, show ¬ x = w.next + 4 by omega, show ¬ x = w.next + 5 by omega]
  have n1 : w1.next = w.next + 6 := by rw [ew1]
  have l1 : w1.lim = w.lim := by rw [ew1]
  have I1 : Io (morC s dv cv sv rv D bt) i w.next mb gp we w (fun _ => none) w1 := by
    refine ⟨?_, ?_, ?_, ?_, ?_, ?_, hM.mv (k1 _ (by omega)), fun x h1 h2 => k1 x h1, ⟨by omega, by omega, by omega, by omega, by omega⟩, l1⟩ <;> rw [ew1] <;> simp
  have key := fun Q t => loop59 (ov := ov) m ho53 ho78 h77 ho79 ho29 ho30 s dv cv sv rv bt l h40 S rs hr D i hi d z hdi hz hok hd gp hgp we w hv hS hrs ro gS hold0 w.next mb Q t w1 I1
  rw [ew1] at key
  simp only [morC, yearC, List.cons_append, List.nil_append, Nat.add_assoc, Nat.reduceAdd] at key
  simp [mc59, morC, yearC, cellsOf_agg, al105', hw1, hw2, -al105, -List.reduceReplicate]
  refine wp_seqX (wp_blockX (key _ _ ?_ ?_ ?_ ?_ ?_ ?_ ?_ ?_ ?_))
  case _ => simp
  case _ => simp
  case _ => simp
  case _ => simp
  case _ => simp
  case _ => simp
  case _ => simp; omega
  case _ => simp
  case _ =>
    intro t w2 hI t8 t9
    obtain ⟨o1, o2, o3, o4, o5⟩ := hI.ord
    have g8 := hI.res
    have g9 := hI.aft
    have hl := hI.lim
    have lw : w2.lim ≤ w.next + 4 := by omega
    have hmr : ∀ w3 : AW, w3.heap.get mb = w2.heap.get mb → MapR mb i gp (dayG bt (adI rs D i) (heatsN s d z) gp (50 * i + 1)) w3 := fun w3 h => hI.map.mv h
    have q := talC_singles (dayG bt (adI rs D i) (heatsN s d z) gp (50 * i + 1))
    have q2 := talC_len (dayG bt (adI rs D i) (heatsN s d z) gp (50 * i + 1))
    have q3 := talC_take (dayG bt (adI rs D i) (heatsN s d z) gp (50 * i + 1))
    have q5 := talC_drop fun _ => none
    have q6 := talC_len fun _ => none
    simp [t8, t9, g8, g9, q, q2, q3, q5, q6, lw, tupV]
    exact ⟨hmr _ (by simp [show ¬ mb = w.next + 4 by omega]), fun x hx hne => by simp [show ¬ x = w.next + 4 by omega]; exact hI.keep x hx hne, by omega, hl⟩
end Go.Proofs.YtbbbgaiaigdngaaGreatDoor.walk

namespace Go.Proofs.YtbbbgaiaigdngaaGreatDoor.walk
open Go Go.Sh
set_option maxRecDepth 100000
set_option linter.unusedSimpArgs false
set_option linter.unusedVariables false
/-! the best number of a morning -/
theorem same_ints : ∀ (n : Nat) (xs ys : List Int), xs.length = n → ys.length = n → sameL (List.replicate n 0) (xs.map fun z => Value.int .i64 z) (ys.map fun z => Value.int .i64 z) = some (decide (xs = ys))
  | 0, [], [], _, _ => rfl
  | n + 1, x :: xs, y :: ys, h1, h2 => by
    rw [List.replicate_succ]
    show (match same1 0 (.int .i64 x) (.int .i64 y) with | some b => bif b then sameL (List.replicate n 0) (xs.map _) (ys.map _) else some false | none => none) = _
    have e : same1 0 (.int .i64 x) (.int .i64 y) = some (x == y) := by simp [same1, sameInt, sameK_refl, intEq_eq]
    rw [e]
    simp only
    rw [same_ints n xs ys (by simpa using h1) (by simpa using h2)]
    by_cases h : x = y
    · subst h; simp
    · simp [h]
theorem talL (g : Ga) : talC g = ((List.range 2001).map fun k => (g k).getD 0).map fun z => Value.int .i64 z := by
  unfold talC; rw [List.map_map]; rfl
theorem eq_tal (g : Ga) : ∃ b, eqFlat true (List.replicate 2001 0) (.agg ⟨talC g⟩) (.agg ⟨talC fun _ => none⟩) = some b ∧ (b = true → ∀ k, k < 2001 → (g k).getD 0 = 0) := by
  refine ⟨decide (((List.range 2001).map fun k => (g k).getD 0) = ((List.range 2001).map fun k => (((fun _ => none : Ga)) k).getD 0)), ?_, ?_⟩
  · show sameL (List.replicate 2001 0) (talC g) (talC fun _ => none) = _
    rw [talL, talL]
    exact same_ints 2001 _ _ (by rw [List.length_map, List.length_range]) (by rw [List.length_map, List.length_range])
  · intro h k hk
    have h := of_decide_eq_true h
    have := congrArg (fun l => l[k]?) h
    simp only [List.getElem?_map, List.getElem?_range hk, Option.map_some, Option.some.injEq] at this
    exact this
set_option maxHeartbeats 4000000 in
theorem call60 {ov : Ov} (m : Nat) (ho : ∀ args w, ov 60 args w = none) (ho29 : ∀ args w, ov 29 args w = none) (ho30 : ∀ args w, ov 30 args w = none) (s : Sea) (dv cv sv rv : Value) (bt : Bool) (D : Nat) (g : Ga) (mb : Nat) (w : AW) (hmb : mb < w.next) (hM : ∀ w' : AW, w'.heap.get mb = w.heap.get mb → ∀ u : Nat, lookupA Tryz.prog w' 103 (.map (some mb)) (.agg ⟨[.int .i64 (D : Nat), .int .i64 (u : Nat)]⟩) false = .val (.bool (g u).isSome) w') :
    ∃ x w', (run Tryz.prog ov (m + 2)).call 60 [.agg ⟨morC s dv cv sv rv D bt⟩, .agg ⟨talC g⟩, .map (some mb)] w .none = .ok (.ret x) w' .none ∧ x = .int .i64 (bestI bt g) ∧ Old w.next w.heap w'.heap ∧ w.next ≤ w'.next ∧ w'.lim = w.lim := by
  refine call_wpY text60 (by simp) (ho _ _) ?_
  have q2 := talC_len g
  have q3 := talC_take g
  simp [mc60, morC, yearC, cellsOf_agg, q2, q3]
  obtain ⟨w1, ew1⟩ : ∃ w1 : AW, w1 = ⟨(w.heap.put w.next (some (.cells (morC s dv cv sv rv D bt) 69 false))).put (w.next + 1) (some (.cells (talC g) 105 false)), w.next + 1 + 1, w.lim⟩ := ⟨_, rfl⟩
  have g3 : w1.heap.get w.next = some (.cells (morC s dv cv sv rv D bt) 69 false) := by rw [ew1]; simp
  have lk := hM w1 (by rw [ew1]; simp [show ¬ mb = w.next by omega, show ¬ mb = w.next + 1 by omega])
  simp only [morC, yearC, List.cons_append, List.nil_append] at ew1 g3
  rw [← ew1]
  have fin : Old w.next w.heap w1.heap ∧ w.next ≤ w1.next ∧ w1.lim = w.lim := by
    rw [ew1]
    exact ⟨((Old.refl _ _).put (Nat.le_refl _)).put (Nat.le_succ _), by show w.next ≤ w.next + 1 + 1; omega, rfl⟩
  have ix := fun (w : AW) (k : Nat) (h : k < 2001) => ix105 w g .i64 h
  have r29 := fun a b w => call29 (ov := ov) m ho29 a b w
  have r30 := fun a b w => call30 (ov := ov) m ho30 a b w
  refine wp_seqX (wp_blockX (wp_roundsY (fun k t' w' => w' = w1 ∧ tget t' 2 = .map (some mb) ∧ tget t' 3 = .pointer (some ⟨w.next, 0, none⟩) ∧ tget t' 7 = .int .i64 ((pickG bt g k).getD 0) ∧ tget t' 8 = .bool (pickG bt g k).isSome ∧ tget t' 11 = .agg ⟨talC g⟩ ∧ tget t' 12 = .int .i64 (k : Nat) ∧ k ≤ 2001) 3000 (by decide) ⟨rfl, by simp, by simp, by simp [pickG], by simp [pickG], by simp, by simp, Nat.zero_le _⟩ ?_))
  rintro k t w' ⟨rfl, t2, t3, t7, t8, t11, t12, hk⟩
  by_cases hlt : k < 2001
  · have lkk := lk k
    have ixk := fun w => ix w k hlt
    have hlt' : (k : Int) < 2001 := by omega
    have hw1 : IntKind.wrap .i64 ((k : Int) + 1) = (k : Int) + 1 := wrap64_in (by omega) (by omega)
    cases hg : g k with
    | none =>
      rw [hg] at lkk
      simp only [Option.isSome_none] at lkk
      have e : pickG bt g (k + 1) = pickG bt g k := by rw [pickG, hg]
      simp [mc60_l0, t2, t3, t7, t8, t11, t12, hlt', ixk, g3, lkk, hw1, e, hg]
      omega
    | some n =>
      rw [hg] at lkk
      simp only [Option.isSome_some] at lkk
      cases hp : pickG bt g k with
      | none =>
        have e : pickG bt g (k + 1) = some n := by rw [pickG, hg]; simp [hp]
        simp [hp] at t7 t8
        simp [mc60_l0, t2, t3, t7, t8, t11, t12, hlt', ixk, g3, lkk, hw1, e, hg]
        omega
      | some b =>
        simp [hp] at t7 t8
        cases hb : btB bt n b with
        | true =>
          have e : pickG bt g (k + 1) = some n := by rw [pickG, hg]; simp [hp, hb]
          cases bt with
          | true =>
            simp only [btF, cond_true] at g3
            simp [mc60_l0, t2, t3, t7, t8, t11, t12, hlt', ixk, g3, lkk, hw1, e, hg, callV_func, r30, hb]
            omega
          | false =>
            simp only [btF, cond_false] at g3
            simp [mc60_l0, t2, t3, t7, t8, t11, t12, hlt', ixk, g3, lkk, hw1, e, hg, callV_func, r29, hb]
            omega
        | false =>
          have e : pickG bt g (k + 1) = some b := by rw [pickG, hg]; simp [hp, hb]
          cases bt with
          | true =>
            simp only [btF, cond_true] at g3
            simp [mc60_l0, t2, t3, t7, t8, t11, t12, hlt', ixk, g3, lkk, hw1, e, hg, callV_func, r30, hb]
            omega
          | false =>
            simp only [btF, cond_false] at g3
            simp [mc60_l0, t2, t3, t7, t8, t11, t12, hlt', ixk, g3, lkk, hw1, e, hg, callV_func, r29, hb]
            omega
  · have hk' : k = 2001 := by omega
    subst hk'
    simp [mc60_l0, t12, t7, tupV, bestI]
    exact fin
/-! all days of it -/
def HsF (s : Sea) (l : List Day) (S : List Int) (i : Nat) : List Nat := match l[i]?, S[i]? with | some d, some z => heatsN s d z | _, _ => []
theorem gd_nn {bt : Bool} {rs : List Rac} (h8 : rs.length ≤ 8) {D : Nat} {Hs : Nat → List Nat} : ∀ (d k : Nat) (n : Int), Gd bt (adI rs D) Hs d k = some n → 0 ≤ n ∧ n ≤ 8 * (d : Int)
  | 0, k, n, h => by
    unfold Gd at h
    split at h
    · cases h; omega
    · cases h
  | d + 1, k, n, h => by
    obtain ⟨u, b, x, h1, h2, h3, rfl, rfl⟩ := day_from _ _ _ _ _ _ _ h
    have ih := gd_nn h8 d u b h2
    have := adK_bd rs D d u x rs.length
    unfold adI
    omega
theorem MapR.next {mb i : Nat} {gp gc : Ga} {w : AW} (h : MapR mb i gp gc w) : MapR mb (i + 1) gc (fun _ => none) w := by
  obtain ⟨L, h1, h2, h3, h4, h5⟩ := h
  refine ⟨L, h1, h2, fun u => ?_, fun u => ?_, fun d z hd => h5 d z (by omega)⟩
  · rw [show ((i + 1 : Nat) : Int) - 1 = (i : Int) by omega]; exact h4 u
  · rw [h5 _ _ (by omega)]; rfl
theorem map_first {n : Nat} {w : AW} (hl : w.lim ≤ n) (h0 : w.heap.get n = some (.map [] 0)) : ∃ o, mapUpdateA Tryz.prog w 103 (.map (some n)) (.agg ⟨[.int .i64 (-1), .int .i64 0]⟩) (.bool true) = .val undef ⟨w.heap.put n (some o), w.next, w.lim⟩ ∧ ∀ w' : AW, w'.heap.get n = some o → MapR n 0 (fun k => if k = 0 then some 0 else none) (fun _ => none) w' := by
  have hM : MapAt dkC boV w n [] := h0
  have e := update_k (vC := boV) map103 dk_ok hM hl (-1, 0) true
  simp only [dkC, boV] at e
  refine ⟨_, e, fun w' hw => ⟨updK [] (-1, 0) true, hw, fun p b hp => ?_, fun u => ?_, fun u => ?_, fun d z hd => ?_⟩⟩
  · rw [lookK_upd] at hp
    split at hp
    · cases hp; rfl
    · simp at hp
  · rw [lookK_upd]
    by_cases hu : u = 0
    · subst hu; simp
    · rw [if_neg (fun h => hu (by have := congrArg Prod.snd h; simp at this; omega))]; simp [hu]
  · rw [lookK_upd, if_neg (fun h => by have := congrArg Prod.fst h; simp at this)]; rfl
  · rw [lookK_upd, if_neg (fun h => by have := congrArg Prod.fst h; simp at this; omega)]; rfl
structure InB (mc : List Value) (i n : Nat) (g : Ga) (w0 w : AW) : Prop where
  mor : w.heap.get n = some (.cells mc 69 false)
  tal : w.heap.get (n + 2) = some (.cells (talC g) 105 false)
  map : MapR (n + 1) i g (fun _ => none) w
  old : Old n w0.heap w.heap
  next : n + 2 < w.next
  lim : w.lim = w0.lim
end Go.Proofs.YtbbbgaiaigdngaaGreatDoor.walk

namespace Go.Proofs.YtbbbgaiaigdngaaGreatDoor.walk
open Go Go.Sh
set_option maxRecDepth 100000
set_option linter.unusedSimpArgs false
set_option linter.unusedVariables false
/-! the best number, over all days -/
theorem talC_congr {g h : Ga} (e : ∀ k, (g k).getD 0 = (h k).getD 0) : talC g = talC h := by
  unfold talC
  congr 1
  funext k
  rw [e k]
set_option maxHeartbeats 4000000 in
theorem loop31 {ov : Ov} (m : Nat) (ho59 : ∀ args w, ov 59 args w = none) (ho53 : ∀ args w, ov 53 args w = none) (ho78 : ∀ args w, ov 78 args w = none) (h77 : HasP ov 77 F77) (ho79 : ∀ args w, ov 79 args w = none) (ho29 : ∀ args w, ov 29 args w = none) (ho30 : ∀ args w, ov 30 args w = none) (s : Sea) (dv cv sv rv : Value) (bt : Bool) (l : List Day) (h40 : l.length ≤ 40) (S : List Int) (hSl : S.length = l.length) (rs : List Rac) (hr : racB rs = true) (D : Nat) (hD : D < l.length) (hok : ∀ (i : Nat) d z a, l[i]? = some d → S[i]? = some z → d.wl ≤ a → a ≤ d.wh → heatB s a z = true) (hday : ∀ (i : Nat) d, l[i]? = some d → dayB d = true) (w0 : AW) (hl : w0.lim ≤ w0.next) (n0 : 0 < w0.next) (hv : RowsV dayC w0 dv l) (hS : RowsV intC w0 sv S) (hrs : RowsV racC w0 rv rs) (ro : Bool) (gS : w0.heap.get 0 = some (.cells [.int .i64 (-1), .int .i64 0] 102 ro))
    (Q : Ex → Tm → AW → Prop) (t : Tm) (w : AW) (hI : InB (morC s dv cv sv rv D bt) 0 w0.next (Gd bt (adI rs D) (HsF s l S) 0) w0 w)
    (t1 : tget t 1 = .pointer (some ⟨w0.next, 0, none⟩)) (t3 : tget t 3 = .map (some (w0.next + 1))) (t4 : tget t 4 = .pointer (some ⟨w0.next + 2, 0, none⟩)) (t11 : tget t 11 = .int .i64 ((D : Int) + 1)) (t12 : tget t 12 = .int .i64 0)
    (hQ : ∀ t w, InB (morC s dv cv sv rv D bt) (D + 1) w0.next (Gd bt (adI rs D) (HsF s l S) (D + 1)) w0 w → tget t 1 = .pointer (some ⟨w0.next, 0, none⟩) → tget t 3 = .map (some (w0.next + 1)) → tget t 4 = .pointer (some ⟨w0.next + 2, 0, none⟩) → Q (.exit 0) t w) :
    wp (exM Tryz.prog (run Tryz.prog ov (m + 5)) (.loop mc31_l0) t w) Q := by
  have h8 : rs.length ≤ 8 := by simp only [racB, Bool.and_eq_true, decide_eq_true_eq] at hr; exact hr.1
  refine wp_rounds (fun i t w => InB (morC s dv cv sv rv D bt) i w0.next (Gd bt (adI rs D) (HsF s l S) i) w0 w ∧ tget t 1 = .pointer (some ⟨w0.next, 0, none⟩) ∧ tget t 3 = .map (some (w0.next + 1)) ∧ tget t 4 = .pointer (some ⟨w0.next + 2, 0, none⟩) ∧ tget t 11 = .int .i64 ((D : Int) + 1) ∧ tget t 12 = .int .i64 (i : Nat) ∧ i ≤ D + 1) 200 (by decide) ⟨hI, t1, t3, t4, t11, by simpa using t12, Nat.zero_le _⟩ ?_
  clear t1 t3 t4 t11 t12 hI
  rintro i t w ⟨hI, t1, t3, t4, t11, t12, hi⟩
  by_cases hlt : i < D + 1
  · obtain ⟨d, hd⟩ : ∃ d, l[i]? = some d := ⟨_, List.getElem?_eq_getElem (by omega)⟩
    obtain ⟨z, hz⟩ : ∃ z, S[i]? = some z := ⟨_, List.getElem?_eq_getElem (by omega)⟩
    have hlt' : (i : Int) < (D : Int) + 1 := by omega
    have hle' : (i : Int) ≤ (D : Int) := by omega
    have hnx := hI.next
    have hlm := hI.lim
    have g1 := hI.mor
    have g4 := hI.tal
    have lw : w.lim ≤ w0.next + 2 := by omega
    have hw1 : IntKind.wrap .i64 ((i : Int) + 1) = (i : Int) + 1 := wrap64_in (by omega) (by omega)
    have eG : Gd bt (adI rs D) (HsF s l S) (i + 1) = dayG bt (adI rs D i) (heatsN s d z) (Gd bt (adI rs D) (HsF s l S) i) (50 * i + 1) := by
      rw [Gd]
      unfold HsF
      rw [hd, hz]
    obtain ⟨_, w2, c59, rfl, M2, k2, n2, l2⟩ := call59 (ov := ov) m ho59 ho53 ho78 h77 ho79 ho29 ho30 s dv cv sv rv bt l h40 S rs hr D i (by omega) d z hd hz (fun a => hok i d z a hd hz) (hday i d hd) (Gd bt (adI rs D) (HsF s l S) i) (fun u b h => by have := gd_nn h8 i u b h; omega) w0 w hv hS hrs ro gS hI.old (w0.next + 1) ⟨n0, by omega, by omega, by omega⟩ hI.map
    rw [← eG] at c59 M2
    have q1 := talC_len (Gd bt (adI rs D) (HsF s l S) i)
    have q2 := talC_take (Gd bt (adI rs D) (HsF s l S) i)
    have q3 := talC_drop (Gd bt (adI rs D) (HsF s l S) i)
    have q4 := talC_singles (Gd bt (adI rs D) (HsF s l S) (i + 1))
    have q5 := talC_len (Gd bt (adI rs D) (HsF s l S) (i + 1))
    have g4' : w2.heap.get (w0.next + 2) = some (.cells (talC (Gd bt (adI rs D) (HsF s l S) i)) 105 false) := by rw [k2 _ (by omega) (by omega)]; exact g4
    have lw2 : w2.lim ≤ w0.next + 2 := by omega
    have fin : InB (morC s dv cv sv rv D bt) (i + 1) w0.next (Gd bt (adI rs D) (HsF s l S) (i + 1)) w0 ⟨w2.heap.put (w0.next + 2) (some (.cells (talC (Gd bt (adI rs D) (HsF s l S) (i + 1))) 105 false)), w2.next, w2.lim⟩ := by
      refine ⟨?_, ?_, M2.next.mv ?_, fun x hx => ?_, by show w0.next + 2 < w2.next; omega, by show w2.lim = w0.lim; omega⟩
      · show (w2.heap.put _ _).get _ = _
        rw [get_put, if_neg (by omega), k2 _ (by omega) (by omega)]; exact g1
      · show (w2.heap.put _ _).get _ = _
        rw [get_put, if_pos rfl]
      · show (w2.heap.put _ _).get _ = _
        rw [get_put, if_neg (by omega)]
      · rw [show (w2.heap.put (w0.next + 2) (some (.cells (talC (Gd bt (adI rs D) (HsF s l S) (i + 1))) 105 false))).get x = w2.heap.get x by rw [get_put, if_neg (by omega)], k2 _ (by omega) (by omega)]
        exact hI.old x hx
    simp only [morC, yearC, List.cons_append, List.nil_append] at c59 g1
    simp [mc31_l0, t1, t3, t4, t11, t12, hlt', hle', g1, g4, q1, q2, q3, q4, q5, c59, g4', lw2, hw1]
    exact ⟨by omega, fin, by omega⟩
  · have hi' : i = D + 1 := by omega
    subst hi'
    simp [mc31_l0, t11, t12]
    exact hQ _ _ hI (by simp [t1]) (by simp [t3]) (by simp [t4])
set_option maxHeartbeats 4000000 in
theorem call31 {ov : Ov} (m : Nat) (ho : ∀ args w, ov 31 args w = none) (ho59 : ∀ args w, ov 59 args w = none) (ho60 : ∀ args w, ov 60 args w = none) (ho53 : ∀ args w, ov 53 args w = none) (ho78 : ∀ args w, ov 78 args w = none) (h77 : HasP ov 77 F77) (ho79 : ∀ args w, ov 79 args w = none) (ho29 : ∀ args w, ov 29 args w = none) (ho30 : ∀ args w, ov 30 args w = none) (s : Sea) (dv cv sv rv : Value) (bt : Bool) (l : List Day) (h40 : l.length ≤ 40) (S : List Int) (hSl : S.length = l.length) (rs : List Rac) (hr : racB rs = true) (D : Nat) (hD : D < l.length) (hok : ∀ (i : Nat) d z a, l[i]? = some d → S[i]? = some z → d.wl ≤ a → a ≤ d.wh → heatB s a z = true) (hday : ∀ (i : Nat) d, l[i]? = some d → dayB d = true) (w : AW) (hl : w.lim ≤ w.next) (n0 : 0 < w.next) (hv : RowsV dayC w dv l) (hS : RowsV intC w sv S) (hrs : RowsV racC w rv rs) (ro : Bool) (gS : w.heap.get 0 = some (.cells [.int .i64 (-1), .int .i64 0] 102 ro)) :
    ∃ x w', (run Tryz.prog ov (m + 6)).call 31 [.agg ⟨morC s dv cv sv rv D bt⟩] w .none = .ok (.ret x) w' .none ∧ x = .int .i64 (bestI bt (Gd bt (adI rs D) (HsF s l S) (D + 1))) ∧ Old w.next w.heap w'.heap ∧ w.next ≤ w'.next ∧ w'.lim = w.lim := by
  refine call_wp text31 (by simp) (ho _ _) ?_
  have h8 : rs.length ≤ 8 := by simp only [racB, Bool.and_eq_true, decide_eq_true_eq] at hr; exact hr.1
  have l1 : w.lim ≤ w.next + 1 := by omega
  obtain ⟨wm, ewm⟩ : ∃ wm : AW, wm = ⟨(w.heap.put w.next (some (.cells (morC s dv cv sv rv D bt) 69 false))).put (w.next + 1) (some (.map [] 0)), w.next + 1 + 1, w.lim⟩ := ⟨_, rfl⟩
  obtain ⟨om, eup, hup⟩ := map_first (n := w.next + 1) (w := wm) (by rw [ewm]; exact l1) (by rw [ewm]; simp)
  obtain ⟨w1, ew1⟩ : ∃ w1 : AW, w1 = ⟨(wm.heap.put (w.next + 1) (some om)).put (w.next + 2) (some (.cells (talC fun _ => none) 105 false)), w.next + 3, w.lim⟩ := ⟨_, rfl⟩
  have I1 : InB (morC s dv cv sv rv D bt) 0 w.next (Gd bt (adI rs D) (HsF s l S) 0) w w1 := by
    refine ⟨?_, ?_, hup _ ?_, fun x hx => ?_, ?_, ?_⟩
    · rw [ew1, ewm]; simp
    · rw [talC_congr (h := fun _ => none) (fun k => by unfold Gd; by_cases e : k = 0 <;> simp [e]), ew1]; simp
    · rw [ew1]; simp
    · rw [ew1, ewm]; simp [show ¬ x = w.next by omega, show ¬ x = w.next + 1 by omega, show ¬ x = w.next + 2 by omega]
    · rw [ew1]; exact Nat.lt_succ_self _
    · rw [ew1]
  have key := fun Q t => loop31 (ov := ov) m ho59 ho53 ho78 h77 ho79 ho29 ho30 s dv cv sv rv bt l h40 S hSl rs hr D hD hok hday w hl n0 hv hS hrs ro gS Q t w1 I1
  rw [ew1, ewm] at key
  have hwD : IntKind.wrap .i64 ((D : Int) + 1) = (D : Int) + 1 := wrap64_in (by omega) (by omega)
  have z0 : ¬ 0 = w.next := by omega
  have z1 : ¬ 0 = w.next + 1 := by omega
  have z2 : ¬ w.next = w.next + 1 := by omega
  have z3 : ¬ w.next = w.next + 2 := by omega
  rw [ewm] at eup
  simp only [morC, yearC, List.cons_append, List.nil_append] at eup key
  simp [mc31, morC, yearC, cellsOf_agg, makeMap_eq, gS, z0, z1, eup, al105', hwD, z2, z3, -al105, -List.reduceReplicate]
  refine wp_seqX (wp_blockX (key _ _ ?_ ?_ ?_ ?_ ?_ ?_))
  case _ => simp
  case _ => simp
  case _ => simp
  case _ => simp
  case _ => simp
  case _ =>
    intro t w2 hI t1 t3 t4
    have hnx := hI.next
    have hlm := hI.lim
    have g1 := hI.mor
    have g4 := hI.tal
    obtain ⟨G, hG⟩ : ∃ G, G = Gd bt (adI rs D) (HsF s l S) (D + 1) := ⟨_, rfl⟩
    rw [← hG] at g4 hI ⊢
    have q1 := talC_len G
    have q2 := talC_take G
    obtain ⟨b, eb, hb⟩ := eq_tal G
    cases b with
    | true =>
      have h0 : bestI bt G = 0 := pick_zero bt G fun k n hk hg => by
        have := hb rfl k hk
        rw [hg] at this
        exact this
      simp [t1, t3, t4, g4, q1, q2, bd105', eb, h0, tupV, -bd105, -List.reduceReplicate]
      exact ⟨hI.old, by omega, hlm⟩
    | false =>
      obtain ⟨_, w3, c60, rfl, o3, n3, l3⟩ := call60 (ov := ov) (m + 3) ho60 ho29 ho30 s dv cv sv rv bt D G (w.next + 1) w2 (by omega) (fun w' hw' u => (hI.map.mv hw').lookP u (a := (D : Int)) (by omega))
      simp only [morC, yearC, List.cons_append, List.nil_append] at c60 g1
      simp [t1, t3, t4, g1, g4, q1, q2, bd105', eb, c60, tupV, -bd105, -List.reduceReplicate]
      exact ⟨fun x hx => by rw [o3 x (by omega)]; exact hI.old x hx, by omega, by omega⟩
end Go.Proofs.YtbbbgaiaigdngaaGreatDoor.walk

namespace Go.Proofs.YtbbbgaiaigdngaaGreatDoor.walk
open Go Go.Sh
set_option maxRecDepth 100000
set_option linter.unusedSimpArgs false
set_option linter.unusedVariables false
/-! Flowers, of what can be asked -/
theorem bd69 (w : AW) (x0 x1 x2 x3 x4 x5 x6 x7 x8 x9 : Value) (a : Option Addr) (n c : Nat) (D : Int) (f : Nat) : buildA Tryz.prog w 69 [(0, .agg ⟨[x0, x1, x2, x3, x4, x5, x6, x7, x8, x9]⟩), (1, .slice a n c), (2, .int .i64 D), (3, .func (.func f) #[] #[])] = .val (.agg ⟨[x0, x1, x2, x3, x4, x5, x6, x7, x8, x9, .slice a n c, .int .i64 D, .func (.func f) #[] #[]]⟩) w := by kernel_rfl
@[simp] theorem singles_func (f : Fn) (a b : Array Value) (l : List Value) : singles (.func f a b :: l) = singles l := singles_c _ _ rfl
def flG (s : Sea) (l : List Day) (c : List Int) (rs : List Rac) (bt : Bool) (D : Nat) : Int := bestI bt (Gd bt (adI rs D) (HsF s l (shL s c l.length)) (D + 1))
set_option maxHeartbeats 4000000 in
theorem call8 {ov : Ov} (m : Nat) (ho : ∀ args w, ov 8 args w = none) (ho21 : ∀ args w, ov 21 args w = none) (ho31 : ∀ args w, ov 31 args w = none) (ho59 : ∀ args w, ov 59 args w = none) (ho60 : ∀ args w, ov 60 args w = none) (ho53 : ∀ args w, ov 53 args w = none) (ho78 : ∀ args w, ov 78 args w = none) (ho79 : ∀ args w, ov 79 args w = none) (ho29 : ∀ args w, ov 29 args w = none) (ho30 : ∀ args w, ov 30 args w = none) (h20 : HasP ov 20 F20) (h51 : HasP ov 51 F51) (h52 : HasP ov 52 F52) (h77 : HasP ov 77 F77) (s : Sea) (l : List Day) (c : List Int) (rs : List Rac) (hB : bothE s l c rs = 0) (D : Nat) (hD : D < l.length) (dv cv rv : Value) (w : AW) (hl : w.lim ≤ w.next) (n0 : 0 < w.next) (hv : RowsV dayC w dv l) (hu : RowsV intC w cv c) (hrs : RowsV racC w rv rs) (ro : Bool) (gS : w.heap.get 0 = some (.cells [.int .i64 (-1), .int .i64 0] 102 ro)) :
    ∃ x w', (run Tryz.prog ov (m + 7)).call 8 [.agg ⟨seaC s dv cv⟩, rv, .int .i64 (D : Nat)] w .none = .ok (.ret x) w' .none ∧ x = .tuple ⟨[.agg ⟨[.int .i64 (flG s l c rs false D), .int .i64 (flG s l c rs true D)]⟩, .int .i64 0]⟩ ∧ Old w.next w.heap w'.heap ∧ w.next ≤ w'.next ∧ w'.lim = w.lim := by
  refine call_wp text8 (by simp) (ho _ _) ?_
  obtain ⟨hE, hR⟩ := both_zero hB
  obtain ⟨hd, hcB, hs, _, _⟩ := sea_zero hE
  obtain ⟨f1, f2⟩ := sea_facts hE
  have h40 := (days_len hd).2
  have hcl := cuts_len (by omega) hcB
  have hlv := len22V hv
  obtain ⟨da, dc, rfl⟩ := hv.len
  obtain ⟨ca, cc, rfl⟩ := hu.len
  obtain ⟨w1, ew1⟩ : ∃ w1 : AW, w1 = ⟨(w.heap.put w.next (some (.cells (seaC s (.slice da l.length dc) (.slice ca c.length cc)) 29 false))).put (w.next + 1) (some (.cells [.int .i64 0, .int .i64 0] 24 false)), w.next + 1 + 1, w.lim⟩ := ⟨_, rfl⟩
  have k1 : ∀ x, x < w.next → w1.heap.get x = w.heap.get x := fun x hx => by rw [ew1]; simp [show ¬ x = w.next by omega, show ¬ x = w.next + 1 by omega]
  have n1 : w1.next = w.next + 2 := by rw [ew1]
  have l1 : w1.lim = w.lim := by rw [ew1]
  have hv1 : RowsV dayC w1 (.slice da l.length dc) l := hv.old k1 (by omega)
  have hu1 : RowsV intC w1 (.slice ca c.length cc) c := hu.old k1 (by omega)
  have hr1 : RowsV racC w1 rv rs := hrs.old k1 (by omega)
  have r20 := rule20 (s := s) h20 hv1 hu1 hr1 (m + 5)
  rw [hB] at r20
  obtain ⟨y, w2, c21, B, rfl, kB, lB, uB, o2, n2, l2⟩ := call21 (m + 4) ho21 h51 h52 s hs l h40 c hcB (by omega) (.slice da l.length dc) (.slice ca c.length cc) w1 (by omega) hv1 hu1
  have k2 : ∀ x, x < w.next → w2.heap.get x = w.heap.get x := fun x hx => by rw [o2 x (by omega), k1 x hx]
  have sp2 : w2.heap.get (w.next + 1) = some (.cells [.int .i64 0, .int .i64 0] 24 false) := by rw [o2 _ (by omega), ew1]; simp
  have sa2 : w2.heap.get w.next = some (.cells (seaC s (.slice da l.length dc) (.slice ca c.length cc)) 29 false) := by rw [o2 _ (by omega), ew1]; simp
  obtain ⟨sa, hsa⟩ : ∃ sa : Option Addr, sa = some ⟨B, 0, none⟩ := ⟨_, rfl⟩
  have hS2 : RowsV intC w2 (.slice sa l.length l.length) (shL s c l.length) := .inr ⟨B, 0, none, l.length, by rw [hsa, shL_length], ⟨[], [], 3, false, by rw [kB]; simp, rfl⟩, uB⟩
  obtain ⟨ra, rc, rfl⟩ := hrs.len
  obtain ⟨w3, ew3⟩ : ∃ w3 : AW, w3 = ⟨(((((w2.heap.put w2.next (some (.cells [.slice none 0 0, .int .i64 0, .int .i64 0, .int .i64 0, .int .i64 0, .int .i64 0, .int .i64 0, .int .i64 0, .slice none 0 0, .slice none 0 0] 58 false))).put w2.next (some (.cells (yearC s (.slice da l.length dc) (.slice ca c.length cc) (.slice sa l.length l.length)) 58 false))).put (w2.next + 1) (some (.cells [.slice none 0 0, .int .i64 0, .int .i64 0, .int .i64 0, .int .i64 0, .int .i64 0, .int .i64 0, .int .i64 0, .slice none 0 0, .slice none 0 0, .slice none 0 0, .int .i64 0, .nilFunc] 69 false))).put (w2.next + 1) (some (.cells (morC s (.slice da l.length dc) (.slice ca c.length cc) (.slice sa l.length l.length) (.slice ra rs.length rc) D false) 69 false))).put (w2.next + 1 + 1) (some (.cells [.slice none 0 0, .int .i64 0, .int .i64 0, .int .i64 0, .int .i64 0, .int .i64 0, .int .i64 0, .int .i64 0, .slice none 0 0, .slice none 0 0, .slice none 0 0, .int .i64 0, .nilFunc] 69 false))).put (w2.next + 1 + 1) (some (.cells (morC s (.slice da l.length dc) (.slice ca c.length cc) (.slice sa l.length l.length) (.slice ra rs.length rc) D true) 69 false)), w2.next + 1 + 1 + 1, w2.lim⟩ := ⟨_, rfl⟩
  have k3 : ∀ x, x < w2.next → w3.heap.get x = w2.heap.get x := fun x hx => by rw [ew3]; simp [show ¬ x = w2.next by omega, show ¬ x = w2.next + 1 by omega, show ¬ x = w2.next + 1 + 1 by omega]
  have n3 : w3.next = w2.next + 3 := by rw [ew3]
  have l3 : w3.lim = w2.lim := by rw [ew3]
  have hv3 : RowsV dayC w3 (.slice da l.length dc) l := (hv1.old o2 n2).old k3 (by omega)
  have hS3 : RowsV intC w3 (.slice sa l.length l.length) (shL s c l.length) := hS2.old k3 (by omega)
  have hr3 : RowsV racC w3 (.slice ra rs.length rc) rs := (hr1.old o2 n2).old k3 (by omega)
  have gS3 : w3.heap.get 0 = some (.cells [.int .i64 (-1), .int .i64 0] 102 ro) := by rw [k3 _ (by omega), k2 _ n0]; exact gS
  obtain ⟨_, w4, c31, rfl, o4, n4, l4⟩ := call31 (ov := ov) m ho31 ho59 ho60 ho53 ho78 h77 ho79 ho29 ho30 s (.slice da l.length dc) (.slice ca c.length cc) (.slice sa l.length l.length) (.slice ra rs.length rc) false l h40 (shL s c l.length) (shL_length _ _ _) rs hR D hD f1 f2 w3 (by omega) (by omega) hv3 hS3 hr3 ro gS3
  obtain ⟨_, w5, d31, rfl, o5, n5, l5⟩ := call31 (ov := ov) m ho31 ho59 ho60 ho53 ho78 h77 ho79 ho29 ho30 s (.slice da l.length dc) (.slice ca c.length cc) (.slice sa l.length l.length) (.slice ra rs.length rc) true l h40 (shL s c l.length) (shL_length _ _ _) rs hR D hD f1 f2 w4 (by omega) (by omega) (hv3.old o4 n4) (hS3.old o4 n4) (hr3.old o4 n4) ro (by rw [o4 _ (by omega)]; exact gS3)
  have y4 : w4.heap.get (w2.next + 1 + 1) = some (.cells (morC s (.slice da l.length dc) (.slice ca c.length cc) (.slice sa l.length l.length) (.slice ra rs.length rc) D true) 69 false) := by rw [o4 _ (by omega), ew3]; simp
  have sp5 : w5.heap.get (w.next + 1) = some (.cells [.int .i64 0, .int .i64 0] 24 false) := by rw [o5 _ (by omega), o4 _ (by omega), k3 _ (by omega)]; exact sp2
  have k5 : ∀ x, x < w.next → w5.heap.get x = w.heap.get x := fun x hx => by rw [o5 _ (by omega), o4 _ (by omega), k3 _ (by omega), k2 x hx]
  have q1 : ¬ (D : Int) < 0 := by omega
  have q2 : ¬ ((l.length : Nat) : Int) ≤ (D : Int) := by omega
  have q3 : (D : Int) < (l.length : Nat) := by omega
  have q4 : w2.lim ≤ w2.next := by omega
  have q5 : w2.lim ≤ w2.next + 1 := by omega
  have q6 : w2.lim ≤ w2.next + 1 + 1 := by omega
  have q6' : w2.lim ≤ w2.next + 2 := by omega
  have q7 : w5.lim ≤ w.next + 1 := by omega
  have sv1 := fun (k : IntKind) (a : Int) => sameN_int 4 k a
  have sv2 : sameVal 5 (.agg ⟨morC s (.slice da l.length dc) (.slice ca c.length cc) (.slice sa l.length l.length) (.slice ra rs.length rc) D true⟩) (.agg ⟨morC s (.slice da l.length dc) (.slice ca c.length cc) (.slice sa l.length l.length) (.slice ra rs.length rc) D true⟩) = true := same_agg _ fun v hv => by
    simp only [morC, yearC, List.cons_append, List.nil_append, List.mem_cons, List.not_mem_nil, or_false] at hv
    rcases hv with rfl | rfl | rfl | rfl | rfl | rfl | rfl | rfl | rfl | rfl | rfl | rfl | rfl
    · exact rows_same hv1
    · exact sameN_int 3 _ _
    · exact sameN_int 3 _ _
    · exact sameN_int 3 _ _
    · exact sameN_int 3 _ _
    · exact sameN_int 3 _ _
    · exact sameN_int 3 _ _
    · exact sameN_int 3 _ _
    · exact rows_same hu1
    · exact rows_same hS2
    · exact sameN_slice 3 _ _ _
    · exact sameN_int 3 _ _
    · rfl
  rw [ew3] at c31
  rw [← hsa] at c21
  rw [ew1] at r20 c21
  simp only [morC, yearC, seaC, btF, cond_true, cond_false, List.cons_append, List.nil_append] at c31 d31 y4 r20 c21 sv2 sa2
  simp [mc8, seaC, r20, c21, hlv, q1, q2, q3, q4, q5, q6, q6', bd69, c31, y4, d31, sp5, q7, sv1, sv2, sa2, tupV, flG]
  exact ⟨fun x hx => by rw [get_put, if_neg (by omega)]; exact k5 x hx, by omega, by omega⟩
end Go.Proofs.YtbbbgaiaigdngaaGreatDoor.walk
