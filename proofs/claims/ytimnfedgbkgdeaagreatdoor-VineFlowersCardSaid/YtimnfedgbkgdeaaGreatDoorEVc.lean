/- Part of a proof by a machine of ones own: see the text with the theorem. -/
import Derived.Test.YtimnfedgbkgdeaaGreatDoorEVb
namespace Go.Proofs.YtimnfedgbkgdeaaGreatDoor.walk
open Go Go.Sh
set_option maxRecDepth 100000
set_option linter.unusedSimpArgs false
set_option linter.unusedVariables false
/-! the ends of what the specification lists -/
theorem gvN_head (s : Sea) (d : Day) (z : Int) {g : List Int} {x : Int} (h : g[0]? = some x) : ∀ k, (gvN s d z g k)[0]? = some x
  | 0 => h
  | k + 1 => by
    have ih := gvN_head s d z h k
    unfold gvN addN
    split
    · exact ih
    · rw [List.getElem?_append_left (List.getElem?_eq_some_iff.1 ih).1]; exact ih
theorem gvN_last (s : Sea) (d : Day) (z : Int) {g : List Int} (hg : g = [] ∨ g = [0]) (hz : z ≤ 100) (h0 : ∀ k : Nat, 0 ≤ heatI s (d.wl + (k : Nat)) 0 z) : ∀ k, (gvN s d z g (k + 1))[(gvN s d z g (k + 1)).length - 1]? = some (heatI s (d.wl + (k : Nat)) 0 z) ∧ 0 < (gvN s d z g (k + 1)).length ∧ ∀ y ∈ gvN s d z g (k + 1), y ≤ heatI s (d.wl + (k : Nat)) 0 z
  | 0 => by
    have hx := h0 0
    have e : gvN s d z g (0 + 1) = addN g (heatI s (d.wl + (0 : Nat)) 0 z) := rfl
    rw [e]
    unfold addN
    rcases hg with rfl | rfl
    · simp
    · by_cases h : heatI s (d.wl + (0 : Nat)) 0 z ∈ [0]
      · rw [if_pos h]
        have h := List.mem_singleton.1 h
        rw [h]; simp
      · rw [if_neg h]
        refine ⟨by simp, by simp, fun y hy => ?_⟩
        simp only [List.cons_append, List.nil_append, List.mem_cons, List.not_mem_nil, or_false] at hy
        rcases hy with rfl | rfl
        · exact hx
        · exact Int.le_refl _
  | k + 1 => by
    obtain ⟨i1, i2, i3⟩ := gvN_last s d z hg hz h0 k
    have hm : heatI s (d.wl + (k : Nat)) 0 z ≤ heatI s (d.wl + ((k + 1 : Nat) : Int)) 0 z := heat_mono rfl (Int.le_refl _) (by omega) (Int.le_refl _) hz
    have e : gvN s d z g (k + 1 + 1) = addN (gvN s d z g (k + 1)) (heatI s (d.wl + ((k + 1 : Nat) : Int)) 0 z) := rfl
    rw [e]
    unfold addN
    by_cases h : heatI s (d.wl + ((k + 1 : Nat) : Int)) 0 z ∈ gvN s d z g (k + 1)
    · rw [if_pos h]
      have := i3 _ h
      have e2 : heatI s (d.wl + ((k + 1 : Nat) : Int)) 0 z = heatI s (d.wl + (k : Nat)) 0 z := by omega
      rw [e2]
      exact ⟨i1, i2, i3⟩
    · rw [if_neg h]
      refine ⟨by simp, by simp, fun y hy => ?_⟩
      rcases List.mem_append.1 hy with hy | hy
      · have := i3 y hy; omega
      · rw [List.mem_singleton.1 hy]; exact Int.le_refl _
theorem gvL_ends {s : Sea} {d : Day} {z : Int} (hd : dayB d = true) (hwet : 0 ≤ s.wet) (hz : z ≤ 100) (hok : ∀ a, d.wl ≤ a → a ≤ d.wh → heatB s a z = true) (hb : 0 ≤ s.base) (hz0 : 0 ≤ z) : 0 < (gvL s d z).length ∧ (gvL s d z)[0]? = some (loD s d z) ∧ (gvL s d z)[(gvL s d z).length - 1]? = some (hiD s d z) := by
  simp only [dayB, spanB, Bool.and_eq_true, decide_eq_true_eq] at hd
  have h0 : ∀ k : Nat, 0 ≤ heatI s (d.wl + (k : Nat)) 0 z := fun k => by
    unfold heatI
    split
    · exact Int.le_refl _
    · exact Int.tdiv_nonneg (Int.mul_nonneg (by omega) (by omega)) (by omega)
  by_cases hw : d.rl ≤ s.wet
  · have e : ∀ a, heatI s a 0 z = heatI s a d.rl z := fun a => by unfold heatI; rw [if_neg (by omega), if_neg (by omega)]
    obtain ⟨k, hk⟩ : ∃ k : Nat, (d.wh - d.wl + 1).toNat = k + 1 := ⟨(d.wh - d.wl).toNat, by omega⟩
    have hwh : d.wl + (k : Nat) = d.wh := by omega
    have eg : gvL s d z = gvN s d z (if s.wet < d.rh then [0] else []) (k + 1) := by unfold gvL; rw [if_pos hw, hk]
    obtain ⟨i1, i2, i3⟩ := gvN_last s d z (g := if s.wet < d.rh then [0] else []) (by split; exact .inr rfl; exact .inl rfl) hz h0 k
    rw [← eg] at i1 i2
    refine ⟨i2, ?_, ?_⟩
    · rw [eg]
      unfold loD
      by_cases hr : s.wet < d.rh
      · rw [if_pos hr, if_pos hr]; exact gvN_head s d z rfl _
      · rw [if_neg hr, if_neg hr]
        have : ∀ j, (gvN s d z [] (j + 1))[0]? = some (heatI s d.wl d.rl z) := fun j => by
          induction j with
          | zero =>
            show (addN [] (heatI s (d.wl + ((0 : Nat) : Int)) 0 z))[0]? = _
            rw [e]; simp [addN]
          | succ j ih =>
            show (addN (gvN s d z [] (j + 1)) _)[0]? = _
            unfold addN
            split
            · exact ih
            · rw [List.getElem?_append_left (List.getElem?_eq_some_iff.1 ih).1]; exact ih
        exact this k
    · rw [i1, hwh, e]; rfl
  · have eg : gvL s d z = [0] := by unfold gvL; rw [if_neg hw, if_pos (by omega)]; rfl
    rw [eg]
    refine ⟨by simp, ?_, ?_⟩
    · unfold loD; rw [if_pos (by omega)]; rfl
    · unfold hiD heatI; rw [if_pos (by omega)]; rfl
end Go.Proofs.YtimnfedgbkgdeaaGreatDoor.walk

namespace Go.Proofs.YtimnfedgbkgdeaaGreatDoor.walk
open Go Go.Sh
set_option maxRecDepth 100000
set_option linter.unusedSimpArgs false
set_option linter.unusedVariables false
theorem int_app {n1 : Nat} {w : AW} {v : Value} {acc : List Int} {B : Nat} (h : AccI n1 w v acc B) (hl : w.lim ≤ n1) (hn : n1 < w.next) (hlen : acc.length ≤ 90000) {A : Nat} {z : Int} {ro : Bool} (hA : w.heap.get A = some (.cells [.int .i64 z] 3 ro)) :
    ∃ v' w' B', append1 Tryz.prog w [27, 27] [v, .slice (some ⟨A, 0, none⟩) 1 1] = .val v' w' ∧ AccI n1 w' v' (acc ++ [z]) B' ∧ (∀ x, x < w.next → (x = B → B = 0) → w'.heap.get x = w.heap.get x) ∧ w.next ≤ B' ∧ w.next ≤ w'.next ∧ w'.lim = w.lim := by
  have hsrc : srcCells w 1 (.slice (some ⟨A, 0, none⟩) 1 1) = some [.int .i64 z] := src_row (e' := 3) (ro := ro) (k := 1) hA (by simp) (by decide) (by decide)
  rcases h with ⟨rfl, rfl, rfl⟩ | ⟨rfl, hB, h1, h2⟩
  · refine ⟨_, _, w.next, append_nil isList27 elem27 sz3 small3 (m := 1) rfl hsrc (by simp) (by decide) (by decide), .inr ⟨rfl, ?_, ?_, ?_⟩, fun x hx _ => ?_, Nat.le_refl _, ?_, rfl⟩
    · simp [intC]
    · omega
    · exact Nat.lt_succ_self _
    · show (w.heap.put w.next _).get x = _
      rw [get_put, if_neg (by omega)]
    · show w.next ≤ w.next + 1; omega
  · refine ⟨_, _, w.next, append_full isList27 elem27 sz3 small3 (n := acc.length) (m := 1) (c := acc.flatMap intC) rfl hsrc (by simp) (by simp) (by decide) (by omega) hB (flat_length intC_length acc) (by omega), .inr ⟨?_, ?_, ?_, ?_⟩, fun x hx hxB => ?_, Nat.le_refl _, ?_, rfl⟩
    · simp
    · show ((w.heap.put B none).put w.next _).get w.next = _
      rw [get_put, if_pos rfl]; simp [intC]
    · omega
    · exact Nat.lt_succ_self _
    · have : ¬ x = B := fun e => by have := hxB e; omega
      show ((w.heap.put B none).put w.next _).get x = _
      rw [get_put, if_neg (by omega), get_put, if_neg this]
    · show w.next ≤ w.next + 1; omega
def LSn (s : Sea) (l : List Day) (c : List Int) (n : Nat) : List Int := (List.range n).map fun k => (exD s l (shL s c l.length) k).1
def MSn (s : Sea) (l : List Day) (c : List Int) (n : Nat) : List Int := (List.range n).map fun k => (exD s l (shL s c l.length) k).2
structure In7 (w0 : AW) (n : Nat) (A B : List Int) (v8 v9 : Value) (C1 C2 : Nat) (w : AW) : Prop where
  old : ∀ x, x ≤ n → w.heap.get x = w0.heap.get x
  a1 : AccI n w v8 A C1
  a2 : AccI n w v9 B C2
  ne : C1 = C2 → C1 = 0
  next : n < w.next
  lim : w.lim = w0.lim
set_option maxHeartbeats 4000000 in
theorem loop7 {ov : Ov} (m : Nat) (ho27 : ∀ args w, ov 27 args w = none) (h57 : HasP ov 57 F57) (h58 : HasP ov 58 F58) (s : Sea) (l : List Day) (c : List Int) (hE : seaE s l c = 0) (dv cv hv : Value) (w0 : AW) (n sb : Nat) (hsb : sb ≤ n) (hl0 : w0.lim ≤ n) (hn0 : n + 1 = w0.next) (gs : w0.heap.get sb = some (.cells (seaC s dv cv) 29 false)) (hdv : RowsV dayC w0 dv l) (hhv : RowsV intC w0 hv (shL s c l.length))
    (Q : Ex → Tm → AW → Prop) (t : Tm) (t2 : tget t 2 = .pointer (some ⟨sb, 0, none⟩)) (T3 T4 : Value) (t3 : tget t 3 = T3) (t4 : tget t 4 = T4) (t7 : tget t 7 = hv) (t8 : tget t 8 = .slice none 0 0) (t9 : tget t 9 = .slice none 0 0) (t10 : tget t 10 = .int .i64 0)
    (hQ : ∀ t w C1 C2, In7 w0 n (LS s l c) (MS s l c) (tget t 8) (tget t 9) C1 C2 w → tget t 3 = T3 → tget t 4 = T4 → Q (.exit 0) t w) : wp (exM Tryz.prog (run Tryz.prog ov (m + 2)) (.loop mc7_l0) t w0) Q := by
  obtain ⟨f1, f2⟩ := sea_facts hE
  obtain ⟨hdd, hcB, hs, hbase, hwet⟩ := sea_zero hE
  have h40 := (days_len hdd).2
  simp only [inI, Bool.and_eq_true, decide_eq_true_eq] at hbase hwet
  refine wp_rounds (fun i t w => (∃ C1 C2, In7 w0 n (LSn s l c i) (MSn s l c i) (tget t 8) (tget t 9) C1 C2 w) ∧ tget t 2 = .pointer (some ⟨sb, 0, none⟩) ∧ tget t 3 = T3 ∧ tget t 4 = T4 ∧ tget t 7 = hv ∧ tget t 10 = .int .i64 (i : Nat) ∧ i ≤ l.length) 200 (by decide) ⟨⟨0, 0, fun _ _ => rfl, .inl ⟨rfl, t8, rfl⟩, .inl ⟨rfl, t9, rfl⟩, fun _ => rfl, by omega, rfl⟩, t2, t3, t4, t7, by simpa using t10, Nat.zero_le _⟩ ?_
  clear t2 t3 t4 t7 t8 t9 t10
  rintro i t w ⟨⟨C1, C2, hI⟩, t2, t3, t4, t7, t10, hi⟩
  have hln := fun w => len22V hdv w
  have hsea := hI.old sb hsb
  rw [gs] at hsea
  by_cases hlt : i < l.length
  · obtain ⟨d, hd⟩ : ∃ x, l[i]? = some x := ⟨_, List.getElem?_eq_getElem hlt⟩
    have hz := shL_at s c l.length i hlt
    have hn := hI.next
    have hlm := hI.lim
    have hold : Old w0.next w0.heap w.heap := fun x hx => hI.old x (by omega)
    have hhw : RowsV intC w hv (shL s c l.length) := hhv.old hold (by omega)
    obtain ⟨hb, hoff, hsq, hc, rfl, hhr⟩ := hhw.at_ i (by rw [shL_length]; omega)
    have lz := hhr.int hz
    have iah := fun w => ia27 w ⟨hb, hoff, hsq⟩ l.length hc .i64 i hlt
    obtain ⟨gv, w1, c27, ⟨BG, aG⟩, o1, n1, l1⟩ := call27 (ov := ov) m ho27 (H50_of h57) h58 s l h40 i d hd (f2 i d hd) (shB s c (i + 1)) (fun a => f1 i d _ a hd hz) hwet.1 dv cv w (by omega) (hdv.old hold (by omega))
    have hzb := f1 i d _ d.wl hd hz (Int.le_refl _) (by have := f2 i d hd; simp only [dayB, spanB, Bool.and_eq_true, decide_eq_true_eq] at this; omega)
    simp only [heatB, inI, Bool.and_eq_true, decide_eq_true_eq] at hzb
    obtain ⟨e1, e2, e3⟩ := gvL_ends (f2 i d hd) hwet.1 hzb.2.2.2 (fun a => f1 i d _ a hd hz) hbase.1 hzb.2.2.1
    have ex := exD_eq hE hd
    obtain ⟨lo, hlo⟩ : ∃ lo, lo = loD s d (shB s c (i + 1)) := ⟨_, rfl⟩
    obtain ⟨hi', hhi⟩ : ∃ x, x = hiD s d (shB s c (i + 1)) := ⟨_, rfl⟩
    rw [← hlo] at e2
    rw [← hhi] at e3
    have eL : LSn s l c (i + 1) = LSn s l c i ++ [lo] := by
      unfold LSn
      rw [List.range_succ, List.map_append, List.map_cons, List.map_nil, ex, hlo]; rfl
    have eM : MSn s l c (i + 1) = MSn s l c i ++ [hi'] := by
      unfold MSn
      rw [List.range_succ, List.map_append, List.map_cons, List.map_nil, ex, hhi]; rfl
    obtain ⟨G, hG⟩ : ∃ G, G = gvL s d (shB s c (i + 1)) := ⟨_, rfl⟩
    rw [← hG] at aG e1 e2 e3
    have hGl : G.length ≤ 100 := by
      rw [hG]
      unfold gvL
      have h1 := gvN_len s d (shB s c (i + 1)) (if s.wet < d.rh then [0] else []) (if d.rl ≤ s.wet then (d.wh - d.wl + 1).toNat else 0)
      have hb := f2 i d hd
      simp only [dayB, spanB, Bool.and_eq_true, decide_eq_true_eq] at hb
      have h2 : (if s.wet < d.rh then [(0 : Int)] else []).length ≤ 1 := by split <;> simp
      have h3 : (if d.rl ≤ s.wet then (d.wh - d.wl + 1).toNat else 0) ≤ 51 := by split <;> omega
      omega
    rcases aG with ⟨hnil, _, _⟩ | ⟨rfl, hrow, hb1, hb2⟩
    · rw [hnil] at e1; simp at e1
    · obtain ⟨j, hj⟩ : ∃ j, j = G.length - 1 := ⟨_, rfl⟩
      have hRA : ∀ w' : AW, w'.heap.get BG = some (.cells (G.flatMap intC) 3 false) → RowsA intC w'.heap (BG + 1) BG 0 G := fun w' h => ⟨⟨[], [], 3, false, by rw [h]; simp, rfl⟩, Nat.lt_succ_self _⟩
      have rd0 : rd1O (some (AObj.cells (G.flatMap intC) 3 false)) 0 = some (.int .i64 lo) := by
        have := (hRA w1 hrow).int e2
        rw [hrow] at this
        simpa using this
      have rdj : rd1O (some (AObj.cells (G.flatMap intC) 3 false)) j = some (.int .i64 hi') := by
        rw [← hj] at e3
        have := (hRA w1 hrow).int e3
        rw [hrow] at this
        simpa using this
      obtain ⟨q, hq⟩ : ∃ q, q = G.flatMap intC := ⟨_, rfl⟩
      rw [← hq] at hrow rd0 rdj
      have ia0 := fun w => ia27 w ⟨BG, 0, none⟩ G.length G.length .i64 0 e1
      have iaj := fun w => ia27 w ⟨BG, 0, none⟩ G.length G.length .i64 j (by omega)
      simp only [Nat.zero_mul, Int.natCast_zero] at ia0
      have wwj : IntKind.wrap .i64 ((G.length : Int) - 1) = (j : Int) := by
        rw [show (G.length : Int) - 1 = (j : Int) by omega]; exact wrap64_in (by omega) (by omega)
      have wwi : IntKind.wrap .i64 ((i : Int) + 1) = (i : Int) + 1 := wrap64_in (by omega) (by omega)
      obtain ⟨v8, hv8⟩ : ∃ v, v = tget t 8 := ⟨_, rfl⟩
      obtain ⟨v9, hv9⟩ : ∃ v, v = tget t 9 := ⟨_, rfl⟩
      rw [← hv8, ← hv9] at hI
      have t8 := hv8.symm
      have t9 := hv9.symm
      have p1 := hI.a1.lt (by omega)
      have p2 := hI.a2.lt (by omega)
      obtain ⟨w2, ew2⟩ : ∃ w2 : AW, w2 = ⟨(w1.heap.put w1.next (some (.cells [.int .i64 lo] 3 false))).put (w1.next + 1) (some (.cells [.int .i64 hi'] 3 false)), w1.next + 1 + 1, w1.lim⟩ := ⟨_, rfl⟩
      have k2 : ∀ x, x < w1.next → w2.heap.get x = w1.heap.get x := fun x hx => by rw [ew2]; simp [show ¬ x = w1.next by omega, show ¬ x = w1.next + 1 by omega]
      have n2 : w2.next = w1.next + 2 := by rw [ew2]
      have l2 : w2.lim = w1.lim := by rw [ew2]
      have gA : w2.heap.get w1.next = some (.cells [.int .i64 lo] 3 false) := by rw [ew2]; simp
      have gB : w2.heap.get (w1.next + 1) = some (.cells [.int .i64 hi'] 3 false) := by rw [ew2]; simp
      have A1 : AccI n w2 v8 (LSn s l c i) C1 := hI.a1.keep (B0 := 0) (fun x h1 h2 h3 => by rw [k2 x (by omega), o1 x h1]) (by omega) (fun h => h)
      have A2 : AccI n w2 v9 (MSn s l c i) C2 := hI.a2.keep (B0 := 0) (fun x h1 h2 h3 => by rw [k2 x (by omega), o1 x h1]) (by omega) (fun h => h)
      obtain ⟨u8, w3, D1, ha1, ac1, kk1, nb1, nx1, lm1⟩ := int_app A1 (by omega) (by omega) (by simp [LSn]; omega) gA
      have pd1 := ac1.lt (by omega)
      have gB3 : w3.heap.get (w1.next + 1) = some (.cells [.int .i64 hi'] 3 false) := by rw [kk1 _ (by omega) (fun h => by omega)]; exact gB
      have gG3 : w3.heap.get BG = some (.cells q 3 false) := by rw [kk1 _ (by omega) (fun h => by omega), k2 _ (by omega)]; exact hrow
      have A2' : AccI n w3 v9 (MSn s l c i) C2 := A2.keep (B0 := C1) (fun x h1 h2 h3 => kk1 x h1 h2) (by omega) (fun h => by have := hI.ne h.symm; omega)
      obtain ⟨u9, w4, D2, ha2, ac2, kk2, nb2, nx2, lm2⟩ := int_app A2' (by omega) (by omega) (by simp [MSn]; omega) gB3
      have fin : In7 w0 n (LSn s l c (i + 1)) (MSn s l c (i + 1)) u8 u9 D1 D2 w4 := by
        rw [eL, eM]
        refine ⟨fun x hx => ?_, ?_, ac2, fun h => by omega, by omega, by omega⟩
        · rw [kk2 x (by omega) (A2.nb x hx), kk1 x (by omega) (A1.nb x hx), k2 x (by omega), o1 x (by omega)]; exact hI.old x hx
        · exact ac1.keep (B0 := C2) (fun x h1 h2 h3 => kk2 x h1 h2) (by omega) (fun h => by omega)
      have b1 : ¬ BG = w1.next := by omega
      have b2' : ¬ BG = w1.next + 1 := by omega
      have sv1 := fun (k : IntKind) (a : Int) => sameN_int 4 k a
      rw [ew2] at ha1
      simp only [seaC, shL_length] at c27 hsea t7
      simp [mc7_l0, t2, t3, t4, t7, t8, t9, t10, hsea, hln, hlt, iah, lz, c27, hrow, ia0, iaj, rd0, rdj, wwj, wwi, b1, b2', sv1, ha1, ha2, gG3]
      exact ⟨by omega, ⟨D1, D2, fin⟩, (shL_length _ _ _).symm, by omega⟩
  · have hi' : i = l.length := by omega
    subst hi'
    have hI2 : In7 w0 n (LS s l c) (MS s l c) (tget t 8) (tget t 9) C1 C2 w := hI
    simp only [seaC] at hsea
    simp [mc7_l0, t2, t10, hsea, hln]
    exact hQ _ _ C1 C2 (by simpa using hI2) (by simp [t3]) (by simp [t4])
end Go.Proofs.YtimnfedgbkgdeaaGreatDoor.walk

namespace Go.Proofs.YtimnfedgbkgdeaaGreatDoor.walk
open Go Go.Sh
set_option maxRecDepth 100000
set_option linter.unusedSimpArgs false
set_option linter.unusedVariables false
set_option maxHeartbeats 4000000 in
theorem call7 {ov : Ov} (m : Nat) (ho : ∀ args w, ov 7 args w = none) (ho26 : ∀ args w, ov 26 args w = none) (ho27 : ∀ args w, ov 27 args w = none) (h24 : HasP ov 24 F43) (h25 : HasP ov 25 F50) (h28 : HasP ov 28 F28) (h56 : HasP ov 56 F56) (h57 : HasP ov 57 F57) (h58 : HasP ov 58 F58) (s : Sea) (l : List Day) (c : List Int) (r : Rac) (dv cv : Value) (w : AW) (hl : w.lim ≤ w.next) (hdv : RowsV dayC w dv l) (hcv : RowsV intC w cv c) :
    ∃ x w', (run Tryz.prog ov (m + 4)).call 7 [.agg ⟨seaC s dv cv⟩, .agg ⟨racC r⟩] w .none = .ok (.ret x) w' .none ∧ x = .tuple ⟨[.agg ⟨[.int .i64 (oA s l c r), .int .i64 (oB s l c r)]⟩, .int .i64 (oE s l c r)]⟩ ∧ Old w.next w.heap w'.heap ∧ w.next ≤ w'.next ∧ w'.lim = w.lim := by
  refine call_wp text7 (by simp) (ho _ _) ?_
  obtain ⟨w1, ew1⟩ : ∃ w1 : AW, w1 = ⟨((w.heap.put w.next (some (.cells (seaC s dv cv) 29 false))).put (w.next + 1) (some (.cells (racC r) 32 false))).put (w.next + 1 + 1) (some (.cells [.int .i64 0, .int .i64 0] 24 false)), w.next + 1 + 1 + 1, w.lim⟩ := ⟨_, rfl⟩
  have k1 : ∀ x, x < w.next → w1.heap.get x = w.heap.get x := fun x hx => by rw [ew1]; simp [show ¬ x = w.next by omega, show ¬ x = w.next + 1 by omega, show ¬ x = w.next + 1 + 1 by omega, show ¬ x = w.next + 2 by omega]
  have n1 : w1.next = w.next + 3 := by rw [ew1]
  have l1 : w1.lim = w.lim := by rw [ew1]
  have gs1 : w1.heap.get w.next = some (.cells (seaC s dv cv) 29 false) := by rw [ew1]; simp
  have gr1 : w1.heap.get (w.next + 1) = some (.cells (racC r) 32 false) := by rw [ew1]; simp
  have gt1 : w1.heap.get (w.next + 2) = some (.cells [.int .i64 0, .int .i64 0] 24 false) := by rw [ew1]; simp
  have hv1 : RowsV dayC w1 dv l := hdv.old k1 (by omega)
  have hu1 : RowsV intC w1 cv c := hcv.old k1 (by omega)
  have r24 := rule43 (f := 24) (s := s) h24 hv1 hu1 (m + 2)
  have lw : w.lim ≤ w.next + 1 + 1 := by omega
  have lw' : w.lim ≤ w.next + 2 := by omega
  have fin1 : ∀ cs, Old w.next w.heap (w1.heap.put (w.next + 2) (some (.cells cs 24 false))) := fun cs x hx => by rw [get_put, if_neg (by omega)]; exact k1 x hx
  by_cases hE : seaE s l c = 0
  · obtain ⟨hdd, hcB, hs, _, _⟩ := sea_zero hE
    have h40 := (days_len hdd).2
    have hcl := cuts_len (by omega) hcB
    rw [hE] at r24
    obtain ⟨w2, ew2⟩ : ∃ w2 : AW, w2 = ⟨w1.heap.put w1.next (some (.cells (racC r) 32 false)), w1.next + 1, w1.lim⟩ := ⟨_, rfl⟩
    have k2 : ∀ x, x < w1.next → w2.heap.get x = w1.heap.get x := fun x hx => by rw [ew2]; simp [show ¬ x = w1.next by omega]
    have n2 : w2.next = w1.next + 1 := by rw [ew2]
    have l2 : w2.lim = w1.lim := by rw [ew2]
    have hr2 : RowsV racC w2 (.slice (some ⟨w1.next, 0, none⟩) 1 1) [r] := .inr ⟨w1.next, 0, none, 1, rfl, ⟨[], [], 32, false, by rw [ew2]; simp, rfl⟩, by omega⟩
    have r25 := rule50 (f := 25) h25 hr2 (m + 2)
    cases hR : racB [r] with
    | false =>
      have hB : oE s l c r = 11 := by unfold oE bothE; rw [if_pos hE, hR]; rfl
      have hA0 : oA s l c r = 0 := by unfold oA; rw [hB]; rfl
      have hB0 : oB s l c r = 0 := by unfold oB; rw [hB]; rfl
      rw [hR] at r25
      have f2 : Old w.next w.heap (w2.heap.put (w.next + 2) (some (.cells [.int .i64 0, .int .i64 0] 24 false))) := fun x hx => by rw [get_put, if_neg (by omega), k2 x (by omega)]; exact k1 x hx
      rw [hA0, hB0, hB]
      rw [ew2, ew1] at r25
      rw [ew1] at r24
      rw [ew2, ew1] at f2
      simp only [seaC, racC, Nat.add_assoc, Nat.reduceAdd] at r24 r25 f2
      simp [mc7, seaC, racC, cellsOf_agg, r24, r25, lw, lw', tupV]
      exact f2
    | true =>
      have hB : oE s l c r = 0 := by unfold oE bothE; rw [if_pos hE, hR]; rfl
      have hA0 : oA s l c r = (opI (MS s l c) r.need : Nat) := by unfold oA; rw [if_pos hB]
      have hB0 : oB s l c r = (opI (LS s l c) r.need : Nat) := by unfold oB; rw [if_pos hB]
      rw [hR] at r25
      obtain ⟨hv, w3, c26, B, hacc, o3, n3, l3⟩ := call26 (ov := ov) (m + 1) ho26 h56 (fun L x u w hL hu => H50_of h57 (m + 1) L x u w hL hu) s hs l h40 c (by omega) dv cv cv w2 (by omega) (hv1.old k2 (by omega)) (hu1.old k2 (by omega))
      have hhv := acc_rows hacc
      have nj := row_notJunk hhv
      have gs3 : w3.heap.get w.next = some (.cells (seaC s dv cv) 29 false) := by rw [o3 _ (by omega), k2 _ (by omega)]; exact gs1
      have gr3 : w3.heap.get (w.next + 1) = some (.cells (racC r) 32 false) := by rw [o3 _ (by omega), k2 _ (by omega)]; exact gr1
      have gt3 : w3.heap.get (w.next + 2) = some (.cells [.int .i64 0, .int .i64 0] 24 false) := by rw [o3 _ (by omega), k2 _ (by omega)]; exact gt1
      have k3 : ∀ x, x < w.next → w3.heap.get x = w.heap.get x := fun x hx => by rw [o3 _ (by omega), k2 _ (by omega), k1 x hx]
      have key := fun Q t => loop7 (ov := ov) (m + 1) ho27 h57 h58 s l c hE dv cv hv w3 (w3.next - 1) w.next (by omega) (by omega) (by omega) gs3 (hdv.old k3 (by omega)) hhv Q t
      obtain ⟨sm1, sm2⟩ := small_ends hE
      rw [hA0, hB0, hB]
      rw [ew2, ew1] at r25 c26
      rw [ew1] at r24
      simp only [seaC, racC, Nat.add_assoc, Nat.reduceAdd] at r24 r25 c26 gs3 gr3
      simp [mc7, seaC, racC, cellsOf_agg, r24, r25, c26, nj, lw, lw', gs3, gr3]
      refine wp_seqX (wp_blockX (key _ _ ?_ (.pointer (some ⟨w.next + 1, 0, none⟩)) (.pointer (some ⟨w.next + 2, 0, none⟩)) ?_ ?_ ?_ ?_ ?_ ?_ ?_))
      case _ => simp
      case _ => simp
      case _ => simp
      case _ => simp
      case _ => simp
      case _ => simp
      case _ => simp
      case _ =>
        intro t w4 C1 C2 hI t3 t4
        have rL := acc_rows hI.a1
        have rM := acc_rows hI.a2
        have q1 := rule28 h28 r.need rM sm2 (m + 2)
        have q2 := rule28 h28 r.need rL sm1 (m + 2)
        have gr4 := hI.old (w.next + 1) (by omega)
        rw [gr3] at gr4
        have gt4 := hI.old (w.next + 2) (by omega)
        rw [gt3] at gt4
        have hn := hI.next
        have hlm := hI.lim
        have lw4 : w4.lim ≤ w.next + 2 := by omega
        have sv1 := fun (k : IntKind) (a : Int) => sameN_int 4 k a
        have f4 : ∀ cs, Old w.next w.heap (w4.heap.put (w.next + 2) (some (.cells cs 24 false))) := fun cs x hx => by rw [get_put, if_neg (by omega), hI.old x (by omega)]; exact k3 x hx
        simp [t3, t4, gr4, gt4, q1, q2, lw4, sv1, tupV]
        exact ⟨f4 _, by omega, by omega⟩
  · have hB : oE s l c r = seaE s l c := by unfold oE bothE; rw [if_neg hE]
    have hA0 : oA s l c r = 0 := by unfold oA; rw [hB, if_neg hE]
    have hB0 : oB s l c r = 0 := by unfold oB; rw [hB, if_neg hE]
    have f2 := fin1 [.int .i64 0, .int .i64 0]
    rw [hA0, hB0, hB]
    rw [ew1] at r24 f2
    simp only [seaC, racC, Nat.add_assoc, Nat.reduceAdd] at r24 f2
    simp [mc7, seaC, racC, cellsOf_agg, r24, hE, lw, lw', tupV]
    exact f2
end Go.Proofs.YtimnfedgbkgdeaaGreatDoor.walk

namespace Go.Proofs.YtimnfedgbkgdeaaGreatDoor.walk
open Go Go.Sh
set_option maxRecDepth 100000
set_option linter.unusedSimpArgs false
set_option linter.unusedVariables false
/-! Flowers, of anything that is asked -/
def flE (s : Sea) (l : List Day) (c : List Int) (rs : List Rac) (D : Int) : Int := if bothE s l c rs = 0 then (if inI 0 D ((l.length : Int) - 1) = true then 0 else 12) else bothE s l c rs
def flV (s : Sea) (l : List Day) (c : List Int) (rs : List Rac) (bt : Bool) (D : Int) : Int := if flE s l c rs D = 0 then flG s l c rs bt D.toNat else 0
set_option maxHeartbeats 4000000 in
theorem call8g {ov : Ov} (m : Nat) (hN : None8 ov) (s : Sea) (l : List Day) (c : List Int) (rs : List Rac) (D : Int) (dv cv rv : Value) (w : AW) (hl : w.lim ≤ w.next) (n0 : 0 < w.next) (hv : RowsV dayC w dv l) (hu : RowsV intC w cv c) (hrs : RowsV racC w rv rs) (ro : Bool) (gS : w.heap.get 0 = some (.cells [.int .i64 (-1), .int .i64 0] 102 ro)) :
    ∃ x w', (run Tryz.prog ov (m + 7)).call 8 [.agg ⟨seaC s dv cv⟩, rv, .int .i64 D] w .none = .ok (.ret x) w' .none ∧ x = .tuple ⟨[.agg ⟨[.int .i64 (flV s l c rs false D), .int .i64 (flV s l c rs true D)]⟩, .int .i64 (flE s l c rs D)]⟩ ∧ Old w.next w.heap w'.heap ∧ w.next ≤ w'.next ∧ w'.lim = w.lim := by
  obtain ⟨w1, ew1⟩ : ∃ w1 : AW, w1 = ⟨(w.heap.put w.next (some (.cells (seaC s dv cv) 29 false))).put (w.next + 1) (some (.cells [.int .i64 0, .int .i64 0] 24 false)), w.next + 1 + 1, w.lim⟩ := ⟨_, rfl⟩
  have k1 : ∀ x, x < w.next → w1.heap.get x = w.heap.get x := fun x hx => by rw [ew1]; simp [show ¬ x = w.next by omega, show ¬ x = w.next + 1 by omega]
  have n1 : w1.next = w.next + 2 := by rw [ew1]
  have r20 := rule20 (s := s) hN.p20 (hv.old k1 (by omega)) (hu.old k1 (by omega)) (hrs.old k1 (by omega)) (m + 5)
  have hlv := len22V hv
  have lw : w.lim ≤ w.next + 1 := by omega
  have f1 : Old w.next w.heap (w1.heap.put (w.next + 1) (some (.cells [.int .i64 0, .int .i64 0] 24 false))) := fun x hx => by rw [get_put, if_neg (by omega)]; exact k1 x hx
  by_cases hB : bothE s l c rs = 0
  · by_cases hD : inI 0 D ((l.length : Int) - 1) = true
    · have hE0 : flE s l c rs D = 0 := by unfold flE; rw [if_pos hB, if_pos hD]
      have v1 : flV s l c rs false D = flG s l c rs false D.toNat := by unfold flV; rw [if_pos hE0]
      have v2 : flV s l c rs true D = flG s l c rs true D.toNat := by unfold flV; rw [if_pos hE0]
      simp only [inI, Bool.and_eq_true, decide_eq_true_eq] at hD
      obtain ⟨d, rfl⟩ := Int.eq_ofNat_of_zero_le hD.1
      rw [v1, v2, hE0, Int.toNat_natCast]
      exact call8 m hN.o8 hN.o21 hN.o31 hN.o59 hN.o60 hN.o53 hN.o78 hN.o79 hN.o29 hN.o30 hN.p20 hN.p51 hN.p52 hN.p77 s l c rs hB d (by omega) dv cv rv w hl n0 hv hu hrs ro gS
    · have hE0 : flE s l c rs D = 12 := by unfold flE; rw [if_pos hB, if_neg hD]
      have v1 : ∀ bt, flV s l c rs bt D = 0 := fun bt => by unfold flV; rw [hE0]; rfl
      rw [v1, v1, hE0]
      refine call_wp text8 (by simp) (hN.o8 _ _) ?_
      rw [hB] at r20
      simp only [inI, Bool.and_eq_true, decide_eq_true_eq] at hD
      rw [ew1] at r20 f1
      simp only [seaC] at r20 f1
      by_cases hneg : D < 0
      · simp [mc8, seaC, r20, hlv, hneg, lw, tupV]
        exact f1
      · have hge : (l.length : Int) ≤ D := by omega
        simp [mc8, seaC, r20, hlv, hneg, hge, lw, tupV]
        exact f1
  · have hE0 : flE s l c rs D = bothE s l c rs := by unfold flE; rw [if_neg hB]
    have v1 : ∀ bt, flV s l c rs bt D = 0 := fun bt => by unfold flV; rw [hE0, if_neg hB]
    rw [v1, v1, hE0]
    refine call_wp text8 (by simp) (hN.o8 _ _) ?_
    rw [ew1] at r20 f1
    simp only [seaC] at r20 f1
    simp [mc8, seaC, r20, hB, lw, tupV]
    exact f1
set_option maxHeartbeats 4000000 in
theorem call9 {ov : Ov} (m : Nat) (ho : ∀ args w, ov 9 args w = none) (ho32 : ∀ args w, ov 32 args w = none) (ho26 : ∀ args w, ov 26 args w = none) (ho27 : ∀ args w, ov 27 args w = none) (h15 : HasP ov 15 F15) (h24 : HasP ov 24 F43) (h25 : HasP ov 25 F50) (h56 : HasP ov 56 F56) (h57 : HasP ov 57 F57) (h58 : HasP ov 58 F58) (h61 : HasP ov 61 F61) (s : Sea) (l : List Day) (c : List Int) (rs : List Rac) (D : Int) (dv cv rv : Value) (w : AW) (hl : w.lim ≤ w.next) (hv : RowsV dayC w dv l) (hu : RowsV intC w cv c) (hrs : RowsV racC w rv rs) :
    ∃ x w', (run Tryz.prog ov (m + 4)).call 9 [.agg ⟨seaC s dv cv⟩, rv, .int .i64 D] w .none = .ok (.ret x) w' .none ∧ x = .tuple ⟨[.agg ⟨[.int .i64 (flV s l c rs false D), .int .i64 (flV s l c rs true D)]⟩, .int .i64 (flE s l c rs D)]⟩ ∧ Old w.next w.heap w'.heap ∧ w.next ≤ w'.next ∧ w'.lim = w.lim := by
  refine call_wp text9 (by simp) (ho _ _) ?_
  obtain ⟨w1, ew1⟩ : ∃ w1 : AW, w1 = ⟨(w.heap.put w.next (some (.cells (seaC s dv cv) 29 false))).put (w.next + 1) (some (.cells [.int .i64 0, .int .i64 0] 24 false)), w.next + 1 + 1, w.lim⟩ := ⟨_, rfl⟩
  have k1 : ∀ x, x < w.next → w1.heap.get x = w.heap.get x := fun x hx => by rw [ew1]; simp [show ¬ x = w.next by omega, show ¬ x = w.next + 1 by omega]
  have n1 : w1.next = w.next + 2 := by rw [ew1]
  have l1 : w1.lim = w.lim := by rw [ew1]
  have gs1 : w1.heap.get w.next = some (.cells (seaC s dv cv) 29 false) := by rw [ew1]; simp
  have gt1 : w1.heap.get (w.next + 1) = some (.cells [.int .i64 0, .int .i64 0] 24 false) := by rw [ew1]; simp
  have hv1 := hv.old k1 (by omega : w.next ≤ w1.next)
  have hu1 := hu.old k1 (by omega : w.next ≤ w1.next)
  have hr1 := hrs.old k1 (by omega : w.next ≤ w1.next)
  have r24 := rule43 (f := 24) (s := s) h24 hv1 hu1 (m + 2)
  have r25 := rule50 (f := 25) h25 hr1 (m + 2)
  have hlv := len22V hv
  have lw : w.lim ≤ w.next + 1 := by omega
  have f1 : Old w.next w.heap (w1.heap.put (w.next + 1) (some (.cells [.int .i64 0, .int .i64 0] 24 false))) := fun x hx => by rw [get_put, if_neg (by omega)]; exact k1 x hx
  by_cases hE : seaE s l c = 0
  · have h40 := (days_len (sea_zero hE).1).2
    rw [hE] at r24
    cases hR : racB rs with
    | false =>
      have hB : bothE s l c rs = 11 := by unfold bothE; rw [if_pos hE, hR]; rfl
      have hE0 : flE s l c rs D = 11 := by unfold flE; rw [hB]; rfl
      have v1 : ∀ bt, flV s l c rs bt D = 0 := fun bt => by unfold flV; rw [hE0]; rfl
      rw [v1, v1, hE0]
      rw [hR] at r25
      rw [ew1] at r24 r25 f1
      simp only [seaC] at r24 r25 f1
      simp [mc9, seaC, r24, r25, lw, tupV]
      exact f1
    | true =>
      have hB : bothE s l c rs = 0 := by unfold bothE; rw [if_pos hE, hR]; rfl
      have ww : IntKind.wrap .i64 ((l.length : Int) - 1) = (l.length : Int) - 1 := wrap64_in (by omega) (by omega)
      have r15 := fun a b n w => rule15 h15 a b n (m + 2) w
      rw [hR] at r25
      cases hD : inI 0 D ((l.length : Int) - 1) with
      | false =>
        have hE0 : flE s l c rs D = 12 := by unfold flE; rw [if_pos hB, hD]; rfl
        have v1 : ∀ bt, flV s l c rs bt D = 0 := fun bt => by unfold flV; rw [hE0]; rfl
        rw [v1, v1, hE0]
        rw [ew1] at r24 r25 f1
        simp only [seaC] at r24 r25 f1
        simp [mc9, seaC, r24, r25, hlv, ww, r15, hD, lw, tupV]
        exact f1
      | true =>
        have hE0 : flE s l c rs D = 0 := by unfold flE; rw [if_pos hB, hD]; rfl
        have v1 : ∀ bt, flV s l c rs bt D = flG s l c rs bt D.toNat := fun bt => by unfold flV; rw [if_pos hE0]
        rw [v1, v1, hE0]
        have hD' := hD
        simp only [inI, Bool.and_eq_true, decide_eq_true_eq] at hD'
        obtain ⟨d, rfl⟩ := Int.eq_ofNat_of_zero_le hD'.1
        rw [Int.toNat_natCast]
        obtain ⟨_, w2, c1, rfl, o2, n2, l2⟩ := call32 (ov := ov) m ho32 ho26 ho27 h56 h57 h58 h61 false s l c hE rs hR d (by omega) dv cv rv w1 (by omega) hv1 hu1 hr1
        obtain ⟨_, w3, c2, rfl, o3, n3, l3⟩ := call32 (ov := ov) m ho32 ho26 ho27 h56 h57 h58 h61 true s l c hE rs hR d (by omega) dv cv rv w2 (by omega) (hv1.old o2 n2) (hu1.old o2 n2) (hr1.old o2 n2)
        have gs2 : w2.heap.get w.next = some (.cells (seaC s dv cv) 29 false) := by rw [o2 _ (by omega)]; exact gs1
        have gt3 : w3.heap.get (w.next + 1) = some (.cells [.int .i64 0, .int .i64 0] 24 false) := by rw [o3 _ (by omega), o2 _ (by omega)]; exact gt1
        have lw3 : w3.lim ≤ w.next + 1 := by omega
        have f3 : ∀ cs, Old w.next w.heap (w3.heap.put (w.next + 1) (some (.cells cs 24 false))) := fun cs x hx => by rw [get_put, if_neg (by omega), o3 _ (by omega), o2 _ (by omega)]; exact k1 x hx
        have svs : sameVal 5 (.agg ⟨seaC s dv cv⟩) (.agg ⟨seaC s dv cv⟩) = true := seaC_same s (rows_same hv) (rows_same hu)
        rw [ew1] at r24 r25 c1
        simp only [seaC] at r24 r25 c1 c2 gs2 svs
        simp [mc9, seaC, r24, r25, hlv, ww, r15, hD, c1, c2, gs2, gt3, svs, lw3, tupV]
        exact ⟨f3 _, by omega, by omega⟩
  · have hB : bothE s l c rs = seaE s l c := by unfold bothE; rw [if_neg hE]
    have hE0 : flE s l c rs D = seaE s l c := by unfold flE; rw [hB, if_neg hE]
    have v1 : ∀ bt, flV s l c rs bt D = 0 := fun bt => by unfold flV; rw [hE0, if_neg hE]
    rw [v1, v1, hE0]
    rw [ew1] at r24 f1
    simp only [seaC] at r24 f1
    simp [mc9, seaC, r24, hE, lw, tupV]
    exact f1
end Go.Proofs.YtimnfedgbkgdeaaGreatDoor.walk

namespace Go.Proofs.YtimnfedgbkgdeaaGreatDoor.walk
open Go Go.Sh
set_option maxRecDepth 100000
set_option linter.unusedSimpArgs false
set_option linter.unusedVariables false
/-! law 3: Opens and Flowers -/
structure None3 (ov : Ov) : Prop where
  n8 : None8 ov
  o3 : ∀ args w, ov 3 args w = none
  o7 : ∀ args w, ov 7 args w = none
  o9 : ∀ args w, ov 9 args w = none
  o26 : ∀ args w, ov 26 args w = none
  o27 : ∀ args w, ov 27 args w = none
  o32 : ∀ args w, ov 32 args w = none
  p24 : HasP ov 24 F43
  p25 : HasP ov 25 F50
  p28 : HasP ov 28 F28
  p56 : HasP ov 56 F56
  p57 : HasP ov 57 F57
  p58 : HasP ov 58 F58
  p61 : HasP ov 61 F61
set_option maxHeartbeats 8000000 in
theorem run3 {ov : Ov} (hN : None3 ov) (hW : HasW ov) (s : Sea) (l : List Day) (c : List Int) (rs : List Rac) (D : Int) (dv cv rv : Value) (w : AW) (hl : w.lim ≤ w.next) (h7n : 7 ≤ w.next) (hlaid : hasAll w laidL = true) (hv : RowsV dayC w dv l) (hu : RowsV intC w cv c) (hrv : RowsV racC w rv rs) :
    ∃ x w', (run Tryz.prog ov 100).call 3 [.agg ⟨seaC s dv cv⟩, rv, .int .i64 D] w .none = .ok (.ret x) w' .none ∧ x = .bool true := by
  refine call_wp text3 (by simp) (hN.o3 _ _) ?_
  have hlw : ∀ w' : AW, (∀ x, x < w.next → w'.heap.get x = w.heap.get x) → hasAll w' laidL = true := fun w' h => by
    rw [← hlaid]
    exact hasAll_congr _ fun x hx => h _ (by have := laid_lt x hx; omega)
  obtain ⟨ro, gS⟩ := start_of hlaid
  have hlr := fun w => len30V hrv w
  have lw : w.lim ≤ w.next + 1 := by omega
  by_cases h0 : rs.length = 0
  · have hpos : ¬ (0 : Int) < (rs.length : Nat) := by omega
    obtain ⟨w1, ew1⟩ : ∃ w1 : AW, w1 = ⟨(w.heap.put w.next (some (.cells (seaC s dv cv) 29 false))).put (w.next + 1) (some (.cells [.int .i64 0, .int .i64 0] 32 false)), w.next + 1 + 1, w.lim⟩ := ⟨_, rfl⟩
    have k1 : ∀ x, x < w.next → w1.heap.get x = w.heap.get x := fun x hx => by rw [ew1]; simp [show ¬ x = w.next by omega, show ¬ x = w.next + 1 by omega]
    have n1 : w1.next = w.next + 2 := by rw [ew1]
    have l1 : w1.lim = w.lim := by rw [ew1]
    have gs1 : w1.heap.get w.next = some (.cells (seaC s dv cv) 29 false) := by rw [ew1]; simp
    have gr1 : w1.heap.get (w.next + 1) = some (.cells (racC ⟨0, 0⟩) 32 false) := by rw [ew1]; simp [racC]
    have hv1 := hv.old k1 (by omega : w.next ≤ w1.next)
    have hu1 := hu.old k1 (by omega : w.next ≤ w1.next)
    have r6 := rule6 hN.n8.p6 ⟨0, 0⟩ (s := s) hv1 hu1 98
    obtain ⟨a, ha⟩ : ∃ a, a = oA s l c ⟨0, 0⟩ := ⟨_, rfl⟩
    obtain ⟨b, hb⟩ : ∃ a, a = oB s l c ⟨0, 0⟩ := ⟨_, rfl⟩
    obtain ⟨e, he⟩ : ∃ a, a = oE s l c ⟨0, 0⟩ := ⟨_, rfl⟩
    rw [← ha, ← hb, ← he] at r6
    obtain ⟨w2, ew2⟩ : ∃ w2 : AW, w2 = ⟨(w1.heap.put w1.next (some (.cells [.int .i64 0, .int .i64 0] 24 false))).put w1.next (some (.cells [.int .i64 a, .int .i64 b] 24 false)), w1.next + 1, w1.lim⟩ := ⟨_, rfl⟩
    have k2 : ∀ x, x < w1.next → w2.heap.get x = w1.heap.get x := fun x hx => by rw [ew2]; simp [show ¬ x = w1.next by omega]
    have n2 : w2.next = w1.next + 1 := by rw [ew2]
    have l2 : w2.lim = w1.lim := by rw [ew2]
    have ga2 : w2.heap.get w1.next = some (.cells [.int .i64 a, .int .i64 b] 24 false) := by rw [ew2]; simp
    obtain ⟨_, w3, c7, rfl, o3, n3, l3⟩ := call7 (ov := ov) 95 hN.o7 hN.o26 hN.o27 hN.p24 hN.p25 hN.p28 hN.p56 hN.p57 hN.p58 s l c ⟨0, 0⟩ dv cv w2 (by omega) (hv1.old k2 (by omega)) (hu1.old k2 (by omega))
    rw [← ha, ← hb, ← he] at c7
    obtain ⟨w4, ew4⟩ : ∃ w4 : AW, w4 = ⟨(w3.heap.put w3.next (some (.cells [.int .i64 0, .int .i64 0] 24 false))).put w3.next (some (.cells [.int .i64 a, .int .i64 b] 24 false)), w3.next + 1, w3.lim⟩ := ⟨_, rfl⟩
    have k4 : ∀ x, x < w3.next → w4.heap.get x = w3.heap.get x := fun x hx => by rw [ew4]; simp [show ¬ x = w3.next by omega]
    have n4 : w4.next = w3.next + 1 := by rw [ew4]
    have l4 : w4.lim = w3.lim := by rw [ew4]
    have kk4 : ∀ x, x < w2.next → w4.heap.get x = w2.heap.get x := fun x hx => by rw [k4 x (by omega), o3 x hx]
    have k04 : ∀ x, x < w.next → w4.heap.get x = w.heap.get x := fun x hx => by rw [kk4 x (by omega), k2 x (by omega), k1 x hx]
    have ga3 : w3.heap.get w1.next = some (.cells [.int .i64 a, .int .i64 b] 24 false) := by rw [o3 _ (by omega)]; exact ga2
    have ga4 : w4.heap.get w1.next = some (.cells [.int .i64 a, .int .i64 b] 24 false) := by rw [k4 _ (by omega)]; exact ga3
    have gb4 : w4.heap.get w3.next = some (.cells [.int .i64 a, .int .i64 b] 24 false) := by rw [ew4]; simp
    have gs2 : w2.heap.get w.next = some (.cells (seaC s dv cv) 29 false) := by rw [k2 _ (by omega)]; exact gs1
    have gr2 : w2.heap.get (w.next + 1) = some (.cells (racC ⟨0, 0⟩) 32 false) := by rw [k2 _ (by omega)]; exact gr1
    have gs4 : w4.heap.get w.next = some (.cells (seaC s dv cv) 29 false) := by rw [kk4 _ (by omega)]; exact gs2
    obtain ⟨_, w5, c8, rfl, o5, n5, l5⟩ := call8g (ov := ov) 92 hN.n8 s l c rs D dv cv rv w4 (by omega) (by omega) (hv.old k04 (by omega)) (hu.old k04 (by omega)) (hrv.old k04 (by omega)) ro (by rw [k04 _ (by omega)]; exact gS)
    obtain ⟨x1, hx1⟩ : ∃ a, a = flV s l c rs false D := ⟨_, rfl⟩
    obtain ⟨x2, hx2⟩ : ∃ a, a = flV s l c rs true D := ⟨_, rfl⟩
    obtain ⟨x3, hx3⟩ : ∃ a, a = flE s l c rs D := ⟨_, rfl⟩
    rw [← hx1, ← hx2, ← hx3] at c8
    have ga5 : w5.heap.get w1.next = some (.cells [.int .i64 a, .int .i64 b] 24 false) := by rw [o5 _ (by omega)]; exact ga4
    obtain ⟨w6, ew6⟩ : ∃ w6 : AW, w6 = ⟨w5.heap.put w1.next (some (.cells [.int .i64 x1, .int .i64 x2] 24 false)), w5.next, w5.lim⟩ := ⟨_, rfl⟩
    have k6 : ∀ x, x ≠ w1.next → w6.heap.get x = w5.heap.get x := fun x hx => by rw [ew6]; simp [hx]
    have n6 : w6.next = w5.next := by rw [ew6]
    have l6 : w6.lim = w5.lim := by rw [ew6]
    have k06 : ∀ x, x < w.next → w6.heap.get x = w.heap.get x := fun x hx => by rw [k6 x (by omega), o5 x (by omega), k04 x hx]
    have gs6 : w6.heap.get w.next = some (.cells (seaC s dv cv) 29 false) := by rw [k6 _ (by omega), o5 _ (by omega)]; exact gs4
    have gb6 : w6.heap.get w3.next = some (.cells [.int .i64 a, .int .i64 b] 24 false) := by rw [k6 _ (by omega), o5 _ (by omega)]; exact gb4
    have ga6 : w6.heap.get w1.next = some (.cells [.int .i64 x1, .int .i64 x2] 24 false) := by rw [ew6]; simp
    obtain ⟨_, w7, c9, rfl, o7, n7, l7⟩ := call9 (ov := ov) 95 hN.o9 hN.o32 hN.o26 hN.o27 hN.n8.p15 hN.p24 hN.p25 hN.p56 hN.p57 hN.p58 hN.p61 s l c rs D dv cv rv w6 (by omega) (hv.old k06 (by omega)) (hu.old k06 (by omega)) (hrv.old k06 (by omega))
    rw [← hx1, ← hx2, ← hx3] at c9
    have ga7 : w7.heap.get w1.next = some (.cells [.int .i64 x1, .int .i64 x2] 24 false) := by rw [o7 _ (by omega)]; exact ga6
    have gb7 : w7.heap.get w3.next = some (.cells [.int .i64 a, .int .i64 b] 24 false) := by rw [o7 _ (by omega)]; exact gb6
    have m1 : ¬ w.next = w1.next := by omega
    have m2 : ¬ w.next + 1 = w1.next := by omega
    have m3 : ¬ w1.next = w3.next := by omega
    have m4 : ¬ w.next = w3.next := by omega
    have m5 : ¬ w.next + 1 = w3.next := by omega
    have q1 : w1.lim ≤ w1.next := by omega
    have q3 : w3.lim ≤ w3.next := by omega
    have q5 : w5.lim ≤ w1.next := by omega
    have q7 : w7.lim ≤ w3.next := by omega
    have kW := ruleW hW (w := ⟨w7.heap.put w3.next (some (.cells [.int .i64 x1, .int .i64 x2] 24 false)), w7.next, w7.lim⟩) (hlw _ fun x hx => by show (w7.heap.put _ _).get x = _; rw [get_put, if_neg (by omega), o7 x (by omega), k06 x hx]) 98
    rw [ew1] at r6
    rw [ew2] at c7
    rw [ew4] at c8
    rw [ew6] at c9
    simp only [seaC, racC] at r6 c7 c8 c9 gs1 gr1 gs2 gr2 gs4 gs6 
    have gs3 := o3 w.next (by omega)
    have gr3 := o3 (w.next + 1) (by omega)
    rw [gs2] at gs3
    rw [gr2] at gr3
    have gs5 := o5 w.next (by omega)
    rw [gs4] at gs5
    rw [ew1] at gs1 gr1
    simp only [ew1] at c7 c9 ga3 ga5 ga7 m1 m2 m3 q1 q5
    simp only [seaC, racC, Nat.reduceAdd] at r6 c7 c8 c9 kW gs1 gr1
    simp [mc3, seaC, racC, cellsOf_agg, hlr, hpos, h0, r6, c7, c8, c9, gs1, gr1, gs3, gr3, gs5, ga3, ga5, ga7, gb7, m1, m2, m3, m4, m5, Ne.symm m3, q1, q3, q5, q7, lw, eq_dk, kW, tupV]
  · obtain ⟨r, hr0⟩ : ∃ r, rs[0]? = some r := ⟨_, List.getElem?_eq_getElem (by omega)⟩
    obtain ⟨bl, off, sq, rc, hrv', hrr⟩ := hrv.at_ 0 (by omega)
    have hbl := hrr.2
    have lr := hrr.rd (m := 2) racC_length hr0
    simp only [Nat.zero_mul, Nat.add_zero] at lr
    have iar := fun w => ia30 w ⟨bl, off, sq⟩ rs.length rc .i64 0 (by omega)
    simp only [Nat.zero_mul, Int.natCast_zero] at iar
    have m0 : ¬ bl = w.next := by omega
    have m0' : ¬ bl = w.next + 1 := by omega
    have hpos : (0 : Int) < (rs.length : Nat) := by omega
    have hpN : 0 < rs.length := by omega
    obtain ⟨w1, ew1⟩ : ∃ w1 : AW, w1 = ⟨((w.heap.put w.next (some (.cells (seaC s dv cv) 29 false))).put (w.next + 1) (some (.cells [.int .i64 0, .int .i64 0] 32 false))).put (w.next + 1) (some (.cells (racC r) 32 false)), w.next + 1 + 1, w.lim⟩ := ⟨_, rfl⟩
    have k1 : ∀ x, x < w.next → w1.heap.get x = w.heap.get x := fun x hx => by rw [ew1]; simp [show ¬ x = w.next by omega, show ¬ x = w.next + 1 by omega]
    have n1 : w1.next = w.next + 2 := by rw [ew1]
    have l1 : w1.lim = w.lim := by rw [ew1]
    have gs1 : w1.heap.get w.next = some (.cells (seaC s dv cv) 29 false) := by rw [ew1]; simp
    have gr1 : w1.heap.get (w.next + 1) = some (.cells (racC r) 32 false) := by rw [ew1]; simp [racC]
    have hv1 := hv.old k1 (by omega : w.next ≤ w1.next)
    have hu1 := hu.old k1 (by omega : w.next ≤ w1.next)
    have r6 := rule6 hN.n8.p6 r (s := s) hv1 hu1 98
    obtain ⟨a, ha⟩ : ∃ a, a = oA s l c r := ⟨_, rfl⟩
    obtain ⟨b, hb⟩ : ∃ a, a = oB s l c r := ⟨_, rfl⟩
    obtain ⟨e, he⟩ : ∃ a, a = oE s l c r := ⟨_, rfl⟩
    rw [← ha, ← hb, ← he] at r6
    obtain ⟨w2, ew2⟩ : ∃ w2 : AW, w2 = ⟨(w1.heap.put w1.next (some (.cells [.int .i64 0, .int .i64 0] 24 false))).put w1.next (some (.cells [.int .i64 a, .int .i64 b] 24 false)), w1.next + 1, w1.lim⟩ := ⟨_, rfl⟩
    have k2 : ∀ x, x < w1.next → w2.heap.get x = w1.heap.get x := fun x hx => by rw [ew2]; simp [show ¬ x = w1.next by omega]
    have n2 : w2.next = w1.next + 1 := by rw [ew2]
    have l2 : w2.lim = w1.lim := by rw [ew2]
    have ga2 : w2.heap.get w1.next = some (.cells [.int .i64 a, .int .i64 b] 24 false) := by rw [ew2]; simp
    obtain ⟨_, w3, c7, rfl, o3, n3, l3⟩ := call7 (ov := ov) 95 hN.o7 hN.o26 hN.o27 hN.p24 hN.p25 hN.p28 hN.p56 hN.p57 hN.p58 s l c r dv cv w2 (by omega) (hv1.old k2 (by omega)) (hu1.old k2 (by omega))
    rw [← ha, ← hb, ← he] at c7
    obtain ⟨w4, ew4⟩ : ∃ w4 : AW, w4 = ⟨(w3.heap.put w3.next (some (.cells [.int .i64 0, .int .i64 0] 24 false))).put w3.next (some (.cells [.int .i64 a, .int .i64 b] 24 false)), w3.next + 1, w3.lim⟩ := ⟨_, rfl⟩
    have k4 : ∀ x, x < w3.next → w4.heap.get x = w3.heap.get x := fun x hx => by rw [ew4]; simp [show ¬ x = w3.next by omega]
    have n4 : w4.next = w3.next + 1 := by rw [ew4]
    have l4 : w4.lim = w3.lim := by rw [ew4]
    have kk4 : ∀ x, x < w2.next → w4.heap.get x = w2.heap.get x := fun x hx => by rw [k4 x (by omega), o3 x hx]
    have k04 : ∀ x, x < w.next → w4.heap.get x = w.heap.get x := fun x hx => by rw [kk4 x (by omega), k2 x (by omega), k1 x hx]
    have ga3 : w3.heap.get w1.next = some (.cells [.int .i64 a, .int .i64 b] 24 false) := by rw [o3 _ (by omega)]; exact ga2
    have ga4 : w4.heap.get w1.next = some (.cells [.int .i64 a, .int .i64 b] 24 false) := by rw [k4 _ (by omega)]; exact ga3
    have gb4 : w4.heap.get w3.next = some (.cells [.int .i64 a, .int .i64 b] 24 false) := by rw [ew4]; simp
    have gs2 : w2.heap.get w.next = some (.cells (seaC s dv cv) 29 false) := by rw [k2 _ (by omega)]; exact gs1
    have gr2 : w2.heap.get (w.next + 1) = some (.cells (racC r) 32 false) := by rw [k2 _ (by omega)]; exact gr1
    have gs4 : w4.heap.get w.next = some (.cells (seaC s dv cv) 29 false) := by rw [kk4 _ (by omega)]; exact gs2
    obtain ⟨_, w5, c8, rfl, o5, n5, l5⟩ := call8g (ov := ov) 92 hN.n8 s l c rs D dv cv rv w4 (by omega) (by omega) (hv.old k04 (by omega)) (hu.old k04 (by omega)) (hrv.old k04 (by omega)) ro (by rw [k04 _ (by omega)]; exact gS)
    obtain ⟨x1, hx1⟩ : ∃ a, a = flV s l c rs false D := ⟨_, rfl⟩
    obtain ⟨x2, hx2⟩ : ∃ a, a = flV s l c rs true D := ⟨_, rfl⟩
    obtain ⟨x3, hx3⟩ : ∃ a, a = flE s l c rs D := ⟨_, rfl⟩
    rw [← hx1, ← hx2, ← hx3] at c8
    have ga5 : w5.heap.get w1.next = some (.cells [.int .i64 a, .int .i64 b] 24 false) := by rw [o5 _ (by omega)]; exact ga4
    obtain ⟨w6, ew6⟩ : ∃ w6 : AW, w6 = ⟨w5.heap.put w1.next (some (.cells [.int .i64 x1, .int .i64 x2] 24 false)), w5.next, w5.lim⟩ := ⟨_, rfl⟩
    have k6 : ∀ x, x ≠ w1.next → w6.heap.get x = w5.heap.get x := fun x hx => by rw [ew6]; simp [hx]
    have n6 : w6.next = w5.next := by rw [ew6]
    have l6 : w6.lim = w5.lim := by rw [ew6]
    have k06 : ∀ x, x < w.next → w6.heap.get x = w.heap.get x := fun x hx => by rw [k6 x (by omega), o5 x (by omega), k04 x hx]
    have gs6 : w6.heap.get w.next = some (.cells (seaC s dv cv) 29 false) := by rw [k6 _ (by omega), o5 _ (by omega)]; exact gs4
    have gb6 : w6.heap.get w3.next = some (.cells [.int .i64 a, .int .i64 b] 24 false) := by rw [k6 _ (by omega), o5 _ (by omega)]; exact gb4
    have ga6 : w6.heap.get w1.next = some (.cells [.int .i64 x1, .int .i64 x2] 24 false) := by rw [ew6]; simp
    obtain ⟨_, w7, c9, rfl, o7, n7, l7⟩ := call9 (ov := ov) 95 hN.o9 hN.o32 hN.o26 hN.o27 hN.n8.p15 hN.p24 hN.p25 hN.p56 hN.p57 hN.p58 hN.p61 s l c rs D dv cv rv w6 (by omega) (hv.old k06 (by omega)) (hu.old k06 (by omega)) (hrv.old k06 (by omega))
    rw [← hx1, ← hx2, ← hx3] at c9
    have ga7 : w7.heap.get w1.next = some (.cells [.int .i64 x1, .int .i64 x2] 24 false) := by rw [o7 _ (by omega)]; exact ga6
    have gb7 : w7.heap.get w3.next = some (.cells [.int .i64 a, .int .i64 b] 24 false) := by rw [o7 _ (by omega)]; exact gb6
    have m1 : ¬ w.next = w1.next := by omega
    have m2 : ¬ w.next + 1 = w1.next := by omega
    have m3 : ¬ w1.next = w3.next := by omega
    have m4 : ¬ w.next = w3.next := by omega
    have m5 : ¬ w.next + 1 = w3.next := by omega
    have q1 : w1.lim ≤ w1.next := by omega
    have q3 : w3.lim ≤ w3.next := by omega
    have q5 : w5.lim ≤ w1.next := by omega
    have q7 : w7.lim ≤ w3.next := by omega
    have kW := ruleW hW (w := ⟨w7.heap.put w3.next (some (.cells [.int .i64 x1, .int .i64 x2] 24 false)), w7.next, w7.lim⟩) (hlw _ fun x hx => by show (w7.heap.put _ _).get x = _; rw [get_put, if_neg (by omega), o7 x (by omega), k06 x hx]) 98
    rw [ew1] at r6
    rw [ew2] at c7
    rw [ew4] at c8
    rw [ew6] at c9
    subst hrv'
    simp only [seaC, racC] at r6 c7 c8 c9 gs1 gr1 gs2 gr2 gs4 gs6 lr
    have gs3 := o3 w.next (by omega)
    have gr3 := o3 (w.next + 1) (by omega)
    rw [gs2] at gs3
    rw [gr2] at gr3
    have gs5 := o5 w.next (by omega)
    rw [gs4] at gs5
    rw [ew1] at gs1 gr1
    simp only [ew1] at c7 c9 ga3 ga5 ga7 m1 m2 m3 q1 q5
    simp only [seaC, racC, Nat.reduceAdd] at r6 c7 c8 c9 kW gs1 gr1
    simp [mc3, seaC, racC, cellsOf_agg, hlr, iar, lr, m0, m0', hpos, hpN, r6, c7, c8, c9, gs1, gr1, gs3, gr3, gs5, ga3, ga5, ga7, gb7, m1, m2, m3, m4, m5, Ne.symm m3, q1, q3, q5, q7, lw, eq_dk, kW, tupV]
end Go.Proofs.YtimnfedgbkgdeaaGreatDoor.walk
