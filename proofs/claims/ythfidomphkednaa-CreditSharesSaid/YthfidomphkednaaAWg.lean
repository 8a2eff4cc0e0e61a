/- Part of a proof by a machine of ones own: see the text with the theorem. -/
import Derived.Test.YthfidomphkednaaAWf
import Derived.Test.YthfidomphkednaaAWe
namespace Go.Proofs.Ythfidomphkednaa.walk
open Go Go.Sh
set_option maxRecDepth 100000
set_option linter.unusedSimpArgs false
set_option linter.unusedVariables false
/-! Share -/
def shrA (P : List Int) : Bool := inI 1 P.length 8 && P.all fun z => inI 0 z 1000
def shrB (P : List Int) : Bool := shrA P && decide (0 < totL P)
theorem shA_tot {P : List Int} (h : shrA P = true) : totW P = totL P := by
  simp only [shrA, inI, Bool.and_eq_true, decide_eq_true_eq, List.all_eq_true] at h
  exact totW_eq (fun z hz => by have := h.2 z hz; omega) (by omega)
def S58 : PSpec where
  R args w v := ∃ (a : Value) (P : List Int), args = [a] ∧ RowsV intC w a P ∧ P.length ≤ 2 ^ 60 ∧ v = .bool (shrB P)
  uniq := by
    rintro _ _ _ _ ⟨a, U, rfl, h1, _, rfl⟩ ⟨a', U', e, k1, _, rfl⟩
    cases e
    rw [h1.uniq (m := 1) intC_length intC_inj k1]
  shut h := h
theorem run58 {ov : Ov} (ho : ∀ args w, ov 58 args w = none) (h57 : HasP ov 57 S32.F) (h62 : HasP ov 62 S62.F) (P : List Int) (hlen : P.length ≤ 2 ^ 60) (a : Value) (w : AW) (hv : RowsV intC w a P) : ∃ y w', (run Try.prog ov 2).call 58 [a] w .none = .ok (.ret y) w' .none ∧ y = .bool (shrB P) := by
  refine call_wp text58 (by simp) (ho _ _) ?_
  have hla := fun w2 => len26V (w' := w2) hv
  have r57 := fun (n a b : Int) (w : AW) => S32.call1 (P := Try.prog) h57 (w := w) ⟨n, a, b, rfl, rfl⟩
  cases hI : inI 1 (P.length : Int) 8 with
  | false =>
    have e : shrB P = false := by unfold shrB shrA; rw [hI]; rfl
    simp [mc58, hla, r57, hI, tupV, e]
  | true =>
    have hI' := hI
    simp only [inI, Bool.and_eq_true, decide_eq_true_eq] at hI'
    simp [mc58, hla, r57, hI]
    refine wp_seqX (wp_blockX (wp_rounds (fun i t w' => w' = w ∧ tget t 0 = a ∧ tget t 9 = a ∧ tget t 10 = .int .i64 (P.length : Nat) ∧ tget t 11 = .int .i64 (i : Nat) ∧ i ≤ P.length ∧ (∀ j z, j < i → P[j]? = some z → inI 0 z 1000 = true)) 20 (by decide) ⟨rfl, by simp, by simp, by simp, by simp, by omega, fun j z h => by omega⟩ ?_))
    rintro i t w' ⟨rfl, t0, t9, t10, t11, hi, hall⟩
    by_cases hlt : i < P.length
    · have hlt' : (i : Int) < (P.length : Int) := by omega
      obtain ⟨z, hz⟩ : ∃ z, P[i]? = some z := ⟨_, List.getElem?_eq_getElem hlt⟩
      obtain ⟨b1, o1, s1, c1, rfl, ld1, ia1⟩ := row_ld hv hz
      have hw1' : IntKind.wrap .i64 ((i : Int) + 1) = (i : Int) + 1 := wrap64_in (by omega) (by omega)
      cases hc : inI 0 z 1000 with
      | false =>
        have e : shrB P = false := by
          have : (P.all fun z => inI 0 z 1000) = false := by
            rw [List.all_eq_false]
            exact ⟨z, List.mem_of_getElem? hz, by rw [hc]; decide⟩
          unfold shrB shrA; rw [this, Bool.and_false]; rfl
        simp [mc58_l0, t0, t9, t10, t11, hlt', ia1, ld1, r57, hc, tupV, e]
      | true =>
        simp [mc58_l0, t0, t9, t10, t11, hlt', ia1, ld1, r57, hc, hw1']
        refine ⟨by omega, hlt, fun j y hj hy => ?_⟩
        rcases Nat.lt_succ_iff_lt_or_eq.1 hj with h | rfl
        · exact hall j y h hy
        · rw [hz] at hy; cases hy; exact hc
    · have hi' : i = P.length := by omega
      subst hi'
      have hA : shrA P = true := by
        unfold shrA
        rw [hI, Bool.true_and, List.all_eq_true]
        intro z hz
        obtain ⟨j, hj⟩ := List.getElem?_of_mem hz
        exact hall j z (List.getElem?_eq_some_iff.1 hj).1 hj
      have r62 := S62.call1 (P := Try.prog) h62 (w := w') ⟨a, P, rfl, hv, hlen, rfl⟩
      rw [shA_tot hA] at r62
      have e : shrB P = decide (0 < totL P) := by unfold shrB; rw [hA]; rfl
      simp [mc58_l0, t0, t9, t10, t11, r62, tupV, e]
def shrE (S : Int) (P : List Int) : Int := if inI 0 S 1000000 = true then (if shrB P = true then 0 else 92) else 7
theorem sh_ok {S : Int} {P : List Int} (h : shrE S P = 0) : ShOk P.length S (totL P) (liF P) := by
  unfold shrE at h
  split at h
  · rename_i h1
    split at h
    · rename_i h2
      simp only [shrB, shrA, inI, Bool.and_eq_true, decide_eq_true_eq, List.all_eq_true] at h1 h2
      refine ⟨by omega, by omega, h1, fun k hk => ?_, ?_, by omega⟩
      · obtain ⟨z, hz⟩ : ∃ z, P[k]? = some z := ⟨_, List.getElem?_eq_getElem hk⟩
        rw [liF_at hz]
        exact h2.1.2 z (List.mem_of_getElem? hz)
      · rw [← totL_ls, payV_rows]
    · cases h
  · cases h
theorem call28 {ov : Ov} (m : Nat) (ho : ∀ args w, ov 28 args w = none) (ho59 : ∀ args w, ov 59 args w = none) (ho72 : ∀ args w, ov 72 args w = none) (ho78 : ∀ args w, ov 78 args w = none) (ho84 : ∀ args w, ov 84 args w = none) (h57 : HasP ov 57 S32.F) (h58 : HasP ov 58 S58.F) (h62 : HasP ov 62 S62.F) (h73 : HasP ov 73 S73.F) (h79 : HasP ov 79 S93.F) (S : Int) (P : List Int) (hlen : P.length ≤ 2 ^ 60) (av : Value) (w : AW) (hl : w.lim ≤ w.next) (hv : RowsV intC w av P) :
    ∃ v w', (run Try.prog ov (m + 6)).call 28 [.int .i64 S, av] w .none = .ok (.ret v) w' .none ∧ (∃ v1 U, v = .tuple ⟨[v1, .int .i64 (shrE S P)]⟩ ∧ RowsV intC w' v1 U ∧ (shrE S P = 0 → ShG P.length S (totL P) (liF P) U) ∧ (shrE S P ≠ 0 → U = [])) ∧ Up w w' := by
  refine call_wp text28 (by simp) (ho _ _) ?_
  have nn : notJunk (.slice none 0 0) = some (.slice none 0 0) := rfl
  have r57 := fun (n a b : Int) (w : AW) => S32.call (P := Try.prog) h57 (m := m + 4) (w := w) ⟨n, a, b, rfl, rfl⟩
  have r58 := S58.call (P := Try.prog) h58 (m := m + 4) (w := w) ⟨av, P, rfl, hv, hlen, rfl⟩
  have hnil : ∀ w : AW, RowsV intC w (.slice none 0 0) [] := fun _ => .inl ⟨rfl, _, _, rfl⟩
  cases hI : inI 0 S 1000000 with
  | false =>
    have e : shrE S P = 7 := by unfold shrE; rw [hI]; rfl
    simp [mc28, r57, hI, nn, tupV, e]
    exact ⟨hnil _, Up.refl _⟩
  | true =>
    cases hB : shrB P with
    | false =>
      have e : shrE S P = 92 := by unfold shrE; rw [hI, hB]; rfl
      rw [hB] at r58
      simp [mc28, r57, r58, hI, nn, tupV, e]
      exact ⟨hnil _, Up.refl _⟩
    | true =>
      have e : shrE S P = 0 := by unfold shrE; rw [hI, hB]; rfl
      rw [hB] at r58
      have hv' : RowsV intC w av (lsF P.length (liF P)) := by rw [payV_rows]; exact hv
      obtain ⟨v, w', c59, ⟨U, hU, hG⟩, u, nj⟩ := call59 (ov := ov) m ho59 ho72 ho78 ho84 h62 h73 h79 P.length S (totL P) (liF P) (sh_ok e) av w hl hv'
      simp [mc28, r57, r58, hI, c59, nj, tupV, e]
      exact ⟨⟨U, hU, hG⟩, u⟩
end Go.Proofs.Ythfidomphkednaa.walk

namespace Go.Proofs.Ythfidomphkednaa.walk
open Go Go.Sh
set_option maxRecDepth 100000
set_option linter.unusedSimpArgs false
set_option linter.unusedVariables false
/-! ref.Share -/
theorem AccQ.pushX {α : Type} {P : Program} {st e : TypeId} {sz : Nat} {f : α → List Value} (h0 : isList P st = true) (h1 : elemA P st = some e) (h2 : szOf P e = some sz) (h3 : smallT P e = true) (hf : ∀ a, (f a).length = sz) (hs : ∀ a, singles (f a) = true) (hz : 0 < sz)
    {n0 : Nat} {w : AW} {v x : Value} {acc : List α} {B : Nat} (h : AccQ f e n0 w v acc B) (hl : w.lim ≤ n0) (hn : n0 < w.next) (hlen : acc.length ≤ 90000) (y : α) (hx : lenA x = some 1) (hx2 : srcCells w sz x = some (f y)) :
    ∃ v' w', append1 P w [st, st] [v, x] = .val v' w' ∧ AccQ f e n0 w' v' (acc ++ [y]) w.next ∧ (∀ x, x < w.next → (acc ≠ [] → x ≠ B) → w'.heap.get x = w.heap.get x) ∧ w'.next = w.next + 1 ∧ w'.lim = w.lim := by
  rcases h with ⟨rfl, rfl⟩ | ⟨rfl, hB, k1, k2, k3⟩
  · refine ⟨_, _, append_nil h0 h1 h2 h3 (m := 1) hx hx2 (by simp [hf]) (by decide) (by decide), .inr ⟨rfl, ?_, ?_, ?_, by simp⟩, fun x hx _ => ?_, rfl, rfl⟩
    · simp
    · exact hn
    · exact Nat.lt_succ_self _
    · show (w.heap.put w.next _).get x = _
      rw [get_put, if_neg (by omega)]
  · refine ⟨_, _, append_full h0 h1 h2 h3 (n := acc.length) (m := 1) (c := acc.flatMap f) hx hx2 (by simp [hf]) (hs y) (by decide) (by omega) hB (flat_length hf acc) (by omega), .inr ⟨?_, ?_, ?_, ?_, by simp⟩, fun x hx hne => ?_, rfl, rfl⟩
    · simp
    · show ((w.heap.put B none).put w.next _).get w.next = _
      rw [get_put, if_pos rfl]; simp
    · exact hn
    · exact Nat.lt_succ_self _
    · have := hne k3
      show ((w.heap.put B none).put w.next _).get x = _
      rw [get_put, if_neg (by omega), get_put, if_neg (by omega)]
def shrT (P : List Int) (i : Nat) : Bool := inI 1 P.length 8 && (P.take i).all fun z => inI 0 z 1000
theorem shrT_step {P : List Int} {i : Nat} {z : Int} (hz : P[i]? = some z) : shrT P (i + 1) = (shrT P i && inI 0 z 1000) := by
  unfold shrT
  rw [List.take_add_one, hz, List.all_append, Bool.and_assoc]
  simp
theorem shrT_all (P : List Int) : shrT P P.length = shrA P := by unfold shrT shrA; rw [List.take_length]
theorem shrT_no {P : List Int} {i : Nat} (h : shrT P i = false) : shrA P = false := by
  cases hA : shrA P with
  | false => rfl
  | true =>
    simp only [shrA, Bool.and_eq_true, List.all_eq_true] at hA
    have : shrT P i = true := by
      simp only [shrT, Bool.and_eq_true, List.all_eq_true]
      exact ⟨hA.1, fun z hz => hA.2 z (List.mem_of_mem_take hz)⟩
    rw [h] at this; cases this
theorem loop29a {ov : Ov} (m : Nat) (h32 : HasP ov 32 S32.F) (P : List Int) (av v0 : Value) (w : AW) (hv : RowsV intC w av P)
    (Q : Ex → Tm → AW → Prop) (t : Tm) (t0 : tget t 0 = v0) (t1 : tget t 1 = av) (t6 : tget t 6 = .bool (inI 1 P.length 8)) (t7 : tget t 7 = .int .i64 0)
    (hQ : ∀ t, tget t 0 = v0 → tget t 1 = av → tget t 6 = .bool (shrA P) → Q (.exit 0) t w) : wp (exM Try.prog (run Try.prog ov (m + 1)) (.loop mc29_l0) t w) Q := by
  refine wp_rounds (fun i t w' => w' = w ∧ tget t 0 = v0 ∧ tget t 1 = av ∧ tget t 6 = .bool (shrT P i) ∧ tget t 7 = .int .i64 (i : Nat) ∧ i ≤ P.length) 20 (by decide) ⟨rfl, t0, t1, by simpa [shrT] using t6, by simpa using t7, Nat.zero_le _⟩ ?_
  clear t0 t1 t6 t7
  rintro i t w' ⟨rfl, t0, t1, t6, t7, hi⟩
  have hla := fun w2 => len26V (w' := w2) hv
  have r32 := fun (n a b : Int) (w : AW) => S32.call (P := Try.prog) h32 (m := m) (w := w) ⟨n, a, b, rfl, rfl⟩
  cases hT : shrT P i with
  | false =>
    rw [hT] at t6
    have e := shrT_no hT
    simp [mc29_l0, t6]
    exact hQ _ (by simp [t0]) (by simp [t1]) (by simp [t6, e])
  | true =>
    rw [hT] at t6
    have h8 : P.length ≤ 8 := by
      simp only [shrT, inI, Bool.and_eq_true, decide_eq_true_eq] at hT
      omega
    by_cases hlt : i < P.length
    · have hlt' : (i : Int) < (P.length : Int) := by omega
      obtain ⟨z, hz⟩ : ∃ z, P[i]? = some z := ⟨_, List.getElem?_eq_getElem hlt⟩
      obtain ⟨b1, o1, s1, c1, rfl, ld1, ia1⟩ := row_ld hv hz
      have hw1' : IntKind.wrap .i64 ((i : Int) + 1) = (i : Int) + 1 := wrap64_in (by omega) (by omega)
      have hst := shrT_step hz
      rw [hT, Bool.true_and] at hst
      simp [mc29_l0, t0, t1, t6, t7, hla, hlt', ia1, ld1, r32, hw1', hst]
      omega
    · have hi' : i = P.length := by omega
      subst hi'
      rw [shrT_all] at hT
      simp [mc29_l0, t1, t6, t7, hla]
      exact hQ _ (by simp [t0]) (by simp [t1]) (by simp [t6, hT])
set_option maxHeartbeats 2000000 in
theorem loop29b {ov : Ov} (m : Nat) (h60 : HasP ov 60 S60.F) (n : Nat) (S W : Int) (x : Int → Int) (hS : ShOk n S W x) (av : Value) (w0 : AW) (n0 : Nat) (hn0 : w0.next = n0) (hl : w0.lim ≤ n0) (hv : RowsV intC w0 av (lsF n x))
    (Q : Ex → Tm → AW → Prop) (t : Tm) (t0 : tget t 0 = .int .i64 S) (t1 : tget t 1 = av) (t8 : tget t 8 = .int .i64 W) (t9 : tget t 9 = .slice none 0 0) (t10 : tget t 10 = .slice none 0 0) (t11 : tget t 11 = .int .i64 S) (t12 : tget t 12 = .int .i64 0)
    (hQ : ∀ t w' B1 B2, Up w0 w' → AccQ intC 3 n0 w' (tget t 9) (lsF n (quF S W x)) B1 → AccQ intC 3 n0 w' (tget t 10) (lsF n (reF S W x)) B2 → B1 ≠ B2 → tget t 11 = .int .i64 (S - totL (lsF n (quF S W x))) → Q (.exit 2) t w') : wp (exM Try.prog (run Try.prog ov (m + 1)) (.loop mc29_l1) t w0) Q := by
  have h8 := hS.n8
  refine wp_rounds (fun i t w' => Up w0 w' ∧ (∃ B1 B2, AccQ intC 3 n0 w' (tget t 9) (lsF i (quF S W x)) B1 ∧ AccQ intC 3 n0 w' (tget t 10) (lsF i (reF S W x)) B2 ∧ (i = 0 ∨ B1 ≠ B2)) ∧ tget t 0 = .int .i64 S ∧ tget t 1 = av ∧ tget t 8 = .int .i64 W ∧ tget t 11 = .int .i64 (S - totL (lsF i (quF S W x))) ∧ tget t 12 = .int .i64 (i : Nat) ∧ i ≤ n) 20 (by decide) ⟨Up.refl _, ⟨0, 0, .inl ⟨by simp [lsF], t9⟩, .inl ⟨by simp [lsF], t10⟩, .inl rfl⟩, t0, t1, t8, by simpa [lsF, totL] using t11, by simpa using t12, Nat.zero_le _⟩ ?_
  clear t0 t1 t8 t9 t10 t11 t12
  rintro i t w' ⟨hup, ⟨B1, B2, ha, hb, hne⟩, t0, t1, t8, t11, t12, hi⟩
  have hlm := hup.lim
  have hnx := hup.next
  have hla := fun w2 => len26V (w' := w2) hv
  rw [lsF_len] at hla
  by_cases hlt : i < n
  · have hlt' : (i : Int) < (n : Int) := by omega
    obtain ⟨b1, o1, s1, c1, rfl, ld1, ia1⟩ := row_ld (hv.up hup) (lsF_at n x hlt)
    have hb1 : b1 < w0.next := by
      rcases hv with ⟨h, _⟩ | ⟨b, o, s, c, e, hr⟩
      · exact absurd (congrArg List.length h) (by rw [lsF_len]; simp; omega)
      · cases e; exact hr.2
    simp only [lsF_len] at ia1
    have hsx := hS.sx hlt
    have hw1 := hS.w1
    have hqu := hS.qu hlt
    have hre := hS.re hlt
    have hw8 := hS.w8
    have hdv := sh_dv S W x i
    have eq1 : quF S W x (i : Int) = S * x (i : Int) / W := rfl
    have els := lsF_succ i (quF S W x)
    have ers := lsF_succ i (reF S W x)
    have htl : totL (lsF (i + 1) (quF S W x)) = totL (lsF i (quF S W x)) + quF S W x (i : Int) := by rw [els, totL_app]; simp [totL]
    have htb : 0 ≤ totL (lsF i (quF S W x)) ∧ totL (lsF i (quF S W x)) ≤ (i : Int) * 1000000000 := by
      rw [totL_ls]
      exact sN_bd fun k hk => hS.qu (by omega)
    obtain ⟨T, hT⟩ : ∃ X, X = totL (lsF i (quF S W x)) := ⟨_, rfl⟩
    rw [← hT] at t11 htl htb
    obtain ⟨X, hX⟩ : ∃ X, X = x (i : Int) := ⟨_, rfl⟩
    rw [← hX] at hsx ld1 eq1 hdv
    obtain ⟨Z, hZ⟩ : ∃ Z, Z = S * X := ⟨_, rfl⟩
    have r60 := fun w => S60.call (P := Try.prog) h60 (m := m) (w := w) ⟨Z, W, rfl, by omega, by omega, rfl⟩
    rw [← hZ] at eq1 hdv hsx
    rw [← eq1] at r60
    obtain ⟨G, hG⟩ : ∃ X, X = quF S W x (i : Int) := ⟨_, rfl⟩
    obtain ⟨R, hR⟩ : ∃ X, X = reF S W x (i : Int) := ⟨_, rfl⟩
    rw [← hG] at r60 hqu els hdv htl
    rw [← hR] at hre ers hdv
    have wm : IntKind.wrap .i64 Z = Z := wrap64_in (by omega) (by omega)
    have egw : G * W = Z - R := by rw [Int.mul_comm]; omega
    have wg : IntKind.wrap .i64 (G * W) = Z - R := by rw [egw]; exact wrap64_in (by omega) (by omega)
    have wr' : IntKind.wrap .i64 (Z - (Z - R)) = R := by rw [wrap64_in (by omega) (by omega)]; omega
    have hS1 := hS.hs
    have wt : IntKind.wrap .i64 (S - T - G) = S - (T + G) := by rw [wrap64_in (by omega) (by omega)]; omega
    have hw1' : IntKind.wrap .i64 ((i : Int) + 1) = (i : Int) + 1 := wrap64_in (by omega) (by omega)
    obtain ⟨wa, hwa⟩ : ∃ wa, (⟨(w'.heap.put w'.next (some (.cells [.int .i64 G] 3 false))).put (w'.next + 1) (some (.cells [.int .i64 R] 3 false)), w'.next + 1 + 1, w'.lim⟩ : AW) = wa := ⟨_, rfl⟩
    have ua : Up w' wa := by rw [← hwa]; exact ((Up.refl w').put (Nat.le_refl _) (Nat.le_refl _)).put (Nat.le_succ _) (by omega)
    have na : wa.next = w'.next + 1 + 1 := by rw [← hwa]
    have ma : wa.lim = w'.lim := by rw [← hwa]
    have hx1 : RowsV intC wa (.slice (some ⟨w'.next, 0, none⟩) 1 1) [G] := .inr ⟨w'.next, 0, none, 1, rfl, ⟨[], [], 3, false, by rw [← hwa]; simp [intC], rfl⟩, by omega⟩
    have hx2 : RowsV intC wa (.slice (some ⟨w'.next + 1, 0, none⟩) 1 1) [R] := .inr ⟨w'.next + 1, 0, none, 1, rfl, ⟨[], [], 3, false, by rw [← hwa]; simp [intC], rfl⟩, by omega⟩
    have haA := ha.keep (w' := wa) (fun _ _ h => ua.at h) ua.next
    have hbA := hb.keep (w' := wa) (fun _ _ h => ua.at h) ua.next
    obtain ⟨v', w4, hap, ha', hkp, hn4, hl4⟩ := AccQ.pushX (P := Try.prog) (st := 26) (sz := 1) list26 elem26 size3 small3 intC_length (fun _ => by simp [intC]) (by decide) haA (by omega) (by omega) (by rw [lsF_len]; omega) G (src_rows intC_length (by decide) hx1 (by simp)).2 (by simpa using (src_rows intC_length (by decide) hx1 (by simp)).1)
    rw [← els] at ha'
    have hB2n : srL i (reF S W x) ≠ [] → True := fun _ => trivial
    have hl1 := ha'.lt (by rw [els]; simp)
    have hbl : lsF i (reF S W x) ≠ [] → n0 < B2 ∧ B2 < w'.next := fun h => hb.lt h
    have hal : lsF i (quF S W x) ≠ [] → n0 < B1 ∧ B1 < w'.next := fun h => ha.lt h
    have hb4 : AccQ intC 3 n0 w4 (tget t 10) (lsF i (reF S W x)) B2 := hbA.keep (fun hne2 h1 h2 => hkp B2 h2 (fun h => by
      rcases hne with rfl | hne
      · exact absurd (by simp [lsF]) h
      · exact fun e => hne e.symm)) (by omega)
    have hx2' : RowsV intC w4 (.slice (some ⟨w'.next + 1, 0, none⟩) 1 1) [R] := .inr ⟨w'.next + 1, 0, none, 1, rfl, ⟨[], [], 3, false, by rw [hkp (w'.next + 1) (by omega) (fun h => by have := hal h; omega), ← hwa]; simp [intC], rfl⟩, by omega⟩
    obtain ⟨v5, w6, hap2, hb', hkp2, hn6, hl6⟩ := AccQ.pushX (P := Try.prog) (st := 26) (sz := 1) list26 elem26 size3 small3 intC_length (fun _ => by simp [intC]) (by decide) hb4 (by omega) (by omega) (by rw [lsF_len]; omega) R (src_rows intC_length (by decide) hx2' (by simp)).2 (by simpa using (src_rows intC_length (by decide) hx2' (by simp)).1)
    rw [← ers] at hb'
    have ha6 : AccQ intC 3 n0 w6 v' (lsF (i + 1) (quF S W x)) wa.next := ha'.keep (fun h1 h2 h3 => hkp2 wa.next h3 (fun h => by have := hbl h; omega)) (by omega)
    have z1 : ¬ b1 = w'.next := by omega
    have z2 : ¬ b1 = w'.next + 1 := by omega
    have hga : wa.heap.get b1 = w'.heap.get b1 := ua.at (by omega)
    have hg4 : w4.heap.get b1 = w'.heap.get b1 := by rw [hkp b1 (by omega) (fun h => by have := (hal h).1; omega), hga]
    simp [mc29_l1, t0, t1, t8, t11, t12, hla, hlt', ia1, ld1, z1, z2, hga, hg4, ← hZ, wm, r60, wg, wr', hwa, hap, hap2, wt, hw1', htl]
    refine ⟨by omega, ⟨fun y hy => ?_, by omega, by omega⟩, ⟨wa.next, ha6, w4.next, hb', by omega⟩, hlt⟩
    have h1 : w4.heap.get y = wa.heap.get y := hkp y (by omega) (fun h => by have := (hal h).1; omega)
    have h2 : w6.heap.get y = w4.heap.get y := hkp2 y (by omega) (fun h => by have := (hbl h).1; omega)
    rw [h2, h1, ua.at (by omega)]
    exact hup.at hy
  · have hi' : i = n := by omega
    subst hi'
    have hn1 := hS.n1
    simp [mc29_l1, t1, t12, hla]
    rcases hne with rfl | hne
    · omega
    · exact hQ _ _ B1 B2 hup (by simpa using ha) (by simpa using hb) hne (by simp [t11])
end Go.Proofs.Ythfidomphkednaa.walk

namespace Go.Proofs.Ythfidomphkednaa.walk
open Go Go.Sh
set_option maxRecDepth 100000
set_option linter.unusedSimpArgs false
set_option linter.unusedVariables false
/-- the first of the greatest of the first k -/
def FM (f : Int → Int) (k j : Nat) : Prop := (j < k ∨ (k = 0 ∧ j = 0)) ∧ (∀ q : Nat, q < j → f (q : Int) < f (j : Int)) ∧ (∀ q : Nat, q < k → f (q : Int) ≤ f (j : Int))
theorem FM.uniq {f : Int → Int} {k i j : Nat} (h1 : FM f k i) (h2 : FM f k j) (hk : 0 < k) : i = j := by
  obtain ⟨a1, a2, a3⟩ := h1
  obtain ⟨b1, b2, b3⟩ := h2
  by_cases e : i < j
  · have := b2 i e
    have := a3 j (by omega)
    omega
  · by_cases e' : j < i
    · have := a2 j e'
      have := b3 i (by omega)
      omega
    · omega
/-- what remains, the given ones being out -/
def dnT (r : Int → Int) (L : List Sr) (i : Nat) : Int → Int := fun p => if p ∈ (L.take i).map Sr.a then -1 else r p
theorem dnT_zero (r : Int → Int) (L : List Sr) : dnT r L 0 = r := by funext p; simp [dnT]
theorem dnT_step {r : Int → Int} {L : List Sr} {i : Nat} {s : Sr} (hs : L[i]? = some s) : updF (dnT r L i) s.a (-1) = dnT r L (i + 1) := by
  have e : (L.take (i + 1)).map Sr.a = (L.take i).map Sr.a ++ [s.a] := by
    rw [List.take_add_one, hs, List.map_append]; rfl
  funext p
  unfold updF dnT
  rw [e]
  by_cases hp : p = s.a
  · subst hp
    rw [if_pos rfl, if_pos (by simp)]
  · rw [if_neg hp]
    by_cases hm : p ∈ (L.take i).map Sr.a
    · rw [if_pos hm, if_pos (List.mem_append_left _ hm)]
    · rw [if_neg hm, if_neg (by
        rw [List.mem_append]
        rintro (h | h)
        · exact hm h
        · simp at h; exact hp h)]
theorem not_taken {L : List Sr} (hd : (L.map Sr.a).Nodup) {i j : Nat} {s : Sr} (hs : L[j]? = some s) (hij : i ≤ j) : s.a ∉ (L.take i).map Sr.a := by
  intro hm
  rw [List.map_take] at hm
  obtain ⟨q, hq⟩ := List.getElem?_of_mem hm
  have hqi : q < i := by
    have := (List.getElem?_eq_some_iff.1 hq).1
    rw [List.length_take] at this
    omega
  rw [List.getElem?_take_of_lt hqi] at hq
  have hj : (L.map Sr.a)[j]? = some s.a := by rw [List.getElem?_map, hs]; rfl
  obtain ⟨h1, e1⟩ := List.getElem?_eq_some_iff.1 hq
  obtain ⟨h2, e2⟩ := List.getElem?_eq_some_iff.1 hj
  have := (List.pairwise_iff_getElem.1 hd) q j h1 h2 (by omega)
  exact this (by rw [e1, e2])
/-- the next of the order is the first of the greatest that remain -/
theorem next_fm {n : Nat} {S W : Int} {x : Int → Int} (hS : ShOk n S W x) {L : List Sr} (hp : L.Perm (srL n (reF S W x))) (hs : SortTo keyS L n) {i k : Nat} {s : Sr} (hi : L[i]? = some s) (hk : s.a = (k : Int)) : FM (dnT (reF S W x) L i) n k := by
  have hnd : (L.map Sr.a).Nodup := (hp.map Sr.a).nodup_iff.2 (srL_nodup n _)
  have hlen : L.length = n := by rw [hp.length_eq, srL_len]
  have h8 := hS.n8
  have hin := srL_mem (hp.mem_iff.1 (List.mem_of_getElem? hi))
  have hkn : k < n := by omega
  have hilt : i < n := by have := (List.getElem?_eq_some_iff.1 hi).1; omega
  have hb : dnT (reF S W x) L i (k : Int) = reF S W x (k : Int) := by
    unfold dnT
    rw [if_neg (by rw [← hk]; exact not_taken hnd hi (Nat.le_refl _))]
  have hr0 := (hS.re hkn).1
  have key : ∀ q : Nat, q < n → q ≠ k → (dnT (reF S W x) L i (q : Int) < reF S W x (k : Int)) ∨ (dnT (reF S W x) L i (q : Int) = reF S W x (k : Int) ∧ k < q) := by
    intro q hq hne
    by_cases hm : (q : Int) ∈ (L.take i).map Sr.a
    · left
      unfold dnT
      rw [if_pos hm]; omega
    · have e : dnT (reF S W x) L i (q : Int) = reF S W x (q : Int) := by unfold dnT; rw [if_neg hm]
      rw [e]
      have hmem : (⟨(q : Int), reF S W x (q : Int)⟩ : Sr) ∈ L := hp.mem_iff.2 (mem_srL hq)
      obtain ⟨j, hj⟩ := List.getElem?_of_mem hmem
      have hjn : j < n := by have := (List.getElem?_eq_some_iff.1 hj).1; omega
      have hij : i < j := by
        by_cases h : i < j
        · exact h
        · exfalso
          by_cases h' : i = j
          · subst h'
            rw [hi] at hj
            cases hj
            simp only at hk
            omega
          · apply hm
            rw [List.map_take]
            refine List.mem_of_getElem? (i := j) ?_
            rw [List.getElem?_take_of_lt (by omega), List.getElem?_map, hj]
            rfl
      have hks := hs i j s _ hij hjn hi hj
      unfold keyS at hks
      simp only at hks
      have hrs := hin.2
      rw [hk] at hks hrs
      rw [hrs] at hks
      omega
  refine ⟨.inl hkn, fun q hq => ?_, fun q hq => ?_⟩
  · rw [hb]
    rcases key q (by omega) (by omega) with h | ⟨_, h⟩ <;> omega
  · rw [hb]
    by_cases h : q = k
    · subst h; rw [hb]; exact Int.le_refl _
    · rcases key q hq h with h | ⟨h, _⟩ <;> omega
theorem loop29d {ov : Ov} (m : Nat) (n : Nat) (hn : n ≤ 8) (hn1 : 1 ≤ n) (f : Int → Int) (v9 v11 : Value) (B2 : Nat) (w : AW) (hB : B2 < w.next) (g2 : w.heap.get B2 = some (.cells (lsC n f) 3 false))
    (Q : Ex → Tm → AW → Prop) (t : Tm) (t9 : tget t 9 = v9) (t10 : tget t 10 = .slice (some ⟨B2, 0, none⟩) n n) (t11 : tget t 11 = v11) (t14 : tget t 14 = .int .i64 0) (t15 : tget t 15 = .int .i64 0)
    (hQ : ∀ t (b : Nat), tget t 9 = v9 → tget t 10 = .slice (some ⟨B2, 0, none⟩) n n → tget t 11 = v11 → tget t 14 = .int .i64 (b : Nat) → FM f n b → Q (.exit 6) t w) : wp (exM Try.prog (run Try.prog ov m) (.loop mc29_l3) t w) Q := by
  refine wp_rounds (fun i t w' => w' = w ∧ tget t 9 = v9 ∧ tget t 10 = .slice (some ⟨B2, 0, none⟩) n n ∧ tget t 11 = v11 ∧ (∃ b : Nat, tget t 14 = .int .i64 (b : Nat) ∧ FM f i b) ∧ tget t 15 = .int .i64 (i : Nat) ∧ i ≤ n) 20 (by decide) ⟨rfl, t9, t10, t11, ⟨0, by simpa using t14, .inr ⟨rfl, rfl⟩, fun q h => by omega, fun q h => by omega⟩, by simpa using t15, Nat.zero_le _⟩ ?_
  clear t9 t10 t11 t14 t15
  rintro i t w' ⟨rfl, t9, t10, t11, ⟨b, t14, c1, c2, c3⟩, t15, hi⟩
  by_cases hlt : i < n
  · have hlt' : (i : Int) < (n : Int) := by omega
    have hbn : b < n := by omega
    have hia := fun w => ia26 w ⟨B2, 0, none⟩ n n .i64 i hlt
    have hib := fun w => ia26 w ⟨B2, 0, none⟩ n n .i64 b hbn
    simp only [Nat.mul_one] at hia hib
    have q1 := lsC_get n f hlt
    have q2 := lsC_get n f hbn
    have hw1' : IntKind.wrap .i64 ((i : Int) + 1) = (i : Int) + 1 := wrap64_in (by omega) (by omega)
    obtain ⟨X, hX⟩ : ∃ X, X = f (i : Int) := ⟨_, rfl⟩
    obtain ⟨Y, hY⟩ : ∃ X, X = f (b : Int) := ⟨_, rfl⟩
    rw [← hX] at q1
    rw [← hY] at q2
    by_cases hc : Y < X
    · have hF : FM f (i + 1) i := ⟨.inl (by omega), fun q hq => by have := c3 q hq; omega, fun q hq => by
        by_cases h : q = i
        · subst h; exact Int.le_refl _
        · have := c3 q (by omega); omega⟩
      simp [mc29_l3, t9, t10, t11, t14, t15, hlt', hia, hib, g2, q1, q2, hc, hw1']
      exact ⟨by omega, ⟨i, rfl, hF⟩, hlt⟩
    · have hF : FM f (i + 1) b := ⟨by
          rcases c1 with h | ⟨h1, h2⟩
          · exact .inl (by omega)
          · exact .inl (by omega), c2, fun q hq => by
        by_cases h : q = i
        · subst h; omega
        · exact c3 q (by omega)⟩
      simp [mc29_l3, t9, t10, t11, t14, t15, hlt', hia, hib, g2, q1, q2, hc, hw1']
      exact ⟨by omega, ⟨b, rfl, hF⟩, hlt⟩
  · have hi' : i = n := by omega
    subst hi'
    simp [mc29_l3, t10, t15]
    exact hQ _ b (by simp [t9]) (by simp [t10]) (by simp [t11]) (by simp [t14]) ⟨c1, c2, c3⟩
set_option maxHeartbeats 1000000 in
theorem loop29c {ov : Ov} (m : Nat) (n : Nat) (S W : Int) (x : Int → Int) (hS : ShOk n S W x) (L : List Sr) (hp : L.Perm (srL n (reF S W x))) (hs : SortTo keyS L n) (d : Nat) (hd : d < n) (w0 : AW) (B1 B2 : Nat) (hl1 : w0.lim ≤ B1) (hl2 : w0.lim ≤ B2) (hne : B1 ≠ B2) (hB1 : B1 < w0.next) (hB2 : B2 < w0.next) (g1 : w0.heap.get B1 = some (.cells (lsC n (quF S W x)) 3 false)) (g2 : w0.heap.get B2 = some (.cells (lsC n (reF S W x)) 3 false))
    (Q : Ex → Tm → AW → Prop) (t : Tm) (t9 : tget t 9 = .slice (some ⟨B1, 0, none⟩) n n) (t10 : tget t 10 = .slice (some ⟨B2, 0, none⟩) n n) (t11 : tget t 11 = .int .i64 (d : Nat))
    (hQ : ∀ t w', Kq B1 B2 w0 w' → w'.heap.get B1 = some (.cells (lsC n (upT (quF S W x) L d)) 3 false) → tget t 9 = .slice (some ⟨B1, 0, none⟩) n n → Q (.exit 4) t w') : wp (exM Try.prog (run Try.prog ov m) (.loop mc29_l2) t w0) Q := by
  have h8 := hS.n8
  have hn1 := hS.n1
  have hlen : L.length = n := by rw [hp.length_eq, srL_len]
  have hnd : (L.map Sr.a).Nodup := (hp.map Sr.a).nodup_iff.2 (srL_nodup n _)
  refine wp_rounds (fun i t w' => Kq B1 B2 w0 w' ∧ w'.heap.get B1 = some (.cells (lsC n (upT (quF S W x) L i)) 3 false) ∧ w'.heap.get B2 = some (.cells (lsC n (dnT (reF S W x) L i)) 3 false) ∧ tget t 9 = .slice (some ⟨B1, 0, none⟩) n n ∧ tget t 10 = .slice (some ⟨B2, 0, none⟩) n n ∧ tget t 11 = .int .i64 ((d : Int) - (i : Nat)) ∧ i ≤ d) 20 (by decide) ⟨Kq.refl _ _ _, by rw [upT_zero]; exact g1, by rw [dnT_zero]; exact g2, t9, t10, by simpa using t11, Nat.zero_le _⟩ ?_
  clear t9 t10 t11
  rintro i t w' ⟨hkp, ga, gb, t9, t10, t11, hi⟩
  have hlm := hkp.lim
  have hnx := hkp.next
  by_cases hlt : i < d
  · have hlt' : (0 : Int) < (d : Int) - (i : Int) := by omega
    obtain ⟨s, hs'⟩ : ∃ s, L[i]? = some s := ⟨_, List.getElem?_eq_getElem (by omega)⟩
    have hin := srL_mem (hp.mem_iff.1 (List.mem_of_getElem? hs'))
    obtain ⟨k, hk⟩ : ∃ k : Nat, s.a = (k : Int) := ⟨s.a.toNat, by omega⟩
    have hkn : k < n := by omega
    have hfm := next_fm hS hp hs hs' hk
    have st1 := upT_step (g := quF S W x) hs' hnd
    have st2 := dnT_step (r := reF S W x) hs'
    rw [hk] at st1 st2
    obtain ⟨D, hD⟩ : ∃ D, D = (d : Int) - (i : Int) := ⟨_, rfl⟩
    rw [← hD] at t11 hlt'
    simp [mc29_l2, t11, hlt']
    refine wp_blockX (wp_seqX (wp_blockX (loop29d (ov := ov) m n h8 hn1 (dnT (reF S W x) L i) (.slice (some ⟨B1, 0, none⟩) n n) (.int .i64 D) B2 w' (by omega) gb _ _ ?_ ?_ ?_ ?_ ?_ ?_)))
    case _ => simp [t9]
    case _ => simp [t10]
    case _ => simp [t11]
    case _ => simp
    case _ => simp
    case _ =>
      intro t b t9 t10 t11 t14 hb
      obtain rfl := FM.uniq hb hfm (by omega)
      have hib := fun w => ia26 w ⟨B1, 0, none⟩ n n .i64 b hkn
      have hic := fun w => ia26 w ⟨B2, 0, none⟩ n n .i64 b hkn
      simp only [Nat.mul_one] at hib hic
      have hgt := lsC_get n (upT (quF S W x) L i) hkn
      have hqu := hS.qu hkn
      have hub := upT_bd (g := quF S W x) (L := L) (i := i) (p := (b : Int))
      obtain ⟨U, hU⟩ : ∃ U, U = upT (quF S W x) L i (b : Int) := ⟨_, rfl⟩
      rw [← hU] at hgt hub st1
      have w1' : IntKind.wrap .i64 (U + 1) = U + 1 := wrap64_in (by omega) (by omega)
      have w2' : IntKind.wrap .i64 (D - 1) = (d : Int) - ((i + 1 : Nat) : Int) := by rw [wrap64_in (by omega) (by omega)]; omega
      have q1 : w'.lim ≤ B1 := by omega
      have q2 : w'.lim ≤ B2 := by omega
      have z1 : ¬ B2 = B1 := Ne.symm hne
      have sA : ∀ w5 : AW, w5.lim ≤ B1 → wrO w5 B1 b [.int .i64 (U + 1)] (some (.cells (lsC n (upT (quF S W x) L i)) 3 false)) = some ⟨w5.heap.put B1 (some (.cells (lsC n (upT (quF S W x) L (i + 1))) 3 false)), w5.next, w5.lim⟩ := fun w5 h => by rw [st_ls hkn h, st1]
      have sB : ∀ w5 : AW, w5.lim ≤ B2 → wrO w5 B2 b [.int .i64 (-1)] (some (.cells (lsC n (dnT (reF S W x) L i)) 3 false)) = some ⟨w5.heap.put B2 (some (.cells (lsC n (dnT (reF S W x) L (i + 1))) 3 false)), w5.next, w5.lim⟩ := fun w5 h => by rw [st_ls hkn h, st2]
      simp [t9, t10, t11, t14, hib, hic, ga, gb, hgt, w1', w2', sA, sB, q1, q2, z1, hne, -wrO_cells]
      refine ⟨by omega, ?_, ?_⟩
      · exact (hkp.new (.inr (.inl rfl)) (Nat.le_refl _)).new (.inr (.inr rfl)) (Nat.le_refl _)
      · omega
  · have hi' : i = d := by omega
    subst hi'
    have hz : (i : Int) - (i : Int) = 0 := by omega
    rw [hz] at t11
    simp [mc29_l2, t11]
    exact hQ _ _ hkp ga (by simp [t9])
end Go.Proofs.Ythfidomphkednaa.walk

namespace Go.Proofs.Ythfidomphkednaa.walk
open Go Go.Sh
set_option maxRecDepth 100000
set_option linter.unusedSimpArgs false
set_option linter.unusedVariables false
/-! CreditShares -/
theorem shrA_pos {P : List Int} (h : shrA P = true) : 0 ≤ totL P := by
  simp only [shrA, inI, Bool.and_eq_true, decide_eq_true_eq, List.all_eq_true] at h
  exact (totL_in (l := P) (M := 1000) fun z hz => by have := h.2 z hz; omega).1
set_option maxHeartbeats 1000000 in
theorem call29 {ov : Ov} (m : Nat) (ho : ∀ args w, ov 29 args w = none) (h32 : HasP ov 32 S32.F) (h38 : HasP ov 38 S62.F) (h60 : HasP ov 60 S60.F) (S : Int) (P : List Int) (hlen : P.length ≤ 2 ^ 60) (av : Value) (U : List Int) (hU : shrE S P = 0 → ShG P.length S (totL P) (liF P) U) (hU0 : shrE S P ≠ 0 → U = []) (w : AW) (hl : w.lim ≤ w.next) (hv : RowsV intC w av P) :
    ∃ v w', (run Try.prog ov (m + 3)).call 29 [.int .i64 S, av] w .none = .ok (.ret v) w' .none ∧ (∃ v1, v = .tuple ⟨[v1, .int .i64 (shrE S P)]⟩ ∧ RowsV intC w' v1 U) ∧ Up w w' := by
  refine call_wp text29 (by simp) (ho _ _) ?_
  have nn : notJunk (.slice none 0 0) = some (.slice none 0 0) := rfl
  have r32 := fun (n a b : Int) (w : AW) => S32.call (P := Try.prog) h32 (m := m + 1) (w := w) ⟨n, a, b, rfl, rfl⟩
  have r38 := S62.call (P := Try.prog) h38 (m := m + 1) (w := w) ⟨av, P, rfl, hv, hlen, rfl⟩
  have hla := fun w2 => len26V (w' := w2) hv
  have hnil : ∀ w : AW, RowsV intC w (.slice none 0 0) [] := fun _ => .inl ⟨rfl, _, _, rfl⟩
  cases hI : inI 0 S 1000000 with
  | false =>
    have e : shrE S P = 7 := by unfold shrE; rw [hI]; rfl
    obtain rfl := hU0 (by rw [e]; decide)
    simp [mc29, r32, hI, nn, tupV, e]
    exact ⟨hnil _, Up.refl _⟩
  | true =>
    simp [mc29, r32, hI, hla]
    refine wp_seqX (wp_blockX (loop29a (ov := ov) (m + 1) h32 P av (.int .i64 S) w hv _ _ ?_ ?_ ?_ ?_ ?_))
    case _ => simp
    case _ => simp
    case _ => simp
    case _ => simp
    case _ =>
      intro t t0 t1 t6
      cases hA : shrA P with
      | false =>
        have e : shrE S P = 92 := by unfold shrE shrB; rw [hI, hA]; rfl
        obtain rfl := hU0 (by rw [e]; decide)
        rw [hA] at t6
        simp [t1, t6, r38, nn, tupV, e]
        exact ⟨hnil _, Up.refl _⟩
      | true =>
        rw [hA] at t6
        rw [shA_tot hA] at r38
        have h0 := shrA_pos hA
        by_cases hz : totL P = 0
        · have e : shrE S P = 92 := by unfold shrE shrB; rw [hI, hA, hz]; rfl
          obtain rfl := hU0 (by rw [e]; decide)
          rw [hz] at r38
          simp [t1, t6, r38, nn, tupV, e]
          exact ⟨hnil _, Up.refl _⟩
        · have e : shrE S P = 0 := by unfold shrE shrB; rw [hI, hA, decide_eq_true (show 0 < totL P by omega)]; rfl
          obtain ⟨L, d, hp, hs, hd, hdn, rfl⟩ := hU e
          have hS := sh_ok e
          have h8 := hS.n8
          have hn1 := hS.n1
          obtain ⟨W, hW⟩ : ∃ W, W = totL P := ⟨_, rfl⟩
          rw [← hW] at r38 hz hS hd hp
          have hv' : RowsV intC w av (lsF P.length (liF P)) := by rw [payV_rows]; exact hv
          simp [t0, t1, t6, r38, hz]
          refine wp_seqX (wp_blockX (loop29b (ov := ov) (m + 1) h60 P.length S W (liF P) hS av w w.next rfl hl hv' _ _ ?_ ?_ ?_ ?_ ?_ ?_ ?_ ?_))
          case _ => simp [t0]
          case _ => simp [t1]
          case _ => simp
          case _ => simp
          case _ => simp
          case _ => simp
          case _ => simp
          case _ =>
            intro t w1 B1 B2 u1 ha hb hne t11
            have n1 := u1.next
            have m1 := u1.lim
            have hB1 := ha.lt (by intro e; have := congrArg List.length e; rw [lsF_len, List.length_nil] at this; omega)
            have hB2 := hb.lt (by intro e; have := congrArg List.length e; rw [lsF_len, List.length_nil] at this; omega)
            rcases ha with ⟨h, _⟩ | ⟨t9, g1, _⟩
            · exfalso; have := congrArg List.length h; rw [lsF_len, List.length_nil] at this; omega
            rcases hb with ⟨h, _⟩ | ⟨t10, g2, _⟩
            · exfalso; have := congrArg List.length h; rw [lsF_len, List.length_nil] at this; omega
            rw [lsF_len] at t9 t10
            rw [lsC_flat] at g1 g2
            rw [← hd] at t11
            simp
            refine wp_seqX (wp_blockX (loop29c (ov := ov) (m + 2) P.length S W (liF P) hS L hp hs d hdn w1 B1 B2 (by omega) (by omega) hne (by omega) (by omega) g1 g2 _ _ ?_ ?_ ?_ ?_))
            case _ => simp [t9]
            case _ => simp [t10]
            case _ => simp [t11]
            case _ =>
              intro t w2 hk g9 t9'
              have n2 := hk.next
              have m2 := hk.lim
              have nj : ∀ (a : Addr) n c, notJunk (.slice (some a) n c) = some (.slice (some a) n c) := fun _ _ _ => rfl
              simp [t9', nj, tupV, e]
              rw [hW] at g9
              refine ⟨rows_ls g9 (by omega) _, ⟨fun y hy => ?_, by omega, by omega⟩⟩
              rw [hk.old y (by omega) (by omega) (by omega)]
              exact u1.at hy
theorem call6 {ov : Ov} (m : Nat) (ho : ∀ args w, ov 6 args w = none) (ho28 : ∀ args w, ov 28 args w = none) (ho29 : ∀ args w, ov 29 args w = none) (ho59 : ∀ args w, ov 59 args w = none) (ho72 : ∀ args w, ov 72 args w = none) (ho78 : ∀ args w, ov 78 args w = none) (ho84 : ∀ args w, ov 84 args w = none)
    (hW : HasW ov) (h16 : HasP ov 16 S16.F) (h32 : HasP ov 32 S32.F) (h38 : HasP ov 38 S62.F) (h57 : HasP ov 57 S32.F) (h58 : HasP ov 58 S58.F) (h60 : HasP ov 60 S60.F) (h62 : HasP ov 62 S62.F) (h73 : HasP ov 73 S73.F) (h79 : HasP ov 79 S93.F) (S : Int) (av : Value) (P : List Int) (hlen : P.length ≤ 2 ^ 60) (w : AW) (hl : w.lim ≤ w.next) (hv : RowsV intC w av P) :
    ∃ v w', (run Try.prog ov (m + 7)).call 6 [.int .i64 S, av] w .none = .ok (.ret v) w' .none ∧ v = .bool true := by
  refine call_wp text6 (by simp) (ho _ _) ?_
  obtain ⟨_, w1, c28, ⟨v1, U, rfl, hr1, hU, hU0⟩, u1⟩ := call28 (ov := ov) m ho28 ho59 ho72 ho78 ho84 h57 h58 h62 h73 h79 S P hlen av w hl hv
  have n1 := u1.next
  have m1 := u1.lim
  obtain ⟨_, w2, c29, ⟨v2, rfl, hr2⟩, u2⟩ := call29 (ov := ov) (m + 3) ho29 h32 h38 h60 S P hlen av U hU hU0 w1 (by omega) (hv.up u1)
  have lU : U.length ≤ 2 ^ 60 := by
    by_cases h : shrE S P = 0
    · obtain ⟨L, d, _, _, _, _, rfl⟩ := hU h
      rw [lsF_len]; exact hlen
    · rw [hU0 h]; simp
  have r16 := S16.call (P := Try.prog) h16 (m := m + 5) (w := w2) ⟨v1, v2, _, _, rfl, hr1.up u2, hr2, lU, rfl⟩
  simp only [decide_true] at r16
  have rW := fun w => ruleW (m := m + 5) hW w
  simp [mc6, c28, c29, r16, rW, tupV]
end Go.Proofs.Ythfidomphkednaa.walk
