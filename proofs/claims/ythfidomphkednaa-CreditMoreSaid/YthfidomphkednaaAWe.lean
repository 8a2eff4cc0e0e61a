/- Part of a proof by a machine of ones own: see the text with the theorem. -/
import Derived.Test.YthfidomphkednaaAWd
namespace Go.Proofs.Ythfidomphkednaa.walk
open Go Go.Sh
set_option maxRecDepth 100000
set_option linter.unusedSimpArgs false
set_option linter.unusedVariables false
/-! CreditCents: numbers, Rises -/
def Inc (U : List Int) (n : Int) : Prop := (∀ z ∈ U, 0 ≤ z ∧ z < n) ∧ U.Pairwise (· < ·)
theorem shP_inc (ps : List Pt) (ds : List Dt) : ∀ i : Nat, Inc (shP ps ds i) (i : Int)
  | 0 => by constructor <;> simp [shP]
  | i + 1 => by
    obtain ⟨h1, h2⟩ := shP_inc ps ds i
    cases h : shB ps ds i with
    | true =>
      rw [shP_yes h]
      refine ⟨fun z hz => ?_, ?_⟩
      · rcases List.mem_append.1 hz with hz | hz
        · have := h1 z hz; omega
        · rw [List.mem_singleton.1 hz]; omega
      · rw [List.pairwise_append]
        refine ⟨h2, List.pairwise_singleton _ _, fun a ha b hb => ?_⟩
        rw [List.mem_singleton.1 hb]
        exact (h1 a ha).2
    | false =>
      rw [shP_no h]
      exact ⟨fun z hz => by have := h1 z hz; omega, h2⟩
theorem shP_mem (ps : List Pt) (ds : List Dt) {n k : Nat} (hk : k < n) : (k : Int) ∈ shP ps ds n ↔ shB ps ds k = true := by
  unfold shP
  rw [List.mem_map]
  constructor
  · rintro ⟨a, ha, e⟩
    have : a = k := by omega
    subst this
    exact (List.mem_filter.1 ha).2
  · intro h
    exact ⟨k, List.mem_filter.2 ⟨List.mem_range.2 hk, h⟩, rfl⟩
end Go.Proofs.Ythfidomphkednaa.walk

namespace Go.Proofs.Ythfidomphkednaa.walk
open Go Go.Sh
set_option maxRecDepth 100000
set_option linter.unusedSimpArgs false
set_option linter.unusedVariables false
/-! a party with more cash -/
theorem src_rows {α : Type} {f : α → List Value} {m : Nat} (hf : ∀ a, (f a).length = m) (hm : 0 < m) {w : AW} {v : Value} {l : List α} (h : RowsV f w v l) (hl : l ≠ []) : srcCells w m v = some (l.flatMap f) ∧ lenA v = some l.length := by
  rcases h with ⟨h, _⟩ | ⟨b, off, sq, c, rfl, ⟨pre, rest, e, ro, h1, h2⟩, h3⟩
  · exact absurd h hl
  · refine ⟨?_, rfl⟩
    have hlen : (l.flatMap f).length = l.length * m := flat_length hf l
    have hpos : 0 < l.length := List.length_pos_iff.2 hl
    have hp : 0 < l.length * m := Nat.mul_pos hpos hm
    show (bif Nat.beq (l.length * m) 0 then some [] else rd w b off (l.length * m)) = _
    have e1 : Nat.beq (l.length * m) 0 = false := by rw [← Bool.not_eq_true]; intro h; have := Nat.eq_of_beq_eq_true h; omega
    rw [e1, cond_false, rd_eq, h1, rdO_cells, if_pos (by rw [List.length_append, List.length_append, hlen]; omega)]
    rw [← h2, List.drop_left, ← hlen, List.take_left]
theorem list22 : isList Try.prog 22 = true := by kernel_rfl
theorem elem22 : elemA Try.prog 22 = some 49 := by kernel_rfl
theorem sz49 : szOf Try.prog 49 = some 2 := by kernel_rfl
theorem small49 : smallT Try.prog 49 = true := by kernel_rfl
/-- a copy of the parties -/
theorem copy_pt {w : AW} {pv : Value} {ps : List Pt} (hv : RowsV ptC w pv ps) (hn : 1 ≤ ps.length) (hn2 : ps.length ≤ 1000) (hl : w.lim ≤ w.next) :
    append1 Try.prog ⟨w.heap.put w.next (some (.cells [] 49 false)), w.next + 1, w.lim⟩ [22, 22] [.slice (some ⟨w.next, 0, none⟩) 0 0, pv] = .val (.slice (some ⟨w.next + 1, 0, none⟩) ps.length ps.length) ⟨((w.heap.put w.next (some (.cells [] 49 false))).put w.next none).put (w.next + 1) (some (.cells (ps.flatMap ptC) 49 false)), w.next + 1 + 1, w.lim⟩ := by
  have hu : Up w ⟨w.heap.put w.next (some (.cells [] 49 false)), w.next + 1, w.lim⟩ := (Up.refl w).add _
  have hne : ps ≠ [] := fun e => by rw [e] at hn; simp at hn
  obtain ⟨h5, h4⟩ := src_rows ptC_length (by decide) (hv.up hu) hne
  have := append_full (P := Try.prog) list22 elem22 sz49 small49 (w := ⟨w.heap.put w.next (some (.cells [] 49 false)), w.next + 1, w.lim⟩) (B := w.next) (n := 0) (m := ps.length) (c := []) h4 h5 (by rw [flat_length ptC_length]) (flat_singles (fun _ => by simp [ptC]) _) (by omega) (by omega) (by simp) (by simp) hl
  simpa using this
theorem rows_pt {w : AW} {B : Nat} {ps : List Pt} (h : w.heap.get B = some (.cells (ps.flatMap ptC) 49 false)) (hb : B < w.next) (c : Nat) : RowsV ptC w (.slice (some ⟨B, 0, none⟩) ps.length c) ps :=
  .inr ⟨B, 0, none, c, rfl, ⟨[], [], 49, false, by rw [h, List.nil_append, List.append_nil], rfl⟩, hb⟩
theorem st_pt {w : AW} {B k : Nat} {ps : List Pt} {p : Pt} (hk : k < ps.length) (hl : w.lim ≤ B) : wrO w B (k * 2) [.string p.nm, .int .i64 p.ch] (some (.cells (ps.flatMap ptC) 49 false)) = some ⟨w.heap.put B (some (.cells ((ps.set k p).flatMap ptC) 49 false)), w.next, w.lim⟩ := by
  have hlen : (ps.flatMap ptC).length = ps.length * 2 := flat_length ptC_length ps
  rw [wrO_cells (by simp) hl (by simp [hlen]; omega), ← flat_set ptC_length ps k p hk]
  rfl
/-- the ledger in which a party has another cash -/
def morP (ps : List Pt) (k : Nat) (c : Int) : List Pt := match ps[k]? with | some p => ps.set k ⟨p.nm, c⟩ | none => ps
theorem morP_eq {ps : List Pt} {k : Nat} {p : Pt} (h : ps[k]? = some p) (c : Int) : morP ps k c = ps.set k ⟨p.nm, c⟩ := by unfold morP; rw [h]
@[simp] theorem morP_len (ps : List Pt) (k : Nat) (c : Int) : (morP ps k c).length = ps.length := by
  unfold morP; split <;> simp
theorem morP_nms (ps : List Pt) (k : Nat) (c : Int) (i : Nat) : nmsTo (morP ps k c) i = nmsTo ps i := by
  unfold morP
  cases h : ps[k]? with
  | none => rfl
  | some p =>
    simp only
    unfold nmsTo
    apply List.ext_getElem?
    intro j
    rw [List.getElem?_map, List.getElem?_map, List.getElem?_take, List.getElem?_take]
    by_cases hj : j < i
    · rw [if_pos hj, if_pos hj, List.getElem?_set]
      by_cases e : k = j
      · subst e
        have hlt := (List.getElem?_eq_some_iff.1 h).1
        rw [if_pos rfl, if_pos hlt, h]; rfl
      · rw [if_neg e]
    · rw [if_neg hj, if_neg hj]
theorem mor_ca {ps : List Pt} {k : Nat} (hk : k < ps.length) (c : Int) (p : Int) : caP (morP ps k c) p = if p = (k : Int) then c else caP ps p := by
  obtain ⟨a, ha⟩ : ∃ a, ps[k]? = some a := ⟨_, List.getElem?_eq_getElem hk⟩
  rw [morP_eq ha]
  unfold caP
  by_cases hp : 0 ≤ p
  · rw [if_pos hp, if_pos hp, List.getElem?_set]
    by_cases e : k = p.toNat
    · rw [if_pos e, if_pos (by omega), if_pos (by omega)]; rfl
    · rw [if_neg e, if_neg (by omega)]
  · rw [if_neg hp, if_neg hp, if_neg (by omega)]
theorem mor_ch {ps : List Pt} {ds : List Dt} (hC : chE ps ds = 0) {k : Nat} (hk : k < ps.length) {c : Int} (hc : 0 ≤ c ∧ c ≤ 100000) : chE (morP ps k c) ds = 0 := by
  have hB : ledB ps ds = true := by
    unfold chE at hC
    split at hC
    · assumption
    · cases hC
  have : ledB (morP ps k c) ds = true := by
    simp only [ledB, parB, debB, Bool.and_eq_true, morP_len] at hB ⊢
    obtain ⟨⟨h1, h2⟩, h3, h4⟩ := hB
    refine ⟨⟨h1, ?_⟩, h3, ?_⟩
    · rw [List.all_eq_true] at h2 ⊢
      intro i hi
      have hlt := List.mem_range.1 hi
      have := h2 i hi
      obtain ⟨a, ha⟩ : ∃ a, ps[k]? = some a := ⟨_, List.getElem?_eq_getElem hk⟩
      obtain ⟨q, hq⟩ : ∃ a, ps[i]? = some a := ⟨_, List.getElem?_eq_getElem hlt⟩
      unfold prB at this ⊢
      rw [morP_nms, morP_eq ha, List.getElem?_set]
      rw [hq] at this
      by_cases e : k = i
      · subst e
        rw [if_pos rfl, if_pos hk]
        rw [ha] at hq
        cases hq
        simp only [inI, Bool.and_eq_true, decide_eq_true_eq] at this ⊢
        exact ⟨this.1, this.2.1, hc⟩
      · rw [if_neg e, hq]; exact this
    · have e : dtB (morP ps k c) ds = dtB ps ds := by funext i; unfold dtB; rw [morP_len]
      rw [e]; exact h4
  unfold chE
  rw [if_pos this]
theorem mor_st {ps : List Pt} {ds : List Dt} (hk0 : LK ps ds) {k : Nat} (hk : k < ps.length) {c : Int} (hk1 : LK (morP ps k c) ds) (hc : caP ps (k : Int) ≤ c) (p : Int) : stF ps ds p ≤ stF (morP ps k c) ds p := by
  refine (st_gfp hk1).2 _ (fun q => ?_) p
  have := (st_gfp hk0).1 q
  refine ⟨this.1, this.2.1, ?_⟩
  have h1 := this.2.2
  unfold haD at h1 ⊢
  rw [mor_ca hk]
  split
  · rename_i e
    rw [e] at h1 ⊢
    omega
  · omega
end Go.Proofs.Ythfidomphkednaa.walk

namespace Go.Proofs.Ythfidomphkednaa.walk
open Go Go.Sh
set_option maxRecDepth 100000
set_option linter.unusedSimpArgs false
set_option linter.unusedVariables false
/-! CreditMore -/
theorem first_at {U : List Int} {z : Int} (h : z ∈ U) : ∃ i : Nat, U[i]? = some z ∧ ∀ j, j < i → U[j]? ≠ some z := by
  obtain ⟨j, hj⟩ := List.getElem?_of_mem h
  have : ∀ n : Nat, U[n]? = some z → ∃ i : Nat, U[i]? = some z ∧ ∀ j, j < i → U[j]? ≠ some z := by
    intro n
    induction n using Nat.strongRecOn with
    | ind n ih =>
      intro h
      by_cases hx : ∃ j, j < n ∧ U[j]? = some z
      · obtain ⟨j, h1, h2⟩ := hx
        exact ih j h1 h2
      · exact ⟨n, h, fun j hj e => hx ⟨j, hj, e⟩⟩
  exact this j hj
theorem ia43_0 (w : AW) (a : Addr) : indexAddrA Try.prog w 43 (.pointer (some a)) (.int .i64 0) = .val (.pointer (some (a.add 0))) w := by kernel_rfl
theorem ia43_1 (w : AW) (a : Addr) : indexAddrA Try.prog w 43 (.pointer (some a)) (.int .i64 1) = .val (.pointer (some (a.add 1))) w := by kernel_rfl
theorem loop10a {ov : Ov} (m n : Nat) (hn : n ≤ 8) (x y : Int → Int) (hxy : ∀ p, x p ≤ y p) (uv mv v8 v16 : Value) (w0 : AW) (hu : RowsV intC w0 uv (lsF n x)) (hm : RowsV intC w0 mv (lsF n y))
    (Q : Ex → Tm → AW → Prop) (t : Tm) (t5 : tget t 5 = uv) (t8 : tget t 8 = v8) (t14 : tget t 14 = mv) (t16 : tget t 16 = v16) (t17 : tget t 17 = .int .i64 0)
    (hQ : ∀ t, tget t 8 = v8 → tget t 16 = v16 → Q (.exit 0) t w0) : wp (exM Try.prog (run Try.prog ov m) (.loop mc10_l0) t w0) Q := by
  refine wp_rounds (fun i t w' => w' = w0 ∧ tget t 5 = uv ∧ tget t 8 = v8 ∧ tget t 14 = mv ∧ tget t 16 = v16 ∧ tget t 17 = .int .i64 (i : Nat) ∧ i ≤ n) 20 (by decide) ⟨rfl, t5, t8, t14, t16, by simpa using t17, Nat.zero_le _⟩ ?_
  clear t5 t8 t14 t16 t17
  rintro i t w' ⟨rfl, t5, t8, t14, t16, t17, hi⟩
  have hla := fun w2 => len26V (w' := w2) hu
  rw [lsF_len] at hla
  by_cases hlt : i < n
  · obtain ⟨b1, o1, s1, c1, rfl, ld1, ia1⟩ := row_ld hu (lsF_at n x hlt)
    obtain ⟨b2, o2, s2, c2, rfl, ld2, ia2⟩ := row_ld hm (lsF_at n y hlt)
    simp only [lsF_len] at ia1 ia2
    have hle := hxy (i : Int)
    obtain ⟨X, hX⟩ : ∃ X, X = x (i : Int) := ⟨_, rfl⟩
    obtain ⟨Y, hY⟩ : ∃ X, X = y (i : Int) := ⟨_, rfl⟩
    rw [← hX] at ld1 hle
    rw [← hY] at ld2 hle
    have hc : ¬ Y < X := by omega
    have hw1' : IntKind.wrap .i64 ((i : Int) + 1) = (i : Int) + 1 := wrap64_in (by omega) (by omega)
    simp [mc10_l0, t5, t8, t14, t16, t17, hla, hlt, ia1, ia2, ld1, ld2, hc, hw1']
    omega
  · have hi' : i = n := by omega
    subst hi'
    simp [mc10_l0, t5, t17, hla]
    exact hQ _ (by simp [t8]) (by simp [t16])
theorem loop10b {ov : Ov} (m : Nat) (h37 : HasP ov 37 S37.F) (U V : List Int) (hU : U.length ≤ 1000) (hV : V.length ≤ 1000) (hs : ∀ z ∈ V, z ∈ U) (uv mv : Value) (w0 : AW) (hu : RowsV intC w0 uv U) (hm : RowsV intC w0 mv V)
    (Q : Ex → Tm → AW → Prop) (t : Tm) (t8 : tget t 8 = uv) (t16 : tget t 16 = mv) (t18 : tget t 18 = .int .i64 0)
    (hQ : ∀ t, Q (.exit 2) t w0) : wp (exM Try.prog (run Try.prog ov (m + 1)) (.loop mc10_l1) t w0) Q := by
  refine wp_rounds (fun i t w' => w' = w0 ∧ tget t 8 = uv ∧ tget t 16 = mv ∧ tget t 18 = .int .i64 (i : Nat) ∧ i ≤ V.length) 2000 (by decide) ⟨rfl, t8, t16, by simpa using t18, Nat.zero_le _⟩ ?_
  clear t8 t16 t18
  rintro i t w' ⟨rfl, t8, t16, t18, hi⟩
  have hla := fun w2 => len26V (w' := w2) hm
  by_cases hlt : i < V.length
  · obtain ⟨z, hz⟩ : ∃ z, V[i]? = some z := ⟨_, List.getElem?_eq_getElem hlt⟩
    obtain ⟨b1, o1, s1, c1, rfl, ld1, ia1⟩ := row_ld hm hz
    obtain ⟨j, hj, hjm⟩ := first_at (hs z (List.mem_of_getElem? hz))
    have r37 := S37.call (P := Try.prog) h37 (m := m) (w := w') ⟨uv, U, z, (j : Int), rfl, hu, by omega, rfl, .inr ⟨j, rfl, hj, hjm⟩⟩
    have hw1' : IntKind.wrap .i64 ((i : Int) + 1) = (i : Int) + 1 := wrap64_in (by omega) (by omega)
    have q3 : ¬ (j : Int) < 0 := by omega
    simp [mc10_l1, t8, t16, t18, hla, hlt, ia1, ld1, r37, q3, hw1']
    omega
  · have hi' : i = V.length := by omega
    subst hi'
    simp [mc10_l1, t16, t18, hla]
    exact hQ _
set_option maxHeartbeats 2000000 in
theorem call10 {ov : Ov} (m : Nat) (ho : ∀ args w, ov 10 args w = none) (ho20 : ∀ args w, ov 20 args w = none) (ho24 : ∀ args w, ov 24 args w = none) (ho52 : ∀ args w, ov 52 args w = none) (ho40 : ∀ args w, ov 40 args w = none) (ho61 : ∀ args w, ov 61 args w = none) (ho74 : ∀ args w, ov 74 args w = none) (ho42 : ∀ args w, ov 42 args w = none) (ho43 : ∀ args w, ov 43 args w = none) (ho64 : ∀ args w, ov 64 args w = none)
    (hW : HasW ov) (h17 : HasP ov 17 S17.F) (h30 : HasP ov 30 S30.F) (h33 : HasP ov 33 S33.F) (h37 : HasP ov 37 S37.F) (h49 : HasP ov 49 S49.F) (h62 : HasP ov 62 S62.F) (h63 : HasP ov 63 S63.F)
    (pv dv : Value) (ps : List Pt) (ds : List Dt) (q0 q1 : Int) (w : AW) (hl : w.lim ≤ w.next) (hL : LedV w pv dv ps ds) :
    ∃ v w', (run Try.prog ov (m + 5)).call 10 [.agg ⟨[pv, dv]⟩, .agg ⟨[.int .i64 q0, .int .i64 q1]⟩] w .none = .ok (.ret v) w' .none ∧ v = .bool true := by
  refine call_wp text10 (by simp) (ho _ _) ?_
  obtain ⟨w1, hw1⟩ : ∃ w1, w1 = (⟨(w.heap.put w.next (some (.cells [pv, dv] 25 false))).put (w.next + 1) (some (.cells [.int .i64 q0, .int .i64 q1] 43 false)), w.next + 1 + 1, w.lim⟩ : AW) := ⟨_, rfl⟩
  have u1 : Up w w1 := by rw [hw1]; exact ((Up.refl w).put (Nat.le_refl _) (Nat.le_refl _)).put (Nat.le_succ _) (by omega)
  have n1 : w1.next = w.next + 1 + 1 := by rw [hw1]
  have m1 : w1.lim = w.lim := by rw [hw1]
  have g1 : w1.heap.get w.next = some (.cells [pv, dv] 25 false) := by rw [hw1]; simp
  have f1 : w1.heap.get (w.next + 1) = some (.cells [.int .i64 q0, .int .i64 q1] 43 false) := by rw [hw1]; simp
  obtain ⟨_, w2, c20, v5, v6, rfl, hr5, hr6, u2⟩ := call20 (ov := ov) m ho20 ho40 ho61 ho74 ho42 ho43 ho64 h62 h17 h49 h63 pv dv ps ds w1 (by omega) (hL.up u1)
  have n2 := u2.next
  have m2 := u2.lim
  have g2 := u2.at (b := w.next) (by omega)
  rw [g1] at g2
  have f2 := u2.at (b := w.next + 1) (by omega)
  rw [f1] at f2
  have y2 := u1.trans u2
  obtain ⟨_, w3, c24, v8, rfl, hr8, u3⟩ := call24 (ov := ov) m ho24 ho40 ho61 ho74 ho52 h62 h17 h49 pv dv ps ds w2 (by omega) (hL.up y2)
  have n3 := u3.next
  have m3 := u3.lim
  have g3 := u3.at (b := w.next) (by omega)
  rw [g2] at g3
  have f3 := u3.at (b := w.next + 1) (by omega)
  rw [f2] at f3
  have y3 := y2.trans u3
  have rW := fun w => ruleW (m := m + 3) hW w
  rw [hw1] at c20
  by_cases hC : chE ps ds = 0
  case neg => simp [mc10, cellsOf_agg, c20, g2, c24, hC, rW, tupV]
  case pos =>
    have hO := ch_lk hC
    have hk : LK ps ds := hO.up (by decide)
    have h8 := hO.n8
    have hn1 := hO.n1
    have e8 : shL ps ds = shP ps ds ps.length := by unfold shL; rw [if_pos hC]
    have e5 : clP ps ds = lsF ps.length (stF ps ds) := by unfold clP; rw [if_pos hC]
    rw [e8] at hr8
    rw [e5] at hr5
    rw [hC] at c20 c24
    have hl5 := fun w2 => len26V (w' := w2) hr5
    rw [lsF_len] at hl5
    have r30 := S30.call (P := Try.prog) h30 (m := m + 3) (w := w3) ⟨pv, dv, ps, ds, rfl, hL.up y3, rfl⟩
    rw [hC] at r30
    obtain ⟨w4, hw4⟩ : ∃ w4, w4 = (⟨(w3.heap.put w3.next (some (.cells [.slice none 0 0, .slice none 0 0] 25 false))).put w3.next (some (.cells [pv, dv] 25 false)), w3.next + 1, w3.lim⟩ : AW) := ⟨_, rfl⟩
    have u4 : Up w3 w4 := hw4 ▸ ((Up.refl w3).add _).put (Nat.le_refl _) (Nat.le_refl _)
    have n4 : w4.next = w3.next + 1 := by rw [hw4]
    have m4 : w4.lim = w3.lim := by rw [hw4]
    have hcp := copy_pt (hL.p.up (y3.trans u4)) hn1 (by omega) (w := w4) (by omega)
    have hb := wrapI_bd (n := q0) (s := ps.length) (by omega)
    have hb5 := wrapI_bd (n := q1) (s := 500) (by decide)
    obtain ⟨k, hkk⟩ : ∃ k : Nat, (k : Int) = wrapI q0 ps.length := ⟨(wrapI q0 ps.length).toNat, by omega⟩
    have hkl : k < ps.length := by omega
    obtain ⟨a, ha⟩ : ∃ a, ps[k]? = some a := ⟨_, List.getElem?_eq_getElem hkl⟩
    have r33a := fun w => S33.call (P := Try.prog) h33 (m := m + 3) (w := w) ⟨q0, ps.length, rfl, by omega, rfl⟩
    have r33b := fun w => S33.call (P := Try.prog) h33 (m := m + 3) (w := w) ⟨q1, 500, rfl, by decide, rfl⟩
    rw [← hkk] at r33a
    have hia := fun w => ia22 w ⟨w3.next + 1 + 1, 0, none⟩ ps.length ps.length .i64 k hkl
    have hrd : rdO (some (.cells (ps.flatMap ptC) 49 false)) (k * 2) 2 = some (ptC a) := by
      have := RowsA.rd (m := 2) (f := ptC) (H := (T.leaf : T AObj).put 0 (some (.cells (ps.flatMap ptC) 49 false))) (n := 1) (b := 0) (off := 0) ptC_length ⟨⟨[], [], 49, false, by rw [get_put, if_pos rfl]; simp, rfl⟩, by decide⟩ ha
      rw [get_put, if_pos rfl] at this
      simpa using this
    have hcash := hO.cash a (List.mem_of_getElem? ha)
    obtain ⟨R, hR⟩ : ∃ R, R = wrapI q1 500 := ⟨_, rfl⟩
    rw [← hR] at r33b hb5
    have hwr : IntKind.wrap .i64 (a.ch + R) = a.ch + R := wrap64_in (by omega) (by omega)
    have sg : singles [pv, dv] = true ∧ singles [dv] = true := by
      obtain ⟨a, c, rfl⟩ := hL.p.len
      obtain ⟨a', c', rfl⟩ := hL.d.len
      simp
    obtain ⟨sg1, sg2⟩ := sg
    have l3 : w3.lim ≤ w3.next := by omega
    have l4 : w3.lim ≤ w3.next + 1 + 1 := by omega
    have l5 : w3.lim ≤ w3.next + 1 + 1 + 1 := by omega
    have z1 : ¬ w.next = w3.next := by omega
    have z2 : ¬ w.next + 1 = w3.next := by omega
    have z3 : ¬ w.next = w3.next + 1 := by omega
    have z4 : ¬ w.next + 1 = w3.next + 1 := by omega
    have z5 : ¬ w.next = w3.next + 1 + 1 := by omega
    have z6 : ¬ w.next + 1 = w3.next + 1 + 1 := by omega
    have z7 : ¬ w.next + 1 = w3.next + 1 + 1 + 1 := by omega
    have sP : ∀ w5 : AW, w5.lim ≤ w3.next + 1 + 1 → wrO w5 (w3.next + 1 + 1) (k * 2) [.string a.nm, .int .i64 (min 100000 (a.ch + R))] (some (.cells (ps.flatMap ptC) 49 false)) = some ⟨w5.heap.put (w3.next + 1 + 1) (some (.cells ((ps.set k ⟨a.nm, min 100000 (a.ch + R)⟩).flatMap ptC) 49 false)), w5.next, w5.lim⟩ := fun w5 h => st_pt (p := ⟨a.nm, min 100000 (a.ch + R)⟩) hkl h
    rw [hw4] at hcp
    obtain ⟨anm, ach⟩ := a
    simp only [ptC] at hrd
    simp only at hwr sP hcash
    have s25 : ∀ w5 : AW, w5.lim ≤ w3.next → wrO w5 w3.next 0 [pv, dv] (some (.cells [.slice none 0 0, .slice none 0 0] 25 false)) = some ⟨w5.heap.put w3.next (some (.cells [pv, dv] 25 false)), w5.next, w5.lim⟩ := fun w5 h => by rw [wrO_cells sg1 h (by simp)]; rfl
    have s22 : ∀ w5 : AW, w5.lim ≤ w3.next → wrO w5 w3.next 0 [.slice (some ⟨w3.next + 1 + 1, 0, none⟩) ps.length ps.length] (some (.cells [pv, dv] 25 false)) = some ⟨w5.heap.put w3.next (some (.cells [.slice (some ⟨w3.next + 1 + 1, 0, none⟩) ps.length ps.length, dv] 25 false)), w5.next, w5.lim⟩ := fun w5 h => by rw [wrO_cells (by simp) h (by simp)]; rfl
    have s49a : ∀ w5 : AW, w5.lim ≤ w3.next + 1 + 1 + 1 → wrO w5 (w3.next + 1 + 1 + 1) 0 [.string anm, .int .i64 ach] (some (.cells [.string ⟨⟨[]⟩⟩, .int .i64 0] 49 false)) = some ⟨w5.heap.put (w3.next + 1 + 1 + 1) (some (.cells [.string anm, .int .i64 ach] 49 false)), w5.next, w5.lim⟩ := fun w5 h => by rw [wrO_cells (by simp) h (by simp)]; rfl
    have s49b : ∀ w5 : AW, w5.lim ≤ w3.next + 1 + 1 + 1 → wrO w5 (w3.next + 1 + 1 + 1) 1 [.int .i64 (min 100000 (ach + R))] (some (.cells [.string anm, .int .i64 ach] 49 false)) = some ⟨w5.heap.put (w3.next + 1 + 1 + 1) (some (.cells [.string anm, .int .i64 (min 100000 (ach + R))] 49 false)), w5.next, w5.lim⟩ := fun w5 h => by rw [wrO_cells (by simp) h (by simp)]; rfl
    simp [mc10, cellsOf_agg, s25, s22, s49a, s49b, c20, g2, c24, r30, g3, f3, hcp, l3, l4, l5, sg1, sg2, z1, z2, z3, z4, z5, z6, z7, ia43_0, ia43_1, r33a, hia, hrd, r33b, hwr, sP, -wrO_cells]
    generalize hwz : (⟨(((((((((w3.heap.put w3.next (some (.cells [.slice none 0 0, .slice none 0 0] 25 false))).put w3.next (some (.cells [pv, dv] 25 false))).put (w3.next + 1) (some (.cells [] 49 false))).put (w3.next + 1) none).put (w3.next + 1 + 1) (some (.cells (List.flatMap ptC ps) 49 false))).put w3.next (some (.cells [.slice (some ⟨w3.next + 1 + 1, 0, none⟩) ps.length ps.length, dv] 25 false))).put (w3.next + 1 + 1 + 1) (some (.cells [.string ⟨⟨[]⟩⟩, .int .i64 0] 49 false))).put (w3.next + 1 + 1 + 1) (some (.cells [.string anm, .int .i64 ach] 49 false))).put (w3.next + 1 + 1 + 1) (some (.cells [.string anm, .int .i64 (min 100000 (ach + R))] 49 false))).put (w3.next + 1 + 1) (some (.cells (List.flatMap ptC (ps.set k ⟨anm, min 100000 (ach + R)⟩)) 49 false)), w3.next + 1 + 1 + 1 + 1, w3.lim⟩ : AW) = wz
    obtain ⟨M, hM⟩ : ∃ M, M = min 100000 (ach + R) := ⟨_, rfl⟩
    rw [← hM] at hwz
    have ep : ps.set k ⟨anm, M⟩ = morP ps k M := (morP_eq ha M).symm
    rw [ep] at hwz
    have uz : Up w3 wz := by
      rw [← hwz]
      exact ((((((((((Up.refl w3).put (Nat.le_refl _) (Nat.le_refl _)).put (Nat.le_refl _) (Nat.le_refl _)).put (Nat.le_succ _) (Nat.le_refl _)).put (Nat.le_succ _) (Nat.le_refl _)).put (by omega) (Nat.le_refl _)).put (Nat.le_refl _) (Nat.le_refl _)).put (by omega) (Nat.le_refl _)).put (by omega) (Nat.le_refl _)).put (by omega) (Nat.le_refl _)).put (by omega) (by omega)
    have nz : wz.next = w3.next + 1 + 1 + 1 + 1 := by rw [← hwz]
    have mz : wz.lim = w3.lim := by rw [← hwz]
    have gz : wz.heap.get w3.next = some (.cells [.slice (some ⟨w3.next + 1 + 1, 0, none⟩) ps.length ps.length, dv] 25 false) := by rw [← hwz]; simp
    have gP : wz.heap.get (w3.next + 1 + 1) = some (.cells ((morP ps k M).flatMap ptC) 49 false) := by rw [← hwz]; simp
    have hLz : LedV wz (.slice (some ⟨w3.next + 1 + 1, 0, none⟩) ps.length ps.length) dv (morP ps k M) ds := by
      have hLu := hL.up (y3.trans uz)
      have := rows_pt gP (by omega) ps.length
      rw [morP_len] at this
      exact ⟨this, hLu.d, ⟨_, _, _, rfl, Nat.le_refl _⟩, hLu.cd⟩
    have hMr : 0 ≤ M ∧ M ≤ 100000 := by omega
    have hC' : chE (morP ps k M) ds = 0 := mor_ch hC hkl hMr
    have hk' : LK (morP ps k M) ds := (ch_lk hC').up (by decide)
    have hcl : caP ps (k : Int) ≤ M := by rw [ca_at ha]; show ach ≤ M; omega
    have hst := mor_st hk hkl (c := M) hk' hcl
    obtain ⟨_, w6, c20z, v14, v15, rfl, hr14, hr15, u6⟩ := call20 (ov := ov) m ho20 ho40 ho61 ho74 ho42 ho43 ho64 h62 h17 h49 h63 _ dv (morP ps k M) ds wz (by omega) hLz
    have n6 := u6.next
    have m6 := u6.lim
    have g6 := u6.at (b := w3.next) (by omega)
    rw [gz] at g6
    obtain ⟨_, w7, c24z, v16, rfl, hr16, u7⟩ := call24 (ov := ov) m ho24 ho40 ho61 ho74 ho52 h62 h17 h49 _ dv (morP ps k M) ds w6 (by omega) (hLz.up u6)
    have e14 : clP (morP ps k M) ds = lsF ps.length (stF (morP ps k M) ds) := by unfold clP; rw [if_pos hC', morP_len]
    have e16 : shL (morP ps k M) ds = shP (morP ps k M) ds ps.length := by unfold shL; rw [if_pos hC', morP_len]
    rw [e14] at hr14
    rw [e16] at hr16
    rw [hC'] at c20z c24z
    have hl14 := fun w2 => len26V (w' := w2) hr14
    rw [lsF_len] at hl14
    have hsub : ∀ z ∈ shP (morP ps k M) ds ps.length, z ∈ shP ps ds ps.length := fun z hz => by
      have hi := (shP_inc (morP ps k M) ds ps.length).1 z hz
      obtain ⟨j, rfl⟩ : ∃ j : Nat, z = (j : Int) := ⟨z.toNat, by omega⟩
      have hj : j < ps.length := by omega
      have h1 := (shP_mem (morP ps k M) ds hj).1 hz
      refine (shP_mem ps ds hj).2 ?_
      unfold shB at h1 ⊢
      rw [decide_eq_true_eq] at h1 ⊢
      have := hst (j : Int)
      omega
    have key1 := fun Q t => loop10a (ov := ov) (m + 4) ps.length h8 (stF ps ds) (stF (morP ps k M) ds) hst v5 v14 v8 v16 w7 (hr5.up (((u3.trans uz).trans u6).trans u7)) (hr14.up u7) Q t
    have key2 := fun Q t => loop10b (ov := ov) (m + 3) h37 (shP ps ds ps.length) (shP (morP ps k M) ds ps.length) (by have := shP_len ps ds ps.length; omega) (by have := shP_len (morP ps k M) ds ps.length; omega) hsub v8 v16 w7 (hr8.up ((uz.trans u6).trans u7)) hr16 Q t
    simp [c20z, g6, c24z, hl14, hl5]
    refine wp_seqX (wp_blockX (key1 _ _ ?_ ?_ ?_ ?_ ?_ ?_))
    case _ => simp
    case _ => simp
    case _ => simp
    case _ => simp
    case _ => simp
    case _ =>
      intro t t8 t16
      simp
      refine wp_seqX (wp_blockX (key2 _ _ ?_ ?_ ?_ ?_))
      case _ => simp [t8]
      case _ => simp [t16]
      case _ => simp
      case _ =>
        intro t
        simp [rW, tupV]
end Go.Proofs.Ythfidomphkednaa.walk
