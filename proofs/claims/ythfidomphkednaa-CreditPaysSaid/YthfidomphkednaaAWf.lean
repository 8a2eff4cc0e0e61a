/- Part of a proof by a machine of ones own: see the text with the theorem. -/
import Derived.Test.YthfidomphkednaaAWe
namespace Go.Proofs.Ythfidomphkednaa.walk
open Go Go.Sh
set_option maxRecDepth 100000
set_option linter.unusedSimpArgs false
set_option linter.unusedVariables false
/-! the specification's Pay, Clear, Left, Short -/
theorem loop15 {ov : Ov} (m : Nat) (h32 : HasP ov 32 S32.F) (ps : List Pt) (ds : List Dt) (h8 : ps.length ≤ 8) (L : List Int) (lv av : Value) (w0 : AW) (hv : RowsV intC w0 lv L) (ha : RowsV intC w0 av (lsF ps.length (owD ds))) (v2 : Value) (b0 : Bool) (hb0 : b0 = decide (L.length = ps.length))
    (Q : Ex → Tm → AW → Prop) (t : Tm) (t1 : tget t 1 = lv) (t2 : tget t 2 = v2) (t8 : tget t 8 = av) (t9 : tget t 9 = .bool b0) (t10 : tget t 10 = .int .i64 0)
    (hQ : ∀ t, tget t 1 = lv → tget t 2 = v2 → tget t 9 = .bool (payB ps ds L) → Q (.exit 0) t w0) : wp (exM Try.prog (run Try.prog ov (m + 1)) (.loop mc15_l0) t w0) Q := by
  refine wp_rounds (fun i t w' => w' = w0 ∧ tget t 1 = lv ∧ tget t 2 = v2 ∧ tget t 8 = av ∧ tget t 10 = .int .i64 (i : Nat) ∧ ((tget t 9 = .bool true ∧ L.length = ps.length ∧ i ≤ ps.length ∧ okR (pyB ds L) i) ∨ (tget t 9 = .bool false ∧ payB ps ds L = false))) 20 (by decide) ⟨rfl, t1, t2, t8, by simpa using t10, ?_⟩ ?_
  · by_cases hc : L.length = ps.length
    · rw [hb0, decide_eq_true hc] at t9
      exact .inl ⟨t9, hc, Nat.zero_le _, okR.zero _⟩
    · rw [hb0, decide_eq_false hc] at t9
      exact .inr ⟨t9, by unfold payB; rw [decide_eq_false hc]; rfl⟩
  clear t1 t2 t8 t9 t10
  rintro i t w' ⟨rfl, t1, t2, t8, t10, hh⟩
  rcases hh with ⟨t9, hc, hi, hall⟩ | ⟨t9, hf⟩
  · have hla := fun w2 => len26V (w' := w2) ha
    rw [lsF_len] at hla
    by_cases hlt : i < ps.length
    · obtain ⟨z, hz⟩ : ∃ a, L[i]? = some a := ⟨_, List.getElem?_eq_getElem (by omega)⟩
      obtain ⟨b1, o1, s1, c1, rfl, ld1, ia1⟩ := row_ld hv hz
      obtain ⟨b2, o2, s2, c2, rfl, ld2, ia2⟩ := row_ld ha (lsF_at ps.length (owD ds) hlt)
      rw [hc] at ia1
      simp only [lsF_len] at ia2
      have r32 := fun n a b w => S32.call (P := Try.prog) h32 (m := m) (w := w) ⟨n, a, b, rfl, rfl⟩
      have e : pyB ds L i = inI 0 z (owD ds (i : Int)) := by unfold pyB; rw [liF_at hz]
      obtain ⟨O, hO⟩ : ∃ X, X = owD ds (i : Int) := ⟨_, rfl⟩
      rw [← hO] at ld2 e
      have hw1' : IntKind.wrap .i64 ((i : Int) + 1) = (i : Int) + 1 := wrap64_in (by omega) (by omega)
      cases hp : inI 0 z O with
      | true =>
        rw [hp] at e
        have hm := hall.succ e
        simp [mc15_l0, t1, t2, t8, t9, t10, hla, hlt, hc, ia1, ia2, ld1, ld2, r32, hp, hw1']
        exact ⟨by omega, by omega, hm⟩
      | false =>
        rw [hp] at e
        have hf : payB ps ds L = false := by unfold payB; rw [okR.bad (by omega) e, Bool.and_false]
        simp [mc15_l0, t1, t2, t8, t9, t10, hla, hlt, hc, ia1, ia2, ld1, ld2, r32, hp, hw1']
        exact ⟨by omega, hf⟩
    · have hi' : i = ps.length := by omega
      subst hi'
      have e : payB ps ds L = true := by unfold payB; rw [hc, hall, decide_eq_true rfl]; rfl
      rw [e] at hQ
      simp [mc15_l0, t8, t9, t10, hla]
      exact hQ _ (by simp [t1]) (by simp [t2]) (by simp [t9])
  · rw [hf] at hQ
    simp [mc15_l0, t9]
    exact hQ _ (by simp [t1]) (by simp [t2]) (by simp [t9])
theorem call15 {ov : Ov} (m : Nat) (ho15 : ∀ args w, ov 15 args w = none) (ho45 : ∀ args w, ov 45 args w = none) (ho46 : ∀ args w, ov 46 args w = none) (h18 : HasP ov 18 S17.F) (h32 : HasP ov 32 S32.F) (h60 : HasP ov 60 S60.F) (pv dv lv : Value) (ps : List Pt) (ds : List Dt) (L : List Int) (w : AW) (hl : w.lim ≤ w.next) (hL : LedV w pv dv ps ds) (hr : RowsV intC w lv L) :
    ∃ v w', (run Try.prog ov (m + 4)).call 15 [.agg ⟨[pv, dv]⟩, lv] w .none = .ok (.ret v) w' .none ∧ ∃ v1 v2, v = .tuple ⟨[v1, v2, .int .i64 (pyE ps ds L)]⟩ ∧ RowsV intC w' v1 (pyP ps ds L) ∧ RowsV intC w' v2 (pyH ps ds L) ∧ Up w w' := by
  refine call_wp text15 (by simp) (ho15 _ _) ?_
  have nn : notJunk (.slice none 0 0) = some (.slice none 0 0) := rfl
  obtain ⟨w1, hw1⟩ : ∃ w1, w1 = (⟨w.heap.put w.next (some (.cells [pv, dv] 25 false)), w.next + 1, w.lim⟩ : AW) := ⟨_, rfl⟩
  have u1 : Up w w1 := hw1 ▸ (Up.refl w).add _
  have n1 : w1.next = w.next + 1 := by rw [hw1]
  have m1 : w1.lim = w.lim := by rw [hw1]
  have g1 : w1.heap.get w.next = some (.cells [pv, dv] 25 false) := by rw [hw1]; simp
  have r18 := S17.call (P := Try.prog) h18 (m := m + 2) ⟨pv, dv, ps, ds, rfl, hL.up u1, rfl⟩
  by_cases hC : chE ps ds = 0
  case neg =>
    have e1 : pyE ps ds L = chE ps ds := by unfold pyE; rw [if_neg hC]
    have e2 : pyP ps ds L = [] := by unfold pyP; rw [e1, if_neg hC]
    have e3 : pyH ps ds L = [] := by unfold pyH; rw [e1, if_neg hC]
    rw [hw1] at r18
    simp [mc15, cellsOf_agg, r18, hC, nn, tupV, e1, e2, e3]
    rw [hw1] at u1
    exact ⟨_, _, ⟨rfl, rfl⟩, .inl ⟨rfl, _, _, rfl⟩, .inl ⟨rfl, _, _, rfl⟩, u1⟩
  case pos =>
    have hO := ch_lk hC
    have hk : LK ps ds := hO.up (by decide)
    have h8 := hk.n8
    rw [hC] at r18
    obtain ⟨_, w2, c45, B, rfl, gB, hB1, hB2, u2⟩ := call45 (ov := ov) (m + 2) ho45 pv dv ps ds w1 (by omega) (hL.up u1) hk
    have n2 := u2.next
    have m2 := u2.lim
    have g2 := u2.at (b := w.next) (by omega)
    rw [g1] at g2
    have ha : RowsV intC w2 (.slice (some ⟨B, 0, none⟩) ps.length ps.length) (lsF ps.length (owD ds)) := rows_ls gB hB2 _
    have hl26 := fun w2 => len26V (w' := w2) hr
    have hlA := fun w2 => len26V (w' := w2) ha
    rw [lsF_len] at hlA
    have hdec : decide ((L.length : Int) = (ps.length : Int)) = decide (L.length = ps.length) := by rw [decide_eq_decide]; omega
    rw [hw1] at r18 c45
    simp [mc15, cellsOf_agg, r18, c45, hl26, hlA]
    refine wp_seqX (wp_blockX (loop15 (ov := ov) (m + 2) h32 ps ds h8 L lv (.slice (some ⟨B, 0, none⟩) ps.length ps.length) w2 (hr.up (u1.trans u2)) ha (.pointer (some ⟨w.next, 0, none⟩)) (decide ((L.length : Int) = (ps.length : Int))) hdec _ _ ?_ ?_ ?_ ?_ ?_ ?_))
    case _ => simp
    case _ => simp
    case _ => simp
    case _ => simp
    case _ => simp
    case _ =>
      intro t t1 t2 t9
      cases hB : payB ps ds L with
      | false =>
        have e1 : pyE ps ds L = 7 := by unfold pyE; rw [if_pos hC, hB]; rfl
        have e2 : pyP ps ds L = [] := by unfold pyP; rw [e1]; rfl
        have e3 : pyH ps ds L = [] := by unfold pyH; rw [e1]; rfl
        rw [hB] at t9
        simp [t9, nn, tupV, e1, e2, e3]
        exact ⟨_, _, ⟨rfl, rfl⟩, .inl ⟨rfl, _, _, rfl⟩, .inl ⟨rfl, _, _, rfl⟩, u1.trans u2⟩
      | true =>
        have hx := pay_rng hk hB
        have hlen : L.length = ps.length := by simp only [payB, Bool.and_eq_true, decide_eq_true_eq] at hB; exact hB.1
        have eLs : lsF ps.length (liF L) = L := by rw [← hlen]; exact payV_rows
        have e1 : pyE ps ds L = 0 := by unfold pyE; rw [if_pos hC, hB]; rfl
        have e2 : pyP ps ds L = paF ds (liF L) := by unfold pyP; rw [e1]; rfl
        have e3 : pyH ps ds L = lsF ps.length (haD ps ds (liF L)) := by unfold pyH; rw [e1]; rfl
        obtain ⟨_, w3, c46, p1, h1, rfl, hp1, hh1, u3, Bh, _⟩ := call46 (ov := ov) (m + 1) ho46 ho45 h60 pv dv lv ps ds hk (liF L) hx w2 (by omega) (hL.up (u1.trans u2)) (by rw [eLs]; exact hr.up (u1.trans u2))
        obtain ⟨a1, c1, rfl⟩ := hp1.len
        obtain ⟨a2, c2, rfl⟩ := hh1.len
        have j1 : ∀ a n c, notJunk (.slice a n c) = some (.slice a n c) := fun _ _ _ => rfl
        rw [hB] at t9
        simp [t1, t2, t9, g2, c46, j1, tupV, e1, e2, e3]
        exact ⟨_, _, ⟨rfl, rfl⟩, hp1, by simpa using hh1, (u1.trans u2).trans u3⟩
end Go.Proofs.Ythfidomphkednaa.walk

namespace Go.Proofs.Ythfidomphkednaa.walk
open Go Go.Sh
set_option maxRecDepth 100000
set_option linter.unusedSimpArgs false
set_option linter.unusedVariables false
end Go.Proofs.Ythfidomphkednaa.walk

namespace Go.Proofs.Ythfidomphkednaa.walk
open Go Go.Sh
set_option maxRecDepth 100000
set_option linter.unusedSimpArgs false
set_option linter.unusedVariables false
/-! CreditPays, CreditClears -/
theorem sm25 {w : AW} {pv dv : Value} {ps : List Pt} {ds : List Dt} (hL : LedV w pv dv ps ds) : sameVal 5 (.agg ⟨[pv, dv]⟩) (.agg ⟨[pv, dv]⟩) = true := same_agg _ (by
  obtain ⟨a, c, rfl⟩ := hL.p.len
  obtain ⟨a', c', rfl⟩ := hL.d.len
  intro v hv
  simp only [List.mem_cons, List.not_mem_nil, or_false] at hv
  rcases hv with rfl | rfl <;> exact sameN_slice _ _ _ _)
theorem pyP_len {ps : List Pt} {ds : List Dt} (L : List Int) : (pyP ps ds L).length ≤ 2 ^ 60 := by
  unfold pyP
  split
  · rename_i h
    have hC : chE ps ds = 0 := by unfold pyE at h; split at h <;> assumption
    have := (ch_lk hC).d16
    unfold paF; rw [List.length_map]; omega
  · simp
theorem pyH_len {ps : List Pt} {ds : List Dt} (L : List Int) : (pyH ps ds L).length ≤ 2 ^ 60 := by
  unfold pyH
  split
  · rename_i h
    have hC : chE ps ds = 0 := by unfold pyE at h; split at h <;> assumption
    have := (ch_lk hC).n8
    rw [lsF_len]; omega
  · simp
set_option maxHeartbeats 1000000 in
theorem call3 {ov : Ov} (m : Nat) (ho : ∀ args w, ov 3 args w = none) (ho14 : ∀ args w, ov 14 args w = none) (ho15 : ∀ args w, ov 15 args w = none) (ho40 : ∀ args w, ov 40 args w = none) (ho61 : ∀ args w, ov 61 args w = none) (ho74 : ∀ args w, ov 74 args w = none) (ho42 : ∀ args w, ov 42 args w = none) (ho43 : ∀ args w, ov 43 args w = none) (ho64 : ∀ args w, ov 64 args w = none) (ho45 : ∀ args w, ov 45 args w = none) (ho46 : ∀ args w, ov 46 args w = none)
    (hW : HasW ov) (h16 : HasP ov 16 S16.F) (h17 : HasP ov 17 S17.F) (h18 : HasP ov 18 S17.F) (h32 : HasP ov 32 S32.F) (h41 : HasP ov 41 S41.F) (h44 : HasP ov 44 S44.F) (h60 : HasP ov 60 S60.F) (h62 : HasP ov 62 S62.F) (h63 : HasP ov 63 S63.F)
    (pv dv lv : Value) (ps : List Pt) (ds : List Dt) (L : List Int) (w : AW) (hl : w.lim ≤ w.next) (hL : LedV w pv dv ps ds) (hr : RowsV intC w lv L) :
    ∃ v w', (run Try.prog ov (m + 5)).call 3 [.agg ⟨[pv, dv]⟩, lv] w .none = .ok (.ret v) w' .none ∧ v = .bool true := by
  refine call_wp text3 (by simp) (ho _ _) ?_
  obtain ⟨w1, hw1⟩ : ∃ w1, w1 = (⟨w.heap.put w.next (some (.cells [pv, dv] 25 false)), w.next + 1, w.lim⟩ : AW) := ⟨_, rfl⟩
  have u1 : Up w w1 := hw1 ▸ (Up.refl w).add _
  have n1 : w1.next = w.next + 1 := by rw [hw1]
  have m1 : w1.lim = w.lim := by rw [hw1]
  have g1 : w1.heap.get w.next = some (.cells [pv, dv] 25 false) := by rw [hw1]; simp
  obtain ⟨_, w2, c14, a1, a2, rfl, ha1, ha2, u2⟩ := call14 (ov := ov) m ho14 ho40 ho61 ho74 ho42 ho43 ho64 h62 h17 h41 h44 h63 pv dv lv ps ds L w1 (by omega) (hL.up u1) (hr.up u1)
  have n2 := u2.next
  have m2 := u2.lim
  have g2 := u2.at (b := w.next) (by omega)
  rw [g1] at g2
  obtain ⟨_, w3, c15, b1, b2, rfl, hb1, hb2, u3⟩ := call15 (ov := ov) m ho15 ho45 ho46 h18 h32 h60 pv dv lv ps ds L w2 (by omega) (hL.up (u1.trans u2)) (hr.up (u1.trans u2))
  have g3 := u3.at (b := w.next) (by omega)
  rw [g2] at g3
  have hL3 := hL.up ((u1.trans u2).trans u3)
  have r16a := S16.call (P := Try.prog) h16 (m := m + 3) (w := w3) ⟨a1, b1, _, _, rfl, ha1.up u3, hb1, pyP_len L, rfl⟩
  have r16b := S16.call (P := Try.prog) h16 (m := m + 3) (w := w3) ⟨a2, b2, _, _, rfl, ha2.up u3, hb2, pyH_len L, rfl⟩
  have r17 := S17.call (P := Try.prog) h17 (m := m + 3) (w := w3) ⟨pv, dv, ps, ds, rfl, hL3, rfl⟩
  have r18 := S17.call (P := Try.prog) h18 (m := m + 3) (w := w3) ⟨pv, dv, ps, ds, rfl, hL3, rfl⟩
  simp only [decide_true] at r16a r16b
  have rW := fun w => ruleW (m := m + 3) hW w
  have s1 := sm25 hL
  rw [hw1] at c14
  simp [mc3, cellsOf_agg, c14, g2, c15, r16a, r16b, g3, r17, r18, rW, s1, tupV]
end Go.Proofs.Ythfidomphkednaa.walk
