/- Part of a proof by a machine of ones own: see the text with the theorem. -/
import Derived.Test.YthfidomphkednaaAWe
namespace Go.Proofs.Ythfidomphkednaa.walk
open Go Go.Sh
set_option maxRecDepth 100000
set_option linter.unusedSimpArgs false
set_option linter.unusedVariables false
/-! the specification's Pay, Clear, Left, Short -/
theorem call21 {ov : Ov} (m : Nat) (ho21 : ∀ args w, ov 21 args w = none) (ho45 : ∀ args w, ov 45 args w = none) (ho46 : ∀ args w, ov 46 args w = none) (ho50 : ∀ args w, ov 50 args w = none) (h16 : HasP ov 16 S16.F) (h18 : HasP ov 18 S17.F) (h60 : HasP ov 60 S60.F) (pv dv : Value) (ps : List Pt) (ds : List Dt) (w : AW) (hl : w.lim ≤ w.next) (hL : LedV w pv dv ps ds) :
    ∃ v w', (run Try.prog ov (m + 4)).call 21 [.agg ⟨[pv, dv]⟩] w .none = .ok (.ret v) w' .none ∧ ∃ v1 v2, v = .tuple ⟨[v1, v2, .int .i64 (chE ps ds)]⟩ ∧ RowsV intC w' v1 (clP ps ds) ∧ RowsV intC w' v2 (clA ps ds) ∧ Up w w' := by
  refine call_wp text21 (by simp) (ho21 _ _) ?_
  have nn : notJunk (.slice none 0 0) = some (.slice none 0 0) := rfl
  obtain ⟨w1, hw1⟩ : ∃ w1, w1 = (⟨w.heap.put w.next (some (.cells [pv, dv] 25 false)), w.next + 1, w.lim⟩ : AW) := ⟨_, rfl⟩
  have u1 : Up w w1 := hw1 ▸ (Up.refl w).add _
  have n1 : w1.next = w.next + 1 := by rw [hw1]
  have m1 : w1.lim = w.lim := by rw [hw1]
  have g1 : w1.heap.get w.next = some (.cells [pv, dv] 25 false) := by rw [hw1]; simp
  have r18 := S17.call (P := Try.prog) h18 (m := m + 2) ⟨pv, dv, ps, ds, rfl, hL.up u1, rfl⟩
  by_cases hC : chE ps ds = 0
  case neg =>
    have e2 : clP ps ds = [] := by unfold clP; rw [if_neg hC]
    have e3 : clA ps ds = [] := by unfold clA; rw [if_neg hC]
    rw [hw1] at r18
    simp [mc21, cellsOf_agg, r18, hC, nn, tupV, e2, e3]
    rw [hw1] at u1
    exact ⟨_, _, ⟨rfl, rfl⟩, .inl ⟨rfl, _, _, rfl⟩, .inl ⟨rfl, _, _, rfl⟩, u1⟩
  case pos =>
    have hO := ch_lk hC
    have hk : LK ps ds := hO.up (by decide)
    rw [hC] at r18
    obtain ⟨v6, w2, c50, hr6, u2, j6⟩ := call50 (ov := ov) m ho50 ho45 ho46 h16 h60 pv dv ps ds hk w1 (by omega) (hL.up u1)
    have n2 := u2.next
    have m2 := u2.lim
    have g2 := u2.at (b := w.next) (by omega)
    rw [g1] at g2
    obtain ⟨_, w3, c46, p1, h1, rfl, hp1, hh1, u3, _⟩ := call46 (ov := ov) (m + 1) ho46 ho45 h60 pv dv v6 ps ds hk (stF ps ds) (st_rng hk) w2 (by omega) (hL.up (u1.trans u2)) hr6
    obtain ⟨a1, c1, rfl⟩ := hp1.len
    have j1 : ∀ a n c, notJunk (.slice a n c) = some (.slice a n c) := fun _ _ _ => rfl
    have e2 : clP ps ds = lsF ps.length (stF ps ds) := by unfold clP; rw [if_pos hC]
    have e3 : clA ps ds = paF ds (stF ps ds) := by unfold clA; rw [if_pos hC]
    rw [hw1] at r18 c50
    simp [mc21, cellsOf_agg, r18, c50, g2, c46, j1, j6, hC, tupV, e2, e3]
    exact ⟨_, _, ⟨rfl, rfl⟩, hr6.up u3, hp1, (u1.trans u2).trans u3⟩
end Go.Proofs.Ythfidomphkednaa.walk

namespace Go.Proofs.Ythfidomphkednaa.walk
open Go Go.Sh
set_option maxRecDepth 100000
set_option linter.unusedSimpArgs false
set_option linter.unusedVariables false
def lpF (ps : List Pt) (ds : List Dt) (x : Int → Int) (i : Nat) : Int → Int := fun p => haD ps ds x p - sI (fun d => if d.f = p then ptD (owD ds) x d else 0) (ds.take i)
theorem lpF_zero (ps : List Pt) (ds : List Dt) (x : Int → Int) : lpF ps ds x 0 = haD ps ds x := by funext p; simp [lpF, sI]
theorem lpF_all (ps : List Pt) (ds : List Dt) (x : Int → Int) : lpF ps ds x ds.length = leD ps ds x := by funext p; simp [lpF, leD, ouD]
theorem lpF_step {ps : List Pt} {ds : List Dt} {x : Int → Int} {i : Nat} {d : Dt} (h : ds[i]? = some d) : updF (lpF ps ds x i) d.f (lpF ps ds x i d.f - ptD (owD ds) x d) = lpF ps ds x (i + 1) := by
  funext p
  unfold updF lpF
  rw [sI_step h]
  by_cases h1 : p = d.f
  · subst h1
    simp only [if_true]; omega
  · have h2 : ¬ d.f = p := fun e => h1 e.symm
    simp only [if_neg h1, if_neg h2]; omega
theorem lpF_bd {ps : List Pt} {ds : List Dt} (hk : LK ps ds) {x : Int → Int} (hx : ∀ p, 0 ≤ x p ∧ x p ≤ owD ds p) (i : Nat) (p : Int) : -10000000 ≤ lpF ps ds x i p ∧ lpF ps ds x i p ≤ 10000000 := by
  have h1 := hk.ha_in hx p
  have h2 := ouT_bd hk hx p i
  unfold lpF
  omega
theorem paF_at {ds : List Dt} {x : Int → Int} {i : Nat} {d : Dt} (h : ds[i]? = some d) : (paF ds x)[i]? = some (ptD (owD ds) x d) := by unfold paF; simp [h]
theorem loop23 {ov : Ov} (m : Nat) (pv dv : Value) (ps : List Pt) (ds : List Dt) (hk : LK ps ds) (x : Int → Int) (hx : ∀ p, 0 ≤ x p ∧ x p ≤ owD ds p) (w w3 : AW) (hL : LedV w pv dv ps ds) (u3 : Up w w3) (hlw : w.lim ≤ w.next) (B n1 : Nat) (hn1 : n1 < B) (hn13 : n1 < w3.next) (g1 : w3.heap.get n1 = some (.cells [pv, dv] 25 false)) (p1 : Value) (hB : w.next ≤ B) (hB3 : B < w3.next) (gB : w3.heap.get B = some (.cells (lsC ps.length (haD ps ds x)) 3 false)) (hp : ∀ w5 : AW, (∀ y, y < w3.next → y ≠ B → w5.heap.get y = w3.heap.get y) → w3.next ≤ w5.next → RowsV intC w5 p1 (paF ds x))
    (Q : Ex → Tm → AW → Prop) (t : Tm) (t1 : tget t 1 = .pointer (some ⟨n1, 0, none⟩)) (t5 : tget t 5 = p1) (t6 : tget t 6 = .slice (some ⟨B, 0, none⟩) ps.length ps.length) (t7 : tget t 7 = .int .i64 0)
    (hQ : ∀ t w', Up w w' → w'.heap.get B = some (.cells (lsC ps.length (leD ps ds x)) 3 false) → B < w'.next → tget t 6 = .slice (some ⟨B, 0, none⟩) ps.length ps.length → Q (.exit 0) t w') : wp (exM Try.prog (run Try.prog ov m) (.loop mc23_l0) t w3) Q := by
  have h16 := hk.d16
  have h8 := hk.n8
  refine wp_rounds (fun i t w' => Kp B w3 w' ∧ w'.heap.get B = some (.cells (lsC ps.length (lpF ps ds x i)) 3 false) ∧ tget t 1 = .pointer (some ⟨n1, 0, none⟩) ∧ tget t 5 = p1 ∧ tget t 6 = .slice (some ⟨B, 0, none⟩) ps.length ps.length ∧ tget t 7 = .int .i64 (i : Nat) ∧ i ≤ ds.length) 20 (by decide) ⟨Kp.refl _ _, by rw [lpF_zero]; exact gB, t1, t5, t6, by simpa using t7, Nat.zero_le _⟩ ?_
  clear t1 t5 t6 t7
  rintro i t w' ⟨hkp, gb, t1, t5, t6, t7, hi⟩
  have hup := hkp.up u3 hB
  have hlm := hup.lim
  have hnx := hup.next
  have hk3 := hkp.next
  have g := hkp.old n1 hn13 (by omega)
  rw [g1] at g
  have hpw := hp w' (fun y h1 h2 => hkp.old y h1 h2) hk3
  have hlp := fun w2 => len26V (w' := w2) hpw
  have epl : (paF ds x).length = ds.length := by unfold paF; rw [List.length_map]
  rw [epl] at hlp
  by_cases hlt : i < ds.length
  · obtain ⟨d, hd⟩ : ∃ a, ds[i]? = some a := ⟨_, List.getElem?_eq_getElem hlt⟩
    obtain ⟨b, off, sq, c, rfl, hra⟩ := (hL.d.up hup).at_ i hlt
    have l0 := hra.rd1 (j := 0) dtC_length hd (x := .int .i64 d.f) rfl
    simp only [Nat.add_zero] at l0
    have hia := fun w => ia23 w ⟨b, off, sq⟩ ds.length c .i64 i hlt
    obtain ⟨b1, o1, s1, c1, rfl, ld1, ia1⟩ := row_ld hpw (paF_at (x := x) hd)
    rw [epl] at ia1
    have hdb := hk.debt d (List.mem_of_getElem? hd)
    have hpb := pt_bd hk hx (List.mem_of_getElem? hd)
    have hbd := lpF_bd hk hx i d.f
    have hst := lpF_step (ps := ps) (x := x) hd
    obtain ⟨V, hV⟩ : ∃ X, X = ptD (owD ds) x d := ⟨_, rfl⟩
    rw [← hV] at ld1 hpb hst
    obtain ⟨df, dt, dc⟩ := d
    simp only at hdb l0 hbd hst
    obtain ⟨k, rfl⟩ : ∃ k : Nat, df = (k : Int) := ⟨df.toNat, by omega⟩
    have hkn : k < ps.length := by omega
    have hia6 := fun w => ia26 w ⟨B, 0, none⟩ ps.length ps.length .i64 k hkn
    simp only [Nat.mul_one] at hia6
    have hgt := lsC_get ps.length (lpF ps ds x i) hkn
    obtain ⟨U, hU⟩ : ∃ U, U = lpF ps ds x i (k : Int) := ⟨_, rfl⟩
    rw [← hU] at hgt hbd hst
    have w1' : IntKind.wrap .i64 (U - V) = U - V := wrap64_in (by omega) (by omega)
    have w2' : IntKind.wrap .i64 ((i : Int) + 1) = (i : Int) + 1 := wrap64_in (by omega) (by omega)
    have q2 : w'.lim ≤ B := by omega
    have hs' := st_ls (w := w') (B := B) (n := ps.length) (x := lpF ps ds x i) (v := U - V) hkn q2
    rw [hst] at hs'
    simp [mc23_l0, t1, t5, t6, t7, g, epl, hlt, hia, l0, hia6, gb, hgt, hU.symm, ia1, ld1, w1', w2', hs', -wrO_cells]
    exact ⟨by omega, hkp.new (.inr rfl) (Nat.le_refl _), hlt⟩
  · have hi' : i = ds.length := by omega
    subst hi'
    rw [lpF_all] at gb
    simp [mc23_l0, t5, t7, hlp]
    exact hQ _ _ hup gb (by omega) (by simp [t6])
theorem call23 {ov : Ov} (m : Nat) (ho23 : ∀ args w, ov 23 args w = none) (ho45 : ∀ args w, ov 45 args w = none) (ho46 : ∀ args w, ov 46 args w = none) (ho50 : ∀ args w, ov 50 args w = none) (h16 : HasP ov 16 S16.F) (h18 : HasP ov 18 S17.F) (h60 : HasP ov 60 S60.F) (pv dv : Value) (ps : List Pt) (ds : List Dt) (w : AW) (hl : w.lim ≤ w.next) (hL : LedV w pv dv ps ds) :
    ∃ v w', (run Try.prog ov (m + 4)).call 23 [.agg ⟨[pv, dv]⟩] w .none = .ok (.ret v) w' .none ∧ ∃ v1, v = .tuple ⟨[v1, .int .i64 (chE ps ds)]⟩ ∧ RowsV intC w' v1 (lfL ps ds) ∧ Up w w' := by
  refine call_wp text23 (by simp) (ho23 _ _) ?_
  have nn : notJunk (.slice none 0 0) = some (.slice none 0 0) := rfl
  obtain ⟨w1, hw1⟩ : ∃ w1, w1 = (⟨w.heap.put w.next (some (.cells [pv, dv] 25 false)), w.next + 1, w.lim⟩ : AW) := ⟨_, rfl⟩
  have u1 : Up w w1 := hw1 ▸ (Up.refl w).add _
  have n1 : w1.next = w.next + 1 := by rw [hw1]
  have m1 : w1.lim = w.lim := by rw [hw1]
  have g1 : w1.heap.get w.next = some (.cells [pv, dv] 25 false) := by rw [hw1]; simp
  have r18 := S17.call (P := Try.prog) h18 (m := m + 2) ⟨pv, dv, ps, ds, rfl, hL.up u1, rfl⟩
  by_cases hC : chE ps ds = 0
  case neg =>
    have e2 : lfL ps ds = [] := by unfold lfL; rw [if_neg hC]
    rw [hw1] at r18
    simp [mc23, cellsOf_agg, r18, hC, nn, tupV, e2]
    rw [hw1] at u1
    exact ⟨.inl ⟨rfl, _, _, rfl⟩, u1⟩
  case pos =>
    have hO := ch_lk hC
    have hk : LK ps ds := hO.up (by decide)
    rw [hC] at r18
    obtain ⟨v6, w2, c50, hr6, u2, j6⟩ := call50 (ov := ov) m ho50 ho45 ho46 h16 h60 pv dv ps ds hk w1 (by omega) (hL.up u1)
    have n2 := u2.next
    have m2 := u2.lim
    have g2 := u2.at (b := w.next) (by omega)
    rw [g1] at g2
    obtain ⟨_, w3, c46, p1, h1, rfl, hp1, hh1, u3, B, rfl, gB, hB1, hB2, hpp⟩ := call46 (ov := ov) (m + 1) ho46 ho45 h60 pv dv v6 ps ds hk (stF ps ds) (st_rng hk) w2 (by omega) (hL.up (u1.trans u2)) hr6
    have g3 := u3.at (b := w.next) (by omega)
    rw [g2] at g3
    have n3 := u3.next
    have e2 : lfL ps ds = lsF ps.length (leD ps ds (stF ps ds)) := by unfold lfL; rw [if_pos hC]
    have ssv : sameVal 5 (.agg ⟨[pv, dv]⟩) (.agg ⟨[pv, dv]⟩) = true := same_agg _ (by
      obtain ⟨a, c, rfl⟩ := hL.p.len
      obtain ⟨a', c', rfl⟩ := hL.d.len
      intro v hv
      simp only [List.mem_cons, List.not_mem_nil, or_false] at hv
      rcases hv with rfl | rfl <;> exact sameN_slice _ _ _ _)
    rw [hw1] at r18 c50
    simp [mc23, cellsOf_agg, r18, hC, c50, g2, ssv, c46]
    refine wp_seqX (wp_blockX (loop23 (ov := ov) (m + 3) pv dv ps ds hk (stF ps ds) (st_rng hk) w w3 hL ((u1.trans u2).trans u3) hl B w.next (by omega) (by omega) g3 p1 (by omega) hB2 gB hpp _ _ ?_ ?_ ?_ ?_ ?_))
    case _ => simp
    case _ => simp
    case _ => simp
    case _ => simp
    case _ =>
      intro t w4 u4 g4 hB4 t6
      have hr := rows_ls g4 hB4 ps.length
      have nj : ∀ (a : Addr) n c, notJunk (.slice (some a) n c) = some (.slice (some a) n c) := fun _ _ _ => rfl
      simp [t6, nj, tupV, e2]
      exact ⟨hr, u4⟩
theorem loop53 {ov : Ov} (m : Nat) (ps : List Pt) (ds : List Dt) (h8 : ps.length ≤ 8) (uv av : Value) (w0 : AW) (n0 : Nat) (hn0 : w0.next = n0 + 1) (hl : w0.lim ≤ n0) (hu : RowsV intC w0 uv (lsF ps.length (stF ps ds))) (ha : RowsV intC w0 av (lsF ps.length (owD ds)))
    (Q : Ex → Tm → AW → Prop) (t : Tm) (t3 : tget t 3 = uv) (t4 : tget t 4 = av) (t5 : tget t 5 = .slice none 0 0) (t6 : tget t 6 = .int .i64 0)
    (hQ : ∀ t w', Up w0 w' → RowsV intC w' (tget t 5) (shP ps ds ps.length) → notJunk (tget t 5) = some (tget t 5) → Q (.exit 0) t w') : wp (exM Try.prog (run Try.prog ov m) (.loop mc53_l0) t w0) Q := by
  refine wp_rounds (fun i t w' => Up w0 w' ∧ (∃ B, AccQ intC 3 n0 w' (tget t 5) (shP ps ds i) B) ∧ tget t 3 = uv ∧ tget t 4 = av ∧ tget t 6 = .int .i64 (i : Nat) ∧ i ≤ ps.length) 20 (by decide) ⟨Up.refl _, ⟨0, .inl ⟨by simp [shP], t5⟩⟩, t3, t4, by simpa using t6, Nat.zero_le _⟩ ?_
  clear t3 t4 t5 t6
  rintro i t w' ⟨hup, ⟨B, hacc⟩, t3, t4, t6, hi⟩
  have hlm := hup.lim
  have hnx := hup.next
  have hla := fun w2 => len26V (w' := w2) ha
  rw [lsF_len] at hla
  by_cases hlt : i < ps.length
  · obtain ⟨b1, o1, s1, c1, rfl, ld1, ia1⟩ := row_ld (hu.up hup) (lsF_at ps.length (stF ps ds) hlt)
    obtain ⟨b2, o2, s2, c2, rfl, ld2, ia2⟩ := row_ld (ha.up hup) (lsF_at ps.length (owD ds) hlt)
    simp only [lsF_len] at ia1 ia2
    have hb : shB ps ds i = decide (stF ps ds (i : Int) < owD ds (i : Int)) := rfl
    obtain ⟨S, hS⟩ : ∃ S, S = stF ps ds (i : Int) := ⟨_, rfl⟩
    obtain ⟨O, hO⟩ : ∃ S, S = owD ds (i : Int) := ⟨_, rfl⟩
    rw [← hS] at ld1 hb
    rw [← hO] at ld2 hb
    have hw1' : IntKind.wrap .i64 ((i : Int) + 1) = (i : Int) + 1 := wrap64_in (by omega) (by omega)
    by_cases hc : S < O
    · rw [decide_eq_true hc] at hb
      have hst := shP_yes hb
      obtain ⟨v', w4, hap, ⟨B', hB', hacc'⟩, hkp, hn4, hl4⟩ := AccQ.push (P := Try.prog) (st := 26) (sz := 1) list26 elem26 size3 small3 intC_length (fun _ => by simp [intC]) (by decide) hacc (by omega) (by omega) (by have := shP_len ps ds i; omega) (i : Int)
      rw [← hst] at hacc'
      simp only [intC] at hap
      simp [mc53_l0, t3, t4, t6, hla, hlt, ia1, ia2, ld1, ld2, hc, hap, hw1']
      exact ⟨by omega, ⟨fun x hx => by rw [hkp x (by omega) (fun hne => by have := hacc.lt hne; omega)]; exact hup.at hx, by omega, by omega⟩, ⟨B', hacc'⟩, hlt⟩
    · rw [decide_eq_false hc] at hb
      have hst := shP_no hb
      rw [← hst] at hacc
      simp [mc53_l0, t3, t4, t6, hla, hlt, ia1, ia2, ld1, ld2, hc, hw1']
      exact ⟨by omega, hup, ⟨B, hacc⟩, hlt⟩
  · have hi' : i = ps.length := by omega
    subst hi'
    simp [mc53_l0, t4, t6, hla]
    exact hQ _ _ hup (by simpa using hacc.rows) (by simpa using hacc.ok)
theorem call53 {ov : Ov} (m : Nat) (ho : ∀ args w, ov 53 args w = none) (ho45 : ∀ args w, ov 45 args w = none) (ho46 : ∀ args w, ov 46 args w = none) (ho50 : ∀ args w, ov 50 args w = none) (h16 : HasP ov 16 S16.F) (h60 : HasP ov 60 S60.F) (pv dv : Value) (ps : List Pt) (ds : List Dt) (hk : LK ps ds) (w : AW) (hl : w.lim ≤ w.next) (hL : LedV w pv dv ps ds) :
    ∃ v w', (run Try.prog ov (m + 4)).call 53 [.agg ⟨[pv, dv]⟩] w .none = .ok (.ret v) w' .none ∧ RowsV intC w' v (shP ps ds ps.length) ∧ Up w w' ∧ notJunk v = some v := by
  refine call_wp text53 (by simp) (ho _ _) ?_
  obtain ⟨w1, hw1⟩ : ∃ w1, w1 = (⟨w.heap.put w.next (some (.cells [pv, dv] 25 false)), w.next + 1, w.lim⟩ : AW) := ⟨_, rfl⟩
  have u1 : Up w w1 := hw1 ▸ (Up.refl w).add _
  have n1 : w1.next = w.next + 1 := by rw [hw1]
  have m1 : w1.lim = w.lim := by rw [hw1]
  have g1 : w1.heap.get w.next = some (.cells [pv, dv] 25 false) := by rw [hw1]; simp
  obtain ⟨v6, w2, c50, hr6, u2, j6⟩ := call50 (ov := ov) m ho50 ho45 ho46 h16 h60 pv dv ps ds hk w1 (by omega) (hL.up u1)
  have n2 := u2.next
  have m2 := u2.lim
  have g2 := u2.at (b := w.next) (by omega)
  rw [g1] at g2
  obtain ⟨_, w3, c45, B, rfl, gB, hB1, hB2, u3⟩ := call45 (ov := ov) (m + 2) ho45 pv dv ps ds w2 (by omega) (hL.up (u1.trans u2)) hk
  have n3 := u3.next
  have m3 := u3.lim
  have ha : RowsV intC w3 (.slice (some ⟨B, 0, none⟩) ps.length ps.length) (lsF ps.length (owD ds)) := rows_ls gB hB2 _
  obtain ⟨n0, hn0⟩ : ∃ n0, w3.next = n0 + 1 := ⟨w3.next - 1, by omega⟩
  have ssv : sameVal 5 (.agg ⟨[pv, dv]⟩) (.agg ⟨[pv, dv]⟩) = true := same_agg _ (by
    obtain ⟨a, c, rfl⟩ := hL.p.len
    obtain ⟨a', c', rfl⟩ := hL.d.len
    intro v hv
    simp only [List.mem_cons, List.not_mem_nil, or_false] at hv
    rcases hv with rfl | rfl <;> exact sameN_slice _ _ _ _)
  rw [hw1] at c50
  simp [mc53, cellsOf_agg, c50, g2, ssv, c45]
  refine wp_seqX (wp_blockX (loop53 (ov := ov) (m + 3) ps ds hk.n8 v6 (.slice (some ⟨B, 0, none⟩) ps.length ps.length) w3 n0 hn0 (by omega) (hr6.up u3) ha _ _ ?_ ?_ ?_ ?_ ?_))
  case _ => simp
  case _ => simp
  case _ => simp
  case _ => simp
  case _ =>
    intro t w4 u4 hr5 j5
    simp [j5, tupV]
    exact ⟨hr5, ((u1.trans u2).trans u3).trans u4⟩
theorem call25 {ov : Ov} (m : Nat) (ho25 : ∀ args w, ov 25 args w = none) (ho53 : ∀ args w, ov 53 args w = none) (ho45 : ∀ args w, ov 45 args w = none) (ho46 : ∀ args w, ov 46 args w = none) (ho50 : ∀ args w, ov 50 args w = none) (h16 : HasP ov 16 S16.F) (h18 : HasP ov 18 S17.F) (h60 : HasP ov 60 S60.F) (pv dv : Value) (ps : List Pt) (ds : List Dt) (w : AW) (hl : w.lim ≤ w.next) (hL : LedV w pv dv ps ds) :
    ∃ v w', (run Try.prog ov (m + 5)).call 25 [.agg ⟨[pv, dv]⟩] w .none = .ok (.ret v) w' .none ∧ ∃ v1, v = .tuple ⟨[v1, .int .i64 (chE ps ds)]⟩ ∧ RowsV intC w' v1 (shL ps ds) ∧ Up w w' := by
  refine call_wp text25 (by simp) (ho25 _ _) ?_
  have nn : notJunk (.slice none 0 0) = some (.slice none 0 0) := rfl
  obtain ⟨w1, hw1⟩ : ∃ w1, w1 = (⟨w.heap.put w.next (some (.cells [pv, dv] 25 false)), w.next + 1, w.lim⟩ : AW) := ⟨_, rfl⟩
  have u1 : Up w w1 := hw1 ▸ (Up.refl w).add _
  have n1 : w1.next = w.next + 1 := by rw [hw1]
  have m1 : w1.lim = w.lim := by rw [hw1]
  have r18 := S17.call (P := Try.prog) h18 (m := m + 3) ⟨pv, dv, ps, ds, rfl, hL.up u1, rfl⟩
  by_cases hC : chE ps ds = 0
  case neg =>
    have e2 : shL ps ds = [] := by unfold shL; rw [if_neg hC]
    rw [hw1] at r18
    simp [mc25, cellsOf_agg, r18, hC, nn, tupV, e2]
    rw [hw1] at u1
    exact ⟨.inl ⟨rfl, _, _, rfl⟩, u1⟩
  case pos =>
    have hO := ch_lk hC
    have hk : LK ps ds := hO.up (by decide)
    rw [hC] at r18
    obtain ⟨v1, w3, c53, hr1, u3, j1⟩ := call53 (ov := ov) m ho53 ho45 ho46 ho50 h16 h60 pv dv ps ds hk w1 (by omega) (hL.up u1)
    have e2 : shL ps ds = shP ps ds ps.length := by unfold shL; rw [if_pos hC]
    rw [hw1] at r18 c53
    simp [mc25, cellsOf_agg, r18, c53, j1, hC, tupV, e2]
    exact ⟨hr1, u1.trans u3⟩
end Go.Proofs.Ythfidomphkednaa.walk

namespace Go.Proofs.Ythfidomphkednaa.walk
open Go Go.Sh
set_option maxRecDepth 100000
set_option linter.unusedSimpArgs false
set_option linter.unusedVariables false
/-! CreditPays, CreditClears -/
set_option maxHeartbeats 2000000 in
theorem call4 {ov : Ov} (m : Nat) (ho : ∀ args w, ov 4 args w = none) (ho20 : ∀ args w, ov 20 args w = none) (ho21 : ∀ args w, ov 21 args w = none) (ho22 : ∀ args w, ov 22 args w = none) (ho23 : ∀ args w, ov 23 args w = none) (ho24 : ∀ args w, ov 24 args w = none) (ho25 : ∀ args w, ov 25 args w = none) (ho52 : ∀ args w, ov 52 args w = none) (ho53 : ∀ args w, ov 53 args w = none) (ho40 : ∀ args w, ov 40 args w = none) (ho61 : ∀ args w, ov 61 args w = none) (ho74 : ∀ args w, ov 74 args w = none) (ho42 : ∀ args w, ov 42 args w = none) (ho43 : ∀ args w, ov 43 args w = none) (ho64 : ∀ args w, ov 64 args w = none) (ho45 : ∀ args w, ov 45 args w = none) (ho46 : ∀ args w, ov 46 args w = none) (ho50 : ∀ args w, ov 50 args w = none)
    (hW : HasW ov) (h16 : HasP ov 16 S16.F) (h17 : HasP ov 17 S17.F) (h18 : HasP ov 18 S17.F) (h49 : HasP ov 49 S49.F) (h51 : HasP ov 51 S51.F) (h60 : HasP ov 60 S60.F) (h62 : HasP ov 62 S62.F) (h63 : HasP ov 63 S63.F)
    (pv dv : Value) (ps : List Pt) (ds : List Dt) (w : AW) (hl : w.lim ≤ w.next) (hL : LedV w pv dv ps ds) :
    ∃ v w', (run Try.prog ov (m + 6)).call 4 [.agg ⟨[pv, dv]⟩] w .none = .ok (.ret v) w' .none ∧ v = .bool true := by
  refine call_wp text4 (by simp) (ho _ _) ?_
  obtain ⟨w1, hw1⟩ : ∃ w1, w1 = (⟨w.heap.put w.next (some (.cells [pv, dv] 25 false)), w.next + 1, w.lim⟩ : AW) := ⟨_, rfl⟩
  have u1 : Up w w1 := hw1 ▸ (Up.refl w).add _
  have n1 : w1.next = w.next + 1 := by rw [hw1]
  have m1 : w1.lim = w.lim := by rw [hw1]
  have g1 : w1.heap.get w.next = some (.cells [pv, dv] 25 false) := by rw [hw1]; simp
  obtain ⟨_, w2, c20, a1, a2, rfl, ha1, ha2, u2⟩ := call20 (ov := ov) (m + 1) ho20 ho40 ho61 ho74 ho42 ho43 ho64 h62 h17 h49 h63 pv dv ps ds w1 (by omega) (hL.up u1)
  have n2 := u2.next
  have m2 := u2.lim
  have g2 := u2.at (b := w.next) (by omega)
  rw [g1] at g2
  have v2 := u1.trans u2
  obtain ⟨_, w3, c21, b1, b2, rfl, hb1, hb2, u3⟩ := call21 (ov := ov) (m + 1) ho21 ho45 ho46 ho50 h16 h18 h60 pv dv ps ds w2 (by omega) (hL.up v2)
  have n3 := u3.next
  have m3 := u3.lim
  have g3 := u3.at (b := w.next) (by omega)
  rw [g2] at g3
  have v3 := v2.trans u3
  obtain ⟨_, w4, c22, d1, rfl, hd1, u4⟩ := call22 (ov := ov) (m + 1) ho22 ho40 ho61 ho74 ho43 ho64 h62 h17 h49 h51 pv dv ps ds w3 (by omega) (hL.up v3)
  have n4 := u4.next
  have m4 := u4.lim
  have g4 := u4.at (b := w.next) (by omega)
  rw [g3] at g4
  have v4 := v3.trans u4
  obtain ⟨_, w5, c23, e1, rfl, he1, u5⟩ := call23 (ov := ov) (m + 1) ho23 ho45 ho46 ho50 h16 h18 h60 pv dv ps ds w4 (by omega) (hL.up v4)
  have n5 := u5.next
  have m5 := u5.lim
  have g5 := u5.at (b := w.next) (by omega)
  rw [g4] at g5
  have v5 := v4.trans u5
  obtain ⟨_, w6, c24, f1, rfl, hf1, u6⟩ := call24 (ov := ov) (m + 1) ho24 ho40 ho61 ho74 ho52 h62 h17 h49 pv dv ps ds w5 (by omega) (hL.up v5)
  have n6 := u6.next
  have m6 := u6.lim
  have g6 := u6.at (b := w.next) (by omega)
  rw [g5] at g6
  have v6 := v5.trans u6
  obtain ⟨_, w7, c25, h1, rfl, hh1, u7⟩ := call25 (ov := ov) m ho25 ho53 ho45 ho46 ho50 h16 h18 h60 pv dv ps ds w6 (by omega) (hL.up v6)
  have l1 : (clP ps ds).length ≤ 2 ^ 60 := by
    unfold clP
    split
    · rename_i h; have := (ch_lk h).n8; rw [lsF_len]; omega
    · simp
  have l2 : (clA ps ds).length ≤ 2 ^ 60 := by
    unfold clA
    split
    · rename_i h; have := (ch_lk h).d16; unfold paF; rw [List.length_map]; omega
    · simp
  have l3 : (lfL ps ds).length ≤ 2 ^ 60 := by
    unfold lfL
    split
    · rename_i h; have := (ch_lk h).n8; rw [lsF_len]; omega
    · simp
  have l4 : (shL ps ds).length ≤ 2 ^ 60 := by
    unfold shL
    split
    · rename_i h; have := (ch_lk h).n8; have := shP_len ps ds ps.length; omega
    · simp
  have r16a := S16.call (P := Try.prog) h16 (m := m + 4) (w := w3) ⟨a1, b1, _, _, rfl, ha1.up u3, hb1, l1, rfl⟩
  have r16b := S16.call (P := Try.prog) h16 (m := m + 4) (w := w3) ⟨a2, b2, _, _, rfl, ha2.up u3, hb2, l2, rfl⟩
  have r16c := S16.call (P := Try.prog) h16 (m := m + 4) (w := w5) ⟨d1, e1, _, _, rfl, hd1.up u5, he1, l3, rfl⟩
  have r16d := S16.call (P := Try.prog) h16 (m := m + 4) (w := w7) ⟨f1, h1, _, _, rfl, hf1.up u7, hh1, l4, rfl⟩
  simp only [decide_true] at r16a r16b r16c r16d
  have rW := fun w => ruleW (m := m + 4) hW w
  rw [hw1] at c20
  simp [mc4, cellsOf_agg, c20, g2, c21, r16a, r16b, g3, c22, g4, c23, r16c, g5, c24, g6, c25, r16d, rW, tupV]
end Go.Proofs.Ythfidomphkednaa.walk
