/- Part of a proof by a machine of ones own: see the text with the theorem. -/
import Derived.Test.YthfidomphkednaaAWd
namespace Go.Proofs.Ythfidomphkednaa.walk
open Go Go.Sh
set_option maxRecDepth 100000
set_option linter.unusedSimpArgs false
set_option linter.unusedVariables false
/-! the specification's Check -/
def nmB (ps : List Pt) (a : Pt) (k : Nat) : Bool := match ps[k]? with
  | some q => !decide (q.nm.data.toList = a.nm.data.toList)
  | none => true
theorem nm_all {ps : List Pt} {a : Pt} : ∀ {i : Nat}, i ≤ ps.length → (List.range i).all (nmB ps a) = !hasT (nmsTo ps i) a.nm
  | 0, _ => by simp [nmsTo, hasT]
  | i + 1, h => by
    obtain ⟨q, hq⟩ : ∃ q, ps[i]? = some q := ⟨_, List.getElem?_eq_getElem (by omega)⟩
    rw [List.range_succ, List.all_append, nm_all (by omega), ← nmsTo_step hq]
    have e : nmB ps a i = !decide (q.nm.data.toList = a.nm.data.toList) := by unfold nmB; rw [hq]
    simp only [hasT, List.any_append, List.all_cons, List.all_nil, Bool.and_true, e, List.any_cons, List.any_nil, Bool.or_false, Bool.not_or]
    congr 2
    rw [decide_eq_decide]
    exact ⟨fun h => h.symm, fun h => h.symm⟩
theorem loop18b {ov : Ov} (m : Nat) (pv dv : Value) (ps : List Pt) (ds : List Dt) (h8 : ps.length ≤ 8) (w0 : AW) (hL : LedV w0 pv dv ps ds) (n2 : Nat) (g2 : w0.heap.get n2 = some (.cells [pv, dv] 25 false)) (i : Nat) (a : Pt) (ha : ps[i]? = some a) (b0 : Bool) (v3 : Value)
    (Q : Ex → Tm → AW → Prop) (t : Tm) (t1 : tget t 1 = .pointer (some ⟨n2, 0, none⟩)) (t2 : tget t 2 = .int .i64 0) (t3 : tget t 3 = v3) (t4 : tget t 4 = .bool b0) (t5 : tget t 5 = .int .i64 (i : Nat)) (t6 : tget t 6 = .int .i64 0)
    (hQ : ∀ t, tget t 1 = .pointer (some ⟨n2, 0, none⟩) → tget t 2 = .int .i64 0 → tget t 3 = v3 → tget t 4 = .bool (b0 && (List.range i).all (nmB ps a)) → tget t 5 = .int .i64 (i : Nat) → Q (.exit 2) t w0) : wp (exM Try.prog (run Try.prog ov m) (.loop mc18_l1) t w0) Q := by
  have hin : i < ps.length := (List.getElem?_eq_some_iff.1 ha).1
  refine wp_rounds (fun k t w' => w' = w0 ∧ tget t 1 = .pointer (some ⟨n2, 0, none⟩) ∧ tget t 2 = .int .i64 0 ∧ tget t 3 = v3 ∧ tget t 5 = .int .i64 (i : Nat) ∧ tget t 6 = .int .i64 (k : Nat) ∧ ((tget t 4 = .bool true ∧ b0 = true ∧ k ≤ i ∧ okR (nmB ps a) k) ∨ (tget t 4 = .bool false ∧ (b0 && (List.range i).all (nmB ps a)) = false))) 20 (by decide) ⟨rfl, t1, t2, t3, t5, by simpa using t6, ?_⟩ ?_
  · cases b0 with
    | true => exact .inl ⟨t4, rfl, Nat.zero_le _, okR.zero _⟩
    | false => exact .inr ⟨t4, rfl⟩
  clear t1 t2 t3 t4 t5 t6
  rintro k t w' ⟨rfl, t1, t2, t3, t5, t6, hh⟩
  rcases hh with ⟨t4, hb, hk, hall⟩ | ⟨t4, hf⟩
  · by_cases hlt : k < i
    · obtain ⟨q, hq⟩ : ∃ e, ps[k]? = some e := ⟨_, List.getElem?_eq_getElem (by omega)⟩
      obtain ⟨b, off, sq, c, rfl, hra⟩ := hL.p.at_ k (by omega)
      have l1 := hra.rd1 (j := 0) ptC_length ha (x := .string a.nm) rfl
      have l2 := hra.rd1 (j := 0) ptC_length hq (x := .string q.nm) rfl
      simp only [Nat.add_zero] at l1 l2
      have hia1 := fun w => ia22 w ⟨b, off, sq⟩ ps.length c .i64 i hin
      have hia2 := fun w => ia22 w ⟨b, off, sq⟩ ps.length c .i64 k (by omega)
      have e : nmB ps a k = !decide (q.nm.data.toList = a.nm.data.toList) := by unfold nmB; rw [hq]
      have hw1' : IntKind.wrap .i64 ((k : Int) + 1) = (k : Int) + 1 := wrap64_in (by omega) (by omega)
      by_cases hE : q.nm.data.toList = a.nm.data.toList
      · rw [decide_eq_true hE] at e
        have hf : (b0 && (List.range i).all (nmB ps a)) = false := by rw [okR.bad hlt e, Bool.and_false]
        simp [mc18_l1, t1, t2, t3, t4, t5, t6, hlt, g2, hia1, hia2, l1, l2, hE, hw1']
        exact ⟨by omega, by simpa using hf⟩
      · rw [decide_eq_false hE] at e
        have hm := hall.succ e
        simp [mc18_l1, t1, t2, t3, t4, t5, t6, hlt, g2, hia1, hia2, l1, l2, hE, hw1']
        exact ⟨by omega, hb, hlt, hm⟩
    · have hk' : k = i := by omega
      subst hk'
      have e : (b0 && (List.range k).all (nmB ps a)) = true := by rw [hb, hall]; rfl
      rw [e] at hQ
      simp [mc18_l1, t4, t5, t6]
      exact hQ _ (by simp [t1]) (by simp [t2]) (by simp [t3]) (by simp [t4]) (by simp [t5])
  · rw [hf] at hQ
    simp [mc18_l1, t4]
    exact hQ _ (by simp [t1]) (by simp [t2]) (by simp [t3]) (by simp [t4]) (by simp [t5])
theorem loop18a {ov : Ov} (m : Nat) (h32 : HasP ov 32 S32.F) (h48 : HasP ov 48 S75.F) (pv dv : Value) (ps : List Pt) (ds : List Dt) (w0 : AW) (hL : LedV w0 pv dv ps ds) (n2 : Nat) (g2 : w0.heap.get n2 = some (.cells [pv, dv] 25 false)) (b0 : Bool) (h8 : b0 = true → ps.length ≤ 8)
    (Q : Ex → Tm → AW → Prop) (t : Tm) (t1 : tget t 1 = .pointer (some ⟨n2, 0, none⟩)) (t2 : tget t 2 = .int .i64 0) (t3 : tget t 3 = .int .i64 (ps.length : Nat)) (t4 : tget t 4 = .bool b0) (t5 : tget t 5 = .int .i64 0)
    (hQ : ∀ t, tget t 1 = .pointer (some ⟨n2, 0, none⟩) → tget t 2 = .int .i64 0 → tget t 3 = .int .i64 (ps.length : Nat) → tget t 4 = .bool (b0 && (List.range ps.length).all (prB ps)) → Q (.exit 0) t w0) : wp (exM Try.prog (run Try.prog ov (m + 1)) (.loop mc18_l0) t w0) Q := by
  refine wp_rounds (fun i t w' => w' = w0 ∧ tget t 1 = .pointer (some ⟨n2, 0, none⟩) ∧ tget t 2 = .int .i64 0 ∧ tget t 3 = .int .i64 (ps.length : Nat) ∧ tget t 5 = .int .i64 (i : Nat) ∧ ((tget t 4 = .bool true ∧ b0 = true ∧ i ≤ ps.length ∧ okR (prB ps) i) ∨ (tget t 4 = .bool false ∧ (b0 && (List.range ps.length).all (prB ps)) = false))) 20 (by decide) ⟨rfl, t1, t2, t3, by simpa using t5, ?_⟩ ?_
  · cases b0 with
    | true => exact .inl ⟨t4, rfl, Nat.zero_le _, okR.zero _⟩
    | false => exact .inr ⟨t4, rfl⟩
  clear t1 t2 t3 t4 t5
  rintro i t w' ⟨rfl, t1, t2, t3, t5, hh⟩
  rcases hh with ⟨t4, hb, hi, hall⟩ | ⟨t4, hf⟩
  · have h8' := h8 hb
    by_cases hlt : i < ps.length
    · obtain ⟨a, ha⟩ : ∃ e, ps[i]? = some e := ⟨_, List.getElem?_eq_getElem hlt⟩
      obtain ⟨b, off, sq, c, rfl, hra⟩ := hL.p.at_ i hlt
      have l1 := hra.rd1 (j := 0) ptC_length ha (x := .string a.nm) rfl
      have l2 := hra.rd1 (j := 1) ptC_length ha (x := .int .i64 a.ch) rfl
      simp only [Nat.add_zero] at l1
      have hia1 := fun w => ia22 w ⟨b, off, sq⟩ ps.length c .i64 i hlt
      have r32 := fun n a b w => S32.call (P := Try.prog) h32 (m := m) (w := w) ⟨n, a, b, rfl, rfl⟩
      have r48 := fun s w => S75.call (P := Try.prog) h48 (m := m) (w := w) ⟨s, rfl, rfl⟩
      have hw1' : IntKind.wrap .i64 ((i : Int) + 1) = (i : Int) + 1 := wrap64_in (by omega) (by omega)
      have e : prB ps i = (wordB a.nm.data.toList && inI 0 a.ch 100000 && (List.range i).all (nmB ps a)) := by
        unfold prB; rw [ha, nm_all hi]
        simp only
        cases wordB a.nm.data.toList <;> cases inI 0 a.ch 100000 <;> cases hasT (nmsTo ps i) a.nm <;> rfl
      obtain ⟨b1, hb1⟩ : ∃ b, b = (wordB a.nm.data.toList && inI 0 a.ch 100000) := ⟨_, rfl⟩
      rw [← hb1] at e
      have key := fun Q t => loop18b (ov := ov) (m + 1) (.slice (some ⟨b, off, sq⟩) ps.length c) dv ps ds h8' w' hL n2 g2 i a ha b1 (.int .i64 (ps.length : Nat)) Q t
      have fin : ∀ (t : Tm), tget t 1 = .pointer (some ⟨n2, 0, none⟩) → tget t 2 = .int .i64 0 → tget t 3 = .int .i64 (ps.length : Nat) → tget t 4 = .bool (b1 && (List.range i).all (nmB ps a)) → ((tget t 4 = .bool true ∧ b0 = true ∧ i + 1 ≤ ps.length ∧ okR (prB ps) (i + 1)) ∨ (tget t 4 = .bool false ∧ (b0 && (List.range ps.length).all (prB ps)) = false)) := fun t _ _ _ h4 => by
        rw [← e] at h4
        cases hp : prB ps i with
        | true => rw [hp] at h4; exact .inl ⟨h4, hb, hlt, hall.succ hp⟩
        | false => rw [hp] at h4; exact .inr ⟨h4, by rw [okR.bad hlt hp, Bool.and_false]⟩
      cases k1 : wordB a.nm.data.toList with
      | true =>
        rw [k1, Bool.true_and] at hb1
        simp [mc18_l0, t1, t2, t3, t4, t5, hlt, g2, hia1, l1, l2, r32, r48, k1]
        refine wp_seqX (wp_blockX (wp_blockX (key _ _ ?_ ?_ ?_ ?_ ?_ ?_ ?_)))
        case _ => simp [t1]
        case _ => simp [t2]
        case _ => simp [t3]
        case _ => simp [hb1]
        case _ => simp [t5]
        case _ => simp
        case _ =>
          intro t t1 t2 t3 t4 t5
          have := fin t t1 t2 t3 t4
          simp [t1, t2, t3, t5, hw1']
          exact ⟨by omega, by simpa using this⟩
      | false =>
        rw [k1, Bool.false_and] at hb1
        simp [mc18_l0, t1, t2, t3, t4, t5, hlt, g2, hia1, l1, l2, r32, r48, k1]
        refine wp_seqX (wp_blockX (wp_blockX (key _ _ ?_ ?_ ?_ ?_ ?_ ?_ ?_)))
        case _ => simp [t1]
        case _ => simp [t2]
        case _ => simp [t3]
        case _ => simp [hb1]
        case _ => simp [t5]
        case _ => simp
        case _ =>
          intro t t1 t2 t3 t4 t5
          have := fin t t1 t2 t3 t4
          simp [t1, t2, t3, t5, hw1']
          exact ⟨by omega, by simpa using this⟩
    · have hi' : i = ps.length := by omega
      subst hi'
      have e : (b0 && (List.range ps.length).all (prB ps)) = true := by rw [hb, hall]; rfl
      rw [e] at hQ
      simp [mc18_l0, t3, t4, t5]
      exact hQ _ (by simp [t1]) (by simp [t2]) (by simp [t3]) (by simp [t4])
  · rw [hf] at hQ
    simp [mc18_l0, t4]
    exact hQ _ (by simp [t1]) (by simp [t2]) (by simp [t3]) (by simp [t4])
end Go.Proofs.Ythfidomphkednaa.walk

namespace Go.Proofs.Ythfidomphkednaa.walk
open Go Go.Sh
set_option maxRecDepth 100000
set_option linter.unusedSimpArgs false
set_option linter.unusedVariables false
theorem loop18d {ov : Ov} (m : Nat) (pv dv : Value) (ps : List Pt) (ds : List Dt) (h16 : ds.length ≤ 16) (w0 : AW) (hL : LedV w0 pv dv ps ds) (n2 : Nat) (g2 : w0.heap.get n2 = some (.cells [pv, dv] 25 false)) (i : Nat) (d : Dt) (hd : ds[i]? = some d) (B8 : Nat) (g8 : w0.heap.get B8 = some (.cells (dtC d) 46 false)) (b0 : Bool) (v3 : Value)
    (Q : Ex → Tm → AW → Prop) (t : Tm) (t1 : tget t 1 = .pointer (some ⟨n2, 0, none⟩)) (t2 : tget t 2 = .int .i64 0) (t3 : tget t 3 = v3) (t4 : tget t 4 = .bool b0) (t7 : tget t 7 = .int .i64 (i : Nat)) (t8 : tget t 8 = .pointer (some ⟨B8, 0, none⟩)) (t9 : tget t 9 = .int .i64 0)
    (hQ : ∀ t, tget t 1 = .pointer (some ⟨n2, 0, none⟩) → tget t 2 = .int .i64 0 → tget t 3 = v3 → tget t 4 = .bool (b0 && (List.range i).all (dsB ds d)) → tget t 7 = .int .i64 (i : Nat) → Q (.exit 6) t w0) : wp (exM Try.prog (run Try.prog ov m) (.loop mc18_l3) t w0) Q := by
  have hin : i < ds.length := (List.getElem?_eq_some_iff.1 hd).1
  refine wp_rounds (fun k t w' => w' = w0 ∧ tget t 1 = .pointer (some ⟨n2, 0, none⟩) ∧ tget t 2 = .int .i64 0 ∧ tget t 3 = v3 ∧ tget t 7 = .int .i64 (i : Nat) ∧ tget t 8 = .pointer (some ⟨B8, 0, none⟩) ∧ tget t 9 = .int .i64 (k : Nat) ∧ ((tget t 4 = .bool true ∧ b0 = true ∧ k ≤ i ∧ okR (dsB ds d) k) ∨ (tget t 4 = .bool false ∧ (b0 && (List.range i).all (dsB ds d)) = false))) 20 (by decide) ⟨rfl, t1, t2, t3, t7, t8, by simpa using t9, ?_⟩ ?_
  · cases b0 with
    | true => exact .inl ⟨t4, rfl, Nat.zero_le _, okR.zero _⟩
    | false => exact .inr ⟨t4, rfl⟩
  clear t1 t2 t3 t4 t7 t8 t9
  rintro k t w' ⟨rfl, t1, t2, t3, t7, t8, t9, hh⟩
  rcases hh with ⟨t4, hb, hk, hall⟩ | ⟨t4, hf⟩
  · by_cases hlt : k < i
    · obtain ⟨q, hq⟩ : ∃ e, ds[k]? = some e := ⟨_, List.getElem?_eq_getElem (by omega)⟩
      obtain ⟨b, off, sq, c, rfl, hra⟩ := hL.d.at_ k (by omega)
      have l1 := hra.rd1 (j := 0) dtC_length hq (x := .int .i64 q.f) rfl
      have l2 := hra.rd1 (j := 1) dtC_length hq (x := .int .i64 q.t) rfl
      simp only [Nat.add_zero] at l1
      have hia2 := fun w => ia23 w ⟨b, off, sq⟩ ds.length c .i64 k (by omega)
      have e : dsB ds d k = !(decide (d.f = q.f) && decide (d.t = q.t)) := by unfold dsB; rw [hq]
      have hw1' : IntKind.wrap .i64 ((k : Int) + 1) = (k : Int) + 1 := wrap64_in (by omega) (by omega)
      have hfin : dsB ds d k = false → (b0 && (List.range i).all (dsB ds d)) = false := fun h => by rw [okR.bad hlt h, Bool.and_false]
      obtain ⟨qf, qt, qc⟩ := q
      obtain ⟨df, dt, dc⟩ := d
      simp only [dtC] at g8
      simp only at l1 l2 e
      by_cases hE : qf = df
      · by_cases hF : qt = dt
        · have e' : dsB ds ⟨df, dt, dc⟩ k = false := by rw [e, hE, hF]; simp
          simp [mc18_l3, t1, t2, t3, t4, t7, t8, t9, hlt, g2, g8, hia2, l1, l2, hE, hF, hw1']
          exact ⟨by omega, by simpa using hfin e'⟩
        · have hF' : ¬ dt = qt := fun h => hF h.symm
          have e' : dsB ds ⟨df, dt, dc⟩ k = true := by rw [e, decide_eq_false hF']; simp
          have hm := hall.succ e'
          simp [mc18_l3, t1, t2, t3, t4, t7, t8, t9, hlt, g2, g8, hia2, l1, l2, hE, hF, hw1']
          exact ⟨by omega, hb, hlt, hm⟩
      · have hE' : ¬ df = qf := fun h => hE h.symm
        have e' : dsB ds ⟨df, dt, dc⟩ k = true := by rw [e, decide_eq_false hE']; simp
        have hm := hall.succ e'
        simp [mc18_l3, t1, t2, t3, t4, t7, t8, t9, hlt, g2, g8, hia2, l1, l2, hE, hw1']
        exact ⟨by omega, hb, hlt, hm⟩
    · have hk' : k = i := by omega
      subst hk'
      have e : (b0 && (List.range k).all (dsB ds d)) = true := by rw [hb, hall]; rfl
      rw [e] at hQ
      simp [mc18_l3, t4, t7, t9]
      exact hQ _ (by simp [t1]) (by simp [t2]) (by simp [t3]) (by simp [t4]) (by simp [t7])
  · rw [hf] at hQ
    simp [mc18_l3, t4]
    exact hQ _ (by simp [t1]) (by simp [t2]) (by simp [t3]) (by simp [t4]) (by simp [t7])
set_option maxHeartbeats 1000000 in
theorem loop18c {ov : Ov} (m : Nat) (h32 : HasP ov 32 S32.F) (pv dv : Value) (ps : List Pt) (ds : List Dt) (w0 : AW) (hL : LedV w0 pv dv ps ds) (hl : w0.lim ≤ w0.next) (n2 : Nat) (hn2 : n2 < w0.next) (g2 : w0.heap.get n2 = some (.cells [pv, dv] 25 false)) (b0 : Bool) (h16 : b0 = true → ds.length ≤ 16 ∧ ps.length ≤ 8)
    (Q : Ex → Tm → AW → Prop) (t : Tm) (t1 : tget t 1 = .pointer (some ⟨n2, 0, none⟩)) (t2 : tget t 2 = .int .i64 0) (t3 : tget t 3 = .int .i64 (ps.length : Nat)) (t4 : tget t 4 = .bool b0) (t7 : tget t 7 = .int .i64 0)
    (hQ : ∀ t w', tget t 2 = .int .i64 0 → tget t 4 = .bool (b0 && (List.range ds.length).all (dtB ps ds)) → Q (.exit 4) t w') : wp (exM Try.prog (run Try.prog ov (m + 1)) (.loop mc18_l2) t w0) Q := by
  refine wp_rounds (fun i t w' => Up w0 w' ∧ tget t 1 = .pointer (some ⟨n2, 0, none⟩) ∧ tget t 2 = .int .i64 0 ∧ tget t 3 = .int .i64 (ps.length : Nat) ∧ tget t 7 = .int .i64 (i : Nat) ∧ ((tget t 4 = .bool true ∧ b0 = true ∧ i ≤ ds.length ∧ okR (dtB ps ds) i) ∨ (tget t 4 = .bool false ∧ (b0 && (List.range ds.length).all (dtB ps ds)) = false))) 20 (by decide) ⟨Up.refl _, t1, t2, t3, by simpa using t7, ?_⟩ ?_
  · cases b0 with
    | true => exact .inl ⟨t4, rfl, Nat.zero_le _, okR.zero _⟩
    | false => exact .inr ⟨t4, rfl⟩
  clear t1 t2 t3 t4 t7
  rintro i t w' ⟨hup, t1, t2, t3, t7, hh⟩
  have hlm := hup.lim
  have hnx := hup.next
  have g := hup.at hn2
  rw [g2] at g
  rcases hh with ⟨t4, hb, hi, hall⟩ | ⟨t4, hf⟩
  · obtain ⟨h16', h8'⟩ := h16 hb
    have hl23 := fun w2 => len23V (w' := w2) hL.d
    by_cases hlt : i < ds.length
    · obtain ⟨d, hd⟩ : ∃ e, ds[i]? = some e := ⟨_, List.getElem?_eq_getElem hlt⟩
      have hLw := hL.up hup
      obtain ⟨b, off, sq, c, rfl, hra⟩ := hLw.d.at_ i hlt
      have hld := hra.rd dtC_length hd
      have hia := fun w => ia23 w ⟨b, off, sq⟩ ds.length c .i64 i hlt
      have r32 := fun n a b w => S32.call (P := Try.prog) h32 (m := m) (w := w) ⟨n, a, b, rfl, rfl⟩
      have hw1' : IntKind.wrap .i64 ((i : Int) + 1) = (i : Int) + 1 := wrap64_in (by omega) (by omega)
      have hw2' : IntKind.wrap .i64 ((ps.length : Int) - 1) = (ps.length : Int) - 1 := wrap64_in (by omega) (by omega)
      have hdt : dtB ps ds i = (inI 0 d.f ((ps.length : Int) - 1) && (inI 0 d.t ((ps.length : Int) - 1) && (!decide (d.f = d.t) && (inI 1 d.c 100000 && (List.range i).all (dsB ds d))))) := by unfold dtB; rw [hd]
      have q0 : ¬ n2 = w'.next := by omega
      have q5 : w'.lim ≤ w'.next := by omega
      obtain ⟨w2, hw2⟩ : ∃ w2, w2 = (⟨(w'.heap.put w'.next (some (.cells [.int .i64 0, .int .i64 0, .int .i64 0] 46 false))).put w'.next (some (.cells (dtC d) 46 false)), w'.next + 1, w'.lim⟩ : AW) := ⟨_, rfl⟩
      have u2 : Up w' w2 := hw2 ▸ ((Up.refl w').add _).put (Nat.le_refl _) (Nat.le_refl _)
      have g8 : w2.heap.get w'.next = some (.cells (dtC d) 46 false) := by rw [hw2]; simp
      have gg2 := u2.at (b := n2) (by omega)
      rw [g] at gg2
      have key := fun b1 Q t => loop18d (ov := ov) (m + 1) pv (.slice (some ⟨b, off, sq⟩) ds.length c) ps ds h16' w2 (hLw.up u2) n2 gg2 i d hd w'.next g8 b1 (.int .i64 (ps.length : Nat)) Q t
      have fin : ∀ (b1 : Bool) (t : Tm), dtB ps ds i = (b1 && (List.range i).all (dsB ds d)) → tget t 4 = .bool (b1 && (List.range i).all (dsB ds d)) → ((tget t 4 = .bool true ∧ b0 = true ∧ i + 1 ≤ ds.length ∧ okR (dtB ps ds) (i + 1)) ∨ (tget t 4 = .bool false ∧ (b0 && (List.range ds.length).all (dtB ps ds)) = false)) := fun b1 t e h4 => by
        rw [← e] at h4
        cases hp : dtB ps ds i with
        | true => rw [hp] at h4; exact .inl ⟨h4, hb, hlt, hall.succ hp⟩
        | false => rw [hp] at h4; exact .inr ⟨h4, by rw [okR.bad hlt hp, Bool.and_false]⟩
      rw [hw2] at key u2
      obtain ⟨df, dt, dc⟩ := d
      simp only [dtC] at hld key u2
      simp only at hdt
      cases k1 : inI 0 df ((ps.length : Int) - 1) with
      | false =>
        have e : dtB ps ds i = (false && (List.range i).all (dsB ds ⟨df, dt, dc⟩)) := by rw [hdt, k1]; rfl
        simp [mc18_l2, t1, t2, t3, t4, t7, g, hl23, hlt, hia, hld, q0, q5, r32, k1, hw2']
        refine wp_seqX (wp_blockX (wp_blockX (key false _ _ ?_ ?_ ?_ ?_ ?_ ?_ ?_ ?_)))
        case _ => simp [t1]
        case _ => simp [t2]
        case _ => simp [t3]
        case _ => simp
        case _ => simp [t7]
        case _ => simp
        case _ => simp
        case _ =>
          intro t t1 t2 t3 t4 t7
          have := fin false t e t4
          simp [t1, t2, t3, t7, hw1']
          exact ⟨by omega, hup.trans u2, by simpa using this⟩
      | true =>
      cases k2 : inI 0 dt ((ps.length : Int) - 1) with
      | false =>
        have e : dtB ps ds i = (false && (List.range i).all (dsB ds ⟨df, dt, dc⟩)) := by rw [hdt, k1, k2]; rfl
        simp [mc18_l2, t1, t2, t3, t4, t7, g, hl23, hlt, hia, hld, q0, q5, r32, k1, k2, hw2']
        refine wp_seqX (wp_blockX (wp_blockX (key false _ _ ?_ ?_ ?_ ?_ ?_ ?_ ?_ ?_)))
        case _ => simp [t1]
        case _ => simp [t2]
        case _ => simp [t3]
        case _ => simp
        case _ => simp [t7]
        case _ => simp
        case _ => simp
        case _ =>
          intro t t1 t2 t3 t4 t7
          have := fin false t e t4
          simp [t1, t2, t3, t7, hw1']
          exact ⟨by omega, hup.trans u2, by simpa using this⟩
      | true =>
      by_cases k3 : df = dt
      · have e : dtB ps ds i = (false && (List.range i).all (dsB ds ⟨df, dt, dc⟩)) := by rw [hdt, k1, k2, decide_eq_true k3]; rfl
        subst k3
        simp [mc18_l2, t1, t2, t3, t4, t7, g, hl23, hlt, hia, hld, q0, q5, r32, k1, hw2']
        refine wp_seqX (wp_blockX (wp_blockX (key false _ _ ?_ ?_ ?_ ?_ ?_ ?_ ?_ ?_)))
        case _ => simp [t1]
        case _ => simp [t2]
        case _ => simp [t3]
        case _ => simp
        case _ => simp [t7]
        case _ => simp
        case _ => simp
        case _ =>
          intro t t1 t2 t3 t4 t7
          have := fin false t e t4
          simp [t1, t2, t3, t7, hw1']
          exact ⟨by omega, hup.trans u2, by simpa using this⟩
      · have e : dtB ps ds i = (inI 1 dc 100000 && (List.range i).all (dsB ds ⟨df, dt, dc⟩)) := by rw [hdt, k1, k2, decide_eq_false k3]; rfl
        simp [mc18_l2, t1, t2, t3, t4, t7, g, hl23, hlt, hia, hld, q0, q5, r32, k1, k2, k3, hw2']
        refine wp_seqX (wp_blockX (wp_blockX (key (inI 1 dc 100000) _ _ ?_ ?_ ?_ ?_ ?_ ?_ ?_ ?_)))
        case _ => simp [t1]
        case _ => simp [t2]
        case _ => simp [t3]
        case _ => simp
        case _ => simp [t7]
        case _ => simp
        case _ => simp
        case _ =>
          intro t t1 t2 t3 t4 t7
          have := fin (inI 1 dc 100000) t e t4
          simp [t1, t2, t3, t7, hw1']
          exact ⟨by omega, hup.trans u2, by simpa using this⟩
    · have hi' : i = ds.length := by omega
      subst hi'
      have e : (b0 && (List.range ds.length).all (dtB ps ds)) = true := by rw [hb, hall]; rfl
      rw [e] at hQ
      simp [mc18_l2, t1, t4, t7, g, hl23]
      exact hQ _ _ (by simp [t2]) (by simp [t4])
  · rw [hf] at hQ
    simp [mc18_l2, t4]
    exact hQ _ _ (by simp [t2]) (by simp [t4])
theorem run18 {ov : Ov} (ho : ∀ args w, ov 18 args w = none) (h32 : HasP ov 32 S32.F) (h48 : HasP ov 48 S75.F) (pv dv : Value) (ps : List Pt) (ds : List Dt) (w : AW) (hl : w.lim = w.next) (hL : LedV w pv dv ps ds) : ∃ v w', (run Try.prog ov 2).call 18 [.agg ⟨[pv, dv]⟩] w .none = .ok (.ret v) w' .none ∧ v = .int .i64 (chE ps ds) := by
  refine call_wp text18 (by simp) (ho _ _) ?_
  have hl22 := fun w2 => len22V (w' := w2) hL.p
  have hl23 := fun w2 => len23V (w' := w2) hL.d
  obtain ⟨w1, hw1⟩ : ∃ w1, w1 = (⟨w.heap.put w.next (some (.cells [pv, dv] 25 false)), w.next + 1, w.lim⟩ : AW) := ⟨_, rfl⟩
  have u1 : Up w w1 := hw1 ▸ (Up.refl w).add _
  have n1 : w1.next = w.next + 1 := by rw [hw1]
  have m1 : w1.lim = w.lim := by rw [hw1]
  have g1 : w1.heap.get w.next = some (.cells [pv, dv] 25 false) := by rw [hw1]; simp
  have r32 := fun n a b w => S32.call (P := Try.prog) h32 (m := 0) (w := w) ⟨n, a, b, rfl, rfl⟩
  obtain ⟨b0, hb0⟩ : ∃ b, b = (inI 1 (ps.length : Nat) 8 && decide ((ds.length : Int) ≤ 16)) := ⟨_, rfl⟩
  have hb : b0 = true → ds.length ≤ 16 ∧ ps.length ≤ 8 := fun h => by
    rw [hb0] at h
    simp only [inI, Bool.and_eq_true, decide_eq_true_eq] at h
    omega
  have hE : ledB ps ds = ((b0 && (List.range ps.length).all (prB ps)) && (List.range ds.length).all (dtB ps ds)) := by
    have e16 : decide ((ds.length : Int) ≤ 16) = decide (ds.length ≤ 16) := by rw [decide_eq_decide]; omega
    rw [hb0, e16]
    unfold ledB parB debB
    cases inI 1 (ps.length : Nat) 8 <;> cases decide (ds.length ≤ 16) <;> cases (List.range ps.length).all (prB ps) <;> cases (List.range ds.length).all (dtB ps ds) <;> rfl
  have body : ∀ (t : Tm), tget t 1 = .pointer (some ⟨w.next, 0, none⟩) → tget t 2 = .int .i64 0 → tget t 3 = .int .i64 (ps.length : Nat) → tget t 4 = .bool b0 → tget t 5 = .int .i64 0 → ∀ Q, (∀ t, tget t 1 = .pointer (some ⟨w.next, 0, none⟩) → tget t 2 = .int .i64 0 → tget t 3 = .int .i64 (ps.length : Nat) → tget t 4 = .bool (b0 && (List.range ps.length).all (prB ps)) → Q (.exit 0) t w1) → wp (exM Try.prog (run Try.prog ov 1) (.loop mc18_l0) t w1) Q := fun t t1 t2 t3 t4 t5 Q hQ => loop18a 0 h32 h48 pv dv ps ds w1 (hL.up u1) w.next g1 b0 (fun h => (hb h).2) Q t t1 t2 t3 t4 t5 hQ
  have tail : ∀ (t : Tm), tget t 1 = .pointer (some ⟨w.next, 0, none⟩) → tget t 2 = .int .i64 0 → tget t 3 = .int .i64 (ps.length : Nat) → tget t 4 = .bool (b0 && (List.range ps.length).all (prB ps)) → tget t 7 = .int .i64 0 → ∀ Q, (∀ t w', tget t 2 = .int .i64 0 → tget t 4 = .bool (ledB ps ds) → Q (.exit 4) t w') → wp (exM Try.prog (run Try.prog ov 1) (.loop mc18_l2) t w1) Q := fun t t1 t2 t3 t4 t7 Q hQ => loop18c 0 h32 pv dv ps ds w1 (hL.up u1) (by omega) w.next (by omega) g1 _ (fun h => hb (by rw [Bool.and_eq_true] at h; exact h.1)) Q t t1 t2 t3 t4 t7 (fun t w' h2 h4 => hQ t w' h2 (by rw [hE]; exact h4))
  have fin : ∀ (t : Tm) (w' : AW), tget t 2 = .int .i64 0 → tget t 4 = .bool (ledB ps ds) → True := fun _ _ _ _ => trivial
  cases hi : inI 1 (ps.length : Nat) 8 with
  | true =>
    rw [hi, Bool.true_and] at hb0
    simp [mc18, cellsOf_agg, hl22, hl23, r32, hi]
    rw [← hw1]
    refine wp_seqX (wp_blockX (body _ ?_ ?_ ?_ ?_ ?_ _ ?_))
    case _ => simp
    case _ => simp
    case _ => simp
    case _ => simp [hb0]
    case _ => simp
    case _ =>
      intro t t1 t2 t3 t4
      simp
      refine wp_seqX (wp_blockX (tail _ ?_ ?_ ?_ ?_ ?_ _ ?_))
      case _ => simp [t1]
      case _ => simp [t2]
      case _ => simp [t3]
      case _ => simp [t4]
      case _ => simp
      case _ =>
        intro t w' t2 t4
        cases hq : ledB ps ds with
        | true => rw [hq] at t4; simp [t2, t4, tupV, chE, hq]
        | false => rw [hq] at t4; simp [t2, t4, tupV, chE, hq]
  | false =>
    rw [hi, Bool.false_and] at hb0
    simp [mc18, cellsOf_agg, hl22, hl23, r32, hi]
    rw [← hw1]
    refine wp_seqX (wp_blockX (body _ ?_ ?_ ?_ ?_ ?_ _ ?_))
    case _ => simp
    case _ => simp
    case _ => simp
    case _ => simp [hb0]
    case _ => simp
    case _ =>
      intro t t1 t2 t3 t4
      simp
      refine wp_seqX (wp_blockX (tail _ ?_ ?_ ?_ ?_ ?_ _ ?_))
      case _ => simp [t1]
      case _ => simp [t2]
      case _ => simp [t3]
      case _ => simp [t4]
      case _ => simp
      case _ =>
        intro t w' t2 t4
        cases hq : ledB ps ds with
        | true => rw [hq] at t4; simp [t2, t4, tupV, chE, hq]
        | false => rw [hq] at t4; simp [t2, t4, tupV, chE, hq]
end Go.Proofs.Ythfidomphkednaa.walk

namespace Go.Proofs.Ythfidomphkednaa.walk
open Go Go.Sh
set_option maxRecDepth 100000
set_option linter.unusedSimpArgs false
set_option linter.unusedVariables false
/-! the specification's Pay, Clear, Left, Short -/
end Go.Proofs.Ythfidomphkednaa.walk

namespace Go.Proofs.Ythfidomphkednaa.walk
open Go Go.Sh
set_option maxRecDepth 100000
set_option linter.unusedSimpArgs false
set_option linter.unusedVariables false
theorem loop53 {ov : Ov} (m : Nat) (ps : List Pt) (ds : List Dt) (h8 : ps.length ≤ 8) (uv av : Value) (w0 : AW) (n0 : Nat) (hn0 : w0.next = n0 + 1) (hl : w0.lim ≤ n0) (hu : RowsV intC w0 uv (lsF ps.length (stF ps ds))) (ha : RowsV intC w0 av (lsF ps.length (owD ds)))
    (Q : Ex → Tm → AW → Prop) (t : Tm) (t3 : tget t 3 = uv) (t4 : tget t 4 = av) (t5 : tget t 5 = .slice none 0 0) (t6 : tget t 6 = .int .i64 0)
    (hQ : ∀ t w', Up w0 w' → RowsV intC w' (tget t 5) (shP ps ds ps.length) → notJunk (tget t 5) = some (tget t 5) → Q (.exit 0) t w') : wp (exM Try.prog (run Try.prog ov m) (.loop mc53_l0) t w0) Q := by
  refine wp_rounds (fun i t w' => Up w0 w' ∧ (∃ B, AccQ intC 3 n0 w' (tget t 5) (shP ps ds i) B) ∧ tget t 3 = uv ∧ tget t 4 = av ∧ tget t 6 = .int .i64 (i : Nat) ∧ i ≤ ps.length) 20 (by decide) ⟨Up.refl _, ⟨0, .inl ⟨by simp [shP], t5⟩⟩, t3, t4, by simpa using t6, Nat.zero_le _⟩ ?_
  clear t3 t4 t5 t6
  rintro i t w' ⟨hup, ⟨B, hacc⟩, t3, t4, t6, hi⟩
  have hlm := hup.lim
  have hnx := hup.next
  have hla := fun w2 => len26V (w' := w2) ha
  rw [lsF_len] at hla
  by_cases hlt : i < ps.length
  · obtain ⟨b1, o1, s1, c1, rfl, ld1, ia1⟩ := row_ld (hu.up hup) (lsF_at ps.length (stF ps ds) hlt)
    obtain ⟨b2, o2, s2, c2, rfl, ld2, ia2⟩ := row_ld (ha.up hup) (lsF_at ps.length (owD ds) hlt)
    simp only [lsF_len] at ia1 ia2
    have hb : shB ps ds i = decide (stF ps ds (i : Int) < owD ds (i : Int)) := rfl
    obtain ⟨S, hS⟩ : ∃ S, S = stF ps ds (i : Int) := ⟨_, rfl⟩
    obtain ⟨O, hO⟩ : ∃ S, S = owD ds (i : Int) := ⟨_, rfl⟩
    rw [← hS] at ld1 hb
    rw [← hO] at ld2 hb
    have hw1' : IntKind.wrap .i64 ((i : Int) + 1) = (i : Int) + 1 := wrap64_in (by omega) (by omega)
    by_cases hc : S < O
    · rw [decide_eq_true hc] at hb
      have hst := shP_yes hb
      obtain ⟨v', w4, hap, ⟨B', hB', hacc'⟩, hkp, hn4, hl4⟩ := AccQ.push (P := Try.prog) (st := 26) (sz := 1) list26 elem26 size3 small3 intC_length (fun _ => by simp [intC]) (by decide) hacc (by omega) (by omega) (by have := shP_len ps ds i; omega) (i : Int)
      rw [← hst] at hacc'
      simp only [intC] at hap
      simp [mc53_l0, t3, t4, t6, hla, hlt, ia1, ia2, ld1, ld2, hc, hap, hw1']
      exact ⟨by omega, ⟨fun x hx => by rw [hkp x (by omega) (fun hne => by have := hacc.lt hne; omega)]; exact hup.at hx, by omega, by omega⟩, ⟨B', hacc'⟩, hlt⟩
    · rw [decide_eq_false hc] at hb
      have hst := shP_no hb
      rw [← hst] at hacc
      simp [mc53_l0, t3, t4, t6, hla, hlt, ia1, ia2, ld1, ld2, hc, hw1']
      exact ⟨by omega, hup, ⟨B, hacc⟩, hlt⟩
  · have hi' : i = ps.length := by omega
    subst hi'
    simp [mc53_l0, t4, t6, hla]
    exact hQ _ _ hup (by simpa using hacc.rows) (by simpa using hacc.ok)
theorem call53 {ov : Ov} (m : Nat) (ho : ∀ args w, ov 53 args w = none) (ho45 : ∀ args w, ov 45 args w = none) (ho46 : ∀ args w, ov 46 args w = none) (ho50 : ∀ args w, ov 50 args w = none) (h16 : HasP ov 16 S16.F) (h60 : HasP ov 60 S60.F) (pv dv : Value) (ps : List Pt) (ds : List Dt) (hk : LK ps ds) (w : AW) (hl : w.lim ≤ w.next) (hL : LedV w pv dv ps ds) :
    ∃ v w', (run Try.prog ov (m + 4)).call 53 [.agg ⟨[pv, dv]⟩] w .none = .ok (.ret v) w' .none ∧ RowsV intC w' v (shP ps ds ps.length) ∧ Up w w' ∧ notJunk v = some v := by
  refine call_wp text53 (by simp) (ho _ _) ?_
  obtain ⟨w1, hw1⟩ : ∃ w1, w1 = (⟨w.heap.put w.next (some (.cells [pv, dv] 25 false)), w.next + 1, w.lim⟩ : AW) := ⟨_, rfl⟩
  have u1 : Up w w1 := hw1 ▸ (Up.refl w).add _
  have n1 : w1.next = w.next + 1 := by rw [hw1]
  have m1 : w1.lim = w.lim := by rw [hw1]
  have g1 : w1.heap.get w.next = some (.cells [pv, dv] 25 false) := by rw [hw1]; simp
  obtain ⟨v6, w2, c50, hr6, u2, j6⟩ := call50 (ov := ov) m ho50 ho45 ho46 h16 h60 pv dv ps ds hk w1 (by omega) (hL.up u1)
  have n2 := u2.next
  have m2 := u2.lim
  have g2 := u2.at (b := w.next) (by omega)
  rw [g1] at g2
  obtain ⟨_, w3, c45, B, rfl, gB, hB1, hB2, u3⟩ := call45 (ov := ov) (m + 2) ho45 pv dv ps ds w2 (by omega) (hL.up (u1.trans u2)) hk
  have n3 := u3.next
  have m3 := u3.lim
  have ha : RowsV intC w3 (.slice (some ⟨B, 0, none⟩) ps.length ps.length) (lsF ps.length (owD ds)) := rows_ls gB hB2 _
  obtain ⟨n0, hn0⟩ : ∃ n0, w3.next = n0 + 1 := ⟨w3.next - 1, by omega⟩
  have ssv : sameVal 5 (.agg ⟨[pv, dv]⟩) (.agg ⟨[pv, dv]⟩) = true := same_agg _ (by
    obtain ⟨a, c, rfl⟩ := hL.p.len
    obtain ⟨a', c', rfl⟩ := hL.d.len
    intro v hv
    simp only [List.mem_cons, List.not_mem_nil, or_false] at hv
    rcases hv with rfl | rfl <;> exact sameN_slice _ _ _ _)
  rw [hw1] at c50
  simp [mc53, cellsOf_agg, c50, g2, ssv, c45]
  refine wp_seqX (wp_blockX (loop53 (ov := ov) (m + 3) ps ds hk.n8 v6 (.slice (some ⟨B, 0, none⟩) ps.length ps.length) w3 n0 hn0 (by omega) (hr6.up u3) ha _ _ ?_ ?_ ?_ ?_ ?_))
  case _ => simp
  case _ => simp
  case _ => simp
  case _ => simp
  case _ =>
    intro t w4 u4 hr5 j5
    simp [j5, tupV]
    exact ⟨hr5, ((u1.trans u2).trans u3).trans u4⟩
end Go.Proofs.Ythfidomphkednaa.walk
