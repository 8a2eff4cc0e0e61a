/- Part of a proof by a machine of ones own: see the text with the theorem. -/
import Derived.Test.YthfidomphkednaaAWe
namespace Go.Proofs.Ythfidomphkednaa.walk
open Go Go.Sh
set_option maxRecDepth 100000
set_option linter.unusedSimpArgs false
set_option linter.unusedVariables false
/-! Rescue: numbers -/
/-- nobody is short: all that is owed settles -/
def paB (ps : List Pt) (ds : List Dt) : Bool := arE (nxD ps ds (owD ds)) (owD ds)
theorem paB_iff {ps : List Pt} {ds : List Dt} (hk : LK ps ds) : paB ps ds = true ↔ ∀ p, owD ds p ≤ haD ps ds (owD ds) p := by
  unfold paB
  constructor
  · intro h p
    have := arC_uniq (hk.nx8 _) hk.z8 (arE_true h)
    have := congrFun this p
    unfold nxD at this
    omega
  · intro h
    exact arE_all fun k _ => by
      have := h (k : Int)
      unfold nxD; omega
theorem pa_st {ps : List Pt} {ds : List Dt} (hk : LK ps ds) : paB ps ds = true ↔ stF ps ds = owD ds := by
  rw [paB_iff hk]
  constructor
  · intro h
    funext p
    have := (st_gfp hk).2 _ (fun q => ⟨hk.ow_nonneg q, Int.le_refl _, h q⟩) p
    have := (st_rng hk p).2
    omega
  · intro h p
    have := ((st_gfp hk).1 p).2.2
    rw [h] at this
    exact this
theorem pa_sh {ps : List Pt} {ds : List Dt} (hk : LK ps ds) : paB ps ds = true ↔ shP ps ds ps.length = [] := by
  rw [pa_st hk]
  constructor
  · intro h
    unfold shP
    rw [List.map_eq_nil_iff, List.filter_eq_nil_iff]
    intro a _
    unfold shB
    rw [h]
    simp
  · intro h
    funext p
    by_cases hp : p < 0 ∨ (ps.length : Int) ≤ p
    · rw [st_out hk hp, hk.ow_out hp]
    · have hlt : p.toNat < ps.length := by omega
      have : (p.toNat : Int) ∉ shP ps ds ps.length := by rw [h]; simp
      rw [shP_mem ps ds hlt] at this
      unfold shB at this
      rw [decide_eq_true_eq, show ((p.toNat : Nat) : Int) = p by omega] at this
      have := (st_rng hk p).2
      omega
/-- the ledger in which a party has so much more -/
def adP (ps : List Pt) (k : Nat) (c : Int) : List Pt := morP ps k (caP ps (k : Int) + c)
@[simp] theorem adP_len (ps : List Pt) (k : Nat) (c : Int) : (adP ps k c).length = ps.length := morP_len _ _ _
def prB' (ps : List Pt) (ds : List Dt) (k : Nat) (c : Int) : Bool := paB (adP ps k c) ds
theorem ad_ok {ps : List Pt} {ds : List Dt} (hO : LOk 100000 ps ds) {k : Nat} (hk : k < ps.length) {c : Int} (h0 : 0 ≤ c) (hc : c ≤ 1800000) : LK (adP ps k c) ds := by
  obtain ⟨a, ha⟩ : ∃ a, ps[k]? = some a := ⟨_, List.getElem?_eq_getElem hk⟩
  have hca := ca_at ha
  have hcash := hO.cash a (List.mem_of_getElem? ha)
  refine ⟨by rw [adP_len]; exact hO.n1, by rw [adP_len]; exact hO.n8, fun p hp => ?_, hO.d16, fun d hd => by rw [adP_len]; exact hO.debt d hd⟩
  unfold adP at hp
  rw [morP_eq ha] at hp
  rcases List.mem_or_eq_of_mem_set hp with h | h
  · have := hO.cash p h; omega
  · rw [h]; show 0 ≤ caP ps (k : Int) + c ∧ caP ps (k : Int) + c ≤ 2000000; rw [hca]; omega
theorem pr_iff {ps : List Pt} {ds : List Dt} (hO : LOk 100000 ps ds) {k : Nat} (hk : k < ps.length) {c : Int} (h0 : 0 ≤ c) (hc : c ≤ 1800000) : prB' ps ds k c = true ↔ ∀ p, owD ds p ≤ caP ps p + (if p = (k : Int) then c else 0) + inD ds (owD ds) p := by
  unfold prB'
  rw [paB_iff (ad_ok hO hk h0 hc)]
  have e : ∀ p, haD (adP ps k c) ds (owD ds) p = caP ps p + (if p = (k : Int) then c else 0) + inD ds (owD ds) p := fun p => by
    unfold haD adP
    rw [mor_ca hk]
    by_cases h : p = (k : Int)
    · subst h; rw [if_pos rfl, if_pos rfl]
    · rw [if_neg h, if_neg h]; omega
  constructor
  · intro h p; rw [← e]; exact h p
  · intro h p; rw [e]; exact h p
theorem pr_mono {ps : List Pt} {ds : List Dt} (hO : LOk 100000 ps ds) {k : Nat} (hk : k < ps.length) {a b : Int} (h0 : 0 ≤ a) (hab : a ≤ b) (hb : b ≤ 1800000) (h : prB' ps ds k a = true) : prB' ps ds k b = true := by
  rw [pr_iff hO hk h0 (by omega)] at h
  rw [pr_iff hO hk (by omega) hb]
  intro p
  have := h p
  split <;> rename_i e
  · rw [if_pos e] at this; omega
  · rw [if_neg e] at this; omega
/-- all debts together -/
def alD (ds : List Dt) : Int := totL (lsF 8 (owD ds))
theorem al_sum {ps : List Pt} {ds : List Dt} (hk : LK ps ds) : alD ds = sI (fun d => d.c) ds := by
  unfold alD
  rw [totL_ls]
  exact sN_sI (fun d => d.f) (fun d => d.c) 8 ds fun d hd => by
    have := (hk.debt d hd).1
    have := hk.n8
    omega
theorem al_bd {ps : List Pt} {ds : List Dt} (hk : LK ps ds) : 0 ≤ alD ds ∧ alD ds ≤ 1600000 := by
  rw [al_sum hk]
  exact sI_bd (fun d hd => by have := (hk.debt d hd).2.2.2; omega) hk.d16
theorem ow_al {ps : List Pt} {ds : List Dt} (hk : LK ps ds) (p : Int) : owD ds p ≤ alD ds := by
  rw [al_sum hk]
  exact sI_le fun d hd => by
    have := (hk.debt d hd).2.2.2.1
    split <;> omega
/-- what does not help by all debts never helps -/
theorem pr_all {ps : List Pt} {ds : List Dt} (hO : LOk 100000 ps ds) {k : Nat} (hk : k < ps.length) {c : Int} (h0 : 0 ≤ c) (hc : c ≤ 1800000) (h : prB' ps ds k c = true) : prB' ps ds k (alD ds) = true := by
  have hK : LK ps ds := hO.up (by decide)
  have hb := al_bd hK
  rw [pr_iff hO hk h0 hc] at h
  rw [pr_iff hO hk hb.1 (by omega)]
  intro p
  have h1 := h p
  have h2 := hK.ca p
  have h3 := (hK.in_in (x := owD ds) (fun p => ⟨hK.ow_nonneg p, Int.le_refl _⟩) p).1
  have h4 := ow_al hK p
  by_cases e : p = (k : Int)
  · rw [if_pos e]; omega
  · rw [if_neg e] at h1 ⊢; omega
/-- the least number that suffices -/
def LeastB (pr : Int → Bool) (most x : Int) : Prop := 0 ≤ x ∧ x ≤ most ∧ pr x = true ∧ ∀ z, 0 ≤ z → z < x → pr z = false
/-- Rescue's answer -/
def resE (ps : List Pt) (ds : List Dt) (i : Int) : Int := if chE ps ds = 0 then (if inI 0 i ((ps.length : Int) - 1) = true then (if prB' ps ds i.toNat (alD ds) = true then 0 else 4) else 91) else chE ps ds
def ResX (ps : List Pt) (ds : List Dt) (i x : Int) : Prop := (resE ps ds i = 0 ∧ LeastB (prB' ps ds i.toNat) (alD ds) x) ∨ (resE ps ds i ≠ 0 ∧ x = 0)
theorem st_chc {w : AW} {B k : Nat} {ps : List Pt} {p : Pt} {c : Int} (hp : ps[k]? = some p) (hl : w.lim ≤ B) : wrO w B (k * 2 + 1) [.int .i64 c] (some (.cells (ps.flatMap ptC) 49 false)) = some ⟨w.heap.put B (some (.cells ((ps.set k ⟨p.nm, c⟩).flatMap ptC) 49 false)), w.next, w.lim⟩ := by
  have hk : k < ps.length := (List.getElem?_eq_some_iff.1 hp).1
  have hlen : (ps.flatMap ptC).length = ps.length * 2 := flat_length ptC_length ps
  rw [wrO_cells (by simp) hl (by simp [hlen]; omega), ← flat_set ptC_length ps k ⟨p.nm, c⟩ hk]
  have e1 : (ps.flatMap ptC).take (k * 2 + 1) = (ps.flatMap ptC).take (k * 2) ++ [.string p.nm] := by
    have hc : (ps.flatMap ptC)[k * 2]? = some (.string p.nm) := by
      have := RowsA.rd1 (m := 2) (f := ptC) (H := (T.leaf : T AObj).put 0 (some (.cells (ps.flatMap ptC) 49 false))) (n := 1) (b := 0) (off := 0) ptC_length ⟨⟨[], [], 49, false, by rw [get_put, if_pos rfl]; simp, rfl⟩, by decide⟩ hp (j := 0) (x := .string p.nm) rfl
      rw [get_put, if_pos rfl, rd1O_cells] at this
      simpa using this
    rw [List.take_add_one, hc]; rfl
  rw [e1]
  simp [ptC]
end Go.Proofs.Ythfidomphkednaa.walk

namespace Go.Proofs.Ythfidomphkednaa.walk
open Go Go.Sh
set_option maxRecDepth 100000
set_option linter.unusedSimpArgs false
set_option linter.unusedVariables false
/-! Rescue -/
def S71 : PSpec where
  R args w v := ∃ (pv dv : Value) (ps : List Pt) (ds : List Dt), args = [.agg ⟨l63 pv dv (owD ds)⟩] ∧ LedV w pv dv ps ds ∧ LK ps ds ∧ v = .bool (paB ps ds)
  uniq := by
    rintro _ _ _ _ ⟨pv, dv, ps, ds, rfl, hL, hk, rfl⟩ ⟨pv', dv', ps', ds', e, hL', hk', rfl⟩
    simp only [List.cons.injEq, Value.agg.injEq, Array.mk.injEq, and_true] at e
    obtain ⟨rfl, rfl, _⟩ := l63_inj e
    rw [hL.uniqP hL', hL.uniqD hL']
  shut := by
    rintro _ _ _ ⟨pv, dv, ps, ds, h1, h2, h3⟩
    exact ⟨pv, dv, ps, ds, h1, h2.shut, h3⟩
theorem run71 {ov : Ov} (ho : ∀ args w, ov 71 args w = none) (h67 : HasP ov 67 S67.F) (pv dv : Value) (ps : List Pt) (ds : List Dt) (w : AW) (hl : w.lim = w.next) (hL : LedV w pv dv ps ds) (hk : LK ps ds) :
    ∃ v w', (run Try.prog ov 2).call 71 [.agg ⟨l63 pv dv (owD ds)⟩] w .none = .ok (.ret v) w' .none ∧ v = .bool (paB ps ds) := by
  refine call_wp text71 (by simp) (ho _ _) ?_
  have u1 : Up w ⟨w.heap.put w.next (some (.cells (l63 pv dv (owD ds)) 63 false)), w.next + 1, w.lim⟩ := (Up.refl w).add _
  have r67 := S67.call1 (P := Try.prog) h67 ⟨pv, dv, ps, ds, owD ds, rfl, hL.up u1, hk, fun p => ⟨hk.ow_nonneg p, Int.le_refl _⟩, rfl⟩
  have s1 := sm61 (owD ds)
  simp only [l63] at r67
  simp [mc71, cellsOf_agg, l63, r67, s1, eq_ar, paB, tupV]
@[simp] theorem eqn22s (B n c : Nat) (w : AW) : (binW Try.prog .eql 22 true).val (.slice (some ⟨B, 0, none⟩) n c) (.slice none 0 0) w = .val (.bool false) w := by kernel_rfl
theorem eqn22 (a : Addr) (n c : Nat) (w : AW) : (binW Try.prog .eql 22 true).val (.slice (some a) n c) (.slice none 0 0) w = .val (.bool false) w := by kernel_rfl
theorem call77 {ov : Ov} (m : Nat) (ho : ∀ args w, ov 77 args w = none) (pv : Value) (ps : List Pt) (w : AW) (hv : RowsV ptC w pv ps) (hn : 1 ≤ ps.length) (hn2 : ps.length ≤ 1000) (hl : w.lim ≤ w.next) :
    ∃ v w', (run Try.prog ov (m + 1)).call 77 [pv] w .none = .ok (.ret v) w' .none ∧ ∃ B, v = .slice (some ⟨B, 0, none⟩) ps.length ps.length ∧ w'.heap.get B = some (.cells (ps.flatMap ptC) 49 false) ∧ w.next ≤ B ∧ B < w'.next ∧ Up w w' := by
  refine call_wp text77 (by simp) (ho _ _) ?_
  have hcp := copy_pt hv hn hn2 hl
  obtain ⟨b, off, sq, c, rfl, hra⟩ := hv.at_ 0 (by omega)
  have nj : ∀ (a : Addr) n c, notJunk (.slice (some a) n c) = some (.slice (some a) n c) := fun _ _ _ => rfl
  simp [mc77, eqn22, hcp, nj, tupV]
  exact (((Up.refl w).put (Nat.le_refl _) (Nat.le_refl _)).put (Nat.le_refl _) (Nat.le_refl _)).put (Nat.le_succ _) (by omega)
set_option maxHeartbeats 1000000 in
theorem call70 {ov : Ov} (m : Nat) (ho : ∀ args w, ov 70 args w = none) (ho77 : ∀ args w, ov 77 args w = none) (pv dv : Value) (o : Int → Int) (ps : List Pt) (ds : List Dt) (k : Nat) (hk : k < ps.length) (h8 : ps.length ≤ 8) (c : Int) (hcc : 0 ≤ c ∧ c ≤ 2000000) (hca : 0 ≤ caP ps (k : Int) ∧ caP ps (k : Int) ≤ 2000000) (w : AW) (hl : w.lim ≤ w.next) (hL : LedV w pv dv ps ds) :
    ∃ v w', (run Try.prog ov (m + 2)).call 70 [.agg ⟨l63 pv dv o⟩, .int .i64 (k : Nat), .int .i64 c] w .none = .ok (.ret v) w' .none ∧ ∃ pv', v = .agg ⟨l63 pv' dv o⟩ ∧ LedV w' pv' dv (adP ps k c) ds ∧ Up w w' := by
  refine call_wp text70 (by simp) (ho _ _) ?_
  obtain ⟨w1, hw1⟩ : ∃ w1, w1 = (⟨(w.heap.put w.next (some (.cells (pv :: dv :: arC o) 63 false))).put (w.next + 1) (some (.cells (l63 (.slice none 0 0) (.slice none 0 0) fun _ => 0) 63 false)), w.next + 1 + 1, w.lim⟩ : AW) := ⟨_, rfl⟩
  have u1 : Up w w1 := by rw [hw1]; exact ((Up.refl w).put (Nat.le_refl _) (Nat.le_refl _)).put (Nat.le_succ _) (by omega)
  have n1 : w1.next = w.next + 1 + 1 := by rw [hw1]
  have m1 : w1.lim = w.lim := by rw [hw1]
  have g1 : w1.heap.get w.next = some (.cells (pv :: dv :: arC o) 63 false) := by rw [hw1]; simp
  have g1' : w1.heap.get (w.next + 1) = some (.cells (l63 (.slice none 0 0) (.slice none 0 0) fun _ => 0) 63 false) := by rw [hw1]; simp
  obtain ⟨_, w2, c77, B, rfl, gB, hB1, hB2, u2⟩ := call77 (ov := ov) m ho77 pv ps w1 (hL.p.up u1) (by omega) (by omega) (by omega)
  have n2 := u2.next
  have m2 := u2.lim
  have g2 := u2.at (b := w.next) (by omega)
  rw [g1] at g2
  have g2' := u2.at (b := w.next + 1) (by omega)
  rw [g1'] at g2'
  obtain ⟨a, ha⟩ : ∃ a, ps[k]? = some a := ⟨_, List.getElem?_eq_getElem hk⟩
  have hce := ca_at ha
  have hia := fun w => ia22 w ⟨B, 0, none⟩ ps.length ps.length .i64 k hk
  have hrd : (ps.flatMap ptC)[k * 2 + 1]? = some (.int .i64 a.ch) := by
    have := RowsA.rd1 (m := 2) (f := ptC) (H := (T.leaf : T AObj).put 0 (some (.cells (ps.flatMap ptC) 49 false))) (n := 1) (b := 0) (off := 0) ptC_length ⟨⟨[], [], 49, false, by rw [get_put, if_pos rfl]; simp, rfl⟩, by decide⟩ ha (j := 1) (x := .int .i64 a.ch) rfl
    rw [get_put, if_pos rfl, rd1O_cells] at this
    simpa using this
  rw [hce] at hca
  have hwr : IntKind.wrap .i64 (a.ch + c) = a.ch + c := wrap64_in (by omega) (by omega)
  have sg : singles (pv :: dv :: arC o) = true ∧ singles (.slice (some ⟨B, 0, none⟩) ps.length ps.length :: dv :: arC o) = true := by
    obtain ⟨a, c, rfl⟩ := hL.p.len
    obtain ⟨a', c', rfl⟩ := hL.d.len
    simp [arC]
  obtain ⟨sg1, sg2⟩ := sg
  have s22 : ∀ w5 : AW, w5.lim ≤ w.next → wrO w5 w.next 0 [.slice (some ⟨B, 0, none⟩) ps.length ps.length] (some (.cells (pv :: dv :: arC o) 63 false)) = some ⟨w5.heap.put w.next (some (.cells (.slice (some ⟨B, 0, none⟩) ps.length ps.length :: dv :: arC o) 63 false)), w5.next, w5.lim⟩ := fun w5 h => by rw [wrO_cells (by simp) h (by simp)]; rfl
  have s3 : ∀ w5 : AW, w5.lim ≤ B → wrO w5 B (k * 2 + 1) [.int .i64 (a.ch + c)] (some (.cells (ps.flatMap ptC) 49 false)) = some ⟨w5.heap.put B (some (.cells ((ps.set k ⟨a.nm, a.ch + c⟩).flatMap ptC) 49 false)), w5.next, w5.lim⟩ := fun w5 h => st_chc ha h
  have s63 : ∀ w5 : AW, w5.lim ≤ w.next + 1 → wrO w5 (w.next + 1) 0 (.slice (some ⟨B, 0, none⟩) ps.length ps.length :: dv :: arC o) (some (.cells (l63 (.slice none 0 0) (.slice none 0 0) fun _ => 0) 63 false)) = some ⟨w5.heap.put (w.next + 1) (some (.cells (.slice (some ⟨B, 0, none⟩) ps.length ps.length :: dv :: arC o) 63 false)), w5.next, w5.lim⟩ := fun w5 h => by rw [wrO_cells sg2 h (by simp)]; rfl
  have z1 : ¬ w.next = B := by omega
  have z2 : ¬ B = w.next := by omega
  have z3 : ¬ w.next + 1 = B := by omega
  have z4 : ¬ B = w.next + 1 := by omega
  have la : w2.lim ≤ w.next := by omega
  have lb : w2.lim ≤ B := by omega
  have lc : w2.lim ≤ w.next + 1 := by omega
  rw [l63_zero] at hw1 g2' s63
  have ep : ps.set k ⟨a.nm, a.ch + c⟩ = adP ps k c := by unfold adP; rw [morP_eq ha, hce]
  rw [hw1] at c77
  simp [mc70, cellsOf_agg, l63, c77, g2, g2', gB, hia, hrd, hwr, s22, s3, s63, z1, z2, z3, z4, la, lb, lc, tupV, l63_take, -wrO_cells]
  rw [ep]
  have u3 : ∀ w5 : AW, (∀ x, x < w2.next → x ≠ w.next → x ≠ w.next + 1 → x ≠ B → w5.heap.get x = w2.heap.get x) → w2.next ≤ w5.next → w5.lim = w2.lim → Up w w5 := fun w5 h1 h2 h3 =>
    ⟨fun x hx => by rw [h1 x (by omega) (by omega) (by omega) (by omega)]; exact (u1.trans u2).at hx, by omega, by omega⟩
  refine ⟨?_, ?_⟩
  · have hu : Up w ⟨((w2.heap.put w.next (some (.cells (.slice (some ⟨B, 0, none⟩) ps.length ps.length :: dv :: arC o) 63 false))).put B (some (.cells ((adP ps k c).flatMap ptC) 49 false))).put (w.next + 1) (some (.cells (.slice (some ⟨B, 0, none⟩) ps.length ps.length :: dv :: arC o) 63 false)), w2.next, w2.lim⟩ := u3 _ (fun x h1 h2 h3 h4 => by simp [h2, h3, h4]) (Nat.le_refl _) rfl
    have hLu := hL.up hu
    have := rows_pt (ps := adP ps k c) (w := ⟨((w2.heap.put w.next (some (.cells (.slice (some ⟨B, 0, none⟩) ps.length ps.length :: dv :: arC o) 63 false))).put B (some (.cells ((adP ps k c).flatMap ptC) 49 false))).put (w.next + 1) (some (.cells (.slice (some ⟨B, 0, none⟩) ps.length ps.length :: dv :: arC o) 63 false)), w2.next, w2.lim⟩) (B := B) (by simp [z4]) hB2 ps.length
    rw [adP_len] at this
    exact ⟨this, hLu.d, ⟨_, _, _, rfl, Nat.le_refl _⟩, hLu.cd⟩
  · exact u3 _ (fun x h1 h2 h3 h4 => by simp [h2, h3, h4]) (Nat.le_refl _) rfl
end Go.Proofs.Ythfidomphkednaa.walk

namespace Go.Proofs.Ythfidomphkednaa.walk
open Go Go.Sh
set_option maxRecDepth 100000
set_option linter.unusedSimpArgs false
set_option linter.unusedVariables false
@[simp] theorem cf69 (w : AW) (l : List Value) : callFn Try.prog w 69 l = .enter 69 l w := callFn_enter text69 l
theorem call69 {ov : Ov} (m : Nat) (ho : ∀ args w, ov 69 args w = none) (ho70 : ∀ args w, ov 70 args w = none) (ho77 : ∀ args w, ov 77 args w = none) (h71 : HasP ov 71 S71.F) (pv dv : Value) (ps : List Pt) (ds : List Dt) (hO : LOk 100000 ps ds) (k : Nat) (hk : k < ps.length) (c : Int) (hc : 0 ≤ c ∧ c ≤ 1800000) (w : AW) (hl : w.lim ≤ w.next) (hL : LedV w pv dv ps ds) (n1 n2 : Nat) (g1 : w.heap.get n1 = some (.cells (pv :: dv :: arC (owD ds)) 63 false)) (g2 : w.heap.get n2 = some (.cells [.int .i64 (k : Nat)] 3 false)) :
    ∃ v w', (run Try.prog ov (m + 3)).call 69 [.int .i64 c, .pointer (some ⟨n1, 0, none⟩), .pointer (some ⟨n2, 0, none⟩)] w .none = .ok (.ret v) w' .none ∧ v = .bool (prB' ps ds k c) ∧ Up w w' := by
  refine call_wp text69 (by simp) (ho _ _) ?_
  have hK : LK ps ds := hO.up (by decide)
  have hca := hK.ca (k : Int)
  obtain ⟨_, w2, c70, pv', rfl, hL2, u2⟩ := call70 (ov := ov) m ho70 ho77 pv dv (owD ds) ps ds k hk hO.n8 c (by omega) (by omega) w hl hL
  have r71 := S71.call (P := Try.prog) h71 (m := m + 1) (w := w2) ⟨pv', dv, _, ds, rfl, hL2, ad_ok hO hk hc.1 hc.2, rfl⟩
  simp only [l63] at c70 r71
  simp [mc69, g1, g2, c70, r71, tupV, prB']
  exact u2
theorem call68 {ov : Ov} (m : Nat) (ho : ∀ args w, ov 68 args w = none) (ho69 : ∀ args w, ov 69 args w = none) (ho70 : ∀ args w, ov 70 args w = none) (ho77 : ∀ args w, ov 77 args w = none) (h71 : HasP ov 71 S71.F) (pv dv : Value) (ps : List Pt) (ds : List Dt) (hO : LOk 100000 ps ds) (k : Nat) (hk : k < ps.length) (w : AW) (hl : w.lim ≤ w.next) (hL : LedV w pv dv ps ds) (n1 n2 : Nat) (hn1 : n1 < w.next) (hn2 : n2 < w.next) (g1 : w.heap.get n1 = some (.cells (pv :: dv :: arC (owD ds)) 63 false)) (g2 : w.heap.get n2 = some (.cells [.int .i64 (k : Nat)] 3 false)) :
    ∃ v w', (run Try.prog ov (m + 4)).call 68 [.int .i64 (alD ds), .func (.func 69) ⟨[]⟩ ⟨[.pointer (some ⟨n1, 0, none⟩), .pointer (some ⟨n2, 0, none⟩)]⟩] w .none = .ok (.ret v) w' .none ∧ (∃ x, v = .tuple ⟨[.int .i64 x, .bool (prB' ps ds k (alD ds))]⟩ ∧ ((prB' ps ds k (alD ds) = true ∧ LeastB (prB' ps ds k) (alD ds) x) ∨ (prB' ps ds k (alD ds) = false ∧ x = 0))) ∧ Up w w' := by
  refine call_wpY text68 (by simp) (ho _ _) ?_
  have hK : LK ps ds := hO.up (by decide)
  have hb := al_bd hK
  obtain ⟨_, w2, c69, rfl, u2⟩ := call69 (ov := ov) m ho69 ho70 ho77 h71 pv dv ps ds hO k hk (alD ds) (by omega) w hl hL n1 n2 g1 g2
  obtain ⟨A, hA⟩ : ∃ A, A = alD ds := ⟨_, rfl⟩
  rw [← hA] at c69 hb ⊢
  have hcv : ∀ (w : AW) (c : Int), callV Try.prog w (.func (.func 69) ⟨[]⟩ ⟨[.pointer (some ⟨n1, 0, none⟩), .pointer (some ⟨n2, 0, none⟩)]⟩) [.int .i64 c] = .enter 69 [.int .i64 c, .pointer (some ⟨n1, 0, none⟩), .pointer (some ⟨n2, 0, none⟩)] w := fun w c => by rw [callV_func]; simp
  cases hp : prB' ps ds k A with
  | false =>
    rw [hp] at c69
    simp [mc68, hcv, c69, tupV]
    exact u2
  | true =>
    rw [hp] at c69
    simp [mc68, hcv, c69]
    refine wp_seqX (wp_blockX (wp_roundsY (fun i t w' => Up w w' ∧ tget t 1 = .func (.func 69) ⟨[]⟩ ⟨[.pointer (some ⟨n1, 0, none⟩), .pointer (some ⟨n2, 0, none⟩)]⟩ ∧ ∃ lo hi, tget t 6 = .int .i64 lo ∧ tget t 7 = .int .i64 hi ∧ 0 ≤ lo ∧ lo ≤ hi ∧ hi ≤ A ∧ prB' ps ds k hi = true ∧ (∀ z, 0 ≤ z → z < lo → prB' ps ds k z = false) ∧ hi - lo + i ≤ 2000000) 2000001 (by decide) ⟨u2, by simp, 0, A, by simp, by simp, by omega, by omega, by omega, hp, fun z h1 h2 => by omega, by omega⟩ ?_))
    rintro i t w' ⟨hup, t1, lo, hi, t6, t7, h0, hlh, hA', hph, hno, hms⟩
    have hlm := hup.lim
    have hnx := hup.next
    by_cases hlt : lo < hi
    · have g1' := hup.at hn1
      rw [g1] at g1'
      have g2' := hup.at hn2
      rw [g2] at g2'
      obtain ⟨mid, hmid⟩ : ∃ mid, mid = (lo + hi).tdiv 2 := ⟨_, rfl⟩
      have hmid' : mid = (lo + hi) / 2 := by rw [hmid]; exact Int.tdiv_eq_ediv_of_nonneg (by omega)
      have hw1 : IntKind.wrap .i64 (lo + hi) = lo + hi := wrap64_in (by omega) (by omega)
      have hq := fun (cc : Bool) w => bin_quo (P := Try.prog) (w := w) 3 cc .i64 (lo + hi) 2 (by decide)
      simp only [← hmid] at hq
      have hw2 : IntKind.wrap .i64 mid = mid := wrap64_in (by omega) (by omega)
      have hw3 : IntKind.wrap .i64 (mid + 1) = mid + 1 := wrap64_in (by omega) (by omega)
      obtain ⟨_, w3, c69m, rfl, u3⟩ := call69 (ov := ov) m ho69 ho70 ho77 h71 pv dv ps ds hO k hk mid (by omega) w' (by omega) (hL.up hup) n1 n2 g1' g2'
      cases hpm : prB' ps ds k mid with
      | true =>
        rw [hpm] at c69m
        simp [mc68_l0, t1, t6, t7, hlt, hw1, hq, hw2, hcv, c69m]
        exact ⟨by omega, hup.trans u3, by omega, by omega, by omega, hpm, hno, by omega⟩
      | false =>
        rw [hpm] at c69m
        simp [mc68_l0, t1, t6, t7, hlt, hw1, hq, hw2, hw3, hcv, c69m]
        refine ⟨by omega, hup.trans u3, by omega, by omega, by omega, hph, fun z h1 h2 => ?_, by omega⟩
        cases hz : prB' ps ds k z with
        | false => rfl
        | true =>
          have := pr_mono hO hk (a := z) (b := mid) h1 (by omega) (by omega) hz
          rw [hpm] at this; cases this
    · have he : lo = hi := by omega
      subst he
      simp [mc68_l0, t6, t7, tupV]
      exact ⟨⟨h0, hA', hph, hno⟩, hup⟩
theorem sl61b (w : AW) (B : Nat) : sliceA Try.prog w 61 (.pointer (some ⟨B, 2, none⟩)) none none none = .val (.slice (some ⟨B, 2, some 1⟩) 8 8) w := by
  simp [sliceA, sliceB1, arr61, size3, sliceArr, boundA]
theorem call55 {ov : Ov} (m : Nat) (ho : ∀ args w, ov 55 args w = none) (ho68 : ∀ args w, ov 68 args w = none) (ho69 : ∀ args w, ov 69 args w = none) (ho70 : ∀ args w, ov 70 args w = none) (ho77 : ∀ args w, ov 77 args w = none) (h62 : HasP ov 62 S62.F) (h71 : HasP ov 71 S71.F) (pv dv : Value) (ps : List Pt) (ds : List Dt) (hO : LOk 100000 ps ds) (k : Nat) (hk : k < ps.length) (w : AW) (hl : w.lim ≤ w.next) (hL : LedV w pv dv ps ds) :
    ∃ v w', (run Try.prog ov (m + 5)).call 55 [.agg ⟨l63 pv dv (owD ds)⟩, .int .i64 (k : Nat)] w .none = .ok (.ret v) w' .none ∧ (∃ x, v = .tuple ⟨[.int .i64 x, .bool (prB' ps ds k (alD ds))]⟩ ∧ ((prB' ps ds k (alD ds) = true ∧ LeastB (prB' ps ds k) (alD ds) x) ∨ (prB' ps ds k (alD ds) = false ∧ x = 0))) ∧ Up w w' := by
  refine call_wp text55 (by simp) (ho _ _) ?_
  have hK : LK ps ds := hO.up (by decide)
  obtain ⟨w1, hw1⟩ : ∃ w1, w1 = (⟨(w.heap.put w.next (some (.cells (pv :: dv :: arC (owD ds)) 63 false))).put (w.next + 1) (some (.cells [.int .i64 (k : Nat)] 3 false)), w.next + 1 + 1, w.lim⟩ : AW) := ⟨_, rfl⟩
  have u1 : Up w w1 := by rw [hw1]; exact ((Up.refl w).put (Nat.le_refl _) (Nat.le_refl _)).put (Nat.le_succ _) (by omega)
  have n1 : w1.next = w.next + 1 + 1 := by rw [hw1]
  have m1 : w1.lim = w.lim := by rw [hw1]
  have g1 : w1.heap.get w.next = some (.cells (pv :: dv :: arC (owD ds)) 63 false) := by rw [hw1]; simp
  have g2 : w1.heap.get (w.next + 1) = some (.cells [.int .i64 (k : Nat)] 3 false) := by rw [hw1]; simp
  have hrow : RowsV intC w1 (.slice (some ⟨w.next, 2, some 1⟩) 8 8) (lsF 8 (owD ds)) := .inr ⟨w.next, 2, some 1, 8, by rw [lsF_len], ⟨[pv, dv], [], 63, false, by rw [g1, ← arC_flat]; simp, rfl⟩, by omega⟩
  have r62 := S62.call (P := Try.prog) h62 (m := m + 3) (w := w1) ⟨_, _, rfl, hrow, by rw [lsF_len]; decide, rfl⟩
  have et : totW (lsF 8 (owD ds)) = alD ds := by
    rw [totW_eq (fun z hz => ?_) (by rw [lsF_len]; decide)]
    · rfl
    · unfold lsF at hz
      obtain ⟨q, _, rfl⟩ := List.mem_map.1 hz
      have h1 := hK.ow_nonneg (q : Int)
      have h2 := hK.ow_le (q : Int)
      omega
  rw [et] at r62
  obtain ⟨_, w2, c68, ⟨x, rfl, hx⟩, u2⟩ := call68 (ov := ov) m ho68 ho69 ho70 ho77 h71 pv dv ps ds hO k hk w1 (by omega) (hL.up u1) w.next (w.next + 1) (by omega) (by omega) g1 g2
  have nj : ∀ z : Int, notJunk (.int .i64 z) = some (.int .i64 z) := fun _ => rfl
  rw [hw1] at r62 c68
  simp [mc55, cellsOf_agg, l63, sl61b, r62, c68, tupV]
  exact ⟨hx, u1.trans u2⟩
theorem call26 {ov : Ov} (m : Nat) (ho : ∀ args w, ov 26 args w = none) (ho40 : ∀ args w, ov 40 args w = none) (ho61 : ∀ args w, ov 61 args w = none) (ho74 : ∀ args w, ov 74 args w = none) (ho55 : ∀ args w, ov 55 args w = none) (ho68 : ∀ args w, ov 68 args w = none) (ho69 : ∀ args w, ov 69 args w = none) (ho70 : ∀ args w, ov 70 args w = none) (ho77 : ∀ args w, ov 77 args w = none) (h17 : HasP ov 17 S17.F) (h54 : HasP ov 54 S54.F) (h62 : HasP ov 62 S62.F) (h71 : HasP ov 71 S71.F) (pv dv : Value) (ps : List Pt) (ds : List Dt) (i : Int) (w : AW) (hl : w.lim ≤ w.next) (hL : LedV w pv dv ps ds) :
    ∃ v w', (run Try.prog ov (m + 6)).call 26 [.agg ⟨[pv, dv]⟩, .int .i64 i] w .none = .ok (.ret v) w' .none ∧ (∃ x, v = .tuple ⟨[.int .i64 x, .int .i64 (resE ps ds i)]⟩ ∧ ResX ps ds i x) ∧ Up w w' := by
  refine call_wp text26 (by simp) (ho _ _) ?_
  obtain ⟨w1, hw1⟩ : ∃ w1, w1 = (⟨w.heap.put w.next (some (.cells [pv, dv] 25 false)), w.next + 1, w.lim⟩ : AW) := ⟨_, rfl⟩
  have u1 : Up w w1 := hw1 ▸ (Up.refl w).add _
  have n1 : w1.next = w.next + 1 := by rw [hw1]
  have m1 : w1.lim = w.lim := by rw [hw1]
  have r17 := S17.call (P := Try.prog) h17 (m := m + 4) ⟨pv, dv, ps, ds, rfl, hL.up u1, rfl⟩
  by_cases hC : chE ps ds = 0
  case neg =>
    have e : resE ps ds i = chE ps ds := by unfold resE; rw [if_neg hC]
    have hX : ResX ps ds i 0 := .inr ⟨by rw [e]; exact hC, rfl⟩
    rw [hw1] at r17 u1
    simp [mc26, cellsOf_agg, r17, hC, tupV, e]
    exact ⟨hX, u1⟩
  case pos =>
    have hO := ch_lk hC
    have hK : LK ps ds := hO.up (by decide)
    rw [hC] at r17
    have r54 := S54.call (P := Try.prog) h54 (m := m + 4) ⟨pv, dv, ps, i, rfl, hL.p.up u1, by have := hO.n8; omega, rfl⟩
    cases hI : inI 0 i ((ps.length : Int) - 1) with
    | false =>
      have e : resE ps ds i = 91 := by unfold resE; rw [if_pos hC, hI]; rfl
      have hX : ResX ps ds i 0 := .inr ⟨by rw [e]; decide, rfl⟩
      rw [hI] at r54
      rw [hw1] at r17 u1 r54
      simp [mc26, cellsOf_agg, r17, r54, hC, tupV, e]
      exact ⟨hX, u1⟩
    | true =>
      have hi := hI
      simp only [inI, Bool.and_eq_true, decide_eq_true_eq] at hi
      obtain ⟨k, rfl⟩ : ∃ k : Nat, i = (k : Int) := ⟨i.toNat, by omega⟩
      have hk : k < ps.length := by omega
      rw [hI] at r54
      obtain ⟨_, w2, c40, rfl, u2⟩ := call40 (ov := ov) (m + 2) ho40 ho61 ho74 h62 pv dv ps ds w1 (by omega) (hL.up u1) hK
      have n2 := u2.next
      have m2 := u2.lim
      obtain ⟨_, w3, c55, ⟨x, rfl, hx⟩, u3⟩ := call55 (ov := ov) m ho55 ho68 ho69 ho70 ho77 h62 h71 pv dv ps ds hO k hk w2 (by omega) (hL.up (u1.trans u2))
      have y3 := (u1.trans u2).trans u3
      have e : resE ps ds (k : Int) = if prB' ps ds k (alD ds) = true then 0 else 4 := by unfold resE; rw [if_pos hC, if_pos hI, Int.toNat_natCast]
      rw [hw1] at r17 r54 c40
      rcases hx with ⟨h1, h2⟩ | ⟨h1, rfl⟩
      · rw [h1] at e c55
        have hX : ResX ps ds (k : Int) x := .inl ⟨by rw [e]; rfl, by rw [Int.toNat_natCast]; exact h2⟩
        simp only [if_true] at e
        simp [mc26, cellsOf_agg, r17, r54, c40, c55, hC, tupV, e]
        exact ⟨hX, y3⟩
      · rw [h1] at e c55
        have hX : ResX ps ds (k : Int) 0 := .inr ⟨by rw [e]; decide, rfl⟩
        simp only [Bool.false_eq_true, if_false] at e
        simp [mc26, cellsOf_agg, r17, r54, c40, c55, hC, tupV, e]
        exact ⟨hX, y3⟩
end Go.Proofs.Ythfidomphkednaa.walk

namespace Go.Proofs.Ythfidomphkednaa.walk
open Go Go.Sh
set_option maxRecDepth 100000
set_option linter.unusedSimpArgs false
set_option linter.unusedVariables false
/-! CreditRescued -/
theorem mor_keep {ps : List Pt} {ds : List Dt} (hC : chE ps ds = 0) {k : Nat} (hk : k < ps.length) {c : Int} (hc : 0 ≤ caP ps (k : Int) + c ∧ caP ps (k : Int) + c ≤ 100000) : chE (adP ps k c) ds = 0 := mor_ch hC hk hc
theorem rs_key {ps : List Pt} {ds : List Dt} (hC : chE ps ds = 0) {k : Nat} (hk : k < ps.length) {e x c : Int} (he : (e = 0 ∧ LeastB (prB' ps ds k) (alD ds) x) ∨ (e = 4 ∧ x = 0 ∧ prB' ps ds k (alD ds) = false)) (h0 : 0 ≤ c) (hc : c ≤ 1800000) : prB' ps ds k c = decide (e = 0 ∧ x ≤ c) := by
  have hO := ch_lk hC
  rcases he with ⟨rfl, h1, h2, h3, h4⟩ | ⟨rfl, rfl, h⟩
  · by_cases hx : x ≤ c
    · rw [pr_mono hO hk h1 hx hc h3]; simp [hx]
    · rw [h4 c h0 (by omega)]; simp [hx]
  · cases hp : prB' ps ds k c with
    | false => simp
    | true => rw [pr_all hO hk h0 hc hp] at h; cases h
set_option maxHeartbeats 4000000 in
theorem loop11 {ov : Ov} (m : Nat) (ho24 : ∀ args w, ov 24 args w = none) (ho52 : ∀ args w, ov 52 args w = none) (ho40 : ∀ args w, ov 40 args w = none) (ho61 : ∀ args w, ov 61 args w = none) (ho74 : ∀ args w, ov 74 args w = none)
    (h17 : HasP ov 17 S17.F) (h49 : HasP ov 49 S49.F) (h62 : HasP ov 62 S62.F) (pv dv : Value) (ps : List Pt) (ds : List Dt) (hC : chE ps ds = 0) (k : Nat) (hk : k < ps.length) (e x : Int) (he : (e = 0 ∧ LeastB (prB' ps ds k) (alD ds) x) ∨ (e = 4 ∧ x = 0 ∧ prB' ps ds k (alD ds) = false)) (hx : 0 ≤ x ∧ x ≤ 1600000)
    (w0 : AW) (hl : w0.lim ≤ w0.next) (hL : LedV w0 pv dv ps ds) (n1 : Nat) (hn1 : n1 < w0.next) (g1 : w0.heap.get n1 = some (.cells [pv, dv] 25 false)) (B : Nat) (hB : B < w0.next) (cs : List Value) (gB : w0.heap.get B = some (.cells cs 3 false)) (hcs : ∀ i : Nat, i < 3 → ∃ c : Int, cs[i]? = some (.int .i64 c) ∧ -1 ≤ c ∧ c ≤ 1600000)
    (Q : Ex → Tm → AW → Prop) (t : Tm) (t1 : tget t 1 = .int .i64 (k : Nat)) (t3 : tget t 3 = .pointer (some ⟨n1, 0, none⟩)) (t7 : tget t 7 = .int .i64 x) (t8 : tget t 8 = .int .i64 e) (t9 : tget t 9 = .slice (some ⟨B, 0, none⟩) 3 3) (t10 : tget t 10 = .int .i64 0)
    (hQ : ∀ t w', Up w0 w' → Q (.exit 0) t w') : wp (exM Try.prog (run Try.prog ov (m + 4)) (.loop mc11_l0) t w0) Q := by
  have hO := ch_lk hC
  have hn := hO.n1
  have h8 := hO.n8
  refine wp_rounds (fun i t w' => Up w0 w' ∧ tget t 1 = .int .i64 (k : Nat) ∧ tget t 3 = .pointer (some ⟨n1, 0, none⟩) ∧ tget t 7 = .int .i64 x ∧ tget t 8 = .int .i64 e ∧ tget t 9 = .slice (some ⟨B, 0, none⟩) 3 3 ∧ tget t 10 = .int .i64 (i : Nat) ∧ i ≤ 3) 20 (by decide) ⟨Up.refl _, t1, t3, t7, t8, t9, by simpa using t10, by omega⟩ ?_
  clear t1 t3 t7 t8 t9 t10
  rintro i t w3 ⟨hup, t1, t3, t7, t8, t9, t10, hi⟩
  have hlm := hup.lim
  have hnx := hup.next
  by_cases hlt : i < 3
  · have hlt' : (i : Int) < 3 := by omega
    have g3 := hup.at hn1
    rw [g1] at g3
    have gB3 := hup.at hB
    rw [gB] at gB3
    obtain ⟨c, hcc, hc1, hc2⟩ := hcs i hlt
    obtain ⟨w4, hw4⟩ : ∃ w4, w4 = (⟨(w3.heap.put w3.next (some (.cells [.slice none 0 0, .slice none 0 0] 25 false))).put w3.next (some (.cells [pv, dv] 25 false)), w3.next + 1, w3.lim⟩ : AW) := ⟨_, rfl⟩
    have u4 : Up w3 w4 := hw4 ▸ ((Up.refl w3).add _).put (Nat.le_refl _) (Nat.le_refl _)
    have n4 : w4.next = w3.next + 1 := by rw [hw4]
    have m4 : w4.lim = w3.lim := by rw [hw4]
    have hcp := copy_pt (hL.p.up (hup.trans u4)) hn (by omega) (w := w4) (by omega)
    obtain ⟨a, ha⟩ : ∃ a, ps[k]? = some a := ⟨_, List.getElem?_eq_getElem hk⟩
    have hia := fun w => ia22 w ⟨w3.next + 1 + 1, 0, none⟩ ps.length ps.length .i64 k hk
    have hib := fun w => ia26 w ⟨B, 0, none⟩ 3 3 .i64 i hlt
    simp only [Nat.mul_one] at hib
    have hrd : rdO (some (.cells (ps.flatMap ptC) 49 false)) (k * 2) 2 = some (ptC a) := by
      have := RowsA.rd (m := 2) (f := ptC) (H := (T.leaf : T AObj).put 0 (some (.cells (ps.flatMap ptC) 49 false))) (n := 1) (b := 0) (off := 0) ptC_length ⟨⟨[], [], 49, false, by rw [get_put, if_pos rfl]; simp, rfl⟩, by decide⟩ ha
      rw [get_put, if_pos rfl] at this
      simpa using this
    have hcash := hO.cash a (List.mem_of_getElem? ha)
    have hwr : IntKind.wrap .i64 (a.ch + c) = a.ch + c := wrap64_in (by omega) (by omega)
    have sg : singles [pv, dv] = true ∧ singles [dv] = true := by
      obtain ⟨a, c, rfl⟩ := hL.p.len
      obtain ⟨a', c', rfl⟩ := hL.d.len
      simp
    obtain ⟨sg1, sg2⟩ := sg
    have l3 : w3.lim ≤ w3.next := by omega
    have l4 : w3.lim ≤ w3.next + 1 + 1 := by omega
    have l5 : w3.lim ≤ w3.next + 1 + 1 + 1 := by omega
    have z1 : ¬ n1 = w3.next := by omega
    have z2 : ¬ B = w3.next := by omega
    have z3 : ¬ n1 = w3.next + 1 := by omega
    have z4 : ¬ B = w3.next + 1 := by omega
    have z5 : ¬ n1 = w3.next + 1 + 1 := by omega
    have z6 : ¬ B = w3.next + 1 + 1 := by omega
    have z7 : ¬ B = w3.next + 1 + 1 + 1 := by omega
    have hq1 : IntKind.wrap .i64 ((i : Int) + 1) = (i : Int) + 1 := wrap64_in (by omega) (by omega)
    have sP : ∀ w5 : AW, w5.lim ≤ w3.next + 1 + 1 → wrO w5 (w3.next + 1 + 1) (k * 2) [.string a.nm, .int .i64 (a.ch + c)] (some (.cells (ps.flatMap ptC) 49 false)) = some ⟨w5.heap.put (w3.next + 1 + 1) (some (.cells ((ps.set k ⟨a.nm, a.ch + c⟩).flatMap ptC) 49 false)), w5.next, w5.lim⟩ := fun w5 h => st_pt (p := ⟨a.nm, a.ch + c⟩) hk h
    have hce := ca_at ha
    rw [hw4] at hcp
    have ep : ps.set k ⟨a.nm, a.ch + c⟩ = adP ps k c := by unfold adP; rw [morP_eq ha, hce]
    rw [ep] at sP
    obtain ⟨anm, ach⟩ := a
    simp only [ptC] at hrd
    simp only at hwr sP hcash hce
    have s25 : ∀ w5 : AW, w5.lim ≤ w3.next → wrO w5 w3.next 0 [pv, dv] (some (.cells [.slice none 0 0, .slice none 0 0] 25 false)) = some ⟨w5.heap.put w3.next (some (.cells [pv, dv] 25 false)), w5.next, w5.lim⟩ := fun w5 h => by rw [wrO_cells sg1 h (by simp)]; rfl
    have s22 : ∀ w5 : AW, w5.lim ≤ w3.next → wrO w5 w3.next 0 [.slice (some ⟨w3.next + 1 + 1, 0, none⟩) ps.length ps.length] (some (.cells [pv, dv] 25 false)) = some ⟨w5.heap.put w3.next (some (.cells [.slice (some ⟨w3.next + 1 + 1, 0, none⟩) ps.length ps.length, dv] 25 false)), w5.next, w5.lim⟩ := fun w5 h => by rw [wrO_cells (by simp) h (by simp)]; rfl
    have s49a : ∀ w5 : AW, w5.lim ≤ w3.next + 1 + 1 + 1 → wrO w5 (w3.next + 1 + 1 + 1) 0 [.string anm, .int .i64 ach] (some (.cells [.string ⟨⟨[]⟩⟩, .int .i64 0] 49 false)) = some ⟨w5.heap.put (w3.next + 1 + 1 + 1) (some (.cells [.string anm, .int .i64 ach] 49 false)), w5.next, w5.lim⟩ := fun w5 h => by rw [wrO_cells (by simp) h (by simp)]; rfl
    have s49b : ∀ w5 : AW, w5.lim ≤ w3.next + 1 + 1 + 1 → wrO w5 (w3.next + 1 + 1 + 1) 1 [.int .i64 (ach + c)] (some (.cells [.string anm, .int .i64 ach] 49 false)) = some ⟨w5.heap.put (w3.next + 1 + 1 + 1) (some (.cells [.string anm, .int .i64 (ach + c)] 49 false)), w5.next, w5.lim⟩ := fun w5 h => by rw [wrO_cells (by simp) h (by simp)]; rfl
    obtain ⟨wz, hwz⟩ : ∃ wz, (⟨(((((((((w3.heap.put w3.next (some (.cells [.slice none 0 0, .slice none 0 0] 25 false))).put w3.next (some (.cells [pv, dv] 25 false))).put (w3.next + 1) (some (.cells [] 49 false))).put (w3.next + 1) none).put (w3.next + 1 + 1) (some (.cells (List.flatMap ptC ps) 49 false))).put w3.next (some (.cells [.slice (some ⟨w3.next + 1 + 1, 0, none⟩) ps.length ps.length, dv] 25 false))).put (w3.next + 1 + 1 + 1) (some (.cells [.string ⟨⟨[]⟩⟩, .int .i64 0] 49 false))).put (w3.next + 1 + 1 + 1) (some (.cells [.string anm, .int .i64 ach] 49 false))).put (w3.next + 1 + 1 + 1) (some (.cells [.string anm, .int .i64 (ach + c)] 49 false))).put (w3.next + 1 + 1) (some (.cells (List.flatMap ptC (adP ps k c)) 49 false)), w3.next + 1 + 1 + 1 + 1, w3.lim⟩ : AW) = wz := ⟨_, rfl⟩
    have uz : Up w3 wz := by
      rw [← hwz]
      exact ((((((((((Up.refl w3).put (Nat.le_refl _) (Nat.le_refl _)).put (Nat.le_refl _) (Nat.le_refl _)).put (Nat.le_succ _) (Nat.le_refl _)).put (Nat.le_succ _) (Nat.le_refl _)).put (by omega) (Nat.le_refl _)).put (Nat.le_refl _) (Nat.le_refl _)).put (by omega) (Nat.le_refl _)).put (by omega) (Nat.le_refl _)).put (by omega) (Nat.le_refl _)).put (by omega) (by omega)
    have nz : wz.next = w3.next + 1 + 1 + 1 + 1 := by rw [← hwz]
    have mz : wz.lim = w3.lim := by rw [← hwz]
    have gz : wz.heap.get w3.next = some (.cells [.slice (some ⟨w3.next + 1 + 1, 0, none⟩) ps.length ps.length, dv] 25 false) := by rw [← hwz]; simp
    have gP : wz.heap.get (w3.next + 1 + 1) = some (.cells ((adP ps k c).flatMap ptC) 49 false) := by rw [← hwz]; simp
    have yz := hup.trans uz
    by_cases hc0 : c < 0
    · simp [mc11_l0, t1, t3, t7, t8, t9, t10, hlt', s25, s22, s49a, s49b, g3, gB3, hcc, hcp, l3, l4, l5, sg1, sg2, z1, z2, z3, z4, z5, z6, z7, hia, hib, hrd, hwr, sP, hq1, hc0, -wrO_cells]
      rw [hwz]
      exact ⟨by omega, yz, by omega⟩
    · by_cases hc9 : 100000 < ach + c
      · simp [mc11_l0, t1, t3, t7, t8, t9, t10, hlt', s25, s22, s49a, s49b, g3, gB3, hcc, hcp, l3, l4, l5, sg1, sg2, z1, z2, z3, z4, z5, z6, z7, hia, hib, hrd, hwr, sP, hq1, hc0, hc9, -wrO_cells]
        rw [hwz]
        exact ⟨by omega, yz, by omega⟩
      · have hc' : chE (adP ps k c) ds = 0 := mor_keep hC hk (by rw [hce]; omega)
        have hk' : LK (adP ps k c) ds := (ch_lk hc').up (by decide)
        have hLz : LedV wz (.slice (some ⟨w3.next + 1 + 1, 0, none⟩) ps.length ps.length) dv (adP ps k c) ds := by
          have hLu := hL.up yz
          have := rows_pt gP (by omega) ps.length
          rw [adP_len] at this
          exact ⟨this, hLu.d, ⟨_, _, _, rfl, Nat.le_refl _⟩, hLu.cd⟩
        obtain ⟨_, w6, c24z, v14, rfl, hr14, u6⟩ := call24 (ov := ov) m ho24 ho40 ho61 ho74 ho52 h62 h17 h49 _ dv (adP ps k c) ds wz (by omega) hLz
        have eS : shL (adP ps k c) ds = shP (adP ps k c) ds (adP ps k c).length := by unfold shL; rw [if_pos hc']
        rw [eS] at hr14
        rw [hc'] at c24z
        have hl14 := fun w2 => len26V (w' := w2) hr14
        have hpa := pa_sh hk'
        have hkey := rs_key hC hk he (by omega : 0 ≤ c) (by omega)
        unfold prB' at hkey
        have y6 := yz.trans u6
        have gB6 := y6.at hB
        rw [gB] at gB6
        obtain ⟨S, hS⟩ : ∃ S, S = shP (adP ps k c) ds (adP ps k c).length := ⟨_, rfl⟩
        rw [← hS] at hl14 hpa
        have hd1 : decide ((S.length : Int) = 0) = decide (e = 0 ∧ x ≤ c) := by
          rw [← hkey]
          cases hp : paB (adP ps k c) ds with
          | true => rw [hpa.1 hp]; rfl
          | false =>
            rw [decide_eq_false_iff_not]
            intro h
            have : S = [] := List.eq_nil_of_length_eq_zero (by omega)
            rw [hpa.2 this] at hp; cases hp
        obtain ⟨SL, hSL⟩ : ∃ n : Nat, n = S.length := ⟨_, rfl⟩
        rw [← hSL] at hd1 hl14
        simp [mc11_l0, t1, t3, t7, t8, t9, t10, hlt', s25, s22, s49a, s49b, g3, gB3, hcc, hcp, l3, l4, l5, sg1, sg2, z1, z2, z3, z4, z5, z6, z7, hia, hib, hrd, hwr, sP, hq1, hc0, hc9, -wrO_cells]
        rw [hwz]
        rcases he with ⟨rfl, he⟩ | ⟨rfl, rfl, he⟩
        · by_cases hxc : x ≤ c
          · have hd2 : SL = 0 := by simpa [hxc] using hd1
            simp [c24z, gz, hl14, hd2, hxc, gB6, hcc, hib, hq1, t9, t10, t7, t8, t1, t3]
            exact ⟨by omega, y6, by omega⟩
          · have hd2 : ¬ SL = 0 := by simpa [hxc] using hd1
            simp [c24z, gz, hl14, hd2, hxc, gB6, hcc, hib, hq1, t9, t10, t7, t8, t1, t3]
            exact ⟨by omega, y6, by omega⟩
        · have hd2 : ¬ SL = 0 := by simpa using hd1
          simp [c24z, gz, hl14, hd2, gB6, hcc, hib, hq1, t9, t10, t7, t8, t1, t3]
          exact ⟨by omega, y6, by omega⟩
  · have hi' : i = 3 := by omega
    subst hi'
    simp [mc11_l0, t9, t10]
    exact hQ _ _ hup
set_option maxHeartbeats 2000000 in
theorem call11 {ov : Ov} (m : Nat) (ho : ∀ args w, ov 11 args w = none) (ho24 : ∀ args w, ov 24 args w = none) (ho26 : ∀ args w, ov 26 args w = none) (ho52 : ∀ args w, ov 52 args w = none) (ho40 : ∀ args w, ov 40 args w = none) (ho61 : ∀ args w, ov 61 args w = none) (ho74 : ∀ args w, ov 74 args w = none) (ho55 : ∀ args w, ov 55 args w = none) (ho68 : ∀ args w, ov 68 args w = none) (ho69 : ∀ args w, ov 69 args w = none) (ho70 : ∀ args w, ov 70 args w = none) (ho77 : ∀ args w, ov 77 args w = none)
    (hW : HasW ov) (h17 : HasP ov 17 S17.F) (h30 : HasP ov 30 S30.F) (h32 : HasP ov 32 S32.F) (h33 : HasP ov 33 S33.F) (h49 : HasP ov 49 S49.F) (h54 : HasP ov 54 S54.F) (h62 : HasP ov 62 S62.F) (h71 : HasP ov 71 S71.F)
    (pv dv : Value) (ps : List Pt) (ds : List Dt) (i q : Int) (w : AW) (hl : w.lim ≤ w.next) (hL : LedV w pv dv ps ds) :
    ∃ v w', (run Try.prog ov (m + 7)).call 11 [.agg ⟨[pv, dv]⟩, .int .i64 i, .int .i64 q] w .none = .ok (.ret v) w' .none ∧ v = .bool true := by
  refine call_wp text11 (by simp) (ho _ _) ?_
  obtain ⟨w1, hw1⟩ : ∃ w1, w1 = (⟨w.heap.put w.next (some (.cells [pv, dv] 25 false)), w.next + 1, w.lim⟩ : AW) := ⟨_, rfl⟩
  have u1 : Up w w1 := hw1 ▸ (Up.refl w).add _
  have n1 : w1.next = w.next + 1 := by rw [hw1]
  have m1 : w1.lim = w.lim := by rw [hw1]
  have g1 : w1.heap.get w.next = some (.cells [pv, dv] 25 false) := by rw [hw1]; simp
  obtain ⟨_, w2, c26, ⟨x, rfl, hX⟩, u2⟩ := call26 (ov := ov) m ho26 ho40 ho61 ho74 ho55 ho68 ho69 ho70 ho77 h17 h54 h62 h71 pv dv ps ds i w1 (by omega) (hL.up u1)
  have n2 := u2.next
  have m2 := u2.lim
  have g2 := u2.at (b := w.next) (by omega)
  rw [g1] at g2
  have y2 := u1.trans u2
  have rW := fun w => ruleW (m := m + 5) hW w
  have r30 := S30.call (P := Try.prog) h30 (m := m + 5) (w := w2) ⟨pv, dv, ps, ds, rfl, hL.up y2, rfl⟩
  obtain ⟨E, hE⟩ : ∃ E, E = resE ps ds i := ⟨_, rfl⟩
  rw [hw1] at c26
  by_cases hC : chE ps ds = 0
  case neg =>
    have e : resE ps ds i = chE ps ds := by unfold resE; rw [if_neg hC]
    have hx : x = 0 := by
      rcases hX with ⟨h, _⟩ | ⟨_, h⟩
      · rw [e] at h; exact absurd h hC
      · exact h
    rw [e] at c26
    subst hx
    simp only [hC, decide_false] at r30
    by_cases h4 : chE ps ds = 4
    · rw [h4] at c26
      simp [mc11, cellsOf_agg, c26, g2, r30, rW, tupV]
    · simp [mc11, cellsOf_agg, c26, g2, r30, rW, tupV, hC, h4]
  case pos =>
    simp only [hC, decide_true] at r30
    have hO := ch_lk hC
    have hn := hO.n1
    have h8 := hO.n8
    cases hI : inI 0 i ((ps.length : Int) - 1) with
    | false =>
      have e : resE ps ds i = 91 := by unfold resE; rw [if_pos hC, hI]; rfl
      have hx : x = 0 := by
        rcases hX with ⟨h, _⟩ | ⟨_, h⟩
        · rw [e] at h; cases h
        · exact h
      rw [e] at c26
      subst hx
      simp [mc11, cellsOf_agg, c26, g2, r30, rW, tupV]
    | true =>
      have hi := hI
      simp only [inI, Bool.and_eq_true, decide_eq_true_eq] at hi
      obtain ⟨k, rfl⟩ : ∃ k : Nat, i = (k : Int) := ⟨i.toNat, by omega⟩
      have hk : k < ps.length := by omega
      have hK : LK ps ds := hO.up (by decide)
      have hal := al_bd hK
      have e : resE ps ds (k : Int) = if prB' ps ds k (alD ds) = true then 0 else 4 := by unfold resE; rw [if_pos hC, if_pos hI, Int.toNat_natCast]
      have r32 := fun w => S32.call (P := Try.prog) h32 (m := m + 5) (w := w) ⟨(k : Int), 0, (ps.length : Int) - 1, rfl, rfl⟩
      rw [hI] at r32
      have r33 := fun w => S33.call (P := Try.prog) h33 (m := m + 5) (w := w) ⟨q, 100000, rfl, by decide, rfl⟩
      have hb := wrapI_bd (n := q) (s := 100000) (by decide)
      obtain ⟨R, hR⟩ : ∃ R, R = wrapI q 100000 := ⟨_, rfl⟩
      rw [← hR] at r33 hb
      have hl22 := fun w' => len22V (w' := w') (hL.p.up y2)
      have hw3 : IntKind.wrap .i64 ((ps.length : Int) - 1) = (ps.length : Int) - 1 := wrap64_in (by omega) (by omega)
      have he : (E = 0 ∧ LeastB (prB' ps ds k) (alD ds) x) ∨ (E = 4 ∧ x = 0 ∧ prB' ps ds k (alD ds) = false) := by
        rcases hX with ⟨h1, h2⟩ | ⟨h1, h2⟩
        · rw [Int.toNat_natCast] at h2
          exact .inl ⟨by rw [hE, h1], h2⟩
        · right
          rw [e] at h1 hE
          cases hp : prB' ps ds k (alD ds) with
          | true => rw [hp] at h1; exact absurd rfl h1
          | false => rw [hp] at hE; exact ⟨hE, h2, rfl⟩
      have hxr : 0 ≤ x ∧ x ≤ 1600000 := by
        rcases he with ⟨_, h1, h2, _⟩ | ⟨_, h, _⟩ <;> omega
      have hwx : IntKind.wrap .i64 (x - 1) = x - 1 := wrap64_in (by omega) (by omega)
      rw [← hE] at c26
      have hE4 : E = 0 ∨ E = 4 := by rcases he with ⟨h, _⟩ | ⟨h, _⟩ <;> omega
      obtain ⟨wb, hwb⟩ : ∃ wb, (⟨w2.heap.put w2.next (some (.cells [.int .i64 x, .int .i64 (x - 1), .int .i64 R] 3 false)), w2.next + 1, w2.lim⟩ : AW) = wb := ⟨_, rfl⟩
      have ub : Up w2 wb := hwb ▸ (Up.refl w2).add _
      have nb : wb.next = w2.next + 1 := by rw [← hwb]
      have mb : wb.lim = w2.lim := by rw [← hwb]
      have gb : wb.heap.get w2.next = some (.cells [.int .i64 x, .int .i64 (x - 1), .int .i64 R] 3 false) := by rw [← hwb]; simp
      have g3 := ub.at (b := w.next) (by omega)
      rw [g2] at g3
      have key := fun Q t => loop11 (ov := ov) (m + 2) ho24 ho52 ho40 ho61 ho74 h17 h49 h62 pv dv ps ds hC k hk E x he hxr wb (by omega) (hL.up (y2.trans ub)) w.next (by omega) g3 w2.next (by omega) _ gb (fun j hj => by
        match j, hj with
        | 0, _ => exact ⟨x, rfl, by omega, by omega⟩
        | 1, _ => exact ⟨x - 1, rfl, by omega, by omega⟩
        | 2, _ => exact ⟨R, rfl, by omega, by omega⟩) Q t
      rcases hE4 with rfl | rfl
      all_goals
        simp [mc11, cellsOf_agg, c26, g2, r30, r32, r33, hl22, hw3, hwx]
        rw [hwb]
        refine wp_seqX (wp_blockX (key _ _ ?_ ?_ ?_ ?_ ?_ ?_ ?_))
        case _ => simp
        case _ => simp
        case _ => simp
        case _ => simp
        case _ => simp
        case _ => simp
        case _ =>
          intro t w' u
          simp [rW, tupV]
end Go.Proofs.Ythfidomphkednaa.walk
