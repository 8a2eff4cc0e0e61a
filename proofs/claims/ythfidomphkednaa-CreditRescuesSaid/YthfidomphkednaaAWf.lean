/- Part of a proof by a machine of ones own: see the text with the theorem. -/
import Derived.Test.YthfidomphkednaaAWd
import Derived.Test.YthfidomphkednaaAWe
namespace Go.Proofs.Ythfidomphkednaa.walk
open Go Go.Sh
set_option maxRecDepth 100000
set_option linter.unusedSimpArgs false
set_option linter.unusedVariables false
/-! CreditCents: numbers, Rises -/
theorem shP_mem (ps : List Pt) (ds : List Dt) {n k : Nat} (hk : k < n) : (k : Int) ∈ shP ps ds n ↔ shB ps ds k = true := by
  unfold shP
  rw [List.mem_map]
  constructor
  · rintro ⟨a, ha, e⟩
    have : a = k := by omega
    subst this
    exact (List.mem_filter.1 ha).2
  · intro h
    exact ⟨k, List.mem_filter.2 ⟨List.mem_range.2 hk, h⟩, rfl⟩
theorem totL_ls (x : Int → Int) : ∀ n : Nat, totL (lsF n x) = sN (fun k => x (k : Int)) n
  | 0 => rfl
  | n + 1 => by
    have : lsF (n + 1) x = lsF n x ++ [x (n : Int)] := by simp [lsF, List.range_succ]
    rw [this, totL_app, totL_ls x n]
    simp [totL, sN]
end Go.Proofs.Ythfidomphkednaa.walk

namespace Go.Proofs.Ythfidomphkednaa.walk
open Go Go.Sh
set_option maxRecDepth 100000
set_option linter.unusedSimpArgs false
set_option linter.unusedVariables false
/-! a party with more cash -/
theorem src_rows {α : Type} {f : α → List Value} {m : Nat} (hf : ∀ a, (f a).length = m) (hm : 0 < m) {w : AW} {v : Value} {l : List α} (h : RowsV f w v l) (hl : l ≠ []) : srcCells w m v = some (l.flatMap f) ∧ lenA v = some l.length := by
  rcases h with ⟨h, _⟩ | ⟨b, off, sq, c, rfl, ⟨pre, rest, e, ro, h1, h2⟩, h3⟩
  · exact absurd h hl
  · refine ⟨?_, rfl⟩
    have hlen : (l.flatMap f).length = l.length * m := flat_length hf l
    have hpos : 0 < l.length := List.length_pos_iff.2 hl
    have hp : 0 < l.length * m := Nat.mul_pos hpos hm
    show (bif Nat.beq (l.length * m) 0 then some [] else rd w b off (l.length * m)) = _
    have e1 : Nat.beq (l.length * m) 0 = false := by rw [← Bool.not_eq_true]; intro h; have := Nat.eq_of_beq_eq_true h; omega
    rw [e1, cond_false, rd_eq, h1, rdO_cells, if_pos (by rw [List.length_append, List.length_append, hlen]; omega)]
    rw [← h2, List.drop_left, ← hlen, List.take_left]
theorem list22 : isList Try.prog 22 = true := by kernel_rfl
theorem elem22 : elemA Try.prog 22 = some 49 := by kernel_rfl
theorem sz49 : szOf Try.prog 49 = some 2 := by kernel_rfl
theorem small49 : smallT Try.prog 49 = true := by kernel_rfl
/-- a copy of the parties -/
theorem copy_pt {w : AW} {pv : Value} {ps : List Pt} (hv : RowsV ptC w pv ps) (hn : 1 ≤ ps.length) (hn2 : ps.length ≤ 1000) (hl : w.lim ≤ w.next) :
    append1 Try.prog ⟨w.heap.put w.next (some (.cells [] 49 false)), w.next + 1, w.lim⟩ [22, 22] [.slice (some ⟨w.next, 0, none⟩) 0 0, pv] = .val (.slice (some ⟨w.next + 1, 0, none⟩) ps.length ps.length) ⟨((w.heap.put w.next (some (.cells [] 49 false))).put w.next none).put (w.next + 1) (some (.cells (ps.flatMap ptC) 49 false)), w.next + 1 + 1, w.lim⟩ := by
  have hu : Up w ⟨w.heap.put w.next (some (.cells [] 49 false)), w.next + 1, w.lim⟩ := (Up.refl w).add _
  have hne : ps ≠ [] := fun e => by rw [e] at hn; simp at hn
  obtain ⟨h5, h4⟩ := src_rows ptC_length (by decide) (hv.up hu) hne
  have := append_full (P := Try.prog) list22 elem22 sz49 small49 (w := ⟨w.heap.put w.next (some (.cells [] 49 false)), w.next + 1, w.lim⟩) (B := w.next) (n := 0) (m := ps.length) (c := []) h4 h5 (by rw [flat_length ptC_length]) (flat_singles (fun _ => by simp [ptC]) _) (by omega) (by omega) (by simp) (by simp) hl
  simpa using this
theorem rows_pt {w : AW} {B : Nat} {ps : List Pt} (h : w.heap.get B = some (.cells (ps.flatMap ptC) 49 false)) (hb : B < w.next) (c : Nat) : RowsV ptC w (.slice (some ⟨B, 0, none⟩) ps.length c) ps :=
  .inr ⟨B, 0, none, c, rfl, ⟨[], [], 49, false, by rw [h, List.nil_append, List.append_nil], rfl⟩, hb⟩
theorem st_pt {w : AW} {B k : Nat} {ps : List Pt} {p : Pt} (hk : k < ps.length) (hl : w.lim ≤ B) : wrO w B (k * 2) [.string p.nm, .int .i64 p.ch] (some (.cells (ps.flatMap ptC) 49 false)) = some ⟨w.heap.put B (some (.cells ((ps.set k p).flatMap ptC) 49 false)), w.next, w.lim⟩ := by
  have hlen : (ps.flatMap ptC).length = ps.length * 2 := flat_length ptC_length ps
  rw [wrO_cells (by simp) hl (by simp [hlen]; omega), ← flat_set ptC_length ps k p hk]
  rfl
/-- the ledger in which a party has another cash -/
def morP (ps : List Pt) (k : Nat) (c : Int) : List Pt := match ps[k]? with | some p => ps.set k ⟨p.nm, c⟩ | none => ps
theorem morP_eq {ps : List Pt} {k : Nat} {p : Pt} (h : ps[k]? = some p) (c : Int) : morP ps k c = ps.set k ⟨p.nm, c⟩ := by unfold morP; rw [h]
@[simp] theorem morP_len (ps : List Pt) (k : Nat) (c : Int) : (morP ps k c).length = ps.length := by
  unfold morP; split <;> simp
theorem mor_ca {ps : List Pt} {k : Nat} (hk : k < ps.length) (c : Int) (p : Int) : caP (morP ps k c) p = if p = (k : Int) then c else caP ps p := by
  obtain ⟨a, ha⟩ : ∃ a, ps[k]? = some a := ⟨_, List.getElem?_eq_getElem hk⟩
  rw [morP_eq ha]
  unfold caP
  by_cases hp : 0 ≤ p
  · rw [if_pos hp, if_pos hp, List.getElem?_set]
    by_cases e : k = p.toNat
    · rw [if_pos e, if_pos (by omega), if_pos (by omega)]; rfl
    · rw [if_neg e, if_neg (by omega)]
  · rw [if_neg hp, if_neg hp, if_neg (by omega)]
end Go.Proofs.Ythfidomphkednaa.walk

namespace Go.Proofs.Ythfidomphkednaa.walk
open Go Go.Sh
set_option maxRecDepth 100000
set_option linter.unusedSimpArgs false
set_option linter.unusedVariables false
/-! Rescue: numbers -/
/-- nobody is short: all that is owed settles -/
def paB (ps : List Pt) (ds : List Dt) : Bool := arE (nxD ps ds (owD ds)) (owD ds)
theorem paB_iff {ps : List Pt} {ds : List Dt} (hk : LK ps ds) : paB ps ds = true ↔ ∀ p, owD ds p ≤ haD ps ds (owD ds) p := by
  unfold paB
  constructor
  · intro h p
    have := arC_uniq (hk.nx8 _) hk.z8 (arE_true h)
    have := congrFun this p
    unfold nxD at this
    omega
  · intro h
    exact arE_all fun k _ => by
      have := h (k : Int)
      unfold nxD; omega
theorem pa_st {ps : List Pt} {ds : List Dt} (hk : LK ps ds) : paB ps ds = true ↔ stF ps ds = owD ds := by
  rw [paB_iff hk]
  constructor
  · intro h
    funext p
    have := (st_gfp hk).2 _ (fun q => ⟨hk.ow_nonneg q, Int.le_refl _, h q⟩) p
    have := (st_rng hk p).2
    omega
  · intro h p
    have := ((st_gfp hk).1 p).2.2
    rw [h] at this
    exact this
theorem pa_sh {ps : List Pt} {ds : List Dt} (hk : LK ps ds) : paB ps ds = true ↔ shP ps ds ps.length = [] := by
  rw [pa_st hk]
  constructor
  · intro h
    unfold shP
    rw [List.map_eq_nil_iff, List.filter_eq_nil_iff]
    intro a _
    unfold shB
    rw [h]
    simp
  · intro h
    funext p
    by_cases hp : p < 0 ∨ (ps.length : Int) ≤ p
    · rw [st_out hk hp, hk.ow_out hp]
    · have hlt : p.toNat < ps.length := by omega
      have : (p.toNat : Int) ∉ shP ps ds ps.length := by rw [h]; simp
      rw [shP_mem ps ds hlt] at this
      unfold shB at this
      rw [decide_eq_true_eq, show ((p.toNat : Nat) : Int) = p by omega] at this
      have := (st_rng hk p).2
      omega
/-- the ledger in which a party has so much more -/
def adP (ps : List Pt) (k : Nat) (c : Int) : List Pt := morP ps k (caP ps (k : Int) + c)
@[simp] theorem adP_len (ps : List Pt) (k : Nat) (c : Int) : (adP ps k c).length = ps.length := morP_len _ _ _
def prB' (ps : List Pt) (ds : List Dt) (k : Nat) (c : Int) : Bool := paB (adP ps k c) ds
theorem ad_ok {ps : List Pt} {ds : List Dt} (hO : LOk 100000 ps ds) {k : Nat} (hk : k < ps.length) {c : Int} (h0 : 0 ≤ c) (hc : c ≤ 1800000) : LK (adP ps k c) ds := by
  obtain ⟨a, ha⟩ : ∃ a, ps[k]? = some a := ⟨_, List.getElem?_eq_getElem hk⟩
  have hca := ca_at ha
  have hcash := hO.cash a (List.mem_of_getElem? ha)
  refine ⟨by rw [adP_len]; exact hO.n1, by rw [adP_len]; exact hO.n8, fun p hp => ?_, hO.d16, fun d hd => by rw [adP_len]; exact hO.debt d hd⟩
  unfold adP at hp
  rw [morP_eq ha] at hp
  rcases List.mem_or_eq_of_mem_set hp with h | h
  · have := hO.cash p h; omega
  · rw [h]; show 0 ≤ caP ps (k : Int) + c ∧ caP ps (k : Int) + c ≤ 2000000; rw [hca]; omega
theorem pr_iff {ps : List Pt} {ds : List Dt} (hO : LOk 100000 ps ds) {k : Nat} (hk : k < ps.length) {c : Int} (h0 : 0 ≤ c) (hc : c ≤ 1800000) : prB' ps ds k c = true ↔ ∀ p, owD ds p ≤ caP ps p + (if p = (k : Int) then c else 0) + inD ds (owD ds) p := by
  unfold prB'
  rw [paB_iff (ad_ok hO hk h0 hc)]
  have e : ∀ p, haD (adP ps k c) ds (owD ds) p = caP ps p + (if p = (k : Int) then c else 0) + inD ds (owD ds) p := fun p => by
    unfold haD adP
    rw [mor_ca hk]
    by_cases h : p = (k : Int)
    · subst h; rw [if_pos rfl, if_pos rfl]
    · rw [if_neg h, if_neg h]; omega
  constructor
  · intro h p; rw [← e]; exact h p
  · intro h p; rw [e]; exact h p
theorem pr_mono {ps : List Pt} {ds : List Dt} (hO : LOk 100000 ps ds) {k : Nat} (hk : k < ps.length) {a b : Int} (h0 : 0 ≤ a) (hab : a ≤ b) (hb : b ≤ 1800000) (h : prB' ps ds k a = true) : prB' ps ds k b = true := by
  rw [pr_iff hO hk h0 (by omega)] at h
  rw [pr_iff hO hk (by omega) hb]
  intro p
  have := h p
  split <;> rename_i e
  · rw [if_pos e] at this; omega
  · rw [if_neg e] at this; omega
/-- all debts together -/
def alD (ds : List Dt) : Int := totL (lsF 8 (owD ds))
theorem al_sum {ps : List Pt} {ds : List Dt} (hk : LK ps ds) : alD ds = sI (fun d => d.c) ds := by
  unfold alD
  rw [totL_ls]
  exact sN_sI (fun d => d.f) (fun d => d.c) 8 ds fun d hd => by
    have := (hk.debt d hd).1
    have := hk.n8
    omega
theorem al_bd {ps : List Pt} {ds : List Dt} (hk : LK ps ds) : 0 ≤ alD ds ∧ alD ds ≤ 1600000 := by
  rw [al_sum hk]
  exact sI_bd (fun d hd => by have := (hk.debt d hd).2.2.2; omega) hk.d16
/-- the least number that suffices -/
def LeastB (pr : Int → Bool) (most x : Int) : Prop := 0 ≤ x ∧ x ≤ most ∧ pr x = true ∧ ∀ z, 0 ≤ z → z < x → pr z = false
theorem least_uniq {pr : Int → Bool} {most x y : Int} (h : LeastB pr most x) (k : LeastB pr most y) : x = y := by
  obtain ⟨h1, h2, h3, h4⟩ := h
  obtain ⟨k1, k2, k3, k4⟩ := k
  by_cases e : x < y
  · rw [k4 x h1 e] at h3; cases h3
  · by_cases e' : y < x
    · rw [h4 y k1 e'] at k3; cases k3
    · omega
/-- Rescue's answer -/
def resE (ps : List Pt) (ds : List Dt) (i : Int) : Int := if chE ps ds = 0 then (if inI 0 i ((ps.length : Int) - 1) = true then (if prB' ps ds i.toNat (alD ds) = true then 0 else 4) else 91) else chE ps ds
def ResX (ps : List Pt) (ds : List Dt) (i x : Int) : Prop := (resE ps ds i = 0 ∧ LeastB (prB' ps ds i.toNat) (alD ds) x) ∨ (resE ps ds i ≠ 0 ∧ x = 0)
theorem resX_uniq {ps : List Pt} {ds : List Dt} {i x y : Int} (h : ResX ps ds i x) (k : ResX ps ds i y) : x = y := by
  rcases h with ⟨h1, h2⟩ | ⟨h1, h2⟩
  · rcases k with ⟨_, k2⟩ | ⟨k1, _⟩
    · exact least_uniq h2 k2
    · exact absurd h1 k1
  · rcases k with ⟨k1, _⟩ | ⟨_, k2⟩
    · exact absurd k1 h1
    · rw [h2, k2]
theorem st_chc {w : AW} {B k : Nat} {ps : List Pt} {p : Pt} {c : Int} (hp : ps[k]? = some p) (hl : w.lim ≤ B) : wrO w B (k * 2 + 1) [.int .i64 c] (some (.cells (ps.flatMap ptC) 49 false)) = some ⟨w.heap.put B (some (.cells ((ps.set k ⟨p.nm, c⟩).flatMap ptC) 49 false)), w.next, w.lim⟩ := by
  have hk : k < ps.length := (List.getElem?_eq_some_iff.1 hp).1
  have hlen : (ps.flatMap ptC).length = ps.length * 2 := flat_length ptC_length ps
  rw [wrO_cells (by simp) hl (by simp [hlen]; omega), ← flat_set ptC_length ps k ⟨p.nm, c⟩ hk]
  have e1 : (ps.flatMap ptC).take (k * 2 + 1) = (ps.flatMap ptC).take (k * 2) ++ [.string p.nm] := by
    have hc : (ps.flatMap ptC)[k * 2]? = some (.string p.nm) := by
      have := RowsA.rd1 (m := 2) (f := ptC) (H := (T.leaf : T AObj).put 0 (some (.cells (ps.flatMap ptC) 49 false))) (n := 1) (b := 0) (off := 0) ptC_length ⟨⟨[], [], 49, false, by rw [get_put, if_pos rfl]; simp, rfl⟩, by decide⟩ hp (j := 0) (x := .string p.nm) rfl
      rw [get_put, if_pos rfl, rd1O_cells] at this
      simpa using this
    rw [List.take_add_one, hc]; rfl
  rw [e1]
  simp [ptC]
end Go.Proofs.Ythfidomphkednaa.walk

namespace Go.Proofs.Ythfidomphkednaa.walk
open Go Go.Sh
set_option maxRecDepth 100000
set_option linter.unusedSimpArgs false
set_option linter.unusedVariables false
/-! Rescue -/
def S71 : PSpec where
  R args w v := ∃ (pv dv : Value) (ps : List Pt) (ds : List Dt), args = [.agg ⟨l63 pv dv (owD ds)⟩] ∧ LedV w pv dv ps ds ∧ LK ps ds ∧ v = .bool (paB ps ds)
  uniq := by
    rintro _ _ _ _ ⟨pv, dv, ps, ds, rfl, hL, hk, rfl⟩ ⟨pv', dv', ps', ds', e, hL', hk', rfl⟩
    simp only [List.cons.injEq, Value.agg.injEq, Array.mk.injEq, and_true] at e
    obtain ⟨rfl, rfl, _⟩ := l63_inj e
    rw [hL.uniqP hL', hL.uniqD hL']
  shut := by
    rintro _ _ _ ⟨pv, dv, ps, ds, h1, h2, h3⟩
    exact ⟨pv, dv, ps, ds, h1, h2.shut, h3⟩
theorem run71 {ov : Ov} (ho : ∀ args w, ov 71 args w = none) (h67 : HasP ov 67 S67.F) (pv dv : Value) (ps : List Pt) (ds : List Dt) (w : AW) (hl : w.lim = w.next) (hL : LedV w pv dv ps ds) (hk : LK ps ds) :
    ∃ v w', (run Try.prog ov 2).call 71 [.agg ⟨l63 pv dv (owD ds)⟩] w .none = .ok (.ret v) w' .none ∧ v = .bool (paB ps ds) := by
  refine call_wp text71 (by simp) (ho _ _) ?_
  have u1 : Up w ⟨w.heap.put w.next (some (.cells (l63 pv dv (owD ds)) 63 false)), w.next + 1, w.lim⟩ := (Up.refl w).add _
  have r67 := S67.call1 (P := Try.prog) h67 ⟨pv, dv, ps, ds, owD ds, rfl, hL.up u1, hk, fun p => ⟨hk.ow_nonneg p, Int.le_refl _⟩, rfl⟩
  have s1 := sm61 (owD ds)
  simp only [l63] at r67
  simp [mc71, cellsOf_agg, l63, r67, s1, eq_ar, paB, tupV]
@[simp] theorem eqn22s (B n c : Nat) (w : AW) : (binW Try.prog .eql 22 true).val (.slice (some ⟨B, 0, none⟩) n c) (.slice none 0 0) w = .val (.bool false) w := by kernel_rfl
theorem eqn22 (a : Addr) (n c : Nat) (w : AW) : (binW Try.prog .eql 22 true).val (.slice (some a) n c) (.slice none 0 0) w = .val (.bool false) w := by kernel_rfl
theorem call77 {ov : Ov} (m : Nat) (ho : ∀ args w, ov 77 args w = none) (pv : Value) (ps : List Pt) (w : AW) (hv : RowsV ptC w pv ps) (hn : 1 ≤ ps.length) (hn2 : ps.length ≤ 1000) (hl : w.lim ≤ w.next) :
    ∃ v w', (run Try.prog ov (m + 1)).call 77 [pv] w .none = .ok (.ret v) w' .none ∧ ∃ B, v = .slice (some ⟨B, 0, none⟩) ps.length ps.length ∧ w'.heap.get B = some (.cells (ps.flatMap ptC) 49 false) ∧ w.next ≤ B ∧ B < w'.next ∧ Up w w' := by
  refine call_wp text77 (by simp) (ho _ _) ?_
  have hcp := copy_pt hv hn hn2 hl
  obtain ⟨b, off, sq, c, rfl, hra⟩ := hv.at_ 0 (by omega)
  have nj : ∀ (a : Addr) n c, notJunk (.slice (some a) n c) = some (.slice (some a) n c) := fun _ _ _ => rfl
  simp [mc77, eqn22, hcp, nj, tupV]
  exact (((Up.refl w).put (Nat.le_refl _) (Nat.le_refl _)).put (Nat.le_refl _) (Nat.le_refl _)).put (Nat.le_succ _) (by omega)
set_option maxHeartbeats 1000000 in
theorem call70 {ov : Ov} (m : Nat) (ho : ∀ args w, ov 70 args w = none) (ho77 : ∀ args w, ov 77 args w = none) (pv dv : Value) (o : Int → Int) (ps : List Pt) (ds : List Dt) (k : Nat) (hk : k < ps.length) (h8 : ps.length ≤ 8) (c : Int) (hcc : 0 ≤ c ∧ c ≤ 2000000) (hca : 0 ≤ caP ps (k : Int) ∧ caP ps (k : Int) ≤ 2000000) (w : AW) (hl : w.lim ≤ w.next) (hL : LedV w pv dv ps ds) :
    ∃ v w', (run Try.prog ov (m + 2)).call 70 [.agg ⟨l63 pv dv o⟩, .int .i64 (k : Nat), .int .i64 c] w .none = .ok (.ret v) w' .none ∧ ∃ pv', v = .agg ⟨l63 pv' dv o⟩ ∧ LedV w' pv' dv (adP ps k c) ds ∧ Up w w' := by
  refine call_wp text70 (by simp) (ho _ _) ?_
  obtain ⟨w1, hw1⟩ : ∃ w1, w1 = (⟨(w.heap.put w.next (some (.cells (pv :: dv :: arC o) 63 false))).put (w.next + 1) (some (.cells (l63 (.slice none 0 0) (.slice none 0 0) fun _ => 0) 63 false)), w.next + 1 + 1, w.lim⟩ : AW) := ⟨_, rfl⟩
  have u1 : Up w w1 := by rw [hw1]; exact ((Up.refl w).put (Nat.le_refl _) (Nat.le_refl _)).put (Nat.le_succ _) (by omega)
  have n1 : w1.next = w.next + 1 + 1 := by rw [hw1]
  have m1 : w1.lim = w.lim := by rw [hw1]
  have g1 : w1.heap.get w.next = some (.cells (pv :: dv :: arC o) 63 false) := by rw [hw1]; simp
  have g1' : w1.heap.get (w.next + 1) = some (.cells (l63 (.slice none 0 0) (.slice none 0 0) fun _ => 0) 63 false) := by rw [hw1]; simp
  obtain ⟨_, w2, c77, B, rfl, gB, hB1, hB2, u2⟩ := call77 (ov := ov) m ho77 pv ps w1 (hL.p.up u1) (by omega) (by omega) (by omega)
  have n2 := u2.next
  have m2 := u2.lim
  have g2 := u2.at (b := w.next) (by omega)
  rw [g1] at g2
  have g2' := u2.at (b := w.next + 1) (by omega)
  rw [g1'] at g2'
  obtain ⟨a, ha⟩ : ∃ a, ps[k]? = some a := ⟨_, List.getElem?_eq_getElem hk⟩
  have hce := ca_at ha
  have hia := fun w => ia22 w ⟨B, 0, none⟩ ps.length ps.length .i64 k hk
  have hrd : (ps.flatMap ptC)[k * 2 + 1]? = some (.int .i64 a.ch) := by
    have := RowsA.rd1 (m := 2) (f := ptC) (H := (T.leaf : T AObj).put 0 (some (.cells (ps.flatMap ptC) 49 false))) (n := 1) (b := 0) (off := 0) ptC_length ⟨⟨[], [], 49, false, by rw [get_put, if_pos rfl]; simp, rfl⟩, by decide⟩ ha (j := 1) (x := .int .i64 a.ch) rfl
    rw [get_put, if_pos rfl, rd1O_cells] at this
    simpa using this
  rw [hce] at hca
  have hwr : IntKind.wrap .i64 (a.ch + c) = a.ch + c := wrap64_in (by omega) (by omega)
  have sg : singles (pv :: dv :: arC o) = true ∧ singles (.slice (some ⟨B, 0, none⟩) ps.length ps.length :: dv :: arC o) = true := by
    obtain ⟨a, c, rfl⟩ := hL.p.len
    obtain ⟨a', c', rfl⟩ := hL.d.len
    simp [arC]
  obtain ⟨sg1, sg2⟩ := sg
  have s22 : ∀ w5 : AW, w5.lim ≤ w.next → wrO w5 w.next 0 [.slice (some ⟨B, 0, none⟩) ps.length ps.length] (some (.cells (pv :: dv :: arC o) 63 false)) = some ⟨w5.heap.put w.next (some (.cells (.slice (some ⟨B, 0, none⟩) ps.length ps.length :: dv :: arC o) 63 false)), w5.next, w5.lim⟩ := fun w5 h => by rw [wrO_cells (by simp) h (by simp)]; rfl
  have s3 : ∀ w5 : AW, w5.lim ≤ B → wrO w5 B (k * 2 + 1) [.int .i64 (a.ch + c)] (some (.cells (ps.flatMap ptC) 49 false)) = some ⟨w5.heap.put B (some (.cells ((ps.set k ⟨a.nm, a.ch + c⟩).flatMap ptC) 49 false)), w5.next, w5.lim⟩ := fun w5 h => st_chc ha h
  have s63 : ∀ w5 : AW, w5.lim ≤ w.next + 1 → wrO w5 (w.next + 1) 0 (.slice (some ⟨B, 0, none⟩) ps.length ps.length :: dv :: arC o) (some (.cells (l63 (.slice none 0 0) (.slice none 0 0) fun _ => 0) 63 false)) = some ⟨w5.heap.put (w.next + 1) (some (.cells (.slice (some ⟨B, 0, none⟩) ps.length ps.length :: dv :: arC o) 63 false)), w5.next, w5.lim⟩ := fun w5 h => by rw [wrO_cells sg2 h (by simp)]; rfl
  have z1 : ¬ w.next = B := by omega
  have z2 : ¬ B = w.next := by omega
  have z3 : ¬ w.next + 1 = B := by omega
  have z4 : ¬ B = w.next + 1 := by omega
  have la : w2.lim ≤ w.next := by omega
  have lb : w2.lim ≤ B := by omega
  have lc : w2.lim ≤ w.next + 1 := by omega
  rw [l63_zero] at hw1 g2' s63
  have ep : ps.set k ⟨a.nm, a.ch + c⟩ = adP ps k c := by unfold adP; rw [morP_eq ha, hce]
  rw [hw1] at c77
  simp [mc70, cellsOf_agg, l63, c77, g2, g2', gB, hia, hrd, hwr, s22, s3, s63, z1, z2, z3, z4, la, lb, lc, tupV, l63_take, -wrO_cells]
  rw [ep]
  have u3 : ∀ w5 : AW, (∀ x, x < w2.next → x ≠ w.next → x ≠ w.next + 1 → x ≠ B → w5.heap.get x = w2.heap.get x) → w2.next ≤ w5.next → w5.lim = w2.lim → Up w w5 := fun w5 h1 h2 h3 =>
    ⟨fun x hx => by rw [h1 x (by omega) (by omega) (by omega) (by omega)]; exact (u1.trans u2).at hx, by omega, by omega⟩
  refine ⟨?_, ?_⟩
  · have hu : Up w ⟨((w2.heap.put w.next (some (.cells (.slice (some ⟨B, 0, none⟩) ps.length ps.length :: dv :: arC o) 63 false))).put B (some (.cells ((adP ps k c).flatMap ptC) 49 false))).put (w.next + 1) (some (.cells (.slice (some ⟨B, 0, none⟩) ps.length ps.length :: dv :: arC o) 63 false)), w2.next, w2.lim⟩ := u3 _ (fun x h1 h2 h3 h4 => by simp [h2, h3, h4]) (Nat.le_refl _) rfl
    have hLu := hL.up hu
    have := rows_pt (ps := adP ps k c) (w := ⟨((w2.heap.put w.next (some (.cells (.slice (some ⟨B, 0, none⟩) ps.length ps.length :: dv :: arC o) 63 false))).put B (some (.cells ((adP ps k c).flatMap ptC) 49 false))).put (w.next + 1) (some (.cells (.slice (some ⟨B, 0, none⟩) ps.length ps.length :: dv :: arC o) 63 false)), w2.next, w2.lim⟩) (B := B) (by simp [z4]) hB2 ps.length
    rw [adP_len] at this
    exact ⟨this, hLu.d, ⟨_, _, _, rfl, Nat.le_refl _⟩, hLu.cd⟩
  · exact u3 _ (fun x h1 h2 h3 h4 => by simp [h2, h3, h4]) (Nat.le_refl _) rfl
end Go.Proofs.Ythfidomphkednaa.walk

namespace Go.Proofs.Ythfidomphkednaa.walk
open Go Go.Sh
set_option maxRecDepth 100000
set_option linter.unusedSimpArgs false
set_option linter.unusedVariables false
@[simp] theorem cf69 (w : AW) (l : List Value) : callFn Try.prog w 69 l = .enter 69 l w := callFn_enter text69 l
theorem call69 {ov : Ov} (m : Nat) (ho : ∀ args w, ov 69 args w = none) (ho70 : ∀ args w, ov 70 args w = none) (ho77 : ∀ args w, ov 77 args w = none) (h71 : HasP ov 71 S71.F) (pv dv : Value) (ps : List Pt) (ds : List Dt) (hO : LOk 100000 ps ds) (k : Nat) (hk : k < ps.length) (c : Int) (hc : 0 ≤ c ∧ c ≤ 1800000) (w : AW) (hl : w.lim ≤ w.next) (hL : LedV w pv dv ps ds) (n1 n2 : Nat) (g1 : w.heap.get n1 = some (.cells (pv :: dv :: arC (owD ds)) 63 false)) (g2 : w.heap.get n2 = some (.cells [.int .i64 (k : Nat)] 3 false)) :
    ∃ v w', (run Try.prog ov (m + 3)).call 69 [.int .i64 c, .pointer (some ⟨n1, 0, none⟩), .pointer (some ⟨n2, 0, none⟩)] w .none = .ok (.ret v) w' .none ∧ v = .bool (prB' ps ds k c) ∧ Up w w' := by
  refine call_wp text69 (by simp) (ho _ _) ?_
  have hK : LK ps ds := hO.up (by decide)
  have hca := hK.ca (k : Int)
  obtain ⟨_, w2, c70, pv', rfl, hL2, u2⟩ := call70 (ov := ov) m ho70 ho77 pv dv (owD ds) ps ds k hk hO.n8 c (by omega) (by omega) w hl hL
  have r71 := S71.call (P := Try.prog) h71 (m := m + 1) (w := w2) ⟨pv', dv, _, ds, rfl, hL2, ad_ok hO hk hc.1 hc.2, rfl⟩
  simp only [l63] at c70 r71
  simp [mc69, g1, g2, c70, r71, tupV, prB']
  exact u2
theorem call68 {ov : Ov} (m : Nat) (ho : ∀ args w, ov 68 args w = none) (ho69 : ∀ args w, ov 69 args w = none) (ho70 : ∀ args w, ov 70 args w = none) (ho77 : ∀ args w, ov 77 args w = none) (h71 : HasP ov 71 S71.F) (pv dv : Value) (ps : List Pt) (ds : List Dt) (hO : LOk 100000 ps ds) (k : Nat) (hk : k < ps.length) (w : AW) (hl : w.lim ≤ w.next) (hL : LedV w pv dv ps ds) (n1 n2 : Nat) (hn1 : n1 < w.next) (hn2 : n2 < w.next) (g1 : w.heap.get n1 = some (.cells (pv :: dv :: arC (owD ds)) 63 false)) (g2 : w.heap.get n2 = some (.cells [.int .i64 (k : Nat)] 3 false)) :
    ∃ v w', (run Try.prog ov (m + 4)).call 68 [.int .i64 (alD ds), .func (.func 69) ⟨[]⟩ ⟨[.pointer (some ⟨n1, 0, none⟩), .pointer (some ⟨n2, 0, none⟩)]⟩] w .none = .ok (.ret v) w' .none ∧ (∃ x, v = .tuple ⟨[.int .i64 x, .bool (prB' ps ds k (alD ds))]⟩ ∧ ((prB' ps ds k (alD ds) = true ∧ LeastB (prB' ps ds k) (alD ds) x) ∨ (prB' ps ds k (alD ds) = false ∧ x = 0))) ∧ Up w w' := by
  refine call_wpY text68 (by simp) (ho _ _) ?_
  have hK : LK ps ds := hO.up (by decide)
  have hb := al_bd hK
  obtain ⟨_, w2, c69, rfl, u2⟩ := call69 (ov := ov) m ho69 ho70 ho77 h71 pv dv ps ds hO k hk (alD ds) (by omega) w hl hL n1 n2 g1 g2
  obtain ⟨A, hA⟩ : ∃ A, A = alD ds := ⟨_, rfl⟩
  rw [← hA] at c69 hb ⊢
  have hcv : ∀ (w : AW) (c : Int), callV Try.prog w (.func (.func 69) ⟨[]⟩ ⟨[.pointer (some ⟨n1, 0, none⟩), .pointer (some ⟨n2, 0, none⟩)]⟩) [.int .i64 c] = .enter 69 [.int .i64 c, .pointer (some ⟨n1, 0, none⟩), .pointer (some ⟨n2, 0, none⟩)] w := fun w c => by rw [callV_func]; simp
  cases hp : prB' ps ds k A with
  | false =>
    rw [hp] at c69
    simp [mc68, hcv, c69, tupV]
    exact u2
  | true =>
    rw [hp] at c69
    simp [mc68, hcv, c69]
    refine wp_seqX (wp_blockX (wp_roundsY (fun i t w' => Up w w' ∧ tget t 1 = .func (.func 69) ⟨[]⟩ ⟨[.pointer (some ⟨n1, 0, none⟩), .pointer (some ⟨n2, 0, none⟩)]⟩ ∧ ∃ lo hi, tget t 6 = .int .i64 lo ∧ tget t 7 = .int .i64 hi ∧ 0 ≤ lo ∧ lo ≤ hi ∧ hi ≤ A ∧ prB' ps ds k hi = true ∧ (∀ z, 0 ≤ z → z < lo → prB' ps ds k z = false) ∧ hi - lo + i ≤ 2000000) 2000001 (by decide) ⟨u2, by simp, 0, A, by simp, by simp, by omega, by omega, by omega, hp, fun z h1 h2 => by omega, by omega⟩ ?_))
    rintro i t w' ⟨hup, t1, lo, hi, t6, t7, h0, hlh, hA', hph, hno, hms⟩
    have hlm := hup.lim
    have hnx := hup.next
    by_cases hlt : lo < hi
    · have g1' := hup.at hn1
      rw [g1] at g1'
      have g2' := hup.at hn2
      rw [g2] at g2'
      obtain ⟨mid, hmid⟩ : ∃ mid, mid = (lo + hi).tdiv 2 := ⟨_, rfl⟩
      have hmid' : mid = (lo + hi) / 2 := by rw [hmid]; exact Int.tdiv_eq_ediv_of_nonneg (by omega)
      have hw1 : IntKind.wrap .i64 (lo + hi) = lo + hi := wrap64_in (by omega) (by omega)
      have hq := fun (cc : Bool) w => bin_quo (P := Try.prog) (w := w) 3 cc .i64 (lo + hi) 2 (by decide)
      simp only [← hmid] at hq
      have hw2 : IntKind.wrap .i64 mid = mid := wrap64_in (by omega) (by omega)
      have hw3 : IntKind.wrap .i64 (mid + 1) = mid + 1 := wrap64_in (by omega) (by omega)
      obtain ⟨_, w3, c69m, rfl, u3⟩ := call69 (ov := ov) m ho69 ho70 ho77 h71 pv dv ps ds hO k hk mid (by omega) w' (by omega) (hL.up hup) n1 n2 g1' g2'
      cases hpm : prB' ps ds k mid with
      | true =>
        rw [hpm] at c69m
        simp [mc68_l0, t1, t6, t7, hlt, hw1, hq, hw2, hcv, c69m]
        exact ⟨by omega, hup.trans u3, by omega, by omega, by omega, hpm, hno, by omega⟩
      | false =>
        rw [hpm] at c69m
        simp [mc68_l0, t1, t6, t7, hlt, hw1, hq, hw2, hw3, hcv, c69m]
        refine ⟨by omega, hup.trans u3, by omega, by omega, by omega, hph, fun z h1 h2 => ?_, by omega⟩
        cases hz : prB' ps ds k z with
        | false => rfl
        | true =>
          have := pr_mono hO hk (a := z) (b := mid) h1 (by omega) (by omega) hz
          rw [hpm] at this; cases this
    · have he : lo = hi := by omega
      subst he
      simp [mc68_l0, t6, t7, tupV]
      exact ⟨⟨h0, hA', hph, hno⟩, hup⟩
theorem sl61b (w : AW) (B : Nat) : sliceA Try.prog w 61 (.pointer (some ⟨B, 2, none⟩)) none none none = .val (.slice (some ⟨B, 2, some 1⟩) 8 8) w := by
  simp [sliceA, sliceB1, arr61, size3, sliceArr, boundA]
theorem call55 {ov : Ov} (m : Nat) (ho : ∀ args w, ov 55 args w = none) (ho68 : ∀ args w, ov 68 args w = none) (ho69 : ∀ args w, ov 69 args w = none) (ho70 : ∀ args w, ov 70 args w = none) (ho77 : ∀ args w, ov 77 args w = none) (h62 : HasP ov 62 S62.F) (h71 : HasP ov 71 S71.F) (pv dv : Value) (ps : List Pt) (ds : List Dt) (hO : LOk 100000 ps ds) (k : Nat) (hk : k < ps.length) (w : AW) (hl : w.lim ≤ w.next) (hL : LedV w pv dv ps ds) :
    ∃ v w', (run Try.prog ov (m + 5)).call 55 [.agg ⟨l63 pv dv (owD ds)⟩, .int .i64 (k : Nat)] w .none = .ok (.ret v) w' .none ∧ (∃ x, v = .tuple ⟨[.int .i64 x, .bool (prB' ps ds k (alD ds))]⟩ ∧ ((prB' ps ds k (alD ds) = true ∧ LeastB (prB' ps ds k) (alD ds) x) ∨ (prB' ps ds k (alD ds) = false ∧ x = 0))) ∧ Up w w' := by
  refine call_wp text55 (by simp) (ho _ _) ?_
  have hK : LK ps ds := hO.up (by decide)
  obtain ⟨w1, hw1⟩ : ∃ w1, w1 = (⟨(w.heap.put w.next (some (.cells (pv :: dv :: arC (owD ds)) 63 false))).put (w.next + 1) (some (.cells [.int .i64 (k : Nat)] 3 false)), w.next + 1 + 1, w.lim⟩ : AW) := ⟨_, rfl⟩
  have u1 : Up w w1 := by rw [hw1]; exact ((Up.refl w).put (Nat.le_refl _) (Nat.le_refl _)).put (Nat.le_succ _) (by omega)
  have n1 : w1.next = w.next + 1 + 1 := by rw [hw1]
  have m1 : w1.lim = w.lim := by rw [hw1]
  have g1 : w1.heap.get w.next = some (.cells (pv :: dv :: arC (owD ds)) 63 false) := by rw [hw1]; simp
  have g2 : w1.heap.get (w.next + 1) = some (.cells [.int .i64 (k : Nat)] 3 false) := by rw [hw1]; simp
  have hrow : RowsV intC w1 (.slice (some ⟨w.next, 2, some 1⟩) 8 8) (lsF 8 (owD ds)) := .inr ⟨w.next, 2, some 1, 8, by rw [lsF_len], ⟨[pv, dv], [], 63, false, by rw [g1, ← arC_flat]; simp, rfl⟩, by omega⟩
  have r62 := S62.call (P := Try.prog) h62 (m := m + 3) (w := w1) ⟨_, _, rfl, hrow, by rw [lsF_len]; decide, rfl⟩
  have et : totW (lsF 8 (owD ds)) = alD ds := by
    rw [totW_eq (fun z hz => ?_) (by rw [lsF_len]; decide)]
    · rfl
    · unfold lsF at hz
      obtain ⟨q, _, rfl⟩ := List.mem_map.1 hz
      have h1 := hK.ow_nonneg (q : Int)
      have h2 := hK.ow_le (q : Int)
      omega
  rw [et] at r62
  obtain ⟨_, w2, c68, ⟨x, rfl, hx⟩, u2⟩ := call68 (ov := ov) m ho68 ho69 ho70 ho77 h71 pv dv ps ds hO k hk w1 (by omega) (hL.up u1) w.next (w.next + 1) (by omega) (by omega) g1 g2
  have nj : ∀ z : Int, notJunk (.int .i64 z) = some (.int .i64 z) := fun _ => rfl
  rw [hw1] at r62 c68
  simp [mc55, cellsOf_agg, l63, sl61b, r62, c68, tupV]
  exact ⟨hx, u1.trans u2⟩
theorem call26 {ov : Ov} (m : Nat) (ho : ∀ args w, ov 26 args w = none) (ho40 : ∀ args w, ov 40 args w = none) (ho61 : ∀ args w, ov 61 args w = none) (ho74 : ∀ args w, ov 74 args w = none) (ho55 : ∀ args w, ov 55 args w = none) (ho68 : ∀ args w, ov 68 args w = none) (ho69 : ∀ args w, ov 69 args w = none) (ho70 : ∀ args w, ov 70 args w = none) (ho77 : ∀ args w, ov 77 args w = none) (h17 : HasP ov 17 S17.F) (h54 : HasP ov 54 S54.F) (h62 : HasP ov 62 S62.F) (h71 : HasP ov 71 S71.F) (pv dv : Value) (ps : List Pt) (ds : List Dt) (i : Int) (w : AW) (hl : w.lim ≤ w.next) (hL : LedV w pv dv ps ds) :
    ∃ v w', (run Try.prog ov (m + 6)).call 26 [.agg ⟨[pv, dv]⟩, .int .i64 i] w .none = .ok (.ret v) w' .none ∧ (∃ x, v = .tuple ⟨[.int .i64 x, .int .i64 (resE ps ds i)]⟩ ∧ ResX ps ds i x) ∧ Up w w' := by
  refine call_wp text26 (by simp) (ho _ _) ?_
  obtain ⟨w1, hw1⟩ : ∃ w1, w1 = (⟨w.heap.put w.next (some (.cells [pv, dv] 25 false)), w.next + 1, w.lim⟩ : AW) := ⟨_, rfl⟩
  have u1 : Up w w1 := hw1 ▸ (Up.refl w).add _
  have n1 : w1.next = w.next + 1 := by rw [hw1]
  have m1 : w1.lim = w.lim := by rw [hw1]
  have r17 := S17.call (P := Try.prog) h17 (m := m + 4) ⟨pv, dv, ps, ds, rfl, hL.up u1, rfl⟩
  by_cases hC : chE ps ds = 0
  case neg =>
    have e : resE ps ds i = chE ps ds := by unfold resE; rw [if_neg hC]
    have hX : ResX ps ds i 0 := .inr ⟨by rw [e]; exact hC, rfl⟩
    rw [hw1] at r17 u1
    simp [mc26, cellsOf_agg, r17, hC, tupV, e]
    exact ⟨hX, u1⟩
  case pos =>
    have hO := ch_lk hC
    have hK : LK ps ds := hO.up (by decide)
    rw [hC] at r17
    have r54 := S54.call (P := Try.prog) h54 (m := m + 4) ⟨pv, dv, ps, i, rfl, hL.p.up u1, by have := hO.n8; omega, rfl⟩
    cases hI : inI 0 i ((ps.length : Int) - 1) with
    | false =>
      have e : resE ps ds i = 91 := by unfold resE; rw [if_pos hC, hI]; rfl
      have hX : ResX ps ds i 0 := .inr ⟨by rw [e]; decide, rfl⟩
      rw [hI] at r54
      rw [hw1] at r17 u1 r54
      simp [mc26, cellsOf_agg, r17, r54, hC, tupV, e]
      exact ⟨hX, u1⟩
    | true =>
      have hi := hI
      simp only [inI, Bool.and_eq_true, decide_eq_true_eq] at hi
      obtain ⟨k, rfl⟩ : ∃ k : Nat, i = (k : Int) := ⟨i.toNat, by omega⟩
      have hk : k < ps.length := by omega
      rw [hI] at r54
      obtain ⟨_, w2, c40, rfl, u2⟩ := call40 (ov := ov) (m + 2) ho40 ho61 ho74 h62 pv dv ps ds w1 (by omega) (hL.up u1) hK
      have n2 := u2.next
      have m2 := u2.lim
      obtain ⟨_, w3, c55, ⟨x, rfl, hx⟩, u3⟩ := call55 (ov := ov) m ho55 ho68 ho69 ho70 ho77 h62 h71 pv dv ps ds hO k hk w2 (by omega) (hL.up (u1.trans u2))
      have y3 := (u1.trans u2).trans u3
      have e : resE ps ds (k : Int) = if prB' ps ds k (alD ds) = true then 0 else 4 := by unfold resE; rw [if_pos hC, if_pos hI, Int.toNat_natCast]
      rw [hw1] at r17 r54 c40
      rcases hx with ⟨h1, h2⟩ | ⟨h1, rfl⟩
      · rw [h1] at e c55
        have hX : ResX ps ds (k : Int) x := .inl ⟨by rw [e]; rfl, by rw [Int.toNat_natCast]; exact h2⟩
        simp only [if_true] at e
        simp [mc26, cellsOf_agg, r17, r54, c40, c55, hC, tupV, e]
        exact ⟨hX, y3⟩
      · rw [h1] at e c55
        have hX : ResX ps ds (k : Int) 0 := .inr ⟨by rw [e]; decide, rfl⟩
        simp only [Bool.false_eq_true, if_false] at e
        simp [mc26, cellsOf_agg, r17, r54, c40, c55, hC, tupV, e]
        exact ⟨hX, y3⟩
end Go.Proofs.Ythfidomphkednaa.walk

namespace Go.Proofs.Ythfidomphkednaa.walk
open Go Go.Sh
set_option maxRecDepth 100000
set_option linter.unusedSimpArgs false
set_option linter.unusedVariables false
/-! CreditRescues -/
set_option maxHeartbeats 2000000 in
theorem call56 {ov : Ov} (m : Nat) (ho : ∀ args w, ov 56 args w = none) (pv dv : Value) (ps : List Pt) (ds : List Dt) (hO : LOk 100000 ps ds) (k : Nat) (hk : k < ps.length) (c : Int) (hc : 0 ≤ c ∧ c ≤ 1800000) (w : AW) (hl : w.lim ≤ w.next) (hL : LedV w pv dv ps ds) :
    ∃ v w', (run Try.prog ov (m + 1)).call 56 [.agg ⟨[pv, dv]⟩, .int .i64 (k : Nat), .int .i64 c] w .none = .ok (.ret v) w' .none ∧ ∃ pv', v = .agg ⟨[pv', dv]⟩ ∧ LedV w' pv' dv (adP ps k c) ds ∧ Up w w' := by
  refine call_wp text56 (by simp) (ho _ _) ?_
  have hn := hO.n1
  have h8 := hO.n8
  obtain ⟨w1, hw1⟩ : ∃ w1, w1 = (⟨(w.heap.put w.next (some (.cells [pv, dv] 25 false))).put (w.next + 1) (some (.cells [.slice none 0 0, .slice none 0 0] 25 false)), w.next + 1 + 1, w.lim⟩ : AW) := ⟨_, rfl⟩
  have u1 : Up w w1 := by rw [hw1]; exact ((Up.refl w).put (Nat.le_refl _) (Nat.le_refl _)).put (Nat.le_succ _) (by omega)
  have n1 : w1.next = w.next + 1 + 1 := by rw [hw1]
  have m1 : w1.lim = w.lim := by rw [hw1]
  have hcp := copy_pt (hL.p.up u1) hn (by omega) (w := w1) (by omega)
  obtain ⟨B, hB⟩ : ∃ B, B = w.next := ⟨_, rfl⟩
  rw [hw1, ← hB] at hcp
  rw [← hB] at hw1
  obtain ⟨a, ha⟩ : ∃ a, ps[k]? = some a := ⟨_, List.getElem?_eq_getElem hk⟩
  have hia := fun w => ia22 w ⟨B + 1 + 1 + 1, 0, none⟩ ps.length ps.length .i64 k hk
  have hrd : rdO (some (.cells (ps.flatMap ptC) 49 false)) (k * 2) 2 = some (ptC a) := by
    have := RowsA.rd (m := 2) (f := ptC) (H := (T.leaf : T AObj).put 0 (some (.cells (ps.flatMap ptC) 49 false))) (n := 1) (b := 0) (off := 0) ptC_length ⟨⟨[], [], 49, false, by rw [get_put, if_pos rfl]; simp, rfl⟩, by decide⟩ ha
    rw [get_put, if_pos rfl] at this
    simpa using this
  have hcash := hO.cash a (List.mem_of_getElem? ha)
  have hwr : IntKind.wrap .i64 (a.ch + c) = a.ch + c := wrap64_in (by omega) (by omega)
  have sg : singles [pv, dv] = true ∧ singles [dv] = true := by
    obtain ⟨a, c, rfl⟩ := hL.p.len
    obtain ⟨a', c', rfl⟩ := hL.d.len
    simp
  obtain ⟨sg1, sg2⟩ := sg
  have l2 : w.lim ≤ B := by omega
  have l3 : w.lim ≤ B + 1 := by omega
  have l4 : w.lim ≤ B + 1 + 1 + 1 := by omega
  have l5 : w.lim ≤ B + 1 + 1 + 1 + 1 := by omega
  have sP : ∀ w5 : AW, w5.lim ≤ B + 1 + 1 + 1 → wrO w5 (B + 1 + 1 + 1) (k * 2) [.string a.nm, .int .i64 (a.ch + c)] (some (.cells (ps.flatMap ptC) 49 false)) = some ⟨w5.heap.put (B + 1 + 1 + 1) (some (.cells ((ps.set k ⟨a.nm, a.ch + c⟩).flatMap ptC) 49 false)), w5.next, w5.lim⟩ := fun w5 h => st_pt (p := ⟨a.nm, a.ch + c⟩) hk h
  have hce := ca_at ha
  have ep : ps.set k ⟨a.nm, a.ch + c⟩ = adP ps k c := by unfold adP; rw [morP_eq ha, hce]
  rw [ep] at sP
  obtain ⟨anm, ach⟩ := a
  simp only [ptC] at hrd
  simp only at hwr sP hcash hce
  have s25 : ∀ w5 : AW, w5.lim ≤ B + 1 → wrO w5 (B + 1) 0 [.slice (some ⟨B + 1 + 1 + 1, 0, none⟩) ps.length ps.length, dv] (some (.cells [.slice none 0 0, .slice none 0 0] 25 false)) = some ⟨w5.heap.put (B + 1) (some (.cells [.slice (some ⟨B + 1 + 1 + 1, 0, none⟩) ps.length ps.length, dv] 25 false)), w5.next, w5.lim⟩ := fun w5 h => by rw [wrO_cells (by simp [sg2]) h (by simp)]; rfl
  have s22 : ∀ w5 : AW, w5.lim ≤ B → wrO w5 B 0 [.slice (some ⟨B + 1 + 1 + 1, 0, none⟩) ps.length ps.length] (some (.cells [pv, dv] 25 false)) = some ⟨w5.heap.put B (some (.cells [.slice (some ⟨B + 1 + 1 + 1, 0, none⟩) ps.length ps.length, dv] 25 false)), w5.next, w5.lim⟩ := fun w5 h => by rw [wrO_cells (by simp) h (by simp)]; rfl
  have s49a : ∀ w5 : AW, w5.lim ≤ B + 1 + 1 + 1 + 1 → wrO w5 (B + 1 + 1 + 1 + 1) 0 [.string anm, .int .i64 ach] (some (.cells [.string ⟨⟨[]⟩⟩, .int .i64 0] 49 false)) = some ⟨w5.heap.put (B + 1 + 1 + 1 + 1) (some (.cells [.string anm, .int .i64 ach] 49 false)), w5.next, w5.lim⟩ := fun w5 h => by rw [wrO_cells (by simp) h (by simp)]; rfl
  have s49b : ∀ w5 : AW, w5.lim ≤ B + 1 + 1 + 1 + 1 → wrO w5 (B + 1 + 1 + 1 + 1) 1 [.int .i64 (ach + c)] (some (.cells [.string anm, .int .i64 ach] 49 false)) = some ⟨w5.heap.put (B + 1 + 1 + 1 + 1) (some (.cells [.string anm, .int .i64 (ach + c)] 49 false)), w5.next, w5.lim⟩ := fun w5 h => by rw [wrO_cells (by simp) h (by simp)]; rfl
  simp [mc56, cellsOf_agg, ← hB, hcp, s25, s22, s49a, s49b, l2, l3, l4, l5, sg1, sg2, hia, hrd, hwr, sP, -wrO_cells]
  refine ⟨_, rfl, ?_, ?_⟩
  · have hu : ∀ wz : AW, wz.heap.get (B + 1 + 1 + 1) = some (.cells ((adP ps k c).flatMap ptC) 49 false) → B + 1 + 1 + 1 < wz.next → Up w wz → LedV wz (.slice (some ⟨B + 1 + 1 + 1, 0, none⟩) ps.length ps.length) dv (adP ps k c) ds := fun wz h1 h2 h3 => by
      have hLu := hL.up h3
      have := rows_pt h1 h2 ps.length
      rw [adP_len] at this
      exact ⟨this, hLu.d, ⟨_, _, _, rfl, Nat.le_refl _⟩, hLu.cd⟩
    refine hu _ (by simp) (by show B + 1 + 1 + 1 < B + 1 + 1 + 1 + 1 + 1; omega) ⟨fun x hx => ?_, by show w.next ≤ B + 1 + 1 + 1 + 1 + 1; omega, rfl⟩
    have q0 : ¬ x = B := by omega
    have q1 : ¬ x = B + 1 := by omega
    have q2 : ¬ x = B + 1 + 1 := by omega
    have q3 : ¬ x = B + 1 + 1 + 1 := by omega
    have q4 : ¬ x = B + 1 + 1 + 1 + 1 := by omega
    simp [q0, q1, q2, q3, q4]
  · refine ⟨fun x hx => ?_, by show w.next ≤ B + 1 + 1 + 1 + 1 + 1; omega, rfl⟩
    have q0 : ¬ x = B := by omega
    have q1 : ¬ x = B + 1 := by omega
    have q2 : ¬ x = B + 1 + 1 := by omega
    have q3 : ¬ x = B + 1 + 1 + 1 := by omega
    have q4 : ¬ x = B + 1 + 1 + 1 + 1 := by omega
    simp [q0, q1, q2, q3, q4]
theorem al_ls {ps : List Pt} {ds : List Dt} (hk : LK ps ds) : totW (lsF ps.length (owD ds)) = alD ds := by
  rw [totW_eq (fun z hz => ?_) (by rw [lsF_len]; have := hk.n8; omega), totL_ls, al_sum hk]
  · exact sN_sI (fun d => d.f) (fun d => d.c) ps.length ds fun d hd => by
      have := (hk.debt d hd).1
      omega
  · unfold lsF at hz
    obtain ⟨q, _, rfl⟩ := List.mem_map.1 hz
    have h1 := hk.ow_nonneg (q : Int)
    have h2 := hk.ow_le (q : Int)
    omega
/-- is somebody short with so much more? -/
theorem short56 {ov : Ov} (m : Nat) (ho53 : ∀ args w, ov 53 args w = none) (ho56 : ∀ args w, ov 56 args w = none) (ho45 : ∀ args w, ov 45 args w = none) (ho46 : ∀ args w, ov 46 args w = none) (ho50 : ∀ args w, ov 50 args w = none) (h16 : HasP ov 16 S16.F) (h60 : HasP ov 60 S60.F) (pv dv : Value) (ps : List Pt) (ds : List Dt) (hO : LOk 100000 ps ds) (k : Nat) (hk : k < ps.length) (c : Int) (hc : 0 ≤ c ∧ c ≤ 1800000) (w : AW) (hl : w.lim ≤ w.next) (hL : LedV w pv dv ps ds) :
    ∃ v w1 v2 w2, (run Try.prog ov (m + 4)).call 56 [.agg ⟨[pv, dv]⟩, .int .i64 (k : Nat), .int .i64 c] w .none = .ok (.ret v) w1 .none ∧ (run Try.prog ov (m + 4)).call 53 [v] w1 .none = .ok (.ret v2) w2 .none ∧ Up w w2 ∧ ∃ n : Nat, (∀ w', lenB Try.prog w' 26 v2 = .val (.int .i64 (n : Nat)) w') ∧ (n = 0 ↔ prB' ps ds k c = true) := by
  obtain ⟨v, w1, c56, pv', rfl, hL1, u1⟩ := call56 (ov := ov) (m + 3) ho56 pv dv ps ds hO k hk c hc w hl hL
  have n1 := u1.next
  have m1 := u1.lim
  have hK := ad_ok hO hk hc.1 hc.2
  obtain ⟨v2, w2, c53, hr, u2, _⟩ := call53 (ov := ov) m ho53 ho45 ho46 ho50 h16 h60 pv' dv (adP ps k c) ds hK w1 (by omega) hL1
  refine ⟨_, w1, v2, w2, c56, c53, u1.trans u2, _, fun w' => len26V hr, ?_⟩
  unfold prB'
  rw [pa_sh hK, List.length_eq_zero_iff]
set_option maxHeartbeats 2000000 in
theorem loop27 {ov : Ov} (m : Nat) (ho53 : ∀ args w, ov 53 args w = none) (ho56 : ∀ args w, ov 56 args w = none) (ho45 : ∀ args w, ov 45 args w = none) (ho46 : ∀ args w, ov 46 args w = none) (ho50 : ∀ args w, ov 50 args w = none) (h16 : HasP ov 16 S16.F) (h60 : HasP ov 60 S60.F) (pv dv : Value) (ps : List Pt) (ds : List Dt) (hO : LOk 100000 ps ds) (k : Nat) (hk : k < ps.length) (A : Int) (hA : 0 ≤ A ∧ A ≤ 1600000) (hp : prB' ps ds k A = true) (w0 : AW) (hl : w0.lim ≤ w0.next) (hL : LedV w0 pv dv ps ds) (n1 : Nat) (hn1 : n1 < w0.next) (g1 : w0.heap.get n1 = some (.cells [pv, dv] 25 false))
    (Q : Ex → Tm → AW → Prop) (t : Tm) (t1 : tget t 1 = .int .i64 (k : Nat)) (t2 : tget t 2 = .pointer (some ⟨n1, 0, none⟩)) (t7 : tget t 7 = .int .i64 0) (t8 : tget t 8 = .int .i64 A)
    (hQ : ∀ t w' x, Up w0 w' → tget t 7 = .int .i64 x → LeastB (prB' ps ds k) A x → Q (.exit 0) t w') : wp (exM Try.prog (run Try.prog ov (m + 4)) (.loop mc27_l0) t w0) Q := by
  refine wp_rounds (fun i t w' => Up w0 w' ∧ tget t 1 = .int .i64 (k : Nat) ∧ tget t 2 = .pointer (some ⟨n1, 0, none⟩) ∧ ∃ lo hi, tget t 7 = .int .i64 lo ∧ tget t 8 = .int .i64 hi ∧ 0 ≤ lo ∧ lo ≤ hi ∧ hi ≤ A ∧ prB' ps ds k hi = true ∧ (∀ z, 0 ≤ z → z < lo → prB' ps ds k z = false) ∧ hi - lo + i ≤ 2000000) 2000001 (by decide) ⟨Up.refl _, t1, t2, 0, A, t7, t8, by omega, by omega, by omega, hp, fun z h1 h2 => by omega, by omega⟩ ?_
  clear t1 t2 t7 t8
  rintro i t w' ⟨hup, t1, t2, lo, hi, t7, t8, h0, hlh, hA', hph, hno, hms⟩
  have hlm := hup.lim
  have hnx := hup.next
  by_cases hlt : lo < hi
  · have g := hup.at hn1
    rw [g1] at g
    obtain ⟨mid, hmid⟩ : ∃ mid, mid = (lo + hi).tdiv 2 := ⟨_, rfl⟩
    have hmid' : mid = (lo + hi) / 2 := by rw [hmid]; exact Int.tdiv_eq_ediv_of_nonneg (by omega)
    have hw1 : IntKind.wrap .i64 (lo + hi) = lo + hi := wrap64_in (by omega) (by omega)
    have hq := fun (cc : Bool) w => bin_quo (P := Try.prog) (w := w) 3 cc .i64 (lo + hi) 2 (by decide)
    simp only [← hmid] at hq
    have hw2 : IntKind.wrap .i64 mid = mid := wrap64_in (by omega) (by omega)
    have hw3 : IntKind.wrap .i64 (mid + 1) = mid + 1 := wrap64_in (by omega) (by omega)
    obtain ⟨v, w2, v2, w3, c56, c53, u3, n, hln, hn⟩ := short56 (ov := ov) m ho53 ho56 ho45 ho46 ho50 h16 h60 pv dv ps ds hO k hk mid ⟨by omega, by omega⟩ w' (by omega) (hL.up hup)
    cases hpm : prB' ps ds k mid with
    | true =>
      have hn0 : n = 0 := hn.2 hpm
      simp [mc27_l0, t1, t2, t7, t8, hlt, hw1, hq, hw2, g, c56, c53, hln, hn0]
      exact ⟨by omega, hup.trans u3, by omega, by omega, by omega, hpm, hno, by omega⟩
    | false =>
      have hn0 : ¬ n = 0 := fun e => by rw [hn.1 e] at hpm; cases hpm
      simp [mc27_l0, t1, t2, t7, t8, hlt, hw1, hq, hw2, hw3, g, c56, c53, hln, hn0]
      refine ⟨by omega, hup.trans u3, by omega, by omega, by omega, hph, fun z h1 h2 => ?_, by omega⟩
      cases hz : prB' ps ds k z with
      | false => rfl
      | true =>
        have := pr_mono hO hk (a := z) (b := mid) h1 (by omega) (by omega) hz
        rw [hpm] at this; cases this
  · have he : lo = hi := by omega
    subst he
    simp [mc27_l0, t7, t8]
    exact hQ _ _ _ hup (by simp [t7]) ⟨h0, hA', hph, hno⟩
set_option maxHeartbeats 2000000 in
theorem call27 {ov : Ov} (m : Nat) (ho : ∀ args w, ov 27 args w = none) (ho53 : ∀ args w, ov 53 args w = none) (ho56 : ∀ args w, ov 56 args w = none) (ho45 : ∀ args w, ov 45 args w = none) (ho46 : ∀ args w, ov 46 args w = none) (ho50 : ∀ args w, ov 50 args w = none) (h16 : HasP ov 16 S16.F) (h18 : HasP ov 18 S17.F) (h32 : HasP ov 32 S32.F) (h38 : HasP ov 38 S62.F) (h60 : HasP ov 60 S60.F) (pv dv : Value) (ps : List Pt) (ds : List Dt) (i : Int) (w : AW) (hl : w.lim ≤ w.next) (hL : LedV w pv dv ps ds) :
    ∃ v w', (run Try.prog ov (m + 5)).call 27 [.agg ⟨[pv, dv]⟩, .int .i64 i] w .none = .ok (.ret v) w' .none ∧ (∃ x, v = .tuple ⟨[.int .i64 x, .int .i64 (resE ps ds i)]⟩ ∧ ResX ps ds i x) ∧ Up w w' := by
  refine call_wp text27 (by simp) (ho _ _) ?_
  obtain ⟨w1, hw1⟩ : ∃ w1, w1 = (⟨w.heap.put w.next (some (.cells [pv, dv] 25 false)), w.next + 1, w.lim⟩ : AW) := ⟨_, rfl⟩
  have u1 : Up w w1 := hw1 ▸ (Up.refl w).add _
  have n1 : w1.next = w.next + 1 := by rw [hw1]
  have m1 : w1.lim = w.lim := by rw [hw1]
  have g1 : w1.heap.get w.next = some (.cells [pv, dv] 25 false) := by rw [hw1]; simp
  have r18 := S17.call (P := Try.prog) h18 (m := m + 3) ⟨pv, dv, ps, ds, rfl, hL.up u1, rfl⟩
  by_cases hC : chE ps ds = 0
  case neg =>
    have e : resE ps ds i = chE ps ds := by unfold resE; rw [if_neg hC]
    have hX : ResX ps ds i 0 := .inr ⟨by rw [e]; exact hC, rfl⟩
    rw [hw1] at r18 u1
    simp [mc27, cellsOf_agg, r18, hC, tupV, e]
    exact ⟨hX, u1⟩
  case pos =>
    have hO := ch_lk hC
    have hK : LK ps ds := hO.up (by decide)
    have hn := hO.n1
    have h8 := hO.n8
    rw [hC] at r18
    have r32 := fun w => S32.call (P := Try.prog) h32 (m := m + 3) (w := w) ⟨i, 0, (ps.length : Int) - 1, rfl, rfl⟩
    have hl22 := fun w' => len22V (w' := w') (hL.p.up u1)
    have hw3 : IntKind.wrap .i64 ((ps.length : Int) - 1) = (ps.length : Int) - 1 := wrap64_in (by omega) (by omega)
    cases hI : inI 0 i ((ps.length : Int) - 1) with
    | false =>
      have e : resE ps ds i = 91 := by unfold resE; rw [if_pos hC, hI]; rfl
      have hX : ResX ps ds i 0 := .inr ⟨by rw [e]; decide, rfl⟩
      rw [hI] at r32
      rw [hw1] at r18 u1
      simp [mc27, cellsOf_agg, r18, r32, hC, hl22, hw3, tupV, e]
      exact ⟨hX, u1⟩
    | true =>
      have hi := hI
      simp only [inI, Bool.and_eq_true, decide_eq_true_eq] at hi
      obtain ⟨k, rfl⟩ : ∃ k : Nat, i = (k : Int) := ⟨i.toNat, by omega⟩
      have hk : k < ps.length := by omega
      rw [hI] at r32
      have hal := al_bd hK
      obtain ⟨_, w2, c45, B, rfl, gB, hB1, hB2, u2⟩ := call45 (ov := ov) (m + 3) ho45 pv dv ps ds w1 (by omega) (hL.up u1) hK
      have n2 := u2.next
      have m2 := u2.lim
      have g2 := u2.at (b := w.next) (by omega)
      rw [g1] at g2
      have y2 := u1.trans u2
      have ha : RowsV intC w2 (.slice (some ⟨B, 0, none⟩) ps.length ps.length) (lsF ps.length (owD ds)) := rows_ls gB hB2 _
      have r38 := S62.call (P := Try.prog) h38 (m := m + 3) (w := w2) ⟨_, _, rfl, ha, by rw [lsF_len]; omega, rfl⟩
      rw [al_ls hK] at r38
      obtain ⟨A, hA⟩ : ∃ A, A = alD ds := ⟨_, rfl⟩
      obtain ⟨v, w3, v2, w4, c56, c53, u4, n, hln, hn0⟩ := short56 (ov := ov) m ho53 ho56 ho45 ho46 ho50 h16 h60 pv dv ps ds hO k hk (alD ds) ⟨by omega, by omega⟩ w2 (by omega) (hL.up y2)
      have g4 := u4.at (b := w.next) (by omega)
      rw [g2] at g4
      have n4 := u4.next
      have m4 := u4.lim
      have y4 := y2.trans u4
      have e : resE ps ds (k : Int) = if prB' ps ds k (alD ds) = true then 0 else 4 := by unfold resE; rw [if_pos hC, if_pos hI, Int.toNat_natCast]
      have hX : ∀ x, LeastB (prB' ps ds k) A x → prB' ps ds k A = true → ResX ps ds (k : Int) x := fun x h1 h2 => .inl ⟨by rw [e, ← hA, h2]; rfl, by rw [Int.toNat_natCast, ← hA]; exact h1⟩
      rw [hw1] at r18 c45
      rw [← hA] at r38 hal c56 hn0 e
      cases hp : prB' ps ds k A with
      | false =>
        have hnz : ¬ n = 0 := fun h => by rw [hn0.1 h] at hp; cases hp
        have hnp : 0 < n := by omega
        rw [hp] at e
        have hX' : ResX ps ds (k : Int) 0 := .inr ⟨by rw [e]; decide, rfl⟩
        simp only [Bool.false_eq_true, if_false] at e
        simp [mc27, cellsOf_agg, r18, r32, hC, hl22, hw3, c45, r38, g2, c56, c53, hln, hnp, tupV, e]
        exact ⟨hX', y4⟩
      | true =>
        have hnz : n = 0 := hn0.2 hp
        subst hnz
        rw [hp] at e
        simp only [if_true] at e
        simp [mc27, cellsOf_agg, r18, r32, hC, hl22, hw3, c45, r38, g2, c56, c53, hln]
        refine wp_seqX (wp_blockX (loop27 (ov := ov) m ho53 ho56 ho45 ho46 ho50 h16 h60 pv dv ps ds hO k hk A hal hp w4 (by omega) (hL.up y4) w.next (by omega) g4 _ _ ?_ ?_ ?_ ?_ ?_))
        case _ => simp
        case _ => simp
        case _ => simp
        case _ => simp
        case _ =>
          intro t w5 x u5 t7 hx
          simp [t7, tupV, e]
          exact ⟨hX x hx hp, y4.trans u5⟩
theorem call5 {ov : Ov} (m : Nat) (ho : ∀ args w, ov 5 args w = none) (ho26 : ∀ args w, ov 26 args w = none) (ho27 : ∀ args w, ov 27 args w = none) (ho53 : ∀ args w, ov 53 args w = none) (ho56 : ∀ args w, ov 56 args w = none) (ho45 : ∀ args w, ov 45 args w = none) (ho46 : ∀ args w, ov 46 args w = none) (ho50 : ∀ args w, ov 50 args w = none) (ho40 : ∀ args w, ov 40 args w = none) (ho61 : ∀ args w, ov 61 args w = none) (ho74 : ∀ args w, ov 74 args w = none) (ho55 : ∀ args w, ov 55 args w = none) (ho68 : ∀ args w, ov 68 args w = none) (ho69 : ∀ args w, ov 69 args w = none) (ho70 : ∀ args w, ov 70 args w = none) (ho77 : ∀ args w, ov 77 args w = none)
    (hW : HasW ov) (h16 : HasP ov 16 S16.F) (h17 : HasP ov 17 S17.F) (h18 : HasP ov 18 S17.F) (h32 : HasP ov 32 S32.F) (h38 : HasP ov 38 S62.F) (h54 : HasP ov 54 S54.F) (h60 : HasP ov 60 S60.F) (h62 : HasP ov 62 S62.F) (h71 : HasP ov 71 S71.F)
    (pv dv : Value) (ps : List Pt) (ds : List Dt) (i : Int) (w : AW) (hl : w.lim ≤ w.next) (hL : LedV w pv dv ps ds) :
    ∃ v w', (run Try.prog ov (m + 7)).call 5 [.agg ⟨[pv, dv]⟩, .int .i64 i] w .none = .ok (.ret v) w' .none ∧ v = .bool true := by
  refine call_wp text5 (by simp) (ho _ _) ?_
  obtain ⟨w1, hw1⟩ : ∃ w1, w1 = (⟨w.heap.put w.next (some (.cells [pv, dv] 25 false)), w.next + 1, w.lim⟩ : AW) := ⟨_, rfl⟩
  have u1 : Up w w1 := hw1 ▸ (Up.refl w).add _
  have n1 : w1.next = w.next + 1 := by rw [hw1]
  have m1 : w1.lim = w.lim := by rw [hw1]
  have g1 : w1.heap.get w.next = some (.cells [pv, dv] 25 false) := by rw [hw1]; simp
  obtain ⟨_, w2, c26, ⟨x, rfl, hX⟩, u2⟩ := call26 (ov := ov) m ho26 ho40 ho61 ho74 ho55 ho68 ho69 ho70 ho77 h17 h54 h62 h71 pv dv ps ds i w1 (by omega) (hL.up u1)
  have n2 := u2.next
  have m2 := u2.lim
  have g2 := u2.at (b := w.next) (by omega)
  rw [g1] at g2
  obtain ⟨_, w3, c27, ⟨y, rfl, hY⟩, u3⟩ := call27 (ov := ov) (m + 1) ho27 ho53 ho56 ho45 ho46 ho50 h16 h18 h32 h38 h60 pv dv ps ds i w2 (by omega) (hL.up (u1.trans u2))
  obtain rfl := resX_uniq hX hY
  have rW := fun w => ruleW (m := m + 5) hW w
  rw [hw1] at c26
  simp [mc5, cellsOf_agg, c26, g2, c27, rW, tupV]
end Go.Proofs.Ythfidomphkednaa.walk
