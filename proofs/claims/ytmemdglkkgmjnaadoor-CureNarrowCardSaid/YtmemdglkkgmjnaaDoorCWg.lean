/- Part of a proof by a machine of ones own: see the text with the theorem. -/
import Derived.Test.YtmemdglkkgmjnaaDoorCT3
import Derived.Test.YtmemdglkkgmjnaaDoorCWf
namespace Go.Proofs.YtmemdglkkgmjnaaDoor.walk
open Go Go.Sh
set_option maxRecDepth 100000
set_option linter.unusedSimpArgs false
/-! numbers that choose -/
def wrapI (n s : Int) : Int := if s < 1 then 0 else (n.tmod s + s).tmod s
theorem wrapI_bd {n s : Int} (h : 1 ≤ s) : 0 ≤ wrapI n s ∧ wrapI n s < s := by
  have h2 := Int.lt_tmod_of_pos n (show 0 < s by omega)
  unfold wrapI
  rw [if_neg (by omega)]
  exact ⟨Int.tmod_nonneg _ (by omega), Int.tmod_lt_of_pos _ (by omega)⟩
def S36 : PSpec where
  R args _ v := ∃ n s : Int, args = [.int .i64 n, .int .i64 s] ∧ s ≤ 2 ^ 60 ∧ v = .int .i64 (wrapI n s)
  uniq := by rintro _ _ _ _ ⟨n, s, rfl, _, rfl⟩ ⟨_, _, h, _, rfl⟩; cases h; rfl
  shut h := h
theorem run36 {ov : Ov} (ho : ∀ args w, ov 36 args w = none) (n s : Int) (hs : s ≤ 2 ^ 60) (w : AW) : ∃ v w', (run Tryd.prog ov 2).call 36 [.int .i64 n, .int .i64 s] w .none = .ok (.ret v) w' .none ∧ v = .int .i64 (wrapI n s) := by
  refine call_wp text36 (by simp) (ho _ _) ?_
  by_cases h1 : s < 1
  · simp [mc36, h1, tupV, wrapI]
  · have hr := fun (a : Int) (c : Bool) w => bin_rem (P := Tryd.prog) (w := w) 3 c .i64 a s (by omega)
    have b1 := Int.lt_tmod_of_pos n (show 0 < s by omega)
    have b2 := Int.tmod_lt_of_pos n (show 0 < s by omega)
    have w1 : IntKind.wrap .i64 (n.tmod s + s) = n.tmod s + s := wrap64_in (by omega) (by omega)
    simp [mc36, h1, tupV, wrapI, hr, w1]
def nthI (L : List Int) (i : Int) : Int := match L[(wrapI i L.length).toNat]? with | some z => z | none => 0
def S37 : PSpec where
  R args w v := ∃ (lv : Value) (L : List Int) (i : Int), args = [lv, .int .i64 i] ∧ RowsV intC w lv L ∧ L.length ≤ 2 ^ 60 ∧ v = .int .i64 (nthI L i)
  uniq := by
    rintro _ _ _ _ ⟨_, L, i, rfl, h1, _, rfl⟩ ⟨_, L', i', h, k1, _, rfl⟩
    cases h
    rw [h1.uniq (m := 1) intC_length intC_inj k1]
  shut h := h
theorem run37 {ov : Ov} (ho : ∀ args w, ov 37 args w = none) (h36 : HasP ov 36 S36.F) (v : Value) (L : List Int) (i : Int) (w : AW) (hv : RowsV intC w v L) (hs : L.length ≤ 2 ^ 60) : ∃ x w', (run Tryd.prog ov 2).call 37 [v, .int .i64 i] w .none = .ok (.ret x) w' .none ∧ x = .int .i64 (nthI L i) := by
  refine call_wp text37 (by simp) (ho _ _) ?_
  have hl := fun w2 => len28V (w' := w2) hv
  have r36 := fun w => S36.call1 (P := Tryd.prog) h36 (w := w) ⟨i, L.length, rfl, by omega, rfl⟩
  by_cases h0 : L.length = 0
  · have : L = [] := List.eq_nil_of_length_eq_zero h0
    subst this
    simp at hl
    simp [mc37, hl, tupV, nthI]
  · have hb := wrapI_bd (n := i) (s := L.length) (by omega)
    obtain ⟨k, hk⟩ : ∃ k : Nat, (k : Int) = wrapI i L.length := ⟨(wrapI i L.length).toNat, by omega⟩
    have hkl : k < L.length := by omega
    obtain ⟨z, hz⟩ : ∃ z, L[k]? = some z := ⟨_, List.getElem?_eq_getElem hkl⟩
    obtain ⟨b, off, sq, c, rfl, hr⟩ := hv.at_ k hkl
    have hld := hr.int hz
    have hia := fun w => ia28 w ⟨b, off, sq⟩ L.length c .i64 k hkl
    simp only [Nat.mul_one] at hia
    rw [← hk] at r36
    have hn : nthI L i = z := by
      unfold nthI
      rw [← hk, Int.toNat_natCast, hz]
    have h0' : ¬ (L.length : Int) = 0 := by omega
    simp [mc37, hl, h0, h0', r36, hia, hld, tupV, hn]
def withI (lo hi n : Int) : Int := lo + wrapI n (hi - lo + 1)
theorem with_in {lo hi n : Int} (h : lo ≤ hi) : lo ≤ withI lo hi n ∧ withI lo hi n ≤ hi := by
  obtain ⟨a, b⟩ := wrapI_bd (n := n) (s := hi - lo + 1) (by omega)
  unfold withI
  omega
def S48 : PSpec where
  R args _ v := ∃ lo hi n : Int, args = [.int .i64 lo, .int .i64 hi, .int .i64 n] ∧ (0 ≤ lo ∧ lo ≤ hi ∧ hi ≤ 100000000) ∧ v = .int .i64 (withI lo hi n)
  uniq := by rintro _ _ _ _ ⟨lo, hi, n, rfl, _, rfl⟩ ⟨_, _, _, h, _, rfl⟩; cases h; rfl
  shut h := h
theorem run48 {ov : Ov} (ho : ∀ args w, ov 48 args w = none) (h36 : HasP ov 36 S36.F) (lo hi n : Int) (hb : 0 ≤ lo ∧ lo ≤ hi ∧ hi ≤ 100000000) (w : AW) : ∃ v w', (run Tryd.prog ov 2).call 48 [.int .i64 lo, .int .i64 hi, .int .i64 n] w .none = .ok (.ret v) w' .none ∧ v = .int .i64 (withI lo hi n) := by
  refine call_wp text48 (by simp) (ho _ _) ?_
  have w1 : IntKind.wrap .i64 (hi - lo) = hi - lo := wrap64_in (by omega) (by omega)
  have w2 : IntKind.wrap .i64 (hi - lo + 1) = hi - lo + 1 := wrap64_in (by omega) (by omega)
  have r36 := fun w => S36.call1 (P := Tryd.prog) h36 (w := w) ⟨n, hi - lo + 1, rfl, by omega, rfl⟩
  have hbd := with_in (n := n) hb.2.1
  unfold withI at hbd
  have w3 : IntKind.wrap .i64 (lo + wrapI n (hi - lo + 1)) = lo + wrapI n (hi - lo + 1) := wrap64_in (by omega) (by omega)
  simp [mc48, w1, w2, r36, w3, tupV, withI]
def S42 : PSpec where
  R args w v := ∃ a b : Int, args = [.int .i64 a, .int .i64 b] ∧ w.lim ≤ w.next ∧ v = .agg ⟨spC (a, b)⟩
  uniq := by rintro _ _ _ _ ⟨a, b, rfl, _, rfl⟩ ⟨_, _, h, _, rfl⟩; cases h; rfl
  shut := fun ⟨a, b, h1, _, h2⟩ => ⟨a, b, h1, Nat.le_refl _, h2⟩
theorem run42 {ov : Ov} (ho : ∀ args w, ov 42 args w = none) (a b : Int) (w : AW) (hl : w.lim = w.next) : ∃ v w', (run Tryd.prog ov 2).call 42 [.int .i64 a, .int .i64 b] w .none = .ok (.ret v) w' .none ∧ v = .agg ⟨spC (a, b)⟩ := by
  refine call_wp text42 (by simp) (ho _ _) ?_
  have lw : w.lim ≤ w.next := by omega
  simp [mc42, lw, cellsOf_agg, tupV, spC]
/-- a part of a span, as numbers choose it -/
def partS (bits : List Int) (s : Sp) (n : Int) : Sp := (withI s.1 s.2 (nthI bits n), withI (withI s.1 s.2 (nthI bits n)) s.2 (nthI bits (n + 1)))
theorem part_in {bits : List Int} {s : Sp} {n : Int} (h : s.1 ≤ s.2) : s.1 ≤ (partS bits s n).1 ∧ (partS bits s n).1 ≤ (partS bits s n).2 ∧ (partS bits s n).2 ≤ s.2 := by
  have h1 := with_in (n := nthI bits n) h
  have h2 := with_in (n := nthI bits (n + 1)) h1.2
  unfold partS
  exact ⟨h1.1, h2.1, h2.2⟩
def S47 : PSpec where
  R args w v := ∃ (s : Sp) (n : Int) (c : Nat) (bv : Value) (bits : List Int) (ro : Bool), args = [.agg ⟨spC s⟩, .int .i64 n, .pointer (some ⟨c, 0, none⟩)] ∧ w.heap.get c = some (.cells [bv] 28 ro) ∧ c < w.next ∧ RowsV intC w bv bits ∧ bits.length ≤ 2 ^ 60 ∧ (0 ≤ s.1 ∧ s.1 ≤ s.2 ∧ s.2 ≤ 100000000) ∧ (0 ≤ n ∧ n ≤ 1000) ∧ w.lim ≤ w.next ∧ v = .agg ⟨spC (partS bits s n)⟩
  uniq := by
    rintro _ _ _ _ ⟨⟨_, _⟩, n, c, bv, bits, ro, rfl, h1, _, h2, _, _, _, _, rfl⟩ ⟨⟨_, _⟩, n', c', bv', bits', ro', h, k1, _, k2, _, _, _, _, rfl⟩
    cases h
    rw [h1] at k1
    cases k1
    rw [h2.uniq (m := 1) intC_length intC_inj k2]
  shut := fun ⟨a1, a2, a3, a4, a5, a6, h1, h2, h3, h4, h5, h6, h7, _, h8⟩ => ⟨a1, a2, a3, a4, a5, a6, h1, h2, h3, h4, h5, h6, h7, Nat.le_refl _, h8⟩
theorem run47 {ov : Ov} (ho : ∀ args w, ov 47 args w = none) (h37 : HasP ov 37 S37.F) (h42 : HasP ov 42 S42.F) (h48 : HasP ov 48 S48.F) (s : Sp) (n : Int) (c : Nat) (bv : Value) (bits : List Int) (ro : Bool) (w : AW) (hl : w.lim = w.next) (hc : w.heap.get c = some (.cells [bv] 28 ro)) (hcn : c < w.next) (hbv : RowsV intC w bv bits) (hlen : bits.length ≤ 2 ^ 60) (hs : 0 ≤ s.1 ∧ s.1 ≤ s.2 ∧ s.2 ≤ 100000000) (hn : 0 ≤ n ∧ n ≤ 1000) : ∃ v w', (run Tryd.prog ov 2).call 47 [.agg ⟨spC s⟩, .int .i64 n, .pointer (some ⟨c, 0, none⟩)] w .none = .ok (.ret v) w' .none ∧ v = .agg ⟨spC (partS bits s n)⟩ := by
  refine call_wp text47 (by simp) (ho _ _) ?_
  have u1 : Up w ⟨(w.heap.put w.next (some (.cells [.int .i64 s.1, .int .i64 s.2] 25 false))).put (w.next + 1) (some (.cells [.int .i64 0, .int .i64 0] 25 false)), w.next + 1 + 1, w.lim⟩ := ((Up.refl w).add _).put (Nat.le_succ _) (Nat.le_succ _)
  have r37 := fun i => S37.call1 (P := Tryd.prog) h37 ⟨bv, bits, i, rfl, hbv.up u1, hlen, rfl⟩
  have h1 := with_in (n := nthI bits n) hs.2.1
  have r48a := fun w => S48.call1 (P := Tryd.prog) h48 (w := w) ⟨s.1, s.2, nthI bits n, rfl, hs, rfl⟩
  have r48b := fun w => S48.call1 (P := Tryd.prog) h48 (w := w) ⟨withI s.1 s.2 (nthI bits n), s.2, nthI bits (n + 1), rfl, by omega, rfl⟩
  have r42 := fun (w : AW) a b hw => S42.call1 (P := Tryd.prog) h42 (w := w) ⟨a, b, rfl, hw, rfl⟩
  have r42' := r42 ⟨(w.heap.put w.next (some (.cells [.int .i64 s.1, .int .i64 s.2] 25 false))).put (w.next + 1) (some (.cells [.int .i64 0, .int .i64 0] 25 false)), w.next + 1 + 1, w.lim⟩ (withI s.1 s.2 (nthI bits n)) (withI (withI s.1 s.2 (nthI bits n)) s.2 (nthI bits (n + 1))) (by show w.lim ≤ w.next + 1 + 1; omega)
  have wn : IntKind.wrap .i64 (n + 1) = n + 1 := wrap64_in (by omega) (by omega)
  have e1 : ¬ c = w.next := by omega
  have e2 : ¬ c = w.next + 1 := by omega
  have lw : w.lim ≤ w.next + 1 := by omega
  simp only [spC] at r42' ⊢
  simp [mc47, cellsOf_agg, hc, e1, e2, r37, r48a, r48b, r42', wn, lw, tupV, partS]
end Go.Proofs.YtmemdglkkgmjnaaDoor.walk

namespace Go.Proofs.YtmemdglkkgmjnaaDoor.walk
open Go Go.Sh
set_option maxRecDepth 100000
set_option linter.unusedSimpArgs false
/-! sound -/
def sndB (r : List CAct) (d : List CDay) (acts : List Int) : Bool := decide (chkE r d = 0) && canB r d acts
def S33 : PSpec where
  R args w v := ∃ (rv dv av : Value) (r : List CAct) (d : List CDay) (b : CBox) (acts : List Int), args = [.agg ⟨curC rv dv b av⟩] ∧ RowsV actC w rv r ∧ RowsV cdayC w dv d ∧ RowsV intC w av acts ∧ LimW w ∧ v = .bool (sndB r d acts)
  uniq := by
    rintro _ _ _ _ ⟨_, _, _, r, d, ⟨_, _, _, _⟩, acts, rfl, h1, h2, h3, _, rfl⟩ ⟨_, _, _, r', d', ⟨_, _, _, _⟩, acts', h, k1, k2, k3, _, rfl⟩
    simp only [curC, List.cons.injEq, Value.agg.injEq, Array.mk.injEq, Value.int.injEq, true_and, and_true] at h
    obtain ⟨rfl, rfl, rfl, rfl, rfl, rfl, rfl⟩ := h
    rw [h1.uniq (m := 7) actC_length actC_inj k1, h2.uniq (m := 3) cdayC_length cdayC_inj k2, h3.uniq (m := 1) intC_length intC_inj k3]
  shut h := h
theorem run33 {ov : Ov} (ho : ∀ args w, ov 33 args w = none) (h12 : HasP ov 12 S12.F) (h39 : HasP ov 39 S39.F) (r : List CAct) (d : List CDay) (b : CBox) (acts : List Int) (rv dv av : Value) (w : AW) (hL : LimW w) (hrv : RowsV actC w rv r) (hdv : RowsV cdayC w dv d) (hav : RowsV intC w av acts) : ∃ x w', (run Tryd.prog ov 2).call 33 [.agg ⟨curC rv dv b av⟩] w .none = .ok (.ret x) w' .none ∧ x = .bool (sndB r d acts) := by
  refine call_wp text33 (by simp) (ho _ _) ?_
  obtain ⟨w1, hw1e⟩ : ∃ w1 : AW, w1 = ⟨w.heap.put w.next (some (.cells [rv, dv, .int .i64 b.wl, .int .i64 b.wh, .int .i64 b.sl, .int .i64 b.sh, av] 30 false)), w.next + 1, w.lim⟩ := ⟨_, rfl⟩
  have u1 : Up w w1 := by rw [hw1e]; exact (Up.refl w).add _
  have g1 : w1.heap.get w.next = some (.cells [rv, dv, .int .i64 b.wl, .int .i64 b.wh, .int .i64 b.sl, .int .i64 b.sh, av] 30 false) := by rw [hw1e]; simp
  have r12 := S12.call1 (P := Tryd.prog) h12 ⟨rv, dv, av, r, d, acts, rfl, hrv.up u1, hdv.up u1, hav.up u1, hL.up u1, rfl⟩
  have r39 := fun n a b w => S39.call1 (P := Tryd.prog) h39 (w := w) ⟨n, a, b, rfl, rfl⟩
  have hl1 := fun w2 => len22V (w' := w2) hrv
  have hl2 := fun w2 => len23V (w' := w2) hdv
  have hl3 := fun w2 => len28V (w' := w2) hav
  rw [hw1e] at r12
  simp only [curC]
  by_cases hE : chkE r d = 0
  · obtain ⟨hR, hD⟩ := chk_of hE
    have e0 : canR r d acts = .tuple ⟨[.bool (canB r d acts), .int .i64 0]⟩ := by unfold canR; rw [if_pos hE]
    rw [e0] at r12
    cases hc : canB r d acts with
    | false =>
      have e : sndB r d acts = false := by unfold sndB; rw [hc, Bool.and_false]
      rw [hc] at r12
      simp [mc33, cellsOf_agg, r12]
      refine wp_seqX (wp_blockX (wp_rounds (fun i t w' => i = 0 ∧ tget t 5 = .bool false) 20 (by decide) ⟨rfl, by simp⟩ ?_))
      rintro i t w' ⟨rfl, t5⟩
      simp [mc33_l0, t5, e, tupV]
    | true =>
      have e : sndB r d acts = true := by unfold sndB; rw [hc, decide_eq_true hE]; rfl
      have hlr := rule_len hR
      have hld := days_len hD
      obtain ⟨s, hs⟩ : ∃ s, stgF r d startS acts = some s := by
        unfold canB at hc
        cases hq : stgF r d startS acts with
        | none => rw [hq] at hc; cases hc
        | some s => exact ⟨s, rfl⟩
      have hal := stg_len hR hs
      have hact := stg_acts _ _ _ hs
      rw [hc] at r12
      have k1 : (r.length : Int) ≤ 5 := by omega
      have k2 : (d.length : Int) ≤ 14 := by omega
      have k3 : (acts.length : Int) ≤ d.length := by omega
      have k1' : r.length ≤ 5 := by omega
      have k2' : d.length ≤ 14 := by omega
      simp [mc33, cellsOf_agg, r12, hl1, hl2, hl3, k1, k2, k3, k1', k2', hal]
      rw [← hw1e]
      refine wp_seqX (wp_blockX (wp_rounds (fun i t w' => w' = w1 ∧ tget t 1 = .pointer (some ⟨w.next, 0, none⟩) ∧ tget t 5 = .bool true ∧ tget t 6 = .int .i64 (i : Nat) ∧ i ≤ acts.length) 20 (by decide) ⟨rfl, by simp, by simp, by simp, Nat.zero_le _⟩ ?_))
      rintro i t w' ⟨rfl, t1, t5, t6, hi⟩
      by_cases hlt : i < acts.length
      · obtain ⟨a, ha⟩ : ∃ p, acts[i]? = some p := ⟨_, List.getElem?_eq_getElem hlt⟩
        obtain ⟨ha0, x, hx⟩ := hact a (List.mem_of_getElem? ha)
        have hal2 := (List.getElem?_eq_some_iff.1 hx).1
        obtain ⟨bb, off, sq, c, rfl, hra⟩ := hav.at_ i hlt
        have hldd := hra.int ha
        rw [← u1.at hra.2] at hldd
        have hia := fun w => ia28 w ⟨bb, off, sq⟩ acts.length c .i64 i hlt
        simp only [Nat.mul_one] at hia
        have hwi : IntKind.wrap .i64 ((i : Int) + 1) = (i : Int) + 1 := wrap64_in (by omega) (by omega)
        have hwr : IntKind.wrap .i64 ((r.length : Int) - 1) = (r.length : Int) - 1 := wrap64_in (by omega) (by omega)
        have hin : inI 0 a ((r.length : Int) - 1) = true := by simp [inI]; omega
        simp [mc33_l0, t1, t5, t6, hlt, g1, hia, hldd, hl1, hwr, r39, hin, hwi]
        exact ⟨by omega, hlt⟩
      · have hi' : i = acts.length := by omega
        subst hi'
        simp [mc33_l0, t1, t5, t6, g1, hl3, e, tupV]
  · have e0 : canR r d acts = .tuple ⟨[.bool false, .int .i64 (chkE r d)]⟩ := by unfold canR; rw [if_neg hE]
    have e : sndB r d acts = false := by unfold sndB; rw [decide_eq_false hE]; rfl
    rw [e0] at r12
    simp [mc33, cellsOf_agg, r12, hE]
    refine wp_seqX (wp_blockX (wp_rounds (fun i t w' => i = 0 ∧ tget t 5 = .bool false) 20 (by decide) ⟨rfl, by simp⟩ ?_))
    rintro i t w' ⟨rfl, t5⟩
    simp [mc33_l0, t5, e, tupV]
/-! narrower rules and boxes -/
def dA : CAct := ⟨0, 0, false, false, 0, 0, 0⟩
def parA (bits : List Int) (i : Nat) (a : CAct) : CAct := { a with ll := (partS bits (a.ll, a.lh) (2 * (i : Int) + 3)).1, lh := (partS bits (a.ll, a.lh) (2 * (i : Int) + 3)).2 }
/-- the rule of which the first acts are narrower -/
def parR (bits : List Int) (r : List CAct) (i : Nat) : List CAct := (List.range r.length).map fun k => if k < i then parA bits k (r.getD k dA) else r.getD k dA
@[simp] theorem parR_length (bits : List Int) (r : List CAct) (i : Nat) : (parR bits r i).length = r.length := by simp [parR]
theorem parR_at {bits : List Int} {r : List CAct} {i k : Nat} {x : CAct} (h : r[k]? = some x) : (parR bits r i)[k]? = some (if k < i then parA bits k x else x) := by
  have hk := (List.getElem?_eq_some_iff.1 h).1
  unfold parR
  rw [List.getElem?_map, List.getElem?_range hk]
  simp [List.getD_eq_getElem?_getD, h]
theorem parR_zero (bits : List Int) (r : List CAct) : parR bits r 0 = r := by
  refine List.ext_getElem? fun k => ?_
  cases h : r[k]? with
  | none => rw [List.getElem?_eq_none]; simpa using h
  | some x => rw [parR_at h, if_neg (by omega)]
theorem parR_set {bits : List Int} {r : List CAct} {i : Nat} {x : CAct} (h : r[i]? = some x) : (parR bits r i).set i (parA bits i x) = parR bits r (i + 1) := by
  have hi := (List.getElem?_eq_some_iff.1 h).1
  refine List.ext_getElem? fun k => ?_
  rw [List.getElem?_set]
  by_cases e : i = k
  · subst e
    rw [if_pos rfl, if_pos (by simpa using hi), parR_at h, if_pos (by omega)]
  · rw [if_neg e]
    cases hk : r[k]? with
    | none =>
      have : r.length ≤ k := by simpa using hk
      rw [List.getElem?_eq_none (by simpa using this), List.getElem?_eq_none (by simpa using this)]
    | some y =>
      rw [parR_at hk, parR_at hk]
      by_cases h2 : k < i
      · rw [if_pos h2, if_pos (by omega)]
      · rw [if_neg h2, if_neg (by omega)]
theorem parA_ok {bits : List Int} {i : Nat} {a : CAct} (h : a.ll ≤ a.lh) : a.ll ≤ (parA bits i a).ll ∧ (parA bits i a).ll ≤ (parA bits i a).lh ∧ (parA bits i a).lh ≤ a.lh := part_in (s := (a.ll, a.lh)) h
def parB (bits : List Int) (b : CBox) : CBox := ⟨(partS bits (b.wl, b.wh) 0).1, (partS bits (b.wl, b.wh) 0).2, (partS bits (b.sl, b.sh) 2).1, (partS bits (b.sl, b.sh) 2).2⟩
theorem parB_ok {bits : List Int} {b : CBox} (h : boxB b = true) : boxB (parB bits b) = true ∧ b.wl ≤ (parB bits b).wl ∧ (parB bits b).wh ≤ b.wh ∧ b.sl ≤ (parB bits b).sl ∧ (parB bits b).sh ≤ b.sh := by
  simp only [boxB, spanI, Bool.and_eq_true, decide_eq_true_eq] at h ⊢
  have h1 := part_in (bits := bits) (s := (b.wl, b.wh)) (n := 0) (by simp only; omega)
  have h2 := part_in (bits := bits) (s := (b.sl, b.sh)) (n := 2) (by simp only; omega)
  simp only at h1 h2
  unfold parB
  simp only
  omega
theorem parR_rule {bits : List Int} {r : List CAct} (h : ruleB r = true) : ruleB (parR bits r r.length) = true := by
  have hh := h
  simp only [ruleB, Bool.and_eq_true] at h ⊢
  refine ⟨by simpa using h.1, List.all_eq_true.2 fun y hy => ?_⟩
  obtain ⟨k, hk, rfl⟩ := List.mem_iff_getElem.1 hy
  have hkr : k < r.length := by simpa using hk
  obtain ⟨x, hx⟩ : ∃ x, r[k]? = some x := ⟨_, List.getElem?_eq_getElem hkr⟩
  have e := parR_at (bits := bits) (i := r.length) hx
  rw [if_pos hkr, List.getElem?_eq_getElem hk] at e
  rw [Option.some.inj e]
  have hax := List.all_eq_true.1 h.2 x (List.mem_of_getElem? hx)
  simp only [actB, inI, spanI, Bool.and_eq_true, decide_eq_true_eq, parR_length] at hax ⊢
  have := parA_ok (bits := bits) (i := k) (a := x) (by omega)
  refine ⟨hax.1, hax.2.1, ⟨by omega, by omega, by omega⟩, hax.2.2.2⟩
end Go.Proofs.YtmemdglkkgmjnaaDoor.walk

namespace Go.Proofs.YtmemdglkkgmjnaaDoor.walk
open Go Go.Sh
set_option maxRecDepth 100000
set_option linter.unusedSimpArgs false
/-! what is narrower stays so -/
def SameS (s t : Stg) : Prop := s.done = t.done ∧ s.last = t.last ∧ s.row = t.row
theorem fit_par {bits : List Int} {i : Nat} {x : CAct} {a : Int} {y : CDay} {s t : Stg} (h : SameS s t) : fitB (parA bits i x) a y t = fitB x a y s := by
  obtain ⟨_, h2, h3⟩ := h
  unfold fitB
  rw [h2, h3]; rfl
theorem next_par {bits : List Int} {r : List CAct} {d : List CDay} {s t : Stg} (h : SameS s t) (a : Int) : (nextS r d s a = none ∧ nextS (parR bits r r.length) d t a = none) ∨ ∃ s' t', nextS r d s a = some s' ∧ nextS (parR bits r r.length) d t a = some t' ∧ SameS s' t' := by
  unfold nextS
  rw [← h.1]
  cases hd : d[s.done.toNat]? with
  | none => exact .inl ⟨rfl, rfl⟩
  | some y =>
    by_cases ha : 0 ≤ a
    · rw [if_pos ha, if_pos ha]
      cases hx : r[a.toNat]? with
      | none =>
        have : (parR bits r r.length)[a.toNat]? = none := by
          rw [List.getElem?_eq_none]; simpa using hx
        rw [this]; exact .inl ⟨rfl, rfl⟩
      | some x =>
        have hk := (List.getElem?_eq_some_iff.1 hx).1
        rw [parR_at hx, if_pos hk]
        simp only
        rw [fit_par h]
        by_cases hf : fitB x a y s = true
        · rw [if_pos hf, if_pos hf]
          refine .inr ⟨_, _, rfl, rfl, ?_⟩
          exact ⟨by show s.done + 1 = t.done + 1; rw [h.1], rfl, by show (if a = s.last then 1 + s.row else 1) = (if a = t.last then 1 + t.row else 1); rw [h.2.1, h.2.2]⟩
        · rw [if_neg hf, if_neg hf]; exact .inl ⟨rfl, rfl⟩
    · rw [if_neg ha, if_neg ha]; exact .inl ⟨rfl, rfl⟩
theorem stg_par {bits : List Int} {r : List CAct} {d : List CDay} : ∀ (acts : List Int) (s t u : Stg), SameS s t → stgF r d s acts = some u → ∃ v, stgF (parR bits r r.length) d t acts = some v
  | [], s, t, u, h, hu => ⟨t, rfl⟩
  | a :: acts, s, t, u, h, hu => by
    simp only [stgF] at hu ⊢
    rcases next_par (bits := bits) (d := d) (r := r) h a with ⟨h1, h2⟩ | ⟨s', t', h1, h2, h3⟩
    · rw [h1] at hu; cases hu
    · rw [h1] at hu
      rw [h2]
      exact stg_par acts s' t' u h3 hu
theorem act_par {bits : List Int} {r : List CAct} {d : List CDay} {b : CBox} {acts : List Int} (h : actE r d b acts = 0) : actE (parR bits r r.length) d (parB bits b) acts = 0 := by
  obtain ⟨hR, hD, hB, s, hs⟩ := act_ofE h
  obtain ⟨v, hv⟩ := stg_par (bits := bits) acts startS startS s ⟨rfl, rfl, rfl⟩ hs
  unfold actE bxE chkE
  rw [if_pos (parR_rule hR), if_pos hD, if_pos rfl, if_pos (parB_ok hB).1, if_pos rfl, hv]
theorem los_at {L : List Sp} {k : Nat} (h : k < L.length) : gtS (losL L) k = gtS L k := by
  unfold gtS losL
  rw [List.getD_eq_getElem?_getD, List.getD_eq_getElem?_getD, List.getElem?_append_left h]
theorem los_par {bits : List Int} {r : List CAct} {d : List CDay} {b : CBox} {acts : List Int} (h : actE r d b acts = 0) (k : Nat) : subS (gtS (losL (lossL (parR bits r r.length) acts)) k) (gtS (losL (lossL r acts)) k) := by
  obtain ⟨hR, hD, hB, s, hs⟩ := act_ofE h
  have ha := stg_acts _ _ _ hs
  have hl1 : (lossL r acts).length = acts.length := by simp [lossL]
  have hl2 : (lossL (parR bits r r.length) acts).length = acts.length := by simp [lossL]
  by_cases hk : k < acts.length
  · rw [los_at (by omega), los_at (by omega)]
    obtain ⟨a, hak⟩ : ∃ a, acts[k]? = some a := ⟨_, List.getElem?_eq_getElem hk⟩
    obtain ⟨_, x, hx⟩ := ha a (List.mem_of_getElem? hak)
    have hxl := (List.getElem?_eq_some_iff.1 hx).1
    have e1 := gtS_of (lossL_at hak hx)
    have hx' := parR_at (bits := bits) (i := r.length) hx
    rw [if_pos hxl] at hx'
    have e2 := gtS_of (lossL_at hak hx')
    rw [e1, e2]
    obtain ⟨_, _, q, _⟩ := act_of hR hx
    simp only [spanI, Bool.and_eq_true, decide_eq_true_eq] at q
    have := parA_ok (bits := bits) (i := a.toNat) (a := x) (by omega)
    exact ⟨this.1, this.2.2⟩
  · have e : ∀ L : List Sp, L.length = acts.length → gtS (losL L) k = gtS [((0, 1000000) : Sp)] (k - acts.length) := fun L hL => by
      unfold gtS losL
      rw [List.getD_eq_getElem?_getD, List.getD_eq_getElem?_getD, List.getElem?_append_right (by omega), hL]
    rw [e _ hl1, e _ hl2]; exact subS.refl _
theorem ini_nil (b : CBox) (n i k : Nat) : iniF b n [] i k = iniG b n k := by
  unfold iniF
  split <;> rfl
theorem ini_sub {b b' : CBox} (n k : Nat) (h1 : b.wl ≤ b'.wl ∧ b'.wh ≤ b.wh) (h2 : b.sl ≤ b'.sl ∧ b'.sh ≤ b.sh) : subS (iniG b' n k) (iniG b n k) := by
  unfold iniG
  repeat' split
  · exact h2
  · exact h1
  · exact subS.refl _
  · exact subS.refl _
theorem inn_sub {x : Int} {a b : Sp} (h : inn x a) (k : subS a b) : inn x b := by
  unfold inn at *; unfold subS at k; omega
structure ParW (b b' : CBox) (L L' : List Sp) : Prop where
  len : L'.length = L.length
  los : ∀ k, subS (gtS (losL L') k) (gtS (losL L) k)
  w : b.wl ≤ b'.wl ∧ b'.wh ≤ b.wh
  s : b.sl ≤ b'.sl ∧ b'.sh ≤ b.sh
theorem ParW.sol {b b' : CBox} {L L' : List Sp} (h : ParW b b' L L') (hlen : L.length ≤ 14) {x : Nat → Int} (hx : SolS (L.length + 1) (gtS (losL L')) (gtS (iniW b' L' [])) x) : SolS (L.length + 1) (gtS (losL L)) (gtS (iniW b L [])) x := by
  refine ⟨fun i hi => ?_, fun i hi => inn_sub (hx.2 i hi) (h.los i)⟩
  have h1 := hx.1 i hi
  unfold iniW at h1 ⊢
  rw [mkW_at _ (by omega), ini_nil] at h1 ⊢
  rw [h.len] at h1
  exact inn_sub h1 (ini_sub _ _ h.w h.s)
theorem wei_par {b b' : CBox} {L L' V' : List Sp} (hb : boxB b = true) (hb' : boxB b' = true) (hL : LosW (losL L)) (hL' : LosW (losL L')) (hlen : L.length ≤ 14) (h : ParW b b' L L') (hV' : weighF b' L' [] = some V') : ∃ V, weighF b L [] = some V ∧ ∀ k, k ≤ L.length + 1 → subS (gtS V' k) (gtS V k) := by
  have hl := h.len
  have ok' := weigh_ok hb' hL' (by omega) hV'
  have ex' := ok'.exact
  rw [hl] at ex'
  have hW : (iniW b L []).length = 16 := by simp [iniW]
  cases hV : weighF b L [] with
  | none =>
    exfalso
    obtain ⟨s1, _⟩ := ex'.low (los_le hL' _) (Nat.zero_le _) (v := (gtS V' 0).1) ⟨Int.le_refl _, by have := ex'.ne 0 (Nat.zero_le _); exact this⟩
    unfold weighF at hV
    rw [losL_length] at hV
    exact nar_none (by show L.length + 1 < (iniW b L []).length; omega) hV _ (h.sol hlen s1)
  | some V =>
    have ok := weigh_ok hb hL hlen hV
    exact ⟨V, rfl, ok.exact.mono ex' (los_le hL' _) fun x hx => h.sol hlen hx⟩
theorem sur_par {b b' : CBox} {L L' V' : List Sp} {lim : Sp} (hb : boxB b = true) (hb' : boxB b' = true) (hL : LosW (losL L)) (hL' : LosW (losL L')) (hlen : L.length ≤ 14) (h : ParW b b' L L') (hV' : weighF b' L' [] = some V') (hs : surB b L lim = true) : surB b' L' lim = true := by
  have hl := h.len
  obtain ⟨V, hV, hsub⟩ := wei_par hb hb' hL hL' hlen h hV'
  have ok := weigh_ok hb hL hlen hV
  have ok' := weigh_ok hb' hL' (by omega) hV'
  obtain ⟨D, hD, dok⟩ := dry_ok hL hlen ok
  obtain ⟨D', hD', dok'⟩ := dry_ok hL' (by omega) ok'
  unfold surB at hs ⊢
  rw [hV] at hs
  rw [hV']
  simp only at hs ⊢
  rw [hD] at hs
  rw [hD']
  simp only [Bool.and_eq_true, decide_eq_true_eq] at hs ⊢
  have fx := mo_fits hL ok dok (k := L.length) (by omega)
  have fy := mo_fits hL' ok' dok' (k := L.length) (by omega)
  have ex := ok.exact
  have dx := dok.exact
  have ex' := ok'.exact
  have dx' := dok'.exact
  rw [hl] at ex' dx' fy
  unfold lastM at hs ⊢
  simp only at hs ⊢
  rw [hl]
  constructor
  · -- the least moisture
    have hne := dx'.ne L.length (by omega)
    obtain ⟨s1, s2⟩ := dx'.low (los_le hL' _) (a := L.length) (by omega) (v := (gtS D' L.length).1) ⟨Int.le_refl _, hne⟩
    generalize chainS (gtS (losL L')) (gtS D') L.length (gtS D' L.length).1 = x at s1 s2
    have hnN := ex'.ne (L.length + 1) (Nat.le_refl _)
    obtain ⟨s3, s4⟩ := sol_dry s1 hnN
    have s5 := h.sol hlen ((ex'.sol x).1 s3)
    have hm := moist_low ex dx (los_le hL _) s5 (a := L.length) (by omega) (by omega) (by omega) (by omega) (by omega)
    rw [s2, s4] at hm
    omega
  · -- the greatest
    have h1 := (hsub L.length (by omega)).2
    have h2 := (hsub (L.length + 1) (by omega)).1
    have h3 := moI_mono (x := (gtS V' L.length).2) (y := (gtS V L.length).2) (s := (gtS V' (L.length + 1)).1) (by omega) h1 (by omega)
    have h4 := moI_anti (x := (gtS V L.length).2) (s := (gtS V (L.length + 1)).1) (r := (gtS V' (L.length + 1)).1) (by omega) h2
    omega
theorem par_of {bits : List Int} {r : List CAct} {d : List CDay} {b : CBox} {acts : List Int} (h : actE r d b acts = 0) : ParW b (parB bits b) (lossL r acts) (lossL (parR bits r r.length) acts) := by
  have hB := (tru_ok h).1.box
  have hp := parB_ok (bits := bits) hB
  exact ⟨by simp [lossL], los_par h, ⟨hp.2.1, hp.2.2.1⟩, ⟨hp.2.2.2.1, hp.2.2.2.2⟩⟩
end Go.Proofs.YtmemdglkkgmjnaaDoor.walk

namespace Go.Proofs.YtmemdglkkgmjnaaDoor.walk
open Go Go.Sh
set_option maxRecDepth 100000
set_option linter.unusedSimpArgs false
/-! CureNarrow -/
@[simp] theorem cfn47 (w : AW) (l : List Value) : callFn Tryd.prog w 47 l = .enter 47 l w := callFn_of (by kernel_rfl) l
theorem list22 : isList Tryd.prog 22 = true := by kernel_rfl
theorem elem22 : elemA Tryd.prog 22 = some 78 := by kernel_rfl
theorem sz78 : szOf Tryd.prog 78 = some 7 := by kernel_rfl
theorem small78 : smallT Tryd.prog 78 = true := by kernel_rfl
theorem act_sing (a : CAct) : singles (actC a) = true := rfl
theorem row_src {α : Type} {f : α → List Value} {sz : Nat} (hf : ∀ a, (f a).length = sz) (hz : 0 < sz) {w : AW} {b off : Nat} {sq : Option Nat} {c : Nat} {l : List α} (h : RowsA f w.heap w.next b off l) (h0 : 0 < l.length) : srcCells w sz (.slice (some ⟨b, off, sq⟩) l.length c) = some (l.flatMap f) := by
  obtain ⟨⟨pre, rest, e, ro, h1, h2⟩, _⟩ := h
  have e1 : Nat.beq (l.length * sz) 0 = false := by
    rw [← Bool.not_eq_true]; intro h
    have := Nat.eq_of_beq_eq_true h
    have := Nat.mul_pos h0 hz
    omega
  have hl := flat_length hf l
  show (bif Nat.beq (l.length * sz) 0 then some [] else rd w b off (l.length * sz)) = _
  rw [e1, cond_false, rd_eq, h1, rdO_cells, if_pos (by rw [List.length_append, List.length_append, hl, h2]; omega)]
  rw [← h2, List.drop_left, List.take_left' hl]
theorem wei_nil {r : List CAct} {d : List CDay} {b : CBox} {acts : List Int} (h : actE r d b acts = 0) : weiE r d b acts [] = match weighF b (lossL r acts) [] with | some _ => 0 | none => 65 := by
  have : rdE r d b acts [] = 0 := by unfold rdE rdsB; rw [if_pos h]; rfl
  unfold weiE; rw [if_pos this]
  cases weighF b (lossL r acts) [] <;> rfl
theorem snd_true {r : List CAct} {d : List CDay} {b : CBox} {acts : List Int} (h : actE r d b acts = 0) : sndB r d acts = true := by
  obtain ⟨hR, hD, hB, s, hs⟩ := act_ofE h
  unfold sndB chkE canB
  rw [if_pos hR, if_pos hD, hs]; rfl
/-! the loop that makes the rule narrower -/
structure In10 (w1 : AW) (C R : Nat) (cs : List Value) (row : List CAct) (w : AW) : Prop where
  box : w.heap.get C = some (.cells (.slice (some ⟨R, 0, none⟩) row.length row.length :: cs) 30 false)
  row : w.heap.get R = some (.cells (row.flatMap actC) 78 false)
  up : Up w1 w
  lt : C < w.next ∧ R < w.next
structure KeepA (t t' : Tm) : Prop where
  k3 : tget t' 3 = tget t 3
  k4 : tget t' 4 = tget t 4
  k6 : tget t' 6 = tget t 6
  k7 : tget t' 7 = tget t 7
  k10 : tget t' 10 = tget t 10
theorem part_cells {bits : List Int} {i : Nat} (x : CAct) : actC (parA bits i x) = [.int .i64 x.warm, .int .i64 x.behind, .bool x.dry, .bool x.first, .int .i64 x.most, .int .i64 (partS bits (x.ll, x.lh) (2 * (i : Int) + 3)).1, .int .i64 (partS bits (x.ll, x.lh) (2 * (i : Int) + 3)).2] := rfl
set_option maxHeartbeats 4000000 in
theorem loop10a {ov : Ov} (m : Nat) (h47 : HasP ov 47 S47.F) (r : List CAct) (hr : r.length ≤ 5) (hro : ∀ a ∈ r, 0 ≤ a.ll ∧ a.ll ≤ a.lh ∧ a.lh ≤ 100000000) (bits : List Int) (hbl : bits.length ≤ 2 ^ 60) (bv : Value) (w1 : AW) (cb : Nat) (hcb : cb < w1.next) (g5 : w1.heap.get cb = some (.cells [bv] 28 false)) (hbv : RowsV intC w1 bv bits) (hlim : w1.lim ≤ w1.next) (C R : Nat) (hC : w1.next ≤ C) (hR : w1.next ≤ R) (hCR : C ≠ R) (cs : List Value) (hcs : cs.length = 6)
    (Q : Ex → Tm → AW → Prop) (t : Tm) (w : AW) (hw : In10 w1 C R cs r w) (t9 : tget t 9 = .func (.func 47) ⟨[]⟩ ⟨[.pointer (some ⟨cb, 0, none⟩)]⟩) (t10 : tget t 10 = .pointer (some ⟨C, 0, none⟩)) (t11 : tget t 11 = .int .i64 0)
    (hQ : ∀ t' w', In10 w1 C R cs (parR bits r r.length) w' → KeepA t t' → Q (.exit 0) t' w') : wp (exY Tryd.prog (run Tryd.prog ov (m + 1)) (.loop mc10_l0) t w) Q := by
  refine wp_roundsY (fun i t' w' => In10 w1 C R cs (parR bits r i) w' ∧ KeepA t t' ∧ tget t' 9 = .func (.func 47) ⟨[]⟩ ⟨[.pointer (some ⟨cb, 0, none⟩)]⟩ ∧ tget t' 11 = .int .i64 (i : Nat) ∧ i ≤ r.length) 20 (by decide) ⟨by rw [parR_zero]; exact hw, ⟨rfl, rfl, rfl, rfl, rfl⟩, t9, by simpa using t11, Nat.zero_le _⟩ ?_
  clear t9 t11 hw
  rintro i t' w' ⟨hw, hk, t9, t11, hi⟩
  have u10 := hk.k10
  rw [t10] at u10
  have hbox := hw.box
  have hrow := hw.row
  rw [parR_length] at hbox
  have hl22 : ∀ (w : AW) p c, builtinA Tryd.prog w .len #[22] 3 [.slice p r.length c] = .val (.int .i64 (r.length : Nat)) w := fun w p c => rfl
  by_cases hlt : i < r.length
  · obtain ⟨x, hx⟩ : ∃ p, r[i]? = some p := ⟨_, List.getElem?_eq_getElem hlt⟩
    have hxr := hro x (List.mem_of_getElem? hx)
    have hpx : (parR bits r i)[i]? = some x := by rw [parR_at hx, if_neg (by omega)]
    have hia := fun w => ia22 w ⟨R, 0, none⟩ r.length r.length .i64 i hlt
    have hlt2 := hw.lt
    have hn := hw.up.next
    have hlm := hw.up.lim
    have hcl : ((parR bits r i).flatMap actC).length = r.length * 7 := by rw [flat_length actC_length, parR_length]
    have hld := flat_at actC_length (parR bits r i) i x [] hpx
    rw [List.append_nil] at hld
    have hle : i * 7 + 7 ≤ r.length * 7 := by omega
    have hst := flat_set actC_length (parR bits r i) i (parA bits i x) (by simpa using hlt)
    rw [parR_set hx, part_cells] at hst
    obtain ⟨rc, hrc⟩ : ∃ c, c = (parR bits r i).flatMap actC := ⟨_, rfl⟩
    rw [← hrc] at hrow hcl hld hst
    simp only [actC] at hld
    have hnC : ¬ C = w'.next := by omega
    have hnR : ¬ R = w'.next := by omega
    have hncb : ¬ cb = w'.next := by omega
    have hmC : ¬ w'.next = C := by omega
    have hmR : ¬ w'.next = R := by omega
    have hRC : ¬ R = C := fun h => hCR h.symm
    have lw : w'.lim ≤ w'.next := by omega
    have lwR : w'.lim ≤ R := by omega
    have w2 : IntKind.wrap .i64 (2 * (i : Int)) = 2 * (i : Int) := wrap64_in (by omega) (by omega)
    have w3 : IntKind.wrap .i64 (2 * (i : Int) + 3) = 2 * (i : Int) + 3 := wrap64_in (by omega) (by omega)
    have w4 : IntKind.wrap .i64 ((i : Int) + 1) = (i : Int) + 1 := wrap64_in (by omega) (by omega)
    obtain ⟨M, hM⟩ : ∃ M : AW, M = ⟨(w'.heap.put w'.next (some (.cells [.int .i64 0, .int .i64 0, .bool false, .bool false, .int .i64 0, .int .i64 0, .int .i64 0] 78 false))).put w'.next (some (.cells [.int .i64 x.warm, .int .i64 x.behind, .bool x.dry, .bool x.first, .int .i64 x.most, .int .i64 x.ll, .int .i64 x.lh] 78 false)), w'.next + 1, w'.lim⟩ := ⟨_, rfl⟩
    have uM : Up w1 M := by rw [hM]; exact (hw.up.add _).put (by omega) (Nat.le_refl _)
    have r47 := S47.call (P := Tryd.prog) h47 (m := m) (w := M) ⟨(x.ll, x.lh), 2 * (i : Int) + 3, cb, bv, bits, false, rfl, by rw [uM.at hcb]; exact g5, by have := uM.next; omega, hbv.up uM, hbl, hxr, by omega, by rw [hM]; show w'.lim ≤ w'.next + 1; omega, rfl⟩
    rw [hM] at r47
    obtain ⟨q, hq⟩ : ∃ q, q = partS bits (x.ll, x.lh) (2 * (i : Int) + 3) := ⟨_, rfl⟩
    rw [← hq] at r47 hst
    simp only [spC] at r47
    simp [mc10_l0, u10, t9, t11, hbox, hl22, hlt, hia, hrow, hcl, hld, hle, hnC, hnR, hmC, hmR, hCR, hRC, lw, lwR, w2, w3, w4, callV_func, r47]
    simp only [List.cons_append, List.nil_append] at hst
    refine ⟨by omega, ⟨?_, ?_, ?_, ?_⟩, ⟨by simp [hk.k3], by simp [hk.k4], by simp [hk.k6], by simp [hk.k7], by simp [hk.k10]⟩, by omega⟩
    · rw [parR_length]
      simp [hCR, hnC, hbox]
    · simp [hst]
    · exact (((hw.up.add _).put (by omega) (Nat.le_refl _)).put (by omega) (Nat.le_refl _)).put (by omega) (Nat.le_refl _)
    · exact ⟨by show C < w'.next + 1; omega, by show R < w'.next + 1; omega⟩
  · have : i = r.length := by omega
    subst this
    simp [mc10_l0, u10, t11, hbox, hl22]
    exact hQ _ _ hw ⟨by simp [hk.k3], by simp [hk.k4], by simp [hk.k6], by simp [hk.k7], by simp [hk.k10]⟩
theorem rule_range {r : List CAct} (h : ruleB r = true) : ∀ a ∈ r, 0 ≤ a.ll ∧ a.ll ≤ a.lh ∧ a.lh ≤ 100000000 := by
  intro a ha
  simp only [ruleB, Bool.and_eq_true] at h
  have := List.all_eq_true.1 h.2 a ha
  simp only [actB, inI, spanI, Bool.and_eq_true, decide_eq_true_eq] at this
  omega
theorem gtS_take {V : List Sp} {n k : Nat} (h : k < n) : gtS (V.take n) k = gtS V k := by
  unfold gtS
  rw [List.getD_eq_getElem?_getD, List.getD_eq_getElem?_getD, List.getElem?_take, if_pos h]
theorem surB_none {b : CBox} {L : List Sp} {lim : Sp} (h : weighF b L [] = none) : surB b L lim = false := by unfold surB; rw [h]
/-! the loop that compares -/
theorem loop10b {ov : Ov} (m : Nat) (X Y : List Sp) (n : Nat) (hX : X.length = n) (hY : Y.length = n) (hn : n ≤ 16) (hsub : ∀ k, k < n → subS (gtS Y k) (gtS X k)) (w : AW) (BX BY : Nat) (gX : w.heap.get BX = some (.cells (X.flatMap spC) 25 false)) (gY : w.heap.get BY = some (.cells (Y.flatMap spC) 25 false)) (hBX : BX < w.next) (hBY : BY < w.next)
    (Q : Ex → Tm → AW → Prop) (t : Tm) (t13 : tget t 13 = .slice (some ⟨BX, 0, none⟩) n n) (t14 : tget t 14 = .slice (some ⟨BY, 0, none⟩) n n) (t18 : tget t 18 = .int .i64 0)
    (hQ : ∀ t', Q (.exit 2) t' w) : wp (exM Tryd.prog (run Tryd.prog ov (m + 1)) (.loop mc10_l1) t w) Q := by
  refine wp_rounds (fun i t' w' => w' = w ∧ tget t' 13 = .slice (some ⟨BX, 0, none⟩) n n ∧ tget t' 14 = .slice (some ⟨BY, 0, none⟩) n n ∧ tget t' 18 = .int .i64 (i : Nat) ∧ i ≤ n) 20 (by decide) ⟨rfl, t13, t14, by simpa using t18, Nat.zero_le _⟩ ?_
  clear t13 t14 t18
  rintro i t' w' ⟨rfl, t13, t14, t18, hi⟩
  have hl43 : ∀ (w : AW) p c, builtinA Tryd.prog w .len #[43] 3 [.slice p n c] = .val (.int .i64 (n : Nat)) w := fun w p c => rfl
  by_cases hlt : i < n
  · have aX : RowsA spC w'.heap w'.next BX 0 X := ⟨⟨[], [], 25, false, by simpa using gX, rfl⟩, hBX⟩
    have aY : RowsA spC w'.heap w'.next BY 0 Y := ⟨⟨[], [], 25, false, by simpa using gY, rfl⟩, hBY⟩
    have hXi := gtS_at (W := X) (i := i) (by omega)
    have hYi := gtS_at (W := Y) (i := i) (by omega)
    have x0 := aX.rd1 spC_length hXi (j := 0) rfl
    have x1 := aX.rd1 spC_length hXi (j := 1) rfl
    have y0 := aY.rd1 spC_length hYi (j := 0) rfl
    have y1 := aY.rd1 spC_length hYi (j := 1) rfl
    simp only [Nat.zero_add, Nat.add_zero] at x0 x1 y0 y1
    have hiX := fun w => ia43 w ⟨BX, 0, none⟩ n n .i64 i hlt
    have hiY := fun w => ia43 w ⟨BY, 0, none⟩ n n .i64 i hlt
    have hw1 : IntKind.wrap .i64 ((i : Int) + 1) = (i : Int) + 1 := wrap64_in (by omega) (by omega)
    obtain ⟨s1, s2⟩ := hsub i hlt
    have e1 : ¬ (gtS Y i).1 < (gtS X i).1 := by omega
    have e2 : ¬ (gtS Y i).2 > (gtS X i).2 := by omega
    have e2' : ¬ (gtS X i).2 < (gtS Y i).2 := by omega
    simp [mc10_l1, t13, t14, t18, hl43, hlt, hiX, hiY, x0, x1, y0, y1, e1, e2, e2', hw1]
    exact ⟨by omega, hlt⟩
  · have : i = n := by omega
    subst this
    simp [mc10_l1, t13, t18, hl43]
    exact hQ _
set_option maxHeartbeats 4000000 in
theorem call10 {ov : Ov} (ho : ∀ args w, ov 10 args w = none) (ho20 : ∀ args w, ov 20 args w = none) (ho57 : ∀ args w, ov 57 args w = none) (ho62 : ∀ args w, ov 62 args w = none) (ho63 : ∀ args w, ov 63 args w = none)
    (h29 : HasP ov 29 S29.F) (h33 : HasP ov 33 S33.F) (h47 : HasP ov 47 S47.F) (h64 : HasP ov 64 S64.F) (h68 : HasP ov 68 S68.F) (h86 : HasP ov 86 S86.F) (hW : HasW ov)
    (r : List CAct) (d : List CDay) (b : CBox) (acts : List Int) (lim : Sp) (bits : List Int) (hbl : bits.length ≤ 2 ^ 60) (rv dv av bv : Value) (w : AW) (hl : w.lim = w.next) (hL : LimW w) (hrv : RowsV actC w rv r) (hdv : RowsV cdayC w dv d) (hav : RowsV intC w av acts) (hbv : RowsV intC w bv bits) :
    ∃ x w', (run Tryd.prog ov 4).call 10 [.agg ⟨curC rv dv b av⟩, .agg ⟨spC lim⟩, bv] w .none = .ok (.ret x) w' .none ∧ x = .bool true := by
  refine call_wpY text10 (by simp) (ho _ _) ?_
  have bvs : cellsOf bv = [bv] := by obtain ⟨p, q, rfl⟩ := hbv.len; rfl
  obtain ⟨w1, hw1e⟩ : ∃ w1 : AW, w1 = ⟨((w.heap.put w.next (some (.cells [rv, dv, .int .i64 b.wl, .int .i64 b.wh, .int .i64 b.sl, .int .i64 b.sh, av] 30 false))).put (w.next + 1) (some (.cells [.int .i64 lim.1, .int .i64 lim.2] 25 false))).put (w.next + 1 + 1) (some (.cells [bv] 28 false)), w.next + 1 + 1 + 1, w.lim⟩ := ⟨_, rfl⟩
  have u1 : Up w w1 := by rw [hw1e]; exact (((Up.refl w).add _).put (Nat.le_succ _) (Nat.le_succ _)).put (by show w.next ≤ w.next + 1 + 1; omega) (Nat.le_succ _)
  have n1 : w1.next = w.next + 1 + 1 + 1 := by rw [hw1e]
  have l1 : w1.lim = w.lim := u1.lim
  have g3 : w1.heap.get w.next = some (.cells [rv, dv, .int .i64 b.wl, .int .i64 b.wh, .int .i64 b.sl, .int .i64 b.sh, av] 30 false) := by rw [hw1e]; simp
  have g4 : w1.heap.get (w.next + 1) = some (.cells [.int .i64 lim.1, .int .i64 lim.2] 25 false) := by rw [hw1e]; simp
  have g5 : w1.heap.get (w.next + 1 + 1) = some (.cells [bv] 28 false) := by rw [hw1e]; simp
  have r29 := S29.call (P := Tryd.prog) h29 (m := 2) (w := w1) ⟨rv, dv, av, r, d, b, acts, lim, rfl, hrv.up u1, hdv.up u1, hav.up u1, hL.up u1, by omega, rfl⟩
  have rW := fun (w : AW) hw => ruleW hW 2 (w := w) hw
  have r33 := S33.call (P := Tryd.prog) h33 (m := 2) (w := w1) ⟨rv, dv, av, r, d, b, acts, rfl, hrv.up u1, hdv.up u1, hav.up u1, hL.up u1, rfl⟩
  have rW1 := rW w1 (hL.up u1).1
  simp only [curC, spC, boxC, Nat.reduceAdd] at r29 r33 rW1 ⊢
  by_cases hA : actE r d b acts = 0
  case neg =>
    have e : reachR r d b acts lim = .tuple ⟨[.bool false, .int .i64 (actE r d b acts)]⟩ := by unfold reachR; rw [if_neg hA]
    rw [e] at r29
    rw [hw1e] at r29 r33 rW1
    simp [mc10, cellsOf_agg, bvs, r29, hA, rW1, tupV]
  by_cases hS : spanI lim.1 lim.2 0 1000 = true
  case neg =>
    have e : reachR r d b acts lim = .tuple ⟨[.bool false, .int .i64 7]⟩ := by unfold reachR; rw [if_pos hA, if_neg hS]
    rw [e] at r29
    rw [hw1e] at r29 r33 rW1
    simp [mc10, cellsOf_agg, bvs, r29, rW1, tupV]
  have e29 : reachR r d b acts lim = .tuple ⟨[.bool (surB b (lossL r acts) lim), .int .i64 0]⟩ := by unfold reachR; rw [if_pos hA, if_pos hS]
  rw [e29, hw1e] at r29
  rw [snd_true hA, hw1e] at r33
  obtain ⟨hR, hD, hB, s0, hs0⟩ := act_ofE hA
  have hrl := rule_len hR
  have hbx := hB
  simp only [boxB, spanI, Bool.and_eq_true, decide_eq_true_eq] at hbx
  -- the other box
  obtain ⟨w2, hw2e⟩ : ∃ w2 : AW, w2 = ⟨(w1.heap.put w1.next (some (.cells [.slice none 0 0, .slice none 0 0, .int .i64 0, .int .i64 0, .int .i64 0, .int .i64 0, .slice none 0 0] 30 false))).put w1.next (some (.cells [rv, dv, .int .i64 b.wl, .int .i64 b.wh, .int .i64 b.sl, .int .i64 b.sh, av] 30 false)), w1.next + 1, w1.lim⟩ := ⟨_, rfl⟩
  have u2 : Up w1 w2 := by rw [hw2e]; exact ((Up.refl w1).add _).put (Nat.le_refl _) (Nat.le_refl _)
  have n2 : w2.next = w.next + 1 + 1 + 1 + 1 := by rw [hw2e, ← n1]
  have l2 : w2.lim = w.lim := by rw [u2.lim, l1]
  have u12 := u1.trans u2
  have r47 := fun (w' : AW) (s : Sp) (n : Int) hg hc hb hs hn hw => S47.call (P := Tryd.prog) h47 (m := 2) (w := w') ⟨s, n, w.next + 1 + 1, bv, bits, false, rfl, hg, hc, hb, hbl, hs, hn, hw, rfl⟩
  have g52 : w2.heap.get (w.next + 1 + 1) = some (.cells [bv] 28 false) := by rw [u2.at (by omega)]; exact g5
  have r47a := r47 w2 (b.wl, b.wh) 0 g52 (by omega) (hbv.up u12) (by simp only; omega) (by decide) (by omega)
  have r47b := r47 w2 (b.sl, b.sh) 2 g52 (by omega) (hbv.up u12) (by simp only; omega) (by decide) (by omega)
  obtain ⟨b', hb'⟩ : ∃ b', b' = parB bits b := ⟨_, rfl⟩
  have ebw : partS bits (b.wl, b.wh) 0 = (b'.wl, b'.wh) := by rw [hb']; rfl
  have ebs : partS bits (b.sl, b.sh) 2 = (b'.sl, b'.sh) := by rw [hb']; rfl
  rw [ebw] at r47a
  rw [ebs] at r47b
  simp only [spC, Nat.reduceAdd] at r47a r47b
  rw [hw2e, hw1e] at r47a r47b
  -- the copy of the rule
  obtain ⟨rb, roff, rsq, rc, rfl, hra⟩ := hrv.at_ 0 (by omega)
  have lwn : w.lim ≤ w.next + 1 + 1 + 1 := by omega
  have avs : ∃ p q, av = .slice p acts.length q := hav.len
  obtain ⟨ap, aq, rfl⟩ := avs
  obtain ⟨dp, dq, rfl⟩ := hdv.len
  obtain ⟨w3, hw3e⟩ : ∃ w3 : AW, w3 = ⟨(w2.heap.put (w.next + 1 + 1 + 1) (some (.cells [.slice (some ⟨rb, roff, rsq⟩) r.length rc, .slice dp d.length dq, .int .i64 b'.wl, .int .i64 b'.wh, .int .i64 b'.sl, .int .i64 b'.sh, .slice ap acts.length aq] 30 false))).put (w.next + 1 + 1 + 1 + 1) (some (.cells [] 78 false)), w.next + 1 + 1 + 1 + 1 + 1, w.lim⟩ := ⟨_, rfl⟩
  have u13 : Up w1 w3 := by
    rw [hw3e]
    have : Up w1 ⟨w2.heap, w.next + 1 + 1 + 1 + 1, w.lim⟩ := by rw [← n2, ← l2]; exact u2
    exact (this.put (by omega) (Nat.le_refl _)).put (by omega) (Nat.le_succ _)
  have hflat : (r.flatMap actC).length = r.length * 7 := flat_length actC_length r
  have hap := append_full (P := Tryd.prog) list22 elem22 sz78 small78 (w := w3) (B := w.next + 1 + 1 + 1 + 1) (n := 0) (m := r.length) (c := []) (new := r.flatMap actC) (x := .slice (some ⟨rb, roff, rsq⟩) r.length rc) rfl (row_src actC_length (by decide) (hra.old (u1.trans u13).old (u1.trans u13).next) (by omega)) hflat (flat_singles act_sing _) (by omega) (by omega) (by rw [hw3e]; simp) rfl (by rw [hw3e]; show w.lim ≤ w.next + 1 + 1 + 1 + 1; omega)
  simp only [Nat.zero_add, List.nil_append] at hap
  rw [hw3e, hw2e, hw1e] at hap
  simp only at hap
  simp [mc10, cellsOf_agg, bvs, r29, r33, callV_func, r47a, r47b, lwn, hap]
  refine wp_seqX (wp_blockX (loop10a 2 h47 r (by omega) (rule_range hR) bits hbl bv w1 (w.next + 1 + 1) (by omega) g5 (hbv.up u1) (by omega) (w.next + 1 + 1 + 1) (w.next + 1 + 1 + 1 + 1 + 1) (by omega) (by omega) (by omega) [.slice dp d.length dq, .int .i64 b'.wl, .int .i64 b'.wh, .int .i64 b'.sl, .int .i64 b'.sh, .slice ap acts.length aq] rfl _ _ _ ?_ (by simp) (by simp) (by simp) ?_))
  · refine ⟨by simp, by simp, ⟨fun x hx => ?_, ?_, ?_⟩, ?_, ?_⟩
    · rw [n1] at hx
      have e0 : ¬ x = w.next + 1 + 1 + 1 := by omega
      have e1 : ¬ x = w.next + 1 + 1 + 1 + 1 := by omega
      have e2 : ¬ x = w.next + 1 + 1 + 1 + 1 + 1 := by omega
      rw [hw1e]
      simp [e0, e1, e2]
    · rw [n1]; simp only; omega
    · rw [l1]
    · simp only; omega
    · simp only; omega
  rintro t4 w4 hw4 k4
  have q3 := k4.k3
  have q4 := k4.k4
  have q6 := k4.k6
  have q7 := k4.k7
  have q10 := k4.k10
  simp at q3 q4 q6 q7 q10
  have u4 := hw4.up
  have g43 : w4.heap.get w.next = some (.cells [.slice (some ⟨rb, roff, rsq⟩) r.length rc, .slice dp d.length dq, .int .i64 b.wl, .int .i64 b.wh, .int .i64 b.sl, .int .i64 b.sh, .slice ap acts.length aq] 30 false) := by rw [u4.at (by omega)]; exact g3
  have g44 : w4.heap.get (w.next + 1) = some (.cells [.int .i64 lim.1, .int .i64 lim.2] 25 false) := by rw [u4.at (by omega)]; exact g4
  have u04 := u1.trans u4
  have hu4n := u4.next
  have hn4 := u04.next
  have hl4 := u04.lim
  have hnil : ∀ w' : AW, RowsV readC w' (.slice none 0 0) [] := fun w' => .inl ⟨rfl, none, 0, rfl⟩
  obtain ⟨v5, w5, c5, ⟨x5, rfl, x5n, x5z⟩, u5⟩ := call20 (ov := ov) 0 ho20 ho57 ho62 ho63 h64 h68 h86 r d b acts [] _ _ _ (.slice none 0 0) w4 (by omega) (hL.up u04) (hrv.up u04) (hdv.up u04) (hav.up u04) (hnil w4)
  have u05 := u04.trans u5
  have hn5 := u05.next
  have hl5 := u05.lim
  have hA' := act_par (bits := bits) hA
  rw [← hb'] at hA'
  obtain ⟨r', hr'⟩ : ∃ r', r' = parR bits r r.length := ⟨_, rfl⟩
  have hr'l : r'.length = r.length := by rw [hr', parR_length]
  have hbx4 := hw4.box
  have hrw4 := hw4.row
  rw [← hr'] at hA' hbx4 hrw4
  rw [hr'l] at hbx4
  have g55 : w5.heap.get (w.next + 1 + 1 + 1) = _ := (u5.at hw4.lt.1).trans hbx4
  have g5r : w5.heap.get (w.next + 1 + 1 + 1 + 1 + 1) = _ := (u5.at hw4.lt.2).trans hrw4
  have hrv' : RowsV actC w5 (.slice (some ⟨w.next + 1 + 1 + 1 + 1 + 1, 0, none⟩) r.length r.length) r' := by
    refine .inr ⟨w.next + 1 + 1 + 1 + 1 + 1, 0, none, r.length, by rw [hr'l], ⟨[], [], 78, false, by simpa using g5r, rfl⟩, Nat.lt_of_lt_of_le hw4.lt.2 u5.next⟩
  obtain ⟨v6, w6, c6, ⟨x6, rfl, x6n, x6z⟩, u6⟩ := call20 (ov := ov) 0 ho20 ho57 ho62 ho63 h64 h68 h86 r' d b' acts [] _ _ _ (.slice none 0 0) w5 (by omega) (hL.up u05) hrv' (hdv.up u05) (hav.up u05) (hnil w5)
  have u06 := u05.trans u6
  have hn6 := u06.next
  have hl6 := u06.lim
  have g65 : w6.heap.get (w.next + 1 + 1 + 1) = _ := (u6.at (Nat.lt_of_lt_of_le hw4.lt.1 u5.next)).trans g55
  have g64 : w6.heap.get (w.next + 1) = _ := ((u5.trans u6).at (by omega)).trans g44
  have r29y := S29.call (P := Tryd.prog) h29 (m := 2) (w := w6) ⟨_, _, _, r', d, b', acts, lim, rfl, hrv'.up u6, hdv.up u06, hav.up u06, hL.up u06, by omega, rfl⟩
  have e29y : reachR r' d b' acts lim = .tuple ⟨[.bool (surB b' (lossL r' acts) lim), .int .i64 0]⟩ := by unfold reachR; rw [if_pos hA', if_pos hS]
  rw [e29y] at r29y
  have rW6 := rW w6 (hL.up u06).1
  -- what weighing says
  have hP := par_of (bits := bits) hA
  rw [← hb', ← hr'] at hP
  obtain ⟨hT, h14, _⟩ := tru_ok hA
  have hLl : (lossL r acts).length = acts.length := lossL_length r acts
  have hLl' : (lossL r' acts).length = acts.length := lossL_length r' acts
  have eX := wei_nil hA
  have eY := wei_nil hA'
  have losA := los_ok hA
  have losB := los_ok hA'
  have hB' := (act_ofE hA').2.2.1
  simp only [boxC, spC, curC, Nat.zero_add, Nat.reduceAdd] at c5 c6 r29y
  cases hVy : weighF b' (lossL r' acts) [] with
  | none =>
    rw [hVy] at eY
    simp only at eY
    have nx6 : x6 = .slice none 0 0 := x6n (by rw [eY]; decide)
    subst nx6
    rw [eY] at c6
    have es := surB_none (lim := lim) hVy
    rw [es] at r29y
    cases hVx : weighF b (lossL r acts) [] with
    | none =>
      rw [hVx] at eX
      simp only at eX
      have nx5 : x5 = .slice none 0 0 := x5n (by rw [eX]; decide)
      subst nx5
      rw [eX] at c5
      simp [blockQ, q3, q4, q6, q7, q10, g43, g44, c5, g55, c6, g65, g64, r29y, rW6, tupV]
    | some V =>
      rw [hVx] at eX
      simp only at eX
      obtain ⟨_, _, BX, hx5, gX, lX⟩ := x5z eX
      subst hx5
      rw [eX] at c5
      simp [blockQ, q3, q4, q6, q7, q10, g43, g44, c5, g55, c6, g65, g64, r29y, rW6, tupV]
  | some V' =>
    obtain ⟨V, hV, hsub⟩ := wei_par hB hB' losA losB (by omega) hP hVy
    rw [hV] at eX
    rw [hVy] at eY
    simp only at eX eY
    obtain ⟨V2, hV2, BX, hx5, gX, lX⟩ := x5z eX
    obtain ⟨V3, hV3, BY, hx6, gY, lY⟩ := x6z eY
    rw [hV] at hV2
    rw [hVy] at hV3
    cases hV2
    cases hV3
    have okX := (weigh_ok hB losA (by omega) hV).good.len
    have okY := (weigh_ok hB' losB (by omega) hVy).good.len
    have lX2 : (V.take ((lossL r acts).length + 1)).length = acts.length + 1 := by rw [List.length_take]; omega
    have lY2 : (V'.take ((lossL r' acts).length + 1)).length = acts.length + 1 := by rw [List.length_take]; omega
    rw [lX2] at hx5
    rw [lY2] at hx6
    subst hx5 hx6
    rw [eX] at c5
    rw [eY] at c6
    have hl43 : ∀ (w : AW) p c, builtinA Tryd.prog w .len #[43] 3 [.slice p (acts.length + 1) c] = .val (.int .i64 ((acts.length + 1 : Nat) : Int)) w := fun w p c => rfl
    have hsur : surB b (lossL r acts) lim = true → surB b' (lossL r' acts) lim = true := sur_par hB hB' losA losB (by omega) hP hVy
    have hlp := loop10b (ov := ov) 2 (V.take ((lossL r acts).length + 1)) (V'.take ((lossL r' acts).length + 1)) (acts.length + 1) lX2 lY2 (by omega) (fun k hk => by rw [gtS_take (by omega), gtS_take (by omega)]; exact hsub k (by omega)) w6 BX BY (by rw [u6.at lX]; exact gX) gY (by have := u6.next; omega) lY
    cases hsx : surB b (lossL r acts) lim with
    | true =>
      rw [hsur hsx] at r29y
      rw [hsx] at q7
      simp [blockQ, q3, q4, q6, q7, q10, g43, g44, c5, g55, c6, g65, g64, r29y, rW6, hl43, tupV]
      refine wp_seqX (wp_blockX (hlp _ _ (by simp) (by simp) (by simp) fun t' => ?_))
      simp [blockQ, rW6, tupV]
    | false =>
      rw [hsx] at q7
      simp [blockQ, q3, q4, q6, q7, q10, g43, g44, c5, g55, c6, g65, g64, r29y, rW6, hl43, tupV]
      refine wp_seqX (wp_blockX (hlp _ _ (by simp) (by simp) (by simp) fun t' => ?_))
      simp [blockQ, rW6, tupV]
end Go.Proofs.YtmemdglkkgmjnaaDoor.walk
