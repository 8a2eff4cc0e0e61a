/- Part of a proof by a machine of ones own: see the text with the theorem. -/
import Derived.Test.YthfidomphkednaaAWb
namespace Go.Proofs.Ythfidomphkednaa.walk
open Go Go.Sh
set_option maxRecDepth 100000
set_option linter.unusedSimpArgs false
set_option linter.unusedVariables false
theorem slice_head {P : Program} {st e : TypeId} {sz : Nat} (h1 : elemA P st = some e) (h2 : szOf P e = some sz) {w : AW} {a : Addr} {n c k : Nat} {cs : List Value} {e' : TypeId} {ro : Bool} (hg : w.heap.get a.block = some (.cells cs e' ro)) (hk : k ≤ c) :
    sliceA P w st (.slice (some a) n c) none (some (.int .i64 (k : Int))) none = .val (.slice (some ⟨a.block, a.off, bif Nat.beq e e' && a.spot.isNone then none else some 1⟩) k c) w := by
  show sliceA P w st (.slice (some a) n c) none (some (.int .i64 (Int.ofNat k))) none = _
  have hb' : Nat.ble k c = true := Nat.ble_eq_true_of_le hk
  simp [sliceA, sliceB1, h1, h2, sliceRow, boundA, hb', cutR, cutAddr, rowElem, hg]
theorem elem23 : elemA Try.prog 23 = some 46 := by kernel_rfl
theorem sz46 : szOf Try.prog 46 = some 3 := by kernel_rfl
theorem eq_bt (a b c d : Int) : sameL [0, 0, 0] [.int .i64 a, .int .i64 b, .int .i64 0] [.int .i64 c, .int .i64 d, .int .i64 0] = some (decide (a = c) && decide (b = d)) := by
  simp [sameL, same1, sameInt, sameK_refl, intEq_eq]
  try (by_cases h1 : a = c <;> by_cases h2 : b = d <;> simp [h1, h2])
def dsB (ds : List Dt) (d : Dt) (k : Nat) : Bool := match ds[k]? with
  | some e => !(decide (d.f = e.f) && decide (d.t = e.t))
  | none => true
def dtB (ps : List Pt) (ds : List Dt) (i : Nat) : Bool := match ds[i]? with
  | some d => inI 0 d.f ((ps.length : Int) - 1) && (inI 0 d.t ((ps.length : Int) - 1) && (!decide (d.f = d.t) && (inI 1 d.c 100000 && (List.range i).all (dsB ds d))))
  | none => true
def debB (ps : List Pt) (ds : List Dt) : Bool := decide (ds.length ≤ 16) && (List.range ds.length).all (dtB ps ds)
def S66 : PSpec where
  R args w v := ∃ (pv dv : Value) (ps : List Pt) (ds : List Dt), args = [.agg ⟨[pv, dv]⟩] ∧ LedV w pv dv ps ds ∧ ps.length ≤ 1000 ∧ v = .bool (debB ps ds)
  uniq := by
    rintro _ _ _ _ ⟨pv, dv, ps, ds, rfl, h1, _, rfl⟩ ⟨pv', dv', ps', ds', h, k1, _, rfl⟩
    simp only [List.cons.injEq, Value.agg.injEq, Array.mk.injEq, and_true] at h
    obtain ⟨rfl, rfl⟩ := h
    rw [h1.uniqP k1, h1.uniqD k1]
  shut := by
    rintro _ _ _ ⟨pv, dv, ps, ds, h1, h2, h3⟩
    exact ⟨pv, dv, ps, ds, h1, h2.shut, h3⟩
theorem loop66 {ov : Ov} (h76 : HasP ov 76 S76.F) (dv : Value) (ds : List Dt) (h16 : ds.length ≤ 16) (d : Dt) (i : Nat) (hi16 : i ≤ ds.length) (we w2 : AW) (hD : RowsV dtC we dv ds) (u2 : Up we w2) (hl : w2.lim ≤ w2.next) (B4 : Nat) (hB : B4 < w2.next) (g4 : w2.heap.get B4 = some (.cells (dtC d) 46 false)) (b off : Nat) (sq : Option Nat) (c : Nat) (hra : RowsA dtC w2.heap w2.next b off ds) (v1 v12 v13 v14 : Value)
    (Q : Ex → Tm → AW → Prop) (t : Tm) (t1 : tget t 1 = v1) (t12 : tget t 12 = v12) (t13 : tget t 13 = v13) (t14 : tget t 14 = v14) (t4 : tget t 4 = .pointer (some ⟨B4, 0, none⟩)) (t47 : tget t 47 = .slice (some ⟨b, off, sq⟩) i c) (t48 : tget t 48 = .int .i64 (i : Nat)) (t49 : tget t 49 = .int .i64 0)
    (hQ : ∀ t w', Up w2 w' → okR (dsB ds d) i → tget t 1 = v1 → tget t 12 = v12 → tget t 13 = v13 → tget t 14 = v14 → Q (.exit 2) t w')
    (hR : ∀ t w', (∃ k, k < i ∧ dsB ds d k = false) → tget t 2 = .bool false → Q .ret t w') : wp (exM Try.prog (run Try.prog ov 1) (.loop mc66_l1) t w2) Q := by
  refine wp_rounds (fun k t w' => Up w2 w' ∧ tget t 1 = v1 ∧ tget t 12 = v12 ∧ tget t 13 = v13 ∧ tget t 14 = v14 ∧ tget t 4 = .pointer (some ⟨B4, 0, none⟩) ∧ tget t 47 = .slice (some ⟨b, off, sq⟩) i c ∧ tget t 48 = .int .i64 (i : Nat) ∧ tget t 49 = .int .i64 (k : Nat) ∧ k ≤ i ∧ okR (dsB ds d) k) 20 (by decide) ⟨Up.refl _, t1, t12, t13, t14, t4, t47, t48, by simpa using t49, Nat.zero_le _, okR.zero _⟩ ?_
  clear t1 t12 t13 t14 t4 t47 t48 t49
  rintro k t w' ⟨hu, t1, t12, t13, t14, t4, t47, t48, t49, hk, hall⟩
  have hlm := hu.lim
  have hnx := hu.next
  by_cases hlt : k < i
  · obtain ⟨e, he⟩ : ∃ e, ds[k]? = some e := ⟨_, List.getElem?_eq_getElem (by omega)⟩
    have hra' := hra.old hu.old hu.next
    have hld := hra'.rd dtC_length he
    have hia := fun w => ia23 w ⟨b, off, sq⟩ i c .i64 k hlt
    have g := hu.at hB
    rw [g4] at g
    have r76 := fun d w => S76.call1 (P := Try.prog) h76 (w := w) ⟨d, rfl, rfl⟩
    have r1 := r76 d
    have r2 := r76 e
    have hb : dsB ds d k = !(decide (d.f = e.f) && decide (d.t = e.t)) := by unfold dsB; rw [he]
    obtain ⟨df, dt, dc⟩ := d
    obtain ⟨ef, et, ec⟩ := e
    simp only [dtC] at hld g r1 r2
    simp only at hb
    have q0 : ¬ B4 = w'.next := by omega
    have q5 : w'.lim ≤ w'.next := by omega
    have hw1' : IntKind.wrap .i64 ((k : Int) + 1) = (k : Int) + 1 := wrap64_in (by omega) (by omega)
    have hsm : ∀ a b c : Int, sameVal 5 (.agg ⟨[.int .i64 a, .int .i64 b, .int .i64 c]⟩) (.agg ⟨[.int .i64 a, .int .i64 b, .int .i64 c]⟩) = true := fun a b c => same_agg _ (by
      intro v hv
      simp only [List.mem_cons, List.not_mem_nil, or_false] at hv
      rcases hv with rfl | rfl | rfl <;> exact sameN_int _ _ _)
    cases hE : (decide (df = ef) && decide (dt = et)) with
    | true =>
      rw [hE] at hb
      simp [mc66_l1, t1, t12, t13, t14, t4, t47, t48, t49, hlt, hia, hld, g, q0, q5, r1, r2, eq_bt, hE, hsm]
      exact hR _ _ ⟨k, hlt, hb⟩ (by simp)
    | false =>
      rw [hE] at hb
      have hm := hall.succ hb
      simp [mc66_l1, t1, t12, t13, t14, t4, t47, t48, t49, hlt, hia, hld, g, q0, q5, r1, r2, eq_bt, hE, hsm, hw1']
      exact ⟨by omega, (hu.add _).put hu.next (Nat.le_refl _), hlt, hm⟩
  · have hk' : k = i := by omega
    subst hk'
    simp [mc66_l1, t48, t49]
    exact hQ _ _ hu hall (by simp [t1]) (by simp [t12]) (by simp [t13]) (by simp [t14])
set_option maxHeartbeats 1000000 in
theorem run66 {ov : Ov} (ho : ∀ args w, ov 66 args w = none) (h54 : HasP ov 54 S54.F) (h57 : HasP ov 57 S32.F) (h76 : HasP ov 76 S76.F) (pv dv : Value) (ps : List Pt) (ds : List Dt) (w : AW) (hl : w.lim = w.next) (hL : LedV w pv dv ps ds) (hn : ps.length ≤ 1000) : ∃ v w', (run Try.prog ov 2).call 66 [.agg ⟨[pv, dv]⟩] w .none = .ok (.ret v) w' .none ∧ v = .bool (debB ps ds) := by
  refine call_wp text66 (by simp) (ho _ _) ?_
  have hl1 := fun w2 => len23V (w' := w2) hL.d
  by_cases h16 : 16 < ds.length
  · have e : debB ps ds = false := by unfold debB; rw [decide_eq_false (by omega)]; rfl
    have h16' : (16 : Int) < (ds.length : Int) := by omega
    simp [mc66, cellsOf_agg, hl1, h16', tupV, e]
  · have h16' : ¬ (16 : Int) < (ds.length : Int) := by omega
    obtain ⟨w1, hw1⟩ : ∃ w1, w1 = (⟨w.heap.put w.next (some (.cells [pv, dv] 25 false)), w.next + 1, w.lim⟩ : AW) := ⟨_, rfl⟩
    have u1 : Up w w1 := hw1 ▸ (Up.refl w).add _
    have n1 : w1.next = w.next + 1 := by rw [hw1]
    have m1 : w1.lim = w.lim := by rw [hw1]
    have g1 : w1.heap.get w.next = some (.cells [pv, dv] 25 false) := by rw [hw1]; simp
    simp [mc66, cellsOf_agg, hl1, h16']
    rw [← hw1]
    refine wp_seqX (wp_blockX (wp_rounds (fun i t w' => Up w1 w' ∧ tget t 1 = .pointer (some ⟨w.next, 0, none⟩) ∧ tget t 12 = dv ∧ tget t 13 = .int .i64 (ds.length : Nat) ∧ tget t 14 = .int .i64 (i : Nat) ∧ i ≤ ds.length ∧ okR (dtB ps ds) i) 20 (by decide) ⟨Up.refl _, by simp, by simp, by simp, by simp, Nat.zero_le _, okR.zero _⟩ ?_))
    rintro i t w' ⟨hu, t1, t12, t13, t14, hi, hall⟩
    have hlm := hu.lim
    have hnx := hu.next
    by_cases hlt : i < ds.length
    · obtain ⟨d, hd⟩ : ∃ e, ds[i]? = some e := ⟨_, List.getElem?_eq_getElem hlt⟩
      have hLw := hL.up (u1.trans hu)
      obtain ⟨b, off, sq, c, rfl, hra⟩ := hLw.d.at_ i hlt
      obtain ⟨_, _, _, hcap, hcap'⟩ := hLw.cd
      cases hcap
      have hld := hra.rd dtC_length hd
      have hia := fun w => ia23 w ⟨b, off, sq⟩ ds.length c .i64 i hlt
      have g := hu.at (b := w.next) (by omega)
      rw [g1] at g
      have q0 : ¬ w.next = w'.next := by omega
      have q5 : w'.lim ≤ w'.next := by omega
      have hw1' : IntKind.wrap .i64 ((i : Int) + 1) = (i : Int) + 1 := wrap64_in (by omega) (by omega)
      have hdt : dtB ps ds i = (inI 0 d.f ((ps.length : Int) - 1) && (inI 0 d.t ((ps.length : Int) - 1) && (!decide (d.f = d.t) && (inI 1 d.c 100000 && (List.range i).all (dsB ds d))))) := by unfold dtB; rw [hd]
      have hbad : dtB ps ds i = false → debB ps ds = false := fun h => by unfold debB; rw [okR.bad hlt h, Bool.and_false]
      obtain ⟨w2, hw2⟩ : ∃ w2, w2 = (⟨(w'.heap.put w'.next (some (.cells [.int .i64 0, .int .i64 0, .int .i64 0] 46 false))).put w'.next (some (.cells (dtC d) 46 false)), w'.next + 1, w'.lim⟩ : AW) := ⟨_, rfl⟩
      have u2 : Up w' w2 := hw2 ▸ ((Up.refl w').add _).put (Nat.le_refl _) (Nat.le_refl _)
      have n2 : w2.next = w'.next + 1 := by rw [hw2]
      have m2 : w2.lim = w'.lim := by rw [hw2]
      have g4 : w2.heap.get w'.next = some (.cells (dtC d) 46 false) := by rw [hw2]; simp
      have hra2 : RowsA dtC w2.heap w2.next b off ds := hra.old u2.old u2.next
      obtain ⟨⟨pre, rest, e', ro, hcs, _⟩, _⟩ := id hra2
      have hsl := slice_head elem23 sz46 (w := w2) (a := ⟨b, off, sq⟩) (n := ds.length) (c := c) (k := i) hcs (by omega)
      obtain ⟨s', hs'⟩ : ∃ s', s' = (bif Nat.beq 46 e' && sq.isNone then none else some 1) := ⟨_, rfl⟩
      simp only [← hs'] at hsl
      have r54 := fun i => S54.call1 (P := Try.prog) h54 (w := w2) ⟨pv, .slice (some ⟨b, off, sq⟩) ds.length c, ps, i, rfl, hLw.p.up u2, hn, rfl⟩
      have r57 := fun n a b w => S32.call1 (P := Try.prog) h57 (w := w) ⟨n, a, b, rfl, rfl⟩
      have key := fun Q t sq' => loop66 (ov := ov) h76 (.slice (some ⟨b, off, sq⟩) ds.length c) ds (by omega) d i hi w' w2 hLw.d u2 (by omega) w'.next (by omega) g4 b off sq' c hra2 (.pointer (some ⟨w.next, 0, none⟩)) (.slice (some ⟨b, off, sq⟩) ds.length c) (.int .i64 (ds.length : Nat)) (.int .i64 (i : Nat)) Q t
      rw [hw2] at hsl r54 key
      obtain ⟨df, dt, dc⟩ := d
      simp only [dtC] at hld hsl r54 key
      simp only at hdt
      cases k1 : inI 0 df ((ps.length : Int) - 1) with
      | false =>
        have e := hbad (by rw [hdt, k1]; rfl)
        simp [mc66_l0, t1, t12, t13, t14, hlt, hia, hld, g, q0, q5, r54, r57, k1, tupV, e]
      | true =>
      cases k2 : inI 0 dt ((ps.length : Int) - 1) with
      | false =>
        have e := hbad (by rw [hdt, k1, k2]; rfl)
        simp [mc66_l0, t1, t12, t13, t14, hlt, hia, hld, g, q0, q5, r54, r57, k1, k2, tupV, e]
      | true =>
      by_cases k3 : df = dt
      · have e := hbad (by rw [hdt, k1, k2, decide_eq_true k3]; rfl)
        subst k3
        simp [mc66_l0, t1, t12, t13, t14, hlt, hia, hld, g, q0, q5, r54, r57, k1, tupV, e]
      · cases k4 : inI 1 dc 100000 with
        | false =>
          have e := hbad (by rw [hdt, k1, k2, decide_eq_false k3, k4]; rfl)
          simp [mc66_l0, t1, t12, t13, t14, hlt, hia, hld, g, q0, q5, r54, r57, k1, k2, k3, k4, tupV, e]
        | true =>
          have hdt' : dtB ps ds i = (List.range i).all (dsB ds ⟨df, dt, dc⟩) := by rw [hdt, k1, k2, decide_eq_false k3, k4]; rfl
          simp [mc66_l0, t1, t12, t13, t14, hlt, hia, hld, g, q0, q5, r54, r57, k1, k2, k3, k4, hsl]
          refine wp_seqX (wp_blockX (wp_blockX (key _ _ s' ?_ ?_ ?_ ?_ ?_ ?_ ?_ ?_ ?_ ?_)))
          case _ => simp [t1]
          case _ => simp [t12]
          case _ => simp [t13]
          case _ => simp [t14]
          case _ => simp
          case _ => simp
          case _ => simp
          case _ => simp
          case _ =>
            intro t w3 hu3 hok t1 t12 t13 t14
            have hm := hall.succ (by rw [hdt']; exact hok)
            simp [t1, t12, t13, t14, hw1']
            rw [hw2] at u2
            simp only [dtC] at u2
            exact ⟨by omega, (hu.trans u2).trans hu3, hlt, hm⟩
          case _ =>
            intro t w3 ⟨k, hk, hb⟩ t2
            have e := hbad (by rw [hdt']; exact okR.bad hk hb)
            simp [t2, tupV, e]
    · have hi' : i = ds.length := by omega
      subst hi'
      have e : debB ps ds = true := by unfold debB; rw [hall, decide_eq_true (by omega)]; rfl
      simp [mc66_l0, t13, t14, tupV, e]
end Go.Proofs.Ythfidomphkednaa.walk

namespace Go.Proofs.Ythfidomphkednaa.walk
open Go Go.Sh
set_option maxRecDepth 100000
set_option linter.unusedSimpArgs false
set_option linter.unusedVariables false
def ledB (ps : List Pt) (ds : List Dt) : Bool := parB ps && debB ps ds
def chE (ps : List Pt) (ds : List Dt) : Int := if ledB ps ds = true then 0 else 90
theorem led_ok {ps : List Pt} {ds : List Dt} (h : ledB ps ds = true) : LOk 100000 ps ds := by
  simp only [ledB, parB, debB, inI, Bool.and_eq_true, decide_eq_true_eq] at h
  obtain ⟨⟨⟨h1, h2⟩, h3⟩, h4, h5⟩ := h
  refine ⟨by omega, by omega, fun p hp => ?_, h4, fun d hd => ?_⟩
  · obtain ⟨i, hi⟩ := List.getElem?_of_mem hp
    have hlt : i < ps.length := (List.getElem?_eq_some_iff.1 hi).1
    have := okR.at h3 hlt
    unfold prB at this
    rw [hi] at this
    simp only [inI, Bool.and_eq_true, decide_eq_true_eq] at this
    exact this.2.2
  · obtain ⟨i, hi⟩ := List.getElem?_of_mem hd
    have hlt : i < ds.length := (List.getElem?_eq_some_iff.1 hi).1
    have := okR.at h5 hlt
    unfold dtB at this
    rw [hi] at this
    simp only [inI, Bool.and_eq_true, decide_eq_true_eq, Bool.not_eq_true', decide_eq_false_iff_not] at this
    obtain ⟨k1, k2, k3, k4, _⟩ := this
    exact ⟨by omega, by omega, k3, k4⟩
theorem LOk.up {M : Int} {ps : List Pt} {ds : List Dt} (h : LOk M ps ds) {M' : Int} (hM : M ≤ M') : LOk M' ps ds := ⟨h.n1, h.n8, fun p hp => ⟨(h.cash p hp).1, by have := (h.cash p hp).2; omega⟩, h.d16, h.debt⟩
def S47 : PSpec where
  R args w v := ∃ (pv dv : Value) (ps : List Pt) (ds : List Dt), args = [.agg ⟨[pv, dv]⟩] ∧ LedV w pv dv ps ds ∧ v = .bool (ledB ps ds)
  uniq := by
    rintro _ _ _ _ ⟨pv, dv, ps, ds, rfl, h1, rfl⟩ ⟨pv', dv', ps', ds', h, k1, rfl⟩
    simp only [List.cons.injEq, Value.agg.injEq, Array.mk.injEq, and_true] at h
    obtain ⟨rfl, rfl⟩ := h
    rw [h1.uniqP k1, h1.uniqD k1]
  shut := by
    rintro _ _ _ ⟨pv, dv, ps, ds, h1, h2, h3⟩
    exact ⟨pv, dv, ps, ds, h1, h2.shut, h3⟩
theorem run47 {ov : Ov} (ho : ∀ args w, ov 47 args w = none) (h65 : HasP ov 65 S65.F) (h66 : HasP ov 66 S66.F) (pv dv : Value) (ps : List Pt) (ds : List Dt) (w : AW) (hl : w.lim = w.next) (hL : LedV w pv dv ps ds) : ∃ v w', (run Try.prog ov 2).call 47 [.agg ⟨[pv, dv]⟩] w .none = .ok (.ret v) w' .none ∧ v = .bool (ledB ps ds) := by
  refine call_wp text47 (by simp) (ho _ _) ?_
  have u1 : Up w ⟨w.heap.put w.next (some (.cells [pv, dv] 25 false)), w.next + 1, w.lim⟩ := (Up.refl w).add _
  have r65 := S65.call1 (P := Try.prog) h65 ⟨pv, ps, rfl, hL.p.up u1, rfl⟩
  cases h : parB ps with
  | false =>
    have e : ledB ps ds = false := by unfold ledB; rw [h]; rfl
    rw [h] at r65
    simp [mc47, cellsOf_agg, r65, tupV, e]
  | true =>
    have h' := h
    simp only [parB, inI, Bool.and_eq_true, decide_eq_true_eq] at h'
    have r66 := S66.call1 (P := Try.prog) h66 ⟨pv, dv, ps, ds, rfl, hL.up u1, by omega, rfl⟩
    have e : ledB ps ds = debB ps ds := by unfold ledB; rw [h]; rfl
    rw [h] at r65
    simp [mc47, cellsOf_agg, r65, r66, tupV, e]
def S17 : PSpec where
  R args w v := ∃ (pv dv : Value) (ps : List Pt) (ds : List Dt), args = [.agg ⟨[pv, dv]⟩] ∧ LedV w pv dv ps ds ∧ v = .int .i64 (chE ps ds)
  uniq := by
    rintro _ _ _ _ ⟨pv, dv, ps, ds, rfl, h1, rfl⟩ ⟨pv', dv', ps', ds', h, k1, rfl⟩
    simp only [List.cons.injEq, Value.agg.injEq, Array.mk.injEq, and_true] at h
    obtain ⟨rfl, rfl⟩ := h
    rw [h1.uniqP k1, h1.uniqD k1]
  shut := by
    rintro _ _ _ ⟨pv, dv, ps, ds, h1, h2, h3⟩
    exact ⟨pv, dv, ps, ds, h1, h2.shut, h3⟩
theorem run17 {ov : Ov} (ho : ∀ args w, ov 17 args w = none) (h47 : HasP ov 47 S47.F) (pv dv : Value) (ps : List Pt) (ds : List Dt) (w : AW) (hl : w.lim = w.next) (hL : LedV w pv dv ps ds) : ∃ v w', (run Try.prog ov 2).call 17 [.agg ⟨[pv, dv]⟩] w .none = .ok (.ret v) w' .none ∧ v = .int .i64 (chE ps ds) := by
  refine call_wp text17 (by simp) (ho _ _) ?_
  have u1 : Up w ⟨w.heap.put w.next (some (.cells [pv, dv] 25 false)), w.next + 1, w.lim⟩ := (Up.refl w).add _
  have r47 := S47.call1 (P := Try.prog) h47 ⟨pv, dv, ps, ds, rfl, hL.up u1, rfl⟩
  cases h : ledB ps ds with
  | false =>
    rw [h] at r47
    simp [mc17, cellsOf_agg, r47, tupV, chE, h]
  | true =>
    rw [h] at r47
    simp [mc17, cellsOf_agg, r47, tupV, chE, h]
/-! payments -/
def liF (L : List Int) : Int → Int := fun p => if 0 ≤ p then (L[p.toNat]?).getD 0 else 0
theorem liF_at {L : List Int} {i : Nat} {z : Int} (h : L[i]? = some z) : liF L (i : Int) = z := by
  unfold liF
  rw [if_pos (by omega), Int.toNat_natCast, h]; rfl
theorem liF_out {L : List Int} {p : Int} (h : p < 0 ∨ (L.length : Int) ≤ p) : liF L p = 0 := by
  unfold liF
  split
  · rw [List.getElem?_eq_none (by omega)]; rfl
  · rfl
def liK (L : List Int) (i : Nat) : Int → Int := fun p => if p < (i : Int) then liF L p else 0
theorem liK_zero (L : List Int) : liK L 0 = fun _ => 0 := by
  funext p
  unfold liK
  split
  · exact liF_out (.inl (by omega))
  · rfl
theorem liK_step {L : List Int} {i : Nat} {z : Int} (h : L[i]? = some z) : updF (liK L i) (i : Int) z = liK L (i + 1) := by
  funext p
  unfold updF liK
  by_cases h1 : p = (i : Int)
  · subst h1
    rw [if_pos rfl, if_pos (by omega), liF_at h]
  · rw [if_neg h1]
    by_cases h2 : p < (i : Int)
    · rw [if_pos h2, if_pos (by omega)]
    · rw [if_neg h2, if_neg (by omega)]
theorem liK_all (L : List Int) : liK L L.length = liF L := by
  funext p
  unfold liK
  split
  · rfl
  · rw [liF_out (.inr (by omega))]
def pyB (ds : List Dt) (L : List Int) (i : Nat) : Bool := inI 0 (liF L (i : Int)) (owD ds (i : Int))
def payB (ps : List Pt) (ds : List Dt) (L : List Int) : Bool := decide (L.length = ps.length) && (List.range L.length).all (pyB ds L)
theorem pay_rng {ps : List Pt} {ds : List Dt} (hk : LK ps ds) {L : List Int} (h : payB ps ds L = true) (p : Int) : 0 ≤ liF L p ∧ liF L p ≤ owD ds p := by
  simp only [payB, Bool.and_eq_true, decide_eq_true_eq] at h
  by_cases hp : p < 0 ∨ (L.length : Int) ≤ p
  · rw [liF_out hp]; exact ⟨Int.le_refl _, hk.ow_nonneg p⟩
  · have := okR.at h.2 (i := p.toNat) (by omega)
    simp only [pyB, inI, Bool.and_eq_true, decide_eq_true_eq, show ((p.toNat : Nat) : Int) = p by omega] at this
    exact this
def payX (ps : List Pt) (ds : List Dt) (L : List Int) : Int → Int := if payB ps ds L = true then liF L else fun _ => 0
def S41 : PSpec where
  R args w v := ∃ (pv dv lv : Value) (ps : List Pt) (ds : List Dt) (L : List Int), args = [.agg ⟨l63 pv dv (owD ds)⟩, lv] ∧ LedV w pv dv ps ds ∧ LK ps ds ∧ RowsV intC w lv L ∧ v = .tuple ⟨[.agg ⟨arC (payX ps ds L)⟩, .bool (payB ps ds L)]⟩
  uniq := by
    rintro _ _ _ _ ⟨pv, dv, lv, ps, ds, L, rfl, hL, hk, hr, rfl⟩ ⟨pv', dv', lv', ps', ds', L', e, hL', hk', hr', rfl⟩
    simp only [List.cons.injEq, Value.agg.injEq, Array.mk.injEq, and_true] at e
    obtain ⟨e1, rfl⟩ := e
    obtain ⟨rfl, rfl, _⟩ := l63_inj e1
    have := hL.uniqP hL'
    subst this
    have := hL.uniqD hL'
    subst this
    rw [hr.uniq (m := 1) intC_length intC_inj hr']
  shut := by
    rintro _ _ _ ⟨pv, dv, lv, ps, ds, L, h1, h2, h3, h4, h5⟩
    exact ⟨pv, dv, lv, ps, ds, L, h1, h2.shut, h3, h4, h5⟩
theorem run41 {ov : Ov} (ho : ∀ args w, ov 41 args w = none) (h57 : HasP ov 57 S32.F) (pv dv lv : Value) (ps : List Pt) (ds : List Dt) (L : List Int) (w : AW) (hl : w.lim = w.next) (hL : LedV w pv dv ps ds) (hk : LK ps ds) (hr : RowsV intC w lv L) :
    ∃ v w', (run Try.prog ov 2).call 41 [.agg ⟨l63 pv dv (owD ds)⟩, lv] w .none = .ok (.ret v) w' .none ∧ v = .tuple ⟨[.agg ⟨arC (payX ps ds L)⟩, .bool (payB ps ds L)]⟩ := by
  refine call_wp text41 (by simp) (ho _ _) ?_
  have h8 := hk.n8
  have hl22 := fun w2 => len22V (w' := w2) hL.p
  have hl26 := fun w2 => len26V (w' := w2) hr
  have r57 := fun n a b w => S32.call1 (P := Try.prog) h57 (w := w) ⟨n, a, b, rfl, rfl⟩
  have q1 : w.lim ≤ w.next + 1 := by omega
  by_cases hlen : L.length = ps.length
  case neg =>
    have e : payB ps ds L = false := by unfold payB; rw [decide_eq_false hlen]; rfl
    have e2 : payX ps ds L = fun _ => 0 := by unfold payX; rw [e]; rfl
    have hlen' : ¬ (L.length : Int) = (ps.length : Int) := by omega
    simp [mc41, cellsOf_agg, l63, al61', -al61, bd61', -bd61, hl22, hl26, hlen', q1, arC_drop, e, e2, tupV]
  case pos =>
    have hlen' : (L.length : Int) = (ps.length : Int) := by omega
    obtain ⟨w1, hw1⟩ : ∃ w1, w1 = (⟨((w.heap.put w.next (some (.cells (l63 pv dv (owD ds)) 63 false))).put (w.next + 1) (some (.cells (arC fun _ => 0) 61 false))).put (w.next + 1 + 1) (some (.cells (arC fun _ => 0) 61 false)), w.next + 1 + 1 + 1, w.lim⟩ : AW) := ⟨_, rfl⟩
    have u1 : Up w w1 := by
      rw [hw1]
      exact (((Up.refl w).put (Nat.le_refl _) (Nat.le_refl _)).put (Nat.le_succ _) (Nat.le_refl _)).put (by omega) (by omega)
    have n1 : w1.next = w.next + 1 + 1 + 1 := by rw [hw1]
    have m1 : w1.lim = w.lim := by rw [hw1]
    have a2 : w1.heap.get w.next = some (.cells (pv :: dv :: arC (owD ds)) 63 false) := by rw [hw1]; simp [l63]
    have a4 : w1.heap.get (w.next + 1) = some (.cells (arC fun _ => 0) 61 false) := by rw [hw1]; simp
    have a6 : w1.heap.get (w.next + 1 + 1) = some (.cells (arC (liK L 0)) 61 false) := by rw [hw1, liK_zero]; simp
    simp only [l63] at hw1
    simp [mc41, cellsOf_agg, l63, al61', -al61, hl22, hl26, hlen']
    rw [← hw1]
    refine wp_seqX (wp_blockX (wp_rounds (fun i t w' => Kp (w.next + 1 + 1) w1 w' ∧ w'.heap.get (w.next + 1 + 1) = some (.cells (arC (liK L i)) 61 false) ∧ tget t 2 = .pointer (some ⟨w.next, 0, none⟩) ∧ tget t 4 = .pointer (some ⟨w.next + 1, 0, none⟩) ∧ tget t 6 = .pointer (some ⟨w.next + 1 + 1, 0, none⟩) ∧ tget t 17 = lv ∧ tget t 18 = .int .i64 (ps.length : Nat) ∧ tget t 19 = .int .i64 (i : Nat) ∧ i ≤ ps.length ∧ okR (pyB ds L) i) 20 (by decide) ⟨Kp.refl _ _, a6, by simp, by simp, by simp, by simp, by simp, by simp, Nat.zero_le _, okR.zero _⟩ ?_))
    rintro i t w' ⟨hkp, g6, t2, t4, t6, t17, t18, t19, hi, hall⟩
    have hw1' : IntKind.wrap .i64 ((i : Int) + 1) = (i : Int) + 1 := wrap64_in (by omega) (by omega)
    have hlm := hkp.lim
    have hnx := hkp.next
    have b2 : w'.heap.get w.next = some (.cells (pv :: dv :: arC (owD ds)) 63 false) := by rw [hkp.old _ (by omega) (by omega)]; exact a2
    have b4 : w'.heap.get (w.next + 1) = some (.cells (arC fun _ => 0) 61 false) := by rw [hkp.old _ (by omega) (by omega)]; exact a4
    have q4 : w'.lim ≤ w.next + 1 := by omega
    have q6 : w'.lim ≤ w.next + 1 + 1 := by omega
    by_cases hlt : i < ps.length
    · obtain ⟨z, hz⟩ : ∃ a, L[i]? = some a := ⟨_, List.getElem?_eq_getElem (by omega)⟩
      obtain ⟨b, off, sq, c, rfl, hra⟩ := (hr.up (hkp.up u1 (by omega))).at_ i (by omega)
      have hld := hra.int hz
      have hia := fun w => ia26 w ⟨b, off, sq⟩ L.length c .i64 i (by omega)
      have hi8 : i < 8 := by omega
      have q7 : i ≤ 7 := by omega
      have hia6 := fun w a => ia61 w a .i64 hi8
      simp only [Nat.mul_one] at hia
      have hgt := l63_at pv dv (owD ds) hi8
      have hst := liK_step hz
      have hpy : pyB ds L i = inI 0 z (owD ds (i : Int)) := by unfold pyB; rw [liF_at hz]
      obtain ⟨V, hV⟩ : ∃ V, V = owD ds (i : Int) := ⟨_, rfl⟩
      rw [← hV] at hgt hpy
      cases hb : inI 0 z V with
      | false =>
        have e : payB ps ds L = false := by unfold payB; rw [okR.bad (show i < L.length by omega) (by rw [hpy, hb]), Bool.and_false]
        have e2 : payX ps ds L = fun _ => 0 := by unfold payX; rw [e]; rfl
        simp [mc41_l0, t2, t4, t6, t17, t18, t19, hlt, hia, hld, hia6, b2, b4, hgt, hV.symm, r57, hb, bd61', -bd61, q4, cellsOf_agg, arC_drop, tupV, e, e2]
      | true =>
        have hm := hall.succ (by rw [hpy, hb])
        simp [mc41_l0, t2, t4, t6, t17, t18, t19, hlt, hia, hld, hia6, b2, b4, hgt, hV.symm, r57, hb, g6, q6, q7, hi8, arC_set, hst, hw1']
        exact ⟨by omega, hkp.new (.inr rfl) (Nat.le_refl _), hlt, hm⟩
    · have hi' : i = L.length := by omega
      subst hi'
      have e : payB ps ds L = true := by unfold payB; rw [hall, decide_eq_true hlen]; rfl
      have e2 : payX ps ds L = liF L := by unfold payX; rw [e]; rfl
      rw [liK_all] at g6
      simp [mc41_l0, t2, t4, t6, t17, t18, t19, hlen', g6, b4, q4, cellsOf_agg, arC_drop, tupV, e, e2]
end Go.Proofs.Ythfidomphkednaa.walk

namespace Go.Proofs.Ythfidomphkednaa.walk
open Go Go.Sh
set_option maxRecDepth 100000
set_option linter.unusedSimpArgs false
set_option linter.unusedVariables false
/-! Pay, Clear -/
theorem sm61 (x : Int → Int) : sameVal 5 (.agg ⟨arC x⟩) (.agg ⟨arC x⟩) = true := same_agg _ (by
  intro v hv
  simp only [arC, List.mem_cons, List.not_mem_nil, or_false] at hv
  rcases hv with rfl | rfl | rfl | rfl | rfl | rfl | rfl | rfl <;> exact sameN_int _ _ _)
theorem sm63 {w : AW} {pv dv : Value} {ps : List Pt} {ds : List Dt} (h : LedV w pv dv ps ds) (o : Int → Int) : sameVal 5 (.agg ⟨pv :: dv :: arC o⟩) (.agg ⟨pv :: dv :: arC o⟩) = true := same_agg _ (by
  obtain ⟨a, c, rfl⟩ := h.p.len
  obtain ⟨a', c', rfl⟩ := h.d.len
  intro v hv
  simp only [arC, List.mem_cons, List.not_mem_nil, or_false] at hv
  rcases hv with rfl | rfl | rfl | rfl | rfl | rfl | rfl | rfl | rfl | rfl <;> first | exact sameN_int _ _ _ | exact sameN_slice _ _ _ _)
theorem sg63 {w : AW} {pv dv : Value} {ps : List Pt} {ds : List Dt} (h : LedV w pv dv ps ds) (o : Int → Int) : singles (pv :: dv :: arC o) = true := by
  obtain ⟨a, c, rfl⟩ := h.p.len
  obtain ⟨a', c', rfl⟩ := h.d.len
  simp [arC]
def pyE (ps : List Pt) (ds : List Dt) (L : List Int) : Int := if chE ps ds = 0 then (if payB ps ds L = true then 0 else 7) else chE ps ds
def pyP (ps : List Pt) (ds : List Dt) (L : List Int) : List Int := if pyE ps ds L = 0 then paF ds (liF L) else []
def pyH (ps : List Pt) (ds : List Dt) (L : List Int) : List Int := if pyE ps ds L = 0 then lsF ps.length (haD ps ds (liF L)) else []
theorem ch_lk {ps : List Pt} {ds : List Dt} (h : chE ps ds = 0) : LOk 100000 ps ds := by
  unfold chE at h
  split at h
  · rename_i h1; exact led_ok h1
  · cases h
set_option maxHeartbeats 1000000 in
theorem call14 {ov : Ov} (m : Nat) (ho14 : ∀ args w, ov 14 args w = none) (ho40 : ∀ args w, ov 40 args w = none) (ho61 : ∀ args w, ov 61 args w = none) (ho74 : ∀ args w, ov 74 args w = none) (ho42 : ∀ args w, ov 42 args w = none) (ho43 : ∀ args w, ov 43 args w = none) (ho64 : ∀ args w, ov 64 args w = none) (h62 : HasP ov 62 S62.F) (h17 : HasP ov 17 S17.F) (h41 : HasP ov 41 S41.F) (h44 : HasP ov 44 S44.F) (h63 : HasP ov 63 S63.F)
    (pv dv lv : Value) (ps : List Pt) (ds : List Dt) (L : List Int) (w : AW) (hl : w.lim ≤ w.next) (hL : LedV w pv dv ps ds) (hr : RowsV intC w lv L) :
    ∃ v w', (run Try.prog ov (m + 4)).call 14 [.agg ⟨[pv, dv]⟩, lv] w .none = .ok (.ret v) w' .none ∧ ∃ v1 v2, v = .tuple ⟨[v1, v2, .int .i64 (pyE ps ds L)]⟩ ∧ RowsV intC w' v1 (pyP ps ds L) ∧ RowsV intC w' v2 (pyH ps ds L) ∧ Up w w' := by
  refine call_wp text14 (by simp) (ho14 _ _) ?_
  have nn : notJunk (.slice none 0 0) = some (.slice none 0 0) := rfl
  obtain ⟨w1, hw1⟩ : ∃ w1, w1 = (⟨w.heap.put w.next (some (.cells [pv, dv] 25 false)), w.next + 1, w.lim⟩ : AW) := ⟨_, rfl⟩
  have u1 : Up w w1 := hw1 ▸ (Up.refl w).add _
  have n1 : w1.next = w.next + 1 := by rw [hw1]
  have m1 : w1.lim = w.lim := by rw [hw1]
  have r17 := S17.call (P := Try.prog) h17 (m := m + 2) ⟨pv, dv, ps, ds, rfl, hL.up u1, rfl⟩
  by_cases hC : chE ps ds = 0
  case neg =>
    have e1 : pyE ps ds L = chE ps ds := by unfold pyE; rw [if_neg hC]
    have e2 : pyP ps ds L = [] := by unfold pyP; rw [e1, if_neg hC]
    have e3 : pyH ps ds L = [] := by unfold pyH; rw [e1, if_neg hC]
    rw [hw1] at r17
    simp [mc14, cellsOf_agg, r17, hC, nn, tupV, e1, e2, e3]
    rw [hw1] at u1
    exact ⟨_, _, ⟨rfl, rfl⟩, .inl ⟨rfl, _, _, rfl⟩, .inl ⟨rfl, _, _, rfl⟩, u1⟩
  case pos =>
    have hO := ch_lk hC
    have hk : LK ps ds := hO.up (by decide)
    rw [hC] at r17
    obtain ⟨_, w2, c40, rfl, u2⟩ := call40 (ov := ov) m ho40 ho61 ho74 h62 pv dv ps ds w1 (by omega) (hL.up u1) hk
    have n2 := u2.next
    have m2 := u2.lim
    have r41 := fun w (hw : LedV w pv dv ps ds) (hr : RowsV intC w lv L) => S41.call (P := Try.prog) h41 (m := m + 2) (w := w) ⟨pv, dv, lv, ps, ds, L, rfl, hw, hk, hr, rfl⟩
    have q2 : w2.lim ≤ w2.next := by omega
    -- the world behind the ledger's block: all that is asked of it
    have key : ∀ cs : List Value, cs.length = 10 → cs.take 0 = [] → ∀ w4 : AW, w4 = ⟨(w2.heap.put w2.next (some (.cells cs 63 false))).put w2.next (some (.cells (l63 pv dv (owD ds)) 63 false)), w2.next + 1, w2.lim⟩ → Up w w4 ∧ w4.heap.get w2.next = some (.cells (pv :: dv :: arC (owD ds)) 63 false) := fun cs _ _ w4 e => by
      rw [e]
      exact ⟨(u1.trans u2).trans (((Up.refl w2).add _).put (Nat.le_refl _) (Nat.le_refl _)), by simp [l63]⟩
    rw [hw1] at r17 c40
    simp only [l63] at c40
    have s3 := sg63 hL (owD ds)
    simp [mc14, cellsOf_agg, r17, c40, q2, s3, l63_take, l63_drop]
    generalize hw4 : (⟨(w2.heap.put w2.next (some (.cells [.slice none 0 0, .slice none 0 0, .int .i64 0, .int .i64 0, .int .i64 0, .int .i64 0, .int .i64 0, .int .i64 0, .int .i64 0, .int .i64 0] 63 false))).put w2.next (some (.cells (pv :: dv :: arC (owD ds)) 63 false)), w2.next + 1, w2.lim⟩ : AW) = w4
    obtain ⟨u4, g4⟩ := key _ rfl rfl w4 hw4.symm
    have n4 : w4.next = w2.next + 1 := by rw [← hw4]
    have m4 : w4.lim = w2.lim := by rw [← hw4]
    have r41 := r41 w4 (hL.up u4) (hr.up u4)
    simp only [l63] at r41
    have q4 : w4.lim ≤ w4.next := by omega
    have r44 := fun (w : AW) (hw : LedV w pv dv ps ds) (hx : ∀ p, 0 ≤ liF L p ∧ liF L p ≤ owD ds p) => S44.call (P := Try.prog) h44 (m := m + 2) (w := w) ⟨pv, dv, ps, ds, liF L, rfl, hw, hk, hx, rfl⟩
    obtain ⟨w5, hw5⟩ : ∃ w5, w5 = (⟨(w4.heap.put w4.next (some (.cells (arC fun _ => 0) 61 false))).put w4.next (some (.cells (arC (payX ps ds L)) 61 false)), w4.next + 1, w4.lim⟩ : AW) := ⟨_, rfl⟩
    have u5 : Up w4 w5 := hw5 ▸ ((Up.refl w4).add _).put (Nat.le_refl _) (Nat.le_refl _)
    have n5 : w5.next = w4.next + 1 := by rw [hw5]
    have m5 : w5.lim = w4.lim := by rw [hw5]
    have g5 : w5.heap.get w4.next = some (.cells (arC (payX ps ds L)) 61 false) := by rw [hw5]; simp
    have g5' := u5.at (b := w2.next) (by omega)
    rw [g4] at g5'
    have s1 := sm61 (liF L)
    have s2 := sm63 hL (owD ds)
    cases hB : payB ps ds L with
    | false =>
      have e1 : pyE ps ds L = 7 := by unfold pyE; rw [if_pos hC, hB]; rfl
      have e2 : pyP ps ds L = [] := by unfold pyP; rw [e1]; rfl
      have e3 : pyH ps ds L = [] := by unfold pyH; rw [e1]; rfl
      rw [hB] at r41
      simp [r41, al61', -al61, q4, cellsOf_agg, arC_drop, nn, tupV, e1, e2, e3]
      rw [hw5] at u5
      exact ⟨_, _, ⟨rfl, rfl⟩, .inl ⟨rfl, _, _, rfl⟩, .inl ⟨rfl, _, _, rfl⟩, u4.trans u5⟩
    | true =>
      have hx := pay_rng hk hB
      have eX : payX ps ds L = liF L := by unfold payX; rw [hB]; rfl
      have e1 : pyE ps ds L = 0 := by unfold pyE; rw [if_pos hC, hB]; rfl
      have e2 : pyP ps ds L = paF ds (liF L) := by unfold pyP; rw [e1]; rfl
      have e3 : pyH ps ds L = lsF ps.length (haD ps ds (liF L)) := by unfold pyH; rw [e1]; rfl
      rw [eX] at g5 hw5
      rw [hB, eX] at r41
      obtain ⟨v1, w6, c42, hr1, u6, j1⟩ := call42 (ov := ov) (m + 1) ho42 h63 pv dv ps ds (liF L) w5 (by omega) (hL.up (u4.trans u5)) hk hx
      have n6 := u6.next
      have m6 := u6.lim
      have g6 := u6.at (b := w4.next) (by omega)
      rw [g5] at g6
      have g6' := u6.at (b := w2.next) (by omega)
      rw [g5'] at g6'
      have r44 := r44 w6 (hL.up ((u4.trans u5).trans u6)) hx
      obtain ⟨v2, w7, c43, hr2, u7, j2⟩ := call43 (ov := ov) (m + 1) ho43 ho64 pv dv (owD ds) (haD ps ds (liF L)) ps ds w6 (by omega) (hL.up ((u4.trans u5).trans u6)) hO.n1 hO.n8
      have n7 := u7.next
      have g7' := u7.at (b := w2.next) (by omega)
      rw [g6'] at g7'
      have q0 : ¬ w2.next = w4.next := by omega
      rw [hw5] at c42
      simp only [l63] at c42 r44 c43
      simp [r41, al61', -al61, q4, q0, cellsOf_agg, arC_drop, g4, c42, g6, g6', s1, s2, r44, c43, j1, j2, tupV, e1, e2, e3]
      exact ⟨_, _, ⟨rfl, rfl⟩, hr1.up u7, hr2, ((u4.trans u5).trans u6).trans u7⟩
end Go.Proofs.Ythfidomphkednaa.walk

namespace Go.Proofs.Ythfidomphkednaa.walk
open Go Go.Sh
set_option maxRecDepth 100000
set_option linter.unusedSimpArgs false
set_option linter.unusedVariables false
end Go.Proofs.Ythfidomphkednaa.walk
