/- Part of a proof by a machine of ones own: see the text with the theorem. -/
import Derived.Test.YtimnfedgbkgdeaaGreatDoorEWc
namespace Go.Proofs.YtimnfedgbkgdeaaGreatDoor.walk
open Go Go.Sh
set_option maxRecDepth 100000
set_option linter.unusedSimpArgs false
set_option linter.unusedVariables false
/-- what is needed of the functions that are run as they stand -/
structure None8 (ov : Ov) : Prop where
  o8 : ∀ args w, ov 8 args w = none
  o21 : ∀ args w, ov 21 args w = none
  o31 : ∀ args w, ov 31 args w = none
  o59 : ∀ args w, ov 59 args w = none
  o60 : ∀ args w, ov 60 args w = none
  o53 : ∀ args w, ov 53 args w = none
  o78 : ∀ args w, ov 78 args w = none
  o79 : ∀ args w, ov 79 args w = none
  o29 : ∀ args w, ov 29 args w = none
  o30 : ∀ args w, ov 30 args w = none
  p20 : HasP ov 20 F20
  p51 : HasP ov 51 F51
  p52 : HasP ov 52 F52
  p77 : HasP ov 77 F77
  p15 : HasP ov 15 F15
  p6 : HasP ov 6 F6
theorem blL_at (L : List Int) (rs : List Rac) {n d : Nat} (h : d < n) : (blL L rs n)[d]? = some (cnt L rs rs.length d) := by
  unfold blL
  rw [List.getElem?_map, List.getElem?_range h]; rfl
set_option maxHeartbeats 4000000 in
theorem loop4a {ov : Ov} (m : Nat) (hN : None8 ov) (s : Sea) (l : List Day) (c W R : List Int) (rs : List Rac) (hB : bothE s l c rs = 0) (hT : trB l W R = true) (dv cv rv nv hv : Value) (w0 : AW) (hl0 : w0.lim ≤ w0.next) (n0 : 0 < w0.next) (hdv : RowsV dayC w0 dv l) (hcv : RowsV intC w0 cv c) (hrv : RowsV racC w0 rv rs) (hnv : RowsV intC w0 nv (blL (htL s (shL s c l.length) W R l.length) rs l.length)) (hhv : RowsV intC w0 hv (htL s (shL s c l.length) W R l.length)) (ro : Bool) (gS : w0.heap.get 0 = some (.cells [.int .i64 (-1), .int .i64 0] 102 ro)) (n1 : Nat) (hn1 : n1 < w0.next) (g3 : w0.heap.get n1 = some (.cells (seaC s dv cv) 29 false))
    (Q : Ex → Tm → AW → Prop) (t : Tm) (w : AW) (hI : Ol w0 w) (t1 : tget t 1 = rv) (t3 : tget t 3 = .pointer (some ⟨n1, 0, none⟩)) (t8 : tget t 8 = nv) (t10 : tget t 10 = hv) (t11 : tget t 11 = .int .i64 0)
    (hQ : ∀ t w, Ol w0 w → tget t 1 = rv → tget t 3 = .pointer (some ⟨n1, 0, none⟩) → tget t 10 = hv → Q (.exit 0) t w) : wp (exM Tryz.prog (run Tryz.prog ov (m + 7)) (.loop mc4_l0) t w) Q := by
  obtain ⟨hE, hR⟩ := both_zero hB
  have h40 := (days_len (sea_zero hE).1).2
  have hsm := ht_bd hE hT
  have h8 : rs.length ≤ 8 := by simp only [racB, Bool.and_eq_true, decide_eq_true_eq] at hR; exact hR.1
  refine wp_rounds (fun d t w => Ol w0 w ∧ tget t 1 = rv ∧ tget t 3 = .pointer (some ⟨n1, 0, none⟩) ∧ tget t 8 = nv ∧ tget t 10 = hv ∧ tget t 11 = .int .i64 (d : Nat) ∧ d ≤ l.length) 200 (by decide) ⟨hI, t1, t3, t8, t10, by simpa using t11, Nat.zero_le _⟩ ?_
  clear t1 t3 t8 t10 t11 hI
  rintro d t w ⟨hI, t1, t3, t8, t10, t11, hd⟩
  have hln := fun w => len27V hnv w
  simp only [blL_length] at hln
  by_cases hlt : d < l.length
  · have hn := hI.next
    have hlm := hI.lim
    have g3w : w.heap.get n1 = some (.cells (seaC s dv cv) 29 false) := by rw [hI.old _ hn1]; exact g3
    obtain ⟨_, w2, c8, rfl, o2, n2, l2⟩ := call8 (ov := ov) m hN.o8 hN.o21 hN.o31 hN.o59 hN.o60 hN.o53 hN.o78 hN.o79 hN.o29 hN.o30 hN.p20 hN.p51 hN.p52 hN.p77 s l c rs hB d hlt dv cv rv w (by omega) (by omega) (hdv.old hI.old hn) (hcv.old hI.old hn) (hrv.old hI.old hn) ro (by rw [hI.old _ n0]; exact gS)
    have k2 : ∀ x, x < w0.next → w2.heap.get x = w0.heap.get x := fun x hx => by rw [o2 x (by omega), hI.old x hx]
    have I2 : Ol w0 ⟨(w2.heap.put w2.next (some (.cells [.int .i64 0, .int .i64 0] 24 false))).put w2.next (some (.cells [.int .i64 (flG s l c rs false d), .int .i64 (flG s l c rs true d)] 24 false)), w2.next + 1, w2.lim⟩ := by
      refine ⟨fun x hx => ?_, by show w0.next ≤ w2.next + 1; omega, by show w2.lim = w0.lim; omega⟩
      show ((w2.heap.put _ _).put _ _).get x = _
      rw [get_put, if_neg (by omega), get_put, if_neg (by omega)]
      exact k2 x hx
    have lw2 : w2.lim ≤ w2.next := by omega
    obtain ⟨lo, hlo⟩ : ∃ lo, lo = flG s l c rs false d := ⟨_, rfl⟩
    obtain ⟨hi, hhi⟩ : ∃ hi, hi = flG s l c rs true d := ⟨_, rfl⟩
    obtain ⟨f1, f2⟩ := morning_in (rs := rs) hE hR hT hlt
    have f3 := flG_bd (rs := rs) hE hR false hlt
    have f4 := flG_bd (rs := rs) hE hR true hlt
    obtain ⟨cn, hcn⟩ : ∃ cn, cn = cnt (htL s (shL s c l.length) W R l.length) rs rs.length d := ⟨_, rfl⟩
    have hbl := blL_at (htL s (shL s c l.length) W R l.length) rs hlt
    rw [← hcn] at hbl f1 f2
    rw [← hlo] at f1 f3 c8 I2
    rw [← hhi] at f2 f4 c8 I2
    have hhl : d < (htL s (shL s c l.length) W R l.length).length := by rw [htL_length]; exact hlt
    obtain ⟨z, hz⟩ : ∃ z, (htL s (shL s c l.length) W R l.length)[d]? = some z := ⟨_, List.getElem?_eq_getElem hhl⟩
    have hz0 := (small_at hsm hz).1
    obtain ⟨nb, noff, nsq, nc, rfl, hnr⟩ := hnv.at_ d (by rw [blL_length]; exact hlt)
    obtain ⟨hb, hoff, hsq, hc, rfl, hhr⟩ := hhv.at_ d hhl
    have hnb := hnr.2
    have hhb := hhr.2
    have ln := hnr.int hbl
    have lh := hhr.int hz
    rw [← k2 nb hnb] at ln
    rw [← k2 hb hhb] at lh
    have ian := fun w => ia27 w ⟨nb, noff, nsq⟩ (blL (htL s (shL s c l.length) W R l.length) rs l.length).length nc .i64 d (by rw [blL_length]; exact hlt)
    have iah := fun w => ia27 w ⟨hb, hoff, hsq⟩ (htL s (shL s c l.length) W R l.length).length hc .i64 d hhl
    have hlr := fun w => len30V hrv w
    have r15 := fun n a b w => rule15 hN.p15 n a b (m + 6) w
    have m1 : ¬ nb = w2.next := by omega
    have m2 : ¬ hb = w2.next := by omega
    have i1 : inI lo cn hi = true := by simp [inI]; omega
    have i2 : inI 0 lo rs.length = true := by simp [inI]; omega
    have i3 : ¬ ((rs.length : Nat) : Int) < hi := by omega
    have i4 : ¬ z < 0 := by omega
    have ww : IntKind.wrap .i64 ((d : Int) + 1) = (d : Int) + 1 := wrap64_in (by omega) (by omega)
    simp only [seaC] at c8 g3w
    simp [mc4_l0, t1, t3, t8, t10, t11, hln, hlt, g3w, c8, lw2, ian, iah, ln, lh, hlr, r15, m1, m2, i1, i2, i3, i4, ww]
    exact ⟨by omega, I2, by omega⟩
  · have hd' : d = l.length := by omega
    subst hd'
    simp [mc4_l0, t8, t11, hln]
    exact hQ _ _ hI (by simp [t1]) (by simp [t3]) (by simp [t10])
end Go.Proofs.YtimnfedgbkgdeaaGreatDoor.walk

namespace Go.Proofs.YtimnfedgbkgdeaaGreatDoor.walk
open Go Go.Sh
set_option maxRecDepth 100000
set_option linter.unusedSimpArgs false
set_option linter.unusedVariables false
def dyN (L : List Int) (need : Int) (j : Nat) : Nat := if opI L need < j then opI L need else L.length
theorem dy_step {L : List Int} (hsm : small L = true) (need : Int) {j : Nat} (hj : j < L.length) : dyN L need (j + 1) = if need ≤ preL L (j + 1) then min (dyN L need j) j else dyN L need j := by
  have hn : ∀ z ∈ L, 0 ≤ z := fun z hz => by
    obtain ⟨i, hi, rfl⟩ := List.mem_iff_getElem.1 hz
    exact (small_at hsm (List.getElem?_eq_getElem hi)).1
  have h := opF_le need L 0 0 j hj hn
  simp only [Nat.zero_add, Int.zero_add] at h
  have e : opI L need = opF need L 0 0 := rfl
  rw [← e] at h
  unfold dyN
  by_cases hp : need ≤ preL L (j + 1)
  · rw [if_pos hp, if_pos (by omega)]
    have := h.2 hp
    split <;> omega
  · rw [if_neg hp]
    have : ¬ opI L need ≤ j := fun h2 => hp (h.1 h2)
    rw [if_neg (by omega), if_neg (by omega)]
theorem pre_bd {L : List Int} (hsm : small L = true) : ∀ j, j ≤ L.length → 0 ≤ preL L j ∧ preL L j ≤ 50 * (j : Int)
  | 0, _ => by cases L <;> simp [preL]
  | j + 1, h => by
    obtain ⟨z, hz⟩ : ∃ z, L[j]? = some z := ⟨_, List.getElem?_eq_getElem (by omega)⟩
    have ih := pre_bd hsm j (by omega)
    have := small_at hsm hz
    rw [pre_snoc L j z hz]
    omega
set_option maxHeartbeats 2000000 in
theorem loop4c {ov : Ov} (m : Nat) (L : List Int) (hsm : small L = true) (rs : List Rac) (i : Nat) (r : Rac) (hr : rs[i]? = some r) (hv rv : Value) (w : AW) (hhv : RowsV intC w hv L) (hrv : RowsV racC w rv rs) (T3 T15 T16 : Value)
    (Q : Ex → Tm → AW → Prop) (t : Tm) (t1 : tget t 1 = rv) (t3 : tget t 3 = T3) (t10 : tget t 10 = hv) (t14 : tget t 14 = .int .i64 (i : Nat)) (t15 : tget t 15 = T15) (t16 : tget t 16 = T16) (t17 : tget t 17 = .int .i64 0) (t18 : tget t 18 = .int .i64 (L.length : Nat)) (t19 : tget t 19 = .int .i64 0)
    (hQ : ∀ t, tget t 1 = rv → tget t 3 = T3 → tget t 10 = hv → tget t 14 = .int .i64 (i : Nat) → tget t 15 = T15 → tget t 16 = T16 → tget t 18 = .int .i64 (opI L r.need : Nat) → Q (.exit 4) t w) : wp (exM Tryz.prog (run Tryz.prog ov (m + 1)) (.loop mc4_l2) t w) Q := by
  have hlen := small_len hsm
  have hil := (List.getElem?_eq_some_iff.1 hr).1
  refine wp_rounds (fun j t w' => w' = w ∧ tget t 1 = rv ∧ tget t 3 = T3 ∧ tget t 10 = hv ∧ tget t 14 = .int .i64 (i : Nat) ∧ tget t 15 = T15 ∧ tget t 16 = T16 ∧ tget t 17 = .int .i64 (preL L j) ∧ tget t 18 = .int .i64 (dyN L r.need j : Nat) ∧ tget t 19 = .int .i64 (j : Nat) ∧ j ≤ L.length) 200 (by decide) ⟨rfl, t1, t3, t10, t14, t15, t16, by rw [t17]; cases L <;> rfl, by rw [t18]; rfl, by simpa using t19, Nat.zero_le _⟩ ?_
  clear t1 t3 t10 t14 t15 t16 t17 t18 t19
  rintro j t w' ⟨rfl, t1, t3, t10, t14, t15, t16, t17, t18, t19, hj⟩
  have hln := fun w => len27V hhv w
  by_cases hlt : j < L.length
  · obtain ⟨z, hz⟩ : ∃ z, L[j]? = some z := ⟨_, List.getElem?_eq_getElem hlt⟩
    obtain ⟨hb, hoff, hsq, hc, rfl, hhr⟩ := hhv.at_ j hlt
    obtain ⟨b, off, sq, c, rfl, hrr⟩ := hrv.at_ i hil
    have lh := hhr.int hz
    have lr := hrr.rd1 (m := 2) (j := 0) racC_length hr (x := .int .i64 r.need) rfl
    simp only [Nat.add_zero] at lr
    have iah := fun w => ia27 w ⟨hb, hoff, hsq⟩ L.length hc .i64 j hlt
    have iar := fun w => ia30 w ⟨b, off, sq⟩ rs.length c .i64 i hil
    have ps := pre_snoc L j z hz
    have pb := pre_bd hsm (j + 1) hlt
    have ww : IntKind.wrap .i64 (preL L j + z) = preL L j + z := wrap64_in (by omega) (by omega)
    have wj : IntKind.wrap .i64 ((j : Int) + 1) = (j : Int) + 1 := wrap64_in (by omega) (by omega)
    have dy := dy_step hsm r.need hlt
    rw [ps] at dy
    by_cases hp : r.need ≤ preL L j + z
    · rw [if_pos hp] at dy
      have dy' : ((dyN L r.need (j + 1) : Nat) : Int) = min ((dyN L r.need j : Nat) : Int) (j : Int) := by rw [dy]; omega
      simp [mc4_l2, t1, t3, t10, t14, t15, t16, t17, t18, t19, hln, hlt, iah, iar, lh, lr, ww, wj, hp, ps, dy', least2]
      omega
    · rw [if_neg hp] at dy
      simp [mc4_l2, t1, t3, t10, t14, t15, t16, t17, t18, t19, hln, hlt, iah, iar, lh, lr, ww, wj, hp, ps, dy]
      omega
  · have hj' : j = L.length := by omega
    subst hj'
    have e : dyN L r.need L.length = opI L r.need := by
      have := opI_le L r.need
      unfold dyN
      split <;> omega
    rw [e] at t18
    simp [mc4_l2, t10, t19, hln]
    exact hQ _ (by simp [t1]) (by simp [t3]) (by simp [t10]) (by simp [t14]) (by simp [t15]) (by simp [t16]) (by simp [t18])
set_option maxHeartbeats 4000000 in
theorem loop4b {ov : Ov} (m : Nat) (hN : None8 ov) (s : Sea) (l : List Day) (c W R : List Int) (rs : List Rac) (hB : bothE s l c rs = 0) (hT : trB l W R = true) (dv cv rv hv : Value) (w0 : AW) (hl0 : w0.lim ≤ w0.next) (hdv : RowsV dayC w0 dv l) (hcv : RowsV intC w0 cv c) (hrv : RowsV racC w0 rv rs) (hhv : RowsV intC w0 hv (htL s (shL s c l.length) W R l.length)) (n1 : Nat) (hn1 : n1 < w0.next) (g3 : w0.heap.get n1 = some (.cells (seaC s dv cv) 29 false))
    (Q : Ex → Tm → AW → Prop) (t : Tm) (w : AW) (hI : Ol w0 w) (t1 : tget t 1 = rv) (t3 : tget t 3 = .pointer (some ⟨n1, 0, none⟩)) (t10 : tget t 10 = hv) (t14 : tget t 14 = .int .i64 0)
    (hQ : ∀ t w, Ol w0 w → Q (.exit 2) t w) : wp (exM Tryz.prog (run Tryz.prog ov (m + 1)) (.loop mc4_l1) t w) Q := by
  obtain ⟨hE, hR⟩ := both_zero hB
  have h40 := (days_len (sea_zero hE).1).2
  have hsm := ht_bd hE hT
  have h8 : rs.length ≤ 8 := by simp only [racB, Bool.and_eq_true, decide_eq_true_eq] at hR; exact hR.1
  refine wp_rounds (fun i t w => Ol w0 w ∧ tget t 1 = rv ∧ tget t 3 = .pointer (some ⟨n1, 0, none⟩) ∧ tget t 10 = hv ∧ tget t 14 = .int .i64 (i : Nat) ∧ i ≤ rs.length) 200 (by decide) ⟨hI, t1, t3, t10, by simpa using t14, Nat.zero_le _⟩ ?_
  clear t1 t3 t10 t14 hI
  rintro i t w ⟨hI, t1, t3, t10, t14, hi⟩
  have hlr := fun w => len30V hrv w
  have hld := fun w => len22V hdv w
  by_cases hlt : i < rs.length
  · have hn := hI.next
    have hlm := hI.lim
    have g3w : w.heap.get n1 = some (.cells (seaC s dv cv) 29 false) := by rw [hI.old _ hn1]; exact g3
    obtain ⟨r, hr⟩ : ∃ d, rs[i]? = some d := ⟨_, List.getElem?_eq_getElem hlt⟩
    obtain ⟨b, off, sq, rc, rfl, hrr⟩ := hrv.at_ i hlt
    have hbl := hrr.2
    have lr := hrr.rd (m := 2) racC_length hr
    rw [← hI.old b hbl] at lr
    have iar := fun w => ia30 w ⟨b, off, sq⟩ rs.length rc .i64 i hlt
    have lw : w.lim ≤ w.next := by omega
    have m0 : ¬ b = w.next := by omega
    have m1 : ¬ n1 = w.next := by omega
    have r6 := rule6 hN.p6 r (w := ⟨w.heap.put w.next (some (.cells [.int .i64 0, .int .i64 0] 24 false)), w.next + 1, w.lim⟩) (s := s) (hdv.old (fun x hx => by show (w.heap.put _ _).get x = _; rw [get_put, if_neg (by omega)]; exact hI.old x hx) (by show w0.next ≤ w.next + 1; omega)) (hcv.old (fun x hx => by show (w.heap.put _ _).get x = _; rw [get_put, if_neg (by omega)]; exact hI.old x hx) (by show w0.next ≤ w.next + 1; omega)) m
    have hB1 := both_one hB hr
    have hoE : oE s l c r = 0 := hB1
    have hoA : oA s l c r = (opI (MS s l c) r.need : Nat) := by unfold oA; rw [if_pos hoE]
    have hoB : oB s l c r = (opI (LS s l c) r.need : Nat) := by unfold oB; rw [if_pos hoE]
    rw [hoE, hoA, hoB] at r6
    obtain ⟨x1, x2⟩ := opens_in hE hT r.need
    have iin : inI ((opI (MS s l c) r.need : Nat) : Int) (opI (htL s (shL s c l.length) W R l.length) r.need : Nat) ((opI (LS s l c) r.need : Nat) : Int) = true := by simp [inI]; omega
    have r15 := fun n a b w => rule15 hN.p15 n a b m w
    have svs : sameVal 5 (.agg ⟨seaC s dv cv⟩) (.agg ⟨seaC s dv cv⟩) = true := seaC_same s (rows_same hdv) (rows_same hcv)
    have svr : sameVal 5 (.agg ⟨racC r⟩) (.agg ⟨racC r⟩) = true := same_agg _ fun v hv => by
      simp only [racC, List.mem_cons, List.not_mem_nil, or_false] at hv
      rcases hv with rfl | rfl <;> exact sameN_int 3 _ _
    have O2 : Ol w0 ⟨(w.heap.put w.next (some (.cells [.int .i64 0, .int .i64 0] 24 false))).put w.next (some (.cells [.int .i64 (opI (MS s l c) r.need : Nat), .int .i64 (opI (LS s l c) r.need : Nat)] 24 false)), w.next + 1, w.lim⟩ := by
      refine ⟨fun x hx => ?_, by show w0.next ≤ w.next + 1; omega, hlm⟩
      show ((w.heap.put _ _).put _ _).get x = _
      rw [get_put, if_neg (by omega), get_put, if_neg (by omega)]
      exact hI.old x hx
    have wi : IntKind.wrap .i64 ((i : Int) + 1) = (i : Int) + 1 := wrap64_in (by omega) (by omega)
    have hlen : (htL s (shL s c l.length) W R l.length).length = l.length := htL_length _ _ _ _ _
    simp only [seaC, racC] at r6 g3w svs svr lr
    simp [mc4_l1, t1, t3, t10, t14, hlr, hlt, g3w, iar, lr, lw, m0, m1, r6, svs, svr, hld]
    refine wp_seqX (wp_blockX (wp_seqX (wp_blockX (loop4c m (htL s (shL s c l.length) W R l.length) hsm rs i r hr hv (.slice (some ⟨b, off, sq⟩) rs.length rc) _ (hhv.old O2.old O2.next) (hrv.old O2.old O2.next) (.pointer (some ⟨n1, 0, none⟩)) (.pointer (some ⟨w.next, 0, none⟩)) (.int .i64 0) _ _ ?_ ?_ ?_ ?_ ?_ ?_ ?_ ?_ ?_ ?_))))
    case _ => simp [t1]
    case _ => simp [t3]
    case _ => simp [t10]
    case _ => simp [t14]
    case _ => simp
    case _ => simp
    case _ => simp
    case _ => simp [hlen]
    case _ => simp
    case _ =>
      intro t t1 t3 t10 t14 t15 t16 t18
      simp [t1, t3, t10, t14, t15, t16, t18, r15, iin, wi]
      exact ⟨by omega, O2, by omega⟩
  · have hi' : i = rs.length := by omega
    subst hi'
    simp [mc4_l1, t1, t14, hlr]
    exact hQ _ _ hI
end Go.Proofs.YtimnfedgbkgdeaaGreatDoor.walk
