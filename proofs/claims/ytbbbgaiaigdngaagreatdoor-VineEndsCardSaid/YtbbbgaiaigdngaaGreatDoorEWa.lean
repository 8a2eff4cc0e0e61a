/- Part of a proof by a machine of ones own: see the text with the theorem. -/
import Derived.Test.YtbbbgaiaigdngaaGreatDoorEN
import Derived.Test.YtbbbgaiaigdngaaGreatDoorShF
namespace Go.Proofs.YtbbbgaiaigdngaaGreatDoor.walk
open Go Go.Sh
set_option maxRecDepth 100000
set_option linter.unusedSimpArgs false
set_option linter.unusedVariables false
/-! a morning: what is better, and how many racemes open on the way -/
def dkC (p : Int × Int) : Value := .agg ⟨[.int .i64 p.1, .int .i64 p.2]⟩
def boV (b : Bool) : Value := .bool b
theorem dk_ok : KeyOk (true, [0, 0]) dkC := by
  refine ⟨fun a => rfl, fun a b => ?_⟩
  obtain ⟨a1, a2⟩ := a
  obtain ⟨b1, b2⟩ := b
  by_cases h1 : a1 = b1
  · by_cases h2 : a2 = b2
    · simp [dkC, eqFlat, flatCells, sameL, same1, sameInt, sameK_refl, intEq_eq, h1, h2]
    · simp [dkC, eqFlat, flatCells, sameL, same1, sameInt, sameK_refl, intEq_eq, h1, h2]
  · simp [dkC, eqFlat, flatCells, sameL, same1, sameInt, sameK_refl, intEq_eq, h1]
theorem eq_dk (a u b v : Int) : eqFlat true [0, 0] (.agg ⟨[.int .i64 a, .int .i64 u]⟩) (.agg ⟨[.int .i64 b, .int .i64 v]⟩) = some (decide (a = b ∧ u = v)) := by
  have := dk_ok.2 (a, u) (b, v)
  simpa only [dkC, Prod.mk.injEq] using this
theorem map103 : mapOf Tryz.prog 103 = some (4, (true, [0, 0])) := by kernel_rfl
theorem zero4 : zeroA Tryz.prog 4 = some (.bool false) := by kernel_rfl
theorem call29 {ov : Ov} (m : Nat) (ho : ∀ args w, ov 29 args w = none) (a b : Int) (w : AW) : (run Tryz.prog ov (m + 1)).call 29 [.int .i64 a, .int .i64 b] w .none = .ok (.ret (.bool (btB false a b))) w .none := by
  obtain ⟨x, w', h, rfl, rfl⟩ : ∃ x w', (run Tryz.prog ov (m + 1)).call 29 [.int .i64 a, .int .i64 b] w .none = .ok (.ret x) w' .none ∧ x = .bool (btB false a b) ∧ w' = w := by
    refine call_wp text29 (by simp) (ho _ _) ?_
    simp [mc29, tupV, btB]
  exact h
theorem call30 {ov : Ov} (m : Nat) (ho : ∀ args w, ov 30 args w = none) (a b : Int) (w : AW) : (run Tryz.prog ov (m + 1)).call 30 [.int .i64 a, .int .i64 b] w .none = .ok (.ret (.bool (btB true a b))) w .none := by
  obtain ⟨x, w', h, rfl, rfl⟩ : ∃ x w', (run Tryz.prog ov (m + 1)).call 30 [.int .i64 a, .int .i64 b] w .none = .ok (.ret x) w' .none ∧ x = .bool (btB true a b) ∧ w' = w := by
    refine call_wp text30 (by simp) (ho _ _) ?_
    simp [mc30, tupV, btB]
  exact h
@[simp] theorem cf29 (w : AW) (l : List Value) : callFn Tryz.prog w 29 l = .enter 29 l w := callFn_enter text29 l
@[simp] theorem cf30 (w : AW) (l : List Value) : callFn Tryz.prog w 30 l = .enter 30 l w := callFn_enter text30 l
/-- what is better -/
def btF (bt : Bool) : Value := .func (.func (bif bt then 30 else 29)) ⟨[]⟩ ⟨[]⟩
def morC (s : Sea) (dv cv sv rv : Value) (D : Nat) (bt : Bool) : List Value := yearC s dv cv sv ++ [rv, .int .i64 (D : Nat), btF bt]
set_option maxHeartbeats 1000000 in
theorem loop79 {ov : Ov} (m : Nat) (rs : List Rac) (hr : racB rs = true) (D i u v : Nat) (a : Int) (ha : a = (i : Int) - 1) (hv : u ≤ v) (hu : i = 0 → u = 0) (hi : i ≤ 100) (s : Sea) (dv cv sv rv : Value) (bt : Bool) (w0 : AW) (hl0 : w0.lim ≤ w0.next) (hrs : RowsV racC w0 rv rs) (b3 b4 b5 : Nat) (l3 : b3 < w0.next) (l4 : b4 < w0.next) (l5 : b5 < w0.next)
    (g3 : w0.heap.get b3 = some (.cells (morC s dv cv sv rv D bt) 69 false)) (g4 : w0.heap.get b4 = some (.cells [.int .i64 a, .int .i64 (u : Nat)] 102 false)) (g5 : w0.heap.get b5 = some (.cells [.int .i64 (i : Nat), .int .i64 (v : Nat)] 102 false)) (ro : Bool) (gS : w0.heap.get 0 = some (.cells [.int .i64 (-1), .int .i64 0] 102 ro)) (n0 : 0 < w0.next)
    (Q : Ex → Tm → AW → Prop) (t : Tm) (w : AW) (hw : Ol w0 w) (t3 : tget t 3 = .pointer (some ⟨b3, 0, none⟩)) (t4 : tget t 4 = .pointer (some ⟨b4, 0, none⟩)) (t5 : tget t 5 = .pointer (some ⟨b5, 0, none⟩)) (t7 : tget t 7 = .int .i64 0) (t12 : tget t 12 = rv) (t13 : tget t 13 = .int .i64 (rs.length : Nat)) (t14 : tget t 14 = .int .i64 0)
    (hQ : ∀ t w, Ol w0 w → tget t 7 = .int .i64 (adI rs D i u (v - u)) → Q (.exit 0) t w) : wp (exM Tryz.prog (run Tryz.prog ov (m + 1)) (.loop mc79_l0) t w) Q := by
  simp only [racB, Bool.and_eq_true, decide_eq_true_eq] at hr
  obtain ⟨h8, hall⟩ := hr
  refine wp_rounds (fun k t w => tget t 3 = .pointer (some ⟨b3, 0, none⟩) ∧ tget t 4 = .pointer (some ⟨b4, 0, none⟩) ∧ tget t 5 = .pointer (some ⟨b5, 0, none⟩) ∧ tget t 7 = .int .i64 (adK rs D i u (v - u) k) ∧ tget t 12 = rv ∧ tget t 13 = .int .i64 (rs.length : Nat) ∧ tget t 14 = .int .i64 (k : Nat) ∧ k ≤ rs.length ∧ Ol w0 w) 200 (by decide) ⟨t3, t4, t5, t7, t12, t13, by simpa using t14, Nat.zero_le _, hw⟩ ?_
  clear t3 t4 t5 t7 t12 t13 t14 hw
  rintro k t w ⟨t3, t4, t5, t7, t12, t13, t14, hk, hw⟩
  by_cases hlt : k < rs.length
  · obtain ⟨r, hd⟩ : ∃ d, rs[k]? = some d := ⟨_, List.getElem?_eq_getElem hlt⟩
    have hrok := rac_of _ hall k r hlt hd
    simp only [racOk, inI, Bool.and_eq_true, decide_eq_true_eq] at hrok
    obtain ⟨b, off, sq, c, rfl, hr⟩ := hrs.at_ k hlt
    have hb := hr.2
    have hld := hr.rd (m := 2) racC_length hd
    rw [← hw.old b hb] at hld
    have hn := hw.next
    have hlm := hw.lim
    have hl1 : w.lim ≤ w.next := by omega
    have m0 : ¬ b = w.next := by omega
    have m3 : ¬ b3 = w.next := by omega
    have m4 : ¬ b4 = w.next := by omega
    have m5 : ¬ b5 = w.next := by omega
    have mS : ¬ 0 = w.next := by omega
    rw [← hw.old b3 l3] at g3
    rw [← hw.old b4 l4] at g4
    rw [← hw.old b5 l5] at g5
    rw [← hw.old 0 n0] at gS
    have hia := fun w => ia30 w ⟨b, off, sq⟩ rs.length c .i64 k hlt
    have hw1 : IntKind.wrap .i64 ((k : Int) + 1) = (k : Int) + 1 := wrap64_in (by omega) (by omega)
    have bd := adK_bd rs D i u (v - u) k
    have hw2 : IntKind.wrap .i64 (adK rs D i u (v - u) k + 1) = adK rs D i u (v - u) k + 1 := wrap64_in (by omega) (by omega)
    have hw3 : IntKind.wrap .i64 ((i : Int) + r.fl) = (i : Int) + r.fl := wrap64_in (by omega) (by omega)
    have hO : Ol w0 ⟨(w.heap.put w.next (some (.cells [.int .i64 0, .int .i64 0] 32 false))).put w.next (some (.cells (racC r) 32 false)), w.next + 1, w.lim⟩ := ⟨(hw.old.put hn).put hn, by show w0.next ≤ w.next + 1; omega, hlm⟩
    have eA : adK rs D i u (v - u) (k + 1) = adK rs D i u (v - u) k + (if adR D r i u (v - u) = true then 1 else 0) := by rw [adK, hd]
    have eR : adR D r i u (v - u) = ((decide (r.need ≤ (v : Int)) && (decide (i = 0) || decide ((u : Int) < r.need))) && decide ((D : Int) < (i : Int) + r.fl)) := by
      unfold adR
      rw [show u + (v - u) = v by omega]
    rw [eR] at eA
    simp only [racC] at hld hO
    simp only [morC, yearC, List.cons_append, List.nil_append] at g3
    by_cases c1 : r.need ≤ (v : Int)
    · by_cases c2 : i = 0
      · have c4 := hu c2
        subst c2
        subst c4
        have c3 : a = -1 := by omega
        subst c3
        simp only [Int.natCast_zero, Int.zero_add, Nat.sub_zero] at *
        by_cases c5 : (D : Int) < r.fl
        · have eA2 : adK rs D 0 0 v (k + 1) = adK rs D 0 0 v k + 1 := by rw [eA]; simp [c1, c5]
          simp [mc79_l0, t3, t4, t5, t7, t12, t13, t14, hlt, hia, hld, hl1, m0, m3, m4, m5, mS, cellsOf_agg, racC, g3, g4, g5, gS, eq_dk, hw1, hw2, hw3, c1, c5, eA2]
          exact ⟨by omega, hlt, hO⟩
        · have eA2 : adK rs D 0 0 v (k + 1) = adK rs D 0 0 v k := by rw [eA]; simp [c1, c5]
          simp [mc79_l0, t3, t4, t5, t7, t12, t13, t14, hlt, hia, hld, hl1, m0, m3, m4, m5, mS, cellsOf_agg, racC, g3, g4, g5, gS, eq_dk, hw1, hw2, hw3, c1, c5, eA2]
          exact ⟨by omega, hlt, hO⟩
      · have c3 : ¬ a = -1 := by omega
        by_cases c6 : (u : Int) < r.need
        · by_cases c5 : (D : Int) < (i : Int) + r.fl
          · have eA2 : adK rs D i u (v - u) (k + 1) = adK rs D i u (v - u) k + 1 := by rw [eA]; simp [c1, c2, c5, c6]
            simp [mc79_l0, t3, t4, t5, t7, t12, t13, t14, hlt, hia, hld, hl1, m0, m3, m4, m5, mS, cellsOf_agg, racC, g3, g4, g5, gS, eq_dk, hw1, hw2, hw3, c1, c3, c5, c6, eA2]
            exact ⟨by omega, hlt, hO⟩
          · have eA2 : adK rs D i u (v - u) (k + 1) = adK rs D i u (v - u) k := by rw [eA]; simp [c1, c2, c5, c6]
            simp [mc79_l0, t3, t4, t5, t7, t12, t13, t14, hlt, hia, hld, hl1, m0, m3, m4, m5, mS, cellsOf_agg, racC, g3, g4, g5, gS, eq_dk, hw1, hw2, hw3, c1, c3, c5, c6, eA2]
            exact ⟨by omega, hlt, hO⟩
        · have eA2 : adK rs D i u (v - u) (k + 1) = adK rs D i u (v - u) k := by rw [eA]; simp [c1, c2, c6]
          simp [mc79_l0, t3, t4, t5, t7, t12, t13, t14, hlt, hia, hld, hl1, m0, m3, m4, m5, mS, cellsOf_agg, racC, g3, g4, g5, gS, eq_dk, hw1, hw2, hw3, c1, c3, c6, eA2]
          exact ⟨by omega, hlt, hO⟩
    · have eA2 : adK rs D i u (v - u) (k + 1) = adK rs D i u (v - u) k := by rw [eA]; simp [c1]
      simp [mc79_l0, t3, t4, t5, t7, t12, t13, t14, hlt, hia, hld, hl1, m0, m3, m4, m5, mS, cellsOf_agg, racC, g3, g4, g5, gS, eq_dk, hw1, hw2, hw3, c1, eA2]
      exact ⟨by omega, hlt, hO⟩
  · have hk' : k = rs.length := by omega
    subst hk'
    simp [mc79_l0, t13, t14]
    exact hQ _ _ hw (by simp [t7, adI])
theorem call79 {ov : Ov} (m : Nat) (ho : ∀ args w, ov 79 args w = none) (rs : List Rac) (hr : racB rs = true) (D i u v : Nat) (a : Int) (ha : a = (i : Int) - 1) (hv : u ≤ v) (hu : i = 0 → u = 0) (hi : i ≤ 100) (s : Sea) (dv cv sv rv : Value) (bt : Bool) (w : AW) (hl : w.lim ≤ w.next) (hrs : RowsV racC w rv rs) (ro : Bool) (gS : w.heap.get 0 = some (.cells [.int .i64 (-1), .int .i64 0] 102 ro)) (n0 : 0 < w.next) :
    ∃ x w', (run Tryz.prog ov (m + 2)).call 79 [.agg ⟨morC s dv cv sv rv D bt⟩, .agg ⟨[.int .i64 a, .int .i64 (u : Nat)]⟩, .agg ⟨[.int .i64 (i : Nat), .int .i64 (v : Nat)]⟩] w .none = .ok (.ret x) w' .none ∧ x = .int .i64 (adI rs D i u (v - u)) ∧ Old w.next w.heap w'.heap ∧ w.next ≤ w'.next ∧ w'.lim = w.lim := by
  refine call_wp text79 (by simp) (ho _ _) ?_
  have hlr := fun w => len30V hrs w
  obtain ⟨w1, hw1⟩ : ∃ w1 : AW, w1 = ⟨((w.heap.put w.next (some (.cells (morC s dv cv sv rv D bt) 69 false))).put (w.next + 1) (some (.cells [.int .i64 a, .int .i64 (u : Nat)] 102 false))).put (w.next + 2) (some (.cells [.int .i64 (i : Nat), .int .i64 (v : Nat)] 102 false)), w.next + 3, w.lim⟩ := ⟨_, rfl⟩
  have o1 : Old w.next w.heap w1.heap := by rw [hw1]; exact (((Old.refl _ _).put (Nat.le_refl _)).put (Nat.le_succ _)).put (by omega)
  have n1 : w1.next = w.next + 3 := by rw [hw1]
  have m1 : w1.lim = w.lim := by rw [hw1]
  have hrs1 : RowsV racC w1 rv rs := hrs.old o1 (by omega)
  have key := fun Q t => loop79 (ov := ov) m rs hr D i u v a ha hv hu hi s dv cv sv rv bt w1 (by omega) hrs1 w.next (w.next + 1) (w.next + 2) (by omega) (by omega) (by omega) (by rw [hw1]; simp) (by rw [hw1]; simp) (by rw [hw1]; simp) ro (by rw [o1 0 n0]; exact gS) (by omega) Q t w1 (Ol.refl _)
  have h0 : ¬ w.next = w.next + 1 := by omega
  simp only [hw1, morC, yearC, List.cons_append, List.nil_append, Nat.add_assoc] at key
  simp [mc79, morC, yearC, cellsOf_agg, hlr, tupV]
  refine wp_seqX (wp_blockX (key _ _ ?_ ?_ ?_ ?_ ?_ ?_ ?_ ?_))
  case _ => simp
  case _ => simp
  case _ => simp
  case _ => simp
  case _ => simp
  case _ => simp
  case _ => simp
  case _ =>
    intro t w' hO t7
    have a1 := hO.old
    have a2 := hO.next
    have a3 := hO.lim
    have a2' : w.next + 3 ≤ w'.next := a2
    have a3' : w'.lim = w.lim := a3
    rw [hw1] at o1
    simp [t7, tupV]
    exact ⟨fun b hb => (a1 b (by show b < w.next + 3; omega)).trans (o1 b hb), by omega, a3'⟩
end Go.Proofs.YtbbbgaiaigdngaaGreatDoor.walk

namespace Go.Proofs.YtbbbgaiaigdngaaGreatDoor.walk
open Go Go.Sh
set_option maxRecDepth 100000
set_option linter.unusedSimpArgs false
set_option linter.unusedVariables false
/-! tallies -/
def talC (g : Ga) : List Value := (List.range 2001).map fun k => .int .i64 ((g k).getD 0)
theorem talC_len (g : Ga) : (talC g).length = 2001 := by simp [talC]
theorem talC_get (g : Ga) {k : Nat} (h : k < 2001) : (talC g)[k]? = some (.int .i64 ((g k).getD 0)) := by
  simp [talC, List.getElem?_map, List.getElem?_range h]
theorem talC_set (g : Ga) {k : Nat} (h : k < 2001) (n : Int) : (talC g).take k ++ (.int .i64 n :: (talC g).drop (k + 1)) = talC (upG g k n) := by
  apply List.ext_getElem?
  intro j
  have hl := talC_len g
  by_cases h1 : j < k
  · rw [List.getElem?_append_left (by rw [List.length_take]; omega), List.getElem?_take_of_lt h1, talC_get g (by omega), talC_get _ (by omega)]
    simp [upG, show ¬ j = k by omega]
  · rw [List.getElem?_append_right (by rw [List.length_take]; omega)]
    have e1 : ((talC g).take k).length = k := by rw [List.length_take]; omega
    rw [e1]
    by_cases h2 : j = k
    · subst h2
      rw [Nat.sub_self, List.getElem?_cons_zero, talC_get _ h]
      simp [upG]
    · obtain ⟨e, rfl⟩ : ∃ e, j = k + 1 + e := ⟨j - (k + 1), by omega⟩
      rw [show k + 1 + e - k = e + 1 by omega, List.getElem?_cons_succ, List.getElem?_drop]
      by_cases h3 : k + 1 + e < 2001
      · rw [talC_get g h3, talC_get _ h3]
        simp [upG, show ¬ k + 1 + e = k by omega]
      · rw [List.getElem?_eq_none (by omega), List.getElem?_eq_none (by rw [talC_len]; omega)]
theorem talC_none : List.replicate 2001 (Value.int .i64 0) = talC fun _ => none := by
  apply List.ext_getElem?
  intro j
  by_cases h : j < 2001
  · rw [talC_get _ h, List.getElem?_replicate, if_pos h]; rfl
  · rw [List.getElem?_eq_none (by rw [List.length_replicate]; omega), List.getElem?_eq_none (by rw [talC_len]; omega)]
theorem singles_ints : ∀ l : List Int, singles (l.map fun z => Value.int .i64 z) = true
  | [] => by simp
  | z :: l => by simp [singles_ints l]
theorem talC_singles (g : Ga) : singles (talC g) = true := by
  have := singles_ints ((List.range 2001).map fun k => (g k).getD 0)
  rw [List.map_map] at this
  exact this
theorem arr105 : arrN Tryz.prog 105 = some (2001, 3) := by kernel_rfl
theorem size3 : szOf Tryz.prog 3 = some 1 := by kernel_rfl
theorem ia105 (w : AW) (a : Addr) (k : IntKind) {i : Nat} (h : i < 2001) : indexAddrA Tryz.prog w 105 (.pointer (some a)) (.int k (i : Int)) = .val (.pointer (some (a.add i))) w := by
  show indexAddrC Tryz.prog w 105 (.pointer (some a)) (Int.ofNat i) = _
  have h1 : Nat.blt i 2001 = true := by simpa [Nat.blt_eq] using h
  unfold indexAddrC
  simp only [arr105]
  show (bif Nat.ble 2001 1 then R.fail else indexAddrB Tryz.prog w a 2001 3 (Int.ofNat i)) = _
  have h2 : Nat.ble 2001 1 = false := rfl
  rw [h2]
  simp [indexAddrB, idxIn, h1, size3]
theorem arrp3 (cs : List Value) (i : Nat) (v : Value) (h : cs[i]? = some v) : partA Tryz.prog 3 cs i = some v := by
  have h1 : aggOf Tryz.prog 3 = some false := by kernel_rfl
  unfold partA
  simp [h1, nth_eq, h]
theorem ix105 (w : AW) (g : Ga) (k : IntKind) {i : Nat} (h : i < 2001) : indexA Tryz.prog w 105 (.agg ⟨talC g⟩) (.int k (i : Int)) = .val (.int .i64 ((g i).getD 0)) w := by
  show indexArr Tryz.prog w 105 (talC g) (Int.ofNat i) = _
  have h1 : Nat.blt i 2001 = true := by simpa [Nat.blt_eq] using h
  unfold indexArr
  simp [arr105, idxIn, h1, size3, arrp3 _ _ _ (talC_get g h)]
/-! what is reached -/
def MapR (mb i : Nat) (gp gc : Ga) (w : AW) : Prop := ∃ L, MapAt dkC boV w mb L ∧ (∀ p b, lookK L p = some b → b = true) ∧ (∀ u : Nat, (lookK L ((i : Int) - 1, (u : Int))).isSome = (gp u).isSome) ∧ (∀ u : Nat, (lookK L ((i : Int), (u : Int))).isSome = (gc u).isSome) ∧ ∀ d z : Int, (i : Int) < d → lookK L (d, z) = none
theorem look_map {w : AW} {mb : Nat} {L : List ((Int × Int) × Bool)} (hM : MapAt dkC boV w mb L) (ht : ∀ p b, lookK L p = some b → b = true) (a b : Int) : lookupA Tryz.prog w 103 (.map (some mb)) (.agg ⟨[.int .i64 a, .int .i64 b]⟩) false = .val (.bool (lookK L (a, b)).isSome) w := by
  have := lookup_k (vC := boV) map103 dk_ok zero4 hM (a, b) false
  simp only [dkC] at this
  rw [this]
  cases h : lookK L (a, b) with
  | none => rfl
  | some v => rw [ht _ _ h]; rfl
theorem MapR.look {mb i : Nat} {gp gc : Ga} {w : AW} (h : MapR mb i gp gc w) (u : Nat) : lookupA Tryz.prog w 103 (.map (some mb)) (.agg ⟨[.int .i64 (i : Nat), .int .i64 (u : Nat)]⟩) false = .val (.bool (gc u).isSome) w := by
  obtain ⟨L, h1, h2, _, h4, _⟩ := h
  rw [look_map h1 h2, h4]
theorem MapR.lookP {mb i : Nat} {gp gc : Ga} {w : AW} (h : MapR mb i gp gc w) (u : Nat) {a : Int} (ha : a = (i : Int) - 1) : lookupA Tryz.prog w 103 (.map (some mb)) (.agg ⟨[.int .i64 a, .int .i64 (u : Nat)]⟩) false = .val (.bool (gp u).isSome) w := by
  obtain ⟨L, h1, h2, h3, _⟩ := h
  rw [ha, look_map h1 h2, h3]
theorem MapR.mv {mb i : Nat} {gp gc : Ga} {w w' : AW} (h : MapR mb i gp gc w) (k : w'.heap.get mb = w.heap.get mb) : MapR mb i gp gc w' := by
  obtain ⟨L, h1, h2⟩ := h
  exact ⟨L, by unfold MapAt; rw [k]; exact h1, h2⟩
theorem MapR.upd {mb i : Nat} {gp gc : Ga} {w : AW} (h : MapR mb i gp gc w) (hl : w.lim ≤ mb) (u : Nat) (n : Int) : ∃ o, mapUpdateA Tryz.prog w 103 (.map (some mb)) (.agg ⟨[.int .i64 (i : Nat), .int .i64 (u : Nat)]⟩) (.bool true) = .val undef ⟨w.heap.put mb (some o), w.next, w.lim⟩ ∧ ∀ w' : AW, w'.heap.get mb = some o → MapR mb i gp (upG gc u n) w' := by
  obtain ⟨L, h1, h2, h3, h4, h5⟩ := h
  have e := update_k (vC := boV) map103 dk_ok h1 hl ((i : Int), (u : Int)) true
  simp only [dkC, boV] at e
  refine ⟨_, e, fun w' hw => ⟨updK L ((i : Int), (u : Int)) true, hw, fun p b hp => ?_, fun v => ?_, fun v => ?_, fun d z hd => ?_⟩⟩
  · rw [lookK_upd] at hp
    split at hp
    · cases hp; rfl
    · exact h2 p b hp
  · rw [lookK_upd, if_neg (fun h => by have := congrArg Prod.fst h; simp at this; omega), h3]
  · rw [lookK_upd]
    unfold upG
    by_cases e : v = u
    · subst e; simp
    · rw [if_neg (fun h => e (by have := congrArg Prod.snd h; simp at this; omega)), if_neg e, h4]
  · rw [lookK_upd, if_neg (fun h => by have := congrArg Prod.fst h; simp at this; omega), h5 d z hd]
/-! the blocks of a day -/
structure Blk where
  mb : Nat
  b4 : Nat
  b5 : Nat
  b6 : Nat
  b7 : Nat
  b9 : Nat
  b10 : Nat
  b11 : Nat
  L : Nat
def Ord (k : Blk) (n0 : Nat) (w : AW) : Prop := 0 < n0 ∧ n0 ≤ k.mb ∧ k.mb < k.b4 ∧ k.b4 < k.b5 ∧ k.b5 < k.b6 ∧ k.b6 < k.b7 ∧ k.b7 < k.b9 ∧ k.b9 < k.b10 ∧ k.b10 < k.b11 ∧ k.b11 < k.L ∧ k.L < w.next ∧ w.lim ≤ k.mb
structure Jb (mc : List Value) (i u : Nat) (a : Int) (k : Blk) (gp : Ga) (we : AW) (st : Ga) (w : AW) : Prop where
  mor : w.heap.get k.b4 = some (.cells mc 69 false)
  day : w.heap.get k.b5 = some (.cells [.int .i64 (i : Nat)] 3 false)
  bef : w.heap.get k.b6 = some (.cells (talC gp) 105 false)
  mp : w.heap.get k.b7 = some (.cells [.map (some k.mb)] 103 false)
  aft : w.heap.get k.b9 = some (.cells (talC st) 105 false)
  sum : w.heap.get k.b10 = some (.cells [.int .i64 (u : Nat)] 3 false)
  frm : w.heap.get k.b11 = some (.cells [.int .i64 a, .int .i64 (u : Nat)] 102 false)
  map : MapR k.mb i gp st w
  old : ∀ x, x < we.next → w.heap.get x = we.heap.get x
  ord : Ord k we.next w
theorem Jb.upd {mc : List Value} {i u : Nat} {a : Int} {k : Blk} {gp : Ga} {we : AW} {st st' : Ga} {w w' : AW} (h : Jb mc i u a k gp we st w) (hk : ∀ x, x < w.next → x ≠ k.b9 → x ≠ k.mb → w'.heap.get x = w.heap.get x) (h9 : w'.heap.get k.b9 = some (.cells (talC st') 105 false)) (hm : MapR k.mb i gp st' w') (hn : w.next ≤ w'.next) (hl : w'.lim = w.lim) : Jb mc i u a k gp we st' w' := by
  obtain ⟨o0, o1, o2, o3, o4, o5, o6, o7, o8, o9, o10, o11⟩ := h.ord
  refine ⟨?_, ?_, ?_, ?_, h9, ?_, ?_, hm, fun x hx => ?_, ⟨o0, o1, o2, o3, o4, o5, o6, o7, o8, o9, by omega, by omega⟩⟩
  · rw [hk _ (by omega) (by omega) (by omega)]; exact h.mor
  · rw [hk _ (by omega) (by omega) (by omega)]; exact h.day
  · rw [hk _ (by omega) (by omega) (by omega)]; exact h.bef
  · rw [hk _ (by omega) (by omega) (by omega)]; exact h.mp
  · rw [hk _ (by omega) (by omega) (by omega)]; exact h.sum
  · rw [hk _ (by omega) (by omega) (by omega)]; exact h.frm
  · rw [hk _ (by omega) (by omega) (by omega)]; exact h.old x hx
theorem Jb.up {mc : List Value} {i u : Nat} {a : Int} {k : Blk} {gp : Ga} {we : AW} {st : Ga} {w w' : AW} (h : Jb mc i u a k gp we st w) (hk : ∀ x, x < w.next → x ≠ k.L → w'.heap.get x = w.heap.get x) (hn : w.next ≤ w'.next) (hl : w'.lim = w.lim) : Jb mc i u a k gp we st w' := by
  obtain ⟨o0, o1, o2, o3, o4, o5, o6, o7, o8, o9, o10, o11⟩ := h.ord
  refine ⟨?_, ?_, ?_, ?_, ?_, ?_, ?_, h.map.mv (hk _ (by omega) (by omega)), fun x hx => ?_, ⟨o0, o1, o2, o3, o4, o5, o6, o7, o8, o9, by omega, by omega⟩⟩
  · rw [hk _ (by omega) (by omega)]; exact h.mor
  · rw [hk _ (by omega) (by omega)]; exact h.day
  · rw [hk _ (by omega) (by omega)]; exact h.bef
  · rw [hk _ (by omega) (by omega)]; exact h.mp
  · rw [hk _ (by omega) (by omega)]; exact h.aft
  · rw [hk _ (by omega) (by omega)]; exact h.sum
  · rw [hk _ (by omega) (by omega)]; exact h.frm
  · rw [hk _ (by omega) (by omega)]; exact h.old x hx
end Go.Proofs.YtbbbgaiaigdngaaGreatDoor.walk

namespace Go.Proofs.YtbbbgaiaigdngaaGreatDoor.walk
open Go Go.Sh
set_option maxRecDepth 100000
set_option linter.unusedSimpArgs false
set_option linter.unusedVariables false
/-! a heat of a day: the body of the range -/
def stE (bt : Bool) (b : Int) (rs : List Rac) (D i u : Nat) (st : Ga) (v : Int) : Ga := stepG bt b (adI rs D i u) u st v.toNat
set_option maxHeartbeats 4000000 in
theorem body59 {ov : Ov} (m : Nat) (ho79 : ∀ args w, ov 79 args w = none) (ho29 : ∀ args w, ov 29 args w = none) (ho30 : ∀ args w, ov 30 args w = none) (s : Sea) (dv cv sv rv : Value) (bt : Bool) (rs : List Rac) (hr : racB rs = true) (D i u h : Nat) (a : Int) (ha : a = (i : Int) - 1) (hi : i ≤ 39) (hu : i = 0 → u = 0) (hub : u ≤ 50 * i) (hh : h ≤ 50) (b : Int) (gp : Ga) (hgb : gp u = some b) (hb : 0 ≤ b ∧ b ≤ 1000) (k : Blk) (we : AW) (hrs : RowsV racC we rv rs) (ro : Bool) (gS : we.heap.get 0 = some (.cells [.int .i64 (-1), .int .i64 0] 102 ro)) (st : Ga) (t : Tm) (w : AW) (hJ : Jb (morC s dv cv sv rv D bt) i u a k gp we st w) (hlw : w.lim ≤ w.next)
    (t4 : tget t 4 = .pointer (some ⟨k.b4, 0, none⟩)) (t5 : tget t 5 = .pointer (some ⟨k.b5, 0, none⟩)) (t6 : tget t 6 = .pointer (some ⟨k.b6, 0, none⟩)) (t7 : tget t 7 = .pointer (some ⟨k.b7, 0, none⟩)) (t9 : tget t 9 = .pointer (some ⟨k.b9, 0, none⟩)) (t10 : tget t 10 = .pointer (some ⟨k.b10, 0, none⟩)) (t11 : tget t 11 = .pointer (some ⟨k.b11, 0, none⟩)) (t12 : tget t 12 = .int .i64 (h : Nat)) :
    wp (exY Tryz.prog (run Tryz.prog ov (m + 2)) mc59_b0 t w) fun ex _ w2 => ex = .normal ∧ Jb (morC s dv cv sv rv D bt) i u a k gp we (stepG bt b (adI rs D i u) u st h) w2 ∧ (∀ x, x < w.next → x ≠ k.b9 → x ≠ k.mb → w2.heap.get x = w.heap.get x) ∧ w.next ≤ w2.next ∧ w2.lim = w.lim := by
  obtain ⟨o0, o1, o2, o3, o4, o5, o6, o7, o8, o9, o10, o11⟩ := hJ.ord
  have hw1 : IntKind.wrap .i64 ((u : Int) + (h : Int)) = (u : Int) + (h : Int) := wrap64_in (by omega) (by omega)
  obtain ⟨w1, ew1⟩ : ∃ w1 : AW, w1 = ⟨(w.heap.put w.next (some (.cells [.int .i64 0, .int .i64 0] 102 false))).put w.next (some (.cells [.int .i64 (i : Nat), .int .i64 ((u : Int) + (h : Int))] 102 false)), w.next + 1, w.lim⟩ := ⟨_, rfl⟩
  have k1 : ∀ x, x < w.next → w1.heap.get x = w.heap.get x := fun x hx => by rw [ew1]; simp [show ¬ x = w.next by omega]
  have n1 : w1.next = w.next + 1 := by rw [ew1]
  have l1 : w1.lim = w.lim := by rw [ew1]
  have hrs1 : RowsV racC w1 rv rs := RowsV.keep hrs (fun x hx => by rw [k1 x (by omega), hJ.old x hx]) (by omega)
  have gS1 : w1.heap.get 0 = some (.cells [.int .i64 (-1), .int .i64 0] 102 ro) := by rw [k1 0 (by omega), hJ.old 0 o0]; exact gS
  obtain ⟨_, w2, c79, rfl, o2', n2, l2⟩ := call79 (ov := ov) m ho79 rs hr D i u (u + h) a ha (by omega) hu (by omega) s dv cv sv rv bt w1 (by omega) hrs1 ro gS1 (by omega)
  rw [show u + h - u = h by omega] at c79
  have k2 : ∀ x, x < w.next → w2.heap.get x = w.heap.get x := fun x hx => by rw [o2' x (by omega), k1 x hx]
  have gto : w2.heap.get w.next = some (.cells [.int .i64 (i : Nat), .int .i64 ((u : Int) + (h : Int))] 102 false) := by rw [o2' _ (by omega), ew1]; simp
  have bdA := adK_bd rs D i u h rs.length
  have h8 : rs.length ≤ 8 := by simp only [racB, Bool.and_eq_true, decide_eq_true_eq] at hr; exact hr.1
  obtain ⟨ad, had⟩ : ∃ ad, ad = adI rs D i u h := ⟨_, rfl⟩
  have bda : 0 ≤ ad ∧ ad ≤ 8 := by rw [had]; unfold adI; omega
  rw [← had] at c79
  have hw2 : IntKind.wrap .i64 (b + ad) = b + ad := wrap64_in (by omega) (by omega)
  have lb2 : w2.lim ≤ k.b9 := by omega
  have lm2 : w2.lim ≤ k.mb := by omega
  have J2 : Jb (morC s dv cv sv rv D bt) i u a k gp we st w2 := hJ.up (fun x hx _ => k2 x hx) (by omega) (by omega)
  have lk := J2.map.look (u + h)
  obtain ⟨om, eup, hup⟩ := J2.map.upd lm2 (u + h) (b + ad)
  have ia := fun w k => ia105 w k .i64 (i := u + h) (by omega)
  have ib := fun w k => ia105 w k .i64 (i := u) (by omega)
  have gb := talC_get gp (k := u) (by omega)
  rw [hgb, Option.getD_some] at gb
  have ga := talC_get st (k := u + h) (by omega)
  have gset := talC_set st (k := u + h) (by omega) (b + ad)
  have tl := talC_len st
  have hfit : u + h + 1 ≤ 2001 := by omega
  have g4 := hJ.mor
  have g5 := hJ.day
  have g6 := hJ.bef
  have g7 := hJ.mp
  have g10 := hJ.sum
  have g11 := hJ.frm
  have q4 := J2.mor
  have q7 := J2.mp
  have q9 := J2.aft
  have q6 := J2.bef
  have q10 := J2.sum
  have e4 : ¬ k.b4 = w.next := by omega
  have e5 : ¬ k.b5 = w.next := by omega
  have e6 : ¬ k.b6 = w.next := by omega
  have e7 : ¬ k.b7 = w.next := by omega
  have e10 : ¬ k.b10 = w.next := by omega
  have e11 : ¬ k.b11 = w.next := by omega
  have f7 : ¬ k.b7 = k.mb := by omega
  have f9 : ¬ k.b9 = k.mb := by omega
  have f0 : ¬ w.next = k.mb := by omega
  have f8 : ¬ w.next = k.b9 := by omega
  have sv1 := fun (k : IntKind) (a : Int) => sameN_int 4 k a
  simp only [Int.natCast_add] at c79 lk eup ia
  rw [ew1] at c79
  have r29 := fun a b w => call29 (ov := ov) (m + 1) ho29 a b w
  have r30 := fun a b w => call30 (ov := ov) (m + 1) ho30 a b w
  have upJ : ∀ (w' : AW), w'.heap.get k.mb = some om → (∀ x, x ≠ k.mb → x ≠ k.b9 → w'.heap.get x = w2.heap.get x) → w'.heap.get k.b9 = some (.cells (talC (upG st (u + h) (b + ad))) 105 false) → w'.next = w2.next → w'.lim = w2.lim → Jb (morC s dv cv sv rv D bt) i u a k gp we (upG st (u + h) (b + ad)) w' ∧ (∀ x, x < w.next → x ≠ k.b9 → x ≠ k.mb → w'.heap.get x = w.heap.get x) ∧ w.next ≤ w'.next ∧ w'.lim = w.lim := fun w' a1 a2 a3 a4 a5 =>
    ⟨J2.upd (fun x _ h1 h2 => a2 x h2 h1) a3 (hup w' a1) (by omega) (by omega), fun x hx h1 h2 => by rw [a2 x h2 h1, k2 x hx], by omega, by omega⟩
  have upX := upJ ⟨(w2.heap.put k.mb (some om)).put k.b9 (some (.cells (talC (upG st (u + h) (b + ad))) 105 false)), w2.next, w2.lim⟩ (by simp [f9, Ne.symm f9]) (fun x h1 h2 => by simp [h1, h2]) (by simp) rfl rfl
  have stJ : Jb (morC s dv cv sv rv D bt) i u a k gp we st w2 ∧ (∀ x, x < w.next → x ≠ k.b9 → x ≠ k.mb → w2.heap.get x = w.heap.get x) ∧ w.next ≤ w2.next ∧ w2.lim = w.lim := ⟨J2, fun x hx _ _ => k2 x hx, by omega, by omega⟩
  simp only [morC, yearC, List.cons_append, List.nil_append] at c79 g4 q4
  cases hst : st (u + h) with
  | none =>
    rw [hst] at lk
    have eS : stepG bt b (adI rs D i u) u st h = upG st (u + h) (b + ad) := by unfold stepG; rw [hst, had]
    rw [eS]
    simp [mc59_b0, t4, t5, t6, t7, t9, t10, t11, t12, g4, g5, g6, g7, g10, g11, e4, e5, e6, e7, e10, e11, hw1, hw2, hlw, ib, gb, c79, gto, q4, q6, q7, q9, q10, lk, ia, eup, f7, f9, f0, f8, tl, hfit, lb2, gset, sv1]
    simpa using upX
  | some x =>
    rw [hst] at lk ga
    simp only [Option.getD_some, Option.isSome_some] at lk ga
    cases hbt : btB bt (b + ad) x with
    | true =>
      have eS : stepG bt b (adI rs D i u) u st h = upG st (u + h) (b + ad) := by unfold stepG; rw [hst, ← had]; simp only [hbt, if_true]
      rw [eS]
      cases bt with
      | true =>
        simp only [btF, cond_true] at g4 q4 c79
        simp [mc59_b0, t4, t5, t6, t7, t9, t10, t11, t12, g4, g5, g6, g7, g10, g11, e4, e5, e6, e7, e10, e11, hw1, hw2, hlw, ib, gb, c79, gto, q4, q6, q7, q9, q10, lk, ia, ga, r30, callV_func, hbt, eup, f7, f9, f0, f8, tl, hfit, lb2, gset, sv1]
        simpa using upX
      | false =>
        simp only [btF, cond_false] at g4 q4 c79
        simp [mc59_b0, t4, t5, t6, t7, t9, t10, t11, t12, g4, g5, g6, g7, g10, g11, e4, e5, e6, e7, e10, e11, hw1, hw2, hlw, ib, gb, c79, gto, q4, q6, q7, q9, q10, lk, ia, ga, r29, callV_func, hbt, eup, f7, f9, f0, f8, tl, hfit, lb2, gset, sv1]
        simpa using upX
    | false =>
      have eS : stepG bt b (adI rs D i u) u st h = st := by unfold stepG; rw [hst, ← had]; simp only [hbt]; rfl
      rw [eS]
      cases bt with
      | true =>
        simp only [btF, cond_true] at g4 q4 c79
        simp [mc59_b0, t4, t5, t6, t7, t9, t10, t11, t12, g4, g5, g6, g7, g10, g11, e4, e5, e6, e7, e10, e11, hw1, hw2, hlw, ib, gb, c79, gto, q4, q6, q7, q9, q10, lk, ia, ga, r30, callV_func, hbt, eup, f7, f9, f0, f8, tl, hfit, lb2, gset, sv1]
        exact stJ
      | false =>
        simp only [btF, cond_false] at g4 q4 c79
        simp [mc59_b0, t4, t5, t6, t7, t9, t10, t11, t12, g4, g5, g6, g7, g10, g11, e4, e5, e6, e7, e10, e11, hw1, hw2, hlw, ib, gb, c79, gto, q4, q6, q7, q9, q10, lk, ia, ga, r29, callV_func, hbt, eup, f7, f9, f0, f8, tl, hfit, lb2, gset, sv1]
        exact stJ
structure Jn (mc : List Value) (i u : Nat) (a : Int) (k : Blk) (gp : Ga) (lp : ALoop) (we : AW) (st : Ga) (w : AW) : Prop where
  jb : Jb mc i u a k gp we st w
  lo : w.heap.get k.L = some (.loop lp)
  lw : w.lim ≤ w.next
theorem Jn.stay {mc : List Value} {i u : Nat} {a : Int} {k : Blk} {gp : Ga} {lp : ALoop} {we : AW} (st : Ga) (w w' : AW) (h : Jn mc i u a k gp lp we st w) (hk : ∀ x, x < w.next → w'.heap.get x = w.heap.get x) (hn : w.next ≤ w'.next) (hl : w'.lim = w.lim) : Jn mc i u a k gp lp we st w' := by
  have o := h.jb.ord
  unfold Ord at o
  exact ⟨h.jb.up (fun x hx _ => hk x hx) hn hl, by rw [hk _ (by omega)]; exact h.lo, by have := h.lw; omega⟩
theorem steps59 {ov : Ov} (m : Nat) (ho79 : ∀ args w, ov 79 args w = none) (ho29 : ∀ args w, ov 29 args w = none) (ho30 : ∀ args w, ov 30 args w = none) (s : Sea) (dv cv sv rv : Value) (bt : Bool) (rs : List Rac) (hr : racB rs = true) (D i u : Nat) (a : Int) (ha : a = (i : Int) - 1) (hi : i ≤ 39) (hu : i = 0 → u = 0) (hub : u ≤ 50 * i) (b : Int) (gp : Ga) (hgb : gp u = some b) (hb : 0 ≤ b ∧ b ≤ 1000) (k : Blk) (we : AW) (hrs : RowsV racC we rv rs) (ro : Bool) (gS : we.heap.get 0 = some (.cells [.int .i64 (-1), .int .i64 0] 102 ro)) (t : Tm)
    (t4 : tget t 4 = .pointer (some ⟨k.b4, 0, none⟩)) (t5 : tget t 5 = .pointer (some ⟨k.b5, 0, none⟩)) (t6 : tget t 6 = .pointer (some ⟨k.b6, 0, none⟩)) (t7 : tget t 7 = .pointer (some ⟨k.b7, 0, none⟩)) (t9 : tget t 9 = .pointer (some ⟨k.b9, 0, none⟩)) (t10 : tget t 10 = .pointer (some ⟨k.b10, 0, none⟩)) (t11 : tget t 11 = .pointer (some ⟨k.b11, 0, none⟩)) :
    Steps78 ov (m + 3) k.L (stE bt b rs D i u) (Jn (morC s dv cv sv rv D bt) i u a k gp ⟨69, t, [33], (rfOf Tryz.prog 59 0).1, (rfOf Tryz.prog 59 0).2, none, .ready⟩ we) (fun x => x = k.b9 ∨ x = k.mb ∨ x = k.L) := by
  intro st v w hJ v0 v50
  obtain ⟨h, rfl⟩ := Int.eq_ofNat_of_zero_le v0
  have o := hJ.jb.ord
  have hlw := hJ.lw
  have lo := hJ.lo
  unfold Ord at o
  obtain ⟨j, w', hy, hQ⟩ := yield_wp (P := Tryz.prog) (ov := ov) (m := m + 2) (l := k.L) (args := [.int .i64 (h : Nat)]) (w := w) (Q := fun j w' => j = none ∧ Jn (morC s dv cv sv rv D bt) i u a k gp ⟨69, t, [33], (rfOf Tryz.prog 59 0).1, (rfOf Tryz.prog 59 0).2, none, .ready⟩ we (stepG bt b (adI rs D i u) u st h) w' ∧ (∀ x, x < w.next → ¬ (x = k.b9 ∨ x = k.mb ∨ x = k.L) → w'.heap.get x = w.heap.get x) ∧ w.next ≤ w'.next ∧ w'.lim = w.lim) lo rfl rfl ta59_0 tb59_0 (by
    simp [mc59_a0, lo]
    refine ⟨by omega, ?_⟩
    have J1 : Jb (morC s dv cv sv rv D bt) i u a k gp we st ⟨w.heap.put k.L (some (.loop ⟨69, t, [33], (rfOf Tryz.prog 59 0).1, (rfOf Tryz.prog 59 0).2, none, .busy⟩)), w.next, w.lim⟩ := hJ.jb.up (fun x _ hx => by show (w.heap.put _ _).get x = _; rw [get_put, if_neg hx]) (Nat.le_refl _) rfl
    refine (body59 m ho79 ho29 ho30 s dv cv sv rv bt rs hr D i u h a ha hi hu hub (by omega) b gp hgb hb k we hrs ro gS st _ _ J1 hlw ?_ ?_ ?_ ?_ ?_ ?_ ?_ ?_).mono ?_
    · simp [t4]
    · simp [t5]
    · simp [t6]
    · simp [t7]
    · simp [t9]
    · simp [t10]
    · simp [t11]
    · simp
    · rintro ex t2 w2 ⟨rfl, J2, k2, n2, l2⟩
      have n2' : w.next ≤ w2.next := n2
      have l2' : w2.lim = w.lim := l2
      have gL : w2.heap.get k.L = some (.loop ⟨69, t, [33], (rfOf Tryz.prog 59 0).1, (rfOf Tryz.prog 59 0).2, none, .busy⟩) := by
        rw [k2 _ (by show k.L < w.next; omega) (by omega) (by omega)]
        show (w.heap.put _ _).get _ = _
        rw [get_put, if_pos rfl]
      have J3 : Jb (morC s dv cv sv rv D bt) i u a k gp we (stepG bt b (adI rs D i u) u st h) ⟨w2.heap.put k.L (some (.loop ⟨69, t, [33], (rfOf Tryz.prog 59 0).1, (rfOf Tryz.prog 59 0).2, none, .ready⟩)), w2.next, w2.lim⟩ := J2.up (fun x _ hx => by show (w2.heap.put _ _).get x = _; rw [get_put, if_neg hx]) (Nat.le_refl _) rfl
      refine ⟨none, rfl, _, gL, ⟨rfl, rfl, rfl, rfl, rfl⟩, by omega, rfl, ⟨J3, ?_, ?_⟩, fun x hx h1 h2 h3 => ?_, n2', l2'⟩
      · show (w2.heap.put k.L _).get k.L = _
        rw [get_put, if_pos rfl]; rfl
      · show w2.lim ≤ w2.next; omega
      · rw [if_neg h3, k2 x hx h1 h2]
        show (w.heap.put _ _).get _ = _
        rw [get_put, if_neg h3])
  obtain ⟨rfl, hJ', hk, hn, hl⟩ := hQ
  exact ⟨w', hy, hJ', hk, hn, hl⟩
end Go.Proofs.YtbbbgaiaigdngaaGreatDoor.walk
