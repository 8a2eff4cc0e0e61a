/- Part of a proof by a machine of ones own: see the text with the theorem. -/
import Derived.Test.YtmemdglkkgmjnaaDoorCWb
import Derived.Test.YtmemdglkkgmjnaaDoorShF
namespace Go.Proofs.YtmemdglkkgmjnaaDoor.walk
open Go Go.Sh
set_option maxRecDepth 100000
set_option linter.unusedSimpArgs false
/-! what the specification asks of acts; moistures -/
def S60 : PSpec where
  R args w v := ∃ (rv dv av : Value) (r : List CAct) (d : List CDay) (b : CBox) (acts : List Int), args = [rv, dv, .agg ⟨boxC b⟩, av, .slice none 0 0] ∧ RowsV actC w rv r ∧ RowsV cdayC w dv d ∧ RowsV intC w av acts ∧ CapV av ∧ v = .int .i64 (actE r d b acts)
  uniq := by
    rintro _ _ _ _ ⟨_, _, _, r, d, ⟨_, _, _, _⟩, acts, rfl, h1, h2, h3, _, rfl⟩ ⟨_, _, _, r', d', ⟨_, _, _, _⟩, acts', h, k1, k2, k3, _, rfl⟩
    cases h
    rw [h1.uniq (m := 7) actC_length actC_inj k1, h2.uniq (m := 3) cdayC_length cdayC_inj k2, h3.uniq (m := 1) intC_length intC_inj k3]
  shut h := h
theorem run60 {ov : Ov} (ho : ∀ args w, ov 60 args w = none) (h76 : HasP ov 76 S76.F) (h52 : HasP ov 52 S52.F) (r : List CAct) (d : List CDay) (b : CBox) (acts : List Int) (rv dv av : Value) (w : AW) (hrv : RowsV actC w rv r) (hdv : RowsV cdayC w dv d) (hav : RowsV intC w av acts) (hcap : CapV av) : ∃ x w', (run Tryd.prog ov 2).call 60 [rv, dv, .agg ⟨boxC b⟩, av, .slice none 0 0] w .none = .ok (.ret x) w' .none ∧ x = .int .i64 (actE r d b acts) := by
  refine call_wp text60 (by simp) (ho _ _) ?_
  have u1 : Up w ⟨w.heap.put w.next (some (.cells [.int .i64 b.wl, .int .i64 b.wh, .int .i64 b.sl, .int .i64 b.sh] 27 false)), w.next + 1, w.lim⟩ := (Up.refl w).add _
  have r76 := S76.call1 (P := Tryd.prog) h76 ⟨rv, dv, r, d, b, rfl, hrv.up u1, hdv.up u1, rfl⟩
  simp only [boxC] at r76 ⊢
  by_cases hE : bxE r d b = 0
  · obtain ⟨hR, hD, _⟩ := bx_of hE
    have r52 := S52.call1 (P := Tryd.prog) h52 ⟨rv, dv, av, r, d, acts, rfl, hrv.up u1, hdv.up u1, hav.up u1, hcap, hR, hD, rfl⟩
    rw [hE] at r76
    cases hs : stgF r d startS acts with
    | none =>
      have e : canB r d acts = false := by unfold canB; rw [hs]; rfl
      rw [e] at r52
      simp [mc60, r76, r52, actE, hE, hs, cellsOf_agg, tupV]
    | some s =>
      have e : canB r d acts = true := by unfold canB; rw [hs]; rfl
      rw [e] at r52
      simp [mc60, r76, r52, actE, hE, hs, cellsOf_agg]
      refine wp_seqX (wp_blockX (wp_rounds (fun i t w' => i = 0 ∧ tget t 4 = .slice none 0 0 ∧ tget t 12 = .bool true ∧ tget t 13 = .int .i64 0) 20 (by decide) ⟨rfl, by simp, by simp, by simp⟩ ?_))
      rintro i t w' ⟨rfl, t4, t12, t13⟩
      simp [mc60_l0, t4, t12, t13, tupV]
  · simp [mc60, r76, actE, hE, cellsOf_agg, tupV]
theorem un_neg (k : IntKind) (a : Int) : unS .neg (.int k a) = some (.int k (k.wrap (-a))) := by
  simp [unS, negA, wrapA_eq]
def clI (c b : Int) : Int := (c + b - 1) / b
theorem cl_split {c b : Int} (hb : 0 < b) : clI c b = c / b + if c % b = 0 then 0 else 1 := by
  unfold clI
  have h := Int.emod_add_mul_ediv c b
  have h0 := Int.emod_nonneg c (by omega : b ≠ 0)
  have h1 := Int.emod_lt_of_pos c hb
  have e : c + b - 1 = (c % b + b - 1) + (c / b) * b := by rw [Int.mul_comm]; omega
  rw [e, Int.add_mul_ediv_right _ _ (by omega)]
  by_cases hm : c % b = 0
  · rw [if_pos hm, hm, show (0 : Int) + b - 1 = b - 1 by omega, Int.ediv_eq_zero_of_lt (by omega) (by omega)]; omega
  · rw [if_neg hm, show c % b + b - 1 = (c % b - 1) + 1 * b by omega, Int.add_mul_ediv_right _ _ (by omega), Int.ediv_eq_zero_of_lt (by omega) (by omega)]; omega
theorem div_le {c b : Int} (hc : 0 ≤ c) (hb : 0 < b) : 0 ≤ c / b ∧ c / b ≤ c := by
  refine ⟨Int.ediv_nonneg hc (by omega), ?_⟩
  exact Int.ediv_le_self _ hc
def S101 : PSpec where
  R args _ v := ∃ c b : Int, args = [.int .i64 (-c), .int .i64 b] ∧ (0 ≤ c ∧ c ≤ 10000000000) ∧ 0 < b ∧ v = .int .i64 (-(clI c b))
  uniq := by
    rintro _ _ _ _ ⟨c, b, rfl, _, _, rfl⟩ ⟨c', b', h, _, _, rfl⟩
    simp only [List.cons.injEq, Value.int.injEq, true_and, and_true] at h
    obtain ⟨h1, rfl⟩ := h
    have : c = c' := by omega
    rw [this]
  shut h := h
theorem run101 {ov : Ov} (ho : ∀ args w, ov 101 args w = none) (c b : Int) (hc : 0 ≤ c ∧ c ≤ 10000000000) (hb : 0 < b) (w : AW) : ∃ x w', (run Tryd.prog ov 2).call 101 [.int .i64 (-c), .int .i64 b] w .none = .ok (.ret x) w' .none ∧ x = .int .i64 (-(clI c b)) := by
  refine call_wp text101 (by simp) (ho _ _) ?_
  have hb0 : b ≠ 0 := by omega
  have hd := div_le hc.1 hb
  have e1 : (-c).tdiv b = -(c / b) := by rw [Int.neg_tdiv, Int.tdiv_eq_ediv_of_nonneg hc.1]
  have e2 : (-c).tmod b = -(c % b) := by rw [Int.neg_tmod, Int.tmod_eq_emod_of_nonneg hc.1]
  have h0 := Int.emod_nonneg c hb0
  have hs := cl_split (c := c) hb
  have w1 : IntKind.wrap .i64 (-(c / b)) = -(c / b) := wrap64_in (by omega) (by omega)
  have w2 : IntKind.wrap .i64 (-(c / b) - 1) = -(c / b) - 1 := wrap64_in (by omega) (by omega)
  by_cases hm : c % b = 0
  · have h3 : ¬ -(c % b) < 0 := by omega
    rw [if_pos hm] at hs
    have e4 : -(c / b) = -(clI c b) := by omega
    simp [mc101, bin_quo (h := hb0), bin_rem (h := hb0), e1, e2, w1, hm, tupV]
    omega
  · have h3 : -(c % b) < 0 := by omega
    have h4 : 0 < c % b := by omega
    rw [if_neg hm] at hs
    simp [mc101, bin_quo (h := hb0), bin_rem (h := hb0), e1, e2, w1, w2, h4, tupV]
    omega
def S85 : PSpec where
  R args _ v := ∃ c b : Int, args = [.int .i64 c, .int .i64 b] ∧ (0 ≤ c ∧ c ≤ 10000000000) ∧ 0 < b ∧ v = .int .i64 (clI c b)
  uniq := by rintro _ _ _ _ ⟨c, b, rfl, _, _, rfl⟩ ⟨c', b', h, _, _, rfl⟩; cases h; rfl
  shut h := h
theorem cl_bd {c b : Int} (hc : 0 ≤ c) (hb : 0 < b) : 0 ≤ clI c b ∧ clI c b ≤ c + 1 := by
  have := div_le hc hb
  rw [cl_split hb]
  split <;> omega
theorem run85 {ov : Ov} (ho : ∀ args w, ov 85 args w = none) (h101 : HasP ov 101 S101.F) (c b : Int) (hc : 0 ≤ c ∧ c ≤ 10000000000) (hb : 0 < b) (w : AW) : ∃ x w', (run Tryd.prog ov 2).call 85 [.int .i64 c, .int .i64 b] w .none = .ok (.ret x) w' .none ∧ x = .int .i64 (clI c b) := by
  refine call_wp text85 (by simp) (ho _ _) ?_
  have r101 := fun w => S101.call1 (P := Tryd.prog) h101 (w := w) ⟨c, b, rfl, hc, hb, rfl⟩
  have hd := cl_bd hc.1 hb
  have w1 : IntKind.wrap .i64 (-c) = -c := wrap64_in (by omega) (by omega)
  have w2 : IntKind.wrap .i64 (clI c b) = clI c b := wrap64_in (by omega) (by omega)
  simp [mc85, un_neg, r101, w1, w2, tupV]
def S61 : PSpec where
  R args _ v := ∃ x s : Int, args = [.int .i64 x, .int .i64 s] ∧ (1 ≤ s ∧ s ≤ x ∧ x ≤ 1000000) ∧ v = .int .i64 (moI x s)
  uniq := by rintro _ _ _ _ ⟨c, b, rfl, _, rfl⟩ ⟨c', b', h, _, rfl⟩; cases h; rfl
  shut h := h
theorem run61 {ov : Ov} (ho : ∀ args w, ov 61 args w = none) (h85 : HasP ov 85 S85.F) (x s : Int) (h : 1 ≤ s ∧ s ≤ x ∧ x ≤ 1000000) (w : AW) : ∃ v w', (run Tryd.prog ov 2).call 61 [.int .i64 x, .int .i64 s] w .none = .ok (.ret v) w' .none ∧ v = .int .i64 (moI x s) := by
  refine call_wp text61 (by simp) (ho _ _) ?_
  have r85 := fun w => S85.call1 (P := Tryd.prog) h85 (w := w) ⟨1000 * (x - s), x, rfl, ⟨by omega, by omega⟩, by omega, rfl⟩
  have w1 : IntKind.wrap .i64 (x - s) = x - s := wrap64_in (by omega) (by omega)
  have w2 : IntKind.wrap .i64 (1000 * (x - s)) = 1000 * (x - s) := wrap64_in (by omega) (by omega)
  simp [mc61, r85, w1, w2, tupV, clI, moI]
theorem mo_bd {x s : Int} (h : 1 ≤ s ∧ s ≤ x ∧ x ≤ 1000000) : 0 ≤ moI x s ∧ moI x s ≤ 1001000000 := by
  have := div_le (c := 1000 * (x - s) + x - 1) (b := x) (by omega) (by omega)
  unfold moI; omega
theorem run84 {ov : Ov} (ho : ∀ args w, ov 84 args w = none) (x s : Int) (h : 1 ≤ s ∧ s ≤ x ∧ x ≤ 1000000) (w : AW) : ∃ v w', (run Tryd.prog ov 2).call 84 [.int .i64 x, .int .i64 s] w .none = .ok (.ret v) w' .none ∧ v = .int .i64 (moI x s) := by
  refine call_wp text84 (by simp) (ho _ _) ?_
  have w1 : IntKind.wrap .i64 (x - s) = x - s := wrap64_in (by omega) (by omega)
  have w2 : IntKind.wrap .i64 (1000 * (x - s)) = 1000 * (x - s) := wrap64_in (by omega) (by omega)
  have w3 : IntKind.wrap .i64 (1000 * (x - s) + x) = 1000 * (x - s) + x := wrap64_in (by omega) (by omega)
  have w4 : IntKind.wrap .i64 (1000 * (x - s) + x - 1) = 1000 * (x - s) + x - 1 := wrap64_in (by omega) (by omega)
  have hx : x ≠ 0 := by omega
  have hb := mo_bd h
  have e : (1000 * (x - s) + x - 1).tdiv x = moI x s := by rw [Int.tdiv_eq_ediv_of_nonneg (by omega)]; rfl
  have w5 : IntKind.wrap .i64 (moI x s) = moI x s := wrap64_in (by omega) (by omega)
  simp [mc84, bin_quo (h := hx), w1, w2, w3, w4, w5, e, tupV]
end Go.Proofs.YtmemdglkkgmjnaaDoor.walk

namespace Go.Proofs.YtmemdglkkgmjnaaDoor.walk
open Go Go.Sh
set_option maxRecDepth 100000
set_option linter.unusedSimpArgs false
/-! the weights of a truth -/
theorem list28 : isList Tryd.prog 28 = true := by kernel_rfl
theorem small3 : smallT Tryd.prog 3 = true := by kernel_rfl
theorem sing_int (z : Int) : singles (intC z) = true := rfl
def LossOk (ls : List Int) : Prop := ∀ x ∈ ls, 0 ≤ x ∧ x ≤ 10000
theorem sum_bd {ls : List Int} (h : LossOk ls) : 0 ≤ ls.sum ∧ ls.sum ≤ 10000 * (ls.length : Int) := by
  induction ls with
  | nil => simp
  | cons x l ih =>
    have h1 := h x List.mem_cons_self
    have h2 := ih fun y hy => h y (List.mem_cons_of_mem _ hy)
    simp only [List.sum_cons, List.length_cons]; omega
theorem call83 {ov : Ov} (m : Nat) (ho : ∀ args w, ov 83 args w = none) (ws s : Int) (ls : List Int) (hws : 0 ≤ ws ∧ ws ≤ 1000000) (hls : LossOk ls) (hlen : ls.length ≤ 14) (lv : Value) (we : AW) (hlim : we.lim ≤ we.next) (hlv : RowsV intC we lv ls) :
    ∃ v w', (run Tryd.prog ov (m + 1)).call 83 [.agg ⟨[.int .i64 ws, .int .i64 s, lv]⟩] we .none = .ok (.ret v) w' .none ∧ AccR intC 3 we.next w' v (wtsL ws ls) ∧ Up we w' := by
  refine call_wp text83 (by simp) (ho _ _) ?_
  have hl3 := fun w2 => len28V (w' := w2) hlv
  simp [mc83, cellsOf_agg, hl3]
  refine wp_seqX (wp_blockX (wp_rounds (fun i t w => AccR intC 3 we.next w (tget t 3) (wtsL ws (ls.take i)) ∧ Up we w ∧ we.next < w.next ∧ tget t 10 = lv ∧ tget t 11 = .int .i64 (ls.length : Nat) ∧ tget t 12 = .int .i64 (i : Nat) ∧ i ≤ ls.length) 20 (by decide) ?_ ?_))
  · refine ⟨.inr ⟨we.next + 1, ?_, ?_, ?_, ?_, ?_⟩, ((Up.refl we).add _).put (Nat.le_succ _) (Nat.le_succ _), ?_, ?_, ?_, ?_, Nat.zero_le _⟩
    · simp [wtsL]
    · simp [wtsL, intC]
    · omega
    · show we.next + 1 < we.next + 1 + 1; omega
    · simp [wtsL]
    · show we.next < we.next + 1 + 1; omega
    · simp
    · simp
    · simp
  · rintro i t w ⟨hacc, hup, hnx, t10, t11, t12, hi⟩
    by_cases hlt : i < ls.length
    · obtain ⟨x, hx⟩ : ∃ p, ls[i]? = some p := ⟨_, List.getElem?_eq_getElem hlt⟩
      have hxb := hls x (List.mem_of_getElem? hx)
      obtain ⟨b, off, sq, c, rfl, hra⟩ := hlv.at_ i hlt
      have hld := hra.int hx
      rw [← hup.at hra.2] at hld
      have hia := fun w => ia28 w ⟨b, off, sq⟩ ls.length c .i64 i hlt
      simp only [Nat.mul_one] at hia
      have hll : (wtsL ws (ls.take i)).length = i + 1 := by rw [wtsL_length, List.length_take]; omega
      obtain ⟨B, off2, sq2, c2, hv3, hrb⟩ := hacc.rows.at_ i (by omega)
      have hat : (wtsL ws (ls.take i))[i]? = some (ws - (ls.take i).sum) := by
        rw [wtsL_at _ _ _ (by rw [List.length_take]; omega), List.take_take, Nat.min_self]
      have hlb := hrb.int hat
      have hib := fun w => ia28 w ⟨B, off2, sq2⟩ (wtsL ws (ls.take i)).length c2 .i64 i (by omega)
      simp only [Nat.mul_one] at hib
      have hsb := sum_bd (ls := ls.take i) fun y hy => hls y (List.mem_of_mem_take hy)
      have hsl : (ls.take i).length = i := by rw [List.length_take]; omega
      rw [hsl] at hsb
      have hw1 : IntKind.wrap .i64 ((i : Int) + 1) = (i : Int) + 1 := wrap64_in (by omega) (by omega)
      have hw2 : IntKind.wrap .i64 (ws - (ls.take i).sum - x) = ws - (ls.take i).sum - x := wrap64_in (by omega) (by omega)
      have hlm : w.lim ≤ we.next := by have := hup.lim; omega
      obtain ⟨v', w', ha, hacc', hkp, hn', hl'⟩ := AccR.push (P := Tryd.prog) (st := 28) (sz := 1) list28 elem28 sz3 small3 intC_length sing_int (by decide) hacc hlm hnx (by omega) (ws - (ls.take i).sum - x)
      rw [hv3] at ha
      simp only [intC] at ha
      simp [mc83_l0, t10, t11, t12, hlt, hia, hld, hv3, hib, hlb, hw1, hw2, ha]
      have e : wtsL ws (ls.take (i + 1)) = wtsL ws (ls.take i) ++ [ws - (ls.take i).sum - x] := by rw [take_snoc hx, wtsL_snoc]
      refine ⟨by omega, by rw [e]; exact hacc', ⟨fun y hy => by rw [hkp y (by omega)]; exact hup.old y hy, by omega, by have := hup.lim; omega⟩, by omega, hlt⟩
    · have hi' : i = ls.length := by omega
      subst hi'
      rw [List.take_length] at hacc
      have nj := hacc.ok
      simp [mc83_l0, t11, t12, nj, tupV]
      exact ⟨hacc, hup⟩
/-! a box that goes through acts -/
def spC (p : Sp) : List Value := [.int .i64 p.1, .int .i64 p.2]
@[simp] theorem spC_length (p : Sp) : (spC p).length = 2 := rfl
theorem spC_inj (a b : Sp) (h : spC a = spC b) : a = b := by
  cases a; cases b; simpa [spC] using h
end Go.Proofs.YtmemdglkkgmjnaaDoor.walk

namespace Go.Proofs.YtmemdglkkgmjnaaDoor.walk
open Go Go.Sh
set_option maxRecDepth 100000
set_option linter.unusedSimpArgs false
theorem mk43 (n : Nat) (hn : n ≤ 1000) (w : AW) : makeSliceA Tryd.prog w 43 (.int .i64 (n : Int)) (.int .i64 (n : Int)) = .val (.slice (some ⟨w.next, 0, none⟩) n n) ⟨w.heap.put w.next (some (.cells ((List.replicate n ((0, 0) : Sp)).flatMap spC) 25 false)), w.next + 1, w.lim⟩ := by
  rw [make_eq (e := 25) (z := .agg ⟨[.int .i64 0, .int .i64 0]⟩) (by kernel_rfl) (by kernel_rfl) (by kernel_rfl) n hn w, ← repl_flat]; rfl
def partL (L : List Sp) (n i : Nat) : List Sp := L.take i ++ List.replicate (n - i) (0, 0)
theorem part_zero (L : List Sp) (n : Nat) : partL L n 0 = List.replicate n (0, 0) := by simp [partL]
theorem part_full (L : List Sp) : partL L L.length L.length = L := by simp [partL]
theorem part_length {L : List Sp} {i : Nat} (h : i ≤ L.length) : (partL L L.length i).length = L.length := by simp [partL]; omega
theorem part_set {L : List Sp} {i : Nat} {x : Sp} (h : L[i]? = some x) : (partL L L.length i).set i x = partL L L.length (i + 1) := by
  have hi := (List.getElem?_eq_some_iff.1 h).1
  unfold partL
  rw [take_snoc h]
  obtain ⟨k, hk⟩ : ∃ k, L.length - i = k + 1 := ⟨L.length - i - 1, by omega⟩
  rw [hk, List.replicate_succ, List.set_append_right _ _ (by rw [List.length_take]; omega)]
  rw [show i - (L.take i).length = 0 by rw [List.length_take]; omega, List.set_cons_zero, show L.length - (i + 1) = k by omega]
  simp
def procC (b : CBox) (pv : Value) : List Value := [.int .i64 b.wl, .int .i64 b.wh, .int .i64 b.sl, .int .i64 b.sh, pv]
set_option maxHeartbeats 1000000 in
theorem call57 {ov : Ov} (m : Nat) (ho : ∀ args w, ov 57 args w = none) (r : List CAct) (acts : List Int) (hact : ∀ a ∈ acts, 0 ≤ a ∧ ∃ x, r[a.toNat]? = some x) (hlen : acts.length ≤ 14) (b : CBox) (rv av : Value) (we : AW) (hlim : we.lim ≤ we.next) (hrv : RowsV actC we rv r) (hav : RowsV intC we av acts) :
    ∃ v w', (run Tryd.prog ov (m + 1)).call 57 [rv, .agg ⟨boxC b⟩, av] we .none = .ok (.ret v) w' .none ∧ ∃ pv, v = .agg ⟨procC b pv⟩ ∧ RowsV spC w' pv (lossL r acts) ∧ (∃ p n c, pv = .slice p n c) ∧ Up we w' := by
  refine call_wp text57 (by simp) (ho _ _) ?_
  have hl3 := fun w2 => len28V (w' := w2) hav
  have hLl : (lossL r acts).length = acts.length := by simp [lossL]
  have sm : sameVal 5 (.agg ⟨[.int .i64 b.wl, .int .i64 b.wh, .int .i64 b.sl, .int .i64 b.sh]⟩) (.agg ⟨[.int .i64 b.wl, .int .i64 b.wh, .int .i64 b.sl, .int .i64 b.sh]⟩) = true := same_agg _ (by
    intro v hv
    simp only [List.mem_cons, List.not_mem_nil, or_false] at hv
    rcases hv with rfl | rfl | rfl | rfl <;> exact sameN_int _ _ _)
  have q1 : we.lim ≤ we.next + 1 + 1 + 1 := by omega
  have hmk := fun w => mk43 acts.length (by omega) w
  simp only [boxC]
  simp [mc57, cellsOf_agg, hl3, hmk, sm, q1]
  refine wp_seqX (wp_blockX (wp_rounds (fun i t w => w.heap.get (we.next + 1 + 1) = some (.cells ((partL (lossL r acts) (lossL r acts).length i).flatMap spC) 25 false) ∧ w.heap.get (we.next + 1 + 1 + 1) = some (.cells [.int .i64 b.wl, .int .i64 b.wh, .int .i64 b.sl, .int .i64 b.sh, .slice (some ⟨we.next + 1 + 1, 0, none⟩) acts.length acts.length] 97 false) ∧ w.heap.get (we.next + 1) = some (.cells [.int .i64 0, .int .i64 0, .int .i64 0, .int .i64 0, .slice none 0 0] 97 false) ∧ Up we w ∧ we.next + 4 ≤ w.next ∧ tget t 0 = rv ∧ tget t 2 = av ∧ tget t 6 = .pointer (some ⟨we.next + 1, 0, none⟩) ∧ tget t 7 = .pointer (some ⟨we.next + 1 + 1 + 1, 0, none⟩) ∧ tget t 15 = .int .i64 (acts.length : Nat) ∧ tget t 16 = .int .i64 (i : Nat) ∧ i ≤ acts.length) 20 (by decide) ?_ ?_))
  · refine ⟨?_, ?_, ?_, ?_, ?_, ?_, ?_, ?_, ?_, ?_, ?_, Nat.zero_le _⟩
    · rw [part_zero, hLl]; simp
    · simp
    · simp
    · exact (((((Up.refl we).add _).put (Nat.le_succ _) (Nat.le_succ _)).put (by show we.next ≤ we.next + 1 + 1; omega) (Nat.le_succ _)).put (by show we.next ≤ we.next + 1 + 1 + 1; omega) (Nat.le_succ _)).put (by show we.next ≤ we.next + 1 + 1 + 1; omega) (Nat.le_refl _)
    · show we.next + 4 ≤ we.next + 1 + 1 + 1 + 1; omega
    all_goals simp
  · rintro i t w ⟨hB, h7, h6, hup, hnx, t0, t2, t6, t7, t15, t16, hi⟩
    have hlm : w.lim = we.lim := hup.lim
    by_cases hlt : i < acts.length
    · obtain ⟨a, ha⟩ : ∃ p, acts[i]? = some p := ⟨_, List.getElem?_eq_getElem hlt⟩
      obtain ⟨ha0, x, hx⟩ := hact a (List.mem_of_getElem? ha)
      obtain ⟨n, rfl⟩ : ∃ n : Nat, a = (n : Int) := ⟨a.toNat, by omega⟩
      simp only [Int.toNat_natCast] at hx
      have hn := (List.getElem?_eq_some_iff.1 hx).1
      obtain ⟨bb, off, sq, c, rfl, hra⟩ := hav.at_ i hlt
      obtain ⟨b2, off2, sq2, c2, rfl, hrb⟩ := hrv.at_ n hn
      have hld := hra.int ha
      have f5 : rdO (we.heap.get b2) (off2 + n * 7 + 5) 2 = some [.int .i64 x.ll, .int .i64 x.lh] := rdO_sub (hrb.rd actC_length hx) (j := 5) (k := 2) (by decide)
      rw [← hup.at hra.2] at hld
      rw [← hup.at hrb.2] at f5
      have hia := fun w => ia28 w ⟨bb, off, sq⟩ acts.length c .i64 i hlt
      simp only [Nat.mul_one] at hia
      have hib := fun w => ia22 w ⟨b2, off2, sq2⟩ r.length c2 .i64 n hn
      have hic := fun w => ia43 w ⟨we.next + 1 + 1, 0, none⟩ acts.length acts.length .i64 i hlt
      have hw1 : IntKind.wrap .i64 ((i : Int) + 1) = (i : Int) + 1 := wrap64_in (by omega) (by omega)
      have hLi : (lossL r acts)[i]? = some (x.ll, x.lh) := by
        unfold lossL
        rw [List.getElem?_map, ha]
        simp [hx]
      have hps := part_set hLi
      have hfs := flat_set spC_length (partL (lossL r acts) (lossL r acts).length i) i (x.ll, x.lh) (by rw [part_length (by omega)]; omega)
      rw [hps] at hfs
      have hfl : ((partL (lossL r acts) (lossL r acts).length i).flatMap spC).length = acts.length * 2 := by rw [flat_length spC_length, part_length (by omega), hLl]
      obtain ⟨cs, hcs⟩ : ∃ cs, cs = (partL (lossL r acts) (lossL r acts).length i).flatMap spC := ⟨_, rfl⟩
      rw [← hcs] at hB hfs hfl
      simp only [spC, List.cons_append, List.nil_append] at hfs
      have q2 : w.lim ≤ we.next + 1 + 1 := by omega
      have q3 : i * 2 + 2 ≤ acts.length * 2 := by omega
      have n1 : ¬ we.next + 1 + 1 + 1 = we.next + 1 + 1 := by omega
      have n2 : ¬ we.next + 1 = we.next + 1 + 1 := by omega
      simp [mc57_l0, t0, t2, t6, t7, t15, t16, hlt, h7, hia, hld, hib, f5, hic, hB, hfl, q2, q3, hw1, hfs]
      exact ⟨by omega, h6, hup.put (by omega) (Nat.le_refl _), hnx, hlt⟩
    · have hi' : i = acts.length := by omega
      subst hi'
      have q2 : w.lim ≤ we.next + 1 := by omega
      rw [← hLl, part_full] at hB
      simp [mc57_l0, t6, t7, t15, t16, h7, h6, q2, tupV]
      refine ⟨_, rfl, ?_, ⟨_, _, _, rfl⟩, hup.put (by omega) (Nat.le_refl _)⟩
      by_cases hz : acts.length = 0
      · refine .inl ⟨List.eq_nil_of_length_eq_zero (by rw [hLl, hz]), _, _, by rw [hz]⟩
      · refine .inr ⟨we.next + 1 + 1, 0, none, acts.length, by rw [hLl], ⟨[], [], 25, false, ?_, rfl⟩, by show we.next + 1 + 1 < w.next; omega⟩
        show (w.heap.put (we.next + 1) _).get (we.next + 1 + 1) = _
        rw [get_put, if_neg (by omega), hB]; simp
end Go.Proofs.YtmemdglkkgmjnaaDoor.walk

namespace Go.Proofs.YtmemdglkkgmjnaaDoor.walk
open Go Go.Sh
set_option maxRecDepth 100000
set_option linter.unusedSimpArgs false
/-! is it a truth? -/
theorem len43V {w w' : AW} {v : Value} {l : List Sp} (h : RowsV spC w v l) : lenB Tryd.prog w' 43 v = .val (.int .i64 (l.length : Nat)) w' := by
  obtain ⟨a, c, rfl⟩ := h.len; simp
structure TruOk (b : CBox) (L : List Sp) : Prop where
  box : boxB b = true
  len : L.length ≤ 14
  sp : ∀ p ∈ L, 0 ≤ p.1 ∧ p.2 ≤ 10000
def S58 : PSpec where
  R args w v := ∃ (pv lv : Value) (b : CBox) (L : List Sp) (ws s : Int) (ls : List Int), args = [.agg ⟨procC b pv⟩, .agg ⟨[.int .i64 ws, .int .i64 s, lv]⟩] ∧ RowsV spC w pv L ∧ RowsV intC w lv ls ∧ TruOk b L ∧ w.lim ≤ w.next ∧ v = .bool (truB b L ws s ls)
  uniq := by
    rintro _ _ _ _ ⟨_, _, ⟨_, _, _, _⟩, L, _, _, ls, rfl, h1, h2, _, _, rfl⟩ ⟨_, _, ⟨_, _, _, _⟩, L', _, _, ls', h, k1, k2, _, _, rfl⟩
    simp only [procC, List.cons.injEq, Value.agg.injEq, Array.mk.injEq, Value.int.injEq, true_and, and_true] at h
    obtain ⟨⟨rfl, rfl, rfl, rfl, rfl⟩, rfl, rfl, rfl⟩ := h
    rw [h1.uniq (m := 2) spC_length spC_inj k1, h2.uniq (m := 1) intC_length intC_inj k2]
  shut := fun ⟨a1, a2, a3, a4, a5, a6, a7, h1, h2, h3, h4, _, h5⟩ => ⟨a1, a2, a3, a4, a5, a6, a7, h1, h2, h3, h4, Nat.le_refl _, h5⟩
theorem allIn_full {l : List Int} {m : List Sp} {i : Nat} (hi : i = l.length) : allIn (l.take i) m = allIn l m := by rw [hi, List.take_length]
theorem allIn_ok : ∀ {l : List Int} {m : List Sp}, l.length = m.length → (∀ p ∈ m, 0 ≤ p.1 ∧ p.2 ≤ 10000) → allIn l m = true → LossOk l
  | [], _, _, _, _ => fun y hy => by simp at hy
  | x :: l, [], h, _, _ => by simp at h
  | x :: l, p :: m, h, hp, ha => by
    have ha' : (inI p.1 x p.2 && allIn l m) = true := ha
    simp only [Bool.and_eq_true, inI, decide_eq_true_eq] at ha'
    have h1 := hp p List.mem_cons_self
    intro y hy
    rcases List.mem_cons.1 hy with rfl | hy
    · omega
    · exact allIn_ok (by simpa using h) (fun q hq => hp q (List.mem_cons_of_mem _ hq)) ha'.2 y hy
theorem wts_last (ws : Int) (ls : List Int) : (wtsL ws ls)[ls.length]? = some (ws - ls.sum) := by
  rw [wtsL_at ls ws ls.length (Nat.le_refl _), List.take_length]
set_option maxHeartbeats 1000000 in
theorem run58 {ov : Ov} (ho : ∀ args w, ov 58 args w = none) (ho83 : ∀ args w, ov 83 args w = none) (h82 : HasP ov 82 S82.F) (b : CBox) (L : List Sp) (ws s : Int) (ls : List Int) (hT : TruOk b L) (pv lv : Value) (w : AW) (hl : w.lim = w.next) (hpv : RowsV spC w pv L) (hlv : RowsV intC w lv ls) : ∃ x w', (run Tryd.prog ov 3).call 58 [.agg ⟨procC b pv⟩, .agg ⟨[.int .i64 ws, .int .i64 s, lv]⟩] w .none = .ok (.ret x) w' .none ∧ x = .bool (truB b L ws s ls) := by
  refine call_wp text58 (by simp) (ho _ _) ?_
  have hl1 := fun w2 => len43V (w' := w2) hpv
  have hl2 := fun w2 => len28V (w' := w2) hlv
  have r82 := fun n a b w => S82.call (P := Tryd.prog) h82 (m := 1) (w := w) ⟨n, a, b, rfl, rfl⟩
  have hb := hT.box
  simp only [boxB, spanI, Bool.and_eq_true, decide_eq_true_eq] at hb
  simp only [procC]
  cases k1 : inI b.wl ws b.wh with
  | false =>
    have e : truB b L ws s ls = false := by simp [truB, k1]
    simp [mc58, cellsOf_agg, r82, k1, e, tupV]
  | true =>
    cases k2 : inI b.sl s b.sh with
    | false =>
      have e : truB b L ws s ls = false := by simp [truB, k1, k2]
      simp [mc58, cellsOf_agg, r82, k1, k2, e, tupV]
    | true =>
      by_cases k3 : ls.length = L.length
      case neg =>
        have k3' : ¬ (ls.length : Int) = L.length := by omega
        have e : truB b L ws s ls = false := by simp [truB, k1, k2, k3]
        simp [mc58, cellsOf_agg, r82, k1, k2, hl1, hl2, k3, k3', e, tupV]
      have eT : truB b L ws s ls = (allIn ls L && decide (s ≤ ws - ls.sum)) := by simp [truB, k1, k2, k3]
      obtain ⟨w1, hw1e⟩ : ∃ w1 : AW, w1 = ⟨(w.heap.put w.next (some (.cells [.int .i64 b.wl, .int .i64 b.wh, .int .i64 b.sl, .int .i64 b.sh, pv] 97 false))).put (w.next + 1) (some (.cells [.int .i64 ws, .int .i64 s, lv] 32 false)), w.next + 1 + 1, w.lim⟩ := ⟨_, rfl⟩
      have u1 : Up w w1 := by rw [hw1e]; exact ((Up.refl w).add _).put (Nat.le_succ _) (Nat.le_succ _)
      have g2 : w1.heap.get w.next = some (.cells [.int .i64 b.wl, .int .i64 b.wh, .int .i64 b.sl, .int .i64 b.sh, pv] 97 false) := by rw [hw1e]; simp
      have g3 : w1.heap.get (w.next + 1) = some (.cells [.int .i64 ws, .int .i64 s, lv] 32 false) := by rw [hw1e]; simp
      have n1 : w1.next = w.next + 1 + 1 := by rw [hw1e]
      have hlm1 : w1.lim = w.lim := u1.lim
      simp [mc58, cellsOf_agg, r82, k1, k2, hl1, hl2, k3]
      rw [← hw1e]
      refine wp_seqX (wp_blockX (wp_rounds (fun i t w' => w' = w1 ∧ tget t 2 = .pointer (some ⟨w.next, 0, none⟩) ∧ tget t 3 = .pointer (some ⟨w.next + 1, 0, none⟩) ∧ tget t 34 = lv ∧ tget t 35 = .int .i64 (L.length : Nat) ∧ tget t 36 = .int .i64 (i : Nat) ∧ i ≤ L.length ∧ allIn (ls.take i) L = true) 20 (by decide) ⟨rfl, by simp, by simp, by simp, by simp, by simp, Nat.zero_le _, rfl⟩ ?_))
      rintro i t w' ⟨rfl, t2, t3, t34, t35, t36, hi, hall⟩
      by_cases hlt : i < L.length
      · obtain ⟨p, hp⟩ : ∃ p, L[i]? = some p := ⟨_, List.getElem?_eq_getElem hlt⟩
        obtain ⟨x, hx⟩ : ∃ p, ls[i]? = some p := ⟨_, List.getElem?_eq_getElem (by omega)⟩
        obtain ⟨bb, off, sq, c, rfl, hra⟩ := hlv.at_ i (by omega)
        obtain ⟨b2, off2, sq2, c2, rfl, hrb⟩ := hpv.at_ i hlt
        have hld := hra.int hx
        have hlp := hrb.rd (m := 2) spC_length hp
        rw [← u1.at hra.2] at hld
        rw [← u1.at hrb.2] at hlp
        simp only [spC] at hlp
        have hia := fun w => ia28 w ⟨bb, off, sq⟩ ls.length c .i64 i (by omega)
        simp only [Nat.mul_one] at hia
        have hib := fun w => ia43 w ⟨b2, off2, sq2⟩ L.length c2 .i64 i hlt
        have h14 := hT.len
        have hw1 : IntKind.wrap .i64 ((i : Int) + 1) = (i : Int) + 1 := wrap64_in (by omega) (by omega)
        have hsn := allIn_take hx hp
        rw [hall, Bool.true_and] at hsn
        rw [← k3] at t35
        have hlt' : i < ls.length := by omega
        cases k4 : inI p.1 x p.2 with
        | false =>
          rw [k4] at hsn
          have e : truB b L ws s ls = false := by rw [eT, allIn_pre hsn, Bool.false_and]
          rw [e]
          simp [mc58_l0, t2, t3, t34, t35, t36, hlt', hia, hld, g2, hib, hlp, r82, k4, tupV]
        | true =>
          rw [k4] at hsn
          simp [mc58_l0, t2, t3, t34, t35, t36, hlt', hia, hld, g2, hib, hlp, r82, k4, hw1]
          exact ⟨by omega, by omega, hlt, hsn⟩
      · have hi' : i = L.length := by omega
        subst hi'
        rw [← k3, allIn_full rfl] at hall
        have hls := allIn_ok k3 hT.sp hall
        have h14 := hT.len
        simp only [inI, Bool.and_eq_true, decide_eq_true_eq] at k1
        obtain ⟨v83, w3, c83, hacc, hup⟩ := call83 (ov := ov) 1 ho83 ws s ls (by omega) hls (by omega) lv w' (by omega) (hlv.up u1)
        have hwl : (wtsL ws ls).length = ls.length + 1 := wtsL_length ls ws
        obtain ⟨B, off2, sq2, c2, hv3, hrb⟩ := hacc.rows.at_ ls.length (by omega)
        have hlb := hrb.int (wts_last ws ls)
        have hib := fun w => ia28 w ⟨B, off2, sq2⟩ (wtsL ws ls).length c2 .i64 ls.length (by omega)
        simp only [Nat.mul_one] at hib
        have hlv3 := fun w2 => len28V (w' := w2) hacc.rows
        rw [hv3] at c83 hlv3
        have g33 : w3.heap.get (w.next + 1) = some (.cells [.int .i64 ws, .int .i64 s, lv] 32 false) := by rw [hup.at (by omega)]; exact g3
        have hwn : IntKind.wrap .i64 (((wtsL ws ls).length : Int) - 1) = (ls.length : Int) := by rw [wrap64_in (by omega) (by omega)]; omega
        simp only [Nat.reduceAdd] at c83
        rw [eT, hall, Bool.true_and]
        simp [mc58_l0, t2, t3, t35, t36, g3, c83, hlv3, hwn, hib, hlb, g33, tupV]
end Go.Proofs.YtmemdglkkgmjnaaDoor.walk

namespace Go.Proofs.YtmemdglkkgmjnaaDoor.walk
open Go Go.Sh
set_option maxRecDepth 100000
set_option linter.unusedSimpArgs false
/-! the weights and the moistures of a truth -/
def S84 : PSpec := S61
theorem mk28 (n : Nat) (hn : n ≤ 1000) (w : AW) : makeSliceA Tryd.prog w 28 (.int .i64 (n : Int)) (.int .i64 (n : Int)) = .val (.slice (some ⟨w.next, 0, none⟩) n n) ⟨w.heap.put w.next (some (.cells ((List.replicate n (0 : Int)).flatMap intC) 3 false)), w.next + 1, w.lim⟩ := by
  rw [make_eq (e := 3) (z := .int .i64 0) (by kernel_rfl) (by kernel_rfl) (by kernel_rfl) n hn w, ← repl_flat]; rfl
def partI (L : List Int) (n i : Nat) : List Int := L.take i ++ List.replicate (n - i) 0
theorem partI_zero (L : List Int) (n : Nat) : partI L n 0 = List.replicate n 0 := by simp [partI]
theorem partI_full (L : List Int) : partI L L.length L.length = L := by simp [partI]
theorem partI_length {L : List Int} {i : Nat} (h : i ≤ L.length) : (partI L L.length i).length = L.length := by simp [partI]; omega
theorem partI_set {L : List Int} {i : Nat} {x : Int} (h : L[i]? = some x) : (partI L L.length i).set i x = partI L L.length (i + 1) := by
  have hi := (List.getElem?_eq_some_iff.1 h).1
  unfold partI
  rw [take_snoc h]
  obtain ⟨k, hk⟩ : ∃ k, L.length - i = k + 1 := ⟨L.length - i - 1, by omega⟩
  rw [hk, List.replicate_succ, List.set_append_right _ _ (by rw [List.length_take]; omega)]
  rw [show i - (L.take i).length = 0 by rw [List.length_take]; omega, List.set_cons_zero, show L.length - (i + 1) = k by omega]
  simp
/-- all weights of a truth are not below what is no water, and not above the first -/
theorem wts_bd {ws s : Int} {ls : List Int} (hls : LossOk ls) (hle : s ≤ ws - ls.sum) {i : Nat} {x : Int} (h : (wtsL ws ls)[i]? = some x) : s ≤ x ∧ x ≤ ws := by
  have hi : i ≤ ls.length := by
    have := (List.getElem?_eq_some_iff.1 h).1
    rw [wtsL_length] at this; omega
  rw [wtsL_at ls ws i hi] at h
  cases h
  have h1 := sum_bd (ls := ls.take i) fun y hy => hls y (List.mem_of_mem_take hy)
  have h2 := sum_bd (ls := ls.drop i) fun y hy => hls y (List.mem_of_mem_drop hy)
  have h3 : ls.sum = (ls.take i).sum + (ls.drop i).sum := by rw [← List.sum_append, List.take_append_drop]
  omega
def mosL (ws s : Int) (ls : List Int) : List Int := (wtsL ws ls).map fun x => moI x s
set_option maxHeartbeats 1000000 in
theorem call59 {ov : Ov} (m : Nat) (ho : ∀ args w, ov 59 args w = none) (ho83 : ∀ args w, ov 83 args w = none) (h84 : HasP ov 84 S84.F) (ws s : Int) (ls : List Int) (hs : 1 ≤ s) (hws : ws ≤ 1000000) (hle : s ≤ ws - ls.sum) (hls : LossOk ls) (hlen : ls.length ≤ 14) (lv : Value) (we : AW) (hlim : we.lim ≤ we.next) (hlv : RowsV intC we lv ls) :
    ∃ v w', (run Tryd.prog ov (m + 2)).call 59 [.agg ⟨[.int .i64 ws, .int .i64 s, lv]⟩] we .none = .ok (.ret v) w' .none ∧ ∃ v1 v2, v = .tuple ⟨[v1, v2]⟩ ∧ RowsV intC w' v1 (wtsL ws ls) ∧ RowsV intC w' v2 (mosL ws s ls) ∧ Up we w' ∧ notJunk v1 = some v1 ∧ notJunk v2 = some v2 := by
  refine call_wp text59 (by simp) (ho _ _) ?_
  have hsb := sum_bd hls
  obtain ⟨w1, hw1e⟩ : ∃ w1 : AW, w1 = ⟨we.heap.put we.next (some (.cells [.int .i64 ws, .int .i64 s, lv] 32 false)), we.next + 1, we.lim⟩ := ⟨_, rfl⟩
  have u1 : Up we w1 := by rw [hw1e]; exact (Up.refl we).add _
  have n1 : w1.next = we.next + 1 := by rw [hw1e]
  have l1 : w1.lim = we.lim := u1.lim
  have g1 : w1.heap.get we.next = some (.cells [.int .i64 ws, .int .i64 s, lv] 32 false) := by rw [hw1e]; simp
  obtain ⟨v83, w3, c83, hacc, hup⟩ := call83 (ov := ov) m ho83 ws s ls (by omega) hls hlen lv w1 (by omega) (hlv.up u1)
  have hwl : (wtsL ws ls).length = ls.length + 1 := wtsL_length ls ws
  have nj := hacc.ok
  have n3 : we.next + 1 ≤ w3.next := by have := hup.next; omega
  have l3 : w3.lim = we.lim := by rw [hup.lim, l1]
  have g3 : w3.heap.get we.next = some (.cells [.int .i64 ws, .int .i64 s, lv] 32 false) := by rw [hup.at (by omega)]; exact g1
  obtain ⟨B, off2, sq2, c2, hv3, hrb⟩ := hacc.rows.at_ 0 (by omega)
  have hb3 := hrb.2
  have hlv3 := fun w2 => len28V (w' := w2) hacc.rows
  have hmk := fun w => mk28 (wtsL ws ls).length (by omega) w
  rw [hw1e] at c83
  simp [mc59, cellsOf_agg, c83, hlv3, hmk]
  refine wp_seqX (wp_blockX (wp_rounds (fun i t w => w.heap.get w3.next = some (.cells ((partI (mosL ws s ls) (mosL ws s ls).length i).flatMap intC) 3 false) ∧ (∀ x, x < w3.next → w.heap.get x = w3.heap.get x) ∧ w3.next < w.next ∧ w.lim = we.lim ∧ tget t 1 = .pointer (some ⟨we.next, 0, none⟩) ∧ tget t 2 = v83 ∧ tget t 3 = .slice (some ⟨w3.next, 0, none⟩) (wtsL ws ls).length (wtsL ws ls).length ∧ tget t 11 = v83 ∧ tget t 12 = .int .i64 ((wtsL ws ls).length : Nat) ∧ tget t 13 = .int .i64 (i : Nat) ∧ i ≤ (wtsL ws ls).length) 20 (by decide) ?_ ?_))
  · refine ⟨?_, ?_, ?_, ?_, ?_, ?_, ?_, ?_, ?_, ?_, Nat.zero_le _⟩
    · rw [partI_zero]; simp [mosL]
    · intro x hx
      show (w3.heap.put w3.next _).get x = _
      rw [get_put, if_neg (by omega)]
    · exact Nat.lt_succ_self _
    · exact l3
    all_goals simp
  · rintro i t w ⟨hB, hold, hnx, hlm, t1, t2, t3, t11, t12, t13, hi⟩
    have hml : (mosL ws s ls).length = (wtsL ws ls).length := by simp [mosL]
    by_cases hlt : i < (wtsL ws ls).length
    · obtain ⟨x, hx⟩ : ∃ p, (wtsL ws ls)[i]? = some p := ⟨_, List.getElem?_eq_getElem hlt⟩
      have hxb := wts_bd hls hle hx
      have hmx : (mosL ws s ls)[i]? = some (moI x s) := by unfold mosL; rw [List.getElem?_map, hx]; rfl
      have r84 := fun w => S61.call (P := Tryd.prog) h84 (m := m) (w := w) ⟨x, s, rfl, by omega, rfl⟩
      have hld := hrb.int hx
      rw [← hold B hb3] at hld
      have hia := fun w => ia28 w ⟨B, off2, sq2⟩ (wtsL ws ls).length c2 .i64 i hlt
      have hib := fun w => ia28 w ⟨w3.next, 0, none⟩ (wtsL ws ls).length (wtsL ws ls).length .i64 i hlt
      simp only [Nat.mul_one] at hia hib
      have g1w : w.heap.get we.next = some (.cells [.int .i64 ws, .int .i64 s, lv] 32 false) := by rw [hold _ (by omega)]; exact g3
      have hw1 : IntKind.wrap .i64 ((i : Int) + 1) = (i : Int) + 1 := wrap64_in (by omega) (by omega)
      have hps := partI_set hmx
      have hfs := flat_set intC_length (partI (mosL ws s ls) (mosL ws s ls).length i) i (moI x s) (by rw [partI_length (by omega)]; omega)
      rw [hps] at hfs
      have hfl : ((partI (mosL ws s ls) (mosL ws s ls).length i).flatMap intC).length = (wtsL ws ls).length := by rw [flat_length intC_length, partI_length (by omega), hml]; omega
      obtain ⟨cs, hcs⟩ : ∃ cs, cs = (partI (mosL ws s ls) (mosL ws s ls).length i).flatMap intC := ⟨_, rfl⟩
      rw [← hcs] at hB hfs hfl
      simp only [intC, List.cons_append, List.nil_append, Nat.mul_one] at hfs
      have q2 : w.lim ≤ w3.next := by omega
      have q3 : i + 1 ≤ (wtsL ws ls).length := hlt
      rw [hv3] at t11
      simp [mc59_l0, t1, t2, t3, t11, t12, t13, hlt, g1w, hia, hld, r84, hib, hB, hfl, q2, q3, hw1, hfs]
      exact ⟨by omega, fun x hx => by rw [if_neg (by omega)]; exact hold x hx, hnx, hlm, hv3.symm⟩
    · have hi' : i = (wtsL ws ls).length := by omega
      subst hi'
      rw [← hml, partI_full] at hB
      have nj2 : notJunk (.slice (some ⟨w3.next, 0, none⟩) (wtsL ws ls).length (wtsL ws ls).length) = some (.slice (some ⟨w3.next, 0, none⟩) (wtsL ws ls).length (wtsL ws ls).length) := rfl
      have u4 : Up w3 w := ⟨hold, Nat.le_of_lt hnx, by rw [hlm, l3]⟩
      simp [mc59_l0, t2, t3, t11, t12, t13, nj, nj2, tupV]
      refine ⟨_, _, ⟨rfl, rfl⟩, hacc.rows.up u4, .inr ⟨w3.next, 0, none, _, by rw [hml], ⟨[], [], 3, false, by simpa using hB, rfl⟩, hnx⟩, (u1.trans hup).trans u4, nj, nj2⟩
end Go.Proofs.YtmemdglkkgmjnaaDoor.walk

namespace Go.Proofs.YtmemdglkkgmjnaaDoor.walk
open Go Go.Sh
set_option maxRecDepth 100000
set_option linter.unusedSimpArgs false
/-! Follow -/
def S18 : PSpec where
  R args w v := ∃ (a b : Value) (L : List Int), args = [a, b] ∧ RowsV intC w a L ∧ RowsV intC w b L ∧ L.length ≤ 1000 ∧ v = .bool true
  uniq := by rintro _ _ _ _ ⟨_, _, _, rfl, _, _, _, rfl⟩ ⟨_, _, _, _, _, _, _, rfl⟩; rfl
  shut h := h
theorem run18 {ov : Ov} (ho : ∀ args w, ov 18 args w = none) (L : List Int) (hlen : L.length ≤ 1000) (u v : Value) (w : AW) (hu : RowsV intC w u L) (hv : RowsV intC w v L) : ∃ y w', (run Tryd.prog ov 2).call 18 [u, v] w .none = .ok (.ret y) w' .none ∧ y = .bool true := by
  refine call_wp text18 (by simp) (ho _ _) ?_
  have hlu := fun w2 => len28V (w' := w2) hu
  have hlv := fun w2 => len28V (w' := w2) hv
  simp [mc18, hlu, hlv]
  refine wp_seqX (wp_blockX (wp_rounds (fun i t w' => w' = w ∧ tget t 0 = u ∧ tget t 1 = v ∧ tget t 5 = .bool true ∧ tget t 6 = .int .i64 (i : Nat) ∧ i ≤ L.length) 2000 (by decide) ⟨rfl, by simp, by simp, by simp, by simp, Nat.zero_le _⟩ ?_))
  rintro i t w' ⟨rfl, t0, t1, t5, t6, hi⟩
  by_cases hlt : i < L.length
  · obtain ⟨z, hz⟩ : ∃ z, L[i]? = some z := ⟨_, List.getElem?_eq_getElem hlt⟩
    obtain ⟨b, off, sq, cp, rfl, hr⟩ := hu.at_ i hlt
    obtain ⟨b', off', sq', cp', rfl, hr'⟩ := hv.at_ i hlt
    have hld := hr.int hz
    have hld' := hr'.int hz
    have hia := fun w => ia28 w ⟨b, off, sq⟩ L.length cp .i64 i hlt
    have hia' := fun w => ia28 w ⟨b', off', sq'⟩ L.length cp' .i64 i hlt
    simp only [Nat.mul_one] at hia hia'
    have hw1 : IntKind.wrap .i64 ((i : Int) + 1) = (i : Int) + 1 := wrap64_in (by omega) (by omega)
    simp [mc18_l0, t0, t1, t5, t6, hlt, hia, hia', hld, hld', hlu, hw1]
    exact ⟨by omega, hlt⟩
  · have hi' : i = L.length := by omega
    subst hi'
    simp [mc18_l0, t0, t5, t6, hlu, tupV]
def folE (r : List CAct) (d : List CDay) (b : CBox) (acts : List Int) (ws s : Int) (ls : List Int) : Int := if actE r d b acts = 0 then (if truB b (lossL r acts) ws s ls = true then 0 else 66) else actE r d b acts
def folW (r : List CAct) (d : List CDay) (b : CBox) (acts : List Int) (ws s : Int) (ls : List Int) : List Int := if folE r d b acts ws s ls = 0 then wtsL ws ls else []
def folM (r : List CAct) (d : List CDay) (b : CBox) (acts : List Int) (ws s : Int) (ls : List Int) : List Int := if folE r d b acts ws s ls = 0 then mosL ws s ls else []
theorem tru_ok {r : List CAct} {d : List CDay} {b : CBox} {acts : List Int} (h : actE r d b acts = 0) : TruOk b (lossL r acts) ∧ acts.length ≤ 14 ∧ ∀ a ∈ acts, 0 ≤ a ∧ ∃ x, r[a.toNat]? = some x := by
  obtain ⟨hR, hD, hB, s, hs⟩ := act_ofE h
  have hl := stg_len hR hs
  have hd := days_len hD
  have ha := stg_acts _ _ _ hs
  refine ⟨⟨hB, by simp [lossL]; omega, fun p hp => ?_⟩, by omega, ha⟩
  simp only [lossL, List.mem_map] at hp
  obtain ⟨a, ham, rfl⟩ := hp
  obtain ⟨_, x, hx⟩ := ha a ham
  rw [hx]
  obtain ⟨_, _, k, _⟩ := act_of hR hx
  simp only [spanI, Bool.and_eq_true, decide_eq_true_eq] at k
  simp only; omega
theorem tru_of {b : CBox} {L : List Sp} {ws s : Int} {ls : List Int} (hT : TruOk b L) (h : truB b L ws s ls = true) : 1 ≤ s ∧ ws ≤ 1000000 ∧ s ≤ ws - ls.sum ∧ LossOk ls ∧ ls.length = L.length := by
  have hb := hT.box
  simp only [boxB, spanI, Bool.and_eq_true, decide_eq_true_eq] at hb
  simp only [truB, inI, Bool.and_eq_true, decide_eq_true_eq] at h
  obtain ⟨h1, h2, h3, h4, h5⟩ := h
  exact ⟨by omega, by omega, h5, allIn_ok h3 hT.sp h4, h3⟩
set_option maxHeartbeats 1000000 in
theorem call16 {ov : Ov} (m : Nat) (ho : ∀ args w, ov 16 args w = none) (ho57 : ∀ args w, ov 57 args w = none) (ho59 : ∀ args w, ov 59 args w = none) (ho83 : ∀ args w, ov 83 args w = none) (h56 : HasP ov 56 S56.F) (h58 : HasP ov 58 S58.F) (h84 : HasP ov 84 S84.F) (r : List CAct) (d : List CDay) (b : CBox) (acts : List Int) (ws s : Int) (ls : List Int) (rv dv av lv : Value) (we : AW) (hlim : we.lim ≤ we.next) (hL : LimW we) (hrv : RowsV actC we rv r) (hdv : RowsV cdayC we dv d) (hav : RowsV intC we av acts) (hlv : RowsV intC we lv ls) :
    ∃ v w', (run Tryd.prog ov (m + 3)).call 16 [rv, dv, .agg ⟨boxC b⟩, av, .agg ⟨[.int .i64 ws, .int .i64 s, lv]⟩] we .none = .ok (.ret v) w' .none ∧ ∃ v1 v2, v = .tuple ⟨[v1, v2, .int .i64 (folE r d b acts ws s ls)]⟩ ∧ RowsV intC w' v1 (folW r d b acts ws s ls) ∧ RowsV intC w' v2 (folM r d b acts ws s ls) ∧ Up we w' := by
  refine call_wp text16 (by simp) (ho _ _) ?_
  obtain ⟨w1, hw1e⟩ : ∃ w1 : AW, w1 = ⟨(we.heap.put we.next (some (.cells [.int .i64 b.wl, .int .i64 b.wh, .int .i64 b.sl, .int .i64 b.sh] 27 false))).put (we.next + 1) (some (.cells [.int .i64 ws, .int .i64 s, lv] 32 false)), we.next + 1 + 1, we.lim⟩ := ⟨_, rfl⟩
  have u1 : Up we w1 := by rw [hw1e]; exact ((Up.refl we).add _).put (Nat.le_succ _) (Nat.le_succ _)
  have g7 : w1.heap.get we.next = some (.cells [.int .i64 b.wl, .int .i64 b.wh, .int .i64 b.sl, .int .i64 b.sh] 27 false) := by rw [hw1e]; simp
  have g9 : w1.heap.get (we.next + 1) = some (.cells [.int .i64 ws, .int .i64 s, lv] 32 false) := by rw [hw1e]; simp
  have n1 : w1.next = we.next + 1 + 1 := by rw [hw1e]
  have l1 : w1.lim = we.lim := u1.lim
  have r56 := S56.call (P := Tryd.prog) h56 (m := m + 1) ⟨rv, dv, av, r, d, b, acts, rfl, hrv.up u1, hdv.up u1, hav.up u1, hL.up u1, by omega, rfl⟩
  have nn : notJunk (.slice none 0 0) = some (.slice none 0 0) := rfl
  simp only [boxC] at r56 ⊢
  by_cases hA : actE r d b acts = 0
  · obtain ⟨hT, h14, hact⟩ := tru_ok hA
    rw [hA, hw1e] at r56
    obtain ⟨_, w2, c57, pv, rfl, hpv, ⟨p1, p2, p3, rfl⟩, u2⟩ := call57 (ov := ov) (m + 1) ho57 r acts hact h14 b rv av w1 (by omega) (hrv.up u1) (hav.up u1)
    have g92 : w2.heap.get (we.next + 1) = some (.cells [.int .i64 ws, .int .i64 s, lv] 32 false) := by rw [u2.at (by omega)]; exact g9
    have hn2 := u2.next
    have hl2 := u2.lim
    have r58 := S58.call (P := Tryd.prog) h58 (m := m + 1) ⟨_, lv, b, lossL r acts, ws, s, ls, rfl, hpv, hlv.up (u1.trans u2), hT, by omega, rfl⟩
    obtain ⟨q1, q2, rfl⟩ := hlv.len
    have sm : sameVal 5 (.agg ⟨[.int .i64 ws, .int .i64 s, .slice q1 ls.length q2]⟩) (.agg ⟨[.int .i64 ws, .int .i64 s, .slice q1 ls.length q2]⟩) = true := same_agg _ (by
      intro v hv
      simp only [List.mem_cons, List.not_mem_nil, or_false] at hv
      rcases hv with rfl | rfl | rfl
      · exact sameN_int _ _ _
      · exact sameN_int _ _ _
      · exact sameN_slice _ _ _ _)
    simp only [procC, boxC, hw1e] at c57 r58
    cases hB : truB b (lossL r acts) ws s ls with
    | false =>
      have e1 : folE r d b acts ws s ls = 66 := by simp [folE, hA, hB]
      have e2 : folW r d b acts ws s ls = [] := by simp [folW, e1]
      have e3 : folM r d b acts ws s ls = [] := by simp [folM, e1]
      rw [hB] at r58
      simp [mc16, cellsOf_agg, r56, c57, g92, sm, r58, nn, tupV, e1, e2, e3]
      exact ⟨_, _, ⟨rfl, rfl⟩, .inl ⟨rfl, _, _, rfl⟩, .inl ⟨rfl, _, _, rfl⟩, u1.trans u2⟩
    | true =>
      obtain ⟨k1, k2, k3, k4, k5⟩ := tru_of hT hB
      have hLl : (lossL r acts).length = acts.length := by simp [lossL]
      obtain ⟨_, w4, c59, v1, v2, rfl, hv1, hv2, u4, j1, j2⟩ := call59 (ov := ov) m ho59 ho83 h84 ws s ls k1 k2 k3 k4 (by omega) _ w2 (by omega) (hlv.up (u1.trans u2))
      have e1 : folE r d b acts ws s ls = 0 := by simp [folE, hA, hB]
      have e2 : folW r d b acts ws s ls = wtsL ws ls := by simp [folW, e1]
      have e3 : folM r d b acts ws s ls = mosL ws s ls := by simp [folM, e1]
      rw [hB] at r58
      simp [mc16, cellsOf_agg, r56, c57, g92, sm, r58, c59, j1, j2, tupV, e1, e2, e3]
      exact ⟨_, _, ⟨rfl, rfl⟩, hv1, hv2, (u1.trans u2).trans u4⟩
  · rw [hw1e] at r56
    have e1 : folE r d b acts ws s ls = actE r d b acts := by simp [folE, hA]
    have e2 : folW r d b acts ws s ls = [] := by simp [folW, e1, hA]
    have e3 : folM r d b acts ws s ls = [] := by simp [folM, e1, hA]
    simp [mc16, cellsOf_agg, r56, hA, nn, tupV, e1, e2, e3]
    rw [hw1e] at u1
    exact ⟨_, _, ⟨rfl, rfl⟩, .inl ⟨rfl, _, _, rfl⟩, .inl ⟨rfl, _, _, rfl⟩, u1⟩
end Go.Proofs.YtmemdglkkgmjnaaDoor.walk

namespace Go.Proofs.YtmemdglkkgmjnaaDoor.walk
open Go Go.Sh
set_option maxRecDepth 100000
set_option linter.unusedSimpArgs false
/-! what the specification says of a truth -/
set_option maxHeartbeats 2000000 in
theorem call17 {ov : Ov} (m : Nat) (ho : ∀ args w, ov 17 args w = none) (h39 : HasP ov 39 S39.F) (h60 : HasP ov 60 S60.F) (h61 : HasP ov 61 S61.F) (r : List CAct) (d : List CDay) (b : CBox) (acts : List Int) (ws s : Int) (ls : List Int) (rv dv av lv : Value) (we : AW) (hlim : we.lim ≤ we.next) (hrv : RowsV actC we rv r) (hdv : RowsV cdayC we dv d) (hav : RowsV intC we av acts) (hcap : CapV av) (hlv : RowsV intC we lv ls) :
    ∃ v w', (run Tryd.prog ov (m + 2)).call 17 [rv, dv, .agg ⟨boxC b⟩, av, .agg ⟨[.int .i64 ws, .int .i64 s, lv]⟩] we .none = .ok (.ret v) w' .none ∧ ∃ v1 v2, v = .tuple ⟨[v1, v2, .int .i64 (folE r d b acts ws s ls)]⟩ ∧ RowsV intC w' v1 (folW r d b acts ws s ls) ∧ RowsV intC w' v2 (folM r d b acts ws s ls) ∧ Up we w' := by
  refine call_wp text17 (by simp) (ho _ _) ?_
  obtain ⟨w1, hw1e⟩ : ∃ w1 : AW, w1 = ⟨(we.heap.put we.next (some (.cells [.int .i64 b.wl, .int .i64 b.wh, .int .i64 b.sl, .int .i64 b.sh] 27 false))).put (we.next + 1) (some (.cells [.int .i64 ws, .int .i64 s, lv] 32 false)), we.next + 1 + 1, we.lim⟩ := ⟨_, rfl⟩
  have u1 : Up we w1 := by rw [hw1e]; exact ((Up.refl we).add _).put (Nat.le_succ _) (Nat.le_succ _)
  have g9 : w1.heap.get (we.next + 1) = some (.cells [.int .i64 ws, .int .i64 s, lv] 32 false) := by rw [hw1e]; simp
  have n1 : w1.next = we.next + 1 + 1 := by rw [hw1e]
  have l1 : w1.lim = we.lim := u1.lim
  have r60 := S60.call (P := Tryd.prog) h60 (m := m) ⟨rv, dv, av, r, d, b, acts, rfl, hrv.up u1, hdv.up u1, hav.up u1, hcap, rfl⟩
  have r39 := fun n a b w => S39.call (P := Tryd.prog) h39 (m := m) (w := w) ⟨n, a, b, rfl, rfl⟩
  have nn : notJunk (.slice none 0 0) = some (.slice none 0 0) := rfl
  have hl2 := fun w2 => len28V (w' := w2) hlv
  have hl3 := fun w2 => len28V (w' := w2) hav
  simp only [boxC] at r60 ⊢
  by_cases hA : actE r d b acts = 0
  case neg =>
    rw [hw1e] at r60
    have e1 : folE r d b acts ws s ls = actE r d b acts := by simp [folE, hA]
    have e2 : folW r d b acts ws s ls = [] := by simp [folW, e1, hA]
    have e3 : folM r d b acts ws s ls = [] := by simp [folM, e1, hA]
    simp [mc17, cellsOf_agg, r60, hA, nn, tupV, e1, e2, e3]
    rw [hw1e] at u1
    exact ⟨_, _, ⟨rfl, rfl⟩, .inl ⟨rfl, _, _, rfl⟩, .inl ⟨rfl, _, _, rfl⟩, u1⟩
  obtain ⟨hT, h14, hact⟩ := tru_ok hA
  have hLl : (lossL r acts).length = acts.length := by simp [lossL]
  have hbx := hT.box
  simp only [boxB, spanI, Bool.and_eq_true, decide_eq_true_eq] at hbx
  rw [hA, hw1e] at r60
  -- the row of the first weight
  obtain ⟨w2, hw2e⟩ : ∃ w2 : AW, w2 = ⟨((we.heap.put we.next (some (.cells [.int .i64 b.wl, .int .i64 b.wh, .int .i64 b.sl, .int .i64 b.sh] 27 false))).put (we.next + 1) (some (.cells [.int .i64 ws, .int .i64 s, lv] 32 false))).put (we.next + 1 + 1) (some (.cells [.int .i64 ws] 3 false)), we.next + 1 + 1 + 1, we.lim⟩ := ⟨_, rfl⟩
  have u2 : Up we w2 := by rw [hw2e]; exact (((Up.refl we).add _).put (Nat.le_succ _) (Nat.le_succ _)).put (by show we.next ≤ we.next + 1 + 1; omega) (Nat.le_succ _)
  have g92 : w2.heap.get (we.next + 1) = some (.cells [.int .i64 ws, .int .i64 s, lv] 32 false) := by rw [hw2e]; simp
  have n2 : w2.next = we.next + 1 + 1 + 1 := by rw [hw2e]
  have l2 : w2.lim = we.lim := u2.lim
  have acc0 : AccR intC 3 (we.next + 1) w2 (.slice (some ⟨we.next + 1 + 1, 0, none⟩) 1 1) (wtsL ws (ls.take 0)) := .inr ⟨we.next + 1 + 1, by simp [wtsL], by rw [hw2e]; simp [wtsL, intC], by omega, by omega, by simp [wtsL]⟩
  have hbad : truB b (lossL r acts) ws s ls = false → folE r d b acts ws s ls = 66 ∧ folW r d b acts ws s ls = [] ∧ folM r d b acts ws s ls = [] := fun h => by
    have e1 : folE r d b acts ws s ls = 66 := by simp [folE, hA, h]
    exact ⟨e1, by simp [folW, e1], by simp [folM, e1]⟩
  cases k1 : inI b.wl ws b.wh with
  | false =>
    obtain ⟨e1, e2, e3⟩ := hbad (by simp [truB, k1])
    simp [mc17, cellsOf_agg, r60, r39, k1]
    rw [← hw2e]
    refine wp_seqX (wp_blockX (wp_rounds (fun i t w' => i = 0 ∧ w' = w2 ∧ tget t 10 = .slice none 0 0 ∧ tget t 11 = .slice none 0 0 ∧ tget t 14 = .bool false) 20 (by decide) ⟨rfl, rfl, by simp, by simp, by simp⟩ ?_))
    rintro i t w' ⟨rfl, rfl, t10, t11, t14⟩
    simp [mc17_l0, t10, t11, t14, nn, tupV, e1, e2, e3]
    exact ⟨_, _, ⟨rfl, rfl⟩, .inl ⟨rfl, _, _, rfl⟩, .inl ⟨rfl, _, _, rfl⟩, u2⟩
  | true =>
    cases k2 : inI b.sl s b.sh with
    | false =>
      obtain ⟨e1, e2, e3⟩ := hbad (by simp [truB, k1, k2])
      simp [mc17, cellsOf_agg, r60, r39, k1, k2]
      rw [← hw2e]
      refine wp_seqX (wp_blockX (wp_rounds (fun i t w' => i = 0 ∧ w' = w2 ∧ tget t 10 = .slice none 0 0 ∧ tget t 11 = .slice none 0 0 ∧ tget t 14 = .bool false) 20 (by decide) ⟨rfl, rfl, by simp, by simp, by simp⟩ ?_))
      rintro i t w' ⟨rfl, rfl, t10, t11, t14⟩
      simp [mc17_l0, t10, t11, t14, nn, tupV, e1, e2, e3]
      exact ⟨_, _, ⟨rfl, rfl⟩, .inl ⟨rfl, _, _, rfl⟩, .inl ⟨rfl, _, _, rfl⟩, u2⟩
    | true =>
      by_cases k3 : ls.length = acts.length
      case neg =>
        have k3' : ¬ (ls.length : Int) = acts.length := by omega
        obtain ⟨e1, e2, e3⟩ := hbad (by simp [truB, k1, k2, hLl, k3])
        simp [mc17, cellsOf_agg, r60, r39, k1, k2, hl2, hl3, k3, k3']
        rw [← hw2e]
        refine wp_seqX (wp_blockX (wp_rounds (fun i t w' => i = 0 ∧ w' = w2 ∧ tget t 10 = .slice none 0 0 ∧ tget t 11 = .slice none 0 0 ∧ tget t 14 = .bool false) 20 (by decide) ⟨rfl, rfl, by simp, by simp, by simp⟩ ?_))
        rintro i t w' ⟨rfl, rfl, t10, t11, t14⟩
        simp [mc17_l0, t10, t11, t14, nn, tupV, e1, e2, e3]
        exact ⟨_, _, ⟨rfl, rfl⟩, .inl ⟨rfl, _, _, rfl⟩, .inl ⟨rfl, _, _, rfl⟩, u2⟩
      have hwsb : 1 ≤ ws ∧ ws ≤ 1000000 ∧ 1 ≤ s := by
        simp only [inI, Bool.and_eq_true, decide_eq_true_eq] at k1 k2; omega
      have k3L : ls.length = (lossL r acts).length := by rw [hLl]; exact k3
      have eT : truB b (lossL r acts) ws s ls = (allIn ls (lossL r acts) && decide (s ≤ ws - ls.sum)) := by simp [truB, k1, k2, k3L]
      simp [mc17, cellsOf_agg, r60, r39, k1, k2, hl2, hl3, k3]
      rw [← hw2e]
      refine wp_seqX (wp_blockX (wp_rounds (fun i t w => Up we w ∧ we.next + 1 + 1 ≤ w.next ∧ w.heap.get (we.next + 1) = some (.cells [.int .i64 ws, .int .i64 s, lv] 32 false) ∧ tget t 0 = rv ∧ tget t 3 = av ∧ tget t 9 = .pointer (some ⟨we.next + 1, 0, none⟩) ∧ tget t 10 = .slice none 0 0 ∧ tget t 11 = .slice none 0 0 ∧ ∃ ok, tget t 14 = .bool ok ∧ (ok = true → AccR intC 3 (we.next + 1) w (tget t 15) (wtsL ws (ls.take i)) ∧ tget t 16 = .int .i64 (i : Nat) ∧ i ≤ acts.length ∧ allIn (ls.take i) (lossL r acts) = true ∧ LossOk (ls.take i)) ∧ (ok = false → truB b (lossL r acts) ws s ls = false)) 20 (by decide) ?_ ?_))
      · refine ⟨u2, by omega, g92, by simp, by simp, by simp, by simp, by simp, true, by simp, fun _ => ⟨by simpa using acc0, by simp, Nat.zero_le _, rfl, fun y hy => by simp at hy⟩, fun h => by cases h⟩
      · clear acc0 g92 n2 l2 u2 hw2e w2
        rintro i t w ⟨hup, hnx, hg9, t0, t3, t9, t10, t11, ok, t14, hy, hn⟩
        have hlm : w.lim = we.lim := hup.lim
        cases ok with
        | false =>
          obtain ⟨e1, e2, e3⟩ := hbad (hn rfl)
          simp [mc17_l0, t10, t11, t14, nn, tupV, e1, e2, e3]
          exact ⟨_, _, ⟨rfl, rfl⟩, .inl ⟨rfl, _, _, rfl⟩, .inl ⟨rfl, _, _, rfl⟩, hup⟩
        | true =>
          obtain ⟨hacc, t16, hi, hall, hlo⟩ := hy rfl
          have hll : (wtsL ws (ls.take i)).length = i + 1 := by rw [wtsL_length, List.length_take]; omega
          obtain ⟨B, off2, sq2, c2, hv3, hrb⟩ := hacc.rows.at_ i (by omega)
          have hat : (wtsL ws (ls.take i))[i]? = some (ws - (ls.take i).sum) := by
            rw [wtsL_at _ _ _ (by rw [List.length_take]; omega), List.take_take, Nat.min_self]
          have hlb := hrb.int hat
          have hibx := fun w => ia28 w ⟨B, off2, sq2⟩ (wtsL ws (ls.take i)).length c2 .i64 i (by omega)
          simp only [Nat.mul_one] at hibx
          by_cases hlt : i < acts.length
          · obtain ⟨a, ha⟩ : ∃ p, acts[i]? = some p := ⟨_, List.getElem?_eq_getElem hlt⟩
            obtain ⟨z, hz⟩ : ∃ p, ls[i]? = some p := ⟨_, List.getElem?_eq_getElem (by omega)⟩
            obtain ⟨ha0, x, hx⟩ := hact a (List.mem_of_getElem? ha)
            obtain ⟨n, rfl⟩ : ∃ n : Nat, a = (n : Int) := ⟨a.toNat, by omega⟩
            simp only [Int.toNat_natCast] at hx
            have hn' := (List.getElem?_eq_some_iff.1 hx).1
            obtain ⟨ba, offa, sqa, ca, rfl, hra⟩ := hav.at_ i hlt
            obtain ⟨br, offr, sqr, cr, rfl, hrr⟩ := hrv.at_ n hn'
            obtain ⟨bl, offl, sql, cl, rfl, hrl⟩ := hlv.at_ i (by omega)
            have fa := hra.int ha
            have fr : rdO (we.heap.get br) (offr + n * 7 + 5) 2 = some [.int .i64 x.ll, .int .i64 x.lh] := rdO_sub (hrr.rd actC_length hx) (j := 5) (k := 2) (by decide)
            have fl := hrl.int hz
            rw [← hup.at hra.2] at fa
            rw [← hup.at hrr.2] at fr
            rw [← hup.at hrl.2] at fl
            have bla : ¬ bl = w.next := by have := hrl.2; have := hup.next; omega
            have bB : ¬ B = w.next := by have := hrb.2; omega
            have b9 : ¬ we.next + 1 = w.next := by omega
            have bla' : ¬ bl = w.next + 1 := by have := hrl.2; have := hup.next; omega
            have bB' : ¬ B = w.next + 1 := by have := hrb.2; omega
            have b9' : ¬ we.next = w.next := by omega
            have hia := fun w => ia28 w ⟨ba, offa, sqa⟩ acts.length ca .i64 i hlt
            have hil := fun w => ia28 w ⟨bl, offl, sql⟩ ls.length cl .i64 i (by omega)
            have hir := fun w => ia22 w ⟨br, offr, sqr⟩ r.length cr .i64 n hn'
            simp only [Nat.mul_one] at hia hil
            have lw : w.lim ≤ w.next := by omega
            obtain ⟨y, hy'⟩ : ∃ y, y = IntKind.wrap .i64 (ws - (ls.take i).sum - z) := ⟨_, rfl⟩
            obtain ⟨wa, hwae⟩ : ∃ wa : AW, wa = ⟨(w.heap.put w.next (some (.cells [.int .i64 0, .int .i64 0] 25 false))).put w.next (some (.cells [.int .i64 x.ll, .int .i64 x.lh] 25 false)), w.next + 1, w.lim⟩ := ⟨_, rfl⟩
            have ua : Up w wa := by rw [hwae]; exact ((Up.refl w).add _).put (Nat.le_refl _) (Nat.le_refl _)
            have hacca : AccR intC 3 (we.next + 1) wa (tget t 15) (wtsL ws (ls.take i)) := hacc.keep (fun x _ h => ua.at h) ua.next
            have hna : wa.next = w.next + 1 := by rw [hwae]
            have hla : wa.lim = w.lim := ua.lim
            obtain ⟨v', w', ha', hacc', hkp, hn2, hl'⟩ := AccR.push (P := Tryd.prog) (st := 28) (sz := 1) list28 elem28 sz3 small3 intC_length sing_int (by decide) hacca (by omega) (by omega) (by omega) y
            rw [hv3, hwae] at ha'
            simp only [intC] at ha'
            have hwi : IntKind.wrap .i64 ((i : Int) + 1) = (i : Int) + 1 := wrap64_in (by omega) (by omega)
            have uw : Up we w' := ⟨fun q hq => by rw [hkp q (by omega), ua.at (by have := hup.next; omega)]; exact hup.old q hq, by have := hup.next; omega, by omega⟩
            have hg9' : w'.heap.get (we.next + 1) = some (.cells [.int .i64 ws, .int .i64 s, .slice (some ⟨bl, offl, sql⟩) ls.length cl] 32 false) := by rw [hkp _ (Nat.le_refl _), ua.at (by omega)]; exact hg9
            have hsn := allIn_take hz (lossL_at ha (by simpa using hx))
            rw [hall, Bool.true_and] at hsn
            simp [mc17_l0, t0, t3, t9, t14, t16, hl3, hlt, hia, fa, hir, fr, lw, b9, hg9, hil, fl, bla, bB, bla', bB', b9', r39, hv3, hibx, hlb, ← hy', ha', hwi]
            refine ⟨by omega, uw, by omega, hg9', t10, t11, ?_⟩
            cases hin : inI x.ll z x.lh with
            | false =>
              rw [hin] at hsn
              exact .inl ⟨rfl, by rw [eT, allIn_pre hsn, Bool.false_and]⟩
            | true =>
              rw [hin] at hsn
              have hpb := hT.sp (x.ll, x.lh) (List.mem_of_getElem? (lossL_at ha (by simpa using hx)))
              simp only at hpb
              have hzb : 0 ≤ z ∧ z ≤ 10000 := by
                simp only [inI, Bool.and_eq_true, decide_eq_true_eq] at hin; omega
              have hsb := sum_bd hlo
              have hsl : (ls.take i).length = i := by rw [List.length_take]; omega
              rw [hsl] at hsb
              have hyv : y = ws - (ls.take i).sum - z := by rw [hy']; exact wrap64_in (by omega) (by omega)
              rw [hyv] at hacc'
              refine .inr ⟨rfl, by rw [take_snoc hz, wtsL_snoc]; exact hacc', hlt, hsn, fun q hq => ?_⟩
              rw [take_snoc hz] at hq
              rcases List.mem_append.1 hq with hq | hq
              · exact hlo q hq
              · rw [List.mem_singleton.1 hq]; exact hzb
          · have hi' : i = acts.length := by omega
            subst hi'
            rw [← k3, List.take_length] at hall hlo hat hrb hacc hll hibx hlb hv3
            rw [← k3] at t16
            have hl3' : ∀ w2, lenB Tryd.prog w2 28 av = .val (.int .i64 (ls.length : Nat)) w2 := fun w2 => by rw [hl3, k3]
            have hsb := sum_bd hlo
            by_cases hlow : ws - ls.sum < s
            · obtain ⟨e1, e2, e3⟩ := hbad (by rw [eT, decide_eq_false (by omega), Bool.and_false])
              simp [mc17_l0, t3, t9, t10, t11, t14, t16, hl3', hv3, hg9, hibx, hlb, hlow, nn, tupV, e1, e2, e3]
              exact ⟨_, _, ⟨rfl, rfl⟩, .inl ⟨rfl, _, _, rfl⟩, .inl ⟨rfl, _, _, rfl⟩, hup⟩
            · have hB : truB b (lossL r acts) ws s ls = true := by rw [eT, hall, Bool.true_and]; exact decide_eq_true (by omega)
              have e1 : folE r d b acts ws s ls = 0 := by simp [folE, hA, hB]
              have e2 : folW r d b acts ws s ls = wtsL ws ls := by simp [folW, e1]
              have e3 : folM r d b acts ws s ls = mosL ws s ls := by simp [folM, e1]
              have njw := hacc.ok
              have hrow := hacc.rows
              have hlw := fun w2 => len28V (w' := w2) hrow
              have hwl : (wtsL ws ls).length = ls.length + 1 := wtsL_length ls ws
              have hml : (mosL ws s ls).length = (wtsL ws ls).length := by simp [mosL]
              simp only [e1, e2, e3]
              rw [hv3] at njw hlw hrow
              simp [mc17_l0, t3, t9, t10, t11, t14, t16, hl3', hv3, hg9, hibx, hlb, hlow]
              obtain ⟨N0, hN⟩ : ∃ N0, w.next = N0 + 1 := ⟨w.next - 1, by omega⟩
              refine wp_seqX (wp_blockX (wp_rounds (fun j t w2 => AccR intC 3 N0 w2 (tget t 18) ((mosL ws s ls).take j) ∧ (∀ x, x ≤ N0 → w2.heap.get x = w.heap.get x) ∧ N0 < w2.next ∧ w2.lim = w.lim ∧ tget t 9 = .pointer (some ⟨we.next + 1, 0, none⟩) ∧ tget t 15 = .slice (some ⟨B, off2, sq2⟩) (wtsL ws ls).length c2 ∧ tget t 19 = .int .i64 (j : Nat) ∧ j ≤ (wtsL ws ls).length) 20 (by decide) ?_ ?_))
              · exact ⟨by simpa using AccR.nil, fun _ _ => rfl, by omega, rfl, by simp [t9], by simp [hv3], by simp, Nat.zero_le _⟩
              · clear t0 t3 t9 t10 t11 t14 t16
                rintro j t w2 ⟨hac, hold, hn0, hl0, t9, t15, t19, hj⟩
                have uw2 : Up w w2 := ⟨fun x hx => hold x (by omega), by omega, hl0⟩
                by_cases hjt : j < (wtsL ws ls).length
                · obtain ⟨x, hx⟩ : ∃ p, (wtsL ws ls)[j]? = some p := ⟨_, List.getElem?_eq_getElem hjt⟩
                  have hxb := wts_bd (s := s) hlo (by omega) hx
                  have hmx : (mosL ws s ls)[j]? = some (moI x s) := by unfold mosL; rw [List.getElem?_map, hx]; rfl
                  have r61 := fun w => S61.call (P := Tryd.prog) h61 (m := m) (w := w) ⟨x, s, rfl, by omega, rfl⟩
                  have hlx := hrb.int hx
                  rw [← uw2.at hrb.2] at hlx
                  have hg2 := hg9
                  rw [← uw2.at (by omega : we.next + 1 < w.next)] at hg2
                  have hij := fun w => ia28 w ⟨B, off2, sq2⟩ (wtsL ws ls).length c2 .i64 j hjt
                  simp only [Nat.mul_one] at hij
                  have hwj : IntKind.wrap .i64 ((j : Int) + 1) = (j : Int) + 1 := wrap64_in (by omega) (by omega)
                  obtain ⟨v', w', ha', hacc', hkp, hn2, hl'⟩ := AccR.push (P := Tryd.prog) (st := 28) (sz := 1) list28 elem28 sz3 small3 intC_length sing_int (by decide) hac (by omega) hn0 (by rw [List.length_take]; omega) (moI x s)
                  simp only [intC] at ha'
                  simp [mc17_l1, t9, t15, t19, hlw, hjt, hij, hlx, hg2, r61, ha', hwj]
                  refine ⟨by omega, by rw [take_snoc hmx]; exact hacc', fun q hq => by rw [hkp q hq]; exact hold q hq, by omega, by omega, hjt⟩
                · have hjl : j = (wtsL ws ls).length := by omega
                  subst hjl
                  have nj2 := hac.ok
                  rw [← hml, List.take_length] at hac
                  simp [mc17_l1, t15, t19, hlw, njw, nj2, tupV]
                  exact ⟨_, _, ⟨rfl, rfl⟩, hrow.up uw2, hac.rows, hup.trans uw2⟩
end Go.Proofs.YtmemdglkkgmjnaaDoor.walk

namespace Go.Proofs.YtmemdglkkgmjnaaDoor.walk
open Go Go.Sh
set_option maxRecDepth 100000
set_option linter.unusedSimpArgs false
/-! CureCans -/
theorem lim_same : sameL5 limC limC = true := by kernel_rfl
theorem hasAll_lim {w : AW} (h : LimAt w) : hasAll w laidL = true := by
  obtain ⟨ro, h⟩ := h
  have h1 : hasB w (0, limC, 141) = true := by
    unfold hasB
    simp only [h, lim_same, Nat.beq_refl, Bool.and_self]
  show (bif hasB w (0, limC, 141) then true else false) = true
  rw [h1]; rfl
/-- works, as it is known -/
def HasW (ov : Ov) : Prop := ∀ w, LimAt w → ov 19 [] w = some (.ok (.ret (.bool true)) w .none)
theorem ruleW {ov : Ov} (h : HasW ov) (m : Nat) {w : AW} (hw : LimAt w) : (run Tryd.prog ov (m + 1)).call 19 [] w .none = .ok (.ret (.bool true)) w .none := by
  show stepO Tryd.prog (run Tryd.prog ov m) 19 [] w .none (ov 19 [] w) = _
  rw [h w hw]; rfl
def curC (rv dv : Value) (b : CBox) (av : Value) : List Value := [rv, dv, .int .i64 b.wl, .int .i64 b.wh, .int .i64 b.sl, .int .i64 b.sh, av]
theorem call3 {ov : Ov} (m : Nat) (ho : ∀ args w, ov 3 args w = none) (ho16 : ∀ args w, ov 16 args w = none) (ho17 : ∀ args w, ov 17 args w = none) (ho57 : ∀ args w, ov 57 args w = none) (ho59 : ∀ args w, ov 59 args w = none) (ho83 : ∀ args w, ov 83 args w = none)
    (h12 : HasP ov 12 S12.F) (h13 : HasP ov 13 S13.F) (h14 : HasP ov 14 S14.F) (h15 : HasP ov 15 S15.F) (h18 : HasP ov 18 S18.F) (h39 : HasP ov 39 S39.F) (h56 : HasP ov 56 S56.F) (h58 : HasP ov 58 S58.F) (h60 : HasP ov 60 S60.F) (h61 : HasP ov 61 S61.F) (h84 : HasP ov 84 S84.F) (hW : HasW ov)
    (r : List CAct) (d : List CDay) (b : CBox) (acts : List Int) (ws s : Int) (ls : List Int) (rv dv av lv : Value) (w : AW) (hl : w.lim = w.next) (hL : LimW w) (hrv : RowsV actC w rv r) (hdv : RowsV cdayC w dv d) (hav : RowsV intC w av acts) (hcap : CapV av) (hlv : RowsV intC w lv ls) :
    ∃ x w', (run Tryd.prog ov (m + 4)).call 3 [.agg ⟨curC rv dv b av⟩, .agg ⟨[.int .i64 ws, .int .i64 s, lv]⟩] w .none = .ok (.ret x) w' .none ∧ x = .bool true := by
  refine call_wp text3 (by simp) (ho _ _) ?_
  obtain ⟨w1, hw1e⟩ : ∃ w1 : AW, w1 = ⟨(w.heap.put w.next (some (.cells [rv, dv, .int .i64 b.wl, .int .i64 b.wh, .int .i64 b.sl, .int .i64 b.sh, av] 30 false))).put (w.next + 1) (some (.cells [.int .i64 ws, .int .i64 s, lv] 32 false)), w.next + 1 + 1, w.lim⟩ := ⟨_, rfl⟩
  have u1 : Up w w1 := by rw [hw1e]; exact ((Up.refl w).add _).put (Nat.le_succ _) (Nat.le_succ _)
  have g2 : w1.heap.get w.next = some (.cells [rv, dv, .int .i64 b.wl, .int .i64 b.wh, .int .i64 b.sl, .int .i64 b.sh, av] 30 false) := by rw [hw1e]; simp
  have g3 : w1.heap.get (w.next + 1) = some (.cells [.int .i64 ws, .int .i64 s, lv] 32 false) := by rw [hw1e]; simp
  have n1 : w1.next = w.next + 1 + 1 := by rw [hw1e]
  have l1 : w1.lim = w.lim := u1.lim
  have r12 := S12.call (P := Tryd.prog) h12 (m := m + 2) ⟨rv, dv, av, r, d, acts, rfl, hrv.up u1, hdv.up u1, hav.up u1, hL.up u1, rfl⟩
  have r13 := S13.call (P := Tryd.prog) h13 (m := m + 2) ⟨rv, dv, av, r, d, acts, rfl, hrv.up u1, hdv.up u1, hav.up u1, hcap, rfl⟩
  have r14 := S14.call (P := Tryd.prog) h14 (m := m + 2) ⟨rv, dv, r, d, rfl, hrv.up u1, hdv.up u1, hL.up u1, rfl⟩
  have r15 := S15.call (P := Tryd.prog) h15 (m := m + 2) ⟨rv, dv, r, d, rfl, hrv.up u1, hdv.up u1, rfl⟩
  obtain ⟨_, w2, c16, a1, a2, rfl, ha1, ha2, u2⟩ := call16 (ov := ov) m ho16 ho57 ho59 ho83 h56 h58 h84 r d b acts ws s ls rv dv av lv w1 (by omega) (hL.up u1) (hrv.up u1) (hdv.up u1) (hav.up u1) (hlv.up u1)
  have u12 := u1.trans u2
  have hn2 := u2.next
  have hl2 := u2.lim
  have g22 : w2.heap.get w.next = some (.cells [rv, dv, .int .i64 b.wl, .int .i64 b.wh, .int .i64 b.sl, .int .i64 b.sh, av] 30 false) := by rw [u2.at (by omega)]; exact g2
  have g32 : w2.heap.get (w.next + 1) = some (.cells [.int .i64 ws, .int .i64 s, lv] 32 false) := by rw [u2.at (by omega)]; exact g3
  obtain ⟨_, w3, c17, b1, b2, rfl, hb1, hb2, u3⟩ := call17 (ov := ov) (m + 1) ho17 h39 h60 h61 r d b acts ws s ls rv dv av lv w2 (by omega) (hrv.up u12) (hdv.up u12) (hav.up u12) hcap (hlv.up u12)
  have hbd : (folW r d b acts ws s ls).length ≤ 1000 ∧ (folM r d b acts ws s ls).length ≤ 1000 := by
    by_cases hE : folE r d b acts ws s ls = 0
    · have hA : actE r d b acts = 0 := by
        by_cases hA : actE r d b acts = 0
        · exact hA
        · unfold folE at hE; rw [if_neg hA] at hE; exact absurd hE hA
      have hB : truB b (lossL r acts) ws s ls = true := by
        unfold folE at hE; rw [if_pos hA] at hE
        cases hq : truB b (lossL r acts) ws s ls with
        | true => rfl
        | false => rw [hq] at hE; simp at hE
      obtain ⟨hT, h14, _⟩ := tru_ok hA
      obtain ⟨_, _, _, _, k5⟩ := tru_of hT hB
      have hT' := hT.len
      have e2 : folW r d b acts ws s ls = wtsL ws ls := by simp [folW, hE]
      have e3 : folM r d b acts ws s ls = mosL ws s ls := by simp [folM, hE]
      rw [e2, e3]
      simp only [mosL, List.length_map, wtsL_length]; omega
    · simp [folW, folM, hE]
  have r18a := S18.call (P := Tryd.prog) h18 (m := m + 2) ⟨a1, b1, _, rfl, ha1.up u3, hb1, hbd.1, rfl⟩
  have r18b := S18.call (P := Tryd.prog) h18 (m := m + 2) ⟨a2, b2, _, rfl, ha2.up u3, hb2, hbd.2, rfl⟩
  have rW := ruleW hW (m + 2) (((hL.up u12).up u3).1)
  obtain ⟨p1, p2, rfl⟩ := hrv.len
  obtain ⟨p3, p4, rfl⟩ := hdv.len
  simp only [curC, boxC] at c16 c17 ⊢
  rw [hw1e] at r12 r13 r14 r15 c16
  simp only [Nat.add_assoc, Nat.reduceAdd] at r12 r13 r14 r15 c16 c17 r18a r18b rW
  have hcr : ∃ cb ce, canR r d acts = .tuple ⟨[.bool cb, .int .i64 ce]⟩ := by
    unfold canR
    split
    · exact ⟨_, _, rfl⟩
    · exact ⟨_, _, rfl⟩
  obtain ⟨cb, ce, hcr⟩ := hcr
  rw [hcr] at r12 r13
  simp [mc3, cellsOf_agg, r12, r13, r14, r15, c16, g22, g32, c17, r18a, r18b, rW, tupV]
end Go.Proofs.YtmemdglkkgmjnaaDoor.walk
