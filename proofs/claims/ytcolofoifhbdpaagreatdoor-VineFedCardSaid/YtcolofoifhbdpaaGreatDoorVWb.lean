/- Part of a proof by a machine of ones own: see the text with the theorem. -/
import Derived.Test.YtcolofoifhbdpaaGreatDoorVWa
namespace Go.Proofs.YtcolofoifhbdpaaGreatDoor.walk
open Go Go.Sh
set_option maxRecDepth 100000
def sumTo (l : List Rac) : Nat → Int
  | 0 => 0
  | i + 1 => sumTo l i + (match l[i]? with | some r => r.flowers | none => 0)
theorem sum_snoc {l : List Rac} {i : Nat} {r : Rac} (h : l[i]? = some r) : sumTo l (i + 1) = sumTo l i + r.flowers := by
  show sumTo l i + (match l[i]? with | some r => r.flowers | none => 0) = _
  rw [h]
theorem sum_bd {l : List Rac} (h : l.all rac1 = true) : ∀ i, 0 ≤ sumTo l i ∧ sumTo l i ≤ 20 * i
  | 0 => by simp [sumTo]
  | i + 1 => by
    have ih := sum_bd h i
    show 0 ≤ sumTo l i + (match l[i]? with | some r => r.flowers | none => 0) ∧ sumTo l i + (match l[i]? with | some r => r.flowers | none => 0) ≤ 20 * ((i + 1 : Nat) : Int)
    cases hr : l[i]? with
    | none => simp only; omega
    | some r =>
      have h1 := List.all_eq_true.1 h r (List.mem_of_getElem? hr)
      simp [rac1, inI] at h1
      simp only
      omega
def bearN (v : Vin) : Int := bif vinB v then min (IntKind.wrap .i64 (v.leaves.tdiv v.per)) (sumTo v.rs v.rs.length) else 0
def bearE (v : Vin) : Int := bif vinB v then 0 else 11
noncomputable def F9 : PureF := fun args w => match args with | [.agg ⟨l⟩] => (vinOf w.next w.heap l).map fun v => .tuple ⟨[.int .i64 (bearN v), .int .i64 (bearE v)]⟩ | _ => none
theorem rule9 {ov : Ov} (h : HasP ov 9 F9) {v : Vin} {w : AW} (hv : racAt w.next w.heap v.rv = some v.rs) : (run Tryz.prog ov 1).call 9 [.agg ⟨vinC v⟩] w .none = .ok (.ret (.tuple ⟨[.int .i64 (bearN v), .int .i64 (bearE v)]⟩)) w .none := h.call (by simp [F9, vinOf_C hv])
theorem rule10 {ov : Ov} (h : HasP ov 10 F9) {v : Vin} {w : AW} (hv : racAt w.next w.heap v.rv = some v.rs) : (run Tryz.prog ov 1).call 10 [.agg ⟨vinC v⟩] w .none = .ok (.ret (.tuple ⟨[.int .i64 (bearN v), .int .i64 (bearE v)]⟩)) w .none := h.call (by simp [F9, vinOf_C hv])
structure In9 (l : List Rac) (b N : Nat) (v : Vin) (w : AW) : Prop where
  rows : l = [] ∨ RowsAt w.next w.heap b l
  lim : w.lim ≤ w.next
  box : w.heap.get N = some (.cells (vinC v) 30 false)
  lt : N < w.next
theorem In9.put {l : List Rac} {b N : Nat} {v : Vin} {w : AW} (h : In9 l b N v w) (o o' : Option AObj) : In9 l b N v ⟨(w.heap.put w.next o).put w.next o', w.next + 1, w.lim⟩ := by
  obtain ⟨h1, h2, h3, h4⟩ := h
  refine ⟨?_, Nat.le_succ_of_le h2, ?_, Nat.lt_succ_of_lt h4⟩
  · rcases h1 with h1 | ⟨⟨rest, e, ro, h5⟩, h6⟩
    · exact .inl h1
    · exact .inr ⟨⟨rest, e, ro, by show ((w.heap.put w.next o).put w.next o').get b = _; rw [get_put, if_neg (Nat.ne_of_lt h6), get_put, if_neg (Nat.ne_of_lt h6)]; exact h5⟩, Nat.lt_succ_of_lt h6⟩
  · show ((w.heap.put w.next o).put w.next o').get N = _
    rw [get_put, if_neg (Nat.ne_of_lt h4), get_put, if_neg (Nat.ne_of_lt h4)]; exact h3
theorem loop9 {sq : Option Nat} {ov : Ov} (l : List Rac) (b c N : Nat) (v : Vin) (Q : Ex → Tm → AW → Prop) (t : Tm) (w : AW) (hw : In9 l b N v w) (h8 : l.length ≤ 8) (hall : l.all rac1 = true) (v11 : Value) (hv : ∀ i, i < l.length → v11 = .slice (some ⟨b, 0, sq⟩) l.length c)
    (t1 : tget t 1 = .pointer (some ⟨N, 0, none⟩)) (t3 : tget t 3 = .int .i64 0) (t11 : tget t 11 = v11) (t12 : tget t 12 = .int .i64 (l.length : Nat)) (t13 : tget t 13 = .int .i64 0) (t4 : tget t 4 = .int .i64 0)
    (hQ : ∀ t w, In9 l b N v w → tget t 1 = .pointer (some ⟨N, 0, none⟩) → tget t 4 = .int .i64 (sumTo l l.length) → Q (.exit 0) t w) : wp (exM Tryz.prog (run Tryz.prog ov 1) (.loop mc9_l0) t w) Q := by
  refine wp_rounds (fun i t w => tget t 1 = .pointer (some ⟨N, 0, none⟩) ∧ tget t 11 = v11 ∧ tget t 12 = .int .i64 (l.length : Nat) ∧ tget t 13 = .int .i64 (i : Nat) ∧ tget t 4 = .int .i64 (sumTo l i) ∧ i ≤ l.length ∧ In9 l b N v w) 20 (by decide) ⟨t1, t11, t12, t13, t4, Nat.zero_le _, hw⟩ ?_
  clear hw t1 t11 t12 t13 t4 t3
  rintro i t w ⟨t1, t11, t12, t13, t4, hi, hw⟩
  by_cases hlt : i < l.length
  · obtain ⟨r, hr⟩ : ∃ r, l[i]? = some r := ⟨_, List.getElem?_eq_getElem hlt⟩
    have hv11 := hv i hlt
    have hrows : RowsAt w.next w.heap b l := by
      rcases hw.rows with h | h
      · subst h; simp at hlt
      · exact h
    obtain ⟨rest, e, ro, hcells⟩ := hrows.at_
    obtain ⟨hld, _, _⟩ := load_rac hcells hr
    have hbn : b ≠ w.next := Nat.ne_of_lt hrows.lt
    have hia := fun w => ia28 w ⟨b, 0, sq⟩ l.length c .i64 i hlt
    have hw1 : IntKind.wrap .i64 ((i : Int) + 1) = (i : Int) + 1 := wrap64_in (by omega) (by omega)
    have hs := sum_snoc hr
    have hbd := sum_bd hall (i + 1)
    have hw2 : IntKind.wrap .i64 (sumTo l i + r.flowers) = sumTo l (i + 1) := by rw [← hs]; exact wrap64_in (by omega) (by omega)
    have hlim := hw.lim
    subst hv11
    simp [mc9_l0, t1, t4, t11, t12, t13, hlt, hia, hld, hbn, hlim, hw1, hw2]
    exact ⟨by omega, hlt, hw.put _ _⟩
  · have hi' : i = l.length := by omega
    subst hi'
    simp [mc9_l0, t12, t13]
    refine hQ _ _ hw ?_ ?_ <;> simp [t1, t4]
theorem run9 {ov : Ov} (ho : ∀ args w, ov 9 args w = none) (h18 : HasP ov 18 F18) (v : Vin) (w : AW) (hl : w.lim = w.next) (hv : racAt w.next w.heap v.rv = some v.rs) : ∃ u w', (run Tryz.prog ov 2).call 9 [.agg ⟨vinC v⟩] w .none = .ok (.ret u) w' .none ∧ u = .tuple ⟨[.int .i64 (bearN v), .int .i64 (bearE v)]⟩ := by
  refine call_wp text9 (by simp) (ho _ _) ?_
  have hv' : racAt (w.next + 1) (w.heap.put w.next (some (.cells (vinC v) 30 false))) v.rv = some v.rs := racAt_put hv (Nat.le_refl _) (Nat.le_succ _)
  have r18 := rule18 h18 (w := ⟨w.heap.put w.next (some (.cells (vinC v) 30 false)), w.next + 1, w.lim⟩) hv'
  have hlen : ∀ w, lenB Tryz.prog w 28 v.rv = .val (.int .i64 (v.rs.length : Nat)) w := by
    intro w
    rcases racAt_some hv with ⟨a, c, h1, h2⟩ | ⟨b, sq, c, h1, hp⟩
    · rw [h1, h2]; simp
    · rw [h1]; simp
  obtain ⟨b, sq, c, hb, hw⟩ : ∃ b sq c, (∀ i, i < v.rs.length → v.rv = .slice (some ⟨b, 0, sq⟩) v.rs.length c) ∧ (v.rs = [] ∨ RowsAt (w.next + 1) (w.heap.put w.next (some (.cells (vinC v) 30 false))) b v.rs) := by
    rcases racAt_some hv' with ⟨a, c, h1, h2⟩ | ⟨b, sq, c, h1, hp⟩
    · exact ⟨0, none, 0, fun i hi => by rw [h2] at hi; simp at hi, .inl h2⟩
    · exact ⟨b, sq, c, fun _ _ => h1, .inr hp⟩
  have g3 : (vinC v)[3]? = some v.rv := by simp [vinC]
  have g1 : (vinC v)[1]? = some (.int .i64 v.leaves) := by simp [vinC]
  have g2 : (vinC v)[2]? = some (.int .i64 v.per) := by simp [vinC]
  have gl : (vinC v).length = 4 := by simp [vinC]
  have gt : (vinC v).take 4 = vinC v := by simp [vinC]
  have k3 : ∀ h, (vinC v)[3]'h = v.rv := fun h => by simp [vinC]
  have k1 : ∀ h, (vinC v)[1]'h = .int .i64 v.leaves := fun h => by simp [vinC]
  have k2 : ∀ h, (vinC v)[2]'h = .int .i64 v.per := fun h => by simp [vinC]
  cases hB : vinB v with
  | false => simp [mc9, gl, gt, r18, hB, tupV, bearN, bearE]
  | true =>
    have hB' := hB
    simp only [vinB, Bool.and_eq_true] at hB'
    obtain ⟨_, _, hper, hrac⟩ := hB'
    have hper0 : v.per ≠ 0 := by simp [inI] at hper; omega
    simp only [racB, Bool.and_eq_true, decide_eq_true_eq] at hrac
    simp [mc9, gl, gt, g3, k3, r18, hB, hlen]
    refine wp_seqX (wp_blockX (loop9 (sq := sq) v.rs b c w.next v _ _ _ ⟨hw, Nat.le_succ_of_le (Nat.le_of_eq hl), ?_, Nat.lt_succ_self _⟩ hrac.1 hrac.2 v.rv hb ?_ ?_ ?_ ?_ ?_ ?_ ?_))
    case _ => simp
    case _ => simp
    case _ => simp
    case _ => simp
    case _ => simp
    case _ => simp
    case _ => simp
    case _ =>
      intro t w1 hI s1 s4
      have hq := fun (c : Bool) w => bin_quo (P := Tryz.prog) (w := w) 3 c .i64 v.leaves v.per hper0
      simp [s1, s4, hI.box, g1, g2, k1, k2, gl, hq, tupV, bearN, bearE, hB]
end Go.Proofs.YtcolofoifhbdpaaGreatDoor.walk

namespace Go.Proofs.YtcolofoifhbdpaaGreatDoor.walk
open Go Go.Sh
set_option maxRecDepth 100000
theorem loop10 {sq : Option Nat} {ov : Ov} (l : List Rac) (b c N : Nat) (v : Vin) (hvl : v.rs = l) (Q : Ex → Tm → AW → Prop) (t : Tm) (w : AW) (hw : In9 l b N v w) (h8 : l.length ≤ 8) (hall : l.all rac1 = true) (hv : ∀ i, i < l.length → v.rv = .slice (some ⟨b, 0, sq⟩) l.length c)
    (hlen : ∀ w, lenB Tryz.prog w 28 v.rv = .val (.int .i64 (l.length : Nat)) w)
    (t1 : tget t 1 = .pointer (some ⟨N, 0, none⟩)) (t5 : tget t 5 = .int .i64 0) (t4 : tget t 4 = .int .i64 0)
    (hQ : ∀ t, tget t 1 = .pointer (some ⟨N, 0, none⟩) → tget t 4 = .int .i64 (sumTo l l.length) → Q (.exit 0) t w) : wp (exM Tryz.prog (run Tryz.prog ov 1) (.loop mc10_l0) t w) Q := by
  have k3 : ∀ h, (vinC v)[3]'h = v.rv := fun h => by simp [vinC]
  have g3 : (vinC v)[3]? = some v.rv := by simp [vinC]
  have gl : (vinC v).length = 4 := by simp [vinC]
  have hbox := hw.box
  refine wp_rounds (fun i t w' => w' = w ∧ tget t 1 = .pointer (some ⟨N, 0, none⟩) ∧ tget t 5 = .int .i64 (i : Nat) ∧ tget t 4 = .int .i64 (sumTo l i) ∧ i ≤ l.length) 20 (by decide) ⟨rfl, t1, t5, t4, Nat.zero_le _⟩ ?_
  clear t1 t5 t4
  rintro i t w' ⟨rfl, t1, t5, t4, hi⟩
  by_cases hlt : i < l.length
  · obtain ⟨r, hr⟩ : ∃ r, l[i]? = some r := ⟨_, List.getElem?_eq_getElem hlt⟩
    have hv11 := hv i hlt
    have hrows : RowsAt w'.next w'.heap b l := by
      rcases hw.rows with h | h
      · subst h; simp at hlt
      · exact h
    obtain ⟨rest, e, ro, hcells⟩ := hrows.at_
    obtain ⟨_, _, hl1⟩ := load_rac hcells hr
    have hia := fun w => ia28 w ⟨b, 0, sq⟩ l.length c .i64 i hlt
    have hw1 : IntKind.wrap .i64 ((i : Int) + 1) = (i : Int) + 1 := wrap64_in (by omega) (by omega)
    have hs := sum_snoc hr
    have hbd := sum_bd hall (i + 1)
    have hw2 : IntKind.wrap .i64 (sumTo l i + r.flowers) = sumTo l (i + 1) := by rw [← hs]; exact wrap64_in (by omega) (by omega)
    rw [hv11] at k3 g3 hlen
    simp [mc10_l0, t1, t4, t5, hbox, g3, k3, gl, hlen, hlt, hia, hl1, hw1, hw2]
    exact ⟨by omega, hlt⟩
  · have hi' : i = l.length := by omega
    subst hi'
    simp [mc10_l0, t1, t5, hbox, g3, k3, gl, hlen]
    refine hQ _ ?_ ?_ <;> simp [t1, t4]
theorem run10 {ov : Ov} (ho : ∀ args w, ov 10 args w = none) (h17 : HasP ov 17 F18) (v : Vin) (w : AW) (hl : w.lim = w.next) (hv : racAt w.next w.heap v.rv = some v.rs) : ∃ u w', (run Tryz.prog ov 2).call 10 [.agg ⟨vinC v⟩] w .none = .ok (.ret u) w' .none ∧ u = .tuple ⟨[.int .i64 (bearN v), .int .i64 (bearE v)]⟩ := by
  refine call_wp text10 (by simp) (ho _ _) ?_
  have hv' : racAt (w.next + 1) (w.heap.put w.next (some (.cells (vinC v) 30 false))) v.rv = some v.rs := racAt_put hv (Nat.le_refl _) (Nat.le_succ _)
  have r17 := rule17 h17 (w := ⟨w.heap.put w.next (some (.cells (vinC v) 30 false)), w.next + 1, w.lim⟩) hv'
  have hlen : ∀ w, lenB Tryz.prog w 28 v.rv = .val (.int .i64 (v.rs.length : Nat)) w := by
    intro w
    rcases racAt_some hv with ⟨a, c, h1, h2⟩ | ⟨b, sq, c, h1, hp⟩
    · rw [h1, h2]; simp
    · rw [h1]; simp
  obtain ⟨b, sq, c, hb, hw⟩ : ∃ b sq c, (∀ i, i < v.rs.length → v.rv = .slice (some ⟨b, 0, sq⟩) v.rs.length c) ∧ (v.rs = [] ∨ RowsAt (w.next + 1) (w.heap.put w.next (some (.cells (vinC v) 30 false))) b v.rs) := by
    rcases racAt_some hv' with ⟨a, c, h1, h2⟩ | ⟨b, sq, c, h1, hp⟩
    · exact ⟨0, none, 0, fun i hi => by rw [h2] at hi; simp at hi, .inl h2⟩
    · exact ⟨b, sq, c, fun _ _ => h1, .inr hp⟩
  have g1 : (vinC v)[1]? = some (.int .i64 v.leaves) := by simp [vinC]
  have g2 : (vinC v)[2]? = some (.int .i64 v.per) := by simp [vinC]
  have gl : (vinC v).length = 4 := by simp [vinC]
  have gt : (vinC v).take 4 = vinC v := by simp [vinC]
  have k1 : ∀ h, (vinC v)[1]'h = .int .i64 v.leaves := fun h => by simp [vinC]
  have k2 : ∀ h, (vinC v)[2]'h = .int .i64 v.per := fun h => by simp [vinC]
  cases hB : vinB v with
  | false => simp [mc10, gl, gt, r17, hB, tupV, bearN, bearE]
  | true =>
    have hB' := hB
    simp only [vinB, Bool.and_eq_true] at hB'
    obtain ⟨_, _, hper, hrac⟩ := hB'
    have hper0 : v.per ≠ 0 := by simp [inI] at hper; omega
    simp only [racB, Bool.and_eq_true, decide_eq_true_eq] at hrac
    simp [mc10, gl, gt, r17, hB]
    have hI : In9 v.rs b w.next v ⟨w.heap.put w.next (some (.cells (vinC v) 30 false)), w.next + 1, w.lim⟩ := ⟨hw, Nat.le_succ_of_le (Nat.le_of_eq hl), by show (w.heap.put w.next _).get w.next = _; rw [get_put, if_pos rfl], Nat.lt_succ_self _⟩
    refine wp_seqX (wp_blockX (loop10 (sq := sq) v.rs b c w.next v rfl _ _ _ hI hrac.1 hrac.2 hb hlen ?_ ?_ ?_ ?_))
    case _ => simp
    case _ => simp
    case _ => simp
    case _ =>
      intro t s1 s4
      have hq := fun (c : Bool) w => bin_quo (P := Tryz.prog) (w := w) 3 c .i64 v.leaves v.per hper0
      simp [s1, s4, g1, g2, k1, k2, gl, hq, tupV, bearN, bearE, hB, Int.min_comm]
end Go.Proofs.YtcolofoifhbdpaaGreatDoor.walk

namespace Go.Proofs.YtcolofoifhbdpaaGreatDoor.walk
open Go Go.Sh
set_option maxRecDepth 100000
@[simp] theorem lk68 (w : AW) (b : Nat) (k : ByteArray) : lookupA Tryz.prog w 68 (.map (some b)) (.string k) false = lookO w k (w.heap.get b) := lookup_str (e := 4) (by kernel_rfl) (by kernel_rfl) b k
@[simp] theorem up68 (w : AW) (b : Nat) (k : ByteArray) (x : Value) : mapUpdateA Tryz.prog w 68 (.map (some b)) (.string k) x = updO w b k x (w.heap.get b) := update_str (e := 4) (by kernel_rfl) b k x
/-! gardens in memory -/
def tagsTo (l : List Vin) (i : Nat) : List ByteArray := (l.take i).map (·.tag)
def chkB (l : List Vin) : Nat → Bool
  | 0 => true
  | i + 1 => chkB l i && (match l[i]? with | some p => vinB p && !hasT (tagsTo l i) p.tag | none => true)
def gardB (l : List Vin) : Bool := decide (l.length ≤ 12) && chkB l l.length
@[simp] theorem vinC_length (p : Vin) : (vinC p).length = 4 := by simp [vinC]
@[simp] theorem vinC_drop (p : Vin) : (vinC p).drop 4 = [] := by simp [vinC]
@[simp] theorem vinC_take (p : Vin) : (vinC p).take 4 = vinC p := by simp [vinC]
@[simp] theorem vinC_g0 (p : Vin) (h : 0 < (vinC p).length) : (vinC p)[0] = .string p.tag := by simp [vinC]
@[simp] theorem vinC_0 (p : Vin) : (vinC p)[0]? = some (.string p.tag) := by simp [vinC]
theorem vinC_singles {N : Nat} {H : T AObj} {p : Vin} (h : racAt N H p.rv = some p.rs) : singles (vinC p) = true := by
  obtain ⟨a, n, c, h1⟩ := racAt_sl h
  simp [vinC, h1]
theorem chk_snoc {l : List Vin} {i : Nat} {p : Vin} (h : l[i]? = some p) : chkB l (i + 1) = (chkB l i && (vinB p && !hasT (tagsTo l i) p.tag)) := by
  show (chkB l i && (match l[i]? with | some p => vinB p && !hasT (tagsTo l i) p.tag | none => true)) = _
  rw [h]
theorem chk_false {l : List Vin} {i : Nat} (h : chkB l i = false) : ∀ n, i ≤ n → chkB l n = false
  | 0, hn => by obtain rfl : i = 0 := by omega
                exact h
  | n + 1, hn => by
    rcases Nat.eq_or_lt_of_le hn with e | h1
    · rw [← e]; exact h
    · show (chkB l n && _) = false
      rw [chk_false h n (by omega)]; rfl
theorem tags_snoc {l : List Vin} {i : Nat} {p : Vin} (h : l[i]? = some p) : tagsTo l (i + 1) = tagsTo l i ++ [p.tag] := by
  unfold tagsTo
  rw [List.take_add_one, h]
  simp
theorem tags_length {l : List Vin} {i : Nat} (h : i ≤ l.length) : (tagsTo l i).length = i := by
  simp [tagsTo]; omega
structure VinesAt (N : Nat) (H : T AObj) (b : Nat) (l : List Vin) : Prop where
  at_ : ∃ rest e ro, H.get b = some (.cells (l.flatMap vinC ++ rest) e ro)
  lt : b < N
  racs : ∀ v ∈ l, racAt N H v.rv = some v.rs
theorem VinesAt.put {N : Nat} {H : T AObj} {b : Nat} {l : List Vin} (h : VinesAt N H b l) {k : Nat} {o : Option AObj} (hk : N ≤ k) : VinesAt N (H.put k o) b l := by
  obtain ⟨⟨rest, e, ro, h1⟩, h2, h3⟩ := h
  exact ⟨⟨rest, e, ro, by rw [get_put, if_neg (by omega)]; exact h1⟩, h2, fun v hv => racAt_put (h3 v hv) hk (Nat.le_refl _)⟩
theorem load_vin {H : T AObj} {b i : Nat} {l : List Vin} {rest : List Value} {e : TypeId} {ro : Bool} {p : Vin} (hb : H.get b = some (.cells (l.flatMap vinC ++ rest) e ro)) (hp : l[i]? = some p) :
    rdO (H.get b) (i * 4) 4 = some (vinC p) ∧ rd1O (H.get b) (i * 4) = some (.string p.tag) := by
  obtain ⟨h1, h2⟩ := rows_at vinC_length l i p rest hp
  rw [hb, rdO_cells, if_pos h2, h1, rd1O_cells]
  have h3 : (((l.flatMap vinC ++ rest).drop (i * 4)).take 4)[0]? = some (.string p.tag) := by rw [h1]; simp
  rw [List.getElem?_take_of_lt (by omega), List.getElem?_drop] at h3
  exact ⟨rfl, by simpa using h3⟩
structure In16 (l : List Vin) (b M N : Nat) (i : Nat) (w : AW) : Prop where
  pods : l = [] ∨ VinesAt N w.heap b l
  low : N ≤ M
  tags : w.heap.get M = some (.map (entsFrom 0 (tagsTo l i)) i)
  lim : w.lim ≤ M
  next : M < w.next
  ok : chkB l i = true
  le : i ≤ l.length
theorem loop16 {sq : Option Nat} {ov : Ov} (h18 : HasP ov 18 F18) (l : List Vin) (b c M N : Nat) (Q : Ex → Tm → AW → Prop) (t : Tm) (w : AW) (hw : In16 l b M N 0 w) (hlen : l.length ≤ 12)
    (t3 : tget t 3 = .map (some M)) (v10 : Value) (t10 : tget t 10 = v10) (hv : ∀ i, i < l.length → v10 = .slice (some ⟨b, 0, sq⟩) l.length c) (t11 : tget t 11 = .int .i64 (l.length : Nat)) (t12 : tget t 12 = .int .i64 0)
    (hyes : chkB l l.length = true → ∀ t w, Q (.exit 0) t w) (hno : chkB l l.length = false → ∀ t w, tget t 2 = .bool false → Q .ret t w) : wp (exM Tryz.prog (run Tryz.prog ov 1) (.loop mc16_l0) t w) Q := by
  refine wp_rounds (fun i t w => tget t 3 = .map (some M) ∧ tget t 10 = v10 ∧ tget t 11 = .int .i64 (l.length : Nat) ∧ tget t 12 = .int .i64 (i : Nat) ∧ In16 l b M N i w) 20 (by decide) ⟨t3, t10, t11, t12, hw⟩ ?_
  clear hw t3 t10 t11 t12
  rintro i t w ⟨t3, t10, t11, t12, hI⟩
  by_cases hlt : i < l.length
  · obtain ⟨p, hp⟩ : ∃ p, l[i]? = some p := ⟨_, List.getElem?_eq_getElem hlt⟩
    have hv10 := hv i hlt
    have hpods : VinesAt N w.heap b l := by
      rcases hI.pods with h | h
      · subst h; simp at hlt
      · exact h
    have hNM := hI.low
    have hMw := hI.next
    have hrac := hpods.racs p (List.mem_of_getElem? hp)
    obtain ⟨rest, e, ro, hcells⟩ := hpods.at_
    obtain ⟨hld, _⟩ := load_vin hcells hp
    have hbn : b ≠ w.next := by have := hpods.lt; omega
    have hbM : b ≠ M := by have := hpods.lt; omega
    have hMn : M ≠ w.next := Nat.ne_of_lt hI.next
    have hia := fun w => ia22 w ⟨b, 0, sq⟩ l.length c .i64 i hlt
    have hw1 : IntKind.wrap .i64 ((i : Int) + 1) = (i : Int) + 1 := wrap64_in (by omega) (by omega)
    have htag := hI.tags
    have hlim := hI.lim
    have hlimn : w.lim ≤ w.next := by omega
    have hsing := vinC_singles hrac
    have hpods2 : VinesAt N ((w.heap.put w.next (some (.cells [.string ⟨⟨[]⟩⟩, .int .i64 0, .int .i64 0, .slice none 0 0] 30 false))).put w.next (some (.cells (vinC p) 30 false))) b l := (hpods.put (by omega)).put (by omega)
    have r18 := rule18 h18 (v := p) (w := ⟨(w.heap.put w.next (some (.cells [.string ⟨⟨[]⟩⟩, .int .i64 0, .int .i64 0, .slice none 0 0] 30 false))).put w.next (some (.cells (vinC p) 30 false)), w.next + 1, w.lim⟩) (racAt_mono (hpods2.racs p (List.mem_of_getElem? hp)) (by show N ≤ w.next + 1; omega))
    cases h1 : vinB p with
    | false =>
      have hbad : chkB l l.length = false := chk_false (i := i + 1) (by rw [chk_snoc hp, h1]; simp) _ (by omega)
      simp [mc16_l0, t3, t10, hv10, t11, t12, hlt, hia, hld, hbn, hMn, hlimn, hsing, r18, h1]
      refine hno hbad _ _ ?_
      simp
    | true =>
      cases h2 : hasT (tagsTo l i) p.tag with
      | true =>
        have hbad : chkB l l.length = false := chk_false (i := i + 1) (by rw [chk_snoc hp, h2]; simp) _ (by omega)
        simp [mc16_l0, t3, t10, hv10, t11, t12, hlt, hia, hld, hbn, hMn, hlimn, hsing, r18, h1, htag, h2]
        refine hno hbad _ _ ?_
        simp
      | false =>
        have hgood : chkB l (i + 1) = true := by rw [chk_snoc hp, h1, h2, hI.ok]; rfl
        have htl : (tagsTo l i).length = i := tags_length hI.le
        simp [mc16_l0, t3, t10, hv10, t11, t12, hlt, hia, hld, hbn, hMn, hlimn, hsing, r18, h1, htag, h2, hlim, htl, hw1]
        refine ⟨by omega, .inr (hpods2.put hNM), hNM, ?_, hlim, ?_, hgood, hlt⟩
        · simp [tags_snoc hp]
        · show M < w.next + 1; omega
  · have hi : i = l.length := by have := hI.le; omega
    subst hi
    simp [mc16_l0, t11, t12]
    exact hyes hI.ok _ _
end Go.Proofs.YtcolofoifhbdpaaGreatDoor.walk
