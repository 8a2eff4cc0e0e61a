/- Part of a proof by a machine of ones own: see the text with the theorem. -/
import Derived.Test.YtcolofoifhbdpaaGreatDoorVTb
namespace Go.Proofs.YtcolofoifhbdpaaGreatDoor.walk
open Go Go.Sh
set_option maxRecDepth 100000
/-! what VineFed asks: Wrap, the sum of the flowers, and how much a fed vine bears -/
def wrapI (n s : Int) : Int := if s < 1 then 0 else (IntKind.wrap .i64 (n.tmod s + s)).tmod s
theorem wrapI_bd {n s : Int} (h : 1 ≤ s) (h' : s ≤ 1000) : 0 ≤ wrapI n s ∧ wrapI n s < s := by
  have h1 := Int.tmod_lt_of_pos n (show 0 < s by omega)
  have h2 := Int.lt_tmod_of_pos n (show 0 < s by omega)
  have h3 : IntKind.wrap .i64 (n.tmod s + s) = n.tmod s + s := wrap64_in (by omega) (by omega)
  unfold wrapI
  rw [if_neg (by omega), h3]
  exact ⟨Int.tmod_nonneg _ (by omega), Int.tmod_lt_of_pos _ (by omega)⟩
noncomputable def F12 : PureF := fun args _ => match args with | [.int .i64 n, .int .i64 s] => some (.int .i64 (wrapI n s)) | _ => none
theorem rule12 {ov : Ov} (h : HasP ov 12 F12) (n s : Int) (w : AW) : (run Tryz.prog ov 1).call 12 [.int .i64 n, .int .i64 s] w .none = .ok (.ret (.int .i64 (wrapI n s))) w .none := h.call rfl
theorem run12 {ov : Ov} (ho : ∀ args w, ov 12 args w = none) (n s : Int) (w : AW) : ∃ v w', (run Tryz.prog ov 2).call 12 [.int .i64 n, .int .i64 s] w .none = .ok (.ret v) w' .none ∧ v = .int .i64 (wrapI n s) := by
  refine call_wp text12 (by simp) (ho _ _) ?_
  by_cases h1 : s < 1
  · simp [mc12, h1, tupV, wrapI]
  · have hr := fun (a : Int) (c : Bool) w => bin_rem (P := Tryz.prog) (w := w) 3 c .i64 a s (by omega)
    simp [mc12, h1, tupV, wrapI, hr]
theorem loop4 {sq : Option Nat} {ov : Ov} (l : List Rac) (b c N : Nat) (v : Vin) (Q : Ex → Tm → AW → Prop) (t : Tm) (w : AW) (hbox : w.heap.get N = some (.cells (vinC v) 30 false)) (hrows : l = [] ∨ RowsAt w.next w.heap b l) (h8 : l.length ≤ 8) (hall : l.all rac1 = true) (hv : ∀ i, i < l.length → v.rv = .slice (some ⟨b, 0, sq⟩) l.length c)
    (hlen : ∀ w, lenB Tryz.prog w 28 v.rv = .val (.int .i64 (l.length : Nat)) w) (v3 v5 : Value)
    (t2 : tget t 2 = .pointer (some ⟨N, 0, none⟩)) (t3 : tget t 3 = v3) (t5 : tget t 5 = v5) (t8 : tget t 8 = .int .i64 0) (t7 : tget t 7 = .int .i64 0)
    (hQ : ∀ t, tget t 2 = .pointer (some ⟨N, 0, none⟩) → tget t 3 = v3 → tget t 5 = v5 → tget t 7 = .int .i64 (sumTo l l.length) → Q (.exit 0) t w) : wp (exM Tryz.prog (run Tryz.prog ov 1) (.loop mc4_l0) t w) Q := by
  have k3 : ∀ h, (vinC v)[3]'h = v.rv := fun h => by simp [vinC]
  have g3 : (vinC v)[3]? = some v.rv := by simp [vinC]
  have gl : (vinC v).length = 4 := by simp [vinC]
  refine wp_rounds (fun i t w' => w' = w ∧ tget t 2 = .pointer (some ⟨N, 0, none⟩) ∧ tget t 3 = v3 ∧ tget t 5 = v5 ∧ tget t 8 = .int .i64 (i : Nat) ∧ tget t 7 = .int .i64 (sumTo l i) ∧ i ≤ l.length) 20 (by decide) ⟨rfl, t2, t3, t5, t8, t7, Nat.zero_le _⟩ ?_
  clear t2 t3 t5 t8 t7
  rintro i t w' ⟨rfl, t2, t3, t5, t8, t7, hi⟩
  by_cases hlt : i < l.length
  · obtain ⟨r, hr⟩ : ∃ r, l[i]? = some r := ⟨_, List.getElem?_eq_getElem hlt⟩
    have hv11 := hv i hlt
    have hrows : RowsAt w'.next w'.heap b l := by
      rcases hrows with h | h
      · subst h; simp at hlt
      · exact h
    obtain ⟨rest, e, ro, hcells⟩ := hrows.at_
    obtain ⟨_, _, hl1⟩ := load_rac hcells hr
    have hia := fun w => ia28 w ⟨b, 0, sq⟩ l.length c .i64 i hlt
    have hw1 : IntKind.wrap .i64 ((i : Int) + 1) = (i : Int) + 1 := wrap64_in (by omega) (by omega)
    have hs := sum_snoc hr
    have hbd := sum_bd hall (i + 1)
    have hw2 : IntKind.wrap .i64 (sumTo l i + r.flowers) = sumTo l (i + 1) := by rw [← hs]; exact wrap64_in (by omega) (by omega)
    rw [hv11] at k3 g3 hlen
    simp [mc4_l0, t2, t3, t5, t8, t7, hbox, g3, k3, gl, hlen, hlt, hia, hl1, hw1, hw2]
    exact ⟨by omega, hlt⟩
  · have hi' : i = l.length := by omega
    subst hi'
    simp [mc4_l0, t2, t3, t5, t8, t7, hbox, g3, k3, gl, hlen]
    refine hQ _ ?_ ?_ ?_ ?_ <;> simp [t2, t3, t5, t7]
/-! arithmetic -/
theorem bear_facts {v : Vin} (h : vinB v = true) : 0 ≤ v.leaves ∧ v.leaves ≤ 10000 ∧ 1 ≤ v.per ∧ v.per ≤ 1000 ∧ v.rs.length ≤ 8 ∧ v.rs.all rac1 = true ∧ wordB v.tag.data.toList = true := by
  simp only [vinB, racB, inI, Bool.and_eq_true, decide_eq_true_eq] at h
  obtain ⟨h1, ⟨h2, h3⟩, ⟨h4, h5⟩, h6, h7⟩ := h
  exact ⟨h2, h3, h4, h5, h6, h7, h1⟩
theorem bear_eq {v : Vin} (h : vinB v = true) : bearN v = min (v.leaves / v.per) (sumTo v.rs v.rs.length) ∧ 0 ≤ v.leaves / v.per ∧ v.leaves / v.per ≤ 10000 := by
  obtain ⟨h1, h2, h3, h4, _⟩ := bear_facts h
  have e1 : v.leaves.tdiv v.per = v.leaves / v.per := Int.tdiv_eq_ediv_of_nonneg h1
  have e2 : 0 ≤ v.leaves / v.per := Int.ediv_nonneg h1 (by omega)
  have e3 : v.leaves / v.per ≤ v.leaves := Int.ediv_le_self _ h1
  have e4 : IntKind.wrap .i64 (v.leaves / v.per) = v.leaves / v.per := wrap64_in (by omega) (by omega)
  refine ⟨?_, e2, by omega⟩
  unfold bearN
  rw [h, cond_true, e1, e4]
theorem bear_same {n n' : Int} {v : Vin} (h : vinB v = true) (hn : n = bearN v) : ¬ n < 0 ∧ ¬ (v.leaves < n * v.per) ∧ ¬ (sumTo v.rs v.rs.length < n) ∧ (n ≠ sumTo v.rs v.rs.length → ¬ (n + 1) * v.per ≤ v.leaves) ∧ 0 ≤ n ∧ n ≤ 10000 ∧ 0 ≤ n * v.per ∧ n * v.per ≤ 10000 ∧ 0 ≤ (n + 1) * v.per ∧ (n + 1) * v.per ≤ 11000 := by
  obtain ⟨e1, e2, e3⟩ := bear_eq h
  obtain ⟨h1, h2, h3, h4, h5, h6, _⟩ := bear_facts h
  have hs := (sum_bd h6 v.rs.length).1
  have m1 : v.leaves / v.per * v.per ≤ v.leaves := Int.ediv_mul_le _ (by omega)
  have m2 : v.leaves < (v.leaves / v.per + 1) * v.per := Int.lt_ediv_add_one_mul_self _ (by omega)
  have hn0 : 0 ≤ n := by rw [hn, e1]; omega
  have hq : n ≤ v.leaves / v.per := by rw [hn, e1]; omega
  have m3 : n * v.per ≤ v.leaves / v.per * v.per := Int.mul_le_mul_of_nonneg_right hq (by omega)
  have m4 : 0 ≤ n * v.per := Int.mul_nonneg hn0 (by omega)
  have m5 : (n + 1) * v.per = n * v.per + v.per := by rw [Int.add_mul, Int.one_mul]
  refine ⟨by omega, by omega, by rw [hn, e1]; omega, fun hne => ?_, hn0, by omega, m4, by omega, by omega, by omega⟩
  have : n = v.leaves / v.per := by rw [hn, e1] at hne ⊢; omega
  rw [this]
  omega
theorem sum_take {l m : List Rac} : ∀ i, i ≤ l.length → sumTo (l ++ m) i = sumTo l i
  | 0, _ => rfl
  | i + 1, h => by
    show sumTo (l ++ m) i + (match (l ++ m)[i]? with | some r => r.flowers | none => 0) = sumTo l i + (match l[i]? with | some r => r.flowers | none => 0)
    rw [sum_take i (by omega), List.getElem?_append_left (by omega)]
theorem sum_add {l : List Rac} {r : Rac} : sumTo (l ++ [r]) (l ++ [r]).length = sumTo l l.length + r.flowers := by
  have h1 : (l ++ [r])[l.length]? = some r := by simp
  rw [List.length_append, List.length_singleton, sum_snoc h1, sum_take _ (Nat.le_refl _)]
/-- a vine that is fed: more leaves, perhaps one raceme more -/
theorem fed_more {v u : Vin} (h : vinB v = true) (h1 : u.tag = v.tag) (h2 : u.per = v.per) (h3 : v.leaves ≤ u.leaves) (h4 : u.leaves ≤ 10000) (h5 : u.rs = v.rs ∨ ∃ r, u.rs = v.rs ++ [r] ∧ rac1 r = true ∧ v.rs.length < 8) : vinB u = true ∧ bearN v ≤ bearN u := by
  obtain ⟨a1, a2, a3, a4, a5, a6, a7⟩ := bear_facts h
  have hu : vinB u = true := by
    simp only [vinB, racB, inI, Bool.and_eq_true, decide_eq_true_eq]
    rw [h1, h2]
    refine ⟨a7, ⟨by omega, h4⟩, ⟨a3, a4⟩, ?_⟩
    rcases h5 with h5 | ⟨r, h5, h6, h7⟩
    · rw [h5]; exact ⟨a5, a6⟩
    · rw [h5]; exact ⟨by simp; omega, by simp [a6, h6]⟩
  refine ⟨hu, ?_⟩
  rw [(bear_eq h).1, (bear_eq hu).1, h2]
  have hq : v.leaves / v.per ≤ u.leaves / v.per := Int.ediv_le_ediv (by omega) h3
  have hs : sumTo v.rs v.rs.length ≤ sumTo u.rs u.rs.length := by
    rcases h5 with h5 | ⟨r, h5, h6, _⟩
    · rw [h5]; exact Int.le_refl _
    · rw [h5, sum_add]
      simp [rac1, inI] at h6
      omega
  omega
end Go.Proofs.YtcolofoifhbdpaaGreatDoor.walk

namespace Go.Proofs.YtcolofoifhbdpaaGreatDoor.walk
open Go Go.Sh
set_option maxRecDepth 100000
@[simp] theorem ia33_0 (w : AW) (a : Addr) : indexAddrA Tryz.prog w 33 (.pointer (some a)) (.int .i64 0) = .val (.pointer (some (a.add 0))) w := by kernel_rfl
@[simp] theorem ia33_1 (w : AW) (a : Addr) : indexAddrA Tryz.prog w 33 (.pointer (some a)) (.int .i64 1) = .val (.pointer (some (a.add 1))) w := by kernel_rfl
theorem laid_congr {w w' : AW} : ∀ (L : List LaidV), (∀ x ∈ L, w.heap.get x.1 = w'.heap.get x.1) → hasAll w L = hasAll w' L
  | [], _ => rfl
  | x :: L, h => by
    have h1 : hasB w x = hasB w' x := by
      obtain ⟨b, c, t⟩ := x
      unfold hasB
      rw [h (b, c, t) (List.mem_cons_self ..)]
    show (bif hasB w x then hasAll w L else false) = (bif hasB w' x then hasAll w' L else false)
    rw [h1, laid_congr L fun x hx => h x (List.mem_cons_of_mem _ hx)]
theorem laid_put {w : AW} {k n lim : Nat} {o : Option AObj} (h : hasAll w laidL = true) (hk : 7 ≤ k) : hasAll ⟨w.heap.put k o, n, lim⟩ laidL = true := by
  rw [← h]
  refine laid_congr _ fun x hx => ?_
  unfold laidL at hx
  simp only [List.mem_cons, List.not_mem_nil, or_false] at hx
  show (w.heap.put k o).get x.1 = w.heap.get x.1
  rw [get_put]
  rcases hx with rfl | rfl | rfl <;> rw [if_neg] <;> simp only <;> omega
@[simp] theorem builtin_append (w : AW) (ts : Array TypeId) (ty : TypeId) (args : List Value) : builtinA Tryz.prog w .append ts ty args = append1 Tryz.prog w ts.toList args := rfl
theorem append28 (w : AW) (base : Option Addr) (n cap : Nat) (x : Value) : append1 Tryz.prog w [28, 28] [.slice base n cap, x] = (match lenA x with
    | none => .fail
    | some m => match srcCells w 2 x with
      | none => .fail
      | some new => bif (Nat.ble (n + m) 1000000 && Nat.beq (lenL new 0) (m * 2)) then appendB w 35 base n cap m 2 new else .fail) := by
  have h1 : isList Tryz.prog 28 = true := by kernel_rfl
  have h2 : elemA Tryz.prog 28 = some 35 := by kernel_rfl
  have h3 : szOf Tryz.prog 35 = some 2 := by kernel_rfl
  have h4 : smallT Tryz.prog 35 = true := by kernel_rfl
  show (bif isList Tryz.prog 28 then appendA Tryz.prog w 28 (.slice base n cap) x else .fail) = _
  rw [h1, cond_true]
  unfold appendA
  simp only [h2, h3, h4, Bool.true_and]
  rfl
theorem app_none {w : AW} {base : Option Addr} {n cap : Nat} {x : Value} (h1 : lenA x = some 0) (h2 : srcCells w 2 x = some []) (hn : n ≤ 1000) : append1 Tryz.prog w [28, 28] [.slice base n cap, x] = .val (.slice base n cap) w := by
  rw [append28, h1, h2]
  have : Nat.ble (n + 0) 1000000 = true := Nat.ble_eq_true_of_le (by omega)
  simp only [this]
  rfl
theorem app_new {w : AW} {B n m : Nat} {c new : List Value} {x : Value} (h1 : lenA x = some m) (h2 : srcCells w 2 x = some new) (hl : new.length = m * 2) (hs : singles new = true) (hm : 0 < m) (hnm : n + m ≤ 1000) (hB : w.heap.get B = some (.cells c 35 false)) (hc : c.length = n * 2) (hlim : w.lim ≤ B) :
    append1 Tryz.prog w [28, 28] [.slice (some ⟨B, 0, none⟩) n n, x] = .val (.slice (some ⟨w.next, 0, none⟩) (n + m) (n + m)) ⟨(w.heap.put B none).put w.next (some (.cells (c ++ new) 35 false)), w.next + 1, w.lim⟩ := by
  rw [append28, h1, h2]
  have e1 : Nat.ble (n + m) 1000000 = true := Nat.ble_eq_true_of_le (by omega)
  have e2 : Nat.beq (lenL new 0) (m * 2) = true := by rw [lenL0, hl]; exact Nat.beq_refl _
  have e3 : Nat.beq m 0 = false := by rw [← Bool.not_eq_true]; intro h; have := Nat.eq_of_beq_eq_true h; omega
  have e4 : Nat.ble (n + m) n = false := by rw [← Bool.not_eq_true]; intro h; have := Nat.le_of_ble_eq_true h; omega
  simp only [e1, e2, Bool.and_self, cond_true, appendB, e3, cond_false, e4, Option.isNone_none]
  unfold appendNew
  have e5 : Nat.ble w.lim B = true := Nat.ble_eq_true_of_le hlim
  have e6 : Nat.beq (0 + n * 2) (lenL c 0) = true := by rw [lenL0, hc, Nat.zero_add]; exact Nat.beq_refl _
  simp only [hB, hs, e5, e6, Nat.beq_refl, Bool.and_self, Bool.not_false, cond_true]
  cases w
  simp [newR, AW.set, AW.add, rowV, appL_eq, dropL_eq]
theorem racs_len : ∀ l : List Rac, (l.flatMap racC).length = l.length * 2
  | [] => rfl
  | r :: l => by rw [List.flatMap_cons, List.length_append, racs_len l, racC_length, List.length_cons]; omega
theorem src_rac {w : AW} {x : Value} {l : List Rac} (h : racAt w.next w.heap x = some l) (h0 : l = [] → srcCells w 2 x = some []) : lenA x = some l.length ∧ srcCells w 2 x = some (l.flatMap racC) := by
  rcases racAt_some h with ⟨a, c, rfl, h2⟩ | ⟨b, sq, c, rfl, ⟨rest, e, ro, h1⟩, h2⟩
  · rw [h2, h0 h2]; exact ⟨rfl, rfl⟩
  · refine ⟨rfl, ?_⟩
    show (bif Nat.beq (l.length * 2) 0 then some [] else rd w b 0 (l.length * 2)) = _
    cases hz : Nat.beq (l.length * 2) 0 with
    | true =>
      have h3 := Nat.eq_of_beq_eq_true hz
      have hl : l = [] := List.eq_nil_of_length_eq_zero (by omega)
      rw [hl]; rfl
    | false =>
    rw [cond_false, rd_eq, h1, rdO_cells]
    have hf : (l.flatMap racC).length = l.length * 2 := racs_len l
    rw [if_pos (by rw [List.length_append, hf]; omega), List.drop_zero, List.take_append_of_le_length (by omega), List.take_of_length_le (by omega)]
theorem src_one {w : AW} {B : Nat} {cs : List Value} {e : TypeId} {ro : Bool} (h : w.heap.get B = some (.cells cs e ro)) (hl : cs.length = 2) : srcCells w 2 (.slice (some ⟨B, 0, none⟩) 1 1) = some cs := by
  show rd w B 0 2 = _
  rw [rd_eq, h, rdO_cells, if_pos (by omega), List.drop_zero, List.take_of_length_le (by omega)]
theorem racs_singles : ∀ l : List Rac, singles (l.flatMap racC) = true
  | [] => rfl
  | r :: l => by
    have := racs_singles l
    rw [List.flatMap_cons]
    simp [racC, this]
def fedV (v : Vin) (z : Int) (rv : Value) (rs : List Rac) : Vin := ⟨v.tag, z, v.per, rv, rs⟩
theorem fed1 (v : Vin) (z : Int) : List.take 1 (vinC v) ++ Value.int .i64 z :: List.drop 2 (vinC v) = vinC (fedV v z v.rv v.rs) := rfl
theorem fed3 (v : Vin) (rv : Value) (rs : List Rac) : List.take 3 (vinC v) ++ rv :: List.drop 4 (vinC v) = vinC (fedV v v.leaves rv rs) := rfl
def laidH (H : T AObj) : Prop := ∀ n lim, hasAll ⟨H, n, lim⟩ laidL = true
theorem laidH_put {H : T AObj} (h : laidH H) {k : Nat} {o : Option AObj} (hk : 7 ≤ k) : laidH (H.put k o) := fun n lim => laid_put (w := ⟨H, n, lim⟩) (h n lim) hk
theorem rac_block {N : Nat} {H : T AObj} {B n : Nat} {sq : Option Nat} {ro : Bool} {e : TypeId} (l : List Rac) (h : H.get B = some (.cells (l.flatMap racC) e ro)) (hB : B < N) (hn : n = l.length) : racAt N H (.slice (some ⟨B, 0, sq⟩) n n) = some l := by
  subst hn
  cases l with
  | nil => rfl
  | cons p l =>
    show (if B < N then (cellsO (H.get B)).bind (parseR (p :: l).length) else none) = _
    rw [if_pos hB, h]
    have := parseR_C (p :: l) []
    rw [List.append_nil] at this
    exact this
theorem racAt_len {N : Nat} {H : T AObj} {v : Value} {l : List Rac} (h : racAt N H v = some l) : lenA v = some l.length := by
  rcases racAt_some h with ⟨a, c, rfl, rfl⟩ | ⟨b, sq, c, rfl, _⟩ <;> rfl
theorem src0 {N : Nat} {H : T AObj} {v : Value} (h : racAt N H v = some []) (W : AW) : srcCells W 2 v = some [] := by
  rcases racAt_some h with ⟨a, c, rfl, _⟩ | ⟨b, sq, c, rfl, _⟩
  · cases a <;> rfl
  · rfl
set_option maxHeartbeats 4000000 in
theorem run4 {ov : Ov} (ho : ∀ args w, ov 4 args w = none) (h9 : HasP ov 9 F9) (h12 : HasP ov 12 F12) (hW : HasW ov) (v : Vin) (x y : Int) (w : AW) (hl : w.lim = w.next) (h7 : 7 ≤ w.next) (hlaid : hasAll w laidL = true) (hv : racAt w.next w.heap v.rv = some v.rs) :
    ∃ u w', (run Tryz.prog ov 2).call 4 [.agg ⟨vinC v⟩, .agg ⟨[.int .i64 x, .int .i64 y]⟩] w .none = .ok (.ret u) w' .none ∧ u = .bool true := by
  have h0 : v.rs = [] → ∀ W, srcCells W 2 v.rv = some [] := fun he W => src0 (by rw [he] at hv; exact hv) W
  refine call_wp text4 (by simp) (ho _ _) ?_
  have hv1 : racAt (w.next + 1) (w.heap.put w.next (some (.cells (vinC v) 30 false))) v.rv = some v.rs := racAt_put hv (Nat.le_refl _) (Nat.le_succ _)
  have hv2 : racAt (w.next + 2) ((w.heap.put w.next (some (.cells (vinC v) 30 false))).put (w.next + 1) (some (.cells [.int .i64 x, .int .i64 y] 33 false))) v.rv = some v.rs := racAt_put hv1 (Nat.le_refl _) (Nat.le_succ _)
  have r9 := rule9 h9 (w := ⟨(w.heap.put w.next (some (.cells (vinC v) 30 false))).put (w.next + 1) (some (.cells [.int .i64 x, .int .i64 y] 33 false)), w.next + 2, w.lim⟩) hv2
  have hlen : ∀ w, lenB Tryz.prog w 28 v.rv = .val (.int .i64 (v.rs.length : Nat)) w := by
    intro w
    rcases racAt_some hv with ⟨a, c, h1, h2⟩ | ⟨b, sq, c, h1, hp⟩
    · rw [h1, h2]; simp
    · rw [h1]; simp
  obtain ⟨b, sq, c, hb, hrows⟩ : ∃ b sq c, (∀ i, i < v.rs.length → v.rv = .slice (some ⟨b, 0, sq⟩) v.rs.length c) ∧ (v.rs = [] ∨ RowsAt (w.next + 2) ((w.heap.put w.next (some (.cells (vinC v) 30 false))).put (w.next + 1) (some (.cells [.int .i64 x, .int .i64 y] 33 false))) b v.rs) := by
    rcases racAt_some hv2 with ⟨a, c, h1, h2⟩ | ⟨b, sq, c, h1, hp⟩
    · exact ⟨0, none, 0, fun i hi => by rw [h2] at hi; simp at hi, .inl h2⟩
    · exact ⟨b, sq, c, fun _ _ => h1, .inr hp⟩
  have gl : (vinC v).length = 4 := by simp [vinC]
  have g3 : (vinC v)[3]? = some v.rv := by simp [vinC]
  have k3 : ∀ h, (vinC v)[3]'h = v.rv := fun h => by simp [vinC]
  have g1 : (vinC v)[1]? = some (.int .i64 v.leaves) := by simp [vinC]
  have g2 : (vinC v)[2]? = some (.int .i64 v.per) := by simp [vinC]
  have k1 : ∀ h, (vinC v)[1]'h = .int .i64 v.leaves := fun h => by simp [vinC]
  have k2 : ∀ h, (vinC v)[2]'h = .int .i64 v.per := fun h => by simp [vinC]
  cases hB : vinB v with
  | false =>
    have rW := ruleW hW (w := ⟨(w.heap.put w.next (some (.cells (vinC v) 30 false))).put (w.next + 1) (some (.cells [.int .i64 x, .int .i64 y] 33 false)), w.next + 2, w.lim⟩) (laid_put (w := ⟨w.heap.put w.next (some (.cells (vinC v) 30 false)), w.next + 1, w.lim⟩) (laid_put hlaid h7) (Nat.le_succ_of_le h7))
    simp [mc4, r9, gl, bearN, bearE, hB, rW, tupV]
  | true =>
    obtain ⟨a1, a2, a3, a4, a5, a6, a7⟩ := bear_facts hB
    have e0 : bearE v = 0 := by simp [bearE, hB]
    obtain ⟨n, hn⟩ : ∃ n, n = bearN v := ⟨_, rfl⟩
    rw [e0, ← hn] at r9
    have hlen8 : ¬ (8 : Int) < (v.rs.length : Int) := by omega
    have hper : ¬ v.per < 1 := by omega
    obtain ⟨b1, b2, b3, b4, b5, b6, b7, b8, b9, b10⟩ := bear_same (n' := 0) hB hn
    have w1 : IntKind.wrap .i64 (n * v.per) = n * v.per := wrap64_in (by omega) (by omega)
    have w2 : IntKind.wrap .i64 (n + 1) = n + 1 := wrap64_in (by omega) (by omega)
    have w3 : IntKind.wrap .i64 ((n + 1) * v.per) = (n + 1) * v.per := wrap64_in (by omega) (by omega)
    have hsing := vinC_singles hv
    have hlim2 : w.lim ≤ w.next + 2 := by omega
    obtain ⟨wx, hwx⟩ : ∃ z, z = wrapI x 500 := ⟨_, rfl⟩
    obtain ⟨wy, hwy⟩ : ∃ z, z = wrapI y 20 := ⟨_, rfl⟩
    have bx := wrapI_bd (n := x) (s := 500) (by decide) (by decide)
    have by_ := wrapI_bd (n := y) (s := 20) (by decide) (by decide)
    rw [← hwx] at bx
    rw [← hwy] at by_
    have r12x := fun w => rule12 h12 x 500 w
    have r12y := fun w => rule12 h12 y 20 w
    rw [← hwx] at r12x
    rw [← hwy] at r12y
    have w4 : IntKind.wrap .i64 (v.leaves + wx) = v.leaves + wx := wrap64_in (by omega) (by omega)
    have w5 : IntKind.wrap .i64 (1 + wy) = 1 + wy := wrap64_in (by omega) (by omega)
    simp [mc4, r9, gl, g3, k3, g2, k2, hlen, hlen8, hper]
    refine wp_seqX (wp_blockX (loop4 (sq := sq) v.rs b c w.next v _ _ _ ?_ hrows a5 a6 hb hlen (.pointer (some ⟨w.next + 1, 0, none⟩)) (.int .i64 n) ?_ ?_ ?_ ?_ ?_ ?_))
    case _ => simp
    case _ => simp
    case _ => simp
    case _ => simp
    case _ => simp
    case _ => simp
    case _ =>
      intro t s2 s3 s5 s7
      obtain ⟨S, hS⟩ : ∃ S, sumTo v.rs v.rs.length = S := ⟨_, rfl⟩
      rw [hS] at s7 b3 b4
      rcases Classical.em (n = S) with hs | hs
      case' inl => subst hs; simp [s2, s5, s7, k1, k2, gl, b1, b2, w1]
      case' inr => have b4' := b4 hs; simp [s2, s5, s7, k1, k2, gl, b1, b2, b3, w1, w2, w3, hs, b4']
      all_goals
        obtain ⟨z, hz⟩ : ∃ z, z = min 10000 (v.leaves + wx) := ⟨_, rfl⟩
        have hz1 : v.leaves ≤ z ∧ z ≤ 10000 := by rw [hz]; omega
        have ne1 : ¬ w.next = w.next + 2 + 1 := by omega
        have ne2 : ¬ w.next + 1 = w.next + 2 + 1 := by omega
        have ne3 : ¬ w.next + 2 = w.next + 2 + 1 := by omega
        by_cases h8 : (v.rs.length : Int) < 8
        case' neg =>
          obtain ⟨hu, hge⟩ := fed_more (u := fedV v z v.rv v.rs) hB rfl rfl hz1.1 hz1.2 (.inl rfl)
          have hE : bearE (fedV v z v.rv v.rs) = 0 := by simp [bearE, hu]
          rw [← hn] at hge
          simp [s2, s3, s5, k1, gl, hsing, hlim2, r12x, w4, g1, g3, k3, hlen, h8, ← hz, fed1]
          rw [rule9 h9 (v := fedV v z v.rv v.rs) (by
            have e1 := racAt_put (o := some (.cells [.string ⟨⟨[]⟩⟩, .int .i64 0, .int .i64 0, .slice none 0 0] 30 false)) hv2 (k := w.next + 2) (Nat.le_refl _) (Nat.le_refl _)
            have e2 := racAt_put (o := some (.cells (vinC v) 30 false)) e1 (k := w.next + 2) (Nat.le_refl _) (Nat.le_refl _)
            exact racAt_put e2 (Nat.le_refl _) (Nat.le_succ _))]
          simp [s5, hE, hge]
          rw [ruleW hW (by
            have l1 := laid_put (n := w.next) (lim := w.lim) (o := some (.cells (vinC v) 30 false)) hlaid h7
            have l2 := laid_put (n := w.next) (lim := w.lim) (o := some (.cells [.int .i64 x, .int .i64 y] 33 false)) l1 (Nat.le_succ_of_le h7)
            have l3 := laid_put (n := w.next) (lim := w.lim) (o := some (.cells [.string ⟨⟨[]⟩⟩, .int .i64 0, .int .i64 0, .slice none 0 0] 30 false)) l2 (k := w.next + 2) (by omega)
            have l4 := laid_put (n := w.next) (lim := w.lim) (o := some (.cells (vinC v) 30 false)) l3 (k := w.next + 2) (by omega)
            exact laid_put l4 (k := w.next + 2) (by omega))]
          simp [tupV]
        simp [s2, s3, s5, k1, gl, hsing, hlim2, r12x, r12y, w4, w5, g1, g3, k3, hlen, h8, ← hz, fed1, ne1, ne2, ne3]
        have hlA : lenA v.rv = some v.rs.length := racAt_len hv
        have hlim3 : w.lim ≤ w.next + 2 + 1 := by omega
        have hlim4 : w.lim ≤ w.next + 2 + 1 + 1 := by omega
        have r1 : rac1 ⟨5, 1 + wy⟩ = true := by simp [rac1, inI]; omega
        obtain ⟨r, hr⟩ : ∃ r : Rac, r = ⟨5, 1 + wy⟩ := ⟨_, rfl⟩
        have hrC : racC r = [.int .i64 5, .int .i64 (1 + wy)] := by rw [hr]; rfl
        have hlb : laidH w.heap := fun n lim => by rw [← hlaid]; exact laid_congr _ fun _ _ => rfl
        have hfl : (v.rs ++ [r]).flatMap racC = v.rs.flatMap racC ++ [.int .i64 5, .int .i64 (1 + wy)] := by rw [List.flatMap_append, List.flatMap_singleton, hrC]
        have hfm : ∀ rv, vinB (fedV (fedV v z v.rv v.rs) (fedV v z v.rv v.rs).leaves rv (v.rs ++ [r])) = true ∧ n ≤ bearN (fedV (fedV v z v.rv v.rs) (fedV v z v.rv v.rs).leaves rv (v.rs ++ [r])) := fun rv => by
          rw [hn]
          exact fed_more hB rfl rfl hz1.1 hz1.2 (.inr ⟨r, rfl, by rw [hr]; exact r1, by omega⟩)
        have hfE : ∀ rv, bearE (fedV (fedV v z v.rv v.rs) (fedV v z v.rv v.rs).leaves rv (v.rs ++ [r])) = 0 := fun rv => by simp [bearE, (hfm rv).1]
        by_cases he : v.rs = []
        case' pos =>
          rw [app_none (by rw [hlA, he]; rfl) (h0 he _) (by decide)]
          simp [s3, r12y, w5]
          rw [app_new (m := 1) (n := 0) (c := []) (new := [.int .i64 5, .int .i64 (1 + wy)]) rfl (src_one (e := 35) (ro := false) (by simp) rfl) rfl (by simp) (by decide) (by decide) (by simp) rfl (by exact hlim3)]
          have hf3 := fed3 (fedV v z v.rv v.rs) (.slice (some ⟨w.next + 2 + 1 + 1 + 1, 0, none⟩) 1 1) (v.rs ++ [r])
          simp at hf3
          simp [hf3, hlim2]
          rw [rule9 h9 (v := fedV (fedV v z v.rv v.rs) (fedV v z v.rv v.rs).leaves (.slice (some ⟨w.next + 2 + 1 + 1 + 1, 0, none⟩) 1 1) (v.rs ++ [r])) (rac_block (e := 35) (ro := false) (v.rs ++ [r]) (by rw [hfl, he]; simp; omega) (by simp) (by rw [he]; rfl))]
          simp [s5, hfE, (hfm _).2]
          rw [ruleW hW (by
            refine (?_ : laidH _) _ _
            repeat (refine laidH_put ?_ (by omega))
            exact hlb)]
          simp [tupV]
        have hpos : 0 < v.rs.length := List.length_pos_iff.2 he
        rw [app_new (m := v.rs.length) (n := 0) (c := []) (new := v.rs.flatMap racC) hlA (src_rac (by
            refine racAt_put (N := w.next) ?_ (by omega) (by show w.next ≤ w.next + 2 + 1 + 1; omega)
            repeat (refine racAt_put (N := w.next) (N' := w.next) ?_ (by omega) (Nat.le_refl _))
            exact hv) fun h => absurd h he).2 (racs_len _) (racs_singles _) hpos (by omega) (by simp) rfl (by exact hlim3)]
        have ne5 : ¬ w.next + 1 = w.next + 2 + 1 + 1 := by omega
        simp [s3, r12y, w5, ne2, ne5, hlim4]
        rw [app_new (m := 1) (n := v.rs.length) (c := v.rs.flatMap racC) (new := [.int .i64 5, .int .i64 (1 + wy)]) rfl (src_one (e := 35) (ro := false) (by simp) rfl) rfl (by simp) (by decide) (by omega) (by simp) (racs_len _) (by exact hlim4), ← hfl]
        have hf3 := fed3 (fedV v z v.rv v.rs) (.slice (some ⟨w.next + 2 + 1 + 1 + 1 + 1, 0, none⟩) (v.rs.length + 1) (v.rs.length + 1)) (v.rs ++ [r])
        simp at hf3
        simp [hf3, hlim2]
        rw [rule9 h9 (v := fedV (fedV v z v.rv v.rs) (fedV v z v.rv v.rs).leaves (.slice (some ⟨w.next + 2 + 1 + 1 + 1 + 1, 0, none⟩) (v.rs.length + 1) (v.rs.length + 1)) (v.rs ++ [r])) (rac_block (e := 35) (ro := false) (v.rs ++ [r]) (by simp; omega) (by simp) (by simp))]
        simp [s5, hfE, (hfm _).2]
        rw [ruleW hW (by
          refine (?_ : laidH _) _ _
          repeat (refine laidH_put ?_ (by omega))
          exact hlb)]
        simp [tupV]
end Go.Proofs.YtcolofoifhbdpaaGreatDoor.walk
