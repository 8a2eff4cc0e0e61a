/- Part of a proof by a machine of ones own: see the text with the theorem. -/
import Derived.Test.YthfidomphkednaaAWa
import Derived.Test.YthfidomphkednaaShF
namespace Go.Proofs.Ythfidomphkednaa.walk
open Go Go.Sh
set_option maxRecDepth 100000
set_option linter.unusedSimpArgs false
set_option linter.unusedVariables false
/-! the debts of a party, one by one -/
def Steps74 (ov : Ov) (m L : Nat) {σ : Type} (f : σ → Dt → σ) (G : σ → Prop) (J : σ → AW → Prop) (M : Nat → Prop) (ds : List Dt) (p : Int) : Prop :=
  ∀ st d w, d ∈ ds → d.f = p → G st → G (f st d) → J st w → ∃ w', yieldA (run Try.prog ov m) L [.agg ⟨dtC d⟩] w = .val true w' ∧ J (f st d) w' ∧ (∀ x, x < w.next → ¬ M x → w'.heap.get x = w.heap.get x) ∧ w.next ≤ w'.next ∧ w'.lim = w.lim
def ofP (ds : List Dt) (p : Int) : List Dt := ds.filter fun d => decide (d.f = p)
def foP {σ : Type} (f : σ → Dt → σ) (st : σ) (ds : List Dt) (p : Int) (i : Nat) : σ := (ofP (ds.take i) p).foldl f st
theorem foP_step {σ : Type} {f : σ → Dt → σ} {st : σ} {ds : List Dt} {p : Int} {i : Nat} {d : Dt} (h : ds[i]? = some d) : foP f st ds p (i + 1) = if d.f = p then f (foP f st ds p i) d else foP f st ds p i := by
  unfold foP ofP
  rw [List.take_add_one, h, List.filter_append]
  by_cases e : d.f = p
  · simp [e]
  · simp [e]
structure In74 {σ : Type} (J : σ → AW → Prop) (M : Nat → Prop) (w0 : AW) (st : σ) (w : AW) : Prop where
  j : J st w
  keep : ∀ x, x < w0.next → ¬ M x → w.heap.get x = w0.heap.get x
  next : w0.next ≤ w.next
  lim : w.lim = w0.lim
theorem RowsV.keep {α : Type} {f : α → List Value} {we w : AW} {v : Value} {l : List α} (h : RowsV f we v l) (k : ∀ x, x < we.next → w.heap.get x = we.heap.get x) (hn : we.next ≤ w.next) : RowsV f w v l := h.old k hn
theorem loop74 {ov : Ov} (m : Nat) {σ : Type} (f : σ → Dt → σ) (G : σ → Prop) (J : σ → AW → Prop) (M : Nat → Prop) (L : Nat) (dv : Value) (ds : List Dt) (h16 : ds.length ≤ 16) (p : Int) (hst : Steps74 ov (m + 1) L f G J M ds p) (we w0 : AW) (hlim : w0.lim ≤ w0.next) (hD : RowsV dtC we dv ds) (hwe : we.next ≤ w0.next) (hMe : ∀ x, M x → we.next ≤ x) (hold : ∀ x, x < we.next → w0.heap.get x = we.heap.get x)
    (hJ : ∀ st w w', J st w → (∀ x, x < w.next → w'.heap.get x = w.heap.get x) → w.next ≤ w'.next → w'.lim = w.lim → J st w')
    (n2 : Nat) (k2 : n2 < w0.next) (m2 : ¬ M n2) (g2 : w0.heap.get n2 = some (.cells [.int .i64 p] 3 false)) (st : σ) (hG : ∀ i, i ≤ ds.length → G (foP f st ds p i))
    (Q : Ex → Tm → AW → Prop) (t : Tm) (w : AW) (hw : In74 J M w0 st w)
    (t0 : tget t 0 = .func (.yield L) ⟨[]⟩ ⟨[]⟩) (t2 : tget t 2 = .pointer (some ⟨n2, 0, none⟩)) (t8 : tget t 8 = dv) (t9 : tget t 9 = .int .i64 (ds.length : Nat)) (t10 : tget t 10 = .int .i64 0)
    (hQ : ∀ t w, In74 J M w0 (foP f st ds p ds.length) w → Q (.exit 0) t w) : wp (exY Try.prog (run Try.prog ov (m + 1)) (.loop mc74_l0) t w) Q := by
  refine wp_roundsY (fun i t w => In74 J M w0 (foP f st ds p i) w ∧ tget t 0 = .func (.yield L) ⟨[]⟩ ⟨[]⟩ ∧ tget t 2 = .pointer (some ⟨n2, 0, none⟩) ∧ tget t 8 = dv ∧ tget t 9 = .int .i64 (ds.length : Nat) ∧ tget t 10 = .int .i64 (i : Nat) ∧ i ≤ ds.length) 20 (by decide) ⟨hw, t0, t2, t8, t9, by simpa using t10, Nat.zero_le _⟩ ?_
  clear t0 t2 t8 t9 t10 hw
  rintro i t w ⟨hw, t0, t2, t8, t9, t10, hi⟩
  by_cases hlt : i < ds.length
  · obtain ⟨d, hd⟩ : ∃ d, ds[i]? = some d := ⟨_, List.getElem?_eq_getElem hlt⟩
    have hnx := hw.next
    have hlm := hw.lim
    have hDw : RowsV dtC w dv ds := RowsV.keep hD (fun x hx => by rw [hw.keep x (by omega) (fun hm => by have := hMe x hm; omega), hold x hx]) (by omega)
    obtain ⟨b, off, sq, c, rfl, hr⟩ := hDw.at_ i hlt
    have hld := hr.rd dtC_length hd
    have hia := fun w => ia23 w ⟨b, off, sq⟩ ds.length c .i64 i hlt
    have hb2 := g2
    rw [← hw.keep n2 k2 m2] at hb2
    have q2 : ¬ n2 = w.next := by omega
    have q3 : w.lim ≤ w.next := by omega
    have hw1 : IntKind.wrap .i64 ((i : Int) + 1) = (i : Int) + 1 := wrap64_in (by omega) (by omega)
    have hstep := foP_step (f := f) (st := st) (p := p) hd
    obtain ⟨w1, ew1⟩ : ∃ w1 : AW, w1 = ⟨(w.heap.put w.next (some (.cells [.int .i64 0, .int .i64 0, .int .i64 0] 46 false))).put w.next (some (.cells (dtC d) 46 false)), w.next + 1, w.lim⟩ := ⟨_, rfl⟩
    have s1 : ∀ x, x < w.next → w1.heap.get x = w.heap.get x := fun x hx => by rw [ew1]; simp [show ¬ x = w.next by omega]
    have n1 : w1.next = w.next + 1 := by rw [ew1]
    have l1 : w1.lim = w.lim := by rw [ew1]
    have hJ1 := hJ _ w w1 hw.j s1 (by omega) l1
    by_cases hp : d.f = p
    · rw [if_pos hp] at hstep
      obtain ⟨w', hy, hJ', hk, hn, hl⟩ := hst _ d w1 (List.mem_of_getElem? hd) hp (hG i hi) (by rw [← hstep]; exact hG (i + 1) hlt) hJ1
      rw [← hstep] at hJ'
      rw [ew1] at hy
      obtain ⟨df, dt, dc⟩ := d
      simp only at hp
      subst hp
      simp only [dtC] at hld hy
      simp [mc74_l0, t0, t2, t8, t9, t10, hlt, hia, hld, hb2, q2, q3, hy, hw1]
      exact ⟨by omega, ⟨hJ', fun x hx h => by rw [hk x (by omega) h, s1 x (by omega)]; exact hw.keep x hx h, by omega, by omega⟩, hlt⟩
    · rw [if_neg hp] at hstep
      rw [← hstep] at hJ1
      rw [ew1] at hJ1 s1
      obtain ⟨df, dt, dc⟩ := d
      simp only at hp
      simp only [dtC] at hld hJ1 s1
      simp [mc74_l0, t0, t2, t8, t9, t10, hlt, hia, hld, hb2, q2, q3, hp, hw1]
      exact ⟨by omega, ⟨hJ1, fun x hx h => by rw [s1 x (by omega)]; exact hw.keep x hx h, by show w0.next ≤ w.next + 1; omega, hlm⟩, hlt⟩
  · have hi' : i = ds.length := by omega
    subst hi'
    simp [mc74_l0, t9, t10]
    exact hQ _ _ hw
theorem call74 {ov : Ov} (m : Nat) (ho : ∀ args w, ov 74 args w = none) {σ : Type} (f : σ → Dt → σ) (G : σ → Prop) (J : σ → AW → Prop) (M : Nat → Prop) (L : Nat) (pv dv : Value) (o : Int → Int) (ds : List Dt) (h16 : ds.length ≤ 16) (p : Int) (hst : Steps74 ov (m + 1) L f G J M ds p) (we w0 : AW) (hlim : w0.lim ≤ w0.next) (hD : RowsV dtC we dv ds) (hwe : we.next ≤ w0.next) (hMe : ∀ x, M x → we.next ≤ x) (hold : ∀ x, x < we.next → w0.heap.get x = we.heap.get x)
    (hJ : ∀ st w w', J st w → (∀ x, x < w.next → w'.heap.get x = w.heap.get x) → w.next ≤ w'.next → w'.lim = w.lim → J st w')
    (n1 n2 : Nat) (g1 : w0.heap.get n1 = some (.cells (l63 pv dv o) 63 false)) (k2 : n2 < w0.next) (m2 : ¬ M n2) (g2 : w0.heap.get n2 = some (.cells [.int .i64 p] 3 false)) (st : σ) (hG : ∀ i, i ≤ ds.length → G (foP f st ds p i)) (hst0 : J st w0) :
    ∃ v w', (run Try.prog ov (m + 2)).call 74 [.func (.yield L) ⟨[]⟩ ⟨[]⟩, .pointer (some ⟨n1, 0, none⟩), .pointer (some ⟨n2, 0, none⟩)] w0 .none = .ok (.ret v) w' .none ∧ J (foP f st ds p ds.length) w' ∧ (∀ x, x < w0.next → ¬ M x → w'.heap.get x = w0.heap.get x) ∧ w0.next ≤ w'.next ∧ w'.lim = w0.lim := by
  refine call_wpY text74 (by simp) (ho _ _) ?_
  have hl23 := fun w2 => len23V (w' := w2) hD
  simp only [l63] at g1
  simp [mc74, g1, hl23]
  refine wp_blockX (loop74 m f G J M L dv ds h16 p hst we w0 hlim hD hwe hMe hold hJ n2 k2 m2 g2 st hG _ _ _ ⟨hst0, fun x _ _ => rfl, Nat.le_refl _, rfl⟩ ?_ ?_ ?_ ?_ ?_ ?_)
  case _ => simp
  case _ => simp
  case _ => simp
  case _ => simp
  case _ => simp
  case _ => intro t w h; simpa [tupV] using ⟨h.j, h.keep, h.next, h.lim⟩
end Go.Proofs.Ythfidomphkednaa.walk

namespace Go.Proofs.Ythfidomphkednaa.walk
open Go Go.Sh
set_option maxRecDepth 100000
set_option linter.unusedSimpArgs false
set_option linter.unusedVariables false
/-! what each owes -/
theorem list26 : isList Try.prog 26 = true := by kernel_rfl
theorem elem26 : elemA Try.prog 26 = some 3 := by kernel_rfl
theorem small3 : smallT Try.prog 3 = true := by kernel_rfl
@[simp] theorem setPar_cons (p : Tmp) (ps : List Tmp) (a : Value) (l : List Value) (t : Tm) : setParams (p :: ps) (a :: l) t = setParams ps l (tset t p a) := rfl
@[simp] theorem setPar_nil (t : Tm) : setParams [] [] t = t := rfl
@[simp] theorem cf74 (w : AW) (l : List Value) : callFn Try.prog w 74 l = .enter 74 l w := callFn_of (by kernel_rfl) l
theorem call61 {ov : Ov} (m : Nat) (ho : ∀ args w, ov 61 args w = none) (pv dv : Value) (o : Int → Int) (i : Int) (w : AW) :
    ∃ v w', (run Try.prog ov (m + 1)).call 61 [.agg ⟨l63 pv dv o⟩, .int .i64 i] w .none = .ok (.ret v) w' .none ∧ v = .func (.func 74) ⟨[]⟩ ⟨[.pointer (some ⟨w.next, 0, none⟩), .pointer (some ⟨w.next + 1, 0, none⟩)]⟩ ∧ w' = ⟨(w.heap.put w.next (some (.cells (l63 pv dv o) 63 false))).put (w.next + 1) (some (.cells [.int .i64 i] 3 false)), w.next + 2, w.lim⟩ := by
  refine call_wp text61 (by simp) (ho _ _) ?_
  simp [mc61, tupV, cellsOf_agg, notJunk]
structure J40 (c5 L : Nat) (lp : ALoop) (st : List Int) (w : AW) : Prop where
  acc : ∃ sl B, w.heap.get c5 = some (.cells [sl] 26 false) ∧ AccQ intC 3 L w sl st B
  lo : w.heap.get L = some (.loop lp)
  ord : w.lim ≤ c5 ∧ c5 < L ∧ L < w.next
theorem J40.stay {c5 L : Nat} {lp : ALoop} (st : List Int) (w w' : AW) (h : J40 c5 L lp st w) (k : ∀ x, x < w.next → w'.heap.get x = w.heap.get x) (hn : w.next ≤ w'.next) (hl : w'.lim = w.lim) : J40 c5 L lp st w' := by
  obtain ⟨⟨sl, B, h1, h2⟩, h3, h4, h5, h6⟩ := h
  exact ⟨⟨sl, B, by rw [k _ (by omega)]; exact h1, h2.keep (fun _ _ hB => k B hB) hn⟩, by rw [k _ h6]; exact h3, by omega, h5, by omega⟩
theorem steps40 {ov : Ov} (m c5 L : Nat) (tm : Tm) (t5 : tget tm 5 = .pointer (some ⟨c5, 0, none⟩)) (ds : List Dt) (p : Int) :
    Steps74 ov (m + 1) L (fun st d => st ++ [d.c]) (fun st => st.length ≤ 1000) (J40 c5 L ⟨31, tm, [18], (rfOf Try.prog 40 0).1, (rfOf Try.prog 40 0).2, none, .ready⟩) (fun x => x = c5 ∨ L ≤ x) ds p := by
  intro st d w hd hp hG hG' hJ
  obtain ⟨⟨sl, B, h1, hacc⟩, lo, o1, o2, o3⟩ := hJ
  obtain ⟨wB, ewB⟩ : ∃ wB : AW, wB = ⟨((w.heap.put w.next (some (.cells [.int .i64 0, .int .i64 0, .int .i64 0] 46 false))).put w.next (some (.cells (dtC d) 46 false))).put L (some (.loop ⟨31, tm, [18], (rfOf Try.prog 40 0).1, (rfOf Try.prog 40 0).2, none, .busy⟩)), w.next + 1, w.lim⟩ := ⟨_, rfl⟩
  have nB : wB.next = w.next + 1 := by rw [ewB]
  have lB : wB.lim = w.lim := by rw [ewB]
  have kB : ∀ x, x < w.next → x ≠ L → wB.heap.get x = w.heap.get x := fun x h1 h2 => by rw [ewB]; simp [show ¬ x = w.next by omega, h2]
  have gL : wB.heap.get L = some (.loop ⟨31, tm, [18], (rfOf Try.prog 40 0).1, (rfOf Try.prog 40 0).2, none, .busy⟩) := by rw [ewB]; simp
  have haccB : AccQ intC 3 L wB sl st B := hacc.keep (fun _ hl hB => kB B hB (by omega)) (by omega)
  obtain ⟨v', w4, ha, ⟨B', hB', hacc'⟩, hkp, hn4, hl4⟩ := AccQ.push (P := Try.prog) (st := 26) (sz := 1) list26 elem26 size3 small3 intC_length (fun _ => by simp [intC]) (by decide) haccB (by omega) (by omega) (by omega) d.c
  have e1 : ¬ c5 = w.next := by omega
  have e2 : ¬ c5 = L := by omega
  have e3 : ¬ w.next = L := by omega
  have e4 : ¬ L = w.next := by omega
  have e5 : ¬ L = c5 := by omega
  have hlw : w.lim ≤ w.next := by omega
  have hlL : w.lim ≤ L := by omega
  have g5 : w4.heap.get c5 = some (.cells [sl] 26 false) := by
    rw [hkp c5 (by omega) (fun hne => by have := haccB.lt hne; omega), kB c5 (by omega) e2]; exact h1
  have gL4 : w4.heap.get L = some (.loop ⟨31, tm, [18], (rfOf Try.prog 40 0).1, (rfOf Try.prog 40 0).2, none, .busy⟩) := by
    rw [hkp L (by omega) (fun hne => by have := haccB.lt hne; omega)]; exact gL
  have l4 : w4.lim ≤ c5 := by omega
  have l4L : w4.lim ≤ L := by omega
  have hsv : (cellsOf v').length = 1 ∧ cellsOf v' = [v'] ∧ singles [v'] = true := by
    obtain ⟨a, c, rfl⟩ := hacc'.rows.len
    exact ⟨rfl, rfl, by simp⟩
  obtain ⟨s1, s2, s3⟩ := hsv
  rw [ewB] at ha
  obtain ⟨df, dt, dc⟩ := d
  simp only [dtC, intC] at ha
  obtain ⟨j, w', hy, hQ⟩ := yield_wp (P := Try.prog) (ov := ov) (m := m) (l := L) (args := [.agg ⟨dtC ⟨df, dt, dc⟩⟩]) (w := w) (Q := fun j w' => j = none ∧ w' = ⟨(w4.heap.put c5 (some (.cells [v'] 26 false))).put L (some (.loop ⟨31, tm, [18], (rfOf Try.prog 40 0).1, (rfOf Try.prog 40 0).2, none, .ready⟩)), w4.next, w4.lim⟩) lo rfl rfl ta40_0 tb40_0 (by
    simp [mc40_a0, mc40_b0, dtC, lo, hlw, hlL, jumpOf, t5, e1, e2, e3, e4, e5, h1, ha, s1, s2, s3, g5, gL4, l4, l4L])
  obtain ⟨rfl, rfl⟩ := hQ
  refine ⟨_, hy, ⟨⟨v', B', by simp [e2], hacc'.keep (fun _ h2 h3 => by simp [show ¬ B' = c5 by omega, show ¬ B' = L by omega]) (Nat.le_refl _)⟩, by simp, l4, o2, by show L < w4.next; omega⟩, fun x hx hM => ?_, by show w.next ≤ w4.next; omega, by show w4.lim = w.lim; omega⟩
  have q1 : ¬ x = c5 := fun h => hM (.inl h)
  have q2 : ¬ L ≤ x := fun h => hM (.inr h)
  simp [q1, show ¬ x = L by omega]
  rw [hkp x (by omega) (fun hne => by have := haccB.lt hne; omega), kB x hx (by omega)]
end Go.Proofs.Ythfidomphkednaa.walk

namespace Go.Proofs.Ythfidomphkednaa.walk
open Go Go.Sh
set_option maxRecDepth 100000
set_option linter.unusedSimpArgs false
set_option linter.unusedVariables false
theorem st_l63 {w : AW} {b : Nat} {pv dv : Value} {o : Int → Int} {v : Int} {k : Nat} (hk : k < 8) (hl : w.lim ≤ b) : wrO w b (2 + k) [.int .i64 v] (some (.cells (pv :: dv :: arC o) 63 false)) = some ⟨w.heap.put b (some (.cells (pv :: dv :: arC (updF o (k : Int) v)) 63 false)), w.next, w.lim⟩ := by
  rw [wrO_cells (by simp) hl (by simp; omega), ← arC_set o v hk]
  rw [show 2 + k = k + 1 + 1 by omega]
  rfl
theorem fold_c : ∀ (l : List Dt) (st : List Int), l.foldl (fun st d => st ++ [d.c]) st = st ++ l.map Dt.c
  | [], st => by simp
  | d :: l, st => by rw [List.foldl_cons, fold_c l, List.map_cons, List.append_assoc]; rfl
theorem foP_c (ds : List Dt) (p : Int) (i : Nat) : foP (fun st d => st ++ [d.c]) [] ds p i = (ofP (ds.take i) p).map Dt.c := by
  unfold foP; rw [fold_c]; rfl
theorem ofP_len (ds : List Dt) (p : Int) : (ofP ds p).length ≤ ds.length := List.length_filter_le _ _
theorem totL_ofP (p : Int) : ∀ ds : List Dt, totL ((ofP ds p).map Dt.c) = owD ds p
  | [] => rfl
  | d :: ds => by
    have ih := totL_ofP p ds
    unfold ofP owD at *
    by_cases e : d.f = p
    · simp only [List.filter_cons, e, decide_true, if_true, List.map_cons, totL, sI]; omega
    · simp only [List.filter_cons, decide_eq_false e, sI, if_neg e]
      simp only [Bool.false_eq_true, if_false]
      omega
theorem totW_ofP {ps : List Pt} {ds : List Dt} (hk : LK ps ds) (p : Int) : totW ((ofP ds p).map Dt.c) = owD ds p := by
  have h16 := hk.d16
  rw [totW_eq (fun z hz => ?_) (by rw [List.length_map]; have := ofP_len ds p; omega), totL_ofP]
  obtain ⟨d, hd, rfl⟩ := List.mem_map.1 hz
  have := (hk.debt d (List.mem_filter.1 hd).1).2.2.2
  omega
def owK (ds : List Dt) (i : Nat) : Int → Int := fun p => if p < (i : Int) then owD ds p else 0
theorem owK_zero {ps : List Pt} {ds : List Dt} (hk : LK ps ds) : owK ds 0 = fun _ => 0 := by
  funext p
  unfold owK
  split
  · exact hk.ow_out (.inl (by omega))
  · rfl
theorem owK_step (ds : List Dt) (i : Nat) : updF (owK ds i) (i : Int) (owD ds (i : Int)) = owK ds (i + 1) := by
  funext p
  unfold updF owK
  by_cases h1 : p = (i : Int)
  · subst h1
    rw [if_pos rfl, if_pos (by omega)]
  · rw [if_neg h1]
    by_cases h2 : p < (i : Int)
    · rw [if_pos h2, if_pos (by omega)]
    · rw [if_neg h2, if_neg (by omega)]
theorem owK_all {ps : List Pt} {ds : List Dt} (hk : LK ps ds) : owK ds ps.length = owD ds := by
  funext p
  unfold owK
  split
  · rfl
  · rw [hk.ow_out (.inr (by omega))]
theorem loop40 {ov : Ov} (m : Nat) (ho61 : ∀ args w, ov 61 args w = none) (ho74 : ∀ args w, ov 74 args w = none) (h62 : HasP ov 62 S62.F) (pv dv : Value) (ps : List Pt) (ds : List Dt) (w w1 : AW) (hL : LedV w pv dv ps ds) (hk : LK ps ds) (hl : w.lim ≤ w.next) (u1 : Up w w1) (B3 : Nat) (hB : w.next ≤ B3) (hB1 : B3 < w1.next) (v2 : Value)
    (Q : Ex → Tm → AW → Prop) (t : Tm) (g3 : w1.heap.get B3 = some (.cells (l63 pv dv (owK ds 0)) 63 false))
    (t2 : tget t 2 = v2) (t3 : tget t 3 = .pointer (some ⟨B3, 0, none⟩)) (t11 : tget t 11 = .int .i64 (ps.length : Nat)) (t12 : tget t 12 = .int .i64 0)
    (hQ : ∀ t w', Kp B3 w1 w' → w'.heap.get B3 = some (.cells (l63 pv dv (owD ds)) 63 false) → tget t 2 = v2 → tget t 3 = .pointer (some ⟨B3, 0, none⟩) → Q (.exit 0) t w') : wp (exY Try.prog (run Try.prog ov (m + 2)) (.loop mc40_l0) t w1) Q := by
  have h8 := hk.n8
  have h16 := hk.d16
  refine wp_roundsY (fun i t w' => Kp B3 w1 w' ∧ w'.heap.get B3 = some (.cells (l63 pv dv (owK ds i)) 63 false) ∧ tget t 2 = v2 ∧ tget t 3 = .pointer (some ⟨B3, 0, none⟩) ∧ tget t 11 = .int .i64 (ps.length : Nat) ∧ tget t 12 = .int .i64 (i : Nat) ∧ i ≤ ps.length) 20 (by decide) ⟨Kp.refl _ _, g3, t2, t3, t11, by simpa using t12, Nat.zero_le _⟩ ?_
  clear t2 t3 t11 t12 g3
  rintro i t w' ⟨hkp, g3, t2, t3, t11, t12, hi⟩
  have hw1' : IntKind.wrap .i64 ((i : Int) + 1) = (i : Int) + 1 := wrap64_in (by omega) (by omega)
  have hlm := hkp.lim
  have hnx := hkp.next
  have hul := u1.lim
  have hun := u1.next
  by_cases hlt : i < ps.length
  · have e1 : ¬ B3 = w'.next := by omega
    have e2 : ¬ B3 = w'.next + 1 := by omega
    have e3 : ¬ B3 = w'.next + 2 := by omega
    obtain ⟨_, _, c61, rfl, rfl⟩ := call61 (ov := ov) (m + 1) ho61 pv dv (owK ds i) i ⟨w'.heap.put w'.next (some (.cells [.slice none 0 0] 26 false)), w'.next + 1, w'.lim⟩
    simp only [l63, Nat.add_assoc, Nat.reduceAdd] at c61 g3
    simp [mc40_l0, t2, t3, t11, t12, hlt, g3, e1, c61]
    obtain ⟨H, hH⟩ : ∃ H, H = ((w'.heap.put w'.next (some (.cells [.slice none 0 0] 26 false))).put (w'.next + 1) (some (.cells (pv :: dv :: arC (owK ds i)) 63 false))).put (w'.next + 2) (some (.cells [.int .i64 (i : Nat)] 3 false)) := ⟨_, rfl⟩
    rw [← hH]
    have hH' : ∀ x, x < w'.next → H.get x = w'.heap.get x := fun x h1 => by
      rw [hH]; simp [show ¬ x = w'.next by omega, show ¬ x = w'.next + 1 by omega, show ¬ x = w'.next + 2 by omega]
    have g5 : H.get w'.next = some (.cells [.slice none 0 0] 26 false) := by rw [hH]; simp
    have gy : H.get (w'.next + 1) = some (.cells (l63 pv dv (owK ds i)) 63 false) := by rw [hH]; simp [l63]
    have gi : H.get (w'.next + 2) = some (.cells [.int .i64 (i : Nat)] 3 false) := by rw [hH]; simp
    refine wp_seqX (wp_blockX (wp_seqX (wp_blockX (rf_wp (g := 74) (gargs := [.func (.yield (w'.next + 3)) ⟨[]⟩ ⟨[]⟩, .pointer (some ⟨w'.next + 1, 0, none⟩), .pointer (some ⟨w'.next + 2, 0, none⟩)]) ?_ ?_))))
    · simp [callV_func]
    · generalize hTT : tset _ 17 _ = TT
      have u2 : tget TT 2 = v2 := by rw [← hTT]; simp [t2]
      have u3 : tget TT 3 = .pointer (some ⟨B3, 0, none⟩) := by rw [← hTT]; simp [t3]
      have u4 : tget TT 4 = .int .i64 (i : Nat) := by rw [← hTT]; simp
      have u5 : tget TT 5 = .pointer (some ⟨w'.next, 0, none⟩) := by rw [← hTT]; simp
      have u11 : tget TT 11 = .int .i64 (ps.length : Nat) := by rw [← hTT]; simp [t11]
      have u12 : tget TT 12 = .int .i64 (i : Nat) := by rw [← hTT]; simp [t12]
      clear hTT
      have hst := steps40 (ov := ov) m w'.next (w'.next + 3) TT u5 ds (i : Int)
      obtain ⟨w0, ew0⟩ : ∃ w0 : AW, w0 = ⟨H.put (w'.next + 3) (some (.loop ⟨31, TT, [18], (rfOf Try.prog 40 0).1, (rfOf Try.prog 40 0).2, none, .ready⟩)), w'.next + 3 + 1, w'.lim⟩ := ⟨_, rfl⟩
      have n0 : w0.next = w'.next + 3 + 1 := by rw [ew0]
      have l0 : w0.lim = w'.lim := by rw [ew0]
      have hgo : ∀ x, x < w'.next + 3 → w0.heap.get x = H.get x := fun x hx => by rw [ew0]; show (H.put _ _).get x = _; rw [get_put, if_neg (by omega)]
      have hJ0 : J40 w'.next (w'.next + 3) ⟨31, TT, [18], (rfOf Try.prog 40 0).1, (rfOf Try.prog 40 0).2, none, .ready⟩ [] w0 :=
        ⟨⟨.slice none 0 0, 0, by rw [hgo _ (by omega)]; exact g5, .inl ⟨rfl, rfl⟩⟩, by rw [ew0]; show (H.put _ _).get _ = _; rw [get_put, if_pos rfl], by omega, by omega, by omega⟩
      obtain ⟨v, w2, hc, hJ2, hk2, hn2, hl2⟩ := call74 (ov := ov) m ho74 (fun st d => st ++ [d.c]) (fun st => st.length ≤ 1000) (J40 w'.next (w'.next + 3) ⟨31, TT, [18], (rfOf Try.prog 40 0).1, (rfOf Try.prog 40 0).2, none, .ready⟩) (fun x => x = w'.next ∨ w'.next + 3 ≤ x) (w'.next + 3) pv dv (owK ds i) ds h16 (i : Int) hst w w0 (by omega) hL.d (by omega) (fun x hx => by omega) (fun x hx => by rw [hgo x (by omega), hH' x (by omega)]; exact (hkp.up u1 hB).at hx) (fun st w w' h k hn hl => J40.stay st w w' h k hn hl) (w'.next + 1) (w'.next + 2) (by rw [hgo _ (by omega)]; exact gy) (by omega) (by omega) (by rw [hgo _ (by omega)]; exact gi) [] (fun j hj => by
          rw [foP_c, List.length_map]
          have := ofP_len (ds.take j) (i : Int)
          rw [List.length_take] at this; omega) hJ0
      rw [ew0] at hc
      obtain ⟨⟨sl, B, h1, hacc⟩, lo, o1, o2, o3⟩ := hJ2
      refine ⟨v, w2, hc, _, lo, rfl, by show w2.lim ≤ w'.next + 3; omega, ?_⟩
      rw [foP_c, List.take_length] at hacc
      have hrows : RowsV intC ⟨w2.heap.put (w'.next + 3) (some (.loop ⟨31, TT, [18], (rfOf Try.prog 40 0).1, (rfOf Try.prog 40 0).2, none, .exhausted⟩)), w2.next, w2.lim⟩ sl ((ofP ds (i : Int)).map Dt.c) :=
        (hacc.keep (w' := ⟨w2.heap.put (w'.next + 3) (some (.loop ⟨31, TT, [18], (rfOf Try.prog 40 0).1, (rfOf Try.prog 40 0).2, none, .exhausted⟩)), w2.next, w2.lim⟩) (fun _ h2 h3 => by simp [show ¬ B = w'.next + 3 by omega]) (Nat.le_refl _)).rows
      have r62 := S62.call (P := Try.prog) h62 (m := m + 1) ⟨sl, _, rfl, hrows, by rw [List.length_map]; have := ofP_len ds (i : Int); omega, rfl⟩
      rw [totW_ofP hk] at r62
      have g3' : w2.heap.get B3 = some (.cells (pv :: dv :: arC (owK ds i)) 63 false) := by
        rw [hk2 B3 (by omega) (by omega), hgo B3 (by omega), hH' B3 (by omega)]; exact g3
      have q1 : ¬ w'.next = w'.next + 3 := by omega
      have q2 : ¬ B3 = w'.next + 3 := by omega
      have q3 : w2.lim ≤ B3 := by omega
      have q4 : i < 8 := by omega
      have hia6 := fun w a => ia61 w a .i64 q4
      have hst := owK_step ds i
      have hs' := st_l63 (w := ⟨w2.heap.put (w'.next + 3) (some (.loop ⟨31, TT, [18], (rfOf Try.prog 40 0).1, (rfOf Try.prog 40 0).2, none, .exhausted⟩)), w2.next, w2.lim⟩) (b := B3) (pv := pv) (dv := dv) (o := owK ds i) (v := owD ds (i : Int)) q4 q3
      rw [hst] at hs'
      simp [u2, u3, u4, u5, u11, u12, h1, q1, q2, g3', r62, hia6, hs', hw1', -wrO_cells]
      refine ⟨by omega, ?_, rfl, hlt⟩
      refine ⟨fun x h2 h3 => ?_, by show w1.next ≤ w2.next; omega, by show w2.lim = w1.lim; omega⟩
      show ((w2.heap.put _ _).put _ _).get x = _
      rw [get_put, if_neg h3, get_put, if_neg (by omega), hk2 x (by omega) (by omega), hgo x (by omega), hH' x (by omega)]
      exact hkp.old x h2 h3
  · have hi' : i = ps.length := by omega
    subst hi'
    rw [owK_all hk] at g3
    simp [mc40_l0, t2, t3, t11, t12]
    exact hQ _ _ hkp g3 (by simp [t2]) (by simp [t3])
end Go.Proofs.Ythfidomphkednaa.walk

namespace Go.Proofs.Ythfidomphkednaa.walk
open Go Go.Sh
set_option maxRecDepth 100000
set_option linter.unusedSimpArgs false
set_option linter.unusedVariables false
theorem l63_zero (pv dv : Value) : l63 pv dv (fun _ => 0) = [pv, dv, .int .i64 0, .int .i64 0, .int .i64 0, .int .i64 0, .int .i64 0, .int .i64 0, .int .i64 0, .int .i64 0] := rfl
theorem l63_drop (pv dv : Value) (o : Int → Int) : (pv :: dv :: arC o).drop 10 = [] := rfl
theorem l63_take (pv dv : Value) (o : Int → Int) : (pv :: dv :: arC o).take 10 = pv :: dv :: arC o := rfl
theorem call40 {ov : Ov} (m : Nat) (ho : ∀ args w, ov 40 args w = none) (ho61 : ∀ args w, ov 61 args w = none) (ho74 : ∀ args w, ov 74 args w = none) (h62 : HasP ov 62 S62.F) (pv dv : Value) (ps : List Pt) (ds : List Dt) (w : AW) (hl : w.lim ≤ w.next) (hL : LedV w pv dv ps ds) (hk : LK ps ds) :
    ∃ v w', (run Try.prog ov (m + 3)).call 40 [.agg ⟨[pv, dv]⟩] w .none = .ok (.ret v) w' .none ∧ v = .agg ⟨l63 pv dv (owD ds)⟩ ∧ Up w w' := by
  refine call_wpY text40 (by simp) (ho _ _) ?_
  have hl22 := fun w2 => len22V (w' := w2) hL.p
  have hsl : singles [pv] = true ∧ singles [dv] = true ∧ singles [pv, dv] = true := by
    obtain ⟨a, c, rfl⟩ := hL.p.len
    obtain ⟨a', c', rfl⟩ := hL.d.len
    simp
  have q1 : w.lim ≤ w.next + 1 := by omega
  have q2 : w.lim ≤ w.next + 1 + 1 := by omega
  obtain ⟨pa, pc, rfl⟩ := hL.p.len
  obtain ⟨da, dc, rfl⟩ := hL.d.len
  have hl22' := fun w2 => len22 w2 pa ps.length pc
  simp [mc40, cellsOf_agg, q1, q2]
  refine wp_seqX (wp_blockX (loop40 m ho61 ho74 h62 (.slice pa ps.length pc) (.slice da ds.length dc) ps ds w _ hL hk hl ?_ (w.next + 1 + 1) (by omega) ?_ (.pointer (some ⟨w.next + 1, 0, none⟩)) _ _ ?_ ?_ ?_ ?_ ?_ ?_))
  case _ => exact ((((Up.refl w).put (Nat.le_refl _) (Nat.le_refl _)).put (Nat.le_succ _) (Nat.le_refl _)).put (by omega) (Nat.le_refl _)).put (by omega) (by show w.next ≤ w.next + 1 + 1 + 1; omega)
  case _ => show w.next + 1 + 1 < w.next + 1 + 1 + 1; omega
  case _ => rw [owK_zero hk, l63_zero]; simp
  case _ => simp
  case _ => simp
  case _ => simp
  case _ => simp
  case _ =>
    intro t w' hkp g3 t2 t3
    have hlm := hkp.lim
    have hnx := hkp.next
    have hlm' : w'.lim = w.lim := hlm
    have g2 : ∃ cs, w'.heap.get (w.next + 1) = some (.cells cs 63 false) ∧ cs.length = 10 ∧ cs.drop 10 = [] := by
      rw [hkp.old (w.next + 1) (by show w.next + 1 < w.next + 1 + 1 + 1; omega) (by omega)]
      refine ⟨_, by simp; rfl, by simp, by simp⟩
    obtain ⟨cs, g2, c1, c2⟩ := g2
    have q5 : w'.lim ≤ w.next + 1 := by omega
    simp only [l63] at g3
    simp [t2, t3, g3, g2, c1, c2, q5, cellsOf_agg, l63, l63_take, l63_drop, tupV]
    refine ⟨fun x hx => ?_, by show w.next ≤ w'.next; have : w.next + 1 + 1 + 1 ≤ w'.next := hnx; omega, hlm'⟩
    show (w'.heap.put _ _).get x = _
    rw [get_put, if_neg (by omega), hkp.old x (by show x < w.next + 1 + 1 + 1; omega) (by omega)]
    simp [show ¬ x = w.next by omega, show ¬ x = w.next + 1 by omega, show ¬ x = w.next + 1 + 1 by omega]
/-- the first numbers of an array, as a list -/
def lsF (n : Nat) (x : Int → Int) : List Int := (List.range n).map fun (k : Nat) => x (k : Int)
@[simp] theorem lsF_len (n : Nat) (x : Int → Int) : (lsF n x).length = n := by simp [lsF]
theorem lsF_at (n : Nat) (x : Int → Int) {k : Nat} (h : k < n) : (lsF n x)[k]? = some (x (k : Int)) := by simp [lsF, h]
theorem arC_flat (x : Int → Int) : arC x = (lsF 8 x).flatMap intC := rfl
theorem sl61 (w : AW) (B k : Nat) (hk : k ≤ 8) : sliceA Try.prog w 61 (.pointer (some ⟨B, 0, none⟩)) none (some (.int .i64 (k : Int))) none = .val (.slice (some ⟨B, 0, some 1⟩) k 8) w := by
  show sliceA Try.prog w 61 (.pointer (some ⟨B, 0, none⟩)) none (some (.int .i64 (Int.ofNat k))) none = _
  have hb' : Nat.ble k 8 = true := Nat.ble_eq_true_of_le hk
  simp [sliceA, sliceB1, arr61, size3, sliceArr, boundA, hb']
@[simp] theorem eqn26s (B n c : Nat) (w : AW) : (binW Try.prog .eql 26 true).val (.slice (some ⟨B, 0, some 1⟩) n c) (.slice none 0 0) w = .val (.bool false) w := by kernel_rfl
@[simp] theorem isC_tmp (n : Nat) : isConst (.tmp n) = false := rfl
@[simp] theorem isC_const (v : Value) : isConst (.const v) = true := rfl
theorem lsF_take {n m : Nat} (h : n ≤ m) (x : Int → Int) : (lsF m x).take n = lsF n x := by
  unfold lsF
  rw [← List.map_take, List.take_range, Nat.min_eq_left h]
theorem call64 {ov : Ov} (m : Nat) (ho : ∀ args w, ov 64 args w = none) (x : Int → Int) (n c : Nat) (hn0 : 0 < n) (hn : n ≤ 8) (B0 : Nat) (we : AW) (hlim : we.lim ≤ we.next) (hB : we.heap.get B0 = some (.cells (arC x) 61 false)) (hb : B0 < we.next) :
    ∃ v w', (run Try.prog ov (m + 1)).call 64 [.slice (some ⟨B0, 0, some 1⟩) n c] we .none = .ok (.ret v) w' .none ∧ RowsV intC w' v (lsF n x) ∧ Up we w' ∧ notJunk v = some v := by
  refine call_wp text64 (by simp) (ho _ _) ?_
  have nj : ∀ (a : Addr) n c, notJunk (.slice (some a) n c) = some (.slice (some a) n c) := fun _ _ _ => rfl
  have hl : ((lsF n x).flatMap intC).length = n * 1 := by rw [flat_length intC_length, lsF_len]
  have hsrc : srcCells ⟨we.heap.put we.next (some (.cells [] 3 false)), we.next + 1, we.lim⟩ 1 (.slice (some ⟨B0, 0, some 1⟩) n c) = some ((lsF n x).flatMap intC) := by
    have e1 : Nat.beq (n * 1) 0 = false := by rw [← Bool.not_eq_true]; intro h; have := Nat.eq_of_beq_eq_true h; omega
    show (bif Nat.beq (n * 1) 0 then some [] else rd _ B0 0 (n * 1)) = _
    rw [e1, cond_false, rd_eq]
    show rdO ((we.heap.put we.next _).get B0) 0 (n * 1) = _
    have e2 : (arC x).take (n * 1) = (lsF n x).flatMap intC := by
      have e : (lsF 8 x).flatMap intC = ((lsF 8 x).take n).flatMap intC ++ ((lsF 8 x).drop n).flatMap intC := by rw [← List.flatMap_append, List.take_append_drop]
      rw [arC_flat, e, lsF_take hn, List.take_left' hl]
    rw [get_put, if_neg (by omega), hB, rdO_cells, if_pos (by rw [arC_len]; omega), List.drop_zero, e2]
  have hap := append_full (P := Try.prog) list26 elem26 size3 small3 (w := ⟨we.heap.put we.next (some (.cells [] 3 false)), we.next + 1, we.lim⟩) (B := we.next) (n := 0) (m := n) (c := []) (new := (lsF n x).flatMap intC) (x := .slice (some ⟨B0, 0, some 1⟩) n c) rfl hsrc hl (flat_singles (fun _ => rfl) _) hn0 (by omega) (by simp) (by simp) hlim
  simp only [Nat.zero_add, List.nil_append] at hap
  simp [mc64, hap, nj, tupV]
  refine ⟨.inr ⟨we.next + 1, 0, none, n, by rw [lsF_len], ⟨[], [], 3, false, by simp, rfl⟩, Nat.lt_succ_self _⟩, (((Up.refl we).add _).put (Nat.le_refl _) (Nat.le_refl _)).put (Nat.le_succ _) (Nat.le_succ _)⟩
theorem call43 {ov : Ov} (m : Nat) (ho : ∀ args w, ov 43 args w = none) (ho64 : ∀ args w, ov 64 args w = none) (pv dv : Value) (o x : Int → Int) (ps : List Pt) (ds : List Dt) (w : AW) (hl : w.lim ≤ w.next) (hL : LedV w pv dv ps ds) (h1 : 1 ≤ ps.length) (h8 : ps.length ≤ 8) :
    ∃ v w', (run Try.prog ov (m + 2)).call 43 [.agg ⟨l63 pv dv o⟩, .agg ⟨arC x⟩] w .none = .ok (.ret v) w' .none ∧ RowsV intC w' v (lsF ps.length x) ∧ Up w w' ∧ notJunk v = some v := by
  refine call_wp text43 (by simp) (ho _ _) ?_
  have hl22 := fun w2 => len22V (w' := w2) hL.p
  obtain ⟨w1, hw1⟩ : ∃ w1, w1 = (⟨(w.heap.put w.next (some (.cells (l63 pv dv o) 63 false))).put (w.next + 1) (some (.cells (arC x) 61 false)), w.next + 1 + 1, w.lim⟩ : AW) := ⟨_, rfl⟩
  have u1 : Up w w1 := by
    rw [hw1]
    exact ((Up.refl w).put (Nat.le_refl _) (Nat.le_refl _)).put (Nat.le_succ _) (by omega)
  have n1 : w1.next = w.next + 1 + 1 := by rw [hw1]
  have m1 : w1.lim = w.lim := by rw [hw1]
  have a3 : w1.heap.get (w.next + 1) = some (.cells (arC x) 61 false) := by rw [hw1]; simp
  obtain ⟨v, w', hc, hr, hu, hj⟩ := call64 (ov := ov) m ho64 x ps.length 8 (by omega) h8 (w.next + 1) w1 (by omega) a3 (by omega)
  have hsl := fun w => sl61 w (w.next + 1) ps.length h8
  have hs := fun (w2 : AW) => sl61 w2 (w.next + 1) ps.length h8
  rw [hw1] at hc
  simp only [l63] at hc
  simp [mc43, cellsOf_agg, l63, hl22, hs, hc, hj, tupV]
  exact ⟨hr, u1.trans hu⟩
/-! what is paid of each -/
def paL (ds : List Dt) (x : Int → Int) (i : Nat) : List Int := (ds.take i).map fun d => ptD (owD ds) x d
theorem paL_step {ds : List Dt} (x : Int → Int) {i : Nat} {d : Dt} (h : ds[i]? = some d) : paL ds x (i + 1) = paL ds x i ++ [ptD (owD ds) x d] := by
  unfold paL; rw [List.take_add_one, h, List.map_append]; rfl
def paF (ds : List Dt) (x : Int → Int) : List Int := ds.map fun d => ptD (owD ds) x d
theorem paL_all (ds : List Dt) (x : Int → Int) : paL ds x ds.length = paF ds x := by unfold paL paF; rw [List.take_length]
theorem call42 {ov : Ov} (m : Nat) (ho : ∀ args w, ov 42 args w = none) (h63 : HasP ov 63 S63.F) (pv dv : Value) (ps : List Pt) (ds : List Dt) (x : Int → Int) (w : AW) (hl : w.lim ≤ w.next) (hL : LedV w pv dv ps ds) (hk : LK ps ds) (hx : ∀ p, 0 ≤ x p ∧ x p ≤ owD ds p) :
    ∃ v w', (run Try.prog ov (m + 2)).call 42 [.agg ⟨l63 pv dv (owD ds)⟩, .agg ⟨arC x⟩] w .none = .ok (.ret v) w' .none ∧ RowsV intC w' v (paF ds x) ∧ Up w w' ∧ notJunk v = some v := by
  refine call_wp text42 (by simp) (ho _ _) ?_
  have hl23 := fun w2 => len23V (w' := w2) hL.d
  have h16 := hk.d16
  have h8 := hk.n8
  obtain ⟨w1, hw1⟩ : ∃ w1, w1 = (⟨(w.heap.put w.next (some (.cells (l63 pv dv (owD ds)) 63 false))).put (w.next + 1) (some (.cells (arC x) 61 false)), w.next + 1 + 1, w.lim⟩ : AW) := ⟨_, rfl⟩
  have u1 : Up w w1 := by
    rw [hw1]
    exact ((Up.refl w).put (Nat.le_refl _) (Nat.le_refl _)).put (Nat.le_succ _) (by omega)
  have n1 : w1.next = w.next + 1 + 1 := by rw [hw1]
  have m1 : w1.lim = w.lim := by rw [hw1]
  have a2 : w1.heap.get w.next = some (.cells (pv :: dv :: arC (owD ds)) 63 false) := by rw [hw1]; simp [l63]
  have a3 : w1.heap.get (w.next + 1) = some (.cells (arC x) 61 false) := by rw [hw1]; simp
  simp only [l63] at hw1
  simp [mc42, cellsOf_agg, l63, hl23]
  rw [← hw1]
  refine wp_seqX (wp_blockX (wp_rounds (fun i t w' => Up w1 w' ∧ (∃ B, AccQ intC 3 (w.next + 1) w' (tget t 5) (paL ds x i) B) ∧ tget t 2 = .pointer (some ⟨w.next, 0, none⟩) ∧ tget t 3 = .pointer (some ⟨w.next + 1, 0, none⟩) ∧ tget t 10 = dv ∧ tget t 11 = .int .i64 (ds.length : Nat) ∧ tget t 12 = .int .i64 (i : Nat) ∧ i ≤ ds.length) 20 (by decide) ⟨Up.refl _, ⟨0, .inl ⟨by simp [paL], by simp⟩⟩, by simp, by simp, by simp, by simp, by simp, Nat.zero_le _⟩ ?_))
  rintro i t w' ⟨hu, ⟨B, hacc⟩, t2, t3, t10, t11, t12, hi⟩
  have hw1' : IntKind.wrap .i64 ((i : Int) + 1) = (i : Int) + 1 := wrap64_in (by omega) (by omega)
  have hlm := hu.lim
  have hnx := hu.next
  by_cases hlt : i < ds.length
  · obtain ⟨d, hd⟩ : ∃ a, ds[i]? = some a := ⟨_, List.getElem?_eq_getElem hlt⟩
    have hdm := List.mem_of_getElem? hd
    obtain ⟨b, off, sq, c, rfl, hra⟩ := (hL.d.up (u1.trans hu)).at_ i hlt
    have hld := hra.rd dtC_length hd
    have hia := fun w => ia23 w ⟨b, off, sq⟩ ds.length c .i64 i hlt
    have hdb := hk.debt d hdm
    have hxf := hx d.f
    have hol := hk.ow_le d.f
    have hop := hk.ow_pos hdm
    have r63 := fun w => S63.call (P := Try.prog) h63 (m := m) (w := w) ⟨pv, .slice (some ⟨b, off, sq⟩) ds.length c, owD ds, x, d, rfl, ⟨hdb.1.1, by omega⟩, hdb.2.2.2, ⟨hxf.1, by omega⟩, by omega, rfl⟩
    have hst := paL_step x hd
    obtain ⟨V, hV⟩ : ∃ V, V = ptD (owD ds) x d := ⟨_, rfl⟩
    rw [← hV] at r63 hst
    obtain ⟨f, tt, cc⟩ := d
    simp only [dtC, l63] at hld r63
    have b2 := hu.at (b := w.next) (by omega)
    rw [a2] at b2
    have b3 := hu.at (b := w.next + 1) (by omega)
    rw [a3] at b3
    have q0 : ¬ w.next = w'.next := by omega
    have q01 : ¬ w.next + 1 = w'.next := by omega
    have q5 : w'.lim ≤ w'.next := by omega
    obtain ⟨w2, hw2⟩ : ∃ w2, w2 = (⟨(w'.heap.put w'.next (some (.cells [.int .i64 0, .int .i64 0, .int .i64 0] 46 false))).put w'.next (some (.cells [.int .i64 f, .int .i64 tt, .int .i64 cc] 46 false)), w'.next + 1, w'.lim⟩ : AW) := ⟨_, rfl⟩
    have u2 : Up w' w2 := hw2 ▸ ((Up.refl w').add _).put (Nat.le_refl _) (Nat.le_refl _)
    have n2 : w2.next = w'.next + 1 := by rw [hw2]
    have m2 : w2.lim = w'.lim := by rw [hw2]
    have hacc2 : AccQ intC 3 (w.next + 1) w2 (tget t 5) (paL ds x i) B := hacc.keep (fun _ _ h => u2.at h) u2.next
    obtain ⟨v', w4, ha, ⟨B', hB', hacc'⟩, hkp, hn4, hl4⟩ := AccQ.push (P := Try.prog) (st := 26) (sz := 1) list26 elem26 size3 small3 intC_length (fun _ => by simp [intC]) (by decide) hacc2 (by omega) (by omega) (by unfold paL; rw [List.length_map, List.length_take]; omega) V
    rw [← hst] at hacc'
    rw [hw2] at ha
    simp only [intC] at ha
    simp [mc42_l0, t2, t3, t10, t11, t12, hlt, hia, hld, b2, b3, q0, q01, q5, r63, ha, hw1']
    refine ⟨by omega, ⟨fun y hy => ?_, by omega, by omega⟩, ⟨B', hacc'⟩, hlt⟩
    rw [hkp y (by omega) (fun hne => by have := hacc2.lt hne; omega), u2.at (by omega)]
    exact hu.at hy
  · have hi' : i = ds.length := by omega
    subst hi'
    rw [paL_all] at hacc
    have hok := hacc.ok
    simp [mc42_l0, t11, t12, hok, tupV]
    exact ⟨hacc.rows, u1.trans hu⟩
end Go.Proofs.Ythfidomphkednaa.walk

namespace Go.Proofs.Ythfidomphkednaa.walk
open Go Go.Sh
set_option maxRecDepth 100000
set_option linter.unusedSimpArgs false
set_option linter.unusedVariables false
/-! Check -/
def okR (f : Nat → Bool) (i : Nat) : Prop := (List.range i).all f = true
theorem okR.zero (f : Nat → Bool) : okR f 0 := by simp [okR]
theorem okR.succ {f : Nat → Bool} {i : Nat} (h : okR f i) (k : f i = true) : okR f (i + 1) := by
  unfold okR at *
  rw [List.range_succ, List.all_append, h]; simp [k]
theorem okR.bad {f : Nat → Bool} {n i : Nat} (hi : i < n) (h : f i = false) : (List.range n).all f = false := by
  cases hq : (List.range n).all f with
  | false => rfl
  | true =>
    have := List.all_eq_true.1 hq i (List.mem_range.2 hi)
    rw [h] at this; cases this
theorem okR.at {f : Nat → Bool} {n i : Nat} (h : (List.range n).all f = true) (hi : i < n) : f i = true := List.all_eq_true.1 h i (List.mem_range.2 hi)
def nmsTo (ps : List Pt) (i : Nat) : List ByteArray := (ps.take i).map Pt.nm
theorem nmsTo_len {ps : List Pt} {i : Nat} (h : i ≤ ps.length) : (nmsTo ps i).length = i := by simp [nmsTo]; omega
theorem nmsTo_step {ps : List Pt} {i : Nat} {p : Pt} (h : ps[i]? = some p) : nmsTo ps i ++ [p.nm] = nmsTo ps (i + 1) := by
  unfold nmsTo; rw [List.take_add_one, h, List.map_append]; rfl
def prB (ps : List Pt) (i : Nat) : Bool := match ps[i]? with
  | some p => wordB p.nm.data.toList && (!hasT (nmsTo ps i) p.nm && inI 0 p.ch 100000)
  | none => true
def parB (ps : List Pt) : Bool := inI 1 (ps.length : Nat) 8 && (List.range ps.length).all (prB ps)
def S65 : PSpec where
  R args w v := ∃ (pv : Value) (ps : List Pt), args = [pv] ∧ RowsV ptC w pv ps ∧ v = .bool (parB ps)
  uniq := by
    rintro _ _ _ _ ⟨pv, ps, rfl, h1, rfl⟩ ⟨pv', ps', h, k1, rfl⟩
    cases h
    rw [h1.uniq (m := 2) ptC_length ptC_inj k1]
  shut h := h
@[simp] theorem lk96 (w : AW) (b : Nat) (k : ByteArray) : lookupA Try.prog w 96 (.map (some b)) (.string k) false = lookO w k (w.heap.get b) := lookup_str (e := 4) (by kernel_rfl) (by kernel_rfl) b k
@[simp] theorem up96 (w : AW) (b : Nat) (k : ByteArray) (x : Value) : mapUpdateA Try.prog w 96 (.map (some b)) (.string k) x = updO w b k x (w.heap.get b) := update_str (e := 4) (by kernel_rfl) b k x
theorem run65 {ov : Ov} (ho : ∀ args w, ov 65 args w = none) (h57 : HasP ov 57 S32.F) (h75 : HasP ov 75 S75.F) (pv : Value) (ps : List Pt) (w : AW) (hl : w.lim = w.next) (hv : RowsV ptC w pv ps) : ∃ v w', (run Try.prog ov 2).call 65 [pv] w .none = .ok (.ret v) w' .none ∧ v = .bool (parB ps) := by
  refine call_wp text65 (by simp) (ho _ _) ?_
  have hl1 := fun w2 => len22V (w' := w2) hv
  have r57 := fun n a b w => S32.call1 (P := Try.prog) h57 (w := w) ⟨n, a, b, rfl, rfl⟩
  have r75 := fun s w => S75.call1 (P := Try.prog) h75 (w := w) ⟨s, rfl, rfl⟩
  cases h8 : inI 1 (ps.length : Nat) 8 with
  | false =>
    have e : parB ps = false := by unfold parB; rw [h8]; rfl
    simp [mc65, hl1, r57, h8, tupV, e]
  | true =>
    have hn := h8
    simp only [inI, Bool.and_eq_true, decide_eq_true_eq] at hn
    obtain ⟨w1, hw1⟩ : ∃ w1, w1 = (⟨w.heap.put w.next (some (.map [] 0)), w.next + 1, w.lim⟩ : AW) := ⟨_, rfl⟩
    have u1 : Up w w1 := hw1 ▸ (Up.refl w).add _
    have n1 : w1.next = w.next + 1 := by rw [hw1]
    have m1 : w1.lim = w.lim := by rw [hw1]
    have g1 : w1.heap.get w.next = some (.map (entsFrom 0 (nmsTo ps 0)) 0) := by rw [hw1]; simp [nmsTo, entsFrom]
    simp [mc65, hl1, r57, h8]
    rw [← hw1]
    refine wp_seqX (wp_blockX (wp_rounds (fun i t w' => Kp w.next w1 w' ∧ w'.heap.get w.next = some (.map (entsFrom 0 (nmsTo ps i)) i) ∧ tget t 3 = .map (some w.next) ∧ tget t 11 = pv ∧ tget t 12 = .int .i64 (ps.length : Nat) ∧ tget t 13 = .int .i64 (i : Nat) ∧ i ≤ ps.length ∧ okR (prB ps) i) 20 (by decide) ⟨Kp.refl _ _, g1, by simp, by simp, by simp, by simp, Nat.zero_le _, okR.zero _⟩ ?_))
    rintro i t w' ⟨hkp, gm, t3, t11, t12, t13, hi, hall⟩
    have hw1' : IntKind.wrap .i64 ((i : Int) + 1) = (i : Int) + 1 := wrap64_in (by omega) (by omega)
    have hlm := hkp.lim
    have hnx := hkp.next
    by_cases hlt : i < ps.length
    · obtain ⟨a, ha⟩ : ∃ a, ps[i]? = some a := ⟨_, List.getElem?_eq_getElem hlt⟩
      obtain ⟨b, off, sq, c, rfl, hra⟩ := (hv.up (hkp.up u1 (Nat.le_refl _))).at_ i hlt
      have hld := hra.rd ptC_length ha
      have hia := fun w => ia22 w ⟨b, off, sq⟩ ps.length c .i64 i hlt
      have hpr : prB ps i = (wordB a.nm.data.toList && (!hasT (nmsTo ps i) a.nm && inI 0 a.ch 100000)) := by unfold prB; rw [ha]
      have hbad : prB ps i = false → parB ps = false := fun h => by unfold parB; rw [okR.bad hlt h, Bool.and_false]
      have hst := nmsTo_step ha
      obtain ⟨nm, ch⟩ := a
      simp only [ptC] at hld
      simp only at hpr hst
      have q0 : ¬ w.next = w'.next := by omega
      have q5 : w'.lim ≤ w'.next := by omega
      have q6 : w'.lim ≤ w.next := by omega
      have hc := nmsTo_len (ps := ps) (i := i) hi
      cases k1 : wordB nm.data.toList with
      | false =>
        have e := hbad (by rw [hpr, k1]; rfl)
        simp [mc65_l0, t3, t11, t12, t13, hlt, hia, hld, q0, q5, gm, r75, r57, k1, tupV, e]
      | true =>
        cases k2 : hasT (nmsTo ps i) nm with
        | true =>
          have e := hbad (by rw [hpr, k1, k2]; rfl)
          simp [mc65_l0, t3, t11, t12, t13, hlt, hia, hld, q0, q5, gm, r75, r57, k1, k2, tupV, e]
        | false =>
          cases k3 : inI 0 ch 100000 with
          | false =>
            have e := hbad (by rw [hpr, k1, k2, k3]; rfl)
            simp [mc65_l0, t3, t11, t12, t13, hlt, hia, hld, q0, q5, gm, r75, r57, k1, k2, k3, tupV, e]
          | true =>
            have hm := hall.succ (by rw [hpr, k1, k2, k3]; rfl)
            simp [mc65_l0, t3, t11, t12, t13, hlt, hia, hld, q0, q5, q6, gm, r75, r57, k1, k2, k3, hc, hst, hw1']
            exact ⟨by omega, ((hkp.new (.inl hnx) (Nat.le_refl _)).new (.inl hnx) (Nat.le_refl _)).new (.inr rfl) (Nat.le_succ _), hlt, hm⟩
    · have hi' : i = ps.length := by omega
      subst hi'
      have e : parB ps = true := by unfold parB; rw [h8, hall]; rfl
      simp [mc65_l0, t12, t13, tupV, e]
def S76 : PSpec where
  R args _ v := ∃ d : Dt, args = [.agg ⟨dtC d⟩] ∧ v = .agg ⟨[.int .i64 d.f, .int .i64 d.t, .int .i64 0]⟩
  uniq := by
    rintro _ _ _ _ ⟨d, rfl, rfl⟩ ⟨d', h, rfl⟩
    simp only [List.cons.injEq, Value.agg.injEq, Array.mk.injEq, and_true] at h
    rw [dtC_inj _ _ h]
  shut h := h
theorem run76 {ov : Ov} (ho : ∀ args w, ov 76 args w = none) (d : Dt) (w : AW) (hl : w.lim = w.next) : ∃ v w', (run Try.prog ov 2).call 76 [.agg ⟨dtC d⟩] w .none = .ok (.ret v) w' .none ∧ v = .agg ⟨[.int .i64 d.f, .int .i64 d.t, .int .i64 0]⟩ := by
  refine call_wp text76 (by simp) (ho _ _) ?_
  have hle : w.next ≤ w.next + 1 := Nat.le_succ _
  simp [mc76, cellsOf_agg, dtC, hl, hle, tupV]
def S54 : PSpec where
  R args w v := ∃ (pv dv : Value) (ps : List Pt) (i : Int), args = [.agg ⟨[pv, dv]⟩, .int .i64 i] ∧ RowsV ptC w pv ps ∧ ps.length ≤ 1000 ∧ v = .bool (inI 0 i ((ps.length : Int) - 1))
  uniq := by
    rintro _ _ _ _ ⟨pv, dv, ps, i, rfl, h1, _, rfl⟩ ⟨pv', dv', ps', i', h, k1, _, rfl⟩
    simp only [List.cons.injEq, Value.agg.injEq, Array.mk.injEq, Value.int.injEq, and_true, true_and] at h
    obtain ⟨⟨rfl, rfl⟩, rfl⟩ := h
    rw [h1.uniq (m := 2) ptC_length ptC_inj k1]
  shut h := h
theorem run54 {ov : Ov} (ho : ∀ args w, ov 54 args w = none) (h57 : HasP ov 57 S32.F) (pv dv : Value) (ps : List Pt) (i : Int) (w : AW) (hl : w.lim = w.next) (hv : RowsV ptC w pv ps) (h8 : ps.length ≤ 1000) : ∃ v w', (run Try.prog ov 2).call 54 [.agg ⟨[pv, dv]⟩, .int .i64 i] w .none = .ok (.ret v) w' .none ∧ v = .bool (inI 0 i ((ps.length : Int) - 1)) := by
  refine call_wp text54 (by simp) (ho _ _) ?_
  have hl1 := fun w2 => len22V (w' := w2) hv
  have r57 := fun n a b w => S32.call1 (P := Try.prog) h57 (w := w) ⟨n, a, b, rfl, rfl⟩
  have w1 : IntKind.wrap .i64 ((ps.length : Int) - 1) = (ps.length : Int) - 1 := wrap64_in (by omega) (by omega)
  simp [mc54, cellsOf_agg, hl1, r57, w1, tupV]
end Go.Proofs.Ythfidomphkednaa.walk
