/- Part of a proof by a machine of ones own: see the text with the theorem. -/
import Derived.Test.YtimnfedgbkgdeaaGreatDoorXWb
namespace Go.Proofs.YtimnfedgbkgdeaaGreatDoor.walk
open Go Go.Sh
set_option maxRecDepth 100000
set_option linter.unusedSimpArgs false
def heatB (s : Sea) (warm shade : Int) : Bool := inI 0 warm 50 && (inI 0 s.base 50 && inI 0 shade 100)
theorem heatB_ok {s : Sea} {warm shade : Int} (h : heatB s warm shade = true) : HeatOk s warm shade := by
  simp only [heatB, inI, Bool.and_eq_true, decide_eq_true_eq] at h
  exact ⟨h.1.1, h.1.2, h.2.1.1, h.2.1.2, h.2.2.1, h.2.2.2⟩
noncomputable def F58 : PureF := fun args _ => match args with | [.agg ⟨[_, .int .i64 a, .int .i64 b, .int .i64 c, .int .i64 d, .int .i64 e, .int .i64 f, .int .i64 g, _]⟩, .int .i64 warm, .int .i64 rain, .int .i64 shade] => bif heatB ⟨a, b, c, d, e, f, g⟩ warm shade then some (.int .i64 (heatI ⟨a, b, c, d, e, f, g⟩ warm rain shade)) else none | _ => none
theorem rule58 {ov : Ov} (k : HasP ov 58 F58) (s : Sea) (dv cv : Value) {warm shade : Int} (rain : Int) (h : heatB s warm shade = true) (m : Nat) (w : AW) : (run Tryz.prog ov (m + 1)).call 58 [.agg ⟨seaC s dv cv⟩, .int .i64 warm, .int .i64 rain, .int .i64 shade] w .none = .ok (.ret (.int .i64 (heatI s warm rain shade))) w .none := k.call (by
  show (bif heatB s warm shade then _ else _) = _
  rw [h]; rfl)
noncomputable def F77 : PureF := fun args w => match args with | [.agg ⟨[_, .int .i64 a, .int .i64 b, .int .i64 c, .int .i64 d, .int .i64 e, .int .i64 f, .int .i64 g, _, sv]⟩, .int .i64 day, .int .i64 warm, .int .i64 rain] => (rowsIn intC w sv).bind fun L => bif decide (0 ≤ day) then (L[day.toNat]?).bind fun shade => bif heatB ⟨a, b, c, d, e, f, g⟩ warm shade then some (.int .i64 (heatI ⟨a, b, c, d, e, f, g⟩ warm rain shade)) else none else none | _ => none
theorem rule77 {ov : Ov} (k : HasP ov 77 F77) (s : Sea) (dv cv : Value) {sv : Value} {L : List Int} {i : Nat} {warm shade : Int} (rain : Int) {w : AW} (hL : RowsV intC w sv L) (hz : L[i]? = some shade) (h : heatB s warm shade = true) (m : Nat) : (run Tryz.prog ov (m + 1)).call 77 [.agg ⟨yearC s dv cv sv⟩, .int .i64 (i : Nat), .int .i64 warm, .int .i64 rain] w .none = .ok (.ret (.int .i64 (heatI s warm rain shade))) w .none := k.call (by
  unfold F77 yearC
  have e : decide (0 ≤ (i : Int)) = true := by simp
  simp only [hL.rowsIn (m := 1) intC_length intC_inj, Option.bind_some, e, cond_true, Int.toNat_natCast, hz]
  show (bif heatB s warm shade then _ else _) = _
  rw [h]; rfl)
structure In48 (w0 : AW) (s : Sea) (dv cv sv wv rv : Value) (n : Nat) (L : List Int) (w : AW) : Prop where
  old : Old w0.next w0.heap w.heap
  box : w.heap.get w0.next = some (.cells (yearC s dv cv sv) 58 false)
  wea : w.heap.get (w0.next + 1) = some (.cells [wv, rv] 41 false)
  row : w.heap.get (w0.next + 2) = some (.cells (L.flatMap intC) 3 false)
  next : w0.next + 2 < w.next
  lim : w.lim = w0.lim
  len : L.length = n
end Go.Proofs.YtimnfedgbkgdeaaGreatDoor.walk

namespace Go.Proofs.YtimnfedgbkgdeaaGreatDoor.walk
open Go Go.Sh
set_option maxRecDepth 100000
set_option linter.unusedSimpArgs false
/-! the heats, as the specification says them -/
structure In31 (w0 : AW) (k : Nat) (v : Value) (acc : List Int) (B : Nat) (w : AW) : Prop where
  old : Old w0.next w0.heap w.heap
  acc : AccI k w v acc B
  next : w0.next ≤ w.next
  lim : w.lim = w0.lim
theorem seaC_same (s : Sea) {dv cv : Value} (h1 : sameVal 4 dv dv = true) (h2 : sameVal 4 cv cv = true) : sameVal 5 (.agg ⟨seaC s dv cv⟩) (.agg ⟨seaC s dv cv⟩) = true := same_agg _ fun v hv => by
    simp only [seaC, List.mem_cons, List.not_mem_nil, or_false] at hv
    rcases hv with rfl | rfl | rfl | rfl | rfl | rfl | rfl | rfl | rfl
    · exact h1
    all_goals first | exact sameN_int 3 _ _ | exact h2
theorem rows_same {α : Type} {f : α → List Value} {w : AW} {v : Value} {l : List α} (h : RowsV f w v l) : sameVal 4 v v = true := by
  obtain ⟨a, c, rfl⟩ := h.len
  exact sameN_slice 3 _ _ _
end Go.Proofs.YtimnfedgbkgdeaaGreatDoor.walk

namespace Go.Proofs.YtimnfedgbkgdeaaGreatDoor.walk
open Go Go.Sh
set_option maxRecDepth 100000
set_option linter.unusedSimpArgs false
theorem day_of {l : List Day} : ∀ n, daysTo l n = true → ∀ i d, i < n → l[i]? = some d → dayB d = true
  | 0, _, i, d, h, _ => by omega
  | n + 1, h, i, d, hi, hd => by
    have h' : (daysTo l n && (match l[n]? with | some d => dayB d | none => true)) = true := h
    rw [Bool.and_eq_true] at h'
    rcases Nat.lt_or_eq_of_le (Nat.le_of_lt_succ hi) with h1 | h1
    · exact day_of n h'.1 i d h1 hd
    · subst h1
      have := h'.2
      rw [hd] at this
      exact this
theorem shL_at (s : Sea) (c : List Int) : ∀ n d, d < n → (shL s c n)[d]? = some (shB s c (d + 1))
  | 0, d, hd => by omega
  | n + 1, d, hd => by
    show (shL s c n ++ [_])[d]? = _
    by_cases e : d < n
    · rw [List.getElem?_append_left (by rw [shL_length]; exact e), shL_at s c n d e]
    · have e' : d = n := by omega
      rw [List.getElem?_append_right (by rw [shL_length]; omega), shL_length, e', Nat.sub_self]
      rfl
/-! Heats -/
def H50 (ov : Ov) : Prop := ∀ (m : Nat) (L : List Int) (x : Int) (u : Value) (w : AW), L.length ≤ 1000 → RowsV intC w u L → (run Tryz.prog ov (m + 1)).call 57 [u, .int .i64 x] w .none = .ok (.ret (.int .i64 (findAt x L 0))) w .none
end Go.Proofs.YtimnfedgbkgdeaaGreatDoor.walk

namespace Go.Proofs.YtimnfedgbkgdeaaGreatDoor.walk
open Go Go.Sh
set_option maxRecDepth 100000
set_option linter.unusedSimpArgs false
theorem row_notJunk {α : Type} {f : α → List Value} {w : AW} {v : Value} {l : List α} (h : RowsV f w v l) : notJunk v = some v := by
  obtain ⟨a, c, rfl⟩ := h.len
  rfl
end Go.Proofs.YtimnfedgbkgdeaaGreatDoor.walk

namespace Go.Proofs.YtimnfedgbkgdeaaGreatDoor.walk
open Go Go.Sh
set_option maxRecDepth 100000
set_option linter.unusedSimpArgs false
/-! racemes -/
structure Rac where
  need : Int
  fl : Int
def racC (r : Rac) : List Value := [.int .i64 r.need, .int .i64 r.fl]
@[simp] theorem racC_length (r : Rac) : (racC r).length = 2 := by simp [racC]
theorem racC_inj (a b : Rac) (h : racC a = racC b) : a = b := by
  cases a; cases b
  simpa [racC] using h
def racOk (r : Rac) : Bool := inI 0 r.need 2000 && inI 1 r.fl 20
def racTo (l : List Rac) : Nat → Bool
  | 0 => true
  | i + 1 => racTo l i && (match l[i]? with | some r => racOk r | none => true)
theorem rac_snoc {l : List Rac} {i : Nat} {r : Rac} (h : l[i]? = some r) : racTo l (i + 1) = (racTo l i && racOk r) := by
  show (racTo l i && _) = _
  rw [h]
theorem rac_false {l : List Rac} {i : Nat} (h : racTo l i = false) : ∀ n, i ≤ n → racTo l n = false
  | 0, hn => by obtain rfl : i = 0 := by omega
                exact h
  | n + 1, hn => by
    rcases Nat.eq_or_lt_of_le hn with e | h1
    · rw [← e]; exact h
    · show (racTo l n && _) = false
      rw [rac_false h n (by omega)]; rfl
theorem rac_of {l : List Rac} : ∀ n, racTo l n = true → ∀ i r, i < n → l[i]? = some r → racOk r = true
  | 0, _, i, r, h, _ => by omega
  | n + 1, h, i, r, hi, hr => by
    have h' : (racTo l n && (match l[n]? with | some r => racOk r | none => true)) = true := h
    rw [Bool.and_eq_true] at h'
    rcases Nat.lt_or_eq_of_le (Nat.le_of_lt_succ hi) with h1 | h1
    · exact rac_of n h'.1 i r h1 hr
    · subst h1
      have := h'.2
      rw [hr] at this
      exact this
def racB (l : List Rac) : Bool := decide (l.length ≤ 8) && racTo l l.length
theorem len30V {w : AW} {v : Value} {l : List Rac} (h : RowsV racC w v l) (w' : AW) : lenB Tryz.prog w' 30 v = .val (.int .i64 (l.length : Nat)) w' := by
  obtain ⟨a, c, rfl⟩ := h.len
  simp
noncomputable def F50 : PureF := fun args w => match args with | [u] => (rowsIn racC w u).bind fun l => some (.bool (racB l)) | _ => none
theorem rule50 {ov : Ov} {f : FuncId} (k : HasP ov f F50) {u : Value} {l : List Rac} {w : AW} (hv : RowsV racC w u l) (m : Nat) : (run Tryz.prog ov (m + 1)).call f [u] w .none = .ok (.ret (.bool (racB l))) w .none := k.call (by
  simp [F50, hv.rowsIn (m := 2) racC_length racC_inj])
theorem loop50 {ov : Ov} (h24 : HasP ov 75 F75) (l : List Rac) (h8 : l.length ≤ 8) (v : Value) (w0 : AW) (hl0 : w0.lim ≤ w0.next) (hv : RowsV racC w0 v l) (m : Nat)
    (Q : Ex → Tm → AW → Prop) (t : Tm) (w : AW) (hw : Ol w0 w) (t8 : tget t 8 = v) (t9 : tget t 9 = .int .i64 (l.length : Nat)) (t10 : tget t 10 = .int .i64 0)
    (hyes : racTo l l.length = true → ∀ t w, Q (.exit 0) t w) (hno : racTo l l.length = false → ∀ t w, tget t 2 = .bool false → Q .ret t w) : wp (exM Tryz.prog (run Tryz.prog ov (m + 1)) (.loop mc50_l0) t w) Q := by
  refine wp_rounds (fun i t w => tget t 8 = v ∧ tget t 9 = .int .i64 (l.length : Nat) ∧ tget t 10 = .int .i64 (i : Nat) ∧ i ≤ l.length ∧ racTo l i = true ∧ Ol w0 w) 200 (by decide) ⟨t8, t9, by simpa using t10, Nat.zero_le _, rfl, hw⟩ ?_
  clear t8 t9 t10 hw
  rintro i t w ⟨t8, t9, t10, hi, hok, hw⟩
  by_cases hlt : i < l.length
  · obtain ⟨r, hd⟩ : ∃ d, l[i]? = some d := ⟨_, List.getElem?_eq_getElem hlt⟩
    obtain ⟨b, off, sq, c, rfl, hr⟩ := hv.at_ i hlt
    have hb := hr.2
    have hld := hr.rd (m := 2) racC_length hd
    rw [← hw.old b hb] at hld
    have hn := hw.next
    have hlm := hw.lim
    have hl1 : w.lim ≤ w.next := by omega
    have m0 : ¬ b = w.next := by omega
    have hia := fun w => ia30 w ⟨b, off, sq⟩ l.length c .i64 i hlt
    have hw1 : IntKind.wrap .i64 ((i : Int) + 1) = (i : Int) + 1 := wrap64_in (by omega) (by omega)
    have r24 := fun n a w => rule75 h24 n a m w
    have hs := rac_snoc hd
    rw [hok, Bool.true_and] at hs
    have bad : racOk r = false → racTo l l.length = false := fun h => rac_false (i := i + 1) (by rw [hs, h]) _ hlt
    cases h1 : inI 0 r.need 2000 with
    | false =>
      simp [mc50_l0, t8, t9, t10, hlt, hia, hld, hl1, m0, cellsOf_agg, racC, r24, h1]
      exact hno (bad (by simp [racOk, h1])) _ _ (by simp)
    | true =>
      by_cases h2 : r.fl < 1
      · simp [mc50_l0, t8, t9, t10, hlt, hia, hld, hl1, m0, cellsOf_agg, racC, r24, h1, h2]
        exact hno (bad (by simp [racOk, h1, inI]; omega)) _ _ (by simp)
      · by_cases h3 : 20 < r.fl
        · simp [mc50_l0, t8, t9, t10, hlt, hia, hld, hl1, m0, cellsOf_agg, racC, r24, h1, h2, h3]
          exact hno (bad (by simp [racOk, h1, inI]; omega)) _ _ (by simp)
        · have h4 : inI 1 r.fl 20 = true := by simp [inI]; omega
          have hs' : racTo l (i + 1) = true := by rw [hs]; simp [racOk, h1, h4]
          simp [mc50_l0, t8, t9, t10, hlt, hia, hld, hl1, m0, cellsOf_agg, racC, r24, h1, h2, h3, hw1]
          exact ⟨by omega, hlt, hs', ⟨(hw.old.put hn).put hn, by show w0.next ≤ w.next + 1; omega, hlm⟩⟩
  · have hi' : i = l.length := by omega
    subst hi'
    simp [mc50_l0, t9, t10]
    exact hyes hok _ _
theorem run50 {ov : Ov} (ho : ∀ args w, ov 50 args w = none) (h24 : HasP ov 75 F75) (l : List Rac) (v : Value) (w : AW) (hl : w.lim = w.next) (hv : RowsV racC w v l) :
    ∃ x w', (run Tryz.prog ov 2).call 50 [v] w .none = .ok (.ret x) w' .none ∧ x = .bool (racB l) := by
  refine call_wp text50 (by simp) (ho _ _) ?_
  have hln := len30V hv
  by_cases h8 : (8 : Int) < l.length
  · have : ¬ l.length ≤ 8 := by omega
    simp [mc50, hln, h8, racB, this, tupV]
  · have h8' : l.length ≤ 8 := by omega
    simp [mc50, hln, h8]
    refine wp_seqX (wp_blockX (loop50 h24 l h8' v w (Nat.le_of_eq hl) hv 0 _ _ _ (Ol.refl _) ?_ ?_ ?_ ?_ ?_))
    case _ => simp
    case _ => simp
    case _ => simp
    case _ => intro h t w; simp [racB, h8', h, tupV]
    case _ => intro h t w t2; simp [racB, h8', h, t2, tupV]
theorem loop25 {ov : Ov} (h25 : HasP ov 15 F15) (l : List Rac) (bb : Bool) (h8 : bb = true → l.length ≤ 8) (v : Value) (w : AW) (hv : RowsV racC w v l) (m : Nat)
    (Q : Ex → Tm → AW → Prop) (t : Tm) (t0 : tget t 0 = v) (t3 : tget t 3 = .bool bb) (t4 : tget t 4 = .int .i64 0)
    (hQ : ∀ t, tget t 3 = .bool (bb && racTo l l.length) → Q (.exit 0) t w) : wp (exM Tryz.prog (run Tryz.prog ov (m + 1)) (.loop mc25_l0) t w) Q := by
  refine wp_rounds (fun i t w' => w' = w ∧ tget t 0 = v ∧ tget t 3 = .bool (bb && racTo l i) ∧ tget t 4 = .int .i64 (i : Nat) ∧ i ≤ l.length) 200 (by decide) ⟨rfl, t0, by simpa [racTo] using t3, by simpa using t4, Nat.zero_le _⟩ ?_
  clear t0 t3 t4
  rintro i t w' ⟨rfl, t0, t3, t4, hi⟩
  have hln := fun w => len30V hv w
  cases hok : (bb && racTo l i) with
  | false =>
    rw [hok] at t3
    have hbad : (bb && racTo l l.length) = false := by
      cases bb with
      | false => rfl
      | true => exact rac_false (i := i) (by simpa using hok) _ hi
    rw [hbad] at hQ
    simp [mc25_l0, t3]
    exact hQ _ (by simp [t3])
  | true =>
    rw [hok] at t3
    simp only [Bool.and_eq_true] at hok
    obtain ⟨rfl, hok⟩ := hok
    have h8 := h8 rfl
    by_cases hlt : i < l.length
    · obtain ⟨r, hd⟩ : ∃ d, l[i]? = some d := ⟨_, List.getElem?_eq_getElem hlt⟩
      obtain ⟨b, off, sq, c, rfl, hr⟩ := hv.at_ i hlt
      have hl0 := hr.rd1 (m := 2) (j := 0) racC_length hd (x := .int .i64 r.need) rfl
      have hl1 := hr.rd1 (m := 2) (j := 1) racC_length hd (x := .int .i64 r.fl) rfl
      have hia := fun w => ia30 w ⟨b, off, sq⟩ l.length c .i64 i hlt
      have hw1 : IntKind.wrap .i64 ((i : Int) + 1) = (i : Int) + 1 := wrap64_in (by omega) (by omega)
      have r25 := fun n a b w => rule15 h25 n a b m w
      have hs := rac_snoc hd
      rw [hok, Bool.true_and] at hs
      simp only [Nat.add_zero] at hl0
      cases h1 : inI 0 r.need 2000 with
      | false =>
        simp [mc25_l0, t0, t3, t4, hln, hlt, hia, hl0, hl1, r25, h1, hw1]
        exact ⟨by omega, by rw [hs]; simp [racOk, h1], hlt⟩
      | true =>
        simp [mc25_l0, t0, t3, t4, hln, hlt, hia, hl0, hl1, r25, h1, hw1]
        exact ⟨by omega, by rw [hs]; simp [racOk, h1], hlt⟩
    · have hi' : i = l.length := by omega
      subst hi'
      simp [mc25_l0, t0, t3, t4, hln]
      exact hQ _ (by simp [t3, hok])
theorem run25 {ov : Ov} (ho : ∀ args w, ov 25 args w = none) (h25 : HasP ov 15 F15) (l : List Rac) (v : Value) (w : AW) (hv : RowsV racC w v l) :
    ∃ x w', (run Tryz.prog ov 2).call 25 [v] w .none = .ok (.ret x) w' .none ∧ x = .bool (racB l) := by
  refine call_wp text25 (by simp) (ho _ _) ?_
  have hln := len30V hv
  have hd : decide ((l.length : Int) ≤ 8) = decide (l.length ≤ 8) := by
    congr 1
    exact propext (by omega)
  simp [mc25, hln]
  refine wp_seqX (wp_blockX (loop25 h25 l (decide (l.length ≤ 8)) (by simp) v w hv 0 _ _ ?_ ?_ ?_ ?_))
  case _ => simp
  case _ => simp [hd]
  case _ => simp
  case _ => intro t t3; simp [t3, racB, tupV]
/-! checkBoth -/
def bothE (s : Sea) (l : List Day) (c : List Int) (r : List Rac) : Int := if seaE s l c = 0 then (if racB r = true then 0 else 11) else seaE s l c
noncomputable def F20 : PureF := fun args w => match args with | [.agg ⟨[dv, .int .i64 a, .int .i64 b, .int .i64 c, .int .i64 d, .int .i64 e, .int .i64 f, .int .i64 g, cv]⟩, u] => (rowsIn dayC w dv).bind fun l => (rowsIn intC w cv).bind fun k => (rowsIn racC w u).bind fun r => some (.int .i64 (bothE ⟨a, b, c, d, e, f, g⟩ l k r)) | _ => none
theorem rule20 {ov : Ov} (k : HasP ov 20 F20) {s : Sea} {dv cv u : Value} {l : List Day} {c : List Int} {r : List Rac} {w : AW} (hv : RowsV dayC w dv l) (hc : RowsV intC w cv c) (hu : RowsV racC w u r) (m : Nat) : (run Tryz.prog ov (m + 1)).call 20 [.agg ⟨seaC s dv cv⟩, u] w .none = .ok (.ret (.int .i64 (bothE s l c r))) w .none := k.call (by
  simp [F20, seaC, hv.rowsIn (m := 4) dayC_length dayC_inj, hc.rowsIn (m := 1) intC_length intC_inj, hu.rowsIn (m := 2) racC_length racC_inj])
theorem run20 {ov : Ov} (ho : ∀ args w, ov 20 args w = none) (h8 : HasP ov 43 F43) (h55 : HasP ov 50 F50) (s : Sea) (l : List Day) (c : List Int) (r : List Rac) (dv cv u : Value) (w : AW) (hv : RowsV dayC w dv l) (hc : RowsV intC w cv c) (hu : RowsV racC w u r) :
    ∃ x w', (run Tryz.prog ov 2).call 20 [.agg ⟨seaC s dv cv⟩, u] w .none = .ok (.ret x) w' .none ∧ x = .int .i64 (bothE s l c r) := by
  refine call_wp text20 (by simp) (ho _ _) ?_
  have o1 : Old w.next w.heap (w.heap.put w.next (some (.cells (seaC s dv cv) 29 false))) := (Old.refl _ _).put (Nat.le_refl _)
  have hv1 : RowsV dayC ⟨w.heap.put w.next (some (.cells (seaC s dv cv) 29 false)), w.next + 1, w.lim⟩ dv l := hv.old o1 (Nat.le_succ _)
  have hu1 : RowsV intC ⟨w.heap.put w.next (some (.cells (seaC s dv cv) 29 false)), w.next + 1, w.lim⟩ cv c := hc.old o1 (Nat.le_succ _)
  have hr1 : RowsV racC ⟨w.heap.put w.next (some (.cells (seaC s dv cv) 29 false)), w.next + 1, w.lim⟩ u r := hu.old o1 (Nat.le_succ _)
  have r8 := rule43 (f := 43) (s := s) h8 hv1 hu1 0
  have r55 := rule50 (f := 50) h55 hr1 0
  by_cases hE : seaE s l c = 0
  · rw [hE] at r8
    cases hR : racB r <;> rw [hR] at r55 <;> simp only [seaC, Nat.zero_add] at r8 r55 <;> simp [mc20, seaC, r8, r55, bothE, hE, hR, tupV]
  · simp only [seaC, Nat.zero_add] at r8
    simp [mc20, seaC, r8, bothE, hE, tupV]
end Go.Proofs.YtimnfedgbkgdeaaGreatDoor.walk

namespace Go.Proofs.YtimnfedgbkgdeaaGreatDoor.walk
open Go Go.Sh
set_option maxRecDepth 100000
set_option linter.unusedSimpArgs false
/-! when a raceme opens -/
def opF (need : Int) : List Int → Int → Nat → Nat
  | [], _, i => i
  | z :: l, sum, i => if need ≤ sum + z then i else opF need l (sum + z) (i + 1)
def small (L : List Int) : Bool := decide (L.length ≤ 40) && L.all fun z => inI 0 z 50
theorem small_len {L : List Int} (h : small L = true) : L.length ≤ 40 := by
  simp only [small, Bool.and_eq_true, decide_eq_true_eq] at h
  exact h.1
theorem small_at {L : List Int} (h : small L = true) {i : Nat} {z : Int} (hz : L[i]? = some z) : 0 ≤ z ∧ z ≤ 50 := by
  simp only [small, Bool.and_eq_true, decide_eq_true_eq, List.all_eq_true, inI] at h
  exact h.2 z (List.mem_of_getElem? hz)
def opI (L : List Int) (need : Int) : Nat := opF need L 0 0
theorem drop_cons {L : List Int} {i : Nat} {z : Int} (hz : L[i]? = some z) : L.drop i = z :: L.drop (i + 1) := by
  obtain ⟨hlt, e⟩ := List.getElem?_eq_some_iff.1 hz
  rw [List.drop_eq_getElem_cons hlt, e]
noncomputable def F23 : PureF := fun args w => match args with | [u, .int .i64 need] => (rowsIn intC w u).bind fun L => bif small L then some (.int .i64 (opI L need : Nat)) else none | _ => none
noncomputable def F28 : PureF := fun args w => match args with | [.int .i64 need, u] => (rowsIn intC w u).bind fun L => bif small L then some (.int .i64 (opI L need : Nat)) else none | _ => none
theorem rule23 {ov : Ov} (k : HasP ov 23 F23) {u : Value} {L : List Int} (need : Int) {w : AW} (hu : RowsV intC w u L) (hs : small L = true) (m : Nat) : (run Tryz.prog ov (m + 1)).call 23 [u, .int .i64 need] w .none = .ok (.ret (.int .i64 (opI L need : Nat))) w .none := k.call (by
  simp [F23, hu.rowsIn (m := 1) intC_length intC_inj, hs])
theorem rule28 {ov : Ov} (k : HasP ov 28 F28) {u : Value} {L : List Int} (need : Int) {w : AW} (hu : RowsV intC w u L) (hs : small L = true) (m : Nat) : (run Tryz.prog ov (m + 1)).call 28 [.int .i64 need, u] w .none = .ok (.ret (.int .i64 (opI L need : Nat))) w .none := k.call (by
  simp [F28, hu.rowsIn (m := 1) intC_length intC_inj, hs])
theorem loop23 {ov : Ov} (L : List Int) (hsm : small L = true) (need : Int) (v : Value) (w : AW) (hv : RowsV intC w v L) (m : Nat)
    (Q : Ex → Tm → AW → Prop) (t : Tm) (t0 : tget t 0 = v) (t1 : tget t 1 = .int .i64 need) (t5 : tget t 5 = .int .i64 0) (t8 : tget t 8 = v) (t9 : tget t 9 = .int .i64 (L.length : Nat)) (t10 : tget t 10 = .int .i64 0)
    (hyes : ∀ t, tget t 4 = .int .i64 (opI L need : Nat) → Q .ret t w) (hno : opI L need = L.length → ∀ t, tget t 0 = v → Q (.exit 0) t w) : wp (exM Tryz.prog (run Tryz.prog ov m) (.loop mc23_l0) t w) Q := by
  have hlen := small_len hsm
  refine wp_rounds (fun i t w' => w' = w ∧ tget t 0 = v ∧ tget t 1 = .int .i64 need ∧ (∃ sum : Int, tget t 5 = .int .i64 sum ∧ 0 ≤ sum ∧ sum ≤ 50 * i ∧ opF need (L.drop i) sum i = opI L need) ∧ tget t 8 = v ∧ tget t 9 = .int .i64 (L.length : Nat) ∧ tget t 10 = .int .i64 (i : Nat) ∧ i ≤ L.length) 200 (by decide) ⟨rfl, t0, t1, ⟨0, t5, by omega, by omega, rfl⟩, t8, t9, by simpa using t10, Nat.zero_le _⟩ ?_
  clear t0 t1 t5 t8 t9 t10
  rintro i t w' ⟨rfl, t0, t1, ⟨sum, t5, s0, s1, hop⟩, t8, t9, t10, hi⟩
  by_cases hlt : i < L.length
  · obtain ⟨z, hz⟩ : ∃ z, L[i]? = some z := ⟨_, List.getElem?_eq_getElem hlt⟩
    obtain ⟨b, off, sq, cp, rfl, hr⟩ := hv.at_ i hlt
    have hld := hr.int hz
    have hzb := small_at hsm hz
    have hia := fun w => ia27 w ⟨b, off, sq⟩ L.length cp .i64 i hlt
    have hw1 : IntKind.wrap .i64 ((i : Int) + 1) = (i : Int) + 1 := wrap64_in (by omega) (by omega)
    have hw2 : IntKind.wrap .i64 (sum + z) = sum + z := wrap64_in (by omega) (by omega)
    rw [drop_cons hz, opF] at hop
    by_cases h : need ≤ sum + z
    · rw [if_pos h] at hop
      simp [mc23_l0, t0, t1, t5, t8, t9, t10, hlt, hia, hld, hw1, hw2, h]
      exact hyes _ (by simp [hop])
    · rw [if_neg h] at hop
      simp [mc23_l0, t0, t1, t5, t8, t9, t10, hlt, hia, hld, hw1, hw2, h]
      exact ⟨by omega, ⟨by omega, by omega, hop⟩, hlt⟩
  · have hi' : i = L.length := by omega
    subst hi'
    rw [List.drop_length] at hop
    simp [mc23_l0, t9, t10]
    exact hno hop.symm _ (by simp [t0])
theorem run23 {ov : Ov} (ho : ∀ args w, ov 23 args w = none) (L : List Int) (hsm : small L = true) (need : Int) (v : Value) (w : AW) (hv : RowsV intC w v L) :
    ∃ y w', (run Tryz.prog ov 2).call 23 [v, .int .i64 need] w .none = .ok (.ret y) w' .none ∧ y = .int .i64 (opI L need : Nat) := by
  refine call_wp text23 (by simp) (ho _ _) ?_
  have hlv := len27V hv
  simp [mc23, hlv]
  refine wp_seqX (wp_blockX (loop23 L hsm need v w hv 1 _ _ ?_ ?_ ?_ ?_ ?_ ?_ ?_ ?_))
  case _ => simp
  case _ => simp
  case _ => simp
  case _ => simp
  case _ => simp
  case _ => simp
  case _ => intro t t4; simp [t4, tupV]
  case _ => intro h t t0; simp [t0, hlv, h, tupV]
theorem loop28 {ov : Ov} (L : List Int) (hsm : small L = true) (need : Int) (v : Value) (w : AW) (hv : RowsV intC w v L) (m : Nat)
    (Q : Ex → Tm → AW → Prop) (t : Tm) (t0 : tget t 0 = .int .i64 need) (t1 : tget t 1 = v) (t5 : tget t 5 = .int .i64 0) (t6 : tget t 6 = .int .i64 0)
    (hyes : ∀ t, tget t 4 = .int .i64 (opI L need : Nat) → Q .ret t w) (hno : opI L need = L.length → ∀ t, tget t 1 = v → Q (.exit 0) t w) : wp (exM Tryz.prog (run Tryz.prog ov m) (.loop mc28_l0) t w) Q := by
  have hlen := small_len hsm
  refine wp_rounds (fun i t w' => w' = w ∧ tget t 0 = .int .i64 need ∧ tget t 1 = v ∧ (∃ sum : Int, tget t 5 = .int .i64 sum ∧ 0 ≤ sum ∧ sum ≤ 50 * i ∧ opF need (L.drop i) sum i = opI L need) ∧ tget t 6 = .int .i64 (i : Nat) ∧ i ≤ L.length) 200 (by decide) ⟨rfl, t0, t1, ⟨0, t5, by omega, by omega, rfl⟩, by simpa using t6, Nat.zero_le _⟩ ?_
  clear t0 t1 t5 t6
  rintro i t w' ⟨rfl, t0, t1, ⟨sum, t5, s0, s1, hop⟩, t6, hi⟩
  have hln := fun w => len27V hv w
  by_cases hlt : i < L.length
  · obtain ⟨z, hz⟩ : ∃ z, L[i]? = some z := ⟨_, List.getElem?_eq_getElem hlt⟩
    obtain ⟨b, off, sq, cp, rfl, hr⟩ := hv.at_ i hlt
    have hld := hr.int hz
    have hzb := small_at hsm hz
    have hia := fun w => ia27 w ⟨b, off, sq⟩ L.length cp .i64 i hlt
    have hw1 : IntKind.wrap .i64 ((i : Int) + 1) = (i : Int) + 1 := wrap64_in (by omega) (by omega)
    have hw2 : IntKind.wrap .i64 (sum + z) = sum + z := wrap64_in (by omega) (by omega)
    rw [drop_cons hz, opF] at hop
    by_cases h : need ≤ sum + z
    · rw [if_pos h] at hop
      simp [mc28_l0, t0, t1, t5, t6, hlt, hia, hld, hw1, hw2, h]
      exact hyes _ (by simp [hop])
    · rw [if_neg h] at hop
      simp [mc28_l0, t0, t1, t5, t6, hlt, hia, hld, hw1, hw2, h]
      exact ⟨by omega, ⟨by omega, by omega, hop⟩, hlt⟩
  · have hi' : i = L.length := by omega
    subst hi'
    rw [List.drop_length] at hop
    simp [mc28_l0, t1, t6, hln]
    exact hno hop.symm _ (by simp [t1])
theorem run28 {ov : Ov} (ho : ∀ args w, ov 28 args w = none) (L : List Int) (hsm : small L = true) (need : Int) (v : Value) (w : AW) (hv : RowsV intC w v L) :
    ∃ y w', (run Tryz.prog ov 2).call 28 [.int .i64 need, v] w .none = .ok (.ret y) w' .none ∧ y = .int .i64 (opI L need : Nat) := by
  refine call_wp text28 (by simp) (ho _ _) ?_
  have hlv := len27V hv
  simp [mc28]
  refine wp_seqX (wp_blockX (loop28 L hsm need v w hv 1 _ _ ?_ ?_ ?_ ?_ ?_ ?_))
  case _ => simp
  case _ => simp
  case _ => simp
  case _ => simp
  case _ => intro t t4; simp [t4, tupV]
  case _ => intro h t t1; simp [t1, hlv, h, tupV]
end Go.Proofs.YtimnfedgbkgdeaaGreatDoor.walk

namespace Go.Proofs.YtimnfedgbkgdeaaGreatDoor.walk
open Go Go.Sh
set_option maxRecDepth 100000
set_option linter.unusedSimpArgs false
/-! the flowers of each day -/
/-- a row whose cells are known -/
structure RowIs (w : AW) (b n : Nat) (g : Nat → Int) (F : List Int) : Prop where
  row : w.heap.get b = some (.cells (F.flatMap intC) 3 false)
  len : F.length = n
  at_ : ∀ x, x < n → F[x]? = some (g x)
theorem RowIs.ext {w : AW} {b n : Nat} {g h : Nat → Int} {F : List Int} (k : RowIs w b n g F) (e : ∀ x, x < n → g x = h x) : RowIs w b n h F := ⟨k.row, k.len, fun x hx => by rw [k.at_ x hx, e x hx]⟩
theorem RowIs.ld {w : AW} {b n : Nat} {g : Nat → Int} {F : List Int} (h : RowIs w b n g F) {x : Nat} (hx : x < n) : rd1O (some (AObj.cells (F.flatMap intC) 3 false)) x = some (.int .i64 (g x)) := by
  have : RowsA intC (w.heap.put b (some (AObj.cells (F.flatMap intC) 3 false))) (b + 1) b 0 F := ⟨⟨[], [], 3, false, by simp, rfl⟩, Nat.lt_succ_self _⟩
  have := this.int (h.at_ x hx)
  simpa using this
end Go.Proofs.YtimnfedgbkgdeaaGreatDoor.walk

namespace Go.Proofs.YtimnfedgbkgdeaaGreatDoor.walk
open Go Go.Sh
set_option maxRecDepth 100000
set_option linter.unusedSimpArgs false
/-! Blooms -/
theorem both_zero {s : Sea} {l : List Day} {c : List Int} {rs : List Rac} (h : bothE s l c rs = 0) : seaE s l c = 0 ∧ racB rs = true := by
  unfold bothE at h
  by_cases h1 : seaE s l c = 0
  · rw [if_pos h1] at h
    cases h2 : racB rs with
    | true => exact ⟨h1, rfl⟩
    | false => rw [h2] at h; simp at h
  · rw [if_neg h1] at h; exact absurd h h1
end Go.Proofs.YtimnfedgbkgdeaaGreatDoor.walk
