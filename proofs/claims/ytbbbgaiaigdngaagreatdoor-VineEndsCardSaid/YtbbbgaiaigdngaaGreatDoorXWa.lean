/- Part of a proof by a machine of ones own: see the text with the theorem. -/
import Derived.Test.YtbbbgaiaigdngaaGreatDoorXT
import Derived.Test.YtbbbgaiaigdngaaGreatDoorShF
namespace Go.Proofs.YtbbbgaiaigdngaaGreatDoor.walk
open Go Go.Sh
set_option maxRecDepth 100000
set_option linter.unusedSimpArgs false
/-! seasons -/
def inI (a n b : Int) : Bool := decide (a ≤ n) && decide (n ≤ b)
structure Day where
  wl : Int
  wh : Int
  rl : Int
  rh : Int
def dayC (d : Day) : List Value := [.int .i64 d.wl, .int .i64 d.wh, .int .i64 d.rl, .int .i64 d.rh]
@[simp] theorem dayC_length (d : Day) : (dayC d).length = 4 := by simp [dayC]
theorem dayC_inj (a b : Day) (h : dayC a = dayC b) : a = b := by
  cases a; cases b
  simpa [dayC] using h
structure Sea where
  base : Int
  wet : Int
  from_ : Int
  grows : Int
  cut : Int
  gl : Int
  gh : Int
def seaC (s : Sea) (dv cv : Value) : List Value := [dv, .int .i64 s.base, .int .i64 s.wet, .int .i64 s.from_, .int .i64 s.grows, .int .i64 s.cut, .int .i64 s.gl, .int .i64 s.gh, cv]
noncomputable def F75 : PureF := fun args _ => match args with | [.int .i64 n, .int .i64 b] => some (.bool (inI 0 n b)) | _ => none
theorem rule75 {ov : Ov} (k : HasP ov 75 F75) (n b : Int) (m : Nat) (w : AW) : (run Tryz.prog ov (m + 1)).call 75 [.int .i64 n, .int .i64 b] w .none = .ok (.ret (.bool (inI 0 n b))) w .none := k.call rfl
theorem run75 {ov : Ov} (ho : ∀ args w, ov 75 args w = none) (n b : Int) (w : AW) : ∃ v w', (run Tryz.prog ov 2).call 75 [.int .i64 n, .int .i64 b] w .none = .ok (.ret v) w' .none ∧ v = .bool (inI 0 n b) := by
  refine call_wp text75 (by simp) (ho _ _) ?_
  by_cases h1 : 0 ≤ n <;> simp [mc75, h1, tupV, inI]
def spanB (lo hi most : Int) : Bool := decide (0 ≤ lo) && (decide (lo ≤ hi) && decide (hi ≤ most))
noncomputable def F89 : PureF := fun args _ => match args with | [.agg ⟨[.int .i64 a, .int .i64 b]⟩, .int .i64 m] => some (.bool (spanB a b m)) | _ => none
theorem rule89 {ov : Ov} (k : HasP ov 89 F89) (a b most : Int) (m : Nat) (w : AW) : (run Tryz.prog ov (m + 1)).call 89 [.agg ⟨[.int .i64 a, .int .i64 b]⟩, .int .i64 most] w .none = .ok (.ret (.bool (spanB a b most))) w .none := k.call rfl
theorem run89 {ov : Ov} (ho : ∀ args w, ov 89 args w = none) (a b most : Int) (w : AW) : ∃ v w', (run Tryz.prog ov 2).call 89 [.agg ⟨[.int .i64 a, .int .i64 b]⟩, .int .i64 most] w .none = .ok (.ret v) w' .none ∧ v = .bool (spanB a b most) := by
  refine call_wp text89 (by simp) (ho _ _) ?_
  by_cases h1 : 0 ≤ a
  · by_cases h2 : a ≤ b <;> simp [mc89, h1, h2, tupV, spanB]
  · simp [mc89, h1, tupV, spanB]
/-! shade -/
def shadeB (s : Sea) : Bool := inI 0 s.from_ 100 && (inI 0 s.grows 50 && (inI 0 s.cut 100 && spanB s.gl s.gh 100))
noncomputable def F74 : PureF := fun args _ => match args with | [.agg ⟨[.int .i64 a, .int .i64 b, .int .i64 c, .int .i64 d, .int .i64 e]⟩] => some (.bool (inI 0 a 100 && (inI 0 b 50 && (inI 0 c 100 && spanB d e 100)))) | _ => none
theorem rule74 {ov : Ov} (k : HasP ov 74 F74) (s : Sea) (m : Nat) (w : AW) : (run Tryz.prog ov (m + 1)).call 74 [.agg ⟨[.int .i64 s.from_, .int .i64 s.grows, .int .i64 s.cut, .int .i64 s.gl, .int .i64 s.gh]⟩] w .none = .ok (.ret (.bool (shadeB s))) w .none := k.call rfl
theorem run74 {ov : Ov} (ho : ∀ args w, ov 74 args w = none) (h24 : HasP ov 75 F75) (h51 : HasP ov 89 F89) (a b c d e : Int) (w : AW) : ∃ v w', (run Tryz.prog ov 2).call 74 [.agg ⟨[.int .i64 a, .int .i64 b, .int .i64 c, .int .i64 d, .int .i64 e]⟩] w .none = .ok (.ret v) w' .none ∧ v = .bool (inI 0 a 100 && (inI 0 b 50 && (inI 0 c 100 && spanB d e 100))) := by
  refine call_wp text74 (by simp) (ho _ _) ?_
  have r24 := fun n b w => rule75 h24 n b 0 w
  have r51 := fun a b m w => rule89 h51 a b m 0 w
  simp only [Nat.zero_add] at r24 r51
  cases h1 : inI 0 a 100 with
  | false => simp [mc74, r24, h1, tupV]
  | true => cases h2 : inI 0 b 50 with
    | false => simp [mc74, r24, h1, h2, tupV]
    | true => cases h3 : inI 0 c 100 <;> simp [mc74, r24, r51, h1, h2, h3, tupV]
end Go.Proofs.YtbbbgaiaigdngaaGreatDoor.walk

namespace Go.Proofs.YtbbbgaiaigdngaaGreatDoor.walk
open Go Go.Sh
set_option maxRecDepth 100000
set_option linter.unusedSimpArgs false
/-! the days of a season -/
def dayB (d : Day) : Bool := spanB d.wl d.wh 50 && spanB d.rl d.rh 100
def daysTo (l : List Day) : Nat → Bool
  | 0 => true
  | i + 1 => daysTo l i && (match l[i]? with | some d => dayB d | none => true)
theorem days_snoc {l : List Day} {i : Nat} {d : Day} (h : l[i]? = some d) : daysTo l (i + 1) = (daysTo l i && dayB d) := by
  show (daysTo l i && _) = _
  rw [h]
theorem days_false {l : List Day} {i : Nat} (h : daysTo l i = false) : ∀ n, i ≤ n → daysTo l n = false
  | 0, hn => by obtain rfl : i = 0 := by omega
                exact h
  | n + 1, hn => by
    rcases Nat.eq_or_lt_of_le hn with e | h1
    · rw [← e]; exact h
    · show (daysTo l n && _) = false
      rw [days_false h n (by omega)]; rfl
def daysB (l : List Day) : Bool := decide (1 ≤ l.length) && (decide (l.length ≤ 40) && daysTo l l.length)
structure Ol (w0 w : AW) : Prop where
  old : Old w0.next w0.heap w.heap
  next : w0.next ≤ w.next
  lim : w.lim = w0.lim
theorem Ol.refl (w : AW) : Ol w w := ⟨Old.refl _ _, Nat.le_refl _, rfl⟩
theorem len22V {w : AW} {v : Value} {l : List Day} (h : RowsV dayC w v l) (w' : AW) : lenB Tryz.prog w' 22 v = .val (.int .i64 (l.length : Nat)) w' := by
  obtain ⟨a, c, rfl⟩ := h.len
  simp
theorem len27V {w : AW} {v : Value} {l : List Int} (h : RowsV intC w v l) (w' : AW) : lenB Tryz.prog w' 27 v = .val (.int .i64 (l.length : Nat)) w' := by
  obtain ⟨a, c, rfl⟩ := h.len
  simp
theorem loop72 {ov : Ov} (h51 : HasP ov 89 F89) (l : List Day) (hlen : l.length ≤ 40) (v : Value) (w0 : AW) (hl0 : w0.lim ≤ w0.next) (hv : RowsV dayC w0 v l) (m : Nat)
    (Q : Ex → Tm → AW → Prop) (t : Tm) (w : AW) (hw : Ol w0 w) (t13 : tget t 13 = v) (t14 : tget t 14 = .int .i64 (l.length : Nat)) (t15 : tget t 15 = .int .i64 0)
    (hyes : daysTo l l.length = true → ∀ t w, Q (.exit 0) t w) (hno : daysTo l l.length = false → ∀ t w, tget t 2 = .bool false → Q .ret t w) : wp (exM Tryz.prog (run Tryz.prog ov (m + 1)) (.loop mc72_l0) t w) Q := by
  refine wp_rounds (fun i t w => tget t 13 = v ∧ tget t 14 = .int .i64 (l.length : Nat) ∧ tget t 15 = .int .i64 (i : Nat) ∧ i ≤ l.length ∧ daysTo l i = true ∧ Ol w0 w) 200 (by decide) ⟨t13, t14, by simpa using t15, Nat.zero_le _, rfl, hw⟩ ?_
  clear t13 t14 t15 hw
  rintro i t w ⟨t13, t14, t15, hi, hok, hw⟩
  by_cases hlt : i < l.length
  · obtain ⟨d, hd⟩ : ∃ d, l[i]? = some d := ⟨_, List.getElem?_eq_getElem hlt⟩
    obtain ⟨b, off, sq, c, rfl, hr⟩ := hv.at_ i hlt
    have hb := hr.2
    have hld := hr.rd (m := 4) dayC_length hd
    rw [← hw.old b hb] at hld
    have hn := hw.next
    have hlm := hw.lim
    have hl1 : w.lim ≤ w.next := by omega
    have m0 : ¬ b = w.next := by omega
    have hia := fun w => ia22 w ⟨b, off, sq⟩ l.length c .i64 i hlt
    have hw1 : IntKind.wrap .i64 ((i : Int) + 1) = (i : Int) + 1 := wrap64_in (by omega) (by omega)
    have r51 := fun a b most w => rule89 h51 a b most m w
    have hs := days_snoc hd
    rw [hok, Bool.true_and] at hs
    cases h1 : spanB d.wl d.wh 50 with
    | false =>
      have hbad : daysTo l l.length = false := days_false (i := i + 1) (by rw [hs]; simp [dayB, h1]) _ hlt
      simp [mc72_l0, t13, t14, t15, hlt, hia, hld, hl1, m0, cellsOf_agg, dayC, r51, h1]
      exact hno hbad _ _ (by simp)
    | true => cases h2 : spanB d.rl d.rh 100 with
      | false =>
        have hbad : daysTo l l.length = false := days_false (i := i + 1) (by rw [hs]; simp [dayB, h1, h2]) _ hlt
        simp [mc72_l0, t13, t14, t15, hlt, hia, hld, hl1, m0, cellsOf_agg, dayC, r51, h1, h2]
        exact hno hbad _ _ (by simp)
      | true =>
        have hs' : daysTo l (i + 1) = true := by rw [hs]; simp [dayB, h1, h2]
        simp [mc72_l0, t13, t14, t15, hlt, hia, hld, hl1, m0, cellsOf_agg, dayC, r51, h1, h2, hw1]
        exact ⟨by omega, hlt, hs', ⟨(hw.old.put hn).put hn, by show w0.next ≤ w.next + 1; omega, hlm⟩⟩
  · have hi' : i = l.length := by omega
    subst hi'
    simp [mc72_l0, t14, t15]
    exact hyes hok _ _
theorem run72 {ov : Ov} (ho : ∀ args w, ov 72 args w = none) (h51 : HasP ov 89 F89) (l : List Day) (v : Value) (w : AW) (hl : w.lim = w.next) (hv : RowsV dayC w v l) :
    ∃ x w', (run Tryz.prog ov 2).call 72 [v] w .none = .ok (.ret x) w' .none ∧ x = .bool (daysB l) := by
  refine call_wp text72 (by simp) (ho _ _) ?_
  have hln := len22V hv
  by_cases h1 : l.length < 1
  · have : ¬ 1 ≤ l.length := by omega
    have h1' : (l.length : Int) < 1 := by omega
    simp [mc72, hln, h1', daysB, this, tupV]
  · have h1' : ¬ (l.length : Int) < 1 := by omega
    have h1'' : 1 ≤ l.length := by omega
    by_cases h2 : 40 < l.length
    · have h2' : (40 : Int) < l.length := by omega
      have : ¬ l.length ≤ 40 := by omega
      simp [mc72, hln, h1', h2', daysB, this, tupV]
    · have h2' : ¬ (40 : Int) < l.length := by omega
      have h2'' : l.length ≤ 40 := by omega
      simp [mc72, hln, h1', h2']
      refine wp_seqX (wp_blockX (loop72 h51 l h2'' v w (Nat.le_of_eq hl) hv 0 _ _ _ (Ol.refl w) ?_ ?_ ?_ ?_ ?_))
      case _ => simp
      case _ => simp
      case _ => simp
      case _ => intro hy t w; simp [daysB, h1'', h2'', hy, tupV]
      case _ => intro hn t w t2; simp [daysB, h1'', h2'', hn, t2, tupV]
noncomputable def F72 : PureF := fun args w => match args with | [v] => (rowsIn dayC w v).map fun l => .bool (daysB l) | _ => none
theorem rule72 {ov : Ov} (k : HasP ov 72 F72) {v : Value} {l : List Day} {w : AW} (hv : RowsV dayC w v l) (m : Nat) : (run Tryz.prog ov (m + 1)).call 72 [v] w .none = .ok (.ret (.bool (daysB l))) w .none := k.call (by
  simp [F72, hv.rowsIn (m := 4) dayC_length dayC_inj])
/-! the days on which shade is cut -/
def lastI (l : List Int) : Nat → Int
  | 0 => -1
  | i + 1 => l[i]?.getD (-1)
def cutsTo (n : Int) (l : List Int) : Nat → Bool
  | 0 => true
  | i + 1 => cutsTo n l i && (match l[i]? with | some c => decide (lastI l i < c) && decide (c < n) | none => true)
theorem cuts_snoc {n : Int} {l : List Int} {i : Nat} {c : Int} (h : l[i]? = some c) : cutsTo n l (i + 1) = (cutsTo n l i && (decide (lastI l i < c) && decide (c < n))) := by
  show (cutsTo n l i && _) = _
  rw [h]
theorem cuts_false {n : Int} {l : List Int} {i : Nat} (h : cutsTo n l i = false) : ∀ k, i ≤ k → cutsTo n l k = false
  | 0, hn => by obtain rfl : i = 0 := by omega
                exact h
  | k + 1, hn => by
    rcases Nat.eq_or_lt_of_le hn with e | h1
    · rw [← e]; exact h
    · show (cutsTo n l k && _) = false
      rw [cuts_false h k (by omega)]; rfl
def cutsB (l : List Int) (n : Int) : Bool := cutsTo n l l.length
/-- what rises stays below its end: no more of them than days -/
theorem last_ge {n : Int} {l : List Int} : ∀ i, i ≤ l.length → cutsTo n l i = true → (i : Int) - 1 ≤ lastI l i
  | 0, _, _ => by show (0 : Int) - 1 ≤ -1; omega
  | i + 1, hi, h => by
    obtain ⟨c, hc⟩ : ∃ c, l[i]? = some c := ⟨_, List.getElem?_eq_getElem (by omega)⟩
    rw [cuts_snoc hc] at h
    simp only [Bool.and_eq_true, decide_eq_true_eq] at h
    have := last_ge i (by omega) h.1
    show ((i + 1 : Nat) : Int) - 1 ≤ l[i]?.getD (-1)
    rw [hc]
    show ((i + 1 : Nat) : Int) - 1 ≤ c
    omega
end Go.Proofs.YtbbbgaiaigdngaaGreatDoor.walk

namespace Go.Proofs.YtbbbgaiaigdngaaGreatDoor.walk
open Go Go.Sh
set_option maxRecDepth 100000
set_option linter.unusedSimpArgs false
theorem last_lt {n : Int} {l : List Int} (hn : 0 ≤ n) : ∀ i, i ≤ l.length → cutsTo n l i = true → lastI l i < n
  | 0, _, _ => by show (-1 : Int) < n; omega
  | i + 1, hi, h => by
    obtain ⟨c, hc⟩ : ∃ c, l[i]? = some c := ⟨_, List.getElem?_eq_getElem (by omega)⟩
    rw [cuts_snoc hc] at h
    simp only [Bool.and_eq_true, decide_eq_true_eq] at h
    show l[i]?.getD (-1) < n
    rw [hc]
    exact h.2.2
theorem loop73 {ov : Ov} (l : List Int) (n : Int) (h0 : 0 ≤ n) (h40 : n ≤ 40) (v : Value) (w : AW) (hv : RowsV intC w v l) (m : Nat)
    (Q : Ex → Tm → AW → Prop) (t : Tm) (t1 : tget t 1 = .int .i64 n) (t5 : tget t 5 = .int .i64 (-1)) (t8 : tget t 8 = v) (t9 : tget t 9 = .int .i64 (l.length : Nat)) (t10 : tget t 10 = .int .i64 0)
    (hyes : cutsB l n = true → ∀ t, Q (.exit 0) t w) (hno : cutsB l n = false → ∀ t, tget t 4 = .bool false → Q .ret t w) : wp (exM Tryz.prog (run Tryz.prog ov m) (.loop mc73_l0) t w) Q := by
  refine wp_rounds (fun i t w' => w' = w ∧ tget t 1 = .int .i64 n ∧ tget t 5 = .int .i64 (lastI l i) ∧ tget t 8 = v ∧ tget t 9 = .int .i64 (l.length : Nat) ∧ tget t 10 = .int .i64 (i : Nat) ∧ i ≤ l.length ∧ cutsTo n l i = true) 200 (by decide) ⟨rfl, t1, t5, t8, t9, by simpa using t10, Nat.zero_le _, rfl⟩ ?_
  clear t1 t5 t8 t9 t10
  rintro i t w' ⟨rfl, t1, t5, t8, t9, t10, hi, hok⟩
  have hge := last_ge i hi hok
  have hlt' := last_lt h0 i hi hok
  by_cases hlt : i < l.length
  · obtain ⟨c, hc⟩ : ∃ c, l[i]? = some c := ⟨_, List.getElem?_eq_getElem hlt⟩
    obtain ⟨b, off, sq, cp, rfl, hr⟩ := hv.at_ i hlt
    have hld := hr.int hc
    have hia := fun w => ia27 w ⟨b, off, sq⟩ l.length cp .i64 i hlt
    have hw1 : IntKind.wrap .i64 ((i : Int) + 1) = (i : Int) + 1 := wrap64_in (by omega) (by omega)
    have hs := cuts_snoc (n := n) hc
    rw [hok, Bool.true_and] at hs
    have hla : lastI l (i + 1) = c := by show l[i]?.getD (-1) = c; rw [hc]; rfl
    by_cases h1 : c ≤ lastI l i
    · have hbad : cutsB l n = false := cuts_false (i := i + 1) (by rw [hs]; simp; omega) _ hlt
      simp [mc73_l0, t1, t5, t8, t9, t10, hlt, hia, hld, h1]
      exact hno hbad _ (by simp)
    · by_cases h2 : n ≤ c
      · have hbad : cutsB l n = false := cuts_false (i := i + 1) (by rw [hs]; simp; omega) _ hlt
        simp [mc73_l0, t1, t5, t8, t9, t10, hlt, hia, hld, h1, h2]
        exact hno hbad _ (by simp)
      · have hs' : cutsTo n l (i + 1) = true := by rw [hs]; simp; omega
        simp [mc73_l0, t1, t5, t8, t9, t10, hlt, hia, hld, h1, h2, hw1, hla]
        exact ⟨by omega, hlt, hs'⟩
  · have hi' : i = l.length := by omega
    subst hi'
    simp [mc73_l0, t9, t10]
    exact hyes hok _
theorem run73 {ov : Ov} (ho : ∀ args w, ov 73 args w = none) (l : List Int) (n : Int) (h0 : 0 ≤ n) (h40 : n ≤ 40) (v : Value) (w : AW) (hv : RowsV intC w v l) :
    ∃ x w', (run Tryz.prog ov 2).call 73 [v, .int .i64 n] w .none = .ok (.ret x) w' .none ∧ x = .bool (cutsB l n) := by
  refine call_wp text73 (by simp) (ho _ _) ?_
  have hln := len27V hv
  simp [mc73, hln]
  refine wp_seqX (wp_blockX (loop73 l n h0 h40 v w hv 1 _ _ ?_ ?_ ?_ ?_ ?_ ?_ ?_))
  case _ => simp
  case _ => simp
  case _ => simp
  case _ => simp
  case _ => simp
  case _ => intro hy t; simp [hy, tupV]
  case _ => intro hn t t4; simp [hn, t4, tupV]
noncomputable def F73 : PureF := fun args w => match args with | [v, .int .i64 n] => (rowsIn intC w v).bind fun l => bif inI 0 n 40 then some (.bool (cutsB l n)) else none | _ => none
theorem rule73 {ov : Ov} (k : HasP ov 73 F73) {v : Value} {l : List Int} {n : Int} {w : AW} (hv : RowsV intC w v l) (h0 : 0 ≤ n) (h40 : n ≤ 40) (m : Nat) : (run Tryz.prog ov (m + 1)).call 73 [v, .int .i64 n] w .none = .ok (.ret (.bool (cutsB l n))) w .none := k.call (by
  simp [F73, hv.rowsIn (m := 1) intC_length intC_inj, inI, h0, h40])
/-! Check -/
def seaB (s : Sea) (l : List Day) (c : List Int) : Bool := daysB l && (cutsB c l.length && (shadeB s && (inI 0 s.base 50 && inI 0 s.wet 100)))
def seaE (s : Sea) (l : List Day) (c : List Int) : Int := bif seaB s l c then 0 else 10
theorem days_len {l : List Day} (h : daysB l = true) : 1 ≤ l.length ∧ l.length ≤ 40 := by
  simp only [daysB, Bool.and_eq_true, decide_eq_true_eq] at h
  exact ⟨h.1, h.2.1⟩
theorem run43 {ov : Ov} (ho : ∀ args w, ov 43 args w = none) (h21 : HasP ov 72 F72) (h22 : HasP ov 73 F73) (h23 : HasP ov 74 F74) (h24 : HasP ov 75 F75) (s : Sea) (l : List Day) (c : List Int) (dv cv : Value) (w : AW) (hl : w.lim = w.next) (hv : RowsV dayC w dv l) (hc : RowsV intC w cv c) :
    ∃ x w', (run Tryz.prog ov 2).call 43 [.agg ⟨seaC s dv cv⟩] w .none = .ok (.ret x) w' .none ∧ x = .int .i64 (seaE s l c) := by
  refine call_wp text43 (by simp) (ho _ _) ?_
  obtain ⟨W, hW⟩ : ∃ W : AW, W = ⟨w.heap.put w.next (some (.cells (seaC s dv cv) 29 false)), w.next + 1, w.lim⟩ := ⟨_, rfl⟩
  have o1 : Old w.next w.heap W.heap := by rw [hW]; exact (Old.refl _ _).put (Nat.le_refl _)
  have hn : w.next ≤ W.next := by rw [hW]; exact Nat.le_succ _
  have r21 := rule72 h21 (hv.old o1 hn) 0
  have hln := len22V hv
  have r23 := fun w => rule74 h23 s 0 w
  have r24 := fun n b w => rule75 h24 n b 0 w
  simp only [Nat.zero_add, hW, seaC] at r21 r23 r24
  have hl1 : w.lim ≤ w.next := by omega
  cases h1 : daysB l with
  | false =>
    rw [h1] at r21
    simp [mc43, seaC, r21, hl1, tupV, seaE, seaB, h1]
  | true =>
    rw [h1] at r21
    have hd := days_len h1
    have r22 := rule73 h22 (n := (l.length : Int)) (hc.old o1 hn) (by omega) (by omega) 0
    simp only [Nat.zero_add, hW, seaC] at r22
    cases h2 : cutsB c l.length with
    | false =>
      rw [h2] at r22
      simp [mc43, seaC, r21, r22, hln, hl1, tupV, seaE, seaB, h1, h2]
    | true =>
      rw [h2] at r22
      cases h3 : shadeB s with
      | false => simp [mc43, seaC, r21, r22, r23, hln, hl1, tupV, seaE, seaB, h1, h2, h3]
      | true => cases h4 : inI 0 s.base 50 with
        | false => simp [mc43, seaC, r21, r22, r23, r24, hln, hl1, tupV, seaE, seaB, h1, h2, h3, h4]
        | true => cases h5 : inI 0 s.wet 100 <;> simp [mc43, seaC, r21, r22, r23, r24, hln, hl1, tupV, seaE, seaB, h1, h2, h3, h4, h5]
end Go.Proofs.YtbbbgaiaigdngaaGreatDoor.walk

namespace Go.Proofs.YtbbbgaiaigdngaaGreatDoor.walk
open Go Go.Sh
set_option maxRecDepth 100000
set_option linter.unusedSimpArgs false
noncomputable def F15 : PureF := fun args _ => match args with | [.int .i64 n, .int .i64 a, .int .i64 b] => some (.bool (inI a n b)) | _ => none
theorem rule15 {ov : Ov} (k : HasP ov 15 F15) (n a b : Int) (m : Nat) (w : AW) : (run Tryz.prog ov (m + 1)).call 15 [.int .i64 n, .int .i64 a, .int .i64 b] w .none = .ok (.ret (.bool (inI a n b))) w .none := k.call rfl
theorem run15 {ov : Ov} (ho : ∀ args w, ov 15 args w = none) (n a b : Int) (w : AW) : ∃ v w', (run Tryz.prog ov 2).call 15 [.int .i64 n, .int .i64 a, .int .i64 b] w .none = .ok (.ret v) w' .none ∧ v = .bool (inI a n b) := by
  refine call_wp text15 (by simp) (ho _ _) ?_
  by_cases h1 : a ≤ n <;> simp [mc15, h1, tupV, inI]
end Go.Proofs.YtbbbgaiaigdngaaGreatDoor.walk

namespace Go.Proofs.YtbbbgaiaigdngaaGreatDoor.walk
open Go Go.Sh
set_option maxRecDepth 100000
set_option linter.unusedSimpArgs false
@[simp] theorem old_same (n : Nat) (H : T AObj) : Old n H H := Old.refl n H
@[simp] theorem old_put {n k : Nat} {H H' : T AObj} {o : Option AObj} (h : Old n H H') (hk : n ≤ k) : Old n H (H'.put k o) := h.put hk
end Go.Proofs.YtbbbgaiaigdngaaGreatDoor.walk

namespace Go.Proofs.YtbbbgaiaigdngaaGreatDoor.walk
open Go Go.Sh
set_option maxRecDepth 100000
set_option linter.unusedSimpArgs false
/-! Check, as an equation (8 and 9 alike) -/
noncomputable def F43 : PureF := fun args w => match args with | [.agg ⟨[dv, .int .i64 a, .int .i64 b, .int .i64 c, .int .i64 d, .int .i64 e, .int .i64 f, .int .i64 g, cv]⟩] => (rowsIn dayC w dv).bind fun l => (rowsIn intC w cv).bind fun k => some (.int .i64 (seaE ⟨a, b, c, d, e, f, g⟩ l k)) | _ => none
theorem rule43 {ov : Ov} {f : FuncId} (k : HasP ov f F43) {s : Sea} {dv cv : Value} {l : List Day} {c : List Int} {w : AW} (hv : RowsV dayC w dv l) (hc : RowsV intC w cv c) (m : Nat) : (run Tryz.prog ov (m + 1)).call f [.agg ⟨seaC s dv cv⟩] w .none = .ok (.ret (.int .i64 (seaE s l c))) w .none := k.call (by
  simp [F43, seaC, hv.rowsIn (m := 4) dayC_length dayC_inj, hc.rowsIn (m := 1) intC_length intC_inj])
/-! the shade of a day -/
def yearC (s : Sea) (dv cv sv : Value) : List Value := [dv, .int .i64 s.base, .int .i64 s.wet, .int .i64 s.from_, .int .i64 s.grows, .int .i64 s.cut, .int .i64 s.gl, .int .i64 s.gh, cv, sv]
noncomputable def F51 : PureF := fun args _ => match args with | [.agg ⟨[_, .int .i64 _, .int .i64 _, .int .i64 _, .int .i64 _, .int .i64 c, .int .i64 _, .int .i64 _, _, _]⟩, .int .i64 n] => some (.int .i64 (min n c)) | _ => none
theorem rule51 {ov : Ov} (k : HasP ov 51 F51) (s : Sea) (dv cv sv : Value) (n : Int) (m : Nat) (w : AW) : (run Tryz.prog ov (m + 1)).call 51 [.agg ⟨yearC s dv cv sv⟩, .int .i64 n] w .none = .ok (.ret (.int .i64 (min n s.cut))) w .none := k.call rfl
theorem run51 {ov : Ov} (ho : ∀ args w, ov 51 args w = none) (s : Sea) (dv cv sv : Value) (n : Int) (w : AW) : ∃ x w', (run Tryz.prog ov 2).call 51 [.agg ⟨yearC s dv cv sv⟩, .int .i64 n] w .none = .ok (.ret x) w' .none ∧ x = .int .i64 (min n s.cut) := by
  refine call_wp text51 (by simp) (ho _ _) ?_
  simp [mc51, yearC, tupV]
noncomputable def F52 : PureF := fun args _ => match args with | [.agg ⟨[_, .int .i64 _, .int .i64 _, .int .i64 _, .int .i64 g, .int .i64 _, .int .i64 _, .int .i64 _, _, _]⟩, .int .i64 n] => bif inI 0 n 100 && inI 0 g 50 then some (.int .i64 (min (n + g) 100)) else none | _ => none
theorem rule52 {ov : Ov} (k : HasP ov 52 F52) (s : Sea) (dv cv sv : Value) {n : Int} (h1 : 0 ≤ n ∧ n ≤ 100) (h2 : 0 ≤ s.grows ∧ s.grows ≤ 50) (m : Nat) (w : AW) : (run Tryz.prog ov (m + 1)).call 52 [.agg ⟨yearC s dv cv sv⟩, .int .i64 n] w .none = .ok (.ret (.int .i64 (min (n + s.grows) 100))) w .none := k.call (by
  simp [F52, yearC, inI, h1, h2])
theorem run52 {ov : Ov} (ho : ∀ args w, ov 52 args w = none) (s : Sea) (dv cv sv : Value) (n : Int) (h1 : 0 ≤ n ∧ n ≤ 100) (h2 : 0 ≤ s.grows ∧ s.grows ≤ 50) (w : AW) : ∃ x w', (run Tryz.prog ov 2).call 52 [.agg ⟨yearC s dv cv sv⟩, .int .i64 n] w .none = .ok (.ret x) w' .none ∧ x = .int .i64 (min (n + s.grows) 100) := by
  refine call_wp text52 (by simp) (ho _ _) ?_
  have w1 : IntKind.wrap .i64 (n + s.grows) = n + s.grows := wrap64_in (by omega) (by omega)
  simp [mc52, yearC, w1, tupV]
def nextI (s : Sea) (before : Int) (cut : Bool) : Int := if cut = true then min (if 0 ≤ before then min 100 (before + s.grows) else s.from_) s.cut else if 0 ≤ before then min 100 (before + s.grows) else s.from_
/-! where a number is -/
end Go.Proofs.YtbbbgaiaigdngaaGreatDoor.walk

namespace Go.Proofs.YtbbbgaiaigdngaaGreatDoor.walk
open Go Go.Sh
set_option maxRecDepth 100000
set_option linter.unusedSimpArgs false
theorem isList27 : isList Tryz.prog 27 = true := by kernel_rfl
theorem elem27 : elemA Tryz.prog 27 = some 3 := by kernel_rfl
theorem sz3 : szOf Tryz.prog 3 = some 1 := by kernel_rfl
theorem small3 : smallT Tryz.prog 3 = true := by kernel_rfl
def AccI (n1 : Nat) (w : AW) (v : Value) (acc : List Int) (B : Nat) : Prop := (acc = [] ∧ v = .slice none 0 0 ∧ B = 0) ∨ (v = .slice (some ⟨B, 0, none⟩) acc.length acc.length ∧ w.heap.get B = some (.cells (acc.flatMap intC) 3 false) ∧ n1 < B ∧ B < w.next)
theorem AccI.lt {n1 : Nat} {w : AW} {v : Value} {acc : List Int} {B : Nat} (h : AccI n1 w v acc B) (hn : 0 < w.next) : B < w.next := by
  rcases h with ⟨_, _, rfl⟩ | ⟨_, _, _, h⟩
  · exact hn
  · exact h
theorem AccI.keep {n1 : Nat} {w w' : AW} {v : Value} {acc : List Int} {B B0 : Nat} (h : AccI n1 w v acc B) (k : ∀ x, x < w.next → (x = B0 → B0 = 0) → n1 < x → w'.heap.get x = w.heap.get x) (hn : w.next ≤ w'.next) (hs : B = B0 → B = 0) : AccI n1 w' v acc B := by
  rcases h with h | ⟨h1, h2, h3, h4⟩
  · exact .inl h
  · refine .inr ⟨h1, ?_, h3, by omega⟩
    rw [k B h4 (fun e => by have := hs e; omega) h3, h2]
theorem AccI.same {n1 : Nat} {w : AW} {v : Value} {acc : List Int} {B : Nat} (h : AccI n1 w v acc B) : sameVal 5 v v = true := by
  rcases h with ⟨_, rfl, _⟩ | ⟨rfl, _⟩
  · exact sameN_slice 4 _ _ _
  · exact sameN_slice 4 _ _ _
/-! the shades of all days, as the specification says them -/
def shB (s : Sea) (c : List Int) : Nat → Int
  | 0 => -1
  | d + 1 => nextI s (shB s c d) (decide ((d : Int) ∈ c))
def shL (s : Sea) (c : List Int) : Nat → List Int
  | 0 => []
  | d + 1 => shL s c d ++ [shB s c (d + 1)]
theorem shL_length (s : Sea) (c : List Int) : ∀ n, (shL s c n).length = n
  | 0 => rfl
  | n + 1 => by simp [shL, shL_length s c n]
theorem shade_nums {s : Sea} (h : shadeB s = true) : (0 ≤ s.from_ ∧ s.from_ ≤ 100) ∧ (0 ≤ s.grows ∧ s.grows ≤ 50) ∧ (0 ≤ s.cut ∧ s.cut ≤ 100) := by
  simp only [shadeB, inI, Bool.and_eq_true, decide_eq_true_eq] at h
  omega
theorem shB_bd {s : Sea} (h : shadeB s = true) (c : List Int) : ∀ d, -1 ≤ shB s c d ∧ shB s c d ≤ 100 ∧ (0 < d → 0 ≤ shB s c d)
  | 0 => ⟨by show (-1 : Int) ≤ -1; omega, by show (-1 : Int) ≤ 100; omega, fun h => by omega⟩
  | d + 1 => by
    obtain ⟨a, b, e⟩ := shade_nums h
    have ih := shB_bd h c d
    show -1 ≤ nextI s (shB s c d) _ ∧ nextI s (shB s c d) _ ≤ 100 ∧ (_ → 0 ≤ nextI s (shB s c d) _)
    unfold nextI
    split <;> split <;> omega
structure In26 (w0 : AW) (s : Sea) (dv cv : Value) (v : Value) (acc : List Int) (B : Nat) (w : AW) : Prop where
  old : Old w0.next w0.heap w.heap
  box : w.heap.get w0.next = some (.cells (seaC s dv cv) 29 false)
  acc : AccI w0.next w v acc B
  next : w0.next < w.next
  lim : w.lim = w0.lim
end Go.Proofs.YtbbbgaiaigdngaaGreatDoor.walk
