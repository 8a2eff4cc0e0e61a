/- Part of a proof by a machine of ones own: see the text with the theorem. -/
import Derived.Test.YtipglpmelgmelaaDoorRT
import Derived.Test.YtipglpmelgmelaaDoorQHb
import Derived.Test.YtipglpmelgmelaaDoorShF
namespace Go.Proofs.YtipglpmelgmelaaDoor.walk
open Go Go.Sh
open known (partsC laidL noOv)
set_option maxRecDepth 100000
/-! rounds: areRounds, the specification's Rises, the day of a plan -/
/-- the number before the i-th -/
def befI (R : List Int) : Nat → Int
  | 0 => -1
  | i + 1 => R.getD i 0
def riseOk (n : Int) (R : List Int) (i : Nat) : Bool := inI 0 (R.getD i 0) (n - 1) && decide (befI R i < R.getD i 0)
def riseTo (n : Int) (R : List Int) : Nat → Bool
  | 0 => true
  | i + 1 => riseTo n R i && riseOk n R i
def riseB (n : Int) (R : List Int) : Bool := riseTo n R R.length
theorem rise_false {n : Int} {R : List Int} {i : Nat} (h : riseTo n R i = false) : ∀ k, i ≤ k → riseTo n R k = false
  | 0, hk => by obtain rfl : i = 0 := by omega
                exact h
  | k + 1, hk => by
    rcases Nat.eq_or_lt_of_le hk with e | h1
    · rw [← e]; exact h
    · show (riseTo n R k && _) = false
      rw [rise_false h k (by omega)]; rfl
theorem getD_of {R : List Int} {i : Nat} {z : Int} (h : R[i]? = some z) : R.getD i 0 = z := by simp [List.getD, h]
def roundsB (R : List Int) : Bool := decide (R.length ≤ 12) && riseB 2001 R
theorem loop36 {ov : Ov} (h33 : HasP ov 33 F33) (n : Int) (hn : 0 ≤ n ∧ n ≤ 10000) (R : List Int) (hlen : R.length ≤ 100) (u : Value) (w : AW) (hu : RowsV intC w u R)
    (Q : Ex → Tm → AW → Prop) (t : Tm) (t0 : tget t 0 = u) (t1 : tget t 1 = .int .i64 n) (t5 : tget t 5 = .int .i64 0)
    (hyes : riseB n R = true → ∀ t, Q (.exit 0) t w) (hno : riseB n R = false → ∀ t, tget t 4 = .bool false → Q .ret t w) : wp (exM Tryd.prog (run Tryd.prog ov 1) (.loop mc36_l0) t w) Q := by
  refine wp_rounds (fun i t w' => w' = w ∧ tget t 0 = u ∧ tget t 1 = .int .i64 n ∧ tget t 5 = .int .i64 (i : Nat) ∧ i ≤ R.length ∧ riseTo n R i = true) 200 (by decide) ⟨rfl, t0, t1, t5, Nat.zero_le _, rfl⟩ ?_
  clear t0 t1 t5
  rintro i t w' ⟨rfl, t0, t1, t5, hi, hok⟩
  have hlu := fun w => len33V hu w
  by_cases hlt : i < R.length
  · obtain ⟨d, hd⟩ : ∃ d, R[i]? = some d := ⟨_, List.getElem?_eq_getElem hlt⟩
    obtain ⟨b, off, sq, c, rfl, hr⟩ := hu.at_ i hlt
    have hld := hr.int hd
    have hia := fun w => ia33 w ⟨b, off, sq⟩ R.length c .i64 i hlt
    have hw1 : IntKind.wrap .i64 ((i : Int) + 1) = (i : Int) + 1 := wrap64_in (by omega) (by omega)
    have hw2 : IntKind.wrap .i64 (n - 1) = n - 1 := wrap64_in (by omega) (by omega)
    have hs : riseTo n R (i + 1) = riseOk n R i := by show (riseTo n R i && _) = _; rw [hok, Bool.true_and]
    have hdd := getD_of hd
    have r33 := rule33 h33
    cases f1 : inI 0 d (n - 1) with
    | false =>
      have hbad : riseB n R = false := rise_false (i := i + 1) (by rw [hs]; simp only [riseOk, hdd, f1, Bool.false_and]) _ hlt
      simp [mc36_l0, t0, t1, t5, hlt, hlu, hia, hld, hw2, r33, f1]
      exact hno hbad _ (by simp)
    | true =>
      have hd0 : 0 ≤ d := by simp only [inI, Bool.and_eq_true, decide_eq_true_eq] at f1; exact f1.1
      rcases Nat.eq_zero_or_pos i with rfl | hpos
      · have hs' : riseTo n R 1 = true := by
          rw [hs]; simp only [riseOk, hdd, f1, befI, Bool.true_and, decide_eq_true_eq]; omega
        obtain ⟨k, hk⟩ : ∃ k : Int, k = ((0 : Nat) : Int) := ⟨_, rfl⟩
        rw [← hk] at hw1 t5 hia
        rw [Nat.add_zero] at hld
        have hp0 : ¬ 0 < k := by omega
        have hk1 : k < (R.length : Int) := by omega
        simp [mc36_l0, t0, t1, t5, hk1, hlu, hia, hld, hw2, r33, f1, hw1, hp0]
        exact ⟨by omega, hlt, hs'⟩
      · obtain ⟨j, rfl⟩ : ∃ j, i = j + 1 := ⟨i - 1, by omega⟩
        have hlt' : j < R.length := by omega
        obtain ⟨d', hd'⟩ : ∃ d, R[j]? = some d := ⟨_, List.getElem?_eq_getElem hlt'⟩
        have hld' := hr.int hd'
        have hia' := fun w => ia33 w ⟨b, off, sq⟩ R.length c .i64 j hlt'
        have hbf : befI R (j + 1) = d' := getD_of hd'
        have hw3 : IntKind.wrap .i64 (((j + 1 : Nat) : Int) - 1) = (j : Int) := by rw [wrap64_in (by omega) (by omega)]; omega
        have hp0 : (0 : Int) < ((j + 1 : Nat) : Int) := by omega
        obtain ⟨k, hk⟩ : ∃ k : Int, k = ((j + 1 : Nat) : Int) := ⟨_, rfl⟩
        rw [← hk] at hw3 hp0 hw1 t5 hia
        have hk1 : k < (R.length : Int) := by omega
        by_cases h2 : d ≤ d'
        · have hbad : riseB n R = false := rise_false (i := j + 1 + 1) (by rw [hs]; simp only [riseOk, hdd, f1, hbf, Bool.true_and, decide_eq_false_iff_not]; omega) _ hlt
          simp [mc36_l0, t0, t1, t5, hk1, hlu, hia, hia', hld, hld', hw2, hw3, hp0, r33, f1, h2]
          exact hno hbad _ (by simp)
        · have hs' : riseTo n R (j + 1 + 1) = true := by
            rw [hs]; simp only [riseOk, hdd, f1, hbf, Bool.true_and, decide_eq_true_eq]; omega
          simp [mc36_l0, t0, t1, t5, hk1, hlu, hia, hia', hld, hld', hw2, hw3, hp0, r33, f1, h2, hw1]
          exact ⟨by omega, by omega, hlt, hs'⟩
  · have hi' : i = R.length := by omega
    subst hi'
    simp [mc36_l0, t0, t5, hlu]
    exact hyes hok _
theorem run36 {ov : Ov} (ho : ∀ args w, ov 36 args w = none) (h33 : HasP ov 33 F33) (n : Int) (hn : 0 ≤ n ∧ n ≤ 10000) (R : List Int) (hlen : R.length ≤ 100) (u : Value) (w : AW) (hu : RowsV intC w u R) :
    ∃ x w', (run Tryd.prog ov 2).call 36 [u, .int .i64 n] w .none = .ok (.ret x) w' .none ∧ x = .bool (riseB n R) := by
  refine call_wp text36 (by simp) (ho _ _) ?_
  simp [mc36]
  refine wp_seqX (wp_blockX (loop36 h33 n hn R hlen u w hu _ _ ?_ ?_ ?_ ?_ ?_))
  case _ => simp
  case _ => simp
  case _ => simp
  case _ => intro hy t; simp [hy, tupV]
  case _ => intro hn t h2; simp [hn, h2, tupV]
noncomputable def F36 : PureF := fun args w => match args with | [u, .int .i64 n] => (rowsIn intC w u).bind fun R => bif inI 0 n 10000 && decide (R.length ≤ 100) then some (.bool (riseB n R)) else none | _ => none
theorem rule36 {ov : Ov} (k : HasP ov 36 F36) {n : Int} (hn : 0 ≤ n ∧ n ≤ 10000) {u : Value} {R : List Int} (hlen : R.length ≤ 100) {w : AW} (hu : RowsV intC w u R) (m : Nat) : (run Tryd.prog ov (m + 1)).call 36 [u, .int .i64 n] w .none = .ok (.ret (.bool (riseB n R))) w .none := k.call (by
  simp [F36, hu.rowsIn (m := 1) intC_length intC_inj, inI, hn, hlen])
/-! the day of a plan -/
theorem fold_snoc' {α β : Type} {f : β → α → β} {l : List α} {i : Nat} {y : α} (h : l[i]? = some y) (s : β) : (l.take (i + 1)).foldl f s = f ((l.take i).foldl f s) y := by
  rw [List.take_add_one, h, List.foldl_append]
  rfl
theorem rule33m {ov : Ov} (h : HasP ov 33 F33) (n a b : Int) (m : Nat) (w : AW) : (run Tryd.prog ov (m + 1)).call 33 [.int .i64 n, .int .i64 a, .int .i64 b] w .none = .ok (.ret (.bool (inI a n b))) w .none := h.call rfl
end Go.Proofs.YtipglpmelgmelaaDoor.walk

namespace Go.Proofs.YtipglpmelgmelaaDoor.walk
open Go Go.Sh
open known (partsC laidL noOv)
set_option maxRecDepth 100000
set_option linter.unusedSimpArgs false
/-! offers: a pod in a market -/
theorem isList91 : isList Tryd.prog 91 = true := by kernel_rfl
theorem elem91 : elemA Tryd.prog 91 = some 114 := by kernel_rfl
theorem sz114 : szOf Tryd.prog 114 = some 11 := by kernel_rfl
theorem small114 : smallT Tryd.prog 114 = true := by kernel_rfl
theorem isList33r : isList Tryd.prog 33 = true := by kernel_rfl
theorem elem33r : elemA Tryd.prog 33 = some 3 := by kernel_rfl
theorem sz3r : szOf Tryd.prog 3 = some 1 := by kernel_rfl
theorem small3r : smallT Tryd.prog 3 = true := by kernel_rfl
@[simp] theorem intC_singles (z : Int) : singles (intC z) = true := by simp [intC]
structure Off where
  p : Pod
  lo : Int
  hi : Int
  i : Int
def offC (o : Off) : List Value := podC o.p ++ [.int .i64 o.lo, .int .i64 o.hi, .int .i64 o.i]
@[simp] theorem offC_length (o : Off) : (offC o).length = 11 := by simp [offC, podC]
@[simp] theorem offC_singles (o : Off) : singles (offC o) = true := by simp [offC, podC]
@[simp] theorem offC_take (o : Off) : (offC o).take 11 = offC o := by simp [offC, podC]
@[simp] theorem offC_drop (o : Off) : (offC o).drop 11 = [] := by simp [offC, podC]
@[simp] theorem offC_take8 (o : Off) : (offC o).take 8 = podC o.p := by simp [offC, podC]
@[simp] theorem offC_8 (o : Off) (h : 8 < (offC o).length) : (offC o)[8] = .int .i64 o.lo := by simp [offC, podC]
@[simp] theorem offC_9 (o : Off) (h : 9 < (offC o).length) : (offC o)[9] = .int .i64 o.hi := by simp [offC, podC]
@[simp] theorem offC_2 (o : Off) (h : 2 < (offC o).length) : (offC o)[2] = .int .i64 o.p.rl := by simp [offC, podC]
@[simp] theorem offC_4 (o : Off) (h : 4 < (offC o).length) : (offC o)[4] = .int .i64 o.p.hl := by simp [offC, podC]
@[simp] theorem offC_6 (o : Off) (h : 6 < (offC o).length) : (offC o)[6] = .int .i64 o.p.gl := by simp [offC, podC]
@[simp] theorem bd114p (p : Pod) (a b i : Int) (w : AW) : buildA Tryd.prog w 114 [(0, .agg ⟨podC p⟩), (1, .agg ⟨[.int .i64 a, .int .i64 b]⟩), (2, .int .i64 i)] = .val (.agg ⟨offC ⟨p, a, b, i⟩⟩) w := bd114_0_1_2 w _ _ _ _ _ _ _ _ _ _ _
@[simp] theorem bs91o (o : Off) (w : AW) : buildSliceA Tryd.prog w 91 1 [(0, .agg ⟨offC o⟩)] = .val (.slice (some ⟨w.next, 0, none⟩) 1 1) ⟨w.heap.put w.next (some (.cells (offC o) 114 false)), w.next + 1, w.lim⟩ := bd91_0_n1 w _ _ _ _ _ _ _ _ _ _ _
def podOfC (l : List Value) : Option Off := match l with
  | [.string t, .int .i64 a, .int .i64 b, .int .i64 c, .int .i64 d, .int .i64 e, .int .i64 f, .int .i64 g, .int .i64 lo, .int .i64 hi, .int .i64 i] => some ⟨⟨t, a, b, c, d, e, f, g⟩, lo, hi, i⟩
  | _ => none
theorem podOfC_C (o : Off) : podOfC (offC o) = some o := by
  obtain ⟨⟨t, a, b, c, d, e, f, g⟩, lo, hi, i⟩ := o
  rfl
theorem podOfC_some {l : List Value} {o : Off} (h : podOfC l = some o) : l = offC o := by
  unfold podOfC at h
  split at h
  · cases h; rfl
  · cases h
def oL (o : Off) : Int := max (winL o.p) o.lo
def oH (o : Off) : Int := min (winH o.p) o.hi
def oWin (o : Off) : Value := .agg ⟨[.int .i64 (oL o), .int .i64 (oH o)]⟩
theorem same_off (o : Off) : sameVal 5 (.agg ⟨offC o⟩) (.agg ⟨offC o⟩) = true := same_agg _ fun v hv => by
  simp only [offC, podC, List.cons_append, List.nil_append, List.mem_cons, List.not_mem_nil, or_false] at hv
  rcases hv with rfl | rfl | rfl | rfl | rfl | rfl | rfl | rfl | rfl | rfl | rfl <;> first | exact sameN_int _ _ _ | exact sameN_string _ _
noncomputable def F85 : PureF := fun args _ => match args with | [.agg ⟨l⟩] => (podOfC l).map oWin | _ => none
theorem rule85 {ov : Ov} (h : HasP ov 85 F85) (o : Off) (m : Nat) (w : AW) : (run Tryd.prog ov (m + 1)).call 85 [.agg ⟨offC o⟩] w .none = .ok (.ret (.agg ⟨[.int .i64 (oL o), .int .i64 (oH o)]⟩)) w .none := h.call (by simp [F85, podOfC_C, oWin])
theorem run85 {ov : Ov} (ho : ∀ args w, ov 85 args w = none) (h47 : HasP ov 47 F47) (o : Off) (w : AW) (hl : w.lim = w.next) : ∃ x w', (run Tryd.prog ov 2).call 85 [.agg ⟨offC o⟩] w .none = .ok (.ret x) w' .none ∧ x = oWin o := by
  refine call_wp text85 (by simp) (ho _ _) ?_
  have l1 : w.lim ≤ w.next + 1 := by omega
  have l2 : w.lim ≤ w.next + 2 := by omega
  have r47 := rule47 h47 o.p
  simp [mc85, r47, l1, l2, cellsOf_agg, tupV, oWin, oL, oH, least2, most2]
/-- the offers of the first k pods -/
def offsTo (l : List Pod) (lo hi : Int) : Nat → List Off
  | 0 => []
  | k + 1 => offsTo l lo hi k ++ (match l[k]? with | some p => (if oH ⟨p, lo, hi, k⟩ < oL ⟨p, lo, hi, k⟩ then [] else [⟨p, lo, hi, k⟩]) | none => [])
theorem offs_snoc {l : List Pod} {lo hi : Int} {k : Nat} {p : Pod} (h : l[k]? = some p) : offsTo l lo hi (k + 1) = offsTo l lo hi k ++ (if oH ⟨p, lo, hi, k⟩ < oL ⟨p, lo, hi, k⟩ then [] else [⟨p, lo, hi, k⟩]) := by
  show offsTo l lo hi k ++ _ = _
  rw [h]
theorem offs_mem {l : List Pod} {lo hi : Int} {o : Off} : ∀ {k : Nat}, o ∈ offsTo l lo hi k → ∃ j : Nat, j < k ∧ l[j]? = some o.p ∧ o.i = (j : Int) ∧ o.lo = lo ∧ o.hi = hi ∧ oL o ≤ oH o
  | 0, h => by simp [offsTo] at h
  | k + 1, h => by
    have h' : o ∈ offsTo l lo hi k ++ (match l[k]? with | some p => (if oH ⟨p, lo, hi, k⟩ < oL ⟨p, lo, hi, k⟩ then [] else [⟨p, lo, hi, k⟩]) | none => []) := h
    rcases List.mem_append.1 h' with h1 | h1
    · obtain ⟨j, a, b⟩ := offs_mem h1
      exact ⟨j, by omega, b⟩
    · split at h1
      · rename_i p hp
        split at h1
        · simp at h1
        · rename_i hn
          simp only [List.mem_singleton] at h1
          subst h1
          exact ⟨k, by omega, hp, rfl, rfl, rfl, by omega⟩
      · simp at h1
theorem offs_len {l : List Pod} {lo hi : Int} : ∀ k : Nat, (offsTo l lo hi k).length ≤ k
  | 0 => by simp [offsTo]
  | k + 1 => by
    have := offs_len (l := l) (lo := lo) (hi := hi) k
    show (offsTo l lo hi k ++ _).length ≤ _
    rw [List.length_append]
    have : ∀ x : Option Pod, (match x with | some p => (if oH ⟨p, lo, hi, k⟩ < oL ⟨p, lo, hi, k⟩ then [] else [(⟨p, lo, hi, (k : Int)⟩ : Off)]) | none => ([] : List Off)).length ≤ 1 := fun x => by
      cases x with
      | none => simp
      | some p => dsimp only; split <;> simp
    have := this l[k]?
    omega
theorem rule48m {ov : Ov} (h : HasP ov 48 F48) (a b : Int) (m : Nat) (w : AW) : (run Tryd.prog ov (m + 1)).call 48 [.agg ⟨[.int .i64 a, .int .i64 b]⟩] w .none = .ok (.ret (.bool (decide (b < a)))) w .none := h.call rfl
structure In61 (w0 : AW) (lo hi : Int) (v : Value) (acc : List Off) (w : AW) : Prop where
  base : Base w0.heap w0.next [.int .i64 lo, .int .i64 hi] 26 w
  acc : AccR offC 114 w0.next w v acc
  lm : w.lim = w0.lim
set_option maxHeartbeats 1000000 in
theorem loop61 {ov : Ov} (m : Nat) (h48 : HasP ov 48 F48) (h85 : HasP ov 85 F85) (l : List Pod) (lo hi : Int) (v : Value) (w0 : AW) (hv : PodsV w0 v l) (hlen : l.length ≤ 100)
    (Q : Ex → Tm → AW → Prop) (t : Tm) (w : AW) (hw : In61 w0 lo hi (.slice none 0 0) [] w)
    (t3 : tget t 3 = .pointer (some ⟨w0.next, 0, none⟩)) (t5 : tget t 5 = .slice none 0 0) (t9 : tget t 9 = v) (t10 : tget t 10 = .int .i64 (l.length : Nat)) (t11 : tget t 11 = .int .i64 0)
    (hQ : ∀ t w u, In61 w0 lo hi u (offsTo l lo hi l.length) w → tget t 5 = u → Q (.exit 0) t w) :
    wp (exM Tryd.prog (run Tryd.prog ov (m + 1)) (.loop mc61_l0) t w) Q := by
  refine wp_rounds (fun i t w => ∃ u, In61 w0 lo hi u (offsTo l lo hi i) w ∧ tget t 3 = .pointer (some ⟨w0.next, 0, none⟩) ∧ tget t 5 = u ∧ tget t 9 = v ∧ tget t 10 = .int .i64 (l.length : Nat) ∧ tget t 11 = .int .i64 (i : Nat) ∧ i ≤ l.length) 200 (by decide) ⟨_, hw, t3, t5, t9, t10, t11, Nat.zero_le _⟩ ?_
  clear t3 t5 t9 t10 t11 hw
  rintro i t w ⟨u, hw, t3, t5, t9, t10, t11, hi'⟩
  by_cases hlt : i < l.length
  · obtain ⟨p, hp⟩ : ∃ p, l[i]? = some p := ⟨_, List.getElem?_eq_getElem hlt⟩
    obtain ⟨b, sq, c, rfl, hpa⟩ := hv.at_ i hlt
    have hld := load_pod' hpa hp
    rw [← hw.base.old _ hpa.lt] at hld
    have n0 := hw.base.next
    have hlim := hw.base.lim
    have hbox := hw.base.box
    have hl1 : w.lim ≤ w.next := by omega
    have hl2 : w.lim ≤ w.next + 1 := by omega
    have m0 : ¬ b = w.next := by have := hpa.lt; omega
    have m4 : ¬ w0.next = w.next := by omega
    have m5 : ¬ w0.next = w.next + 1 := by omega
    have hia := fun w => ia22 w ⟨b, 0, sq⟩ l.length c .i64 i hlt
    have hw1 : IntKind.wrap .i64 ((i : Int) + 1) = (i : Int) + 1 := wrap64_in (by omega) (by omega)
    have hs := offs_snoc (lo := lo) (hi := hi) hp
    obtain ⟨o, ho⟩ : ∃ o : Off, o = ⟨p, lo, hi, (i : Int)⟩ := ⟨_, rfl⟩
    rw [← ho] at hs
    have hbd := fun w => bd114p p lo hi (i : Int) w
    rw [← ho] at hbd
    have r85 := fun w => rule85 h85 o m w
    have r48 := fun a b w => rule48m h48 a b m w
    obtain ⟨H1, hH1⟩ : ∃ H1, H1 = (((w.heap.put w.next (some (.cells [.string ⟨⟨[]⟩⟩, .int .i64 0, .int .i64 0, .int .i64 0, .int .i64 0, .int .i64 0, .int .i64 0, .int .i64 0] 30 false))).put w.next (some (.cells (podC p) 30 false))).put (w.next + 1) (some (.cells [.string ⟨⟨[]⟩⟩, .int .i64 0, .int .i64 0, .int .i64 0, .int .i64 0, .int .i64 0, .int .i64 0, .int .i64 0, .int .i64 0, .int .i64 0, .int .i64 0] 114 false))).put (w.next + 1) (some (.cells (offC o) 114 false)) := ⟨_, rfl⟩
    have k1 : ∀ x, x < w.next → H1.get x = w.heap.get x := fun x hx => by
      rw [hH1, get_put, if_neg (by omega), get_put, if_neg (by omega), get_put, if_neg (by omega), get_put, if_neg (by omega)]
    have hacc1 : AccR offC 114 w0.next ⟨H1, w.next + 1 + 1, w.lim⟩ u (offsTo l lo hi i) := hw.acc.keep (fun x _ hx => k1 x hx) (by show w.next ≤ w.next + 1 + 1; omega)
    have hb1 : ∀ w' : AW, (∀ x, x ≤ w0.next → w'.heap.get x = H1.get x) → w.next ≤ w'.next → w'.lim = w.lim → Base w0.heap w0.next [.int .i64 lo, .int .i64 hi] 26 w' := fun w' a1 a2 a3 => ⟨fun x hx => by rw [a1 x (by omega), k1 x (by omega)]; exact hw.base.old x hx, by rw [a1 _ (Nat.le_refl _), k1 _ n0]; exact hbox, by omega, by rw [a3]; exact hlim⟩
    by_cases hE : oH o < oL o
    · rw [if_pos hE, List.append_nil] at hs
      simp [mc61_l0, t3, t5, t9, t10, t11, hlt, hia, hld, hl1, hl2, m0, m4, m5, hbox, cellsOf_agg, hbd, r85, r48, hE, hw1, -bd114p]
      rw [hs, ← hH1]
      refine ⟨by omega, u, ⟨hb1 _ (fun _ _ => rfl) (by show w.next ≤ w.next + 1 + 1; omega) rfl, hacc1, hw.lm⟩, ?_⟩
      simp [t5]; omega
    · rw [if_neg hE] at hs
      obtain ⟨v', w', ha, hacc', ho', hn, hl⟩ := hacc1.push isList91 elem91 sz114 small114 offC_length offC_singles (by decide) hlim (by show w0.next < w.next + 1 + 1; omega) (by have := offs_len (l := l) (lo := lo) (hi := hi) i; omega) o
      rw [hH1] at ha
      simp [mc61_l0, t3, t5, t9, t10, t11, hlt, hia, hld, hl1, hl2, m0, m4, m5, hbox, cellsOf_agg, hbd, r85, r48, hE, hw1, ha, -bd114p]
      rw [hs]
      exact ⟨by omega, v', ⟨hb1 _ ho' (by have : w.next + 1 + 1 ≤ w'.next := hn; omega) hl, hacc', hl.trans hw.lm⟩, rfl, hlt⟩
  · have hi'' : i = l.length := by omega
    subst hi''
    simp [mc61_l0, t10, t11]
    exact hQ _ _ _ hw (by simp [t5])
theorem call61 {ov : Ov} (m : Nat) (ho : ∀ args w, ov 61 args w = none) (h48 : HasP ov 48 F48) (h85 : HasP ov 85 F85) (l : List Pod) (lo hi : Int) (v : Value) (w : AW) (hv : PodsV w v l) (hlen : l.length ≤ 100) (hl : w.lim ≤ w.next) :
    ∃ x w', (run Tryd.prog ov (m + 2)).call 61 [v, .agg ⟨[.int .i64 lo, .int .i64 hi]⟩] w .none = .ok (.ret x) w' .none ∧ AccR offC 114 w.next w' x (offsTo l lo hi l.length) ∧ Old w.next w.heap w'.heap ∧ w.next < w'.next ∧ w'.lim = w.lim := by
  refine call_wp text61 (by simp) (ho _ _) ?_
  have hl1 := len22V hv
  simp [mc61, hl1]
  refine wp_seqX (wp_blockX (loop61 m h48 h85 l lo hi v w hv hlen _ _ _ ⟨⟨?_, ?_, ?_, ?_⟩, .nil, ?_⟩ ?_ ?_ ?_ ?_ ?_ ?_))
  case _ => exact (Old.refl _ _).put (Nat.le_refl _)
  case _ => simp
  case _ => simp
  case _ => exact hl
  case _ => rfl
  case _ => simp
  case _ => simp
  case _ => simp
  case _ => simp
  case _ => simp
  case _ =>
    intro t w' u hw t5
    have nj := hw.acc.ok
    simp [t5, tupV, nj]
    exact ⟨hw.acc, hw.base.old, hw.base.next, hw.lm⟩
end Go.Proofs.YtipglpmelgmelaaDoor.walk

namespace Go.Proofs.YtipglpmelgmelaaDoor.walk
open Go Go.Sh
open known (partsC laidL noOv)
set_option maxRecDepth 100000
set_option linter.unusedSimpArgs false
/-! what an offer yields at least -/
def grI (p : Pod) : Int := p.gl * p.rl / 100
def grY (p : Pod) : Yl := ⟨grI p, 0, 0, 0⟩
theorem win_eq {p : Pod} (h : podB p = true) : winL p = p.born + p.rh ∧ winH p = p.born + p.rl + p.hl - 1 := by
  have k := pod_ok h
  have := k.born0; have := k.born1; have := k.r0; have := k.r1; have := k.r2; have := k.h0; have := k.h1; have := k.h2
  unfold winL winH
  rw [wrap64_in (n := p.born + p.rh) (by omega) (by omega), wrap64_in (n := p.born + p.rl) (by omega) (by omega), wrap64_in (n := p.born + p.rl + p.hl) (by omega) (by omega), wrap64_in (n := p.born + p.rl + p.hl - 1) (by omega) (by omega)]
  exact ⟨rfl, rfl⟩
@[simp] theorem bd106 (a b c : Int) (w : AW) : buildA Tryd.prog w 106 [(0, .int .i64 a), (1, .int .i64 b), (2, .int .i64 c)] = .val (.agg ⟨[.int .i64 a, .int .i64 b, .int .i64 c]⟩) w := by kernel_rfl
@[simp] theorem fd26_0 (a b : Int) (w : AW) : fieldA Tryd.prog w 26 0 (.agg ⟨[.int .i64 a, .int .i64 b]⟩) = .val (.int .i64 a) w := by kernel_rfl
@[simp] theorem fd26_1 (a b : Int) (w : AW) : fieldA Tryd.prog w 26 1 (.agg ⟨[.int .i64 a, .int .i64 b]⟩) = .val (.int .i64 b) w := by kernel_rfl
@[simp] theorem fd41_0 (a b c d e f : Int) (w : AW) : fieldA Tryd.prog w 41 0 (.agg ⟨[.int .i64 a, .int .i64 b, .int .i64 c, .int .i64 d, .int .i64 e, .int .i64 f]⟩) = .val (.agg ⟨[.int .i64 a, .int .i64 b]⟩) w := by kernel_rfl
end Go.Proofs.YtipglpmelgmelaaDoor.walk

namespace Go.Proofs.YtipglpmelgmelaaDoor.walk
open Go Go.Sh
open known (partsC laidL noOv)
set_option maxRecDepth 100000
set_option linter.unusedSimpArgs false
/-! what a market yields at least -/
def offY (o : Off) : Yl := grY o.p
def sureL (l : List Pod) (lo hi : Int) : List Yl := (offsTo l lo hi l.length).map offY
def sureY (l : List Pod) (lo hi : Int) : Yl := sumYl (sureL l lo hi)
structure In86 (w0 : AW) (N : Nat) (v : Value) (acc : List Yl) (w : AW) : Prop where
  old : ∀ x, x ≤ N → w.heap.get x = w0.heap.get x
  acc : AccR ylC 37 N w v acc
  next : N < w.next
  lm : w.lim = w0.lim
theorem take_snoc {α : Type} {l : List α} {i : Nat} {a : α} (h : l[i]? = some a) : l.take (i + 1) = l.take i ++ [a] := by rw [List.take_add_one, h]; rfl
theorem len91V {w0 : AW} {u : Value} {os : List Off} (h : RowsV offC w0 u os) (w : AW) : lenB Tryd.prog w 91 u = .val (.int .i64 (os.length : Nat)) w := by
  obtain ⟨a, c, rfl⟩ := h.len
  exact len91 w a _ c
end Go.Proofs.YtipglpmelgmelaaDoor.walk

namespace Go.Proofs.YtipglpmelgmelaaDoor.walk
open Go Go.Sh
open known (partsC laidL noOv)
set_option maxRecDepth 100000
set_option linter.unusedSimpArgs false
/-! the specification's side: in, Served, sure -/
def servL (l : List Pod) (lo hi : Int) (k : Nat) : List Int := (offsTo l lo hi k).map Off.i
@[simp] theorem bs33i (z : Int) (w : AW) : buildSliceA Tryd.prog w 33 1 [(0, .int .i64 z)] = .val (.slice (some ⟨w.next, 0, none⟩) 1 1) ⟨w.heap.put w.next (some (.cells (intC z) 3 false)), w.next + 1, w.lim⟩ := bd33_0_n1 w z
structure In62 (w0 : AW) (lo hi : Int) (v : Value) (acc : List Int) (w : AW) : Prop where
  base : Base w0.heap w0.next [.int .i64 lo, .int .i64 hi] 26 w
  acc : AccR intC 3 w0.next w v acc
  lm : w.lim = w0.lim
end Go.Proofs.YtipglpmelgmelaaDoor.walk

namespace Go.Proofs.YtipglpmelgmelaaDoor.walk
open Go Go.Sh
open known (partsC laidL noOv)
set_option maxRecDepth 100000
set_option linter.unusedSimpArgs false
/-! the best opening -/
def sg (l : List Pod) (a n : Int) (i : Nat) : Int := (sureY l (a + i) (a + i + n - 1)).ripe
structure In68 (w0 : AW) (a b : Int) (x : Int) (w : AW) : Prop where
  base : Base w0.heap w0.next [.int .i64 a, .int .i64 b] 26 w
  best : w.heap.get (w0.next + 1) = some (.cells [.int .i64 x, .int .i64 0, .int .i64 0, .int .i64 0] 37 false)
  next : w0.next + 1 < w.next
end Go.Proofs.YtipglpmelgmelaaDoor.walk
