/- Part of a proof by a machine of ones own: see the text with the theorem. -/
import Derived.Test.YtbbbgaiaigdngaaGreatDoorXWb
namespace Go.Proofs.YtbbbgaiaigdngaaGreatDoor.walk
open Go Go.Sh
set_option maxRecDepth 100000
set_option linter.unusedSimpArgs false
def heatB (s : Sea) (warm shade : Int) : Bool := inI 0 warm 50 && (inI 0 s.base 50 && inI 0 shade 100)
theorem heatB_ok {s : Sea} {warm shade : Int} (h : heatB s warm shade = true) : HeatOk s warm shade := by
  simp only [heatB, inI, Bool.and_eq_true, decide_eq_true_eq] at h
  exact ⟨h.1.1, h.1.2, h.2.1.1, h.2.1.2, h.2.2.1, h.2.2.2⟩
noncomputable def F77 : PureF := fun args w => match args with | [.agg ⟨[_, .int .i64 a, .int .i64 b, .int .i64 c, .int .i64 d, .int .i64 e, .int .i64 f, .int .i64 g, _, sv]⟩, .int .i64 day, .int .i64 warm, .int .i64 rain] => (rowsIn intC w sv).bind fun L => bif decide (0 ≤ day) then (L[day.toNat]?).bind fun shade => bif heatB ⟨a, b, c, d, e, f, g⟩ warm shade then some (.int .i64 (heatI ⟨a, b, c, d, e, f, g⟩ warm rain shade)) else none else none | _ => none
theorem rule77 {ov : Ov} (k : HasP ov 77 F77) (s : Sea) (dv cv : Value) {sv : Value} {L : List Int} {i : Nat} {warm shade : Int} (rain : Int) {w : AW} (hL : RowsV intC w sv L) (hz : L[i]? = some shade) (h : heatB s warm shade = true) (m : Nat) : (run Tryz.prog ov (m + 1)).call 77 [.agg ⟨yearC s dv cv sv⟩, .int .i64 (i : Nat), .int .i64 warm, .int .i64 rain] w .none = .ok (.ret (.int .i64 (heatI s warm rain shade))) w .none := k.call (by
  unfold F77 yearC
  have e : decide (0 ≤ (i : Int)) = true := by simp
  simp only [hL.rowsIn (m := 1) intC_length intC_inj, Option.bind_some, e, cond_true, Int.toNat_natCast, hz]
  show (bif heatB s warm shade then _ else _) = _
  rw [h]; rfl)
/-- the heats of all days -/
def htL (s : Sea) (S W R : List Int) : Nat → List Int
  | 0 => []
  | d + 1 => htL s S W R d ++ [match S[d]?, W[d]?, R[d]? with | some z, some a, some b => heatI s a b z | _, _, _ => 0]
theorem htL_length (s : Sea) (S W R : List Int) : ∀ n, (htL s S W R n).length = n
  | 0 => rfl
  | n + 1 => by simp [htL, htL_length s S W R n]
structure In48 (w0 : AW) (s : Sea) (dv cv sv wv rv : Value) (n : Nat) (L : List Int) (w : AW) : Prop where
  old : Old w0.next w0.heap w.heap
  box : w.heap.get w0.next = some (.cells (yearC s dv cv sv) 58 false)
  wea : w.heap.get (w0.next + 1) = some (.cells [wv, rv] 41 false)
  row : w.heap.get (w0.next + 2) = some (.cells (L.flatMap intC) 3 false)
  next : w0.next + 2 < w.next
  lim : w.lim = w0.lim
  len : L.length = n
theorem loop48 {ov : Ov} (m : Nat) (h53 : HasP ov 77 F77) (s : Sea) (n : Nat) (h40 : n ≤ 40) (S W R : List Int) (hS : S.length = n) (hW : W.length = n) (hR : R.length = n) (hok : ∀ (i : Nat) (a z : Int), W[i]? = some a → S[i]? = some z → heatB s a z = true) (dv cv sv wv rv : Value) (w0 : AW) (hl0 : w0.lim ≤ w0.next) (hs : RowsV intC w0 sv S) (hw' : RowsV intC w0 wv W) (hr' : RowsV intC w0 rv R) (L0 : List Int)
    (Q : Ex → Tm → AW → Prop) (t : Tm) (w : AW) (hw : In48 w0 s dv cv sv wv rv n L0 w)
    (t2 : tget t 2 = .pointer (some ⟨w0.next, 0, none⟩)) (t3 : tget t 3 = .pointer (some ⟨w0.next + 1, 0, none⟩)) (t5 : tget t 5 = .slice (some ⟨w0.next + 2, 0, none⟩) n n) (t15 : tget t 15 = .int .i64 (n : Nat)) (t16 : tget t 16 = .int .i64 0)
    (hQ : ∀ t w L, In48 w0 s dv cv sv wv rv n L w → (∀ d, d < n → L[d]? = (htL s S W R n)[d]?) → tget t 5 = .slice (some ⟨w0.next + 2, 0, none⟩) n n → Q (.exit 0) t w) :
    wp (exM Tryz.prog (run Tryz.prog ov (m + 1)) (.loop mc48_l0) t w) Q := by
  have at_ : ∀ (k d : Nat) (a b z : Int), d < k → W[d]? = some a → R[d]? = some b → S[d]? = some z → (htL s S W R k)[d]? = some (heatI s a b z) := by
    intro k
    induction k with
    | zero => intro d a b z h; omega
    | succ k ih =>
      intro d a b z h h1 h2 h3
      show (htL s S W R k ++ [_])[d]? = _
      by_cases e : d < k
      · rw [List.getElem?_append_left (by rw [htL_length]; exact e), ih d a b z e h1 h2 h3]
      · have e' : d = k := by omega
        rw [List.getElem?_append_right (by rw [htL_length]; omega), htL_length, e', Nat.sub_self]
        subst e'
        simp [h1, h2, h3]
  refine wp_rounds (fun i t w => (∃ L, In48 w0 s dv cv sv wv rv n L w ∧ ∀ d, d < i → L[d]? = (htL s S W R n)[d]?) ∧ tget t 2 = .pointer (some ⟨w0.next, 0, none⟩) ∧ tget t 3 = .pointer (some ⟨w0.next + 1, 0, none⟩) ∧ tget t 5 = .slice (some ⟨w0.next + 2, 0, none⟩) n n ∧ tget t 15 = .int .i64 (n : Nat) ∧ tget t 16 = .int .i64 (i : Nat) ∧ i ≤ n) 200 (by decide)
    ⟨⟨_, hw, fun d hd => by omega⟩, t2, t3, t5, t15, by simpa using t16, Nat.zero_le _⟩ ?_
  clear t2 t3 t5 t15 t16 hw
  rintro i t w ⟨⟨L, hw, hL⟩, t2, t3, t5, t15, t16, hi⟩
  by_cases hlt : i < n
  · obtain ⟨a, ha⟩ : ∃ d, W[i]? = some d := ⟨_, List.getElem?_eq_getElem (by omega)⟩
    obtain ⟨b, hb⟩ : ∃ d, R[i]? = some d := ⟨_, List.getElem?_eq_getElem (by omega)⟩
    obtain ⟨z, hz⟩ : ∃ d, S[i]? = some d := ⟨_, List.getElem?_eq_getElem (by omega)⟩
    have hnx := hw.next
    have hlm := hw.lim
    have r53 := rule77 h53 s dv cv b (hs.old hw.old (by omega)) hz (hok i a z ha hz) m
    obtain ⟨b1, o1, q1, c1, rfl, hr1⟩ := hw'.at_ i (by omega)
    obtain ⟨b2, o2, q2, c2, rfl, hr2⟩ := hr'.at_ i (by omega)
    have hla := hr1.int ha
    have hlb := hr2.int hb
    rw [← hw.old _ hr1.2] at hla
    rw [← hw.old _ hr2.2] at hlb
    have hi1 := fun w => ia27 w ⟨b1, o1, q1⟩ W.length c1 .i64 i (by omega)
    have hi2 := fun w => ia27 w ⟨b2, o2, q2⟩ R.length c2 .i64 i (by omega)
    have hi3 := fun w => ia27 w ⟨w0.next + 2, 0, none⟩ n n .i64 i hlt
    have hw1 : IntKind.wrap .i64 ((i : Int) + 1) = (i : Int) + 1 := wrap64_in (by omega) (by omega)
    have hbox := hw.box
    have hwea := hw.wea
    have hrow := hw.row
    have l2 : w.lim ≤ w0.next + 2 := by omega
    obtain ⟨x, hx⟩ : ∃ x, x = heatI s a b z := ⟨_, rfl⟩
    rw [← hx] at r53
    have hset := flat_set intC_length L i x (by have := hw.len; omega)
    have hfl : (L.flatMap intC).length = n := by rw [flat_length intC_length, hw.len]; omega
    obtain ⟨cs, hcs⟩ : ∃ cs, cs = L.flatMap intC := ⟨_, rfl⟩
    rw [← hcs] at hset hfl hrow
    simp only [Nat.mul_one, intC, List.cons_append, List.nil_append] at hset
    have hfit : i + 1 ≤ n := hlt
    simp only [Nat.zero_add, yearC] at r53
    unfold yearC at hbox
    simp [mc48_l0, t2, t3, t5, t15, t16, hlt, hbox, hwea, hi1, hi2, hi3, hla, hlb, r53, hrow, hfl, hfit, hset, l2, hw1]
    refine ⟨by omega, L.set i x, ⟨hw.old.put (by omega), ?_, ?_, ?_, by show w0.next + 2 < w.next; omega, hlm, by rw [List.length_set]; exact hw.len⟩, fun d hd => ?_⟩
    · simp [hw.box]
    · simp [hw.wea]
    · simp
    · by_cases e : d = i
      · subst e
        rw [List.getElem?_set_self (by have := hw.len; omega), at_ n d a b z hlt ha hb hz, hx]
      · rw [List.getElem?_set_ne (Ne.symm e), hL d (by omega)]
  · have hi' : i = n := by omega
    subst hi'
    simp [mc48_l0, t15, t16]
    exact hQ _ _ L hw hL (by simp [t5])
set_option maxHeartbeats 1000000 in
theorem call48 {ov : Ov} (m : Nat) (ho : ∀ args w, ov 48 args w = none) (h53 : HasP ov 77 F77) (s : Sea) (l : List Day) (h40 : l.length ≤ 40) (S W R : List Int) (hS : S.length = l.length) (hW : W.length = l.length) (hR : R.length = l.length) (hok : ∀ (i : Nat) (a z : Int), W[i]? = some a → S[i]? = some z → heatB s a z = true) (dv cv sv wv rv : Value) (w : AW) (hl : w.lim ≤ w.next) (hv : RowsV dayC w dv l) (hs : RowsV intC w sv S) (hw : RowsV intC w wv W) (hr : RowsV intC w rv R) :
    ∃ x w', (run Tryz.prog ov (m + 2)).call 48 [.agg ⟨yearC s dv cv sv⟩, .agg ⟨[wv, rv]⟩] w .none = .ok (.ret x) w' .none ∧ RowsV intC w' x (htL s S W R l.length) ∧ Old w.next w.heap w'.heap ∧ w.next ≤ w'.next ∧ w'.lim = w.lim := by
  refine call_wp text48 (by simp) (ho _ _) ?_
  have hld := len22V hv
  have hmk := fun w => mk27 l.length (by omega) w
  simp [mc48, yearC, hld, hmk]
  refine wp_seqX (wp_blockX (loop48 m h53 s l.length h40 S W R hS hW hR hok dv cv sv wv rv w hl hs hw hr (List.replicate l.length 0) _ _ _ ⟨?_, ?_, ?_, ?_, ?_, ?_, ?_⟩ ?_ ?_ ?_ ?_ ?_ ?_))
  case _ =>
    intro b hb
    simp [show ¬ b = w.next by omega, show ¬ b = w.next + 1 by omega, show ¬ b = w.next + 2 by omega]
  case _ => simp [yearC]
  case _ => simp
  case _ => simp
  case _ => simp
  case _ => rfl
  case _ => simp
  case _ => simp
  case _ => simp
  case _ => simp
  case _ => simp
  case _ => simp
  case _ =>
    intro t w' L hI hL t5
    have e : L = htL s S W R l.length := by
      apply List.ext_getElem?
      intro d
      by_cases hd : d < l.length
      · exact hL d hd
      · rw [List.getElem?_eq_none (by rw [hI.len]; omega), List.getElem?_eq_none (by rw [htL_length]; omega)]
    have hnx := hI.next
    have hrow := hI.row
    rw [e] at hrow
    simp [t5, tupV]
    exact ⟨.inr ⟨w.next + 2, 0, none, l.length, by rw [htL_length], ⟨[], [], 3, false, by rw [hrow]; simp, rfl⟩, hnx⟩, hI.old, by omega, hI.lim⟩
end Go.Proofs.YtbbbgaiaigdngaaGreatDoor.walk

namespace Go.Proofs.YtbbbgaiaigdngaaGreatDoor.walk
open Go Go.Sh
set_option maxRecDepth 100000
set_option linter.unusedSimpArgs false
/-! the heats, as the specification says them -/
structure In31 (w0 : AW) (k : Nat) (v : Value) (acc : List Int) (B : Nat) (w : AW) : Prop where
  old : Old w0.next w0.heap w.heap
  acc : AccI k w v acc B
  next : w0.next ≤ w.next
  lim : w.lim = w0.lim
theorem rows_same {α : Type} {f : α → List Value} {w : AW} {v : Value} {l : List α} (h : RowsV f w v l) : sameVal 4 v v = true := by
  obtain ⟨a, c, rfl⟩ := h.len
  exact sameN_slice 3 _ _ _
end Go.Proofs.YtbbbgaiaigdngaaGreatDoor.walk

namespace Go.Proofs.YtbbbgaiaigdngaaGreatDoor.walk
open Go Go.Sh
set_option maxRecDepth 100000
set_option linter.unusedSimpArgs false
theorem day_of {l : List Day} : ∀ n, daysTo l n = true → ∀ i d, i < n → l[i]? = some d → dayB d = true
  | 0, _, i, d, h, _ => by omega
  | n + 1, h, i, d, hi, hd => by
    have h' : (daysTo l n && (match l[n]? with | some d => dayB d | none => true)) = true := h
    rw [Bool.and_eq_true] at h'
    rcases Nat.lt_or_eq_of_le (Nat.le_of_lt_succ hi) with h1 | h1
    · exact day_of n h'.1 i d h1 hd
    · subst h1
      have := h'.2
      rw [hd] at this
      exact this
theorem tr_of {l : List Day} {W R : List Int} : ∀ n, trTo l W R n = true → ∀ i d a b, i < n → l[i]? = some d → W[i]? = some a → R[i]? = some b → inI d.wl a d.wh = true ∧ inI d.rl b d.rh = true
  | 0, _, i, d, a, b, h, _, _, _ => by omega
  | n + 1, h, i, d, a, b, hi, hd, ha, hb => by
    have h' : (trTo l W R n && (match l[n]?, W[n]?, R[n]? with | some d, some a, some b => inI d.wl a d.wh && inI d.rl b d.rh | _, _, _ => true)) = true := h
    rw [Bool.and_eq_true] at h'
    rcases Nat.lt_or_eq_of_le (Nat.le_of_lt_succ hi) with h1 | h1
    · exact tr_of n h'.1 i d a b h1 hd ha hb
    · subst h1
      have := h'.2
      rw [hd, ha, hb] at this
      simpa using this
theorem tr_lens {l : List Day} {W R : List Int} (h : trB l W R = true) : W.length = l.length ∧ R.length = l.length ∧ trTo l W R l.length = true := by
  simpa only [trB, Bool.and_eq_true, decide_eq_true_eq] using h
theorem shL_at (s : Sea) (c : List Int) : ∀ n d, d < n → (shL s c n)[d]? = some (shB s c (d + 1))
  | 0, d, hd => by omega
  | n + 1, d, hd => by
    show (shL s c n ++ [_])[d]? = _
    by_cases e : d < n
    · rw [List.getElem?_append_left (by rw [shL_length]; exact e), shL_at s c n d e]
    · have e' : d = n := by omega
      rw [List.getElem?_append_right (by rw [shL_length]; omega), shL_length, e', Nat.sub_self]
      rfl
theorem heat_ok {s : Sea} {l : List Day} {c W R : List Int} (hE : seaE s l c = 0) (hT : trB l W R = true) : ∀ (i : Nat) (a z : Int), W[i]? = some a → (shL s c l.length)[i]? = some z → heatB s a z = true := by
  intro i a z ha hz
  obtain ⟨hd, hcB, hs, hb, hwet⟩ := sea_zero hE
  obtain ⟨e1, e2, ht⟩ := tr_lens hT
  have hil : i < l.length := by
    have := (List.getElem?_eq_some_iff.1 ha).1
    omega
  have hz' := shL_at s c l.length i hil
  rw [hz] at hz'
  cases hz'
  have bd := shB_bd hs c (i + 1)
  have bd0 := bd.2.2 (Nat.succ_pos _)
  have hdd : daysTo l l.length = true := by
    simp only [daysB, Bool.and_eq_true] at hd
    exact hd.2.2
  have hday := day_of _ hdd i _ hil (List.getElem?_eq_getElem hil)
  have htr := (tr_of _ ht i _ a _ hil (List.getElem?_eq_getElem hil) ha (List.getElem?_eq_getElem (by omega : i < R.length))).1
  simp only [dayB, spanB, Bool.and_eq_true, decide_eq_true_eq] at hday
  simp only [inI, Bool.and_eq_true, decide_eq_true_eq] at htr hb
  simp only [heatB, inI, Bool.and_eq_true, decide_eq_true_eq]
  omega
/-! Heats -/
def heE (s : Sea) (l : List Day) (c W R : List Int) : Int := if seaE s l c = 0 then (if trB l W R = true then 0 else 13) else seaE s l c
def heV (s : Sea) (l : List Day) (c W R : List Int) : List Int := if seaE s l c = 0 ∧ trB l W R = true then htL s (shL s c l.length) W R l.length else []
end Go.Proofs.YtbbbgaiaigdngaaGreatDoor.walk

namespace Go.Proofs.YtbbbgaiaigdngaaGreatDoor.walk
open Go Go.Sh
set_option maxRecDepth 100000
set_option linter.unusedSimpArgs false
theorem wea_same {wv rv : Value} (h1 : sameVal 4 wv wv = true) (h2 : sameVal 4 rv rv = true) : sameVal 5 (.agg ⟨[wv, rv]⟩) (.agg ⟨[wv, rv]⟩) = true := same_agg _ fun v hv => by
    simp only [List.mem_cons, List.not_mem_nil, or_false] at hv
    rcases hv with rfl | rfl
    · exact h1
    · exact h2
/-- a year and its heats -/
theorem year_heats {ov : Ov} (m : Nat) (ho19 : ∀ args w, ov 21 args w = none) (ho29 : ∀ args w, ov 48 args w = none) (h47 : HasP ov 51 F51) (h48 : HasP ov 52 F52) (h53 : HasP ov 77 F77) (s : Sea) (l : List Day) (c W R : List Int) (hE : seaE s l c = 0) (hT : trB l W R = true) (dv cv wv rv : Value) (w : AW) (hl : w.lim ≤ w.next) (hv : RowsV dayC w dv l) (hu : RowsV intC w cv c) (hw : RowsV intC w wv W) (hr : RowsV intC w rv R) :
    ∃ y w1 x w2, (run Tryz.prog ov (m + 2)).call 21 [.agg ⟨seaC s dv cv⟩] w .none = .ok (.ret y) w1 .none ∧ (run Tryz.prog ov (m + 2)).call 48 [y, .agg ⟨[wv, rv]⟩] w1 .none = .ok (.ret x) w2 .none ∧ RowsV intC w2 x (htL s (shL s c l.length) W R l.length) ∧ Old w.next w.heap w1.heap ∧ w.next ≤ w1.next ∧ Old w.next w.heap w2.heap ∧ w.next ≤ w2.next ∧ w2.lim = w.lim := by
  obtain ⟨hd, hcB, hs, _, _⟩ := sea_zero hE
  obtain ⟨e1, e2, _⟩ := tr_lens hT
  have h40 := (days_len hd).2
  have hcl := cuts_len (by omega) hcB
  obtain ⟨y, w1, h1, B, rfl, k1, k2, k3, ho', hn, hlm⟩ := call21 m ho19 h47 h48 s hs l h40 c hcB (by omega) dv cv w hl hv hu
  have hS : RowsV intC w1 (.slice (some ⟨B, 0, none⟩) l.length l.length) (shL s c l.length) := .inr ⟨B, 0, none, l.length, by rw [shL_length], ⟨[], [], 3, false, by rw [k1]; simp, rfl⟩, k3⟩
  obtain ⟨x, w2, h2, hx, o2, n2, l2⟩ := call48 m ho29 h53 s l h40 (shL s c l.length) W R (shL_length _ _ _) e1 e2 (heat_ok hE hT) dv cv _ wv rv w1 (by omega) (hv.old ho' hn) hS (hw.old ho' hn) (hr.old ho' hn)
  exact ⟨_, w1, x, w2, h1, h2, hx, ho', hn, ho'.trans o2 hn, by omega, by omega⟩
theorem row_notJunk {α : Type} {f : α → List Value} {w : AW} {v : Value} {l : List α} (h : RowsV f w v l) : notJunk v = some v := by
  obtain ⟨a, c, rfl⟩ := h.len
  rfl
set_option maxHeartbeats 1000000 in
theorem call14 {ov : Ov} (m : Nat) (ho : ∀ args w, ov 14 args w = none) (ho19 : ∀ args w, ov 21 args w = none) (ho29 : ∀ args w, ov 48 args w = none) (h8 : HasP ov 43 F43) (h28 : HasP ov 46 F46) (h47 : HasP ov 51 F51) (h48 : HasP ov 52 F52) (h53 : HasP ov 77 F77) (s : Sea) (l : List Day) (c W R : List Int) (dv cv wv rv : Value) (w : AW) (hl : w.lim ≤ w.next) (hv : RowsV dayC w dv l) (hu : RowsV intC w cv c) (hw : RowsV intC w wv W) (hr : RowsV intC w rv R) :
    ∃ x w', (run Tryz.prog ov (m + 3)).call 14 [.agg ⟨seaC s dv cv⟩, .agg ⟨[wv, rv]⟩] w .none = .ok (.ret x) w' .none ∧ ∃ v, x = .tuple ⟨[v, .int .i64 (heE s l c W R)]⟩ ∧ RowsV intC w' v (heV s l c W R) ∧ Old w.next w.heap w'.heap ∧ w.next ≤ w'.next ∧ w'.lim = w.lim := by
  refine call_wp text14 (by simp) (ho _ _) ?_
  have o1 : Old w.next w.heap ((w.heap.put w.next (some (.cells (seaC s dv cv) 29 false))).put (w.next + 1) (some (.cells [wv, rv] 41 false))) := ((Old.refl _ _).put (Nat.le_refl _)).put (Nat.le_succ _)
  have n1 : w.next ≤ w.next + 1 + 1 := by omega
  have hv1 : RowsV dayC ⟨(w.heap.put w.next (some (.cells (seaC s dv cv) 29 false))).put (w.next + 1) (some (.cells [wv, rv] 41 false)), w.next + 1 + 1, w.lim⟩ dv l := hv.old o1 n1
  have hu1 : RowsV intC ⟨(w.heap.put w.next (some (.cells (seaC s dv cv) 29 false))).put (w.next + 1) (some (.cells [wv, rv] 41 false)), w.next + 1 + 1, w.lim⟩ cv c := hu.old o1 n1
  have hw1 : RowsV intC ⟨(w.heap.put w.next (some (.cells (seaC s dv cv) 29 false))).put (w.next + 1) (some (.cells [wv, rv] 41 false)), w.next + 1 + 1, w.lim⟩ wv W := hw.old o1 n1
  have hr1 : RowsV intC ⟨(w.heap.put w.next (some (.cells (seaC s dv cv) 29 false))).put (w.next + 1) (some (.cells [wv, rv] 41 false)), w.next + 1 + 1, w.lim⟩ rv R := hr.old o1 n1
  have r8 := rule43 (f := 43) (s := s) h8 hv1 hu1 (m + 1)
  have svw := wea_same (rows_same hw) (rows_same hr)
  by_cases hE : seaE s l c = 0
  · obtain ⟨hd, hcB, hs, _, _⟩ := sea_zero hE
    have h40 := (days_len hd).2
    have r28 := rule46 (f := 46) (s := s) (cv := cv) h28 h40 hv1 hw1 hr1 (m + 1)
    cases hT : trB l W R with
    | false =>
      rw [hE] at r8
      rw [hT] at r28
      simp only [seaC] at r8 r28
      simp [mc14, seaC, r8, r28, tupV, heE, heV, hE, hT]
      exact .inl ⟨rfl, _, _, rfl⟩
    | true =>
      obtain ⟨y, wa, x, w2, ha, hb, hx, oa, na, o2, n2, l2⟩ := year_heats m ho19 ho29 h47 h48 h53 s l c W R hE hT dv cv wv rv _ (by show w.lim ≤ w.next + 1 + 1; omega) hv1 hu1 hw1 hr1
      have g1 : wa.heap.get (w.next + 1) = some (.cells [wv, rv] 41 false) := by
        rw [oa (w.next + 1) (by show w.next + 1 < w.next + 1 + 1; omega)]; simp
      have n2' : w.next + 1 + 1 ≤ w2.next := n2
      have l2' : w2.lim = w.lim := l2
      have nj := row_notJunk hx
      rw [hE] at r8
      rw [hT] at r28
      simp only [seaC] at r8 r28 ha
      simp [mc14, seaC, r8, r28, ha, hb, g1, svw, nj, tupV, heE, heV, hE, hT]
      exact ⟨hx, o1.trans o2 n1, by omega, l2'⟩
  · simp only [seaC] at r8
    simp [mc14, seaC, r8, tupV, heE, heV, hE]
    exact .inl ⟨rfl, _, _, rfl⟩
end Go.Proofs.YtbbbgaiaigdngaaGreatDoor.walk

namespace Go.Proofs.YtbbbgaiaigdngaaGreatDoor.walk
open Go Go.Sh
set_option maxRecDepth 100000
set_option linter.unusedSimpArgs false
/-! racemes -/
structure Rac where
  need : Int
  fl : Int
def racC (r : Rac) : List Value := [.int .i64 r.need, .int .i64 r.fl]
@[simp] theorem racC_length (r : Rac) : (racC r).length = 2 := by simp [racC]
theorem racC_inj (a b : Rac) (h : racC a = racC b) : a = b := by
  cases a; cases b
  simpa [racC] using h
def racOk (r : Rac) : Bool := inI 0 r.need 2000 && inI 1 r.fl 20
def racTo (l : List Rac) : Nat → Bool
  | 0 => true
  | i + 1 => racTo l i && (match l[i]? with | some r => racOk r | none => true)
theorem rac_snoc {l : List Rac} {i : Nat} {r : Rac} (h : l[i]? = some r) : racTo l (i + 1) = (racTo l i && racOk r) := by
  show (racTo l i && _) = _
  rw [h]
theorem rac_false {l : List Rac} {i : Nat} (h : racTo l i = false) : ∀ n, i ≤ n → racTo l n = false
  | 0, hn => by obtain rfl : i = 0 := by omega
                exact h
  | n + 1, hn => by
    rcases Nat.eq_or_lt_of_le hn with e | h1
    · rw [← e]; exact h
    · show (racTo l n && _) = false
      rw [rac_false h n (by omega)]; rfl
theorem rac_of {l : List Rac} : ∀ n, racTo l n = true → ∀ i r, i < n → l[i]? = some r → racOk r = true
  | 0, _, i, r, h, _ => by omega
  | n + 1, h, i, r, hi, hr => by
    have h' : (racTo l n && (match l[n]? with | some r => racOk r | none => true)) = true := h
    rw [Bool.and_eq_true] at h'
    rcases Nat.lt_or_eq_of_le (Nat.le_of_lt_succ hi) with h1 | h1
    · exact rac_of n h'.1 i r h1 hr
    · subst h1
      have := h'.2
      rw [hr] at this
      exact this
def racB (l : List Rac) : Bool := decide (l.length ≤ 8) && racTo l l.length
theorem len30V {w : AW} {v : Value} {l : List Rac} (h : RowsV racC w v l) (w' : AW) : lenB Tryz.prog w' 30 v = .val (.int .i64 (l.length : Nat)) w' := by
  obtain ⟨a, c, rfl⟩ := h.len
  simp
noncomputable def F50 : PureF := fun args w => match args with | [u] => (rowsIn racC w u).bind fun l => some (.bool (racB l)) | _ => none
theorem rule50 {ov : Ov} {f : FuncId} (k : HasP ov f F50) {u : Value} {l : List Rac} {w : AW} (hv : RowsV racC w u l) (m : Nat) : (run Tryz.prog ov (m + 1)).call f [u] w .none = .ok (.ret (.bool (racB l))) w .none := k.call (by
  simp [F50, hv.rowsIn (m := 2) racC_length racC_inj])
theorem loop50 {ov : Ov} (h24 : HasP ov 75 F75) (l : List Rac) (h8 : l.length ≤ 8) (v : Value) (w0 : AW) (hl0 : w0.lim ≤ w0.next) (hv : RowsV racC w0 v l) (m : Nat)
    (Q : Ex → Tm → AW → Prop) (t : Tm) (w : AW) (hw : Ol w0 w) (t8 : tget t 8 = v) (t9 : tget t 9 = .int .i64 (l.length : Nat)) (t10 : tget t 10 = .int .i64 0)
    (hyes : racTo l l.length = true → ∀ t w, Q (.exit 0) t w) (hno : racTo l l.length = false → ∀ t w, tget t 2 = .bool false → Q .ret t w) : wp (exM Tryz.prog (run Tryz.prog ov (m + 1)) (.loop mc50_l0) t w) Q := by
  refine wp_rounds (fun i t w => tget t 8 = v ∧ tget t 9 = .int .i64 (l.length : Nat) ∧ tget t 10 = .int .i64 (i : Nat) ∧ i ≤ l.length ∧ racTo l i = true ∧ Ol w0 w) 200 (by decide) ⟨t8, t9, by simpa using t10, Nat.zero_le _, rfl, hw⟩ ?_
  clear t8 t9 t10 hw
  rintro i t w ⟨t8, t9, t10, hi, hok, hw⟩
  by_cases hlt : i < l.length
  · obtain ⟨r, hd⟩ : ∃ d, l[i]? = some d := ⟨_, List.getElem?_eq_getElem hlt⟩
    obtain ⟨b, off, sq, c, rfl, hr⟩ := hv.at_ i hlt
    have hb := hr.2
    have hld := hr.rd (m := 2) racC_length hd
    rw [← hw.old b hb] at hld
    have hn := hw.next
    have hlm := hw.lim
    have hl1 : w.lim ≤ w.next := by omega
    have m0 : ¬ b = w.next := by omega
    have hia := fun w => ia30 w ⟨b, off, sq⟩ l.length c .i64 i hlt
    have hw1 : IntKind.wrap .i64 ((i : Int) + 1) = (i : Int) + 1 := wrap64_in (by omega) (by omega)
    have r24 := fun n a w => rule75 h24 n a m w
    have hs := rac_snoc hd
    rw [hok, Bool.true_and] at hs
    have bad : racOk r = false → racTo l l.length = false := fun h => rac_false (i := i + 1) (by rw [hs, h]) _ hlt
    cases h1 : inI 0 r.need 2000 with
    | false =>
      simp [mc50_l0, t8, t9, t10, hlt, hia, hld, hl1, m0, cellsOf_agg, racC, r24, h1]
      exact hno (bad (by simp [racOk, h1])) _ _ (by simp)
    | true =>
      by_cases h2 : r.fl < 1
      · simp [mc50_l0, t8, t9, t10, hlt, hia, hld, hl1, m0, cellsOf_agg, racC, r24, h1, h2]
        exact hno (bad (by simp [racOk, h1, inI]; omega)) _ _ (by simp)
      · by_cases h3 : 20 < r.fl
        · simp [mc50_l0, t8, t9, t10, hlt, hia, hld, hl1, m0, cellsOf_agg, racC, r24, h1, h2, h3]
          exact hno (bad (by simp [racOk, h1, inI]; omega)) _ _ (by simp)
        · have h4 : inI 1 r.fl 20 = true := by simp [inI]; omega
          have hs' : racTo l (i + 1) = true := by rw [hs]; simp [racOk, h1, h4]
          simp [mc50_l0, t8, t9, t10, hlt, hia, hld, hl1, m0, cellsOf_agg, racC, r24, h1, h2, h3, hw1]
          exact ⟨by omega, hlt, hs', ⟨(hw.old.put hn).put hn, by show w0.next ≤ w.next + 1; omega, hlm⟩⟩
  · have hi' : i = l.length := by omega
    subst hi'
    simp [mc50_l0, t9, t10]
    exact hyes hok _ _
theorem run50 {ov : Ov} (ho : ∀ args w, ov 50 args w = none) (h24 : HasP ov 75 F75) (l : List Rac) (v : Value) (w : AW) (hl : w.lim = w.next) (hv : RowsV racC w v l) :
    ∃ x w', (run Tryz.prog ov 2).call 50 [v] w .none = .ok (.ret x) w' .none ∧ x = .bool (racB l) := by
  refine call_wp text50 (by simp) (ho _ _) ?_
  have hln := len30V hv
  by_cases h8 : (8 : Int) < l.length
  · have : ¬ l.length ≤ 8 := by omega
    simp [mc50, hln, h8, racB, this, tupV]
  · have h8' : l.length ≤ 8 := by omega
    simp [mc50, hln, h8]
    refine wp_seqX (wp_blockX (loop50 h24 l h8' v w (Nat.le_of_eq hl) hv 0 _ _ _ (Ol.refl _) ?_ ?_ ?_ ?_ ?_))
    case _ => simp
    case _ => simp
    case _ => simp
    case _ => intro h t w; simp [racB, h8', h, tupV]
    case _ => intro h t w t2; simp [racB, h8', h, t2, tupV]
/-! checkBoth -/
def bothE (s : Sea) (l : List Day) (c : List Int) (r : List Rac) : Int := if seaE s l c = 0 then (if racB r = true then 0 else 11) else seaE s l c
noncomputable def F20 : PureF := fun args w => match args with | [.agg ⟨[dv, .int .i64 a, .int .i64 b, .int .i64 c, .int .i64 d, .int .i64 e, .int .i64 f, .int .i64 g, cv]⟩, u] => (rowsIn dayC w dv).bind fun l => (rowsIn intC w cv).bind fun k => (rowsIn racC w u).bind fun r => some (.int .i64 (bothE ⟨a, b, c, d, e, f, g⟩ l k r)) | _ => none
theorem rule20 {ov : Ov} (k : HasP ov 20 F20) {s : Sea} {dv cv u : Value} {l : List Day} {c : List Int} {r : List Rac} {w : AW} (hv : RowsV dayC w dv l) (hc : RowsV intC w cv c) (hu : RowsV racC w u r) (m : Nat) : (run Tryz.prog ov (m + 1)).call 20 [.agg ⟨seaC s dv cv⟩, u] w .none = .ok (.ret (.int .i64 (bothE s l c r))) w .none := k.call (by
  simp [F20, seaC, hv.rowsIn (m := 4) dayC_length dayC_inj, hc.rowsIn (m := 1) intC_length intC_inj, hu.rowsIn (m := 2) racC_length racC_inj])
theorem run20 {ov : Ov} (ho : ∀ args w, ov 20 args w = none) (h8 : HasP ov 43 F43) (h55 : HasP ov 50 F50) (s : Sea) (l : List Day) (c : List Int) (r : List Rac) (dv cv u : Value) (w : AW) (hv : RowsV dayC w dv l) (hc : RowsV intC w cv c) (hu : RowsV racC w u r) :
    ∃ x w', (run Tryz.prog ov 2).call 20 [.agg ⟨seaC s dv cv⟩, u] w .none = .ok (.ret x) w' .none ∧ x = .int .i64 (bothE s l c r) := by
  refine call_wp text20 (by simp) (ho _ _) ?_
  have o1 : Old w.next w.heap (w.heap.put w.next (some (.cells (seaC s dv cv) 29 false))) := (Old.refl _ _).put (Nat.le_refl _)
  have hv1 : RowsV dayC ⟨w.heap.put w.next (some (.cells (seaC s dv cv) 29 false)), w.next + 1, w.lim⟩ dv l := hv.old o1 (Nat.le_succ _)
  have hu1 : RowsV intC ⟨w.heap.put w.next (some (.cells (seaC s dv cv) 29 false)), w.next + 1, w.lim⟩ cv c := hc.old o1 (Nat.le_succ _)
  have hr1 : RowsV racC ⟨w.heap.put w.next (some (.cells (seaC s dv cv) 29 false)), w.next + 1, w.lim⟩ u r := hu.old o1 (Nat.le_succ _)
  have r8 := rule43 (f := 43) (s := s) h8 hv1 hu1 0
  have r55 := rule50 (f := 50) h55 hr1 0
  by_cases hE : seaE s l c = 0
  · rw [hE] at r8
    cases hR : racB r <;> rw [hR] at r55 <;> simp only [seaC, Nat.zero_add] at r8 r55 <;> simp [mc20, seaC, r8, r55, bothE, hE, hR, tupV]
  · simp only [seaC, Nat.zero_add] at r8
    simp [mc20, seaC, r8, bothE, hE, tupV]
end Go.Proofs.YtbbbgaiaigdngaaGreatDoor.walk

namespace Go.Proofs.YtbbbgaiaigdngaaGreatDoor.walk
open Go Go.Sh
set_option maxRecDepth 100000
set_option linter.unusedSimpArgs false
/-! when a raceme opens -/
def opF (need : Int) : List Int → Int → Nat → Nat
  | [], _, i => i
  | z :: l, sum, i => if need ≤ sum + z then i else opF need l (sum + z) (i + 1)
theorem opF_ge (need : Int) : ∀ (l : List Int) (sum : Int) (i : Nat), i ≤ opF need l sum i ∧ opF need l sum i ≤ i + l.length
  | [], _, i => ⟨Nat.le_refl _, Nat.le_refl _⟩
  | z :: l, sum, i => by
    have ih := opF_ge need l (sum + z) (i + 1)
    unfold opF
    split
    · simp
    · rw [List.length_cons]; omega
def small (L : List Int) : Bool := decide (L.length ≤ 40) && L.all fun z => inI 0 z 50
theorem small_len {L : List Int} (h : small L = true) : L.length ≤ 40 := by
  simp only [small, Bool.and_eq_true, decide_eq_true_eq] at h
  exact h.1
theorem small_at {L : List Int} (h : small L = true) {i : Nat} {z : Int} (hz : L[i]? = some z) : 0 ≤ z ∧ z ≤ 50 := by
  simp only [small, Bool.and_eq_true, decide_eq_true_eq, List.all_eq_true, inI] at h
  exact h.2 z (List.mem_of_getElem? hz)
def opI (L : List Int) (need : Int) : Nat := opF need L 0 0
theorem opI_le (L : List Int) (need : Int) : opI L need ≤ L.length := by
  have := (opF_ge need L 0 0).2
  unfold opI; omega
theorem drop_cons {L : List Int} {i : Nat} {z : Int} (hz : L[i]? = some z) : L.drop i = z :: L.drop (i + 1) := by
  obtain ⟨hlt, e⟩ := List.getElem?_eq_some_iff.1 hz
  rw [List.drop_eq_getElem_cons hlt, e]
noncomputable def F23 : PureF := fun args w => match args with | [u, .int .i64 need] => (rowsIn intC w u).bind fun L => bif small L then some (.int .i64 (opI L need : Nat)) else none | _ => none
theorem rule23 {ov : Ov} (k : HasP ov 23 F23) {u : Value} {L : List Int} (need : Int) {w : AW} (hu : RowsV intC w u L) (hs : small L = true) (m : Nat) : (run Tryz.prog ov (m + 1)).call 23 [u, .int .i64 need] w .none = .ok (.ret (.int .i64 (opI L need : Nat))) w .none := k.call (by
  simp [F23, hu.rowsIn (m := 1) intC_length intC_inj, hs])
theorem loop23 {ov : Ov} (L : List Int) (hsm : small L = true) (need : Int) (v : Value) (w : AW) (hv : RowsV intC w v L) (m : Nat)
    (Q : Ex → Tm → AW → Prop) (t : Tm) (t0 : tget t 0 = v) (t1 : tget t 1 = .int .i64 need) (t5 : tget t 5 = .int .i64 0) (t8 : tget t 8 = v) (t9 : tget t 9 = .int .i64 (L.length : Nat)) (t10 : tget t 10 = .int .i64 0)
    (hyes : ∀ t, tget t 4 = .int .i64 (opI L need : Nat) → Q .ret t w) (hno : opI L need = L.length → ∀ t, tget t 0 = v → Q (.exit 0) t w) : wp (exM Tryz.prog (run Tryz.prog ov m) (.loop mc23_l0) t w) Q := by
  have hlen := small_len hsm
  refine wp_rounds (fun i t w' => w' = w ∧ tget t 0 = v ∧ tget t 1 = .int .i64 need ∧ (∃ sum : Int, tget t 5 = .int .i64 sum ∧ 0 ≤ sum ∧ sum ≤ 50 * i ∧ opF need (L.drop i) sum i = opI L need) ∧ tget t 8 = v ∧ tget t 9 = .int .i64 (L.length : Nat) ∧ tget t 10 = .int .i64 (i : Nat) ∧ i ≤ L.length) 200 (by decide) ⟨rfl, t0, t1, ⟨0, t5, by omega, by omega, rfl⟩, t8, t9, by simpa using t10, Nat.zero_le _⟩ ?_
  clear t0 t1 t5 t8 t9 t10
  rintro i t w' ⟨rfl, t0, t1, ⟨sum, t5, s0, s1, hop⟩, t8, t9, t10, hi⟩
  by_cases hlt : i < L.length
  · obtain ⟨z, hz⟩ : ∃ z, L[i]? = some z := ⟨_, List.getElem?_eq_getElem hlt⟩
    obtain ⟨b, off, sq, cp, rfl, hr⟩ := hv.at_ i hlt
    have hld := hr.int hz
    have hzb := small_at hsm hz
    have hia := fun w => ia27 w ⟨b, off, sq⟩ L.length cp .i64 i hlt
    have hw1 : IntKind.wrap .i64 ((i : Int) + 1) = (i : Int) + 1 := wrap64_in (by omega) (by omega)
    have hw2 : IntKind.wrap .i64 (sum + z) = sum + z := wrap64_in (by omega) (by omega)
    rw [drop_cons hz, opF] at hop
    by_cases h : need ≤ sum + z
    · rw [if_pos h] at hop
      simp [mc23_l0, t0, t1, t5, t8, t9, t10, hlt, hia, hld, hw1, hw2, h]
      exact hyes _ (by simp [hop])
    · rw [if_neg h] at hop
      simp [mc23_l0, t0, t1, t5, t8, t9, t10, hlt, hia, hld, hw1, hw2, h]
      exact ⟨by omega, ⟨by omega, by omega, hop⟩, hlt⟩
  · have hi' : i = L.length := by omega
    subst hi'
    rw [List.drop_length] at hop
    simp [mc23_l0, t9, t10]
    exact hno hop.symm _ (by simp [t0])
theorem run23 {ov : Ov} (ho : ∀ args w, ov 23 args w = none) (L : List Int) (hsm : small L = true) (need : Int) (v : Value) (w : AW) (hv : RowsV intC w v L) :
    ∃ y w', (run Tryz.prog ov 2).call 23 [v, .int .i64 need] w .none = .ok (.ret y) w' .none ∧ y = .int .i64 (opI L need : Nat) := by
  refine call_wp text23 (by simp) (ho _ _) ?_
  have hlv := len27V hv
  simp [mc23, hlv]
  refine wp_seqX (wp_blockX (loop23 L hsm need v w hv 1 _ _ ?_ ?_ ?_ ?_ ?_ ?_ ?_ ?_))
  case _ => simp
  case _ => simp
  case _ => simp
  case _ => simp
  case _ => simp
  case _ => simp
  case _ => intro t t4; simp [t4, tupV]
  case _ => intro h t t0; simp [t0, hlv, h, tupV]
theorem ht_bd {s : Sea} {l : List Day} {c W R : List Int} (hE : seaE s l c = 0) (hT : trB l W R = true) : small (htL s (shL s c l.length) W R l.length) = true := by
  have hd := (sea_zero hE).1
  have h40 := (days_len hd).2
  have key : ∀ n, n ≤ l.length → ∀ z ∈ htL s (shL s c l.length) W R n, 0 ≤ z ∧ z ≤ 50 := by
    intro n
    induction n with
    | zero => intro _ z hz; simp [htL] at hz
    | succ n ih =>
      intro hn z hz
      rw [htL, List.mem_append] at hz
      rcases hz with hz | hz
      · exact ih (by omega) z hz
      · obtain ⟨e1, e2, _⟩ := tr_lens hT
        have a1 : W[n]? = some (W[n]'(by omega)) := List.getElem?_eq_getElem _
        have a2 : R[n]? = some (R[n]'(by omega)) := List.getElem?_eq_getElem _
        have a3 := shL_at s c l.length n (by omega)
        rw [a1, a2, a3] at hz
        have hz : z = heatI s (W[n]'(by omega)) (R[n]'(by omega)) (shB s c (n + 1)) := by simpa using hz
        have ok := heatB_ok (heat_ok hE hT n _ _ a1 a3)
        have nums := (heat_nums ok).2
        rw [hz]
        unfold heatI
        split <;> omega
  simp only [small, Bool.and_eq_true, decide_eq_true_eq, List.all_eq_true, htL_length]
  refine ⟨h40, fun z hz => ?_⟩
  have := key _ (Nat.le_refl _) z hz
  simp [inI, this]
end Go.Proofs.YtbbbgaiaigdngaaGreatDoor.walk

namespace Go.Proofs.YtbbbgaiaigdngaaGreatDoor.walk
open Go Go.Sh
set_option maxRecDepth 100000
set_option linter.unusedSimpArgs false
/-! the flowers of each day -/
def isOn (L : List Int) (r : Rac) (x : Nat) : Bool := decide (opI L r.need ≤ x) && decide ((x : Int) < opI L r.need + r.fl)
def cnt (L : List Int) (rs : List Rac) : Nat → Nat → Int
  | 0, _ => 0
  | k + 1, x => cnt L rs k x + (match rs[k]? with | some r => if isOn L r x = true then 1 else 0 | none => 0)
theorem cnt_bd (L : List Int) (rs : List Rac) (x : Nat) : ∀ k, 0 ≤ cnt L rs k x ∧ cnt L rs k x ≤ k
  | 0 => ⟨Int.le_refl _, Int.le_refl _⟩
  | k + 1 => by
    have ih := cnt_bd L rs x k
    unfold cnt
    cases rs[k]? with
    | none => simp only; omega
    | some r => simp only; split <;> omega
theorem cnt_snoc {L : List Int} {rs : List Rac} {k : Nat} {r : Rac} (h : rs[k]? = some r) (x : Nat) : cnt L rs (k + 1) x = cnt L rs k x + (if isOn L r x = true then 1 else 0) := by
  show cnt L rs k x + (match rs[k]? with | some r => if isOn L r x = true then 1 else 0 | none => 0) = _
  rw [h]
def blL (L : List Int) (rs : List Rac) (n : Nat) : List Int := (List.range n).map (cnt L rs rs.length)
theorem blL_length (L : List Int) (rs : List Rac) (n : Nat) : (blL L rs n).length = n := by simp [blL]
/-- a row whose cells are known -/
structure RowIs (w : AW) (b n : Nat) (g : Nat → Int) (F : List Int) : Prop where
  row : w.heap.get b = some (.cells (F.flatMap intC) 3 false)
  len : F.length = n
  at_ : ∀ x, x < n → F[x]? = some (g x)
theorem RowIs.ext {w : AW} {b n : Nat} {g h : Nat → Int} {F : List Int} (k : RowIs w b n g F) (e : ∀ x, x < n → g x = h x) : RowIs w b n h F := ⟨k.row, k.len, fun x hx => by rw [k.at_ x hx, e x hx]⟩
theorem RowIs.ld {w : AW} {b n : Nat} {g : Nat → Int} {F : List Int} (h : RowIs w b n g F) {x : Nat} (hx : x < n) : rd1O (some (AObj.cells (F.flatMap intC) 3 false)) x = some (.int .i64 (g x)) := by
  have : RowsA intC (w.heap.put b (some (AObj.cells (F.flatMap intC) 3 false))) (b + 1) b 0 F := ⟨⟨[], [], 3, false, by simp, rfl⟩, Nat.lt_succ_self _⟩
  have := this.int (h.at_ x hx)
  simpa using this
theorem loop47b {ov : Ov} (r : Rac) (hr : racOk r = true) (first n : Nat) (hf : first ≤ n) (h40 : n ≤ 40) (hv : Value) (hlen : ∀ w, lenB Tryz.prog w 27 hv = .val (.int .i64 (n : Nat)) w) (b nb : Nat) (hne : nb ≠ b) (g : Nat → Int) (hg : ∀ x, 0 ≤ g x ∧ g x ≤ 8) (w0 : AW) (hl0 : w0.lim ≤ b) (m : Nat)
    (Q : Ex → Tm → AW → Prop) (t : Tm) (F : List Int) (hF : RowIs w0 b n g F) (hnb : w0.heap.get nb = some (.cells (racC r) 32 false))
    (t0 : tget t 0 = hv) (t1 t13 t14 t15 : Value) (u1 : tget t 1 = t1) (u13 : tget t 13 = t13) (u14 : tget t 14 = t14) (u15 : tget t 15 = t15) (t5 : tget t 5 = .slice (some ⟨b, 0, none⟩) n n) (t7 : tget t 7 = .pointer (some ⟨nb, 0, none⟩)) (t8 : tget t 8 = .int .i64 (first : Nat)) (t9 : tget t 9 = .int .i64 (first : Nat))
    (hQ : ∀ t w F, RowIs w b n (fun x => g x + (if first ≤ x ∧ (x : Int) < first + r.fl then 1 else 0)) F → (∀ x, x ≠ b → w.heap.get x = w0.heap.get x) → w.next = w0.next → w.lim = w0.lim → tget t 0 = hv → tget t 1 = t1 → tget t 5 = .slice (some ⟨b, 0, none⟩) n n → tget t 13 = t13 → tget t 14 = t14 → tget t 15 = t15 → Q (.exit 2) t w) :
    wp (exM Tryz.prog (run Tryz.prog ov m) (.loop mc47_l1) t w0) Q := by
  have hfl : 1 ≤ r.fl ∧ r.fl ≤ 20 := by
    simp only [racOk, inI, Bool.and_eq_true, decide_eq_true_eq] at hr
    exact hr.2
  refine wp_rounds (fun i t w => (∃ F, RowIs w b n (fun x => g x + (if first ≤ x ∧ x < first + i then 1 else 0)) F) ∧ (∀ x, x ≠ b → w.heap.get x = w0.heap.get x) ∧ w.next = w0.next ∧ w.lim = w0.lim ∧ tget t 0 = hv ∧ tget t 1 = t1 ∧ tget t 13 = t13 ∧ tget t 14 = t14 ∧ tget t 15 = t15 ∧ tget t 5 = .slice (some ⟨b, 0, none⟩) n n ∧ tget t 7 = .pointer (some ⟨nb, 0, none⟩) ∧ tget t 8 = .int .i64 (first : Nat) ∧ tget t 9 = .int .i64 ((first + i : Nat) : Int) ∧ (i = 0 ∨ ((first + i : Nat) : Int) ≤ min (first + r.fl) n)) 200 (by decide)
    ⟨⟨F, hF.ext fun x _ => by rw [if_neg (by omega)]; omega⟩, fun _ _ => rfl, rfl, rfl, t0, u1, u13, u14, u15, t5, t7, t8, by simpa using t9, .inl rfl⟩ ?_
  clear t0 u1 u13 u14 u15 t5 t7 t8 t9 hF
  rintro i t w ⟨⟨F, hF⟩, hold, hnx, hlm, t0, u1, u13, u14, u15, t5, t7, t8, t9, hi⟩
  have hnb' := hnb
  rw [← hold nb hne] at hnb'
  have hw0 : IntKind.wrap .i64 ((first : Int) + r.fl) = (first : Int) + r.fl := wrap64_in (by omega) (by omega)
  have hi20 : i ≤ 20 := by omega
  by_cases hlt : ((first + i : Nat) : Int) < min (first + r.fl) n
  · have hx : first + i < n := by omega
    have hrow := hF.row
    have hld := hF.ld hx
    have hia := fun w => ia27 w ⟨b, 0, none⟩ n n .i64 (first + i) hx
    have hw1 : IntKind.wrap .i64 (((first + i : Nat) : Int) + 1) = ((first + (i + 1) : Nat) : Int) := by
      rw [show ((first + (i + 1) : Nat) : Int) = ((first + i : Nat) : Int) + 1 by omega]
      exact wrap64_in (by omega) (by omega)
    obtain ⟨gx, hgx⟩ : ∃ y, y = g (first + i) + (if first ≤ first + i ∧ first + i < first + i then 1 else 0) := ⟨_, rfl⟩
    have hgx' : gx = g (first + i) := by rw [hgx, if_neg (by omega)]; omega
    rw [← hgx] at hld
    have hgb := hg (first + i)
    have hw2 : IntKind.wrap .i64 (gx + 1) = gx + 1 := wrap64_in (by omega) (by omega)
    have hset := flat_set intC_length F (first + i) (gx + 1) (by have := hF.len; omega)
    have hfl' : (F.flatMap intC).length = n := by rw [flat_length intC_length, hF.len]; omega
    have hF1 := hF.len
    have hat := hF.at_
    obtain ⟨cs, hcs⟩ : ∃ cs, cs = F.flatMap intC := ⟨_, rfl⟩
    rw [← hcs] at hset hfl' hrow hld
    simp only [Nat.mul_one, intC, List.cons_append, List.nil_append] at hset
    have hfit : first + i + 1 ≤ n := hx
    have l2 : w.lim ≤ b := by omega
    obtain ⟨d, hd⟩ : ∃ d, d = first + i := ⟨_, rfl⟩
    rw [← hd] at hset hfit hld hia hw1 hlt t9
    simp [mc47_l1, t0, t5, t7, t8, t9, hnb', racC, hlen, hw0, hlt, hia, hrow, hld, hw1, hw2, hfl', hfit, hset, l2]
    refine ⟨?_, ⟨F.set d (gx + 1), ⟨by simp, by rw [List.length_set]; exact hF1, fun x hx' => ?_⟩⟩, fun x hxb => ?_, hnx, hlm, ?_⟩
    · omega
    · by_cases e : x = d
      · subst e
        rw [List.getElem?_set_self (by omega), hgx', if_pos (by omega), hd]
      · rw [List.getElem?_set_ne (Ne.symm e), hat x hx']
        congr 2
        by_cases h : first ≤ x ∧ x < first + i
        · rw [if_pos h, if_pos (by omega)]
        · rw [if_neg h, if_neg (by omega)]
    · rw [if_neg hxb]; exact hold x hxb
    · exact ⟨u1, u13, u14, u15, by omega⟩
  · obtain ⟨d, hd⟩ : ∃ d, d = first + i := ⟨_, rfl⟩
    rw [← hd] at hlt t9
    have hF' : RowIs w b n (fun x => g x + (if first ≤ x ∧ (x : Int) < first + r.fl then 1 else 0)) F := hF.ext fun x hx => by
      congr 1
      by_cases h : first ≤ x ∧ x < first + i
      · rw [if_pos h, if_pos (by omega)]
      · rw [if_neg h, if_neg (by omega)]
    simp [mc47_l1, t0, t7, t8, t9, hnb', racC, hlen, hw0, hlt]
    exact hQ _ _ F hF' hold hnx hlm (by simp [t0]) (by simp [u1]) (by simp [t5]) (by simp [u13]) (by simp [u14]) (by simp [u15])
theorem loop47 {ov : Ov} (m : Nat) (h46 : HasP ov 23 F23) (L : List Int) (hsm : small L = true) (rs : List Rac) (hrs : racB rs = true) (hv rv : Value) (w0 : AW) (hl0 : w0.lim ≤ w0.next) (hh : RowsV intC w0 hv L) (hr : RowsV racC w0 rv rs)
    (Q : Ex → Tm → AW → Prop) (t : Tm) (w : AW) (F : List Int) (hF : RowIs w w0.next L.length (fun _ => 0) F) (ho : Old w0.next w0.heap w.heap) (hn : w0.next < w.next) (hl : w.lim = w0.lim)
    (t0 : tget t 0 = hv) (t5 : tget t 5 = .slice (some ⟨w0.next, 0, none⟩) L.length L.length) (t13 : tget t 13 = rv) (t14 : tget t 14 = .int .i64 (rs.length : Nat)) (t15 : tget t 15 = .int .i64 0)
    (hQ : ∀ t w F, RowIs w w0.next L.length (cnt L rs rs.length) F → Old w0.next w0.heap w.heap → w0.next < w.next → w.lim = w0.lim → tget t 5 = .slice (some ⟨w0.next, 0, none⟩) L.length L.length → Q (.exit 0) t w) :
    wp (exM Tryz.prog (run Tryz.prog ov (m + 1)) (.loop mc47_l0) t w) Q := by
  simp only [racB, Bool.and_eq_true, decide_eq_true_eq] at hrs
  obtain ⟨h8, hall⟩ := hrs
  have h40 := small_len hsm
  refine wp_rounds (fun i t w => (∃ F, RowIs w w0.next L.length (cnt L rs i) F) ∧ Old w0.next w0.heap w.heap ∧ w0.next < w.next ∧ w.lim = w0.lim ∧ tget t 0 = hv ∧ tget t 5 = .slice (some ⟨w0.next, 0, none⟩) L.length L.length ∧ tget t 13 = rv ∧ tget t 14 = .int .i64 (rs.length : Nat) ∧ tget t 15 = .int .i64 (i : Nat) ∧ i ≤ rs.length) 200 (by decide)
    ⟨⟨F, hF⟩, ho, hn, hl, t0, t5, t13, t14, by simpa using t15, Nat.zero_le _⟩ ?_
  clear t0 t5 t13 t14 t15 hF ho hn hl F
  rintro i t w ⟨⟨F, hF⟩, ho, hn, hl, t0, t5, t13, t14, t15, hi⟩
  by_cases hlt : i < rs.length
  · obtain ⟨r, hd⟩ : ∃ d, rs[i]? = some d := ⟨_, List.getElem?_eq_getElem hlt⟩
    have hrok := rac_of _ hall i r hlt hd
    obtain ⟨b, off, sq, c, rfl, hr'⟩ := hr.at_ i hlt
    have hb := hr'.2
    have hld := hr'.rd (m := 2) racC_length hd
    rw [← ho b hb] at hld
    have hl1 : w.lim ≤ w.next := by omega
    have m0 : ¬ b = w.next := by omega
    have hia := fun w => ia30 w ⟨b, off, sq⟩ rs.length c .i64 i hlt
    have hw1 : IntKind.wrap .i64 ((i : Int) + 1) = (i : Int) + 1 := wrap64_in (by omega) (by omega)
    have o2 : Old w0.next w0.heap ((w.heap.put w.next (some (.cells [.int .i64 0, .int .i64 0] 32 false))).put w.next (some (.cells (racC r) 32 false))) := (ho.put (Nat.le_of_lt hn)).put (Nat.le_of_lt hn)
    have hh1 : RowsV intC ⟨(w.heap.put w.next (some (.cells [.int .i64 0, .int .i64 0] 32 false))).put w.next (some (.cells (racC r) 32 false)), w.next + 1, w.lim⟩ hv L := hh.old o2 (by show w0.next ≤ w.next + 1; omega)
    have r46 := rule23 h46 r.need hh1 hsm m
    have hF2 : RowIs ⟨(w.heap.put w.next (some (.cells [.int .i64 0, .int .i64 0] 32 false))).put w.next (some (.cells (racC r) 32 false)), w.next + 1, w.lim⟩ w0.next L.length (cnt L rs i) F := ⟨by simp [show ¬ w0.next = w.next by omega, hF.row], hF.len, hF.at_⟩
    have hlv := len27V hh
    simp only [racC] at r46 hF2 o2
    simp [mc47_l0, t0, t5, t13, t14, t15, hlt, hia, hld, hl1, m0, cellsOf_agg, racC, r46]
    refine wp_seqX (wp_blockX (wp_blockX (loop47b r hrok (opI L r.need) L.length (opI_le _ _) h40 hv hlv w0.next w.next (by omega) (cnt L rs i) (fun x => by have := cnt_bd L rs x i; omega) _ ?_ _ _ _ F hF2 ?_ ?_ (tget t 1) (.slice (some ⟨b, off, sq⟩) rs.length c) (.int .i64 (rs.length : Nat)) (.int .i64 (i : Nat)) ?_ ?_ ?_ ?_ ?_ ?_ ?_ ?_ ?_)))
    case _ => show w.lim ≤ w0.next; omega
    case _ => simp [racC]
    case _ => simp [t0]
    case _ => simp
    case _ => simp [t13]
    case _ => simp [t14]
    case _ => simp [t15]
    case _ => simp [t5]
    case _ => simp
    case _ => simp
    case _ => simp
    case _ =>
      intro t w' F' hF' hold hnx hlm t0 t1 t5 t13 t14 t15
      have hnx' : w'.next = w.next + 1 := hnx
      have hlm' : w'.lim = w.lim := hlm
      simp [t0, t5, t13, t14, t15, hw1]
      refine ⟨by omega, ⟨F', hF'.ext fun x hx => ?_⟩, fun x hx => ?_, by omega, by omega, hlt⟩
      · rw [cnt_snoc hd]
        congr 1
        simp only [isOn, Bool.and_eq_true, decide_eq_true_eq]
      · rw [hold x (by omega)]
        exact o2 x hx
  · have hi' : i = rs.length := by omega
    subst hi'
    simp [mc47_l0, t14, t15]
    exact hQ _ _ F hF ho hn hl (by simp [t5])
theorem blL_eq (L : List Int) (rs : List Rac) {n : Nat} {F : List Int} (hl : F.length = n) (h : ∀ x, x < n → F[x]? = some (cnt L rs rs.length x)) : F = blL L rs n := by
  apply List.ext_getElem?
  intro x
  by_cases hx : x < n
  · rw [h x hx]
    simp [blL, hx]
  · rw [List.getElem?_eq_none (by omega), List.getElem?_eq_none (by rw [blL_length]; omega)]
theorem call47 {ov : Ov} (m : Nat) (ho : ∀ args w, ov 47 args w = none) (h46 : HasP ov 23 F23) (L : List Int) (hsm : small L = true) (rs : List Rac) (hrs : racB rs = true) (hv rv : Value) (w : AW) (hl0 : w.lim ≤ w.next) (hh : RowsV intC w hv L) (hr : RowsV racC w rv rs) :
    ∃ x w', (run Tryz.prog ov (m + 2)).call 47 [hv, rv] w .none = .ok (.ret x) w' .none ∧ RowsV intC w' x (blL L rs L.length) ∧ Old w.next w.heap w'.heap ∧ w.next ≤ w'.next ∧ w'.lim = w.lim := by
  refine call_wp text47 (by simp) (ho _ _) ?_
  have hlv := len27V hh
  have hlr := len30V hr
  have h40 := small_len hsm
  have hmk := fun w => mk27 L.length (by omega) w
  simp [mc47, hlv, hlr, hmk]
  refine wp_seqX (wp_blockX (loop47 m h46 L hsm rs hrs hv rv w hl0 hh hr _ _ _ (List.replicate L.length 0) ⟨?_, ?_, ?_⟩ ?_ ?_ ?_ ?_ ?_ ?_ ?_ ?_ ?_))
  case _ => simp
  case _ => simp
  case _ => intro x hx; simp [List.getElem?_replicate, hx]
  case _ => simp
  case _ => simp
  case _ => rfl
  case _ => simp
  case _ => simp
  case _ => simp
  case _ => simp
  case _ => simp
  case _ =>
    intro t w' F hF ho' hn hlm t5
    have hrow := hF.row
    have hn' : w.next < w'.next := hn
    rw [blL_eq L rs hF.len hF.at_] at hrow
    simp [t5, tupV]
    exact ⟨.inr ⟨w.next, 0, none, L.length, by rw [blL_length], ⟨[], [], 3, false, by rw [hrow]; simp, rfl⟩, hn'⟩, ho', by omega, hlm⟩
end Go.Proofs.YtbbbgaiaigdngaaGreatDoor.walk

namespace Go.Proofs.YtbbbgaiaigdngaaGreatDoor.walk
open Go Go.Sh
set_option maxRecDepth 100000
set_option linter.unusedSimpArgs false
/-! Blooms -/
def blE (s : Sea) (l : List Day) (c W R : List Int) (rs : List Rac) : Int := if bothE s l c rs = 0 then (if trB l W R = true then 0 else 13) else bothE s l c rs
def blV (s : Sea) (l : List Day) (c W R : List Int) (rs : List Rac) : List Int := if bothE s l c rs = 0 ∧ trB l W R = true then blL (htL s (shL s c l.length) W R l.length) rs l.length else []
theorem both_zero {s : Sea} {l : List Day} {c : List Int} {rs : List Rac} (h : bothE s l c rs = 0) : seaE s l c = 0 ∧ racB rs = true := by
  unfold bothE at h
  by_cases h1 : seaE s l c = 0
  · rw [if_pos h1] at h
    cases h2 : racB rs with
    | true => exact ⟨h1, rfl⟩
    | false => rw [h2] at h; simp at h
  · rw [if_neg h1] at h; exact absurd h h1
set_option maxHeartbeats 1000000 in
theorem call13 {ov : Ov} (m : Nat) (ho : ∀ args w, ov 13 args w = none) (ho19 : ∀ args w, ov 21 args w = none) (ho29 : ∀ args w, ov 48 args w = none) (ho33 : ∀ args w, ov 47 args w = none) (h32 : HasP ov 20 F20) (h28 : HasP ov 46 F46) (h46 : HasP ov 23 F23) (h47 : HasP ov 51 F51) (h48 : HasP ov 52 F52) (h53 : HasP ov 77 F77) (s : Sea) (l : List Day) (c W R : List Int) (rs : List Rac) (dv cv wv rv u : Value) (w : AW) (hl : w.lim ≤ w.next) (hv : RowsV dayC w dv l) (hu : RowsV intC w cv c) (hw : RowsV intC w wv W) (hr : RowsV intC w rv R) (hrs : RowsV racC w u rs) :
    ∃ x w', (run Tryz.prog ov (m + 3)).call 13 [.agg ⟨seaC s dv cv⟩, .agg ⟨[wv, rv]⟩, u] w .none = .ok (.ret x) w' .none ∧ ∃ v, x = .tuple ⟨[v, .int .i64 (blE s l c W R rs)]⟩ ∧ RowsV intC w' v (blV s l c W R rs) ∧ Old w.next w.heap w'.heap ∧ w.next ≤ w'.next ∧ w'.lim = w.lim := by
  refine call_wp text13 (by simp) (ho _ _) ?_
  have o1 : Old w.next w.heap ((w.heap.put w.next (some (.cells (seaC s dv cv) 29 false))).put (w.next + 1) (some (.cells [wv, rv] 41 false))) := ((Old.refl _ _).put (Nat.le_refl _)).put (Nat.le_succ _)
  have n1 : w.next ≤ w.next + 1 + 1 := by omega
  have hv1 : RowsV dayC ⟨(w.heap.put w.next (some (.cells (seaC s dv cv) 29 false))).put (w.next + 1) (some (.cells [wv, rv] 41 false)), w.next + 1 + 1, w.lim⟩ dv l := hv.old o1 n1
  have hu1 : RowsV intC ⟨(w.heap.put w.next (some (.cells (seaC s dv cv) 29 false))).put (w.next + 1) (some (.cells [wv, rv] 41 false)), w.next + 1 + 1, w.lim⟩ cv c := hu.old o1 n1
  have hw1 : RowsV intC ⟨(w.heap.put w.next (some (.cells (seaC s dv cv) 29 false))).put (w.next + 1) (some (.cells [wv, rv] 41 false)), w.next + 1 + 1, w.lim⟩ wv W := hw.old o1 n1
  have hr1 : RowsV intC ⟨(w.heap.put w.next (some (.cells (seaC s dv cv) 29 false))).put (w.next + 1) (some (.cells [wv, rv] 41 false)), w.next + 1 + 1, w.lim⟩ rv R := hr.old o1 n1
  have hc1 : RowsV racC ⟨(w.heap.put w.next (some (.cells (seaC s dv cv) 29 false))).put (w.next + 1) (some (.cells [wv, rv] 41 false)), w.next + 1 + 1, w.lim⟩ u rs := hrs.old o1 n1
  have r32 := rule20 (s := s) h32 hv1 hu1 hc1 (m + 1)
  have svw := wea_same (rows_same hw) (rows_same hr)
  by_cases hB : bothE s l c rs = 0
  · obtain ⟨hE, hR⟩ := both_zero hB
    obtain ⟨hd, hcB, hs, _, _⟩ := sea_zero hE
    have h40 := (days_len hd).2
    have r28 := rule46 (f := 46) (s := s) (cv := cv) h28 h40 hv1 hw1 hr1 (m + 1)
    cases hT : trB l W R with
    | false =>
      rw [hB] at r32
      rw [hT] at r28
      simp only [seaC] at r32 r28
      simp [mc13, seaC, r32, r28, tupV, blE, blV, hB, hT]
      exact .inl ⟨rfl, _, _, rfl⟩
    | true =>
      obtain ⟨y, wa, x, w2, ha, hb, hx, oa, na, o2, n2, l2⟩ := year_heats m ho19 ho29 h47 h48 h53 s l c W R hE hT dv cv wv rv _ (by show w.lim ≤ w.next + 1 + 1; omega) hv1 hu1 hw1 hr1
      have g1 : wa.heap.get (w.next + 1) = some (.cells [wv, rv] 41 false) := by
        rw [oa (w.next + 1) (by show w.next + 1 < w.next + 1 + 1; omega)]; simp
      have n2' : w.next + 1 + 1 ≤ w2.next := n2
      have l2' : w2.lim = w.lim := l2
      obtain ⟨z, w3, hz, hzr, o3, n3, l3⟩ := call47 m ho33 h46 _ (ht_bd hE hT) rs hR x u w2 (by omega) hx (hc1.old o2 n2)
      rw [htL_length] at hzr
      have nj := row_notJunk hzr
      rw [hB] at r32
      rw [hT] at r28
      simp only [seaC] at r32 r28 ha
      simp [mc13, seaC, r32, r28, ha, hb, hz, g1, svw, nj, tupV, blE, blV, hB, hT]
      exact ⟨hzr, (o1.trans o2 n1).trans o3 (by omega), by omega, by omega⟩
  · simp only [seaC] at r32
    simp [mc13, seaC, r32, tupV, blE, blV, hB]
    exact .inl ⟨rfl, _, _, rfl⟩
end Go.Proofs.YtbbbgaiaigdngaaGreatDoor.walk
