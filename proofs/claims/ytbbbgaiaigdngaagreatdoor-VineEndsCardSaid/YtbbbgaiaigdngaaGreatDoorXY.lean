/- Part of a proof by a machine of ones own: see the text with the theorem. -/
import Derived.Test.YtbbbgaiaigdngaaGreatDoorXWc
import Derived.Test.YtbbbgaiaigdngaaGreatDoorXT
namespace Go.Proofs.YtbbbgaiaigdngaaGreatDoor.walk
open Go Go.Sh
set_option maxRecDepth 100000
set_option linter.unusedSimpArgs false
/-! all heats that a day can give -/
def hsN (s : Sea) (d : Day) (z : Int) : Nat → List Int
  | 0 => []
  | k + 1 => hsN s d z k ++ [heatI s (d.wl + (k : Nat)) d.rl z]
def hsL (s : Sea) (d : Day) (z : Int) : List Int := (if s.wet < d.rh then [0] else []) ++ hsN s d z (d.wh - d.wl + 1).toNat
/-- what a yield does: a step of what it keeps, in blocks that are its own -/
def Steps78 (ov : Ov) (m L : Nat) {σ : Type} (f : σ → Int → σ) (J : σ → AW → Prop) (M : Nat → Prop) : Prop :=
  ∀ st v w, J st w → 0 ≤ v → v ≤ 50 → ∃ w', yieldA (run Tryz.prog ov m) L [.int .i64 v] w = .val true w' ∧ J (f st v) w' ∧ (∀ x, x < w.next → ¬ M x → w'.heap.get x = w.heap.get x) ∧ w.next ≤ w'.next ∧ w'.lim = w.lim
structure In78 {σ : Type} (J : σ → AW → Prop) (M : Nat → Prop) (w0 : AW) (d : Day) (st : σ) (w : AW) : Prop where
  j : J st w
  keep : ∀ x, x < w0.next → ¬ M x → w.heap.get x = w0.heap.get x
  day : w.heap.get w0.next = some (.cells (dayC d) 49 false)
  next : w0.next < w.next
  lim : w.lim = w0.lim
theorem RowsV.keep {α : Type} {f : α → List Value} {we w : AW} {v : Value} {l : List α} (h : RowsV f we v l) (k : ∀ x, x < we.next → w.heap.get x = we.heap.get x) (hn : we.next ≤ w.next) : RowsV f w v l := h.old k hn
theorem loop78 {ov : Ov} (m : Nat) (h53 : HasP ov 77 F77) {σ : Type} (f : σ → Int → σ) (J : σ → AW → Prop) (M : Nat → Prop) (L : Nat) (hst : Steps78 ov (m + 1) L f J M) (s : Sea) (dv cv sv : Value) (S : List Int) (i : Nat) (d : Day) (z : Int) (hz : S[i]? = some z) (hok : ∀ a, d.wl ≤ a → a ≤ d.wh → heatB s a z = true) (hd : dayB d = true) (we w0 : AW) (hS : RowsV intC we sv S) (hwe : we.next ≤ w0.next) (hMe : ∀ x, M x → we.next ≤ x) (hold : ∀ x, x < we.next → w0.heap.get x = we.heap.get x)
    (n1 n2 : Nat) (k1 : n1 < w0.next) (k2 : n2 < w0.next) (m1 : ¬ M n1) (m2 : ¬ M n2) (g1 : w0.heap.get n1 = some (.cells (yearC s dv cv sv) 58 false)) (g2 : w0.heap.get n2 = some (.cells [.int .i64 (i : Nat)] 3 false)) (hMn : ¬ M w0.next) (st : σ)
    (Q : Ex → Tm → AW → Prop) (t : Tm) (w : AW) (hw : In78 J M w0 d st w)
    (t0 : tget t 0 = .func (.yield L) ⟨[]⟩ ⟨[]⟩) (t1 : tget t 1 = .pointer (some ⟨n1, 0, none⟩)) (t2 : tget t 2 = .pointer (some ⟨n2, 0, none⟩)) (t4 : tget t 4 = .pointer (some ⟨w0.next, 0, none⟩)) (t5 : tget t 5 = .int .i64 d.wl)
    (hQ : ∀ t w, In78 J M w0 d ((hsN s d z (d.wh - d.wl + 1).toNat).foldl f st) w → Q (.exit 0) t w) : wp (exY Tryz.prog (run Tryz.prog ov (m + 1)) (.loop mc78_l0) t w) Q := by
  have hdb := hd
  simp only [dayB, spanB, Bool.and_eq_true, decide_eq_true_eq] at hdb
  refine wp_roundsY (fun j t w => In78 J M w0 d ((hsN s d z j).foldl f st) w ∧ tget t 0 = .func (.yield L) ⟨[]⟩ ⟨[]⟩ ∧ tget t 1 = .pointer (some ⟨n1, 0, none⟩) ∧ tget t 2 = .pointer (some ⟨n2, 0, none⟩) ∧ tget t 4 = .pointer (some ⟨w0.next, 0, none⟩) ∧ tget t 5 = .int .i64 (d.wl + (j : Nat)) ∧ d.wl + (j : Nat) ≤ d.wh + 1) 200 (by decide) ⟨hw, t0, t1, t2, t4, by simpa using t5, by omega⟩ ?_
  clear t0 t1 t2 t4 t5 hw
  rintro j t w ⟨hw, t0, t1, t2, t4, t5, hj⟩
  have hday := hw.day
  by_cases hlt : d.wl + (j : Nat) ≤ d.wh
  · have hb1 := g1
    rw [← hw.keep n1 k1 m1] at hb1
    have hb2 := g2
    rw [← hw.keep n2 k2 m2] at hb2
    have hnx := hw.next
    have hSw : RowsV intC w sv S := RowsV.keep hS (fun x hx => by rw [hw.keep x (by omega) (fun hm => by have := hMe x hm; omega), hold x hx]) (by omega)
    have r53 := rule77 h53 s dv cv d.rl hSw hz (hok _ (by omega) hlt) m
    have nums := (heat_nums (heatB_ok (hok _ (by omega) hlt))).2
    have hb : 0 ≤ heatI s (d.wl + (j : Nat)) d.rl z ∧ heatI s (d.wl + (j : Nat)) d.rl z ≤ 50 := by
      unfold heatI
      split <;> omega
    obtain ⟨x, hx⟩ : ∃ x, x = heatI s (d.wl + (j : Nat)) d.rl z := ⟨_, rfl⟩
    rw [← hx] at r53 hb
    obtain ⟨w', hy, hJ, hk, hn, hl⟩ := hst _ x w hw.j hb.1 hb.2
    have hw1 : IntKind.wrap .i64 (d.wl + (j : Nat) + 1) = d.wl + (j : Nat) + 1 := wrap64_in (by omega) (by omega)
    simp only [yearC] at r53 hb1
    simp [mc78_l0, t0, t1, t2, t4, t5, hday, dayC, hlt, hb1, hb2, r53, hy, hw1]
    refine ⟨by omega, ⟨?_, fun y hy h => ?_, ?_, by omega, by have := hw.lim; omega⟩, by omega, by omega⟩
    · rw [hsN, List.foldl_append, ← hx]; exact hJ
    · rw [hk y (by omega) h, hw.keep y hy h]
    · rw [hk _ hnx hMn]; exact hday
  · have e : (d.wh - d.wl + 1).toNat = j := by omega
    rw [e] at hQ
    simp [mc78_l0, t4, t5, hday, dayC, hlt]
    exact hQ _ _ hw
set_option maxHeartbeats 1000000 in
theorem call78 {ov : Ov} (m : Nat) (ho : ∀ args w, ov 78 args w = none) (h53 : HasP ov 77 F77) {σ : Type} (f : σ → Int → σ) (J : σ → AW → Prop) (M : Nat → Prop) (L : Nat) (hst : Steps78 ov (m + 1) L f J M) (s : Sea) (dv cv sv : Value) (l : List Day) (h40 : l.length ≤ 40) (S : List Int) (i : Nat) (d : Day) (z : Int) (hdi : l[i]? = some d) (hz : S[i]? = some z) (hok : ∀ a, d.wl ≤ a → a ≤ d.wh → heatB s a z = true) (hd : dayB d = true) (we w0 : AW) (hlim : w0.lim ≤ w0.next) (hv : RowsV dayC we dv l) (hS : RowsV intC we sv S) (hwe : we.next ≤ w0.next) (hMe : ∀ x, M x → we.next ≤ x ∧ x < w0.next) (hold : ∀ x, x < we.next → w0.heap.get x = we.heap.get x)
    (hJ : ∀ st w w', J st w → (∀ x, x < w.next → w'.heap.get x = w.heap.get x) → w.next ≤ w'.next → w'.lim = w.lim → J st w')
    (n1 n2 : Nat) (k1 : n1 < w0.next) (k2 : n2 < w0.next) (m1 : ¬ M n1) (m2 : ¬ M n2) (g1 : w0.heap.get n1 = some (.cells (yearC s dv cv sv) 58 false)) (g2 : w0.heap.get n2 = some (.cells [.int .i64 (i : Nat)] 3 false)) (st : σ) (hst0 : J st w0) :
    ∃ v w', (run Tryz.prog ov (m + 2)).call 78 [.func (.yield L) ⟨[]⟩ ⟨[]⟩, .pointer (some ⟨n1, 0, none⟩), .pointer (some ⟨n2, 0, none⟩)] w0 .none = .ok (.ret v) w' .none ∧ J ((hsL s d z).foldl f st) w' ∧ (∀ x, x < w0.next → ¬ M x → w'.heap.get x = w0.heap.get x) ∧ w0.next ≤ w'.next ∧ w'.lim = w0.lim := by
  refine call_wpY text78 (by simp) (ho _ _) ?_
  have hlt : i < l.length := (List.getElem?_eq_some_iff.1 hdi).1
  obtain ⟨b, off, sq, c, rfl, hr⟩ := hv.at_ i hlt
  have hb := hr.2
  have hld := hr.rd (m := 4) dayC_length hdi
  rw [← hold b hb] at hld
  have m0 : ¬ b = w0.next := by omega
  have q1 : ¬ n1 = w0.next := by omega
  have q2 : ¬ n2 = w0.next := by omega
  have hia := fun w => ia22 w ⟨b, off, sq⟩ l.length c .i64 i hlt
  have hMn : ¬ M w0.next := fun h => by have := (hMe _ h).2; omega
  have hI : In78 J M w0 d st ⟨w0.heap.put w0.next (some (.cells (dayC d) 49 false)), w0.next + 1, w0.lim⟩ := by
    refine ⟨hJ _ w0 _ hst0 (fun x hx => ?_) (Nat.le_succ _) rfl, fun x hx _ => ?_, ?_, Nat.lt_succ_self _, rfl⟩
    · show (w0.heap.put w0.next _).get x = _
      rw [get_put, if_neg (by omega)]
    · show (w0.heap.put w0.next _).get x = _
      rw [get_put, if_neg (by omega)]
    · simp
  have hI2 : In78 J M w0 d st ⟨(w0.heap.put w0.next (some (.cells [.int .i64 0, .int .i64 0, .int .i64 0, .int .i64 0] 49 false))).put w0.next (some (.cells (dayC d) 49 false)), w0.next + 1, w0.lim⟩ := by
    refine ⟨hJ _ w0 _ hst0 (fun x hx => ?_) (Nat.le_succ _) rfl, fun x hx _ => ?_, ?_, Nat.lt_succ_self _, rfl⟩
    · show ((w0.heap.put w0.next _).put w0.next _).get x = _
      rw [get_put, if_neg (by omega), get_put, if_neg (by omega)]
    · show ((w0.heap.put w0.next _).put w0.next _).get x = _
      rw [get_put, if_neg (by omega), get_put, if_neg (by omega)]
    · simp
  have hfin : ∀ t w, In78 J M w0 d ((hsL s d z).foldl f st) w → J ((hsL s d z).foldl f st) w ∧ (∀ x, x < w0.next → ¬ M x → w.heap.get x = w0.heap.get x) ∧ w0.next ≤ w.next ∧ w.lim = w0.lim := fun (t : Tm) w h => ⟨h.j, h.keep, Nat.le_of_lt h.next, h.lim⟩
  have g1' := g1
  by_cases hwet : s.wet < d.rh
  · obtain ⟨w', hy, hJ', hk, hn, hl⟩ := hst st 0 _ hI2.j (by omega) (by omega)
    have hn' : w0.next + 1 ≤ w'.next := hn
    have hl' : w'.lim = w0.lim := hl
    have hI' : In78 J M w0 d (f st 0) w' := ⟨hJ', fun x hx h => by rw [hk x (by show x < w0.next + 1; omega) h]; exact hI2.keep x hx h, by rw [hk w0.next (Nat.lt_succ_self _) hMn]; exact hI2.day, hn', hl'⟩
    have hday := hI'.day
    have e : (hsL s d z).foldl f st = (hsN s d z (d.wh - d.wl + 1).toNat).foldl f (f st 0) := by simp [hsL, hwet]
    rw [e] at hfin ⊢
    simp only [yearC, dayC] at g1' hy hday
    simp [mc78, g1', g2, hld, hia, hlim, m0, q1, q2, cellsOf_agg, dayC, hwet, hy, hday]
    refine wp_blockX (loop78 m h53 f J M L hst s _ cv sv S i d z hz hok hd we w0 hS hwe (fun x h => (hMe x h).1) hold n1 n2 k1 k2 m1 m2 g1 g2 hMn (f st 0) _ _ _ hI' ?_ ?_ ?_ ?_ ?_ ?_)
    case _ => simp
    case _ => simp
    case _ => simp
    case _ => simp
    case _ => simp
    case _ => intro t w h; simpa [tupV] using hfin t w h
  · have e : (hsL s d z).foldl f st = (hsN s d z (d.wh - d.wl + 1).toNat).foldl f st := by simp [hsL, hwet]
    rw [e] at hfin ⊢
    simp only [yearC] at g1'
    simp [mc78, g1', g2, hld, hia, hlim, m0, q1, q2, cellsOf_agg, dayC, hwet]
    refine wp_blockX (loop78 m h53 f J M L hst s _ cv sv S i d z hz hok hd we w0 hS hwe (fun x h => (hMe x h).1) hold n1 n2 k1 k2 m1 m2 g1 g2 hMn st _ _ _ hI2 ?_ ?_ ?_ ?_ ?_ ?_)
    case _ => simp
    case _ => simp
    case _ => simp
    case _ => simp
    case _ => simp
    case _ => intro t w h; simpa [tupV] using hfin t w h
end Go.Proofs.YtbbbgaiaigdngaaGreatDoor.walk

namespace Go.Proofs.YtbbbgaiaigdngaaGreatDoor.walk
open Go Go.Sh
set_option maxRecDepth 100000
set_option linter.unusedSimpArgs false
/-! the least and the greatest heat of each day -/
theorem call53 {ov : Ov} (m : Nat) (ho : ∀ args w, ov 53 args w = none) (cs : List Value) (hcs : cs.length = 10) (i : Nat) (w : AW) :
    ∃ v w', (run Tryz.prog ov (m + 1)).call 53 [.agg ⟨cs⟩, .int .i64 (i : Nat)] w .none = .ok (.ret v) w' .none ∧ v = .func (.func 78) ⟨[]⟩ ⟨[.pointer (some ⟨w.next, 0, none⟩), .pointer (some ⟨w.next + 1, 0, none⟩)]⟩ ∧ w' = ⟨(w.heap.put w.next (some (.cells cs 58 false))).put (w.next + 1) (some (.cells [.int .i64 (i : Nat)] 3 false)), w.next + 2, w.lim⟩ := by
  refine call_wp text53 (by simp) (ho _ _) ?_
  simp [mc53, tupV, cellsOf_agg, notJunk]
@[simp] theorem setPar_cons (p : Tmp) (ps : List Tmp) (a : Value) (l : List Value) (t : Tm) : setParams (p :: ps) (a :: l) t = setParams ps l (tset t p a) := rfl
@[simp] theorem setPar_nil (t : Tm) : setParams [] [] t = t := rfl
/-- what the body of the range keeps -/
structure Ex22 (R1 R2 c2 c3 c4 L n dI : Nat) (g1 g2 : Nat → Int) (lp : ALoop) (st : Int × Int) (w : AW) : Prop where
  r1 : ∃ F, RowIs w R1 n (fun k => if k = dI then st.1 else g1 k) F
  r2 : ∃ F, RowIs w R2 n (fun k => if k = dI then st.2 else g2 k) F
  b2 : w.heap.get c2 = some (.cells [.slice (some ⟨R1, 0, none⟩) n n] 27 false)
  b3 : w.heap.get c3 = some (.cells [.slice (some ⟨R2, 0, none⟩) n n] 27 false)
  b4 : w.heap.get c4 = some (.cells [.int .i64 (dI : Nat)] 3 false)
  lo : w.heap.get L = some (.loop lp)
  bd : 0 ≤ st.1 ∧ st.1 ≤ 50 ∧ 0 ≤ st.2 ∧ st.2 ≤ 50
  lims : w.lim ≤ R1 ∧ w.lim ≤ R2 ∧ w.lim ≤ L
  next : R1 < w.next ∧ R2 < w.next ∧ c2 < w.next ∧ c3 < w.next ∧ c4 < w.next ∧ L < w.next
def stepX (st : Int × Int) (v : Int) : Int × Int := (min st.1 v, max st.2 v)
theorem row_put {w : AW} {b n d : Nat} {g : Nat → Int} {F : List Int} (h : RowIs w b n g F) (hd : d < n) (x : Int) {w' : AW} (hw : w'.heap.get b = some (.cells ((F.set d x).flatMap intC) 3 false)) : RowIs w' b n (fun k => if k = d then x else g k) (F.set d x) := by
  refine ⟨hw, by rw [List.length_set]; exact h.len, fun k hk => ?_⟩
  by_cases e : k = d
  · subst e
    rw [List.getElem?_set_self (by rw [h.len]; exact hd)]; simp
  · rw [List.getElem?_set_ne (Ne.symm e), h.at_ k hk]; simp [e]
set_option maxHeartbeats 1000000 in
theorem steps22 {ov : Ov} (m R1 R2 c2 c3 c4 L n dI : Nat) (hd : dI < n) (hne : R1 ≠ R2 ∧ c2 ≠ R1 ∧ c2 ≠ R2 ∧ c3 ≠ R1 ∧ c3 ≠ R2 ∧ c4 ≠ R1 ∧ c4 ≠ R2 ∧ L ≠ R1 ∧ L ≠ R2 ∧ L ≠ c2 ∧ L ≠ c3 ∧ L ≠ c4) (g1 g2 : Nat → Int) (tm : Tm) (t2 : tget tm 2 = .pointer (some ⟨c2, 0, none⟩)) (t3 : tget tm 3 = .pointer (some ⟨c3, 0, none⟩)) (t4 : tget tm 4 = .pointer (some ⟨c4, 0, none⟩)) :
    Steps78 ov (m + 1) L stepX (Ex22 R1 R2 c2 c3 c4 L n dI g1 g2 ⟨51, tm, [29], (rfOf Tryz.prog 22 0).1, (rfOf Tryz.prog 22 0).2, none, .ready⟩) (fun x => x = R1 ∨ x = R2 ∨ x = L) := by
  intro st v w hJ v0 v50
  obtain ⟨x, y⟩ := st
  obtain ⟨e1, e2, e3, e4, e5, e6, e7, e8, e9, e10, e11, e12⟩ := hne
  obtain ⟨⟨F1, h1⟩, ⟨F2, h2⟩, b2, b3, b4, lo, bd, lims, nx⟩ := hJ
  simp only at h1 h2 bd
  have ld1 := h1.ld hd
  have ld2 := h2.ld hd
  simp only [if_true] at ld1 ld2
  have hrow1 := h1.row
  have hrow2 := h2.row
  have hl1 := h1.len
  have hl2 := h2.len
  have hs1 := flat_set intC_length F1 dI (min x v) (by omega)
  have hs2 := flat_set intC_length F2 dI (max y v) (by omega)
  have hf1 : (F1.flatMap intC).length = n := by rw [flat_length intC_length, hl1]; omega
  have hf2 : (F2.flatMap intC).length = n := by rw [flat_length intC_length, hl2]; omega
  have ia1 := fun w => ia27 w ⟨R1, 0, none⟩ n n .i64 dI hd
  have ia2 := fun w => ia27 w ⟨R2, 0, none⟩ n n .i64 dI hd
  simp only [Nat.mul_one, intC, List.cons_append, List.nil_append] at hs1 hs2
  obtain ⟨q1, hq1⟩ : ∃ cs, cs = F1.flatMap intC := ⟨_, rfl⟩
  obtain ⟨q2, hq2⟩ : ∃ cs, cs = F2.flatMap intC := ⟨_, rfl⟩
  rw [← hq1] at hs1 hf1 hrow1 ld1
  rw [← hq2] at hs2 hf2 hrow2 ld2
  have hfit : dI + 1 ≤ n := hd
  obtain ⟨lm1, lm2, lmL⟩ := lims
  obtain ⟨j, w', hy, hQ⟩ := yield_wp (P := Tryz.prog) (ov := ov) (m := m) (l := L) (args := [.int .i64 v]) (w := w) (Q := fun j w' => j = none ∧ w' = ⟨(((w.heap.put L (some (.loop ⟨51, tm, [29], (rfOf Tryz.prog 22 0).1, (rfOf Tryz.prog 22 0).2, none, .busy⟩))).put R1 (some (.cells ((F1.set dI (min x v)).flatMap intC) 3 false))).put R2 (some (.cells ((F2.set dI (max y v)).flatMap intC) 3 false))).put L (some (.loop ⟨51, tm, [29], (rfOf Tryz.prog 22 0).1, (rfOf Tryz.prog 22 0).2, none, .ready⟩)), w.next, w.lim⟩) lo rfl rfl ta22_0 tb22_0 (by
    simp [mc22_a0, mc22_b0, lo, lmL, jumpOf, t2, t3, t4, b2, b3, b4, ia1, ia2, hrow1, hrow2, ld1, ld2, hf1, hf2, hfit, hs1, hs2, lm1, lm2, e1, e2, e3, e4, e5, e6, e7, e8, e9, e10, e11, e12, Ne.symm e1, Ne.symm e2, Ne.symm e3, Ne.symm e4, Ne.symm e5, Ne.symm e6, Ne.symm e7, Ne.symm e8, Ne.symm e9, Ne.symm e10, Ne.symm e11, Ne.symm e12]
)
  obtain ⟨rfl, rfl⟩ := hQ
  refine ⟨_, hy, ⟨⟨F1.set dI (min x v), ?_⟩, ⟨F2.set dI (max y v), ?_⟩, ?_, ?_, ?_, ?_, ?_, ⟨lm1, lm2, lmL⟩, nx⟩, fun z hz hM => ?_, Nat.le_refl _, rfl⟩
  · have k := row_put h1 hd (min x v) (w' := ⟨(((w.heap.put L (some (.loop ⟨51, tm, [29], (rfOf Tryz.prog 22 0).1, (rfOf Tryz.prog 22 0).2, none, .busy⟩))).put R1 (some (.cells ((F1.set dI (min x v)).flatMap intC) 3 false))).put R2 (some (.cells ((F2.set dI (max y v)).flatMap intC) 3 false))).put L (some (.loop ⟨51, tm, [29], (rfOf Tryz.prog 22 0).1, (rfOf Tryz.prog 22 0).2, none, .ready⟩)), w.next, w.lim⟩) (by simp [e1, Ne.symm e8])
    exact k.ext fun z _ => by by_cases e : z = dI <;> simp [e, stepX]
  · have k := row_put h2 hd (max y v) (w' := ⟨(((w.heap.put L (some (.loop ⟨51, tm, [29], (rfOf Tryz.prog 22 0).1, (rfOf Tryz.prog 22 0).2, none, .busy⟩))).put R1 (some (.cells ((F1.set dI (min x v)).flatMap intC) 3 false))).put R2 (some (.cells ((F2.set dI (max y v)).flatMap intC) 3 false))).put L (some (.loop ⟨51, tm, [29], (rfOf Tryz.prog 22 0).1, (rfOf Tryz.prog 22 0).2, none, .ready⟩)), w.next, w.lim⟩) (by simp [Ne.symm e9])
    exact k.ext fun z _ => by by_cases e : z = dI <;> simp [e, stepX]
  · simp [b2, e2, e3, Ne.symm e10]
  · simp [b3, e4, e5, Ne.symm e11]
  · simp [b4, e6, e7, Ne.symm e12]
  · simp
  · simp only [stepX]; omega
  · simp only [not_or] at hM
    simp [hM.1, hM.2.1, hM.2.2]
end Go.Proofs.YtbbbgaiaigdngaaGreatDoor.walk

namespace Go.Proofs.YtbbbgaiaigdngaaGreatDoor.walk
open Go Go.Sh
set_option maxRecDepth 100000
set_option linter.unusedSimpArgs false
def exD (s : Sea) (l : List Day) (S : List Int) (k : Nat) : Int × Int := match l[k]?, S[k]? with | some d, some z => (hsL s d z).foldl stepX (50, 0) | _, _ => (0, 0)
theorem Ex22.stay {R1 R2 c2 c3 c4 L n dI : Nat} {g1 g2 : Nat → Int} {lp : ALoop} (st : Int × Int) (w w' : AW) (h : Ex22 R1 R2 c2 c3 c4 L n dI g1 g2 lp st w) (k : ∀ x, x < w.next → w'.heap.get x = w.heap.get x) (hn : w.next ≤ w'.next) (hl : w'.lim = w.lim) : Ex22 R1 R2 c2 c3 c4 L n dI g1 g2 lp st w' := by
  obtain ⟨⟨F1, h1⟩, ⟨F2, h2⟩, b2, b3, b4, lo, bd, lims, nx⟩ := h
  obtain ⟨n1, n2, n3, n4, n5, n6⟩ := nx
  exact ⟨⟨F1, by rw [k R1 n1]; exact h1.row, h1.len, h1.at_⟩, ⟨F2, by rw [k R2 n2]; exact h2.row, h2.len, h2.at_⟩, by rw [k c2 n3]; exact b2, by rw [k c3 n4]; exact b3, by rw [k c4 n5]; exact b4, by rw [k L n6]; exact lo, bd, by rw [hl]; exact lims, by omega⟩
@[simp] theorem cf78 (w : AW) (l : List Value) : callFn Tryz.prog w 78 l = .enter 78 l w := callFn_of (by kernel_rfl) l
structure In22 (w0 : AW) (s : Sea) (dv cv sv : Value) (n : Nat) (w : AW) : Prop where
  old : Old w0.next w0.heap w.heap
  year : w.heap.get w0.next = some (.cells (yearC s dv cv sv) 58 false)
  b2 : w.heap.get (w0.next + 1) = some (.cells [.slice (some ⟨w0.next + 3, 0, none⟩) n n] 27 false)
  b3 : w.heap.get (w0.next + 2) = some (.cells [.slice (some ⟨w0.next + 4, 0, none⟩) n n] 27 false)
  next : w0.next + 4 < w.next
  lim : w.lim = w0.lim
set_option maxHeartbeats 2000000 in
theorem loop22 {ov : Ov} (m : Nat) (ho69 : ∀ args w, ov 53 args w = none) (ho81 : ∀ args w, ov 78 args w = none) (h53 : HasP ov 77 F77) (s : Sea) (dv cv sv : Value) (l : List Day) (h40 : l.length ≤ 40) (S : List Int) (hSl : S.length = l.length) (hok : ∀ (i : Nat) d z a, l[i]? = some d → S[i]? = some z → d.wl ≤ a → a ≤ d.wh → heatB s a z = true) (hday : ∀ (i : Nat) d, l[i]? = some d → dayB d = true) (w0 : AW) (hlim : w0.lim ≤ w0.next) (hv : RowsV dayC w0 dv l) (hS : RowsV intC w0 sv S)
    (Q : Ex → Tm → AW → Prop) (t : Tm) (w : AW) (F1 F2 : List Int) (hI : In22 w0 s dv cv sv l.length w) (hF1 : RowIs w (w0.next + 3) l.length (fun _ => 0) F1) (hF2 : RowIs w (w0.next + 4) l.length (fun _ => 0) F2)
    (t1 : tget t 1 = .pointer (some ⟨w0.next, 0, none⟩)) (t2 : tget t 2 = .pointer (some ⟨w0.next + 1, 0, none⟩)) (t3 : tget t 3 = .pointer (some ⟨w0.next + 2, 0, none⟩)) (t19 : tget t 19 = .int .i64 (l.length : Nat)) (t20 : tget t 20 = .int .i64 0)
    (hQ : ∀ t w F1 F2, In22 w0 s dv cv sv l.length w → RowIs w (w0.next + 3) l.length (fun k => (exD s l S k).1) F1 → RowIs w (w0.next + 4) l.length (fun k => (exD s l S k).2) F2 → tget t 2 = .pointer (some ⟨w0.next + 1, 0, none⟩) → tget t 3 = .pointer (some ⟨w0.next + 2, 0, none⟩) → Q (.exit 0) t w) :
    wp (exY Tryz.prog (run Tryz.prog ov (m + 2)) (.loop mc22_l0) t w) Q := by
  refine wp_roundsY (fun i t w => (∃ F1, RowIs w (w0.next + 3) l.length (fun k => if k < i then (exD s l S k).1 else 0) F1) ∧ (∃ F2, RowIs w (w0.next + 4) l.length (fun k => if k < i then (exD s l S k).2 else 0) F2) ∧ In22 w0 s dv cv sv l.length w ∧ tget t 1 = .pointer (some ⟨w0.next, 0, none⟩) ∧ tget t 2 = .pointer (some ⟨w0.next + 1, 0, none⟩) ∧ tget t 3 = .pointer (some ⟨w0.next + 2, 0, none⟩) ∧ tget t 19 = .int .i64 (l.length : Nat) ∧ tget t 20 = .int .i64 (i : Nat) ∧ i ≤ l.length) 200 (by decide) ⟨⟨F1, hF1.ext fun k _ => by simp⟩, ⟨F2, hF2.ext fun k _ => by simp⟩, hI, t1, t2, t3, t19, by simpa using t20, Nat.zero_le _⟩ ?_
  clear t1 t2 t3 t19 t20 hI hF1 hF2 F1 F2
  rintro i t w ⟨⟨F1, hF1⟩, ⟨F2, hF2⟩, hI, t1, t2, t3, t19, t20, hi⟩
  by_cases hlt : i < l.length
  · obtain ⟨d, hd⟩ : ∃ d, l[i]? = some d := ⟨_, List.getElem?_eq_getElem hlt⟩
    obtain ⟨z, hz⟩ : ∃ z, S[i]? = some z := ⟨_, List.getElem?_eq_getElem (by omega)⟩
    have hnx := hI.next
    have hlm := hI.lim
    have hyear := hI.year
    have hb2 := hI.b2
    have hb3 := hI.b3
    have lw : w.lim ≤ w.next := by omega
    have l3 : w.lim ≤ w0.next + 3 := by omega
    have hrow := hF1.row
    have hlen1 := hF1.len
    have hset := flat_set intC_length F1 i 50 (by omega)
    have hfl : (F1.flatMap intC).length = l.length := by rw [flat_length intC_length, hlen1]; omega
    simp only [Nat.mul_one, intC, List.cons_append, List.nil_append] at hset
    obtain ⟨q1, hq1⟩ : ∃ cs, cs = F1.flatMap intC := ⟨_, rfl⟩
    rw [← hq1] at hset hfl hrow
    have hfit : i + 1 ≤ l.length := hlt
    have hia := fun w => ia27 w ⟨w0.next + 3, 0, none⟩ l.length l.length .i64 i hlt
    have e0 : ¬ w0.next + 3 = w.next := by omega
    have e0' : ¬ w.next = w0.next + 3 := by omega
    have e1 : ¬ w0.next + 1 = w.next := by omega
    have e2 : ¬ w0.next = w.next := by omega
    have hw1 : IntKind.wrap .i64 ((i : Int) + 1) = (i : Int) + 1 := wrap64_in (by omega) (by omega)
    obtain ⟨_, _, c69, rfl, rfl⟩ := call53 (ov := ov) (m + 1) ho69 (yearC s dv cv sv) rfl i ⟨((w.heap.put w.next (some (.cells [.int .i64 0] 3 false))).put w.next (some (.cells [.int .i64 (i : Nat)] 3 false))).put (w0.next + 3) (some (.cells ((F1.set i 50).flatMap intC) 3 false)), w.next + 1, w.lim⟩
    simp only [yearC, Nat.add_assoc, Nat.reduceAdd] at c69 hyear
    simp [mc22_l0, t1, t2, t3, t19, t20, hlt, hb2, hyear, hia, hrow, hfl, hfit, hset, lw, l3, e0, e0', e1, e2, c69]
    obtain ⟨H, hH⟩ : ∃ H, H = ((((w.heap.put w.next (some (.cells [.int .i64 0] 3 false))).put w.next (some (.cells [.int .i64 (i : Nat)] 3 false))).put (w0.next + 3) (some (.cells ((F1.set i 50).flatMap intC) 3 false))).put (w.next + 1) (some (.cells (yearC s dv cv sv) 58 false))).put (w.next + 2) (some (.cells [.int .i64 (i : Nat)] 3 false)) := ⟨_, rfl⟩
    simp only [yearC] at hH
    rw [← hH]
    have hH' : ∀ x, x < w.next → x ≠ w0.next + 3 → H.get x = w.heap.get x := fun x h1 h2 => by
      rw [hH]; simp [show ¬ x = w.next by omega, show ¬ x = w.next + 1 by omega, show ¬ x = w.next + 2 by omega, h2]
    have g3 : H.get (w0.next + 3) = some (.cells ((F1.set i 50).flatMap intC) 3 false) := by
      rw [hH]; simp [show ¬ w0.next + 3 = w.next + 1 by omega, show ¬ w0.next + 3 = w.next + 2 by omega]
    have gd : H.get w.next = some (.cells [.int .i64 (i : Nat)] 3 false) := by rw [hH]; simp [e0']
    have gy : H.get (w.next + 1) = some (.cells (yearC s dv cv sv) 58 false) := by rw [hH]; simp [yearC]
    have gi : H.get (w.next + 2) = some (.cells [.int .i64 (i : Nat)] 3 false) := by rw [hH]; simp
    refine wp_seqX (wp_blockX (wp_blockX (rf_wp (g := 78) (gargs := [.func (.yield (w.next + 3)) ⟨[]⟩ ⟨[]⟩, .pointer (some ⟨w.next + 1, 0, none⟩), .pointer (some ⟨w.next + 2, 0, none⟩)]) ?_ ?_)))
    · simp [callV_func]
    · generalize hTT : tset _ 28 _ = TT
      have u1 : tget TT 1 = .pointer (some ⟨w0.next, 0, none⟩) := by rw [← hTT]; simp [t1]
      have u2 : tget TT 2 = .pointer (some ⟨w0.next + 1, 0, none⟩) := by rw [← hTT]; simp [t2]
      have u3 : tget TT 3 = .pointer (some ⟨w0.next + 2, 0, none⟩) := by rw [← hTT]; simp [t3]
      have u4 : tget TT 4 = .pointer (some ⟨w.next, 0, none⟩) := by rw [← hTT]; simp
      have u19 : tget TT 19 = .int .i64 (l.length : Nat) := by rw [← hTT]; simp [t19]
      have u20 : tget TT 20 = .int .i64 (i : Nat) := by rw [← hTT]; simp [t20]
      clear hTT
      have hst := steps22 (ov := ov) m (w0.next + 3) (w0.next + 4) (w0.next + 1) (w0.next + 2) w.next (w.next + 3) l.length i hlt (by omega) (fun k => if k < i then (exD s l S k).1 else 0) (fun k => if k < i then (exD s l S k).2 else 0) TT u2 u3 u4
      have hgo : ∀ x, x < w.next + 3 → (H.put (w.next + 3) (some (.loop ⟨51, TT, [29], (rfOf Tryz.prog 22 0).1, (rfOf Tryz.prog 22 0).2, none, .ready⟩))).get x = H.get x := fun x hx => by rw [get_put, if_neg (by omega)]
      have hJ0 : Ex22 (w0.next + 3) (w0.next + 4) (w0.next + 1) (w0.next + 2) w.next (w.next + 3) l.length i (fun k => if k < i then (exD s l S k).1 else 0) (fun k => if k < i then (exD s l S k).2 else 0) ⟨51, TT, [29], (rfOf Tryz.prog 22 0).1, (rfOf Tryz.prog 22 0).2, none, .ready⟩ (50, 0) ⟨H.put (w.next + 3) (some (.loop ⟨51, TT, [29], (rfOf Tryz.prog 22 0).1, (rfOf Tryz.prog 22 0).2, none, .ready⟩)), w.next + 3 + 1, w.lim⟩ := by
        refine ⟨⟨F1.set i 50, ?_⟩, ⟨F2, ?_⟩, ?_, ?_, ?_, ?_, by simp, ⟨l3, by show w.lim ≤ w0.next + 4; omega, by show w.lim ≤ w.next + 3; omega⟩, ?_⟩
        · exact row_put hF1 hlt 50 (by show (H.put _ _).get _ = _; rw [hgo _ (by omega)]; exact g3)
        · refine (RowIs.ext ⟨?_, hF2.len, hF2.at_⟩ fun k hk => ?_)
          · show (H.put _ _).get _ = _
            rw [hgo _ (by omega), hH' _ (by omega) (by omega)]; exact hF2.row
          · by_cases e : k = i
            · subst e; simp
            · simp [e]
        · show (H.put _ _).get _ = _
          rw [hgo _ (by omega), hH' _ (by omega) (by omega)]; exact hb2
        · show (H.put _ _).get _ = _
          rw [hgo _ (by omega), hH' _ (by omega) (by omega)]; exact hb3
        · show (H.put _ _).get _ = _
          rw [hgo _ (by omega)]; exact gd
        · show (H.put _ _).get _ = _
          rw [get_put, if_pos rfl]
        · show w0.next + 3 < w.next + 3 + 1 ∧ w0.next + 4 < w.next + 3 + 1 ∧ w0.next + 1 < w.next + 3 + 1 ∧ w0.next + 2 < w.next + 3 + 1 ∧ w.next < w.next + 3 + 1 ∧ w.next + 3 < w.next + 3 + 1
          omega
      obtain ⟨v, w2, hc, hJ2, hk2, hn2, hl2⟩ := call78 m ho81 h53 stepX (Ex22 (w0.next + 3) (w0.next + 4) (w0.next + 1) (w0.next + 2) w.next (w.next + 3) l.length i (fun k => if k < i then (exD s l S k).1 else 0) (fun k => if k < i then (exD s l S k).2 else 0) ⟨51, TT, [29], (rfOf Tryz.prog 22 0).1, (rfOf Tryz.prog 22 0).2, none, .ready⟩) (fun x => x = w0.next + 3 ∨ x = w0.next + 4 ∨ x = w.next + 3) (w.next + 3) hst s dv cv sv l h40 S i d z hd hz (fun a => hok i d z a hd hz) (hday i d hd) w0 ⟨H.put (w.next + 3) (some (.loop ⟨51, TT, [29], (rfOf Tryz.prog 22 0).1, (rfOf Tryz.prog 22 0).2, none, .ready⟩)), w.next + 3 + 1, w.lim⟩ (by show w.lim ≤ w.next + 3 + 1; omega) hv hS (by show w0.next ≤ w.next + 3 + 1; omega) (fun x hx => by show w0.next ≤ x ∧ x < w.next + 3 + 1; omega) (fun x hx => by show (H.put _ _).get x = _; rw [hgo x (by omega), hH' x (by omega) (by omega)]; exact hI.old x hx) (fun st w w' h k hn hl => h.stay st w w' k hn hl) (w.next + 1) (w.next + 2) (by show w.next + 1 < w.next + 3 + 1; omega) (by show w.next + 2 < w.next + 3 + 1; omega) (by omega) (by omega) (by show (H.put _ _).get _ = _; rw [hgo _ (by omega)]; exact gy) (by show (H.put _ _).get _ = _; rw [hgo _ (by omega)]; exact gi) (50, 0) hJ0
      have hn2' : w.next + 3 + 1 ≤ w2.next := hn2
      have hl2' : w2.lim = w.lim := hl2
      refine ⟨v, w2, hc, _, hJ2.lo, rfl, by show w2.lim ≤ w.next + 3; omega, ?_⟩
      have hex : (hsL s d z).foldl stepX (50, 0) = exD s l S i := by unfold exD; rw [hd, hz]
      rw [hex] at hJ2
      obtain ⟨⟨G1, k1⟩, ⟨G2, k2⟩, b2', b3', b4', lo', _, _, _⟩ := hJ2
      have hg2 : ∀ x, x < w.next → x ≠ w0.next + 3 → x ≠ w0.next + 4 → w2.heap.get x = w.heap.get x := fun x h1 h2 h3 => by
        rw [hk2 x (by show x < w.next + 3 + 1; omega) (by omega)]
        show (H.put _ _).get x = _
        rw [hgo x (by omega), hH' x h1 h2]
      simp [u1, u2, u3, u19, u20, hw1]
      refine ⟨by omega, ⟨G1, ?_⟩, ⟨G2, ?_⟩, ⟨fun x hx => ?_, ?_, ?_, ?_, by show w0.next + 4 < w2.next; omega, by show w2.lim = w0.lim; omega⟩, hlt⟩
      · refine (RowIs.ext ⟨?_, k1.len, k1.at_⟩ fun k hk => ?_)
        · show (w2.heap.put _ _).get _ = _
          rw [get_put, if_neg (by omega)]; exact k1.row
        · by_cases e : k = i
          · subst e; simp
          · by_cases e' : k < i
            · simp [e, e', show k < i + 1 by omega]
            · simp [e, e', show ¬ k < i + 1 by omega]
      · refine (RowIs.ext ⟨?_, k2.len, k2.at_⟩ fun k hk => ?_)
        · show (w2.heap.put _ _).get _ = _
          rw [get_put, if_neg (by omega)]; exact k2.row
        · by_cases e : k = i
          · subst e; simp
          · by_cases e' : k < i
            · simp [e, e', show k < i + 1 by omega]
            · simp [e, e', show ¬ k < i + 1 by omega]
      · show (w2.heap.put _ _).get _ = _
        rw [get_put, if_neg (by omega), hg2 x (by omega) (by omega) (by omega)]; exact hI.old x hx
      · show (w2.heap.put _ _).get _ = _
        rw [get_put, if_neg (by omega), hg2 w0.next (by omega) (by omega) (by omega)]; exact hI.year
      · show (w2.heap.put _ _).get _ = _
        rw [get_put, if_neg (by omega)]; exact b2'
      · show (w2.heap.put _ _).get _ = _
        rw [get_put, if_neg (by omega)]; exact b3'
  · have hi' : i = l.length := by omega
    subst hi'
    simp [mc22_l0, t19, t20]
    exact hQ _ _ F1 F2 hI (hF1.ext fun k hk => by simp [hk]) (hF2.ext fun k hk => by simp [hk]) (by simp [t2]) (by simp [t3])
set_option maxHeartbeats 1000000 in
theorem call22 {ov : Ov} (m : Nat) (ho : ∀ args w, ov 22 args w = none) (ho69 : ∀ args w, ov 53 args w = none) (ho81 : ∀ args w, ov 78 args w = none) (h53 : HasP ov 77 F77) (s : Sea) (dv cv sv : Value) (l : List Day) (h40 : l.length ≤ 40) (S : List Int) (hSl : S.length = l.length) (hok : ∀ (i : Nat) d z a, l[i]? = some d → S[i]? = some z → d.wl ≤ a → a ≤ d.wh → heatB s a z = true) (hday : ∀ (i : Nat) d, l[i]? = some d → dayB d = true) (w : AW) (hlim : w.lim ≤ w.next) (hv : RowsV dayC w dv l) (hS : RowsV intC w sv S) :
    ∃ x w', (run Tryz.prog ov (m + 3)).call 22 [.agg ⟨yearC s dv cv sv⟩] w .none = .ok (.ret x) w' .none ∧ ∃ u v, x = .tuple ⟨[u, v]⟩ ∧ RowsV intC w' u ((List.range l.length).map fun k => (exD s l S k).1) ∧ RowsV intC w' v ((List.range l.length).map fun k => (exD s l S k).2) ∧ Old w.next w.heap w'.heap ∧ w.next ≤ w'.next ∧ w'.lim = w.lim := by
  refine call_wpY text22 (by simp) (ho _ _) ?_
  have hlv := len22V hv
  obtain ⟨da, dc, rfl⟩ := hv.len
  have hmk := fun w => mk27 l.length (by omega) w
  have l1 : w.lim ≤ w.next + 1 := by omega
  have l2 : w.lim ≤ w.next + 2 := by omega
  have sv1 := fun (a : Option Addr) (n c : Nat) => sameN_slice 4 a n c
  have sv2 := fun (k : IntKind) (a : Int) => sameN_int 4 k a
  simp [mc22, yearC, hlv, hmk, l1, l2, sv1, sv2]
  refine wp_seqX (wp_blockX (loop22 m ho69 ho81 h53 s (.slice da l.length dc) cv sv l h40 S hSl hok hday w hlim hv hS _ _ _ (List.replicate l.length 0) (List.replicate l.length 0) ⟨?_, ?_, ?_, ?_, ?_, ?_⟩ ⟨?_, ?_, ?_⟩ ⟨?_, ?_, ?_⟩ ?_ ?_ ?_ ?_ ?_ ?_))
  case _ =>
    intro b hb
    simp [show ¬ b = w.next by omega, show ¬ b = w.next + 1 by omega, show ¬ b = w.next + 1 + 1 by omega, show ¬ b = w.next + 1 + 1 + 1 by omega, show ¬ b = w.next + 1 + 1 + 1 + 1 by omega, show ¬ b = w.next + 2 by omega, show ¬ b = w.next + 3 by omega, show ¬ b = w.next + 4 by omega]
  case _ => simp [yearC]
  case _ => simp
  case _ => simp
  case _ => show w.next + 4 < w.next + 1 + 1 + 1 + 1 + 1; omega
  case _ => rfl
  case _ => simp
  case _ => simp
  case _ => intro x hx; simp [List.getElem?_replicate, hx]
  case _ => simp
  case _ => simp
  case _ => intro x hx; simp [List.getElem?_replicate, hx]
  case _ => simp
  case _ => simp
  case _ => simp
  case _ => simp
  case _ => simp
  case _ =>
    intro t w' F1 F2 hI hF1 hF2 t2 t3
    have b2 := hI.b2
    have b3 := hI.b3
    have hnx := hI.next
    have hlm := hI.lim
    have k1 : w'.lim ≤ w.next + 1 := by omega
    have k2 : w'.lim ≤ w.next + 2 := by omega
    have lst : ∀ (g : Nat → Int) (F : List Int) b, RowIs w' b l.length g F → b < w'.next → ∀ w2 : AW, w2.heap.get b = w'.heap.get b → w2.next = w'.next → RowsV intC w2 (.slice (some ⟨b, 0, none⟩) l.length l.length) ((List.range l.length).map g) := fun g F b h hb w2 h1 h2 => by
      have e : F = (List.range l.length).map g := by
        apply List.ext_getElem?
        intro x
        by_cases hx : x < l.length
        · rw [h.at_ x hx]; simp [hx]
        · rw [List.getElem?_eq_none (by rw [h.len]; omega), List.getElem?_eq_none (by simp; omega)]
      have hrow := h.row
      rw [e] at hrow
      exact .inr ⟨b, 0, none, l.length, by simp, ⟨[], [], 3, false, by rw [h1, hrow]; simp, rfl⟩, by omega⟩
    simp [t2, t3, b2, b3, k1, k2, sv1, tupV]
    refine ⟨_, _, ⟨rfl, rfl⟩, lst _ F1 (w.next + 3) hF1 (by omega) _ (by simp) rfl, lst _ F2 (w.next + 4) hF2 (by omega) _ (by simp) rfl, ?_, by omega, hlm⟩
    intro b hb
    simp [show ¬ b = w.next + 1 by omega, show ¬ b = w.next + 2 by omega]
    exact hI.old b hb
end Go.Proofs.YtbbbgaiaigdngaaGreatDoor.walk

namespace Go.Proofs.YtbbbgaiaigdngaaGreatDoor.walk
open Go Go.Sh
set_option maxRecDepth 100000
set_option linter.unusedSimpArgs false
/-! the ends of the heats of a day -/
theorem tdiv_mono {a b : Int} (h0 : 0 ≤ a) (h : a ≤ b) : a.tdiv 100 ≤ b.tdiv 100 := by
  rw [Int.tdiv_eq_ediv_of_nonneg h0, Int.tdiv_eq_ediv_of_nonneg (by omega)]
  omega
theorem heat_mono {s s' : Sea} {a a' r z z' : Int} (hw : s'.wet = s.wet) (hb : s.base ≤ s'.base) (ha : a' ≤ a) (hz : z ≤ z') (hz' : z' ≤ 100) : heatI s' a' r z' ≤ heatI s a r z := by
  unfold heatI
  rw [hw]
  split
  · exact Int.le_refl _
  · refine tdiv_mono (Int.mul_nonneg (by omega) (by omega)) ?_
    exact Int.mul_le_mul (by omega) (by omega) (by omega) (by omega)
theorem heat_bd {s : Sea} {a z : Int} (r : Int) (h : heatB s a z = true) : 0 ≤ heatI s a r z ∧ heatI s a r z ≤ 50 := by
  have nums := (heat_nums (heatB_ok h)).2
  unfold heatI
  split <;> omega
def loD (s : Sea) (d : Day) (z : Int) : Int := if s.wet < d.rh then 0 else heatI s d.wl d.rl z
def hiD (s : Sea) (d : Day) (z : Int) : Int := heatI s d.wh d.rl z
theorem foldN (s : Sea) (d : Day) (z : Int) (hz : z ≤ 100) (x y : Int) : ∀ n : Nat, (hsN s d z (n + 1)).foldl stepX (x, y) = (min x (heatI s d.wl d.rl z), max y (heatI s (d.wl + (n : Nat)) d.rl z))
  | 0 => by simp [hsN, stepX]
  | n + 1 => by
    rw [hsN, List.foldl_append, foldN s d z hz x y n]
    have h1 : heatI s d.wl d.rl z ≤ heatI s (d.wl + ((n + 1 : Nat) : Int)) d.rl z := heat_mono rfl (Int.le_refl _) (by omega) (Int.le_refl _) hz
    have h2 : heatI s (d.wl + (n : Nat)) d.rl z ≤ heatI s (d.wl + ((n + 1 : Nat) : Int)) d.rl z := heat_mono rfl (Int.le_refl _) (by omega) (Int.le_refl _) hz
    simp only [List.foldl_cons, List.foldl_nil, stepX]
    congr 1
    · omega
    · omega
theorem ex_eq {s : Sea} {d : Day} {z : Int} (hd : dayB d = true) (h1 : heatB s d.wl z = true) (h2 : heatB s d.wh z = true) : (hsL s d z).foldl stepX (50, 0) = (loD s d z, hiD s d z) := by
  have hdb := hd
  simp only [dayB, spanB, Bool.and_eq_true, decide_eq_true_eq] at hdb
  obtain ⟨n, hn⟩ : ∃ n, (d.wh - d.wl + 1).toNat = n + 1 := ⟨(d.wh - d.wl).toNat, by omega⟩
  have hz : z ≤ 100 := (heatB_ok h1).s1
  have b1 := heat_bd d.rl h1
  have b2 := heat_bd d.rl h2
  have e : d.wl + (n : Nat) = d.wh := by omega
  unfold hsL
  rw [hn]
  by_cases hw : s.wet < d.rh
  · rw [if_pos hw, List.singleton_append, List.foldl_cons]
    show (hsN s d z (n + 1)).foldl stepX (stepX (50, 0) 0) = _
    rw [show stepX (50, 0) 0 = (0, 0) from rfl, foldN s d z hz, e]
    unfold loD hiD
    rw [if_pos hw]
    congr 1 <;> omega
  · rw [if_neg hw, List.nil_append, foldN s d z hz, e]
    unfold loD hiD
    rw [if_neg hw]
    congr 1 <;> omega
/-- the shade of a day of a valid season -/
def shD (s : Sea) (c : List Int) (k : Nat) : Int := shB s c (k + 1)
def LS (s : Sea) (l : List Day) (c : List Int) : List Int := (List.range l.length).map fun k => (exD s l (shL s c l.length) k).1
def MS (s : Sea) (l : List Day) (c : List Int) : List Int := (List.range l.length).map fun k => (exD s l (shL s c l.length) k).2
theorem sea_facts {s : Sea} {l : List Day} {c : List Int} (hE : seaE s l c = 0) : (∀ (i : Nat) d z a, l[i]? = some d → (shL s c l.length)[i]? = some z → d.wl ≤ a → a ≤ d.wh → heatB s a z = true) ∧ (∀ (i : Nat) d, l[i]? = some d → dayB d = true) := by
  obtain ⟨hd, hcB, hs, hb, hwet⟩ := sea_zero hE
  have hdd : daysTo l l.length = true := by
    simp only [daysB, Bool.and_eq_true] at hd
    exact hd.2.2
  have hday : ∀ (i : Nat) d, l[i]? = some d → dayB d = true := fun i d h => day_of _ hdd i d (List.getElem?_eq_some_iff.1 h).1 h
  refine ⟨fun i d z a h hz h1 h2 => ?_, hday⟩
  have hil : i < l.length := (List.getElem?_eq_some_iff.1 h).1
  have hz' := shL_at s c l.length i hil
  rw [hz] at hz'
  cases hz'
  have bd := shB_bd hs c (i + 1)
  have bd0 := bd.2.2 (Nat.succ_pos _)
  have hdy := hday i d h
  simp only [dayB, spanB, Bool.and_eq_true, decide_eq_true_eq] at hdy
  simp only [inI, Bool.and_eq_true, decide_eq_true_eq] at hb
  simp only [heatB, inI, Bool.and_eq_true, decide_eq_true_eq]
  omega
theorem exD_eq {s : Sea} {l : List Day} {c : List Int} (hE : seaE s l c = 0) {k : Nat} {d : Day} (hk : l[k]? = some d) : exD s l (shL s c l.length) k = (loD s d (shD s c k), hiD s d (shD s c k)) := by
  obtain ⟨h1, h2⟩ := sea_facts hE
  have hkl : k < l.length := (List.getElem?_eq_some_iff.1 hk).1
  have hz := shL_at s c l.length k hkl
  have hdy := h2 k d hk
  have hdb := hdy
  simp only [dayB, spanB, Bool.and_eq_true, decide_eq_true_eq] at hdb
  unfold exD
  rw [hk, hz]
  exact ex_eq hdy (h1 k d _ _ hk hz (Int.le_refl _) (by omega)) (h1 k d _ _ hk hz (by omega) (Int.le_refl _))
theorem ends_bd {s : Sea} {l : List Day} {c : List Int} (hE : seaE s l c = 0) {k : Nat} {d : Day} (hk : l[k]? = some d) : (0 ≤ loD s d (shD s c k) ∧ loD s d (shD s c k) ≤ 50) ∧ 0 ≤ hiD s d (shD s c k) ∧ hiD s d (shD s c k) ≤ 50 := by
  obtain ⟨h1, h2⟩ := sea_facts hE
  have hkl : k < l.length := (List.getElem?_eq_some_iff.1 hk).1
  have hz := shL_at s c l.length k hkl
  have hdb := h2 k d hk
  simp only [dayB, spanB, Bool.and_eq_true, decide_eq_true_eq] at hdb
  have b1 := heat_bd d.rl (h1 k d _ _ hk hz (Int.le_refl _) (by omega))
  have b2 := heat_bd d.rl (h1 k d _ _ hk hz (by omega) (Int.le_refl _))
  unfold loD hiD shD
  refine ⟨?_, b2⟩
  split <;> omega
theorem small_ends {s : Sea} {l : List Day} {c : List Int} (hE : seaE s l c = 0) : small (LS s l c) = true ∧ small (MS s l c) = true := by
  have h40 := (days_len (sea_zero hE).1).2
  have key : ∀ g : Nat → Int, (∀ k, k < l.length → 0 ≤ g k ∧ g k ≤ 50) → small ((List.range l.length).map g) = true := fun g hg => by
    simp only [small, Bool.and_eq_true, decide_eq_true_eq, List.all_eq_true, List.length_map, List.length_range]
    refine ⟨h40, fun z hz => ?_⟩
    obtain ⟨k, hk, rfl⟩ := List.mem_map.1 hz
    have := hg k (List.mem_range.1 hk)
    simp [inI, this]
  constructor
  · refine key _ fun k hk => ?_
    have hd : l[k]? = some (l[k]'hk) := List.getElem?_eq_getElem hk
    rw [exD_eq hE hd]; exact (ends_bd hE hd).1
  · refine key _ fun k hk => ?_
    have hd : l[k]? = some (l[k]'hk) := List.getElem?_eq_getElem hk
    rw [exD_eq hE hd]; exact (ends_bd hE hd).2
/-! Opens -/
def oE (s : Sea) (l : List Day) (c : List Int) (r : Rac) : Int := bothE s l c [r]
def oA (s : Sea) (l : List Day) (c : List Int) (r : Rac) : Int := if oE s l c r = 0 then (opI (MS s l c) r.need : Nat) else 0
def oB (s : Sea) (l : List Day) (c : List Int) (r : Rac) : Int := if oE s l c r = 0 then (opI (LS s l c) r.need : Nat) else 0
set_option maxHeartbeats 1000000 in
theorem run6 {ov : Ov} (ho : ∀ args w, ov 6 args w = none) (ho19 : ∀ args w, ov 21 args w = none) (ho45 : ∀ args w, ov 22 args w = none) (ho69 : ∀ args w, ov 53 args w = none) (ho81 : ∀ args w, ov 78 args w = none) (h32 : HasP ov 20 F20) (h46 : HasP ov 23 F23) (h47 : HasP ov 51 F51) (h48 : HasP ov 52 F52) (h53 : HasP ov 77 F77) (s : Sea) (l : List Day) (c : List Int) (r : Rac) (dv cv : Value) (w : AW) (hl : w.lim ≤ w.next) (hv : RowsV dayC w dv l) (hu : RowsV intC w cv c) :
    ∃ x w', (run Tryz.prog ov 4).call 6 [.agg ⟨seaC s dv cv⟩, .agg ⟨racC r⟩] w .none = .ok (.ret x) w' .none ∧ x = .tuple ⟨[.agg ⟨[.int .i64 (oA s l c r), .int .i64 (oB s l c r)]⟩, .int .i64 (oE s l c r)]⟩ := by
  refine call_wp text6 (by simp) (ho _ _) ?_
  obtain ⟨H, hH⟩ : ∃ H, H = (((w.heap.put w.next (some (.cells (seaC s dv cv) 29 false))).put (w.next + 1) (some (.cells (racC r) 32 false))).put (w.next + 2) (some (.cells [.int .i64 0, .int .i64 0] 24 false))).put (w.next + 3) (some (.cells (racC r) 32 false)) := ⟨_, rfl⟩
  have o1 : Old w.next w.heap H := by
    intro b hb
    rw [hH]
    simp [show ¬ b = w.next by omega, show ¬ b = w.next + 1 by omega, show ¬ b = w.next + 2 by omega, show ¬ b = w.next + 3 by omega]
  have n1 : w.next ≤ w.next + 4 := by omega
  have hv1 : RowsV dayC ⟨H, w.next + 4, w.lim⟩ dv l := hv.old o1 n1
  have hu1 : RowsV intC ⟨H, w.next + 4, w.lim⟩ cv c := hu.old o1 n1
  have hr1 : RowsV racC ⟨H, w.next + 4, w.lim⟩ (.slice (some ⟨w.next + 3, 0, none⟩) 1 1) [r] := .inr ⟨w.next + 3, 0, none, 1, rfl, ⟨[], [], 32, false, by rw [hH]; simp, rfl⟩, by show w.next + 3 < w.next + 4; omega⟩
  have r32 := rule20 (s := s) h32 hv1 hu1 hr1 2
  have l2 : w.lim ≤ w.next + 2 := by omega
  have g0 : H.get w.next = some (.cells (seaC s dv cv) 29 false) := by rw [hH]; simp
  have g1 : H.get (w.next + 1) = some (.cells (racC r) 32 false) := by rw [hH]; simp
  have g2 : H.get (w.next + 2) = some (.cells [.int .i64 0, .int .i64 0] 24 false) := by rw [hH]; simp
  by_cases hB : bothE s l c [r] = 0
  · obtain ⟨hE, hR⟩ := both_zero hB
    obtain ⟨hd, hcB, hs, _, _⟩ := sea_zero hE
    obtain ⟨f1, f2⟩ := sea_facts hE
    have h40 := (days_len hd).2
    have hcl := cuts_len (by omega) hcB
    obtain ⟨y, w1, hc19, B, rfl, k1, k2, k3, o2, n2, l3⟩ := call21 1 ho19 h47 h48 s hs l h40 c hcB (by omega) dv cv ⟨H, w.next + 4, w.lim⟩ (by show w.lim ≤ w.next + 4; omega) hv1 hu1
    have n2' : w.next + 4 ≤ w1.next := n2
    have l3' : w1.lim = w.lim := l3
    have hS : RowsV intC w1 (.slice (some ⟨B, 0, none⟩) l.length l.length) (shL s c l.length) := .inr ⟨B, 0, none, l.length, by rw [shL_length], ⟨[], [], 3, false, by rw [k1]; simp, rfl⟩, k3⟩
    obtain ⟨x, w2, hc45, u, v, rfl, hu2, hv2, o3, n3, l4⟩ := call22 0 ho45 ho69 ho81 h53 s dv cv _ l h40 (shL s c l.length) (shL_length _ _ _) f1 f2 w1 (by omega) (hv1.old o2 n2) hS
    have gg : ∀ x, x < w.next + 4 → w2.heap.get x = H.get x := fun x hx => by rw [o3 x (by omega), o2 x hx]
    obtain ⟨sm1, sm2⟩ := small_ends hE
    have r46 := rule23 h46 r.need hv2 sm2 2
    have r46' := rule23 h46 r.need hu2 sm1 2
    have q1 := gg (w.next + 1) (by omega)
    rw [g1] at q1
    have q2 := gg (w.next + 2) (by omega)
    rw [g2] at q2
    have l5 : w2.lim ≤ w.next + 2 := by omega
    have sv2 := fun (k : IntKind) (a : Int) => sameN_int 4 k a
    rw [hB] at r32
    simp only [seaC, racC] at hH g0 g1 q1 r32 hc19
    rw [hH] at r32 hc19
    rw [hH] at g0
    simp [mc6, seaC, racC, l2, r32, hc19, hc45, r46, r46', q1, q2, l5, sv2, tupV, oA, oB, oE, hB]
    exact ⟨rfl, rfl⟩
  · simp only [seaC, racC] at hH r32
    rw [hH] at r32
    simp [mc6, seaC, racC, l2, r32, tupV, oA, oB, oE, hB]
end Go.Proofs.YtbbbgaiaigdngaaGreatDoor.walk

namespace Go.Proofs.YtbbbgaiaigdngaaGreatDoor.walk
open Go Go.Sh
set_option maxRecDepth 100000
set_option linter.unusedSimpArgs false
/-! what is more -/
def leL : List Int → List Int → Prop
  | [], [] => True
  | a :: l, b :: m => a ≤ b ∧ leL l m
  | _, _ => False
theorem opF_mono : ∀ (L' L : List Int) (need need' sum sum' : Int) (i : Nat), leL L' L → sum' ≤ sum → need ≤ need' → opF need L sum i ≤ opF need' L' sum' i
  | [], [], _, _, _, _, i, _, _, _ => Nat.le_refl _
  | [], _ :: _, _, _, _, _, _, h, _, _ => h.elim
  | _ :: _, [], _, _, _, _, _, h, _, _ => h.elim
  | a :: l, b :: m, need, need', sum, sum', i, h, h1, h2 => by
    obtain ⟨h3, h4⟩ := h
    unfold opF
    by_cases e : need ≤ sum + b
    · rw [if_pos e]
      split
      · exact Nat.le_refl _
      · have := (opF_ge need' l (sum' + a) (i + 1)).1; omega
    · rw [if_neg e, if_neg (by omega)]
      exact opF_mono l m need need' _ _ (i + 1) h4 (by omega) h2
theorem leL_map {α : Type} (g' g : α → Int) : ∀ xs : List α, (∀ x ∈ xs, g' x ≤ g x) → leL (xs.map g') (xs.map g)
  | [], _ => trivial
  | x :: xs, h => ⟨h x (List.mem_cons_self ..), leL_map g' g xs fun y hy => h y (List.mem_cons_of_mem _ hy)⟩
theorem days_all {l : List Day} : ∀ n, (∀ i d, i < n → l[i]? = some d → dayB d = true) → daysTo l n = true
  | 0, _ => rfl
  | n + 1, h => by
    show (daysTo l n && _) = true
    rw [days_all n fun i d hi => h i d (by omega), Bool.true_and]
    cases hd : l[n]? with
    | none => rfl
    | some d => exact h n d (Nat.lt_succ_self _) hd
end Go.Proofs.YtbbbgaiaigdngaaGreatDoor.walk

namespace Go.Proofs.YtbbbgaiaigdngaaGreatDoor.walk
open Go Go.Sh
set_option maxRecDepth 100000
set_option linter.unusedSimpArgs false
/-! what VineLater asks besides: Wrap, to, fits -/
def wrapI (n s : Int) : Int := if s < 1 then 0 else (n.tmod s + s).tmod s
theorem wrapI_bd {n s : Int} (h : 1 ≤ s) : 0 ≤ wrapI n s ∧ wrapI n s < s := by
  have h2 := Int.lt_tmod_of_pos n (show 0 < s by omega)
  unfold wrapI
  rw [if_neg (by omega)]
  exact ⟨Int.tmod_nonneg _ (by omega), Int.tmod_lt_of_pos _ (by omega)⟩
noncomputable def F16 : PureF := fun args _ => match args with | [.int .i64 n, .int .i64 s] => bif decide (s ≤ 2 ^ 60) then some (.int .i64 (wrapI n s)) else none | _ => none
theorem rule16 {ov : Ov} (k : HasP ov 16 F16) (n : Int) {s : Int} (hs : s ≤ 2 ^ 60) (m : Nat) (w : AW) : (run Tryz.prog ov (m + 1)).call 16 [.int .i64 n, .int .i64 s] w .none = .ok (.ret (.int .i64 (wrapI n s))) w .none := k.call (by
  show (bif decide (s ≤ 2 ^ 60) then some (Value.int .i64 (wrapI n s)) else none) = _
  rw [decide_eq_true hs]; rfl)
theorem run16 {ov : Ov} (ho : ∀ args w, ov 16 args w = none) (n s : Int) (hs : s ≤ 2 ^ 60) (w : AW) : ∃ v w', (run Tryz.prog ov 2).call 16 [.int .i64 n, .int .i64 s] w .none = .ok (.ret v) w' .none ∧ v = .int .i64 (wrapI n s) := by
  refine call_wp text16 (by simp) (ho _ _) ?_
  by_cases h1 : s < 1
  · simp [mc16, h1, tupV, wrapI]
  · have hr := fun (a : Int) (c : Bool) w => bin_rem (P := Tryz.prog) (w := w) 3 c .i64 a s (by omega)
    have b1 := Int.lt_tmod_of_pos n (show 0 < s by omega)
    have b2 := Int.tmod_lt_of_pos n (show 0 < s by omega)
    have w1 : IntKind.wrap .i64 (n.tmod s + s) = n.tmod s + s := wrap64_in (by omega) (by omega)
    simp [mc16, h1, tupV, wrapI, hr, w1]
noncomputable def F19 : PureF := fun args _ => match args with | [.int .i64 a, .int .i64 b] => some (.agg ⟨[.int .i64 a, .int .i64 b]⟩) | _ => none
theorem rule19 {ov : Ov} (k : HasP ov 19 F19) (a b : Int) (m : Nat) (w : AW) : (run Tryz.prog ov (m + 1)).call 19 [.int .i64 a, .int .i64 b] w .none = .ok (.ret (.agg ⟨[.int .i64 a, .int .i64 b]⟩)) w .none := k.call rfl
theorem run19 {ov : Ov} (ho : ∀ args w, ov 19 args w = none) (a b : Int) (w : AW) (hl : w.lim = w.next) : ∃ v w', (run Tryz.prog ov 2).call 19 [.int .i64 a, .int .i64 b] w .none = .ok (.ret v) w' .none ∧ v = .agg ⟨[.int .i64 a, .int .i64 b]⟩ := by
  refine call_wp text19 (by simp) (ho _ _) ?_
  have l1 : w.lim ≤ w.next := by omega
  simp [mc19, l1, cellsOf_agg, tupV]
noncomputable def F11 : PureF := fun args w => match args with | [.agg ⟨[dv, .int .i64 a, .int .i64 b, .int .i64 c, .int .i64 d, .int .i64 e, .int .i64 f, .int .i64 g, cv]⟩] => (rowsIn dayC w dv).bind fun l => (rowsIn intC w cv).bind fun k => some (.bool (decide (seaE ⟨a, b, c, d, e, f, g⟩ l k = 0))) | _ => none
theorem rule11 {ov : Ov} (k : HasP ov 11 F11) {s : Sea} {dv cv : Value} {l : List Day} {c : List Int} {w : AW} (hv : RowsV dayC w dv l) (hc : RowsV intC w cv c) (m : Nat) : (run Tryz.prog ov (m + 1)).call 11 [.agg ⟨seaC s dv cv⟩] w .none = .ok (.ret (.bool (decide (seaE s l c = 0)))) w .none := k.call (by
  simp only [F11, seaC, hv.rowsIn (m := 4) dayC_length dayC_inj, hc.rowsIn (m := 1) intC_length intC_inj, Option.bind_some])
theorem run11 {ov : Ov} (ho : ∀ args w, ov 11 args w = none) (h8 : HasP ov 43 F43) (h25 : HasP ov 15 F15) (s : Sea) (l : List Day) (c : List Int) (dv cv : Value) (w : AW) (hv : RowsV dayC w dv l) (hc : RowsV intC w cv c) :
    ∃ x w', (run Tryz.prog ov 2).call 11 [.agg ⟨seaC s dv cv⟩] w .none = .ok (.ret x) w' .none ∧ x = .bool (decide (seaE s l c = 0)) := by
  refine call_wp text11 (by simp) (ho _ _) ?_
  have o1 : Old w.next w.heap (w.heap.put w.next (some (.cells (seaC s dv cv) 29 false))) := (Old.refl _ _).put (Nat.le_refl _)
  have hv1 : RowsV dayC ⟨w.heap.put w.next (some (.cells (seaC s dv cv) 29 false)), w.next + 1, w.lim⟩ dv l := hv.old o1 (Nat.le_succ _)
  have hu1 : RowsV intC ⟨w.heap.put w.next (some (.cells (seaC s dv cv) 29 false)), w.next + 1, w.lim⟩ cv c := hc.old o1 (Nat.le_succ _)
  have r8 := rule43 (f := 43) (s := s) h8 hv1 hu1 0
  have hld := len22V hv
  have hlc := len27V hc
  simp only [seaC, Nat.zero_add] at r8
  by_cases hE : seaE s l c = 0
  · obtain ⟨hd, hcB, _, _, _⟩ := sea_zero hE
    have h40 := days_len hd
    have hcl := cuts_len (by omega) hcB
    have r25 := rule15 h25 (l.length : Nat) 1 40 0
    have hin : inI 1 (l.length : Nat) 40 = true := by simp [inI]; omega
    rw [hin] at r25
    have hc40 : (c.length : Int) ≤ 40 := by omega
    simp only [Nat.zero_add] at r25
    simp [mc11, seaC, r8, r25, hE, hld, hlc, hc40, tupV]
  · simp [mc11, seaC, r8, hE, tupV]
noncomputable def F6 : PureF := fun args w => match args with | [.agg ⟨[dv, .int .i64 a, .int .i64 b, .int .i64 c, .int .i64 d, .int .i64 e, .int .i64 f, .int .i64 g, cv]⟩, .agg ⟨[.int .i64 n, .int .i64 fl]⟩] => (rowsIn dayC w dv).bind fun l => (rowsIn intC w cv).bind fun k => some (.tuple ⟨[.agg ⟨[.int .i64 (oA ⟨a, b, c, d, e, f, g⟩ l k ⟨n, fl⟩), .int .i64 (oB ⟨a, b, c, d, e, f, g⟩ l k ⟨n, fl⟩)]⟩, .int .i64 (oE ⟨a, b, c, d, e, f, g⟩ l k ⟨n, fl⟩)]⟩) | _ => none
theorem rule6 {ov : Ov} (k : HasP ov 6 F6) {s : Sea} {dv cv : Value} {l : List Day} {c : List Int} (r : Rac) {w : AW} (hv : RowsV dayC w dv l) (hc : RowsV intC w cv c) (m : Nat) : (run Tryz.prog ov (m + 1)).call 6 [.agg ⟨seaC s dv cv⟩, .agg ⟨racC r⟩] w .none = .ok (.ret (.tuple ⟨[.agg ⟨[.int .i64 (oA s l c r), .int .i64 (oB s l c r)]⟩, .int .i64 (oE s l c r)]⟩)) w .none := k.call (by
  simp only [F6, seaC, racC, hv.rowsIn (m := 4) dayC_length dayC_inj, hc.rowsIn (m := 1) intC_length intC_inj, Option.bind_some])
end Go.Proofs.YtbbbgaiaigdngaaGreatDoor.walk
