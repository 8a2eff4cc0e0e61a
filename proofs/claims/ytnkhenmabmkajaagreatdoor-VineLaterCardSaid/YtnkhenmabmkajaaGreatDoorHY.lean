/- Part of a proof by a machine of ones own: see the text with the theorem. -/
import Derived.Test.YtnkhenmabmkajaaGreatDoorHN
import Derived.Test.YtnkhenmabmkajaaGreatDoorHT
namespace Go.Proofs.YtnkhenmabmkajaaGreatDoor.walk
open Go Go.Sh
set_option maxRecDepth 100000
set_option linter.unusedSimpArgs false
/-! all heats that a day can give -/
def hsN (s : Sea) (d : Day) (z : Int) : Nat → List Int
  | 0 => []
  | k + 1 => hsN s d z k ++ [heatI s (d.wl + (k : Nat)) d.rl z]
def hsL (s : Sea) (d : Day) (z : Int) : List Int := (if s.wet < d.rh then [0] else []) ++ hsN s d z (d.wh - d.wl + 1).toNat
/-- what a yield does: a step of what it keeps, in blocks that are its own -/
def Steps81 (ov : Ov) (m L : Nat) {σ : Type} (f : σ → Int → σ) (J : σ → AW → Prop) (M : Nat → Prop) : Prop :=
  ∀ st v w, J st w → 0 ≤ v → v ≤ 50 → ∃ w', yieldA (run Tryz.prog ov m) L [.int .i64 v] w = .val true w' ∧ J (f st v) w' ∧ (∀ x, x < w.next → ¬ M x → w'.heap.get x = w.heap.get x) ∧ w.next ≤ w'.next ∧ w'.lim = w.lim
structure In81 {σ : Type} (J : σ → AW → Prop) (M : Nat → Prop) (w0 : AW) (d : Day) (st : σ) (w : AW) : Prop where
  j : J st w
  keep : ∀ x, x < w0.next → ¬ M x → w.heap.get x = w0.heap.get x
  day : w.heap.get w0.next = some (.cells (dayC d) 50 false)
  next : w0.next < w.next
  lim : w.lim = w0.lim
theorem RowsV.keep {α : Type} {f : α → List Value} {we w : AW} {v : Value} {l : List α} (h : RowsV f we v l) (k : ∀ x, x < we.next → w.heap.get x = we.heap.get x) (hn : we.next ≤ w.next) : RowsV f w v l := h.old k hn
theorem loop81 {ov : Ov} (m : Nat) (h53 : HasP ov 53 F53) {σ : Type} (f : σ → Int → σ) (J : σ → AW → Prop) (M : Nat → Prop) (L : Nat) (hst : Steps81 ov (m + 1) L f J M) (s : Sea) (dv cv sv : Value) (S : List Int) (i : Nat) (d : Day) (z : Int) (hz : S[i]? = some z) (hok : ∀ a, d.wl ≤ a → a ≤ d.wh → heatB s a z = true) (hd : dayB d = true) (we w0 : AW) (hS : RowsV intC we sv S) (hwe : we.next ≤ w0.next) (hMe : ∀ x, M x → we.next ≤ x) (hold : ∀ x, x < we.next → w0.heap.get x = we.heap.get x)
    (n1 n2 : Nat) (k1 : n1 < w0.next) (k2 : n2 < w0.next) (m1 : ¬ M n1) (m2 : ¬ M n2) (g1 : w0.heap.get n1 = some (.cells (yearC s dv cv sv) 54 false)) (g2 : w0.heap.get n2 = some (.cells [.int .i64 (i : Nat)] 3 false)) (hMn : ¬ M w0.next) (st : σ)
    (Q : Ex → Tm → AW → Prop) (t : Tm) (w : AW) (hw : In81 J M w0 d st w)
    (t0 : tget t 0 = .func (.yield L) ⟨[]⟩ ⟨[]⟩) (t1 : tget t 1 = .pointer (some ⟨n1, 0, none⟩)) (t2 : tget t 2 = .pointer (some ⟨n2, 0, none⟩)) (t4 : tget t 4 = .pointer (some ⟨w0.next, 0, none⟩)) (t5 : tget t 5 = .int .i64 d.wl)
    (hQ : ∀ t w, In81 J M w0 d ((hsN s d z (d.wh - d.wl + 1).toNat).foldl f st) w → Q (.exit 0) t w) : wp (exY Tryz.prog (run Tryz.prog ov (m + 1)) (.loop mc81_l0) t w) Q := by
  have hdb := hd
  simp only [dayB, spanB, Bool.and_eq_true, decide_eq_true_eq] at hdb
  refine wp_roundsY (fun j t w => In81 J M w0 d ((hsN s d z j).foldl f st) w ∧ tget t 0 = .func (.yield L) ⟨[]⟩ ⟨[]⟩ ∧ tget t 1 = .pointer (some ⟨n1, 0, none⟩) ∧ tget t 2 = .pointer (some ⟨n2, 0, none⟩) ∧ tget t 4 = .pointer (some ⟨w0.next, 0, none⟩) ∧ tget t 5 = .int .i64 (d.wl + (j : Nat)) ∧ d.wl + (j : Nat) ≤ d.wh + 1) 200 (by decide) ⟨hw, t0, t1, t2, t4, by simpa using t5, by omega⟩ ?_
  clear t0 t1 t2 t4 t5 hw
  rintro j t w ⟨hw, t0, t1, t2, t4, t5, hj⟩
  have hday := hw.day
  by_cases hlt : d.wl + (j : Nat) ≤ d.wh
  · have hb1 := g1
    rw [← hw.keep n1 k1 m1] at hb1
    have hb2 := g2
    rw [← hw.keep n2 k2 m2] at hb2
    have hnx := hw.next
    have hSw : RowsV intC w sv S := RowsV.keep hS (fun x hx => by rw [hw.keep x (by omega) (fun hm => by have := hMe x hm; omega), hold x hx]) (by omega)
    have r53 := rule53 h53 s dv cv d.rl hSw hz (hok _ (by omega) hlt) m
    have nums := (heat_nums (heatB_ok (hok _ (by omega) hlt))).2
    have hb : 0 ≤ heatI s (d.wl + (j : Nat)) d.rl z ∧ heatI s (d.wl + (j : Nat)) d.rl z ≤ 50 := by
      unfold heatI
      split <;> omega
    obtain ⟨x, hx⟩ : ∃ x, x = heatI s (d.wl + (j : Nat)) d.rl z := ⟨_, rfl⟩
    rw [← hx] at r53 hb
    obtain ⟨w', hy, hJ, hk, hn, hl⟩ := hst _ x w hw.j hb.1 hb.2
    have hw1 : IntKind.wrap .i64 (d.wl + (j : Nat) + 1) = d.wl + (j : Nat) + 1 := wrap64_in (by omega) (by omega)
    simp only [yearC] at r53 hb1
    simp [mc81_l0, t0, t1, t2, t4, t5, hday, dayC, hlt, hb1, hb2, r53, hy, hw1]
    refine ⟨by omega, ⟨?_, fun y hy h => ?_, ?_, by omega, by have := hw.lim; omega⟩, by omega, by omega⟩
    · rw [hsN, List.foldl_append, ← hx]; exact hJ
    · rw [hk y (by omega) h, hw.keep y hy h]
    · rw [hk _ hnx hMn]; exact hday
  · have e : (d.wh - d.wl + 1).toNat = j := by omega
    rw [e] at hQ
    simp [mc81_l0, t4, t5, hday, dayC, hlt]
    exact hQ _ _ hw
set_option maxHeartbeats 1000000 in
theorem call81 {ov : Ov} (m : Nat) (ho : ∀ args w, ov 81 args w = none) (h53 : HasP ov 53 F53) {σ : Type} (f : σ → Int → σ) (J : σ → AW → Prop) (M : Nat → Prop) (L : Nat) (hst : Steps81 ov (m + 1) L f J M) (s : Sea) (dv cv sv : Value) (l : List Day) (h40 : l.length ≤ 40) (S : List Int) (i : Nat) (d : Day) (z : Int) (hdi : l[i]? = some d) (hz : S[i]? = some z) (hok : ∀ a, d.wl ≤ a → a ≤ d.wh → heatB s a z = true) (hd : dayB d = true) (we w0 : AW) (hlim : w0.lim ≤ w0.next) (hv : RowsV dayC we dv l) (hS : RowsV intC we sv S) (hwe : we.next ≤ w0.next) (hMe : ∀ x, M x → we.next ≤ x ∧ x < w0.next) (hold : ∀ x, x < we.next → w0.heap.get x = we.heap.get x)
    (hJ : ∀ st w w', J st w → (∀ x, x < w.next → w'.heap.get x = w.heap.get x) → w.next ≤ w'.next → w'.lim = w.lim → J st w')
    (n1 n2 : Nat) (k1 : n1 < w0.next) (k2 : n2 < w0.next) (m1 : ¬ M n1) (m2 : ¬ M n2) (g1 : w0.heap.get n1 = some (.cells (yearC s dv cv sv) 54 false)) (g2 : w0.heap.get n2 = some (.cells [.int .i64 (i : Nat)] 3 false)) (st : σ) (hst0 : J st w0) :
    ∃ v w', (run Tryz.prog ov (m + 2)).call 81 [.func (.yield L) ⟨[]⟩ ⟨[]⟩, .pointer (some ⟨n1, 0, none⟩), .pointer (some ⟨n2, 0, none⟩)] w0 .none = .ok (.ret v) w' .none ∧ J ((hsL s d z).foldl f st) w' ∧ (∀ x, x < w0.next → ¬ M x → w'.heap.get x = w0.heap.get x) ∧ w0.next ≤ w'.next ∧ w'.lim = w0.lim := by
  refine call_wpY text81 (by simp) (ho _ _) ?_
  have hlt : i < l.length := (List.getElem?_eq_some_iff.1 hdi).1
  obtain ⟨b, off, sq, c, rfl, hr⟩ := hv.at_ i hlt
  have hb := hr.2
  have hld := hr.rd (m := 4) dayC_length hdi
  rw [← hold b hb] at hld
  have m0 : ¬ b = w0.next := by omega
  have q1 : ¬ n1 = w0.next := by omega
  have q2 : ¬ n2 = w0.next := by omega
  have hia := fun w => ia22 w ⟨b, off, sq⟩ l.length c .i64 i hlt
  have hMn : ¬ M w0.next := fun h => by have := (hMe _ h).2; omega
  have hI : In81 J M w0 d st ⟨w0.heap.put w0.next (some (.cells (dayC d) 50 false)), w0.next + 1, w0.lim⟩ := by
    refine ⟨hJ _ w0 _ hst0 (fun x hx => ?_) (Nat.le_succ _) rfl, fun x hx _ => ?_, ?_, Nat.lt_succ_self _, rfl⟩
    · show (w0.heap.put w0.next _).get x = _
      rw [get_put, if_neg (by omega)]
    · show (w0.heap.put w0.next _).get x = _
      rw [get_put, if_neg (by omega)]
    · simp
  have hI2 : In81 J M w0 d st ⟨(w0.heap.put w0.next (some (.cells [.int .i64 0, .int .i64 0, .int .i64 0, .int .i64 0] 50 false))).put w0.next (some (.cells (dayC d) 50 false)), w0.next + 1, w0.lim⟩ := by
    refine ⟨hJ _ w0 _ hst0 (fun x hx => ?_) (Nat.le_succ _) rfl, fun x hx _ => ?_, ?_, Nat.lt_succ_self _, rfl⟩
    · show ((w0.heap.put w0.next _).put w0.next _).get x = _
      rw [get_put, if_neg (by omega), get_put, if_neg (by omega)]
    · show ((w0.heap.put w0.next _).put w0.next _).get x = _
      rw [get_put, if_neg (by omega), get_put, if_neg (by omega)]
    · simp
  have hfin : ∀ t w, In81 J M w0 d ((hsL s d z).foldl f st) w → J ((hsL s d z).foldl f st) w ∧ (∀ x, x < w0.next → ¬ M x → w.heap.get x = w0.heap.get x) ∧ w0.next ≤ w.next ∧ w.lim = w0.lim := fun (t : Tm) w h => ⟨h.j, h.keep, Nat.le_of_lt h.next, h.lim⟩
  have g1' := g1
  by_cases hwet : s.wet < d.rh
  · obtain ⟨w', hy, hJ', hk, hn, hl⟩ := hst st 0 _ hI2.j (by omega) (by omega)
    have hn' : w0.next + 1 ≤ w'.next := hn
    have hl' : w'.lim = w0.lim := hl
    have hI' : In81 J M w0 d (f st 0) w' := ⟨hJ', fun x hx h => by rw [hk x (by show x < w0.next + 1; omega) h]; exact hI2.keep x hx h, by rw [hk w0.next (Nat.lt_succ_self _) hMn]; exact hI2.day, hn', hl'⟩
    have hday := hI'.day
    have e : (hsL s d z).foldl f st = (hsN s d z (d.wh - d.wl + 1).toNat).foldl f (f st 0) := by simp [hsL, hwet]
    rw [e] at hfin ⊢
    simp only [yearC, dayC] at g1' hy hday
    simp [mc81, g1', g2, hld, hia, hlim, m0, q1, q2, cellsOf_agg, dayC, hwet, hy, hday]
    refine wp_blockX (loop81 m h53 f J M L hst s _ cv sv S i d z hz hok hd we w0 hS hwe (fun x h => (hMe x h).1) hold n1 n2 k1 k2 m1 m2 g1 g2 hMn (f st 0) _ _ _ hI' ?_ ?_ ?_ ?_ ?_ ?_)
    case _ => simp
    case _ => simp
    case _ => simp
    case _ => simp
    case _ => simp
    case _ => intro t w h; simpa [tupV] using hfin t w h
  · have e : (hsL s d z).foldl f st = (hsN s d z (d.wh - d.wl + 1).toNat).foldl f st := by simp [hsL, hwet]
    rw [e] at hfin ⊢
    simp only [yearC] at g1'
    simp [mc81, g1', g2, hld, hia, hlim, m0, q1, q2, cellsOf_agg, dayC, hwet]
    refine wp_blockX (loop81 m h53 f J M L hst s _ cv sv S i d z hz hok hd we w0 hS hwe (fun x h => (hMe x h).1) hold n1 n2 k1 k2 m1 m2 g1 g2 hMn st _ _ _ hI2 ?_ ?_ ?_ ?_ ?_ ?_)
    case _ => simp
    case _ => simp
    case _ => simp
    case _ => simp
    case _ => simp
    case _ => intro t w h; simpa [tupV] using hfin t w h
end Go.Proofs.YtnkhenmabmkajaaGreatDoor.walk

namespace Go.Proofs.YtnkhenmabmkajaaGreatDoor.walk
open Go Go.Sh
set_option maxRecDepth 100000
set_option linter.unusedSimpArgs false
/-! the least and the greatest heat of each day -/
theorem call69 {ov : Ov} (m : Nat) (ho : ∀ args w, ov 69 args w = none) (cs : List Value) (hcs : cs.length = 10) (i : Nat) (w : AW) :
    ∃ v w', (run Tryz.prog ov (m + 1)).call 69 [.agg ⟨cs⟩, .int .i64 (i : Nat)] w .none = .ok (.ret v) w' .none ∧ v = .func (.func 81) ⟨[]⟩ ⟨[.pointer (some ⟨w.next, 0, none⟩), .pointer (some ⟨w.next + 1, 0, none⟩)]⟩ ∧ w' = ⟨(w.heap.put w.next (some (.cells cs 54 false))).put (w.next + 1) (some (.cells [.int .i64 (i : Nat)] 3 false)), w.next + 2, w.lim⟩ := by
  refine call_wp text69 (by simp) (ho _ _) ?_
  simp [mc69, tupV, cellsOf_agg, notJunk]
@[simp] theorem setPar_cons (p : Tmp) (ps : List Tmp) (a : Value) (l : List Value) (t : Tm) : setParams (p :: ps) (a :: l) t = setParams ps l (tset t p a) := rfl
@[simp] theorem setPar_nil (t : Tm) : setParams [] [] t = t := rfl
/-- what the body of the range keeps -/
structure Ex45 (R1 R2 c2 c3 c4 L n dI : Nat) (g1 g2 : Nat → Int) (lp : ALoop) (st : Int × Int) (w : AW) : Prop where
  r1 : ∃ F, RowIs w R1 n (fun k => if k = dI then st.1 else g1 k) F
  r2 : ∃ F, RowIs w R2 n (fun k => if k = dI then st.2 else g2 k) F
  b2 : w.heap.get c2 = some (.cells [.slice (some ⟨R1, 0, none⟩) n n] 27 false)
  b3 : w.heap.get c3 = some (.cells [.slice (some ⟨R2, 0, none⟩) n n] 27 false)
  b4 : w.heap.get c4 = some (.cells [.int .i64 (dI : Nat)] 3 false)
  lo : w.heap.get L = some (.loop lp)
  bd : 0 ≤ st.1 ∧ st.1 ≤ 50 ∧ 0 ≤ st.2 ∧ st.2 ≤ 50
  lims : w.lim ≤ R1 ∧ w.lim ≤ R2 ∧ w.lim ≤ L
  next : R1 < w.next ∧ R2 < w.next ∧ c2 < w.next ∧ c3 < w.next ∧ c4 < w.next ∧ L < w.next
def stepX (st : Int × Int) (v : Int) : Int × Int := (min st.1 v, max st.2 v)
theorem row_put {w : AW} {b n d : Nat} {g : Nat → Int} {F : List Int} (h : RowIs w b n g F) (hd : d < n) (x : Int) {w' : AW} (hw : w'.heap.get b = some (.cells ((F.set d x).flatMap intC) 3 false)) : RowIs w' b n (fun k => if k = d then x else g k) (F.set d x) := by
  refine ⟨hw, by rw [List.length_set]; exact h.len, fun k hk => ?_⟩
  by_cases e : k = d
  · subst e
    rw [List.getElem?_set_self (by rw [h.len]; exact hd)]; simp
  · rw [List.getElem?_set_ne (Ne.symm e), h.at_ k hk]; simp [e]
set_option maxHeartbeats 1000000 in
theorem steps45 {ov : Ov} (m R1 R2 c2 c3 c4 L n dI : Nat) (hd : dI < n) (hne : R1 ≠ R2 ∧ c2 ≠ R1 ∧ c2 ≠ R2 ∧ c3 ≠ R1 ∧ c3 ≠ R2 ∧ c4 ≠ R1 ∧ c4 ≠ R2 ∧ L ≠ R1 ∧ L ≠ R2 ∧ L ≠ c2 ∧ L ≠ c3 ∧ L ≠ c4) (g1 g2 : Nat → Int) (tm : Tm) (t2 : tget tm 2 = .pointer (some ⟨c2, 0, none⟩)) (t3 : tget tm 3 = .pointer (some ⟨c3, 0, none⟩)) (t4 : tget tm 4 = .pointer (some ⟨c4, 0, none⟩)) :
    Steps81 ov (m + 1) L stepX (Ex45 R1 R2 c2 c3 c4 L n dI g1 g2 ⟨51, tm, [29], (rfOf Tryz.prog 45 0).1, (rfOf Tryz.prog 45 0).2, none, .ready⟩) (fun x => x = R1 ∨ x = R2 ∨ x = L) := by
  intro st v w hJ v0 v50
  obtain ⟨x, y⟩ := st
  obtain ⟨e1, e2, e3, e4, e5, e6, e7, e8, e9, e10, e11, e12⟩ := hne
  obtain ⟨⟨F1, h1⟩, ⟨F2, h2⟩, b2, b3, b4, lo, bd, lims, nx⟩ := hJ
  simp only at h1 h2 bd
  have ld1 := h1.ld hd
  have ld2 := h2.ld hd
  simp only [if_true] at ld1 ld2
  have hrow1 := h1.row
  have hrow2 := h2.row
  have hl1 := h1.len
  have hl2 := h2.len
  have hs1 := flat_set intC_length F1 dI (min x v) (by omega)
  have hs2 := flat_set intC_length F2 dI (max y v) (by omega)
  have hf1 : (F1.flatMap intC).length = n := by rw [flat_length intC_length, hl1]; omega
  have hf2 : (F2.flatMap intC).length = n := by rw [flat_length intC_length, hl2]; omega
  have ia1 := fun w => ia27 w ⟨R1, 0, none⟩ n n .i64 dI hd
  have ia2 := fun w => ia27 w ⟨R2, 0, none⟩ n n .i64 dI hd
  simp only [Nat.mul_one, intC, List.cons_append, List.nil_append] at hs1 hs2
  obtain ⟨q1, hq1⟩ : ∃ cs, cs = F1.flatMap intC := ⟨_, rfl⟩
  obtain ⟨q2, hq2⟩ : ∃ cs, cs = F2.flatMap intC := ⟨_, rfl⟩
  rw [← hq1] at hs1 hf1 hrow1 ld1
  rw [← hq2] at hs2 hf2 hrow2 ld2
  have hfit : dI + 1 ≤ n := hd
  obtain ⟨lm1, lm2, lmL⟩ := lims
  obtain ⟨j, w', hy, hQ⟩ := yield_wp (P := Tryz.prog) (ov := ov) (m := m) (l := L) (args := [.int .i64 v]) (w := w) (Q := fun j w' => j = none ∧ w' = ⟨(((w.heap.put L (some (.loop ⟨51, tm, [29], (rfOf Tryz.prog 45 0).1, (rfOf Tryz.prog 45 0).2, none, .busy⟩))).put R1 (some (.cells ((F1.set dI (min x v)).flatMap intC) 3 false))).put R2 (some (.cells ((F2.set dI (max y v)).flatMap intC) 3 false))).put L (some (.loop ⟨51, tm, [29], (rfOf Tryz.prog 45 0).1, (rfOf Tryz.prog 45 0).2, none, .ready⟩)), w.next, w.lim⟩) lo rfl rfl ta45_0 tb45_0 (by
    simp [mc45_a0, mc45_b0, lo, lmL, jumpOf, t2, t3, t4, b2, b3, b4, ia1, ia2, hrow1, hrow2, ld1, ld2, hf1, hf2, hfit, hs1, hs2, lm1, lm2, e1, e2, e3, e4, e5, e6, e7, e8, e9, e10, e11, e12, Ne.symm e1, Ne.symm e2, Ne.symm e3, Ne.symm e4, Ne.symm e5, Ne.symm e6, Ne.symm e7, Ne.symm e8, Ne.symm e9, Ne.symm e10, Ne.symm e11, Ne.symm e12]
)
  obtain ⟨rfl, rfl⟩ := hQ
  refine ⟨_, hy, ⟨⟨F1.set dI (min x v), ?_⟩, ⟨F2.set dI (max y v), ?_⟩, ?_, ?_, ?_, ?_, ?_, ⟨lm1, lm2, lmL⟩, nx⟩, fun z hz hM => ?_, Nat.le_refl _, rfl⟩
  · have k := row_put h1 hd (min x v) (w' := ⟨(((w.heap.put L (some (.loop ⟨51, tm, [29], (rfOf Tryz.prog 45 0).1, (rfOf Tryz.prog 45 0).2, none, .busy⟩))).put R1 (some (.cells ((F1.set dI (min x v)).flatMap intC) 3 false))).put R2 (some (.cells ((F2.set dI (max y v)).flatMap intC) 3 false))).put L (some (.loop ⟨51, tm, [29], (rfOf Tryz.prog 45 0).1, (rfOf Tryz.prog 45 0).2, none, .ready⟩)), w.next, w.lim⟩) (by simp [e1, Ne.symm e8])
    exact k.ext fun z _ => by by_cases e : z = dI <;> simp [e, stepX]
  · have k := row_put h2 hd (max y v) (w' := ⟨(((w.heap.put L (some (.loop ⟨51, tm, [29], (rfOf Tryz.prog 45 0).1, (rfOf Tryz.prog 45 0).2, none, .busy⟩))).put R1 (some (.cells ((F1.set dI (min x v)).flatMap intC) 3 false))).put R2 (some (.cells ((F2.set dI (max y v)).flatMap intC) 3 false))).put L (some (.loop ⟨51, tm, [29], (rfOf Tryz.prog 45 0).1, (rfOf Tryz.prog 45 0).2, none, .ready⟩)), w.next, w.lim⟩) (by simp [Ne.symm e9])
    exact k.ext fun z _ => by by_cases e : z = dI <;> simp [e, stepX]
  · simp [b2, e2, e3, Ne.symm e10]
  · simp [b3, e4, e5, Ne.symm e11]
  · simp [b4, e6, e7, Ne.symm e12]
  · simp
  · simp only [stepX]; omega
  · simp only [not_or] at hM
    simp [hM.1, hM.2.1, hM.2.2]
end Go.Proofs.YtnkhenmabmkajaaGreatDoor.walk

namespace Go.Proofs.YtnkhenmabmkajaaGreatDoor.walk
open Go Go.Sh
set_option maxRecDepth 100000
set_option linter.unusedSimpArgs false
def exD (s : Sea) (l : List Day) (S : List Int) (k : Nat) : Int × Int := match l[k]?, S[k]? with | some d, some z => (hsL s d z).foldl stepX (50, 0) | _, _ => (0, 0)
theorem Ex45.stay {R1 R2 c2 c3 c4 L n dI : Nat} {g1 g2 : Nat → Int} {lp : ALoop} (st : Int × Int) (w w' : AW) (h : Ex45 R1 R2 c2 c3 c4 L n dI g1 g2 lp st w) (k : ∀ x, x < w.next → w'.heap.get x = w.heap.get x) (hn : w.next ≤ w'.next) (hl : w'.lim = w.lim) : Ex45 R1 R2 c2 c3 c4 L n dI g1 g2 lp st w' := by
  obtain ⟨⟨F1, h1⟩, ⟨F2, h2⟩, b2, b3, b4, lo, bd, lims, nx⟩ := h
  obtain ⟨n1, n2, n3, n4, n5, n6⟩ := nx
  exact ⟨⟨F1, by rw [k R1 n1]; exact h1.row, h1.len, h1.at_⟩, ⟨F2, by rw [k R2 n2]; exact h2.row, h2.len, h2.at_⟩, by rw [k c2 n3]; exact b2, by rw [k c3 n4]; exact b3, by rw [k c4 n5]; exact b4, by rw [k L n6]; exact lo, bd, by rw [hl]; exact lims, by omega⟩
@[simp] theorem cf81 (w : AW) (l : List Value) : callFn Tryz.prog w 81 l = .enter 81 l w := callFn_of (by kernel_rfl) l
structure In45 (w0 : AW) (s : Sea) (dv cv sv : Value) (n : Nat) (w : AW) : Prop where
  old : Old w0.next w0.heap w.heap
  year : w.heap.get w0.next = some (.cells (yearC s dv cv sv) 54 false)
  b2 : w.heap.get (w0.next + 1) = some (.cells [.slice (some ⟨w0.next + 3, 0, none⟩) n n] 27 false)
  b3 : w.heap.get (w0.next + 2) = some (.cells [.slice (some ⟨w0.next + 4, 0, none⟩) n n] 27 false)
  next : w0.next + 4 < w.next
  lim : w.lim = w0.lim
set_option maxHeartbeats 2000000 in
theorem loop45 {ov : Ov} (m : Nat) (ho69 : ∀ args w, ov 69 args w = none) (ho81 : ∀ args w, ov 81 args w = none) (h53 : HasP ov 53 F53) (s : Sea) (dv cv sv : Value) (l : List Day) (h40 : l.length ≤ 40) (S : List Int) (hSl : S.length = l.length) (hok : ∀ (i : Nat) d z a, l[i]? = some d → S[i]? = some z → d.wl ≤ a → a ≤ d.wh → heatB s a z = true) (hday : ∀ (i : Nat) d, l[i]? = some d → dayB d = true) (w0 : AW) (hlim : w0.lim ≤ w0.next) (hv : RowsV dayC w0 dv l) (hS : RowsV intC w0 sv S)
    (Q : Ex → Tm → AW → Prop) (t : Tm) (w : AW) (F1 F2 : List Int) (hI : In45 w0 s dv cv sv l.length w) (hF1 : RowIs w (w0.next + 3) l.length (fun _ => 0) F1) (hF2 : RowIs w (w0.next + 4) l.length (fun _ => 0) F2)
    (t1 : tget t 1 = .pointer (some ⟨w0.next, 0, none⟩)) (t2 : tget t 2 = .pointer (some ⟨w0.next + 1, 0, none⟩)) (t3 : tget t 3 = .pointer (some ⟨w0.next + 2, 0, none⟩)) (t19 : tget t 19 = .int .i64 (l.length : Nat)) (t20 : tget t 20 = .int .i64 0)
    (hQ : ∀ t w F1 F2, In45 w0 s dv cv sv l.length w → RowIs w (w0.next + 3) l.length (fun k => (exD s l S k).1) F1 → RowIs w (w0.next + 4) l.length (fun k => (exD s l S k).2) F2 → tget t 2 = .pointer (some ⟨w0.next + 1, 0, none⟩) → tget t 3 = .pointer (some ⟨w0.next + 2, 0, none⟩) → Q (.exit 0) t w) :
    wp (exY Tryz.prog (run Tryz.prog ov (m + 2)) (.loop mc45_l0) t w) Q := by
  refine wp_roundsY (fun i t w => (∃ F1, RowIs w (w0.next + 3) l.length (fun k => if k < i then (exD s l S k).1 else 0) F1) ∧ (∃ F2, RowIs w (w0.next + 4) l.length (fun k => if k < i then (exD s l S k).2 else 0) F2) ∧ In45 w0 s dv cv sv l.length w ∧ tget t 1 = .pointer (some ⟨w0.next, 0, none⟩) ∧ tget t 2 = .pointer (some ⟨w0.next + 1, 0, none⟩) ∧ tget t 3 = .pointer (some ⟨w0.next + 2, 0, none⟩) ∧ tget t 19 = .int .i64 (l.length : Nat) ∧ tget t 20 = .int .i64 (i : Nat) ∧ i ≤ l.length) 200 (by decide) ⟨⟨F1, hF1.ext fun k _ => by simp⟩, ⟨F2, hF2.ext fun k _ => by simp⟩, hI, t1, t2, t3, t19, by simpa using t20, Nat.zero_le _⟩ ?_
  clear t1 t2 t3 t19 t20 hI hF1 hF2 F1 F2
  rintro i t w ⟨⟨F1, hF1⟩, ⟨F2, hF2⟩, hI, t1, t2, t3, t19, t20, hi⟩
  by_cases hlt : i < l.length
  · obtain ⟨d, hd⟩ : ∃ d, l[i]? = some d := ⟨_, List.getElem?_eq_getElem hlt⟩
    obtain ⟨z, hz⟩ : ∃ z, S[i]? = some z := ⟨_, List.getElem?_eq_getElem (by omega)⟩
    have hnx := hI.next
    have hlm := hI.lim
    have hyear := hI.year
    have hb2 := hI.b2
    have hb3 := hI.b3
    have lw : w.lim ≤ w.next := by omega
    have l3 : w.lim ≤ w0.next + 3 := by omega
    have hrow := hF1.row
    have hlen1 := hF1.len
    have hset := flat_set intC_length F1 i 50 (by omega)
    have hfl : (F1.flatMap intC).length = l.length := by rw [flat_length intC_length, hlen1]; omega
    simp only [Nat.mul_one, intC, List.cons_append, List.nil_append] at hset
    obtain ⟨q1, hq1⟩ : ∃ cs, cs = F1.flatMap intC := ⟨_, rfl⟩
    rw [← hq1] at hset hfl hrow
    have hfit : i + 1 ≤ l.length := hlt
    have hia := fun w => ia27 w ⟨w0.next + 3, 0, none⟩ l.length l.length .i64 i hlt
    have e0 : ¬ w0.next + 3 = w.next := by omega
    have e0' : ¬ w.next = w0.next + 3 := by omega
    have e1 : ¬ w0.next + 1 = w.next := by omega
    have e2 : ¬ w0.next = w.next := by omega
    have hw1 : IntKind.wrap .i64 ((i : Int) + 1) = (i : Int) + 1 := wrap64_in (by omega) (by omega)
    obtain ⟨_, _, c69, rfl, rfl⟩ := call69 (ov := ov) (m + 1) ho69 (yearC s dv cv sv) rfl i ⟨((w.heap.put w.next (some (.cells [.int .i64 0] 3 false))).put w.next (some (.cells [.int .i64 (i : Nat)] 3 false))).put (w0.next + 3) (some (.cells ((F1.set i 50).flatMap intC) 3 false)), w.next + 1, w.lim⟩
    simp only [yearC, Nat.add_assoc, Nat.reduceAdd] at c69 hyear
    simp [mc45_l0, t1, t2, t3, t19, t20, hlt, hb2, hyear, hia, hrow, hfl, hfit, hset, lw, l3, e0, e0', e1, e2, c69]
    obtain ⟨H, hH⟩ : ∃ H, H = ((((w.heap.put w.next (some (.cells [.int .i64 0] 3 false))).put w.next (some (.cells [.int .i64 (i : Nat)] 3 false))).put (w0.next + 3) (some (.cells ((F1.set i 50).flatMap intC) 3 false))).put (w.next + 1) (some (.cells (yearC s dv cv sv) 54 false))).put (w.next + 2) (some (.cells [.int .i64 (i : Nat)] 3 false)) := ⟨_, rfl⟩
    simp only [yearC] at hH
    rw [← hH]
    have hH' : ∀ x, x < w.next → x ≠ w0.next + 3 → H.get x = w.heap.get x := fun x h1 h2 => by
      rw [hH]; simp [show ¬ x = w.next by omega, show ¬ x = w.next + 1 by omega, show ¬ x = w.next + 2 by omega, h2]
    have g3 : H.get (w0.next + 3) = some (.cells ((F1.set i 50).flatMap intC) 3 false) := by
      rw [hH]; simp [show ¬ w0.next + 3 = w.next + 1 by omega, show ¬ w0.next + 3 = w.next + 2 by omega]
    have gd : H.get w.next = some (.cells [.int .i64 (i : Nat)] 3 false) := by rw [hH]; simp [e0']
    have gy : H.get (w.next + 1) = some (.cells (yearC s dv cv sv) 54 false) := by rw [hH]; simp [yearC]
    have gi : H.get (w.next + 2) = some (.cells [.int .i64 (i : Nat)] 3 false) := by rw [hH]; simp
    refine wp_seqX (wp_blockX (wp_blockX (rf_wp (g := 81) (gargs := [.func (.yield (w.next + 3)) ⟨[]⟩ ⟨[]⟩, .pointer (some ⟨w.next + 1, 0, none⟩), .pointer (some ⟨w.next + 2, 0, none⟩)]) ?_ ?_)))
    · simp [callV_func]
    · generalize hTT : tset _ 28 _ = TT
      have u1 : tget TT 1 = .pointer (some ⟨w0.next, 0, none⟩) := by rw [← hTT]; simp [t1]
      have u2 : tget TT 2 = .pointer (some ⟨w0.next + 1, 0, none⟩) := by rw [← hTT]; simp [t2]
      have u3 : tget TT 3 = .pointer (some ⟨w0.next + 2, 0, none⟩) := by rw [← hTT]; simp [t3]
      have u4 : tget TT 4 = .pointer (some ⟨w.next, 0, none⟩) := by rw [← hTT]; simp
      have u19 : tget TT 19 = .int .i64 (l.length : Nat) := by rw [← hTT]; simp [t19]
      have u20 : tget TT 20 = .int .i64 (i : Nat) := by rw [← hTT]; simp [t20]
      clear hTT
      have hst := steps45 (ov := ov) m (w0.next + 3) (w0.next + 4) (w0.next + 1) (w0.next + 2) w.next (w.next + 3) l.length i hlt (by omega) (fun k => if k < i then (exD s l S k).1 else 0) (fun k => if k < i then (exD s l S k).2 else 0) TT u2 u3 u4
      have hgo : ∀ x, x < w.next + 3 → (H.put (w.next + 3) (some (.loop ⟨51, TT, [29], (rfOf Tryz.prog 45 0).1, (rfOf Tryz.prog 45 0).2, none, .ready⟩))).get x = H.get x := fun x hx => by rw [get_put, if_neg (by omega)]
      have hJ0 : Ex45 (w0.next + 3) (w0.next + 4) (w0.next + 1) (w0.next + 2) w.next (w.next + 3) l.length i (fun k => if k < i then (exD s l S k).1 else 0) (fun k => if k < i then (exD s l S k).2 else 0) ⟨51, TT, [29], (rfOf Tryz.prog 45 0).1, (rfOf Tryz.prog 45 0).2, none, .ready⟩ (50, 0) ⟨H.put (w.next + 3) (some (.loop ⟨51, TT, [29], (rfOf Tryz.prog 45 0).1, (rfOf Tryz.prog 45 0).2, none, .ready⟩)), w.next + 3 + 1, w.lim⟩ := by
        refine ⟨⟨F1.set i 50, ?_⟩, ⟨F2, ?_⟩, ?_, ?_, ?_, ?_, by simp, ⟨l3, by show w.lim ≤ w0.next + 4; omega, by show w.lim ≤ w.next + 3; omega⟩, ?_⟩
        · exact row_put hF1 hlt 50 (by show (H.put _ _).get _ = _; rw [hgo _ (by omega)]; exact g3)
        · refine (RowIs.ext ⟨?_, hF2.len, hF2.at_⟩ fun k hk => ?_)
          · show (H.put _ _).get _ = _
            rw [hgo _ (by omega), hH' _ (by omega) (by omega)]; exact hF2.row
          · by_cases e : k = i
            · subst e; simp
            · simp [e]
        · show (H.put _ _).get _ = _
          rw [hgo _ (by omega), hH' _ (by omega) (by omega)]; exact hb2
        · show (H.put _ _).get _ = _
          rw [hgo _ (by omega), hH' _ (by omega) (by omega)]; exact hb3
        · show (H.put _ _).get _ = _
          rw [hgo _ (by omega)]; exact gd
        · show (H.put _ _).get _ = _
          rw [get_put, if_pos rfl]
        · show w0.next + 3 < w.next + 3 + 1 ∧ w0.next + 4 < w.next + 3 + 1 ∧ w0.next + 1 < w.next + 3 + 1 ∧ w0.next + 2 < w.next + 3 + 1 ∧ w.next < w.next + 3 + 1 ∧ w.next + 3 < w.next + 3 + 1
          omega
      obtain ⟨v, w2, hc, hJ2, hk2, hn2, hl2⟩ := call81 m ho81 h53 stepX (Ex45 (w0.next + 3) (w0.next + 4) (w0.next + 1) (w0.next + 2) w.next (w.next + 3) l.length i (fun k => if k < i then (exD s l S k).1 else 0) (fun k => if k < i then (exD s l S k).2 else 0) ⟨51, TT, [29], (rfOf Tryz.prog 45 0).1, (rfOf Tryz.prog 45 0).2, none, .ready⟩) (fun x => x = w0.next + 3 ∨ x = w0.next + 4 ∨ x = w.next + 3) (w.next + 3) hst s dv cv sv l h40 S i d z hd hz (fun a => hok i d z a hd hz) (hday i d hd) w0 ⟨H.put (w.next + 3) (some (.loop ⟨51, TT, [29], (rfOf Tryz.prog 45 0).1, (rfOf Tryz.prog 45 0).2, none, .ready⟩)), w.next + 3 + 1, w.lim⟩ (by show w.lim ≤ w.next + 3 + 1; omega) hv hS (by show w0.next ≤ w.next + 3 + 1; omega) (fun x hx => by show w0.next ≤ x ∧ x < w.next + 3 + 1; omega) (fun x hx => by show (H.put _ _).get x = _; rw [hgo x (by omega), hH' x (by omega) (by omega)]; exact hI.old x hx) (fun st w w' h k hn hl => h.stay st w w' k hn hl) (w.next + 1) (w.next + 2) (by show w.next + 1 < w.next + 3 + 1; omega) (by show w.next + 2 < w.next + 3 + 1; omega) (by omega) (by omega) (by show (H.put _ _).get _ = _; rw [hgo _ (by omega)]; exact gy) (by show (H.put _ _).get _ = _; rw [hgo _ (by omega)]; exact gi) (50, 0) hJ0
      have hn2' : w.next + 3 + 1 ≤ w2.next := hn2
      have hl2' : w2.lim = w.lim := hl2
      refine ⟨v, w2, hc, _, hJ2.lo, rfl, by show w2.lim ≤ w.next + 3; omega, ?_⟩
      have hex : (hsL s d z).foldl stepX (50, 0) = exD s l S i := by unfold exD; rw [hd, hz]
      rw [hex] at hJ2
      obtain ⟨⟨G1, k1⟩, ⟨G2, k2⟩, b2', b3', b4', lo', _, _, _⟩ := hJ2
      have hg2 : ∀ x, x < w.next → x ≠ w0.next + 3 → x ≠ w0.next + 4 → w2.heap.get x = w.heap.get x := fun x h1 h2 h3 => by
        rw [hk2 x (by show x < w.next + 3 + 1; omega) (by omega)]
        show (H.put _ _).get x = _
        rw [hgo x (by omega), hH' x h1 h2]
      simp [u1, u2, u3, u19, u20, hw1]
      refine ⟨by omega, ⟨G1, ?_⟩, ⟨G2, ?_⟩, ⟨fun x hx => ?_, ?_, ?_, ?_, by show w0.next + 4 < w2.next; omega, by show w2.lim = w0.lim; omega⟩, hlt⟩
      · refine (RowIs.ext ⟨?_, k1.len, k1.at_⟩ fun k hk => ?_)
        · show (w2.heap.put _ _).get _ = _
          rw [get_put, if_neg (by omega)]; exact k1.row
        · by_cases e : k = i
          · subst e; simp
          · by_cases e' : k < i
            · simp [e, e', show k < i + 1 by omega]
            · simp [e, e', show ¬ k < i + 1 by omega]
      · refine (RowIs.ext ⟨?_, k2.len, k2.at_⟩ fun k hk => ?_)
        · show (w2.heap.put _ _).get _ = _
          rw [get_put, if_neg (by omega)]; exact k2.row
        · by_cases e : k = i
          · subst e; simp
          · by_cases e' : k < i
            · simp [e, e', show k < i + 1 by omega]
            · simp [e, e', show ¬ k < i + 1 by omega]
      · show (w2.heap.put _ _).get _ = _
        rw [get_put, if_neg (by omega), hg2 x (by omega) (by omega) (by omega)]; exact hI.old x hx
      · show (w2.heap.put _ _).get _ = _
        rw [get_put, if_neg (by omega), hg2 w0.next (by omega) (by omega) (by omega)]; exact hI.year
      · show (w2.heap.put _ _).get _ = _
        rw [get_put, if_neg (by omega)]; exact b2'
      · show (w2.heap.put _ _).get _ = _
        rw [get_put, if_neg (by omega)]; exact b3'
  · have hi' : i = l.length := by omega
    subst hi'
    simp [mc45_l0, t19, t20]
    exact hQ _ _ F1 F2 hI (hF1.ext fun k hk => by simp [hk]) (hF2.ext fun k hk => by simp [hk]) (by simp [t2]) (by simp [t3])
set_option maxHeartbeats 1000000 in
theorem call45 {ov : Ov} (m : Nat) (ho : ∀ args w, ov 45 args w = none) (ho69 : ∀ args w, ov 69 args w = none) (ho81 : ∀ args w, ov 81 args w = none) (h53 : HasP ov 53 F53) (s : Sea) (dv cv sv : Value) (l : List Day) (h40 : l.length ≤ 40) (S : List Int) (hSl : S.length = l.length) (hok : ∀ (i : Nat) d z a, l[i]? = some d → S[i]? = some z → d.wl ≤ a → a ≤ d.wh → heatB s a z = true) (hday : ∀ (i : Nat) d, l[i]? = some d → dayB d = true) (w : AW) (hlim : w.lim ≤ w.next) (hv : RowsV dayC w dv l) (hS : RowsV intC w sv S) :
    ∃ x w', (run Tryz.prog ov (m + 3)).call 45 [.agg ⟨yearC s dv cv sv⟩] w .none = .ok (.ret x) w' .none ∧ ∃ u v, x = .tuple ⟨[u, v]⟩ ∧ RowsV intC w' u ((List.range l.length).map fun k => (exD s l S k).1) ∧ RowsV intC w' v ((List.range l.length).map fun k => (exD s l S k).2) ∧ Old w.next w.heap w'.heap ∧ w.next ≤ w'.next ∧ w'.lim = w.lim := by
  refine call_wpY text45 (by simp) (ho _ _) ?_
  have hlv := len22V hv
  obtain ⟨da, dc, rfl⟩ := hv.len
  have hmk := fun w => mk27 l.length (by omega) w
  have l1 : w.lim ≤ w.next + 1 := by omega
  have l2 : w.lim ≤ w.next + 2 := by omega
  have sv1 := fun (a : Option Addr) (n c : Nat) => sameN_slice 4 a n c
  have sv2 := fun (k : IntKind) (a : Int) => sameN_int 4 k a
  simp [mc45, yearC, hlv, hmk, l1, l2, sv1, sv2]
  refine wp_seqX (wp_blockX (loop45 m ho69 ho81 h53 s (.slice da l.length dc) cv sv l h40 S hSl hok hday w hlim hv hS _ _ _ (List.replicate l.length 0) (List.replicate l.length 0) ⟨?_, ?_, ?_, ?_, ?_, ?_⟩ ⟨?_, ?_, ?_⟩ ⟨?_, ?_, ?_⟩ ?_ ?_ ?_ ?_ ?_ ?_))
  case _ =>
    intro b hb
    simp [show ¬ b = w.next by omega, show ¬ b = w.next + 1 by omega, show ¬ b = w.next + 1 + 1 by omega, show ¬ b = w.next + 1 + 1 + 1 by omega, show ¬ b = w.next + 1 + 1 + 1 + 1 by omega, show ¬ b = w.next + 2 by omega, show ¬ b = w.next + 3 by omega, show ¬ b = w.next + 4 by omega]
  case _ => simp [yearC]
  case _ => simp
  case _ => simp
  case _ => show w.next + 4 < w.next + 1 + 1 + 1 + 1 + 1; omega
  case _ => rfl
  case _ => simp
  case _ => simp
  case _ => intro x hx; simp [List.getElem?_replicate, hx]
  case _ => simp
  case _ => simp
  case _ => intro x hx; simp [List.getElem?_replicate, hx]
  case _ => simp
  case _ => simp
  case _ => simp
  case _ => simp
  case _ => simp
  case _ =>
    intro t w' F1 F2 hI hF1 hF2 t2 t3
    have b2 := hI.b2
    have b3 := hI.b3
    have hnx := hI.next
    have hlm := hI.lim
    have k1 : w'.lim ≤ w.next + 1 := by omega
    have k2 : w'.lim ≤ w.next + 2 := by omega
    have lst : ∀ (g : Nat → Int) (F : List Int) b, RowIs w' b l.length g F → b < w'.next → ∀ w2 : AW, w2.heap.get b = w'.heap.get b → w2.next = w'.next → RowsV intC w2 (.slice (some ⟨b, 0, none⟩) l.length l.length) ((List.range l.length).map g) := fun g F b h hb w2 h1 h2 => by
      have e : F = (List.range l.length).map g := by
        apply List.ext_getElem?
        intro x
        by_cases hx : x < l.length
        · rw [h.at_ x hx]; simp [hx]
        · rw [List.getElem?_eq_none (by rw [h.len]; omega), List.getElem?_eq_none (by simp; omega)]
      have hrow := h.row
      rw [e] at hrow
      exact .inr ⟨b, 0, none, l.length, by simp, ⟨[], [], 3, false, by rw [h1, hrow]; simp, rfl⟩, by omega⟩
    simp [t2, t3, b2, b3, k1, k2, sv1, tupV]
    refine ⟨_, _, ⟨rfl, rfl⟩, lst _ F1 (w.next + 3) hF1 (by omega) _ (by simp) rfl, lst _ F2 (w.next + 4) hF2 (by omega) _ (by simp) rfl, ?_, by omega, hlm⟩
    intro b hb
    simp [show ¬ b = w.next + 1 by omega, show ¬ b = w.next + 2 by omega]
    exact hI.old b hb
end Go.Proofs.YtnkhenmabmkajaaGreatDoor.walk

namespace Go.Proofs.YtnkhenmabmkajaaGreatDoor.walk
open Go Go.Sh
set_option maxRecDepth 100000
set_option linter.unusedSimpArgs false
/-! the ends of the heats of a day -/
theorem tdiv_mono {a b : Int} (h0 : 0 ≤ a) (h : a ≤ b) : a.tdiv 100 ≤ b.tdiv 100 := by
  rw [Int.tdiv_eq_ediv_of_nonneg h0, Int.tdiv_eq_ediv_of_nonneg (by omega)]
  omega
theorem heat_mono {s s' : Sea} {a a' r z z' : Int} (hw : s'.wet = s.wet) (hb : s.base ≤ s'.base) (ha : a' ≤ a) (hz : z ≤ z') (hz' : z' ≤ 100) : heatI s' a' r z' ≤ heatI s a r z := by
  unfold heatI
  rw [hw]
  split
  · exact Int.le_refl _
  · refine tdiv_mono (Int.mul_nonneg (by omega) (by omega)) ?_
    exact Int.mul_le_mul (by omega) (by omega) (by omega) (by omega)
theorem heat_bd {s : Sea} {a z : Int} (r : Int) (h : heatB s a z = true) : 0 ≤ heatI s a r z ∧ heatI s a r z ≤ 50 := by
  have nums := (heat_nums (heatB_ok h)).2
  unfold heatI
  split <;> omega
def loD (s : Sea) (d : Day) (z : Int) : Int := if s.wet < d.rh then 0 else heatI s d.wl d.rl z
def hiD (s : Sea) (d : Day) (z : Int) : Int := heatI s d.wh d.rl z
theorem foldN (s : Sea) (d : Day) (z : Int) (hz : z ≤ 100) (x y : Int) : ∀ n : Nat, (hsN s d z (n + 1)).foldl stepX (x, y) = (min x (heatI s d.wl d.rl z), max y (heatI s (d.wl + (n : Nat)) d.rl z))
  | 0 => by simp [hsN, stepX]
  | n + 1 => by
    rw [hsN, List.foldl_append, foldN s d z hz x y n]
    have h1 : heatI s d.wl d.rl z ≤ heatI s (d.wl + ((n + 1 : Nat) : Int)) d.rl z := heat_mono rfl (Int.le_refl _) (by omega) (Int.le_refl _) hz
    have h2 : heatI s (d.wl + (n : Nat)) d.rl z ≤ heatI s (d.wl + ((n + 1 : Nat) : Int)) d.rl z := heat_mono rfl (Int.le_refl _) (by omega) (Int.le_refl _) hz
    simp only [List.foldl_cons, List.foldl_nil, stepX]
    congr 1
    · omega
    · omega
theorem ex_eq {s : Sea} {d : Day} {z : Int} (hd : dayB d = true) (h1 : heatB s d.wl z = true) (h2 : heatB s d.wh z = true) : (hsL s d z).foldl stepX (50, 0) = (loD s d z, hiD s d z) := by
  have hdb := hd
  simp only [dayB, spanB, Bool.and_eq_true, decide_eq_true_eq] at hdb
  obtain ⟨n, hn⟩ : ∃ n, (d.wh - d.wl + 1).toNat = n + 1 := ⟨(d.wh - d.wl).toNat, by omega⟩
  have hz : z ≤ 100 := (heatB_ok h1).s1
  have b1 := heat_bd d.rl h1
  have b2 := heat_bd d.rl h2
  have e : d.wl + (n : Nat) = d.wh := by omega
  unfold hsL
  rw [hn]
  by_cases hw : s.wet < d.rh
  · rw [if_pos hw, List.singleton_append, List.foldl_cons]
    show (hsN s d z (n + 1)).foldl stepX (stepX (50, 0) 0) = _
    rw [show stepX (50, 0) 0 = (0, 0) from rfl, foldN s d z hz, e]
    unfold loD hiD
    rw [if_pos hw]
    congr 1 <;> omega
  · rw [if_neg hw, List.nil_append, foldN s d z hz, e]
    unfold loD hiD
    rw [if_neg hw]
    congr 1 <;> omega
/-- the shade of a day of a valid season -/
def shD (s : Sea) (c : List Int) (k : Nat) : Int := shB s c (k + 1)
def LS (s : Sea) (l : List Day) (c : List Int) : List Int := (List.range l.length).map fun k => (exD s l (shL s c l.length) k).1
def MS (s : Sea) (l : List Day) (c : List Int) : List Int := (List.range l.length).map fun k => (exD s l (shL s c l.length) k).2
theorem sea_facts {s : Sea} {l : List Day} {c : List Int} (hE : seaE s l c = 0) : (∀ (i : Nat) d z a, l[i]? = some d → (shL s c l.length)[i]? = some z → d.wl ≤ a → a ≤ d.wh → heatB s a z = true) ∧ (∀ (i : Nat) d, l[i]? = some d → dayB d = true) := by
  obtain ⟨hd, hcB, hs, hb, hwet⟩ := sea_zero hE
  have hdd : daysTo l l.length = true := by
    simp only [daysB, Bool.and_eq_true] at hd
    exact hd.2.2
  have hday : ∀ (i : Nat) d, l[i]? = some d → dayB d = true := fun i d h => day_of _ hdd i d (List.getElem?_eq_some_iff.1 h).1 h
  refine ⟨fun i d z a h hz h1 h2 => ?_, hday⟩
  have hil : i < l.length := (List.getElem?_eq_some_iff.1 h).1
  have hz' := shL_at s c l.length i hil
  rw [hz] at hz'
  cases hz'
  have bd := shB_bd hs c (i + 1)
  have bd0 := bd.2.2 (Nat.succ_pos _)
  have hdy := hday i d h
  simp only [dayB, spanB, Bool.and_eq_true, decide_eq_true_eq] at hdy
  simp only [inI, Bool.and_eq_true, decide_eq_true_eq] at hb
  simp only [heatB, inI, Bool.and_eq_true, decide_eq_true_eq]
  omega
theorem exD_eq {s : Sea} {l : List Day} {c : List Int} (hE : seaE s l c = 0) {k : Nat} {d : Day} (hk : l[k]? = some d) : exD s l (shL s c l.length) k = (loD s d (shD s c k), hiD s d (shD s c k)) := by
  obtain ⟨h1, h2⟩ := sea_facts hE
  have hkl : k < l.length := (List.getElem?_eq_some_iff.1 hk).1
  have hz := shL_at s c l.length k hkl
  have hdy := h2 k d hk
  have hdb := hdy
  simp only [dayB, spanB, Bool.and_eq_true, decide_eq_true_eq] at hdb
  unfold exD
  rw [hk, hz]
  exact ex_eq hdy (h1 k d _ _ hk hz (Int.le_refl _) (by omega)) (h1 k d _ _ hk hz (by omega) (Int.le_refl _))
theorem ends_bd {s : Sea} {l : List Day} {c : List Int} (hE : seaE s l c = 0) {k : Nat} {d : Day} (hk : l[k]? = some d) : (0 ≤ loD s d (shD s c k) ∧ loD s d (shD s c k) ≤ 50) ∧ 0 ≤ hiD s d (shD s c k) ∧ hiD s d (shD s c k) ≤ 50 := by
  obtain ⟨h1, h2⟩ := sea_facts hE
  have hkl : k < l.length := (List.getElem?_eq_some_iff.1 hk).1
  have hz := shL_at s c l.length k hkl
  have hdb := h2 k d hk
  simp only [dayB, spanB, Bool.and_eq_true, decide_eq_true_eq] at hdb
  have b1 := heat_bd d.rl (h1 k d _ _ hk hz (Int.le_refl _) (by omega))
  have b2 := heat_bd d.rl (h1 k d _ _ hk hz (by omega) (Int.le_refl _))
  unfold loD hiD shD
  refine ⟨?_, b2⟩
  split <;> omega
theorem small_ends {s : Sea} {l : List Day} {c : List Int} (hE : seaE s l c = 0) : small (LS s l c) = true ∧ small (MS s l c) = true := by
  have h40 := (days_len (sea_zero hE).1).2
  have key : ∀ g : Nat → Int, (∀ k, k < l.length → 0 ≤ g k ∧ g k ≤ 50) → small ((List.range l.length).map g) = true := fun g hg => by
    simp only [small, Bool.and_eq_true, decide_eq_true_eq, List.all_eq_true, List.length_map, List.length_range]
    refine ⟨h40, fun z hz => ?_⟩
    obtain ⟨k, hk, rfl⟩ := List.mem_map.1 hz
    have := hg k (List.mem_range.1 hk)
    simp [inI, this]
  constructor
  · refine key _ fun k hk => ?_
    have hd : l[k]? = some (l[k]'hk) := List.getElem?_eq_getElem hk
    rw [exD_eq hE hd]; exact (ends_bd hE hd).1
  · refine key _ fun k hk => ?_
    have hd : l[k]? = some (l[k]'hk) := List.getElem?_eq_getElem hk
    rw [exD_eq hE hd]; exact (ends_bd hE hd).2
/-! Opens -/
def oE (s : Sea) (l : List Day) (c : List Int) (r : Rac) : Int := bothE s l c [r]
def oA (s : Sea) (l : List Day) (c : List Int) (r : Rac) : Int := if oE s l c r = 0 then (opI (MS s l c) r.need : Nat) else 0
def oB (s : Sea) (l : List Day) (c : List Int) (r : Rac) : Int := if oE s l c r = 0 then (opI (LS s l c) r.need : Nat) else 0
set_option maxHeartbeats 1000000 in
theorem run15 {ov : Ov} (ho : ∀ args w, ov 15 args w = none) (ho19 : ∀ args w, ov 19 args w = none) (ho45 : ∀ args w, ov 45 args w = none) (ho69 : ∀ args w, ov 69 args w = none) (ho81 : ∀ args w, ov 81 args w = none) (h32 : HasP ov 32 F32) (h46 : HasP ov 46 F46) (h47 : HasP ov 47 F47) (h48 : HasP ov 48 F48) (h53 : HasP ov 53 F53) (s : Sea) (l : List Day) (c : List Int) (r : Rac) (dv cv : Value) (w : AW) (hl : w.lim ≤ w.next) (hv : RowsV dayC w dv l) (hu : RowsV intC w cv c) :
    ∃ x w', (run Tryz.prog ov 4).call 15 [.agg ⟨seaC s dv cv⟩, .agg ⟨racC r⟩] w .none = .ok (.ret x) w' .none ∧ x = .tuple ⟨[.agg ⟨[.int .i64 (oA s l c r), .int .i64 (oB s l c r)]⟩, .int .i64 (oE s l c r)]⟩ := by
  refine call_wp text15 (by simp) (ho _ _) ?_
  obtain ⟨H, hH⟩ : ∃ H, H = (((w.heap.put w.next (some (.cells (seaC s dv cv) 29 false))).put (w.next + 1) (some (.cells (racC r) 43 false))).put (w.next + 2) (some (.cells [.int .i64 0, .int .i64 0] 24 false))).put (w.next + 3) (some (.cells (racC r) 43 false)) := ⟨_, rfl⟩
  have o1 : Old w.next w.heap H := by
    intro b hb
    rw [hH]
    simp [show ¬ b = w.next by omega, show ¬ b = w.next + 1 by omega, show ¬ b = w.next + 2 by omega, show ¬ b = w.next + 3 by omega]
  have n1 : w.next ≤ w.next + 4 := by omega
  have hv1 : RowsV dayC ⟨H, w.next + 4, w.lim⟩ dv l := hv.old o1 n1
  have hu1 : RowsV intC ⟨H, w.next + 4, w.lim⟩ cv c := hu.old o1 n1
  have hr1 : RowsV racC ⟨H, w.next + 4, w.lim⟩ (.slice (some ⟨w.next + 3, 0, none⟩) 1 1) [r] := .inr ⟨w.next + 3, 0, none, 1, rfl, ⟨[], [], 43, false, by rw [hH]; simp, rfl⟩, by show w.next + 3 < w.next + 4; omega⟩
  have r32 := rule32 (s := s) h32 hv1 hu1 hr1 2
  have l2 : w.lim ≤ w.next + 2 := by omega
  have g0 : H.get w.next = some (.cells (seaC s dv cv) 29 false) := by rw [hH]; simp
  have g1 : H.get (w.next + 1) = some (.cells (racC r) 43 false) := by rw [hH]; simp
  have g2 : H.get (w.next + 2) = some (.cells [.int .i64 0, .int .i64 0] 24 false) := by rw [hH]; simp
  by_cases hB : bothE s l c [r] = 0
  · obtain ⟨hE, hR⟩ := both_zero hB
    obtain ⟨hd, hcB, hs, _, _⟩ := sea_zero hE
    obtain ⟨f1, f2⟩ := sea_facts hE
    have h40 := (days_len hd).2
    have hcl := cuts_len (by omega) hcB
    obtain ⟨y, w1, hc19, B, rfl, k1, k2, k3, o2, n2, l3⟩ := call19 1 ho19 h47 h48 s hs l h40 c hcB (by omega) dv cv ⟨H, w.next + 4, w.lim⟩ (by show w.lim ≤ w.next + 4; omega) hv1 hu1
    have n2' : w.next + 4 ≤ w1.next := n2
    have l3' : w1.lim = w.lim := l3
    have hS : RowsV intC w1 (.slice (some ⟨B, 0, none⟩) l.length l.length) (shL s c l.length) := .inr ⟨B, 0, none, l.length, by rw [shL_length], ⟨[], [], 3, false, by rw [k1]; simp, rfl⟩, k3⟩
    obtain ⟨x, w2, hc45, u, v, rfl, hu2, hv2, o3, n3, l4⟩ := call45 0 ho45 ho69 ho81 h53 s dv cv _ l h40 (shL s c l.length) (shL_length _ _ _) f1 f2 w1 (by omega) (hv1.old o2 n2) hS
    have gg : ∀ x, x < w.next + 4 → w2.heap.get x = H.get x := fun x hx => by rw [o3 x (by omega), o2 x hx]
    obtain ⟨sm1, sm2⟩ := small_ends hE
    have r46 := rule46 h46 r.need hv2 sm2 2
    have r46' := rule46 h46 r.need hu2 sm1 2
    have q1 := gg (w.next + 1) (by omega)
    rw [g1] at q1
    have q2 := gg (w.next + 2) (by omega)
    rw [g2] at q2
    have l5 : w2.lim ≤ w.next + 2 := by omega
    have sv2 := fun (k : IntKind) (a : Int) => sameN_int 4 k a
    rw [hB] at r32
    simp only [seaC, racC] at hH g0 g1 q1 r32 hc19
    rw [hH] at r32 hc19
    rw [hH] at g0
    simp [mc15, seaC, racC, l2, r32, hc19, hc45, r46, r46', q1, q2, l5, sv2, tupV, oA, oB, oE, hB]
    exact ⟨rfl, rfl⟩
  · simp only [seaC, racC] at hH r32
    rw [hH] at r32
    simp [mc15, seaC, racC, l2, r32, tupV, oA, oB, oE, hB]
end Go.Proofs.YtnkhenmabmkajaaGreatDoor.walk

namespace Go.Proofs.YtnkhenmabmkajaaGreatDoor.walk
open Go Go.Sh
set_option maxRecDepth 100000
set_option linter.unusedSimpArgs false
/-! what is more -/
def leL : List Int → List Int → Prop
  | [], [] => True
  | a :: l, b :: m => a ≤ b ∧ leL l m
  | _, _ => False
theorem opF_mono : ∀ (L' L : List Int) (need need' sum sum' : Int) (i : Nat), leL L' L → sum' ≤ sum → need ≤ need' → opF need L sum i ≤ opF need' L' sum' i
  | [], [], _, _, _, _, i, _, _, _ => Nat.le_refl _
  | [], _ :: _, _, _, _, _, _, h, _, _ => h.elim
  | _ :: _, [], _, _, _, _, _, h, _, _ => h.elim
  | a :: l, b :: m, need, need', sum, sum', i, h, h1, h2 => by
    obtain ⟨h3, h4⟩ := h
    unfold opF
    by_cases e : need ≤ sum + b
    · rw [if_pos e]
      split
      · exact Nat.le_refl _
      · have := (opF_ge need' l (sum' + a) (i + 1)).1; omega
    · rw [if_neg e, if_neg (by omega)]
      exact opF_mono l m need need' _ _ (i + 1) h4 (by omega) h2
theorem leL_map {α : Type} (g' g : α → Int) : ∀ xs : List α, (∀ x ∈ xs, g' x ≤ g x) → leL (xs.map g') (xs.map g)
  | [], _ => trivial
  | x :: xs, h => ⟨h x (List.mem_cons_self ..), leL_map g' g xs fun y hy => h y (List.mem_cons_of_mem _ hy)⟩
theorem sh_mono {s s' : Sea} (h1 : s.from_ ≤ s'.from_) (h2 : s'.grows = s.grows) (h3 : s'.cut = s.cut) (hs : shadeB s = true) (hs' : shadeB s' = true) (c : List Int) : ∀ k, shB s c k ≤ shB s' c k
  | 0 => Int.le_refl _
  | k + 1 => by
    have ih := sh_mono h1 h2 h3 hs hs' c k
    have b1 := (shB_bd hs c k)
    have b2 := (shB_bd hs' c k)
    show nextI s (shB s c k) _ ≤ nextI s' (shB s' c k) _
    unfold nextI
    rw [h2, h3]
    cases k with
    | zero =>
      have e : shB s c 0 = -1 := rfl
      have e' : shB s' c 0 = -1 := rfl
      rw [e, e']
      simp only [show ¬ (0 : Int) ≤ -1 by omega, if_false]
      split <;> omega
    | succ k =>
      have p1 := b1.2.2 (Nat.succ_pos _)
      have p2 := b2.2.2 (Nat.succ_pos _)
      rw [if_pos p1, if_pos p2]
      split <;> omega
/-- a valid season and raceme open no earlier than others that get more heat -/
theorem opens_mono {s s' : Sea} {l l' : List Day} {c : List Int} {r r' : Rac} (hE : seaE s l c = 0) (hE' : seaE s' l' c = 0) (hR : racB [r] = true) (hR' : racB [r'] = true) (hn : r.need ≤ r'.need) (hlen : l'.length = l.length)
    (hle : ∀ k d d', l[k]? = some d → l'[k]? = some d' → loD s' d' (shD s' c k) ≤ loD s d (shD s c k) ∧ hiD s' d' (shD s' c k) ≤ hiD s d (shD s c k)) : oE s' l' c r' = 0 ∧ oA s l c r ≤ oA s' l' c r' ∧ oB s l c r ≤ oB s' l' c r' := by
  have e : oE s l c r = 0 := by simp [oE, bothE, hE, hR]
  have e' : oE s' l' c r' = 0 := by simp [oE, bothE, hE', hR']
  have key : ∀ k, k < l.length → (exD s' l' (shL s' c l'.length) k).1 ≤ (exD s l (shL s c l.length) k).1 ∧ (exD s' l' (shL s' c l'.length) k).2 ≤ (exD s l (shL s c l.length) k).2 := fun k hk => by
    have h1 : l[k]? = some (l[k]'hk) := List.getElem?_eq_getElem hk
    have h2 : l'[k]? = some (l'[k]'(by omega)) := List.getElem?_eq_getElem (by omega)
    rw [exD_eq hE h1, exD_eq hE' h2]
    exact hle k _ _ h1 h2
  refine ⟨e', ?_, ?_⟩
  · unfold oA
    rw [if_pos e, if_pos e']
    have := opF_mono (MS s' l' c) (MS s l c) r.need r'.need 0 0 0 (by
      unfold MS; rw [hlen]
      exact leL_map _ _ _ fun k hk => by rw [← hlen]; simpa [hlen] using (key k (List.mem_range.1 hk)).2) (Int.le_refl _) hn
    unfold opI; omega
  · unfold oB
    rw [if_pos e, if_pos e']
    have := opF_mono (LS s' l' c) (LS s l c) r.need r'.need 0 0 0 (by
      unfold LS; rw [hlen]
      exact leL_map _ _ _ fun k hk => by rw [← hlen]; simpa [hlen] using (key k (List.mem_range.1 hk)).1) (Int.le_refl _) hn
    unfold opI; omega
theorem sea_of {s : Sea} {l : List Day} {c : List Int} (h : seaB s l c = true) : seaE s l c = 0 := by
  unfold seaE; rw [h]; rfl
theorem sea_B {s : Sea} {l : List Day} {c : List Int} (h : seaE s l c = 0) : seaB s l c = true := by
  cases hx : seaB s l c with
  | true => rfl
  | false => unfold seaE at h; rw [hx] at h; cases h
theorem later_from {s : Sea} {l : List Day} {c : List Int} {r : Rac} (hE : seaE s l c = 0) (hR : racB [r] = true) (x : Int) (hx : 0 ≤ x) : oE { s with from_ := min 100 (s.from_ + x) } l c r = 0 ∧ oA s l c r ≤ oA { s with from_ := min 100 (s.from_ + x) } l c r ∧ oB s l c r ≤ oB { s with from_ := min 100 (s.from_ + x) } l c r := by
  have hB := sea_B hE
  obtain ⟨hd, hcB, hs, hb, hwet⟩ := sea_zero hE
  have hs' : shadeB { s with from_ := min 100 (s.from_ + x) } = true := by
    have hs2 := hs
    simp only [shadeB, inI, Bool.and_eq_true, decide_eq_true_eq] at hs2 ⊢
    exact ⟨by omega, hs2.2⟩
  have hE' : seaE { s with from_ := min 100 (s.from_ + x) } l c = 0 := by
    refine sea_of ?_
    simp only [seaB, Bool.and_eq_true] at hB ⊢
    exact ⟨hB.1, hB.2.1, hs', hB.2.2.2⟩
  have hf := (shade_nums hs).1
  refine opens_mono hE hE' hR hR (Int.le_refl _) rfl fun k d d' h1 h2 => ?_
  rw [h1] at h2; cases h2
  have hz := sh_mono (s := s) (s' := { s with from_ := min 100 (s.from_ + x) }) (by show s.from_ ≤ min 100 (s.from_ + x); omega) rfl rfl hs hs' c (k + 1)
  have h100 := (shB_bd hs' c (k + 1)).2.1
  unfold loD hiD shD
  constructor
  · by_cases hw : s.wet < d.rh
    · rw [if_pos hw, if_pos hw]; exact Int.le_refl _
    · rw [if_neg hw, if_neg hw]; exact heat_mono rfl (Int.le_refl _) (Int.le_refl _) hz h100
  · exact heat_mono rfl (Int.le_refl _) (Int.le_refl _) hz h100
theorem shB_base (s : Sea) (b : Int) (c : List Int) : ∀ k, shB { s with base := b } c k = shB s c k
  | 0 => rfl
  | k + 1 => by
    show nextI { s with base := b } (shB { s with base := b } c k) _ = nextI s (shB s c k) _
    rw [shB_base s b c k]; rfl
theorem later_base {s : Sea} {l : List Day} {c : List Int} {r : Rac} (hE : seaE s l c = 0) (hR : racB [r] = true) (x : Int) (hx : 0 ≤ x) : oE { s with base := min 50 (s.base + x) } l c r = 0 ∧ oA s l c r ≤ oA { s with base := min 50 (s.base + x) } l c r ∧ oB s l c r ≤ oB { s with base := min 50 (s.base + x) } l c r := by
  have hB := sea_B hE
  obtain ⟨hd, hcB, hs, hb, hwet⟩ := sea_zero hE
  simp only [inI, Bool.and_eq_true, decide_eq_true_eq] at hb
  have hE' : seaE { s with base := min 50 (s.base + x) } l c = 0 := by
    refine sea_of ?_
    simp only [seaB, inI, Bool.and_eq_true, decide_eq_true_eq] at hB ⊢
    exact ⟨hB.1, hB.2.1, hB.2.2.1, by show 0 ≤ min 50 (s.base + x) ∧ min 50 (s.base + x) ≤ 50; omega, hB.2.2.2.2⟩
  refine opens_mono hE hE' hR hR (Int.le_refl _) rfl fun k d d' h1 h2 => ?_
  rw [h1] at h2; cases h2
  have h100 := (shB_bd hs c (k + 1)).2.1
  unfold loD hiD shD
  rw [shB_base]
  have hbb : s.base ≤ min 50 (s.base + x) := by omega
  constructor
  · by_cases hw : s.wet < d.rh
    · rw [if_pos hw, if_pos hw]; exact Int.le_refl _
    · rw [if_neg hw, if_neg hw]; exact heat_mono rfl hbb (Int.le_refl _) (Int.le_refl _) h100
  · exact heat_mono rfl hbb (Int.le_refl _) (Int.le_refl _) h100
def halfD (d : Day) : Day := ⟨d.wl.tdiv 2, d.wh.tdiv 2, d.rl, d.rh⟩
theorem days_all {l : List Day} : ∀ n, (∀ i d, i < n → l[i]? = some d → dayB d = true) → daysTo l n = true
  | 0, _ => rfl
  | n + 1, h => by
    show (daysTo l n && _) = true
    rw [days_all n fun i d hi => h i d (by omega), Bool.true_and]
    cases hd : l[n]? with
    | none => rfl
    | some d => exact h n d (Nat.lt_succ_self _) hd
theorem later_days {s : Sea} {l : List Day} {c : List Int} {r : Rac} (hE : seaE s l c = 0) (hR : racB [r] = true) {j : Nat} {d0 : Day} (hj : l[j]? = some d0) : oE s (l.set j (halfD d0)) c r = 0 ∧ oA s l c r ≤ oA s (l.set j (halfD d0)) c r ∧ oB s l c r ≤ oB s (l.set j (halfD d0)) c r := by
  have hB := sea_B hE
  obtain ⟨hd, hcB, hs, hb, hwet⟩ := sea_zero hE
  obtain ⟨_, hday⟩ := sea_facts hE
  have hjl : j < l.length := (List.getElem?_eq_some_iff.1 hj).1
  have h0 := hday j d0 hj
  simp only [dayB, spanB, Bool.and_eq_true, decide_eq_true_eq] at h0
  have t1 : d0.wl.tdiv 2 = d0.wl / 2 := Int.tdiv_eq_ediv_of_nonneg (by omega)
  have t2 : d0.wh.tdiv 2 = d0.wh / 2 := Int.tdiv_eq_ediv_of_nonneg (by omega)
  have hE' : seaE s (l.set j (halfD d0)) c = 0 := by
    refine sea_of ?_
    simp only [seaB, Bool.and_eq_true] at hB ⊢
    refine ⟨?_, by rw [List.length_set]; exact hB.2.1, hB.2.2⟩
    simp only [daysB, Bool.and_eq_true, decide_eq_true_eq, List.length_set] at hd ⊢
    refine ⟨hd.1, hd.2.1, days_all _ fun i d hi hid => ?_⟩
    by_cases e : i = j
    · subst e
      rw [List.getElem?_set_self hjl] at hid
      cases hid
      simp only [dayB, spanB, halfD, Bool.and_eq_true, decide_eq_true_eq, t1, t2]
      omega
    · rw [List.getElem?_set_ne (Ne.symm e)] at hid
      exact hday i d hid
  refine opens_mono hE hE' hR hR (Int.le_refl _) (by rw [List.length_set]) fun k d d' h1 h2 => ?_
  have h100 := (shB_bd hs c (k + 1)).2.1
  unfold shD
  by_cases e : k = j
  · subst e
    rw [List.getElem?_set_self hjl] at h2
    rw [hj] at h1
    cases h1; cases h2
    unfold loD hiD halfD
    simp only
    constructor
    · by_cases hw : s.wet < d0.rh
      · rw [if_pos hw, if_pos hw]; exact Int.le_refl _
      · rw [if_neg hw, if_neg hw]; exact heat_mono rfl (Int.le_refl _) (by omega) (Int.le_refl _) h100
    · exact heat_mono rfl (Int.le_refl _) (by omega) (Int.le_refl _) h100
  · rw [List.getElem?_set_ne (Ne.symm e), h1] at h2
    cases h2
    exact ⟨Int.le_refl _, Int.le_refl _⟩
theorem later_need {s : Sea} {l : List Day} {c : List Int} {r : Rac} (hE : seaE s l c = 0) (hR : racB [r] = true) (x : Int) (hx : 0 ≤ x) : oE s l c ⟨min 2000 (r.need + x), r.fl⟩ = 0 ∧ oA s l c r ≤ oA s l c ⟨min 2000 (r.need + x), r.fl⟩ ∧ oB s l c r ≤ oB s l c ⟨min 2000 (r.need + x), r.fl⟩ := by
  have h0 : racOk r = true := rac_of 1 (by simpa [racB] using hR) 0 r (by omega) rfl
  have h0' := h0
  simp only [racOk, inI, Bool.and_eq_true, decide_eq_true_eq] at h0'
  have hR' : racB [⟨min 2000 (r.need + x), r.fl⟩] = true := by
    simp only [racB, racTo, List.length_cons, List.length_nil, Bool.and_eq_true, decide_eq_true_eq, List.getElem?_cons_zero, Bool.true_and, racOk, inI]
    omega
  refine opens_mono hE hE hR hR' (by show r.need ≤ min 2000 (r.need + x); omega) rfl fun k d d' h1 h2 => ?_
  rw [h1] at h2; cases h2
  exact ⟨Int.le_refl _, Int.le_refl _⟩
end Go.Proofs.YtnkhenmabmkajaaGreatDoor.walk

namespace Go.Proofs.YtnkhenmabmkajaaGreatDoor.walk
open Go Go.Sh
set_option maxRecDepth 100000
set_option linter.unusedSimpArgs false
/-! what VineLater asks besides: Wrap, to, fits -/
def wrapI (n s : Int) : Int := if s < 1 then 0 else (n.tmod s + s).tmod s
theorem wrapI_bd {n s : Int} (h : 1 ≤ s) : 0 ≤ wrapI n s ∧ wrapI n s < s := by
  have h2 := Int.lt_tmod_of_pos n (show 0 < s by omega)
  unfold wrapI
  rw [if_neg (by omega)]
  exact ⟨Int.tmod_nonneg _ (by omega), Int.tmod_lt_of_pos _ (by omega)⟩
noncomputable def F17 : PureF := fun args _ => match args with | [.int .i64 n, .int .i64 s] => bif decide (s ≤ 2 ^ 60) then some (.int .i64 (wrapI n s)) else none | _ => none
theorem rule17 {ov : Ov} (k : HasP ov 17 F17) (n : Int) {s : Int} (hs : s ≤ 2 ^ 60) (m : Nat) (w : AW) : (run Tryz.prog ov (m + 1)).call 17 [.int .i64 n, .int .i64 s] w .none = .ok (.ret (.int .i64 (wrapI n s))) w .none := k.call (by
  show (bif decide (s ≤ 2 ^ 60) then some (Value.int .i64 (wrapI n s)) else none) = _
  rw [decide_eq_true hs]; rfl)
theorem run17 {ov : Ov} (ho : ∀ args w, ov 17 args w = none) (n s : Int) (hs : s ≤ 2 ^ 60) (w : AW) : ∃ v w', (run Tryz.prog ov 2).call 17 [.int .i64 n, .int .i64 s] w .none = .ok (.ret v) w' .none ∧ v = .int .i64 (wrapI n s) := by
  refine call_wp text17 (by simp) (ho _ _) ?_
  by_cases h1 : s < 1
  · simp [mc17, h1, tupV, wrapI]
  · have hr := fun (a : Int) (c : Bool) w => bin_rem (P := Tryz.prog) (w := w) 3 c .i64 a s (by omega)
    have b1 := Int.lt_tmod_of_pos n (show 0 < s by omega)
    have b2 := Int.tmod_lt_of_pos n (show 0 < s by omega)
    have w1 : IntKind.wrap .i64 (n.tmod s + s) = n.tmod s + s := wrap64_in (by omega) (by omega)
    simp [mc17, h1, tupV, wrapI, hr, w1]
noncomputable def F18 : PureF := fun args _ => match args with | [.int .i64 a, .int .i64 b] => some (.agg ⟨[.int .i64 a, .int .i64 b]⟩) | _ => none
theorem rule18 {ov : Ov} (k : HasP ov 18 F18) (a b : Int) (m : Nat) (w : AW) : (run Tryz.prog ov (m + 1)).call 18 [.int .i64 a, .int .i64 b] w .none = .ok (.ret (.agg ⟨[.int .i64 a, .int .i64 b]⟩)) w .none := k.call rfl
theorem run18 {ov : Ov} (ho : ∀ args w, ov 18 args w = none) (a b : Int) (w : AW) (hl : w.lim = w.next) : ∃ v w', (run Tryz.prog ov 2).call 18 [.int .i64 a, .int .i64 b] w .none = .ok (.ret v) w' .none ∧ v = .agg ⟨[.int .i64 a, .int .i64 b]⟩ := by
  refine call_wp text18 (by simp) (ho _ _) ?_
  have l1 : w.lim ≤ w.next := by omega
  simp [mc18, l1, cellsOf_agg, tupV]
noncomputable def F16 : PureF := fun args w => match args with | [.agg ⟨[dv, .int .i64 a, .int .i64 b, .int .i64 c, .int .i64 d, .int .i64 e, .int .i64 f, .int .i64 g, cv]⟩] => (rowsIn dayC w dv).bind fun l => (rowsIn intC w cv).bind fun k => some (.bool (decide (seaE ⟨a, b, c, d, e, f, g⟩ l k = 0))) | _ => none
theorem rule16 {ov : Ov} (k : HasP ov 16 F16) {s : Sea} {dv cv : Value} {l : List Day} {c : List Int} {w : AW} (hv : RowsV dayC w dv l) (hc : RowsV intC w cv c) (m : Nat) : (run Tryz.prog ov (m + 1)).call 16 [.agg ⟨seaC s dv cv⟩] w .none = .ok (.ret (.bool (decide (seaE s l c = 0)))) w .none := k.call (by
  simp only [F16, seaC, hv.rowsIn (m := 4) dayC_length dayC_inj, hc.rowsIn (m := 1) intC_length intC_inj, Option.bind_some])
theorem run16 {ov : Ov} (ho : ∀ args w, ov 16 args w = none) (h8 : HasP ov 8 F8) (h25 : HasP ov 25 F25) (s : Sea) (l : List Day) (c : List Int) (dv cv : Value) (w : AW) (hv : RowsV dayC w dv l) (hc : RowsV intC w cv c) :
    ∃ x w', (run Tryz.prog ov 2).call 16 [.agg ⟨seaC s dv cv⟩] w .none = .ok (.ret x) w' .none ∧ x = .bool (decide (seaE s l c = 0)) := by
  refine call_wp text16 (by simp) (ho _ _) ?_
  have o1 : Old w.next w.heap (w.heap.put w.next (some (.cells (seaC s dv cv) 29 false))) := (Old.refl _ _).put (Nat.le_refl _)
  have hv1 : RowsV dayC ⟨w.heap.put w.next (some (.cells (seaC s dv cv) 29 false)), w.next + 1, w.lim⟩ dv l := hv.old o1 (Nat.le_succ _)
  have hu1 : RowsV intC ⟨w.heap.put w.next (some (.cells (seaC s dv cv) 29 false)), w.next + 1, w.lim⟩ cv c := hc.old o1 (Nat.le_succ _)
  have r8 := rule8 (f := 8) (s := s) h8 hv1 hu1 0
  have hld := len22V hv
  have hlc := len27V hc
  simp only [seaC, Nat.zero_add] at r8
  by_cases hE : seaE s l c = 0
  · obtain ⟨hd, hcB, _, _, _⟩ := sea_zero hE
    have h40 := days_len hd
    have hcl := cuts_len (by omega) hcB
    have r25 := rule25 h25 (l.length : Nat) 1 40 0
    have hin : inI 1 (l.length : Nat) 40 = true := by simp [inI]; omega
    rw [hin] at r25
    have hc40 : (c.length : Int) ≤ 40 := by omega
    simp only [Nat.zero_add] at r25
    simp [mc16, seaC, r8, r25, hE, hld, hlc, hc40, tupV]
  · simp [mc16, seaC, r8, hE, tupV]
noncomputable def F15 : PureF := fun args w => match args with | [.agg ⟨[dv, .int .i64 a, .int .i64 b, .int .i64 c, .int .i64 d, .int .i64 e, .int .i64 f, .int .i64 g, cv]⟩, .agg ⟨[.int .i64 n, .int .i64 fl]⟩] => (rowsIn dayC w dv).bind fun l => (rowsIn intC w cv).bind fun k => some (.tuple ⟨[.agg ⟨[.int .i64 (oA ⟨a, b, c, d, e, f, g⟩ l k ⟨n, fl⟩), .int .i64 (oB ⟨a, b, c, d, e, f, g⟩ l k ⟨n, fl⟩)]⟩, .int .i64 (oE ⟨a, b, c, d, e, f, g⟩ l k ⟨n, fl⟩)]⟩) | _ => none
theorem rule15 {ov : Ov} (k : HasP ov 15 F15) {s : Sea} {dv cv : Value} {l : List Day} {c : List Int} (r : Rac) {w : AW} (hv : RowsV dayC w dv l) (hc : RowsV intC w cv c) (m : Nat) : (run Tryz.prog ov (m + 1)).call 15 [.agg ⟨seaC s dv cv⟩, .agg ⟨racC r⟩] w .none = .ok (.ret (.tuple ⟨[.agg ⟨[.int .i64 (oA s l c r), .int .i64 (oB s l c r)]⟩, .int .i64 (oE s l c r)]⟩)) w .none := k.call (by
  simp only [F15, seaC, racC, hv.rowsIn (m := 4) dayC_length dayC_inj, hc.rowsIn (m := 1) intC_length intC_inj, Option.bind_some])
noncomputable def mc4_r2 : MC := .seq (.ops [⟨false, none, some 106, 29, .load 29 (.tmp 9)⟩, ⟨false, none, some 107, 43, .load 43 (.tmp 10)⟩, ⟨false, none, some 108, 45, .call ⟨.value (.func 15), #[.tmp 106, .tmp 107], #[29, 43]⟩⟩, ⟨false, none, some 105, 45, .move (.tmp 108)⟩, ⟨false, none, some 109, 24, .extract (.tmp 105) 0⟩, ⟨false, none, some 110, 33, .extract (.tmp 105) 1⟩, ⟨false, none, some 13, 0, .alloc 24⟩, ⟨false, none, none, 0, .store 24 (.tmp 13) (.tmp 109)⟩, ⟨false, none, some 8, 33, .assign (.tmp 110)⟩]) (.seq (.ops [⟨false, none, some 111, 33, .move (.tmp 8)⟩, ⟨false, none, some 112, 4, .binOp .eql 33 (.tmp 111) (.const (.int .i64 0)) 33⟩, ⟨false, none, some 113, 4, .move (.tmp 112)⟩, ⟨false, some (113, true), some 114, 0, .fieldAddr 24 (.tmp 13) 0⟩, ⟨false, some (113, true), some 115, 3, .load 3 (.tmp 114)⟩, ⟨false, some (113, true), some 116, 0, .fieldAddr 24 (.tmp 7) 0⟩, ⟨false, some (113, true), some 117, 3, .load 3 (.tmp 116)⟩, ⟨false, some (113, true), some 118, 4, .binOp .geq 3 (.tmp 115) (.tmp 117) 3⟩, ⟨false, none, some 119, 4, .pick (.tmp 113) (.tmp 118) (.const (.bool false))⟩, ⟨false, none, some 120, 4, .move (.tmp 119)⟩, ⟨false, some (120, true), some 121, 0, .fieldAddr 24 (.tmp 13) 1⟩, ⟨false, some (120, true), some 122, 3, .load 3 (.tmp 121)⟩, ⟨false, some (120, true), some 123, 0, .fieldAddr 24 (.tmp 7) 1⟩, ⟨false, some (120, true), some 124, 3, .load 3 (.tmp 123)⟩, ⟨false, some (120, true), some 125, 4, .binOp .geq 3 (.tmp 122) (.tmp 124) 3⟩, ⟨false, none, some 126, 4, .pick (.tmp 120) (.tmp 125) (.const (.bool false))⟩, ⟨false, none, some 127, 4, .move (.tmp 126)⟩, ⟨false, some (127, true), some 128, 4, .call ⟨.value (.func 14), #[], #[]⟩⟩, ⟨false, none, some 129, 4, .pick (.tmp 127) (.tmp 128) (.const (.bool false))⟩, ⟨false, none, some 6, 4, .assign (.tmp 129)⟩]) (.ret))
noncomputable def mc4_r1 : MC := .seq (.seq (.ops [⟨false, none, some 39, 0, .indexAddr 44 (.tmp 5) (.const (.int .i64 0))⟩, ⟨false, none, some 40, 3, .load 3 (.tmp 39)⟩, ⟨false, none, some 41, 3, .call ⟨.value (.func 17), #[.tmp 40, .const (.int .i64 4)], #[3, 3]⟩⟩]) (.block 0 (.seq (.ops [⟨false, none, some 74, 4, .binOp .eql 3 (.tmp 41) (.const (.int .i64 0)) 3⟩, ⟨false, none, some 73, 4, .assign (.tmp 74)⟩]) (.cond (.tmp 73) (.seq (.ops [⟨true, none, some 75, 0, .fieldAddr 43 (.tmp 4) 0⟩]) (.seq (.ops [⟨true, none, some 76, 3, .load 3 (.tmp 75)⟩]) (.seq (.ops [⟨true, none, some 77, 0, .indexAddr 44 (.tmp 5) (.const (.int .i64 1))⟩]) (.seq (.ops [⟨true, none, some 78, 3, .load 3 (.tmp 77)⟩]) (.seq (.ops [⟨false, none, some 79, 3, .call ⟨.value (.func 17), #[.tmp 78, .const (.int .i64 60)], #[3, 3]⟩⟩]) (.seq (.ops [⟨true, none, some 80, 3, .binOp .add 3 (.tmp 76) (.tmp 79) 3⟩]) (.seq (.ops [⟨true, none, some 81, 3, .call ⟨.builtin .min, #[.const (.int .i64 2000), .tmp 80], #[3, 3]⟩⟩]) (.seq (.ops [⟨true, none, some 82, 0, .fieldAddr 43 (.tmp 10) 0⟩]) (.seq (.chk [⟨true, none, some 76, 3, .load 3 (.tmp 75)⟩]) (.seq (.ops [⟨false, none, none, 0, .store 3 (.tmp 82) (.tmp 81)⟩]) (.chk []))))))))))) (.seq (.ops [⟨false, none, some 84, 4, .binOp .eql 3 (.tmp 41) (.const (.int .i64 1)) 3⟩, ⟨false, none, some 83, 4, .assign (.tmp 84)⟩]) (.cond (.tmp 83) (.seq (.ops [⟨true, none, some 85, 0, .fieldAddr 29 (.tmp 3) 3⟩]) (.seq (.ops [⟨true, none, some 86, 0, .fieldAddr 26 (.tmp 85) 0⟩]) (.seq (.ops [⟨true, none, some 87, 3, .load 3 (.tmp 86)⟩]) (.seq (.ops [⟨true, none, some 88, 0, .indexAddr 44 (.tmp 5) (.const (.int .i64 1))⟩]) (.seq (.ops [⟨true, none, some 89, 3, .load 3 (.tmp 88)⟩]) (.seq (.ops [⟨false, none, some 90, 3, .call ⟨.value (.func 17), #[.tmp 89, .const (.int .i64 40)], #[3, 3]⟩⟩]) (.seq (.ops [⟨true, none, some 91, 3, .binOp .add 3 (.tmp 87) (.tmp 90) 3⟩]) (.seq (.ops [⟨true, none, some 92, 3, .call ⟨.builtin .min, #[.const (.int .i64 100), .tmp 91], #[3, 3]⟩⟩]) (.seq (.ops [⟨true, none, some 93, 0, .fieldAddr 29 (.tmp 9) 3⟩]) (.seq (.ops [⟨true, none, some 94, 0, .fieldAddr 26 (.tmp 93) 0⟩]) (.seq (.chk [⟨true, none, some 87, 3, .load 3 (.tmp 86)⟩]) (.seq (.ops [⟨false, none, none, 0, .store 3 (.tmp 94) (.tmp 92)⟩]) (.chk []))))))))))))) (.seq (.ops [⟨false, none, some 96, 4, .binOp .eql 3 (.tmp 41) (.const (.int .i64 2)) 3⟩, ⟨false, none, some 95, 4, .assign (.tmp 96)⟩]) (.cond (.tmp 95) (.seq (.ops [⟨true, none, some 97, 0, .fieldAddr 29 (.tmp 3) 1⟩]) (.seq (.ops [⟨true, none, some 98, 3, .load 3 (.tmp 97)⟩]) (.seq (.ops [⟨true, none, some 99, 0, .indexAddr 44 (.tmp 5) (.const (.int .i64 1))⟩]) (.seq (.ops [⟨true, none, some 100, 3, .load 3 (.tmp 99)⟩]) (.seq (.ops [⟨false, none, some 101, 3, .call ⟨.value (.func 17), #[.tmp 100, .const (.int .i64 10)], #[3, 3]⟩⟩]) (.seq (.ops [⟨true, none, some 102, 3, .binOp .add 3 (.tmp 98) (.tmp 101) 3⟩]) (.seq (.ops [⟨true, none, some 103, 3, .call ⟨.builtin .min, #[.const (.int .i64 50), .tmp 102], #[3, 3]⟩⟩]) (.seq (.ops [⟨true, none, some 104, 0, .fieldAddr 29 (.tmp 9) 1⟩]) (.seq (.chk [⟨true, none, some 98, 3, .load 3 (.tmp 97)⟩]) (.seq (.ops [⟨false, none, none, 0, .store 3 (.tmp 104) (.tmp 103)⟩]) (.chk []))))))))))) (.seq (.ops [⟨false, none, some 42, 22, .buildSlice 22 0 #[]⟩, ⟨false, none, some 43, 0, .fieldAddr 29 (.tmp 3) 0⟩, ⟨false, none, some 44, 22, .load 22 (.tmp 43)⟩, ⟨false, none, some 45, 22, .call ⟨.builtin .append, #[.tmp 42, .tmp 44], #[22, 22]⟩⟩, ⟨false, none, some 46, 0, .fieldAddr 29 (.tmp 9) 0⟩, ⟨false, none, none, 0, .store 22 (.tmp 46) (.tmp 45)⟩]) (.seq (.ops [⟨false, none, some 47, 0, .indexAddr 44 (.tmp 5) (.const (.int .i64 1))⟩, ⟨false, none, some 48, 3, .load 3 (.tmp 47)⟩, ⟨false, none, some 49, 0, .fieldAddr 29 (.tmp 9) 0⟩, ⟨false, none, some 50, 22, .load 22 (.tmp 49)⟩, ⟨false, none, some 51, 3, .call ⟨.builtin .len, #[.tmp 50], #[22]⟩⟩, ⟨false, none, some 52, 3, .call ⟨.value (.func 17), #[.tmp 48, .tmp 51], #[3, 3]⟩⟩, ⟨false, none, some 11, 3, .assign (.tmp 52)⟩]) (.seq (.ops [⟨false, none, some 53, 0, .fieldAddr 29 (.tmp 9) 0⟩, ⟨false, none, some 54, 22, .load 22 (.tmp 53)⟩, ⟨false, none, some 55, 3, .move (.tmp 11)⟩, ⟨false, none, some 56, 0, .indexAddr 22 (.tmp 54) (.tmp 55)⟩, ⟨false, none, some 57, 50, .load 50 (.tmp 56)⟩, ⟨false, none, some 12, 0, .alloc 50⟩, ⟨false, none, none, 0, .store 50 (.tmp 12) (.tmp 57)⟩]) (.seq (.ops [⟨false, none, some 58, 0, .fieldAddr 50 (.tmp 12) 0⟩, ⟨false, none, some 59, 0, .fieldAddr 24 (.tmp 58) 0⟩, ⟨false, none, some 60, 3, .load 3 (.tmp 59)⟩, ⟨false, none, some 61, 3, .binOp .quo 3 (.tmp 60) (.const (.int .i64 2)) 3⟩, ⟨false, none, some 62, 0, .fieldAddr 50 (.tmp 12) 0⟩, ⟨false, none, some 63, 0, .fieldAddr 24 (.tmp 62) 1⟩, ⟨false, none, some 64, 3, .load 3 (.tmp 63)⟩, ⟨false, none, some 65, 3, .binOp .quo 3 (.tmp 64) (.const (.int .i64 2)) 3⟩, ⟨false, none, some 66, 24, .call ⟨.value (.func 18), #[.tmp 61, .tmp 65], #[3, 3]⟩⟩, ⟨false, none, some 67, 0, .fieldAddr 50 (.tmp 12) 0⟩, ⟨false, none, none, 0, .store 24 (.tmp 67) (.tmp 66)⟩]) (.ops [⟨false, none, some 68, 0, .fieldAddr 29 (.tmp 9) 0⟩, ⟨false, none, some 69, 22, .load 22 (.tmp 68)⟩, ⟨false, none, some 70, 3, .move (.tmp 11)⟩, ⟨false, none, some 71, 50, .load 50 (.tmp 12)⟩, ⟨false, none, some 72, 0, .indexAddr 22 (.tmp 69) (.tmp 70)⟩, ⟨false, none, none, 0, .store 50 (.tmp 72) (.tmp 71)⟩]))))))))))))) mc4_r2
theorem mc4_eq : mc4 = .seq (.ops [⟨false, none, some 3, 0, .box 29 (.tmp 0)⟩, ⟨false, none, some 4, 0, .box 43 (.tmp 1)⟩, ⟨false, none, some 5, 0, .box 44 (.tmp 2)⟩, ⟨false, none, some 6, 4, .assign (.const (.bool false))⟩]) (.seq (.ops [⟨false, none, some 15, 29, .load 29 (.tmp 3)⟩, ⟨false, none, some 16, 43, .load 43 (.tmp 4)⟩, ⟨false, none, some 17, 45, .call ⟨.value (.func 15), #[.tmp 15, .tmp 16], #[29, 43]⟩⟩, ⟨false, none, some 14, 45, .move (.tmp 17)⟩, ⟨false, none, some 18, 24, .extract (.tmp 14) 0⟩, ⟨false, none, some 19, 33, .extract (.tmp 14) 1⟩, ⟨false, none, some 7, 0, .alloc 24⟩, ⟨false, none, none, 0, .store 24 (.tmp 7) (.tmp 18)⟩, ⟨false, none, some 8, 33, .assign (.tmp 19)⟩]) (.seq (.seq (.ops [⟨false, none, some 20, 33, .move (.tmp 8)⟩, ⟨false, none, some 21, 4, .binOp .neq 33 (.tmp 20) (.const (.int .i64 0)) 33⟩, ⟨false, none, some 22, 4, .move (.tmp 21)⟩, ⟨false, some (22, false), some 23, 29, .load 29 (.tmp 3)⟩, ⟨false, some (22, false), some 24, 4, .call ⟨.value (.func 16), #[.tmp 23], #[29]⟩⟩, ⟨false, some (22, false), some 25, 4, .unOp .not 4 (.tmp 24)⟩, ⟨false, none, some 26, 4, .pick (.tmp 22) (.const (.bool true)) (.tmp 25)⟩]) (.cond (.tmp 26) (.seq (.ops [⟨false, none, some 27, 33, .move (.tmp 8)⟩, ⟨false, none, some 28, 4, .binOp .eql 33 (.tmp 27) (.const (.int .i64 0)) 33⟩, ⟨false, none, some 29, 4, .move (.tmp 28)⟩, ⟨false, some (29, false), some 30, 24, .load 24 (.tmp 7)⟩, ⟨false, some (29, false), some 31, 24, .build 24 #[]⟩, ⟨false, some (29, false), some 32, 4, .binOp .eql 24 (.tmp 30) (.tmp 31) 24⟩, ⟨false, none, some 33, 4, .pick (.tmp 29) (.const (.bool true)) (.tmp 32)⟩, ⟨false, none, some 34, 4, .move (.tmp 33)⟩, ⟨false, some (34, true), some 35, 4, .call ⟨.value (.func 14), #[], #[]⟩⟩, ⟨false, none, some 36, 4, .pick (.tmp 34) (.tmp 35) (.const (.bool false))⟩, ⟨false, none, some 6, 4, .assign (.tmp 36)⟩]) (.ret)) (.skip))) (.seq (.seq (.ops [⟨true, none, some 37, 29, .load 29 (.tmp 3)⟩]) (.seq (.ops [⟨true, none, some 38, 43, .load 43 (.tmp 4)⟩]) (.seq (.ops [⟨true, none, some 9, 0, .alloc 29⟩]) (.seq (.ops [⟨true, none, some 10, 0, .alloc 43⟩]) (.seq (.chk [⟨true, none, some 38, 43, .load 43 (.tmp 4)⟩, ⟨true, none, some 37, 29, .load 29 (.tmp 3)⟩]) (.seq (.ops [⟨false, none, none, 0, .store 29 (.tmp 9) (.tmp 37)⟩]) (.seq (.chk [⟨true, none, some 38, 43, .load 43 (.tmp 4)⟩]) (.seq (.ops [⟨false, none, none, 0, .store 43 (.tmp 10) (.tmp 38)⟩]) (.chk []))))))))) mc4_r1))) := rfl

theorem opens_zero {s : Sea} {l : List Day} {c : List Int} {r : Rac} (h : ¬ oE s l c r = 0) : oA s l c r = 0 ∧ oB s l c r = 0 := ⟨by unfold oA; rw [if_neg h], by unfold oB; rw [if_neg h]⟩
/-- behind the change: Opens again, and both are compared -/
theorem post4 {ov : Ov} (m : Nat) (h15 : HasP ov 15 F15) (hW : HasW ov) (s' : Sea) (l' : List Day) (c : List Int) (r' : Rac) (dv' cv : Value) (a b : Int) (n7 n9 n10 : Nat) (w : AW) (hl : w.lim ≤ w.next) (k7 : n7 < w.next) (k9 : n9 < w.next) (k10 : n10 < w.next) (g7 : w.heap.get n7 = some (.cells [.int .i64 a, .int .i64 b] 24 false)) (g9 : w.heap.get n9 = some (.cells (seaC s' dv' cv) 29 false)) (g10 : w.heap.get n10 = some (.cells (racC r') 43 false)) (hv : RowsV dayC w dv' l') (hc : RowsV intC w cv c) (hlaid : hasAll w laidL = true) (h7 : 7 ≤ w.next) (he : oE s' l' c r' = 0) (ha : a ≤ oA s' l' c r') (hb : b ≤ oB s' l' c r')
    (t : Tm) (t7 : tget t 7 = .pointer (some ⟨n7, 0, none⟩)) (t9 : tget t 9 = .pointer (some ⟨n9, 0, none⟩)) (t10 : tget t 10 = .pointer (some ⟨n10, 0, none⟩)) (Q : Ex → Tm → AW → Prop) (hQ : ∀ t w, tget t 6 = .bool true → Q .ret t w) : wp (exM Tryz.prog (run Tryz.prog ov (m + 1)) mc4_r2 t w) Q := by
  have r15 := rule15 (s := s') h15 r' hv hc m
  have hl4 : hasAll ⟨(w.heap.put w.next (some (.cells [.int .i64 0, .int .i64 0] 24 false))).put w.next (some (.cells [.int .i64 (oA s' l' c r'), .int .i64 (oB s' l' c r')] 24 false)), w.next + 1, w.lim⟩ laidL = true := by
    rw [← hlaid]
    refine hasAll_congr _ fun x hx => ?_
    have := laid_lt x hx
    simp [show ¬ x.1 = w.next by omega]
  have kW := ruleW hW hl4 m
  have q7 : ¬ n7 = w.next := by omega
  rw [he] at r15
  simp only [seaC, racC] at r15 g9 g10
  simp [mc4_r2, t7, t9, t10, g7, g9, g10, r15, hl, q7, cellsOf_agg, ha, hb, kW]
  exact hQ _ _ (by simp)
end Go.Proofs.YtnkhenmabmkajaaGreatDoor.walk

namespace Go.Proofs.YtnkhenmabmkajaaGreatDoor.walk
open Go Go.Sh
set_option maxRecDepth 100000
set_option linter.unusedSimpArgs false
@[simp] theorem ia44_0 (w : AW) (a : Addr) : indexAddrA Tryz.prog w 44 (.pointer (some a)) (.int .i64 0) = .val (.pointer (some (a.add 0))) w := by kernel_rfl
@[simp] theorem ia44_1 (w : AW) (a : Addr) : indexAddrA Tryz.prog w 44 (.pointer (some a)) (.int .i64 1) = .val (.pointer (some (a.add 1))) w := by kernel_rfl
theorem isList22 : isList Tryz.prog 22 = true := by kernel_rfl
theorem elem22 : elemA Tryz.prog 22 = some 50 := by kernel_rfl
theorem sz50 : szOf Tryz.prog 50 = some 4 := by kernel_rfl
theorem small50 : smallT Tryz.prog 50 = true := by kernel_rfl
theorem days_singles : ∀ l : List Day, singles (l.flatMap dayC) = true
  | [] => rfl
  | z :: l => by
    rw [List.flatMap_cons]
    have := days_singles l
    simp [dayC, this]
theorem src_rows {α : Type} {f : α → List Value} {m : Nat} (hf : ∀ a, (f a).length = m) {w : AW} {v : Value} {l : List α} (h : RowsV f w v l) (h0 : 0 < l.length * m) : srcCells w m v = some (l.flatMap f) := by
  rcases h with ⟨rfl, _⟩ | ⟨b, off, sq, c, rfl, ⟨pre, rest, e, ro, h1, h2⟩, h3⟩
  · simp at h0
  · show (bif Nat.beq (l.length * m) 0 then some [] else rd w b off (l.length * m)) = _
    have e1 : Nat.beq (l.length * m) 0 = false := by rw [← Bool.not_eq_true]; intro h; have := Nat.eq_of_beq_eq_true h; omega
    have e2 := flat_length hf l
    rw [e1, cond_false, rd_eq, h1, rdO_cells, if_pos (by rw [List.length_append, List.length_append, h2, e2]; omega), ← h2, List.drop_left, ← e2, List.take_left]
theorem rows_len {α : Type} {f : α → List Value} {w : AW} {v : Value} {l : List α} (h : RowsV f w v l) : lenA v = some l.length := by
  obtain ⟨a, c, rfl⟩ := h.len; rfl
set_option maxHeartbeats 4000000 in
theorem sw4d {ov : Ov} (m : Nat) (h15 : HasP ov 15 F15) (h17 : HasP ov 17 F17) (h18 : HasP ov 18 F18) (hW : HasW ov) (s : Sea) (l : List Day) (c : List Int) (r : Rac) (x0 x1 : Int) (dv cv : Value) (N : Nat) (H : T AObj) (lm : Nat) (hl : lm ≤ N) (hE : seaE s l c = 0) (hR : racB [r] = true) (c0 : ¬ wrapI x0 4 = 0) (c1 : ¬ wrapI x0 4 = 1) (c2 : ¬ wrapI x0 4 = 2)
    (g3 : H.get N = some (.cells (seaC s dv cv) 29 false)) (g5 : H.get (N + 2) = some (.cells [.int .i64 x0, .int .i64 x1] 44 false)) (g7 : H.get (N + 3) = some (.cells [.int .i64 (oA s l c r), .int .i64 (oB s l c r)] 24 false)) (g9 : H.get (N + 4) = some (.cells (seaC s dv cv) 29 false)) (g10 : H.get (N + 5) = some (.cells (racC r) 43 false))
    (hv : ∀ w' : AW, (∀ x, x < N → w'.heap.get x = H.get x) → N ≤ w'.next → RowsV dayC w' dv l) (hc : ∀ w' : AW, (∀ x, x < N → w'.heap.get x = H.get x) → N ≤ w'.next → RowsV intC w' cv c) (hlaid : ∀ w' : AW, (∀ x, x < N → w'.heap.get x = H.get x) → hasAll w' laidL = true) (h7 : 7 ≤ N)
    (t : Tm) (t3 : tget t 3 = .pointer (some ⟨N, 0, none⟩)) (t5 : tget t 5 = .pointer (some ⟨N + 2, 0, none⟩)) (t7 : tget t 7 = .pointer (some ⟨N + 3, 0, none⟩)) (t9 : tget t 9 = .pointer (some ⟨N + 4, 0, none⟩)) (t10 : tget t 10 = .pointer (some ⟨N + 5, 0, none⟩)) (Q : Ex → Tm → AW → Prop) (hQ : ∀ t w, tget t 6 = .bool true → Q .ret t w) : wp (exM Tryz.prog (run Tryz.prog ov (m + 1)) mc4_r1 t ⟨H, N + 6, lm⟩) Q := by
  have r17 := fun n (s : Int) (hs : s ≤ 2 ^ 60) w => rule17 h17 n hs m w
  have q4 := fun n w => r17 n 4 (by decide) w
  obtain ⟨hd, hcB, hs, hb, hwet⟩ := sea_zero hE
  obtain ⟨hn1, h40⟩ := days_len hd
  have qn := fun w => r17 x1 (l.length : Nat) (by omega) w
  have bn := wrapI_bd (n := x1) (s := (l.length : Nat)) (by omega)
  obtain ⟨j, hj⟩ : ∃ j : Nat, (j : Int) = wrapI x1 (l.length : Nat) := ⟨(wrapI x1 (l.length : Nat)).toNat, by omega⟩
  have hjl : j < l.length := by omega
  obtain ⟨d0, hd0⟩ : ∃ d, l[j]? = some d := ⟨_, List.getElem?_eq_getElem hjl⟩
  obtain ⟨p1, p2, p3⟩ := later_days hE hR hd0
  have hv1 : RowsV dayC ⟨H.put (N + 6) (some (.cells [] 50 false)), N + 7, lm⟩ dv l := hv _ (fun x hx => by show (H.put _ _).get x = _; rw [get_put, if_neg (by omega)]) (by show N ≤ N + 7; omega)
  have happ := append_full isList22 elem22 sz50 small50 (w := ⟨H.put (N + 6) (some (.cells [] 50 false)), N + 7, lm⟩) (B := N + 6) (n := 0) (m := l.length) (c := []) (new := l.flatMap dayC) (x := dv) (rows_len hv1) (src_rows (m := 4) dayC_length hv1 (by omega)) (flat_length dayC_length l) (days_singles l) (by omega) (by omega) (by show (H.put _ _).get _ = _; rw [get_put, if_pos rfl]) rfl (by show lm ≤ N + 6; omega)
  rw [← hj] at qn
  have hfl : (l.flatMap dayC).length = l.length * 4 := flat_length dayC_length l
  have hdr := (flat_at dayC_length l j d0 [] hd0).1
  rw [List.append_nil] at hdr
  have hset := flat_set dayC_length l j (halfD d0) hjl
  have hia := fun w => ia22 w ⟨N + 7, 0, none⟩ l.length l.length .i64 j hjl
  have l4 : lm ≤ N + 4 := by omega
  have l6 : lm ≤ N + 6 := by omega
  have l7 : lm ≤ N + 7 := by omega
  have l8 : lm ≤ N + 8 := by omega
  obtain ⟨fs, hfs⟩ : ∃ fs, fs = l.flatMap dayC := ⟨_, rfl⟩
  rw [← hfs] at happ hfl hdr hset
  have hdv := rows_len (hv ⟨H, N, lm⟩ (fun _ _ => rfl) (Nat.le_refl _))
  have r18 := fun a b w => rule18 h18 a b m w
  have hfit : j * 4 + 4 ≤ l.length * 4 := by omega
  simp only [seaC, List.nil_append, Nat.zero_add] at g3 g9 happ
  simp only [dayC, halfD] at hdr hset
  have hq := fun (a : Int) (c : Bool) w => bin_quo (P := Tryz.prog) (w := w) 3 c .i64 a 2 (by decide)
  have hdy := (sea_facts hE).2 j d0 hd0
  simp only [dayB, spanB, Bool.and_eq_true, decide_eq_true_eq] at hdy
  have t1 : d0.wl.tdiv 2 = d0.wl / 2 := Int.tdiv_eq_ediv_of_nonneg (by omega)
  have t2 : d0.wh.tdiv 2 = d0.wh / 2 := Int.tdiv_eq_ediv_of_nonneg (by omega)
  have u1 : IntKind.wrap .i64 (d0.wl.tdiv 2) = d0.wl.tdiv 2 := wrap64_in (by omega) (by omega)
  have u2 : IntKind.wrap .i64 (d0.wh.tdiv 2) = d0.wh.tdiv 2 := wrap64_in (by omega) (by omega)
  simp [mc4_r1, t3, t5, t7, t9, t10, g3, g5, g9, q4, c0, c1, c2, happ, qn, hia, rdO_cells, hfl, hfit, hdr, hset, hq, u1, u2, r18, cellsOf_agg, l4, l6, l7, l8]
  refine post4 m h15 hW s (l.set j (halfD d0)) c r (.slice (some ⟨N + 7, 0, none⟩) l.length l.length) cv _ _ (N + 3) (N + 4) (N + 5) _ ?_ ?_ ?_ ?_ ?_ ?_ ?_ ?_ ?_ ?_ ?_ p1 p2 p3 _ ?_ ?_ ?_ Q hQ
  case _ => show lm ≤ N + 9; omega
  case _ => show N + 3 < N + 9; omega
  case _ => show N + 4 < N + 9; omega
  case _ => show N + 5 < N + 9; omega
  case _ => simp [g7]
  case _ => simp [seaC]
  case _ => simp [g10]
  case _ => exact .inr ⟨N + 7, 0, none, l.length, by rw [List.length_set], ⟨[], [], 50, false, by simp [dayC, halfD]; simpa using hset, rfl⟩, by show N + 7 < N + 9; omega⟩
  case _ => exact hc _ (fun x hx => by simp [show ¬ x = N + 4 by omega, show ¬ x = N + 6 by omega, show ¬ x = N + 7 by omega, show ¬ x = N + 8 by omega]) (by show N ≤ N + 9; omega)
  case _ => exact hlaid _ (fun x hx => by simp [show ¬ x = N + 4 by omega, show ¬ x = N + 6 by omega, show ¬ x = N + 7 by omega, show ¬ x = N + 8 by omega])
  case _ => show 7 ≤ N + 9; omega
  case _ => simp [t7]
  case _ => simp [t9]
  case _ => simp [t10]
set_option maxHeartbeats 4000000 in
theorem sw4 {ov : Ov} (m : Nat) (h15 : HasP ov 15 F15) (h17 : HasP ov 17 F17) (h18 : HasP ov 18 F18) (hW : HasW ov) (s : Sea) (l : List Day) (c : List Int) (r : Rac) (x0 x1 : Int) (dv cv : Value) (N : Nat) (w : AW) (hN : w.next = N + 6) (hl : w.lim ≤ N) (hE : seaE s l c = 0) (hR : racB [r] = true)
    (g3 : w.heap.get N = some (.cells (seaC s dv cv) 29 false)) (g4 : w.heap.get (N + 1) = some (.cells (racC r) 43 false)) (g5 : w.heap.get (N + 2) = some (.cells [.int .i64 x0, .int .i64 x1] 44 false)) (g7 : w.heap.get (N + 3) = some (.cells [.int .i64 (oA s l c r), .int .i64 (oB s l c r)] 24 false)) (g9 : w.heap.get (N + 4) = some (.cells (seaC s dv cv) 29 false)) (g10 : w.heap.get (N + 5) = some (.cells (racC r) 43 false))
    (we : AW) (hwe : we.next = N) (hold : Old N we.heap w.heap) (hv : RowsV dayC we dv l) (hc : RowsV intC we cv c) (hlaid : hasAll we laidL = true) (h7 : 7 ≤ N)
    (t : Tm) (t3 : tget t 3 = .pointer (some ⟨N, 0, none⟩)) (t4 : tget t 4 = .pointer (some ⟨N + 1, 0, none⟩)) (t5 : tget t 5 = .pointer (some ⟨N + 2, 0, none⟩)) (t7 : tget t 7 = .pointer (some ⟨N + 3, 0, none⟩)) (t9 : tget t 9 = .pointer (some ⟨N + 4, 0, none⟩)) (t10 : tget t 10 = .pointer (some ⟨N + 5, 0, none⟩)) (Q : Ex → Tm → AW → Prop) (hQ : ∀ t w, tget t 6 = .bool true → Q .ret t w) : wp (exM Tryz.prog (run Tryz.prog ov (m + 1)) mc4_r1 t w) Q := by
  have r17 := fun n (s : Int) (hs : s ≤ 2 ^ 60) w => rule17 h17 n hs m w
  have q4 := fun n w => r17 n 4 (by decide) w
  have q60 := fun n w => r17 n 60 (by decide) w
  have q40 := fun n w => r17 n 40 (by decide) w
  have q10 := fun n w => r17 n 10 (by decide) w
  have b60 := wrapI_bd (n := x1) (s := 60) (by omega)
  have b40 := wrapI_bd (n := x1) (s := 40) (by omega)
  have b10 := wrapI_bd (n := x1) (s := 10) (by omega)
  obtain ⟨hd, hcB, hs, hb, hwet⟩ := sea_zero hE
  have hf := (shade_nums hs).1
  have h0 : racOk r = true := rac_of 1 (by simpa [racB] using hR) 0 r (by omega) rfl
  simp only [racOk, inI, Bool.and_eq_true, decide_eq_true_eq] at h0 hb
  have w60 : IntKind.wrap .i64 (r.need + wrapI x1 60) = r.need + wrapI x1 60 := wrap64_in (by omega) (by omega)
  have w40 : IntKind.wrap .i64 (s.from_ + wrapI x1 40) = s.from_ + wrapI x1 40 := wrap64_in (by omega) (by omega)
  have w10 : IntKind.wrap .i64 (s.base + wrapI x1 10) = s.base + wrapI x1 10 := wrap64_in (by omega) (by omega)
  have sv2 := fun (k : IntKind) (a : Int) => sameN_int 4 k a
  have l4 : w.lim ≤ N + 4 := by omega
  have l5 : w.lim ≤ N + 5 := by omega
  have hvw : ∀ w' : AW, (∀ x, x < N → w'.heap.get x = w.heap.get x) → N ≤ w'.next → RowsV dayC w' dv l := fun w' h1 h2 => hv.old (fun x hx => by rw [h1 x (by omega)]; exact hold x (by omega)) (by omega)
  have hcw : ∀ w' : AW, (∀ x, x < N → w'.heap.get x = w.heap.get x) → N ≤ w'.next → RowsV intC w' cv c := fun w' h1 h2 => hc.old (fun x hx => by rw [h1 x (by omega)]; exact hold x (by omega)) (by omega)
  have hlw : ∀ w' : AW, (∀ x, x < N → w'.heap.get x = w.heap.get x) → hasAll w' laidL = true := fun w' h1 => by
    rw [← hlaid]
    exact hasAll_congr _ fun x hx => by have := laid_lt x hx; rw [h1 _ (by omega)]; exact hold _ (by omega)
  simp only [seaC, racC] at g3 g4 g9 g10
  by_cases c0 : wrapI x0 4 = 0
  · obtain ⟨p1, p2, p3⟩ := later_need hE hR (wrapI x1 60) b60.1
    simp [mc4_r1, t3, t4, t5, t7, t9, t10, g3, g4, g5, g10, q4, c0, q60, w60, sv2, l5]
    refine post4 m h15 hW s l c ⟨min 2000 (r.need + wrapI x1 60), r.fl⟩ dv cv _ _ (N + 3) (N + 4) (N + 5) _ ?_ ?_ ?_ ?_ ?_ ?_ ?_ ?_ ?_ ?_ ?_ p1 p2 p3 _ ?_ ?_ ?_ Q hQ
    case _ => show w.lim ≤ w.next; omega
    case _ => show N + 3 < w.next; omega
    case _ => show N + 4 < w.next; omega
    case _ => show N + 5 < w.next; omega
    case _ => simp [g7]
    case _ => simp [g9, seaC]
    case _ => simp [racC]
    case _ => exact hvw _ (fun x hx => by simp [show ¬ x = N + 5 by omega]) (by show N ≤ w.next; omega)
    case _ => exact hcw _ (fun x hx => by simp [show ¬ x = N + 5 by omega]) (by show N ≤ w.next; omega)
    case _ => exact hlw _ (fun x hx => by simp [show ¬ x = N + 5 by omega])
    case _ => show 7 ≤ w.next; omega
    case _ => simp [t7]
    case _ => simp [t9]
    case _ => simp [t10]
  by_cases c1 : wrapI x0 4 = 1
  · obtain ⟨p1, p2, p3⟩ := later_from hE hR (wrapI x1 40) b40.1
    simp [mc4_r1, t3, t4, t5, t7, t9, t10, g3, g4, g5, g9, q4, c1, q40, w40, sv2, l4]
    refine post4 m h15 hW { s with from_ := min 100 (s.from_ + wrapI x1 40) } l c r dv cv _ _ (N + 3) (N + 4) (N + 5) _ ?_ ?_ ?_ ?_ ?_ ?_ ?_ ?_ ?_ ?_ ?_ p1 p2 p3 _ ?_ ?_ ?_ Q hQ
    case _ => show w.lim ≤ w.next; omega
    case _ => show N + 3 < w.next; omega
    case _ => show N + 4 < w.next; omega
    case _ => show N + 5 < w.next; omega
    case _ => simp [g7]
    case _ => simp [seaC]
    case _ => simp [racC, g10]
    case _ => exact hvw _ (fun x hx => by simp [show ¬ x = N + 4 by omega]) (by show N ≤ w.next; omega)
    case _ => exact hcw _ (fun x hx => by simp [show ¬ x = N + 4 by omega]) (by show N ≤ w.next; omega)
    case _ => exact hlw _ (fun x hx => by simp [show ¬ x = N + 4 by omega])
    case _ => show 7 ≤ w.next; omega
    case _ => simp [t7]
    case _ => simp [t9]
    case _ => simp [t10]
  by_cases c2 : wrapI x0 4 = 2
  · obtain ⟨p1, p2, p3⟩ := later_base hE hR (wrapI x1 10) b10.1
    simp [mc4_r1, t3, t4, t5, t7, t9, t10, g3, g4, g5, g9, q4, c2, q10, w10, sv2, l4]
    refine post4 m h15 hW { s with base := min 50 (s.base + wrapI x1 10) } l c r dv cv _ _ (N + 3) (N + 4) (N + 5) _ ?_ ?_ ?_ ?_ ?_ ?_ ?_ ?_ ?_ ?_ ?_ p1 p2 p3 _ ?_ ?_ ?_ Q hQ
    case _ => show w.lim ≤ w.next; omega
    case _ => show N + 3 < w.next; omega
    case _ => show N + 4 < w.next; omega
    case _ => show N + 5 < w.next; omega
    case _ => simp [g7]
    case _ => simp [seaC]
    case _ => simp [racC, g10]
    case _ => exact hvw _ (fun x hx => by simp [show ¬ x = N + 4 by omega]) (by show N ≤ w.next; omega)
    case _ => exact hcw _ (fun x hx => by simp [show ¬ x = N + 4 by omega]) (by show N ≤ w.next; omega)
    case _ => exact hlw _ (fun x hx => by simp [show ¬ x = N + 4 by omega])
    case _ => show 7 ≤ w.next; omega
    case _ => simp [t7]
    case _ => simp [t9]
    case _ => simp [t10]
  obtain ⟨H, nx, lm⟩ := w
  simp only at hN hl
  subst hN
  exact sw4d m h15 h17 h18 hW s l c r x0 x1 dv cv N H lm hl hE hR c0 c1 c2 (by simpa [seaC] using g3) g5 g7 (by simpa [seaC] using g9) (by simpa [racC] using g10) hvw hcw hlw h7 t t3 t5 t7 t9 t10 Q hQ
/-- the whole of it -/
theorem run4 {ov : Ov} (ho : ∀ args w, ov 4 args w = none) (h15 : HasP ov 15 F15) (h16 : HasP ov 16 F16) (h17 : HasP ov 17 F17) (h18 : HasP ov 18 F18) (hW : HasW ov) (s : Sea) (l : List Day) (c : List Int) (r : Rac) (x0 x1 : Int) (dv cv : Value) (w : AW) (hl : w.lim ≤ w.next) (h7 : 7 ≤ w.next) (hlaid : hasAll w laidL = true) (hv : RowsV dayC w dv l) (hc : RowsV intC w cv c) :
    ∃ x w', (run Tryz.prog ov 2).call 4 [.agg ⟨seaC s dv cv⟩, .agg ⟨racC r⟩, .agg ⟨[.int .i64 x0, .int .i64 x1]⟩] w .none = .ok (.ret x) w' .none ∧ x = .bool true := by
  refine call_wp text4 (by simp) (ho _ _) ?_
  obtain ⟨H, hH⟩ : ∃ H, H = ((w.heap.put w.next (some (.cells (seaC s dv cv) 29 false))).put (w.next + 1) (some (.cells (racC r) 43 false))).put (w.next + 2) (some (.cells [.int .i64 x0, .int .i64 x1] 44 false)) := ⟨_, rfl⟩
  have o1 : Old w.next w.heap H := by
    intro b hb
    rw [hH]
    simp [show ¬ b = w.next by omega, show ¬ b = w.next + 1 by omega, show ¬ b = w.next + 2 by omega]
  have hv1 : RowsV dayC ⟨H, w.next + 3, w.lim⟩ dv l := hv.old o1 (by show w.next ≤ w.next + 3; omega)
  have hc1 : RowsV intC ⟨H, w.next + 3, w.lim⟩ cv c := hc.old o1 (by show w.next ≤ w.next + 3; omega)
  have r15 := rule15 (s := s) h15 r hv1 hc1 0
  obtain ⟨H2, hH2⟩ : ∃ H2, H2 = (H.put (w.next + 3) (some (.cells [.int .i64 0, .int .i64 0] 24 false))).put (w.next + 3) (some (.cells [.int .i64 (oA s l c r), .int .i64 (oB s l c r)] 24 false)) := ⟨_, rfl⟩
  have o2 : Old w.next w.heap H2 := by
    intro b hb
    rw [hH2]
    simp [show ¬ b = w.next + 3 by omega, o1 b hb]
  have hv2 : RowsV dayC ⟨H2, w.next + 4, w.lim⟩ dv l := hv.old o2 (by show w.next ≤ w.next + 4; omega)
  have hc2 : RowsV intC ⟨H2, w.next + 4, w.lim⟩ cv c := hc.old o2 (by show w.next ≤ w.next + 4; omega)
  have r16 := rule16 (s := s) h16 hv2 hc2 0
  have hl2 : hasAll ⟨H2, w.next + 4, w.lim⟩ laidL = true := by
    rw [← hlaid]
    exact hasAll_congr _ fun x hx => by have := laid_lt x hx; exact o2 x.1 (by omega)
  have kW := ruleW hW hl2 0
  have l3 : w.lim ≤ w.next + 3 := by omega
  have l4 : w.lim ≤ w.next + 4 := by omega
  have l5 : w.lim ≤ w.next + 5 := by omega
  obtain ⟨da, dc, rfl⟩ := hv.len
  obtain ⟨ca, cc, rfl⟩ := hc.len
  have sv := seaC_same s (rows_same hv) (rows_same hc)
  have sv2 : sameVal 5 (.agg ⟨racC r⟩) (.agg ⟨racC r⟩) = true := same_agg _ fun v hv => by
    simp only [racC, List.mem_cons, List.not_mem_nil, or_false] at hv
    rcases hv with rfl | rfl <;> exact sameN_int 3 _ _
  simp only [seaC, racC, Nat.zero_add] at hH r15 r16 sv sv2
  rw [hH] at hH2 r15
  rw [hH2] at r16 kW
  simp only [Nat.zero_add] at kW
  by_cases hO : oE s l c r = 0
  · have hB : bothE s l c [r] = 0 := hO
    obtain ⟨hE, hR⟩ := both_zero hB
    rw [hO] at r15
    rw [hE] at r16
    simp [mc4_eq, seaC, racC, r15, r16, l3, l4, l5, cellsOf_agg, sv, sv2]
    refine sw4 0 h15 h17 h18 hW s l c r x0 x1 (.slice da l.length dc) (.slice ca c.length cc) w.next _ ?_ ?_ hE hR ?_ ?_ ?_ ?_ ?_ ?_ w rfl ?_ hv hc hlaid h7 _ ?_ ?_ ?_ ?_ ?_ ?_ _ ?_
    case _ => rfl
    case _ => exact hl
    case _ => simp [seaC]
    case _ => simp [racC]
    case _ => simp
    case _ => simp
    case _ => simp [seaC]
    case _ => simp [racC]
    case _ =>
      intro b hb
      simp [show ¬ b = w.next by omega, show ¬ b = w.next + 1 by omega, show ¬ b = w.next + 2 by omega, show ¬ b = w.next + 3 by omega, show ¬ b = w.next + 4 by omega, show ¬ b = w.next + 5 by omega]
    case _ => simp
    case _ => simp
    case _ => simp
    case _ => simp
    case _ => simp
    case _ => simp
    case _ => intro t w t6; simp [t6, tupV]
  · obtain ⟨e1, e2⟩ := opens_zero hO
    rw [e1, e2] at kW r15
    simp [mc4_eq, seaC, racC, r15, l3, hO, kW, cellsOf_agg, tupV]
end Go.Proofs.YtnkhenmabmkajaaGreatDoor.walk
