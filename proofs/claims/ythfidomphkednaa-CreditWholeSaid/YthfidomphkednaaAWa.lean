/- Part of a proof by a machine of ones own: see the text with the theorem. -/
import Derived.Test.YthfidomphkednaaAT
import Derived.Test.YthfidomphkednaaAN
import Derived.Test.YthfidomphkednaaCP
namespace Go.Proofs.Ythfidomphkednaa.walk
open Go Go.Sh
set_option maxRecDepth 100000
set_option linter.unusedSimpArgs false
set_option linter.unusedVariables false
/-! what small functions say -/
def inI (a n b : Int) : Bool := decide (a ≤ n) && decide (n ≤ b)
def S32 : PSpec where
  R args _ v := ∃ n a b : Int, args = [.int .i64 n, .int .i64 a, .int .i64 b] ∧ v = .bool (inI a n b)
  uniq := by rintro _ _ _ _ ⟨n, a, b, rfl, rfl⟩ ⟨_, _, _, h, rfl⟩; cases h; rfl
  shut h := h
theorem run32 {ov : Ov} (ho : ∀ args w, ov 32 args w = none) (n a b : Int) (w : AW) : ∃ v w', (run Try.prog ov 2).call 32 [.int .i64 n, .int .i64 a, .int .i64 b] w .none = .ok (.ret v) w' .none ∧ v = .bool (inI a n b) := by
  refine call_wp text32 (by simp) (ho _ _) ?_
  by_cases h1 : a ≤ n <;> simp [mc32, h1, tupV, inI]
theorem all_snoc {p : UInt8 → Bool} {l : List UInt8} {i : Nat} {b : UInt8} (hb : l[i]? = some b) : (l.take (i + 1)).all p = ((l.take i).all p && p b) := by
  rw [List.take_add_one, hb]
  simp
def okTo (p : UInt8 → Bool) (l : List UInt8) (i : Nat) : Prop := (l.take i).all p = true
theorem okTo.zero (p : UInt8 → Bool) (l : List UInt8) : okTo p l 0 := by simp [okTo]
theorem okTo.succ {p : UInt8 → Bool} {l : List UInt8} {i : Nat} {b : UInt8} (hb : l[i]? = some b) (h : okTo p l i) (hp : p b = true) : okTo p l (i + 1) := by
  unfold okTo at h ⊢
  rw [all_snoc hb, h, hp]; rfl
theorem okTo.all {p : UInt8 → Bool} {l : List UInt8} {i : Nat} (h : okTo p l i) (hi : l.length ≤ i) : l.all p = true := by
  unfold okTo at h
  rwa [List.take_of_length_le hi] at h
theorem run57 {ov : Ov} (ho : ∀ args w, ov 57 args w = none) (n a b : Int) (w : AW) : ∃ v w', (run Try.prog ov 2).call 57 [.int .i64 n, .int .i64 a, .int .i64 b] w .none = .ok (.ret v) w' .none ∧ v = .bool (inI a n b) := by
  refine call_wp text57 (by simp) (ho _ _) ?_
  by_cases h1 : a ≤ n <;> simp [mc57, h1, tupV, inI]
theorem len26V {α : Type} {w w' : AW} {v : Value} {l : List α} {f : α → List Value} (h : RowsV f w v l) : lenB Try.prog w' 26 v = .val (.int .i64 (l.length : Nat)) w' := by
  obtain ⟨a, c, rfl⟩ := h.len; simp
end Go.Proofs.Ythfidomphkednaa.walk

namespace Go.Proofs.Ythfidomphkednaa.walk
open Go Go.Sh
set_option maxRecDepth 100000
set_option linter.unusedSimpArgs false
set_option linter.unusedVariables false
/-! lists of numbers -/
def totW (l : List Int) : Int := l.foldl (fun s z => IntKind.wrap .i64 (s + z)) 0
def totL : List Int → Int
  | [] => 0
  | a :: l => a + totL l
theorem totL_app : ∀ a b : List Int, totL (a ++ b) = totL a + totL b
  | [], b => by simp [totL]
  | d :: a, b => by simp only [List.cons_append, totL, totL_app a b]; omega
theorem totL_in : ∀ {l : List Int} {M : Int}, (∀ z ∈ l, 0 ≤ z ∧ z ≤ M) → 0 ≤ totL l ∧ totL l ≤ M * l.length
  | [], M, _ => by simp [totL]
  | a :: l, M, h => by
    have h1 := h a (List.mem_cons_self ..)
    have h2 := totL_in (l := l) fun z hz => h z (List.mem_cons_of_mem _ hz)
    simp only [totL, List.length_cons]
    rw [Int.natCast_add, Int.mul_add]
    omega
theorem totW_app (l : List Int) (z : Int) : totW (l ++ [z]) = IntKind.wrap .i64 (totW l + z) := by simp [totW, List.foldl_append]
theorem snoc_ind {α : Type} {p : List α → Prop} (h0 : p []) (h1 : ∀ l a, p l → p (l ++ [a])) (l : List α) : p l := by
  have : ∀ n (l : List α), l.length = n → p l := by
    intro n
    induction n with
    | zero => intro l hl; rw [List.length_eq_zero_iff.1 hl]; exact h0
    | succ n ih =>
      intro l hl
      have hne : l ≠ [] := by intro e; rw [e] at hl; simp at hl
      have e := List.dropLast_concat_getLast hne
      rw [← e]
      exact h1 _ _ (ih _ (by rw [List.length_dropLast]; omega))
  exact this _ l rfl
theorem totW_eq {l : List Int} : (∀ z ∈ l, 0 ≤ z ∧ z ≤ 2 ^ 40) → l.length ≤ 1000 → totW l = totL l := by
  induction l using snoc_ind with
  | h0 => intros; rfl
  | h1 l a ih =>
    intro h hl
    rw [List.length_append, List.length_singleton] at hl
    have h2 : ∀ z ∈ l, 0 ≤ z ∧ z ≤ 2 ^ 40 := fun z hz => h z (List.mem_append_left _ hz)
    have h1 := h a (by simp)
    have h3 := totL_in h2
    rw [totW_app, totL_app, ih h2 (by omega)]
    have : (2 ^ 40 : Int) * l.length ≤ 2 ^ 40 * 1000 := Int.mul_le_mul_of_nonneg_left (by omega) (by decide)
    rw [wrap64_in (by omega) (by omega)]
    simp [totL]
theorem totW_step {l : List Int} {i : Nat} {z : Int} (h : l[i]? = some z) : totW (l.take (i + 1)) = IntKind.wrap .i64 (totW (l.take i) + z) := by
  rw [List.take_add_one, h]; exact totW_app _ _
def S62 : PSpec where
  R args w v := ∃ (a : Value) (U : List Int), args = [a] ∧ RowsV intC w a U ∧ U.length ≤ 2 ^ 60 ∧ v = .int .i64 (totW U)
  uniq := by
    rintro _ _ _ _ ⟨a, U, rfl, h1, _, rfl⟩ ⟨a', U', e, k1, _, rfl⟩
    cases e
    rw [h1.uniq (m := 1) intC_length intC_inj k1]
  shut h := h
theorem run62 {ov : Ov} (ho : ∀ args w, ov 62 args w = none) (U : List Int) (hlen : U.length ≤ 2 ^ 60) (u : Value) (w : AW) (hu : RowsV intC w u U) : ∃ y w', (run Try.prog ov 2).call 62 [u] w .none = .ok (.ret y) w' .none ∧ y = .int .i64 (totW U) := by
  refine call_wp text62 (by simp) (ho _ _) ?_
  have hlu := fun w2 => len26V (w' := w2) hu
  simp [mc62, hlu]
  refine wp_seqX (wp_blockX (wp_rounds (fun i t w' => w' = w ∧ tget t 6 = u ∧ tget t 7 = .int .i64 (U.length : Nat) ∧ tget t 8 = .int .i64 (i : Nat) ∧ tget t 3 = .int .i64 (totW (U.take i)) ∧ i ≤ U.length) (2 ^ 60 + 1) (by decide) ⟨rfl, by simp, by simp, by simp, by simp [totW], Nat.zero_le _⟩ ?_))
  rintro i t w' ⟨rfl, t6, t7, t8, t3, hi⟩
  by_cases hlt : i < U.length
  · obtain ⟨z, hz⟩ : ∃ z, U[i]? = some z := ⟨_, List.getElem?_eq_getElem hlt⟩
    obtain ⟨b, off, sq, cp, rfl, hr⟩ := hu.at_ i hlt
    have hld := hr.int hz
    have hia := fun w => ia26 w ⟨b, off, sq⟩ U.length cp .i64 i hlt
    simp only [Nat.mul_one] at hia
    have hw1 : IntKind.wrap .i64 ((i : Int) + 1) = (i : Int) + 1 := wrap64_in (by omega) (by omega)
    have hs := totW_step hz
    simp [mc62_l0, t3, t6, t7, t8, hlt, hia, hld, hw1, hs]
    omega
  · have hi' : i = U.length := by omega
    subst hi'
    simp [mc62_l0, t3, t6, t7, t8, tupV]
theorem run38 {ov : Ov} (ho : ∀ args w, ov 38 args w = none) (U : List Int) (hlen : U.length ≤ 2 ^ 60) (u : Value) (w : AW) (hu : RowsV intC w u U) : ∃ y w', (run Try.prog ov 2).call 38 [u] w .none = .ok (.ret y) w' .none ∧ y = .int .i64 (totW U) := by
  refine call_wp text38 (by simp) (ho _ _) ?_
  have hlu := fun w2 => len26V (w' := w2) hu
  simp [mc38]
  refine wp_seqX (wp_blockX (wp_rounds (fun i t w' => w' = w ∧ tget t 0 = u ∧ tget t 4 = .int .i64 (i : Nat) ∧ tget t 3 = .int .i64 (totW (U.take i)) ∧ i ≤ U.length) (2 ^ 60 + 1) (by decide) ⟨rfl, by simp, by simp, by simp [totW], Nat.zero_le _⟩ ?_))
  rintro i t w' ⟨rfl, t0, t4, t3, hi⟩
  by_cases hlt : i < U.length
  · obtain ⟨z, hz⟩ : ∃ z, U[i]? = some z := ⟨_, List.getElem?_eq_getElem hlt⟩
    obtain ⟨b, off, sq, cp, rfl, hr⟩ := hu.at_ i hlt
    have hld := hr.int hz
    have hia := fun w => ia26 w ⟨b, off, sq⟩ U.length cp .i64 i hlt
    simp only [Nat.mul_one] at hia
    have hw1 : IntKind.wrap .i64 ((i : Int) + 1) = (i : Int) + 1 := wrap64_in (by omega) (by omega)
    have hs := totW_step hz
    simp [mc38_l0, t3, t0, t4, hlt, hia, hld, hw1, hs]
    omega
  · have hi' : i = U.length := by omega
    subst hi'
    simp [mc38_l0, t3, t0, t4, hlu, tupV]
end Go.Proofs.Ythfidomphkednaa.walk

namespace Go.Proofs.Ythfidomphkednaa.walk
open Go Go.Sh
set_option maxRecDepth 100000
set_option linter.unusedSimpArgs false
set_option linter.unusedVariables false
/-! amounts: arrays of eight numbers -/
def arC (x : Int → Int) : List Value := [.int .i64 (x 0), .int .i64 (x 1), .int .i64 (x 2), .int .i64 (x 3), .int .i64 (x 4), .int .i64 (x 5), .int .i64 (x 6), .int .i64 (x 7)]
@[simp] theorem arC_len (x : Int → Int) : (arC x).length = 8 := by simp [arC]
@[simp] theorem arC_take (x : Int → Int) : (arC x).take 8 = arC x := rfl
@[simp] theorem arC_singles (x : Int → Int) : singles (arC x) = true := by simp [arC]
theorem lt8 {k : Nat} (h : k < 8) : k = 0 ∨ k = 1 ∨ k = 2 ∨ k = 3 ∨ k = 4 ∨ k = 5 ∨ k = 6 ∨ k = 7 := by omega
theorem arC_get (x : Int → Int) {k : Nat} (h : k < 8) : (arC x)[k]? = some (.int .i64 (x (k : Int))) := by
  rcases lt8 h with rfl | rfl | rfl | rfl | rfl | rfl | rfl | rfl <;> rfl
@[simp] theorem arC_getE (x : Int → Int) {k : Nat} (h : k < (arC x).length) : (arC x)[k] = .int .i64 (x (k : Int)) := by
  have := arC_get x (k := k) (by simpa using h)
  rw [List.getElem?_eq_getElem h] at this
  simpa using this
def updF (x : Int → Int) (k v : Int) : Int → Int := fun p => if p = k then v else x p
theorem size3 : szOf Try.prog 3 = some 1 := by kernel_rfl
/-! ledgers in memory -/
def ptC (p : Pt) : List Value := [.string p.nm, .int .i64 p.ch]
def dtC (d : Dt) : List Value := [.int .i64 d.f, .int .i64 d.t, .int .i64 d.c]
@[simp] theorem ptC_length (p : Pt) : (ptC p).length = 2 := rfl
@[simp] theorem dtC_length (d : Dt) : (dtC d).length = 3 := rfl
def CapN (v : Value) : Prop := ∃ a n c, v = .slice a n c ∧ n ≤ c
structure LedV (w : AW) (pv dv : Value) (ps : List Pt) (ds : List Dt) : Prop where
  p : RowsV ptC w pv ps
  d : RowsV dtC w dv ds
  cp : CapN pv
  cd : CapN dv
theorem LedV.up {w w' : AW} {pv dv : Value} {ps : List Pt} {ds : List Dt} (h : LedV w pv dv ps ds) (u : Up w w') : LedV w' pv dv ps ds := ⟨h.p.up u, h.d.up u, h.cp, h.cd⟩
theorem LedV.shut {w : AW} {pv dv : Value} {ps : List Pt} {ds : List Dt} (h : LedV w pv dv ps ds) : LedV (shutA w) pv dv ps ds := ⟨h.p, h.d, h.cp, h.cd⟩
/-- a ledger and what each owes -/
def l63 (pv dv : Value) (o : Int → Int) : List Value := pv :: dv :: arC o
@[simp] theorem l63_len (pv dv : Value) (o : Int → Int) : (l63 pv dv o).length = 10 := by simp [l63]
theorem l63_at (pv dv : Value) (o : Int → Int) {k : Nat} (h : k < 8) : (pv :: dv :: arC o)[2 + k]? = some (.int .i64 (o (k : Int))) := by
  rw [show 2 + k = k + 1 + 1 by omega, List.getElem?_cons_succ, List.getElem?_cons_succ, arC_get _ h]
@[simp] theorem l63_0 (pv dv : Value) (o : Int → Int) : (pv :: dv :: arC o)[0]? = some pv := rfl
@[simp] theorem l63_2 (v : Value) (o : Int → Int) : (v :: arC o)[0]? = some v := rfl
@[simp] theorem l63_1 (pv dv : Value) (o : Int → Int) : (pv :: dv :: arC o)[1]? = some dv := rfl
@[simp] theorem l63_getE (pv dv : Value) (o : Int → Int) {k : Nat} (h : 2 + k < (pv :: dv :: arC o).length) : (pv :: dv :: arC o)[2 + k] = .int .i64 (o (k : Int)) := by
  have := l63_at pv dv o (k := k) (by simp at h; omega)
  rw [List.getElem?_eq_getElem h] at this
  simpa using this
/-! what is paid of a debt -/
end Go.Proofs.Ythfidomphkednaa.walk

namespace Go.Proofs.Ythfidomphkednaa.walk
open Go Go.Sh
set_option maxRecDepth 100000
set_option linter.unusedSimpArgs false
set_option linter.unusedVariables false
/-- blocks below stay, but for one -/
structure Kp (B : Nat) (we w : AW) : Prop where
  old : ∀ q, q < we.next → q ≠ B → w.heap.get q = we.heap.get q
  next : we.next ≤ w.next
  lim : w.lim = we.lim
theorem Kp.refl (B : Nat) (w : AW) : Kp B w w := ⟨fun _ _ _ => rfl, Nat.le_refl _, rfl⟩
theorem Kp.new {B : Nat} {we : AW} {H : T AObj} {n n' l k : Nat} {o : Option AObj} (h : Kp B we ⟨H, n, l⟩) (hk : we.next ≤ k ∨ k = B) (hn : n ≤ n') : Kp B we ⟨H.put k o, n', l⟩ :=
  ⟨fun q hq hb => by
    show (H.put k o).get q = _
    rw [get_put, if_neg (by omega)]; exact h.old q hq hb, Nat.le_trans h.next hn, h.lim⟩
theorem Kp.up {B : Nat} {w we w' : AW} (u : Up w we) (h : Kp B we w') (hB : w.next ≤ B) : Up w w' :=
  ⟨fun q hq => by have := u.next; rw [h.old q (by omega) (by omega)]; exact u.old q hq, Nat.le_trans u.next h.next, h.lim.trans u.lim⟩
theorem Kp.trans {B : Nat} {a b c : AW} (h : Kp B a b) (k : Kp B b c) : Kp B a c := ⟨fun q h1 h2 => (k.old q (by have := h.next; omega) h2).trans (h.old q h1 h2), Nat.le_trans h.next k.next, k.lim.trans h.lim⟩
section
variable {ps : List Pt} {ds : List Dt} {x : Int → Int}
end
end Go.Proofs.Ythfidomphkednaa.walk

namespace Go.Proofs.Ythfidomphkednaa.walk
open Go Go.Sh
set_option maxRecDepth 100000
set_option linter.unusedSimpArgs false
set_option linter.unusedVariables false
/-! the lesser one, and the settlement -/
end Go.Proofs.Ythfidomphkednaa.walk

namespace Go.Proofs.Ythfidomphkednaa.walk
open Go Go.Sh
set_option maxRecDepth 100000
set_option linter.unusedSimpArgs false
set_option linter.unusedVariables false
end Go.Proofs.Ythfidomphkednaa.walk
