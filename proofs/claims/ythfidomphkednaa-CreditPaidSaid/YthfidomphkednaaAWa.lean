/- Part of a proof by a machine of ones own: see the text with the theorem. -/
import Derived.Test.YthfidomphkednaaAT
import Derived.Test.YthfidomphkednaaAN
import Derived.Test.YthfidomphkednaaCP
namespace Go.Proofs.Ythfidomphkednaa.walk
open Go Go.Sh
set_option maxRecDepth 100000
set_option linter.unusedSimpArgs false
set_option linter.unusedVariables false
/-! what small functions say -/
def inI (a n b : Int) : Bool := decide (a ≤ n) && decide (n ≤ b)
def S32 : PSpec where
  R args _ v := ∃ n a b : Int, args = [.int .i64 n, .int .i64 a, .int .i64 b] ∧ v = .bool (inI a n b)
  uniq := by rintro _ _ _ _ ⟨n, a, b, rfl, rfl⟩ ⟨_, _, _, h, rfl⟩; cases h; rfl
  shut h := h
def S82 : PSpec where
  R args _ v := ∃ c : Int, args = [.int .u8 c] ∧ v = .bool (inI 97 c 122)
  uniq := by rintro _ _ _ _ ⟨c, rfl, rfl⟩ ⟨_, h, rfl⟩; cases h; rfl
  shut h := h
def S83 : PSpec where
  R args _ v := ∃ c : Int, args = [.int .u8 c] ∧ v = .bool (inI 48 c 57)
  uniq := by rintro _ _ _ _ ⟨c, rfl, rfl⟩ ⟨_, h, rfl⟩; cases h; rfl
  shut h := h
theorem rule82 {ov : Ov} (h : HasP ov 82 S82.F) (c : Int) (w : AW) : (run Try.prog ov 1).call 82 [.int .u8 c] w .none = .ok (.ret (.bool (inI 97 c 122))) w .none := S82.call1 h ⟨c, rfl, rfl⟩
theorem rule83 {ov : Ov} (h : HasP ov 83 S83.F) (c : Int) (w : AW) : (run Try.prog ov 1).call 83 [.int .u8 c] w .none = .ok (.ret (.bool (inI 48 c 57))) w .none := S83.call1 h ⟨c, rfl, rfl⟩
theorem run32 {ov : Ov} (ho : ∀ args w, ov 32 args w = none) (n a b : Int) (w : AW) : ∃ v w', (run Try.prog ov 2).call 32 [.int .i64 n, .int .i64 a, .int .i64 b] w .none = .ok (.ret v) w' .none ∧ v = .bool (inI a n b) := by
  refine call_wp text32 (by simp) (ho _ _) ?_
  by_cases h1 : a ≤ n <;> simp [mc32, h1, tupV, inI]
theorem run82 {ov : Ov} (ho : ∀ args w, ov 82 args w = none) (c : Int) (w : AW) : ∃ v w', (run Try.prog ov 2).call 82 [.int .u8 c] w .none = .ok (.ret v) w' .none ∧ v = .bool (inI 97 c 122) := by
  refine call_wp text82 (by simp) (ho _ _) ?_
  by_cases h1 : 97 ≤ c <;> simp [mc82, h1, tupV, inI]
theorem run83 {ov : Ov} (ho : ∀ args w, ov 83 args w = none) (c : Int) (w : AW) : ∃ v w', (run Try.prog ov 2).call 83 [.int .u8 c] w .none = .ok (.ret v) w' .none ∧ v = .bool (inI 48 c 57) := by
  refine call_wp text83 (by simp) (ho _ _) ?_
  by_cases h1 : 48 ≤ c <;> simp [mc83, h1, tupV, inI]
def letB (c : UInt8) : Bool := inI 97 c.toNat 122
def digB (c : UInt8) : Bool := inI 48 c.toNat 57
def signB (c : UInt8) : Bool := letB c || (digB c || decide ((c.toNat : Int) = 45))
def wordB (s : List UInt8) : Bool := match s with | [] => false | c :: _ => decide (s.length ≤ 16) && (letB c && s.all signB)
theorem all_snoc {p : UInt8 → Bool} {l : List UInt8} {i : Nat} {b : UInt8} (hb : l[i]? = some b) : (l.take (i + 1)).all p = ((l.take i).all p && p b) := by
  rw [List.take_add_one, hb]
  simp
theorem all_cut {p : UInt8 → Bool} {l : List UInt8} {i : Nat} {b : UInt8} (hb : l[i]? = some b) (h : p b = false) : l.all p = false := by
  rw [Bool.eq_false_iff]
  intro ha
  have := List.all_eq_true.1 ha b (List.mem_of_getElem? hb)
  rw [h] at this; cases this
def okTo (p : UInt8 → Bool) (l : List UInt8) (i : Nat) : Prop := (l.take i).all p = true
theorem okTo.zero (p : UInt8 → Bool) (l : List UInt8) : okTo p l 0 := by simp [okTo]
theorem okTo.succ {p : UInt8 → Bool} {l : List UInt8} {i : Nat} {b : UInt8} (hb : l[i]? = some b) (h : okTo p l i) (hp : p b = true) : okTo p l (i + 1) := by
  unfold okTo at h ⊢
  rw [all_snoc hb, h, hp]; rfl
theorem okTo.all {p : UInt8 → Bool} {l : List UInt8} {i : Nat} (h : okTo p l i) (hi : l.length ≤ i) : l.all p = true := by
  unfold okTo at h
  rwa [List.take_of_length_le hi] at h
theorem run75 {ov : Ov} (ho : ∀ args w, ov 75 args w = none) (h82 : HasP ov 82 S82.F) (h83 : HasP ov 83 S83.F) (s : ByteArray) (w : AW) : ∃ v w', (run Try.prog ov 2).call 75 [.string s] w .none = .ok (.ret v) w' .none ∧ v = .bool (wordB s.data.toList) := by
  refine call_wp text75 (by simp) (ho _ _) ?_
  have r82 := rule82 h82
  have r83 := rule83 h83
  obtain ⟨⟨L⟩⟩ := s
  cases hL : L with
  | nil => simp [mc75, wordB, tupV]
  | cons c l =>
    have hx0 : ∀ w k, indexA Try.prog w 9 (.string ⟨⟨c :: l⟩⟩) (.int k 0) = .val (.int .u8 (c.toNat : Int)) w := fun w k => ix9 w _ k 0 c rfl
    by_cases h1 : (16 : Int) < (l.length : Int) + 1
    · have h1' : ¬ l.length + 1 ≤ 16 := by omega
      simp [mc75, wordB, tupV, h1, h1']
    · cases h2 : letB c with
      | false =>
        have h2' : inI 97 c.toNat 122 = false := h2
        simp [mc75, wordB, tupV, h1, h2, hx0, r82, h2']
      | true =>
        have h2' : inI 97 c.toNat 122 = true := h2
        simp [mc75, tupV, h1, hx0, r82, h2']
        refine wp_seqX (wp_blockX (wp_rounds (fun i t w => tget t 0 = .string ⟨⟨c :: l⟩⟩ ∧ tget t 18 = .int .i64 ((l.length + 1 : Nat) : Int) ∧ tget t 19 = .int .i64 (i : Nat) ∧ i ≤ l.length + 1 ∧ okTo signB (c :: l) i) 20 (by decide) ?_ ?_))
        · simp [okTo.zero]
        · rintro i t w ⟨t0, t18, t19, hi, hall⟩
          by_cases hlt : i < l.length + 1
          · obtain ⟨b, hb⟩ : ∃ b, (c :: l)[i]? = some b := ⟨_, List.getElem?_eq_getElem (by simpa using hlt)⟩
            have hx : ∀ w k, indexA Try.prog w 9 (.string ⟨⟨c :: l⟩⟩) (.int k (i : Int)) = .val (.int .u8 (b.toNat : Int)) w := fun w k => ix9 w _ k i b hb
            have hltI : (i : Int) < (l.length : Int) + 1 := by omega
            have hw : IntKind.wrap .i64 ((i : Int) + 1) = (i : Int) + 1 := wrap64_in (by omega) (by omega)
            have hc := all_cut (p := signB) hb
            cases h3 : inI 97 b.toNat 122 with
            | true =>
              have h6 : signB b = true := by simp [signB, letB, h3]
              simp [mc75_l0, t0, t18, t19, hltI, hx, r82, h3, hw]
              exact ⟨by omega, by omega, hall.succ hb h6⟩
            | false =>
              cases h4 : inI 48 b.toNat 57 with
              | true =>
                have h6 : signB b = true := by simp [signB, digB, h4]
                simp [mc75_l0, t0, t18, t19, hltI, hx, r82, r83, h3, h4, hw]
                exact ⟨by omega, by omega, hall.succ hb h6⟩
              | false =>
                by_cases h5 : (b.toNat : Int) = 45
                · have h6 : signB b = true := by simp [signB, h5]
                  have e1 : inI 97 45 122 = false := by decide
                  have e2 : inI 48 45 57 = false := by decide
                  simp [mc75_l0, t0, t18, t19, hltI, hx, r82, r83, e1, e2, h5, hw]
                  exact ⟨by omega, by omega, hall.succ hb h6⟩
                · have h6 : signB b = false := by simp [signB, letB, digB, h3, h4, h5]
                  have h7 : wordB (c :: l) = false := by
                    show (decide ((c :: l).length ≤ 16) && (letB c && (c :: l).all signB)) = false
                    rw [hc h6]; simp
                  simp [mc75_l0, t0, t18, t19, hltI, hx, r82, r83, h3, h4, h5, hw, tupV, h7]
          · have hi' : i = l.length + 1 := by omega
            subst hi'
            have h7 : wordB (c :: l) = true := by
              have hall := hall.all (by simp)
              show (decide ((c :: l).length ≤ 16) && (letB c && (c :: l).all signB)) = true
              rw [hall, h2]
              simp; omega
            simp [mc75_l0, t0, t18, t19, tupV, h7]
def S75 : PSpec where
  R args _ v := ∃ s : ByteArray, args = [.string s] ∧ v = .bool (wordB s.data.toList)
  uniq := by rintro _ _ _ _ ⟨n, rfl, rfl⟩ ⟨_, h, rfl⟩; cases h; rfl
  shut h := h
theorem run57 {ov : Ov} (ho : ∀ args w, ov 57 args w = none) (n a b : Int) (w : AW) : ∃ v w', (run Try.prog ov 2).call 57 [.int .i64 n, .int .i64 a, .int .i64 b] w .none = .ok (.ret v) w' .none ∧ v = .bool (inI a n b) := by
  refine call_wp text57 (by simp) (ho _ _) ?_
  by_cases h1 : a ≤ n <;> simp [mc57, h1, tupV, inI]
def wrapI (n s : Int) : Int := if s < 1 then 0 else (n.tmod s + s).tmod s
theorem wrapI_bd {n s : Int} (h : 1 ≤ s) : 0 ≤ wrapI n s ∧ wrapI n s < s := by
  have b1 := Int.lt_tmod_of_pos n (show 0 < s by omega)
  unfold wrapI
  rw [if_neg (by omega)]
  exact ⟨Int.tmod_nonneg _ (by omega), Int.tmod_lt_of_pos _ (by omega)⟩
def S33 : PSpec where
  R args _ v := ∃ n s : Int, args = [.int .i64 n, .int .i64 s] ∧ s ≤ 2 ^ 60 ∧ v = .int .i64 (wrapI n s)
  uniq := by rintro _ _ _ _ ⟨n, s, rfl, _, rfl⟩ ⟨_, _, h, _, rfl⟩; cases h; rfl
  shut h := h
theorem run33 {ov : Ov} (ho : ∀ args w, ov 33 args w = none) (n s : Int) (hs : s ≤ 2 ^ 60) (w : AW) : ∃ v w', (run Try.prog ov 2).call 33 [.int .i64 n, .int .i64 s] w .none = .ok (.ret v) w' .none ∧ v = .int .i64 (wrapI n s) := by
  refine call_wp text33 (by simp) (ho _ _) ?_
  by_cases h1 : s < 1
  · simp [mc33, h1, tupV, wrapI]
  · have b1 := Int.lt_tmod_of_pos n (show 0 < s by omega)
    have b2 := Int.tmod_lt_of_pos n (show 0 < s by omega)
    have hr := fun (a : Int) (c : Bool) w => bin_rem (P := Try.prog) (w := w) 3 c .i64 a s (by omega)
    have w1 : IntKind.wrap .i64 (n.tmod s + s) = n.tmod s + s := wrap64_in (by omega) (by omega)
    simp [mc33, h1, tupV, wrapI, hr, w1]
theorem len26V {α : Type} {w w' : AW} {v : Value} {l : List α} {f : α → List Value} (h : RowsV f w v l) : lenB Try.prog w' 26 v = .val (.int .i64 (l.length : Nat)) w' := by
  obtain ⟨a, c, rfl⟩ := h.len; simp
theorem len22V {α : Type} {w w' : AW} {v : Value} {l : List α} {f : α → List Value} (h : RowsV f w v l) : lenB Try.prog w' 22 v = .val (.int .i64 (l.length : Nat)) w' := by
  obtain ⟨a, c, rfl⟩ := h.len; simp
theorem len23V {α : Type} {w w' : AW} {v : Value} {l : List α} {f : α → List Value} (h : RowsV f w v l) : lenB Try.prog w' 23 v = .val (.int .i64 (l.length : Nat)) w' := by
  obtain ⟨a, c, rfl⟩ := h.len; simp
end Go.Proofs.Ythfidomphkednaa.walk

namespace Go.Proofs.Ythfidomphkednaa.walk
open Go Go.Sh
set_option maxRecDepth 100000
set_option linter.unusedSimpArgs false
set_option linter.unusedVariables false
/-! lists of numbers -/
def totW (l : List Int) : Int := l.foldl (fun s z => IntKind.wrap .i64 (s + z)) 0
def totL : List Int → Int
  | [] => 0
  | a :: l => a + totL l
theorem totL_app : ∀ a b : List Int, totL (a ++ b) = totL a + totL b
  | [], b => by simp [totL]
  | d :: a, b => by simp only [List.cons_append, totL, totL_app a b]; omega
theorem totL_in : ∀ {l : List Int} {M : Int}, (∀ z ∈ l, 0 ≤ z ∧ z ≤ M) → 0 ≤ totL l ∧ totL l ≤ M * l.length
  | [], M, _ => by simp [totL]
  | a :: l, M, h => by
    have h1 := h a (List.mem_cons_self ..)
    have h2 := totL_in (l := l) fun z hz => h z (List.mem_cons_of_mem _ hz)
    simp only [totL, List.length_cons]
    rw [Int.natCast_add, Int.mul_add]
    omega
theorem totW_app (l : List Int) (z : Int) : totW (l ++ [z]) = IntKind.wrap .i64 (totW l + z) := by simp [totW, List.foldl_append]
theorem snoc_ind {α : Type} {p : List α → Prop} (h0 : p []) (h1 : ∀ l a, p l → p (l ++ [a])) (l : List α) : p l := by
  have : ∀ n (l : List α), l.length = n → p l := by
    intro n
    induction n with
    | zero => intro l hl; rw [List.length_eq_zero_iff.1 hl]; exact h0
    | succ n ih =>
      intro l hl
      have hne : l ≠ [] := by intro e; rw [e] at hl; simp at hl
      have e := List.dropLast_concat_getLast hne
      rw [← e]
      exact h1 _ _ (ih _ (by rw [List.length_dropLast]; omega))
  exact this _ l rfl
theorem totW_eq {l : List Int} : (∀ z ∈ l, 0 ≤ z ∧ z ≤ 2 ^ 40) → l.length ≤ 1000 → totW l = totL l := by
  induction l using snoc_ind with
  | h0 => intros; rfl
  | h1 l a ih =>
    intro h hl
    rw [List.length_append, List.length_singleton] at hl
    have h2 : ∀ z ∈ l, 0 ≤ z ∧ z ≤ 2 ^ 40 := fun z hz => h z (List.mem_append_left _ hz)
    have h1 := h a (by simp)
    have h3 := totL_in h2
    rw [totW_app, totL_app, ih h2 (by omega)]
    have : (2 ^ 40 : Int) * l.length ≤ 2 ^ 40 * 1000 := Int.mul_le_mul_of_nonneg_left (by omega) (by decide)
    rw [wrap64_in (by omega) (by omega)]
    simp [totL]
theorem totW_step {l : List Int} {i : Nat} {z : Int} (h : l[i]? = some z) : totW (l.take (i + 1)) = IntKind.wrap .i64 (totW (l.take i) + z) := by
  rw [List.take_add_one, h]; exact totW_app _ _
def S62 : PSpec where
  R args w v := ∃ (a : Value) (U : List Int), args = [a] ∧ RowsV intC w a U ∧ U.length ≤ 2 ^ 60 ∧ v = .int .i64 (totW U)
  uniq := by
    rintro _ _ _ _ ⟨a, U, rfl, h1, _, rfl⟩ ⟨a', U', e, k1, _, rfl⟩
    cases e
    rw [h1.uniq (m := 1) intC_length intC_inj k1]
  shut h := h
theorem run62 {ov : Ov} (ho : ∀ args w, ov 62 args w = none) (U : List Int) (hlen : U.length ≤ 2 ^ 60) (u : Value) (w : AW) (hu : RowsV intC w u U) : ∃ y w', (run Try.prog ov 2).call 62 [u] w .none = .ok (.ret y) w' .none ∧ y = .int .i64 (totW U) := by
  refine call_wp text62 (by simp) (ho _ _) ?_
  have hlu := fun w2 => len26V (w' := w2) hu
  simp [mc62, hlu]
  refine wp_seqX (wp_blockX (wp_rounds (fun i t w' => w' = w ∧ tget t 6 = u ∧ tget t 7 = .int .i64 (U.length : Nat) ∧ tget t 8 = .int .i64 (i : Nat) ∧ tget t 3 = .int .i64 (totW (U.take i)) ∧ i ≤ U.length) (2 ^ 60 + 1) (by decide) ⟨rfl, by simp, by simp, by simp, by simp [totW], Nat.zero_le _⟩ ?_))
  rintro i t w' ⟨rfl, t6, t7, t8, t3, hi⟩
  by_cases hlt : i < U.length
  · obtain ⟨z, hz⟩ : ∃ z, U[i]? = some z := ⟨_, List.getElem?_eq_getElem hlt⟩
    obtain ⟨b, off, sq, cp, rfl, hr⟩ := hu.at_ i hlt
    have hld := hr.int hz
    have hia := fun w => ia26 w ⟨b, off, sq⟩ U.length cp .i64 i hlt
    simp only [Nat.mul_one] at hia
    have hw1 : IntKind.wrap .i64 ((i : Int) + 1) = (i : Int) + 1 := wrap64_in (by omega) (by omega)
    have hs := totW_step hz
    simp [mc62_l0, t3, t6, t7, t8, hlt, hia, hld, hw1, hs]
    omega
  · have hi' : i = U.length := by omega
    subst hi'
    simp [mc62_l0, t3, t6, t7, t8, tupV]
end Go.Proofs.Ythfidomphkednaa.walk

namespace Go.Proofs.Ythfidomphkednaa.walk
open Go Go.Sh
set_option maxRecDepth 100000
set_option linter.unusedSimpArgs false
set_option linter.unusedVariables false
/-! amounts: arrays of eight numbers -/
def arC (x : Int → Int) : List Value := [.int .i64 (x 0), .int .i64 (x 1), .int .i64 (x 2), .int .i64 (x 3), .int .i64 (x 4), .int .i64 (x 5), .int .i64 (x 6), .int .i64 (x 7)]
@[simp] theorem arC_len (x : Int → Int) : (arC x).length = 8 := by simp [arC]
theorem arC_drop (x : Int → Int) : (arC x).drop 8 = [] := rfl
@[simp] theorem arC_take (x : Int → Int) : (arC x).take 8 = arC x := rfl
@[simp] theorem arC_singles (x : Int → Int) : singles (arC x) = true := by simp [arC]
theorem lt8 {k : Nat} (h : k < 8) : k = 0 ∨ k = 1 ∨ k = 2 ∨ k = 3 ∨ k = 4 ∨ k = 5 ∨ k = 6 ∨ k = 7 := by omega
theorem arC_get (x : Int → Int) {k : Nat} (h : k < 8) : (arC x)[k]? = some (.int .i64 (x (k : Int))) := by
  rcases lt8 h with rfl | rfl | rfl | rfl | rfl | rfl | rfl | rfl <;> rfl
@[simp] theorem arC_getE (x : Int → Int) {k : Nat} (h : k < (arC x).length) : (arC x)[k] = .int .i64 (x (k : Int)) := by
  have := arC_get x (k := k) (by simpa using h)
  rw [List.getElem?_eq_getElem h] at this
  simpa using this
def updF (x : Int → Int) (k v : Int) : Int → Int := fun p => if p = k then v else x p
theorem arC_set (x : Int → Int) (v : Int) {k : Nat} (h : k < 8) : (arC x).take k ++ (.int .i64 v :: (arC x).drop (k + 1)) = arC (updF x (k : Int) v) := by
  rcases lt8 h with rfl | rfl | rfl | rfl | rfl | rfl | rfl | rfl <;> simp [arC, updF]
theorem arC_at {x y : Int → Int} (h : arC x = arC y) {k : Nat} (hk : k < 8) : x (k : Int) = y (k : Int) := by
  have h1 := arC_get x hk
  have h2 := arC_get y hk
  rw [h, h2] at h1
  simpa using h1.symm
/-- nothing behind the eighth -/
def Z8 (x : Int → Int) : Prop := ∀ p, p < 0 ∨ 8 ≤ p → x p = 0
theorem arC_uniq {x y : Int → Int} (hx : Z8 x) (hy : Z8 y) (h : arC x = arC y) : x = y := by
  funext p
  by_cases hp : p < 0 ∨ 8 ≤ p
  · rw [hx p hp, hy p hp]
  · have := arC_at h (k := p.toNat) (by omega)
    rwa [show ((p.toNat : Nat) : Int) = p by omega] at this
theorem arr61 : arrN Try.prog 61 = some (8, 3) := by kernel_rfl
theorem size3 : szOf Try.prog 3 = some 1 := by kernel_rfl
theorem ia61 (w : AW) (a : Addr) (k : IntKind) {i : Nat} (h : i < 8) : indexAddrA Try.prog w 61 (.pointer (some a)) (.int k (i : Int)) = .val (.pointer (some (a.add i))) w := by
  show indexAddrC Try.prog w 61 (.pointer (some a)) (Int.ofNat i) = _
  have h1 : Nat.blt i 8 = true := by simpa [Nat.blt_eq] using h
  unfold indexAddrC
  simp only [arr61]
  show (bif Nat.ble 8 1 then R.fail else indexAddrB Try.prog w a 8 3 (Int.ofNat i)) = _
  have h2 : Nat.ble 8 1 = false := rfl
  rw [h2]
  simp [indexAddrB, idxIn, h1, size3]
theorem al61' (w : AW) : allocA Try.prog w 61 = .val (.pointer (some ⟨w.next, 0, none⟩)) ⟨w.heap.put w.next (some (.cells (arC fun _ => 0) 61 false)), w.next + 1, w.lim⟩ := al61 w
theorem bd61' (w : AW) : buildA Try.prog w 61 [] = .val (.agg ⟨arC fun _ => 0⟩) w := bd61 w
/-! ledgers in memory -/
def ptC (p : Pt) : List Value := [.string p.nm, .int .i64 p.ch]
def dtC (d : Dt) : List Value := [.int .i64 d.f, .int .i64 d.t, .int .i64 d.c]
@[simp] theorem ptC_length (p : Pt) : (ptC p).length = 2 := rfl
@[simp] theorem dtC_length (d : Dt) : (dtC d).length = 3 := rfl
theorem ptC_inj (a b : Pt) (h : ptC a = ptC b) : a = b := by
  cases a; cases b; simp [ptC] at h; simp [h]
theorem dtC_inj (a b : Dt) (h : dtC a = dtC b) : a = b := by
  cases a; cases b; simp [dtC] at h; simp [h]
def CapN (v : Value) : Prop := ∃ a n c, v = .slice a n c ∧ n ≤ c
structure LedV (w : AW) (pv dv : Value) (ps : List Pt) (ds : List Dt) : Prop where
  p : RowsV ptC w pv ps
  d : RowsV dtC w dv ds
  cp : CapN pv
  cd : CapN dv
theorem LedV.up {w w' : AW} {pv dv : Value} {ps : List Pt} {ds : List Dt} (h : LedV w pv dv ps ds) (u : Up w w') : LedV w' pv dv ps ds := ⟨h.p.up u, h.d.up u, h.cp, h.cd⟩
theorem LedV.uniqP {w : AW} {pv dv : Value} {ps ps' : List Pt} {ds ds' : List Dt} (h : LedV w pv dv ps ds) (k : LedV w pv dv ps' ds') : ps = ps' := h.p.uniq (m := 2) ptC_length ptC_inj k.p
theorem LedV.uniqD {w : AW} {pv dv : Value} {ps ps' : List Pt} {ds ds' : List Dt} (h : LedV w pv dv ps ds) (k : LedV w pv dv ps' ds') : ds = ds' := h.d.uniq (m := 3) dtC_length dtC_inj k.d
theorem LedV.shut {w : AW} {pv dv : Value} {ps : List Pt} {ds : List Dt} (h : LedV w pv dv ps ds) : LedV (shutA w) pv dv ps ds := ⟨h.p, h.d, h.cp, h.cd⟩
/-- a ledger and what each owes -/
def l63 (pv dv : Value) (o : Int → Int) : List Value := pv :: dv :: arC o
@[simp] theorem l63_len (pv dv : Value) (o : Int → Int) : (l63 pv dv o).length = 10 := by simp [l63]
theorem l63_inj {pv dv pv' dv' : Value} {o o' : Int → Int} (h : l63 pv dv o = l63 pv' dv' o') : pv = pv' ∧ dv = dv' ∧ arC o = arC o' := by
  simp only [l63, List.cons.injEq] at h
  exact h
theorem l63_at (pv dv : Value) (o : Int → Int) {k : Nat} (h : k < 8) : (pv :: dv :: arC o)[2 + k]? = some (.int .i64 (o (k : Int))) := by
  rw [show 2 + k = k + 1 + 1 by omega, List.getElem?_cons_succ, List.getElem?_cons_succ, arC_get _ h]
@[simp] theorem l63_0 (pv dv : Value) (o : Int → Int) : (pv :: dv :: arC o)[0]? = some pv := rfl
@[simp] theorem l63_2 (v : Value) (o : Int → Int) : (v :: arC o)[0]? = some v := rfl
@[simp] theorem l63_1 (pv dv : Value) (o : Int → Int) : (pv :: dv :: arC o)[1]? = some dv := rfl
@[simp] theorem l63_getE (pv dv : Value) (o : Int → Int) {k : Nat} (h : 2 + k < (pv :: dv :: arC o).length) : (pv :: dv :: arC o)[2 + k] = .int .i64 (o (k : Int)) := by
  have := l63_at pv dv o (k := k) (by simp at h; omega)
  rw [List.getElem?_eq_getElem h] at this
  simpa using this
theorem LOk.z8 {M : Int} {ps : List Pt} {ds : List Dt} (h : LOk M ps ds) : Z8 (owD ds) := fun p hp => h.ow_out (by have := h.n8; omega)
/-! what is paid of a debt -/
def S63 : PSpec where
  R args w v := ∃ (pv dv : Value) (o x : Int → Int) (d : Dt), args = [.agg ⟨l63 pv dv o⟩, .agg ⟨dtC d⟩, .agg ⟨arC x⟩] ∧ (0 ≤ d.f ∧ d.f < 8) ∧ (1 ≤ d.c ∧ d.c ≤ 100000) ∧ (0 ≤ x d.f ∧ x d.f ≤ 2000000) ∧ 0 < o d.f ∧ v = .int .i64 (ptD o x d)
  uniq := by
    rintro _ _ _ _ ⟨pv, dv, o, x, d, rfl, hf, _, _, _, rfl⟩ ⟨pv', dv', o', x', d', e, _, _, _, _, rfl⟩
    simp only [List.cons.injEq, Value.agg.injEq, Array.mk.injEq, and_true] at e
    obtain ⟨e1, e2, e3⟩ := e
    have := dtC_inj _ _ e2
    subst this
    obtain ⟨_, _, e4⟩ := l63_inj e1
    have h1 := arC_at e3 (k := d.f.toNat) (by omega)
    have h2 := arC_at e4 (k := d.f.toNat) (by omega)
    rw [show ((d.f.toNat : Nat) : Int) = d.f by omega] at h1 h2
    unfold ptD
    rw [h1, h2]
  shut h := h
theorem run63 {ov : Ov} (ho : ∀ args w, ov 63 args w = none) (pv dv : Value) (o x : Int → Int) (d : Dt) (w : AW) (hl : w.lim = w.next) (hf : 0 ≤ d.f ∧ d.f < 8) (hc : 1 ≤ d.c ∧ d.c ≤ 100000) (hx : 0 ≤ x d.f ∧ x d.f ≤ 2000000) (hO : 0 < o d.f) :
    ∃ v w', (run Try.prog ov 2).call 63 [.agg ⟨l63 pv dv o⟩, .agg ⟨dtC d⟩, .agg ⟨arC x⟩] w .none = .ok (.ret v) w' .none ∧ v = .int .i64 (ptD o x d) := by
  refine call_wp text63 (by simp) (ho _ _) ?_
  obtain ⟨f, t, c⟩ := d
  simp only at hf hc hx hO
  obtain ⟨k, rfl⟩ : ∃ k : Nat, f = (k : Int) := ⟨f.toNat, by omega⟩
  have hk : k < 8 := by omega
  have hia := fun w a => ia61 w a .i64 hk
  have g1 := arC_get x hk
  have g2 := l63_at pv dv o hk
  obtain ⟨X, hX⟩ : ∃ X, X = x (k : Int) := ⟨_, rfl⟩
  obtain ⟨O, hOe⟩ : ∃ O, O = o (k : Int) := ⟨_, rfl⟩
  rw [← hX] at g1 hx
  rw [← hOe] at g2 hO
  have e : ptD o x ⟨(k : Int), t, c⟩ = X * c / O := by simp only [ptD, ← hX, ← hOe]
  have h0 : 0 ≤ X * c := Int.mul_nonneg hx.1 (by omega)
  have h1 : X * c ≤ 2000000 * 100000 := Int.mul_le_mul hx.2 hc.2 (by omega) (by omega)
  have w1 : IntKind.wrap .i64 (X * c) = X * c := wrap64_in (by omega) (by omega)
  have hq := fun (cc : Bool) w => bin_quo (P := Try.prog) (w := w) 3 cc .i64 (X * c) O (by omega)
  have h2 := Int.tdiv_eq_ediv_of_nonneg h0 (b := O)
  have h3 : 0 ≤ X * c / O := Int.ediv_nonneg h0 (by omega)
  have h4 : X * c / O ≤ X * c := Int.ediv_le_self _ h0
  have w2 : IntKind.wrap .i64 (X * c / O) = X * c / O := wrap64_in (by omega) (by omega)
  simp [mc63, cellsOf_agg, l63, dtC, hia, g1, g2, w1, hq, h2, w2, tupV, e]
end Go.Proofs.Ythfidomphkednaa.walk

namespace Go.Proofs.Ythfidomphkednaa.walk
open Go Go.Sh
set_option maxRecDepth 100000
set_option linter.unusedSimpArgs false
set_option linter.unusedVariables false
/-- blocks below stay, but for one -/
structure Kp (B : Nat) (we w : AW) : Prop where
  old : ∀ q, q < we.next → q ≠ B → w.heap.get q = we.heap.get q
  next : we.next ≤ w.next
  lim : w.lim = we.lim
theorem Kp.refl (B : Nat) (w : AW) : Kp B w w := ⟨fun _ _ _ => rfl, Nat.le_refl _, rfl⟩
theorem Kp.new {B : Nat} {we : AW} {H : T AObj} {n n' l k : Nat} {o : Option AObj} (h : Kp B we ⟨H, n, l⟩) (hk : we.next ≤ k ∨ k = B) (hn : n ≤ n') : Kp B we ⟨H.put k o, n', l⟩ :=
  ⟨fun q hq hb => by
    show (H.put k o).get q = _
    rw [get_put, if_neg (by omega)]; exact h.old q hq hb, Nat.le_trans h.next hn, h.lim⟩
theorem Kp.up {B : Nat} {w we w' : AW} (u : Up w we) (h : Kp B we w') (hB : w.next ≤ B) : Up w w' :=
  ⟨fun q hq => by have := u.next; rw [h.old q (by omega) (by omega)]; exact u.old q hq, Nat.le_trans u.next h.next, h.lim.trans u.lim⟩
theorem Kp.trans {B : Nat} {a b c : AW} (h : Kp B a b) (k : Kp B b c) : Kp B a c := ⟨fun q h1 h2 => (k.old q (by have := h.next; omega) h2).trans (h.old q h1 h2), Nat.le_trans h.next k.next, k.lim.trans h.lim⟩
abbrev LK (ps : List Pt) (ds : List Dt) : Prop := LOk 2000000 ps ds
theorem sI_bd {g : Dt → Int} {l : List Dt} (h : ∀ d ∈ l, 0 ≤ g d ∧ g d ≤ 100000) (hl : l.length ≤ 16) : 0 ≤ sI g l ∧ sI g l ≤ 1600000 := by
  have h1 : sI g l ≤ sI (fun _ => 100000) l := sI_le fun d hd => (h d hd).2
  rw [sI_const] at h1
  have h2 : 0 ≤ sI g l := sI_nonneg fun d hd => (h d hd).1
  omega
theorem sI_step {g : Dt → Int} {l : List Dt} {i : Nat} {d : Dt} (h : l[i]? = some d) : sI g (l.take (i + 1)) = sI g (l.take i) + g d := by
  rw [List.take_add_one, h, sI_app]; simp [sI]
def caK (ps : List Pt) (i : Nat) : Int → Int := fun p => if p < (i : Int) then caP ps p else 0
theorem caK_zero (ps : List Pt) : caK ps 0 = fun _ => 0 := by
  funext p
  unfold caK
  split
  · rw [ca_out (.inl (by omega))]
  · rfl
theorem caK_step {ps : List Pt} {i : Nat} {a : Pt} (h : ps[i]? = some a) : updF (caK ps i) (i : Int) a.ch = caK ps (i + 1) := by
  funext p
  unfold updF caK
  by_cases h1 : p = (i : Int)
  · subst h1
    rw [if_pos rfl, if_pos (by omega), ca_at h]
  · rw [if_neg h1]
    by_cases h2 : p < (i : Int)
    · rw [if_pos h2, if_pos (by omega)]
    · rw [if_neg h2, if_neg (by omega)]
theorem caK_all (ps : List Pt) : caK ps ps.length = caP ps := by
  funext p
  unfold caK
  split
  · rfl
  · rw [ca_out (.inr (by omega))]
def inF (o x : Int → Int) (ds : List Dt) (i : Nat) (p : Int) : Int := sI (fun d => if d.t = p then ptD o x d else 0) (ds.take i)
def haF (ps : List Pt) (o x : Int → Int) (ds : List Dt) (i : Nat) : Int → Int := fun p => caP ps p + inF o x ds i p
theorem haF_zero (ps : List Pt) (o x : Int → Int) (ds : List Dt) : haF ps o x ds 0 = caP ps := by
  funext p; simp [haF, inF, sI]
theorem haF_all (ps : List Pt) (x : Int → Int) (ds : List Dt) : haF ps (owD ds) x ds ds.length = haD ps ds x := by
  funext p; simp [haF, inF, haD, inD]
theorem haF_step {ps : List Pt} {o x : Int → Int} {ds : List Dt} {i : Nat} {d : Dt} (h : ds[i]? = some d) : updF (haF ps o x ds i) d.t (haF ps o x ds i d.t + ptD o x d) = haF ps o x ds (i + 1) := by
  funext p
  unfold updF haF inF
  rw [sI_step h]
  by_cases h1 : p = d.t
  · subst h1
    simp only [if_true]; omega
  · have h2 : ¬ d.t = p := fun e => h1 e.symm
    simp only [if_neg h1, if_neg h2]; omega
section
variable {ps : List Pt} {ds : List Dt} {x : Int → Int}
theorem pt_bd (h : LK ps ds) (hx : ∀ p, 0 ≤ x p ∧ x p ≤ owD ds p) {d : Dt} (hd : d ∈ ds) : 0 ≤ ptD (owD ds) x d ∧ ptD (owD ds) x d ≤ 100000 := by
  have h1 := h.pt_in hx hd
  have h2 := (h.debt d hd).2.2.2.2
  omega
theorem haF_bd (h : LK ps ds) (hx : ∀ p, 0 ≤ x p ∧ x p ≤ owD ds p) (i : Nat) (p : Int) : 0 ≤ haF ps (owD ds) x ds i p ∧ haF ps (owD ds) x ds i p ≤ 3600000 := by
  have h1 := h.ca p
  have h2 := sI_bd (g := fun d => if d.t = p then ptD (owD ds) x d else 0) (l := ds.take i) (fun d hd => by
    have := pt_bd h hx (List.mem_of_mem_take hd)
    show 0 ≤ (if d.t = p then ptD (owD ds) x d else 0) ∧ (if d.t = p then ptD (owD ds) x d else 0) ≤ 100000
    split <;> omega) (by have := h.d16; rw [List.length_take]; omega)
  unfold haF inF
  omega
end
def S44 : PSpec where
  R args w v := ∃ (pv dv : Value) (ps : List Pt) (ds : List Dt) (x : Int → Int), args = [.agg ⟨l63 pv dv (owD ds)⟩, .agg ⟨arC x⟩] ∧ LedV w pv dv ps ds ∧ LK ps ds ∧ (∀ p, 0 ≤ x p ∧ x p ≤ owD ds p) ∧ v = .agg ⟨arC (haD ps ds x)⟩
  uniq := by
    rintro _ _ _ _ ⟨pv, dv, ps, ds, x, rfl, hL, hk, hx, rfl⟩ ⟨pv', dv', ps', ds', x', e, hL', hk', hx', rfl⟩
    simp only [List.cons.injEq, Value.agg.injEq, Array.mk.injEq, and_true] at e
    obtain ⟨e1, e2⟩ := e
    obtain ⟨rfl, rfl, _⟩ := l63_inj e1
    have := hL.uniqP hL'
    subst this
    have := hL.uniqD hL'
    subst this
    have z := hk.z8
    have := arC_uniq (fun p hp => by have h1 := z p hp; have h2 := hx p; omega) (fun p hp => by have h1 := z p hp; have h2 := hx' p; omega) e2
    subst this; rfl
  shut := by
    rintro _ _ _ ⟨pv, dv, ps, ds, x, h1, h2, h3⟩
    exact ⟨pv, dv, ps, ds, x, h1, h2.shut, h3⟩
theorem run44 {ov : Ov} (ho : ∀ args w, ov 44 args w = none) (h63 : HasP ov 63 S63.F) (pv dv : Value) (ps : List Pt) (ds : List Dt) (x : Int → Int) (w : AW) (hl : w.lim = w.next) (hL : LedV w pv dv ps ds) (hk : LK ps ds) (hx : ∀ p, 0 ≤ x p ∧ x p ≤ owD ds p) :
    ∃ v w', (run Try.prog ov 2).call 44 [.agg ⟨l63 pv dv (owD ds)⟩, .agg ⟨arC x⟩] w .none = .ok (.ret v) w' .none ∧ v = .agg ⟨arC (haD ps ds x)⟩ := by
  refine call_wp text44 (by simp) (ho _ _) ?_
  have hl22 := fun w2 => len22V (w' := w2) hL.p
  have hl23 := fun w2 => len23V (w' := w2) hL.d
  have h8 := hk.n8
  have h16 := hk.d16
  obtain ⟨w1, hw1⟩ : ∃ w1, w1 = (⟨(((w.heap.put w.next (some (.cells (l63 pv dv (owD ds)) 63 false))).put (w.next + 1) (some (.cells (arC x) 61 false))).put (w.next + 2) (some (.cells (arC fun _ => 0) 61 false))).put (w.next + 3) (some (.cells (arC fun _ => 0) 61 false)), w.next + 4, w.lim⟩ : AW) := ⟨_, rfl⟩
  have u1 : Up w w1 := by
    rw [hw1]
    exact ((((Up.refl w).put (Nat.le_refl _) (Nat.le_refl _)).put (Nat.le_succ _) (Nat.le_refl _)).put (by omega) (Nat.le_refl _)).put (by omega) (by omega)
  have n1 : w1.next = w.next + 4 := by rw [hw1]
  have m1 : w1.lim = w.lim := by rw [hw1]
  have a2 : w1.heap.get w.next = some (.cells (pv :: dv :: arC (owD ds)) 63 false) := by rw [hw1]; simp [l63]
  have a3 : w1.heap.get (w.next + 1) = some (.cells (arC x) 61 false) := by rw [hw1]; simp
  have a4 : w1.heap.get (w.next + 2) = some (.cells (arC fun _ => 0) 61 false) := by rw [hw1]; simp
  have a5 : w1.heap.get (w.next + 3) = some (.cells (arC (caK ps 0)) 61 false) := by rw [hw1, caK_zero]; simp
  simp [mc44, cellsOf_agg, l63, al61', -al61, hl22, hl23]
  rw [show (⟨(((w.heap.put w.next (some (.cells (pv :: dv :: arC (owD ds)) 63 false))).put (w.next + 1) (some (.cells (arC x) 61 false))).put (w.next + 1 + 1) (some (.cells (arC fun _ => 0) 61 false))).put (w.next + 1 + 1 + 1) (some (.cells (arC fun _ => 0) 61 false)), w.next + 1 + 1 + 1 + 1, w.lim⟩ : AW) = w1 from by rw [hw1]; rfl]
  refine wp_seqX (wp_blockX (wp_rounds (fun i t w' => Kp (w.next + 3) w1 w' ∧ w'.heap.get (w.next + 3) = some (.cells (arC (caK ps i)) 61 false) ∧ tget t 2 = .pointer (some ⟨w.next, 0, none⟩) ∧ tget t 3 = .pointer (some ⟨w.next + 1, 0, none⟩) ∧ tget t 4 = .pointer (some ⟨w.next + 2, 0, none⟩) ∧ tget t 5 = .pointer (some ⟨w.next + 3, 0, none⟩) ∧ tget t 12 = pv ∧ tget t 13 = .int .i64 (ps.length : Nat) ∧ tget t 14 = .int .i64 (i : Nat) ∧ i ≤ ps.length) 20 (by decide) ⟨Kp.refl _ _, a5, by simp, by simp, by simp, by simp, by simp, by simp, by simp, Nat.zero_le _⟩ ?_))
  rintro i t w' ⟨hkp, g5, t2, t3, t4, t5, t12, t13, t14, hi⟩
  have hw1' : IntKind.wrap .i64 ((i : Int) + 1) = (i : Int) + 1 := wrap64_in (by omega) (by omega)
  have hlm := hkp.lim
  have hnx := hkp.next
  by_cases hlt : i < ps.length
  · obtain ⟨a, ha⟩ : ∃ a, ps[i]? = some a := ⟨_, List.getElem?_eq_getElem hlt⟩
    obtain ⟨b, off, sq, c, rfl, hra⟩ := (hL.p.up (hkp.up u1 (by omega))).at_ i hlt
    have hld := hra.rd ptC_length ha
    have hia := fun w => ia22 w ⟨b, off, sq⟩ ps.length c .i64 i hlt
    have hia6 := fun w a => ia61 w a .i64 (show i < 8 by omega)
    simp only [ptC] at hld
    have hst := caK_step ha
    have q1 : ¬ w.next + 3 = w'.next := by omega
    have q5 : w'.lim ≤ w'.next := by omega
    have q2 : w'.lim ≤ w.next + 3 := by omega
    have q3 : i ≤ 7 := by omega
    have q4 : i < 8 := by omega
    simp [mc44_l0, t2, t3, t4, t5, t12, t13, t14, hlt, hia, hld, hia6, g5, q1, q5, q2, q3, q4, arC_set, hst, hw1']
    refine ⟨by omega, ?_, by omega⟩
    exact ((hkp.new (.inl hnx) (Nat.le_refl _)).new (.inl hnx) (Nat.le_refl _)).new (.inr rfl) (Nat.le_succ _)
  · have hi' : i = ps.length := by omega
    subst hi'
    have b2 : w'.heap.get w.next = some (.cells (pv :: dv :: arC (owD ds)) 63 false) := by rw [hkp.old _ (by omega) (by omega)]; exact a2
    simp [mc44_l0, t2, t3, t4, t5, t12, t13, t14, b2, hl23]
    rw [caK_all, ← haF_zero ps (owD ds) x ds] at g5
    refine wp_seqX (wp_blockX (wp_rounds (fun i t w2 => Kp (w.next + 3) w1 w2 ∧ w2.heap.get (w.next + 3) = some (.cells (arC (haF ps (owD ds) x ds i)) 61 false) ∧ tget t 2 = .pointer (some ⟨w.next, 0, none⟩) ∧ tget t 3 = .pointer (some ⟨w.next + 1, 0, none⟩) ∧ tget t 4 = .pointer (some ⟨w.next + 2, 0, none⟩) ∧ tget t 5 = .pointer (some ⟨w.next + 3, 0, none⟩) ∧ tget t 26 = dv ∧ tget t 27 = .int .i64 (ds.length : Nat) ∧ tget t 28 = .int .i64 (i : Nat) ∧ i ≤ ds.length) 20 (by decide) ⟨hkp, g5, by simp [t2], by simp [t3], by simp [t4], by simp [t5], by simp, by simp, by simp, Nat.zero_le _⟩ ?_))
    clear hkp g5 t2 t3 t4 t5 t12 t13 t14 hlm hnx b2
    rintro i t w' ⟨hkp, g5, t2, t3, t4, t5, t26, t27, t28, hi⟩
    have hlm := hkp.lim
    have hnx := hkp.next
    by_cases hlt : i < ds.length
    · obtain ⟨d, hd⟩ : ∃ a, ds[i]? = some a := ⟨_, List.getElem?_eq_getElem hlt⟩
      have hdm := List.mem_of_getElem? hd
      obtain ⟨b, off, sq, c, rfl, hra⟩ := (hL.d.up (hkp.up u1 (by omega))).at_ i hlt
      have hld := hra.rd dtC_length hd
      have hia := fun w => ia23 w ⟨b, off, sq⟩ ds.length c .i64 i hlt
      have hdb := hk.debt d hdm
      have hxf := hx d.f
      have hol := hk.ow_le d.f
      have hop := hk.ow_pos hdm
      have hpb := pt_bd hk hx hdm
      have hhb := haF_bd hk hx i d.t
      have r63 := fun w => S63.call1 (P := Try.prog) h63 (w := w) ⟨pv, .slice (some ⟨b, off, sq⟩) ds.length c, owD ds, x, d, rfl, ⟨hdb.1.1, by omega⟩, hdb.2.2.2, ⟨hxf.1, by omega⟩, by omega, rfl⟩
      have hst0 := haF_step (ps := ps) (o := owD ds) (x := x) hd
      obtain ⟨V, hV⟩ : ∃ V, V = ptD (owD ds) x d := ⟨_, rfl⟩
      rw [← hV] at r63 hpb hst0
      obtain ⟨f, tt, cc⟩ := d
      simp only at hdb hhb hst0
      obtain ⟨k, rfl⟩ : ∃ k : Nat, tt = (k : Int) := ⟨tt.toNat, by omega⟩
      have hk8 : k < 8 := by omega
      have hia6 := fun w a => ia61 w a .i64 hk8
      simp only [dtC] at hld r63
      have hgt := arC_get (haF ps (owD ds) x ds i) hk8
      obtain ⟨U, hU⟩ : ∃ U, U = haF ps (owD ds) x ds i (k : Int) := ⟨_, rfl⟩
      rw [← hU] at hgt hhb hst0
      have w1' : IntKind.wrap .i64 (U + V) = U + V := wrap64_in (by omega) (by omega)
      have w2' : IntKind.wrap .i64 ((i : Int) + 1) = (i : Int) + 1 := wrap64_in (by omega) (by omega)
      have b2 : w'.heap.get w.next = some (.cells (pv :: .slice (some ⟨b, off, sq⟩) ds.length c :: arC (owD ds)) 63 false) := by rw [hkp.old _ (by omega) (by omega)]; exact a2
      have b3 : w'.heap.get (w.next + 1) = some (.cells (arC x) 61 false) := by rw [hkp.old _ (by omega) (by omega)]; exact a3
      have q0 : ¬ w.next = w'.next := by omega
      have q01 : ¬ w.next + 1 = w'.next := by omega
      have q1 : ¬ w.next + 3 = w'.next := by omega
      have q5 : w'.lim ≤ w'.next := by omega
      have q2 : w'.lim ≤ w.next + 3 := by omega
      have q3 : k ≤ 7 := by omega
      simp only [l63] at r63
      simp [mc44_l1, t2, t3, t4, t5, t26, t27, t28, hlt, hia, hld, hia6, hgt, hU.symm, b2, b3, g5, q0, q01, q1, q5, q2, q3, hk8, arC_set, r63, hst0, w1', w2']
      refine ⟨by omega, ?_, by omega⟩
      exact ((hkp.new (.inl hnx) (Nat.le_refl _)).new (.inl hnx) (Nat.le_refl _)).new (.inr rfl) (Nat.le_succ _)
    · have hi' : i = ds.length := by omega
      subst hi'
      rw [haF_all] at g5
      have b4 : w'.heap.get (w.next + 2) = some (.cells (arC fun _ => 0) 61 false) := by rw [hkp.old _ (by omega) (by omega)]; exact a4
      have q2 : w'.lim ≤ w.next + 2 := by omega
      simp [mc44_l1, t2, t3, t4, t5, t26, t27, t28, g5, b4, q2, arC_drop, cellsOf_agg, tupV]
end Go.Proofs.Ythfidomphkednaa.walk

namespace Go.Proofs.Ythfidomphkednaa.walk
open Go Go.Sh
set_option maxRecDepth 100000
set_option linter.unusedSimpArgs false
set_option linter.unusedVariables false
/-! the lesser one, and the settlement -/
end Go.Proofs.Ythfidomphkednaa.walk

namespace Go.Proofs.Ythfidomphkednaa.walk
open Go Go.Sh
set_option maxRecDepth 100000
set_option linter.unusedSimpArgs false
set_option linter.unusedVariables false
end Go.Proofs.Ythfidomphkednaa.walk
