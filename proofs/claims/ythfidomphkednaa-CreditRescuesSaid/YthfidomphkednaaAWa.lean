/- Part of a proof by a machine of ones own: see the text with the theorem. -/
import Derived.Test.YthfidomphkednaaAT
import Derived.Test.YthfidomphkednaaAN
import Derived.Test.YthfidomphkednaaCP
namespace Go.Proofs.Ythfidomphkednaa.walk
open Go Go.Sh
set_option maxRecDepth 100000
set_option linter.unusedSimpArgs false
set_option linter.unusedVariables false
/-! what small functions say -/
def inI (a n b : Int) : Bool := decide (a ≤ n) && decide (n ≤ b)
def S32 : PSpec where
  R args _ v := ∃ n a b : Int, args = [.int .i64 n, .int .i64 a, .int .i64 b] ∧ v = .bool (inI a n b)
  uniq := by rintro _ _ _ _ ⟨n, a, b, rfl, rfl⟩ ⟨_, _, _, h, rfl⟩; cases h; rfl
  shut h := h
def S82 : PSpec where
  R args _ v := ∃ c : Int, args = [.int .u8 c] ∧ v = .bool (inI 97 c 122)
  uniq := by rintro _ _ _ _ ⟨c, rfl, rfl⟩ ⟨_, h, rfl⟩; cases h; rfl
  shut h := h
def S83 : PSpec where
  R args _ v := ∃ c : Int, args = [.int .u8 c] ∧ v = .bool (inI 48 c 57)
  uniq := by rintro _ _ _ _ ⟨c, rfl, rfl⟩ ⟨_, h, rfl⟩; cases h; rfl
  shut h := h
theorem rule32 {ov : Ov} (h : HasP ov 32 S32.F) (n a b : Int) (w : AW) : (run Try.prog ov 1).call 32 [.int .i64 n, .int .i64 a, .int .i64 b] w .none = .ok (.ret (.bool (inI a n b))) w .none := S32.call1 h ⟨n, a, b, rfl, rfl⟩
theorem rule82 {ov : Ov} (h : HasP ov 82 S82.F) (c : Int) (w : AW) : (run Try.prog ov 1).call 82 [.int .u8 c] w .none = .ok (.ret (.bool (inI 97 c 122))) w .none := S82.call1 h ⟨c, rfl, rfl⟩
theorem rule83 {ov : Ov} (h : HasP ov 83 S83.F) (c : Int) (w : AW) : (run Try.prog ov 1).call 83 [.int .u8 c] w .none = .ok (.ret (.bool (inI 48 c 57))) w .none := S83.call1 h ⟨c, rfl, rfl⟩
theorem run32 {ov : Ov} (ho : ∀ args w, ov 32 args w = none) (n a b : Int) (w : AW) : ∃ v w', (run Try.prog ov 2).call 32 [.int .i64 n, .int .i64 a, .int .i64 b] w .none = .ok (.ret v) w' .none ∧ v = .bool (inI a n b) := by
  refine call_wp text32 (by simp) (ho _ _) ?_
  by_cases h1 : a ≤ n <;> simp [mc32, h1, tupV, inI]
theorem run82 {ov : Ov} (ho : ∀ args w, ov 82 args w = none) (c : Int) (w : AW) : ∃ v w', (run Try.prog ov 2).call 82 [.int .u8 c] w .none = .ok (.ret v) w' .none ∧ v = .bool (inI 97 c 122) := by
  refine call_wp text82 (by simp) (ho _ _) ?_
  by_cases h1 : 97 ≤ c <;> simp [mc82, h1, tupV, inI]
theorem run83 {ov : Ov} (ho : ∀ args w, ov 83 args w = none) (c : Int) (w : AW) : ∃ v w', (run Try.prog ov 2).call 83 [.int .u8 c] w .none = .ok (.ret v) w' .none ∧ v = .bool (inI 48 c 57) := by
  refine call_wp text83 (by simp) (ho _ _) ?_
  by_cases h1 : 48 ≤ c <;> simp [mc83, h1, tupV, inI]
def letB (c : UInt8) : Bool := inI 97 c.toNat 122
def digB (c : UInt8) : Bool := inI 48 c.toNat 57
def signB (c : UInt8) : Bool := letB c || (digB c || decide ((c.toNat : Int) = 45))
def wordB (s : List UInt8) : Bool := match s with | [] => false | c :: _ => decide (s.length ≤ 16) && (letB c && s.all signB)
theorem all_snoc {p : UInt8 → Bool} {l : List UInt8} {i : Nat} {b : UInt8} (hb : l[i]? = some b) : (l.take (i + 1)).all p = ((l.take i).all p && p b) := by
  rw [List.take_add_one, hb]
  simp
theorem all_cut {p : UInt8 → Bool} {l : List UInt8} {i : Nat} {b : UInt8} (hb : l[i]? = some b) (h : p b = false) : l.all p = false := by
  rw [Bool.eq_false_iff]
  intro ha
  have := List.all_eq_true.1 ha b (List.mem_of_getElem? hb)
  rw [h] at this; cases this
def okTo (p : UInt8 → Bool) (l : List UInt8) (i : Nat) : Prop := (l.take i).all p = true
theorem okTo.zero (p : UInt8 → Bool) (l : List UInt8) : okTo p l 0 := by simp [okTo]
theorem okTo.succ {p : UInt8 → Bool} {l : List UInt8} {i : Nat} {b : UInt8} (hb : l[i]? = some b) (h : okTo p l i) (hp : p b = true) : okTo p l (i + 1) := by
  unfold okTo at h ⊢
  rw [all_snoc hb, h, hp]; rfl
theorem okTo.all {p : UInt8 → Bool} {l : List UInt8} {i : Nat} (h : okTo p l i) (hi : l.length ≤ i) : l.all p = true := by
  unfold okTo at h
  rwa [List.take_of_length_le hi] at h
theorem run75 {ov : Ov} (ho : ∀ args w, ov 75 args w = none) (h82 : HasP ov 82 S82.F) (h83 : HasP ov 83 S83.F) (s : ByteArray) (w : AW) : ∃ v w', (run Try.prog ov 2).call 75 [.string s] w .none = .ok (.ret v) w' .none ∧ v = .bool (wordB s.data.toList) := by
  refine call_wp text75 (by simp) (ho _ _) ?_
  have r82 := rule82 h82
  have r83 := rule83 h83
  obtain ⟨⟨L⟩⟩ := s
  cases hL : L with
  | nil => simp [mc75, wordB, tupV]
  | cons c l =>
    have hx0 : ∀ w k, indexA Try.prog w 9 (.string ⟨⟨c :: l⟩⟩) (.int k 0) = .val (.int .u8 (c.toNat : Int)) w := fun w k => ix9 w _ k 0 c rfl
    by_cases h1 : (16 : Int) < (l.length : Int) + 1
    · have h1' : ¬ l.length + 1 ≤ 16 := by omega
      simp [mc75, wordB, tupV, h1, h1']
    · cases h2 : letB c with
      | false =>
        have h2' : inI 97 c.toNat 122 = false := h2
        simp [mc75, wordB, tupV, h1, h2, hx0, r82, h2']
      | true =>
        have h2' : inI 97 c.toNat 122 = true := h2
        simp [mc75, tupV, h1, hx0, r82, h2']
        refine wp_seqX (wp_blockX (wp_rounds (fun i t w => tget t 0 = .string ⟨⟨c :: l⟩⟩ ∧ tget t 18 = .int .i64 ((l.length + 1 : Nat) : Int) ∧ tget t 19 = .int .i64 (i : Nat) ∧ i ≤ l.length + 1 ∧ okTo signB (c :: l) i) 20 (by decide) ?_ ?_))
        · simp [okTo.zero]
        · rintro i t w ⟨t0, t18, t19, hi, hall⟩
          by_cases hlt : i < l.length + 1
          · obtain ⟨b, hb⟩ : ∃ b, (c :: l)[i]? = some b := ⟨_, List.getElem?_eq_getElem (by simpa using hlt)⟩
            have hx : ∀ w k, indexA Try.prog w 9 (.string ⟨⟨c :: l⟩⟩) (.int k (i : Int)) = .val (.int .u8 (b.toNat : Int)) w := fun w k => ix9 w _ k i b hb
            have hltI : (i : Int) < (l.length : Int) + 1 := by omega
            have hw : IntKind.wrap .i64 ((i : Int) + 1) = (i : Int) + 1 := wrap64_in (by omega) (by omega)
            have hc := all_cut (p := signB) hb
            cases h3 : inI 97 b.toNat 122 with
            | true =>
              have h6 : signB b = true := by simp [signB, letB, h3]
              simp [mc75_l0, t0, t18, t19, hltI, hx, r82, h3, hw]
              exact ⟨by omega, by omega, hall.succ hb h6⟩
            | false =>
              cases h4 : inI 48 b.toNat 57 with
              | true =>
                have h6 : signB b = true := by simp [signB, digB, h4]
                simp [mc75_l0, t0, t18, t19, hltI, hx, r82, r83, h3, h4, hw]
                exact ⟨by omega, by omega, hall.succ hb h6⟩
              | false =>
                by_cases h5 : (b.toNat : Int) = 45
                · have h6 : signB b = true := by simp [signB, h5]
                  have e1 : inI 97 45 122 = false := by decide
                  have e2 : inI 48 45 57 = false := by decide
                  simp [mc75_l0, t0, t18, t19, hltI, hx, r82, r83, e1, e2, h5, hw]
                  exact ⟨by omega, by omega, hall.succ hb h6⟩
                · have h6 : signB b = false := by simp [signB, letB, digB, h3, h4, h5]
                  have h7 : wordB (c :: l) = false := by
                    show (decide ((c :: l).length ≤ 16) && (letB c && (c :: l).all signB)) = false
                    rw [hc h6]; simp
                  simp [mc75_l0, t0, t18, t19, hltI, hx, r82, r83, h3, h4, h5, hw, tupV, h7]
          · have hi' : i = l.length + 1 := by omega
            subst hi'
            have h7 : wordB (c :: l) = true := by
              have hall := hall.all (by simp)
              show (decide ((c :: l).length ≤ 16) && (letB c && (c :: l).all signB)) = true
              rw [hall, h2]
              simp; omega
            simp [mc75_l0, t0, t18, t19, tupV, h7]
theorem wrap_byte (b : UInt8) : IntKind.wrap .i64 (b.toNat : Int) = (b.toNat : Int) := wrap64_in (by omega) (by have := b.toNat_lt; omega)
def okW (L : List UInt8) : Prop := L.length ≤ 16 ∧ ∃ c l, L = c :: l ∧ letB c = true
def Inv48 (L : List UInt8) (i : Nat) (ok : Bool) : Prop := (ok = true → i ≤ L.length ∧ okTo signB L i ∧ okW L) ∧ (ok = false → wordB L = false)
theorem loop48 {ov : Ov} (h32 : HasP ov 32 S32.F) (L : List UInt8) (Q : Ex → Tm → AW → Prop) (ok : Bool) (t : Tm) (w : AW) (t0 : tget t 0 = .string ⟨⟨L⟩⟩) (t3 : tget t 3 = .bool ok) (t4 : tget t 4 = .int .i64 0)
    (hy : ok = true → okW L) (hn : ok = false → wordB L = false) (hQ : ∀ t w, tget t 3 = .bool (wordB L) → Q (.exit 0) t w) : wp (exM Try.prog (run Try.prog ov 1) (.loop mc48_l0) t w) Q := by
  have r32 := rule32 h32
  refine wp_rounds (fun i t w => tget t 0 = .string ⟨⟨L⟩⟩ ∧ tget t 4 = .int .i64 (i : Nat) ∧ ∃ ok, tget t 3 = .bool ok ∧ Inv48 L i ok) 20 (by decide) ⟨t0, t4, ok, t3, fun h => ⟨Nat.zero_le _, okTo.zero _ _, hy h⟩, hn⟩ ?_
  rintro i t w ⟨t0, t4, ok, t3, hy, hn⟩
  cases ok with
  | false =>
    simp [mc48_l0, t0, t3, t4]
    exact hQ _ _ (by simp [t3, hn rfl])
  | true =>
    obtain ⟨hi, hall, hlen, c, l, rfl, hc⟩ := hy rfl
    simp only [List.length_cons] at hi hlen
    by_cases hlt : i < l.length + 1
    · obtain ⟨b, hb⟩ : ∃ b, (c :: l)[i]? = some b := ⟨_, List.getElem?_eq_getElem (by simpa using hlt)⟩
      have hx : ∀ w k, indexA Try.prog w 9 (.string ⟨⟨c :: l⟩⟩) (.int k (i : Int)) = .val (.int .u8 (b.toNat : Int)) w := fun w k => ix9 w _ k i b hb
      have hltI : (i : Int) < (l.length : Int) + 1 := by omega
      have hw : IntKind.wrap .i64 ((i : Int) + 1) = (i : Int) + 1 := wrap64_in (by omega) (by omega)
      have hwb := wrap_byte b
      have fin : ∀ x : Bool, x = signB b → Inv48 (c :: l) (i + 1) x := by
        intro x hx
        subst hx
        refine ⟨fun h => ⟨hlt, hall.succ hb h, hlen, c, l, rfl, hc⟩, fun h => ?_⟩
        show (decide ((c :: l).length ≤ 16) && (letB c && (c :: l).all signB)) = false
        rw [all_cut hb h]; simp
      cases h3 : inI 97 b.toNat 122 with
      | true =>
        simp [mc48_l0, t0, t3, t4, hltI, hx, r32, h3, hw, hwb]
        exact ⟨by omega, fin true (by simp [signB, letB, h3])⟩
      | false =>
        cases h4 : inI 48 b.toNat 57 with
        | true =>
          simp [mc48_l0, t0, t3, t4, hltI, hx, r32, h3, h4, hw, hwb]
          exact ⟨by omega, fin true (by simp [signB, digB, h4])⟩
        | false =>
          simp [mc48_l0, t0, t3, t4, hltI, hx, r32, h3, h4, hw, hwb]
          refine ⟨by omega, ?_⟩
          by_cases h5 : (b.toNat : Int) = 45
          · exact .inr ⟨h5, fin true (by simp [signB, h5])⟩
          · exact .inl ⟨h5, fin false (by simp [signB, letB, digB, h3, h4, h5])⟩
    · have hi' : i = l.length + 1 := by omega
      subst hi'
      have h7 : wordB (c :: l) = true := by
        show (decide ((c :: l).length ≤ 16) && (letB c && (c :: l).all signB)) = true
        rw [hall.all (by simp), hc]
        simp; omega
      simp [mc48_l0, t0, t3, t4]
      exact hQ _ _ (by simp [t3, h7])
theorem run48 {ov : Ov} (ho : ∀ args w, ov 48 args w = none) (h32 : HasP ov 32 S32.F) (s : ByteArray) (w : AW) : ∃ v w', (run Try.prog ov 2).call 48 [.string s] w .none = .ok (.ret v) w' .none ∧ v = .bool (wordB s.data.toList) := by
  refine call_wp text48 (by simp) (ho _ _) ?_
  have r32 := rule32 h32
  obtain ⟨⟨L⟩⟩ := s
  cases L with
  | nil =>
    have h1 : inI 1 0 16 = false := by decide
    simp [mc48, r32, h1]
    refine wp_seqX (wp_blockX (loop48 h32 [] _ false _ _ ?_ ?_ ?_ (fun h => by cases h) (fun _ => rfl) fun t w h => ?_)) <;> simp [tupV, *]
  | cons c l =>
    have hx0 : ∀ w k, indexA Try.prog w 9 (.string ⟨⟨c :: l⟩⟩) (.int k 0) = .val (.int .u8 (c.toNat : Int)) w := fun w k => ix9 w _ k 0 c rfl
    have hwb := wrap_byte c
    cases h1 : inI 1 ((l.length : Int) + 1) 16 with
    | false =>
      have h2 : ¬ (c :: l).length ≤ 16 := by
        simp [inI] at h1 ⊢; omega
      simp [mc48, r32, h1]
      have h3 : wordB (c :: l) = false := by
        show (decide ((c :: l).length ≤ 16) && (letB c && (c :: l).all signB)) = false
        simp only [h2, decide_false, Bool.false_and]
      refine wp_seqX (wp_blockX (loop48 h32 (c :: l) _ false _ _ ?_ ?_ ?_ (fun h => by cases h) (fun _ => h3) fun t w h => ?_)) <;> simp [tupV, *]
    | true =>
      have h2 : (c :: l).length ≤ 16 := by
        simp [inI] at h1 ⊢; omega
      simp [mc48, r32, h1, hx0, hwb]
      have h3 : letB c = false → wordB (c :: l) = false := fun h => by
        show (decide ((c :: l).length ≤ 16) && (letB c && (c :: l).all signB)) = false
        simp [h]
      refine wp_seqX (wp_blockX (loop48 h32 (c :: l) _ (letB c) _ _ ?_ ?_ ?_ (fun h => ⟨h2, c, l, rfl, h⟩) h3 fun t w h => ?_))
      · simp
      · simp [letB]
      · simp
      · simp [tupV, h]
def S75 : PSpec where
  R args _ v := ∃ s : ByteArray, args = [.string s] ∧ v = .bool (wordB s.data.toList)
  uniq := by rintro _ _ _ _ ⟨n, rfl, rfl⟩ ⟨_, h, rfl⟩; cases h; rfl
  shut h := h
theorem run57 {ov : Ov} (ho : ∀ args w, ov 57 args w = none) (n a b : Int) (w : AW) : ∃ v w', (run Try.prog ov 2).call 57 [.int .i64 n, .int .i64 a, .int .i64 b] w .none = .ok (.ret v) w' .none ∧ v = .bool (inI a n b) := by
  refine call_wp text57 (by simp) (ho _ _) ?_
  by_cases h1 : a ≤ n <;> simp [mc57, h1, tupV, inI]
theorem len26V {α : Type} {w w' : AW} {v : Value} {l : List α} {f : α → List Value} (h : RowsV f w v l) : lenB Try.prog w' 26 v = .val (.int .i64 (l.length : Nat)) w' := by
  obtain ⟨a, c, rfl⟩ := h.len; simp
theorem len22V {α : Type} {w w' : AW} {v : Value} {l : List α} {f : α → List Value} (h : RowsV f w v l) : lenB Try.prog w' 22 v = .val (.int .i64 (l.length : Nat)) w' := by
  obtain ⟨a, c, rfl⟩ := h.len; simp
theorem len23V {α : Type} {w w' : AW} {v : Value} {l : List α} {f : α → List Value} (h : RowsV f w v l) : lenB Try.prog w' 23 v = .val (.int .i64 (l.length : Nat)) w' := by
  obtain ⟨a, c, rfl⟩ := h.len; simp
end Go.Proofs.Ythfidomphkednaa.walk

namespace Go.Proofs.Ythfidomphkednaa.walk
open Go Go.Sh
set_option maxRecDepth 100000
set_option linter.unusedSimpArgs false
set_option linter.unusedVariables false
/-! lists of numbers -/
theorem take_succ_eq {α : Type} {U V : List α} {i : Nat} {a b : α} (hu : U[i]? = some a) (hv : V[i]? = some b) (h : U.take i = V.take i) (e : a = b) : U.take (i + 1) = V.take (i + 1) := by
  rw [List.take_add_one, List.take_add_one, h, hu, hv, e]
def S16 : PSpec where
  R args w v := ∃ (a b : Value) (U V : List Int), args = [a, b] ∧ RowsV intC w a U ∧ RowsV intC w b V ∧ U.length ≤ 2 ^ 60 ∧ v = .bool (decide (U = V))
  uniq := by
    rintro _ _ _ _ ⟨a, b, U, V, rfl, h1, h2, _, rfl⟩ ⟨a', b', U', V', e, k1, k2, _, rfl⟩
    cases e
    rw [h1.uniq (m := 1) intC_length intC_inj k1, h2.uniq (m := 1) intC_length intC_inj k2]
  shut h := h
theorem run16 {ov : Ov} (ho : ∀ args w, ov 16 args w = none) (U V : List Int) (hlen : U.length ≤ 2 ^ 60) (u v : Value) (w : AW) (hu : RowsV intC w u U) (hv : RowsV intC w v V) : ∃ y w', (run Try.prog ov 2).call 16 [u, v] w .none = .ok (.ret y) w' .none ∧ y = .bool (decide (U = V)) := by
  refine call_wp text16 (by simp) (ho _ _) ?_
  have hlu := fun w2 => len26V (w' := w2) hu
  have hlv := fun w2 => len26V (w' := w2) hv
  by_cases hll : U.length = V.length
  · have hll' : (U.length : Int) = (V.length : Int) := by omega
    simp [mc16, hlu, hlv, hll']
    refine wp_seqX (wp_blockX (wp_rounds (fun i t w' => w' = w ∧ tget t 0 = u ∧ tget t 1 = v ∧ tget t 6 = .int .i64 (i : Nat) ∧ ((tget t 5 = .bool true ∧ i ≤ U.length ∧ U.take i = V.take i) ∨ (tget t 5 = .bool false ∧ U ≠ V))) (2 ^ 60 + 1) (by decide) ⟨rfl, by simp, by simp, by simp, .inl ⟨by simp, Nat.zero_le _, rfl⟩⟩ ?_))
    rintro i t w' ⟨rfl, t0, t1, t6, hh⟩
    rcases hh with ⟨t5, hi, hq⟩ | ⟨t5, hne⟩
    · by_cases hlt : i < U.length
      · obtain ⟨z, hz⟩ : ∃ z, U[i]? = some z := ⟨_, List.getElem?_eq_getElem hlt⟩
        obtain ⟨y, hy⟩ : ∃ z, V[i]? = some z := ⟨_, List.getElem?_eq_getElem (by omega)⟩
        obtain ⟨b, off, sq, cp, rfl, hr⟩ := hu.at_ i hlt
        obtain ⟨b', off', sq', cp', rfl, hr'⟩ := hv.at_ i (by omega)
        have hld := hr.int hz
        have hld' := hr'.int hy
        have hia := fun w => ia26 w ⟨b, off, sq⟩ U.length cp .i64 i hlt
        have hia' := fun w => ia26 w ⟨b', off', sq'⟩ V.length cp' .i64 i (by omega)
        simp only [Nat.mul_one] at hia hia'
        have hw1 : IntKind.wrap .i64 ((i : Int) + 1) = (i : Int) + 1 := wrap64_in (by omega) (by omega)
        have hlt' : (i : Int) < (V.length : Int) := by omega
        by_cases hzy : z = y
        · have := take_succ_eq hz hy hq hzy
          simp [mc16_l0, t0, t1, t5, t6, hlt, hlt', hia, hia', hld, hld', hlu, hw1, hzy]
          exact ⟨by omega, by omega, this⟩
        · have hne : U ≠ V := fun e => by rw [e, hy] at hz; cases hz; exact hzy rfl
          simp [mc16_l0, t0, t1, t5, t6, hlt, hlt', hia, hia', hld, hld', hlu, hw1, hzy]
          exact ⟨by omega, hne⟩
      · have hi' : i = U.length := by omega
        have e : U = V := by
          rw [hi', List.take_length, hll, List.take_length] at hq
          exact hq
        subst hi'
        simp [mc16_l0, t0, t5, t6, hlu, tupV, e]
    · simp [mc16_l0, t0, t5, t6, hlu, tupV, hne]
  · have hll' : ¬ (U.length : Int) = (V.length : Int) := by omega
    have hne : U ≠ V := fun e => hll (by rw [e])
    simp [mc16, hlu, hlv, hll']
    refine wp_seqX (wp_blockX (wp_rounds (fun i t w' => tget t 5 = .bool false) 2 (by decide) (by simp) ?_))
    intro i t w' t5
    simp [mc16_l0, t5, tupV, hne]
def totW (l : List Int) : Int := l.foldl (fun s z => IntKind.wrap .i64 (s + z)) 0
def totL : List Int → Int
  | [] => 0
  | a :: l => a + totL l
theorem totL_app : ∀ a b : List Int, totL (a ++ b) = totL a + totL b
  | [], b => by simp [totL]
  | d :: a, b => by simp only [List.cons_append, totL, totL_app a b]; omega
theorem totL_in : ∀ {l : List Int} {M : Int}, (∀ z ∈ l, 0 ≤ z ∧ z ≤ M) → 0 ≤ totL l ∧ totL l ≤ M * l.length
  | [], M, _ => by simp [totL]
  | a :: l, M, h => by
    have h1 := h a (List.mem_cons_self ..)
    have h2 := totL_in (l := l) fun z hz => h z (List.mem_cons_of_mem _ hz)
    simp only [totL, List.length_cons]
    rw [Int.natCast_add, Int.mul_add]
    omega
theorem totW_app (l : List Int) (z : Int) : totW (l ++ [z]) = IntKind.wrap .i64 (totW l + z) := by simp [totW, List.foldl_append]
theorem snoc_ind {α : Type} {p : List α → Prop} (h0 : p []) (h1 : ∀ l a, p l → p (l ++ [a])) (l : List α) : p l := by
  have : ∀ n (l : List α), l.length = n → p l := by
    intro n
    induction n with
    | zero => intro l hl; rw [List.length_eq_zero_iff.1 hl]; exact h0
    | succ n ih =>
      intro l hl
      have hne : l ≠ [] := by intro e; rw [e] at hl; simp at hl
      have e := List.dropLast_concat_getLast hne
      rw [← e]
      exact h1 _ _ (ih _ (by rw [List.length_dropLast]; omega))
  exact this _ l rfl
theorem totW_eq {l : List Int} : (∀ z ∈ l, 0 ≤ z ∧ z ≤ 2 ^ 40) → l.length ≤ 1000 → totW l = totL l := by
  induction l using snoc_ind with
  | h0 => intros; rfl
  | h1 l a ih =>
    intro h hl
    rw [List.length_append, List.length_singleton] at hl
    have h2 : ∀ z ∈ l, 0 ≤ z ∧ z ≤ 2 ^ 40 := fun z hz => h z (List.mem_append_left _ hz)
    have h1 := h a (by simp)
    have h3 := totL_in h2
    rw [totW_app, totL_app, ih h2 (by omega)]
    have : (2 ^ 40 : Int) * l.length ≤ 2 ^ 40 * 1000 := Int.mul_le_mul_of_nonneg_left (by omega) (by decide)
    rw [wrap64_in (by omega) (by omega)]
    simp [totL]
theorem totW_step {l : List Int} {i : Nat} {z : Int} (h : l[i]? = some z) : totW (l.take (i + 1)) = IntKind.wrap .i64 (totW (l.take i) + z) := by
  rw [List.take_add_one, h]; exact totW_app _ _
def S62 : PSpec where
  R args w v := ∃ (a : Value) (U : List Int), args = [a] ∧ RowsV intC w a U ∧ U.length ≤ 2 ^ 60 ∧ v = .int .i64 (totW U)
  uniq := by
    rintro _ _ _ _ ⟨a, U, rfl, h1, _, rfl⟩ ⟨a', U', e, k1, _, rfl⟩
    cases e
    rw [h1.uniq (m := 1) intC_length intC_inj k1]
  shut h := h
theorem run62 {ov : Ov} (ho : ∀ args w, ov 62 args w = none) (U : List Int) (hlen : U.length ≤ 2 ^ 60) (u : Value) (w : AW) (hu : RowsV intC w u U) : ∃ y w', (run Try.prog ov 2).call 62 [u] w .none = .ok (.ret y) w' .none ∧ y = .int .i64 (totW U) := by
  refine call_wp text62 (by simp) (ho _ _) ?_
  have hlu := fun w2 => len26V (w' := w2) hu
  simp [mc62, hlu]
  refine wp_seqX (wp_blockX (wp_rounds (fun i t w' => w' = w ∧ tget t 6 = u ∧ tget t 7 = .int .i64 (U.length : Nat) ∧ tget t 8 = .int .i64 (i : Nat) ∧ tget t 3 = .int .i64 (totW (U.take i)) ∧ i ≤ U.length) (2 ^ 60 + 1) (by decide) ⟨rfl, by simp, by simp, by simp, by simp [totW], Nat.zero_le _⟩ ?_))
  rintro i t w' ⟨rfl, t6, t7, t8, t3, hi⟩
  by_cases hlt : i < U.length
  · obtain ⟨z, hz⟩ : ∃ z, U[i]? = some z := ⟨_, List.getElem?_eq_getElem hlt⟩
    obtain ⟨b, off, sq, cp, rfl, hr⟩ := hu.at_ i hlt
    have hld := hr.int hz
    have hia := fun w => ia26 w ⟨b, off, sq⟩ U.length cp .i64 i hlt
    simp only [Nat.mul_one] at hia
    have hw1 : IntKind.wrap .i64 ((i : Int) + 1) = (i : Int) + 1 := wrap64_in (by omega) (by omega)
    have hs := totW_step hz
    simp [mc62_l0, t3, t6, t7, t8, hlt, hia, hld, hw1, hs]
    omega
  · have hi' : i = U.length := by omega
    subst hi'
    simp [mc62_l0, t3, t6, t7, t8, tupV]
theorem run38 {ov : Ov} (ho : ∀ args w, ov 38 args w = none) (U : List Int) (hlen : U.length ≤ 2 ^ 60) (u : Value) (w : AW) (hu : RowsV intC w u U) : ∃ y w', (run Try.prog ov 2).call 38 [u] w .none = .ok (.ret y) w' .none ∧ y = .int .i64 (totW U) := by
  refine call_wp text38 (by simp) (ho _ _) ?_
  have hlu := fun w2 => len26V (w' := w2) hu
  simp [mc38]
  refine wp_seqX (wp_blockX (wp_rounds (fun i t w' => w' = w ∧ tget t 0 = u ∧ tget t 4 = .int .i64 (i : Nat) ∧ tget t 3 = .int .i64 (totW (U.take i)) ∧ i ≤ U.length) (2 ^ 60 + 1) (by decide) ⟨rfl, by simp, by simp, by simp [totW], Nat.zero_le _⟩ ?_))
  rintro i t w' ⟨rfl, t0, t4, t3, hi⟩
  by_cases hlt : i < U.length
  · obtain ⟨z, hz⟩ : ∃ z, U[i]? = some z := ⟨_, List.getElem?_eq_getElem hlt⟩
    obtain ⟨b, off, sq, cp, rfl, hr⟩ := hu.at_ i hlt
    have hld := hr.int hz
    have hia := fun w => ia26 w ⟨b, off, sq⟩ U.length cp .i64 i hlt
    simp only [Nat.mul_one] at hia
    have hw1 : IntKind.wrap .i64 ((i : Int) + 1) = (i : Int) + 1 := wrap64_in (by omega) (by omega)
    have hs := totW_step hz
    simp [mc38_l0, t3, t0, t4, hlt, hia, hld, hw1, hs]
    omega
  · have hi' : i = U.length := by omega
    subst hi'
    simp [mc38_l0, t3, t0, t4, hlu, tupV]
def S60 : PSpec where
  R args _ v := ∃ a b : Int, args = [.int .i64 a, .int .i64 b] ∧ (0 ≤ a ∧ a ≤ 2 ^ 60) ∧ 1 ≤ b ∧ v = .int .i64 (a / b)
  uniq := by rintro _ _ _ _ ⟨n, s, rfl, _, _, rfl⟩ ⟨_, _, h, _, _, rfl⟩; cases h; rfl
  shut h := h
theorem run60 {ov : Ov} (ho : ∀ args w, ov 60 args w = none) (a b : Int) (ha : 0 ≤ a ∧ a ≤ 2 ^ 60) (hb : 1 ≤ b) (w : AW) : ∃ v w', (run Try.prog ov 2).call 60 [.int .i64 a, .int .i64 b] w .none = .ok (.ret v) w' .none ∧ v = .int .i64 (a / b) := by
  refine call_wp text60 (by simp) (ho _ _) ?_
  have hq := fun (c : Bool) w => bin_quo (P := Try.prog) (w := w) 3 c .i64 a b (by omega)
  have hr := fun (c : Bool) w => bin_rem (P := Try.prog) (w := w) 3 c .i64 a b (by omega)
  have h1 := Int.tdiv_eq_ediv_of_nonneg ha.1 (b := b)
  have h2 : ¬ a.tmod b < 0 := by have := Int.tmod_nonneg b ha.1; omega
  have h3 : 0 ≤ a / b := Int.ediv_nonneg ha.1 (by omega)
  have h4 : a / b ≤ a := Int.ediv_le_self _ ha.1
  have w1 : IntKind.wrap .i64 (a / b) = a / b := wrap64_in (by omega) (by omega)
  simp [mc60, hq, hr, h1, h2, w1, tupV]
end Go.Proofs.Ythfidomphkednaa.walk

namespace Go.Proofs.Ythfidomphkednaa.walk
open Go Go.Sh
set_option maxRecDepth 100000
set_option linter.unusedSimpArgs false
set_option linter.unusedVariables false
/-! amounts: arrays of eight numbers -/
def arC (x : Int → Int) : List Value := [.int .i64 (x 0), .int .i64 (x 1), .int .i64 (x 2), .int .i64 (x 3), .int .i64 (x 4), .int .i64 (x 5), .int .i64 (x 6), .int .i64 (x 7)]
@[simp] theorem arC_len (x : Int → Int) : (arC x).length = 8 := by simp [arC]
theorem arC_drop (x : Int → Int) : (arC x).drop 8 = [] := rfl
@[simp] theorem arC_take (x : Int → Int) : (arC x).take 8 = arC x := rfl
@[simp] theorem arC_singles (x : Int → Int) : singles (arC x) = true := by simp [arC]
theorem lt8 {k : Nat} (h : k < 8) : k = 0 ∨ k = 1 ∨ k = 2 ∨ k = 3 ∨ k = 4 ∨ k = 5 ∨ k = 6 ∨ k = 7 := by omega
theorem arC_get (x : Int → Int) {k : Nat} (h : k < 8) : (arC x)[k]? = some (.int .i64 (x (k : Int))) := by
  rcases lt8 h with rfl | rfl | rfl | rfl | rfl | rfl | rfl | rfl <;> rfl
@[simp] theorem arC_getE (x : Int → Int) {k : Nat} (h : k < (arC x).length) : (arC x)[k] = .int .i64 (x (k : Int)) := by
  have := arC_get x (k := k) (by simpa using h)
  rw [List.getElem?_eq_getElem h] at this
  simpa using this
def updF (x : Int → Int) (k v : Int) : Int → Int := fun p => if p = k then v else x p
theorem arC_set (x : Int → Int) (v : Int) {k : Nat} (h : k < 8) : (arC x).take k ++ (.int .i64 v :: (arC x).drop (k + 1)) = arC (updF x (k : Int) v) := by
  rcases lt8 h with rfl | rfl | rfl | rfl | rfl | rfl | rfl | rfl <;> simp [arC, updF]
theorem arC_at {x y : Int → Int} (h : arC x = arC y) {k : Nat} (hk : k < 8) : x (k : Int) = y (k : Int) := by
  have h1 := arC_get x hk
  have h2 := arC_get y hk
  rw [h, h2] at h1
  simpa using h1.symm
/-- nothing behind the eighth -/
def Z8 (x : Int → Int) : Prop := ∀ p, p < 0 ∨ 8 ≤ p → x p = 0
theorem arC_uniq {x y : Int → Int} (hx : Z8 x) (hy : Z8 y) (h : arC x = arC y) : x = y := by
  funext p
  by_cases hp : p < 0 ∨ 8 ≤ p
  · rw [hx p hp, hy p hp]
  · have := arC_at h (k := p.toNat) (by omega)
    rwa [show ((p.toNat : Nat) : Int) = p by omega] at this
theorem arr61 : arrN Try.prog 61 = some (8, 3) := by kernel_rfl
theorem size3 : szOf Try.prog 3 = some 1 := by kernel_rfl
theorem ia61 (w : AW) (a : Addr) (k : IntKind) {i : Nat} (h : i < 8) : indexAddrA Try.prog w 61 (.pointer (some a)) (.int k (i : Int)) = .val (.pointer (some (a.add i))) w := by
  show indexAddrC Try.prog w 61 (.pointer (some a)) (Int.ofNat i) = _
  have h1 : Nat.blt i 8 = true := by simpa [Nat.blt_eq] using h
  unfold indexAddrC
  simp only [arr61]
  show (bif Nat.ble 8 1 then R.fail else indexAddrB Try.prog w a 8 3 (Int.ofNat i)) = _
  have h2 : Nat.ble 8 1 = false := rfl
  rw [h2]
  simp [indexAddrB, idxIn, h1, size3]
theorem arrp3 (cs : List Value) (i : Nat) (v : Value) (h : cs[i]? = some v) : partA Try.prog 3 cs i = some v := by
  have h1 : aggOf Try.prog 3 = some false := by kernel_rfl
  unfold partA
  simp [h1, nth_eq, h]
theorem ix61 (w : AW) (x : Int → Int) (k : IntKind) {i : Nat} (h : i < 8) : indexA Try.prog w 61 (.agg ⟨arC x⟩) (.int k (i : Int)) = .val (.int .i64 (x (i : Int))) w := by
  show indexArr Try.prog w 61 (arC x) (Int.ofNat i) = _
  have h1 : Nat.blt i 8 = true := by simpa [Nat.blt_eq] using h
  unfold indexArr
  simp [arr61, idxIn, h1, size3, arrp3 _ _ _ (arC_get x h)]
theorem al61' (w : AW) : allocA Try.prog w 61 = .val (.pointer (some ⟨w.next, 0, none⟩)) ⟨w.heap.put w.next (some (.cells (arC fun _ => 0) 61 false)), w.next + 1, w.lim⟩ := al61 w
/-! ledgers in memory -/
def ptC (p : Pt) : List Value := [.string p.nm, .int .i64 p.ch]
def dtC (d : Dt) : List Value := [.int .i64 d.f, .int .i64 d.t, .int .i64 d.c]
@[simp] theorem ptC_length (p : Pt) : (ptC p).length = 2 := rfl
@[simp] theorem dtC_length (d : Dt) : (dtC d).length = 3 := rfl
theorem ptC_inj (a b : Pt) (h : ptC a = ptC b) : a = b := by
  cases a; cases b; simp [ptC] at h; simp [h]
theorem dtC_inj (a b : Dt) (h : dtC a = dtC b) : a = b := by
  cases a; cases b; simp [dtC] at h; simp [h]
def CapN (v : Value) : Prop := ∃ a n c, v = .slice a n c ∧ n ≤ c
structure LedV (w : AW) (pv dv : Value) (ps : List Pt) (ds : List Dt) : Prop where
  p : RowsV ptC w pv ps
  d : RowsV dtC w dv ds
  cp : CapN pv
  cd : CapN dv
theorem LedV.up {w w' : AW} {pv dv : Value} {ps : List Pt} {ds : List Dt} (h : LedV w pv dv ps ds) (u : Up w w') : LedV w' pv dv ps ds := ⟨h.p.up u, h.d.up u, h.cp, h.cd⟩
theorem LedV.uniqP {w : AW} {pv dv : Value} {ps ps' : List Pt} {ds ds' : List Dt} (h : LedV w pv dv ps ds) (k : LedV w pv dv ps' ds') : ps = ps' := h.p.uniq (m := 2) ptC_length ptC_inj k.p
theorem LedV.uniqD {w : AW} {pv dv : Value} {ps ps' : List Pt} {ds ds' : List Dt} (h : LedV w pv dv ps ds) (k : LedV w pv dv ps' ds') : ds = ds' := h.d.uniq (m := 3) dtC_length dtC_inj k.d
theorem LedV.shut {w : AW} {pv dv : Value} {ps : List Pt} {ds : List Dt} (h : LedV w pv dv ps ds) : LedV (shutA w) pv dv ps ds := ⟨h.p, h.d, h.cp, h.cd⟩
/-- a ledger and what each owes -/
def l63 (pv dv : Value) (o : Int → Int) : List Value := pv :: dv :: arC o
@[simp] theorem l63_len (pv dv : Value) (o : Int → Int) : (l63 pv dv o).length = 10 := by simp [l63]
theorem l63_inj {pv dv pv' dv' : Value} {o o' : Int → Int} (h : l63 pv dv o = l63 pv' dv' o') : pv = pv' ∧ dv = dv' ∧ arC o = arC o' := by
  simp only [l63, List.cons.injEq] at h
  exact h
theorem l63_at (pv dv : Value) (o : Int → Int) {k : Nat} (h : k < 8) : (pv :: dv :: arC o)[2 + k]? = some (.int .i64 (o (k : Int))) := by
  rw [show 2 + k = k + 1 + 1 by omega, List.getElem?_cons_succ, List.getElem?_cons_succ, arC_get _ h]
@[simp] theorem l63_0 (pv dv : Value) (o : Int → Int) : (pv :: dv :: arC o)[0]? = some pv := rfl
@[simp] theorem l63_2 (v : Value) (o : Int → Int) : (v :: arC o)[0]? = some v := rfl
@[simp] theorem l63_1 (pv dv : Value) (o : Int → Int) : (pv :: dv :: arC o)[1]? = some dv := rfl
@[simp] theorem l63_getE (pv dv : Value) (o : Int → Int) {k : Nat} (h : 2 + k < (pv :: dv :: arC o).length) : (pv :: dv :: arC o)[2 + k] = .int .i64 (o (k : Int)) := by
  have := l63_at pv dv o (k := k) (by simp at h; omega)
  rw [List.getElem?_eq_getElem h] at this
  simpa using this
theorem LOk.z8 {M : Int} {ps : List Pt} {ds : List Dt} (h : LOk M ps ds) : Z8 (owD ds) := fun p hp => h.ow_out (by have := h.n8; omega)
theorem LOk.ha8 {M : Int} {ps : List Pt} {ds : List Dt} (h : LOk M ps ds) (x : Int → Int) : Z8 (haD ps ds x) := fun p hp => by
  have h8 := h.n8
  have h1 := h.in_out x (p := p) (by omega)
  have h2 := ca_out (ps := ps) (p := p) (by omega)
  unfold haD; omega
theorem LOk.nx8 {M : Int} {ps : List Pt} {ds : List Dt} (h : LOk M ps ds) (x : Int → Int) : Z8 (nxD ps ds x) := fun p hp => by
  have h1 := h.ha8 x p hp
  have h2 := h.z8 p hp
  unfold nxD; omega
/-! what is paid of a debt -/
def S63 : PSpec where
  R args w v := ∃ (pv dv : Value) (o x : Int → Int) (d : Dt), args = [.agg ⟨l63 pv dv o⟩, .agg ⟨dtC d⟩, .agg ⟨arC x⟩] ∧ (0 ≤ d.f ∧ d.f < 8) ∧ (1 ≤ d.c ∧ d.c ≤ 100000) ∧ (0 ≤ x d.f ∧ x d.f ≤ 2000000) ∧ 0 < o d.f ∧ v = .int .i64 (ptD o x d)
  uniq := by
    rintro _ _ _ _ ⟨pv, dv, o, x, d, rfl, hf, _, _, _, rfl⟩ ⟨pv', dv', o', x', d', e, _, _, _, _, rfl⟩
    simp only [List.cons.injEq, Value.agg.injEq, Array.mk.injEq, and_true] at e
    obtain ⟨e1, e2, e3⟩ := e
    have := dtC_inj _ _ e2
    subst this
    obtain ⟨_, _, e4⟩ := l63_inj e1
    have h1 := arC_at e3 (k := d.f.toNat) (by omega)
    have h2 := arC_at e4 (k := d.f.toNat) (by omega)
    rw [show ((d.f.toNat : Nat) : Int) = d.f by omega] at h1 h2
    unfold ptD
    rw [h1, h2]
  shut h := h
theorem run63 {ov : Ov} (ho : ∀ args w, ov 63 args w = none) (pv dv : Value) (o x : Int → Int) (d : Dt) (w : AW) (hl : w.lim = w.next) (hf : 0 ≤ d.f ∧ d.f < 8) (hc : 1 ≤ d.c ∧ d.c ≤ 100000) (hx : 0 ≤ x d.f ∧ x d.f ≤ 2000000) (hO : 0 < o d.f) :
    ∃ v w', (run Try.prog ov 2).call 63 [.agg ⟨l63 pv dv o⟩, .agg ⟨dtC d⟩, .agg ⟨arC x⟩] w .none = .ok (.ret v) w' .none ∧ v = .int .i64 (ptD o x d) := by
  refine call_wp text63 (by simp) (ho _ _) ?_
  obtain ⟨f, t, c⟩ := d
  simp only at hf hc hx hO
  obtain ⟨k, rfl⟩ : ∃ k : Nat, f = (k : Int) := ⟨f.toNat, by omega⟩
  have hk : k < 8 := by omega
  have hia := fun w a => ia61 w a .i64 hk
  have g1 := arC_get x hk
  have g2 := l63_at pv dv o hk
  obtain ⟨X, hX⟩ : ∃ X, X = x (k : Int) := ⟨_, rfl⟩
  obtain ⟨O, hOe⟩ : ∃ O, O = o (k : Int) := ⟨_, rfl⟩
  rw [← hX] at g1 hx
  rw [← hOe] at g2 hO
  have e : ptD o x ⟨(k : Int), t, c⟩ = X * c / O := by simp only [ptD, ← hX, ← hOe]
  have h0 : 0 ≤ X * c := Int.mul_nonneg hx.1 (by omega)
  have h1 : X * c ≤ 2000000 * 100000 := Int.mul_le_mul hx.2 hc.2 (by omega) (by omega)
  have w1 : IntKind.wrap .i64 (X * c) = X * c := wrap64_in (by omega) (by omega)
  have hq := fun (cc : Bool) w => bin_quo (P := Try.prog) (w := w) 3 cc .i64 (X * c) O (by omega)
  have h2 := Int.tdiv_eq_ediv_of_nonneg h0 (b := O)
  have h3 : 0 ≤ X * c / O := Int.ediv_nonneg h0 (by omega)
  have h4 : X * c / O ≤ X * c := Int.ediv_le_self _ h0
  have w2 : IntKind.wrap .i64 (X * c / O) = X * c / O := wrap64_in (by omega) (by omega)
  simp [mc63, cellsOf_agg, l63, dtC, hia, g1, g2, w1, hq, h2, w2, tupV, e]
end Go.Proofs.Ythfidomphkednaa.walk

namespace Go.Proofs.Ythfidomphkednaa.walk
open Go Go.Sh
set_option maxRecDepth 100000
set_option linter.unusedSimpArgs false
set_option linter.unusedVariables false
/-- blocks below stay, but for one -/
structure Kp (B : Nat) (we w : AW) : Prop where
  old : ∀ q, q < we.next → q ≠ B → w.heap.get q = we.heap.get q
  next : we.next ≤ w.next
  lim : w.lim = we.lim
theorem Kp.refl (B : Nat) (w : AW) : Kp B w w := ⟨fun _ _ _ => rfl, Nat.le_refl _, rfl⟩
theorem Kp.new {B : Nat} {we : AW} {H : T AObj} {n n' l k : Nat} {o : Option AObj} (h : Kp B we ⟨H, n, l⟩) (hk : we.next ≤ k ∨ k = B) (hn : n ≤ n') : Kp B we ⟨H.put k o, n', l⟩ :=
  ⟨fun q hq hb => by
    show (H.put k o).get q = _
    rw [get_put, if_neg (by omega)]; exact h.old q hq hb, Nat.le_trans h.next hn, h.lim⟩
theorem Kp.up {B : Nat} {w we w' : AW} (u : Up w we) (h : Kp B we w') (hB : w.next ≤ B) : Up w w' :=
  ⟨fun q hq => by have := u.next; rw [h.old q (by omega) (by omega)]; exact u.old q hq, Nat.le_trans u.next h.next, h.lim.trans u.lim⟩
theorem Kp.trans {B : Nat} {a b c : AW} (h : Kp B a b) (k : Kp B b c) : Kp B a c := ⟨fun q h1 h2 => (k.old q (by have := h.next; omega) h2).trans (h.old q h1 h2), Nat.le_trans h.next k.next, k.lim.trans h.lim⟩
abbrev LK (ps : List Pt) (ds : List Dt) : Prop := LOk 2000000 ps ds
theorem sI_bd {g : Dt → Int} {l : List Dt} (h : ∀ d ∈ l, 0 ≤ g d ∧ g d ≤ 100000) (hl : l.length ≤ 16) : 0 ≤ sI g l ∧ sI g l ≤ 1600000 := by
  have h1 : sI g l ≤ sI (fun _ => 100000) l := sI_le fun d hd => (h d hd).2
  rw [sI_const] at h1
  have h2 : 0 ≤ sI g l := sI_nonneg fun d hd => (h d hd).1
  omega
theorem sI_step {g : Dt → Int} {l : List Dt} {i : Nat} {d : Dt} (h : l[i]? = some d) : sI g (l.take (i + 1)) = sI g (l.take i) + g d := by
  rw [List.take_add_one, h, sI_app]; simp [sI]
def caK (ps : List Pt) (i : Nat) : Int → Int := fun p => if p < (i : Int) then caP ps p else 0
theorem caK_zero (ps : List Pt) : caK ps 0 = fun _ => 0 := by
  funext p
  unfold caK
  split
  · rw [ca_out (.inl (by omega))]
  · rfl
theorem caK_step {ps : List Pt} {i : Nat} {a : Pt} (h : ps[i]? = some a) : updF (caK ps i) (i : Int) a.ch = caK ps (i + 1) := by
  funext p
  unfold updF caK
  by_cases h1 : p = (i : Int)
  · subst h1
    rw [if_pos rfl, if_pos (by omega), ca_at h]
  · rw [if_neg h1]
    by_cases h2 : p < (i : Int)
    · rw [if_pos h2, if_pos (by omega)]
    · rw [if_neg h2, if_neg (by omega)]
theorem caK_all (ps : List Pt) : caK ps ps.length = caP ps := by
  funext p
  unfold caK
  split
  · rfl
  · rw [ca_out (.inr (by omega))]
def inF (o x : Int → Int) (ds : List Dt) (i : Nat) (p : Int) : Int := sI (fun d => if d.t = p then ptD o x d else 0) (ds.take i)
def haF (ps : List Pt) (o x : Int → Int) (ds : List Dt) (i : Nat) : Int → Int := fun p => caP ps p + inF o x ds i p
theorem haF_zero (ps : List Pt) (o x : Int → Int) (ds : List Dt) : haF ps o x ds 0 = caP ps := by
  funext p; simp [haF, inF, sI]
theorem haF_all (ps : List Pt) (x : Int → Int) (ds : List Dt) : haF ps (owD ds) x ds ds.length = haD ps ds x := by
  funext p; simp [haF, inF, haD, inD]
theorem haF_step {ps : List Pt} {o x : Int → Int} {ds : List Dt} {i : Nat} {d : Dt} (h : ds[i]? = some d) : updF (haF ps o x ds i) d.t (haF ps o x ds i d.t + ptD o x d) = haF ps o x ds (i + 1) := by
  funext p
  unfold updF haF inF
  rw [sI_step h]
  by_cases h1 : p = d.t
  · subst h1
    simp only [if_true]; omega
  · have h2 : ¬ d.t = p := fun e => h1 e.symm
    simp only [if_neg h1, if_neg h2]; omega
section
variable {ps : List Pt} {ds : List Dt} {x : Int → Int}
theorem pt_bd (h : LK ps ds) (hx : ∀ p, 0 ≤ x p ∧ x p ≤ owD ds p) {d : Dt} (hd : d ∈ ds) : 0 ≤ ptD (owD ds) x d ∧ ptD (owD ds) x d ≤ 100000 := by
  have h1 := h.pt_in hx hd
  have h2 := (h.debt d hd).2.2.2.2
  omega
theorem haF_bd (h : LK ps ds) (hx : ∀ p, 0 ≤ x p ∧ x p ≤ owD ds p) (i : Nat) (p : Int) : 0 ≤ haF ps (owD ds) x ds i p ∧ haF ps (owD ds) x ds i p ≤ 3600000 := by
  have h1 := h.ca p
  have h2 := sI_bd (g := fun d => if d.t = p then ptD (owD ds) x d else 0) (l := ds.take i) (fun d hd => by
    have := pt_bd h hx (List.mem_of_mem_take hd)
    show 0 ≤ (if d.t = p then ptD (owD ds) x d else 0) ∧ (if d.t = p then ptD (owD ds) x d else 0) ≤ 100000
    split <;> omega) (by have := h.d16; rw [List.length_take]; omega)
  unfold haF inF
  omega
end
def S44 : PSpec where
  R args w v := ∃ (pv dv : Value) (ps : List Pt) (ds : List Dt) (x : Int → Int), args = [.agg ⟨l63 pv dv (owD ds)⟩, .agg ⟨arC x⟩] ∧ LedV w pv dv ps ds ∧ LK ps ds ∧ (∀ p, 0 ≤ x p ∧ x p ≤ owD ds p) ∧ v = .agg ⟨arC (haD ps ds x)⟩
  uniq := by
    rintro _ _ _ _ ⟨pv, dv, ps, ds, x, rfl, hL, hk, hx, rfl⟩ ⟨pv', dv', ps', ds', x', e, hL', hk', hx', rfl⟩
    simp only [List.cons.injEq, Value.agg.injEq, Array.mk.injEq, and_true] at e
    obtain ⟨e1, e2⟩ := e
    obtain ⟨rfl, rfl, _⟩ := l63_inj e1
    have := hL.uniqP hL'
    subst this
    have := hL.uniqD hL'
    subst this
    have z := hk.z8
    have := arC_uniq (fun p hp => by have h1 := z p hp; have h2 := hx p; omega) (fun p hp => by have h1 := z p hp; have h2 := hx' p; omega) e2
    subst this; rfl
  shut := by
    rintro _ _ _ ⟨pv, dv, ps, ds, x, h1, h2, h3⟩
    exact ⟨pv, dv, ps, ds, x, h1, h2.shut, h3⟩
theorem run44 {ov : Ov} (ho : ∀ args w, ov 44 args w = none) (h63 : HasP ov 63 S63.F) (pv dv : Value) (ps : List Pt) (ds : List Dt) (x : Int → Int) (w : AW) (hl : w.lim = w.next) (hL : LedV w pv dv ps ds) (hk : LK ps ds) (hx : ∀ p, 0 ≤ x p ∧ x p ≤ owD ds p) :
    ∃ v w', (run Try.prog ov 2).call 44 [.agg ⟨l63 pv dv (owD ds)⟩, .agg ⟨arC x⟩] w .none = .ok (.ret v) w' .none ∧ v = .agg ⟨arC (haD ps ds x)⟩ := by
  refine call_wp text44 (by simp) (ho _ _) ?_
  have hl22 := fun w2 => len22V (w' := w2) hL.p
  have hl23 := fun w2 => len23V (w' := w2) hL.d
  have h8 := hk.n8
  have h16 := hk.d16
  obtain ⟨w1, hw1⟩ : ∃ w1, w1 = (⟨(((w.heap.put w.next (some (.cells (l63 pv dv (owD ds)) 63 false))).put (w.next + 1) (some (.cells (arC x) 61 false))).put (w.next + 2) (some (.cells (arC fun _ => 0) 61 false))).put (w.next + 3) (some (.cells (arC fun _ => 0) 61 false)), w.next + 4, w.lim⟩ : AW) := ⟨_, rfl⟩
  have u1 : Up w w1 := by
    rw [hw1]
    exact ((((Up.refl w).put (Nat.le_refl _) (Nat.le_refl _)).put (Nat.le_succ _) (Nat.le_refl _)).put (by omega) (Nat.le_refl _)).put (by omega) (by omega)
  have n1 : w1.next = w.next + 4 := by rw [hw1]
  have m1 : w1.lim = w.lim := by rw [hw1]
  have a2 : w1.heap.get w.next = some (.cells (pv :: dv :: arC (owD ds)) 63 false) := by rw [hw1]; simp [l63]
  have a3 : w1.heap.get (w.next + 1) = some (.cells (arC x) 61 false) := by rw [hw1]; simp
  have a4 : w1.heap.get (w.next + 2) = some (.cells (arC fun _ => 0) 61 false) := by rw [hw1]; simp
  have a5 : w1.heap.get (w.next + 3) = some (.cells (arC (caK ps 0)) 61 false) := by rw [hw1, caK_zero]; simp
  simp [mc44, cellsOf_agg, l63, al61', -al61, hl22, hl23]
  rw [show (⟨(((w.heap.put w.next (some (.cells (pv :: dv :: arC (owD ds)) 63 false))).put (w.next + 1) (some (.cells (arC x) 61 false))).put (w.next + 1 + 1) (some (.cells (arC fun _ => 0) 61 false))).put (w.next + 1 + 1 + 1) (some (.cells (arC fun _ => 0) 61 false)), w.next + 1 + 1 + 1 + 1, w.lim⟩ : AW) = w1 from by rw [hw1]; rfl]
  refine wp_seqX (wp_blockX (wp_rounds (fun i t w' => Kp (w.next + 3) w1 w' ∧ w'.heap.get (w.next + 3) = some (.cells (arC (caK ps i)) 61 false) ∧ tget t 2 = .pointer (some ⟨w.next, 0, none⟩) ∧ tget t 3 = .pointer (some ⟨w.next + 1, 0, none⟩) ∧ tget t 4 = .pointer (some ⟨w.next + 2, 0, none⟩) ∧ tget t 5 = .pointer (some ⟨w.next + 3, 0, none⟩) ∧ tget t 12 = pv ∧ tget t 13 = .int .i64 (ps.length : Nat) ∧ tget t 14 = .int .i64 (i : Nat) ∧ i ≤ ps.length) 20 (by decide) ⟨Kp.refl _ _, a5, by simp, by simp, by simp, by simp, by simp, by simp, by simp, Nat.zero_le _⟩ ?_))
  rintro i t w' ⟨hkp, g5, t2, t3, t4, t5, t12, t13, t14, hi⟩
  have hw1' : IntKind.wrap .i64 ((i : Int) + 1) = (i : Int) + 1 := wrap64_in (by omega) (by omega)
  have hlm := hkp.lim
  have hnx := hkp.next
  by_cases hlt : i < ps.length
  · obtain ⟨a, ha⟩ : ∃ a, ps[i]? = some a := ⟨_, List.getElem?_eq_getElem hlt⟩
    obtain ⟨b, off, sq, c, rfl, hra⟩ := (hL.p.up (hkp.up u1 (by omega))).at_ i hlt
    have hld := hra.rd ptC_length ha
    have hia := fun w => ia22 w ⟨b, off, sq⟩ ps.length c .i64 i hlt
    have hia6 := fun w a => ia61 w a .i64 (show i < 8 by omega)
    simp only [ptC] at hld
    have hst := caK_step ha
    have q1 : ¬ w.next + 3 = w'.next := by omega
    have q5 : w'.lim ≤ w'.next := by omega
    have q2 : w'.lim ≤ w.next + 3 := by omega
    have q3 : i ≤ 7 := by omega
    have q4 : i < 8 := by omega
    simp [mc44_l0, t2, t3, t4, t5, t12, t13, t14, hlt, hia, hld, hia6, g5, q1, q5, q2, q3, q4, arC_set, hst, hw1']
    refine ⟨by omega, ?_, by omega⟩
    exact ((hkp.new (.inl hnx) (Nat.le_refl _)).new (.inl hnx) (Nat.le_refl _)).new (.inr rfl) (Nat.le_succ _)
  · have hi' : i = ps.length := by omega
    subst hi'
    have b2 : w'.heap.get w.next = some (.cells (pv :: dv :: arC (owD ds)) 63 false) := by rw [hkp.old _ (by omega) (by omega)]; exact a2
    simp [mc44_l0, t2, t3, t4, t5, t12, t13, t14, b2, hl23]
    rw [caK_all, ← haF_zero ps (owD ds) x ds] at g5
    refine wp_seqX (wp_blockX (wp_rounds (fun i t w2 => Kp (w.next + 3) w1 w2 ∧ w2.heap.get (w.next + 3) = some (.cells (arC (haF ps (owD ds) x ds i)) 61 false) ∧ tget t 2 = .pointer (some ⟨w.next, 0, none⟩) ∧ tget t 3 = .pointer (some ⟨w.next + 1, 0, none⟩) ∧ tget t 4 = .pointer (some ⟨w.next + 2, 0, none⟩) ∧ tget t 5 = .pointer (some ⟨w.next + 3, 0, none⟩) ∧ tget t 26 = dv ∧ tget t 27 = .int .i64 (ds.length : Nat) ∧ tget t 28 = .int .i64 (i : Nat) ∧ i ≤ ds.length) 20 (by decide) ⟨hkp, g5, by simp [t2], by simp [t3], by simp [t4], by simp [t5], by simp, by simp, by simp, Nat.zero_le _⟩ ?_))
    clear hkp g5 t2 t3 t4 t5 t12 t13 t14 hlm hnx b2
    rintro i t w' ⟨hkp, g5, t2, t3, t4, t5, t26, t27, t28, hi⟩
    have hlm := hkp.lim
    have hnx := hkp.next
    by_cases hlt : i < ds.length
    · obtain ⟨d, hd⟩ : ∃ a, ds[i]? = some a := ⟨_, List.getElem?_eq_getElem hlt⟩
      have hdm := List.mem_of_getElem? hd
      obtain ⟨b, off, sq, c, rfl, hra⟩ := (hL.d.up (hkp.up u1 (by omega))).at_ i hlt
      have hld := hra.rd dtC_length hd
      have hia := fun w => ia23 w ⟨b, off, sq⟩ ds.length c .i64 i hlt
      have hdb := hk.debt d hdm
      have hxf := hx d.f
      have hol := hk.ow_le d.f
      have hop := hk.ow_pos hdm
      have hpb := pt_bd hk hx hdm
      have hhb := haF_bd hk hx i d.t
      have r63 := fun w => S63.call1 (P := Try.prog) h63 (w := w) ⟨pv, .slice (some ⟨b, off, sq⟩) ds.length c, owD ds, x, d, rfl, ⟨hdb.1.1, by omega⟩, hdb.2.2.2, ⟨hxf.1, by omega⟩, by omega, rfl⟩
      have hst0 := haF_step (ps := ps) (o := owD ds) (x := x) hd
      obtain ⟨V, hV⟩ : ∃ V, V = ptD (owD ds) x d := ⟨_, rfl⟩
      rw [← hV] at r63 hpb hst0
      obtain ⟨f, tt, cc⟩ := d
      simp only at hdb hhb hst0
      obtain ⟨k, rfl⟩ : ∃ k : Nat, tt = (k : Int) := ⟨tt.toNat, by omega⟩
      have hk8 : k < 8 := by omega
      have hia6 := fun w a => ia61 w a .i64 hk8
      simp only [dtC] at hld r63
      have hgt := arC_get (haF ps (owD ds) x ds i) hk8
      obtain ⟨U, hU⟩ : ∃ U, U = haF ps (owD ds) x ds i (k : Int) := ⟨_, rfl⟩
      rw [← hU] at hgt hhb hst0
      have w1' : IntKind.wrap .i64 (U + V) = U + V := wrap64_in (by omega) (by omega)
      have w2' : IntKind.wrap .i64 ((i : Int) + 1) = (i : Int) + 1 := wrap64_in (by omega) (by omega)
      have b2 : w'.heap.get w.next = some (.cells (pv :: .slice (some ⟨b, off, sq⟩) ds.length c :: arC (owD ds)) 63 false) := by rw [hkp.old _ (by omega) (by omega)]; exact a2
      have b3 : w'.heap.get (w.next + 1) = some (.cells (arC x) 61 false) := by rw [hkp.old _ (by omega) (by omega)]; exact a3
      have q0 : ¬ w.next = w'.next := by omega
      have q01 : ¬ w.next + 1 = w'.next := by omega
      have q1 : ¬ w.next + 3 = w'.next := by omega
      have q5 : w'.lim ≤ w'.next := by omega
      have q2 : w'.lim ≤ w.next + 3 := by omega
      have q3 : k ≤ 7 := by omega
      simp only [l63] at r63
      simp [mc44_l1, t2, t3, t4, t5, t26, t27, t28, hlt, hia, hld, hia6, hgt, hU.symm, b2, b3, g5, q0, q01, q1, q5, q2, q3, hk8, arC_set, r63, hst0, w1', w2']
      refine ⟨by omega, ?_, by omega⟩
      exact ((hkp.new (.inl hnx) (Nat.le_refl _)).new (.inl hnx) (Nat.le_refl _)).new (.inr rfl) (Nat.le_succ _)
    · have hi' : i = ds.length := by omega
      subst hi'
      rw [haF_all] at g5
      have b4 : w'.heap.get (w.next + 2) = some (.cells (arC fun _ => 0) 61 false) := by rw [hkp.old _ (by omega) (by omega)]; exact a4
      have q2 : w'.lim ≤ w.next + 2 := by omega
      simp [mc44_l1, t2, t3, t4, t5, t26, t27, t28, g5, b4, q2, arC_drop, cellsOf_agg, tupV]
end Go.Proofs.Ythfidomphkednaa.walk

namespace Go.Proofs.Ythfidomphkednaa.walk
open Go Go.Sh
set_option maxRecDepth 100000
set_option linter.unusedSimpArgs false
set_option linter.unusedVariables false
/-! the lesser one, and the settlement -/
def leK (ps : List Pt) (ds : List Dt) (x : Int → Int) (i : Nat) : Int → Int := fun p => if p < (i : Int) then nxD ps ds x p else haD ps ds x p
theorem leK_zero {ps : List Pt} {ds : List Dt} (h : LK ps ds) (x : Int → Int) : leK ps ds x 0 = haD ps ds x := by
  funext p
  unfold leK
  split
  · rw [h.nx8 x p (by omega), h.ha8 x p (by omega)]
  · rfl
theorem leK_step (ps : List Pt) (ds : List Dt) (x : Int → Int) (i : Nat) : updF (leK ps ds x i) (i : Int) (min (leK ps ds x i (i : Int)) (owD ds (i : Int))) = leK ps ds x (i + 1) := by
  funext p
  unfold updF leK
  by_cases h1 : p = (i : Int)
  · subst h1
    rw [if_pos rfl, if_neg (by omega), if_pos (by omega)]; rfl
  · rw [if_neg h1]
    by_cases h2 : p < (i : Int)
    · rw [if_pos h2, if_pos (by omega)]
    · rw [if_neg h2, if_neg (by omega)]
theorem leK_all {ps : List Pt} {ds : List Dt} (h : LK ps ds) (x : Int → Int) : leK ps ds x 8 = nxD ps ds x := by
  funext p
  unfold leK
  split
  · rfl
  · rw [h.nx8 x p (by omega), h.ha8 x p (by omega)]
def S67 : PSpec where
  R args w v := ∃ (pv dv : Value) (ps : List Pt) (ds : List Dt) (x : Int → Int), args = [.agg ⟨l63 pv dv (owD ds)⟩, .agg ⟨arC x⟩] ∧ LedV w pv dv ps ds ∧ LK ps ds ∧ (∀ p, 0 ≤ x p ∧ x p ≤ owD ds p) ∧ v = .agg ⟨arC (nxD ps ds x)⟩
  uniq := by
    rintro _ _ _ _ ⟨pv, dv, ps, ds, x, rfl, hL, hk, hx, rfl⟩ ⟨pv', dv', ps', ds', x', e, hL', hk', hx', rfl⟩
    simp only [List.cons.injEq, Value.agg.injEq, Array.mk.injEq, and_true] at e
    obtain ⟨e1, e2⟩ := e
    obtain ⟨rfl, rfl, _⟩ := l63_inj e1
    have := hL.uniqP hL'
    subst this
    have := hL.uniqD hL'
    subst this
    have z := hk.z8
    have := arC_uniq (fun p hp => by have h1 := z p hp; have h2 := hx p; omega) (fun p hp => by have h1 := z p hp; have h2 := hx' p; omega) e2
    subst this; rfl
  shut := by
    rintro _ _ _ ⟨pv, dv, ps, ds, x, h1, h2, h3⟩
    exact ⟨pv, dv, ps, ds, x, h1, h2.shut, h3⟩
theorem run67 {ov : Ov} (ho : ∀ args w, ov 67 args w = none) (h44 : HasP ov 44 S44.F) (pv dv : Value) (ps : List Pt) (ds : List Dt) (x : Int → Int) (w : AW) (hl : w.lim = w.next) (hL : LedV w pv dv ps ds) (hk : LK ps ds) (hx : ∀ p, 0 ≤ x p ∧ x p ≤ owD ds p) :
    ∃ v w', (run Try.prog ov 2).call 67 [.agg ⟨l63 pv dv (owD ds)⟩, .agg ⟨arC x⟩] w .none = .ok (.ret v) w' .none ∧ v = .agg ⟨arC (nxD ps ds x)⟩ := by
  refine call_wp text67 (by simp) (ho _ _) ?_
  obtain ⟨w1, hw1⟩ : ∃ w1, w1 = (⟨((w.heap.put w.next (some (.cells (l63 pv dv (owD ds)) 63 false))).put (w.next + 1) (some (.cells (arC x) 61 false))).put (w.next + 2) (some (.cells (arC fun _ => 0) 61 false)), w.next + 3, w.lim⟩ : AW) := ⟨_, rfl⟩
  have u1 : Up w w1 := by
    rw [hw1]
    exact (((Up.refl w).put (Nat.le_refl _) (Nat.le_refl _)).put (Nat.le_succ _) (Nat.le_refl _)).put (by omega) (by omega)
  have r44 := S44.call1 (P := Try.prog) h44 (w := w1) ⟨pv, dv, ps, ds, x, rfl, hL.up u1, hk, hx, rfl⟩
  have n1 : w1.next = w.next + 3 := by rw [hw1]
  have m1 : w1.lim = w.lim := by rw [hw1]
  have a4 : w1.heap.get (w.next + 2) = some (.cells (arC fun _ => 0) 61 false) := by rw [hw1]; simp
  obtain ⟨w2, hw2⟩ : ∃ w2, w2 = (⟨(w1.heap.put (w.next + 3) (some (.cells (arC fun _ => 0) 61 false))).put (w.next + 3) (some (.cells (arC (haD ps ds x)) 61 false)), w.next + 4, w.lim⟩ : AW) := ⟨_, rfl⟩
  have n2 : w2.next = w.next + 4 := by rw [hw2]
  have m2 : w2.lim = w.lim := by rw [hw2]
  have c4 : w2.heap.get (w.next + 2) = some (.cells (arC fun _ => 0) 61 false) := by rw [hw2]; simp [a4]
  have c5 : w2.heap.get (w.next + 3) = some (.cells (arC (leK ps ds x 0)) 61 false) := by rw [hw2, leK_zero hk]; simp
  have hle : w.lim ≤ w.next := by omega
  have hle3 : w.lim ≤ w.next + 1 + 1 + 1 := by omega
  simp only [l63] at r44
  rw [hw1] at r44
  simp only [l63, show w.next + 2 = w.next + 1 + 1 from rfl, show w.next + 3 = w.next + 1 + 1 + 1 from rfl] at r44
  rw [hw1] at hw2
  simp [mc67, cellsOf_agg, l63, al61', -al61, r44, arC_drop, hle3]
  simp only [l63, Nat.add_assoc, Nat.reduceAdd] at hw2 ⊢
  rw [← hw2]
  refine wp_seqX (wp_blockX (wp_rounds (fun i t w' => Kp (w.next + 3) w2 w' ∧ w'.heap.get (w.next + 3) = some (.cells (arC (leK ps ds x i)) 61 false) ∧ tget t 4 = .pointer (some ⟨w.next + 2, 0, none⟩) ∧ tget t 5 = .pointer (some ⟨w.next + 3, 0, none⟩) ∧ tget t 12 = .agg ⟨arC (owD ds)⟩ ∧ tget t 13 = .int .i64 (i : Nat) ∧ i ≤ 8) 20 (by decide) ⟨Kp.refl _ _, c5, by simp, by simp, by simp, by simp, by omega⟩ ?_))
  rintro i t w' ⟨hkp, g5, t4, t5, t12, t13, hi⟩
  have hw1' : IntKind.wrap .i64 ((i : Int) + 1) = (i : Int) + 1 := wrap64_in (by omega) (by omega)
  have hlm := hkp.lim
  have hnx := hkp.next
  by_cases hlt : i < 8
  · have hia6 := fun w a => ia61 w a .i64 hlt
    have hix := fun w => ix61 w (owD ds) .i64 hlt
    have hgt := arC_get (leK ps ds x i) hlt
    have hst := leK_step ps ds x i
    have q2 : w'.lim ≤ w.next + 3 := by omega
    have hltI : (i : Int) < 8 := by omega
    obtain ⟨U, hU⟩ : ∃ U, U = leK ps ds x i (i : Int) := ⟨_, rfl⟩
    obtain ⟨V, hV⟩ : ∃ V, V = owD ds (i : Int) := ⟨_, rfl⟩
    rw [← hU] at hgt hst
    rw [← hV] at hst
    simp only [← hV] at hix
    have q3 : i ≤ 7 := by omega
    simp [mc67_l0, t4, t5, t12, t13, hltI, hlt, q3, hia6, hix, hgt, hU.symm, g5, q2, arC_set, hst, hw1']
    exact ⟨by omega, hkp.new (.inr rfl) (Nat.le_refl _)⟩
  · have hi' : i = 8 := by omega
    subst hi'
    rw [leK_all hk] at g5
    have b4 : w'.heap.get (w.next + 2) = some (.cells (arC fun _ => 0) 61 false) := by rw [hkp.old _ (by omega) (by omega)]; exact c4
    have q2 : w'.lim ≤ w.next + 2 := by omega
    simp [mc67_l0, t4, t5, t12, t13, g5, b4, q2, arC_drop, cellsOf_agg, tupV]
end Go.Proofs.Ythfidomphkednaa.walk

namespace Go.Proofs.Ythfidomphkednaa.walk
open Go Go.Sh
set_option maxRecDepth 100000
set_option linter.unusedSimpArgs false
set_option linter.unusedVariables false
def arE (x y : Int → Int) : Bool := decide (x 0 = y 0) && (decide (x 1 = y 1) && (decide (x 2 = y 2) && (decide (x 3 = y 3) && (decide (x 4 = y 4) && (decide (x 5 = y 5) && (decide (x 6 = y 6) && decide (x 7 = y 7)))))))
theorem eq_ar (x y : Int → Int) : sameL [0, 0, 0, 0, 0, 0, 0, 0] (arC x) (arC y) = some (arE x y) := by
  unfold arE arC
  generalize x 0 = a0; generalize x 1 = a1; generalize x 2 = a2; generalize x 3 = a3
  generalize x 4 = a4; generalize x 5 = a5; generalize x 6 = a6; generalize x 7 = a7
  generalize y 0 = b0; generalize y 1 = b1; generalize y 2 = b2; generalize y 3 = b3
  generalize y 4 = b4; generalize y 5 = b5; generalize y 6 = b6; generalize y 7 = b7
  simp [eqFlat, flatCells, sameL, same1, sameInt, sameK_refl, intEq_eq]
  first | done | (rw [Bool.eq_iff_iff]; simp)
theorem arE_true {x y : Int → Int} (h : arE x y = true) : arC x = arC y := by
  simp only [arE, Bool.and_eq_true, decide_eq_true_eq] at h
  obtain ⟨h0, h1, h2, h3, h4, h5, h6, h7⟩ := h
  simp only [arC, h0, h1, h2, h3, h4, h5, h6, h7]
theorem arE_all {x y : Int → Int} (h : ∀ k : Nat, k < 8 → x (k : Int) = y (k : Int)) : arE x y = true := by
  have e0 : x 0 = y 0 := h 0 (by decide)
  have e1 : x 1 = y 1 := h 1 (by decide)
  have e2 : x 2 = y 2 := h 2 (by decide)
  have e3 : x 3 = y 3 := h 3 (by decide)
  have e4 : x 4 = y 4 := h 4 (by decide)
  have e5 : x 5 = y 5 := h 5 (by decide)
  have e6 : x 6 = y 6 := h 6 (by decide)
  have e7 : x 7 = y 7 := h 7 (by decide)
  simp only [arE, e0, e1, e2, e3, e4, e5, e6, e7, decide_true, Bool.and_self]
theorem z8_of {ps : List Pt} {ds : List Dt} (hk : LK ps ds) {x : Int → Int} (hx : ∀ p, 0 ≤ x p ∧ x p ≤ owD ds p) : Z8 x := fun p hp => by
  have h1 := hk.z8 p hp
  have h2 := hx p
  omega
theorem desc_less {ps : List Pt} {ds : List Dt} (hk : LK ps ds) {x : Int → Int} (hd : DescD ps ds x) (hne : arE (nxD ps ds x) x = false) : totD (nxD ps ds x) < totD x := by
  apply Classical.byContradiction
  intro hn
  have : ∀ k : Nat, k < 8 → nxD ps ds x (k : Int) = x (k : Int) := fun k hk8 => by
    apply Classical.byContradiction
    intro h
    exact hn (tot_lt hd.low hk8 h)
  rw [arE_all this] at hne
  cases hne
end Go.Proofs.Ythfidomphkednaa.walk
