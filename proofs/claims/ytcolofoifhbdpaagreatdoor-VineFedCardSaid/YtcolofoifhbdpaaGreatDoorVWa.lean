/- Part of a proof by a machine of ones own: see the text with the theorem. -/
import Derived.Test.YtcolofoifhbdpaaGreatDoorVT
import Derived.Test.YtcolofoifhbdpaaGreatDoorShF
namespace Go.Proofs.YtcolofoifhbdpaaGreatDoor.walk
open Go Go.Sh
set_option maxRecDepth 100000
/-! what small functions say -/
def inI (a n b : Int) : Bool := decide (a ≤ n) && decide (n ≤ b)
def spanI (lo hi a b : Int) : Bool := decide (a ≤ lo) && (decide (lo ≤ hi) && decide (hi ≤ b))
noncomputable def F15 : PureF := fun args _ => match args with | [.int .i64 n, .int .i64 a, .int .i64 b] => some (.bool (inI a n b)) | _ => none
noncomputable def F13 : PureF := fun args _ => match args with | [.int .u8 c] => some (.bool (inI 97 c 122)) | _ => none
noncomputable def F14 : PureF := fun args _ => match args with | [.int .u8 c] => some (.bool (inI 48 c 57)) | _ => none
theorem rule15 {ov : Ov} (h : HasP ov 15 F15) (n a b : Int) (w : AW) : (run Tryz.prog ov 1).call 15 [.int .i64 n, .int .i64 a, .int .i64 b] w .none = .ok (.ret (.bool (inI a n b))) w .none := h.call rfl
theorem rule13 {ov : Ov} (h : HasP ov 13 F13) (c : Int) (w : AW) : (run Tryz.prog ov 1).call 13 [.int .u8 c] w .none = .ok (.ret (.bool (inI 97 c 122))) w .none := h.call rfl
theorem rule14 {ov : Ov} (h : HasP ov 14 F14) (c : Int) (w : AW) : (run Tryz.prog ov 1).call 14 [.int .u8 c] w .none = .ok (.ret (.bool (inI 48 c 57))) w .none := h.call rfl
theorem run15 {ov : Ov} (ho : ∀ args w, ov 15 args w = none) (n a b : Int) (w : AW) : ∃ v w', (run Tryz.prog ov 2).call 15 [.int .i64 n, .int .i64 a, .int .i64 b] w .none = .ok (.ret v) w' .none ∧ v = .bool (inI a n b) := by
  refine call_wp text15 (by simp) (ho _ _) ?_
  by_cases h1 : a ≤ n <;> simp [mc15, h1, tupV, inI]
theorem run13 {ov : Ov} (ho : ∀ args w, ov 13 args w = none) (c : Int) (w : AW) : ∃ v w', (run Tryz.prog ov 2).call 13 [.int .u8 c] w .none = .ok (.ret v) w' .none ∧ v = .bool (inI 97 c 122) := by
  refine call_wp text13 (by simp) (ho _ _) ?_
  by_cases h1 : 97 ≤ c <;> simp [mc13, h1, tupV, inI]
theorem run14 {ov : Ov} (ho : ∀ args w, ov 14 args w = none) (c : Int) (w : AW) : ∃ v w', (run Tryz.prog ov 2).call 14 [.int .u8 c] w .none = .ok (.ret v) w' .none ∧ v = .bool (inI 48 c 57) := by
  refine call_wp text14 (by simp) (ho _ _) ?_
  by_cases h1 : 48 ≤ c <;> simp [mc14, h1, tupV, inI]
end Go.Proofs.YtcolofoifhbdpaaGreatDoor.walk
namespace Go.Proofs.YtcolofoifhbdpaaGreatDoor.walk
open Go Go.Sh
set_option maxRecDepth 100000
def letB (c : UInt8) : Bool := inI 97 c.toNat 122
def digB (c : UInt8) : Bool := inI 48 c.toNat 57
def signB (c : UInt8) : Bool := letB c || (digB c || decide ((c.toNat : Int) = 45))
def wordB (s : List UInt8) : Bool := match s with | [] => false | c :: _ => decide (s.length ≤ 16) && (letB c && s.all signB)
theorem all_snoc {p : UInt8 → Bool} {l : List UInt8} {i : Nat} {b : UInt8} (hb : l[i]? = some b) : (l.take (i + 1)).all p = ((l.take i).all p && p b) := by
  rw [List.take_add_one, hb]
  simp
theorem all_cut {p : UInt8 → Bool} {l : List UInt8} {i : Nat} {b : UInt8} (hb : l[i]? = some b) (h : p b = false) : l.all p = false := by
  rw [Bool.eq_false_iff]
  intro ha
  have := List.all_eq_true.1 ha b (List.mem_of_getElem? hb)
  rw [h] at this; cases this
def okTo (p : UInt8 → Bool) (l : List UInt8) (i : Nat) : Prop := (l.take i).all p = true
theorem okTo.zero (p : UInt8 → Bool) (l : List UInt8) : okTo p l 0 := by simp [okTo]
theorem okTo.succ {p : UInt8 → Bool} {l : List UInt8} {i : Nat} {b : UInt8} (hb : l[i]? = some b) (h : okTo p l i) (hp : p b = true) : okTo p l (i + 1) := by
  unfold okTo at h ⊢
  rw [all_snoc hb, h, hp]; rfl
theorem okTo.all {p : UInt8 → Bool} {l : List UInt8} {i : Nat} (h : okTo p l i) (hi : l.length ≤ i) : l.all p = true := by
  unfold okTo at h
  rwa [List.take_of_length_le hi] at h
theorem run5 {ov : Ov} (ho : ∀ args w, ov 5 args w = none) (h13 : HasP ov 13 F13) (h14 : HasP ov 14 F14) (s : ByteArray) (w : AW) : ∃ v w', (run Tryz.prog ov 2).call 5 [.string s] w .none = .ok (.ret v) w' .none ∧ v = .bool (wordB s.data.toList) := by
  refine call_wp text5 (by simp) (ho _ _) ?_
  have r13 := rule13 h13
  have r14 := rule14 h14
  obtain ⟨⟨L⟩⟩ := s
  cases hL : L with
  | nil => simp [mc5, wordB, tupV]
  | cons c l =>
    have hx0 : ∀ w k, indexA Tryz.prog w 9 (.string ⟨⟨c :: l⟩⟩) (.int k 0) = .val (.int .u8 (c.toNat : Int)) w := fun w k => ix9 w _ k 0 c rfl
    by_cases h1 : (16 : Int) < (l.length : Int) + 1
    · have h1' : ¬ l.length + 1 ≤ 16 := by omega
      simp [mc5, wordB, tupV, h1, h1']
    · cases h2 : letB c with
      | false =>
        have h2' : inI 97 c.toNat 122 = false := h2
        simp [mc5, wordB, tupV, h1, h2, hx0, r13, h2']
      | true =>
        have h2' : inI 97 c.toNat 122 = true := h2
        simp [mc5, tupV, h1, hx0, r13, h2']
        refine wp_seqX (wp_blockX (wp_rounds (fun i t w => tget t 0 = .string ⟨⟨c :: l⟩⟩ ∧ tget t 18 = .int .i64 ((l.length + 1 : Nat) : Int) ∧ tget t 19 = .int .i64 (i : Nat) ∧ i ≤ l.length + 1 ∧ okTo signB (c :: l) i) 20 (by decide) ?_ ?_))
        · simp [okTo.zero]
        · rintro i t w ⟨t0, t18, t19, hi, hall⟩
          by_cases hlt : i < l.length + 1
          · obtain ⟨b, hb⟩ : ∃ b, (c :: l)[i]? = some b := ⟨_, List.getElem?_eq_getElem (by simpa using hlt)⟩
            have hx : ∀ w k, indexA Tryz.prog w 9 (.string ⟨⟨c :: l⟩⟩) (.int k (i : Int)) = .val (.int .u8 (b.toNat : Int)) w := fun w k => ix9 w _ k i b hb
            have hltI : (i : Int) < (l.length : Int) + 1 := by omega
            have hw : IntKind.wrap .i64 ((i : Int) + 1) = (i : Int) + 1 := wrap64_in (by omega) (by omega)
            have hc := all_cut (p := signB) hb
            cases h3 : inI 97 b.toNat 122 with
            | true =>
              have h6 : signB b = true := by simp [signB, letB, h3]
              simp [mc5_l0, t0, t18, t19, hltI, hx, r13, h3, hw]
              exact ⟨by omega, by omega, hall.succ hb h6⟩
            | false =>
              cases h4 : inI 48 b.toNat 57 with
              | true =>
                have h6 : signB b = true := by simp [signB, digB, h4]
                simp [mc5_l0, t0, t18, t19, hltI, hx, r13, r14, h3, h4, hw]
                exact ⟨by omega, by omega, hall.succ hb h6⟩
              | false =>
                by_cases h5 : (b.toNat : Int) = 45
                · have h6 : signB b = true := by simp [signB, h5]
                  have e1 : inI 97 45 122 = false := by decide
                  have e2 : inI 48 45 57 = false := by decide
                  simp [mc5_l0, t0, t18, t19, hltI, hx, r13, r14, e1, e2, h5, hw]
                  exact ⟨by omega, by omega, hall.succ hb h6⟩
                · have h6 : signB b = false := by simp [signB, letB, digB, h3, h4, h5]
                  have h7 : wordB (c :: l) = false := by
                    show (decide ((c :: l).length ≤ 16) && (letB c && (c :: l).all signB)) = false
                    rw [hc h6]; simp
                  simp [mc5_l0, t0, t18, t19, hltI, hx, r13, r14, h3, h4, h5, hw, tupV, h7]
          · have hi' : i = l.length + 1 := by omega
            subst hi'
            have h7 : wordB (c :: l) = true := by
              have hall := hall.all (by simp)
              show (decide ((c :: l).length ≤ 16) && (letB c && (c :: l).all signB)) = true
              rw [hall, h2]
              simp; omega
            simp [mc5_l0, t0, t18, t19, tupV, h7]
end Go.Proofs.YtcolofoifhbdpaaGreatDoor.walk
namespace Go.Proofs.YtcolofoifhbdpaaGreatDoor.walk
open Go Go.Sh
set_option maxRecDepth 100000
theorem wrap_byte (b : UInt8) : IntKind.wrap .i64 (b.toNat : Int) = (b.toNat : Int) := wrap64_in (by omega) (by have := b.toNat_lt; omega)
def okW (L : List UInt8) : Prop := L.length ≤ 16 ∧ ∃ c l, L = c :: l ∧ letB c = true
def Inv6 (L : List UInt8) (i : Nat) (ok : Bool) : Prop := (ok = true → i ≤ L.length ∧ okTo signB L i ∧ okW L) ∧ (ok = false → wordB L = false)
theorem loop6 {ov : Ov} (h15 : HasP ov 15 F15) (L : List UInt8) (Q : Ex → Tm → AW → Prop) (ok : Bool) (t : Tm) (w : AW) (t0 : tget t 0 = .string ⟨⟨L⟩⟩) (t3 : tget t 3 = .bool ok) (t4 : tget t 4 = .int .i64 0)
    (hy : ok = true → okW L) (hn : ok = false → wordB L = false) (hQ : ∀ t w, tget t 3 = .bool (wordB L) → Q (.exit 0) t w) : wp (exM Tryz.prog (run Tryz.prog ov 1) (.loop mc6_l0) t w) Q := by
  have r15 := rule15 h15
  refine wp_rounds (fun i t w => tget t 0 = .string ⟨⟨L⟩⟩ ∧ tget t 4 = .int .i64 (i : Nat) ∧ ∃ ok, tget t 3 = .bool ok ∧ Inv6 L i ok) 20 (by decide) ⟨t0, t4, ok, t3, fun h => ⟨Nat.zero_le _, okTo.zero _ _, hy h⟩, hn⟩ ?_
  rintro i t w ⟨t0, t4, ok, t3, hy, hn⟩
  cases ok with
  | false =>
    simp [mc6_l0, t0, t3, t4]
    exact hQ _ _ (by simp [t3, hn rfl])
  | true =>
    obtain ⟨hi, hall, hlen, c, l, rfl, hc⟩ := hy rfl
    simp only [List.length_cons] at hi hlen
    by_cases hlt : i < l.length + 1
    · obtain ⟨b, hb⟩ : ∃ b, (c :: l)[i]? = some b := ⟨_, List.getElem?_eq_getElem (by simpa using hlt)⟩
      have hx : ∀ w k, indexA Tryz.prog w 9 (.string ⟨⟨c :: l⟩⟩) (.int k (i : Int)) = .val (.int .u8 (b.toNat : Int)) w := fun w k => ix9 w _ k i b hb
      have hltI : (i : Int) < (l.length : Int) + 1 := by omega
      have hw : IntKind.wrap .i64 ((i : Int) + 1) = (i : Int) + 1 := wrap64_in (by omega) (by omega)
      have hwb := wrap_byte b
      have fin : ∀ x : Bool, x = signB b → Inv6 (c :: l) (i + 1) x := by
        intro x hx
        subst hx
        refine ⟨fun h => ⟨hlt, hall.succ hb h, hlen, c, l, rfl, hc⟩, fun h => ?_⟩
        show (decide ((c :: l).length ≤ 16) && (letB c && (c :: l).all signB)) = false
        rw [all_cut hb h]; simp
      cases h3 : inI 97 b.toNat 122 with
      | true =>
        simp [mc6_l0, t0, t3, t4, hltI, hx, r15, h3, hw, hwb]
        exact ⟨by omega, fin true (by simp [signB, letB, h3])⟩
      | false =>
        cases h4 : inI 48 b.toNat 57 with
        | true =>
          simp [mc6_l0, t0, t3, t4, hltI, hx, r15, h3, h4, hw, hwb]
          exact ⟨by omega, fin true (by simp [signB, digB, h4])⟩
        | false =>
          simp [mc6_l0, t0, t3, t4, hltI, hx, r15, h3, h4, hw, hwb]
          refine ⟨by omega, ?_⟩
          by_cases h5 : (b.toNat : Int) = 45
          · exact .inr ⟨h5, fin true (by simp [signB, h5])⟩
          · exact .inl ⟨h5, fin false (by simp [signB, letB, digB, h3, h4, h5])⟩
    · have hi' : i = l.length + 1 := by omega
      subst hi'
      have h7 : wordB (c :: l) = true := by
        show (decide ((c :: l).length ≤ 16) && (letB c && (c :: l).all signB)) = true
        rw [hall.all (by simp), hc]
        simp; omega
      simp [mc6_l0, t0, t3, t4]
      exact hQ _ _ (by simp [t3, h7])
theorem run6 {ov : Ov} (ho : ∀ args w, ov 6 args w = none) (h15 : HasP ov 15 F15) (s : ByteArray) (w : AW) : ∃ v w', (run Tryz.prog ov 2).call 6 [.string s] w .none = .ok (.ret v) w' .none ∧ v = .bool (wordB s.data.toList) := by
  refine call_wp text6 (by simp) (ho _ _) ?_
  have r15 := rule15 h15
  obtain ⟨⟨L⟩⟩ := s
  cases L with
  | nil =>
    have h1 : inI 1 0 16 = false := by decide
    simp [mc6, r15, h1]
    refine wp_seqX (wp_blockX (loop6 h15 [] _ false _ _ ?_ ?_ ?_ (fun h => by cases h) (fun _ => rfl) fun t w h => ?_)) <;> simp [tupV, *]
  | cons c l =>
    have hx0 : ∀ w k, indexA Tryz.prog w 9 (.string ⟨⟨c :: l⟩⟩) (.int k 0) = .val (.int .u8 (c.toNat : Int)) w := fun w k => ix9 w _ k 0 c rfl
    have hwb := wrap_byte c
    cases h1 : inI 1 ((l.length : Int) + 1) 16 with
    | false =>
      have h2 : ¬ (c :: l).length ≤ 16 := by
        simp [inI] at h1 ⊢; omega
      simp [mc6, r15, h1]
      have h3 : wordB (c :: l) = false := by
        show (decide ((c :: l).length ≤ 16) && (letB c && (c :: l).all signB)) = false
        simp only [h2, decide_false, Bool.false_and]
      refine wp_seqX (wp_blockX (loop6 h15 (c :: l) _ false _ _ ?_ ?_ ?_ (fun h => by cases h) (fun _ => h3) fun t w h => ?_)) <;> simp [tupV, *]
    | true =>
      have h2 : (c :: l).length ≤ 16 := by
        simp [inI] at h1 ⊢; omega
      simp [mc6, r15, h1, hx0, hwb]
      have h3 : letB c = false → wordB (c :: l) = false := fun h => by
        show (decide ((c :: l).length ≤ 16) && (letB c && (c :: l).all signB)) = false
        simp [h]
      refine wp_seqX (wp_blockX (loop6 h15 (c :: l) _ (letB c) _ _ ?_ ?_ ?_ (fun h => ⟨h2, c, l, rfl, h⟩) h3 fun t w h => ?_))
      · simp
      · simp [letB]
      · simp
      · simp [tupV, h]
end Go.Proofs.YtcolofoifhbdpaaGreatDoor.walk

namespace Go.Proofs.YtcolofoifhbdpaaGreatDoor.walk
open Go Go.Sh
set_option maxRecDepth 100000
noncomputable def F5 : PureF := fun args _ => match args with | [.string s] => some (.bool (wordB s.data.toList)) | _ => none
theorem rule5 {ov : Ov} (h : HasP ov 5 F5) (s : ByteArray) (w : AW) : (run Tryz.prog ov 1).call 5 [.string s] w .none = .ok (.ret (.bool (wordB s.data.toList))) w .none := h.call rfl
theorem rule6 {ov : Ov} (h : HasP ov 6 F5) (s : ByteArray) (w : AW) : (run Tryz.prog ov 1).call 6 [.string s] w .none = .ok (.ret (.bool (wordB s.data.toList))) w .none := h.call rfl
noncomputable def F33 : PureF := fun args _ => match args with | [.int .i64 n, .int .i64 b] => some (.bool (inI 0 n b)) | _ => none
theorem rule33 {ov : Ov} (h : HasP ov 33 F33) (n b : Int) (w : AW) : (run Tryz.prog ov 1).call 33 [.int .i64 n, .int .i64 b] w .none = .ok (.ret (.bool (inI 0 n b))) w .none := h.call rfl
theorem run33 {ov : Ov} (ho : ∀ args w, ov 33 args w = none) (n b : Int) (w : AW) : ∃ v w', (run Tryz.prog ov 2).call 33 [.int .i64 n, .int .i64 b] w .none = .ok (.ret v) w' .none ∧ v = .bool (inI 0 n b) := by
  refine call_wp text33 (by simp) (ho _ _) ?_
  by_cases h1 : 0 ≤ n <;> simp [mc33, h1, tupV, inI]
/-! racemes -/
structure Rac where
  need : Int
  flowers : Int
def racC (r : Rac) : List Value := [.int .i64 r.need, .int .i64 r.flowers]
@[simp] theorem racC_length (r : Rac) : (racC r).length = 2 := by simp [racC]
@[simp] theorem racC_singles (r : Rac) : singles (racC r) = true := by simp [racC]
@[simp] theorem racC_drop (r : Rac) : (racC r).drop 2 = [] := by simp [racC]
@[simp] theorem racC_take (r : Rac) : (racC r).take 2 = racC r := by simp [racC]
@[simp] theorem racC_g0 (r : Rac) (h : 0 < (racC r).length) : (racC r)[0] = .int .i64 r.need := by simp [racC]
@[simp] theorem racC_g1 (r : Rac) (h : 1 < (racC r).length) : (racC r)[1] = .int .i64 r.flowers := by simp [racC]
@[simp] theorem racC_0 (r : Rac) : (racC r)[0]? = some (.int .i64 r.need) := by simp [racC]
@[simp] theorem racC_1 (r : Rac) : (racC r)[1]? = some (.int .i64 r.flowers) := by simp [racC]
def racOf (l : List Value) : Option Rac := match l with | [.int .i64 a, .int .i64 b] => some ⟨a, b⟩ | _ => none
theorem racOf_some {l : List Value} {r : Rac} (h : racOf l = some r) : l = racC r := by
  unfold racOf at h
  split at h
  · cases h; rfl
  · cases h
def rac1 (r : Rac) : Bool := inI 0 r.need 2000 && inI 1 r.flowers 20
def racTo (l : List Rac) (i : Nat) : Prop := (l.take i).all rac1 = true
theorem racTo.zero (l : List Rac) : racTo l 0 := by simp [racTo]
theorem racTo.succ {l : List Rac} {i : Nat} {r : Rac} (hr : l[i]? = some r) (h : racTo l i) (h1 : rac1 r = true) : racTo l (i + 1) := by
  unfold racTo at h ⊢
  rw [List.take_add_one, hr]
  simp [h, h1]
theorem racTo.all {l : List Rac} {i : Nat} (h : racTo l i) (hi : l.length ≤ i) : l.all rac1 = true := by
  unfold racTo at h
  rwa [List.take_of_length_le hi] at h
theorem rac_cut {l : List Rac} {i : Nat} {r : Rac} (hr : l[i]? = some r) (h : rac1 r = false) : l.all rac1 = false := by
  rw [Bool.eq_false_iff]
  intro ha
  have := List.all_eq_true.1 ha r (List.mem_of_getElem? hr)
  rw [h] at this; cases this
def racB (l : List Rac) : Bool := decide (l.length ≤ 8) && l.all rac1
/-- rows of a list in a block -/
theorem rows_at {α : Type} {f : α → List Value} {m : Nat} (hf : ∀ a, (f a).length = m) : ∀ (l : List α) (i : Nat) (p : α) (rest : List Value), l[i]? = some p → ((l.flatMap f ++ rest).drop (i * m)).take m = f p ∧ i * m + m ≤ (l.flatMap f ++ rest).length
  | [], i, p, rest, h => by simp at h
  | q :: l, 0, p, rest, h => by
    simp only [List.getElem?_cons_zero, Option.some.injEq] at h
    subst h
    refine ⟨?_, ?_⟩
    · rw [List.flatMap_cons, Nat.zero_mul, List.drop_zero, List.append_assoc, List.take_append_of_le_length (by rw [hf]; omega), List.take_of_length_le (by rw [hf]; omega)]
    · rw [List.flatMap_cons, List.append_assoc, List.length_append, hf]; omega
  | q :: l, i + 1, p, rest, h => by
    rw [List.getElem?_cons_succ] at h
    obtain ⟨h1, h2⟩ := rows_at hf l i p rest h
    have e : (i + 1) * m = (f q).length + i * m := by rw [hf, Nat.add_mul, Nat.one_mul, Nat.add_comm]
    refine ⟨?_, ?_⟩
    · rw [List.flatMap_cons, e, List.append_assoc, ← List.drop_drop, List.drop_left, h1]
    · rw [List.flatMap_cons, e, List.append_assoc, List.length_append]; omega
noncomputable def parseR : Nat → List Value → Option (List Rac)
  | 0, _ => some []
  | n + 1, cs => match racOf (cs.take 2) with
    | some p => match parseR n (cs.drop 2) with
      | some l => some (p :: l)
      | none => none
    | none => none
theorem parseR_some : ∀ (n : Nat) (cs : List Value) (l : List Rac), parseR n cs = some l → l.length = n ∧ ∃ rest, cs = l.flatMap racC ++ rest
  | 0, cs, l, h => by cases h; exact ⟨rfl, cs, rfl⟩
  | n + 1, cs, l, h => by
    unfold parseR at h
    cases h1 : racOf (cs.take 2) with
    | none => rw [h1] at h; cases h
    | some p =>
      rw [h1] at h
      simp only at h
      cases h2 : parseR n (cs.drop 2) with
      | none => rw [h2] at h; cases h
      | some l' =>
        rw [h2] at h
        cases h
        obtain ⟨h3, rest, h4⟩ := parseR_some n _ _ h2
        refine ⟨by simp [h3], rest, ?_⟩
        rw [List.flatMap_cons, List.append_assoc, ← h4, ← racOf_some h1, List.take_append_drop]
theorem parseR_C : ∀ (l : List Rac) (rest : List Value), parseR l.length (l.flatMap racC ++ rest) = some l
  | [], rest => rfl
  | p :: l, rest => by
    have h1 : ((p :: l).flatMap racC ++ rest).take 2 = racC p := by
      rw [List.flatMap_cons, List.append_assoc, List.take_append_of_le_length (by simp), List.take_of_length_le (by simp)]
    have h2 : ((p :: l).flatMap racC ++ rest).drop 2 = l.flatMap racC ++ rest := by
      rw [List.flatMap_cons, List.append_assoc]
      have := List.drop_left (l₁ := racC p) (l₂ := l.flatMap racC ++ rest)
      rwa [racC_length] at this
    show (match racOf (((p :: l).flatMap racC ++ rest).take 2) with | some q => (match parseR l.length (((p :: l).flatMap racC ++ rest).drop 2) with | some k => some (q :: k) | none => none) | none => none) = _
    have h3 : racOf (racC p) = some p := rfl
    rw [h1, h3]
    simp only [h2, parseR_C l rest]
/-- racemes, as a slice over memory whose blocks lie below N -/
noncomputable def racAt (N : Nat) (H : T AObj) (v : Value) : Option (List Rac) :=
  match v with
  | .slice _ 0 _ => some []
  | .slice (some ⟨b, 0, _⟩) n _ => if b < N then (cellsO (H.get b)).bind (parseR n) else none
  | _ => none
theorem cellsO_get {o : Option AObj} {c : List Value} (h : cellsO o = some c) : ∃ e ro, o = some (.cells c e ro) := by
  cases o with
  | none => cases h
  | some o => cases o with
    | cells c' e ro => cases h; exact ⟨e, ro, rfl⟩
    | _ => cases h
structure RowsAt (N : Nat) (H : T AObj) (b : Nat) (l : List Rac) : Prop where
  at_ : ∃ rest e ro, H.get b = some (.cells (l.flatMap racC ++ rest) e ro)
  lt : b < N
theorem racAt_some {N : Nat} {H : T AObj} {v : Value} {l : List Rac} (h : racAt N H v = some l) : (∃ a c, v = .slice a 0 c ∧ l = []) ∨ ∃ b sq c, v = .slice (some ⟨b, 0, sq⟩) l.length c ∧ RowsAt N H b l := by
  unfold racAt at h
  split at h
  · cases h; exact .inl ⟨_, _, rfl, rfl⟩
  · rename_i b sq n c _
    split at h
    · rename_i hb
      obtain ⟨cs, h1, h2⟩ := Option.bind_eq_some_iff.1 h
      obtain ⟨e, ro, h3⟩ := cellsO_get h1
      obtain ⟨h4, rest, h5⟩ := parseR_some n cs l h2
      subst h4 h5
      exact .inr ⟨b, _, c, rfl, ⟨rest, e, ro, h3⟩, hb⟩
    · cases h
  · cases h
theorem racAt_put {N : Nat} {H : T AObj} {v : Value} {l : List Rac} (h : racAt N H v = some l) {N' k : Nat} {o : Option AObj} (hk : N ≤ k) (hN : N ≤ N') : racAt N' (H.put k o) v = some l := by
  unfold racAt at h ⊢
  split at h
  · exact h
  · split at h
    · rename_i hb
      rw [if_pos (by omega), get_put, if_neg (by omega)]
      exact h
    · cases h
  · cases h
theorem racAt_mono {N N' : Nat} {H : T AObj} {v : Value} {l : List Rac} (h : racAt N H v = some l) (hN : N ≤ N') : racAt N' H v = some l := by
  unfold racAt at h ⊢
  split at h
  · exact h
  · split at h
    · rename_i hb
      rw [if_pos (by omega)]
      exact h
    · cases h
  · cases h
noncomputable def F34 : PureF := fun args w => match args with | [v] => (racAt w.next w.heap v).map fun l => .bool (racB l) | _ => none
theorem rule34 {ov : Ov} (h : HasP ov 34 F34) {v : Value} {l : List Rac} {w : AW} (hv : racAt w.next w.heap v = some l) : (run Tryz.prog ov 1).call 34 [v] w .none = .ok (.ret (.bool (racB l))) w .none := h.call (by simp [F34, hv])
theorem rule32 {ov : Ov} (h : HasP ov 32 F34) {v : Value} {l : List Rac} {w : AW} (hv : racAt w.next w.heap v = some l) : (run Tryz.prog ov 1).call 32 [v] w .none = .ok (.ret (.bool (racB l))) w .none := h.call (by simp [F34, hv])
theorem load_rac {H : T AObj} {b i : Nat} {l : List Rac} {rest : List Value} {e : TypeId} {ro : Bool} {r : Rac} (hb : H.get b = some (.cells (l.flatMap racC ++ rest) e ro)) (hp : l[i]? = some r) :
    rdO (H.get b) (i * 2) 2 = some (racC r) ∧ rd1O (H.get b) (i * 2) = some (.int .i64 r.need) ∧ rd1O (H.get b) (i * 2 + 1) = some (.int .i64 r.flowers) := by
  obtain ⟨h1, h2⟩ := rows_at racC_length l i r rest hp
  rw [hb, rdO_cells, if_pos h2, h1, rd1O_cells, rd1O_cells]
  have h3 : (((l.flatMap racC ++ rest).drop (i * 2)).take 2)[0]? = some (.int .i64 r.need) := by rw [h1]; simp
  have h4 : (((l.flatMap racC ++ rest).drop (i * 2)).take 2)[1]? = some (.int .i64 r.flowers) := by rw [h1]; simp
  rw [List.getElem?_take_of_lt (by omega), List.getElem?_drop] at h3 h4
  exact ⟨rfl, by simpa using h3, h4⟩
theorem loop34 {sq : Option Nat} {ov : Ov} (h33 : HasP ov 33 F33) (l : List Rac) (b c : Nat) (Q : Ex → Tm → AW → Prop) (t : Tm) (w : AW) (hw : l = [] ∨ RowsAt w.next w.heap b l) (hlim : w.lim ≤ w.next) (h8 : l.length ≤ 8) (v8 : Value) (t8 : tget t 8 = v8) (hv : ∀ i, i < l.length → v8 = .slice (some ⟨b, 0, sq⟩) l.length c)
    (t9 : tget t 9 = .int .i64 (l.length : Nat)) (t10 : tget t 10 = .int .i64 0) (hyes : l.all rac1 = true → ∀ t w, Q (.exit 0) t w) (hno : l.all rac1 = false → ∀ t w, tget t 2 = .bool false → Q .ret t w) : wp (exM Tryz.prog (run Tryz.prog ov 1) (.loop mc34_l0) t w) Q := by
  have r33 := rule33 h33
  refine wp_rounds (fun i t w => tget t 8 = v8 ∧ tget t 9 = .int .i64 (l.length : Nat) ∧ tget t 10 = .int .i64 (i : Nat) ∧ i ≤ l.length ∧ (l = [] ∨ RowsAt w.next w.heap b l) ∧ w.lim ≤ w.next ∧ racTo l i) 20 (by decide) ⟨t8, t9, t10, Nat.zero_le _, hw, hlim, .zero _⟩ ?_
  clear hw hlim t8 t9 t10
  rintro i t w ⟨t8, t9, t10, hi, hw, hlim, hall⟩
  by_cases hlt : i < l.length
  · obtain ⟨r, hr⟩ : ∃ r, l[i]? = some r := ⟨_, List.getElem?_eq_getElem hlt⟩
    have hv8 := hv i hlt
    have hrows : RowsAt w.next w.heap b l := by
      rcases hw with h | h
      · subst h; simp at hlt
      · exact h
    obtain ⟨rest, e, ro, hcells⟩ := hrows.at_
    obtain ⟨hld, _, _⟩ := load_rac hcells hr
    have hbn : b ≠ w.next := Nat.ne_of_lt hrows.lt
    have hia := fun w => ia28 w ⟨b, 0, sq⟩ l.length c .i64 i hlt
    have hw1 : IntKind.wrap .i64 ((i : Int) + 1) = (i : Int) + 1 := wrap64_in (by omega) (by omega)
    subst hv8
    cases h1 : inI 0 r.need 2000 with
    | false =>
      have hbad := rac_cut hr (by simp [rac1, h1])
      simp [mc34_l0, t8, t9, t10, hlt, hia, hld, hbn, hlim, r33, h1]
      refine hno hbad _ _ ?_
      simp
    | true =>
      by_cases h2 : r.flowers < 1
      · have hbad := rac_cut hr (by simp [rac1, inI]; omega)
        simp [mc34_l0, t8, t9, t10, hlt, hia, hld, hbn, hlim, r33, h1, h2]
        refine hno hbad _ _ ?_
        simp
      · by_cases h3 : 20 < r.flowers
        · have hbad := rac_cut hr (by simp [rac1, inI]; omega)
          simp [mc34_l0, t8, t9, t10, hlt, hia, hld, hbn, hlim, r33, h1, h2, h3]
          refine hno hbad _ _ ?_
          simp
        · have h4 : inI 1 r.flowers 20 = true := by
            simp [inI]; omega
          have hgood : rac1 r = true := by simp [rac1, h1, h4]
          have hr' : RowsAt (w.next + 1) (((w.heap.put w.next (some (.cells [.int .i64 0, .int .i64 0] 35 false))).put w.next (some (.cells (racC r) 35 false)))) b l :=
            ⟨⟨rest, e, ro, by rw [get_put, if_neg hbn, get_put, if_neg hbn]; exact hcells⟩, Nat.lt_succ_of_lt hrows.lt⟩
          simp [mc34_l0, t8, t9, t10, hlt, hia, hld, hbn, hlim, r33, h1, h2, h3, hw1]
          refine ⟨by omega, hlt, .inr hr', ?_, hall.succ hr hgood⟩
          omega
  · have hi' : l.length ≤ i := by omega
    simp [mc34_l0, t8, t9, t10, hlt]
    exact hyes (hall.all hi') _ _
theorem run34 {ov : Ov} (ho : ∀ args w, ov 34 args w = none) (h33 : HasP ov 33 F33) (v : Value) (l : List Rac) (w : AW) (hl : w.lim = w.next) (hv : racAt w.next w.heap v = some l) : ∃ u w', (run Tryz.prog ov 2).call 34 [v] w .none = .ok (.ret u) w' .none ∧ u = .bool (racB l) := by
  refine call_wp text34 (by simp) (ho _ _) ?_
  have hlen : ∀ w, lenB Tryz.prog w 28 v = .val (.int .i64 (l.length : Nat)) w := by
    intro w
    rcases racAt_some hv with ⟨a, c, rfl, rfl⟩ | ⟨b, sq, c, rfl, hp⟩ <;> simp
  obtain ⟨b, sq, c, hb, hw⟩ : ∃ b sq c, (∀ i, i < l.length → v = .slice (some ⟨b, 0, sq⟩) l.length c) ∧ (l = [] ∨ RowsAt w.next w.heap b l) := by
    rcases racAt_some hv with ⟨a, c, rfl, rfl⟩ | ⟨b, sq, c, rfl, hp⟩
    · exact ⟨0, none, 0, fun i hi => by simp at hi, .inl rfl⟩
    · exact ⟨b, sq, c, fun _ _ => rfl, .inr hp⟩
  by_cases h8 : (8 : Int) < (l.length : Int)
  · have h8' : ¬ l.length ≤ 8 := by omega
    simp [mc34, hlen, h8, tupV, racB, h8']
  · have h8' : l.length ≤ 8 := by omega
    simp [mc34, hlen, h8]
    refine wp_seqX (wp_blockX (loop34 (sq := sq) h33 l b c _ _ _ hw (Nat.le_of_eq hl) h8' v ?_ hb ?_ ?_ ?_ ?_))
    case _ => simp
    case _ => simp
    case _ => simp
    case _ => intro ha t w; simp [tupV, racB, h8', ha]
    case _ => intro ha t w h2; simp [tupV, racB, h8', ha, h2]
end Go.Proofs.YtcolofoifhbdpaaGreatDoor.walk

namespace Go.Proofs.YtcolofoifhbdpaaGreatDoor.walk
open Go Go.Sh
set_option maxRecDepth 100000
/-! racemes, as the chapter checks them -/
def InvR (l : List Rac) (i : Nat) (ok : Bool) : Prop := (ok = true → i ≤ l.length ∧ racTo l i ∧ l.length ≤ 8) ∧ (ok = false → racB l = false)
theorem run32 {ov : Ov} (ho : ∀ args w, ov 32 args w = none) (h15 : HasP ov 15 F15) (v : Value) (l : List Rac) (w : AW) (hv : racAt w.next w.heap v = some l) : ∃ u w', (run Tryz.prog ov 2).call 32 [v] w .none = .ok (.ret u) w' .none ∧ u = .bool (racB l) := by
  refine call_wp text32 (by simp) (ho _ _) ?_
  have r15 := rule15 h15
  have hlen : ∀ w, lenB Tryz.prog w 28 v = .val (.int .i64 (l.length : Nat)) w := by
    intro w
    rcases racAt_some hv with ⟨a, c, rfl, rfl⟩ | ⟨b, sq, c, rfl, hp⟩ <;> simp
  obtain ⟨b, sq, c, hb, hw⟩ : ∃ b sq c, (∀ i, i < l.length → v = .slice (some ⟨b, 0, sq⟩) l.length c) ∧ (l = [] ∨ RowsAt w.next w.heap b l) := by
    rcases racAt_some hv with ⟨a, c, rfl, rfl⟩ | ⟨b, sq, c, rfl, hp⟩
    · exact ⟨0, none, 0, fun i hi => by simp at hi, .inl rfl⟩
    · exact ⟨b, sq, c, fun _ _ => rfl, .inr hp⟩
  simp [mc32, hlen]
  refine wp_seqX (wp_blockX (wp_rounds (fun i t w' => w' = w ∧ tget t 0 = v ∧ tget t 4 = .int .i64 (i : Nat) ∧ ∃ ok, tget t 3 = .bool ok ∧ InvR l i ok) 20 (by decide) ⟨rfl, by simp, by simp, decide (l.length ≤ 8), by simp; omega, fun h => ⟨Nat.zero_le _, .zero _, of_decide_eq_true h⟩, fun h => by simp [racB]; intro h'; simp at h; omega⟩ ?_))
  rintro i t w' ⟨rfl, t0, t4, ok, t3, hy, hn⟩
  cases ok with
  | false => simp [mc32_l0, t3, tupV, hn rfl]
  | true =>
    obtain ⟨hi, hall, h8⟩ := hy rfl
    by_cases hlt : i < l.length
    · obtain ⟨r, hr⟩ : ∃ r, l[i]? = some r := ⟨_, List.getElem?_eq_getElem hlt⟩
      have hv0 := hb i hlt
      have hrows : RowsAt w'.next w'.heap b l := by
        rcases hw with h | h
        · subst h; simp at hlt
        · exact h
      obtain ⟨rest, e, ro, hcells⟩ := hrows.at_
      obtain ⟨_, hl0, hl1⟩ := load_rac hcells hr
      have hia := fun w => ia28 w ⟨b, 0, sq⟩ l.length c .i64 i hlt
      have hw1 : IntKind.wrap .i64 ((i : Int) + 1) = (i : Int) + 1 := wrap64_in (by omega) (by omega)
      have fin : InvR l (i + 1) (rac1 r) := ⟨fun h => ⟨hlt, hall.succ hr h, h8⟩, fun h => by simp [racB, rac_cut hr h]⟩
      have hT : rac1 r = true → InvR l (i + 1) true := fun h => h ▸ fin
      have hF : rac1 r = false → InvR l (i + 1) false := fun h => h ▸ fin
      cases h1 : inI 0 r.need 2000 with
      | false =>
        simp [mc32_l0, t0, t3, t4, hlen, hlt, hv0, hia, hl0, hl1, r15, h1, hw1]
        exact ⟨by omega, hF (by simp [rac1, h1])⟩
      | true =>
        cases h2 : inI 1 r.flowers 20 with
        | false =>
          simp [mc32_l0, t0, t3, t4, hlen, hlt, hv0, hia, hl0, hl1, r15, h1, h2, hw1]
          exact ⟨by omega, hF (by simp [rac1, h1, h2])⟩
        | true =>
          simp [mc32_l0, t0, t3, t4, hlen, hlt, hv0, hia, hl0, hl1, r15, h1, h2, hw1]
          exact ⟨by omega, hT (by simp [rac1, h1, h2])⟩
    · have hB : racB l = true := by simp [racB, h8, hall.all (by omega)]
      simp [mc32_l0, t0, t3, t4, hlen, hlt, tupV, hB]
/-! vines -/
structure Vin where
  tag : ByteArray
  leaves : Int
  per : Int
  rv : Value
  rs : List Rac
def vinC (v : Vin) : List Value := [.string v.tag, .int .i64 v.leaves, .int .i64 v.per, v.rv]
def vinB (v : Vin) : Bool := wordB v.tag.data.toList && (inI 0 v.leaves 10000 && (inI 1 v.per 1000 && racB v.rs))
def isSl (v : Value) : Bool := match v with | .slice .. => true | _ => false
theorem racAt_sl {N : Nat} {H : T AObj} {v : Value} {l : List Rac} (h : racAt N H v = some l) : ∃ a n c, v = .slice a n c := by
  rcases racAt_some h with ⟨a, c, rfl, _⟩ | ⟨b, sq, c, rfl, _⟩ <;> exact ⟨_, _, _, rfl⟩
noncomputable def vinOf (N : Nat) (H : T AObj) (l : List Value) : Option Vin := match l with
  | [.string t, .int .i64 a, .int .i64 b, rv] => match racAt N H rv with | some rs => some ⟨t, a, b, rv, rs⟩ | none => none
  | _ => none
theorem vinOf_some {N : Nat} {H : T AObj} {l : List Value} {v : Vin} (h : vinOf N H l = some v) : l = vinC v ∧ racAt N H v.rv = some v.rs := by
  unfold vinOf at h
  split at h
  · rename_i t a b rv
    cases hr : racAt N H rv with
    | none => rw [hr] at h; cases h
    | some rs => rw [hr] at h; cases h; exact ⟨rfl, hr⟩
  · cases h
theorem vinOf_C {N : Nat} {H : T AObj} {v : Vin} (h : racAt N H v.rv = some v.rs) : vinOf N H (vinC v) = some v := by
  unfold vinC vinOf
  simp only [h]
noncomputable def F18 : PureF := fun args w => match args with | [.agg ⟨l⟩] => (vinOf w.next w.heap l).map fun v => .bool (vinB v) | _ => none
theorem rule18 {ov : Ov} (h : HasP ov 18 F18) {v : Vin} {w : AW} (hv : racAt w.next w.heap v.rv = some v.rs) : (run Tryz.prog ov 1).call 18 [.agg ⟨vinC v⟩] w .none = .ok (.ret (.bool (vinB v))) w .none := h.call (by simp [F18, vinOf_C hv])
theorem rule17 {ov : Ov} (h : HasP ov 17 F18) {v : Vin} {w : AW} (hv : racAt w.next w.heap v.rv = some v.rs) : (run Tryz.prog ov 1).call 17 [.agg ⟨vinC v⟩] w .none = .ok (.ret (.bool (vinB v))) w .none := h.call (by simp [F18, vinOf_C hv])
theorem run18 {ov : Ov} (ho : ∀ args w, ov 18 args w = none) (h5 : HasP ov 5 F5) (h33 : HasP ov 33 F33) (h34 : HasP ov 34 F34) (v : Vin) (w : AW) (hv : racAt w.next w.heap v.rv = some v.rs) : ∃ u w', (run Tryz.prog ov 2).call 18 [.agg ⟨vinC v⟩] w .none = .ok (.ret u) w' .none ∧ u = .bool (vinB v) := by
  refine call_wp text18 (by simp) (ho _ _) ?_
  have r5 := rule5 h5
  have r33 := rule33 h33
  obtain ⟨tag, le, per, rv, rs⟩ := v
  simp only at hv
  have r34 := rule34 h34 (w := ⟨w.heap.put w.next (some (.cells (vinC ⟨tag, le, per, rv, rs⟩) 30 false)), w.next + 1, w.lim⟩) (racAt_put hv (Nat.le_refl _) (Nat.le_succ _))
  simp only [vinC] at r34
  cases h1 : wordB tag.data.toList with
  | false => simp [mc18, vinC, r5, h1, tupV, vinB]
  | true => cases h2 : inI 0 le 10000 with
    | false => simp [mc18, vinC, r5, r33, h1, h2, tupV, vinB]
    | true =>
      by_cases h3 : 1 ≤ per
      · by_cases h4 : per ≤ 1000
        · have h5 : inI 1 per 1000 = true := by simp [inI, h3, h4]
          simp [mc18, vinC, r5, r33, r34, h1, h2, h3, h4, h5, tupV, vinB]
        · have h5 : inI 1 per 1000 = false := by simp [inI, h4]
          simp [mc18, vinC, r5, r33, r34, h1, h2, h3, h4, h5, tupV, vinB]
      · have h5 : inI 1 per 1000 = false := by simp [inI, h3]
        simp [mc18, vinC, r5, r33, r34, h1, h2, h3, h5, tupV, vinB]
theorem run17 {ov : Ov} (ho : ∀ args w, ov 17 args w = none) (h6 : HasP ov 6 F5) (h15 : HasP ov 15 F15) (h32 : HasP ov 32 F34) (v : Vin) (w : AW) (hv : racAt w.next w.heap v.rv = some v.rs) : ∃ u w', (run Tryz.prog ov 2).call 17 [.agg ⟨vinC v⟩] w .none = .ok (.ret u) w' .none ∧ u = .bool (vinB v) := by
  refine call_wp text17 (by simp) (ho _ _) ?_
  have r6 := rule6 h6
  have r15 := rule15 h15
  obtain ⟨tag, le, per, rv, rs⟩ := v
  simp only at hv
  have r32 := rule32 h32 (w := ⟨w.heap.put w.next (some (.cells (vinC ⟨tag, le, per, rv, rs⟩) 30 false)), w.next + 1, w.lim⟩) (racAt_put hv (Nat.le_refl _) (Nat.le_succ _))
  simp only [vinC] at r32
  cases h1 : wordB tag.data.toList with
  | false => simp [mc17, vinC, r6, h1, tupV, vinB]
  | true => cases h2 : inI 0 le 10000 with
    | false => simp [mc17, vinC, r6, r15, h1, h2, tupV, vinB]
    | true => cases h3 : inI 1 per 1000 <;> simp [mc17, vinC, r6, r15, r32, h1, h2, h3, tupV, vinB]
end Go.Proofs.YtcolofoifhbdpaaGreatDoor.walk
