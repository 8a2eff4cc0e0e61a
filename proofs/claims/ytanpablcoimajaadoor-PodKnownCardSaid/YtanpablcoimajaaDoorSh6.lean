/- Part of a proof by a machine of ones own: see the text with the theorem. -/
import Derived.Test.YtanpablcoimajaaDoorSh5
import Derived.Laws.Strings
import Derived.Laws.Concat
import Derived.IntWalk
import Derived.Laws.Entries
import Derived.Laws.StructEq
namespace Go.Sh
open Go
variable {P : Program} {φ : Inj} {A : AW} {w : World}

theorem intLe_eq (a b : Int) : intLe a b = decide (a ≤ b) := by
  rw [Bool.eq_iff_iff, decide_eq_true_eq]
  cases a with
  | ofNat a => cases b with
    | ofNat b => simp only [intLe, Nat.ble_eq, Int.ofNat_eq_natCast]; omega
    | negSucc b => simp only [intLe, Int.ofNat_eq_natCast]; constructor
                   · intro h; cases h
                   · intro h; omega
  | negSucc a => cases b with
    | ofNat b => simp only [intLe, Int.ofNat_eq_natCast, true_iff]; omega
    | negSucc b => simp only [intLe, Nat.ble_eq]; omega
theorem intEq_eq (a b : Int) : intEq a b = (a == b) := by
  rw [Bool.eq_iff_iff, beq_iff_eq]
  cases a with
  | ofNat a => cases b with
    | ofNat b => simp only [intEq, Nat.beq_eq, Int.ofNat_eq_natCast]; omega
    | negSucc b => simp only [intEq, Int.ofNat_eq_natCast]; constructor
                   · intro h; cases h
                   · intro h; omega
  | negSucc a => cases b with
    | ofNat b => simp only [intEq, Int.ofNat_eq_natCast]; constructor
                 · intro h; cases h
                 · intro h; omega
    | negSucc b => simp only [intEq, Nat.beq_eq]; omega
theorem intLt_eq (a b : Int) : intLt a b = decide (a < b) := by
  unfold intLt; rw [intLe_eq]; rw [Bool.eq_iff_iff]; simp
theorem wrap_small {m : Nat} (k : IntKind) (h : m ≤ 127) : k.wrap (.ofNat m) = .ofNat m := by
  simp only [Int.ofNat_eq_natCast]
  cases k with
  | i8 => simp [IntKind.wrap, IntKind.bits, IntKind.signed]; omega
  | i16 => simp [IntKind.wrap, IntKind.bits, IntKind.signed]; omega
  | i32 => rw [IntKind.wrap_i32]; omega
  | i64 => exact IntWalk.i64_in _ (by omega)
  | u8 => exact IntWalk.u8_in _ (by omega)
  | u16 => exact IntWalk.u16_in _ (by omega)
  | u32 => exact IntWalk.u32_in _ (by omega)
  | u64 => exact IntWalk.u64_in _ (by omega)
theorem wrap64_in {n : Int} (h : -9223372036854775808 ≤ n) (k : n ≤ 9223372036854775807) : IntKind.wrap .i64 n = n := IntWalk.i64_in n ⟨h, k⟩
theorem le_maxI {m : Nat} (h : m ≤ maxI) : (m : Int) ≤ 9223372036854775807 := by
  have h1 : (m : Int) ≤ (maxI : Int) := Int.ofNat_le.2 h
  have h2 : (maxI : Int) = 9223372036854775807 := by unfold maxI; rfl
  exact h2 ▸ h1
theorem wrapB_eq (k : IntKind) (m : Nat) : wrapB k m = k.wrap (.ofNat m) := by
  cases k with
  | i64 =>
    show (bif Nat.ble m maxI then Int.ofNat m else IntKind.wrap .i64 (.ofNat m)) = _
    cases hc : Nat.ble m maxI with
    | true =>
      have h := le_maxI (Nat.le_of_ble_eq_true hc)
      exact (wrap64_in (n := Int.ofNat m) (Int.le_trans (by decide) (Int.natCast_nonneg m)) h).symm
    | false => exact cond_false _ _
  | _ => rfl
theorem wrapN_eq (k : IntKind) (m : Nat) : wrapN k m = k.wrap (.negSucc m) := by
  cases k with
  | i64 =>
    show (bif Nat.ble m maxI then Int.negSucc m else IntKind.wrap .i64 (.negSucc m)) = _
    cases hc : Nat.ble m maxI with
    | true =>
      have h := le_maxI (Nat.le_of_ble_eq_true hc)
      exact (wrap64_in (n := Int.negSucc m) (by omega) (by omega)).symm
    | false => exact cond_false _ _
  | _ => rfl
theorem wrapA_eq (k : IntKind) (n : Int) : wrapA k n = k.wrap n := by
  cases n with
  | ofNat m =>
    show (bif Nat.ble m 127 then Int.ofNat m else wrapB k m) = _
    cases hb : Nat.ble m 127 with
    | true => exact (wrap_small k (Nat.le_of_ble_eq_true hb)).symm
    | false => exact wrapB_eq k m
  | negSucc m => exact wrapN_eq k m
theorem u8_toNat_inj {a b : UInt8} (h : a.toNat = b.toNat) : a = b := UInt8.toNat_inj.1 h
theorem byteL_eq : ∀ (x y : List UInt8), byteL x y = (x == y)
  | [], [] => rfl
  | [], _ :: _ => rfl
  | _ :: _, [] => rfl
  | a :: x, b :: y => by
    simp only [byteL]
    cases h : Nat.beq a.toNat b.toNat with
    | true =>
      have := u8_toNat_inj (Nat.eq_of_beq_eq_true h)
      subst this
      simp [byteL_eq x y]
    | false =>
      have : a ≠ b := by rintro rfl; simp at h
      simp [this]
theorem bytesLess_eq : ∀ (x y : List UInt8), bytesLess x y = Op.bytesLess x y
  | [], [] => rfl
  | [], _ :: _ => rfl
  | _ :: _, [] => rfl
  | a :: x, b :: y => by
    simp only [bytesLess, Op.bytesLess]
    cases h : Nat.beq a.toNat b.toNat with
    | true =>
      have := u8_toNat_inj (Nat.eq_of_beq_eq_true h)
      subst this
      simp [bytesLess_eq x y]
    | false =>
      have : a ≠ b := by rintro rfl; simp at h
      have e : (a == b) = false := by simpa using this
      rw [Bool.eq_iff_iff]
      simp [e, UInt8.lt_iff_toNat_lt, Nat.blt_eq]
theorem bytes_total : ∀ (a b : List UInt8), Op.bytesLess b a = !(Op.bytesLess a b || a == b)
  | [], [] => rfl
  | [], _ :: _ => rfl
  | _ :: _, [] => rfl
  | a :: x, b :: y => by
    simp only [Op.bytesLess]
    rcases Nat.lt_trichotomy a.toNat b.toNat with h | h | h
    · have e1 : (a < b) := UInt8.lt_iff_toNat_lt.2 h
      have e2 : ¬ (b < a) := fun k => by have := UInt8.lt_iff_toNat_lt.1 k; omega
      have e3 : (b == a) = false := by simp; rintro rfl; omega
      simp [e1, e2, e3]
    · have := u8_toNat_inj h
      subst this
      have e2 : ¬ (a < a) := fun k => by have := UInt8.lt_iff_toNat_lt.1 k; omega
      simp [e2, bytes_total x y]
    · have e1 : ¬ (a < b) := fun k => by have := UInt8.lt_iff_toNat_lt.1 k; omega
      have e2 : b < a := UInt8.lt_iff_toNat_lt.2 h
      have e3 : (a == b) = false := by simp; rintro rfl; omega
      simp [e1, e2, e3]
theorem toList_bytes (s : ByteArray) : s.toList = bytesOf s := ByteArray.toList_eq s
theorem sameK_eq {k j : IntKind} (h : sameK k j = true) : k = j := by
  cases k <;> cases j <;> first | rfl | (exact absurd h (by decide))
theorem VR_int {k : IntKind} {n : Int} {v : Value} (h : VR φ (.int k n) v) : v = .int k n := by cases h; rfl
theorem VR_string {s : ByteArray} {v : Value} (h : VR φ (.string s) v) : v = .string s := by cases h; rfl
theorem VR_bool {b : Bool} {v : Value} (h : VR φ (.bool b) v) : v = .bool b := by cases h; rfl
/-- what an operation on two values gives, with nothing else touched -/
def Gives (P : Program) (φ : Inj) (w : World) (v : Value) (s : Sem Value) : Prop := ∃ v', VR φ v v' ∧ s.run P w = .ok v' w
theorem Gives.int {k : IntKind} {n m : Int} {s : Sem Value} (h : s.run P w = .ok (.int k m) w) (e : m = n) : Gives P φ w (.int k n) s := ⟨_, .int _ _, e ▸ h⟩
theorem Gives.bool {b c : Bool} {s : Sem Value} (h : s.run P w = .ok (.bool c) w) (e : c = b) : Gives P φ w (.bool b) s := ⟨_, .bool _, e ▸ h⟩
/-- two ints of one kind -/
theorem arith_inv {f : IntKind → Int → Int → Option Int} {x y v : Value} (h : arithA f x y = some v) : ∃ k a b n, x = .int k a ∧ y = .int k b ∧ f k a b = some n ∧ v = .int k n := by
  unfold arithA at h
  cases x <;> simp only [] at h <;> try (cases h; done)
  rename_i k a
  cases y <;> simp only [] at h <;> try (cases h; done)
  rename_i j b
  cases hk : sameK k j with
  | false => rw [hk] at h; cases h
  | true =>
    have := sameK_eq hk
    subst this
    rw [hk] at h
    simp only [cond_true] at h
    cases hf : f k a b with
    | none => rw [hf] at h; cases h
    | some n => rw [hf] at h; cases h; exact ⟨k, a, b, n, rfl, rfl, hf, rfl⟩
theorem shift_inv {f : IntKind → Int → Int → Option Int} {x y v : Value} (h : shiftV f x y = some v) : ∃ k a j b n, x = .int k a ∧ y = .int j b ∧ f k a b = some n ∧ v = .int k n := by
  unfold shiftV at h
  cases x <;> simp only [] at h <;> try (cases h; done)
  rename_i k a
  cases y <;> simp only [] at h <;> try (cases h; done)
  rename_i j b
  cases hf : f k a b with
  | none => rw [hf] at h; cases h
  | some n => rw [hf] at h; cases h; exact ⟨k, a, j, b, n, rfl, rfl, hf, rfl⟩
theorem cmp_inv {f : Int → Int → Bool} {g : List UInt8 → List UInt8 → Bool} {x y v : Value} (h : cmpA f g x y = some v) :
    (∃ k a b, x = .int k a ∧ y = .int k b ∧ v = .bool (f a b)) ∨ (∃ a b, x = .string a ∧ y = .string b ∧ v = .bool (g (bytesOf a) (bytesOf b))) := by
  unfold cmpA at h
  cases x <;> simp only [] at h <;> try (cases h; done)
  · rename_i k a
    cases y <;> simp only [] at h <;> try (cases h; done)
    rename_i j b
    cases hk : sameK k j with
    | false => rw [hk] at h; cases h
    | true =>
      have := sameK_eq hk
      subst this
      rw [hk] at h
      cases h
      exact .inl ⟨k, a, b, rfl, rfl, rfl⟩
  · rename_i a
    cases y <;> simp only [] at h <;> try (cases h; done)
    rename_i b
    cases h
    exact .inr ⟨a, b, rfl, rfl, rfl⟩
theorem add_inv {x y v : Value} (h : addA x y = some v) :
    (∃ k a b, x = .int k a ∧ y = .int k b ∧ v = .int k (wrapA k (a + b))) ∨ (∃ a b, x = .string a ∧ y = .string b ∧ (bytesOf a).length + (bytesOf b).length ≤ 1000000 ∧ v = catA a b) := by
  unfold addA at h
  cases x <;> simp only [] at h <;> try (cases h; done)
  · rename_i k a
    cases y <;> simp only [] at h <;> try (cases h; done)
    rename_i j b
    cases hk : sameK k j with
    | false => rw [hk] at h; cases h
    | true =>
      have := sameK_eq hk
      subst this
      rw [hk] at h
      cases h
      exact .inl ⟨k, a, b, rfl, rfl, rfl⟩
  · rename_i a
    cases y <;> simp only [] at h <;> try (cases h; done)
    rename_i b
    simp only [lenL_eq] at h
    cases hb : Nat.ble (a.data.toList.length + (b.data.toList.length + 0)) 1000000 with
    | false => rw [hb] at h; cases h
    | true =>
      rw [hb] at h
      cases h
      exact .inr ⟨a, b, rfl, rfl, Nat.le_of_ble_eq_true hb, rfl⟩
theorem catA_eq (a b : ByteArray) : catA a b = .string (a ++ b) := by
  obtain ⟨⟨x⟩⟩ := a
  obtain ⟨⟨y⟩⟩ := b
  have := ByteArray.mk_append_mk x y
  simp only [catA, appL_eq]
  rw [← this]
theorem size_bytes (a : ByteArray) : a.size = (bytesOf a).length := rfl
theorem opt_some {α : Type} {a b : α} (h : some a = some b) : a = b := by injection h
/-- ints and strings -/
theorem bin_ok (op : BinOp) (hop : op ≠ .eql ∧ op ≠ .neq) (t : TypeId) (xo yo : Operand) {x x' y y' v : Value} (hx : VR φ x x') (hy : VR φ y y') (h : (binS op).val x y = some v) :
    Gives P φ w v (do eqGuard op t xo yo x' y'; binOp op t x' y') := by
  have hg : eqGuard op t xo yo x' y' = pure () := by
    cases op <;> first | rfl | exact absurd rfl hop.1 | exact absurd rfl hop.2
  rw [hg, pure_bind]
  cases op with
  | eql => exact absurd rfl hop.1
  | neq => exact absurd rfl hop.2
  | add =>
    rcases add_inv h with ⟨k, a, b, rfl, rfl, rfl⟩ | ⟨a, b, rfl, rfl, hl, rfl⟩
    · rw [VR_int hx, VR_int hy]
      exact .int (by simp [binOp_add, Op.intArith]) (wrapA_eq k _).symm
    · rw [VR_string hx, VR_string hy, catA_eq]
      exact ⟨_, .string _, by
        show (Op.stringOp .add a b).run P w = _
        exact run_string_add_sum w a b (by rw [size_bytes, size_bytes]; omega)⟩
  | sub =>
    obtain ⟨k, a, b, n, rfl, rfl, hf, rfl⟩ := arith_inv (f := subA) h
    rw [VR_int hx, VR_int hy, ← opt_some hf]
    exact .int (by simp [binOp_sub, Op.intArith]) (wrapA_eq k _).symm
  | mul =>
    obtain ⟨k, a, b, n, rfl, rfl, hf, rfl⟩ := arith_inv (f := mulA) h
    rw [VR_int hx, VR_int hy, ← opt_some hf]
    exact .int (by simp [binOp_mul, Op.intArith]) (wrapA_eq k _).symm
  | quo =>
    obtain ⟨k, a, b, n, rfl, rfl, hf, rfl⟩ := arith_inv (f := quoA) h
    rw [VR_int hx, VR_int hy]
    unfold quoA at hf
    rw [intEq_eq] at hf
    cases hb : (b == 0) with
    | true => rw [hb] at hf; cases hf
    | false =>
      rw [hb] at hf
      have hb' : b ≠ 0 := by simpa using hb
      rw [← opt_some hf]
      exact .int (by simp [binOp_quo, Op.intDiv, hb']) (wrapA_eq k _).symm
  | rem =>
    obtain ⟨k, a, b, n, rfl, rfl, hf, rfl⟩ := arith_inv (f := remA) h
    rw [VR_int hx, VR_int hy]
    unfold remA at hf
    rw [intEq_eq] at hf
    cases hb : (b == 0) with
    | true => rw [hb] at hf; cases hf
    | false =>
      rw [hb] at hf
      have hb' : b ≠ 0 := by simpa using hb
      rw [← opt_some hf]
      exact .int (by simp [binOp_rem, Op.intDiv, hb']) rfl
  | and =>
    obtain ⟨k, a, b, n, rfl, rfl, hf, rfl⟩ := arith_inv (f := andA) h
    rw [VR_int hx, VR_int hy, ← opt_some hf]
    exact .int (by rw [binOp_and]; simp only [Op.intBits]; rfl) (wrapA_eq k _).symm
  | or =>
    obtain ⟨k, a, b, n, rfl, rfl, hf, rfl⟩ := arith_inv (f := orA) h
    rw [VR_int hx, VR_int hy, ← opt_some hf]
    exact .int (by rw [binOp_or]; simp only [Op.intBits]; rfl) (wrapA_eq k _).symm
  | xor =>
    obtain ⟨k, a, b, n, rfl, rfl, hf, rfl⟩ := arith_inv (f := xorA) h
    rw [VR_int hx, VR_int hy, ← opt_some hf]
    exact .int (by rw [binOp_xor]; simp only [Op.intBits]; rfl) (wrapA_eq k _).symm
  | andNot =>
    obtain ⟨k, a, b, n, rfl, rfl, hf, rfl⟩ := arith_inv (f := andNotA) h
    rw [VR_int hx, VR_int hy, ← opt_some hf]
    exact .int (by rw [binOp_andNot]; simp only [Op.intBits]; rfl) (wrapA_eq k _).symm
  | shl =>
    obtain ⟨k, a, j, b, n, rfl, rfl, hf, rfl⟩ := shift_inv (f := shlA) h
    rw [VR_int hx, VR_int hy]
    unfold shlA at hf
    rw [intLt_eq] at hf
    by_cases hb : b < 0
    · simp [hb] at hf
    · simp only [hb, decide_false, cond_false] at hf
      rw [← opt_some hf]
      exact .int (by rw [binOp_shl]; simp only [Op.shift, hb, if_false]; rfl) (wrapA_eq k _).symm
  | shr =>
    obtain ⟨k, a, j, b, n, rfl, rfl, hf, rfl⟩ := shift_inv (f := shrA) h
    rw [VR_int hx, VR_int hy]
    unfold shrA at hf
    rw [intLt_eq] at hf
    by_cases hb : b < 0
    · simp [hb] at hf
    · simp only [hb, decide_false, cond_false] at hf
      rw [← opt_some hf]
      exact .int (by rw [binOp_shr]; simp only [Op.shift, hb, if_false]; rfl) rfl
  | lss =>
    rcases cmp_inv (f := intLt) (g := bytesLess) h with ⟨k, a, b, rfl, rfl, rfl⟩ | ⟨a, b, rfl, rfl, rfl⟩
    · rw [VR_int hx, VR_int hy]; exact .bool (by rw [binOp_lss]; rfl) (intLt_eq a b).symm
    · rw [VR_string hx, VR_string hy]; exact .bool (by show (Op.stringOp .lss a b).run P w = _; simp only [Op.stringOp, toList_bytes]; rfl) (bytesLess_eq _ _).symm
  | leq =>
    rcases cmp_inv (f := intLe) (g := leS) h with ⟨k, a, b, rfl, rfl, rfl⟩ | ⟨a, b, rfl, rfl, rfl⟩
    · rw [VR_int hx, VR_int hy]; exact .bool (by rw [binOp_leq]; rfl) (intLe_eq a b).symm
    · rw [VR_string hx, VR_string hy]; exact .bool (by show (Op.stringOp .leq a b).run P w = _; simp only [Op.stringOp, toList_bytes]; rfl) (by unfold leS; rw [bytesLess_eq, bytes_total (bytesOf a) (bytesOf b)]; simp)
  | gtr =>
    rcases cmp_inv (f := gtI) (g := gtS) h with ⟨k, a, b, rfl, rfl, rfl⟩ | ⟨a, b, rfl, rfl, rfl⟩
    · rw [VR_int hx, VR_int hy]; exact .bool (by rw [binOp_gtr]; rfl) (intLt_eq b a).symm
    · rw [VR_string hx, VR_string hy]; exact .bool (by show (Op.stringOp .gtr a b).run P w = _; simp only [Op.stringOp, toList_bytes]; rfl) (by unfold gtS; rw [bytesLess_eq, bytes_total (bytesOf a) (bytesOf b)])
  | geq =>
    rcases cmp_inv (f := geI) (g := geS) h with ⟨k, a, b, rfl, rfl, rfl⟩ | ⟨a, b, rfl, rfl, rfl⟩
    · rw [VR_int hx, VR_int hy]; exact .bool (by rw [binOp_geq]; rfl) (intLe_eq b a).symm
    · rw [VR_string hx, VR_string hy]; exact .bool (by show (Op.stringOp .geq a b).run P w = _; simp only [Op.stringOp, toList_bytes]; rfl) (by unfold geS; rw [bytesLess_eq])
end Go.Sh
