/- Part of a proof by a machine of ones own: see the text with the theorem. -/
import Derived.Test.YtanpablcoimajaaDoorSh6
namespace Go.Sh
open Go
variable {P : Program} {φ : Inj} {A : AW} {w : World}

theorem un_ok (op : UnOp) {x x' v : Value} (hx : VR φ x x') (h : unS op x = some v) : Gives P φ w v (Op.unary op x') := by
  cases op with
  | not =>
    change notA x = some v at h
    cases x <;> simp only [notA] at h <;> try (cases h; done)
    rw [VR_bool hx, ← opt_some h]
    exact .bool rfl rfl
  | neg =>
    change negA x = some v at h
    cases x <;> simp only [negA] at h <;> try (cases h; done)
    rw [VR_int hx, ← opt_some h]
    exact .int (by simp [Op.unary, Op.intArith]) (wrapA_eq _ _).symm
  | xor =>
    change cplA x = some v at h
    cases x <;> simp only [cplA] at h <;> try (cases h; done)
    rw [VR_int hx, ← opt_some h]
    exact .int (by simp only [Op.unary, Op.intBits]; rfl) (wrapA_eq _ _).symm
  | plus => cases h
theorem Gives.ok (hM : MR P φ A w) {v : Value} {s : Sem Value} (h : Gives P φ w v s) : OpOk P φ A w (.val v A) ((do pure (.value (← s) : Next) : Sem Next).run P w) := by
  obtain ⟨v', h1, h2⟩ := h
  exact OpOk.same hM h1 (run_v h2)
theorem vR_ok (hM : MR P φ A w) {o : Option Value} {s : Sem Value} (h : ∀ v, o = some v → Gives P φ w v s) : OpOk P φ A w (vR A o) ((do pure (.value (← s) : Next) : Sem Next).run P w) := by
  cases o with
  | none => exact trivial
  | some v => exact (h v rfl).ok hM

/-! slices -/
def OVR (φ : Inj) (x x' : Option Value) : Prop := match x, x' with | none, none => True | some v, some v' => VR φ v v' | _, _ => False
theorem bound_some {x : Option Value} {y d n : Nat} (h : boundA x y d = some n) : (x = none ∧ n = d) ∨ ∃ k, x = some (.int k (n : Int)) ∧ n ≤ y := by
  cases x with
  | none => exact .inl ⟨rfl, (opt_some h).symm⟩
  | some v =>
    simp only [boundA] at h
    cases v <;> simp only [] at h <;> try (cases h; done)
    rename_i k i
    cases i with
    | negSucc j => cases h
    | ofNat j =>
      simp only [] at h
      cases hb : Nat.ble j y with
      | false => rw [hb] at h; cases h
      | true => rw [hb] at h; cases h; exact .inr ⟨k, rfl, Nat.le_of_ble_eq_true hb⟩
theorem run_sliceBound {k : IntKind} {n y : Nat} (h : n ≤ y) (c : BoundsCode) (w : World) : (Instr.sliceBound (.int k (n : Int)) y c).run P w = .ok n w := by
  simp [Instr.sliceBound, asIntOf]; omega
theorem bound_there {x x' : Option Value} (hx : OVR φ x x') {y d n : Nat} (h : boundA x y d = some n) : (x = none ∧ x' = none ∧ n = d) ∨ ∃ k, x' = some (.int k (n : Int)) ∧ n ≤ y ∧ x.isNone = false := by
  rcases bound_some h with ⟨rfl, rfl⟩ | ⟨k, rfl, hle⟩
  · cases x' with
    | none => exact .inl ⟨rfl, rfl, rfl⟩
    | some v => cases hx
  · cases x' with
    | none => cases hx
    | some v => exact .inr ⟨k, congrArg some (VR_int hx), hle, rfl⟩
theorem run_sliceBounds {b : Bool} {len cap cap' m h l : Nat} {lo hi mx lo' hi' mx' : Option Value} (hlo : OVR φ lo lo') (hhi : OVR φ hi hi') (hmx : OVR φ mx mx') (hc : cap ≤ cap')
    (h1 : boundA mx cap cap = some m) (h2 : boundA hi m len = some h) (h3 : boundA lo h 0 = some l) (hn : hi.isNone = true → mx.isNone = true) :
    (Instr.sliceBounds b len cap' lo' hi' mx').run P w = .ok (l, h, if mx.isNone then cap' else m) w := by
  rcases bound_there hmx h1 with ⟨rfl, rfl, rfl⟩ | ⟨k1, rfl, hle1, e1⟩
  · rcases bound_there hhi h2 with ⟨rfl, rfl, rfl⟩ | ⟨k2, rfl, hle2, e2⟩
    · rcases bound_there hlo h3 with ⟨rfl, rfl, rfl⟩ | ⟨k3, rfl, hle3, e3⟩
      · simp [Instr.sliceBounds]
      · simp [Instr.sliceBounds, run_sliceBound hle3]
    · rcases bound_there hlo h3 with ⟨rfl, rfl, rfl⟩ | ⟨k3, rfl, hle3, e3⟩
      · simp [Instr.sliceBounds, run_sliceBound (Nat.le_trans hle2 hc)]
      · simp [Instr.sliceBounds, run_sliceBound (Nat.le_trans hle2 hc), run_sliceBound hle3]
  · have hn' : hi.isNone = false := by
      cases hh : hi.isNone with
      | false => rfl
      | true => rw [hn hh] at e1; cases e1
    rcases bound_there hhi h2 with ⟨rfl, rfl, rfl⟩ | ⟨k2, rfl, hle2, e2⟩
    · cases hn'
    · rcases bound_there hlo h3 with ⟨rfl, rfl, rfl⟩ | ⟨k3, rfl, hle3, e3⟩
      · simp [Instr.sliceBounds, run_sliceBound (Nat.le_trans hle1 hc), run_sliceBound hle2, e1]
      · simp [Instr.sliceBounds, run_sliceBound (Nat.le_trans hle1 hc), run_sliceBound hle2, run_sliceBound hle3, e1]
theorem sliceStr_ok (hM : MR P φ A w) {t : TypeId} (ht : P.underlying t = some .string) (s : ByteArray) {lo hi mx lo' hi' mx' : Option Value} (hlo : OVR φ lo lo') (hhi : OVR φ hi hi') (hmx : OVR φ mx mx') :
    OpOk P φ A w (bif mx.isNone then sliceStr A (bytesOf s) (lenL (bytesOf s) 0) lo hi else .fail) ((do pure (.value (← Instr.slice t (.string s) lo' hi' mx') : Next) : Sem Next).run P w) := by
  cases mx with
  | some v => exact trivial
  | none =>
    cases mx' with
    | some v => cases hmx
    | none =>
      simp only [Option.isNone_none, cond_true, sliceStr, lenL0]
      cases h2 : boundA hi (bytesOf s).length (bytesOf s).length with
      | none => exact trivial
      | some h =>
        simp only
        cases h3 : boundA lo h 0 with
        | none => exact trivial
        | some l =>
          have hb := run_sliceBounds (P := P) (w := w) (b := false) (len := (bytesOf s).length) (cap := (bytesOf s).length) (mx := none) (mx' := none) hlo hhi trivial (Nat.le_refl _) rfl h2 h3 (fun _ => rfl)
          refine OpOk.same hM (.string _) (run_v ?_)
          have hsz : s.size = (bytesOf s).length := rfl
          have hx : s.extract l h = ⟨⟨dropL l (takeL h (bytesOf s))⟩⟩ := by
            rw [dropL_eq, takeL_eq]
            apply ByteArray.ext
            apply Array.ext'
            simp [bytesOf, List.drop_take]
          simp only [Instr.slice, Sem.run_bind, run_underlying' ht, Result.andThen_ok, Option.isSome_none, Bool.false_eq_true, if_false, hsz, hb, hx, Sem.run_pure]
theorem AddrR.blk {a a' : Addr} (h : AddrR φ a a') : BlkR φ a.block a'.block := by
  rcases h with h | ⟨c, n, s, d, h, h1, _⟩
  · exact .inl h
  · exact .inr ⟨n, s, d, h1 ▸ h⟩
theorem add_block (a : Addr) (j : Nat) : (a.add j).block = a.block := by unfold Addr.add; split <;> rfl
theorem add_off (a : Addr) (j : Nat) : (a.add j).off = a.off + j := by unfold Addr.add; split <;> simp_all
/-- a part of a slice -/
theorem cut_ok {a a' b : Addr} {c' m m' h l size : Nat} (ha : AddrR φ a a') (hb : b.block = a.block) (ho : b.off = a.off + l * size) (hr : b.spot = none → ∀ c1 n s d, φ a.block = some (.at_ c1 n s d) → s = size ∧ a'.off + c' * s ≤ n)
    (hlh : l ≤ h) (hm : h ≤ m) (hmm : m ≤ m') (hm' : m' ≤ c') :
    VR φ (.slice (some b) (h - l) (m - l)) (.slice (some (if m' = l then a' else a'.add (l * size))) (h - l) (m' - l)) := by
  by_cases e : m' = l
  · have e1 : h = l := by omega
    have e2 : m = l := by omega
    subst e1 e2 e
    rw [if_pos rfl]
    simp only [Nat.sub_self]
    exact .sl0 (by rw [hb]; exact ha.blk)
  · rw [if_neg e]
    have hadd := ha.add (l * size)
    refine .sl ?_ (by omega) (by omega) fun hs c1 n s d h1 => ?_
    · rcases hadd with h1 | ⟨c, n, s, d, h1, h2, h3, h4⟩
      · exact .inl (by rw [hb]; rw [add_block] at h1; exact h1)
      · exact .inr ⟨c, n, s, d, by rw [hb]; rw [add_block] at h1; exact h1, h2, by rw [ho, h3, add_off], h4⟩
    · rw [hb] at h1
      obtain ⟨rfl, h2⟩ := hr hs c1 n s d h1
      rw [add_off]
      have : l * s + (m' - l) * s ≤ c' * s := by rw [← Nat.add_mul]; exact Nat.mul_le_mul_right _ (by omega)
      omega
theorem boundA_le {x : Option Value} {y d n : Nat} (h : boundA x y d = some n) (hd : d ≤ y) : n ≤ y := by
  rcases bound_some h with ⟨_, rfl⟩ | ⟨_, _, h⟩
  · exact hd
  · exact h
theorem rowElem_some {b : Nat} {e : TypeId} (h : rowElem A b = some e) : ∃ c ro, A.heap.get b = some (.cells c e ro) := by
  unfold rowElem at h
  cases hg : A.heap.get b with
  | none => rw [hg] at h; cases h
  | some o =>
    rw [hg] at h
    cases o with
    | cells c e' ro => cases h; exact ⟨c, ro, rfl⟩
    | _ => cases h
theorem slice_ok (hM : MR P φ A w) (t : TypeId) {x x' : Value} (hx : VR φ x x') {lo hi mx lo' hi' mx' : Option Value} (hlo : OVR φ lo lo') (hhi : OVR φ hi hi') (hmx : OVR φ mx mx') :
    OpOk P φ A w (sliceA P A t x lo hi mx) ((do pure (.value (← Instr.sliceAt t x' lo' hi' mx') : Next) : Sem Next).run P w) := by
  unfold sliceA
  cases hb1 : sliceB1 hi mx with
  | false => exact trivial
  | true =>
    have hn : hi.isNone = true → mx.isNone = true := by
      intro h
      unfold sliceB1 at hb1
      rw [h] at hb1
      cases hh : mx.isNone with
      | true => rfl
      | false => rw [hh] at hb1; cases hb1
    simp only [cond_true]
    cases hx with
    | string s =>
      simp only
      split
      · rename_i hu
        have := sliceStr_ok hM hu s hlo hhi hmx
        simp only [Instr.sliceAt, Sem.run_bind, run_underlying' hu, Result.andThen_ok]
        simpa using this
      · exact trivial
    | slNil =>
      simp only
      cases he : elemA P t with
      | none => exact trivial
      | some e =>
        have hu := elemA_some he
        simp only
        cases hs : szOf P e with
        | none => exact trivial
        | some size =>
          simp only [sliceRow]
          cases h1 : boundA mx 0 0 with
          | none => exact trivial
          | some m =>
            simp only
            cases h2 : boundA hi m 0 with
            | none => exact trivial
            | some h =>
              simp only
              cases h3 : boundA lo h 0 with
              | none => exact trivial
              | some l =>
                have e1 := boundA_le h1 (Nat.le_refl _)
                have e2 := boundA_le h2 (Nat.zero_le _)
                have e3 := boundA_le h3 (Nat.zero_le _)
                have em : m = 0 := by omega
                have eh : h = 0 := by omega
                have el : l = 0 := by omega
                have hb := run_sliceBounds (P := P) (w := w) (b := true) (len := 0) (cap := 0) (cap' := 0) hlo hhi hmx (Nat.le_refl _) h1 h2 h3 hn
                subst em eh el
                refine OpOk.same hM .slNil (run_v ?_)
                simp [Instr.sliceAt, run_underlying' hu, Instr.slice, hb, run_sizeOf hs]
    | sl ha hl hc hr =>
      rename_i a a' n c c'
      simp only
      cases he : elemA P t with
      | none => exact trivial
      | some e =>
        have hu := elemA_some he
        simp only
        cases hs : szOf P e with
        | none => exact trivial
        | some size =>
          simp only [sliceRow]
          cases h1 : boundA mx c c with
          | none => exact trivial
          | some m =>
            simp only
            cases h2 : boundA hi m n with
            | none => exact trivial
            | some h =>
              simp only
              cases h3 : boundA lo h 0 with
              | none => exact trivial
              | some l =>
                simp only [cutAddr]
                cases hre : rowElem A a.block with
                | none => exact trivial
                | some e' =>
                  simp only [cutR]
                  have e1 := boundA_le h1 (Nat.le_refl _)
                  have e3 := boundA_le h3 (Nat.zero_le _)
                  have e2 : h ≤ m := by
                    rcases bound_some h2 with ⟨h4, rfl⟩ | ⟨_, _, h5⟩
                    · have h6 := hn (by rw [h4]; rfl)
                      rcases bound_some h1 with ⟨_, rfl⟩ | ⟨_, h7, _⟩
                      · exact hl
                      · rw [h7] at h6; cases h6
                    · exact h5
                  have hb := run_sliceBounds (P := P) (w := w) (b := true) hlo hhi hmx hc h1 h2 h3 hn
                  obtain ⟨c0, ro, hg⟩ := rowElem_some hre
                  have hm2 : m ≤ (if mx.isNone then c' else m) ∧ (if mx.isNone then c' else m) ≤ c' := by
                    cases mx.isNone <;> simp <;> omega
                  refine OpOk.same hM (cut_ok (a := a) (a' := a') (b := ⟨a.block, a.off + l * size, bif Nat.beq e e' && a.spot.isNone then none else some 1⟩) (size := size) (c' := c') (m' := if mx.isNone then c' else m) ha rfl rfl (fun hsp c1 n1 s1 d1 hφ => ?_) e3 e2 hm2.1 hm2.2) (run_v ?_)
                  · obtain ⟨cc, fz, n2, s2, d2, g1, g2, g3, g4, g5⟩ := hM.cells ha hg
                    rw [g1] at hφ
                    injection hφ with hφ
                    injection hφ with q1 q2 q3 q4
                    subst q1 q2 q3 q4
                    cases hee : (Nat.beq e e' && a.spot.isNone) with
                    | false => rw [hee] at hsp; cases hsp
                    | true =>
                      simp only [Bool.and_eq_true] at hee
                      have := Nat.eq_of_beq_eq_true hee.1
                      subst this
                      have hu2 := g5.unit
                      rw [hs] at hu2
                      have hsn : a.spot = none := by simpa using hee.2
                      exact ⟨hu2, hr hsn _ _ _ _ g1⟩
                  · simp only [Instr.sliceAt, Sem.run_bind, run_underlying' hu, Result.andThen_ok, Instr.slice, hb, run_sizeOf hs, Sem.run_pure, Option.map_some]
                    generalize (if mx.isNone = true then c' else m) = mm
                    by_cases hh : mm = l
                    · rw [if_pos hh, if_pos hh]
                    · rw [if_neg hh, if_neg hh]
    | sl0 ha =>
      rename_i a a'
      simp only
      cases he : elemA P t with
      | none => exact trivial
      | some e =>
        have hu := elemA_some he
        simp only
        cases hs : szOf P e with
        | none => exact trivial
        | some size =>
          simp only [sliceRow]
          cases h1 : boundA mx 0 0 with
          | none => exact trivial
          | some m =>
            simp only
            cases h2 : boundA hi m 0 with
            | none => exact trivial
            | some h =>
              simp only
              cases h3 : boundA lo h 0 with
              | none => exact trivial
              | some l =>
                simp only [cutAddr]
                cases hre : rowElem A a.block with
                | none => exact trivial
                | some e' =>
                  simp only [cutR]
                  have e1 := boundA_le h1 (Nat.le_refl _)
                  have e2 := boundA_le h2 (Nat.zero_le _)
                  have e3 := boundA_le h3 (Nat.zero_le _)
                  have em : m = 0 := by omega
                  have eh : h = 0 := by omega
                  have el : l = 0 := by omega
                  have hb := run_sliceBounds (P := P) (w := w) (b := true) (len := 0) (cap := 0) (cap' := 0) hlo hhi hmx (Nat.le_refl _) h1 h2 h3 hn
                  subst em eh el
                  have e5 : (if mx.isNone then 0 else 0) = 0 := by split <;> rfl
                  rw [e5] at hb
                  refine OpOk.same (v := .slice (some ⟨a.block, a.off + 0 * size, bif Nat.beq e e' && a.spot.isNone then none else some 1⟩) 0 0) hM (.sl0 (a' := a') ha) (run_v ?_)
                  simp [Instr.sliceAt, run_underlying' hu, Instr.slice, hb, run_sizeOf hs]
    | ptr ha =>
      rename_i a a'
      simp only
      cases he : arrN P t with
      | none => exact trivial
      | some p =>
        have hu := arrN_some he
        simp only
        cases hs : szOf P p.2 with
        | none => exact trivial
        | some size =>
          simp only [sliceArr]
          cases h1 : boundA mx p.1 p.1 with
          | none => exact trivial
          | some m =>
            simp only
            cases h2 : boundA hi m p.1 with
            | none => exact trivial
            | some h =>
              simp only
              cases h3 : boundA lo h 0 with
              | none => exact trivial
              | some l =>
                have e1 := boundA_le h1 (Nat.le_refl _)
                have e3 := boundA_le h3 (Nat.zero_le _)
                have e2 : h ≤ m := by
                  rcases bound_some h2 with ⟨h4, rfl⟩ | ⟨_, _, h5⟩
                  · have h6 := hn (by rw [h4]; rfl)
                    rcases bound_some h1 with ⟨_, rfl⟩ | ⟨_, h7, _⟩
                    · exact Nat.le_refl _
                    · rw [h7] at h6; cases h6
                  · exact h5
                have hb := run_sliceBounds (P := P) (w := w) (b := false) hlo hhi hmx (Nat.le_refl _) h1 h2 h3 hn
                have hmm : (if mx.isNone then p.1 else m) = m := by
                  cases hh : mx.isNone with
                  | false => rfl
                  | true =>
                    rcases bound_some h1 with ⟨_, rfl⟩ | ⟨_, h7, _⟩
                    · rfl
                    · rw [h7] at hh; cases hh
                rw [hmm] at hb
                refine OpOk.same hM (cut_ok (a := a) (a' := a') (c' := m) (m' := m) ha (b := ⟨a.block, a.off + l * size, some 1⟩) rfl rfl (fun hsp => by cases hsp) e3 e2 (Nat.le_refl _) (Nat.le_refl _)) (run_v ?_)
                simp [Instr.sliceAt, run_underlying' hu, Instr.sureAddr, hb, run_sizeOf hs]
    | _ => exact trivial
end Go.Sh
