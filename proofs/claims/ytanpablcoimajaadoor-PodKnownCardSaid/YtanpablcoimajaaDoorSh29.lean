/- Part of a proof by a machine of ones own: see the text with the theorem. -/
import Derived.Test.YtanpablcoimajaaDoorSh28
set_option linter.unusedVariables false
set_option linter.unusedSimpArgs false
namespace Go.Sh
open Go
variable {P : Program} {φ : Inj} {A : AW} {w : World}

theorem makeSlice_new (t : TypeId) {l l' c c' : Value} (hl : VR φ l l') (hc : VR φ c c') {v : Value} {A' : AW} (h : makeSliceA P A t l c = .val v A') :
    ∃ o f, (∀ B, makeSliceA P B t l c = newR B o f) ∧ NewOk P φ w o f ((do pure (.value (← Instr.makeSlice t l' c') : Next) : Sem Next).run P w) := by
  unfold makeSliceA at h ⊢
  cases he : elemA P t with
  | none => rw [he] at h; cases h
  | some e =>
    have hu := elemA_some he
    rw [he] at h
    simp only at h ⊢
    cases hn : natA l with
    | none => rw [hn] at h; cases h
    | some n =>
      rw [hn] at h
      simp only at h ⊢
      cases hm : natA c with
      | none => rw [hm] at h; cases h
      | some m =>
        rw [hm] at h
        obtain ⟨k1, rfl⟩ := natA_some hn
        obtain ⟨k2, rfl⟩ := natA_some hm
        have e1 := VR_int hl
        have e2 := VR_int hc
        subst e1 e2
        simp only [makeSliceB] at h ⊢
        cases hz : zeroA P e with
        | none => rw [hz] at h; cases h
        | some z =>
          obtain ⟨i, h1, h2, h3, h4, _⟩ := zeroA_some hz
          rw [hz] at h
          simp only at h ⊢
          cases hb : (Nat.ble n m && (Nat.ble m 1000000 && smallT P e)) with
          | false => rw [hb] at h; cases h
          | true =>
            simp only [Bool.and_eq_true] at hb
            obtain ⟨hb1, hb2, hb3⟩ := hb
            have hb1 := Nat.le_of_ble_eq_true hb1
            have hb2 := Nat.le_of_ble_eq_true hb2
            obtain ⟨i', z', g1, g2, _⟩ := smallT_some hb3
            rw [h1] at g1
            injection g1 with g1
            subst g1
            simp only [cond_true]
            have hzl : z.cells.size = i.size := by
              have := (elem_LR (φ := φ) h3).length
              rw [h4] at this
              simpa using this.symm
            have hcells : madeCells z.cells (m * i.size) = ⟨repl z.cells.toList m⟩ := by
              apply Array.ext'
              rw [← hzl]
              exact range_zero z.cells m
            refine ⟨_, _, fun B => rfl, newRow_ok (cc := repl z.cells.toList m) ((elem_LR h3).repl m) (v' := .slice (some ⟨w.heap.size, 0, none⟩) n m) (run_v ?_) fun φ' b hb => ?_⟩
            · have hbm : (i.bytes : Int) * (m : Int) ≤ 281474976710656 := by
                have h5 : i.bytes * m ≤ 1000000 * 1000000 := Nat.mul_le_mul g2 hb2
                have h6 : ((i.bytes * m : Nat) : Int) ≤ 281474976710656 := by omega
                rwa [Int.natCast_mul] at h6
              have := run_make (P := P) w t e i z hu h1 h2 k1 k2 n m (by omega) (by omega) hbm (by omega)
              simp only [Int.toNat_natCast, hcells] at this
              exact this
            · refine new_row hb hb1 (Nat.le_refl _) ?_
              rw [repl_length, szOf_info h1]
              simp [hzl]
theorem fillA_length {size : Nat} : ∀ {parts : List (Nat × Value)} {c o : List Value}, fillA (rowAt size) c parts = some o → o.length = c.length
  | [], c, o, h => by cases h; rfl
  | p :: ps, c, o, h => by
    simp only [fillA, rowAt, lenL0] at h
    cases hcd : (Nat.beq (cellsOf p.2).length size && Nat.ble (p.1 * size + size) c.length) with
    | false => rw [hcd] at h; cases h
    | true =>
      rw [hcd] at h
      simp only [Bool.and_eq_true] at hcd
      have a1 := Nat.eq_of_beq_eq_true hcd.1
      have a2 := Nat.le_of_ble_eq_true hcd.2
      rw [fillA_length h, spliceL_length _ _ _ (by omega)]
theorem buildSlice_new (t : TypeId) (len : Nat) {parts parts' : List (Nat × Value)} (hp : PR φ parts parts') {v : Value} {A' : AW} (h : buildSliceA P A t len parts = .val v A') :
    ∃ o f, (∀ B, buildSliceA P B t len parts = newR B o f) ∧ NewOk P φ w o f ((do pure (.value (← Instr.buildSlice t len ⟨parts'⟩) : Next) : Sem Next).run P w) := by
  unfold buildSliceA at h ⊢
  cases he : elemA P t with
  | none => rw [he] at h; cases h
  | some e =>
    have hu := elemA_some he
    rw [he] at h
    simp only at h ⊢
    cases hs : szOf P e with
    | none => rw [hs] at h; cases h
    | some size =>
      rw [hs] at h
      simp only at h ⊢
      cases hz : zeroA P e with
      | none => rw [hz] at h; cases h
      | some z =>
        obtain ⟨i, h1, h2, h3, h4, _⟩ := zeroA_some hz
        rw [hz] at h
        simp only at h ⊢
        cases hb : Nat.ble (len * size) 1000000 with
        | false => rw [hb] at h; cases h
        | true =>
          rw [hb] at h
          have hb := Nat.le_of_ble_eq_true hb
          simp only [cond_true, rowR] at h ⊢
          cases hf : fillA (rowAt size) (repl (cellsOf z) len) parts with
          | none => rw [hf] at h; cases h
          | some cs =>
            simp only
            have hsz : i.size = size := by rw [szOf_info h1] at hs; exact opt_some hs
            have hzl : z.cells.size = size := by
              have := (elem_LR (φ := φ) h3).length
              rw [h4, hsz] at this
              simpa using this.symm
            obtain ⟨out', r1, r2⟩ := fill_ok (place' := fun i => some (i * size, size)) (fun i q hq => hq) hp (cs' := ⟨repl z.cells.toList len⟩) ((elem_LR h3).repl len) hf
            have hcells : ∀ zz : Array Value, (len * size ≠ 0 → zz = z.cells) → (Array.range (len * size)).map (zz[· % zz.size]!) = ⟨repl z.cells.toList len⟩ := by
              intro zz hzz
              by_cases h0 : len * size = 0
              · have : (repl z.cells.toList len).length = 0 := by rw [repl_length]; simp [hzl, h0]
                rw [List.eq_nil_of_length_eq_zero this, h0, Array.range_zero']
                simp
              · rw [hzz h0]
                apply Array.ext'
                rw [← hzl]
                exact range_zero z.cells len
            have hlen : out'.length = len * size := by rw [← r1.length, fillA_length hf, repl_length, h4, hsz]
            refine ⟨_, _, fun B => rfl, newRow_ok (cc := out') (by simpa using r1) (v' := .slice (some ⟨w.heap.size, 0, none⟩) len len) (run_v ?_) fun φ' b hb => ?_⟩
            · have n1 : ¬ (len * size > 2 ^ 24) := by
                have : (2 : Nat) ^ 24 = 16777216 := by decide
                omega
              simp only [Instr.buildSlice, Sem.run_bind, run_underlying' hu, Result.andThen_ok, run_sizeOf hs, if_neg n1]
              by_cases h0 : len * size = 0
              · simp only [if_pos h0]
                have e1 := hcells #[] (fun h => absurd h0 h)
                rw [h0] at e1 ⊢
                simp only [Array.range_zero'] at e1 ⊢
                simp only [List.map_toArray, List.map_nil] at e1 ⊢
                rw [e1, r2]
                simp only [Sem.run_bind, run_newRow, Result.andThen_ok, Sem.run_pure]
              · simp only [if_neg h0, Sem.run_bind, run_zeroValue hz, Sem.run_pure, Result.andThen_ok, hcells z.cells (fun _ => rfl)]
                simp only [r2, Sem.run_bind, run_newRow, Result.andThen_ok, Sem.run_pure]
            · refine new_row hb (Nat.le_refl _) (Nat.le_refl _) ?_
              rw [hs, hlen]
              exact Nat.le_refl _
/-- a new block, wherever it is known -/
theorem new_op {o : Oper} (hk : kindOf P o.op = 3) {n : Nat} {t : Tm} {fr : Frame} (hM : MR P φ A w) (hT : TR φ n t fr.tmps) (hc : ∀ x ∈ o.op.operands.toList, constOk P x = true) {A0 A' : AW} {v : Value} (h : (opS P o.type o.op).val t A0 = .val v A') :
    ∃ b f, (∀ B, (opS P o.type o.op).val t B = newR B b f) ∧ NewOk P φ w b f ((execOp fr.eval o).run P w) := by
  have hS : ∀ x, x ∈ o.op.operands.toList → VR φ ((evS x).val t) (fr.eval x) := fun x hx => evS_ok hM hT x (hc x hx)
  obtain ⟨dst, op, type, pos, after, guard⟩ := o
  simp only at hk h hc hS ⊢
  cases op with
  | alloc e =>
    have h' : allocA P A0 e = .val v A' := h
    unfold allocA at h'
    cases hz : zeroA P e with
    | none => rw [hz] at h'; cases h'
    | some z => exact ⟨_, _, fun B => by show allocA P B e = _; unfold allocA; rw [hz], alloc_new hz⟩
  | box e x => exact ⟨_, _, fun B => rfl, box_new e (hS x (by simp [Op.operands]))⟩
  | buildSlice ty len parts =>
    obtain ⟨b, f, h1, h2⟩ := buildSlice_new (P := P) (φ := φ) (w := w) ty len (evP_ok hM hT parts.toList fun x hx => hc x (by simpa [Op.operands] using hx)) h
    have e : (⟨parts.toList.map fun p => (p.1, fr.eval p.2)⟩ : Array (Nat × Value)) = parts.map fun p => (p.1, fr.eval p.2) := by apply Array.ext'; simp
    rw [e] at h2
    exact ⟨b, f, h1, h2⟩
  | makeMap ty r => cases r with
    | none => exact ⟨_, _, fun B => rfl, makeMap_new ty⟩
    | some x => cases h
  | makeSlice ty l c => exact makeSlice_new ty (hS l (by simp [Op.operands])) (hS c (by simp [Op.operands])) h
  | binOp op ty x y yt => cases op <;> cases hk
  | convert s d x =>
    unfold kindOf at hk
    simp only at hk
    split at hk <;> cases hk
  | call c =>
    obtain ⟨callee, args, ats⟩ := c
    cases callee with
    | builtin b => cases b <;> cases hk
    | _ => cases hk
  | _ => cases hk

/-! ## The same value -/
theorem byteL_sound : ∀ {a b : List UInt8}, byteL a b = true → a = b
  | [], [], _ => rfl
  | [], _ :: _, h => by cases h
  | _ :: _, [], h => by cases h
  | x :: a, y :: b, h => by
    unfold byteL at h
    cases hb : Nat.beq x.toNat y.toNat with
    | false => rw [hb] at h; cases h
    | true =>
      rw [hb] at h
      rw [UInt8.toNat_inj.1 (Nat.eq_of_beq_eq_true hb), byteL_sound h]
theorem sameK_sound {a b : IntKind} (h : sameK a b = true) : a = b := by cases a <;> cases b <;> first | rfl | cases h
theorem intEq_sound {a b : Int} (h : intEq a b = true) : a = b := by
  cases a <;> cases b <;> first | (rw [Nat.eq_of_beq_eq_true h]; done) | cases h
theorem sameVals_eq {s : Value → Value → Bool} (hs : ∀ x y, s x y = true → x = y) : ∀ {l m : List Value}, sameVal.sameVals s l m = true → l = m
  | [], [], _ => rfl
  | [], _ :: _, h => by cases h
  | _ :: _, [], h => by cases h
  | x :: l, y :: m, h => by
    simp only [sameVal.sameVals, Bool.and_eq_true] at h
    rw [hs x y h.1, sameVals_eq hs h.2]
theorem arr_eq {l m : Array Value} (h : l.toList = m.toList) : l = m := Array.ext' h
theorem sameVal_eq : ∀ (n : Nat) (x y : Value), sameVal n x y = true → x = y
  | 0, _, _, h => by cases h
  | n + 1, x, y, h => by
    have ih := sameVal_eq n
    cases x with
    | int k a =>
      cases y <;> first | (cases h; done) | skip
      simp only [sameVal, Bool.and_eq_true] at h
      rw [sameK_sound h.1, intEq_sound h.2]
    | bool a =>
      cases y <;> first | (cases h; done) | skip
      simp only [sameVal, beq_iff_eq] at h
      rw [h]
    | string a =>
      cases y <;> first | (cases h; done) | skip
      rename_i b
      simp only [sameVal, bytesOf] at h
      have := byteL_sound h
      obtain ⟨⟨a⟩⟩ := a
      obtain ⟨⟨b⟩⟩ := b
      simp only at this
      rw [this]
    | pointer a =>
      cases y <;> first | (cases h; done) | skip
      simp only [sameVal, beq_iff_eq] at h
      rw [h]
    | slice a l c =>
      cases y <;> first | (cases h; done) | skip
      simp only [sameVal, Bool.and_eq_true, beq_iff_eq] at h
      rw [h.1, Nat.eq_of_beq_eq_true h.2.1, Nat.eq_of_beq_eq_true h.2.2]
    | map a =>
      cases y <;> first | (cases h; done) | skip
      simp only [sameVal, beq_iff_eq] at h
      rw [h]
    | chan a =>
      cases y <;> first | (cases h; done) | skip
      simp only [sameVal, beq_iff_eq] at h
      rw [h]
    | nilIface => cases y <;> first | (cases h; done) | rfl
    | nilFunc => cases y <;> first | (cases h; done) | rfl
    | iface t v =>
      cases y <;> first | (cases h; done) | skip
      simp only [sameVal, Bool.and_eq_true] at h
      rw [Nat.eq_of_beq_eq_true h.1, ih _ _ h.2]
    | agg l =>
      cases y <;> first | (cases h; done) | skip
      simp only [sameVal] at h
      rw [arr_eq (sameVals_eq ih h)]
    | tuple l =>
      cases y <;> first | (cases h; done) | skip
      simp only [sameVal] at h
      rw [arr_eq (sameVals_eq ih h)]
    | func f a b =>
      cases y <;> first | (cases h; done) | skip
      simp only [sameVal, Bool.and_eq_true, beq_iff_eq] at h
      rw [h.1, arr_eq (sameVals_eq ih h.2.1), arr_eq (sameVals_eq ih h.2.2)]
    | _ => cases h
end Go.Sh
