/- Part of a proof by a machine of ones own: see the text with the theorem. -/
import Derived.Test.YtanpablcoimajaaDoorSh7
import Derived.Laws.MakeOwn
namespace Go.Sh
open Go
variable {P : Program} {φ : Inj} {A : AW} {w : World}

theorem LR.repl {l l' : List Value} (h : LR φ l l') : ∀ n, LR φ (repl l n) (repl l' n)
  | 0 => .nil
  | n + 1 => by
    simp only [Sh.repl, appL_eq]
    exact h.append (LR.repl h n)
theorem repl_length {α : Type} (l : List α) : ∀ n, (repl l n).length = n * l.length
  | 0 => by simp [Sh.repl]
  | n + 1 => by simp only [Sh.repl, appL_eq, List.length_append, repl_length l n, Nat.add_mul]; omega
theorem repl_get {α : Type} (l : List α) : ∀ n i, i < n * l.length → (repl l n)[i]? = l[i % l.length]?
  | 0, i, h => by simp at h
  | n + 1, i, h => by
    simp only [Sh.repl, appL_eq]
    by_cases hi : i < l.length
    · rw [List.getElem?_append_left hi, Nat.mod_eq_of_lt hi]
    · rw [List.getElem?_append_right (by omega), repl_get l n _ (by rw [Nat.add_mul] at h; omega)]
      congr 1
      rw [← Nat.mod_eq_sub_mod (by omega)]
/-- zeros, as the model lays them -/
theorem range_zero (z : Array Value) (n : Nat) : ((Array.range (n * z.size)).map (z[· % z.size]!)).toList = repl z.toList n := by
  apply List.ext_getElem?
  intro i
  by_cases hi : i < n * z.size
  · rw [repl_get _ _ _ (by simpa using hi)]
    have hz : 0 < z.size := by
      rcases Nat.eq_zero_or_pos z.size with h | h
      · rw [h] at hi; simp at hi
      · exact h
    have hm := Nat.mod_lt i hz
    simp [hi, hm]
  · rw [List.getElem?_eq_none (by simp; omega), List.getElem?_eq_none (by rw [repl_length]; simp; omega)]
theorem elem_LR {z : Value} (h : ∀ φ, VR φ z z) : LR φ (cellsOf z) z.cells.toList := cells_LR (h φ)
theorem cellsOf_eq (v : Value) : cellsOf v = v.cells.toList := by cases v <;> rfl
theorem smallT_some {t : TypeId} (h : smallT P t = true) : ∃ i z, P.info? t = some i ∧ i.bytes ≤ 1000000 ∧ i.zero = some z ∧ z.cells.size = i.size := by
  unfold smallT at h
  cases hi : P.info? t with
  | none => rw [hi] at h; cases h
  | some i =>
    rw [hi] at h
    simp only [Bool.and_eq_true] at h
    cases hz : i.zero with
    | none => rw [hz] at h; simp at h
    | some z =>
      rw [hz] at h
      simp only [lenL0, cellsOf_eq] at h
      exact ⟨i, z, rfl, Nat.le_of_ble_eq_true h.1, hz, by simpa using Nat.eq_of_beq_eq_true h.2⟩
theorem szOf_info {t : TypeId} {i : TypeInfo} (h : P.info? t = some i) : szOf P t = some i.size := by simp [szOf, h]
theorem natA_some {v : Value} {n : Nat} (h : natA v = some n) : ∃ k, v = .int k (n : Int) := by
  cases v <;> simp only [natA] at h <;> try (cases h; done)
  rename_i k i
  cases i with
  | ofNat m => cases h; exact ⟨k, rfl⟩
  | negSucc m => cases h
theorem makeSlice_ok (hM : MR P φ A w) (t : TypeId) {l l' c c' : Value} (hl : VR φ l l') (hc : VR φ c c') :
    OpOk P φ A w (makeSliceA P A t l c) ((do pure (.value (← Instr.makeSlice t l' c') : Next) : Sem Next).run P w) := by
  unfold makeSliceA
  cases he : elemA P t with
  | none => exact trivial
  | some e =>
    have hu := elemA_some he
    simp only
    cases hn : natA l with
    | none => exact trivial
    | some n =>
      simp only
      cases hm : natA c with
      | none => exact trivial
      | some m =>
        obtain ⟨k1, rfl⟩ := natA_some hn
        obtain ⟨k2, rfl⟩ := natA_some hm
        have e1 := VR_int hl
        have e2 := VR_int hc
        subst e1 e2
        simp only [makeSliceB]
        cases hz : zeroA P e with
        | none => exact trivial
        | some z =>
          obtain ⟨i, h1, h2, h3, h4, _⟩ := zeroA_some hz
          simp only
          cases hb : (Nat.ble n m && (Nat.ble m 1000000 && smallT P e)) with
          | false => exact trivial
          | true =>
            simp only [Bool.and_eq_true] at hb
            obtain ⟨hb1, hb2, hb3⟩ := hb
            have hb1 := Nat.le_of_ble_eq_true hb1
            have hb2 := Nat.le_of_ble_eq_true hb2
            obtain ⟨i', z', g1, g2, _⟩ := smallT_some hb3
            rw [h1] at g1
            injection g1 with g1
            subst g1
            simp only [cond_true]
            have hzl : z.cells.size = i.size := by
              have := (elem_LR (φ := φ) h3).length
              rw [h4] at this
              simpa using this.symm
            have hcells : madeCells z.cells (m * i.size) = ⟨repl z.cells.toList m⟩ := by
              apply Array.ext'
              rw [← hzl]
              exact range_zero z.cells m
            obtain ⟨φ', g3, g4, _, g5⟩ := newCells hM (e := e) (c := repl (cellsOf z) m) (cc := repl z.cells.toList m) (by simpa using (elem_LR h3).repl m) [] (fz := (0, 0)) (fun off _ => by simp)
            simp only [List.append_nil] at g3 g4 g5
            refine ⟨φ', _, g3, g4, .inl ⟨.slice (some ⟨w.heap.size, 0, none⟩) n m, run_v ?_, ?_⟩⟩
            · have hbm : (i.bytes : Int) * (m : Int) ≤ 281474976710656 := by
                have h5 : i.bytes * m ≤ 1000000 * 1000000 := Nat.mul_le_mul g2 hb2
                have h6 : ((i.bytes * m : Nat) : Int) ≤ 281474976710656 := by omega
                rwa [Int.natCast_mul] at h6
              have := run_make (P := P) w t e i z hu h1 h2 k1 k2 n m (by omega) (by omega) hbm (by omega)
              simp only [Int.toNat_natCast, hcells] at this
              exact this
            · refine new_row g5 hb1 (Nat.le_refl _) ?_
              rw [repl_length, szOf_info h1]
              simp [hzl]
/-! append -/
theorem isList_some {u : TypeId} (h : isList P u = true) : ∃ d, P.underlying u = some d ∧ (∀ k, d ≠ .int k) := by
  unfold isList at h
  cases hu : P.underlying u with
  | none => rw [hu] at h; cases h
  | some d =>
    rw [hu] at h
    refine ⟨d, rfl, ?_⟩
    rintro k rfl
    cases h
theorem run_notInt {d : TypeDesc} {u : TypeId} (hu : P.underlying u = some d) (hd : ∀ k, d ≠ .int k) (w : World) :
    (do pure ((← underlying u) matches .int _) : Sem Bool).run P w = .ok false w := by
  simp only [Sem.run_bind, run_underlying' hu, Result.andThen_ok]
  cases d <;> first | rfl | exact absurd rfl (hd _)
theorem run_append_at {ts : Array TypeId} {ty t u e : TypeId} {d : TypeDesc} {i : TypeInfo} {args : Array Value} {base : Option Addr} {n cap m : Nat} {x : Value} {news : Array Value}
    (h0 : ts[0]? = some t) (h1 : ts[1]? = some u) (hu : P.underlying u = some d) (_hd : ∀ k, d ≠ .int k) (ht : P.underlying t = some (.slice e)) (hi : P.info? e = some i)
    (ha0 : args[0]? = some (.slice base n cap)) (ha1 : args[1]? = some x) (hl : (Builtin.lenOf x).run P w = .ok m w) (hf : (Builtin.firstCells i.size m x).run P w = .ok news w) (hle : n + m ≤ cap) :
    (Builtin.append_ ts ty args).run P w = ((match base with | some a => storeCells (a.add (n * i.size)) news.toList | none => pure () : Sem Unit).run P w).andThen fun _ w' => .ok (.slice base (n + m) cap) w' := by
  have hs : (sizeOf e).run P w = .ok i.size w := by simp [sizeOf, typeInfo, hi]
  simp only [Builtin.append_, h0, h1, ha0, ha1, Sem.run_bind, run_underlying' ht, run_underlying' hu, hs, Result.andThen_ok, Sem.run_pure, Bool.false_eq_true, if_false, hl, if_pos hle, Bool.not_false, if_true, hf]
  cases base with
  | none => simp
  | some a => simp
theorem run_append_grown {ts : Array TypeId} {ty t u e : TypeId} {d : TypeDesc} {i : TypeInfo} {z : Value} {args : Array Value} {base : Option Addr} {n cap m : Nat} {x : Value} {old news : Array Value}
    (h0 : ts[0]? = some t) (h1 : ts[1]? = some u) (hu : P.underlying u = some d) (_hd : ∀ k, d ≠ .int k) (ht : P.underlying t = some (.slice e)) (hi : P.info? e = some i) (hiz : i.zero = some z)
    (ha0 : args[0]? = some (.slice base n cap)) (ha1 : args[1]? = some x) (hl : (Builtin.lenOf x).run P w = .ok m w)
    (hold : ∀ k, (Builtin.firstCells i.size n (.slice base n cap)).run P { w with drawn := k } = .ok old { w with drawn := k }) (hf : ∀ k, (Builtin.firstCells i.size m x).run P { w with drawn := k } = .ok news { w with drawn := k })
    (hlt : cap < n + m) (hsm : n + m ≤ 1000000) (hby : i.bytes ≤ 1000000) :
    ∃ nc k, n + m ≤ nc ∧ (Builtin.append_ ts ty args).run P w = .ok (.slice (some ⟨w.heap.size, 0, none⟩) (n + m) nc) (({ w with drawn := k } : World).alloc (.cells (old ++ news ++ Builtin.zeroCells z.cells (nc - (n + m))) e)) := by
  have hs : ∀ w : World, (sizeOf e).run P w = .ok i.size w := by intro w; simp [sizeOf, typeInfo, hi]
  have hti : ∀ w : World, (typeInfo e).run P w = .ok i w := by intro w; simp [typeInfo, hi]
  have hzv : ∀ w : World, (zeroValue e).run P w = .ok z w := by intro w; simp [zeroValue, typeInfo, hi, hiz]
  have n1 : ¬ ((n + m : Nat) : Int) > IntKind.i64.max := by rw [IntKind.max_i64]; omega
  have n2 : ¬ (Builtin.nextslicecap (n + m) cap * i.bytes > 2 ^ 48) := by
    have h2 := nextslicecap_le hlt
    have h3 : Builtin.nextslicecap (n + m) cap * i.bytes ≤ (2 * (n + m)) * i.bytes := Nat.mul_le_mul_right _ h2
    have h4 : (2 * (n + m)) * i.bytes ≤ (2 * 1000000) * 1000000 := Nat.mul_le_mul (by omega) hby
    have h5 : (2 : Nat) ^ 48 = 281474976710656 := by decide
    omega
  refine ⟨Question.cut (.appendCap (n + m) cap e) (w.tape w.drawn (.appendCap (n + m) cap e)), w.drawn + 1, Nat.le_add_right _ _, ?_⟩
  have n3 : ¬ (((n + m : Nat) : Int) > IntKind.i64.max ∧ (False ∨ i.bytes = 0)) := fun h => n1 h.1
  simp only [Builtin.append_, h0, h1, ha0, ha1, Sem.run_bind, run_underlying' ht, run_underlying' hu, hs, Result.andThen_ok, Sem.run_pure, Bool.false_eq_true, if_false, hl, if_neg (Nat.not_le.2 hlt), hti, if_neg n3, if_neg n2, run_choose, Question.forced, run_askRoom, hold, hf, Bool.not_false, if_true, hzv, run_newRow]
/-! a row that grows -/
def Inj.kill (φ : Inj) (b : Nat) : Inj := fun x => if x = b then some .dead else φ x
theorem Inj.le_kill {φ : Inj} {b : Nat} : φ.le (φ.kill b) := fun x e hx => by
  unfold Inj.kill
  by_cases h : x = b
  · rw [if_pos h]; exact .inr rfl
  · rw [if_neg h]; exact .inl hx
theorem MR.kill (hM : MR P φ A w) {b : Nat} (hlim : A.lim ≤ b) (hb : φ b ≠ none) : MR P (φ.kill b) (A.set b none) w ∧ Ext φ A w (φ.kill b) (A.set b none) w := by
  have hget : ∀ x, (A.set b none).heap.get x = if x = b then none else A.heap.get x := fun x => get_put _ _ _ _
  have hφ : ∀ x, φ.kill b x = if x = b then some .dead else φ x := fun _ => rfl
  refine ⟨⟨fun x c n s d hx => ?_, fun x hx => ?_, fun x y c n s d n' s' d' hx hy => ?_, fun x hx => ?_, fun g hg => ?_, hM.lim⟩, ⟨Inj.le_kill, rfl, Nat.le_refl _, fun x hx => ?_, Nat.le_refl _, fun _ _ _ => rfl, fun x c n s d hx => ?_, fun x _ hn => ?_, rfl, rfl, rfl⟩⟩
  · rw [hφ] at hx
    rw [hget]
    by_cases e : x = b
    · rw [if_pos e] at hx; cases hx
    · rw [if_neg e] at hx ⊢
      obtain ⟨o, oc, h1, h2, h3⟩ := hM.obj _ _ _ _ _ hx
      exact ⟨o, oc, h1, h2, h3.mono Inj.le_kill⟩
  · rw [hget]
    by_cases e : x = b
    · rw [if_pos e]
    · rw [if_neg e]; rw [hφ, if_neg e] at hx; exact hM.dead x hx
  · rw [hφ] at hx hy
    by_cases e : x = b
    · rw [if_pos e] at hx; cases hx
    · by_cases e' : y = b
      · rw [if_pos e'] at hy; cases hy
      · rw [if_neg e] at hx; rw [if_neg e'] at hy
        exact hM.one _ _ _ _ _ _ _ _ _ hx hy
  · rw [hφ]
    have := hM.fresh x hx
    by_cases e : x = b
    · subst e; exact absurd this hb
    · rw [if_neg e]; exact this
  · rw [hφ]
    by_cases e : g = b
    · rw [if_pos e]; exact .inl rfl
    · rw [if_neg e]; exact hM.globals g hg
  · rw [hget, hφ, if_neg (by omega), if_neg (by omega)]
    exact ⟨rfl, rfl⟩
  · rw [hφ] at hx
    by_cases e : x = b
    · rw [if_pos e] at hx; cases hx
    · rw [if_neg e] at hx; exact .inl hx
  · have e : x ≠ b := fun e => hb (e ▸ hn)
    rw [hget, hφ, if_neg e, if_neg e]
    exact ⟨rfl, hn⟩
/-- a block is gone; where it lay, a new one lies -/
theorem MR.move (hM : MR P φ A w) {b c n s d : Nat} (hlim : A.lim ≤ b) (hb : φ b = some (.at_ c n s d)) {o : AObj} {oc : Obj} {n' s' d' : Nat} (ho : OR P φ o oc n' s' d') :
    ∃ φ', MR P φ' ((A.set b none).add o) (setBlk w c oc) ∧ Ext φ A w φ' ((A.set b none).add o) (setBlk w c oc) ∧ φ.le φ' ∧ φ' A.next = some (.at_ c n' s' d') := by
  obtain ⟨hK, hE⟩ := hM.kill hlim (by rw [hb]; simp)
  obtain ⟨o0, oc0, _, h2, _⟩ := hM.obj _ _ _ _ _ hb
  have hlt := lt_of_heap h2
  have hnext : ∀ x c n s d, φ x = some (.at_ c n s d) → x ≠ A.next := fun x c n s d hx e => by
    have := hM.fresh x (by omega); rw [this] at hx; cases hx
  have hkn : φ.kill b A.next = none := hK.fresh A.next (Nat.le_refl _)
  have hle : φ.le ((φ.kill b).add A.next (.at_ c n' s' d')) := Inj.le_trans Inj.le_kill (Inj.le_add hkn)
  have hφ : ∀ x, ((φ.kill b).add A.next (.at_ c n' s' d')) x = if x = A.next then some (.at_ c n' s' d') else if x = b then some .dead else φ x := fun _ => rfl
  have hget : ∀ x, ((A.set b none).add o).heap.get x = if x = A.next then some o else if x = b then none else A.heap.get x := fun x => by
    rw [show ((A.set b none).add o).heap = (A.heap.put b none).put A.next (some o) from rfl, get_put, get_put]
  refine ⟨(φ.kill b).add A.next (.at_ c n' s' d'), ⟨fun x cx nx sx dx hx => ?_, fun x hx => ?_, fun x y cx n1 s1 d1 n2 s2 d2 hx hy => ?_, fun x hx => ?_, fun g hg => ?_, Nat.le_trans hM.lim (Nat.le_succ _)⟩, ⟨hle, rfl, Nat.le_succ _, fun x hx => ?_, by simp [setBlk], fun x hx hu => ?_, fun x cx n1 s1 d1 hx => ?_, fun x hx hn => ?_, rfl, rfl, rfl⟩, hle, by rw [hφ, if_pos rfl]⟩
  · rw [hφ] at hx
    rw [hget]
    by_cases e : x = A.next
    · rw [if_pos e] at hx ⊢
      injection hx with hx
      injection hx with e1 e2 e3 e4
      subst e1 e2 e3 e4
      exact ⟨o, oc, rfl, setBlk_same hlt, ho.mono hle⟩
    · rw [if_neg e] at hx ⊢
      by_cases e' : x = b
      · rw [if_pos e'] at hx; cases hx
      · rw [if_neg e'] at hx ⊢
        obtain ⟨o1, oc1, h3, h4, h5⟩ := hM.obj _ _ _ _ _ hx
        have hne : cx ≠ c := fun e1 => e' (hM.one x b cx _ _ _ _ _ _ hx (e1 ▸ hb))
        exact ⟨o1, oc1, h3, by rw [setBlk_other hne]; exact h4, h5.mono hle⟩
  · rw [hφ] at hx
    rw [hget]
    by_cases e : x = A.next
    · rw [if_pos e] at hx; cases hx
    · rw [if_neg e] at hx ⊢
      by_cases e' : x = b
      · rw [if_pos e']
      · rw [if_neg e'] at hx ⊢; exact hM.dead x hx
  · rw [hφ] at hx hy
    by_cases e : x = A.next
    · rw [if_pos e] at hx
      by_cases e' : y = A.next
      · rw [e, e']
      · rw [if_neg e'] at hy
        by_cases e2 : y = b
        · rw [if_pos e2] at hy; cases hy
        · rw [if_neg e2] at hy
          injection hx with hx
          injection hx with e1
          exact absurd (hM.one _ _ _ _ _ _ _ _ _ hy (e1 ▸ hb)) e2
    · rw [if_neg e] at hx
      by_cases e2 : x = b
      · rw [if_pos e2] at hx; cases hx
      · rw [if_neg e2] at hx
        by_cases e' : y = A.next
        · rw [if_pos e'] at hy
          injection hy with hy
          injection hy with e1
          exact absurd (hM.one _ _ _ _ _ _ _ _ _ hx (e1 ▸ hb)) e2
        · rw [if_neg e'] at hy
          by_cases e3 : y = b
          · rw [if_pos e3] at hy; cases hy
          · rw [if_neg e3] at hy
            exact hM.one _ _ _ _ _ _ _ _ _ hx hy
  · have hx' : A.next + 1 ≤ x := hx
    rw [hφ, if_neg (by omega)]
    have := hM.fresh x (by omega)
    by_cases e' : x = b
    · subst e'; rw [this] at hb; cases hb
    · rw [if_neg e']; exact this
  · rw [hφ]
    by_cases e : g = A.next
    · have := hM.fresh g (by omega)
      rcases hM.globals g hg with h | ⟨n, s, h⟩ <;> rw [this] at h <;> cases h
    · rw [if_neg e]
      by_cases e' : g = b
      · rw [if_pos e']; exact .inl rfl
      · rw [if_neg e']; exact hM.globals g hg
  · have := hM.lim
    rw [hget, hφ, if_neg (by omega), if_neg (by omega), if_neg (by omega), if_neg (by omega)]
    exact ⟨rfl, rfl⟩
  · rw [setBlk_other]
    rintro rfl
    have := hu b _ _ _ hb
    omega
  · rw [hφ] at hx
    by_cases e : x = A.next
    · rw [if_pos e] at hx
      injection hx with hx
      injection hx with e1
      subst e1
      exact .inr ⟨by omega, .inr ⟨b, n, s, d, hb, hlim⟩⟩
    · rw [if_neg e] at hx
      by_cases e' : x = b
      · rw [if_pos e'] at hx; cases hx
      · rw [if_neg e'] at hx; exact .inl hx
  · have e : x ≠ b := fun e => by rw [e, hb] at hn; cases hn
    have e' : x ≠ A.next := by omega
    rw [hget, hφ]
    simp only [if_neg e, if_neg e']
    exact ⟨trivial, hn⟩
end Go.Sh
