/- Part of a proof by a machine of ones own: see the text with the theorem. -/
import Derived.Test.YtanpablcoimajaaDoorSh10
namespace Go.Sh
open Go
variable {P : Program} {φ : Inj} {A : AW} {w : World}

/-! structs and arrays are built -/
theorem foldl_set (off : Nat) : ∀ (l : List Value) (k : Nat) (cells : Array Value), off + k + l.length ≤ cells.size →
    ((l.zipIdx k).foldl (fun cs (x : Value × Nat) => cs.setIfInBounds (off + x.2) x.1) cells).toList = cells.toList.take (off + k) ++ (l ++ cells.toList.drop (off + k + l.length))
  | [], k, cells, h => by simp
  | x :: l, k, cells, h => by
    simp only [List.length_cons] at h
    simp only [List.zipIdx_cons, List.foldl_cons]
    rw [foldl_set off l (k + 1) _ (by simp; omega)]
    simp only [Array.toList_setIfInBounds]
    have e3 : (cells.toList.set (off + k) x).take (off + (k + 1)) = cells.toList.take (off + k) ++ [x] := by
      rw [show off + (k + 1) = (off + k) + 1 from by omega, List.take_add_one, List.take_set_of_le (Nat.le_refl _)]
      simp [show off + k < cells.size by omega]
    have e4 : off + (k + 1) + l.length = off + k + (l.length + 1) := by omega
    rw [e3, List.drop_set_of_lt (by omega), e4]
    simp only [List.length_cons, List.append_assoc, List.cons_append, List.nil_append]
theorem fold_splice {v : Value} {off : Nat} {cells : Array Value} (h : off + v.cells.size ≤ cells.size) :
    (v.cells.zipIdx.foldl (fun cs (c, j) => cs.setIfInBounds (off + j) c) cells).toList = cells.toList.take off ++ (v.cells.toList ++ cells.toList.drop (off + v.cells.size)) := by
  have := foldl_set off v.cells.toList 0 cells (by simpa using h)
  simp only [Nat.add_zero, Array.length_toList] at this
  rw [← this]
  congr 1
  rw [← Array.foldl_toList]
  simp [Array.toList_zipIdx]
/-- parts -/
inductive PR (φ : Inj) : List (Nat × Value) → List (Nat × Value) → Prop
  | nil : PR φ [] []
  | cons (i : Nat) {v v' : Value} {l l' : List (Nat × Value)} (h : VR φ v v') (k : PR φ l l') : PR φ ((i, v) :: l) ((i, v') :: l')
theorem fill_ok {place place' : Nat → Option (Nat × Nat)} (hp : ∀ i q, place i = some q → place' i = some q) : ∀ {l l' : List (Nat × Value)}, PR φ l l' → ∀ {cs : List Value} {cs' : Array Value}, LR φ cs cs'.toList → ∀ {out : List Value}, fillA place cs l = some out →
    ∃ out', LR φ out out' ∧ Instr.fill place' cs' l' = some ⟨out'⟩
  | _, _, .nil, cs, cs', hc, out, h => by
    simp only [fillA] at h
    cases h
    exact ⟨cs'.toList, hc, rfl⟩
  | _, _, .cons i hv k, cs, cs', hc, out, h => by
    rename_i v v' l l'
    simp only [fillA] at h
    cases hpl : place i with
    | none => rw [hpl] at h; cases h
    | some q =>
      rw [hpl] at h
      simp only [lenL0] at h
      cases hcd : (Nat.beq (cellsOf v).length q.2 && Nat.ble (q.1 + q.2) cs.length) with
      | false => rw [hcd] at h; cases h
      | true =>
        rw [hcd] at h
        simp only [Bool.and_eq_true] at hcd
        have h1 := Nat.eq_of_beq_eq_true hcd.1
        have h2 := Nat.le_of_ble_eq_true hcd.2
        simp only [cond_true] at h
        have hcl := cells_LR hv
        have hll := hcl.length
        have hlc := hc.length
        simp only [Array.length_toList] at hll hlc
        have hsp := hc.splice hcl q.1 (by omega)
        simp only [Array.length_toList] at hsp
        rw [← fold_splice (by omega)] at hsp
        obtain ⟨out', r1, r2⟩ := fill_ok hp k hsp h
        refine ⟨out', r1, ?_⟩
        obtain ⟨off, size⟩ := q
        simp only at h1 h2
        simp only [Instr.fill, hp i _ hpl]
        rw [if_neg]
        · exact r2
        · simp; omega
theorem placeOf_some {t : TypeId} {p : Nat → Option (Nat × Nat)} (h : placeOf P t = some p) :
    (∃ fs, P.underlying t = some (.struct fs) ∧ (∀ f ∈ fs.toList, (szOf P f.type).isSome = true) ∧ p = fieldAt P fs.toList) ∨ (∃ n e k, P.underlying t = some (.array n e) ∧ szOf P e = some k ∧ p = rowAt k) := by
  unfold placeOf at h
  split at h
  · rename_i fs hu
    cases hb : (fs.toList.all fun f => (szOf P f.type).isSome) with
    | false => rw [hb] at h; cases h
    | true => rw [hb] at h; cases h; exact .inl ⟨fs, hu, List.all_eq_true.1 hb, rfl⟩
  · rename_i n e hu
    cases hs : szOf P e with
    | none => rw [hs] at h; cases h
    | some k => rw [hs] at h; cases h; exact .inr ⟨n, e, k, hu, hs, rfl⟩
  · cases h
theorem run_places : ∀ (fs : List Field) (w : World), (∀ f ∈ fs, (szOf P f.type).isSome = true) →
    (fs.mapM fun f => (do pure (f.offset, ← sizeOf f.type) : Sem (Nat × Nat))).run P w = .ok (fs.map fun f => (f.offset, (szOf P f.type).getD 0)) w
  | [], w, _ => rfl
  | f :: fs, w, h => by
    have h1 := h f (List.mem_cons_self ..)
    cases hs : szOf P f.type with
    | none => rw [hs] at h1; cases h1
    | some n =>
      rw [List.mapM_cons]
      simp only [Sem.run_bind, run_sizeOf hs, Result.andThen_ok, Sem.run_pure, run_places fs w fun f hf => h f (List.mem_cons_of_mem _ hf), List.map_cons, hs, Option.getD_some]
theorem run_placesA (fs : Array Field) (w : World) (h : ∀ f ∈ fs.toList, (szOf P f.type).isSome = true) :
    (fs.mapM fun f => (do pure (f.offset, ← sizeOf f.type) : Sem (Nat × Nat))).run P w = .ok ⟨fs.toList.map fun f => (f.offset, (szOf P f.type).getD 0)⟩ w := by
  rw [Array.mapM_eq_mapM_toList]
  simp only [Sem.run_map, run_places fs.toList w h, Result.andThen_ok]
theorem build_ok (hM : MR P φ A w) (t : TypeId) {parts parts' : List (Nat × Value)} (hp : PR φ parts parts') :
    OpOk P φ A w (buildA P A t parts) ((do pure (.value (← Instr.build t ⟨parts'⟩) : Next) : Sem Next).run P w) := by
  unfold buildA
  cases hz : zeroA P t with
  | none => exact trivial
  | some z =>
    obtain ⟨i, h1, h2, h3, h4, _⟩ := zeroA_some hz
    simp only
    cases hpl : placeOf P t with
    | none => exact trivial
    | some p =>
      simp only
      cases hf : fillA p (cellsOf z) parts with
      | none => exact trivial
      | some cs =>
        simp only [aggR]
        rcases placeOf_some hpl with ⟨fs, hu, hall, rfl⟩ | ⟨n, e, k, hu, hs, rfl⟩
        · obtain ⟨out', r1, r2⟩ := fill_ok (place' := fun i => (⟨fs.toList.map fun f => (f.offset, (szOf P f.type).getD 0)⟩ : Array (Nat × Nat))[i]?) (fun i q hq => by
            unfold fieldAt at hq
            rw [nth_eq] at hq
            cases hfi : fs.toList[i]? with
            | none => rw [hfi] at hq; cases hq
            | some f =>
              rw [hfi] at hq
              simp only at hq
              cases hs : szOf P f.type with
              | none => rw [hs] at hq; cases hq
              | some n =>
                rw [hs] at hq
                cases hq
                rw [← Array.getElem?_toList]
                simp only [List.getElem?_map, hfi, Option.map_some, hs, Option.getD_some]) hp (by simpa using elem_LR h3) hf
          refine OpOk.same hM (.agg r1) (run_v ?_)
          simp only [Instr.build, Sem.run_bind, run_zeroValue hz, Result.andThen_ok, run_underlying' hu, run_placesA fs w hall]
          simp only [r2, Sem.run_pure]
        · obtain ⟨out', r1, r2⟩ := fill_ok (place' := fun i => some (i * k, k)) (fun i q hq => hq) hp (by simpa using elem_LR h3) hf
          refine OpOk.same hM (.agg r1) (run_v ?_)
          simp only [Instr.build, Sem.run_bind, run_zeroValue hz, Result.andThen_ok, run_underlying' hu, run_sizeOf hs]
          simp only [r2, Sem.run_pure]
theorem buildSlice_ok (hM : MR P φ A w) (t : TypeId) (len : Nat) {parts parts' : List (Nat × Value)} (hp : PR φ parts parts') :
    OpOk P φ A w (buildSliceA P A t len parts) ((do pure (.value (← Instr.buildSlice t len ⟨parts'⟩) : Next) : Sem Next).run P w) := by
  unfold buildSliceA
  cases he : elemA P t with
  | none => exact trivial
  | some e =>
    have hu := elemA_some he
    simp only
    cases hs : szOf P e with
    | none => exact trivial
    | some size =>
      simp only
      cases hz : zeroA P e with
      | none => exact trivial
      | some z =>
        obtain ⟨i, h1, h2, h3, h4, _⟩ := zeroA_some hz
        simp only
        cases hb : Nat.ble (len * size) 1000000 with
        | false => exact trivial
        | true =>
          have hb := Nat.le_of_ble_eq_true hb
          simp only [cond_true, rowR]
          cases hf : fillA (rowAt size) (repl (cellsOf z) len) parts with
          | none => exact trivial
          | some cs =>
            simp only
            have hsz : i.size = size := by rw [szOf_info h1] at hs; exact opt_some hs
            have hzl : z.cells.size = size := by
              have := (elem_LR (φ := φ) h3).length
              rw [h4, hsz] at this
              simpa using this.symm
            obtain ⟨out', r1, r2⟩ := fill_ok (place' := fun i => some (i * size, size)) (fun i q hq => hq) hp (cs' := ⟨repl z.cells.toList len⟩) ((elem_LR h3).repl len) hf
            have hcells : ∀ zz : Array Value, (len * size ≠ 0 → zz = z.cells) → (Array.range (len * size)).map (zz[· % zz.size]!) = ⟨repl z.cells.toList len⟩ := by
              intro zz hzz
              by_cases h0 : len * size = 0
              · have : (repl z.cells.toList len).length = 0 := by rw [repl_length]; simp [hzl, h0]
                rw [List.eq_nil_of_length_eq_zero this, h0, Array.range_zero']
                simp
              · rw [hzz h0]
                apply Array.ext'
                rw [← hzl]
                exact range_zero z.cells len
            obtain ⟨φ', g3, g4, _, g5⟩ := newCells hM (e := e) (c := cs) (cc := out') (by simpa using r1) [] (fz := (0, 0)) (fun off _ => by simp)
            simp only [List.append_nil] at g3 g4 g5
            have hlen : out'.length = len * size := by
              have q1 : ∀ {parts : List (Nat × Value)} {c o : List Value}, fillA (rowAt size) c parts = some o → o.length = c.length := by
                intro parts
                induction parts with
                | nil => intro c o h; cases h; rfl
                | cons p ps ih =>
                  intro c o h
                  simp only [fillA, rowAt, lenL0] at h
                  cases hcd : (Nat.beq (cellsOf p.2).length size && Nat.ble (p.1 * size + size) c.length) with
                  | false => rw [hcd] at h; cases h
                  | true =>
                    rw [hcd] at h
                    simp only [Bool.and_eq_true] at hcd
                    have a1 := Nat.eq_of_beq_eq_true hcd.1
                    have a2 := Nat.le_of_ble_eq_true hcd.2
                    rw [ih h, spliceL_length _ _ _ (by omega)]
              rw [← r1.length, q1 hf, repl_length, h4, hsz]
            refine ⟨φ', _, g3, g4, .inl ⟨.slice (some ⟨w.heap.size, 0, none⟩) len len, run_v ?_, ?_⟩⟩
            · have n1 : ¬ (len * size > 2 ^ 24) := by
                have : (2 : Nat) ^ 24 = 16777216 := by decide
                omega
              simp only [Instr.buildSlice, Sem.run_bind, run_underlying' hu, Result.andThen_ok, run_sizeOf hs, if_neg n1]
              by_cases h0 : len * size = 0
              · simp only [if_pos h0]
                have e1 := hcells #[] (fun h => absurd h0 h)
                rw [h0] at e1 ⊢
                simp only [Array.range_zero'] at e1 ⊢
                simp only [List.map_toArray, List.map_nil] at e1 ⊢
                rw [e1, r2]
                simp only [Sem.run_bind, run_newRow, Result.andThen_ok, Sem.run_pure]
              · simp only [if_neg h0, Sem.run_bind, run_zeroValue hz, Sem.run_pure, Result.andThen_ok, hcells z.cells (fun _ => rfl)]
                simp only [r2, Sem.run_bind, run_newRow, Result.andThen_ok, Sem.run_pure]
            · refine new_row g5 (Nat.le_refl _) (Nat.le_refl _) ?_
              rw [hs, hlen]
              exact Nat.le_refl _
theorem lookV_VR {ok b : Bool} {v v' : Value} (h : VR φ v v') : VR φ (lookV ok b v) (if ok then .tuple #[v', .bool b] else v') := by
  cases ok
  · exact h
  · exact .tuple (.cons h (.cons (.bool b) .nil))
theorem assertFails_ok (hM : MR P φ A w) (t : TypeId) (ok : Bool) {s : Sem Value} (h : ok = true → s.run P w = (do pure (.tuple #[← zeroValue t, .bool false]) : Sem Value).run P w) :
    OpOk P φ A w (assertFails P A t ok) ((do pure (.value (← s) : Next) : Sem Next).run P w) := by
  cases ok with
  | false => exact trivial
  | true =>
    simp only [assertFails, cond_true]
    cases hz : zeroA P t with
    | none => exact trivial
    | some z =>
      obtain ⟨i, _, _, h3, _⟩ := zeroA_some hz
      refine OpOk.same hM (.tuple (.cons (h3 φ) (.cons (.bool false) .nil))) (run_v ?_)
      rw [h rfl]
      simp [run_zeroValue hz]
theorem typeAssert_ok (hM : MR P φ A w) (xt t : TypeId) (ok : Bool) {x x' : Value} (hx : VR φ x x') :
    OpOk P φ A w (typeAssertA P A t ok x) ((do pure (.value (← Instr.typeAssert x' xt t ok) : Next) : Sem Next).run P w) := by
  unfold typeAssertA
  cases hi : isIface P t with
  | none => exact trivial
  | some b =>
    obtain ⟨d, h1, h2⟩ := isIface_some hi
    cases b with
    | true => exact trivial
    | false =>
      have hd : ∀ ms, d ≠ .interface ms := fun ms e => by simpa using h2.2 ⟨ms, e⟩
      simp only [cond_false]
      cases hx with
      | nilIface =>
        simp only
        refine assertFails_ok hM t ok fun hok => ?_
        subst hok
        simp only [Instr.typeAssert, Sem.run_bind, run_underlying' h1, Result.andThen_ok]
        cases d <;> first | exact absurd rfl (hd _) | simp
      | iface u h =>
        rename_i v v'
        simp only
        cases hu : Nat.beq u t with
        | true =>
          have := Nat.eq_of_beq_eq_true hu
          subst this
          simp only [cond_true]
          refine OpOk.same hM (lookV_VR h) (run_v ?_)
          simp only [Instr.typeAssert, Sem.run_bind, run_underlying' h1, Result.andThen_ok]
          cases ok <;> cases d <;> first | exact absurd rfl (hd _) | simp
        | false =>
          have hne : u ≠ t := by rintro rfl; simp at hu
          simp only [cond_false]
          refine assertFails_ok hM t ok fun hok => ?_
          subst hok
          simp only [Instr.typeAssert, Sem.run_bind, run_underlying' h1, Result.andThen_ok]
          cases d <;> first | exact absurd rfl (hd _) | simp [hne]
      | _ => exact trivial
end Go.Sh
