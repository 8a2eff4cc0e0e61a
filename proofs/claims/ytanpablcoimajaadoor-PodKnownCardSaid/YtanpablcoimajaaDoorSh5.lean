/- Part of a proof by a machine of ones own: see the text with the theorem. -/
import Derived.Test.YtanpablcoimajaaDoorSh4
namespace Go.Sh
open Go
variable {P : Program} {φ : Inj} {A : AW} {w : World}

inductive TargetR (φ : Inj) : Target → Target → Prop
  | fn {f f' : Fn} {c c' : List Value} (hf : FnR φ f f') (hc : LR φ c c') : TargetR φ (.fn f ⟨c⟩) (.fn f' ⟨c'⟩)
structure DR (φ : Inj) (d d' : Deferred) : Prop where
  target : TargetR φ d.target d'.target
  args : LR φ d.args.toList d'.args.toList

/-- what an operation comes to, here and there -/
def OpOk (P : Program) (φ : Inj) (A : AW) (w : World) (y : R) (res : Result Next) : Prop :=
  match y with
  | .fail => True
  | .val v A' => ∃ φ' w', MR P φ' A' w' ∧ Ext φ A w φ' A' w' ∧ ((∃ v', res = .ok (.value v') w' ∧ VR φ' v v') ∨ (res = .ok .skip w' ∧ v = undef))
  | .enter f args A' => A' = A ∧ ∃ args', res = .ok (.enter f ⟨args'⟩) w ∧ LR φ args args'
  | .yield l args A' => A' = A ∧ ∃ l' args', BlkR φ l l' ∧ LR φ args args' ∧ res = (Instr.yield l' ⟨args'⟩).run P w
  | .defer d A' => A' = A ∧ ∃ d', DR φ d d' ∧ res = .ok (.defer d') w
  | .recover A' => A' = A ∧ res = .ok .recover w
  | .panic v A' => ∃ φ' w', MR P φ' A' w' ∧ Ext φ A w φ' A' w' ∧ ∃ v', VR φ' v v' ∧ res = .halt (.panic v') w'

theorem OpOk.same (hM : MR P φ A w) {v v' : Value} (h : VR φ v v') {res : Result Next} (hr : res = .ok (.value v') w) : OpOk P φ A w (.val v A) res :=
  ⟨φ, w, hM, Ext.refl _ _ _, .inl ⟨v', hr, h⟩⟩
theorem OpOk.pan (hM : MR P φ A w) {v v' : Value} (h : VR φ v v') {res : Result Next} (hr : res = .halt (.panic v') w) : OpOk P φ A w (.panic v A) res :=
  ⟨φ, w, hM, Ext.refl _ _ _, v', h, hr⟩

/-- what stands in the cells of a value -/
theorem cells_LR {v v' : Value} (h : VR φ v v') : LR φ (cellsOf v) v'.cells.toList := by
  cases h with
  | agg h => exact h
  | unk h => rw [cells_of_single h]; exact .cons (.unk h) .nil
  | bool => exact .cons (.bool _) .nil
  | int => exact .cons (.int _ _) .nil
  | float => exact .cons (.float _ _) .nil
  | complex => exact .cons (.complex _ _ _) .nil
  | string => exact .cons (.string _) .nil
  | ptrNil => exact .cons .ptrNil .nil
  | ptr h => exact .cons (.ptr h) .nil
  | slNil => exact .cons .slNil .nil
  | sl h hl hc hr => exact .cons (.sl h hl hc hr) .nil
  | sl0 h => exact .cons (.sl0 h) .nil
  | mapNil => exact .cons .mapNil .nil
  | map h => exact .cons (.map h) .nil
  | func hf hx hy => exact .cons (.func hf hx hy) .nil
  | nilFunc => exact .cons .nilFunc .nil
  | nilIface => exact .cons .nilIface .nil
  | iface t h => exact .cons (.iface t h) .nil
  | tuple h => exact .cons (.tuple h) .nil

/-- a new row of cells -/
theorem newCells (hM : MR P φ A w) {e : TypeId} {c cc : List Value} (hc : LR φ c cc.toArray.toList) (extra : List Value := []) {fz : Nat × Nat} (hf : ∀ off, off < (cc ++ extra).length → ¬ (fz.1 ≤ off ∧ off < fz.2)) :
    ∃ φ', MR P φ' (A.add (.cells c e false)) (w.alloc (.cells ⟨cc ++ extra⟩ e fz)) ∧ Ext φ A w φ' (A.add (.cells c e false)) (w.alloc (.cells ⟨cc ++ extra⟩ e fz)) ∧ φ.le φ' ∧ φ' A.next = some (.at_ w.heap.size (cc ++ extra).length ((szOf P e).getD 0) 0) := by
  have hc' : LR φ c cc := by simpa using hc
  have ho : OR P φ (.cells c e false) (.cells ⟨cc ++ extra⟩ e fz) (cc ++ extra).length ((szOf P e).getD 0) 0 :=
    ⟨_, _, _, rfl, ⟨rfl, rfl, rfl, by have := hc'.length; simp; omega, by have := hc'.length; simp [this]; exact hc', fun _ => hf, Nat.dvd_zero _⟩⟩
  obtain ⟨h1, h2, h3⟩ := hM.add ho
  exact ⟨_, h1, h2, h3, by simp [Inj.add]⟩
theorem new_ptr {φ' : Inj} {b c n s : Nat} (h : φ' b = some (.at_ c n s 0)) : VR φ' (ptrV b) (.pointer (some ⟨c, 0, none⟩)) :=
  .ptr (.inr ⟨c, n, s, 0, h, rfl, rfl, rfl⟩)
theorem new_row {φ' : Inj} {b c n s l k k' : Nat} (h : φ' b = some (.at_ c n s 0)) (hl : l ≤ k) (hk : k ≤ k') (hn : k' * s ≤ n) : VR φ' (.slice (some ⟨b, 0, none⟩) l k) (.slice (some ⟨c, 0, none⟩) l k') :=
  .sl (.inr ⟨c, n, s, 0, h, rfl, rfl, rfl⟩) hl hk fun _ c1 n1 s1 d1 h1 => by
    rw [h] at h1
    injection h1 with h1
    injection h1 with e1 e2 e3
    subst e1 e2 e3
    simpa using hn

theorem zeroA_some {t : TypeId} {z : Value} (h : zeroA P t = some z) : ∃ i, P.info? t = some i ∧ i.zero = some z ∧ (∀ φ, VR φ z z) ∧ (cellsOf z).length = i.size ∧ singles (cellsOf z) = true := by
  unfold zeroA at h
  cases hi : P.info? t with
  | none => rw [hi] at h; cases h
  | some i =>
    rw [hi] at h
    simp only at h
    cases hz : i.zero with
    | none => rw [hz] at h; cases h
    | some y =>
      rw [hz] at h
      simp only at h
      cases hb : (groundC 3 y && (Nat.beq (lenL (cellsOf y) 0) i.size && singles (cellsOf y))) with
      | false => rw [hb] at h; simp at h
      | true =>
        rw [hb] at h
        simp at h
        subst h
        simp only [Bool.and_eq_true, lenL0] at hb
        exact ⟨i, rfl, hz, fun φ => ground_VR 3 y hb.1, Nat.eq_of_beq_eq_true hb.2.1, hb.2.2⟩
theorem run_zeroValue {t : TypeId} {z : Value} (h : zeroA P t = some z) (w : World) : (zeroValue t).run P w = .ok z w := by
  obtain ⟨i, h1, h2, _⟩ := zeroA_some h
  simp [zeroValue, typeInfo, h1, h2]
theorem run_underlying' {t : TypeId} {d : TypeDesc} (h : P.underlying t = some d) (w : World) : (underlying t).run P w = .ok d w := by simp [underlying, h]

theorem pick_ok (hM : MR P φ A w) {c a b c' a' b' : Value} (hc : VR φ c c') (ha : VR φ a a') (hb : VR φ b b') :
    OpOk P φ A w (pickA A c a b) ((do pure (.value (if ← asBool c' then a' else b') : Next) : Sem Next).run P w) := by
  cases hc with
  | bool b =>
    cases b
    · exact OpOk.same hM hb (by simp [asBool])
    · exact OpOk.same hM ha (by simp [asBool])
  | _ => exact trivial
theorem run_v {s : Sem Value} {x : Value} {w' : World} (h : s.run P w = .ok x w') : (do pure (.value (← s) : Next) : Sem Next).run P w = .ok (.value x) w' := by simp [h]
theorem run_vh {s : Sem Value} {x : Halt} {w' : World} (h : s.run P w = .halt x w') : (do pure (.value (← s) : Next) : Sem Next).run P w = .halt x w' := by simp [h]
theorem run_newRow (e : TypeId) (cs : Array Value) (w : World) : (newRow e cs).run P w = .ok ⟨w.heap.size, 0, none⟩ (w.alloc (.cells cs e)) := by simp [newRow]
theorem box_ok (hM : MR P φ A w) (e : TypeId) {x x' : Value} (hx : VR φ x x') : OpOk P φ A w (boxA A e x) ((do pure (.value (← Instr.box e x') : Next) : Sem Next).run P w) := by
  obtain ⟨φ', h1, h2, _, h4⟩ := newCells hM (e := e) (cc := x'.cells.toList) (by simpa using cells_LR hx) [] (fz := (0, 0)) (fun off _ => by simp)
  simp only [List.append_nil] at h1 h2 h4
  exact ⟨φ', _, h1, h2, .inl ⟨_, run_v (by simp [Instr.box, newVar, run_newRow]), new_ptr h4⟩⟩
theorem alloc_ok (hM : MR P φ A w) (e : TypeId) : OpOk P φ A w (allocA P A e) ((do pure (.value (← Instr.alloc e true (.tuple #[])) : Next) : Sem Next).run P w) := by
  unfold allocA
  cases hz : zeroA P e with
  | none => exact trivial
  | some z =>
    obtain ⟨i, _, _, h3, _⟩ := zeroA_some hz
    obtain ⟨φ', h1, h2, _, h4⟩ := newCells hM (e := e) (cc := z.cells.toList) (by simpa using cells_LR (h3 φ)) [] (fz := (0, 0)) (fun off _ => by simp)
    simp only [List.append_nil] at h1 h2 h4
    exact ⟨φ', _, h1, h2, .inl ⟨_, run_v (by simp [Instr.alloc, newVar, run_newRow, run_zeroValue hz]), new_ptr h4⟩⟩
theorem load_ok (hM : MR P φ A w) (t : TypeId) {a a' : Value} (ha : VR φ a a') : OpOk P φ A w (loadA P A t a) ((do pure (.value (← Instr.loadAt t a') : Next) : Sem Next).run P w) := by
  cases ha with
  | ptr h =>
    rename_i b b'
    show OpOk P φ A w (vR A (ldA P A t b)) _
    cases hl : ldA P A t b with
    | none => exact trivial
    | some v =>
      obtain ⟨v', h1, h2⟩ := ldA_ok hM h hl
      exact OpOk.same hM h1 (run_v (by simp [Instr.loadAt, Instr.sureAddr, h2]))
  | _ => exact trivial
theorem store_ok (hM : MR P φ A w) (t : TypeId) {a a' x x' : Value} (ha : VR φ a a') (hx : VR φ x x') : OpOk P φ A w (storeA P A t a x) ((do Instr.storeAt t a' x'; pure .skip : Sem Next).run P w) := by
  cases ha with
  | ptr h =>
    rename_i b b'
    unfold storeA
    simp only
    cases hs : szOf P t with
    | none => exact trivial
    | some n =>
      simp only [lenL0]
      cases hn : Nat.beq (cellsOf x).length n with
      | false => exact trivial
      | true =>
        simp only [cond_true, storeB]
        cases hw : wr A b.block b.off (cellsOf x) with
        | none => exact trivial
        | some A' =>
          obtain ⟨w', h1, h2, h3⟩ := wr_ok hM h (cells_LR hx) hw
          refine ⟨φ, w', h2, h3, .inr ⟨?_, rfl⟩⟩
          have hl := (cells_LR hx).length
          have hn' := Nat.eq_of_beq_eq_true hn
          have hsz : x'.cells.size = n := by rw [← hn', hl]; simp
          simp [Instr.storeAt, Instr.sureAddr, storeVar, run_sizeOf hs, hsz, h1]
  | _ => exact trivial
theorem run_nilDeref (w : World) {α : Type} : (runtimePanic .nilDeref : Sem α).run P w = .halt (.panic (nilV P)) w := by simp [runtimePanic, nilV]
theorem nilCheck_ok (hM : MR P φ A w) {ρ : Operand → Value} {o : Oper} {x : Operand} (ho : o.op = .nilCheck x) {y : Value} (hy : VR φ y (ρ x)) : OpOk P φ A w (nilCheckA P A y) ((execOp ρ o).run P w) := by
  unfold execOp
  rw [ho]
  simp only
  generalize ρ x = y' at hy
  have hnil : VR φ (nilV P) (nilV P) := ground_VR 3 _ rfl
  cases hy with
  | ptrNil => exact OpOk.pan hM hnil (run_nilDeref w)
  | ptr h => exact OpOk.same hM (.ptr h) rfl
  | nilFunc => exact OpOk.pan hM hnil (run_nilDeref w)
  | nilIface => exact OpOk.pan hM hnil (run_nilDeref w)
  | iface t h => exact OpOk.same hM (.iface t h) rfl
  | func hf hx hy =>
    rename_i f f' a a' b b'
    unfold nilCheckA
    cases f with
    | method m => exact trivial
    | func g =>
      rcases hf with ⟨rfl, _⟩ | ⟨l, l', h, _⟩
      · exact OpOk.same hM (.func (.inl ⟨rfl, by simp⟩) hx hy) rfl
      · cases h
    | methodOf t m =>
      rcases hf with ⟨rfl, _⟩ | ⟨l, l', h, _⟩
      · exact OpOk.same hM (.func (.inl ⟨rfl, by simp⟩) hx hy) rfl
      · cases h
    | via t p g q =>
      rcases hf with ⟨rfl, _⟩ | ⟨l, l', h, _⟩
      · exact OpOk.same hM (.func (.inl ⟨rfl, by simp⟩) hx hy) rfl
      · cases h
    | yield l =>
      rcases hf with ⟨rfl, h⟩ | ⟨l, l', h, rfl, hb⟩
      · exact absurd rfl (h l)
      · exact OpOk.same hM (.func (.inr ⟨_, _, rfl, rfl, by cases h; exact hb⟩) hx hy) rfl
  | _ => exact trivial
/-- a part of cells -/
theorem part_ok {t : TypeId} {cs cs' : List Value} (hc : LR φ cs cs') {off : Nat} {v : Value} (h : partA P t cs off = some v) (w : World) : ∃ v', VR φ v v' ∧ (part t ⟨cs'⟩ off).run P w = .ok v' w := by
  unfold partA at h
  cases hb : aggOf P t with
  | none => rw [hb] at h; cases h
  | some b =>
    rw [hb] at h
    cases b with
    | true =>
      simp only [cond_true] at h
      cases hs : szOf P t with
      | none => rw [hs] at h; cases h
      | some n =>
        rw [hs] at h
        simp only [takeL_eq, dropL_eq, Option.some.injEq] at h
        subst h
        refine ⟨_, .agg ((hc.drop off).take n), ?_⟩
        simp [part, run_isAgg hb, run_sizeOf hs, List.take_drop]
    | false =>
      simp only [cond_false, nth_eq] at h
      obtain ⟨v', h1, h2⟩ := hc.get h
      exact ⟨v', h2, by simp [part, run_isAgg hb, h1]⟩
theorem fieldOf_some {t : TypeId} {f : Nat} {x : Field} (h : fieldOf P t f = some x) : ∃ fs, P.underlying t = some (.struct fs) ∧ fs[f]? = some x := by
  unfold fieldOf at h
  split at h
  · rename_i fs hu
    rw [nth_eq] at h
    exact ⟨fs, hu, by simpa using h⟩
  · cases h
theorem field_ok (hM : MR P φ A w) (t : TypeId) (f : Nat) {x x' : Value} (hx : VR φ x x') : OpOk P φ A w (fieldA P A t f x) ((do pure (.value (← Instr.field t x' f) : Next) : Sem Next).run P w) := by
  cases hx with
  | agg h =>
    rename_i l l'
    show OpOk P φ A w (match fieldOf P t f with | some f => vR A (partA P f.type l f.offset) | none => .fail) _
    cases hf : fieldOf P t f with
    | none => exact trivial
    | some fd =>
      obtain ⟨fs, h1, h2⟩ := fieldOf_some hf
      simp only
      cases hp : partA P fd.type l fd.offset with
      | none => exact trivial
      | some v =>
        obtain ⟨v', h3, h4⟩ := part_ok h hp w
        exact OpOk.same hM h3 (run_v (by simp [Instr.field, run_underlying' h1, h2, asAgg, h4]))
  | _ => exact trivial
theorem fieldAddr_ok (hM : MR P φ A w) (t : TypeId) (f : Nat) {x x' : Value} (hx : VR φ x x') : OpOk P φ A w (fieldAddrA P A t f x) ((do pure (.value (← Instr.fieldAt t x' f) : Next) : Sem Next).run P w) := by
  cases hx with
  | ptr h =>
    rename_i a a'
    unfold fieldAddrA
    simp only
    cases hf : fieldOf P t f with
    | none => exact trivial
    | some fd =>
      obtain ⟨fs, h1, h2⟩ := fieldOf_some hf
      simp only
      cases hs : szOf P fd.type with
      | none => exact trivial
      | some n => cases n with
        | zero => exact trivial
        | succ n =>
          simp only [cond_true]
          exact OpOk.same hM (.ptr (h.add _)) (run_v (by simp [Instr.fieldAt, run_underlying' h1, h2, Instr.sureAddr, fieldPlace, run_sizeOf hs]))
  | _ => exact trivial
theorem extract_ok (hM : MR P φ A w) (i : Nat) {x x' : Value} (hx : VR φ x x') : OpOk P φ A w (extractA A x i) ((do pure (.value (← Instr.extract x' i) : Next) : Sem Next).run P w) := by
  cases hx with
  | tuple h =>
    rename_i l l'
    show OpOk P φ A w (vR A (nth l i)) _
    rw [nth_eq]
    cases hl : l[i]? with
    | none => exact trivial
    | some v =>
      obtain ⟨v', h1, h2⟩ := h.get hl
      exact OpOk.same hM h2 (run_v (by simp [Instr.extract, h1]))
  | _ => exact trivial
theorem isIface_some {t : TypeId} {b : Bool} (h : isIface P t = some b) : ∃ d, P.underlying t = some d ∧ (b = true ↔ ∃ ms, d = .interface ms) := by
  unfold isIface at h
  split at h
  · rename_i ms hu
    cases h
    exact ⟨_, hu, by simp⟩
  · rename_i d hne hu
    cases h
    refine ⟨_, hu, by simp; intro ms hd; exact hne ms hd⟩
  · cases h
theorem iface_ok (hM : MR P φ A w) (t : TypeId) {x x' : Value} (hx : VR φ x x') : OpOk P φ A w (ifaceA P A t x) ((do pure (.value (← Instr.makeInterface t x') : Next) : Sem Next).run P w) := by
  unfold ifaceA
  cases hi : isIface P t with
  | none => exact trivial
  | some b =>
    obtain ⟨d, h1, h2⟩ := isIface_some hi
    cases b with
    | true => exact trivial
    | false =>
      have hd : ∀ ms, d ≠ .interface ms := fun ms e => by simpa using h2.2 ⟨ms, e⟩
      refine OpOk.same hM (.iface t hx) (run_v ?_)
      unfold Instr.makeInterface
      simp only [Sem.run_bind, run_underlying' h1, Result.andThen_ok]
      cases d <;> first | rfl | exact absurd rfl (hd _)
theorem makeMap_ok (hM : MR P φ A w) (t : TypeId) : OpOk P φ A w (makeMapA A) ((do pure (.value (← Instr.makeMap t none) : Next) : Sem Next).run P w) := by
  have ho : OR P φ (.map [] 0) (.map #[] 0) 0 0 0 := ⟨[], rfl, .nil⟩
  obtain ⟨h1, h2, _⟩ := hM.add ho
  refine ⟨_, _, h1, h2, .inl ⟨.map (some w.heap.size), run_v ?_, .map (.inr ⟨0, 0, 0, by simp [Inj.add]⟩)⟩⟩
  simp [Instr.makeMap]
theorem idxIn_some {i : Int} {n k : Nat} (h : idxIn i n = some k) : i = k ∧ k < n := by
  unfold idxIn at h
  split at h
  · rename_i j
    cases hb : Nat.blt j n with
    | false => rw [hb] at h; simp at h
    | true =>
      rw [hb] at h
      simp at h
      subst h
      exact ⟨rfl, by simpa [Nat.blt_eq] using hb⟩
  · cases h
theorem idxIn_none {i : Int} {n : Nat} (h : idxIn i n = none) : ¬ (0 ≤ i ∧ i < n) := by
  cases i with
  | ofNat j =>
    simp only [idxIn] at h
    cases hb : Nat.blt j n with
    | true => rw [hb] at h; simp at h
    | false =>
      have : ¬ j < n := by rw [← Nat.blt_eq]; simp [hb]
      simp only [Int.ofNat_eq_natCast]
      omega
  | negSucc j =>
    intro ⟨h1, _⟩
    exact absurd h1 (by omega)
/-- an index out of its range -/
theorem bounds_ok {α : Type} (φ : Inj) (w : World) (k : IntKind) (i : Int) (n : Nat) :
    ∃ m v', (boundsPanic k i (n : Int) .index : Sem α).run P w = .halt (.panic v') { w with drawn := m } ∧ VR φ (boundsP P i n) v' := by
  have hv : ∀ b : Bool, VR φ (boundsP P i n) (.iface P.rt.boundsError (.agg #[.int .i64 (IntKind.i64.wrap i), .int .i64 (n : Int), .bool b, .int .u8 0])) :=
    fun b => .iface _ (.agg (.cons (.int _ _) (.cons (.int _ _) (.cons (.unk rfl) (.cons (.int _ _) .nil)))))
  unfold boundsPanic
  split
  · exact ⟨w.drawn + 1, _, by simp [Question.forced, runtimePanic, BoundsCode.toNat]; rfl, hv _⟩
  · exact ⟨w.drawn, _, by simp [runtimePanic, BoundsCode.toNat]; rfl, hv _⟩
theorem OpOk.bounds (hM : MR P φ A w) (k : IntKind) (i : Int) (n : Nat) {s : Sem Value} (hs : s.run P w = (boundsPanic k i (n : Int) .index : Sem Value).run P w) :
    OpOk P φ A w (.panic (boundsP P i n) A) ((do pure (.value (← s) : Next) : Sem Next).run P w) := by
  obtain ⟨m, v', h1, h2⟩ := bounds_ok (P := P) (α := Value) φ w k i n
  exact ⟨φ, _, hM.drawn m, Ext.drawn w m, v', h2, run_vh (hs.trans h1)⟩
theorem elemA_some {t e : TypeId} (h : elemA P t = some e) : P.underlying t = some (.slice e) := by
  unfold elemA at h
  split at h
  · rename_i x hu; cases h; exact hu
  · cases h
theorem arrN_some {t : TypeId} {p : Nat × TypeId} (h : arrN P t = some p) : P.underlying t = some (.array p.1 p.2) := by
  unfold arrN at h
  split at h
  · rename_i x y hu; cases h; exact hu
  · cases h
theorem indexAddr_ok (hM : MR P φ A w) (t : TypeId) {x x' ix ix' : Value} (hx : VR φ x x') (hi : VR φ ix ix') :
    OpOk P φ A w (indexAddrA P A t x ix) ((do pure (.value (← Instr.indexAt t x' ix') : Next) : Sem Next).run P w) := by
  cases hi with
  | int k i =>
    show OpOk P φ A w (indexAddrC P A t x i) _
    cases hx with
    | ptr h =>
      rename_i a a'
      unfold indexAddrC
      simp only
      cases ha : arrN P t with
      | none => exact trivial
      | some p =>
        have hu := arrN_some ha
        simp only
        cases hb : Nat.ble p.1 1 with
        | true => exact trivial
        | false =>
          simp only [cond_false, indexAddrB]
          have hb' : ¬ p.1 ≤ 1 := by rw [← Nat.ble_eq]; simp [hb]
          cases hix : idxIn i p.1 with
          | none =>
            have := idxIn_none hix
            exact OpOk.bounds hM k i p.1 (by simp [Instr.indexAt, asIntOf, run_underlying' hu, Instr.sureAddr, if_neg this, hb'])
          | some j =>
            obtain ⟨rfl, hj⟩ := idxIn_some hix
            simp only
            cases hs : szOf P p.2 with
            | none => exact trivial
            | some size =>
              refine OpOk.same hM (.ptr (h.add _)) (run_v ?_)
              simp [Instr.indexAt, asIntOf, run_underlying' hu, Instr.sureAddr, hj, run_sizeOf hs]
    | slNil =>
      unfold indexAddrC
      simp only
      cases he : elemA P t with
      | none => exact trivial
      | some e =>
        have hu := elemA_some he
        exact OpOk.bounds hM k i 0 (by simp [Instr.indexAt, asIntOf, run_underlying' hu])
    | sl h hl hc hr =>
      rename_i a a' l c c'
      unfold indexAddrC
      simp only
      cases he : elemA P t with
      | none => exact trivial
      | some e =>
        have hu := elemA_some he
        simp only [indexAddrB]
        cases hix : idxIn i l with
        | none =>
          have := idxIn_none hix
          exact OpOk.bounds hM k i l (by simp [Instr.indexAt, asIntOf, run_underlying' hu, if_neg this])
        | some j =>
          obtain ⟨rfl, hj⟩ := idxIn_some hix
          simp only
          cases hs : szOf P e with
          | none => exact trivial
          | some size =>
            refine OpOk.same hM (.ptr (h.add _)) (run_v ?_)
            simp [Instr.indexAt, asIntOf, run_underlying' hu, hj, run_sizeOf hs]
    | sl0 h =>
      rename_i a a'
      unfold indexAddrC
      simp only
      cases he : elemA P t with
      | none => exact trivial
      | some e =>
        have hu := elemA_some he
        have hix : idxIn i 0 = none := by
          cases hh : idxIn i 0 with
          | none => rfl
          | some j => have := (idxIn_some hh).2; omega
        simp only [indexAddrB, hix]
        have := idxIn_none hix
        exact OpOk.bounds hM k i 0 (by simp [Instr.indexAt, asIntOf, run_underlying' hu]; intro h1 h2; exact absurd ⟨h1, h2⟩ this)
    | _ => exact trivial
  | _ => exact trivial
theorem index_ok (hM : MR P φ A w) (t : TypeId) {x x' ix ix' : Value} (hx : VR φ x x') (hi : VR φ ix ix') :
    OpOk P φ A w (indexA P A t x ix) ((do pure (.value (← Instr.index t x' ix') : Next) : Sem Next).run P w) := by
  cases hi with
  | int k i =>
    cases hx with
    | agg h =>
      rename_i l l'
      show OpOk P φ A w (indexArr P A t l i) _
      unfold indexArr
      cases ha : arrN P t with
      | none => exact trivial
      | some p =>
        have hu := arrN_some ha
        simp only
        cases hix : idxIn i p.1 with
        | none =>
          have := idxIn_none hix
          exact OpOk.bounds hM k i p.1 (by simp [Instr.index, asIntOf, run_underlying' hu, if_neg this])
        | some j =>
          obtain ⟨rfl, hj⟩ := idxIn_some hix
          simp only
          cases hs : szOf P p.2 with
          | none => exact trivial
          | some size =>
            simp only
            cases hp : partA P p.2 l (j * size) with
            | none => exact trivial
            | some v =>
              obtain ⟨v', h1, h2⟩ := part_ok h hp w
              refine OpOk.same hM h1 (run_v ?_)
              simp [Instr.index, asIntOf, run_underlying' hu, hj, run_sizeOf hs, h2]
    | string s =>
      show OpOk P φ A w (match P.underlying t with | some .string => indexStr P A (bytesOf s) i | _ => .fail) _
      split
      · rename_i hu
        have hlen : (bytesOf s).length = s.size := rfl
        unfold indexStr
        cases i with
        | ofNat j =>
          simp only [nth_eq, lenL0]
          have hg : s[j]? = (bytesOf s)[j]? := by
            by_cases hj : j < s.size
            · rw [getElem?_pos s j hj, List.getElem?_eq_getElem (by rw [hlen]; exact hj)]; rfl
            · rw [getElem?_neg s j hj, List.getElem?_eq_none (by rw [hlen]; omega)]
          cases hb : (bytesOf s)[j]? with
          | none => exact OpOk.bounds hM k _ _ (by simp [Instr.index, asIntOf, run_underlying' hu, hg, hb, hlen])
          | some b => exact OpOk.same hM (.int _ _) (run_v (by simp [Instr.index, asIntOf, run_underlying' hu, hg, hb]))
        | negSucc j =>
          simp only [lenL0]
          exact OpOk.bounds hM k _ _ (by simp [Instr.index, asIntOf, run_underlying' hu, hlen])
      · exact trivial
    | _ => exact trivial
  | _ => exact trivial
end Go.Sh
