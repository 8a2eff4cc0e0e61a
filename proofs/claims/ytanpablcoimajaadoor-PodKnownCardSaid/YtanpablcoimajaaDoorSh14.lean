/- Part of a proof by a machine of ones own: see the text with the theorem. -/
import Derived.Test.YtanpablcoimajaaDoorSh13
namespace Go.Sh
open Go
variable {P : Program} {φ : Inj} {A : AW} {w : World}

theorem panicB_ok (hM : MR P φ A w) {x x' : Value} (hx : VR φ x x') : OpOk P φ A w (panicB A x) ((do pure (.value (← Instr.panic x') : Next) : Sem Next).run P w) := by
  cases hx with
  | iface t h => exact OpOk.pan hM (.iface t h) (run_vh rfl)
  | _ => exact trivial
theorem panic1_ok (hM : MR P φ A w) {args args' : List Value} (ha : LR φ args args') : OpOk P φ A w (panic1 A args) ((do pure (.value (← Instr.panic ((⟨args'⟩ : Array Value).getD 0 .nilIface)) : Next) : Sem Next).run P w) := by
  cases ha with
  | nil => exact trivial
  | cons h k => exact panicB_ok hM h
theorem sliceData1_ok (hM : MR P φ A w) (ts : Array TypeId) (ty : TypeId) {args args' : List Value} (ha : LR φ args args') :
    OpOk P φ A w (sliceData1 A args) ((do pure (.value (← Builtin.unsafeSliceData_ ts ty ⟨args'⟩) : Next) : Sem Next).run P w) := by
  cases ha with
  | nil => exact trivial
  | cons h k =>
    cases k with
    | cons => exact trivial
    | nil =>
      simp only [sliceData1]
      cases h with
      | slNil => exact OpOk.same hM .ptrNil (run_v rfl)
      | sl had hl hc hr =>
        rename_i a a' l c c'
        simp only [sliceDataB]
        cases h0 : Nat.beq c 0 with
        | true => exact trivial
        | false =>
          have hc0 : c' ≠ 0 := by
            rintro rfl
            have : c = 0 := by omega
            subst this
            simp at h0
          refine OpOk.same hM (.ptr had) (run_v ?_)
          show (if c' ≠ 0 then (pure (.pointer (some a')) : Sem Value) else _).run P w = _
          rw [if_pos hc0]
          rfl
      | sl0 had => exact trivial
      | _ => exact trivial
theorem range_ok (hM : MR P φ A w) (t : TypeId) {x x' : Value} (hx : VR φ x x') : OpOk P φ A w (rangeA P A t x) ((do pure (.value (← Instr.range t x') : Next) : Sem Next).run P w) := by
  cases hx with
  | string s =>
    simp only [rangeA]
    cases hu : P.underlying t with
    | none => exact trivial
    | some d =>
      cases d with
      | string =>
        obtain ⟨h1, h2, h3⟩ := hM.add (o := .siter s 0) (oc := .stringIter s 0) (n := 0) (s := 0) ⟨rfl, rfl⟩
        refine ⟨_, _, h1, h2, .inl ⟨.pointer (some ⟨w.heap.size, 0, none⟩), run_v (by simp [Instr.range, run_underlying' hu]), new_ptr (n := 0) (s := 0) (by simp [Inj.add])⟩⟩
      | _ => exact trivial
  | _ => exact trivial
theorem putO_some {b : Nat} {o : AObj} {A' : AW} (h : putO A b o = some A') : A.lim ≤ b ∧ A' = A.set b (some o) := by
  unfold putO at h
  cases hb : Nat.ble A.lim b with
  | false => rw [hb] at h; cases h
  | true => rw [hb] at h; cases h; exact ⟨Nat.le_of_ble_eq_true hb, rfl⟩
theorem run_getObj {r : Nat} {o : Obj} (h : w.heap[r]? = some o) (ho : ∀ c e f, o ≠ .cells c e f) : (getObj r).run P w = .ok o w := by
  unfold getObj
  simp only [Sem.run, h]
theorem next_ok (hM : MR P φ A w) (str : Bool) (ty : TypeId) {x x' : Value} (hx : VR φ x x') : OpOk P φ A w (nextA A str x) ((do pure (.value (← Instr.next x' str ty) : Next) : Sem Next).run P w) := by
  cases hx with
  | ptr had =>
    rename_i a a'
    simp only [nextA]
    cases hg : A.heap.get a.block with
    | none => exact trivial
    | some o =>
      cases o with
      | siter s pos =>
        simp only
        cases hc : (str && Nat.beq a.off 0) with
        | false => exact trivial
        | true =>
          simp only [Bool.and_eq_true] at hc
          obtain ⟨rfl, h0⟩ := hc
          have h0 := Nat.eq_of_beq_eq_true h0
          obtain ⟨c, n, sz, d, oc, g1, g2, rfl, rfl⟩ := hM.live hg had.ne
          have haddr : a'.block = c ∧ a'.off = 0 := by
            rcases had with h | ⟨c1, n1, s1, d1, h, h2, h3, h4⟩
            · rw [g1] at h; cases h
            · rw [g1] at h
              injection h with h
              injection h with e1 e2 e3 e4
              subst e1 e4
              exact ⟨h2, by omega⟩
          have hget : (getObj a'.block).run P w = .ok (.stringIter s pos) w := by rw [haddr.1]; exact run_getObj g2 (by intro c e f h; cases h)
          have hpa : a' = ⟨a'.block, 0, a'.spot⟩ := by cases a'; simp_all
          have hlen : (bytesOf s).length = s.size := Array.length_toList
          simp only [nextStr, lenL0, hlen]
          cases hlt : Nat.blt pos s.size with
          | false =>
            have hlt : ¬ pos < s.size := by
              intro h
              have : Nat.blt pos s.size = true := by rw [Nat.blt_eq]; exact h
              rw [hlt] at this; cases this
            refine OpOk.same hM (.tuple (.cons (.bool false) .nil)) (run_v ?_)
            rw [hpa]
            simp [Instr.next, hget, hlt]
          | true =>
            have hlt : pos < s.size := by simpa [Nat.blt_eq] using hlt
            simp only [cond_true]
            cases hp : putO A a.block (.siter s (pos + (Utf8.decode s pos).2)) with
            | none => exact trivial
            | some A' =>
              obtain ⟨hlim, rfl⟩ := putO_some hp
              obtain ⟨r1, r2⟩ := hM.set (o := .siter s (pos + (Utf8.decode s pos).2)) (oc := .stringIter s (pos + (Utf8.decode s pos).2)) g1 hlim (n' := n) (s' := sz) (d' := 0) ⟨rfl, rfl⟩ ⟨rfl, rfl, rfl⟩
              refine ⟨φ, _, r1, r2, .inl ⟨.tuple #[.bool true, .int .i64 pos, .int .i32 (Utf8.decode s pos).1], run_v ?_, .tuple (.cons (.bool _) (.cons (.int _ _) (.cons (.int _ _) .nil)))⟩⟩
              have hset : ∀ o : Obj, (setObj a'.block o).run P w = .ok () (setBlk w c o) := by
                intro o
                rw [haddr.1]
                unfold setObj
                simp only [Sem.run, g2]
                rfl
              rw [hpa]
              simp [Instr.next, hget, hlt, hset, goInt]
      | _ => exact trivial
  | _ => exact trivial
theorem makeFunc_ok (hM : MR P φ A w) {f f' : Fn} (hf : FnR φ f f') {x x' y y' : List Value} (hx : LR φ x x') (hy : LR φ y y') :
    OpOk P φ A w (.val (.func f ⟨x⟩ ⟨y⟩) A) ((do pure (.value (← Instr.makeFunc f' ⟨x'⟩ ⟨y'⟩) : Next) : Sem Next).run P w) := OpOk.same hM (.func hf hx hy) rfl

/-! what the language has of itself -/
theorem builtin_ok (hM : MR P φ A w) (b : Builtin) (ts : Array TypeId) (ty : TypeId) (cs : Array Bool) {args args' : List Value} (ha : LR φ args args') :
    OpOk P φ A w (builtinA P A b ts ty args) ((builtin b ts ty cs ⟨args'⟩).run P w) := by
  cases b with
  | len => exact len_ok hM ty ha
  | cap => exact cap_ok hM ty ha
  | append =>
    show OpOk P φ A w (append1 P A ts.toList args) _
    cases hts : ts.toList with
    | nil => exact trivial
    | cons t tl =>
      cases tl with
      | nil => exact trivial
      | cons u tl =>
        simp only [append1]
        cases hu : isList P u with
        | false => exact trivial
        | true =>
          cases ha with
          | nil => exact trivial
          | cons h k =>
            cases k with
            | nil => exact trivial
            | cons h2 k => exact append_ok hM (getElem_toList hts rfl) (getElem_toList hts rfl) hu ty rfl rfl h h2
  | copy =>
    show OpOk P φ A w (copy1 P A ts.toList args) _
    cases hts : ts.toList with
    | nil => exact trivial
    | cons t tl =>
      simp only [copy1]
      cases ha with
      | nil => exact trivial
      | cons h k =>
        cases k with
        | nil => exact trivial
        | cons h2 k => exact copy_ok hM (getElem_toList hts rfl) ty rfl rfl h h2
  | min => exact min_ok hM ts ty ha
  | max => exact max_ok hM ts ty ha
  | panic => exact panic1_ok hM ha
  | recover => exact ⟨rfl, rfl⟩
  | unsafeSliceData => exact sliceData1_ok hM ts ty ha
  | unsafeString => exact string1_ok hM ts ty ha
  | _ => exact trivial
end Go.Sh
