/- Part of a proof by a machine of ones own: see the text with the theorem. -/
import Derived.Test.YtanpablcoimajaaDoorSh38
set_option linter.unusedVariables false
set_option linter.unusedSimpArgs false
namespace Go.Sh
open Go
variable {P : Program} {φ : Inj} {A : AW} {w : World}

/-! ## What a run says of a call of the program -/
theorem calls_of (hP : NoCount P) (hm : P.follows .mixedOrders = true) {ov : Ov} (hO : OvOk P ov) (hM : MR P φ A w) {f : FuncId} {args args' : List Value} (ha : LR φ args args') {m : Nat} {v : Value} {A' : AW} {x' : Ctx} (h : (run P ov m).call f args A .none = .ok (.ret v) A' x') :
    Calls P f ⟨args'⟩ w fun e w' => ∃ φ' v', e = .returned v' ∧ VR φ' v v' ∧ MR P φ' A' w' ∧ Ext φ A w φ' A' w' := by
  intro cs
  have hc := (run_ok hP (drawn_ok hP hm) hO m).call f φ A w args args' .none .normal cs hM ha (.none _)
  rw [h] at hc
  obtain ⟨φ', w', cs', fr', h1, h2, h3, h4, h5, h6⟩ := hc
  have hcs : cs' = cs := h4.1.eq
  subst hcs
  obtain ⟨g1, g2, g3, fn, g4, g5, v', g6, g7⟩ := h5
  exact ⟨.returned v', w', fr', ⟨φ', v', rfl, g6, h1, h2⟩, h6, g1, g5, g3, g2, fn, by rw [g1]; exact g4, g7⟩
/-- where nothing that stands is written to: the heap grows, and that is all -/
theorem Ext.keeps {φ' : Inj} {A' : AW} {w' : World} (e : Ext φ A w φ' A' w') (hl : A.next ≤ A.lim) (hf : ∀ b, A.next ≤ b → φ b = none) {c : Nat} (hc : c < w.heap.size) : w'.heap[c]? = w.heap[c]? :=
  e.frame c hc fun b n s d hb => by
    rcases Nat.lt_or_ge b A.next with h | h
    · omega
    · rw [hf b h] at hb; cases hb
/-- what stands, stays -/
structure Stays (w w' : World) : Prop where
  os : w'.os = w.os
  output : w'.output = w.output
  size : w.heap.size ≤ w'.heap.size
  old : ∀ c : Nat, c < w.heap.size → w'.heap[c]? = w.heap[c]?
theorem Stays.refl (w : World) : Stays w w := ⟨rfl, rfl, Nat.le_refl _, fun _ _ => rfl⟩
theorem Stays.trans {w w' w'' : World} (h : Stays w w') (k : Stays w' w'') : Stays w w'' :=
  ⟨k.os.trans h.os, k.output.trans h.output, Nat.le_trans h.size k.size, fun c hc => (k.old c (Nat.lt_of_lt_of_le hc h.size)).trans (h.old c hc)⟩
theorem Stays.kept {w w' : World} (h : Stays w w') (may : MemPlace → Prop) : w.keptBut w' may := by
  refine ⟨h.os, h.output, fun i hi => ?_⟩
  rw [h.old i hi]
  cases hq : w.heap[i]? with
  | none => rfl
  | some o => cases o <;> simp
theorem Stays.frozen {w w' : World} (h : Stays w w') {a : Addr} (ha : a.block < w.heap.size) : w'.frozen? a = w.frozen? a := by
  unfold World.frozen?
  rw [h.old _ ha]

theorem NoCount.of (h : (P.funcs.toList.all fun fn => !(fn.name == "runtime.NumGoroutine")) = true) : NoCount P := fun f fn hf => by
  have := List.all_eq_true.1 h fn (List.mem_of_getElem? (by rw [Array.getElem?_toList]; exact hf))
  simpa using this

/-! ## The start: package variables that are known, and nothing else -/
/-- a variable: its number, its cells, their type -/
abbrev LaidV := Nat × List Value × TypeId
noncomputable def startH : List LaidV → T AObj
  | [] => .leaf
  | x :: l => (startH l).put x.1 (some (.cells x.2.1 x.2.2 true))
noncomputable def startA (n : Nat) (l : List LaidV) : AW := ⟨startH l, n, n⟩
theorem startH_get : ∀ (l : List LaidV) (b : Nat) (o : AObj), (startH l).get b = some o → ∃ x ∈ l, x.1 = b ∧ o = .cells x.2.1 x.2.2 true
  | [], b, o, h => by simp [startH, get_leaf] at h
  | x :: l, b, o, h => by
    rw [startH, get_put] at h
    by_cases e : b = x.1
    · rw [if_pos e] at h
      exact ⟨x, List.mem_cons_self .., e.symm, (Option.some.inj h).symm⟩
    · rw [if_neg e] at h
      obtain ⟨y, h1, h2, h3⟩ := startH_get l b o h
      exact ⟨y, List.mem_cons_of_mem _ h1, h2, h3⟩
/-- the variables lie in the world as they are said to -/
def LaidOk (P : Program) (W : World) (l : List LaidV) : Prop := ∀ x ∈ l, x.1 < P.globals.size ∧ ∃ cc, W.heap[x.1]? = some (.cells ⟨cc⟩ x.2.2) ∧ ∀ φ, LR φ x.2.1 cc
noncomputable def startφ (P : Program) (l : List LaidV) : Inj := fun b => if b < P.globals.size then (match (startH l).get b with | some (.cells c e _) => some (.at_ b c.length ((szOf P e).getD 0) 0) | _ => some .dead) else none
theorem start_MR {W : World} {l : List LaidV} (h : LaidOk P W l) : MR P (startφ P l) (startA P.globals.size l) W := by
  have hat : ∀ b c n s d, startφ P l b = some (.at_ c n s d) → c = b ∧ d = 0 ∧ ∃ x ∈ l, x.1 = b ∧ (startH l).get b = some (.cells x.2.1 x.2.2 true) ∧ n = x.2.1.length ∧ s = (szOf P x.2.2).getD 0 := fun b c n s d hb => by
    unfold startφ at hb
    split at hb
    · cases hg : (startH l).get b with
      | none => rw [hg] at hb; cases hb
      | some o =>
        obtain ⟨x, h1, h2, h3⟩ := startH_get l b o hg
        rw [hg] at hb
        subst h3
        simp only [Option.some.injEq, Ent.at_.injEq] at hb
        obtain ⟨rfl, rfl, rfl, rfl⟩ := hb
        exact ⟨rfl, rfl, x, h1, h2, rfl, rfl, rfl⟩
    · cases hb
  refine ⟨fun b c n s d hb => ?_, fun b hb => ?_, fun b b' c n s d n' s' d' hb hb' => ?_, fun b hb => ?_, fun g hg => ?_, Nat.le_refl _⟩
  · obtain ⟨rfl, rfl, x, h1, h2, h3, rfl, rfl⟩ := hat b c n s d hb
    obtain ⟨_, cc, h4, h5⟩ := h x h1
    rw [h2] at h4
    refine ⟨_, _, h3, h4, cc, x.2.2, (0, 0), rfl, ⟨rfl, (h5 (startφ P l)).length.symm, rfl, by simp, ?_, fun e => Bool.noConfusion e, Nat.dvd_zero _⟩⟩
    have := (h5 (startφ P l)).length
    simp [this]
    exact h5 _
  · unfold startφ at hb
    split at hb
    · show (startH l).get b = none
      cases hg : (startH l).get b with
      | none => rfl
      | some o =>
        obtain ⟨x, _, _, h3⟩ := startH_get l b o hg
        rw [hg] at hb
        subst h3
        cases hb
    · cases hb
  · rw [← (hat _ _ _ _ _ hb).1, ← (hat _ _ _ _ _ hb').1]
  · unfold startφ
    have : P.globals.size ≤ b := hb
    rw [if_neg (by omega)]
  · unfold startφ
    rw [if_pos hg]
    split
    · exact .inr ⟨_, _, rfl⟩
    · exact .inl rfl
def retIs (b : Bool) (o : RO) : Bool := match o with | .ok (.ret (.bool c)) _ _ => c == b | _ => false
theorem retIs_some {b : Bool} {o : RO} (h : retIs b o = true) : ∃ A x, o = .ok (.ret (.bool b)) A x := by
  unfold retIs at h
  split at h
  · rename_i c A x
    exact ⟨A, x, by rw [beq_iff_eq.1 h]⟩
  · cases h
/-- a closed call that answers a truth value -/
theorem closed_call (hP : NoCount P) (hm : P.follows .mixedOrders = true) {ov : Ov} (hO : OvOk P ov) {W : World} {l : List LaidV} (hl : LaidOk P W l) {f : FuncId} {m : Nat} {b : Bool} (h : retIs b ((run P ov m).call f [] (startA P.globals.size l) .none) = true) :
    Calls P f #[] W fun e w' => e = .returned (.bool b) ∧ Stays W w' := by
  obtain ⟨A', x', h⟩ := retIs_some h
  have hM := start_MR hl
  refine (calls_of hP hm hO hM .nil h).mono fun e w' ⟨φ', v', h1, h2, h3, h4⟩ => ?_
  have hv : v' = .bool b := VR_bool h2
  exact ⟨hv ▸ h1, h4.os, h4.output, h4.size, fun c hc => h4.keeps (Nat.le_refl _) (fun b hb => hM.fresh b hb) hc⟩
end Go.Sh
