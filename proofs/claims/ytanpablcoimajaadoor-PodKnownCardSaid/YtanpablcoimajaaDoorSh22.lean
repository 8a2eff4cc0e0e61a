/- Part of a proof by a machine of ones own: see the text with the theorem. -/
import Derived.Test.YtanpablcoimajaaDoorSh21
set_option linter.unusedVariables false
namespace Go.Sh
open Go
variable {P : Program} {φ : Inj} {A : AW} {w : World}

def boolOf (v : Value) : Option Bool := match v with | .bool c => some c | _ => none
theorem isB_some {want b : Bool} {v v' : Value} (h : isB want v = some b) (hv : VR φ v v') : (boolOf v' == some want) = b := by
  unfold isB at h
  split at h
  · rename_i c
    have e := VR_bool hv
    subst e
    rw [← opt_some h]
    cases c <;> cases want <;> rfl
  · cases h
  · rename_i h1 h2
    have hb : b = false := (opt_some h).symm
    subst hb
    have : ∀ c, v' ≠ .bool c := by
      rintro c rfl
      cases hv with
      | bool => exact h1 _ rfl
      | unk => exact h2 _ rfl
    cases v' with
    | bool c => exact absurd rfl (this c)
    | _ => rfl
theorem guardS_ok {ops : Array Oper} {o : Oper} {n : Nat} {t : Tm} {a : Av} {b : Bool} (hT : TR φ n t a.tmps) (h : (guardS ops.toList o.guard).val t = some b) : Region.wanted o (yielded ops a.tmps) = b := by
  unfold Region.wanted
  unfold guardS at h
  cases hg : o.guard with
  | none => rw [hg] at h; exact opt_some h
  | some p =>
    rw [hg] at h
    simp only [nth_eq] at h
    obtain ⟨j, want⟩ := p
    simp only at h ⊢
    cases hj : ops.toList[j]? with
    | none => rw [hj] at h; cases h
    | some q =>
      rw [hj] at h
      simp only at h
      have hj' : ops[j]? = some q := by rw [← Array.getElem?_toList]; exact hj
      cases hd : q.dst with
      | none => rw [hd] at h; cases h
      | some d =>
        rw [hd] at h
        simp only at h
        have hv := hT.2 d
        have e := isB_some (φ := φ) h hv
        rw [← e]
        congr 1
        unfold yielded
        simp only [hj', Option.bind_some, hd]
        rw [Array.getD_eq_getD_getElem?]
        cases hs : a.tmps[d]? with
        | none => rfl
        | some v => cases v <;> rfl
theorem step_region_end' {a : Av} {ops : Array Oper} {k : List Item} {cs : List Frame} : Steps P (lone (a.at (.inRegion ops [] :: k)) cs w) (lone (a.at k) cs w) := go1 (by simp [stepG, stepG.exec, Av.at])
theorem step_skipped {a : Av} {ops : Array Oper} {i : Nat} {rest : List Nat} {k : List Item} {cs : List Frame} {o : Oper} (ho : ops[i]? = some o) (hw : Region.wanted o (yielded ops a.tmps) = false) :
    Steps P (lone (a.at (.inRegion ops (i :: rest) :: k)) cs w) (lone ((a.put o.dst undef).at (.inRegion ops rest :: k)) cs w) := by
  refine go1 ?_
  rw [← finish_at ho]
  simp [stepG, stepG.exec, Av.at, ho, hw]
theorem operOk_some {n : Nat} {o : Oper} (h : operOk P n o = true) : dstOk n o.dst = true ∧ ∀ y ∈ o.op.operands.toList, constOk P y = true := by
  unfold operOk at h
  simp only [Bool.and_eq_true] at h
  exact ⟨h.1, List.all_eq_true.1 h.2⟩
theorem opsS_ok (hP : NoCount P) {r : Rec} (hR : RecOk P r) (n : Nat) (ops : Array Oper) : ∀ (rest : List Oper) (i : Nat), ops.toList.drop i = rest → DoesOk P n [.inRegion ops (List.range' i rest.length)] ((opsS P n ops.toList rest).val r)
  | [], i, _ => fun φ A w lo t ds x a cs k hM hH hlo hx => ⟨φ, w, a, cs, a.at k, hM, Ext.refl _ _ _, hH, .refl _, hx, ⟨.same _ _, rfl⟩, rfl, step_region_end'⟩
  | o :: rest, i, h => by
    intro φ A w lo t ds x a cs k hM hH hlo hx
    have ho : ops[i]? = some o := by
      rw [← Array.getElem?_toList]
      have : (ops.toList.drop i)[0]? = some o := by rw [h]; rfl
      rw [List.getElem?_drop] at this
      simpa using this
    have hrest : ops.toList.drop (i + 1) = rest := by
      rw [← List.drop_drop (i := 1) (j := i), h] <;> rfl
    have ih := opsS_ok hP hR n ops rest (i + 1) hrest
    show RcOk P n lo φ A w (isPan x) a cs (a.at ([.inRegion ops (List.range' i (rest.length + 1))] ++ k)) k ((opsS P n ops.toList (o :: rest)).val r t ds A x)
    rw [List.range'_succ]
    unfold opsS
    cases hok : operOk P n o with
    | false => exact trivial
    | true =>
      obtain ⟨hd, hc⟩ := operOk_some hok
      show RcOk P n lo φ A w (isPan x) a cs (a.at (.inRegion ops (i :: List.range' (i + 1) rest.length) :: k)) k (opsG r ((opsS P n ops.toList rest).val r) (putDst o.dst).val (opS P o.type o.op).val t ds A x ((guardS ops.toList o.guard).val t))
      unfold opsG
      cases hg : (guardS ops.toList o.guard).val t with
      | none => exact trivial
      | some b =>
        have hw := guardS_ok hH.tmps hg
        cases b with
        | true => exact opsN_ok hP hR hM hH hlo hx ho hd hc hw ih
        | false =>
          refine RcOk.after (Ext.refl _ _ _) (a.like_put o.dst undef) (.same _ _) (step_skipped ho hw) ?_
          exact ih φ A w lo _ ds x _ cs k hM (hH.put hd undef_VR) hlo (by rw [(a.like_put o.dst undef).kind, (a.like_put o.dst undef).round]; exact hx)
theorem region_ok (hP : NoCount P) {r : Rec} (hR : RecOk P r) (n id : Nat) (ops : Array Oper) : DoesOk P n [.code (.region id ops false)] ((opsS P n ops.toList ops.toList).val r) := by
  have h := opsS_ok hP hR n ops ops.toList 0 rfl
  rw [Array.length_toList, ← List.range_eq_range'] at h
  exact DoesOk.pre (fun a cs k w => go1 (by simp [stepG, stepG.exec, Av.at])) h
end Go.Sh
