/- Part of a proof by a machine of ones own: see the text with the theorem. -/
import Derived.Test.YtanpablcoimajaaDoorSh31
set_option linter.unusedVariables false
set_option linter.unusedSimpArgs false
namespace Go.Sh
open Go
variable {P : Program} {φ : Inj} {A : AW} {w : World}

/-! ## What a run through a region says of each operation -/
def ActOut (P : Program) (r : Rec) (o : Oper) (t : Tm) (A : AW) (v : Value) (A' : AW) : Prop :=
  (opS P o.type o.op).val t A = .val v A' ∨ ∃ f args A1 x2, (opS P o.type o.op).val t A = .enter f args A1 ∧ r.call f args A1 .none = .ok (.ret v) A' x2
def ActPan (P : Program) (r : Rec) (o : Oper) (t : Tm) (A : AW) (v : Value) (A' : AW) : Prop :=
  (opS P o.type o.op).val t A = .panic v A' ∨ ∃ f args A1 x2, (opS P o.type o.op).val t A = .enter f args A1 ∧ r.call f args A1 .none = .ok (.panic v) A' x2
inductive StepT (P : Program) (r : Rec) (all : List Oper) (o : Oper) (t : Tm) (A : AW) : Value → AW → Prop
  | off (h : (guardS all o.guard).val t = some false) : StepT P r all o t A undef A
  | quiet {v : Value} {A' : AW} (h : (guardS all o.guard).val t = some true) (hk : isAct P o.op = false) (hv : (opS P o.type o.op).val t A = .val v A') : StepT P r all o t A v A'
  | act {v : Value} {A' : AW} (h : (guardS all o.guard).val t = some true) (hk : isAct P o.op = true) (hv : ActOut P r o t A v A') : StepT P r all o t A v A'
structure RunD (P : Program) (r : Rec) (n : Nat) (all : List Oper) (b pre ord : List Nat) (M : Nat) (tp : Nat → Tm) (Ap : Nat → AW) (vp : Nat → Value) : Prop where
  le : M ≤ ord.length
  step : ∀ p : Nat, p < M → ∃ i o, ord[p]? = some i ∧ all[i]? = some o ∧ operOk P n o = true ∧ StepT P r all o (tp p) (Ap p) (vp p) (Ap (p + 1)) ∧ tp (p + 1) = (putDst o.dst).val (vp p) (tp p)
  again : ∀ q : Nat, q ≤ M → (q = ord.length ∨ ∃ i o, ord[q]? = some i ∧ all[i]? = some o ∧ isAct P o.op = true) → (againAll P all (againAt P all b ((ord.take q).reverse ++ pre) false [])).val (tp q) (Ap q) = true
/-- how it ends -/
def EndD (P : Program) (r : Rec) (n : Nat) (all : List Oper) (ord : List Nat) (M : Nat) (tp : Nat → Tm) (Ap : Nat → AW) (ex : Ex) (t' : Tm) (A' : AW) : Prop :=
  (ex = .normal ∧ M = ord.length ∧ t' = tp M ∧ A' = Ap M) ∨
  ∃ v i o, ex = .panic v ∧ ord[M]? = some i ∧ all[i]? = some o ∧ operOk P n o = true ∧ isAct P o.op = true ∧ (guardS all o.guard).val (tp M) = some true ∧ ActPan P r o (tp M) (Ap M) v A' ∧ t' = junkAll all (tp M)
def shift {α : Type} (a : α) (f : Nat → α) : Nat → α
  | 0 => a
  | n + 1 => f n
theorem drawS_run {r : Rec} {n : Nat} {all : List Oper} {b : List Nat} : ∀ (rest pre : List Nat) (t : Tm) (ds : List Deferred) (A : AW) (x : Ctx) (ex : Ex) (t' : Tm) (ds' : List Deferred) (A' : AW) (x' : Ctx),
    (drawS P n all b pre rest).val r t ds A x = .ok ex t' ds' A' x' → ds' = ds ∧ x' = x ∧ ∃ M tp Ap vp, tp 0 = t ∧ Ap 0 = A ∧ RunD P r n all b pre rest M tp Ap vp ∧ EndD P r n all rest M tp Ap ex t' A'
  | [], pre, t, ds, A, x, ex, t', ds', A', x', h => by
    unfold drawS at h
    simp only at h
    cases hg : (againAll P all (againAt P all b pre false [])).val t A with
    | false => rw [hg] at h; cases h
    | true =>
      rw [hg] at h
      cases h
      refine ⟨rfl, rfl, 0, fun _ => t, fun _ => A, fun _ => undef, rfl, rfl, ⟨Nat.le_refl _, fun p hp => absurd hp (Nat.not_lt_zero _), fun q hq _ => ?_⟩, .inl ⟨rfl, rfl, rfl, rfl⟩⟩
      have : q = 0 := Nat.le_zero.1 hq
      subst this
      exact hg
  | i :: rest, pre, t, ds, A, x, ex, t', ds', A', x', h => by
    unfold drawS at h
    rw [nth_eq] at h
    cases ho : all[i]? with
    | none => rw [ho] at h; cases h
    | some o =>
      rw [ho] at h
      simp only at h
      cases hok : operOk P n o with
      | false => rw [hok] at h; cases h
      | true =>
        rw [hok] at h
        simp only [cond_true] at h
        -- the rest, behind a step
        have next : ∀ (v : Value) (A1 : AW), StepT P r all o t A v A1 → (isAct P o.op = true → (againAll P all (againAt P all b pre false [])).val t A = true) →
            (drawS P n all b (i :: pre) rest).val r ((putDst o.dst).val v t) ds A1 x = .ok ex t' ds' A' x' →
            ds' = ds ∧ x' = x ∧ ∃ M tp Ap vp, tp 0 = t ∧ Ap 0 = A ∧ RunD P r n all b pre (i :: rest) M tp Ap vp ∧ EndD P r n all (i :: rest) M tp Ap ex t' A' := by
          intro v A1 hs hag hr
          obtain ⟨e1, e2, M, tp, Ap, vp, h1, h2, h3, h4⟩ := drawS_run rest (i :: pre) _ ds A1 x ex t' ds' A' x' hr
          refine ⟨e1, e2, M + 1, shift t tp, shift A Ap, shift v vp, rfl, rfl, ⟨Nat.succ_le_succ h3.le, fun p hp => ?_, fun q hq hc => ?_⟩, ?_⟩
          · cases p with
            | zero => exact ⟨i, o, rfl, ho, hok, by show StepT P r all o t A v (Ap 0); rw [h2]; exact hs, h1⟩
            | succ p => exact h3.step p (by omega)
          · cases q with
            | zero =>
              rcases hc with hc | ⟨i', o', g1, g2, g3⟩
              · simp at hc
              · simp only [List.getElem?_cons_zero, Option.some.injEq] at g1
                subst g1
                rw [ho] at g2
                cases g2
                exact hag g3
            | succ q =>
              have := h3.again q (by omega) (hc.imp (fun h => by simpa using h) fun ⟨i', o', g⟩ => ⟨i', o', by simpa using g⟩)
              show (againAll P all (againAt P all b (((i :: rest).take (q + 1)).reverse ++ pre) false [])).val (tp q) (Ap q) = true
              rw [List.take_succ_cons, List.reverse_cons, List.append_assoc]
              exact this
          · rcases h4 with ⟨g1, g2, g3, g4⟩ | ⟨v', i', o', g1, g2, g3⟩
            · exact .inl ⟨g1, by simp [g2], g3, g4⟩
            · exact .inr ⟨v', i', o', g1, by rw [List.getElem?_cons_succ]; exact g2, g3⟩
        cases hact : isAct P o.op with
        | false =>
          rw [hact] at h
          simp only [cond_false, drawQ, drawG] at h
          cases hg : (guardS all o.guard).val t with
          | none => rw [hg] at h; cases h
          | some g =>
            rw [hg] at h
            cases g with
            | false => exact next undef A (.off hg) (fun e => by rw [hact] at e; cases e) h
            | true =>
              simp only [cond_true] at h
              cases hv : (opS P o.type o.op).val t A with
              | val v A1 => rw [hv] at h; exact next v A1 (.quiet hg hact hv) (fun e => by rw [hact] at e; cases e) h
              | _ => rw [hv] at h; cases h
        | true =>
          rw [hact] at h
          simp only [cond_true, drawA] at h
          cases hag : (againAll P all (againAt P all b pre false [])).val t A with
          | false => rw [hag] at h; cases h
          | true =>
            rw [hag] at h
            simp only [cond_true, drawG] at h
            cases hg : (guardS all o.guard).val t with
            | none => rw [hg] at h; cases h
            | some g =>
              rw [hg] at h
              -- a panic
              have bad : ∀ (v : Value) (A1 : AW), ActPan P r o t A v A1 → g = true → RC.ok (.panic v) (junkAll all t) ds A1 x = .ok ex t' ds' A' x' →
                  ds' = ds ∧ x' = x ∧ ∃ M tp Ap vp, tp 0 = t ∧ Ap 0 = A ∧ RunD P r n all b pre (i :: rest) M tp Ap vp ∧ EndD P r n all (i :: rest) M tp Ap ex t' A' := by
                intro v A1 hp hgt he
                cases he
                refine ⟨rfl, rfl, 0, fun _ => t, fun _ => A, fun _ => undef, rfl, rfl, ⟨Nat.zero_le _, fun p hp => absurd hp (Nat.not_lt_zero _), fun q hq _ => ?_⟩, .inr ⟨v, i, o, rfl, rfl, ho, hok, hact, hgt ▸ hg, hp, rfl⟩⟩
                have : q = 0 := Nat.le_zero.1 hq
                subst this
                exact hag
              cases g with
              | false => exact next undef A (.off hg) (fun _ => hag) h
              | true =>
                simp only [cond_true] at h
                cases hv : (opS P o.type o.op).val t A with
                | val v A1 => rw [hv] at h; exact next v A1 (.act hg hact (.inl hv)) (fun _ => hag) h
                | panic v A1 => rw [hv] at h; exact bad v A1 (.inl hv) rfl h
                | enter f args A1 =>
                  rw [hv] at h
                  simp only [drawN] at h
                  cases hc : r.call f args A1 .none with
                  | fail => rw [hc] at h; cases h
                  | ok out A2 x2 =>
                    rw [hc] at h
                    cases out with
                    | ret v => exact next v A2 (.act hg hact (.inr ⟨f, args, A1, x2, hv, hc⟩)) (fun _ => hag) h
                    | panic v => exact bad v A2 (.inr ⟨f, args, A1, x2, hv, hc⟩) rfl h
                | _ => rw [hv] at h; cases h
end Go.Sh
