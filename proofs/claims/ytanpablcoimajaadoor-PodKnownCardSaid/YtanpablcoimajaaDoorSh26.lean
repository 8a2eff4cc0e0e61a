/- Part of a proof by a machine of ones own: see the text with the theorem. -/
import Derived.Test.YtanpablcoimajaaDoorSh25
set_option linter.unusedVariables false
namespace Go.Sh
open Go
variable {P : Program} {φ : Inj} {A : AW} {w : World}

/-! ## All of the code -/
/-- what is still to be shown: regions whose order is open -/
def DrawnOk (P : Program) : Prop := ∀ (r : Rec), RecOk P r → ∀ (n id : Nat) (ops : Array Oper), DoesOk P n [.code (.region id ops true)] ((drawC P n ops.toList (Region.before ops).toList).val r)
theorem fails_ok (n : Nat) (p : List Item) : DoesOk P n p fun _ _ _ _ => .fail := fun _ _ _ _ _ _ _ _ _ _ _ _ _ _ => trivial
theorem compC_ok (hP : NoCount P) (hD : DrawnOk P) {r : Rec} (hR : RecOk P r) (n : Nat) : ∀ c : Code, DoesOk P n [.code c] ((compC P n c).val r)
  | .skip => skip_ok n
  | .label l => label_ok n l
  | .seq a b => seq_ok (compC_ok hP hD hR n a) (compC_ok hP hD hR n b)
  | .cond c a b => by
    unfold compC
    cases hc : constOk P c with
    | false => exact fails_ok n _
    | true => exact cond_ok hc (compC_ok hP hD hR n a) (compC_ok hP hD hR n b)
  | .block id body => block_ok (compC_ok hP hD hR n body)
  | .loop body => loop_ok (compC_ok hP hD hR n body) 1000000
  | .exit id => exit_ok n id
  | .goto _ => fails_ok n _
  | .ret => ret_ok n
  | .scope body => scope_ok (compC_ok hP hD hR n body)
  | .region id ops draw => by
    unfold compC
    cases draw with
    | false => exact region_ok hP hR n id ops
    | true => exact hD r hR n id ops
  | .rangeFunc f params assign body => by
    unfold compC
    cases hc : (constOk P f && params.toList.all (fun d => dstOk n (some d))) with
    | false => exact fails_ok n _
    | true =>
      simp only [Bool.and_eq_true] at hc
      exact rangeFunc_ok hP hR n f params assign body hc.1 (List.all_eq_true.1 hc.2)
  | .refuse _ => fails_ok n _
/-- what has been proved elsewhere, of calls out of frames that run -/
def OvOk (P : Program) (ov : Ov) : Prop :=
  ∀ (f : FuncId) (φ : Inj) (A : AW) (w : World) (args args' : List Value) (cs : List Frame) (o : Out) (A' : AW) (x' : Ctx), MR P φ A w → LR φ args args' → ov f args A = some (.ok o A' x') →
    x' = .none ∧ ∃ φ' w' fr', MR P φ' A' w' ∧ Ext φ A w φ' A' w' ∧ OutOk P f .normal φ' w' fr' o ∧ Steps P (lone (Frame.enter P f ⟨args'⟩ .normal) cs w) (lone fr' cs w')
theorem ov_none : OvOk P (fun _ _ _ => none) := fun _ _ _ _ _ _ _ _ _ _ _ _ h => by cases h
theorem run_ok (hP : NoCount P) (hD : DrawnOk P) {ov : Ov} (hO : OvOk P ov) : ∀ m, RecOk P (run P ov m)
  | 0 => ⟨fun f φ A w args args' x kind cs _ _ _ => trivial, fun n c => fails_ok n _⟩
  | m + 1 => by
    have hR := run_ok hP hD hO m
    refine ⟨fun f φ A w args args' x kind cs hM ha hx => ?_, fun n c => compC_ok hP hD hR n c⟩
    have h1 := stepCall_ok hP hR (fun n c => compC_ok hP hD hR n c) f φ A w args args' x kind cs hM ha hx
    show match stepO P (run P ov m) f args A x (ovX ov f args A x) with | .fail => True | .ok o A' x' => _
    unfold stepO ovX
    cases x with
    | none =>
      simp only
      cases ho : ov f args A with
      | none => exact h1
      | some o =>
        cases o with
        | fail => exact trivial
        | ok o A' x' =>
          obtain ⟨rfl, φ', w', fr', g1, g2, g3, g4⟩ := hO f φ A w args args' cs o A' x' hM ha ho
          cases hx with
          | none => exact ⟨φ', w', cs, fr', g1, g2, .none _, ⟨.same _ _, rfl⟩, g3, g4⟩
    | _ => exact h1
end Go.Sh
