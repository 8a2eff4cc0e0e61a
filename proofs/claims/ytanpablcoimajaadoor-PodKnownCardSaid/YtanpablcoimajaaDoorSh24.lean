/- Part of a proof by a machine of ones own: see the text with the theorem. -/
import Derived.Test.YtanpablcoimajaaDoorSh23
set_option linter.unusedVariables false
namespace Go.Sh
open Go
variable {P : Program} {φ : Inj} {A : AW} {w : World}

/-! ## A call, from its frame to what it returns -/
theorem tget_enterT : ∀ (vs : List Value) (i : Nat) (t : Tm) (j : Nat), i + vs.length ≤ 60000 → tget (enterT i vs t) j = if i ≤ j ∧ j < i + vs.length then (vs[j - i]?).getD undef else tget t j
  | [], i, t, j, _ => by
    rw [if_neg (fun h => by have := h.2; simp only [List.length_nil] at this; omega)]; rfl
  | v :: vs, i, t, j, h => by
    simp only [List.length_cons] at h ⊢
    show tget (enterT (Nat.succ i) vs (tset t i v)) j = _
    rw [tget_enterT vs (i + 1) _ j (by omega), tget_tset t i v j (by omega)]
    by_cases h1 : i + 1 ≤ j ∧ j < i + 1 + vs.length
    · rw [if_pos h1, if_pos (by omega), show j - i = (j - (i + 1)) + 1 from by omega]
      rfl
    · rw [if_neg h1]
      by_cases h2 : j = i
      · subst h2
        rw [if_pos rfl, if_pos (by omega)]
        simp
      · rw [if_neg h2, if_neg (by omega)]
theorem enter_TR {n : Nat} {args args' : List Value} (ha : LR φ args args') (hl : args.length ≤ n) (hn : n ≤ 60000) : TR φ n (enterT 0 args .nil) (⟨args'⟩ ++ Array.replicate (n - args'.length) undef) := by
  have hlen := ha.length
  refine ⟨by simp; omega, fun i => ?_⟩
  rw [tget_enterT args 0 .nil i (by omega), Array.getD_eq_getD_getElem?]
  by_cases h : i < args.length
  · rw [if_pos (by omega)]
    have h1 : args[i]? = some args[i] := List.getElem?_eq_getElem h
    obtain ⟨v', h2, h3⟩ := ha.get h1
    have h4 : ((⟨args'⟩ ++ Array.replicate (n - args'.length) undef : Array Value))[i]? = some v' := by
      rw [← Array.getElem?_toList]
      simp only [Array.toList_append]
      rw [List.getElem?_append_left (by rw [← hlen]; exact h)]
      exact h2
    rw [h4, Nat.sub_zero, h1]
    exact h3
  · rw [if_neg (by omega), tget_nil]
    have h4 : (((⟨args'⟩ ++ Array.replicate (n - args'.length) undef : Array Value))[i]?).getD undef = undef := by
      rw [← Array.getElem?_toList]
      simp only [Array.toList_append, Array.toList_replicate]
      rw [List.getElem?_append_right (by rw [← hlen]; omega), List.getElem?_replicate]
      split <;> rfl
    rw [h4]
    exact undef_VR
theorem notJunk_some {v u : Value} (h : notJunk v = some u) : u = v ∧ v ≠ junk := by
  unfold notJunk at h
  split at h
  · cases h
  · rename_i hne
    exact ⟨(opt_some h).symm, by rintro rfl; exact hne _ rfl⟩
/-- a result variable -/
def resM (a : Array Value) (rv : ResultVar) : Sem Value :=
  match rv with
  | .tmp n => pure (a.getD n undef)
  | .cell c ty => do loadVar ty (← asAddr (a.getD c undef))
theorem resA_ok (hM : MR P φ A w) {t : Tm} {a : Array Value} (hT : TRw φ t a) {rv : ResultVar} {v : Value} (h : resA P t A rv = some v) :
    ∃ v', VR φ v v' ∧ (resM a rv).run P w = .ok v' w := by
  cases rv with
  | tmp n =>
    obtain ⟨rfl, h2⟩ := notJunk_some h
    rcases hT n with h3 | h3
    · exact absurd h3 h2
    · exact ⟨_, h3, rfl⟩
  | cell c ty =>
    unfold resA at h
    simp only at h
    split at h
    · rename_i ad hp
      have hp : tget t c = .pointer (some ad) := hp
      rcases hT c with h3 | h3
      · rw [hp] at h3; cases h3
      · rw [hp] at h3
        generalize hu : a.getD c undef = u at h3
        cases h3 with
        | ptr had =>
          obtain ⟨v', h4, h5⟩ := ldA_ok hM had h
          refine ⟨v', h4, ?_⟩
          show (do loadVar ty (← asAddr (a.getD c undef)) : Sem Value).run P w = _
          rw [hu]
          simp [asAddr, h5]
    · cases h
theorem ressA_ok (hM : MR P φ A w) {t : Tm} {a : Array Value} (hT : TRw φ t a) : ∀ {l : List ResultVar} {vs : List Value}, ressA P t A l = some vs →
    ∃ vs', LR φ vs vs' ∧ (l.mapM (resM a)).run P w = .ok vs' w
  | [], vs, h => by
    simp only [ressA] at h
    cases h
    exact ⟨[], .nil, rfl⟩
  | rv :: l, vs, h => by
    simp only [ressA] at h
    cases h1 : resA P t A rv with
    | none => rw [h1] at h; cases h
    | some v =>
      rw [h1] at h
      simp only at h
      cases h2 : ressA P t A l with
      | none => rw [h2] at h; cases h
      | some us =>
        rw [h2] at h
        cases h
        obtain ⟨v', g1, g2⟩ := resA_ok hM hT h1
        obtain ⟨us', g3, g4⟩ := ressA_ok hM hT h2
        refine ⟨v' :: us', .cons g1 g3, ?_⟩
        rw [List.mapM_cons]
        simp only [Sem.run_bind, g2, Result.andThen_ok, g4, Sem.run_pure]
theorem results_ok (hM : MR P φ A w) {fn : Func} {t : Tm} {a : Array Value} (hT : TRw φ t a) {vs : List Value} (h : ressA P t A fn.results.toList = some vs) : ∃ v', VR φ (tupV vs) v' ∧ (results fn a).run P w = .ok v' w := by
  obtain ⟨vs', h1, h2⟩ := ressA_ok hM hT h
  have hr : (results fn a).run P w = .ok (if h : (⟨vs'⟩ : Array Value).size = 1 then (⟨vs'⟩ : Array Value)[0] else .tuple ⟨vs'⟩) w := by
    have hdef : results fn a = (do
        let vs ← fn.results.mapM (resM a)
        pure (if h : vs.size = 1 then vs[0] else .tuple vs)) := by
      unfold results
      congr 1
    rw [hdef, Array.mapM_eq_mapM_toList]
    simp only [Sem.run_bind, Sem.run_map, h2, Result.andThen_ok, Sem.run_pure]
  refine ⟨_, ?_, hr⟩
  cases h1 with
  | nil => exact .tuple .nil
  | cons hv k =>
    cases k with
    | nil => exact hv
    | cons hv2 k => exact .tuple (.cons hv (.cons hv2 k))
/-- the marks, and the end -/
theorem call_end (hP : NoCount P) {r : Rec} (hR : RecOk P r) {φ0 : Inj} {A0 : AW} {w0 : World} {a : Av} {cs : List Frame} {ds : List Deferred} {j : List Item} {y : Ctx} {m : FrameMode} (hM : MR P φ A w) (hE : Ext φ0 A0 w0 φ A w)
    (hd : ∃ rs, DsR φ ds a.defers rs ∧ rs.Nodup ∧ (∀ r ∈ rs, w0.heap.size ≤ r ∧ Loose φ w r) ∧ (a.roundOf ≠ none → rs = [])) (hro : a.roundOf = none) (hm : ModeR φ y m) :
    match deferA P r ds A y with
    | .fail => True
    | .ok A' y' => ∃ φ' w' m', MR P φ' A' w' ∧ Ext φ0 A0 w0 φ' A' w' ∧ ModeR φ' y' m' ∧ φ.le φ' ∧ Steps P (lone (a.md j m) cs w) (lone (({ a with defers := [] } : Av).md j m') cs w') := by
  obtain ⟨rs, h1, h2, h3, _⟩ := hd
  exact deferA_ok hP hR j h1 φ.le_refl hro rfl hM hE h2 h3 hm
theorem deferA_nil (r : Rec) (A : AW) (y : Ctx) : deferA P r [] A y = .ok A y := rfl
theorem leaveP_eq (r : Rec) (fn : Func) (v : Value) (t : Tm) (ds : List Deferred) (A : AW) (x : Ctx) : leaveP P r fn v t ds A x = panK P fn t x (deferA P r ds A (.pan v false)) := by
  cases ds <;> rfl
theorem leaveR_eq (r : Rec) (fn : Func) (t : Tm) (ds : List Deferred) (A : AW) (x : Ctx) : leaveR P r fn t ds A x = retK P fn t x (deferA P r ds A .ret) := by
  cases ds <;> rfl
theorem retA_some {fn : Func} {t : Tm} {A : AW} {x x' : Ctx} {o : Out} {A' : AW} (h : retA P fn t A x = .ok o A' x') : ∃ vs, ressA P t A fn.results.toList = some vs ∧ o = .ret (tupV vs) ∧ A' = A ∧ x' = x := by
  unfold retA at h
  split at h
  · rename_i vs hv; cases h; exact ⟨vs, hv, rfl, rfl, rfl⟩
  · cases h
theorem stepCall_ok (hP : NoCount P) {r : Rec} (hR : RecOk P r) (hC : ∀ n c, DoesOk P n [.code c] ((compC P n c).val r)) (f : FuncId) : CallOk P f (stepCall P r f) := by
  intro φ A w args args' x kind cs hM ha hx
  unfold stepCall
  cases hb : bodyOf P f with
  | none => exact trivial
  | some p =>
    obtain ⟨hf, h2⟩ := bodyOf_some hb
    simp only
    cases hbody : p.2 with
    | none => exact trivial
    | some body =>
      simp only [lenL0]
      cases hl : (Nat.ble args.length p.1.ntmps && Nat.ble p.1.ntmps 60000) with
      | false => exact trivial
      | true =>
        simp only [Bool.and_eq_true] at hl
        have hl1 := Nat.le_of_ble_eq_true hl.1
        have hl2 := Nat.le_of_ble_eq_true hl.2
        simp only [cond_true]
        rw [hbody] at h2
        generalize ha0 : (⟨f, ⟨args'⟩ ++ Array.replicate (p.1.ntmps - args'.length) undef, [], kind, none⟩ : Av) = a0
        have hstart : Frame.enter P f ⟨args'⟩ kind = a0.at [.code body] := by
          rw [← ha0]
          simp [Frame.enter, Av.at, hf, ← h2]
        have hH : Held φ w p.1.ntmps w.heap.size (enterT 0 args .nil) [] a0 := by
          rw [← ha0]
          exact ⟨enter_TR ha hl1 hl2, [], .nil, List.nodup_nil, by simp, fun _ => rfl⟩
        have hkd : a0.kind = kind := by rw [← ha0]
        have hro : a0.roundOf = none := by rw [← ha0]
        have hfn : a0.fn = f := by rw [← ha0]
        have h := hC p.1.ntmps body φ A w w.heap.size (enterT 0 args .nil) [] x a0 cs [] hM hH (Nat.le_refl _) (by rw [hkd, hro]; exact hx)
        rw [hstart]
        cases hy : (compC P p.1.ntmps body).val r (enterT 0 args .nil) [] A x with
        | fail => exact trivial
        | ok ex t ds A1 x1 =>
          rw [hy] at h
          obtain ⟨φ1, w1, a1, cs1, fr1, g1, g2, g3, g4, g5, g6, g7, g8⟩ := h
          rw [hkd, hro] at g5
          have hk1 : a1.kind = kind := g4.kind.trans hkd
          have hro1 : a1.roundOf = none := g4.round.trans hro
          have hfn1 : a1.fn = f := g4.fn.trans hfn
          have hw := g3.weak
          -- a frame that returns
          have retEnd : ∀ {φ2 : Inj} {A2 : AW} {w2 : World} {j : List Item}, MR P φ2 A2 w2 → Ext φ A w φ2 A2 w2 → φ1.le φ2 → Steps P (lone (a0.at [.code body]) cs w) (lone (({ a1 with defers := [] } : Av).md j .returning) cs1 w2) →
              match retA P p.1 t A2 x1 with
              | .fail => True
              | .ok o A' x' => ∃ φ' w' cs' fr', MR P φ' A' w' ∧ Ext φ A w φ' A' w' ∧ CtxR φ' x' kind none cs' ∧ (CsR (isPan x) cs cs' ∧ isPan x' = isPan x) ∧ OutOk P f kind φ' w' fr' o ∧ Steps P (lone (a0.at [.code body]) cs w) (lone fr' cs' w') := by
            intro φ2 A2 w2 j q1 q2 q3 q4
            cases hq : retA P p.1 t A2 x1 with
            | fail => exact trivial
            | ok o A' x' =>
              obtain ⟨vs, e1, rfl, rfl, rfl⟩ := retA_some hq
              have hT : TRw φ2 t a1.tmps := fun i => (hw.tmps i).imp id fun h => h.mono q3
              obtain ⟨v', e2, e3⟩ := results_ok q1 hT e1
              exact ⟨φ2, w2, cs1, _, q1, q2, g5.mono q3, g6, ⟨hfn1, hk1, rfl, p.1, hf, rfl, v', e2, e3⟩, q4⟩
          -- a frame that is to return
          have leave : Steps P (lone fr1 cs1 w1) (lone (a1.md (match fr1.todo with | k => k) .returning) cs1 w1) →
              match leaveR P r p.1 t ds A1 x1 with
              | .fail => True
              | .ok o A' x' => ∃ φ' w' cs' fr', MR P φ' A' w' ∧ Ext φ A w φ' A' w' ∧ CtxR φ' x' kind none cs' ∧ (CsR (isPan x) cs cs' ∧ isPan x' = isPan x) ∧ OutOk P f kind φ' w' fr' o ∧ Steps P (lone (a0.at [.code body]) cs w) (lone fr' cs' w') := by
            intro hst
            rw [leaveR_eq]
            have he := call_end hP hR (cs := cs1) (j := fr1.todo) g1 g2 hw.defers hro1 (y := .ret) (m := .returning) (.inl ⟨rfl, rfl⟩)
            cases hd : deferA P r ds A1 .ret with
            | fail => exact trivial
            | ok A2 y2 =>
              rw [hd] at he
              obtain ⟨φ2, w2, m2, e1, e2, e3, e4, e5⟩ := he
              simp only [retK]
              rcases e3 with ⟨rfl, rfl⟩ | ⟨v2, v2', rfl, _⟩
              · exact retEnd e1 e2 e4 (g8.trans (hst.trans e5))
              · exact trivial
          cases ex with
          | normal =>
            have g7 : fr1 = a1.at [] := g7
            refine leave ?_
            subst g7
            exact go1 (by simp [stepG, stepG.exec, Av.at, Av.md, hro1])
          | ret =>
            obtain ⟨j, g7⟩ := g7
            refine leave ?_
            subst g7
            exact go1 (by simp [stepG, stepG.exec, Av.at, Av.md, hro1])
          | exit id => exact trivial
          | panic v =>
            obtain ⟨j, v', g7, g9, g10⟩ := g7
            subst g7
            simp only [callE]
            rw [leaveP_eq]
            have he := call_end hP hR (cs := cs1) (j := j) g1 g2 hw.defers hro1 (y := .pan v false) (m := .panicking [{ v := v', recovered := false }]) (.inr ⟨v, v', rfl, rfl, g9⟩)
            cases hd : deferA P r ds A1 (.pan v false) with
            | fail => exact trivial
            | ok A2 y2 =>
              rw [hd] at he
              obtain ⟨φ2, w2, m2, e1, e2, e3, e4, e5⟩ := he
              have hst : Steps P (lone (a0.at [.code body]) cs w) (lone (({ a1 with defers := [] } : Av).md j m2) cs1 w2) := g8.trans e5
              rcases e3 with ⟨rfl, rfl⟩ | ⟨v2, v2', rfl, rfl, hv2⟩
              · exact retEnd e1 e2 e4 hst
              · exact ⟨φ2, w2, cs1, _, e1, e2, g5.mono e4, g6, ⟨hfn1, hk1, rfl, p.1, hf, v2', rfl, hv2⟩, hst⟩
end Go.Sh
