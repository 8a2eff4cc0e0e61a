/- Part of a proof by a machine of ones own: see the text with the theorem. -/
import Derived.Test.YtanpablcoimajaaDoorSh20
set_option linter.unusedVariables false
namespace Go.Sh
open Go
variable {P : Program} {φ : Inj} {A : AW} {w : World}

/-! ## Regions in the order of the text -/
theorem finish_at {a : Av} {ops : Array Oper} {i : Nat} {rest : List Nat} {k : List Item} {o : Oper} (ho : ops[i]? = some o) (v : Value) :
    (a.at (.inRegion ops (i :: rest) :: k)).finish v = (a.put o.dst v).at (.inRegion ops rest :: k) := by
  unfold Frame.finish Av.at Av.put
  simp only [ho, Option.bind_some]
  cases o.dst <;> rfl
theorem pan_at (a : Av) (j : List Item) (v : Value) : (a.at j).raise [{ v := v, recovered := false }] = a.pan j v := rfl
theorem plain_region (ops : Array Oper) (l : List Nat) (k : List Item) : Plain (.inRegion ops l :: k) := fun _ _ _ _ _ h => by cases h
theorem stepG_oper {a : Av} {ops : Array Oper} {i : Nat} {rest : List Nat} {k : List Item} {cs : List Frame} {o : Oper} (ho : ops[i]? = some o) (hw : Region.wanted o (yielded ops a.tmps) = true)
    (hd : a.roundOf = none ∨ ∀ c, o.op ≠ .defer c) :
    stepG P true { frame := a.at (.inRegion ops (i :: rest) :: k), callers := cs, status := .running, dying := none } w =
      stepG.apply P true (a.at (.inRegion ops (i :: rest) :: k)) cs none (execOp (a.at (.inRegion ops (i :: rest) :: k)).eval o) w := by
  rcases hd with hd | hd
  · simp [stepG, stepG.exec, stepG.oper, Frame.oper?, Av.at, ho, hw, hd]
  · have h2 : ∀ (l : Option Nat) (s : GStep) (f : Nat → Call → GStep), (match l, o.op with | some l, .defer c => f l c | _, _ => s) = s := by
      intro l s f
      cases l with
      | none => rfl
      | some l =>
        split
        · rename_i c h1 h2; exact absurd h2 (hd _)
        · rfl
    cases hr : a.roundOf with
    | none => simp [stepG, stepG.exec, stepG.oper, Frame.oper?, Av.at, ho, hw, hr]
    | some l =>
      simp only [stepG, stepG.exec, Av.at, ho, Option.map_some, Option.getD_some, hw, if_true, stepG.oper, Frame.oper?, hr]
      exact h2 (some l) _ _
theorem Held.push {n lo : Nat} {t : Tm} {ds : List Deferred} {a : Av} (h : Held φ w n lo t ds a) {d d' : Deferred} (hd : DR φ d d') : Held φ w n lo t (d :: ds) { a with defers := d' :: a.defers } := by
  obtain ⟨h1, rs, h2, h3, h4, h5⟩ := h
  exact ⟨h1, rs, .cons hd h2, h3, h4, h5⟩
theorem ctx_of_round {x : Ctx} {kd : CallKind} {l : Nat} {cs : List Frame} (h : CtxR φ x kd (some l) cs) : x = .round := by cases h; rfl
theorem ctx_inv {x : Ctx} {kd : CallKind} {ro : Option Nat} {cs : List Frame} (h : CtxR φ x kd ro cs) : (x = .none ∧ kd = .normal ∧ ro = none) ∨ x = .round ∨ (x = .ret ∧ kd = .deferred ∧ ro = none ∧ ∃ c cs1, cs = c :: cs1 ∧ c.mode = .returning) ∨
    (∃ v v' b c cs1, x = .pan v b ∧ kd = .deferred ∧ ro = none ∧ cs = c :: cs1 ∧ c.mode = .panicking [{ v := v', recovered := b }] ∧ VR φ v v') := by
  cases h with
  | none => exact .inl ⟨rfl, rfl, rfl⟩
  | round => exact .inr (.inl rfl)
  | ret c cs h => exact .inr (.inr (.inl ⟨rfl, rfl, rfl, c, cs, rfl, h⟩))
  | pan c cs b h hv => exact .inr (.inr (.inr ⟨_, _, b, c, cs, rfl, rfl, rfl, rfl, h, hv⟩))
/-- an operation, and what follows it -/
theorem opsN_ok (hP : NoCount P) {r : Rec} (hR : RecOk P r) {n lo : Nat} {t : Tm} {ds : List Deferred} {x : Ctx} {a : Av} {cs : List Frame} {ops : Array Oper} {i : Nat} {rest : List Nat} {k : List Item} {o : Oper} {K : CodeF}
    (hM : MR P φ A w) (hH : Held φ w n lo t ds a) (hlo : lo ≤ w.heap.size) (hx : CtxR φ x a.kind a.roundOf cs) (ho : ops[i]? = some o) (hd : dstOk n o.dst = true) (hc : ∀ y ∈ o.op.operands.toList, constOk P y = true)
    (hw : Region.wanted o (yielded ops a.tmps) = true) (hK : DoesOk P n [.inRegion ops rest] K) :
    RcOk P n lo φ A w (isPan x) a cs (a.at (.inRegion ops (i :: rest) :: k)) k (opsN r K (putDst o.dst).val t ds x ((opS P o.type o.op).val t A)) := by
  have hop := op_ok hP hM (fr := a.at (.inRegion ops (i :: rest) :: k)) hH.tmps o hc
  -- a deferred call in a round is not followed
  by_cases hdef : a.roundOf = none ∨ ∀ c, o.op ≠ .defer c
  case neg =>
    have h1 : a.roundOf ≠ none := fun h => hdef (.inl h)
    have h2 : ∃ c, o.op = .defer c := by
      cases ho2 : o.op <;> first | exact ⟨_, rfl⟩ | exact absurd (.inr fun c h => by rw [ho2] at h; cases h) hdef
    obtain ⟨c, h2⟩ := h2
    have hxr : x = .round := by
      cases hr : a.roundOf with
      | none => exact absurd hr h1
      | some l => rw [hr] at hx; exact ctx_of_round hx
    subst hxr
    have : opsN r K (putDst o.dst).val t ds .round ((opS P o.type o.op).val t A) = .fail := by
      rw [h2]
      show opsN r K (putDst o.dst).val t ds .round ((deferS c).val t A) = .fail
      unfold deferS
      split
      · show opsN r K (putDst o.dst).val t ds .round (deferV A _ _) = .fail
        unfold deferV
        split <;> rfl
      · rfl
    rw [this]
    exact trivial
  case pos =>
    have hg := stepG_oper (P := P) (w := w) (k := k) (cs := cs) (rest := rest) ho hw hdef
    have hfin := fun v => finish_at (a := a) (k := k) (rest := rest) ho v
    generalize hfr : a.at (.inRegion ops (i :: rest) :: k) = fr at *
    have hfk : fr.todo = .inRegion ops (i :: rest) :: k := by rw [← hfr]; rfl
    have hfr0 : fr.roundOf = a.roundOf := by rw [← hfr]; rfl
    have hfkd : fr.kind = a.kind := by rw [← hfr]; rfl
    have hfd : fr.defers = a.defers := by rw [← hfr]; rfl
    -- on with a value
    have next : ∀ (φ1 : Inj) (A1 : AW) (w1 : World) (v v' : Value) (x1 : Ctx) (cs1 : List Frame) (ds1 : List Deferred) (a1 : Av), MR P φ1 A1 w1 → Ext φ A w φ1 A1 w1 → Held φ1 w1 n lo t ds1 a1 → a.Like a1 → VR φ1 v v' → CtxR φ1 x1 a.kind a.roundOf cs1 → CsR (isPan x) cs cs1 → isPan x1 = isPan x →
        Steps P (lone fr cs w) (lone ((a1.put o.dst v').at (.inRegion ops rest :: k)) cs1 w1) → RcOk P n lo φ A w (isPan x) a cs fr k (K ((putDst o.dst).val v t) ds1 A1 x1) := by
      intro φ1 A1 w1 v v' x1 cs1 ds1 a1 h1 h2 h3 h4 h5 h6 h7 h8 h9
      have hl := h4.trans (a1.like_put o.dst v')
      refine RcOk.after h2 hl h7 h9 ?_
      rw [← h8]
      exact hK φ1 A1 w1 lo _ ds1 x1 _ cs1 k h1 (h3.put hd h5) (Nat.le_trans hlo h2.size) (by rw [hl.kind, hl.round]; exact h6)
    have bad : ∀ (φ1 : Inj) (A1 : AW) (w1 : World) (v v' : Value), MR P φ1 A1 w1 → Ext φ A w φ1 A1 w1 → VR φ1 v v' → Steps P (lone fr cs w) (lone (fr.raise [{ v := v', recovered := false }]) cs w1) →
        RcOk P n lo φ A w (isPan x) a cs fr k (.ok (.panic v) t ds A1 x) := by
      intro φ1 A1 w1 v v' h1 h2 h3 h4
      refine ⟨φ1, w1, a, cs, _, h1, h2, (hH.ext h2).weak, .refl _, hx.mono h2.le, ⟨.same _ _, rfl⟩, ⟨.inRegion ops (i :: rest) :: k, v', ?_, h3, plain_region _ _ _⟩, h4⟩
      rw [← hfr]; rfl
    cases hy : (opS P o.type o.op).val t A with
    | fail => exact trivial
    | val v A1 =>
      rw [hy] at hop
      obtain ⟨φ1, w1, h1, h2, h3⟩ := hop
      rcases h3 with ⟨v', h3, h4⟩ | ⟨h3, rfl⟩
      · exact next φ1 A1 w1 v v' x cs ds a h1 h2 (hH.ext h2) (.refl _) h4 (hx.mono h2.le) (.same _ _) rfl (go1 (by rw [hg, ← hfin]; simp [stepG.apply, h3]))
      · exact next φ1 A1 w1 undef undef x cs ds a h1 h2 (hH.ext h2) (.refl _) undef_VR (hx.mono h2.le) (.same _ _) rfl (go1 (by rw [hg, ← hfin]; simp [stepG.apply, h3]))
    | enter f args A1 =>
      rw [hy] at hop
      obtain ⟨rfl, args', h3, h4⟩ := hop
      have hcall := call_back hR hM f h4 fr cs
      have henter : Steps P (lone fr cs w) (lone (Frame.enter P f ⟨args'⟩ .normal) (fr :: cs) w) := go1 (by rw [hg]; simp [stepG.apply, h3, hfk])
      simp only [opsN, opsO]
      cases hq : r.call f args A1 .none with
      | fail => exact trivial
      | ok out A2 x2 =>
        rw [hq] at hcall
        cases out with
        | ret v =>
          obtain ⟨φ1, w1, v', h5, h6, h7, h8⟩ := hcall
          exact next φ1 A2 w1 v v' x cs ds a h5 h6 (hH.ext h6) (.refl _) h7 (hx.mono h6.le) (.same _ _) rfl (henter.trans (by rw [← hfin]; exact h8))
        | panic v =>
          obtain ⟨φ1, w1, v', h5, h6, h7, h8⟩ := hcall
          exact bad φ1 A2 w1 v v' h5 h6 h7 (henter.trans h8)
    | yield l args A1 =>
      rw [hy] at hop
      obtain ⟨rfl, l', args', h3, h4, h5⟩ := hop
      have hyi := yield_ok hR hM h3 h4 fr cs
      simp only [opsN]
      cases hq : yieldA r l args A1 with
      | fail => exact trivial
      | val b A2 =>
        rw [hq] at hyi
        obtain ⟨fn, tmps, assign, body, φ1, w1, h6, h7, h8, h9⟩ := hyi
        have hst : Steps P (lone fr cs w) (lone (Frame.round l' fn tmps assign body .normal) (fr :: cs) w) := go1 (by rw [hg]; simp [stepG.apply, h5, h6])
        exact next φ1 A2 w1 (.bool b) (.bool b) x cs ds a h7 h8 (hH.ext h8) (.refl _) (.bool b) (hx.mono h8.le) (.same _ _) rfl (hst.trans (by rw [← hfin]; exact h9))
      | panic v A2 =>
        rw [hq] at hyi
        obtain ⟨fn, tmps, assign, body, φ1, w1, v', h6, h7, h8, h9, h10⟩ := hyi
        have hst : Steps P (lone fr cs w) (lone (Frame.round l' fn tmps assign body .normal) (fr :: cs) w) := go1 (by rw [hg]; simp [stepG.apply, h5, h6])
        exact bad φ1 A2 w1 v v' h7 h8 h9 (hst.trans h10)
    | defer d A1 =>
      rw [hy] at hop
      obtain ⟨rfl, d', h3, h4⟩ := hop
      simp only [opsN]
      cases hr : isRound x with
      | true => exact trivial
      | false =>
        simp only [cond_false]
        refine next φ A1 w undef undef x cs (d :: ds) { a with defers := d' :: a.defers } hM (Ext.refl _ _ _) (hH.push h3) ⟨rfl, rfl, rfl⟩ undef_VR hx (.same _ _) rfl (go1 ?_)
        rw [hg, ← finish_at (a := { a with defers := d' :: a.defers }) ho]
        have e : ({ fr with defers := d' :: fr.defers } : Frame) = ({ a with defers := d' :: a.defers } : Av).at (.inRegion ops (i :: rest) :: k) := by rw [← hfr]; rfl
        simp only [stepG.apply, Sem.runT_eq, h4, GStep.bare_after]
        rw [← e]
        rfl
    | recover A1 =>
      rw [hy] at hop
      obtain ⟨rfl, h3⟩ := hop
      simp only [opsN]
      have hnil : fr.roundOf = none → tryRecover fr cs = none → Steps P (lone fr cs w) (lone ((a.put o.dst .nilIface).at (.inRegion ops rest :: k)) cs w) := fun h1 h2 => go1 (by
        rw [hg, ← hfin]; simp [stepG.apply, h3, h1, h2])
      rcases ctx_inv hx with ⟨rfl, hk, hro⟩ | rfl | ⟨rfl, hk, hro, c, cs1, rfl, hm⟩ | ⟨v, v', b, c, cs1, rfl, hk, hro, rfl, hm, hv⟩
      · exact next φ A1 w .nilIface .nilIface .none cs ds a hM (Ext.refl _ _ _) hH (.refl _) .nilIface hx (.same _ _) rfl (hnil (by rw [hfr0, hro]) (by unfold tryRecover; rw [hfkd, hk]))
      · exact trivial
      · exact next φ A1 w .nilIface .nilIface .ret (c :: cs1) ds a hM (Ext.refl _ _ _) hH (.refl _) .nilIface hx (.same _ _) rfl (hnil (by rw [hfr0, hro]) (by unfold tryRecover; rw [hfkd, hk]; simp [hm]))
      · cases b with
        | true => exact next φ A1 w .nilIface .nilIface (.pan v true) (c :: cs1) ds a hM (Ext.refl _ _ _) hH (.refl _) .nilIface hx (.same _ _) rfl (hnil (by rw [hfr0, hro]) (by unfold tryRecover; rw [hfkd, hk]; simp [hm]))
        | false =>
          refine next φ A1 w v v' (.pan v true) ({ c with mode := .panicking [{ v := v', recovered := true }] } :: cs1) ds a hM (Ext.refl _ _ _) hH (.refl _) hv (by rw [hk, hro]; exact .pan _ _ _ rfl hv) (.mode _ _ _) rfl (go1 ?_)
          have ht : tryRecover fr (c :: cs1) = some (v', { c with mode := .panicking [{ v := v', recovered := true }] } :: cs1) := by
            unfold tryRecover; rw [hfkd, hk]; simp [hm]
          rw [hg, ← hfin]
          simp [stepG.apply, h3, hfr0, hro, ht]
    | panic v A1 =>
      rw [hy] at hop
      obtain ⟨φ1, w1, h1, h2, v', h3, h4⟩ := hop
      exact bad φ1 A1 w1 v v' h1 h2 h3 (go1 (by rw [hg]; simp [stepG.apply, h4]))
end Go.Sh
