/- Part of a proof by a machine of ones own: see the text with the theorem. -/
import Derived.Test.YtanpablcoimajaaDoorSh22
set_option linter.unusedVariables false
namespace Go.Sh
open Go
variable {P : Program} {φ : Inj} {A : AW} {w : World}

/-! ## A frame leaves -/
/-- the frame, in a mode -/
def Av.md (a : Av) (j : List Item) (m : FrameMode) : Frame := { a.at j with mode := m }
/-- a block that nobody knows becomes another one -/
theorem MR.touch (hM : MR P φ A w) {r : Nat} (h : ∀ b n s d, φ b ≠ some (.at_ r n s d)) (o : Obj) : MR P φ A (setBlk w r o) :=
  ⟨fun b c n s d hb => by
    obtain ⟨o1, oc, h1, h2, h3⟩ := hM.obj b c n s d hb
    exact ⟨o1, oc, h1, by rw [setBlk_other (by rintro rfl; exact h _ _ _ _ hb)]; exact h2, h3⟩, hM.dead, hM.one, hM.fresh, hM.globals, hM.lim⟩
theorem Ext.touch {φ0 : Inj} {A0 : AW} {w0 : World} (e : Ext φ0 A0 w0 φ A w) {r : Nat} (h : w0.heap.size ≤ r) (o : Obj) : Ext φ0 A0 w0 φ A (setBlk w r o) :=
  ⟨e.le, e.lim, e.next, e.low, by simpa [setBlk] using e.size, fun c hc hb => by rw [setBlk_other (by omega)]; exact e.frame c hc hb, e.new, e.idle, e.os, e.tape, e.output⟩
theorem Loose.touch {r r' : Nat} (h : Loose φ w r) (hne : r ≠ r') (o : Obj) : Loose φ (setBlk w r' o) r := ⟨h.1, by rw [setBlk_other hne]; exact h.2⟩
/-- what a deferred call sees of the frame that makes it -/
def ModeR (φ : Inj) (y : Ctx) (m : FrameMode) : Prop := (y = .ret ∧ m = .returning) ∨ ∃ v v', y = .pan v false ∧ m = .panicking [{ v := v', recovered := false }] ∧ VR φ v v'
theorem ModeR.mono {φ' : Inj} {y : Ctx} {m : FrameMode} (h : ModeR φ y m) (hle : φ.le φ') : ModeR φ' y m := by
  rcases h with h | ⟨v, v', h1, h2, h3⟩
  · exact .inl h
  · exact .inr ⟨v, v', h1, h2, h3.mono hle⟩
theorem ModeR.unwinds {y : Ctx} {m : FrameMode} (h : ModeR φ y m) (a : Av) (j : List Item) (cs : List Frame) (w : World) :
    stepG P true { frame := a.md j m, callers := cs, status := .running, dying := none } w = unwind P true (a.md j m) cs none w := by
  rcases h with ⟨_, rfl⟩ | ⟨v, v', _, rfl, _⟩ <;> simp [stepG, Av.md, Av.at]
theorem step_mark {y : Ctx} {m : FrameMode} (h : ModeR φ y m) {a : Av} {j : List Item} {cs : List Frame} {r : Nat} {ds : List Deferred} (hd : a.defers = { target := .collected r, args := #[] } :: ds) (hr : w.heap[r]? = some (.deferred (some []))) :
    Steps P (lone (a.md j m) cs w) (lone (({ a with defers := ds } : Av).md j m) cs (setBlk w r (.deferred none))) := by
  refine go1 ?_
  have ht : (Instr.takeDeferred r).run P w = .ok [] (setBlk w r (.deferred none)) := by
    have h2 : (setObj r (.deferred none)).run P w = .ok () (setBlk w r (.deferred none)) := by
      unfold setObj; simp only [Sem.run, hr]; rfl
    simp [Instr.takeDeferred, run_getObj hr (by intro a b c h; cases h), h2]
  rw [h.unwinds]
  simp [unwind, Av.md, Av.at, hd, ht]
theorem invokeA_ok (hP : NoCount P) (hM : MR P φ A w) {d d' : Deferred} (h : DR φ d d') : OpOk P φ A w (invokeA P A d.target d.args.toList) ((invoke d'.target d'.args).run P w) := by
  obtain ⟨h1, h2⟩ := h
  obtain ⟨tg, args⟩ := d
  obtain ⟨tg', args'⟩ := d'
  cases h1 with
  | fn hf hc =>
    obtain ⟨args'⟩ := args'
    exact fnA_ok hP hM hf hc h2
/-- the deferred calls run -/
theorem deferA_ok (hP : NoCount P) {r : Rec} (hR : RecOk P r) {φ0 : Inj} {A0 : AW} {w0 : World} (j : List Item) {ds ds' : List Deferred} {rs : List Nat} (hds : DsR φ ds ds' rs) :
    ∀ {A : AW} {w : World} {a : Av} {cs : List Frame} {y : Ctx} {m : FrameMode} {φ1 : Inj}, φ.le φ1 → a.roundOf = none → a.defers = ds' → MR P φ1 A w → Ext φ0 A0 w0 φ1 A w → rs.Nodup → (∀ q ∈ rs, w0.heap.size ≤ q ∧ Loose φ1 w q) → ModeR φ1 y m →
      match deferA P r ds A y with
      | .fail => True
      | .ok A' y' => ∃ φ' w' m', MR P φ' A' w' ∧ Ext φ0 A0 w0 φ' A' w' ∧ ModeR φ' y' m' ∧ φ1.le φ' ∧ Steps P (lone (a.md j m) cs w) (lone (({ a with defers := [] } : Av).md j m') cs w') := by
  induction hds with
  | nil =>
    intro A w a cs y m φ1 hle hro ha hM hE _ _ hm
    refine ⟨φ1, w, m, hM, hE, hm, φ1.le_refl, ?_⟩
    have : ({ a with defers := [] } : Av) = a := by cases a; simp_all
    rw [this]; exact .refl _ _
  | mark q k ih =>
    rename_i ds ds' rs
    intro A w a cs y m φ1 hle hro ha hM hE hnd hl hm
    have h1 := hl q (List.mem_cons_self ..)
    have hst := step_mark (P := P) (φ := φ1) (j := j) (cs := cs) hm ha h1.2.2
    have hnd' := List.nodup_cons.1 hnd
    have := ih (A := A) (w := setBlk w q (.deferred none)) (a := { a with defers := ds' }) (cs := cs) hle hro rfl (hM.touch h1.2.1 _) (hE.touch h1.1 _) hnd'.2
      (fun q' hq' => ⟨(hl q' (List.mem_cons_of_mem _ hq')).1, (hl q' (List.mem_cons_of_mem _ hq')).2.touch (by rintro rfl; exact hnd'.1 hq') _⟩) hm
    revert this
    generalize deferA P r _ A y = z
    intro this
    cases z with
    | fail => exact trivial
    | ok A' y' =>
      obtain ⟨φ', w', m', g1, g2, g3, g4, g5⟩ := this
      exact ⟨φ', w', m', g1, g2, g3, g4, hst.trans g5⟩
  | cons h k ih =>
    rename_i d d' ds ds' rs
    intro A w a cs y m φ1 hle hro ha hM hE hnd hl hm
    have hop := invokeA_ok hP hM (h.mono hle)
    obtain ⟨tg, dargsA⟩ := d
    obtain ⟨tg', dargs⟩ := d'
    have ht : TargetR φ tg tg' := h.target
    obtain ⟨fn', cap', rfl⟩ : ∃ f c, tg' = .fn f c := by cases ht; exact ⟨_, _, rfl⟩
    simp only [deferA, deferN]
    cases hy : invokeA P A tg dargsA.toList with
    | enter f args A1 =>
      have hop : OpOk P φ1 A w (invokeA P A tg dargsA.toList) ((invoke (.fn fn' cap') dargs).run P w) := hop
      rw [hy] at hop
      obtain ⟨rfl, args', h3, h4⟩ := hop
      simp only [deferO]
      -- the call is made
      generalize hfr : ({ a with defers := ds' } : Av).md j m = fr
      have henter : Steps P (lone (a.md j m) cs w) (lone (Frame.enter P f ⟨args'⟩ .deferred) (fr :: cs) w) := by
        refine go1 ?_
        rw [hm.unwinds]
        rw [← hfr]
        simp [unwind, Av.md, Av.at, ha, callDeferred, h3]
      have hfm : fr.mode = m := by rw [← hfr]; rfl
      have hctx : CtxR φ1 y .deferred none (fr :: cs) := by
        rcases hm with ⟨rfl, rfl⟩ | ⟨v, v', rfl, rfl, hv⟩
        · exact .ret _ _ hfm
        · exact .pan _ _ _ hfm hv
      have hcall := hR.call f φ1 A1 w args args' y .deferred (fr :: cs) hM h4 hctx
      cases hq : r.call f args A1 y with
      | fail => exact trivial
      | ok out A2 y2 =>
        rw [hq] at hcall
        obtain ⟨φ2, w2, cs2, fr2, g1, g2, g3, g4, g5, g6⟩ := hcall
        cases out with
        | panic v => exact trivial
        | ret v =>
          simp only
          obtain ⟨q1, q2, q3, fn, q4, q5, v', q6, q7⟩ := g5
          -- the frame, behind the call
          have hm2 : ∃ m2, ModeR φ2 (afterD y2) m2 ∧ Steps P (lone fr2 cs2 w2) (lone (({ a with defers := ds' } : Av).md j m2) cs w2) := by
            rcases hm with ⟨rfl, rfl⟩ | ⟨v, v', rfl, rfl, hv⟩
            · have hcs := g4.1.eq
              subst hcs
              rcases ctx_inv g3 with ⟨_, h, _⟩ | rfl | ⟨rfl, _, _, c, cs3, _, _⟩ | ⟨v, v', b, c, cs3, rfl, _⟩
              · cases h
              · cases g3
              · refine ⟨.returning, .inl ⟨rfl, rfl⟩, go1 ?_⟩
                rw [hfr]
                simp [stepG, unwind, doReturn, q1, q2, q3, q4, q5, q7, hfm]
              · have := g4.2; cases this
            · rcases ctx_inv g3 with ⟨_, h, _⟩ | rfl | ⟨rfl, _⟩ | ⟨v1, v1', b, c, cs3, rfl, _, _, rfl, hcm, hv1⟩
              · cases h
              · cases g3
              · have := g4.2; cases this
              · have hc : c = { fr with mode := .panicking [{ v := v1', recovered := b }] } ∧ cs3 = cs := by
                  have g4' := g4.1
                  generalize hcc : c :: cs3 = l at g4'
                  cases g4' with
                  | same =>
                    injection hcc with e1 e2
                    subst e1 e2
                    refine ⟨?_, rfl⟩
                    cases c
                    simp_all
                  | mode _ m3 _ =>
                    injection hcc with e1 e2
                    subst e2
                    refine ⟨?_, rfl⟩
                    subst e1
                    simp only at hcm
                    rw [hcm]
                obtain ⟨rfl, rfl⟩ := hc
                cases b with
                | true =>
                  refine ⟨.returning, .inl ⟨rfl, rfl⟩, go1 ?_⟩
                  rw [← hfr]
                  simp [stepG, unwind, doReturn, q1, q2, q3, q4, q5, q7, Av.md, Av.at]
                | false =>
                  refine ⟨_, .inr ⟨v1, v1', rfl, rfl, hv1⟩, go1 ?_⟩
                  rw [← hfr]
                  simp [stepG, unwind, doReturn, q1, q2, q3, q4, q5, q7, Av.md, Av.at]
          obtain ⟨m2, hm2, hst2⟩ := hm2
          have := ih (A := A2) (w := w2) (a := { a with defers := ds' }) (cs := cs) (y := afterD y2) (m := m2) (Inj.le_trans hle g2.le) hro rfl g1 (hE.trans g2) hnd (fun q' hq' => ⟨(hl q' hq').1, (hl q' hq').2.ext g2⟩) hm2
          revert this
          generalize deferA P r ds A2 (afterD y2) = z
          intro this
          cases z with
          | fail => exact trivial
          | ok A' y' =>
            obtain ⟨φ', w', m', e1, e2, e3, e4, e5⟩ := this
            exact ⟨φ', w', m', e1, e2, e3, Inj.le_trans g2.le e4, henter.trans (g6.trans (hst2.trans e5))⟩
    | _ => exact trivial
end Go.Sh
