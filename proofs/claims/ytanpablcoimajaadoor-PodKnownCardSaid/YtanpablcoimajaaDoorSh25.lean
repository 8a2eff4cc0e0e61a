/- Part of a proof by a machine of ones own: see the text with the theorem. -/
import Derived.Test.YtanpablcoimajaaDoorSh24
set_option linter.unusedVariables false
namespace Go.Sh
open Go
variable {P : Program} {φ : Inj} {A : AW} {w : World}

/-! ## A loop over a function -/
theorem MR.loose (hM : MR P φ A w) (o : Obj) : MR P φ A (w.alloc o) ∧ Ext φ A w φ A (w.alloc o) ∧ ∀ b n s d, φ b ≠ some (.at_ w.heap.size n s d) := by
  refine ⟨⟨fun b c n s d hb => ?_, hM.dead, hM.one, hM.fresh, hM.globals, hM.lim⟩, ⟨φ.le_refl, rfl, Nat.le_refl _, fun _ _ => ⟨rfl, rfl⟩, by show w.heap.size ≤ (w.heap.push o).size; simp, fun c hc _ => push_old w o hc, fun _ _ _ _ _ h => .inl h, fun _ _ h => ⟨rfl, h⟩, rfl, rfl, rfl⟩, fun b n s d hb => ?_⟩
  · obtain ⟨o1, oc, h1, h2, h3⟩ := hM.obj b c n s d hb
    exact ⟨o1, oc, h1, by rw [push_old w o (lt_of_heap h2)]; exact h2, h3⟩
  · obtain ⟨o1, oc, h1, h2, h3⟩ := hM.obj b _ n s d hb
    have := lt_of_heap h2
    omega
theorem rangeFunc_ok (hP : NoCount P) {r : Rec} (hR : RecOk P r) (n : Nat) (f : Operand) (params : Array Tmp) (assign body : Code) (hc : constOk P f = true) (hp : ∀ d ∈ params.toList, dstOk n (some d) = true) :
    DoesOk P n [.code (.rangeFunc f params assign body)] fun t ds w x => rangeB P n r ((evS f).val t) params.toList assign body t ds w x := by
  intro φ A w lo t ds x a cs k hM hH hlo hx
  show RcOk P n lo φ A w (isPan x) a cs (a.at ([.code (.rangeFunc f params assign body)] ++ k)) k (rangeB P n r ((evS f).val t) params.toList assign body t ds A x)
  unfold rangeB
  cases hrx : isRound x with
  | true => exact trivial
  | false =>
    have hro : a.roundOf = none := by
      rcases ctx_inv hx with ⟨_, _, h⟩ | rfl | ⟨_, _, h, _⟩ | ⟨_, _, _, _, _, _, _, h, _⟩
      · exact h
      · cases hrx
      · exact h
      · exact h
    simp only [cond_false]
    -- the block of its deferred calls, and the loop
    obtain ⟨m1, m2, m3⟩ := hM.loose (.deferred (some []))
    generalize hL : ({ state := .ready, pending := none, fn := a.fn, tmps := a.tmps, params, assign, body, defers := w.heap.size } : Loop) = L
    have hLR : LoopR φ ⟨n, t, params.toList, assign, body, none, .ready⟩ L := by
      rw [← hL]; exact ⟨rfl, rfl, rfl, rfl, rfl, hH.tmps, hp⟩
    obtain ⟨n1, n2, n3⟩ := m1.add (o := .loop ⟨n, t, params.toList, assign, body, none, .ready⟩) (oc := .loop L) (n := 0) (s := 0) ⟨L, rfl, hLR⟩
    generalize hl : (w.alloc (.deferred (some []))).heap.size = l at n1 n2 n3
    generalize hw1 : (w.alloc (.deferred (some []))).alloc (.loop L) = w1 at n1 n2
    generalize hA1 : A.add (.loop ⟨n, t, params.toList, assign, body, none, .ready⟩) = A1 at n1 n2
    generalize hφ1 : φ.add A.next (.at_ l 0 0 0) = φ1 at n1 n2 n3
    have hE1 : Ext φ A w φ1 A1 w1 := m2.trans n2
    have hbl : BlkR φ1 A.next l := .inr ⟨0, 0, 0, by rw [← hφ1]; simp [Inj.add]⟩
    have henterLoop : (Instr.enterLoop a.fn a.tmps params assign body none).run P w = .ok (l, [{ target := .collected w.heap.size, args := #[] }]) w1 := by
      rw [← hw1, ← hl, ← hL]
      simp [Instr.enterLoop]
    -- the frame that calls
    generalize ha' : ({ a with defers := { target := .collected w.heap.size, args := #[] } :: a.defers } : Av) = a'
    have hlike : a.Like a' := by rw [← ha']; exact ⟨rfl, rfl, rfl⟩
    have hH' : Held φ1 w1 n lo t ds a' := by
      obtain ⟨q1, rs, q2, q3, q4, q5⟩ := hH
      rw [← ha']
      refine ⟨q1.mono hE1.le, w.heap.size :: rs, .mark _ (q2.mono hE1.le), List.nodup_cons.2 ⟨fun h => ?_, q3⟩, fun q hq => ?_, fun h => absurd hro h⟩
      · have := lt_of_heap (q4 _ h).2.2
        omega
      · rcases List.mem_cons.1 hq with rfl | hq
        · exact ⟨hlo, Loose.ext (A := A) (A' := A1) ⟨m3, push_same w _⟩ n2⟩
        · exact ⟨(q4 q hq).1, (q4 q hq).2.ext hE1⟩
    have hev := evS_ok n1 (fr := a'.at (.inRangeFunc l :: k)) hH'.tmps f hc
    have harg : LR φ1 [.func (.yield A.next) #[] #[]] [.func (.yield l) #[] #[]] := .cons (.func (.inr ⟨_, _, rfl, rfl, hbl⟩) .nil .nil) .nil
    have hop := callV_ok hP n1 hev harg
    have hA1n : A.next = A.next := rfl
    have hst0 : ∀ {f' : FuncId} {args' : Array Value}, ((do let d ← Deferred.ofValue ((a'.at (.inRangeFunc l :: k)).eval f) ⟨[.func (.yield l) #[] #[]]⟩; invoke d.target d.args : Sem Next).run P w1) = .ok (.enter f' args') w1 →
        Steps P (lone (a.at ([.code (.rangeFunc f params assign body)] ++ k)) cs w) (lone (Frame.enter P f' args' .normal) (a'.at (.inRangeFunc l :: k) :: cs) w1) := by
      intro f' args' hrun
      refine go1 ?_
      rw [← ha'] at hrun ⊢
      simp only [Av.at, hro] at hrun
      have hargs : ∀ fr : Frame, Array.map fr.eval #[Operand.const (Value.func (Fn.yield l) #[] #[])] = ⟨[Value.func (Fn.yield l) #[] #[]]⟩ := fun fr => by simp [Frame.eval]
      simp only [stepG, stepG.exec, Av.at, List.cons_append, List.nil_append, hro, Sem.runT_eq, henterLoop, GStep.bare_after, stepG.apply, resolve, Sem.run_bind, hargs, Sem.run_pure, Result.andThen_ok] at hrun ⊢
      simp only [hrun, if_true]
      rfl
    have hst0' := @hst0
    clear hst0
    show RcOk P n lo φ A w (isPan x) a cs (a.at ([.code (.rangeFunc f params assign body)] ++ k)) k (rangeN r A.next t ds x (callV P A1 ((evS f).val t) [.func (.yield A.next) #[] #[]]))
    cases hy : callV P A1 ((evS f).val t) [.func (.yield A.next) #[] #[]] with
    | enter g args A2 =>
      rw [hy] at hop
      obtain ⟨rfl, args', h3, h4⟩ := hop
      have hst := hst0' h3
      have hcall := call_back hR n1 g h4 (a'.at (.inRangeFunc l :: k)) cs
      simp only [rangeN]
      cases hq : r.call g args A2 .none with
      | fail => exact trivial
      | ok out A3 x3 =>
        rw [hq] at hcall
        cases out with
        | panic v =>
          obtain ⟨φ3, w3, v', e1, e2, e3, e4⟩ := hcall
          exact ⟨φ3, w3, a', cs, _, e1, hE1.trans e2, (hH'.ext e2).weak, hlike, hx.mono (hE1.trans e2).le, ⟨.same _ _, rfl⟩, ⟨_, v', rfl, e3, fun _ _ _ _ _ h => by cases h⟩, hst.trans e4⟩
        | ret v =>
          obtain ⟨φ3, w3, v', e1, e2, e3, e4⟩ := hcall
          simp only [rangeK]
          have hbl3 := hbl.mono e2.le
          have hfin : (a'.at (.inRangeFunc l :: k)).finish v' = a'.at (.endRangeFunc l :: k) := rfl
          rw [hfin] at e4
          unfold loopD
          cases hlp : loopAt A3 A.next with
          | none => exact trivial
          | some lp =>
            simp only
            cases hbz : isBusy lp.state with
            | true => exact trivial
            | false =>
              obtain ⟨n3', s3, d3, L3, u1, u2, u3⟩ := loop_there e1 hbl3 hlp
              simp only [cond_false]
              cases hpo : putO A3 A.next (.loop ⟨lp.n, lp.tmps, lp.params, lp.assign, lp.body, lp.pending, .exhausted⟩) with
              | none => exact trivial
              | some A4 =>
                obtain ⟨hlim, rfl⟩ := putO_some hpo
                obtain ⟨y1, y2⟩ := e1.set (o := .loop ⟨lp.n, lp.tmps, lp.params, lp.assign, lp.body, lp.pending, .exhausted⟩) (oc := .loop { L3 with state := .exhausted }) u1 hlim (n' := n3') (s' := s3) (d' := d3) ⟨_, rfl, ⟨rfl, u3.pending, u3.params, u3.assign, u3.body, u3.tmps, u3.dst⟩⟩ ⟨rfl, rfl, rfl⟩
                have hnb : (L3.state == .busy) = false := by
                  rw [u3.state]
                  unfold isBusy at hbz
                  cases hs : lp.state <;> first | rfl | (rw [hs] at hbz; cases hbz)
                have hend : (Instr.endLoop l).run P w3 = .ok L3.pending (setBlk w3 l (.loop { L3 with state := .exhausted })) := by
                  simp only [Instr.endLoop, Sem.run_bind, run_getLoop u2, Result.andThen_ok, hnb, Bool.false_eq_true, if_false, run_setLoop u2, Sem.run_pure]
                generalize hW : setBlk w3 l (.loop { L3 with state := .exhausted }) = w4 at y1 y2 hend
                generalize hA4 : A3.set A.next (some (.loop ⟨lp.n, lp.tmps, lp.params, lp.assign, lp.body, lp.pending, .exhausted⟩)) = A4 at y1 y2 ⊢
                have hst2 : Steps P (lone (a'.at (.endRangeFunc l :: k)) cs w3) (lone (a'.at ((L3.pending.map Item.code).toList ++ k)) cs w4) := go1 (by
                  simp only [stepG, stepG.exec, Av.at, Sem.runT_eq, hend, GStep.bare_after]
                  rfl)
                have hall := hst.trans (e4.trans hst2)
                have hEall := hE1.trans (e2.trans y2)
                have hHall := (hH'.ext e2).ext y2
                rw [u3.pending] at hall
                simp only [loopE]
                cases hpd : lp.pending with
                | none =>
                  rw [hpd] at hall
                  exact ⟨φ3, _, a', cs, _, y1, hEall, hHall, hlike, hx.mono hEall.le, ⟨.same _ _, rfl⟩, rfl, hall⟩
                | some j =>
                  rw [hpd] at hall
                  cases j with
                  | exit id => exact ⟨φ3, _, a', cs, _, y1, hEall, hHall, hlike, hx.mono hEall.le, ⟨.same _ _, rfl⟩, ⟨k, rfl, rfl⟩, hall⟩
                  | ret => exact ⟨φ3, _, a', cs, _, y1, hEall, hHall, hlike, hx.mono hEall.le, ⟨.same _ _, rfl⟩, ⟨k, rfl⟩, hall⟩
                  | _ => exact trivial
    | _ => exact trivial
end Go.Sh
