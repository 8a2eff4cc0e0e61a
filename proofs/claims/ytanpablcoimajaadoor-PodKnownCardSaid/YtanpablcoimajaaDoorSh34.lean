/- Part of a proof by a machine of ones own: see the text with the theorem. -/
import Derived.Test.YtanpablcoimajaaDoorSh33
set_option linter.unusedVariables false
set_option linter.unusedSimpArgs false
namespace Go.Sh
open Go
variable {P : Program} {φ : Inj} {A : AW} {w : World}

/-! ## The concrete steps of an operation -/
theorem not_defer {o : Oper} {t : Tm} {y : R} (h : (opS P o.type o.op).val t A = y) (h1 : y ≠ .fail) (h2 : ∀ d B, y ≠ .defer d B) : ∀ c, o.op ≠ .defer c := by
  intro c hc
  rw [hc] at h
  have h : (deferS c).val t A = y := h
  unfold deferS at h
  split at h
  · have h : deferV A _ _ = y := h
    unfold deferV at h
    split at h
    · exact h2 _ _ h.symm
    · exact h1 h.symm
  · exact h1 h.symm
theorem val_steps (hP : NoCount P) (hM : MR P φ A w) {n : Nat} {t : Tm} {a : Av} (hT : TR φ n t a.tmps) {ops : Array Oper} {i : Nat} {rest : List Nat} {k : List Item} {cs : List Frame} {o : Oper} (ho : ops[i]? = some o)
    (hc : ∀ y ∈ o.op.operands.toList, constOk P y = true) (hw : Region.wanted o (yielded ops a.tmps) = true) {v : Value} {A' : AW} (hv : (opS P o.type o.op).val t A = .val v A') :
    ∃ φ1 w1 v', MR P φ1 A' w1 ∧ Ext φ A w φ1 A' w1 ∧ VR φ1 v v' ∧ Steps P (lone (a.at (.inRegion ops (i :: rest) :: k)) cs w) (lone ((a.put o.dst v').at (.inRegion ops rest :: k)) cs w1) := by
  have hop := op_ok hP hM (fr := a.at (.inRegion ops (i :: rest) :: k)) hT o hc
  have hg := stepG_oper (P := P) (w := w) (k := k) (cs := cs) (rest := rest) ho hw (.inr (not_defer hv (fun h => by cases h) (fun d B h => by cases h)))
  rw [hv] at hop
  obtain ⟨φ1, w1, h1, h2, h3⟩ := hop
  rcases h3 with ⟨v', h3, h4⟩ | ⟨h3, rfl⟩
  · exact ⟨φ1, w1, v', h1, h2, h4, go1 (by rw [hg, ← finish_at ho]; simp [stepG.apply, h3])⟩
  · exact ⟨φ1, w1, undef, h1, h2, undef_VR, go1 (by rw [hg, ← finish_at ho]; simp [stepG.apply, h3])⟩
theorem new_steps {ops : Array Oper} {a : Av} {i : Nat} {rest : List Nat} {k : List Item} {cs : List Frame} {o : Oper} (ho : ops[i]? = some o) (hw : Region.wanted o (yielded ops a.tmps) = true) (hk : ∀ c, o.op ≠ .defer c)
    {oc : Obj} {v' : Value} (hr : (execOp (a.at (.inRegion ops (i :: rest) :: k)).eval o).run P w = .ok (.value v') (w.alloc oc)) :
    Steps P (lone (a.at (.inRegion ops (i :: rest) :: k)) cs w) (lone ((a.put o.dst v').at (.inRegion ops rest :: k)) cs (w.alloc oc)) := by
  have hg := stepG_oper (P := P) (w := w) (k := k) (cs := cs) (rest := rest) ho hw (.inr hk)
  exact go1 (by rw [hg, ← finish_at ho]; simp [stepG.apply, hr])
theorem act_steps (hP : NoCount P) {r : Rec} (hR : RecOk P r) (hM : MR P φ A w) {n : Nat} {t : Tm} {a : Av} (hT : TR φ n t a.tmps) {ops : Array Oper} {i : Nat} {rest : List Nat} {k : List Item} {cs : List Frame} {o : Oper} (ho : ops[i]? = some o)
    (hc : ∀ y ∈ o.op.operands.toList, constOk P y = true) (hw : Region.wanted o (yielded ops a.tmps) = true) {v : Value} {A' : AW} (hv : ActOut P r o t A v A') :
    ∃ φ1 w1 v', MR P φ1 A' w1 ∧ Ext φ A w φ1 A' w1 ∧ VR φ1 v v' ∧ Steps P (lone (a.at (.inRegion ops (i :: rest) :: k)) cs w) (lone ((a.put o.dst v').at (.inRegion ops rest :: k)) cs w1) := by
  rcases hv with hv | ⟨f, args, A1, x2, hv, hq⟩
  · exact val_steps hP hM hT ho hc hw hv
  · have hop := op_ok hP hM (fr := a.at (.inRegion ops (i :: rest) :: k)) hT o hc
    have hg := stepG_oper (P := P) (w := w) (k := k) (cs := cs) (rest := rest) ho hw (.inr (not_defer hv (fun h => by cases h) (fun d B h => by cases h)))
    rw [hv] at hop
    obtain ⟨rfl, args', h3, h4⟩ := hop
    have hcall := call_back hR hM f h4 (a.at (.inRegion ops (i :: rest) :: k)) cs
    rw [hq] at hcall
    obtain ⟨φ1, w1, v', h5, h6, h7, h8⟩ := hcall
    have henter : Steps P (lone (a.at (.inRegion ops (i :: rest) :: k)) cs w) (lone (Frame.enter P f ⟨args'⟩ .normal) (a.at (.inRegion ops (i :: rest) :: k) :: cs) w) := go1 (by rw [hg]; simp [stepG.apply, h3, show (a.at (.inRegion ops (i :: rest) :: k)).todo = .inRegion ops (i :: rest) :: k from rfl])
    refine ⟨φ1, w1, v', h5, h6, h7, Steps.trans henter (by rw [← finish_at ho]; exact h8)⟩
theorem pan_steps (hP : NoCount P) {r : Rec} (hR : RecOk P r) (hM : MR P φ A w) {n : Nat} {t : Tm} {a : Av} (hT : TR φ n t a.tmps) {ops : Array Oper} {i : Nat} {rest : List Nat} {k : List Item} {cs : List Frame} {o : Oper} (ho : ops[i]? = some o)
    (hc : ∀ y ∈ o.op.operands.toList, constOk P y = true) (hw : Region.wanted o (yielded ops a.tmps) = true) {v : Value} {A' : AW} (hv : ActPan P r o t A v A') :
    ∃ φ1 w1 v', MR P φ1 A' w1 ∧ Ext φ A w φ1 A' w1 ∧ VR φ1 v v' ∧ Steps P (lone (a.at (.inRegion ops (i :: rest) :: k)) cs w) (lone (a.pan (.inRegion ops (i :: rest) :: k) v') cs w1) := by
  have hop := op_ok hP hM (fr := a.at (.inRegion ops (i :: rest) :: k)) hT o hc
  rcases hv with hv | ⟨f, args, A1, x2, hv, hq⟩
  · have hg := stepG_oper (P := P) (w := w) (k := k) (cs := cs) (rest := rest) ho hw (.inr (not_defer hv (fun h => by cases h) (fun d B h => by cases h)))
    rw [hv] at hop
    obtain ⟨φ1, w1, h1, h2, v', h3, h4⟩ := hop
    exact ⟨φ1, w1, v', h1, h2, h3, go1 (by rw [hg]; simp [stepG.apply, h4, ← pan_at])⟩
  · have hg := stepG_oper (P := P) (w := w) (k := k) (cs := cs) (rest := rest) ho hw (.inr (not_defer hv (fun h => by cases h) (fun d B h => by cases h)))
    rw [hv] at hop
    obtain ⟨rfl, args', h3, h4⟩ := hop
    have hcall := call_back hR hM f h4 (a.at (.inRegion ops (i :: rest) :: k)) cs
    rw [hq] at hcall
    obtain ⟨φ1, w1, v', h5, h6, h7, h8⟩ := hcall
    have henter : Steps P (lone (a.at (.inRegion ops (i :: rest) :: k)) cs w) (lone (Frame.enter P f ⟨args'⟩ .normal) (a.at (.inRegion ops (i :: rest) :: k) :: cs) w) := go1 (by rw [hg]; simp [stepG.apply, h3, show (a.at (.inRegion ops (i :: rest) :: k)).todo = .inRegion ops (i :: rest) :: k from rfl])
    exact ⟨φ1, w1, v', h5, h6, h7, Steps.trans henter (by rw [← pan_at]; exact h8)⟩
end Go.Sh
