/- Part of a proof by a machine of ones own: see the text with the theorem. -/
import Derived.Test.YtanpablcoimajaaDoorSh37
set_option linter.unusedVariables false
set_option linter.unusedSimpArgs false
namespace Go.Sh
open Go
variable {P : Program} {φ : Inj} {A : AW} {w : World}

section sim
variable {r : Rec} {n lo : Nat} {ops : Array Oper} {ord : List Nat} {M : Nat} {tp : Nat → Tm} {Ap : Nat → AW} {vp : Nat → Value} {φ0 : Inj} {w0 : World} {ds : List Deferred}

theorem ready_mem {listed : Array Bool} {i : Nat} (h : i ∈ Region.ready .any ops listed) : i < ops.size ∧ listed.getD i true = false ∧ ∃ o, ops[i]? = some o ∧ ∀ e ∈ o.after.toList, Region.binds .any e = true → listed.getD e.on false = true := by
  unfold Region.ready at h
  rw [List.mem_filter, List.mem_range] at h
  obtain ⟨h1, h2⟩ := h
  rw [Bool.and_eq_true] at h2
  obtain ⟨h2, h3⟩ := h2
  have ho : ops[i]? = some ops[i] := Array.getElem?_eq_getElem h1
  rw [ho] at h3
  simp only [Option.map_some, Option.getD_some, Array.all_eq_true_iff_forall_mem] at h3
  refine ⟨h1, by simpa using h2, ops[i], ho, fun e he hb => ?_⟩
  have := h3 e (Array.mem_toList_iff.1 he)
  rw [hb] at this
  simpa using this
theorem mem_ready {listed : Array Bool} {i : Nat} {o : Oper} (h1 : ops[i]? = some o) (h2 : listed.getD i true = false) (h3 : ∀ e ∈ o.after.toList, Region.binds .any e = true → listed.getD e.on false = true) : i ∈ Region.ready .any ops listed := by
  unfold Region.ready
  rw [List.mem_filter, List.mem_range]
  refine ⟨(Array.getElem?_eq_some_iff.1 h1).1, ?_⟩
  rw [Bool.and_eq_true, h2, h1]
  simp only [Option.map_some, Option.getD_some, Array.all_eq_true_iff_forall_mem]
  refine ⟨rfl, fun e he => ?_⟩
  cases hb : Region.binds .any e with
  | false => rfl
  | true => rw [h3 e (Array.mem_toList_iff.2 he) hb]; rfl
theorem sim_all (hP : NoCount P) (hR : RecOk P r) (S : StatD P ops.toList (Region.before ops).toList ord) (R : RunD P r n ops.toList (Region.before ops).toList [] ord M tp Ap vp) (hl : (Ap 0).lim ≤ (Ap 0).next) {ex : Ex} {t' : Tm} {A' : AW} (E : EndD P r n ops.toList ord M tp Ap ex t' A')
    (hok : ∀ o ∈ ops.toList, dstOk n o.dst = true) {x : Ctx} {a0 : Av} {cs : List Frame} {k : List Item} :
    ∀ (fuel t : Nat) (listed : Array Bool) (D : List Nat) (q : Nat) (φ : Inj) (w : World) (tS : Tm) (a : Av), SimD P n lo ops ord M tp Ap vp φ0 w0 ds D q φ w tS a → (∀ j, listed.getD j false = decide (j ∈ D)) → listed.size = ops.size → D.Nodup → (∀ j ∈ D, j < ops.size) → D.length + fuel = ops.size →
      CtxR φ x a0.kind a0.roundOf cs → a0.Like a → GoalD P n lo ops Ap φ0 w0 ds ex t' A' x a0 cs k a w (Region.linearise.go .any ops fuel t listed [])
  | 0, t, listed, D, q, φ, w, tS, a, H, hL, hsz, hnd, hsub, hlen, hx, hla => H.end_ S R E (fun j hj => nodup_all hnd hsub (by omega) hj) hx hla
  | fuel + 1, t, listed, D, q, φ, w, tS, a, H, hL, hsz, hnd, hsub, hlen, hx, hla => by
    have hun : ∀ i, i < ops.size → (listed.getD i true = false ↔ i ∉ D) := fun i hi => by
      have h1 : listed.getD i true = listed.getD i false := by
        simp only [Array.getD_eq_getD_getElem?, Array.getElem?_eq_getElem (show i < listed.size by omega), Option.getD_some]
      rw [h1, hL]
      simp
    simp only [Region.linearise.go]
    change GoalD P n lo ops Ap φ0 w0 ds ex t' A' x a0 cs k a w (match (Region.ready .any ops listed)[t % (Region.ready .any ops listed).length]? with
      | some i => Region.linearise.go .any ops fuel (t / (Region.ready .any ops listed).length) (listed.setIfInBounds i true) [i]
      | none => [].reverse)
    cases hi : (Region.ready .any ops listed)[t % (Region.ready .any ops listed).length]? with
    | none =>
      have hnil : Region.ready .any ops listed = [] := by
        cases hr : Region.ready .any ops listed with
        | nil => rfl
        | cons x xs =>
          rw [hr] at hi
          have hlt : t % (x :: xs).length < (x :: xs).length := Nat.mod_lt _ (by simp)
          simp at hi
          simp at hlt
          omega
      refine H.end_ S R E (fun j hj => ?_) hx hla
      have key : ∀ (p j : Nat), ord[p]? = some j → j ∈ D := by
        intro p
        induction p using Nat.strongRecOn with
        | _ p ih =>
          intro j hp
          apply Classical.byContradiction
          intro hjD
          obtain ⟨o, ho⟩ := S.op p j hp
          have ho' : ops[j]? = some o := by rw [← Array.getElem?_toList]; exact ho
          have : j ∈ Region.ready .any ops listed := mem_ready ho' ((hun j (Array.getElem?_eq_some_iff.1 ho').1).2 hjD) fun e he hb => by
            obtain ⟨p', g1, g2⟩ := S.edge p j o e hp ho he hb
            rw [hL]
            exact decide_eq_true (ih p' g1 e.on g2)
          rw [hnil] at this
          cases this
      obtain ⟨p, hp⟩ := S.surj j ops[j] (by rw [Array.getElem?_toList]; exact Array.getElem?_eq_getElem hj)
      exact key p j hp
    | some i =>
      obtain ⟨h1, h2, o, ho, h3⟩ := ready_mem (List.mem_of_getElem? hi)
      have hiD := (hun i h1).1 h2
      simp only []
      rw [linearise_go_acc, List.reverse_singleton, List.singleton_append]
      refine sim_step hP hR S R hl E hok H hx hla ho hiD (fun e he hb => ?_) fun q' φ' w' tS' a' H' hx' hla' => ?_
      · have := h3 e he hb
        rw [hL] at this
        exact of_decide_eq_true this
      · refine sim_all hP hR S R hl E hok fuel _ _ (i :: D) q' φ' w' tS' a' H' (fun j => ?_) (by simpa using hsz) (List.nodup_cons.2 ⟨hiD, hnd⟩) (fun j hj => ?_) (by simp only [List.length_cons]; omega) hx' hla'
        · have hjL := hL j
          simp only [Array.getD_eq_getD_getElem?] at hjL ⊢
          rw [Array.getElem?_setIfInBounds]
          by_cases e : i = j
          · subst e
            rw [if_pos rfl, if_pos (by omega)]
            simp
          · rw [if_neg e, hjL]
            simp [List.mem_cons, Ne.symm e]
        · rcases List.mem_cons.1 hj with h | h
          · exact h ▸ h1
          · exact hsub j h
end sim
theorem draw_step (hm : P.follows .mixedOrders = true) {a : Av} {id : Nat} {ops : Array Oper} {k : List Item} {cs : List Frame} :
    Steps P (lone (a.at (.code (.region id ops true) :: k)) cs w) (lone (a.at (.inRegion ops (Region.linearise .any ops (w.tape w.drawn (.order a.fn id))) :: k)) cs { w with drawn := w.drawn + 1 }) := by
  have e : ∀ t, Region.schedule (P.follows .mixedOrders) ops t = Region.linearise .any ops t := fun t => by simp only [Region.schedule, hm, Bool.true_or, if_true]
  refine go1 ?_
  rw [← e]
  simp [stepG, stepG.exec, Av.at, choose, Sem.run, Question.forced, Question.cut]
/-- regions whose order is open -/
theorem drawn_ok (hP : NoCount P) (hm : P.follows .mixedOrders = true) : DrawnOk P := by
  intro r hR n id ops φ A w lo t ds x a cs k hM hH hlo hx
  show RcOk P n lo φ A w (isPan x) a cs (a.at (.code (.region id ops true) :: k)) k ((drawC P n ops.toList (Region.before ops).toList).val r t ds A x)
  unfold drawC
  simp only
  generalize hord : ordOf P ops.toList (Region.before ops).toList = ord
  cases hd : (drawOk P ops.toList (Region.before ops).toList ord && ops.toList.all (fun o => dstOk n o.dst)) with
  | false => exact trivial
  | true =>
    rw [Bool.and_eq_true] at hd
    have S := stat_of hd.1
    have hok : ∀ o ∈ ops.toList, dstOk n o.dst = true := List.all_eq_true.1 hd.2
    show RcOk P n lo φ A w (isPan x) a cs (a.at (.code (.region id ops true) :: k)) k ((drawS P n ops.toList (Region.before ops).toList [] ord).val r t ds A x)
    cases hq : (drawS P n ops.toList (Region.before ops).toList [] ord).val r t ds A x with
    | fail => exact trivial
    | ok ex t' ds' A' x' =>
      obtain ⟨rfl, rfl, M, tp, Ap, vp, e1, e2, R, E⟩ := drawS_run ord [] t ds A x ex t' ds' A' x' hq
      subst e1 e2
      have hM1 : MR P φ (Ap 0) { w with drawn := w.drawn + 1 } := hM.drawn _
      have hE1 : Ext φ (Ap 0) w φ (Ap 0) { w with drawn := w.drawn + 1 } := Ext.drawn w _
      have hH1 : Held φ { w with drawn := w.drawn + 1 } n lo (tp 0) ds' a := hH.ext hE1
      have Hm : MidD P ops ord M tp Ap φ { w with drawn := w.drawn + 1 } [] 0 φ { w with drawn := w.drawn + 1 } :=
        ⟨Nat.zero_le _, fun p i o h => absurd h (Nat.not_lt_zero _), hM1, Ext.refl _ _ _, fun p p' h1 h2 => by rw [Nat.le_zero.1 h2, Nat.le_zero.1 (Nat.le_trans h1 h2)]; exact Nat.le_refl _, fun p i o bk f h => absurd h (Nat.not_lt_zero _)⟩
      have hend : M = ord.length ∨ ∃ i o, ord[M]? = some i ∧ ops.toList[i]? = some o ∧ isAct P o.op = true := E.imp (fun h => h.2.1) fun ⟨v, i, o, _, g1, g2, _, g3, _⟩ => ⟨i, o, g1, g2, g3⟩
      obtain ⟨q', H⟩ := SimD.at_ S R hM.lim hend Hm (fun i o e h => by cases h) (fun i p h => by cases h) hH1 (fun p i o d _ _ h => by cases h) (fun d _ => rfl)
      obtain ⟨φ', w', a', fr', g1, g2, g3, g4, g5, g6, g7⟩ := sim_all hP hR S R hM.lim E hok (cs := cs) (k := k) ops.size (w.tape w.drawn (.order a.fn id)) (Array.replicate ops.size false) [] q' φ _ (tp 0) a H
        (fun j => by simp only [Array.getD_eq_getD_getElem?, Array.getElem?_replicate, List.not_mem_nil, decide_false]; split <;> rfl) (by simp) List.nodup_nil (fun j hj => by cases hj) (by simp) (hx.mono hE1.le) (.refl _)
      exact ⟨φ', w', a', cs, fr', g1, hE1.trans g2, g3, g4, g5, ⟨.same _ _, rfl⟩, g6, (draw_step hm).trans g7⟩
end Go.Sh
