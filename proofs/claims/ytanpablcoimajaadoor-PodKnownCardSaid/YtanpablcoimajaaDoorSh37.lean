/- Part of a proof by a machine of ones own: see the text with the theorem. -/
import Derived.Test.YtanpablcoimajaaDoorSh36
set_option linter.unusedVariables false
set_option linter.unusedSimpArgs false
namespace Go.Sh
open Go
variable {P : Program} {φ : Inj} {A : AW} {w : World}

section sim
variable {r : Rec} {n lo : Nat} {ops : Array Oper} {ord : List Nat} {M : Nat} {tp : Nat → Tm} {Ap : Nat → AW} {vp : Nat → Value} {φ0 : Inj} {w0 : World} {ds : List Deferred} {D : List Nat} {q : Nat} {tS : Tm} {a : Av}

theorem junkAll_get {n : Nat} (d : Tmp) : ∀ (l : List Oper) (t : Tm), (∀ o ∈ l, dstOk n o.dst = true) → tget (junkAll l t) d = if l.any (fun o => isDst d o.dst) = true then junk else tget t d
  | [], t, _ => by simp [junkAll]
  | o :: l, t, h => by
    have ho := h o (List.mem_cons_self ..)
    have ih := junkAll_get d l (match o.dst with | some d => (setS 16 d).val junk t | none => t) fun o' ho' => h o' (List.mem_cons_of_mem _ ho')
    show tget (junkAll l (match o.dst with | some d => (setS 16 d).val junk t | none => t)) d = _
    rw [ih]
    have e : tget (match o.dst with | some d => (setS 16 d).val junk t | none => t) d = if isDst d o.dst = true then junk else tget t d := by
      have := tget_put ho junk t d
      cases hd : o.dst with
      | none => simp [isDst]
      | some x =>
        rw [hd] at this
        show tget ((putDst (some x)).val junk t) d = _
        rw [this]
        by_cases hx : x = d
        · subst hx; rw [if_pos rfl, if_pos (isDst_some.2 rfl)]
        · rw [if_neg (fun h => hx (Option.some.inj h)), if_neg (fun h => hx (Option.some.inj (isDst_some.1 h)))]
    rw [e]
    simp only [List.any_cons, Bool.or_eq_true]
    by_cases h1 : l.any (fun o => isDst d o.dst) = true
    · rw [if_pos h1, if_pos (.inr h1)]
    · rw [if_neg h1]
      by_cases h2 : isDst d o.dst = true
      · rw [if_pos h2, if_pos (.inl h2)]
      · rw [if_neg h2, if_neg (fun h => h.elim h2 h1)]

/-- what is to be shown of a region that is under way -/
def GoalD (P : Program) (n lo : Nat) (ops : Array Oper) (Ap : Nat → AW) (φ0 : Inj) (w0 : World) (ds : List Deferred) (ex : Ex) (t' : Tm) (A' : AW) (x : Ctx) (a0 : Av) (cs : List Frame) (k : List Item) (a : Av) (w : World) (rest : List Nat) : Prop :=
  ∃ φ' w' a' fr', MR P φ' A' w' ∧ Ext φ0 (Ap 0) w0 φ' A' w' ∧ HeldX ex φ' w' n lo t' ds a' ∧ a0.Like a' ∧ CtxR φ' x a0.kind a0.roundOf cs ∧ Where a' k ex φ' fr' ∧ Steps P (lone (a.at (.inRegion ops rest :: k)) cs w) (lone fr' cs w')
theorem GoalD.steps {ex : Ex} {t' : Tm} {A' : AW} {x : Ctx} {a0 a a1 : Av} {cs : List Frame} {k : List Item} {w1 : World} {rest rest1 : List Nat} (h : Steps P (lone (a.at (.inRegion ops rest :: k)) cs w) (lone (a1.at (.inRegion ops rest1 :: k)) cs w1))
    (g : GoalD P n lo ops Ap φ0 w0 ds ex t' A' x a0 cs k a1 w1 rest1) : GoalD P n lo ops Ap φ0 w0 ds ex t' A' x a0 cs k a w rest := by
  obtain ⟨φ', w', a', fr', h1, h2, h3, h4, h5, h6, h7⟩ := g
  exact ⟨φ', w', a', fr', h1, h2, h3, h4, h5, h6, h.trans h7⟩
/-- all is done -/
theorem SimD.end_ (S : StatD P ops.toList (Region.before ops).toList ord) (R : RunD P r n ops.toList (Region.before ops).toList [] ord M tp Ap vp) {ex : Ex} {t' : Tm} {A' : AW} (E : EndD P r n ops.toList ord M tp Ap ex t' A')
    (H : SimD P n lo ops ord M tp Ap vp φ0 w0 ds D q φ w tS a) (hall : ∀ j, j < ops.size → j ∈ D) {x : Ctx} {a0 : Av} {cs : List Frame} {k : List Item} (hx : CtxR φ x a0.kind a0.roundOf cs) (hl : a0.Like a) :
    GoalD P n lo ops Ap φ0 w0 ds ex t' A' x a0 cs k a w [] := by
  have hlt : ∀ (i : Nat) (o : Oper), ops.toList[i]? = some o → i < ops.size := fun i o h => by simpa using (List.getElem?_eq_some_iff.1 h).1
  have hq : q = M ∧ M = ord.length := by
    rcases H.stop with h | ⟨i, o, g1, g2, g3, g4⟩
    · exact h
    · exact absurd (hall i (hlt i o g2)) g4
  obtain ⟨hq1, hq2⟩ := hq
  rcases E with ⟨rfl, _, rfl, rfl⟩ | ⟨v, i, o, _, hM, _⟩
  · have e : ∀ d : Tmp, tget tS d = tget (tp M) d := fun d => by
      by_cases hw : ∃ (j : Nat) (oj : Oper), ops.toList[j]? = some oj ∧ oj.dst = some d
      · obtain ⟨j, oj, hj, hjd⟩ := hw
        obtain ⟨p, hp⟩ := S.surj j oj hj
        have hpl : p < ord.length := (List.getElem?_eq_some_iff.1 hp).1
        rw [H.some_ p j oj d hp hj (hall j (hlt j oj hj)) hjd, R.tp_some S hp hj hjd M (Nat.le_refl _) (by omega)]
      · rw [H.none_ d fun i' o' _ h2 h3 => hw ⟨i', o', h2, h3⟩, R.tp_none M (Nat.le_refl _) fun p' i' o' _ _ h3 h4 => hw ⟨i', o', h3, h4⟩]
    refine ⟨φ, w, a, a.at k, hq1 ▸ H.mid.mr, hq1 ▸ H.mid.ext, ?_, hl, hx, rfl, step_region_end'⟩
    exact ⟨⟨H.held.tmps.1, fun d => by rw [← e d]; exact H.held.tmps.2 d⟩, H.held.defers⟩
  · rw [hq2, List.getElem?_eq_none (Nat.le_refl _)] at hM
    cases hM
/-- an operation that is ready is done -/
theorem sim_step (hP : NoCount P) (hR : RecOk P r) (S : StatD P ops.toList (Region.before ops).toList ord) (R : RunD P r n ops.toList (Region.before ops).toList [] ord M tp Ap vp) (hl : (Ap 0).lim ≤ (Ap 0).next) {ex : Ex} {t' : Tm} {A' : AW} (E : EndD P r n ops.toList ord M tp Ap ex t' A')
    (hok : ∀ o ∈ ops.toList, dstOk n o.dst = true) (H : SimD P n lo ops ord M tp Ap vp φ0 w0 ds D q φ w tS a) {x : Ctx} {a0 : Av} {cs : List Frame} {k : List Item} (hx : CtxR φ x a0.kind a0.roundOf cs) (hla : a0.Like a)
    {i : Nat} {o : Oper} {rest : List Nat} (ho : ops[i]? = some o) (hi : i ∉ D) (hpre : ∀ e ∈ o.after.toList, Region.binds .any e = true → e.on ∈ D)
    (next : ∀ (q' : Nat) (φ' : Inj) (w' : World) (tS' : Tm) (a' : Av), SimD P n lo ops ord M tp Ap vp φ0 w0 ds (i :: D) q' φ' w' tS' a' → CtxR φ' x a0.kind a0.roundOf cs → a0.Like a' → GoalD P n lo ops Ap φ0 w0 ds ex t' A' x a0 cs k a' w' rest) :
    GoalD P n lo ops Ap φ0 w0 ds ex t' A' x a0 cs k a w (i :: rest) := by
  have ho' : ops.toList[i]? = some o := by rw [Array.getElem?_toList]; exact ho
  have hend : M = ord.length ∨ ∃ i o, ord[M]? = some i ∧ ops.toList[i]? = some o ∧ isAct P o.op = true := E.imp (fun h => h.2.1) fun ⟨v, i, o, _, g1, g2, _, g3, _⟩ => ⟨i, o, g1, g2, g3⟩
  obtain ⟨p, hp⟩ := S.surj i o ho'
  have hpl : p < ord.length := (List.getElem?_eq_some_iff.1 hp).1
  have hbits : ∀ j, bitOf (Region.before ops).toList i j = true → j ∈ D := fun j hb => by
    obtain ⟨o', e, g1, g2, g3, g4⟩ := bit_edge hb
    rw [ho'] at g1; cases g1
    rcases g4 with g4 | g4
    · exact g4 ▸ hpre e g2 g3
    · exact H.closed.bits' S (hpre e g2 g3) g4
  -- it is not behind the next one that acts
  have hpq : p ≤ q := by
    rcases H.stop with ⟨h1, h2⟩ | ⟨iq, oq, g1, g2, g3, g4⟩
    · omega
    · apply Classical.byContradiction
      intro hgt
      have hne : i ≠ iq := fun e => by
        have := S.inj p q i hp (e ▸ g1)
        omega
      cases ha : isAct P o.op with
      | false => exact g4 (hbits iq (S.asap p i o q iq oq hp ho' ha (by omega) g1 g2 g3))
      | true =>
        rcases S.acts i iq o oq ho' g2 hne ha g3 with hb | hb
        · exact g4 (hbits iq hb)
        · obtain ⟨p', g5, g6⟩ := S.line q iq i g1 hb
          have := S.inj p p' i hp g6
          omega
  have hag := H.agree S R hp ho' hi hpq hbits
  by_cases hlt : p < q
  · -- it does not act
    have hn : isAct P o.op = false := by
      cases ha : isAct P o.op with
      | false => rfl
      | true => exact absurd (H.mid.acts p i o hlt hp ho' ha) hi
    obtain ⟨hok1, hs⟩ := R.quiet (Nat.lt_of_lt_of_le hlt H.mid.hq) hp ho' hn
    have hc := (operOk_some hok1).2
    rcases hs with ⟨h1, h2, h3⟩ | ⟨h1, h2, h3⟩
    · have hw := guardS_ok H.held.tmps (by rw [guardS_congr hag]; exact h1)
      refine GoalD.steps (step_skipped ho hw) (next q φ w _ _ (H.done S R hp hlt ho' hi hok1 hpre H.mid.mr H.mid.ext H.held (v' := undef) (by rw [h2]; exact undef_VR) fun x _ hx => .inl hx) hx (hla.trans (a.like_put _ _)))
    · have hw := guardS_ok H.held.tmps (by rw [guardS_congr hag]; exact h1)
      rcases h3 with ⟨h3, h4⟩ | ⟨h3, bk, f, hB, h4⟩
      · have hv : (opS P o.type o.op).val tS (Ap q) = .val (vp p) (Ap q) := by
          rw [opS_congr o.type o.op (Ap q) (same_of hag)]
          rcases kind_le (P := P) o.op with h0 | h0 | h0 | h0
          · exact (quiet_op h0 o.type (tp p) (Ap p) (Ap q) _ _ h2).2
          · exact H.reads p i o hlt hp ho' hi h1 h0
          · rw [isAct_iff.2 h0] at hn; cases hn
          · exact absurd h0 h3
        obtain ⟨φ1, w1, v', g1, g2, g3, g4⟩ := val_steps hP H.mid.mr H.held.tmps ho hc hw hv (rest := rest) (k := k) (cs := cs)
        exact GoalD.steps g4 (next q φ1 w1 _ _ (H.done S R hp hlt ho' hi hok1 hpre g1 (H.mid.ext.trans g2) (H.held.ext g2) g3 fun x hx hn => .inl (g2.idle x hx hn).2) (hx.mono g2.le) (hla.trans (a.like_put _ _)))
      · obtain ⟨k1, k2, k3⟩ := H.mid.pool p i o bk f hlt hp ho' hi h1 h3 hB
        have hv0 : (opS P o.type o.op).val tS (Ap q) = newR (Ap q) bk f := by rw [opS_congr o.type o.op (Ap q) (same_of hag)]; exact hB _
        obtain ⟨bk', f', hB', oc, n1, s1, v', m1, m2, m3⟩ := new_op (P := P) h3 H.mid.mr (fr := a.at (.inRegion ops (i :: rest) :: k)) H.held.tmps hc hv0
        have e1 : bk' = bk := newR_inj ((hB' (Ap q)).symm.trans hv0)
        subst e1
        have e2 : f' (Ap p).next = vp p := by
          have h5 := hB' (Ap p)
          rw [opS_congr o.type o.op (Ap p) (same_of hag), h2] at h5
          unfold newR at h5
          injection h5 with h5
          exact h5.symm
        have hMp := H.mid.mr.place k2 k1 k3 m1
        have h0p : (Ap 0).next ≤ (Ap p).next := H.mid.mono 0 p (Nat.zero_le _) (Nat.le_of_lt hlt)
        have hEp := H.mid.ext.place hl k2 h0p oc n1 s1
        have hle : φ.le (φ.add (Ap p).next (.at_ w.heap.size n1 s1 0)) := Inj.le_add k2
        have hH' : Held (φ.add (Ap p).next (.at_ w.heap.size n1 s1 0)) (w.alloc oc) n lo tS ds a := by
          obtain ⟨q1, rs, q2, q3, q4, q5⟩ := H.held
          refine ⟨q1.mono hle, rs, q2.mono hle, q3, fun r hr => ⟨(q4 r hr).1, fun b n s d hb => ?_, ?_⟩, q5⟩
          · unfold Inj.add at hb
            split at hb
            · injection hb with hb
              injection hb with hb
              have := lt_of_heap (q4 r hr).2.2
              omega
            · exact (q4 r hr).2.1 b n s d hb
          · rw [push_old w oc (lt_of_heap (q4 r hr).2.2)]
            exact (q4 r hr).2.2
        refine GoalD.steps (new_steps ho hw (fun c hc' => by rw [hc'] at h3; cases h3) m2) (next q _ _ _ _ (H.done S R hp hlt ho' hi hok1 hpre hMp hEp hH' (v' := v') (by rw [← e2]; exact m3 _ _ (by simp [Inj.add])) fun x hx hn => ?_) (hx.mono hle) (hla.trans (a.like_put _ _)))
        by_cases e : x = (Ap p).next
        · exact .inr ⟨e, by rw [h4]; exact Nat.lt_succ_self _⟩
        · exact .inl (by unfold Inj.add; rw [if_neg e]; exact hn)
  · -- it is the next one that acts
    have epq : p = q := by omega
    subst epq
    rcases H.stop with ⟨h1, h2⟩ | ⟨iq, oq, g1, g2, g3, g4⟩
    · omega
    · rw [hp] at g1; cases g1
      rw [ho'] at g2; cases g2
      by_cases hM : p < M
      · obtain ⟨i', o', e1, e2, hok1, hst, _⟩ := R.step p hM
        rw [hp] at e1; cases e1
        rw [ho'] at e2; cases e2
        have hc := (operOk_some hok1).2
        generalize hA : Ap (p + 1) = A1 at hst
        generalize hv : vp p = v at hst
        cases hst with
        | off h1 =>
          have hw := guardS_ok H.held.tmps (by rw [guardS_congr hag]; exact h1)
          obtain ⟨q', hq'⟩ := H.acted S R hl hend hM hp ho' hok1 hpre (φ' := φ) (w' := w) (v' := undef) (by rw [hA]; exact H.mid.mr) (by rw [hA]; exact Ext.refl _ _ _) (by rw [hv]; exact undef_VR)
          exact GoalD.steps (step_skipped ho hw) (next q' φ w _ _ hq' hx (hla.trans (a.like_put _ _)))
        | quiet _ hk _ => rw [g3] at hk; cases hk
        | act h1 hk hout =>
          have hw := guardS_ok H.held.tmps (by rw [guardS_congr hag]; exact h1)
          have hout' : ActOut P r o tS (Ap p) v A1 := by
            unfold ActOut at hout ⊢
            rw [opS_congr o.type o.op (Ap p) (same_of hag)]
            exact hout
          obtain ⟨φ1, w1, v', m1, m2, m3, m4⟩ := act_steps hP hR H.mid.mr H.held.tmps ho hc hw hout' (rest := rest) (k := k) (cs := cs)
          obtain ⟨q', hq'⟩ := H.acted S R hl hend hM hp ho' hok1 hpre (φ' := φ1) (w' := w1) (v' := v') (by rw [hA]; exact m1) (by rw [hA]; exact m2) (by rw [hv]; exact m3)
          exact GoalD.steps m4 (next q' φ1 w1 _ _ hq' (hx.mono m2.le) (hla.trans (a.like_put _ _)))
      · -- it panics
        have eM : p = M := by have := H.mid.hq; omega
        rcases E with ⟨_, h2, _⟩ | ⟨v, i', o', rfl, e1, e2, hok1, hk, h1, hpan, rfl⟩
        · omega
        · rw [← eM, hp] at e1; cases e1
          rw [ho'] at e2; cases e2
          rw [← eM] at h1 hpan
          have hc := (operOk_some hok1).2
          have hw := guardS_ok H.held.tmps (by rw [guardS_congr hag]; exact h1)
          have hpan' : ActPan P r o tS (Ap p) v A' := by
            unfold ActPan at hpan ⊢
            rw [opS_congr o.type o.op (Ap p) (same_of hag)]
            exact hpan
          obtain ⟨φ1, w1, v', m1, m2, m3, m4⟩ := pan_steps hP hR H.mid.mr H.held.tmps ho hc hw hpan' (rest := rest) (k := k) (cs := cs)
          refine ⟨φ1, w1, a, _, m1, H.mid.ext.trans m2, ⟨fun d => ?_, (H.held.ext m2).defers⟩, hla, hx.mono m2.le, ⟨_, v', rfl, m3, plain_region _ _ _⟩, m4⟩
          rw [junkAll_get (n := n) d _ _ hok]
          by_cases hd : ops.toList.any (fun o => isDst d o.dst) = true
          · rw [if_pos hd]; exact .inl rfl
          · rw [if_neg hd]
            have hno : ∀ (i : Nat) (o : Oper), ops.toList[i]? = some o → o.dst ≠ some d := fun i o h1 h2 => hd (List.any_eq_true.2 ⟨o, List.mem_of_getElem? h1, isDst_some.2 h2⟩)
            rw [R.tp_none M (Nat.le_refl _) fun p' i' o' _ _ h3 => hno i' o' h3, ← H.none_ d fun i' o' _ h2 => hno i' o' h2]
            exact .inr ((H.held.ext m2).tmps.2 d)
end sim
end Go.Sh
