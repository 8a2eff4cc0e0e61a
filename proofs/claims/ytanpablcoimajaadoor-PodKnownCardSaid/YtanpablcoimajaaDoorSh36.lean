/- Part of a proof by a machine of ones own: see the text with the theorem. -/
import Derived.Test.YtanpablcoimajaaDoorSh35
set_option linter.unusedVariables false
set_option linter.unusedSimpArgs false
namespace Go.Sh
open Go
variable {P : Program} {φ : Inj} {A : AW} {w : World}

section sim
variable {r : Rec} {n lo : Nat} {ops : Array Oper} {ord : List Nat} {M : Nat} {tp : Nat → Tm} {Ap : Nat → AW} {vp : Nat → Value} {φ0 : Inj} {w0 : World} {ds : List Deferred} {D : List Nat} {q : Nat} {tS : Tm} {a : Av}

/-- where the program is, when some operations are done -/
structure SimD (P : Program) (n lo : Nat) (ops : Array Oper) (ord : List Nat) (M : Nat) (tp : Nat → Tm) (Ap : Nat → AW) (vp : Nat → Value) (φ0 : Inj) (w0 : World) (ds : List Deferred) (D : List Nat) (q : Nat) (φ : Inj) (w : World) (tS : Tm) (a : Av) : Prop where
  mid : MidD P ops ord M tp Ap φ0 w0 D q φ w
  stop : (q = M ∧ M = ord.length) ∨ ∃ i o, ord[q]? = some i ∧ ops.toList[i]? = some o ∧ isAct P o.op = true ∧ i ∉ D
  closed : ClosedD ops D
  lt : ∀ (i p : Nat), i ∈ D → ord[p]? = some i → p < q
  held : Held φ w n lo tS ds a
  some_ : ∀ (p i : Nat) (o : Oper) (d : Tmp), ord[p]? = some i → ops.toList[i]? = some o → i ∈ D → o.dst = some d → tget tS d = vp p
  none_ : ∀ d : Tmp, (∀ (i : Nat) (o : Oper), i ∈ D → ops.toList[i]? = some o → o.dst ≠ some d) → tget tS d = tget (tp 0) d
  reads : ∀ (p i : Nat) (o : Oper), p < q → ord[p]? = some i → ops.toList[i]? = some o → i ∉ D → (guardS ops.toList o.guard).val (tp p) = some true → kindOf P o.op = 1 → (opS P o.type o.op).val (tp p) (Ap q) = .val (vp p) (Ap q)

/-- what an operation looks at is there, as it is to be -/
theorem SimD.agree (S : StatD P ops.toList (Region.before ops).toList ord) (R : RunD P r n ops.toList (Region.before ops).toList [] ord M tp Ap vp) (H : SimD P n lo ops ord M tp Ap vp φ0 w0 ds D q φ w tS a)
    {p i : Nat} {o : Oper} (hp : ord[p]? = some i) (ho : ops.toList[i]? = some o) (hi : i ∉ D) (hpq : p ≤ q) (hpre : ∀ j, bitOf (Region.before ops).toList i j = true → j ∈ D) (d : Tmp) (hd : looks ops.toList o d = true) : tget tS d = tget (tp p) d := by
  have hM := H.mid.hq
  by_cases hw : ∃ (j : Nat) (oj : Oper), ops.toList[j]? = some oj ∧ oj.dst = some d
  · obtain ⟨j, oj, hj, hjd⟩ := hw
    obtain ⟨pj, hpj⟩ := S.surj j oj hj
    have uniq : ∀ (i' : Nat) (o' : Oper), ops.toList[i']? = some o' → o'.dst = some d → i' = j := fun i' o' h1 h2 => by
      apply Classical.byContradiction
      intro hne
      exact S.dst i' j o' oj d h1 hj hne h2 hjd
    have later : j ∉ D → p ≤ pj → tget tS d = tget (tp p) d := fun hjD hle => by
      rw [H.none_ d fun i' o' h1 h2 h3 => hjD (uniq i' o' h2 h3 ▸ h1)]
      rw [R.tp_none p (by omega) fun p' i' o' h1 h2 h3 h4 => by
        have := uniq i' o' h3 h4
        subst this
        have := S.inj p' pj i' h2 hpj
        omega]
    by_cases e : j = i
    · subst e
      exact later hi (Nat.le_of_eq (S.inj p pj j hp hpj))
    · rcases S.look j i oj o d hj ho e hjd hd with hb | hb
      · -- the one that looks is before the one that sets
        refine later (fun hjD => hi (H.closed.bits' S hjD hb)) ?_
        obtain ⟨p', g1, g2⟩ := S.line pj j i hpj hb
        have := S.inj p p' i hp g2
        omega
      · have hjD := hpre j hb
        obtain ⟨p', g1, g2⟩ := S.line p i j hp hb
        rw [H.some_ p' j oj d g2 hj hjD hjd, R.tp_some S g2 hj hjd p (by omega) g1]
  · rw [H.none_ d fun i' o' _ h2 h3 => hw ⟨i', o', h2, h3⟩, R.tp_none p (by omega) fun p' i' o' _ _ h3 h4 => hw ⟨i', o', h3, h4⟩]
theorem put_dst (S : StatD P ops.toList (Region.before ops).toList ord) {i : Nat} {o : Oper} (ho : ops.toList[i]? = some o) (hdst : dstOk n o.dst = true) {p : Nat} (hp : ord[p]? = some i)
    (hs : ∀ (p i : Nat) (o : Oper) (d : Tmp), ord[p]? = some i → ops.toList[i]? = some o → i ∈ D → o.dst = some d → tget tS d = vp p) :
    ∀ (p' i' : Nat) (o' : Oper) (d : Tmp), ord[p']? = some i' → ops.toList[i']? = some o' → i' ∈ i :: D → o'.dst = some d → tget ((putDst o.dst).val (vp p) tS) d = vp p' := by
  intro p' i' o' d h1 h2 h3 h4
  rw [tget_put hdst]
  by_cases e : i' = i
  · subst e
    rw [ho] at h2; cases h2
    rw [if_pos h4, S.inj p' p i' h1 hp]
  · rw [if_neg (S.dst i' i o' o d h2 ho e h4)]
    rcases List.mem_cons.1 h3 with h3 | h3
    · exact absurd h3 e
    · exact hs p' i' o' d h1 h2 h3 h4
theorem put_none {i : Nat} {o : Oper} (ho : ops.toList[i]? = some o) (hdst : dstOk n o.dst = true) {v : Value} {t0 : Tm}
    (hs : ∀ d : Tmp, (∀ (i : Nat) (o : Oper), i ∈ D → ops.toList[i]? = some o → o.dst ≠ some d) → tget tS d = tget t0 d) :
    ∀ d : Tmp, (∀ (i' : Nat) (o' : Oper), i' ∈ i :: D → ops.toList[i']? = some o' → o'.dst ≠ some d) → tget ((putDst o.dst).val v tS) d = tget t0 d := by
  intro d h
  rw [tget_put hdst, if_neg (h i o (List.mem_cons_self ..) ho)]
  exact hs d fun i' o' h1 => h i' o' (List.mem_cons_of_mem _ h1)
theorem closed_cons {i : Nat} {o : Oper} (ho : ops.toList[i]? = some o) (hpre : ∀ e ∈ o.after.toList, Region.binds .any e = true → e.on ∈ D) (h : ClosedD ops D) : ClosedD ops (i :: D) := fun i' o' e h1 h2 h3 h4 => by
  rcases List.mem_cons.1 h1 with h1 | h1
  · subst h1
    rw [ho] at h2; cases h2
    exact List.mem_cons_of_mem _ (hpre e h3 h4)
  · exact List.mem_cons_of_mem _ (h i' o' e h1 h2 h3 h4)
/-- an operation that does not act is done -/
theorem SimD.done (S : StatD P ops.toList (Region.before ops).toList ord) (R : RunD P r n ops.toList (Region.before ops).toList [] ord M tp Ap vp) (H : SimD P n lo ops ord M tp Ap vp φ0 w0 ds D q φ w tS a)
    {p i : Nat} {o : Oper} (hp : ord[p]? = some i) (hpq : p < q) (ho : ops.toList[i]? = some o) (hi : i ∉ D) (hok : operOk P n o = true) (hpre : ∀ e ∈ o.after.toList, Region.binds .any e = true → e.on ∈ D)
    {φ' : Inj} {w' : World} {v' : Value} (hM : MR P φ' (Ap q) w') (hE : Ext φ0 (Ap 0) w0 φ' (Ap q) w') (hH : Held φ' w' n lo tS ds a) (hv : VR φ' (vp p) v')
    (hφ : ∀ x, x < (Ap q).next → φ x = none → φ' x = none ∨ (x = (Ap p).next ∧ (Ap p).next < (Ap (p + 1)).next)) :
    SimD P n lo ops ord M tp Ap vp φ0 w0 ds (i :: D) q φ' w' ((putDst o.dst).val (vp p) tS) (a.put o.dst v') := by
  have hMq := H.mid.hq
  have hdst := (operOk_some hok).1
  refine ⟨⟨hMq, fun p' i' o' h1 h2 h3 h4 => List.mem_cons_of_mem _ (H.mid.acts p' i' o' h1 h2 h3 h4), hM, hE, H.mid.mono, fun p' i' o' bk f h1 h2 h3 h4 h5 h6 h7 => ?_⟩, ?_, closed_cons ho hpre H.closed, fun i' p' h1 h2 => ?_, hH.put hdst hv, put_dst S ho hdst hp H.some_, put_none ho hdst H.none_, fun p' i' o' h1 h2 h3 h4 => H.reads p' i' o' h1 h2 h3 fun h => h4 (List.mem_cons_of_mem _ h)⟩
  · have h4' : i' ∉ D := fun h => h4 (List.mem_cons_of_mem _ h)
    have hne : i' ≠ i := fun h => h4 (h ▸ List.mem_cons_self ..)
    obtain ⟨g1, g2, g3⟩ := H.mid.pool p' i' o' bk f h1 h2 h3 h4' h5 h6 h7
    refine ⟨g1, ?_, g3⟩
    rcases hφ _ g1 g2 with g | ⟨ge, glt⟩
    · exact g
    · exfalso
      have hn' : isAct P o'.op = false := by
        cases ha : isAct P o'.op with
        | false => rfl
        | true => have := isAct_iff.1 ha; omega
      have hgrow : (Ap p').next < (Ap (p' + 1)).next := by
        obtain ⟨_, hs⟩ := R.quiet (by omega) h2 h3 hn'
        rcases hs with ⟨e1, _⟩ | ⟨_, _, ⟨e1, _⟩ | ⟨_, bk', f', _, e1⟩⟩
        · rw [e1] at h5; cases h5
        · exact absurd h6 e1
        · rw [e1]; exact Nat.lt_succ_self _
      have hpp : p ≠ p' := fun e => hne (by rw [e, h2] at hp; exact Option.some.inj hp)
      rcases Nat.lt_or_ge p p' with h | h
      · have := H.mid.mono (p + 1) p' (by omega) (by omega)
        omega
      · have := H.mid.mono (p' + 1) p (by omega) (by omega)
        omega
  · rcases H.stop with h | ⟨iq, oq, g1, g2, g3, g4⟩
    · exact .inl h
    · refine .inr ⟨iq, oq, g1, g2, g3, fun h => ?_⟩
      rcases List.mem_cons.1 h with h | h
      · have := S.inj q p i (h ▸ g1) hp
        omega
      · exact g4 h
  · rcases List.mem_cons.1 h1 with h | h
    · subst h
      rw [S.inj p' p i' h2 hp]
      exact hpq
    · exact H.lt i' p' h h2
/-- on to the next stop -/
theorem SimD.at_ (S : StatD P ops.toList (Region.before ops).toList ord) (R : RunD P r n ops.toList (Region.before ops).toList [] ord M tp Ap vp) (hl : (Ap 0).lim ≤ (Ap 0).next) (hend : M = ord.length ∨ ∃ i o, ord[M]? = some i ∧ ops.toList[i]? = some o ∧ isAct P o.op = true)
    (Hm : MidD P ops ord M tp Ap φ0 w0 D q φ w) (hcl : ClosedD ops D) (hlt : ∀ (i p : Nat), i ∈ D → ord[p]? = some i → p < q) (hH : Held φ w n lo tS ds a)
    (hs : ∀ (p i : Nat) (o : Oper) (d : Tmp), ord[p]? = some i → ops.toList[i]? = some o → i ∈ D → o.dst = some d → tget tS d = vp p)
    (hn : ∀ d : Tmp, (∀ (i : Nat) (o : Oper), i ∈ D → ops.toList[i]? = some o → o.dst ≠ some d) → tget tS d = tget (tp 0) d) :
    ∃ q', SimD P n lo ops ord M tp Ap vp φ0 w0 ds D q' φ w tS a := by
  obtain ⟨q', h1, h2, h3⟩ := MidD.next S R hl (M - q) q rfl Hm
  have hq' := h2.hq
  have hlt' : ∀ (i p : Nat), i ∈ D → ord[p]? = some i → p < q' := fun i p g1 g2 => Nat.lt_of_lt_of_le (hlt i p g1 g2) h1
  have hstop : (q' = M ∧ M = ord.length) ∨ ∃ i o, ord[q']? = some i ∧ ops.toList[i]? = some o ∧ isAct P o.op = true := by
    rcases h3 with h3 | h3
    · rcases hend with h4 | h4
      · exact .inl ⟨h3, h4⟩
      · exact .inr (h3 ▸ h4)
    · exact .inr h3
  refine ⟨q', h2, ?_, hcl, hlt', hH, hs, hn, fun p i o g1 g2 g3 g4 g5 g6 => ?_⟩
  · rcases hstop with h | ⟨i, o, g1, g2, g3⟩
    · exact .inl h
    · exact .inr ⟨i, o, g1, g2, g3, fun h => Nat.lt_irrefl _ (hlt' i q' h g1)⟩
  · exact reads_at S R hq' (hstop.imp (fun h => h.1.trans h.2) id) h2.acts hcl g1 g2 g3 g4 g5 g6
/-- an operation that acts is done -/
theorem SimD.acted (S : StatD P ops.toList (Region.before ops).toList ord) (R : RunD P r n ops.toList (Region.before ops).toList [] ord M tp Ap vp) (hl : (Ap 0).lim ≤ (Ap 0).next) (hend : M = ord.length ∨ ∃ i o, ord[M]? = some i ∧ ops.toList[i]? = some o ∧ isAct P o.op = true)
    (H : SimD P n lo ops ord M tp Ap vp φ0 w0 ds D q φ w tS a) {i : Nat} {o : Oper} (hq : q < M) (hp : ord[q]? = some i) (ho : ops.toList[i]? = some o) (hok : operOk P n o = true) (hpre : ∀ e ∈ o.after.toList, Region.binds .any e = true → e.on ∈ D)
    {φ' : Inj} {w' : World} {v' : Value} (hM : MR P φ' (Ap (q + 1)) w') (hE : Ext φ (Ap q) w φ' (Ap (q + 1)) w') (hv : VR φ' (vp q) v') :
    ∃ q', SimD P n lo ops ord M tp Ap vp φ0 w0 ds (i :: D) q' φ' w' ((putDst o.dst).val (vp q) tS) (a.put o.dst v') := by
  have hdst := (operOk_some hok).1
  have Hm : MidD P ops ord M tp Ap φ0 w0 (i :: D) (q + 1) φ' w' := by
    refine ⟨hq, fun p' i' o' h1 h2 h3 h4 => ?_, hM, H.mid.ext.trans hE, fun p p' h1 h2 => ?_, fun p' i' o' bk f h1 h2 h3 h4 h5 h6 h7 => ?_⟩
    · by_cases e : p' = q
      · rw [e, hp] at h2
        cases h2
        exact List.mem_cons_self ..
      · exact List.mem_cons_of_mem _ (H.mid.acts p' i' o' (by omega) h2 h3 h4)
    · by_cases e1 : p' = q + 1
      · subst e1
        by_cases e2 : p = q + 1
        · rw [e2]; exact Nat.le_refl _
        · exact Nat.le_trans (H.mid.mono p q (by omega) (Nat.le_refl _)) hE.next
      · exact H.mid.mono p p' h1 (by omega)
    · have h4' : i' ∉ D := fun h => h4 (List.mem_cons_of_mem _ h)
      have hlt : p' < q := by
        by_cases e : p' = q
        · rw [e, hp] at h2
          cases h2
          exact absurd (List.mem_cons_self ..) h4
        · omega
      obtain ⟨g1, g2, g3⟩ := H.mid.pool p' i' o' bk f hlt h2 h3 h4' h5 h6 h7
      obtain ⟨k1, k2⟩ := hE.idle _ g1 g2
      exact ⟨Nat.lt_of_lt_of_le g1 hE.next, k2, k1.trans g3⟩
  refine SimD.at_ S R hl hend Hm (closed_cons ho hpre H.closed) (fun i' p' h1 h2 => ?_) ((H.held.ext hE).put hdst hv) (put_dst S ho hdst hp H.some_) (put_none ho hdst H.none_)
  rcases List.mem_cons.1 h1 with h | h
  · subst h
    rw [S.inj p' q i' h2 hp]
    exact Nat.lt_succ_self _
  · exact Nat.lt_succ_of_lt (H.lt i' p' h h2)
end sim
end Go.Sh
