/- Part of a proof by a machine of ones own: see the text with the theorem. -/
import Derived.Test.YtanpablcoimajaaDoorSh34
set_option linter.unusedVariables false
set_option linter.unusedSimpArgs false
namespace Go.Sh
open Go
variable {P : Program} {φ : Inj} {A : AW} {w : World}

section sim
variable {r : Rec} {n lo : Nat} {ops : Array Oper} {ord : List Nat} {M : Nat} {tp : Nat → Tm} {Ap : Nat → AW} {vp : Nat → Value} {φ0 : Inj} {w0 : World} {ds : List Deferred} {D : List Nat} {q : Nat}

/-- memory at a place of the run, when some operations are done -/
structure MidD (P : Program) (ops : Array Oper) (ord : List Nat) (M : Nat) (tp : Nat → Tm) (Ap : Nat → AW) (φ0 : Inj) (w0 : World) (D : List Nat) (q : Nat) (φ : Inj) (w : World) : Prop where
  hq : q ≤ M
  acts : ∀ (p i : Nat) (o : Oper), p < q → ord[p]? = some i → ops.toList[i]? = some o → isAct P o.op = true → i ∈ D
  mr : MR P φ (Ap q) w
  ext : Ext φ0 (Ap 0) w0 φ (Ap q) w
  mono : ∀ p p' : Nat, p ≤ p' → p' ≤ q → (Ap p).next ≤ (Ap p').next
  pool : ∀ (p i : Nat) (o : Oper) (bk : AObj) (f : Nat → Value), p < q → ord[p]? = some i → ops.toList[i]? = some o → i ∉ D → (guardS ops.toList o.guard).val (tp p) = some true → kindOf P o.op = 3 →
    (∀ B, (opS P o.type o.op).val (tp p) B = newR B bk f) → (Ap p).next < (Ap q).next ∧ φ (Ap p).next = none ∧ (Ap q).heap.get (Ap p).next = some bk
theorem newR_inj {bk bk' : AObj} {f f' : Nat → Value} (h : newR A bk f = newR A bk' f') : bk = bk' := by
  unfold newR at h
  injection h with _ h
  have := congrArg (fun B => B.heap.get A.next) h
  simp only [get_add, if_true] at this
  exact Option.some.inj this
theorem MidD.step (R : RunD P r n ops.toList (Region.before ops).toList [] ord M tp Ap vp) (hl : (Ap 0).lim ≤ (Ap 0).next) (H : MidD P ops ord M tp Ap φ0 w0 D q φ w) (hq : q < M) {i : Nat} {o : Oper} (hi : ord[q]? = some i) (ho : ops.toList[i]? = some o) (hn : isAct P o.op = false) :
    MidD P ops ord M tp Ap φ0 w0 D (q + 1) φ w := by
  have hacts : ∀ (p i : Nat) (o : Oper), p < q + 1 → ord[p]? = some i → ops.toList[i]? = some o → isAct P o.op = true → i ∈ D := fun p i' o' hp hi' ho' ha => by
    by_cases e : p = q
    · subst e
      rw [hi] at hi'; cases hi'
      rw [ho] at ho'; cases ho'
      rw [hn] at ha; cases ha
    · exact H.acts p i' o' (by omega) hi' ho' ha
  obtain ⟨_, hs⟩ := R.quiet hq hi ho hn
  have same : Ap (q + 1) = Ap q → ¬ ((guardS ops.toList o.guard).val (tp q) = some true ∧ kindOf P o.op = 3) → MidD P ops ord M tp Ap φ0 w0 D (q + 1) φ w := fun e hne => by
    refine ⟨hq, hacts, e ▸ H.mr, e ▸ H.ext, fun p p' h1 h2 => ?_, fun p i' o' bk f hp hi' ho' hD hg hk hB => ?_⟩
    · by_cases e1 : p' = q + 1
      · subst e1
        by_cases e2 : p = q + 1
        · rw [e2]; exact Nat.le_refl _
        · rw [e]; exact H.mono p q (by omega) (Nat.le_refl _)
      · exact H.mono p p' h1 (by omega)
    · by_cases e1 : p = q
      · subst e1
        rw [hi] at hi'; cases hi'
        rw [ho] at ho'; cases ho'
        exact absurd ⟨hg, hk⟩ hne
      · rw [e]; exact H.pool p i' o' bk f (by omega) hi' ho' hD hg hk hB
  rcases hs with ⟨h1, _, h2⟩ | ⟨h1, h2, ⟨h3, h4⟩ | ⟨h3, bk0, f0, hB0, h4⟩⟩
  · exact same h2 fun h => by rw [h1] at h; cases h.1
  · exact same h4 fun h => h3 h.2
  · refine ⟨hq, hacts, h4 ▸ H.mr.more bk0, h4 ▸ H.ext.more hl bk0, fun p p' g1 g2 => ?_, fun p i' o' bk f hp hi' ho' hD hg hk hB => ?_⟩
    · by_cases e1 : p' = q + 1
      · subst e1
        by_cases e2 : p = q + 1
        · rw [e2]; exact Nat.le_refl _
        · rw [h4]; exact Nat.le_trans (H.mono p q (by omega) (Nat.le_refl _)) (Nat.le_succ _)
      · exact H.mono p p' g1 (by omega)
    · rw [h4]
      by_cases e1 : p = q
      · subst e1
        rw [hi] at hi'; cases hi'
        rw [ho] at ho'; cases ho'
        have : bk0 = bk := newR_inj ((hB0 (Ap p)).symm.trans (hB (Ap p)))
        subst this
        exact ⟨Nat.lt_succ_self _, H.mr.fresh _ (Nat.le_refl _), by rw [get_add, if_pos rfl]⟩
      · obtain ⟨g1, g2, g3⟩ := H.pool p i' o' bk f (by omega) hi' ho' hD hg hk hB
        exact ⟨Nat.lt_succ_of_lt g1, g2, by rw [get_add, if_neg (by omega)]; exact g3⟩
/-- on to the next place where something acts -/
theorem MidD.next (S : StatD P ops.toList (Region.before ops).toList ord) (R : RunD P r n ops.toList (Region.before ops).toList [] ord M tp Ap vp) (hl : (Ap 0).lim ≤ (Ap 0).next) : ∀ (k q : Nat), M - q = k → MidD P ops ord M tp Ap φ0 w0 D q φ w →
    ∃ q', q ≤ q' ∧ MidD P ops ord M tp Ap φ0 w0 D q' φ w ∧ (q' = M ∨ ∃ i o, ord[q']? = some i ∧ ops.toList[i]? = some o ∧ isAct P o.op = true)
  | 0, q, hk, H => ⟨q, Nat.le_refl _, H, .inl (by have := H.hq; omega)⟩
  | k + 1, q, hk, H => by
    have hlt : q < ord.length := Nat.lt_of_lt_of_le (by omega) R.le
    obtain ⟨o, ho⟩ := S.op q ord[q] (List.getElem?_eq_getElem hlt)
    cases ha : isAct P o.op with
    | true => exact ⟨q, Nat.le_refl _, H, .inr ⟨_, o, List.getElem?_eq_getElem hlt, ho, ha⟩⟩
    | false =>
      obtain ⟨q', h1, h2, h3⟩ := MidD.next S R hl k (q + 1) (by omega) (H.step R hl (by omega) (List.getElem?_eq_getElem hlt) ho ha)
      exact ⟨q', by omega, h2, h3⟩

/-- what is done, with all that is before it -/
def ClosedD (ops : Array Oper) (D : List Nat) : Prop := ∀ (i : Nat) (o : Oper) (e : Edge), i ∈ D → ops.toList[i]? = some o → e ∈ o.after.toList → Region.binds .any e = true → e.on ∈ D
theorem ClosedD.bits (S : StatD P ops.toList (Region.before ops).toList ord) (h : ClosedD ops D) : ∀ (p i j : Nat), ord[p]? = some i → i ∈ D → bitOf (Region.before ops).toList i j = true → j ∈ D := by
  intro p
  induction p using Nat.strongRecOn with
  | _ p ih =>
    intro i j hp hi hb
    obtain ⟨o, e, g1, g2, g3, g4⟩ := bit_edge hb
    have hon := h i o e hi g1 g2 g3
    obtain ⟨p', g5, g6⟩ := S.edge p i o e hp g1 g2 g3
    rcases g4 with g4 | g4
    · exact g4 ▸ hon
    · exact ih p' g5 e.on j g6 hon g4
theorem ClosedD.bits' (S : StatD P ops.toList (Region.before ops).toList ord) (h : ClosedD ops D) {i j : Nat} (hi : i ∈ D) (hb : bitOf (Region.before ops).toList i j = true) : j ∈ D := by
  obtain ⟨o, e, g1, _⟩ := bit_edge hb
  obtain ⟨p, hp⟩ := S.surj i o g1
  exact h.bits S p i j hp hi hb
/-- what is read looks at nothing that is set later -/
theorem clean_agree (S : StatD P ops.toList (Region.before ops).toList ord) (R : RunD P r n ops.toList (Region.before ops).toList [] ord M tp Ap vp) {p i : Nat} {o : Oper} (hp : ord[p]? = some i) (ho : ops.toList[i]? = some o) (hk : kindOf P o.op = 1) (h1 : p ≤ q) (h2 : q ≤ M)
    (d : Tmp) (hd : looks ops.toList o d = true) : tget (tp q) d = tget (tp p) d := by
  by_cases hw : ∃ (j : Nat) (oj : Oper), ops.toList[j]? = some oj ∧ oj.dst = some d
  · obtain ⟨j, oj, hj, hjd⟩ := hw
    by_cases e : j = i
    · subst e
      rw [ho] at hj; cases hj
      rw [S.self _ _ _ ho hjd hk] at hd; cases hd
    · obtain ⟨pj, g1, g2⟩ := S.line p i j hp (S.clean j i oj o d hj ho e hjd hd hk)
      rw [R.tp_some S g2 hj hjd q h2 (by omega), R.tp_some S g2 hj hjd p (by omega) g1]
  · have hno : ∀ (p i : Nat) (o : Oper), ord[p]? = some i → ops.toList[i]? = some o → o.dst ≠ some d := fun p i o _ ho hd => hw ⟨i, o, ho, hd⟩
    rw [R.tp_none q h2 fun p i o _ => hno p i o, R.tp_none p (by omega) fun p i o _ => hno p i o]
/-- where nothing acts, and no block is laid, memory is the same -/
theorem RunD.still (S : StatD P ops.toList (Region.before ops).toList ord) (R : RunD P r n ops.toList (Region.before ops).toList [] ord M tp Ap vp) {p : Nat} : ∀ q : Nat, p ≤ q → q ≤ M → (∀ (s j : Nat) (oj : Oper), p ≤ s → s < q → ord[s]? = some j → ops.toList[j]? = some oj → kindOf P oj.op < 2) → Ap q = Ap p
  | 0, h, _, _ => by rw [Nat.le_zero.1 h]
  | q + 1, h, hM, hs => by
    by_cases e : p = q + 1
    · rw [e]
    · have hlt : q < ord.length := Nat.lt_of_lt_of_le (by omega) R.le
      obtain ⟨o, ho⟩ := S.op q ord[q] (List.getElem?_eq_getElem hlt)
      have hk := hs q ord[q] o (by omega) (Nat.lt_succ_self _) (List.getElem?_eq_getElem hlt) ho
      have hn : isAct P o.op = false := by
        cases ha : isAct P o.op with
        | false => rfl
        | true => have := isAct_iff.1 ha; omega
      have ih := R.still S q (by omega) (by omega) fun s j oj h1 h2 => hs s j oj h1 (by omega)
      obtain ⟨_, hst⟩ := R.quiet (by omega) (List.getElem?_eq_getElem hlt) ho hn
      rcases hst with ⟨_, _, h2⟩ | ⟨_, _, ⟨_, h2⟩ | ⟨h2, _⟩⟩
      · rw [h2, ih]
      · rw [h2, ih]
      · omega
/-- what may be read later, reads the same then -/
theorem reads_at (S : StatD P ops.toList (Region.before ops).toList ord) (R : RunD P r n ops.toList (Region.before ops).toList [] ord M tp Ap vp) (hq : q ≤ M) (hstop : q = ord.length ∨ ∃ i o, ord[q]? = some i ∧ ops.toList[i]? = some o ∧ isAct P o.op = true)
    (hacts : ∀ (p i : Nat) (o : Oper), p < q → ord[p]? = some i → ops.toList[i]? = some o → isAct P o.op = true → i ∈ D) (hcl : ClosedD ops D)
    {p i : Nat} {o : Oper} (hpq : p < q) (hp : ord[p]? = some i) (ho : ops.toList[i]? = some o) (hD : i ∉ D) (hg : (guardS ops.toList o.guard).val (tp p) = some true) (hk : kindOf P o.op = 1) :
    (opS P o.type o.op).val (tp p) (Ap q) = .val (vp p) (Ap q) := by
  have hn : isAct P o.op = false := by
    cases ha : isAct P o.op with
    | false => rfl
    | true => have := isAct_iff.1 ha; omega
  obtain ⟨hok, hs⟩ := R.quiet (by omega) hp ho hn
  have hs' : (opS P o.type o.op).val (tp p) (Ap p) = .val (vp p) (Ap (p + 1)) ∧ Ap (p + 1) = Ap p := by
    rcases hs with ⟨h1, _⟩ | ⟨_, h2, ⟨_, h3⟩ | ⟨h3, _⟩⟩
    · rw [h1] at hg; cases hg
    · exact ⟨h2, h3⟩
    · omega
  by_cases hdirty : ∃ (s j : Nat) (oj : Oper), p < s ∧ s < q ∧ ord[s]? = some j ∧ ops.toList[j]? = some oj ∧ 2 ≤ kindOf P oj.op
  · obtain ⟨s, j, oj, g1, g2, g3, g4, g5⟩ := hdirty
    have hag := R.again q hq hstop
    have hmem : i ∈ againAt P ops.toList (Region.before ops).toList ((ord.take q).reverse ++ []) false [] := by
      rw [take_parts hp hpq, List.append_assoc]
      refine againAt_mem ho hk _ _ false [] (fun j hj => ?_) (.inr ⟨j, part_mem g1 g2 g3, oj, g4, g5⟩) (fun a ha => by cases ha) fun a ha oa hoa haa => ?_
      · obtain ⟨s, _, _, h3⟩ := mem_part hj
        exact S.op s j h3
      · obtain ⟨s, h1, h2, h3⟩ := mem_part ha
        have hin := hacts s a oa h2 h3 hoa haa
        cases hb : bitOf (Region.before ops).toList a i with
        | false => rfl
        | true => exact absurd (hcl.bits S s a i h3 hin hb) hD
    have hre := againAll_mem hag i hmem
    have hagree := clean_agree S R hp ho hk (Nat.le_of_lt hpq) hq
    have hg' : (guardS ops.toList o.guard).val (tp q) = some true := by rw [guardS_congr hagree]; exact hg
    obtain ⟨d, hd, hv⟩ := readAgain_some ho hk hre hg'
    rw [R.tp_some S hp ho hd q hq hpq] at hv
    rw [← opS_congr o.type o.op (Ap q) (same_of hagree)]
    exact hv
  · have e : Ap q = Ap (p + 1) := R.still S q (by omega) hq fun s j oj h1 h2 h3 h4 => by
      apply Classical.byContradiction
      intro h
      exact hdirty ⟨s, j, oj, by omega, h2, h3, h4, by omega⟩
    rw [e, hs'.2] at *
    exact hs'.1
end sim
end Go.Sh
