/- Part of a proof by a machine of ones own: see the text with the theorem. -/
import Derived.Test.YtanpablcoimajaaDoorSh32
set_option linter.unusedVariables false
set_option linter.unusedSimpArgs false
namespace Go.Sh
open Go
variable {P : Program} {φ : Inj} {A : AW} {w : World}

/-! ## Temporaries along a run -/
theorem dst_bound {n : Nat} {d : Tmp} (h : dstOk n (some d) = true) : d < n ∧ n ≤ 60000 := by
  simp only [dstOk, Bool.and_eq_true] at h
  have e1 : d < n := by simpa [Nat.blt_eq] using h.1
  have e2 := h.2
  exact ⟨e1, by first | exact Nat.le_of_ble_eq_true e2 | (have : n < 60000 := by simpa [Nat.blt_eq] using e2; omega)⟩
theorem tget_put {n : Nat} {x : Option Tmp} (h : dstOk n x = true) (v : Value) (t : Tm) (d : Tmp) : tget ((putDst x).val v t) d = if x = some d then v else tget t d := by
  cases x with
  | none => rfl
  | some e =>
    obtain ⟨h1, h2⟩ := dst_bound h
    show tget (tset t e v) d = _
    rw [tget_tset t e v d (Nat.le_trans (Nat.le_of_lt h1) h2)]
    by_cases hd : d = e
    · subst hd; simp
    · rw [if_neg hd, if_neg (fun h => hd (Option.some.inj h).symm)]
theorem isTmp_some {d : Tmp} : isTmp d (.tmp d) = true := Nat.beq_refl d
theorem looks_operand {all : List Oper} {o : Oper} {d : Tmp} (h : Operand.tmp d ∈ o.op.operands.toList) : looks all o d = true := by
  unfold looks
  rw [Bool.or_eq_true]
  exact .inl (List.any_eq_true.2 ⟨_, h, isTmp_some⟩)
theorem same_of {all : List Oper} {o : Oper} {t t' : Tm} (h : ∀ d, looks all o d = true → tget t d = tget t' d) : Same t t' o.op.operands.toList := fun x hx =>
  evS_congr fun d hd => h d (looks_operand (hd ▸ hx))
theorem guardS_congr {all : List Oper} {o : Oper} {t t' : Tm} (h : ∀ d, looks all o d = true → tget t d = tget t' d) : (guardS all o.guard).val t = (guardS all o.guard).val t' := by
  unfold guardS
  cases hg : o.guard with
  | none => rfl
  | some p =>
    simp only
    cases hn : nth all p.1 with
    | none => rfl
    | some q =>
      simp only
      cases hd : q.dst with
      | none => rfl
      | some d =>
        show isB p.2 (tget t d) = isB p.2 (tget t' d)
        rw [h d]
        unfold looks
        rw [hg]
        simp only [hn, hd, Bool.or_eq_true]
        exact .inr (isDst_some.2 rfl)

/-- a new block: what it lays hangs on no memory -/
theorem new_syn {o : Oper} (hk : kindOf P o.op = 3) {t : Tm} {A0 A' : AW} {v : Value} (h : (opS P o.type o.op).val t A0 = .val v A') :
    ∃ b f, ∀ B, (opS P o.type o.op).val t B = newR B b f := by
  obtain ⟨dst, op, type, pos, after, guard⟩ := o
  simp only at hk h ⊢
  cases op with
  | alloc e =>
    have h' : allocA P A0 e = .val v A' := h
    unfold allocA at h'
    cases hz : zeroA P e with
    | none => rw [hz] at h'; cases h'
    | some z => exact ⟨_, _, fun B => by show allocA P B e = _; unfold allocA; rw [hz]⟩
  | box e x => exact ⟨_, _, fun B => rfl⟩
  | buildSlice ty len parts =>
    have h' : buildSliceA P A0 ty len ((evP parts.toList).val t) = .val v A' := h
    show ∃ b f, ∀ B, buildSliceA P B ty len ((evP parts.toList).val t) = newR B b f
    unfold buildSliceA at h' ⊢
    cases he : elemA P ty with
    | none => rw [he] at h'; cases h'
    | some e =>
      rw [he] at h'
      simp only at h' ⊢
      cases hs : szOf P e with
      | none => rw [hs] at h'; cases h'
      | some size =>
        rw [hs] at h'
        simp only at h' ⊢
        cases hz : zeroA P e with
        | none => rw [hz] at h'; cases h'
        | some z =>
          rw [hz] at h'
          simp only at h' ⊢
          cases hb : Nat.ble (len * size) 1000000 with
          | false => rw [hb] at h'; cases h'
          | true =>
            rw [hb] at h'
            simp only [cond_true, rowR] at h' ⊢
            cases hf : fillA (rowAt size) (repl (cellsOf z) len) ((evP parts.toList).val t) with
            | none => rw [hf] at h'; cases h'
            | some cs => exact ⟨_, _, fun B => rfl⟩
  | makeMap ty r => cases r with
    | none => exact ⟨_, _, fun B => rfl⟩
    | some x => cases h
  | makeSlice ty l c =>
    have h' : makeSliceA P A0 ty ((evS l).val t) ((evS c).val t) = .val v A' := h
    show ∃ b f, ∀ B, makeSliceA P B ty ((evS l).val t) ((evS c).val t) = newR B b f
    unfold makeSliceA at h' ⊢
    cases he : elemA P ty with
    | none => rw [he] at h'; cases h'
    | some e =>
      rw [he] at h'
      simp only at h' ⊢
      cases hn : natA ((evS l).val t) with
      | none => rw [hn] at h'; cases h'
      | some n =>
        rw [hn] at h'
        simp only at h' ⊢
        cases hm : natA ((evS c).val t) with
        | none => rw [hm] at h'; cases h'
        | some m =>
          rw [hm] at h'
          simp only [makeSliceB] at h' ⊢
          cases hz : zeroA P e with
          | none => rw [hz] at h'; cases h'
          | some z =>
            rw [hz] at h'
            simp only at h' ⊢
            cases hb : (Nat.ble n m && (Nat.ble m 1000000 && smallT P e)) with
            | false => rw [hb] at h'; cases h'
            | true => exact ⟨_, _, fun B => rfl⟩
  | binOp op ty x y yt => cases op <;> cases hk
  | convert s d x =>
    unfold kindOf at hk
    simp only at hk
    split at hk <;> cases hk
  | call c =>
    obtain ⟨callee, args, ats⟩ := c
    cases callee with
    | builtin b => cases b <;> cases hk
    | _ => cases hk
  | _ => cases hk
theorem kind_le (o : Op) : kindOf P o = 0 ∨ kindOf P o = 1 ∨ kindOf P o = 2 ∨ kindOf P o = 3 := by
  cases o with
  | binOp op _ _ _ _ => cases op <;> simp [kindOf, kindE]
  | convert s d x => unfold kindOf; simp only; split <;> simp
  | call c =>
    obtain ⟨callee, args, ats⟩ := c
    cases callee with
    | builtin b => cases b <;> simp [kindOf, kindB]
    | _ => simp [kindOf]
  | _ => simp [kindOf]
theorem isAct_iff {o : Op} : isAct P o = true ↔ kindOf P o = 2 := ⟨fun h => Nat.eq_of_beq_eq_true h, fun h => by unfold isAct; rw [h]; rfl⟩

section run
variable {r : Rec} {n : Nat} {all : List Oper} {b ord : List Nat} {M : Nat} {tp : Nat → Tm} {Ap : Nat → AW} {vp : Nat → Value}

theorem RunD.tp_some (S : StatD P all b ord) (R : RunD P r n all b [] ord M tp Ap vp) {p i : Nat} {o : Oper} {d : Tmp} (hp : ord[p]? = some i) (ho : all[i]? = some o) (hd : o.dst = some d) : ∀ q : Nat, q ≤ M → p < q → tget (tp q) d = vp p
  | 0, _, h => absurd h (Nat.not_lt_zero _)
  | q + 1, hq, h => by
    obtain ⟨i', o', g1, g2, g3, _, g5⟩ := R.step q (by omega)
    have hdst := (operOk_some g3).1
    rw [g5, tget_put hdst]
    by_cases e : p = q
    · subst e
      rw [hp] at g1
      cases g1
      rw [ho] at g2
      cases g2
      rw [if_pos hd]
    · have hne : i ≠ i' := fun e' => e (S.inj p q i hp (e' ▸ g1))
      rw [if_neg (S.dst i i' o o' d ho g2 hne hd)]
      exact R.tp_some S hp ho hd q (by omega) (by omega)
theorem RunD.tp_none (R : RunD P r n all b [] ord M tp Ap vp) {d : Tmp} : ∀ q : Nat, q ≤ M → (∀ (p i : Nat) (o : Oper), p < q → ord[p]? = some i → all[i]? = some o → o.dst ≠ some d) → tget (tp q) d = tget (tp 0) d
  | 0, _, _ => rfl
  | q + 1, hq, h => by
    obtain ⟨i', o', g1, g2, g3, _, g5⟩ := R.step q (by omega)
    rw [g5, tget_put (operOk_some g3).1, if_neg (h q i' o' (Nat.lt_succ_self _) g1 g2)]
    exact R.tp_none q (by omega) fun p i o hp => h p i o (by omega)
/-- a step that does not act -/
theorem RunD.quiet (R : RunD P r n all b [] ord M tp Ap vp) {p i : Nat} {o : Oper} (hp : p < M) (hi : ord[p]? = some i) (ho : all[i]? = some o) (hn : isAct P o.op = false) :
    operOk P n o = true ∧ (((guardS all o.guard).val (tp p) = some false ∧ vp p = undef ∧ Ap (p + 1) = Ap p) ∨
      ((guardS all o.guard).val (tp p) = some true ∧ (opS P o.type o.op).val (tp p) (Ap p) = .val (vp p) (Ap (p + 1)) ∧
        ((kindOf P o.op ≠ 3 ∧ Ap (p + 1) = Ap p) ∨ (kindOf P o.op = 3 ∧ ∃ bk f, (∀ B, (opS P o.type o.op).val (tp p) B = newR B bk f) ∧ Ap (p + 1) = (Ap p).add bk)))) := by
  obtain ⟨i', o', g1, g2, g3, g4, _⟩ := R.step p hp
  rw [hi] at g1
  cases g1
  rw [ho] at g2
  cases g2
  refine ⟨g3, ?_⟩
  generalize hA : Ap (p + 1) = A1 at g4 ⊢
  generalize hv : vp p = v at g4 ⊢
  cases g4 with
  | off h => exact .inl ⟨h, rfl, rfl⟩
  | act h hk _ => rw [hn] at hk; cases hk
  | quiet h hk hv =>
    refine .inr ⟨h, hv, ?_⟩
    rcases kind_le (P := P) o.op with h0 | h0 | h0 | h0
    · exact .inl ⟨by omega, (quiet_op h0 o.type (tp p) (Ap p) (Ap p) _ _ hv).1⟩
    · exact .inl ⟨by omega, read_op h0 o.type (tp p) (Ap p) _ _ hv⟩
    · rw [isAct_iff.2 h0] at hk; cases hk
    · obtain ⟨bk, f, hB⟩ := new_syn h0 hv
      refine .inr ⟨h0, bk, f, hB, ?_⟩
      rw [hB] at hv
      cases hv
      rfl
end run
/-! ## What is read again -/
theorem againAt_mem {all : List Oper} {b : List Nat} {i : Nat} {o : Oper} (ho : all[i]? = some o) (hk : kindOf P o.op = 1) (l2 : List Nat) : ∀ (l1 : List Nat) (dirty : Bool) (acts : List Nat),
    (∀ j ∈ l1, ∃ oj, all[j]? = some oj) → (dirty = true ∨ ∃ j ∈ l1, ∃ oj, all[j]? = some oj ∧ 2 ≤ kindOf P oj.op) → (∀ a ∈ acts, bitOf b a i = false) → (∀ a ∈ l1, ∀ oa, all[a]? = some oa → isAct P oa.op = true → bitOf b a i = false) →
    i ∈ againAt P all b (l1 ++ i :: l2) dirty acts
  | [], dirty, acts, _, h2, h3, _ => by
    rcases h2 with h2 | ⟨j, hj, _⟩
    · unfold againAt
      simp only [List.nil_append, nth_eq, ho, hk, h2, Bool.true_and]
      have : acts.any (fun a => bitOf b a i) = false := by
        rw [List.any_eq_false]
        intro a ha
        rw [h3 a ha]
        simp
      rw [this]
      simp
    · cases hj
  | j :: l1, dirty, acts, h1, h2, h3, h4 => by
    obtain ⟨oj, hj⟩ := h1 j (List.mem_cons_self ..)
    have h1' : ∀ j ∈ l1, ∃ oj, all[j]? = some oj := fun x hx => h1 x (List.mem_cons_of_mem _ hx)
    have h4' : ∀ a ∈ l1, ∀ oa, all[a]? = some oa → isAct P oa.op = true → bitOf b a i = false := fun a ha => h4 a (List.mem_cons_of_mem _ ha)
    have h2' : kindOf P oj.op < 2 → (dirty = true ∨ ∃ j ∈ l1, ∃ oj, all[j]? = some oj ∧ 2 ≤ kindOf P oj.op) := fun hlt => by
      rcases h2 with h2 | ⟨x, hx, ox, g1, g2⟩
      · exact .inl h2
      · rcases List.mem_cons.1 hx with rfl | hx
        · rw [hj] at g1; cases g1; omega
        · exact .inr ⟨x, hx, ox, g1, g2⟩
    show i ∈ againAt P all b (j :: (l1 ++ i :: l2)) dirty acts
    unfold againAt
    rw [nth_eq, hj]
    simp only
    rcases kind_le (P := P) oj.op with h0 | h0 | h0 | h0
    · rw [h0]; exact againAt_mem ho hk l2 l1 dirty acts h1' (h2' (by omega)) h3 h4'
    · rw [h0]
      simp only
      have := againAt_mem ho hk l2 l1 dirty acts h1' (h2' (by omega)) h3 h4'
      cases (dirty && !acts.any fun a => bitOf b a j)
      · exact this
      · exact List.mem_cons_of_mem _ this
    · rw [h0]
      exact againAt_mem ho hk l2 l1 true (j :: acts) h1' (.inl rfl) (fun a ha => by
        rcases List.mem_cons.1 ha with rfl | ha
        · exact h4 a (List.mem_cons_self ..) oj hj (isAct_iff.2 h0)
        · exact h3 a ha) h4'
    · rw [h0]; exact againAt_mem ho hk l2 l1 true acts h1' (.inl rfl) h3 h4'
theorem againAll_mem {all : List Oper} {t : Tm} : ∀ {l : List Nat}, (againAll P all l).val t A = true → ∀ i ∈ l, (readAgain P all i).val t A = true
  | [], _, i, hi => by cases hi
  | j :: l, h, i, hi => by
    simp only [againAll, Bool.and_eq_true] at h
    rcases List.mem_cons.1 hi with rfl | hi
    · exact h.1
    · exact againAll_mem h.2 i hi
theorem readAgain_some {all : List Oper} {i : Nat} {o : Oper} {t : Tm} (ho : all[i]? = some o) (hk : kindOf P o.op = 1) (h : (readAgain P all i).val t A = true) (hg : (guardS all o.guard).val t = some true) :
    ∃ d, o.dst = some d ∧ (opS P o.type o.op).val t A = .val (tget t d) A := by
  unfold readAgain at h
  rw [nth_eq, ho] at h
  simp only at h
  cases hd : o.dst with
  | none => rw [hd] at h; cases h
  | some d =>
    rw [hd] at h
    simp only at h
    rw [hg] at h
    simp only [readOne, cond_true, readsSame] at h
    refine ⟨d, rfl, ?_⟩
    cases hv : (opS P o.type o.op).val t A with
    | val u A1 =>
      rw [hv] at h
      have e1 := read_op hk o.type t A _ _ hv
      have e2 : tget t d = u := sameVal_eq 5 _ _ h
      rw [e1, e2]
    | _ => rw [hv] at h; cases h
/-- a part of a list, turned round -/
theorem take_parts {l : List Nat} {p q i : Nat} (hp : l[p]? = some i) (hq : p < q) : (l.take q).reverse = ((l.take q).drop (p + 1)).reverse ++ i :: (l.take p).reverse := by
  have h1 : l.take q = l.take p ++ i :: (l.take q).drop (p + 1) := by
    have h2 : (l.take q)[p]? = some i := by rw [List.getElem?_take]; simp [hq, hp]
    have h3 := (List.take_append_drop p (l.take q)).symm
    have h4 : (l.take q).drop p = i :: (l.take q).drop (p + 1) := by
      obtain ⟨hlt, he⟩ := List.getElem?_eq_some_iff.1 h2
      rw [List.drop_eq_getElem_cons hlt, he]
    rw [h4, List.take_take, Nat.min_eq_left (by omega)] at h3
    exact h3
  rw [h1]
  simp only [List.reverse_append, List.reverse_cons, List.append_assoc, List.singleton_append]
  rw [← h1]
theorem mem_part {l : List Nat} {p q j : Nat} (h : j ∈ ((l.take q).drop (p + 1)).reverse) : ∃ s : Nat, p < s ∧ s < q ∧ l[s]? = some j := by
  rw [List.mem_reverse] at h
  obtain ⟨k, hk⟩ := List.mem_iff_getElem?.1 h
  rw [List.getElem?_drop, List.getElem?_take] at hk
  split at hk
  · exact ⟨p + 1 + k, by omega, by assumption, hk⟩
  · cases hk
theorem part_mem {l : List Nat} {p q s j : Nat} (h1 : p < s) (h2 : s < q) (h3 : l[s]? = some j) : j ∈ ((l.take q).drop (p + 1)).reverse := by
  rw [List.mem_reverse]
  refine List.mem_iff_getElem?.2 ⟨s - (p + 1), ?_⟩
  rw [List.getElem?_drop, List.getElem?_take, show p + 1 + (s - (p + 1)) = s by omega, if_pos h2]
  exact h3
end Go.Sh
