/- Part of a proof by a machine of ones own: see the text with the theorem. -/
import Derived.Test.YtanpablcoimajaaDoorSh30
set_option linter.unusedVariables false
set_option linter.unusedSimpArgs false
namespace Go.Sh
open Go
variable {P : Program} {φ : Inj} {A : AW} {w : World}

/-! ## The static side of a region whose order is open -/
theorem ordGo_ok {all : List Oper} {b : List Nat} : ∀ (rest : List Nat) (seen : Nat) (acts : List Nat), ordGo P all b rest seen acts = true → ∀ (k i : Nat), rest[k]? = some i →
    ∃ o, all[i]? = some o ∧ seen.testBit i = false ∧ (∀ k' : Nat, k' < k → rest[k']? ≠ some i) ∧ (∀ e ∈ o.after.toList, Region.binds .any e = true → seen.testBit e.on = true ∨ ∃ k' : Nat, k' < k ∧ rest[k']? = some e.on) ∧
      (isAct P o.op = false → (∀ a ∈ acts, bitOf b i a = true) ∧ ∀ (k' a : Nat) (oa : Oper), k' < k → rest[k']? = some a → all[a]? = some oa → isAct P oa.op = true → bitOf b i a = true)
  | [], _, _, _, k, i, hk => by simp at hk
  | i0 :: rest, seen, acts, h, k, i, hk => by
    unfold ordGo at h
    rw [nth_eq] at h
    cases ho : all[i0]? with
    | none => rw [ho] at h; cases h
    | some o0 =>
      rw [ho] at h
      simp only [Bool.and_eq_true] at h
      obtain ⟨⟨h1, h2⟩, h3⟩ := h
      have h1 : seen.testBit i0 = false := by simpa using h1
      have h2' : ∀ e ∈ o0.after.toList, Region.binds .any e = true → seen.testBit e.on = true := fun e he hb => by
        have := (List.all_eq_true.1 h2) e he
        rw [hb] at this
        simpa using this
      have hact : isAct P o0.op = false → ∀ a ∈ acts, bitOf b i0 a = true := fun e => by
        rw [e] at h3
        simp only [cond_false, Bool.and_eq_true] at h3
        exact List.all_eq_true.1 h3.1
      have hrest : ordGo P all b rest (seen ||| 2 ^ i0) (if isAct P o0.op = true then i0 :: acts else acts) = true := by
        cases e : isAct P o0.op with
        | true => rw [e] at h3; simpa using h3
        | false => rw [e] at h3; simp only [cond_false, Bool.and_eq_true] at h3; simpa using h3.2
      cases k with
      | zero =>
        simp only [List.getElem?_cons_zero, Option.some.injEq] at hk
        subst hk
        exact ⟨o0, ho, h1, fun k' hk' => absurd hk' (Nat.not_lt_zero _), fun e he hb => .inl (h2' e he hb), fun e => ⟨hact e, fun k' a oa hk' => absurd hk' (Nat.not_lt_zero _)⟩⟩
      | succ k =>
        rw [List.getElem?_cons_succ] at hk
        obtain ⟨o, g1, g2, g3, g4, g5⟩ := ordGo_ok rest _ _ hrest k i hk
        have g2' : seen.testBit i = false ∧ i0 ≠ i := by
          rw [Nat.testBit_or, Nat.testBit_two_pow] at g2
          simp only [Bool.or_eq_false_iff, decide_eq_false_iff_not] at g2
          exact g2
        refine ⟨o, g1, g2'.1, fun k' hk' => ?_, fun e he hb => ?_, fun e => ?_⟩
        · cases k' with
          | zero => simpa using g2'.2
          | succ k' => rw [List.getElem?_cons_succ]; exact g3 k' (by omega)
        · rcases g4 e he hb with h5 | ⟨k', h5, h6⟩
          · rw [Nat.testBit_or, Nat.testBit_two_pow, Bool.or_eq_true] at h5
            rcases h5 with h5 | h5
            · exact .inl h5
            · exact .inr ⟨0, Nat.succ_pos _, by rw [List.getElem?_cons_zero, of_decide_eq_true h5]⟩
          · exact .inr ⟨k' + 1, by omega, by rw [List.getElem?_cons_succ]; exact h6⟩
        · obtain ⟨q1, q2⟩ := g5 e
          refine ⟨fun a ha => q1 a ?_, fun k' a oa hk' hka hoa hact' => ?_⟩
          · split
            · exact List.mem_cons_of_mem _ ha
            · exact ha
          · cases k' with
            | zero =>
              simp only [List.getElem?_cons_zero, Option.some.injEq] at hka
              subst hka
              rw [ho] at hoa
              cases hoa
              exact q1 _ (by rw [if_pos hact']; exact List.mem_cons_self ..)
            | succ k' => exact q2 k' a oa (by omega) (by rw [List.getElem?_cons_succ] at hka; exact hka) hoa hact'

structure StatD (P : Program) (all : List Oper) (b ord : List Nat) : Prop where
  len : ord.length = all.length
  op : ∀ (p i : Nat), ord[p]? = some i → ∃ o, all[i]? = some o
  inj : ∀ (p p' i : Nat), ord[p]? = some i → ord[p']? = some i → p = p'
  surj : ∀ (i : Nat) (o : Oper), all[i]? = some o → ∃ p : Nat, ord[p]? = some i
  edge : ∀ (p i : Nat) (o : Oper) (e : Edge), ord[p]? = some i → all[i]? = some o → e ∈ o.after.toList → Region.binds .any e = true → ∃ p' : Nat, p' < p ∧ ord[p']? = some e.on
  line : ∀ (p i j : Nat), ord[p]? = some i → bitOf b i j = true → ∃ p' : Nat, p' < p ∧ ord[p']? = some j
  asap : ∀ (p i : Nat) (o : Oper) (p' a : Nat) (oa : Oper), ord[p]? = some i → all[i]? = some o → isAct P o.op = false → p' < p → ord[p']? = some a → all[a]? = some oa → isAct P oa.op = true → bitOf b i a = true
  acts : ∀ (i j : Nat) (oi oj : Oper), all[i]? = some oi → all[j]? = some oj → i ≠ j → isAct P oi.op = true → isAct P oj.op = true → bitOf b i j = true ∨ bitOf b j i = true
  dst : ∀ (i j : Nat) (oi oj : Oper) (d : Tmp), all[i]? = some oi → all[j]? = some oj → i ≠ j → oi.dst = some d → oj.dst ≠ some d
  look : ∀ (i j : Nat) (oi oj : Oper) (d : Tmp), all[i]? = some oi → all[j]? = some oj → i ≠ j → oi.dst = some d → looks all oj d = true → bitOf b i j = true ∨ bitOf b j i = true
  clean : ∀ (i j : Nat) (oi oj : Oper) (d : Tmp), all[i]? = some oi → all[j]? = some oj → i ≠ j → oi.dst = some d → looks all oj d = true → kindOf P oj.op = 1 → bitOf b j i = true
  self : ∀ (i : Nat) (oi : Oper) (d : Tmp), all[i]? = some oi → oi.dst = some d → kindOf P oi.op = 1 → looks all oi d = false
theorem isDst_some {d : Tmp} {x : Option Tmp} : isDst d x = true ↔ x = some d := by
  cases x with
  | none => simp [isDst]
  | some e =>
    simp only [isDst]
    refine ⟨fun h => by rw [Nat.eq_of_beq_eq_true h], fun h => by cases h; exact Nat.beq_refl _⟩
theorem stat_of {ops : Array Oper} {ord : List Nat} (h : drawOk P ops.toList (Region.before ops).toList ord = true) : StatD P ops.toList (Region.before ops).toList ord := by
  generalize hall : ops.toList = all at h
  unfold drawOk at h
  simp only [Bool.and_eq_true] at h
  obtain ⟨h1, h2⟩ := h
  unfold ordOk at h1
  simp only [Bool.and_eq_true, lenL0] at h1
  obtain ⟨h0, h1⟩ := h1
  have hlen := Nat.eq_of_beq_eq_true h0
  have hgo := ordGo_ok (P := P) ord 0 [] h1
  have hop : ∀ (p i : Nat), ord[p]? = some i → ∃ o, all[i]? = some o := fun p i hp => by obtain ⟨o, g, _⟩ := hgo p i hp; exact ⟨o, g⟩
  have hedge : ∀ (p i : Nat) (o : Oper) (e : Edge), ord[p]? = some i → all[i]? = some o → e ∈ o.after.toList → Region.binds .any e = true → ∃ p' : Nat, p' < p ∧ ord[p']? = some e.on := fun p i o e hp ho he hb => by
    obtain ⟨o', g1, _, _, g4, _⟩ := hgo p i hp
    rw [ho] at g1
    cases g1
    rcases g4 e he hb with g | g
    · simp at g
    · exact g
  have hpair : ∀ (i j : Nat) (oi oj : Oper), all[i]? = some oi → all[j]? = some oj → pairOk P all (Region.before ops).toList (oi, i) (oj, j) = true := fun i j oi oj hi hj =>
    List.all_eq_true.1 (List.all_eq_true.1 h2 (oi, i) (List.mem_zipIdx_iff_getElem?.2 hi)) (oj, j) (List.mem_zipIdx_iff_getElem?.2 hj)
  have hpair2 : ∀ (i j : Nat) (oi oj : Oper), all[i]? = some oi → all[j]? = some oj → i ≠ j → (bif isAct P oi.op && isAct P oj.op then ordered (Region.before ops).toList i j else true) = true ∧
      (∀ d, oi.dst = some d → isDst d oj.dst = false ∧ (bif looks all oj d then (bif Nat.beq (kindOf P oj.op) 1 then bitOf (Region.before ops).toList j i else ordered (Region.before ops).toList i j) else true) = true) := fun i j oi oj hi hj hne => by
    have := hpair i j oi oj hi hj
    unfold pairOk at this
    have hb : Nat.beq i j = false := by
      cases hb : Nat.beq i j with
      | false => rfl
      | true => exact absurd (Nat.eq_of_beq_eq_true hb) hne
    simp only [hb, cond_false, Bool.and_eq_true] at this
    refine ⟨this.1, fun d hd => ?_⟩
    have h3 := this.2
    rw [hd] at h3
    simp only [Bool.and_eq_true] at h3
    exact ⟨by simpa using h3.1, h3.2⟩
  have hnd : ord.Nodup := by
    refine List.pairwise_iff_getElem.2 fun k k' hk hk' hlt he => ?_
    obtain ⟨_, _, _, g, _⟩ := hgo k' ord[k'] (List.getElem?_eq_getElem hk')
    exact g k hlt (by rw [List.getElem?_eq_getElem hk, he])
  have hinj : ∀ (p p' i : Nat), ord[p]? = some i → ord[p']? = some i → p = p' := fun p p' i hp hp' => by
    rcases Nat.lt_trichotomy p p' with h | h | h
    · obtain ⟨_, _, _, g, _⟩ := hgo p' i hp'; exact absurd hp (g p h)
    · exact h
    · obtain ⟨_, _, _, g, _⟩ := hgo p i hp; exact absurd hp' (g p' h)
  refine ⟨hlen, hop, hinj, fun i o hi => ?_, hedge, ?_, fun p i o p' a oa hp ho hna hlt ha hoa hact => ?_, fun i j oi oj hi hj hne h3 h4 => ?_, fun i j oi oj d hi hj hne hd he => ?_, fun i j oi oj d hi hj hne hd hl => ?_, fun i j oi oj d hi hj hne hd hl hk => ?_, fun i oi d hi hd hk => ?_⟩
  · have hlt : i < all.length := (List.getElem?_eq_some_iff.1 hi).1
    have hm := nodup_all hnd (fun x hx => by
      obtain ⟨p, hp⟩ := List.mem_iff_getElem?.1 hx
      obtain ⟨o, ho⟩ := hop p x hp
      exact (List.getElem?_eq_some_iff.1 ho).1) hlen hlt
    exact List.mem_iff_getElem?.1 hm
  · intro p
    induction p using Nat.strongRecOn with
    | _ p ih =>
      intro i j hp hb
      obtain ⟨o, e, g1, g2, g3, g4⟩ := bit_edge hb
      rw [hall] at g1
      obtain ⟨p', g5, g6⟩ := hedge p i o e hp g1 g2 g3
      rcases g4 with g4 | g4
      · exact ⟨p', g5, g4 ▸ g6⟩
      · obtain ⟨p2, g7, g8⟩ := ih p' g5 e.on j g6 g4
        exact ⟨p2, by omega, g8⟩
  · obtain ⟨o', g1, _, _, _, g5⟩ := hgo p i hp
    rw [ho] at g1
    cases g1
    exact (g5 hna).2 p' a oa hlt ha hoa hact
  · have := (hpair2 i j oi oj hi hj hne).1
    rw [h3, h4] at this
    simp only [Bool.and_self, cond_true, ordered, Bool.or_eq_true] at this
    exact this.symm.imp id id |>.symm
  · have := ((hpair2 i j oi oj hi hj hne).2 d hd).1
    rw [isDst_some.2 he] at this
    cases this
  · have := ((hpair2 i j oi oj hi hj hne).2 d hd).2
    rw [hl] at this
    simp only [cond_true] at this
    cases hk : Nat.beq (kindOf P oj.op) 1 with
    | true => rw [hk] at this; exact .inr this
    | false => rw [hk] at this; simpa [ordered] using this
  · have := ((hpair2 i j oi oj hi hj hne).2 d hd).2
    rw [hl, hk] at this
    exact this
  · have := hpair i i oi oi hi hi
    unfold pairOk at this
    simp only [Nat.beq_refl, cond_true, hd, hk] at this
    simpa using this
end Go.Sh
