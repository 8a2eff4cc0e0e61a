/- Part of a proof by a machine of ones own: see the text with the theorem. -/
import Derived.Test.YtanpablcoimajaaDoorSh14
import Derived.Laws.StructEq
namespace Go.Sh
open Go
variable {P : Program} {φ : Inj} {A : AW} {w : World}

/-! equality of values whose cells are ints, bools and strings -/
theorem same1_VR {c : Nat} {x x' y y' : Value} {b : Bool} (h : same1 c x y = some b) (hx : VR φ x x') (hy : VR φ y y') : x' = x ∧ y' = y := by
  cases x with
  | int k n =>
    refine ⟨VR_int hx, ?_⟩
    cases y with
    | int j m => exact VR_int hy
    | _ => cases h
  | bool a =>
    refine ⟨VR_bool hx, ?_⟩
    cases y with
    | bool a => exact VR_bool hy
    | _ => cases h
  | string a =>
    refine ⟨VR_string hx, ?_⟩
    cases y with
    | string a => exact VR_string hy
    | _ => cases h
  | _ => cases h
theorem sameL_VR : ∀ {ks : List Nat} {xs xs' ys ys' : List Value} {b : Bool}, LR φ xs xs' → LR φ ys ys' → sameL ks xs ys = some b → sameL ks xs' ys' = some b
  | [], _, _, _, _, _, .nil, .nil, h => h
  | [], _, _, _, _, _, .cons .., _, h => by cases h
  | [], _, _, _, _, _, .nil, .cons .., h => by cases h
  | _ :: _, _, _, _, _, _, .nil, _, h => by cases h
  | _ :: _, _, _, _, _, _, .cons .., .nil, h => by cases h
  | c :: ks, _, _, _, _, b, .cons (v := x) (v' := x') hx kx, .cons (v := y) (v' := y') hy ky, h => by
    simp only [sameL] at h ⊢
    cases hs : same1 c x y with
    | none => rw [hs] at h; cases h
    | some b1 =>
      obtain ⟨rfl, rfl⟩ := same1_VR hs hx hy
      rw [hs] at h ⊢
      cases b1 with
      | false => exact h
      | true => exact sameL_VR kx ky h
theorem same1_flat {c : Nat} {x y : Value} {b : Bool} (h : same1 c x y = some b) : flatCells false x = some [x] ∧ flatCells false y = some [y] := by
  cases x with
  | int k n => cases y with
    | int j m => exact ⟨rfl, rfl⟩
    | _ => cases h
  | bool a => cases y with
    | bool a => exact ⟨rfl, rfl⟩
    | _ => cases h
  | string a => cases y with
    | string a => exact ⟨rfl, rfl⟩
    | _ => cases h
  | _ => cases h
theorem flatCells_true {x : Value} {l : List Value} (h : flatCells true x = some l) : x = .agg ⟨l⟩ := by
  cases x with
  | agg m => obtain ⟨m⟩ := m; simp only [flatCells, cond_true, Option.some.injEq] at h; rw [h]
  | _ => cases h
theorem flatCells_false {x : Value} {l : List Value} (h : flatCells false x = some l) : l = [x] := by
  cases x with
  | agg m => cases h
  | _ => simp only [flatCells, cond_false, Option.some.injEq] at h; exact h.symm
theorem eqFlat_inv {g : Bool} {ks : List Nat} {x y : Value} {b : Bool} (h : eqFlat g ks x y = some b) : ∃ xs ys, flatCells g x = some xs ∧ flatCells g y = some ys ∧ sameL ks xs ys = some b := by
  unfold eqFlat at h
  cases hx : flatCells g x with
  | none => rw [hx] at h; cases h
  | some xs =>
    rw [hx] at h
    cases hy : flatCells g y with
    | none => rw [hy] at h; cases h
    | some ys => rw [hy] at h; exact ⟨xs, ys, rfl, rfl, h⟩
theorem sameL_one {ks : List Nat} {x y : Value} {b : Bool} (h : sameL ks [x] [y] = some b) : ∃ c rest, ks = c :: rest ∧ ∃ b', same1 c x y = some b' := by
  cases ks with
  | nil => cases h
  | cons c rest =>
    simp only [sameL] at h
    cases hs : same1 c x y with
    | none => rw [hs] at h; cases h
    | some b' => exact ⟨c, rest, rfl, b', hs⟩
theorem eqFlat_VR {g : Bool} {ks : List Nat} {x x' y y' : Value} {b : Bool} (h : eqFlat g ks x y = some b) (hx : VR φ x x') (hy : VR φ y y') : eqFlat g ks x' y' = some b := by
  obtain ⟨xs, ys, h1, h2, h3⟩ := eqFlat_inv h
  cases g with
  | true =>
    have e1 := flatCells_true h1
    have e2 := flatCells_true h2
    subst e1 e2
    cases hx with
    | agg hx => cases hy with
      | agg hy => exact sameL_VR hx hy h3
  | false =>
    have e1 := flatCells_false h1
    have e2 := flatCells_false h2
    subst e1 e2
    obtain ⟨c, rest, rfl, b', h4⟩ := sameL_one h3
    obtain ⟨rfl, rfl⟩ := same1_VR h4 hx hy
    exact h
/-- scalars -/
theorem eq_scalar {c : Nat} {t : TypeId} {d : TypeDesc} (hd : (c = 0 ∧ ∃ k, d = .int k) ∨ (c = 1 ∧ d = .bool) ∨ (c = 2 ∧ d = .string)) (hu : P.underlying t = some d) {x y : Value} {b : Bool} (h : same1 c x y = some b) (D : Nat) (w : World) :
    (Op.equalIn (D + 1) t x y).run P w = .ok b w := by
  rcases hd with ⟨rfl, k, rfl⟩ | ⟨rfl, rfl⟩ | ⟨rfl, rfl⟩
  · cases x with
    | int j n => cases y with
      | int i m =>
        simp only [same1, sameInt] at h
        cases hk : (Nat.beq 0 0 && sameK j i) with
        | false => rw [hk] at h; cases h
        | true =>
          rw [hk] at h
          simp only [cond_true, Option.some.injEq] at h
          have : j = i := sameK_eq (by simpa using hk)
          subst this
          rw [run_equalIn_int w D t j k n m hu, ← h, intEq_eq]
      | _ => cases h
    | bool a => cases y with
      | bool => cases h
      | _ => cases h
    | string a => cases y with
      | string => cases h
      | _ => cases h
    | _ => cases h
  · cases x with
    | bool a => cases y with
      | bool b' =>
        have h : some (a == b') = some b := h
        rw [run_equalIn_bool w D t a b' hu, ← opt_some h]
      | _ => cases h
    | int j n => cases y with
      | int i m => cases h
      | _ => cases h
    | string a => cases y with
      | string => cases h
      | _ => cases h
    | _ => cases h
  · cases x with
    | string a => cases y with
      | string b' =>
        have h : some (byteL (bytesOf a) (bytesOf b')) = some b := h
        rw [run_equalIn_string w D t a b' hu, ← opt_some h, byteL_eq, toList_bytes, toList_bytes]
      | _ => cases h
    | int j n => cases y with
      | int i m => cases h
      | _ => cases h
    | bool a => cases y with
      | bool => cases h
      | _ => cases h
    | _ => cases h
theorem sameL_append : ∀ {k1 k2 : List Nat} {xs ys : List Value} {b : Bool}, sameL (k1 ++ k2) xs ys = some b →
    ∃ b1, sameL k1 (xs.take k1.length) (ys.take k1.length) = some b1 ∧ (b1 = false → b = false) ∧ (b1 = true → sameL k2 (xs.drop k1.length) (ys.drop k1.length) = some b)
  | [], k2, xs, ys, b, h => ⟨true, by simp [sameL], by simp, fun _ => by simpa using h⟩
  | c :: k1, k2, xs, ys, b, h => by
    cases xs with
    | nil => cases h
    | cons x xs =>
      cases ys with
      | nil => cases h
      | cons y ys =>
        simp only [List.cons_append, sameL] at h
        simp only [List.length_cons, List.take_succ_cons, List.drop_succ_cons, sameL]
        cases hs : same1 c x y with
        | none => rw [hs] at h; cases h
        | some b0 =>
          rw [hs] at h
          cases b0 with
          | false =>
            simp only [cond_false, Option.some.injEq] at h
            exact ⟨false, rfl, fun _ => h.symm, fun h => by cases h⟩
          | true => exact sameL_append h
theorem flat1_some {t : TypeId} {k : Nat} {ks : List Nat} (h : flat1 P t k = some ks) : ks = [k] ∧ szOf P t = some 1 := by
  unfold flat1 at h
  cases hb : (szOf P t == some 1) with
  | false => rw [hb] at h; cases h
  | true => rw [hb] at h; cases h; exact ⟨rfl, by simpa using hb⟩
theorem sized_some {t : TypeId} {o : Option (List Nat)} {ks : List Nat} (h : sized P t o = some ks) : o = some ks ∧ szOf P t = some ks.length := by
  unfold sized at h
  cases o with
  | none => cases h
  | some l =>
    simp only at h
    cases hs : szOf P t with
    | none => rw [hs] at h; cases h
    | some n =>
      rw [hs] at h
      simp only [lenL0] at h
      cases hb : Nat.beq l.length n with
      | false => rw [hb] at h; cases h
      | true =>
        rw [hb] at h
        cases h
        exact ⟨rfl, by rw [Nat.eq_of_beq_eq_true hb]⟩
/-- the cases of a flat type -/
theorem flatT_some {d : Nat} {t : TypeId} {ks : List Nat} (h : flatT P d t = some ks) : ∃ d', d = d' + 1 ∧ szOf P t = some ks.length ∧
    ((∃ c dd, ks = [c] ∧ P.underlying t = some dd ∧ ((c = 0 ∧ ∃ k, dd = .int k) ∨ (c = 1 ∧ dd = .bool) ∨ (c = 2 ∧ dd = .string)) ∧ aggOf P t = some false) ∨
     (∃ fs, P.underlying t = some (.struct fs) ∧ P.stoodInHeld t = false ∧ flatFields (flatT P d') fs.toList 0 = some ks ∧ aggOf P t = some true) ∨
     (∃ n e ks1, P.underlying t = some (.array n e) ∧ flatT P d' e = some ks1 ∧ ks = repl ks1 n ∧ aggOf P t = some true)) := by
  cases d with
  | zero => cases h
  | succ d =>
    refine ⟨d, rfl, ?_⟩
    unfold flatT at h
    cases hu : P.underlying t with
    | none => rw [hu] at h; cases h
    | some dd =>
      rw [hu] at h
      cases dd with
      | int k =>
        obtain ⟨rfl, hs⟩ := flat1_some h
        exact ⟨hs, .inl ⟨0, _, rfl, rfl, .inl ⟨rfl, k, rfl⟩, by simp [aggOf, hu]⟩⟩
      | bool =>
        obtain ⟨rfl, hs⟩ := flat1_some h
        exact ⟨hs, .inl ⟨1, _, rfl, rfl, .inr (.inl ⟨rfl, rfl⟩), by simp [aggOf, hu]⟩⟩
      | string =>
        obtain ⟨rfl, hs⟩ := flat1_some h
        exact ⟨hs, .inl ⟨2, _, rfl, rfl, .inr (.inr ⟨rfl, rfl⟩), by simp [aggOf, hu]⟩⟩
      | struct fs =>
        simp only at h
        cases hst : P.stoodInHeld t with
        | true => rw [hst] at h; cases h
        | false =>
          rw [hst] at h
          obtain ⟨h1, hs⟩ := sized_some h
          exact ⟨hs, .inr (.inl ⟨fs, rfl, rfl, h1, by simp [aggOf, hu]⟩)⟩
      | array n e =>
        simp only at h
        cases hf : flatT P d e with
        | none => rw [hf] at h; cases h
        | some ks1 =>
          rw [hf] at h
          obtain ⟨h1, hs⟩ := sized_some h
          exact ⟨hs, .inr (.inr ⟨n, e, ks1, rfl, hf, (opt_some h1).symm, by simp [aggOf, hu]⟩)⟩
      | _ => cases h
/-- a part of a flat type -/
theorem part_flat {d : Nat} {t : TypeId} {ks : List Nat} (h : flatT P d t = some ks) (xs : Array Value) (n : Nat) :
    (aggOf P t = some true ∧ ∀ w, (part t xs n).run P w = .ok (.agg (xs.extract n (n + ks.length))) w) ∨ (aggOf P t = some false ∧ ∃ c, ks = [c] ∧ ∀ x, xs[n]? = some x → ∀ w, (part t xs n).run P w = .ok x w) := by
  obtain ⟨d', rfl, hs, h⟩ := flatT_some h
  have hagg : aggOf P t = some true → ∀ w, (part t xs n).run P w = .ok (.agg (xs.extract n (n + ks.length))) w := fun hg w => by simp [part, run_isAgg hg, run_sizeOf hs]
  rcases h with ⟨c, dd, rfl, hu, _, hg⟩ | ⟨fs, _, _, _, hg⟩ | ⟨m, e, k1, _, _, _, hg⟩
  · exact .inr ⟨hg, c, rfl, fun x hx w => by simp [part, run_isAgg hg, hx]⟩
  · exact .inl ⟨hg, hagg hg⟩
  · exact .inl ⟨hg, hagg hg⟩
theorem take_one {α : Type} (l : List α) (n : Nat) : (l.drop n).take 1 = match l[n]? with | some x => [x] | none => [] := by
  cases h : l[n]? with
  | none => rw [List.drop_eq_nil_of_le (List.getElem?_eq_none_iff.1 h)]; rfl
  | some x =>
    obtain ⟨h1, h2⟩ := List.getElem?_eq_some_iff.1 h
    rw [List.drop_eq_getElem_cons h1, h2]
    rfl
theorem part_same {d : Nat} {t : TypeId} {ks : List Nat} (h : flatT P d t = some ks) (xs ys : Array Value) (n : Nat) {b : Bool}
    (hb : sameL ks ((xs.toList.drop n).take ks.length) ((ys.toList.drop n).take ks.length) = some b) :
    ∃ g x y, aggOf P t = some g ∧ (∀ w, (part t xs n).run P w = .ok x w) ∧ (∀ w, (part t ys n).run P w = .ok y w) ∧ eqFlat g ks x y = some b := by
  rcases part_flat h xs n with ⟨hg, h1⟩ | ⟨hg, c, rfl, h1⟩
  · rcases part_flat h ys n with ⟨_, h2⟩ | ⟨hg2, _⟩
    · exact ⟨true, _, _, hg, h1, h2, by simpa [eqFlat, flatCells, List.take_drop] using hb⟩
    · rw [hg] at hg2; cases hg2
  · rcases part_flat h ys n with ⟨hg2, _⟩ | ⟨_, _, _, h2⟩
    · rw [hg] at hg2; cases hg2
    · simp only [List.length_cons, List.length_nil, Nat.zero_add, take_one] at hb
      cases hx : xs.toList[n]? with
      | none => rw [hx] at hb; cases hb
      | some x =>
        cases hy : ys.toList[n]? with
        | none => rw [hx, hy] at hb; cases hb
        | some y =>
          rw [hx, hy] at hb
          obtain ⟨_, _, _, b', h4⟩ := sameL_one hb
          obtain ⟨f1, f2⟩ := same1_flat h4
          refine ⟨false, x, y, hg, h1 x (by simpa using hx), h2 y (by simpa using hy), ?_⟩
          unfold eqFlat
          rw [f1, f2]
          exact hb
theorem flatFields_cons {flat : TypeId → Option (List Nat)} {f : Field} {fs : List Field} {n : Nat} {ks : List Nat} (h : flatFields flat (f :: fs) n = some ks) :
    f.offset = n ∧ f.name ≠ "_" ∧ ∃ k1 k2, flat f.type = some k1 ∧ flatFields flat fs (n + k1.length) = some k2 ∧ ks = k1 ++ k2 := by
  unfold flatFields at h
  cases hb : (Nat.beq f.offset n && !(f.name == "_")) with
  | false => rw [hb] at h; cases h
  | true =>
    rw [hb] at h
    simp only [Bool.and_eq_true, Bool.not_eq_true'] at hb
    simp only [cond_true] at h
    cases hf : flat f.type with
    | none => rw [hf] at h; cases h
    | some k1 =>
      rw [hf] at h
      simp only [lenL0] at h
      cases hr : flatFields flat fs (n + k1.length) with
      | none => rw [hr] at h; cases h
      | some k2 =>
        rw [hr] at h
        simp only [appL_eq, Option.some.injEq] at h
        exact ⟨Nat.eq_of_beq_eq_true hb.1, by simpa using hb.2, k1, k2, rfl, hr, h.symm⟩
/-- rows of equal parts -/
theorem eqFlat_run : ∀ (d : Nat) (t : TypeId) (ks : List Nat), flatT P d t = some ks → ∀ g, aggOf P t = some g → ∀ D, d ≤ D → ∀ (x y : Value) (b : Bool), eqFlat g ks x y = some b → ∀ w, (Op.equalIn D t x y).run P w = .ok b w
  | 0, _, _, h => by cases h
  | d + 1, t, ks, h => by
    intro g hg D hD x y b hb w
    obtain ⟨d', hd', hs, hc⟩ := flatT_some h
    cases hd'
    obtain ⟨D', rfl⟩ : ∃ D', D = D' + 1 := ⟨D - 1, by omega⟩
    obtain ⟨xs, ys, h1, h2, h3⟩ := eqFlat_inv hb
    rcases hc with ⟨c, dd, rfl, hu, hk, hg'⟩ | ⟨fs, hu, hst, hff, hg'⟩ | ⟨n, e, k1, hu, hf, rfl, hg'⟩
    · have : g = false := by rw [hg] at hg'; exact opt_some hg'
      subst this
      have e1 := flatCells_false h1
      have e2 := flatCells_false h2
      subst e1 e2
      simp only [sameL] at h3
      cases hs1 : same1 c x y with
      | none => rw [hs1] at h3; cases h3
      | some b1 =>
        rw [hs1] at h3
        have : b1 = b := by cases b1 <;> simpa using h3
        subst this
        exact eq_scalar hk hu hs1 D' w
    · have : g = true := by rw [hg] at hg'; exact opt_some hg'
      subst this
      have e1 := flatCells_true h1
      have e2 := flatCells_true h2
      subst e1 e2
      have hfo : P.fieldsOf t = fs := by simp [Program.fieldsOf, hu]
      rw [run_equalIn_struct w D' t ⟨xs⟩ ⟨ys⟩ (by rw [hfo]; exact hu) hst, hfo]
      have key : ∀ (l : List Field) (n : Nat) (k : List Nat) (b : Bool), flatFields (flatT P d) l n = some k → sameL k (xs.drop n) (ys.drop n) = some b → (Op.eqFields D' ⟨xs⟩ ⟨ys⟩ l).run P w = .ok b w := by
        intro l
        induction l with
        | nil =>
          intro n k b hk hb
          simp only [flatFields] at hk
          cases hk
          have : b = true := by
            cases hx : xs.drop n with
            | nil => cases hy : ys.drop n with
              | nil => rw [hx, hy] at hb; exact (opt_some hb).symm
              | cons => rw [hx, hy] at hb; cases hb
            | cons => rw [hx] at hb; cases hb
          subst this
          rfl
        | cons f l ih =>
          intro n k b hk hb
          obtain ⟨rfl, hname, k1, k2, q1, q2, rfl⟩ := flatFields_cons hk
          obtain ⟨b1, r1, r2, r3⟩ := sameL_append hb
          obtain ⟨g1, x1, y1, s1, s2, s3, s4⟩ := part_same q1 ⟨xs⟩ ⟨ys⟩ f.offset r1
          have hrun := eqFlat_run d f.type k1 q1 g1 s1 D' (by omega) x1 y1 b1 s4 w
          simp only [Op.eqFields, hname, ne_eq, not_false_eq_true, if_true, Sem.run_bind, s2, s3, Result.andThen_ok, hrun]
          cases b1 with
          | false => simp [r2 rfl]
          | true =>
            have := r3 rfl
            rw [List.drop_drop, List.drop_drop] at this
            simp [ih _ _ _ q2 this]
      exact key _ 0 _ _ hff h3
    · have : g = true := by rw [hg] at hg'; exact opt_some hg'
      subst this
      have e1 := flatCells_true h1
      have e2 := flatCells_true h2
      subst e1 e2
      have hse : szOf P e = some k1.length := (flatT_some hf).choose_spec.2.1
      simp only [Op.equalIn, Sem.run_bind, run_underlying' hu, Result.andThen_ok, run_sizeOf hse]
      simp only [Std.Legacy.Range.forIn_eq_forIn_range', Std.Legacy.Range.size, Nat.sub_zero, Nat.add_one_sub_one, Nat.div_one]
      have key : ∀ (m s : Nat) (b : Bool), sameL (repl k1 m) (xs.drop (s * k1.length)) (ys.drop (s * k1.length)) = some b →
          (Sem.run P (forIn (List.range' s m) ((none, ()) : Option Bool × Unit) fun i _ => do
            let a ← part e ⟨xs⟩ (i * k1.length)
            let c ← part e ⟨ys⟩ (i * k1.length)
            let r ← Op.equalIn D' e a c
            if (!r) = true then pure (ForInStep.done (some false, ())) else pure (ForInStep.yield (none, ()))) w) = .ok (if b then (none, ()) else (some false, ())) w := by
        intro m
        induction m with
        | zero =>
          intro s b hb
          simp only [repl] at hb
          have : b = true := by
            cases hx : xs.drop (s * k1.length) with
            | nil => cases hy : ys.drop (s * k1.length) with
              | nil => rw [hx, hy] at hb; exact (opt_some hb).symm
              | cons => rw [hx, hy] at hb; cases hb
            | cons => rw [hx] at hb; cases hb
          subst this
          rfl
        | succ m ih =>
          intro s b hb
          simp only [repl, appL_eq] at hb
          obtain ⟨b1, r1, r2, r3⟩ := sameL_append hb
          obtain ⟨g1, x1, y1, s1, s2, s3, s4⟩ := part_same hf ⟨xs⟩ ⟨ys⟩ (s * k1.length) r1
          have hrun := eqFlat_run d e k1 hf g1 s1 D' (by omega) x1 y1 b1 s4 w
          rw [List.range'_succ, List.forIn_cons]
          simp only [Sem.run_bind, s2, s3, Result.andThen_ok, hrun]
          cases b1 with
          | false => simp [r2 rfl]
          | true =>
            have := r3 rfl
            rw [List.drop_drop, List.drop_drop, ← Nat.succ_mul] at this
            simpa using ih (s + 1) b this
      have := key n 0 b (by simpa using h3)
      rw [this]
      cases b <;> simp
end Go.Sh
