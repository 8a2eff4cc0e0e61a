/- Part of a proof by a machine of ones own: see the text with the theorem. -/
import Derived.Test.YtanpablcoimajaaDoorSh16
namespace Go.Sh
open Go
variable {P : Program} {φ : Inj} {A : AW} {w : World}

/-! maps, of keys whose cells are ints, bools and strings -/
theorem neFirst_ok {g : Bool} {ks : List Nat} {c : Nat} (hc : Nat.beq c 0 = true) {k v : Value} {l : List Value} {n : Nat} {a : Int} (hk : flatCells g k = some l) (hh : headI l = some (n, a)) (h : neFirst g n a v = true) : eqFlat g (c :: ks) k v = some false := by
  unfold neFirst at h
  cases hv : flatCells g v with
  | none => rw [hv] at h; cases h
  | some m =>
    rw [hv] at h
    simp only at h
    cases m with
    | nil => cases h
    | cons y m =>
      simp only [neCells] at h
      cases y with
      | int j b =>
        simp only [neInt, Bool.and_eq_true] at h
        cases l with
        | nil => cases hh
        | cons x l =>
          cases x with
          | int kk a' =>
            simp only [headI, Option.some.injEq, Prod.mk.injEq] at hh
            obtain ⟨rfl, rfl⟩ := hh
            have hs : sameK kk j = true := h.1
            have hn : intEq a' b = false := by simpa using h.2
            unfold eqFlat
            rw [hk, hv]
            simp only [sameL, same1, sameInt, hc, hs, Bool.and_self, cond_true, hn, cond_false]
          | _ => cases hh
      | _ => cases h
theorem findG_eq {g : Bool} {ks : List Nat} {c : Nat} (hc : Nat.beq c 0 = true) {k : Value} {l : List Value} {n : Nat} {a : Int} (hk : flatCells g k = some l) (hh : headI l = some (n, a)) : ∀ (es : List MapEntry) (i : Nat), findG (g, c :: ks) k n a es i = findA (g, c :: ks) k es i
  | [], i => rfl
  | e :: es, i => by
    have ih := findG_eq (ks := ks) hc hk hh es (i + 1)
    show Bool.rec (motive := fun _ => Option (Option (Nat × Value))) (findH i e.val (findG (g, c :: ks) k n a es) (eqFlat g (c :: ks) k e.key)) (findG (g, c :: ks) k n a es (i + 1)) (neFirst g n a e.key) = _
    rw [bool_rec]
    unfold findA
    by_cases hn : neFirst g n a e.key = true
    · rw [if_pos hn, ih]
      simp only [neFirst_ok hc hk hh hn, cond_false]
    · rw [if_neg hn]
      unfold findH
      cases eqFlat g (c :: ks) k e.key with
      | none => rfl
      | some b => cases b with
        | true => rfl
        | false => exact ih
theorem findF_eq (kt : KeyT) (k : Value) (es : List MapEntry) : findF kt k es = findA kt k es 0 := by
  obtain ⟨g, ks⟩ := kt
  unfold findF
  cases hq : headOf (g, ks) k with
  | none => rfl
  | some p =>
    unfold headOf at hq
    cases ks with
    | nil => cases hq
    | cons c ks =>
      simp only at hq
      cases hc : Nat.beq c 0 with
      | false => rw [hc] at hq; cases hq
      | true =>
        rw [hc] at hq
        simp only [cond_true] at hq
        cases hl : flatCells g k with
        | none => rw [hl] at hq; cases hq
        | some l =>
          rw [hl] at hq
          obtain ⟨n, a⟩ := p
          exact findG_eq hc hl hq es 0
theorem checkKey_run (em : Bool) : ∀ (d : Nat) (t : TypeId) (ks : List Nat), flatT P d t = some ks → ∀ D, d ≤ D → ∀ (x : Value), (aggOf P t = some true → ∃ xs, x = .agg ⟨xs⟩ ∧ xs.length = ks.length) → ∀ w, (Instr.checkKey em D t x).run P w = .ok () w
  | 0, _, _, h => by cases h
  | d + 1, t, ks, h => by
    intro D hD x hx w
    obtain ⟨d', hd', hs, hc⟩ := flatT_some h
    cases hd'
    obtain ⟨D', rfl⟩ : ∃ D', D = D' + 1 := ⟨D - 1, by omega⟩
    rcases hc with ⟨c, dd, rfl, hu, hk, hg'⟩ | ⟨fs, hu, hst, hff, hg'⟩ | ⟨n, e, k1, hu, hf, rfl, hg'⟩
    · rcases hk with ⟨_, k, rfl⟩ | ⟨_, rfl⟩ | ⟨_, rfl⟩ <;> simp [Instr.checkKey, run_underlying' hu]
    · obtain ⟨xs, rfl, hl⟩ := hx hg'
      simp only [Instr.checkKey, Sem.run_bind, run_underlying' hu, Result.andThen_ok]
      rw [← Array.forIn_toList]
      have key : ∀ (l : List Field) (n : Nat) (k : List Nat), flatFields (flatT P d) l n = some k → n + k.length ≤ xs.length →
          (forIn l PUnit.unit fun f (_ : PUnit) => (if f.name ≠ "_" then do
            let v ← part f.type ⟨xs⟩ f.offset
            Instr.checkKey em D' f.type v
            pure (ForInStep.yield PUnit.unit)
            else pure (ForInStep.yield PUnit.unit) : Sem (ForInStep PUnit))).run P w = .ok PUnit.unit w := by
        intro l
        induction l with
        | nil => intro n k _ _; rfl
        | cons f l ih =>
          intro n k hk hn
          obtain ⟨rfl, hname, k1, k2, q1, q2, rfl⟩ := flatFields_cons hk
          rw [List.length_append] at hn
          have hpart : ∃ v, (∀ w, (part f.type ⟨xs⟩ f.offset).run P w = .ok v w) ∧ (aggOf P f.type = some true → ∃ ys, v = .agg ⟨ys⟩ ∧ ys.length = k1.length) := by
            rcases part_flat q1 ⟨xs⟩ f.offset with ⟨hg, h1⟩ | ⟨hg, c, rfl, h1⟩
            · refine ⟨_, h1, fun _ => ⟨(xs.drop f.offset).take k1.length, ?_, by simp; omega⟩⟩
              congr 1
              apply Array.ext'
              simp [List.take_drop]
            · have hlt : f.offset < xs.length := by simp at hn; omega
              exact ⟨xs[f.offset], h1 _ (by simp [hlt]), fun h => by rw [hg] at h; cases h⟩
          obtain ⟨v, h1, h2⟩ := hpart
          have hrun := checkKey_run em d f.type k1 q1 D' (by omega) v h2 w
          rw [List.forIn_cons]
          simp only [hname, ne_eq, not_false_eq_true, if_true, Sem.run_bind, h1, Result.andThen_ok, hrun, Sem.run_pure]
          exact ih _ _ q2 (by omega)
      have := key fs.toList 0 ks hff (by omega)
      simp at this ⊢
      rw [this]; rfl
    · obtain ⟨xs, rfl, hl⟩ := hx hg'
      have hse : szOf P e = some k1.length := (flatT_some hf).choose_spec.2.1
      simp only [Instr.checkKey, Sem.run_bind, run_underlying' hu, Result.andThen_ok]
      simp only [Std.Legacy.Range.forIn_eq_forIn_range', Std.Legacy.Range.size, Nat.sub_zero, Nat.add_one_sub_one, Nat.div_one]
      rw [repl_length] at hl
      have key : ∀ (m s : Nat), (s + m) * k1.length ≤ xs.length →
          (forIn (List.range' s m) PUnit.unit fun i (_ : PUnit) => (do
            let z ← sizeOf e
            let v ← part e ⟨xs⟩ (i * z)
            Instr.checkKey em D' e v
            pure (ForInStep.yield PUnit.unit) : Sem (ForInStep PUnit))).run P w = .ok PUnit.unit w := by
        intro m
        induction m with
        | zero => intro s _; rfl
        | succ m ih =>
          intro s hn
          have hn' : (s + 1) * k1.length ≤ xs.length := Nat.le_trans (Nat.mul_le_mul_right _ (by omega)) hn
          rw [Nat.succ_mul] at hn'
          have hpart : ∃ v, (∀ w, (part e ⟨xs⟩ (s * k1.length)).run P w = .ok v w) ∧ (aggOf P e = some true → ∃ ys, v = .agg ⟨ys⟩ ∧ ys.length = k1.length) := by
            rcases part_flat hf ⟨xs⟩ (s * k1.length) with ⟨hg, h1⟩ | ⟨hg, c, rfl, h1⟩
            · refine ⟨_, h1, fun _ => ⟨(xs.drop (s * k1.length)).take k1.length, ?_, by simp; omega⟩⟩
              congr 1
              apply Array.ext'
              simp [List.take_drop]
            · have hlt : s * [c].length < xs.length := by simp only [List.length_cons, List.length_nil] at hn' ⊢; omega
              exact ⟨xs[s * [c].length], h1 _ (by rw [← Array.getElem?_toList]; exact List.getElem?_eq_getElem hlt), fun h => by rw [hg] at h; cases h⟩
          obtain ⟨v, h1, h2⟩ := hpart
          have hrun := checkKey_run em d e k1 hf D' (by omega) v h2 w
          rw [List.range'_succ, List.forIn_cons]
          simp only [Sem.run_bind, run_sizeOf hse, h1, Result.andThen_ok, hrun, Sem.run_pure]
          exact ih (s + 1) (by rw [show s + 1 + m = s + (m + 1) from by omega]; exact hn)
      have := key n 0 (by rw [Nat.zero_add, hl]; exact Nat.le_refl _)
      simp at this ⊢
      rw [this]; rfl
theorem same1_true {c : Nat} {x y : Value} (h : same1 c x y = some true) : x = y ∧ ∀ n, Instr.sameBits n x x = true := by
  cases x with
  | int k n => cases y with
    | int j m =>
      have h5 : (bif Nat.beq c 0 && sameK k j then some (intEq n m) else none) = some true := h
      cases hk : (Nat.beq c 0 && sameK k j) with
      | false => rw [hk] at h5; cases h5
      | true =>
        rw [hk] at h5
        simp only [Bool.and_eq_true] at hk
        have := sameK_eq hk.2
        subst this
        have e3 : (n == m) = true := by rw [← intEq_eq]; exact opt_some h5
        have : n = m := by simpa using e3
        subst this
        exact ⟨rfl, fun n => by cases n <;> simp [Instr.sameBits]⟩
    | _ => cases h
  | bool a => cases y with
    | bool b =>
      have h5 : (bif Nat.beq c 1 then some (a == b) else none) = some true := h
      cases hk : Nat.beq c 1 with
      | false => rw [hk] at h5; cases h5
      | true =>
        rw [hk] at h5
        have : a = b := by simpa using opt_some h5
        subst this
        exact ⟨rfl, fun n => by cases n <;> simp [Instr.sameBits]⟩
    | _ => cases h
  | string a => cases y with
    | string b =>
      have h5 : (bif Nat.beq c 2 then some (byteL (bytesOf a) (bytesOf b)) else none) = some true := h
      cases hk : Nat.beq c 2 with
      | false => rw [hk] at h5; cases h5
      | true =>
        rw [hk] at h5
        have e3 := opt_some h5
        rw [byteL_eq] at e3
        have e4 : bytesOf a = bytesOf b := by simpa using e3
        have : a = b := by
          obtain ⟨⟨a⟩⟩ := a
          obtain ⟨⟨b⟩⟩ := b
          have : a = b := e4
          rw [this]
        subst this
        exact ⟨rfl, fun n => by cases n <;> simp [Instr.sameBits, beq_toListBytes]⟩
    | _ => cases h
  | _ => cases h
theorem sameL_true : ∀ {ks : List Nat} {xs ys : List Value}, sameL ks xs ys = some true → xs = ys ∧ ∀ n, (xs.zip xs).all (fun (p : Value × Value) => Instr.sameBits n p.1 p.2) = true
  | [], [], [], _ => ⟨rfl, fun _ => rfl⟩
  | [], _ :: _, _, h => by cases h
  | [], [], _ :: _, h => by cases h
  | _ :: _, [], _, h => by cases h
  | _ :: _, _ :: _, [], h => by cases h
  | c :: ks, x :: xs, y :: ys, h => by
    simp only [sameL] at h
    cases hs : same1 c x y with
    | none => rw [hs] at h; cases h
    | some b =>
      rw [hs] at h
      cases b with
      | false => cases h
      | true =>
        obtain ⟨rfl, h1⟩ := same1_true hs
        obtain ⟨rfl, h2⟩ := sameL_true (by simpa using h)
        exact ⟨rfl, fun n => by simp only [List.zip_cons_cons, List.all_cons, h1, h2, Bool.and_self]⟩
theorem eqFlat_true {g : Bool} {ks : List Nat} {x y : Value} (h : eqFlat g ks x y = some true) : x = y ∧ Instr.sameBits 10000 x x = true := by
  obtain ⟨xs, ys, h1, h2, h3⟩ := eqFlat_inv h
  obtain ⟨e, h4⟩ := sameL_true h3
  subst e
  cases g with
  | true =>
    have e1 := flatCells_true h1
    have e2 := flatCells_true h2
    subst e1 e2
    refine ⟨rfl, ?_⟩
    show Instr.sameBits (9999 + 1) _ _ = true
    rw [Instr.sameBits]
    simpa using h4 9999
  | false =>
    have e1 := flatCells_false h1
    have e2 := flatCells_false h2
    subst e1
    have e3 : x = y := by injection e2
    subst e3
    have := h4 10000
    simp only [List.zip_cons_cons, List.zip_nil_right, List.all_cons, List.all_nil, Bool.and_true] at this
    exact ⟨rfl, this⟩
/-- what a search gives -/
def FR (φ : Inj) (g : Bool) (ks : List Nat) (k' : Value) (es' : List MapEntry) (i : Nat) (r r' : Option (Nat × Value)) : Prop :=
  match r with
  | none => r' = none
  | some p => ∃ e', i ≤ p.1 ∧ es'[p.1 - i]? = some e' ∧ r' = some (p.1, e'.val) ∧ VR φ p.2 e'.val ∧ eqFlat g ks k' e'.key = some true
theorem findAsking_ok {t : TypeId} {g : Bool} {ks : List Nat} (hf : flatT P 8 t = some ks) (hg : aggOf P t = some g) {k k' : Value} (hk : VR φ k k') : ∀ {es es' : List MapEntry}, ER φ es es' → ∀ (i : Nat) {r : Option (Nat × Value)}, findA (g, ks) k es i = some r →
    ∃ r', (∀ w, (Instr.findAsking t k' es' i).run P w = .ok r' w) ∧ FR φ g ks k' es' i r r'
  | _, _, .nil, i, r, h => by
    simp only [findA] at h
    cases h
    exact ⟨none, fun _ => rfl, rfl⟩
  | _, _, .cons (e := e) (e' := e') (l := l) (l' := l') h1 h2 h3 h4, i, r, h => by
    simp only [findA] at h
    cases hb : eqFlat g ks k e.key with
    | none => rw [hb] at h; cases h
    | some b =>
      rw [hb] at h
      have h5 := eqFlat_VR hb hk h1
      have hrun : ∀ w, (Op.equal t k' e'.key).run P w = .ok b w := eqFlat_run 8 t ks hf g hg 10000 (by omega) k' e'.key b h5
      cases b with
      | true =>
        cases h
        exact ⟨some (i, e'.val), fun w => by simp [Instr.findAsking, hrun], e', Nat.le_refl _, by simp, rfl, h2, h5⟩
      | false =>
        obtain ⟨r', q1, q2⟩ := findAsking_ok hf hg hk h4 (i + 1) h
        refine ⟨r', fun w => by simp [Instr.findAsking, hrun, q1], ?_⟩
        cases r with
        | none => exact q2
        | some p =>
          obtain ⟨e2, g1, g2, g3⟩ := q2
          refine ⟨e2, by omega, ?_, g3⟩
          rw [show p.1 - i = (p.1 - (i + 1)) + 1 from by omega]
          exact g2
theorem findNow_ok {t : TypeId} {d : TypeDesc} (hu : P.underlying t = some d) {k' : Value} : ∀ (es : List MapEntry) (i : Nat) {r : Option (Nat × Value)}, Instr.findNow d k' es i = some r → ∀ w, (Instr.findAsking t k' es i).run P w = .ok r w
  | [], i, r, h, w => by
    simp only [Instr.findNow] at h
    cases h; rfl
  | e :: es, i, r, h, w => by
    simp only [Instr.findNow] at h
    cases hs : Instr.sameNow d k' e.key with
    | none => rw [hs] at h; cases h
    | some b =>
      have hrun : (Op.equal t k' e.key).run P w = .ok b w := by
        show (Op.equalIn (9999 + 1) t k' e.key).run P w = _
        generalize 9999 = D
        generalize e.key = y at hs
        unfold Instr.sameNow at hs
        split at hs
        · split at hs
          · rename_i hj
            subst hj
            rw [run_equalIn_int w D t _ _ _ _ hu, ← opt_some hs]
          · cases hs
        · rw [run_equalIn_string w D t _ _ hu, ← opt_some hs, beq_toListBytes]
        · rw [run_equalIn_bool w D t _ _ hu, ← opt_some hs]
        · cases hs
      rw [hs] at h
      cases b with
      | true => cases h; simp [Instr.findAsking, hrun]
      | false => simp [Instr.findAsking, hrun, findNow_ok hu es (i + 1) h]
theorem findKey_ok {t : TypeId} {g : Bool} {ks : List Nat} (hf : flatT P 8 t = some ks) (hg : aggOf P t = some g) {k k' : Value} (hk : VR φ k k') {es es' : List MapEntry} (he : ER φ es es') {r : Option (Nat × Value)} (h : findA (g, ks) k es 0 = some r) (w : World) :
    ∃ r', (Instr.findKey t k' es').run P w = .ok r' w ∧ FR φ g ks k' es' 0 r r' := by
  obtain ⟨r', h1, h2⟩ := findAsking_ok hf hg hk he 0 h
  refine ⟨r', ?_, h2⟩
  obtain ⟨d', _, _, hc⟩ := flatT_some hf
  have hu : ∃ d, P.underlying t = some d := by
    rcases hc with ⟨c, dd, _, hu, _⟩ | ⟨fs, hu, _⟩ | ⟨n, e, k1, hu, _⟩ <;> exact ⟨_, hu⟩
  obtain ⟨d, hu⟩ := hu
  simp only [Instr.findKey, Sem.run_bind, run_underlying' hu, Result.andThen_ok]
  cases hn : Instr.findNow d k' es' 0 with
  | none => exact h1 w
  | some r2 =>
    have := findNow_ok hu es' 0 hn w
    rw [h1 w] at this
    injection this with this
    subst this
    rfl
theorem mapOf_some {t : TypeId} {p : TypeId × KeyT} (h : mapOf P t = some p) : ∃ k, P.underlying t = some (.map k p.1) ∧ flatT P 8 k = some p.2.2 ∧ aggOf P k = some p.2.1 := by
  unfold mapOf at h
  split at h
  · rename_i k e hu
    cases hk : keyOf P k with
    | none => rw [hk] at h; cases h
    | some kt =>
      rw [hk] at h
      cases h
      unfold keyOf at hk
      cases hf : flatT P 8 k with
      | none => rw [hf] at hk; cases hk
      | some ks =>
        rw [hf] at hk
        simp only at hk
        cases hg : aggOf P k with
        | none => rw [hg] at hk; cases hk
        | some b => rw [hg] at hk; cases hk; exact ⟨k, hu, hf, hg⟩
  · cases h
theorem keyFits_ok {kt : KeyT} {k k' : Value} (h : keyFits kt k = true) (hk : VR φ k k') {t : TypeId} (hg : aggOf P t = some kt.1) : aggOf P t = some true → ∃ xs, k' = .agg ⟨xs⟩ ∧ xs.length = kt.2.length := by
  intro ht
  rw [hg] at ht
  have ht := opt_some ht
  unfold keyFits at h
  cases hc : flatCells kt.1 k with
  | none => rw [hc] at h; cases h
  | some cs =>
    rw [hc] at h
    rw [ht] at hc
    have := flatCells_true hc
    subst this
    have hl := Nat.eq_of_beq_eq_true h
    rw [lenL0] at hl
    cases hk with
    | agg hk => exact ⟨_, rfl, by rw [← hk.length, hl, lenL0]⟩
theorem entries_ok (hM : MR P φ A w) {r r' : Nat} (hr : BlkR φ r r') {p : List MapEntry × Nat} (h : entriesA A r = some p) : ∃ n s d es', φ r = some (.at_ r' n s d) ∧ (getObj r').run P w = .ok (.map ⟨es'⟩ p.2) w ∧ ER φ p.1 es' := by
  unfold entriesA at h
  cases hg : A.heap.get r with
  | none => rw [hg] at h; cases h
  | some o =>
    rw [hg] at h
    cases o with
    | map es c =>
      cases h
      obtain ⟨n, s, d, oc, h1, h2, es', rfl, h4⟩ := hM.objB hr hg
      exact ⟨n, s, d, es', h1, run_getObj h2 (by intro a b c h; cases h), h4⟩
    | _ => cases h
theorem lookup_ok (hM : MR P φ A w) (t : TypeId) (ok : Bool) {m m' k k' : Value} (hm : VR φ m m') (hk : VR φ k k') :
    OpOk P φ A w (lookupA P A t m k ok) ((do pure (.value (← Instr.lookup t m' k' ok) : Next) : Sem Next).run P w) := by
  unfold lookupA
  cases hmo : mapOf P t with
  | none => exact trivial
  | some p =>
    obtain ⟨kt, hu, hf, hg⟩ := mapOf_some hmo
    simp only
    cases hfit : keyFits p.2 k with
    | false => exact trivial
    | true =>
      have hck := keyFits_ok hfit hk hg
      simp only [cond_true]
      have key : ∀ (es : List MapEntry) (es' : List MapEntry), ER φ es es' → lookIn A p.2 m k = findA p.2 k es 0 →
          ((Instr.lookup t m' k' ok).run P w = ((Instr.checkKey (⟨es'⟩ : Array MapEntry).isEmpty 10000 kt k').run P w).andThen fun _ w' => ((Instr.findKey kt k' es').run P w').andThen fun a w' => (match a with
              | some (_, v) => pure (if ok then .tuple #[v, .bool true] else v)
              | none => do let z ← zeroValue p.1; pure (if ok then .tuple #[z, .bool false] else z) : Sem Value).run P w') → OpOk P φ A w (lookR P A p.1 ok (lookIn A p.2 m k)) ((do pure (.value (← Instr.lookup t m' k' ok) : Next) : Sem Next).run P w) := by
        intro es es' he hl hr
        rw [hl]
        cases hfa : findA p.2 k es 0 with
        | none => exact trivial
        | some r =>
          obtain ⟨r', q1, q2⟩ := findKey_ok (g := p.2.1) (ks := p.2.2) hf hg hk he hfa w
          rw [checkKey_run _ 8 kt p.2.2 hf 10000 (by omega) k' hck] at hr
          simp only [Result.andThen_ok, q1] at hr
          simp only [lookR]
          cases r with
          | none =>
            have : r' = none := q2
            subst this
            simp only
            cases hz : zeroA P p.1 with
            | none => exact trivial
            | some z =>
              obtain ⟨_, _, _, h3, _⟩ := zeroA_some hz
              refine OpOk.same hM (lookV_VR (b := false) (h3 φ)) (run_v ?_)
              rw [hr]
              cases ok <;> simp [run_zeroValue hz]
          | some pr =>
            obtain ⟨e', _, _, rfl, hv, _⟩ := q2
            refine OpOk.same hM (lookV_VR (b := true) hv) (run_v ?_)
            rw [hr]
            cases ok <;> simp
      cases hm with
      | mapNil => exact key [] [] .nil rfl (by unfold Instr.lookup; simp only [Sem.run_bind, run_underlying' hu, Result.andThen_ok, Sem.run_pure]; exact congrArg _ (funext fun _ => funext fun _ => congrArg _ (funext fun a => funext fun _ => by cases a <;> rfl)))
      | map hr =>
        rename_i r r'
        cases hen : entriesA A r with
        | none =>
          have : lookIn A p.2 (.map (some r)) k = none := by simp only [lookIn, hen]
          rw [this]; exact trivial
        | some q =>
          obtain ⟨n, s, d, es', h1, h2, h3⟩ := entries_ok hM hr hen
          exact key q.1 es' h3 (by simp only [lookIn, hen, findF_eq]) (by unfold Instr.lookup; simp only [Sem.run_bind, run_underlying' hu, Result.andThen_ok, Sem.run_pure, h2]; exact congrArg _ (funext fun _ => funext fun _ => congrArg _ (funext fun a => funext fun _ => by cases a <;> rfl)))
      | _ => exact trivial
theorem modVal_nil (i : Nat) (v : Value) : modVal [] i v = [] := rfl
theorem modVal_zero (e : MapEntry) (es : List MapEntry) (v : Value) : modVal (e :: es) 0 v = ⟨e.key, v, e.born⟩ :: es := rfl
theorem modVal_succ (e : MapEntry) (es : List MapEntry) (i : Nat) (v : Value) : modVal (e :: es) (i + 1) v = e :: modVal es i v := rfl
theorem modVal_ER {es es' : List MapEntry} (he : ER φ es es') : ∀ {i : Nat} {e' : MapEntry}, es'[i]? = some e' → ∀ {x x' : Value}, VR φ x x' → ER φ (modVal es i x) (es'.modify i fun e => { e with key := e'.key, val := x' }) := by
  induction he with
  | nil => intro i e' h; simp at h
  | cons hk hv hb h ih =>
    intro i e' hi x x' hx
    cases i with
    | zero =>
      simp at hi
      subst hi
      simp only [modVal_zero, List.modify_zero_cons]
      exact .cons hk hx hb h
    | succ i =>
      simp only [modVal_succ, List.modify_succ_cons]
      exact .cons hk hv hb (ih (by simpa using hi) hx)
theorem ER.append {l l' m m' : List MapEntry} (h : ER φ l l') (k : ER φ m m') : ER φ (l ++ m) (l' ++ m') := by
  induction h with
  | nil => exact k
  | cons hk hv hb _ ih => exact .cons hk hv hb ih
theorem run_u {s : Sem Unit} {w' : World} (h : s.run P w = .ok () w') : (do s; pure .skip : Sem Next).run P w = .ok .skip w' := by simp [h]
theorem mapUpdate_ok (hM : MR P φ A w) (t : TypeId) {m m' k k' x x' : Value} (hm : VR φ m m') (hk : VR φ k k') (hx : VR φ x x') :
    OpOk P φ A w (mapUpdateA P A t m k x) ((do Instr.mapUpdate t m' k' x'; pure .skip : Sem Next).run P w) := by
  unfold mapUpdateA
  cases hmo : mapOf P t with
  | none => exact trivial
  | some q =>
    obtain ⟨kt, hu, hf, hg⟩ := mapOf_some hmo
    simp only
    cases hfit : keyFits q.2 k with
    | false => exact trivial
    | true =>
      have hck := keyFits_ok hfit hk hg
      simp only [cond_true]
      cases hm with
      | mapNil => exact trivial
      | map hr =>
        rename_i r r'
        simp only
        cases hen : entriesA A r with
        | none => exact trivial
        | some p =>
          obtain ⟨n, s, d, es', h1, h2, h3⟩ := entries_ok hM hr hen
          simp only [findF_eq]
          cases hfa : findA q.2 k p.1 0 with
          | none => exact trivial
          | some f =>
            obtain ⟨f', q1, q2⟩ := findKey_ok (g := q.2.1) (ks := q.2.2) hf hg hk h3 hfa w
            have hset : ∀ o : Obj, (∃ o0, w.heap[r']? = some o0 ∧ ∀ a b c, o0 ≠ .cells a b c) → (setObj r' o).run P w = .ok () (setBlk w r' o) := by
              rintro o ⟨o0, g1, g2⟩
              unfold setObj
              simp only [Sem.run, g1]
              rfl
            have hold : ∃ o0, w.heap[r']? = some o0 ∧ ∀ a b c, o0 ≠ .cells a b c := by
              obtain ⟨o, oc, g1, g2, g3⟩ := hM.obj _ _ _ _ _ h1
              have g4 : o = .map p.1 p.2 := by
                unfold entriesA at hen
                rw [g1] at hen
                cases o with
                | map es c => cases hen; rfl
                | _ => cases hen
              subst g4
              obtain ⟨es2, g5, _⟩ := g3
              exact ⟨oc, g2, by rw [g5]; intro a b c h; cases h⟩
            have fin : ∀ (esA : List MapEntry) (esC : List MapEntry) (c : Nat), ER φ esA esC → (Instr.mapUpdate t (.map (some r')) k' x').run P w = (setObj r' (.map ⟨esC⟩ c)).run P w →
                OpOk P φ A w (setMap A r esA c undef) ((do Instr.mapUpdate t (.map (some r')) k' x'; pure .skip : Sem Next).run P w) := by
              intro esA esC c he hrun
              unfold setMap
              cases hp : putO A r (.map esA c) with
              | none => exact trivial
              | some A' =>
                obtain ⟨hlim, rfl⟩ := putO_some hp
                obtain ⟨s1, s2⟩ := hM.set (o := .map esA c) (oc := .map ⟨esC⟩ c) h1 hlim (n' := n) (s' := s) (d' := d) ⟨esC, rfl, he⟩ ⟨rfl, rfl, rfl⟩
                exact ⟨φ, _, s1, s2, .inr ⟨run_u (hrun.trans (hset _ hold)), rfl⟩⟩
            have hrun0 : (Instr.mapUpdate t (.map (some r')) k' x').run P w = ((match f' with
                | some (i, _) => do
                  let key ← Instr.keyThatStays ((((⟨es'⟩ : Array MapEntry)[i]?).map (·.key)).getD k') k'
                  setObj r' (.map ((⟨es'⟩ : Array MapEntry).modify i fun e => { e with key, val := x' }) p.2)
                | none => setObj r' (.map ((⟨es'⟩ : Array MapEntry).push { key := k', val := x', born := p.2 }) (p.2 + 1)) : Sem Unit)).run P w := by
              unfold Instr.mapUpdate
              simp only [Sem.run_bind, run_underlying' hu, Result.andThen_ok, h2]
              rw [checkKey_run _ 8 kt q.2.2 hf 10000 (by omega) k' hck]
              simp only [Result.andThen_ok, q1]
              cases f' <;> simp
            simp only [mapUpdateB]
            cases f with
            | none =>
              have : f' = none := q2
              subst this
              simp only [appL_eq]
              refine fin _ (es' ++ [{ key := k', val := x', born := p.2 }]) _ (h3.append (.cons hk hx rfl .nil)) (hrun0.trans ?_)
              simp
            | some pr =>
              obtain ⟨e', _, g1, rfl, hv, g2⟩ := q2
              obtain ⟨rfl, g3⟩ := eqFlat_true g2
              simp only [Nat.sub_zero] at g1
              refine fin _ (es'.modify pr.1 fun e => { e with key := e'.key, val := x' }) _ (modVal_ER h3 g1 hx) (hrun0.trans ?_)
              have g4 : (⟨es'⟩ : Array MapEntry)[pr.1]? = some e' := by simpa using g1
              simp only [g4, Option.map_some, Option.getD_some, Instr.keyThatStays, g3, if_true, Sem.run_bind, Sem.run_pure, Result.andThen_ok]
              congr 3
              apply Array.ext'
              simp
      | _ => exact trivial
theorem bornAt_eq (es : List MapEntry) (i : Nat) : bornAt es i = (es[i]?).map (·.born) := by
  unfold bornAt
  rw [nth_eq]
  cases es[i]? <;> rfl
theorem ER.born {es es' : List MapEntry} (he : ER φ es es') : ∀ {i : Nat} {e' : MapEntry}, es'[i]? = some e' → (es[i]?).map (·.born) = some e'.born := by
  induction he with
  | nil => intro i e' h; simp at h
  | cons hk hv hb h ih =>
    intro i e' hi
    cases i with
    | zero => simp at hi; subst hi; simp [hb]
    | succ i => simpa using ih (by simpa using hi)
theorem modKey_same : ∀ {es : List MapEntry} {i : Nat} {e' : MapEntry}, es[i]? = some e' → (es.modify i fun e => { e with key := e'.key }) = es
  | [], i, e', h => by simp at h
  | e :: es, 0, e', h => by simp at h; subst h; simp
  | e :: es, i + 1, e', h => by
    rw [List.modify_succ_cons, modKey_same (by simpa using h)]
theorem run_setObj {r' : Nat} (o : Obj) (h : ∃ o0, w.heap[r']? = some o0 ∧ ∀ a b c, o0 ≠ .cells a b c) : (setObj r' o).run P w = .ok () (setBlk w r' o) := by
  obtain ⟨o0, g1, g2⟩ := h
  unfold setObj
  simp only [Sem.run, g1]
  rfl
theorem old_map (hM : MR P φ A w) {r r' n s d : Nat} (h1 : φ r = some (.at_ r' n s d)) {p : List MapEntry × Nat} (hen : entriesA A r = some p) : ∃ o0, w.heap[r']? = some o0 ∧ ∀ a b c, o0 ≠ .cells a b c := by
  obtain ⟨o, oc, g1, g2, g3⟩ := hM.obj _ _ _ _ _ h1
  have g4 : o = .map p.1 p.2 := by
    unfold entriesA at hen
    rw [g1] at hen
    cases o with
    | map es c => cases hen; rfl
    | _ => cases hen
  subst g4
  obtain ⟨es2, g5, _⟩ := g3
  exact ⟨oc, g2, by rw [g5]; intro a b c h; cases h⟩
theorem mapEntry_ok (hM : MR P φ A w) (t : TypeId) {m m' k k' : Value} (hm : VR φ m m') (hk : VR φ k k') :
    OpOk P φ A w (mapEntryA P A t m k) ((do pure (.value (← Instr.mapEntry t m' k') : Next) : Sem Next).run P w) := by
  unfold mapEntryA
  cases hmo : mapOf P t with
  | none => exact trivial
  | some q =>
    obtain ⟨kt, hu, hf, hg⟩ := mapOf_some hmo
    simp only
    cases hfit : keyFits q.2 k with
    | false => exact trivial
    | true =>
      have hck := keyFits_ok hfit hk hg
      simp only [cond_true]
      cases hm with
      | mapNil => exact trivial
      | map hr =>
        rename_i r r'
        simp only
        cases hen : entriesA A r with
        | none => exact trivial
        | some p =>
          obtain ⟨n, s, d, es', h1, h2, h3⟩ := entries_ok hM hr hen
          simp only [findF_eq]
          cases hfa : findA q.2 k p.1 0 with
          | none => exact trivial
          | some f =>
            obtain ⟨f', q1, q2⟩ := findKey_ok (g := q.2.1) (ks := q.2.2) hf hg hk h3 hfa w
            have hold := old_map hM h1 hen
            have fin : ∀ (esA : List MapEntry) (esC : List MapEntry) (c : Nat) (v v' : Value), VR φ v v' → ER φ esA esC → (Instr.mapEntry t (.map (some r')) k').run P w = ((setObj r' (.map ⟨esC⟩ c)).run P w).andThen (fun _ w' => .ok v' w') →
                OpOk P φ A w (setMap A r esA c v) ((do pure (.value (← Instr.mapEntry t (.map (some r')) k') : Next) : Sem Next).run P w) := by
              intro esA esC c v v' hv he hrun
              unfold setMap
              cases hp : putO A r (.map esA c) with
              | none => exact trivial
              | some A' =>
                obtain ⟨hlim, rfl⟩ := putO_some hp
                obtain ⟨s1, s2⟩ := hM.set (o := .map esA c) (oc := .map ⟨esC⟩ c) h1 hlim (n' := n) (s' := s) (d' := d) ⟨esC, rfl, he⟩ ⟨rfl, rfl, rfl⟩
                exact ⟨φ, _, s1, s2, .inl ⟨v', run_v (by rw [hrun, run_setObj _ hold]; rfl), hv⟩⟩
            have hrun0 : (Instr.mapEntry t (.map (some r')) k').run P w = ((match f' with
                | some (i, v) => do
                  let key ← Instr.keyThatStays ((((⟨es'⟩ : Array MapEntry)[i]?).map (·.key)).getD k') k'
                  setObj r' (.map ((⟨es'⟩ : Array MapEntry).modify i fun e => { e with key }) p.2)
                  pure (.tuple #[v, goInt ((((⟨es'⟩ : Array MapEntry)[i]?).map (·.born)).getD 0)])
                | none => do
                  let zero ← zeroValue q.1
                  setObj r' (.map ((⟨es'⟩ : Array MapEntry).push { key := k', val := zero, born := p.2 }) (p.2 + 1))
                  pure (.tuple #[zero, goInt p.2]) : Sem Value)).run P w := by
              unfold Instr.mapEntry
              simp only [Sem.run_bind, run_underlying' hu, Result.andThen_ok, h2]
              rw [checkKey_run _ 8 kt q.2.2 hf 10000 (by omega) k' hck]
              simp only [Result.andThen_ok, q1]
              cases f' <;> simp
            simp only [mapEntryB]
            cases f with
            | none =>
              have : f' = none := q2
              subst this
              simp only [appL_eq]
              cases hz : zeroA P q.1 with
              | none => exact trivial
              | some z =>
                obtain ⟨_, _, _, z3, _⟩ := zeroA_some hz
                refine fin _ (es' ++ [{ key := k', val := z, born := p.2 }]) _ _ (.tuple ⟨[z, goInt p.2]⟩) (.tuple (.cons (z3 φ) (.cons (.int _ _) .nil))) (h3.append (.cons hk (z3 φ) rfl .nil)) (hrun0.trans ?_)
                simp only [Sem.run_bind, run_zeroValue hz, Result.andThen_ok, Sem.run_pure]
                simp
            | some pr =>
              obtain ⟨e', _, g1, rfl, hv, g2⟩ := q2
              obtain ⟨rfl, g3⟩ := eqFlat_true g2
              simp only [Nat.sub_zero] at g1
              have hb : bornAt p.1 pr.1 = some e'.born := (bornAt_eq _ _).trans (h3.born g1)
              simp only [hb]
              refine fin _ es' _ _ (.tuple ⟨[e'.val, goInt e'.born]⟩) (.tuple (.cons hv (.cons (.int _ _) .nil))) h3 (hrun0.trans ?_)
              have g4 : (⟨es'⟩ : Array MapEntry)[pr.1]? = some e' := by simpa using g1
              simp only [g4, Option.map_some, Option.getD_some, Instr.keyThatStays, g3, if_true, Sem.run_bind, Sem.run_pure, Result.andThen_ok]
              have g5 : ((⟨es'⟩ : Array MapEntry).modify pr.1 fun e => { e with key := e'.key }) = ⟨es'⟩ := by
                apply Array.ext'
                simpa using modKey_same g1
              rw [g5]
      | _ => exact trivial
theorem findBorn_ok {es es' : List MapEntry} (he : ER φ es es') (b : Nat) : ∀ (k : Nat) {i : Nat}, findBorn b es k = some i → k ≤ i ∧ es'.findIdx? (fun e => (e.born : Int) == (b : Int)) = some (i - k) := by
  induction he with
  | nil => intro k i h; cases h
  | cons hk hv hb h ih =>
    rename_i e e' l l'
    intro k i hi
    have hi : (bif Nat.beq e.born b then some k else findBorn b l (k + 1)) = some i := by
      rw [← hi]
      show _ = Bool.rec (motive := fun _ => Option Nat) (findBorn b l (k + 1)) (some k) (Nat.beq e.born b)
      rw [bool_rec]
      cases Nat.beq e.born b <;> rfl
    cases hq : Nat.beq e.born b with
    | true =>
      rw [hq] at hi
      cases hi
      have : e'.born = b := by rw [← hb]; exact Nat.eq_of_beq_eq_true hq
      refine ⟨Nat.le_refl _, ?_⟩
      rw [List.findIdx?_cons]
      simp [this]
    | false =>
      rw [hq] at hi
      obtain ⟨h1, h2⟩ := ih (k + 1) hi
      have hne : ¬ (e'.born = b) := fun h3 => by
        rw [← hb] at h3
        rw [h3, Nat.beq_refl] at hq
        cases hq
      refine ⟨by omega, ?_⟩
      rw [List.findIdx?_cons, h2]
      have : ((e'.born : Int) == (b : Int)) = false := by
        rw [beq_eq_false_iff_ne]
        intro h3
        exact hne (by omega)
      simp only [this]
      simp
      omega
theorem modVal_ER' {es es' : List MapEntry} (he : ER φ es es') : ∀ (i : Nat) {x x' : Value}, VR φ x x' → ER φ (modVal es i x) (es'.modify i fun e => { e with val := x' }) := by
  induction he with
  | nil => intro i x x' hx; simp [modVal_nil]; exact .nil
  | cons hk hv hb h ih =>
    intro i x x' hx
    cases i with
    | zero => simp only [modVal_zero, List.modify_zero_cons]; exact .cons hk hx hb h
    | succ i => simp only [modVal_succ, List.modify_succ_cons]; exact .cons hk hv hb (ih i hx)
theorem entryStore_ok (hM : MR P φ A w) (t : TypeId) {m m' s s' x x' : Value} (hm : VR φ m m') (hs : VR φ s s') (hx : VR φ x x') :
    OpOk P φ A w (entryStoreA A m s x) ((do Instr.entryStore t m' s' x'; pure .skip : Sem Next).run P w) := by
  cases hm with
  | mapNil => exact trivial
  | map hr =>
    rename_i r r'
    simp only [entryStoreA]
    cases hn : natA s with
    | none => exact trivial
    | some b =>
      obtain ⟨k1, rfl⟩ := natA_some hn
      have e1 := VR_int hs
      subst e1
      simp only
      cases hen : entriesA A r with
      | none => exact trivial
      | some p =>
        obtain ⟨n, sz, d, es', h1, h2, h3⟩ := entries_ok hM hr hen
        simp only
        cases hfb : findBorn b p.1 0 with
        | none => exact trivial
        | some i =>
          obtain ⟨_, g1⟩ := findBorn_ok h3 b 0 hfb
          simp only [Nat.sub_zero] at g1
          have hold := old_map hM h1 hen
          simp only [entryStoreB, setMap]
          cases hp : putO A r (.map (modVal p.1 i x) p.2) with
          | none => exact trivial
          | some A' =>
            obtain ⟨hlim, rfl⟩ := putO_some hp
            obtain ⟨s1, s2⟩ := hM.set (o := .map (modVal p.1 i x) p.2) (oc := .map ⟨es'.modify i fun e => { e with val := x' }⟩ p.2) h1 hlim (n' := n) (s' := sz) (d' := d) ⟨_, rfl, modVal_ER' h3 i hx⟩ ⟨rfl, rfl, rfl⟩
            refine ⟨φ, _, s1, s2, .inr ⟨run_u ?_, rfl⟩⟩
            unfold Instr.entryStore
            have hint : (asInt (.int k1 (b : Int))).run P w = .ok (b : Int) w := rfl
            have g2 : (⟨es'⟩ : Array MapEntry).findIdx? (fun e => (e.born : Int) == (b : Int)) = some i := by
              rw [← List.findIdx?_toArray] at g1
              exact g1
            simp only [Sem.run_bind, h2, Result.andThen_ok, hint, g2]
            rw [run_setObj _ hold]
            congr 3
            apply Array.ext'
            simp
  | _ => exact trivial
end Go.Sh
