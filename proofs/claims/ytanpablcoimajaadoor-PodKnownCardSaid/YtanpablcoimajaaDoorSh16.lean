/- Part of a proof by a machine of ones own: see the text with the theorem. -/
import Derived.Test.YtanpablcoimajaaDoorSh15
namespace Go.Sh
open Go
variable {P : Program} {φ : Inj} {A : AW} {w : World}

/-- == and != of two values, and what they ask before -/
def EqGives (P : Program) (w : World) (c : Bool) (t : TypeId) (x y : Value) (b : Bool) : Prop :=
  (binOp .eql t x y).run P w = .ok (.bool b) w ∧ (binOp .neq t x y).run P w = .ok (.bool (!b)) w ∧
  ∀ (op : BinOp) (xo yo : Operand), c = (isConst xo || isConst yo) → (eqGuard op t xo yo x y).run P w = .ok () w
theorem EqGives.of {c b : Bool} {t : TypeId} {x y : Value} (h : ∀ D, 9 ≤ D → (Op.equalIn (D + 1) t x y).run P w = .ok b w)
    (h1 : binOp .eql t x y = (do pure (.bool (← Op.equal t x y)))) (h2 : binOp .neq t x y = (do pure (.bool (!(← Op.equal t x y)))))
    (hg : ∀ (op : BinOp) (xo yo : Operand), c = (isConst xo || isConst yo) → (eqGuard op t xo yo x y).run P w = .ok () w) : EqGives P w c t x y b := by
  have h' : (Op.equal t x y).run P w = .ok b w := h 9999 (by decide)
  exact ⟨by rw [h1]; simp [h'], by rw [h2]; simp [h'], hg⟩
theorem guard_plain {t : TypeId} {x y : Value} (h : ∀ (op : BinOp) (xo yo : Operand), eqGuard op t xo yo x y = if !(op matches .eql | .neq) then pure () else pure ()) (op : BinOp) (xo yo : Operand) : (eqGuard op t xo yo x y).run P w = .ok () w := by
  rw [h]
  split <;> rfl
theorem eqFlat_gives {c g b : Bool} {t : TypeId} {ks : List Nat} {d : Nat} (hf : flatT P d t = some ks) (hd : d ≤ 8) (hg : aggOf P t = some g) (hG : g = true → P.eqGuardType P.depth t = false) {x y : Value} (h : eqFlat g ks x y = some b) : EqGives P w c t x y b := by
  have hrun : ∀ D, 9 ≤ D → (Op.equalIn (D + 1) t x y).run P w = .ok b w := fun D hD => eqFlat_run d t ks hf g hg (D + 1) (by omega) x y b h w
  obtain ⟨xs, ys, h1, h2, h3⟩ := eqFlat_inv h
  cases g with
  | true =>
    have e1 := flatCells_true h1
    have e2 := flatCells_true h2
    subst e1 e2
    exact .of hrun rfl rfl fun op xo yo _ => run_eqGuard_agg w op t xo yo _ _ (hG rfl)
  | false =>
    have e1 := flatCells_false h1
    have e2 := flatCells_false h2
    subst e1 e2
    obtain ⟨c', rest, rfl, b', h4⟩ := sameL_one h3
    obtain ⟨d', rfl, _, hcase⟩ := flatT_some hf
    have hrest : rest = [] := by
      rcases hcase with ⟨c1, dd, h5, _⟩ | ⟨fs, _, _, _, h5⟩ | ⟨n, e, k1, _, _, _, h5⟩
      · cases h5; rfl
      · rw [hg] at h5; cases h5
      · rw [hg] at h5; cases h5
    subst hrest
    have hb : b' = b := by
      simp only [sameL, h4] at h3
      cases b' <;> simpa using h3
    subst hb
    cases x with
    | int k n => cases y with
      | int j m =>
        have h5 : (bif Nat.beq c' 0 && sameK k j then some (intEq n m) else none) = some b' := h4
        cases hk : (Nat.beq c' 0 && sameK k j) with
        | false => rw [hk] at h5; cases h5
        | true =>
          rw [hk] at h5
          simp only [Bool.and_eq_true] at hk
          have := sameK_eq hk.2
          subst this
          have e3 : (n == m) = b' := by rw [← intEq_eq]; exact opt_some h5
          refine ⟨?_, ?_, fun op xo yo _ => guard_plain (fun op xo yo => rfl) op xo yo⟩
          · rw [← e3]; simp [binOp, Op.intCmp]
          · rw [← e3]; simp [binOp, Op.intCmp]; rfl
      | _ => cases h4
    | bool a => cases y with
      | bool a' => exact .of hrun rfl rfl fun op xo yo _ => guard_plain (fun op xo yo => rfl) op xo yo
      | _ => cases h4
    | string a => cases y with
      | string a' =>
        have h4 : (bif Nat.beq c' 2 then some (byteL (bytesOf a) (bytesOf a')) else none) = some b' := h4
        cases hk : Nat.beq c' 2 with
        | false => rw [hk] at h4; cases h4
        | true =>
          rw [hk] at h4
          have e3 : (a.toList == a'.toList) = b' := by rw [toList_bytes, toList_bytes, ← byteL_eq]; exact opt_some h4
          refine ⟨?_, ?_, fun op xo yo _ => guard_plain (fun op xo yo => rfl) op xo yo⟩
          · rw [← e3]; show (Op.stringOp .eql a a').run P w = _; rfl
          · rw [← e3]; show (Op.stringOp .neq a a').run P w = _; rfl
      | _ => cases h4
    | _ => cases h4
theorem live_some {b : Nat} (h : isLive A b = true) : ∃ o, A.heap.get b = some o := by
  unfold isLive at h
  cases hg : A.heap.get b with
  | none => rw [hg] at h; cases h
  | some o => exact ⟨o, rfl⟩
theorem eqPtr_run (hM : MR P φ A w) {t e : TypeId} {n : Nat} (hu : P.underlying t = some (.pointer e)) (hs : szOf P e = some (n + 1)) {x x' y y' : Value} (hx : VR φ x x') (hy : VR φ y y') {b : Bool} (h : eqPtr A x y = some b) (D : Nat) :
    (Op.equalIn (D + 1) t x' y').run P w = .ok b w ∧ ∃ p q, x' = .pointer p ∧ y' = .pointer q := by
  cases hx with
  | ptrNil =>
    cases hy with
    | ptrNil => cases h; exact ⟨by simp [Op.equalIn, run_underlying' hu], _, _, rfl, rfl⟩
    | ptr hb => cases h; exact ⟨by simp [Op.equalIn, run_underlying' hu], _, _, rfl, rfl⟩
    | _ => cases h
  | ptr ha =>
    rename_i a a'
    cases hy with
    | ptrNil => cases h; exact ⟨by simp [Op.equalIn, run_underlying' hu], _, _, rfl, rfl⟩
    | ptr hb =>
      rename_i c c'
      simp only [eqPtr, ptrSame] at h
      cases hc : (Nat.beq a.block c.block && isLive A a.block) with
      | false => rw [hc] at h; cases h
      | true =>
        rw [hc] at h
        simp only [Bool.and_eq_true] at hc
        have hbl := Nat.eq_of_beq_eq_true hc.1
        obtain ⟨o, hg⟩ := live_some hc.2
        obtain ⟨c1, n1, s1, d1, oc, g1, g2, g3⟩ := hM.live hg ha.ne
        have ea : a'.block = c1 ∧ a'.off = a.off + d1 ∧ a'.spot = none := by
          rcases ha with h | ⟨_, _, _, _, h, h2, h3, h4⟩
          · rw [g1] at h; cases h
          · rw [g1] at h; injection h with h; injection h with e1 e2 e3 e4; subst e1 e4; exact ⟨h2, h3, h4⟩
        have ec : c'.block = c1 ∧ c'.off = c.off + d1 ∧ c'.spot = none := by
          rcases hb with h | ⟨_, _, _, _, h, h2, h3, h4⟩
          · rw [← hbl, g1] at h; cases h
          · rw [← hbl, g1] at h; injection h with h; injection h with e1 e2 e3 e4; subst e1 e4; exact ⟨h2, h3, h4⟩
        refine ⟨?_, _, _, rfl, rfl⟩
        have e5 : (a' == c') = Nat.beq a.off c.off := by
          by_cases e : a.off = c.off
          · have : a' = c' := by cases a'; cases c'; simp_all
            rw [this, e]; simp
          · have h1 : a' ≠ c' := by rintro rfl; omega
            have h2 : Nat.beq a.off c.off = false := by
              cases hq : Nat.beq a.off c.off with
              | false => rfl
              | true => exact absurd (Nat.eq_of_beq_eq_true hq) e
            rw [h2]; exact beq_eq_false_iff_ne.2 h1
        have e6 : a'.block = c'.block := ea.1.trans ec.1.symm
        rw [← opt_some h]
        simp [Op.equalIn, run_underlying' hu, run_sizeOf hs, sameAddr, e6, e5]
    | _ => cases h
  | _ => cases h
theorem eqKind_flat {t : TypeId} {g : Bool} {ks : List Nat} (h : eqKind P t = .flat g ks) : flatT P 8 t = some ks ∧ aggOf P t = some g ∧ (g = true → P.eqGuardType P.depth t = false) := by
  unfold eqKind at h
  cases hf : flatT P 8 t with
  | none =>
    rw [hf] at h
    simp only [eqKindB] at h
    split at h
    · split at h <;> cases h
    all_goals cases h
  | some k =>
    rw [hf] at h
    simp only at h
    cases ha : aggOf P t with
    | none => rw [ha] at h; cases h
    | some b =>
      rw [ha] at h
      simp only at h
      cases hb : (b && P.eqGuardType P.depth t) with
      | true => rw [hb] at h; cases h
      | false =>
        rw [hb] at h
        cases h
        refine ⟨rfl, rfl, fun hg => ?_⟩
        subst hg
        simpa using hb
theorem eqKind_other {t : TypeId} {k : EqKind} (h : eqKind P t = k) (hk : k ≠ .no) (hf : ∀ g ks, k ≠ .flat g ks) : eqKindB P t = k := by
  unfold eqKind at h
  cases hf' : flatT P 8 t with
  | none => rw [hf'] at h; exact h
  | some ks =>
    rw [hf'] at h
    simp only at h
    cases ha : aggOf P t with
    | none => rw [ha] at h; exact absurd h.symm hk
    | some b =>
      rw [ha] at h
      simp only at h
      cases hb : (b && P.eqGuardType P.depth t) with
      | true => rw [hb] at h; exact absurd h.symm hk
      | false => rw [hb] at h; exact absurd h.symm (hf _ _)
theorem eqKindB_some {t : TypeId} {k : EqKind} (h : eqKindB P t = k) (hk : k ≠ .no) :
    (k = .pointer ∧ ∃ e n, P.underlying t = some (.pointer e) ∧ szOf P e = some (n + 1)) ∨ (k = .slice ∧ ∃ e, P.underlying t = some (.slice e)) ∨ (k = .map ∧ ∃ a e, P.underlying t = some (.map a e)) ∨
    (k = .func ∧ ∃ a c e, P.underlying t = some (.func a c e)) ∨ (k = .iface ∧ ∃ ms, P.underlying t = some (.interface ms)) := by
  unfold eqKindB at h
  split at h
  · rename_i e hu
    split at h
    · rename_i n hs
      exact .inl ⟨h.symm, e, n, hu, hs⟩
    · exact absurd h.symm hk
  · rename_i e hu; exact .inr (.inl ⟨h.symm, e, hu⟩)
  · rename_i a e hu; exact .inr (.inr (.inl ⟨h.symm, a, e, hu⟩))
  · rename_i a c e hu; exact .inr (.inr (.inr (.inl ⟨h.symm, a, c, e, hu⟩)))
  · rename_i ms hu; exact .inr (.inr (.inr (.inr ⟨h.symm, ms, hu⟩)))
  · exact absurd h.symm hk
theorem eqDyn_run (hM : MR P φ A w) {t : TypeId} {x x' y y' : Value} (hx : VR φ x x') (hy : VR φ y y') {b : Bool} (h : eqDyn P A t x y = some b) (D : Nat) (hD : 8 ≤ D) :
    (∃ i, P.info? t = some i ∧ i.comparable = true) ∧ (Op.equalIn (D + 1) t x' y').run P w = .ok b w := by
  have hcan : canEq P t = true → ∃ i, P.info? t = some i ∧ i.comparable = true := by
    intro h
    unfold canEq at h
    cases hi : P.info? t with
    | none => rw [hi] at h; cases h
    | some i => rw [hi] at h; exact ⟨i, rfl, h⟩
  unfold eqDyn at h
  cases hk : eqKind P t with
  | flat g ks =>
    rw [hk] at h
    simp only at h
    cases hc : canEq P t with
    | false => rw [hc] at h; cases h
    | true =>
      rw [hc] at h
      obtain ⟨h1, h2, _⟩ := eqKind_flat hk
      exact ⟨hcan hc, eqFlat_run 8 t ks h1 g h2 (D + 1) (by omega) x' y' b (eqFlat_VR h hx hy) w⟩
  | pointer =>
    rw [hk] at h
    simp only at h
    cases hc : canEq P t with
    | false => rw [hc] at h; cases h
    | true =>
      rw [hc] at h
      rcases eqKindB_some (eqKind_other hk (by simp) (by simp)) (by simp) with ⟨_, e, n, hu, hs⟩ | ⟨h, _⟩ | ⟨h, _⟩ | ⟨h, _⟩ | ⟨h, _⟩
      · exact ⟨hcan hc, (eqPtr_run hM hu hs hx hy h D).1⟩
      all_goals cases h
  | _ => rw [hk] at h; cases h
theorem eqT_gives (hM : MR P φ A w) {c : Bool} {t : TypeId} {x x' y y' : Value} (hx : VR φ x x') (hy : VR φ y y') {b : Bool} (h : eqT P A c t x y = some b) : EqGives P w c t x' y' b := by
  unfold eqT at h
  cases hk : eqKind P t with
  | flat g ks =>
    rw [hk] at h
    obtain ⟨h1, h2, h3⟩ := eqKind_flat hk
    exact eqFlat_gives h1 (Nat.le_refl _) h2 h3 (eqFlat_VR h hx hy)
  | pointer =>
    rw [hk] at h
    rcases eqKindB_some (eqKind_other hk (by simp) (by simp)) (by simp) with ⟨_, e, n, hu, hs⟩ | ⟨h, _⟩ | ⟨h, _⟩ | ⟨h, _⟩ | ⟨h, _⟩
    · have h1 := fun D (_ : 9 ≤ D) => (eqPtr_run hM hu hs hx hy h D).1
      obtain ⟨_, p, q, rfl, rfl⟩ := eqPtr_run hM hu hs hx hy h 0
      exact .of h1 rfl rfl fun op xo yo _ => guard_plain (fun op xo yo => rfl) op xo yo
    all_goals cases h
  | slice =>
    rw [hk] at h
    rcases eqKindB_some (eqKind_other hk (by simp) (by simp)) (by simp) with ⟨h, _⟩ | ⟨_, e, hu⟩ | ⟨h, _⟩ | ⟨h, _⟩ | ⟨h, _⟩
    · cases h
    · have key : ∀ (p q : Option Addr) (l k m n : Nat), x' = .slice p l k → y' = .slice q m n → (p = none ∧ b = q.isNone ∨ q = none ∧ b = p.isNone) → EqGives P w c t x' y' b := by
        rintro p q l k m n rfl rfl hpq
        refine .of (fun D hD => ?_) rfl rfl fun op xo yo _ => guard_plain (fun op xo yo => rfl) op xo yo
        rcases hpq with ⟨rfl, rfl⟩ | ⟨rfl, rfl⟩
        · simp [Op.equalIn, run_underlying' hu]
        · cases p <;> simp [Op.equalIn, run_underlying' hu]
      cases hx with
      | slNil => cases hy with
        | slNil => cases h; exact key _ _ _ _ _ _ rfl rfl (.inl ⟨rfl, rfl⟩)
        | sl => cases h; exact key _ _ _ _ _ _ rfl rfl (.inl ⟨rfl, rfl⟩)
        | sl0 => cases h; exact key _ _ _ _ _ _ rfl rfl (.inl ⟨rfl, rfl⟩)
        | _ => cases h
      | sl => cases hy with
        | slNil => cases h; exact key _ _ _ _ _ _ rfl rfl (.inr ⟨rfl, rfl⟩)
        | _ => cases h
      | sl0 => cases hy with
        | slNil => cases h; exact key _ _ _ _ _ _ rfl rfl (.inr ⟨rfl, rfl⟩)
        | _ => cases h
      | _ => cases h
    all_goals cases h
  | map =>
    rw [hk] at h
    rcases eqKindB_some (eqKind_other hk (by simp) (by simp)) (by simp) with ⟨h, _⟩ | ⟨h, _⟩ | ⟨_, a, e, hu⟩ | ⟨h, _⟩ | ⟨h, _⟩
    · cases h
    · cases h
    · cases hx with
      | mapNil => cases hy with
        | mapNil => cases h; exact .of (fun D _ => by simp [Op.equalIn, run_underlying' hu]) rfl rfl fun op xo yo _ => guard_plain (fun op xo yo => rfl) op xo yo
        | map => cases h; exact .of (fun D _ => by simp [Op.equalIn, run_underlying' hu]) rfl rfl fun op xo yo _ => guard_plain (fun op xo yo => rfl) op xo yo
        | _ => cases h
      | map => cases hy with
        | mapNil => cases h; exact .of (fun D _ => by simp [Op.equalIn, run_underlying' hu]) rfl rfl fun op xo yo _ => guard_plain (fun op xo yo => rfl) op xo yo
        | _ => cases h
      | _ => cases h
    all_goals cases h
  | func =>
    rw [hk] at h
    rcases eqKindB_some (eqKind_other hk (by simp) (by simp)) (by simp) with ⟨h, _⟩ | ⟨h, _⟩ | ⟨h, _⟩ | ⟨_, a, c', e, hu⟩ | ⟨h, _⟩
    · cases h
    · cases h
    · cases h
    · cases hx with
      | nilFunc => cases hy with
        | nilFunc => cases h; exact .of (fun D _ => by simp [Op.equalIn, run_underlying' hu]) rfl rfl fun op xo yo _ => guard_plain (fun op xo yo => rfl) op xo yo
        | func => cases h; exact .of (fun D _ => by simp [Op.equalIn, run_underlying' hu]) rfl rfl fun op xo yo _ => guard_plain (fun op xo yo => rfl) op xo yo
        | _ => cases h
      | func => cases hy with
        | nilFunc => cases h; exact .of (fun D _ => by simp [Op.equalIn, run_underlying' hu]) rfl rfl fun op xo yo _ => guard_plain (fun op xo yo => rfl) op xo yo
        | _ => cases h
      | _ => cases h
    · cases h
  | iface =>
    rw [hk] at h
    rcases eqKindB_some (eqKind_other hk (by simp) (by simp)) (by simp) with ⟨h, _⟩ | ⟨h, _⟩ | ⟨h, _⟩ | ⟨h, _⟩ | ⟨_, ms, hu⟩
    · cases h
    · cases h
    · cases h
    · cases h
    · cases hx with
      | nilIface => cases hy with
        | nilIface =>
          have h : (bif c then some true else none) = some b := h
          cases c with
          | false => cases h
          | true =>
            cases h
            refine .of (fun D _ => by simp [Op.equalIn, run_underlying' hu]) rfl rfl fun op xo yo hc => ?_
            have hor : (∃ v, xo = .const v) ∨ (∃ v, yo = .const v) := by
              cases xo with
              | const v => exact .inl ⟨v, rfl⟩
              | _ => cases yo with
                | const v => exact .inr ⟨v, rfl⟩
                | _ => cases hc
            rcases hor with ⟨v, rfl⟩ | ⟨v, rfl⟩
            · cases op <;> rfl
            · cases op <;> cases xo <;> rfl
        | iface => cases h; exact .of (fun D _ => by simp [Op.equalIn, run_underlying' hu]) rfl rfl fun op xo yo _ => guard_plain (fun op xo yo => rfl) op xo yo
        | _ => cases h
      | iface tx hv => cases hy with
        | nilIface => cases h; exact .of (fun D _ => by simp [Op.equalIn, run_underlying' hu]) rfl rfl fun op xo yo _ => guard_plain (fun op xo yo => rfl) op xo yo
        | iface ty hv' =>
          have h5 : (bif Nat.beq tx ty then eqDyn P A tx _ _ else some false) = some b := h
          clear h
          refine .of (fun D hD => ?_) rfl rfl fun op xo yo _ => guard_plain (fun op xo yo => rfl) op xo yo
          cases hb : Nat.beq tx ty with
          | false =>
            rw [hb] at h5
            cases h5
            have hne : tx ≠ ty := by rintro rfl; simp at hb
            simp [Op.equalIn, run_underlying' hu, hne]
          | true =>
            rw [hb] at h5
            have := Nat.eq_of_beq_eq_true hb
            subst this
            obtain ⟨D', rfl⟩ : ∃ D', D = D' + 1 := ⟨D - 1, by omega⟩
            obtain ⟨⟨i, h1, h2⟩, h3⟩ := eqDyn_run hM hv hv' h5 D' (by omega)
            have h4 : ∀ {x y : Value}, (Op.equalIn (D' + 1 + 1) t (.iface tx x) (.iface tx y)).run P w = (Op.equalIn (D' + 1) tx x y).run P w := by
              intro x y
              conv => lhs; rw [Op.equalIn]
              simp [run_underlying' hu, typeInfo, h1, h2]
            rw [h4]
            exact h3
        | _ => cases h
      | _ => cases h
  | no => rw [hk] at h; cases h
theorem binW_ok (hM : MR P φ A w) (op : BinOp) (t : TypeId) (xo yo : Operand) {x x' y y' : Value} (hx : VR φ x x') (hy : VR φ y y') :
    OpOk P φ A w ((binW P op t (isConst xo || isConst yo)).val x y A) ((do pure (.value (← (do eqGuard op t xo yo x' y'; binOp op t x' y'))) : Sem Next).run P w) := by
  have hother : op ≠ .eql ∧ op ≠ .neq → OpOk P φ A w (vR A ((binS op).val x y)) ((do pure (.value (← (do eqGuard op t xo yo x' y'; binOp op t x' y'))) : Sem Next).run P w) := by
    intro hop
    cases hb : (binS op).val x y with
    | none => exact trivial
    | some v =>
      obtain ⟨v', h1, h2⟩ := bin_ok (P := P) (w := w) op hop t xo yo hx hy hb
      exact OpOk.same hM h1 (run_v h2)
  cases op with
  | eql =>
    show OpOk P φ A w (vR A (eqlA P A _ t x y)) _
    unfold eqlA
    cases he : eqT P A (isConst xo || isConst yo) t x y with
    | none => exact trivial
    | some b =>
      obtain ⟨h1, h2, h3⟩ := eqT_gives hM hx hy he
      exact OpOk.same hM (.bool b) (run_v (by simp [h3 .eql xo yo rfl, h1]))
  | neq =>
    show OpOk P φ A w (vR A (neqA P A _ t x y)) _
    unfold neqA
    cases he : eqT P A (isConst xo || isConst yo) t x y with
    | none => exact trivial
    | some b =>
      obtain ⟨h1, h2, h3⟩ := eqT_gives hM hx hy he
      exact OpOk.same hM (.bool !b) (run_v (by simp [h3 .neq xo yo rfl, h2]))
  | _ => exact hother (by simp)
end Go.Sh
