/- Part of a proof by a machine of ones own: see the text with the theorem. -/
import Derived.Test.YtanpablcoimajaaDoorSh40
set_option linter.unusedVariables false
set_option linter.unusedSimpArgs false
namespace Go.Sh
open Go
noncomputable section
variable {P : Program} {φ : Inj} {A : AW} {w : World}

/-! ## A call that reads alone, and answers with plain values: it is run once, over the blocks that it needs -/
/-- does a value lead to these blocks alone? -/
def inDom (l : List Nat) : Nat → Value → Bool
  | 0, _ => false
  | n + 1, v =>
    match v with
    | .bool _ => true
    | .int _ _ => true
    | .float _ _ => true
    | .complex _ _ _ => true
    | .string _ => true
    | .nilFunc => true
    | .nilIface => true
    | .pointer a => match a with | none => true | some a => l.contains a.block
    | .map r => match r with | none => true | some r => l.contains r
    | .slice a _ _ => match a with | none => true | some a => l.contains a.block
    | .agg c => allD (inDom l n) c.toList
    | .tuple c => allD (inDom l n) c.toList
    | .iface _ v => inDom l n v
    | .func f a b => (match f with | .yield _ => false | _ => true) && (allD (inDom l n) a.toList && allD (inDom l n) b.toList)
    | .chan a => a == some 0
where
  allD (f : Value → Bool) : List Value → Bool
    | [] => true
    | x :: xs => bif f x then allD f xs else false
theorem allD_mem {f : Value → Bool} : ∀ {l : List Value}, inDom.allD f l = true → ∀ v ∈ l, f v = true
  | [], _, v, hv => by cases hv
  | x :: _, h, v, hv => by
    simp only [inDom.allD] at h
    cases hx : f x with
    | false => rw [hx] at h; simp at h
    | true =>
      rw [hx] at h
      simp at h
      rcases List.mem_cons.1 hv with rfl | hv
      · exact hx
      · exact allD_mem h v hv
theorem LR_of {φ ψ : Inj} : ∀ {l l' : List Value}, LR φ l l' → (∀ v ∈ l, ∀ v', VR φ v v' → VR ψ v v') → LR ψ l l'
  | _, _, .nil, _ => .nil
  | _, _, .cons h k, f => .cons (f _ (List.mem_cons_self ..) _ h) (LR_of k fun v hv => f v (List.mem_cons_of_mem _ hv))
section
variable {ψ : Inj} {l : List Nat}
theorem AddrR.dom {a a' : Addr} (h : AddrR φ a a') (e : ψ a.block = φ a.block) : AddrR ψ a a' := by
  rcases h with h | ⟨c, n, s, d, h, h1⟩
  · exact .inl (e.trans h)
  · exact .inr ⟨c, n, s, d, e.trans h, h1⟩
theorem BlkR.dom {b b' : Nat} (h : BlkR φ b b') (e : ψ b = φ b) : BlkR ψ b b' := by
  rcases h with h | ⟨n, s, d, h⟩
  · exact .inl (e.trans h)
  · exact .inr ⟨n, s, d, e.trans h⟩
theorem VR.dom (hd : ∀ b, l.contains b = true → ψ b = φ b) : ∀ (n : Nat) (v : Value), inDom l n v = true → ∀ v', VR φ v v' → VR ψ v v'
  | 0, _, h, _, _ => by simp [inDom] at h
  | n + 1, v, h, v', hv => by
    have ih := VR.dom hd n
    cases hv with
    | bool => exact .bool _
    | int => exact .int _ _
    | float => exact .float _ _
    | complex => exact .complex _ _ _
    | string => exact .string _
    | ptrNil => exact .ptrNil
    | ptr h1 => exact .ptr (h1.dom (hd _ (by simpa [inDom] using h)))
    | slNil => exact .slNil
    | sl h1 hl hc hr =>
      have e := hd _ (by simpa [inDom] using h)
      exact .sl (h1.dom e) hl hc fun es c n s d he => hr es c n s d (e ▸ he)
    | sl0 h1 => exact .sl0 (h1.dom (hd _ (by simpa [inDom] using h)))
    | mapNil => exact .mapNil
    | map h1 => exact .map (h1.dom (hd _ (by simpa [inDom] using h)))
    | func hf hx hy =>
      simp only [inDom, Bool.and_eq_true] at h
      refine .func ?_ (LR_of hx fun v hv v' => ih v (allD_mem h.2.1 v hv) v') (LR_of hy fun v hv v' => ih v (allD_mem h.2.2 v hv) v')
      rcases hf with hf | ⟨l1, l2, rfl, _⟩
      · exact .inl hf
      · simp at h
    | nilFunc => exact .nilFunc
    | nilIface => exact .nilIface
    | iface t h1 => exact .iface t (ih _ (by simpa [inDom] using h) _ h1)
    | agg h1 => exact .agg (LR_of h1 fun v hv v' => ih v (allD_mem (by simpa [inDom] using h) v hv) v')
    | tuple h1 => exact .tuple (LR_of h1 fun v hv v' => ih v (allD_mem (by simpa [inDom] using h) v hv) v')
    | unk h1 => exact .unk h1
end
/-- the blocks are there -/
def sameL5 (x y : List Value) : Bool := sameVal.sameVals (sameVal 5) x y
def hasB (A : AW) (x : LaidV) : Bool := match A.heap.get x.1 with | some o => (match o with | .cells c e _ => sameL5 c x.2.1 && Nat.beq e x.2.2 | _ => false) | none => false
def hasAll (A : AW) : List LaidV → Bool
  | [] => true
  | x :: l => bif hasB A x then hasAll A l else false
theorem hasAll_mem : ∀ {l : List LaidV}, hasAll A l = true → ∀ x ∈ l, ∃ ro, A.heap.get x.1 = some (.cells x.2.1 x.2.2 ro)
  | [], _, x, hx => by cases hx
  | y :: l, h, x, hx => by
    unfold hasAll at h
    cases hy : hasB A y with
    | false => rw [hy] at h; cases h
    | true =>
      rw [hy] at h
      rcases List.mem_cons.1 hx with rfl | hx
      · unfold hasB at hy
        cases hg : A.heap.get x.1 with
        | none => rw [hg] at hy; cases hy
        | some o =>
          rw [hg] at hy
          cases o with
          | cells c e ro =>
            simp only [Bool.and_eq_true] at hy
            exact ⟨ro, by rw [sameVals_eq (sameVal_eq 5) hy.1, Nat.eq_of_beq_eq_true hy.2]⟩
          | _ => cases hy
      · exact hasAll_mem h x hx
def numsOf (l : List LaidV) : List Nat := l.map (·.1)
/-- the blocks lead to themselves alone, and lie below n -/
def closedB (n : Nat) (l : List LaidV) : Bool := l.all fun x => Nat.blt x.1 n && x.2.1.all (inDom (numsOf l) 5)
def memoOv (f0 : FuncId) (args0 : List Value) (l0 : List LaidV) (v0 : Value) (rest : Ov) : Ov := fun f args A =>
  bif Nat.beq f f0 then (bif sameL5 args args0 && hasAll A l0 then some (.ok (.ret v0) A .none) else rest f args A) else rest f args A
def resIs (v : Value) (o : RO) : Bool := match o with | .ok (.ret u) _ _ => sameVal 5 u v | _ => false
theorem resIs_some {v : Value} {o : RO} (h : resIs v o = true) : ∃ A x, o = .ok (.ret v) A x := by
  unfold resIs at h
  split at h
  · rename_i u A x
    exact ⟨A, x, by rw [sameVal_eq 5 _ _ h]⟩
  · cases h
/-- plain values relate to themselves alone, whatever is known -/
theorem ground_any {φ ψ : Inj} : ∀ (n : Nat) (v : Value), groundC n v = true → ∀ v', VR φ v v' → VR ψ v v'
  | 0, v, h, _, _ => by simp [groundC] at h
  | n + 1, v, h, v', hv => by
    have ih := ground_any (φ := φ) (ψ := ψ) n
    cases hv with
    | bool => exact .bool _
    | int => exact .int _ _
    | float => exact .float _ _
    | complex => exact .complex _ _ _
    | string => exact .string _
    | ptrNil => exact .ptrNil
    | ptr h1 => simp [groundC] at h
    | slNil => exact .slNil
    | sl h1 hl hc hr => simp [groundC] at h
    | sl0 h1 => simp [groundC] at h
    | mapNil => exact .mapNil
    | map h1 => simp [groundC] at h
    | func hf hx hy => simp [groundC] at h
    | nilFunc => exact .nilFunc
    | nilIface => exact .nilIface
    | iface t h1 => exact .iface t (ih _ (by simpa [groundC] using h) _ h1)
    | agg h1 => exact .agg (LR_of h1 fun v hv v' => ih v (groundC_all (by simpa [groundC] using h) v hv) v')
    | tuple h1 => exact .tuple (LR_of h1 fun v hv v' => ih v (groundC_all (by simpa [groundC] using h) v hv) v')
    | unk h1 => exact .unk h1
theorem startH_mem : ∀ {l : List LaidV} {b : Nat}, b ∈ numsOf l → ∃ o, (startH l).get b = some o
  | [], b, h => by cases h
  | x :: l, b, h => by
    rw [startH]
    by_cases e : b = x.1
    · exact ⟨_, by rw [get_put, if_pos e]⟩
    · rcases List.mem_cons.1 h with h | h
      · exact absurd h e
      · obtain ⟨o, ho⟩ := startH_mem h
        exact ⟨o, by rw [get_put, if_neg e]; exact ho⟩
def memoφ (P : Program) (l0 : List LaidV) (φ : Inj) : Inj := fun b => if b ∈ numsOf l0 then φ b else if b < P.globals.size then some .dead else none
theorem memo_MR (hM : MR P φ A w) {l0 : List LaidV} {n0 : Nat} (hA : hasAll A l0 = true) (hc : closedB n0 l0 = true) (hg : P.globals.size ≤ n0) : MR P (memoφ P l0 φ) (startA n0 l0) w := by
  have hc' : ∀ x ∈ l0, x.1 < n0 ∧ ∀ v ∈ x.2.1, inDom (numsOf l0) 5 v = true := fun x hx => by
    have := (List.all_eq_true.1 hc) x hx
    rw [Bool.and_eq_true] at this
    exact ⟨by simpa [Nat.blt_eq] using this.1, List.all_eq_true.1 this.2⟩
  have hin : ∀ b, b ∈ numsOf l0 → memoφ P l0 φ b = φ b := fun b hb => if_pos hb
  have hdom : ∀ b, (numsOf l0).contains b = true → memoφ P l0 φ b = φ b := fun b hb => hin b (by simpa using hb)
  have hat : ∀ b c n s d, memoφ P l0 φ b = some (.at_ c n s d) → b ∈ numsOf l0 ∧ φ b = some (.at_ c n s d) := fun b c n s d hb => by
    unfold memoφ at hb
    split at hb
    · exact ⟨by assumption, hb⟩
    · split at hb <;> cases hb
  refine ⟨fun b c n s d hb => ?_, fun b hb => ?_, fun b b' c n s d n' s' d' hb hb' => hM.one _ _ _ _ _ _ _ _ _ (hat _ _ _ _ _ hb).2 (hat _ _ _ _ _ hb').2, fun b hb => ?_, fun g hgl => ?_, Nat.le_refl _⟩
  · obtain ⟨h1, h2⟩ := hat b c n s d hb
    obtain ⟨o, ho⟩ := startH_mem h1
    obtain ⟨x, hx, rfl, rfl⟩ := startH_get l0 b o ho
    obtain ⟨ro, h3⟩ := hasAll_mem hA x hx
    obtain ⟨o1, oc, h4, h5, h6⟩ := hM.obj _ _ _ _ _ h2
    rw [h3] at h4
    cases h4
    obtain ⟨cc, e', fz, rfl, h7⟩ := h6
    exact ⟨_, _, ho, h5, cc, e', fz, rfl, ⟨h7.elem, h7.size, h7.unit, h7.fits, LR_of h7.cells fun v hv v' => VR.dom hdom 5 v ((hc' x hx).2 v hv) v', fun e => Bool.noConfusion e, h7.mult⟩⟩
  · show (startH l0).get b = none
    by_cases h1 : b ∈ numsOf l0
    · rw [hin b h1] at hb
      obtain ⟨x, hx, rfl⟩ := List.mem_map.1 h1
      obtain ⟨ro, h3⟩ := hasAll_mem hA x hx
      rw [hM.dead _ hb] at h3
      cases h3
    · cases hq : (startH l0).get b with
      | none => rfl
      | some o =>
        obtain ⟨x, hx, rfl, _⟩ := startH_get l0 b o hq
        exact absurd (List.mem_map.2 ⟨x, hx, rfl⟩) h1
  · have hb' : n0 ≤ b := hb
    unfold memoφ
    rw [if_neg, if_neg (by omega)]
    intro h1
    obtain ⟨x, hx, rfl⟩ := List.mem_map.1 h1
    have := (hc' x hx).1
    omega
  · by_cases h1 : g ∈ numsOf l0
    · rw [hin g h1]; exact hM.globals g hgl
    · unfold memoφ
      rw [if_neg h1, if_pos hgl]
      exact .inl rfl
theorem memo_ok (hP : NoCount P) (hm : P.follows .mixedOrders = true) {ov : Ov} (hO : OvOk P ov) {f0 : FuncId} {args0 : List Value} {l0 : List LaidV} {v0 : Value} {n0 m : Nat} (fact : resIs v0 ((run P ov m).call f0 args0 (startA n0 l0) .none) = true)
    (hc : closedB n0 l0 = true) (ha : inDom.allD (inDom (numsOf l0) 5) args0 = true) (hg : P.globals.size ≤ n0) (hv : groundC 3 v0 = true) {rest : Ov} (hrest : OvOk P rest) : OvOk P (memoOv f0 args0 l0 v0 rest) := by
  intro f φ A w args args' cs o A' x' hM hA hov
  unfold memoOv at hov
  cases hf : Nat.beq f f0 with
  | false => rw [hf] at hov; exact hrest f φ A w args args' cs o A' x' hM hA hov
  | true =>
    rw [hf] at hov
    simp only [cond_true] at hov
    cases hq : (sameL5 args args0 && hasAll A l0) with
    | false => rw [hq] at hov; exact hrest f φ A w args args' cs o A' x' hM hA hov
    | true =>
      rw [hq] at hov
      simp only [cond_true, Option.some.injEq, RO.ok.injEq] at hov
      obtain ⟨rfl, rfl, rfl⟩ := hov
      rw [Bool.and_eq_true] at hq
      have ef := Nat.eq_of_beq_eq_true hf
      have ea := sameVals_eq (sameVal_eq 5) hq.1
      subst ef ea
      have hM0 := memo_MR hM hq.2 hc hg
      have hdom : ∀ b, (numsOf l0).contains b = true → memoφ P l0 φ b = φ b := fun b hb => if_pos (by simpa using hb)
      have hA0 : LR (memoφ P l0 φ) args args' := LR_of hA fun v hv v' => VR.dom hdom 5 v (allD_mem ha v hv) v'
      obtain ⟨A1, x1, hrun⟩ := resIs_some fact
      have hcall := (run_ok hP (drawn_ok hP hm) hO m).call f (memoφ P l0 φ) (startA n0 l0) w args args' .none .normal cs hM0 hA0 (.none _)
      rw [hrun] at hcall
      obtain ⟨φ1, w1, cs1, fr1, g1, g2, g3, g4, g5, g6⟩ := hcall
      have hcs : cs1 = cs := g4.1.eq
      subst hcs
      have hold : ∀ c, c < w.heap.size → w1.heap[c]? = w.heap[c]? := fun c hc' => g2.keeps (Nat.le_refl _) (fun b hb => hM0.fresh b hb) hc'
      refine ⟨rfl, φ, w1, fr1, ⟨fun b c n s d hb => ?_, hM.dead, hM.one, hM.fresh, hM.globals, hM.lim⟩, ⟨φ.le_refl, rfl, Nat.le_refl _, fun _ _ => ⟨rfl, rfl⟩, g2.size, fun c hc' _ => hold c hc', fun _ _ _ _ _ h => .inl h, fun _ _ h => ⟨rfl, h⟩, g2.os, g2.tape, g2.output⟩, ?_, g6⟩
      · obtain ⟨o1, oc, k1, k2, k3⟩ := hM.obj b c n s d hb
        exact ⟨o1, oc, k1, by rw [hold c (lt_of_heap k2)]; exact k2, k3⟩
      · obtain ⟨q1, q2, q3, fn, q4, q5, v', q6, q7⟩ := g5
        exact ⟨q1, q2, q3, fn, q4, q5, v', ground_any 3 v0 hv v' q6, q7⟩
end
end Go.Sh
