/- Part of a proof by a machine of ones own: see the text with the theorem. -/
import Derived.Test.YtanpablcoimajaaDoorSh41
set_option linter.unusedVariables false
set_option linter.unusedSimpArgs false
namespace Go.Sh
open Go Go.ChangeShapes
noncomputable section
variable {P : Program} {φ : Inj} {A : AW} {w : World}

/-! ## A family of calls that read alone, and answer with plain values -/
def famOv (f0 : FuncId) (l0 : List LaidV) (n : Nat) (ix : List Value → Option Nat) (mk : Nat → List Value) (v0 : Nat → Value) (rest : Ov) : Ov := fun f args A =>
  bif Nat.beq f f0 then
    (match ix args with
    | some i => bif Nat.blt i n && (sameL5 args (mk i) && hasAll A l0) then some (.ok (.ret (v0 i)) A .none) else rest f args A
    | none => rest f args A) else rest f args A
theorem fam_ok (hP : NoCount P) (hm : P.follows .mixedOrders = true) {ov : Ov} (hO : OvOk P ov) {f0 : FuncId} {l0 : List LaidV} {n n0 m : Nat} {ix : List Value → Option Nat} {mk : Nat → List Value} {v0 : Nat → Value}
    (fact : ∀ i, i < n → resIs (v0 i) ((run P ov m).call f0 (mk i) (startA n0 l0) .none) = true)
    (hc : closedB n0 l0 = true) (ha : ∀ i, i < n → inDom.allD (inDom (numsOf l0) 5) (mk i) = true) (hg : P.globals.size ≤ n0) (hv : ∀ i, i < n → groundC 3 (v0 i) = true) {rest : Ov} (hrest : OvOk P rest) : OvOk P (famOv f0 l0 n ix mk v0 rest) := by
  intro f φ A w args args' cs o A' x' hM hA hov
  unfold famOv at hov
  cases hf : Nat.beq f f0 with
  | false => rw [hf] at hov; exact hrest f φ A w args args' cs o A' x' hM hA hov
  | true =>
    rw [hf] at hov
    simp only [cond_true] at hov
    cases hi : ix args with
    | none => rw [hi] at hov; exact hrest f φ A w args args' cs o A' x' hM hA hov
    | some i =>
      rw [hi] at hov
      simp only at hov
      cases hq : (Nat.blt i n && (sameL5 args (mk i) && hasAll A l0)) with
      | false => rw [hq] at hov; exact hrest f φ A w args args' cs o A' x' hM hA hov
      | true =>
        rw [hq] at hov
        simp only [cond_true] at hov
        rw [Bool.and_eq_true] at hq
        have hin : i < n := by simpa [Nat.blt_eq] using hq.1
        refine memo_ok (n0 := n0) (m := m) hP hm hO (fact i hin) hc (ha i hin) hg (hv i hin) hrest f φ A w args args' cs o A' x' hM hA ?_
        unfold memoOv
        rw [hf, hq.2]
        exact hov
/-- of numbers from a on, so many -/
def allUp (p : Nat → Bool) (n : Nat) : Nat → Bool := Nat.rec (motive := fun _ => Nat → Bool) (fun _ => true) (fun _ ih a => Bool.rec (motive := fun _ => Bool) false (ih (Nat.succ a)) (p a)) n
theorem allUp_mem {p : Nat → Bool} : ∀ {n a : Nat}, allUp p n a = true → ∀ i, a ≤ i → i < a + n → p i = true
  | 0, a, _, i, h1, h2 => by omega
  | n + 1, a, h, i, h1, h2 => by
    have h' : Bool.rec (motive := fun _ => Bool) false (allUp p n (Nat.succ a)) (p a) = true := h
    cases hp : p a with
    | false => rw [hp] at h'; cases h'
    | true =>
      rw [hp] at h'
      rcases Nat.eq_or_lt_of_le h1 with e | h3
      · rw [← e]; exact hp
      · exact allUp_mem (n := n) (a := a + 1) h' i h3 (by omega)

/-! ## What a variable holds, by what is listed of it -/
def datF (P : Program) (g : TypeId → DataW Unit → Option (List Value)) : List Field → List (DataW Unit) → Nat → Option (List Value)
  | [], [], _ => some []
  | f :: fs, d :: ds, off => if f.offset = off then (match g f.type d with
    | some c => if c.length = P.cellsOf f.type then (match datF P g fs ds (off + c.length) with
      | some r => some (c ++ r)
      | none => none) else none
    | none => none) else none
  | _, _, _ => none
def datA (g : DataW Unit → Option (List Value)) (s : Nat) : List (DataW Unit) → Option (List Value)
  | [] => some []
  | d :: ds => match g d with
    | some c => if c.length = s then (match datA g s ds with
      | some r => some (c ++ r)
      | none => none) else none
    | none => none
def datC (P : Program) : Nat → TypeId → DataW Unit → Option (List Value)
  | 0, _, _ => none
  | n + 1, t, d =>
    match P.underlying t with
    | some (.int k) => match d with | .lit (.int _ z) => some [.int k z] | _ => none
    | some .bool => match d with | .lit (.bool b) => some [.bool b] | _ => none
    | some .string => match d with | .lit (.string l) => some [.string ⟨⟨l⟩⟩] | _ => none
    | some (.struct fs) => match d with
      | .agg ds => match datF P (datC P n) fs.toList ds 0 with
        | some cs => if cs.length = P.cellsOf t then some cs else none
        | none => none
      | _ => none
    | some (.array m e) => match d with
      | .agg ds => if ds.length = m then (match datA (datC P n e) (P.cellsOf e) ds with
        | some cs => if cs.length = P.cellsOf t then some cs else none
        | none => none) else none
      | _ => none
    | _ => none
theorem datF_ok {W : World} {g : TypeId → DataW Unit → Option (List Value)} {q : TypeId → List Value → Option (DataW Unit × List MemPlace)} (hg : ∀ t d c cs p, g t d = some c → q t cs = some (d, p) → cs = c) {cs : List Value} :
    ∀ (fs : List Field) (ds : List (DataW Unit)) (off : Nat) (r : List Value) (xs : List (DataW Unit × List MemPlace)), datF P g fs ds off = some r → (fs.mapM fun f => q f.type ((cs.drop f.offset).take (P.cellsOf f.type))) = some xs → xs.map (·.1) = ds →
      (cs.drop off).take r.length = r
  | [], ds, off, r, xs, h, _, _ => by
    cases ds with
    | nil => simp only [datF, Option.some.injEq] at h; subst h; simp
    | cons d ds => simp [datF] at h
  | f :: fs, [], off, r, xs, h, _, _ => by simp [datF] at h
  | f :: fs, d :: ds, off, r, xs, h, hm, hx => by
    simp only [datF] at h
    split at h
    · rename_i ho
      cases hc : g f.type d with
      | none => rw [hc] at h; cases h
      | some c =>
        rw [hc] at h
        simp only at h
        split at h
        · rename_i hl
          cases hr : datF P g fs ds (off + c.length) with
          | none => rw [hr] at h; cases h
          | some r' =>
            rw [hr] at h
            cases h
            simp only [List.mapM_cons, Option.bind_eq_bind, Option.bind_eq_some_iff, Option.pure_def, Option.some.injEq] at hm
            obtain ⟨x, hx1, xs', hx2, rfl⟩ := hm
            simp only [List.map_cons, List.cons.injEq] at hx
            obtain ⟨hx3, hx4⟩ := hx
            obtain ⟨d', p⟩ := x
            simp only at hx3
            subst hx3
            have e1 := hg _ _ _ _ _ hc hx1
            have e2 := datF_ok (W := W) hg fs ds _ _ _ hr hx2 hx4
            rw [ho, ← hl] at e1
            rw [List.length_append, List.take_add, e1, List.drop_drop, e2]
        · cases h
    · cases h
theorem datA_ok {W : World} {g : DataW Unit → Option (List Value)} {q : List Value → Option (DataW Unit × List MemPlace)} {s : Nat} (hg : ∀ d c cs p, g d = some c → q cs = some (d, p) → cs = c) {cs : List Value} :
    ∀ (ds : List (DataW Unit)) (k : Nat) (r : List Value) (xs : List (DataW Unit × List MemPlace)), datA g s ds = some r → ((List.range' k ds.length).mapM fun i => q ((cs.drop (i * s)).take s)) = some xs → xs.map (·.1) = ds →
      (cs.drop (k * s)).take r.length = r
  | [], k, r, xs, h, _, _ => by simp only [datA, Option.some.injEq] at h; subst h; simp
  | d :: ds, k, r, xs, h, hm, hx => by
    simp only [datA] at h
    cases hc : g d with
    | none => rw [hc] at h; cases h
    | some c =>
      rw [hc] at h
      simp only at h
      split at h
      · rename_i hl
        cases hr : datA g s ds with
        | none => rw [hr] at h; cases h
        | some r' =>
          rw [hr] at h
          cases h
          simp only [List.length_cons, List.range'_succ, List.mapM_cons, Option.bind_eq_bind, Option.bind_eq_some_iff, Option.pure_def, Option.some.injEq] at hm
          obtain ⟨x, hx1, xs', hx2, rfl⟩ := hm
          simp only [List.map_cons, List.cons.injEq] at hx
          obtain ⟨hx3, hx4⟩ := hx
          obtain ⟨d', p⟩ := x
          simp only at hx3
          subst hx3
          have e1 := hg _ _ _ _ hc hx1
          have e2 := datA_ok (W := W) hg ds (k + 1) _ _ hr hx2 hx4
          have e3 : k * s + s = (k + 1) * s := by rw [Nat.add_mul, Nat.one_mul]
          rw [List.length_append, List.take_add, hl, e1, List.drop_drop, e3, e2]
      · cases h
theorem datC_ok {W : World} {fuel : Nat} : ∀ (n : Nat) (t : TypeId) (d : DataW Unit) (c cs : List Value) (p : List MemPlace), datC P n t d = some c → DataW.trod (fun _ => ()) P W 0 (fun _ => true) false fuel t cs = some (d, p) → cs = c
  | 0, _, _, _, _, _, h, _ => by simp [datC] at h
  | n + 1, t, d, c, cs, p, h, hr => by
    cases fuel with
    | zero => simp [DataW.trod] at hr
    | succ fuel =>
      unfold datC at h
      split at h
      · rename_i k hu
        split at h
        · cases h
          obtain ⟨z, e1, e2, _⟩ := DataW.trod_int hu hr
          cases e2
          exact e1
        · cases h
      · rename_i hu
        split at h
        · cases h
          simp only [DataW.trod, hu] at hr
          split at hr <;> simp_all
        · cases h
      · rename_i hu
        split at h
        · cases h
          simp only [DataW.trod, hu] at hr
          split at hr <;> simp_all
          rename_i s _
          obtain ⟨_, hr, _⟩ := hr
          subst hr
          rfl
        · cases h
      · rename_i fs hu
        split at h
        · rename_i ds
          cases hd : datF P (datC P n) fs.toList ds 0 with
          | none => rw [hd] at h; cases h
          | some c' =>
            rw [hd] at h
            simp only at h
            split at h
            · rename_i hl
              cases h
              simp only [DataW.trod, hu] at hr
              split at hr
              · rename_i hl2
                obtain ⟨xs, hm, hx⟩ := Option.map_eq_some_iff.1 hr
                simp only [Prod.mk.injEq, DataW.agg.injEq] at hx
                have := datF_ok (W := W) (cs := cs) (fun t d c cs p h1 h2 => datC_ok (fuel := fuel) n t d c cs p h1 h2) fs.toList ds 0 c xs hd hm hx.1
                rw [List.drop_zero, hl, ← hl2, List.take_length] at this
                exact this
              · cases hr
            · cases h
        · cases h
      · rename_i m e hu
        split at h
        · rename_i ds
          split at h
          · rename_i hdl
            cases hd : datA (datC P n e) (P.cellsOf e) ds with
            | none => rw [hd] at h; cases h
            | some c' =>
              rw [hd] at h
              simp only at h
              split at h
              · rename_i hl
                cases h
                simp only [DataW.trod, hu] at hr
                split at hr
                · rename_i hl2
                  obtain ⟨xs, hm, hx⟩ := Option.map_eq_some_iff.1 hr
                  simp only [Prod.mk.injEq, DataW.agg.injEq] at hx
                  rw [List.range_eq_range', ← hdl] at hm
                  have := datA_ok (W := W) (cs := cs) (fun d c cs p h1 h2 => datC_ok (fuel := fuel) n e d c cs p h1 h2) ds 0 c xs hd hm hx.1
                  rw [Nat.zero_mul, List.drop_zero, hl, ← hl2, List.take_length] at this
                  exact this
                · cases hr
              · cases h
          · cases h
        · cases h
      · cases h
/-- plain cells relate to themselves -/
theorem plain_LR (φ : Inj) {l : List Value} (h : l.all (groundC 3) = true) : LR φ l l := LR_self fun v hv => ground_VR 3 v (List.all_eq_true.1 h v hv)
/-- a variable of plain values -/
theorem laid_plain {W : World} (hs : W.ShapedOpen P) {laid : List (String × DataW Unit)} (hL : laidMet P laid W) {n : String} {d : DataW Unit} (hm : (n, d) ∈ laid) {g : Nat} {t : TypeId} {k : Nat} {c : List Value} {m : Nat} {t' : TypeId} (hg : P.globalNamed n = some g) (hlt : g < P.globals.size)
    (ht : (P.globals[g]?).map (·.type) = some t) (hd : datC P k t d = some c) (hc : c.all (groundC 3) = true) (hr : RowOf P g m t') :
    g < P.globals.size ∧ ∃ cc, W.heap[g]? = some (.cells ⟨cc⟩ t') ∧ ∀ φ, LR φ c cc := by
  obtain ⟨cs, fuel, p, h1, h2⟩ := laid_mem hL hm hg ht
  obtain ⟨t1, fz, h3⟩ := var_heap hg h1
  obtain ⟨cs', h4, _⟩ := shape_heap hs hlt hr
  rw [h3] at h4
  injection h4 with h4
  injection h4 with e1 e2 e3
  subst e1 e2 e3
  have e := datC_ok k t d c cs.toList p hd h2
  obtain ⟨cs⟩ := cs
  simp only at e
  subst e
  exact ⟨hlt, _, h3, fun φ => plain_LR φ hc⟩
end
end Go.Sh
