/- Part of a proof by a machine of ones own: see the text with the theorem. -/
import Derived.Test.YtanpablcoimajaaDoorSh18
import Derived.Control
set_option linter.unusedVariables false
namespace Go.Sh
open Go
variable {P : Program} {φ : Inj} {A : AW} {w : World}

/-! ## Code: the frame that runs, and what lies below it -/
structure Av where
  fn : FuncId
  tmps : Array Value
  defers : List Deferred
  kind : CallKind
  roundOf : Option Nat
/-- the frame, running, with what is left to do -/
def Av.at (a : Av) (k : List Item) : Frame := { fn := a.fn, tmps := a.tmps, todo := k, defers := a.defers, mode := .run, kind := a.kind, roundOf := a.roundOf }
/-- the frame, in a panic -/
def Av.pan (a : Av) (k : List Item) (v : Value) : Frame := { a.at k with mode := .panicking [{ v, recovered := false }] }
def Av.put (a : Av) (d : Option Tmp) (v : Value) : Av :=
  match d with
  | some d => { a with tmps := a.tmps.setIfInBounds d v }
  | none => a
/-- the same activation, later -/
structure Av.Like (a a' : Av) : Prop where
  fn : a'.fn = a.fn
  kind : a'.kind = a.kind
  round : a'.roundOf = a.roundOf
theorem Av.Like.refl (a : Av) : a.Like a := ⟨rfl, rfl, rfl⟩
theorem Av.Like.trans {a b c : Av} (h : a.Like b) (k : b.Like c) : a.Like c := ⟨k.fn.trans h.fn, k.kind.trans h.kind, k.round.trans h.round⟩
theorem Av.like_put (a : Av) (d : Option Tmp) (v : Value) : a.Like (a.put d v) := by cases d <;> exact ⟨rfl, rfl, rfl⟩

/-- a block of deferred calls that nobody uses -/
def Loose (φ : Inj) (w : World) (r : Nat) : Prop := (∀ b n s d, φ b ≠ some (.at_ r n s d)) ∧ w.heap[r]? = some (.deferred (some []))
theorem Loose.ext {φ' : Inj} {A' : AW} {w' : World} {r : Nat} (h : Loose φ w r) (e : Ext φ A w φ' A' w') : Loose φ' w' r := by
  have hlt := lt_of_heap h.2
  refine ⟨fun b n s d hb => ?_, ?_⟩
  · rcases e.new b r n s d hb with h1 | ⟨_, h1 | ⟨b0, n0, s0, d0, h1, _⟩⟩
    · exact h.1 _ _ _ _ h1
    · omega
    · exact h.1 _ _ _ _ h1
  · rw [e.frame r hlt fun b n s d hb => absurd hb (h.1 b n s d)]
    exact h.2
/-- the deferred calls; among them, marks of loops that have none -/
inductive DsR (φ : Inj) : List Deferred → List Deferred → List Nat → Prop
  | nil : DsR φ [] [] []
  | cons {d d' : Deferred} {ds ds' : List Deferred} {rs : List Nat} (h : DR φ d d') (k : DsR φ ds ds' rs) : DsR φ (d :: ds) (d' :: ds') rs
  | mark (r : Nat) {ds ds' : List Deferred} {rs : List Nat} (k : DsR φ ds ds' rs) : DsR φ ds ({ target := .collected r, args := #[] } :: ds') (r :: rs)
theorem TargetR.mono {φ φ' : Inj} {t t' : Target} (h : TargetR φ t t') (hle : φ.le φ') : TargetR φ' t t' := by
  cases h with
  | fn hf hc => exact .fn (hf.mono hle) (hc.mono hle)
theorem DR.mono {φ φ' : Inj} {d d' : Deferred} (h : DR φ d d') (hle : φ.le φ') : DR φ' d d' := ⟨h.target.mono hle, h.args.mono hle⟩
theorem DsR.mono {φ φ' : Inj} {ds ds' : List Deferred} {rs : List Nat} (h : DsR φ ds ds' rs) (hle : φ.le φ') : DsR φ' ds ds' rs := by
  induction h with
  | nil => exact .nil
  | cons h _ ih => exact .cons (h.mono hle) ih
  | mark r _ ih => exact .mark r ih
/-- what the frame holds; the marks lie at lo or behind -/
structure Held (φ : Inj) (w : World) (n lo : Nat) (t : Tm) (ds : List Deferred) (a : Av) : Prop where
  tmps : TR φ n t a.tmps
  defers : ∃ rs, DsR φ ds a.defers rs ∧ rs.Nodup ∧ (∀ r ∈ rs, lo ≤ r ∧ Loose φ w r) ∧ (a.roundOf ≠ none → rs = [])
theorem Held.ext {φ' : Inj} {A' : AW} {w' : World} {n lo : Nat} {t : Tm} {ds : List Deferred} {a : Av} (h : Held φ w n lo t ds a) (e : Ext φ A w φ' A' w') : Held φ' w' n lo t ds a := by
  obtain ⟨h1, rs, h2, h3, h4, h5⟩ := h
  exact ⟨h1.mono e.le, rs, h2.mono e.le, h3, fun r hr => ⟨(h4 r hr).1, (h4 r hr).2.ext e⟩, h5⟩
theorem Held.put {n lo : Nat} {t : Tm} {ds : List Deferred} {a : Av} (h : Held φ w n lo t ds a) {d : Option Tmp} (hd : dstOk n d = true) {v v' : Value} (hv : VR φ v v') : Held φ w n lo ((putDst d).val v t) ds (a.put d v') := by
  obtain ⟨h1, h2⟩ := h
  cases d with
  | none => exact ⟨h1, h2⟩
  | some d =>
    simp only [dstOk, Bool.and_eq_true] at hd
    have e1 : d < n := by simpa [Nat.blt_eq] using hd.1
    have e2 : n < 60000 + 1 := by
      have := hd.2
      first | exact Nat.lt_succ_of_le (Nat.le_of_ble_eq_true this) | (have : n < 60000 := by simpa [Nat.blt_eq] using this; omega)
    exact ⟨h1.set e1 (by omega) hv, h2⟩

/-- behind a panic, temporaries may hold anything -/
def TRw (φ : Inj) (t : Tm) (a : Array Value) : Prop := ∀ i, tget t i = junk ∨ VR φ (tget t i) (a.getD i undef)
structure HeldP (φ : Inj) (w : World) (lo : Nat) (t : Tm) (ds : List Deferred) (a : Av) : Prop where
  tmps : TRw φ t a.tmps
  defers : ∃ rs, DsR φ ds a.defers rs ∧ rs.Nodup ∧ (∀ r ∈ rs, lo ≤ r ∧ Loose φ w r) ∧ (a.roundOf ≠ none → rs = [])
theorem Held.weak {n lo : Nat} {t : Tm} {ds : List Deferred} {a : Av} (h : Held φ w n lo t ds a) : HeldP φ w lo t ds a := ⟨fun i => .inr (h.tmps.2 i), h.defers⟩
def HeldX (ex : Ex) (φ : Inj) (w : World) (n lo : Nat) (t : Tm) (ds : List Deferred) (a : Av) : Prop := match ex with | .panic _ => HeldP φ w lo t ds a | _ => Held φ w n lo t ds a
theorem HeldX.weak {ex : Ex} {n lo : Nat} {t : Tm} {ds : List Deferred} {a : Av} (h : HeldX ex φ w n lo t ds a) : HeldP φ w lo t ds a := by
  cases ex with
  | panic v => exact h
  | _ => exact Held.weak h

/-- what a function that recovers would see below -/
inductive CtxR (φ : Inj) : Ctx → CallKind → Option Nat → List Frame → Prop
  | none (cs : List Frame) : CtxR φ .none .normal none cs
  | round (k : CallKind) (l : Nat) (cs : List Frame) : CtxR φ .round k (some l) cs
  | ret (c : Frame) (cs : List Frame) (h : c.mode = .returning) : CtxR φ .ret .deferred none (c :: cs)
  | pan (c : Frame) (cs : List Frame) {v v' : Value} (b : Bool) (h : c.mode = .panicking [{ v := v', recovered := b }]) (hv : VR φ v v') : CtxR φ (.pan v b) .deferred none (c :: cs)
theorem CtxR.mono {φ φ' : Inj} {x : Ctx} {k : CallKind} {r : Option Nat} {cs : List Frame} (h : CtxR φ x k r cs) (hle : φ.le φ') : CtxR φ' x k r cs := by
  cases h with
  | none => exact .none _
  | round => exact .round _ _ _
  | ret c cs h => exact .ret c cs h
  | pan c cs b h hv => exact .pan c cs b h (hv.mono hle)
def isPan (x : Ctx) : Bool := match x with | .pan .. => true | _ => false
/-- the frames below are the same, but for the panic that is recovered -/
inductive CsR : Bool → List Frame → List Frame → Prop
  | same (p : Bool) (cs : List Frame) : CsR p cs cs
  | mode (c : Frame) (m : FrameMode) (cs : List Frame) : CsR true (c :: cs) ({ c with mode := m } :: cs)
theorem CsR.trans {p : Bool} {a b c : List Frame} (h : CsR p a b) (k : CsR p b c) : CsR p a c := by
  cases h with
  | same => exact k
  | mode c m cs =>
    cases k with
    | same => exact .mode c m cs
    | mode _ m' _ => exact .mode c m' cs
theorem CsR.eq {a b : List Frame} (h : CsR false a b) : b = a := by cases h; rfl

/-- no item of an entry: then a panic goes through the frame -/
def Plain (k : List Item) : Prop := ∀ d wr r s j, k ≠ .call d wr r s :: j
/-- where the frame is, behind a piece of code -/
def Where (a : Av) (k : List Item) (ex : Ex) (φ : Inj) (fr : Frame) : Prop :=
  match ex with
  | .normal => fr = a.at k
  | .exit id => ∃ j, fr = a.at (.code (.exit id) :: j) ∧ exitTo id j = exitTo id k
  | .ret => ∃ j, fr = a.at (.code .ret :: j)
  | .panic v => ∃ j v', fr = a.pan j v' ∧ VR φ v v' ∧ Plain j
/-- what a piece of code comes to, here and there -/
def RcOk (P : Program) (n lo : Nat) (φ : Inj) (A : AW) (w : World) (p : Bool) (a : Av) (cs : List Frame) (start : Frame) (k : List Item) (y : RC) : Prop :=
  match y with
  | .fail => True
  | .ok ex t ds A' x' => ∃ φ' w' a' cs' fr', MR P φ' A' w' ∧ Ext φ A w φ' A' w' ∧ HeldX ex φ' w' n lo t ds a' ∧ a.Like a' ∧ CtxR φ' x' a.kind a.roundOf cs' ∧ (CsR p cs cs' ∧ isPan x' = p) ∧
      Where a' k ex φ' fr' ∧ Steps P (lone start cs w) (lone fr' cs' w')
/-- a piece of work that lies before the rest -/
def DoesOk (P : Program) (n : Nat) (pre : List Item) (F : CodeF) : Prop :=
  ∀ (φ : Inj) (A : AW) (w : World) (lo : Nat) (t : Tm) (ds : List Deferred) (x : Ctx) (a : Av) (cs : List Frame) (k : List Item), MR P φ A w → Held φ w n lo t ds a → lo ≤ w.heap.size → CtxR φ x a.kind a.roundOf cs →
    RcOk P n lo φ A w (isPan x) a cs (a.at (pre ++ k)) k (F t ds A x)
theorem RcOk.steps {n lo : Nat} {p : Bool} {a : Av} {cs : List Frame} {s s' : Frame} {k : List Item} {y : RC} (h : Steps P (lone s cs w) (lone s' cs w)) (h' : RcOk P n lo φ A w p a cs s' k y) : RcOk P n lo φ A w p a cs s k y := by
  cases y with
  | fail => exact trivial
  | ok ex t ds A' x' =>
    obtain ⟨φ', w', a', cs', fr', h1, h2, h3, h4, h5, h6, h7, h8⟩ := h'
    exact ⟨φ', w', a', cs', fr', h1, h2, h3, h4, h5, h6, h7, h.trans h8⟩
/-- first one world's way, then another one's -/
theorem RcOk.after {n lo : Nat} {p : Bool} {φ1 : Inj} {A1 : AW} {w1 : World} {a a1 : Av} {cs cs1 : List Frame} {s s1 : Frame} {k : List Item} {y : RC} (he : Ext φ A w φ1 A1 w1) (hl : a.Like a1) (hc : CsR p cs cs1) (h : Steps P (lone s cs w) (lone s1 cs1 w1))
    (h' : RcOk P n lo φ1 A1 w1 p a1 cs1 s1 k y) : RcOk P n lo φ A w p a cs s k y := by
  cases y with
  | fail => exact trivial
  | ok ex t ds A' x' =>
    obtain ⟨φ', w', a', cs', fr', h1, h2, h3, h4, h5, h6, h7, h8⟩ := h'
    exact ⟨φ', w', a', cs', fr', h1, he.trans h2, h3, hl.trans h4, by rw [← hl.kind, ← hl.round]; exact h5, ⟨hc.trans h6.1, h6.2⟩, h7, h.trans h8⟩

/-! ### the small steps of control -/
theorem go1 {fr fr' : Frame} {cs cs' : List Frame} {w w' : World}
    (h : (stepG P true { frame := fr, callers := cs, status := .running, dying := none } w).bare = .go { frame := fr', callers := cs', status := .running, dying := none } w') : Steps P (lone fr cs w) (lone fr' cs' w') :=
  Steps.one (step_lone_go h)
theorem skip_ok (n : Nat) : DoesOk P n [.code .skip] fun t ds w x => .ok .normal t ds w x := fun φ A w lo t ds x a cs k hM hH _ hx =>
  ⟨φ, w, a, cs, a.at k, hM, Ext.refl _ _ _, hH, .refl _, hx, ⟨.same _ _, rfl⟩, rfl, go1 (by simp [stepG, stepG.exec, Av.at])⟩
theorem label_ok (n l : Nat) : DoesOk P n [.code (.label l)] fun t ds w x => .ok .normal t ds w x := fun φ A w lo t ds x a cs k hM hH _ hx =>
  ⟨φ, w, a, cs, a.at k, hM, Ext.refl _ _ _, hH, .refl _, hx, ⟨.same _ _, rfl⟩, rfl, go1 (by simp [stepG, stepG.exec, Av.at])⟩
theorem exit_ok (n id : Nat) : DoesOk P n [.code (.exit id)] fun t ds w x => .ok (.exit id) t ds w x := fun φ A w lo t ds x a cs k hM hH _ hx =>
  ⟨φ, w, a, cs, _, hM, Ext.refl _ _ _, hH, .refl _, hx, ⟨.same _ _, rfl⟩, ⟨k, rfl, rfl⟩, .refl _ _⟩
theorem ret_ok (n : Nat) : DoesOk P n [.code .ret] fun t ds w x => .ok .ret t ds w x := fun φ A w lo t ds x a cs k hM hH _ hx =>
  ⟨φ, w, a, cs, _, hM, Ext.refl _ _ _, hH, .refl _, hx, ⟨.same _ _, rfl⟩, ⟨k, rfl⟩, .refl _ _⟩
/-- one piece, and then the other -/
theorem seqK_ok {n : Nat} {p q : List Item} {F G : CodeF} (hp : ∀ id k, exitTo id (q ++ k) = exitTo id k) (hF : DoesOk P n p F) (hG : DoesOk P n q G) : DoesOk P n (p ++ q) fun t ds w x => seqK G (F t ds w x) := by
  intro φ A w lo t ds x a cs k hM hH hlo hx
  have h := hF φ A w lo t ds x a cs (q ++ k) hM hH hlo hx
  rw [← List.append_assoc] at h
  show RcOk P n lo φ A w (isPan x) a cs (a.at (p ++ q ++ k)) k (seqK G (F t ds A x))
  cases hy : F t ds A x with
  | fail => exact trivial
  | ok ex t1 ds1 A1 x1 =>
    rw [hy] at h
    obtain ⟨φ1, w1, a1, cs1, fr1, h1, h2, h3, h4, h5, h6, h7, h8⟩ := h
    cases ex with
    | normal =>
      have h7 : fr1 = a1.at (q ++ k) := h7
      subst h7
      exact RcOk.after h2 h4 h6.1 h8 (h6.2 ▸ hG φ1 A1 w1 lo t1 ds1 x1 a1 cs1 k h1 h3 (Nat.le_trans hlo h2.size) (by rw [h4.kind, h4.round]; exact h5))
    | exit id =>
      obtain ⟨j, h9, h10⟩ := h7
      exact ⟨φ1, w1, a1, cs1, fr1, h1, h2, h3, h4, h5, h6, ⟨j, h9, by rw [h10, hp]⟩, h8⟩
    | ret => exact ⟨φ1, w1, a1, cs1, fr1, h1, h2, h3, h4, h5, h6, h7, h8⟩
    | panic v => exact ⟨φ1, w1, a1, cs1, fr1, h1, h2, h3, h4, h5, h6, h7, h8⟩
theorem DoesOk.pre {n : Nat} {p q : List Item} {F : CodeF} (h : ∀ (a : Av) (cs : List Frame) (k : List Item) (w : World), Steps P (lone (a.at (p ++ k)) cs w) (lone (a.at (q ++ k)) cs w)) (hF : DoesOk P n q F) : DoesOk P n p F :=
  fun φ A w lo t ds x a cs k hM hH hlo hx => RcOk.steps (h a cs k w) (hF φ A w lo t ds x a cs k hM hH hlo hx)
theorem seq_ok {n : Nat} {a b : Code} {F G : CodeF} (hF : DoesOk P n [.code a] F) (hG : DoesOk P n [.code b] G) : DoesOk P n [.code (.seq a b)] fun t ds w x => seqK G (F t ds w x) :=
  DoesOk.pre (q := [.code a] ++ [.code b]) (fun a cs k w => go1 (by simp [stepG, stepG.exec, Av.at])) (seqK_ok (fun _ _ => rfl) hF hG)
theorem scope_ok {n : Nat} {c : Code} {F : CodeF} (hF : DoesOk P n [.code c] F) : DoesOk P n [.code (.scope c)] F := by
  have h1 : DoesOk P n [.inScope c] fun t ds w x => .ok .normal t ds w x := fun φ A w lo t ds x a cs k hM hH _ hx =>
    ⟨φ, w, a, cs, a.at k, hM, Ext.refl _ _ _, hH, .refl _, hx, ⟨.same _ _, rfl⟩, rfl, go1 (by simp [stepG, stepG.exec, Av.at])⟩
  have h2 := seqK_ok (fun _ _ => rfl) hF h1
  have e : (fun t ds w x => seqK (fun t ds w x => .ok .normal t ds w x) (F t ds w x)) = F := by
    funext t ds w x
    cases F t ds w x with
    | fail => rfl
    | ok ex t ds w x => cases ex <;> rfl
  rw [e] at h2
  exact DoesOk.pre (fun a cs k w => go1 (by simp [stepG, stepG.exec, Av.at])) h2
theorem loopN_ok {n : Nat} {c : Code} {F : CodeF} (hF : DoesOk P n [.code c] F) : ∀ m, DoesOk P n [.inLoop c] (loopN F m)
  | 0 => fun φ A w lo t ds x a cs k _ _ _ _ => trivial
  | m + 1 => DoesOk.pre (q := [.code c] ++ [.inLoop c]) (fun a cs k w => go1 (by simp [stepG, stepG.exec, Av.at])) (seqK_ok (fun _ _ => rfl) hF (loopN_ok hF m))
theorem loop_ok {n : Nat} {c : Code} {F : CodeF} (hF : DoesOk P n [.code c] F) (m : Nat) : DoesOk P n [.code (.loop c)] (loopN F m) := by
  cases m with
  | zero => exact fun φ A w lo t ds x a cs k _ _ _ _ => trivial
  | succ m => exact DoesOk.pre (q := [.code c] ++ [.inLoop c]) (fun a cs k w => go1 (by simp [stepG, stepG.exec, Av.at])) (seqK_ok (fun _ _ => rfl) hF (loopN_ok hF m))
theorem block_ok {n id : Nat} {c : Code} {F : CodeF} (hF : DoesOk P n [.code c] F) : DoesOk P n [.code (.block id c)] fun t ds w x => blockK id (F t ds w x) := by
  intro φ A w lo t ds x a cs k hM hH hlo hx
  have h := hF φ A w lo t ds x a cs (.inBlock id :: k) hM hH hlo hx
  refine RcOk.steps (s' := a.at ([.code c] ++ .inBlock id :: k)) (go1 (by simp [stepG, stepG.exec, Av.at])) ?_
  show RcOk P n lo φ A w (isPan x) a cs (a.at ([.code c] ++ .inBlock id :: k)) k (blockK id (F t ds A x))
  cases hy : F t ds A x with
  | fail => exact trivial
  | ok ex t1 ds1 A1 x1 =>
    rw [hy] at h
    obtain ⟨φ1, w1, a1, cs1, fr1, h1, h2, h3, h4, h5, h6, h7, h8⟩ := h
    cases ex with
    | normal =>
      have h7 : fr1 = a1.at (.inBlock id :: k) := h7
      subst h7
      exact ⟨φ1, w1, a1, cs1, a1.at k, h1, h2, h3, h4, h5, h6, rfl, h8.trans (go1 (by simp [stepG, stepG.exec, Av.at]))⟩
    | exit i =>
      obtain ⟨j, h9, h10⟩ := h7
      subst h9
      simp only [blockK]
      cases hb : Nat.beq i id with
      | true =>
        have := Nat.eq_of_beq_eq_true hb
        subst this
        have h11 : exitTo i j = some k := by rw [h10]; simp [exitTo]
        exact ⟨φ1, w1, a1, cs1, a1.at k, h1, h2, h3, h4, h5, h6, rfl, h8.trans (go1 (by simp [stepG, stepG.exec, Av.at, h11]))⟩
      | false =>
        have hne : ¬ id = i := by rintro rfl; simp at hb
        exact ⟨φ1, w1, a1, cs1, _, h1, h2, h3, h4, h5, h6, ⟨j, rfl, by rw [h10]; simp [exitTo, hne]⟩, h8⟩
    | ret => exact ⟨φ1, w1, a1, cs1, fr1, h1, h2, h3, h4, h5, h6, h7, h8⟩
    | panic v => exact ⟨φ1, w1, a1, cs1, fr1, h1, h2, h3, h4, h5, h6, h7, h8⟩
theorem eval_at (a : Av) (k : List Item) : (a.at k).tmps = a.tmps := rfl
theorem cond_ok {n : Nat} {c : Operand} {b d : Code} {F G : CodeF} (hc : constOk P c = true) (hF : DoesOk P n [.code b] F) (hG : DoesOk P n [.code d] G) : DoesOk P n [.code (.cond c b d)] fun t ds w x => condK F G t ds w x ((evS c).val t) := by
  intro φ A w lo t ds x a cs k hM hH hlo hx
  have he := evS_ok hM (fr := a.at ([.code (.cond c b d)] ++ k)) hH.tmps c hc
  show RcOk P n lo φ A w (isPan x) a cs (a.at ([.code (.cond c b d)] ++ k)) k (condK F G t ds A x ((evS c).val t))
  cases hv : (evS c).val t with
  | bool bb =>
    rw [hv] at he
    have he := VR_bool he
    have hst : Steps P (lone (a.at ([.code (.cond c b d)] ++ k)) cs w) (lone (a.at ([.code (if bb then b else d)] ++ k)) cs w) := by
      refine go1 ?_
      simp only [Av.at, List.cons_append, List.nil_append] at he
      simp [stepG, stepG.exec, Av.at, he]
    refine RcOk.steps hst ?_
    cases bb with
    | true => exact hF φ A w lo t ds x a cs k hM hH hlo hx
    | false => exact hG φ A w lo t ds x a cs k hM hH hlo hx
  | _ => exact trivial
end Go.Sh
