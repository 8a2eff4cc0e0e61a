/- Part of a proof by a machine of ones own: see the text with the theorem. -/
import Derived.Test.YtanpablcoimajaaDoorSh1
import Derived.Laws.Sem
import Derived.Laws.World
import Derived.StepT
import Derived.Below
import Derived.Calls
namespace Go.Sh
open Go

/-- where a block lies: nowhere any more; or in the block c, which has n cells, s of them an element, from the cell d on -/
inductive Ent where
  | dead
  | at_ (c n s d : Nat)
abbrev Inj := Nat → Option Ent
def Inj.le (φ φ' : Inj) : Prop := ∀ b e, φ b = some e → φ' b = some e ∨ φ' b = some .dead
theorem Inj.le_refl (φ : Inj) : φ.le φ := fun _ _ h => .inl h
theorem Inj.le_trans {φ ψ χ : Inj} (h : φ.le ψ) (k : ψ.le χ) : φ.le χ := fun b e he => by
  rcases h b e he with h1 | h1
  · exact k b e h1
  · rcases k b _ h1 with h2 | h2 <;> exact .inr h2

def AddrR (φ : Inj) (a a' : Addr) : Prop :=
  φ a.block = some .dead ∨ ∃ c n s d, φ a.block = some (.at_ c n s d) ∧ a'.block = c ∧ a'.off = a.off + d ∧ a'.spot = none
def BlkR (φ : Inj) (b b' : Nat) : Prop := φ b = some .dead ∨ ∃ n s d, φ b = some (.at_ b' n s d)
def RoomR (φ : Inj) (b : Nat) (a' : Addr) (cap : Nat) : Prop := ∀ c n s d, φ b = some (.at_ c n s d) → a'.off + cap * s ≤ n
def FnR (φ : Inj) (f f' : Fn) : Prop := (f = f' ∧ ∀ l, f ≠ .yield l) ∨ ∃ l l', f = .yield l ∧ f' = .yield l' ∧ BlkR φ l l'

mutual
inductive VR (φ : Inj) : Value → Value → Prop
  | bool (b : Bool) : VR φ (.bool b) (.bool b)
  | int (k : IntKind) (n : Int) : VR φ (.int k n) (.int k n)
  | float (k : FloatKind) (n : Nat) : VR φ (.float k n) (.float k n)
  | complex (k : FloatKind) (n m : Nat) : VR φ (.complex k n m) (.complex k n m)
  | string (s : ByteArray) : VR φ (.string s) (.string s)
  | ptrNil : VR φ (.pointer none) (.pointer none)
  | ptr {a a' : Addr} (h : AddrR φ a a') : VR φ (.pointer (some a)) (.pointer (some a'))
  | slNil : VR φ (.slice none 0 0) (.slice none 0 0)
  | sl {a a' : Addr} {l c c' : Nat} (h : AddrR φ a a') (hl : l ≤ c) (hc : c ≤ c') (hr : a.spot = none → RoomR φ a.block a' c') : VR φ (.slice (some a) l c) (.slice (some a') l c')
  | sl0 {a a' : Addr} (h : BlkR φ a.block a'.block) : VR φ (.slice (some a) 0 0) (.slice (some a') 0 0)
  | mapNil : VR φ (.map none) (.map none)
  | map {r r' : Nat} (h : BlkR φ r r') : VR φ (.map (some r)) (.map (some r'))
  | func {f f' : Fn} {x x' y y' : List Value} (hf : FnR φ f f') (hx : LR φ x x') (hy : LR φ y y') : VR φ (.func f ⟨x⟩ ⟨y⟩) (.func f' ⟨x'⟩ ⟨y'⟩)
  | nilFunc : VR φ .nilFunc .nilFunc
  | nilIface : VR φ .nilIface .nilIface
  | iface (t : TypeId) {v v' : Value} (h : VR φ v v') : VR φ (.iface t v) (.iface t v')
  | agg {l l' : List Value} (h : LR φ l l') : VR φ (.agg ⟨l⟩) (.agg ⟨l'⟩)
  | tuple {l l' : List Value} (h : LR φ l l') : VR φ (.tuple ⟨l⟩) (.tuple ⟨l'⟩)
  | unk {v : Value} (h : single v = true) : VR φ Sh.unk v
inductive LR (φ : Inj) : List Value → List Value → Prop
  | nil : LR φ [] []
  | cons {v v' : Value} {l l' : List Value} (h : VR φ v v') (k : LR φ l l') : LR φ (v :: l) (v' :: l')
end

section mono
variable {φ φ' : Inj}
theorem AddrR.mono {a a' : Addr} (h : AddrR φ a a') (hle : φ.le φ') : AddrR φ' a a' := by
  rcases h with h | ⟨c, n, s, d, h, h1⟩
  · exact .inl ((hle _ _ h).elim id id)
  · rcases hle _ _ h with h' | h'
    · exact .inr ⟨c, n, s, d, h', h1⟩
    · exact .inl h'
theorem BlkR.mono {a a' : Nat} (h : BlkR φ a a') (hle : φ.le φ') : BlkR φ' a a' := by
  rcases h with h | ⟨n, s, d, h⟩
  · exact .inl ((hle _ _ h).elim id id)
  · rcases hle _ _ h with h' | h'
    · exact .inr ⟨n, s, d, h'⟩
    · exact .inl h'
theorem FnR.mono {f f' : Fn} (h : FnR φ f f') (hle : φ.le φ') : FnR φ' f f' := by
  rcases h with h | ⟨l, l', h1, h2, h3⟩
  · exact .inl h
  · exact .inr ⟨l, l', h1, h2, h3.mono hle⟩
/-- a block that is known stays where it is -/
theorem RoomR.mono {a a' : Addr} {c : Nat} (ha : AddrR φ a a') (h : RoomR φ a.block a' c) (hle : φ.le φ') : RoomR φ' a.block a' c := by
  intro c1 n s d he
  rcases ha with h1 | ⟨c2, n2, s2, d2, h1, h2⟩
  · rcases hle _ _ h1 with h3 | h3 <;> rw [h3] at he <;> cases he
  · rcases hle _ _ h1 with h3 | h3
    · rw [h3] at he
      injection he with he
      injection he with e1 e2 e3 e4
      subst e1 e2 e3 e4
      exact h _ _ _ _ h1
    · rw [h3] at he; cases he
mutual
theorem VR.mono {v v' : Value} (h : VR φ v v') (hle : φ.le φ') : VR φ' v v' := by
  cases h with
  | bool => exact .bool _
  | int => exact .int _ _
  | float => exact .float _ _
  | complex => exact .complex _ _ _
  | string => exact .string _
  | ptrNil => exact .ptrNil
  | ptr h => exact .ptr (h.mono hle)
  | slNil => exact .slNil
  | sl h hl hc hr => exact .sl (h.mono hle) hl hc fun e => RoomR.mono h (hr e) hle
  | sl0 h => exact .sl0 (h.mono hle)
  | mapNil => exact .mapNil
  | map h => exact .map (h.mono hle)
  | func hf hx hy => exact .func (hf.mono hle) (hx.mono hle) (hy.mono hle)
  | nilFunc => exact .nilFunc
  | nilIface => exact .nilIface
  | iface t h => exact .iface t (h.mono hle)
  | agg h => exact .agg (h.mono hle)
  | tuple h => exact .tuple (h.mono hle)
  | unk h => exact .unk h
theorem LR.mono {l l' : List Value} (h : LR φ l l') (hle : φ.le φ') : LR φ' l l' := by
  cases h with
  | nil => exact .nil
  | cons h k => exact .cons (h.mono hle) (k.mono hle)
end
end mono

section lists
variable {φ : Inj}
theorem LR.length {l l' : List Value} (h : LR φ l l') : l.length = l'.length := by
  induction l generalizing l' with
  | nil => cases h; rfl
  | cons v l ih => cases h with | cons h k => simp [ih k]
theorem LR.append {l l' m m' : List Value} (h : LR φ l l') (k : LR φ m m') : LR φ (l ++ m) (l' ++ m') := by
  induction l generalizing l' with
  | nil => cases h; exact k
  | cons v l ih => cases h with | cons h h' => exact .cons h (ih h')
theorem LR.take {l l' : List Value} (h : LR φ l l') (n : Nat) : LR φ (l.take n) (l'.take n) := by
  induction l generalizing l' n with
  | nil => cases h; simp; exact .nil
  | cons v l ih => cases h with
    | cons h h' => cases n with
      | zero => simp; exact .nil
      | succ n => simp only [List.take_succ_cons]; exact .cons h (ih h' n)
theorem LR.drop {l l' : List Value} (h : LR φ l l') (n : Nat) : LR φ (l.drop n) (l'.drop n) := by
  induction l generalizing l' n with
  | nil => cases h; simp; exact .nil
  | cons v l ih => cases h with
    | cons h h' => cases n with
      | zero => exact .cons h h'
      | succ n => simp only [List.drop_succ_cons]; exact ih h' n
theorem LR.get {l l' : List Value} (h : LR φ l l') {i : Nat} {v : Value} (hv : l[i]? = some v) : ∃ v', l'[i]? = some v' ∧ VR φ v v' := by
  induction l generalizing l' i with
  | nil => simp at hv
  | cons u l ih => cases h with
    | cons h h' => cases i with
      | zero => simp at hv; subst hv; exact ⟨_, rfl, h⟩
      | succ i => simp at hv; exact ih h' hv
theorem LR.of_get {l l' : List Value} (hl : l.length = l'.length) (h : ∀ (i : Nat) (v v' : Value), l[i]? = some v → l'[i]? = some v' → VR φ v v') : LR φ l l' := by
  induction l generalizing l' with
  | nil => cases l' with
    | nil => exact .nil
    | cons => simp at hl
  | cons u l ih => cases l' with
    | nil => simp at hl
    | cons u' l' => exact .cons (h 0 u u' rfl rfl) (ih (by simpa using hl) fun i v v' h1 h2 => h (i + 1) v v' (by simpa using h1) (by simpa using h2))
theorem LR.splice {l l' m m' : List Value} (h : LR φ l l') (k : LR φ m m') (n : Nat) (hn : n + m.length ≤ l.length) : LR φ (spliceL n l m) (l'.take n ++ (m' ++ l'.drop (n + m'.length))) := by
  rw [spliceL_eq n l m (by omega), ← k.length]
  exact (h.take n).append (k.append (h.drop _))
end lists

theorem groundC_all {f : Value → Bool} : ∀ {l : List Value}, groundC.allC f l = true → ∀ v ∈ l, f v = true
  | [], _, v, hv => by cases hv
  | x :: _, h, v, hv => by
    simp only [groundC.allC] at h
    cases hx : f x with
    | false => rw [hx] at h; simp at h
    | true =>
      rw [hx] at h
      simp at h
      cases hv with
      | head => exact hx
      | tail _ hv => exact groundC_all h v hv
theorem LR_self {φ : Inj} : ∀ {l : List Value}, (∀ v ∈ l, VR φ v v) → LR φ l l
  | [], _ => .nil
  | v :: _, h => .cons (h v (List.mem_cons_self ..)) (LR_self fun u hu => h u (List.mem_cons_of_mem _ hu))
theorem ground_VR {φ : Inj} : ∀ (n : Nat) (v : Value), groundC n v = true → VR φ v v
  | 0, v, h => by simp [groundC] at h
  | n + 1, v, h => by
    cases v with
    | bool b => exact .bool b
    | int k n => exact .int k n
    | float k n => exact .float k n
    | complex k a b => exact .complex k a b
    | string s => exact .string s
    | nilFunc => exact .nilFunc
    | nilIface => exact .nilIface
    | pointer a => cases a with
      | none => exact .ptrNil
      | some a => simp [groundC] at h
    | map a => cases a with
      | none => exact .mapNil
      | some a => simp [groundC] at h
    | slice a l c => cases a with
      | none =>
        simp [groundC] at h
        obtain ⟨rfl, rfl⟩ := h
        exact .slNil
      | some a => simp [groundC] at h
    | agg l => obtain ⟨l⟩ := l; exact .agg (LR_self fun v hv => ground_VR n v (groundC_all (by simpa [groundC] using h) v hv))
    | tuple l => obtain ⟨l⟩ := l; exact .tuple (LR_self fun v hv => ground_VR n v (groundC_all (by simpa [groundC] using h) v hv))
    | iface t v => exact .iface t (ground_VR n v (by simpa [groundC] using h))
    | func => simp [groundC] at h
    | chan => simp [groundC] at h

/-! memory -/
inductive ER (φ : Inj) : List MapEntry → List MapEntry → Prop
  | nil : ER φ [] []
  | cons {e e' : MapEntry} {l l' : List MapEntry} (hk : VR φ e.key e'.key) (hv : VR φ e.val e'.val) (hb : e.born = e'.born) (h : ER φ l l') : ER φ (e :: l) (e' :: l')
theorem ER.mono {φ φ' : Inj} {l l' : List MapEntry} (h : ER φ l l') (hle : φ.le φ') : ER φ' l l' := by
  induction h with
  | nil => exact .nil
  | cons hk hv hb _ ih => exact .cons (hk.mono hle) (hv.mono hle) hb ih
theorem ER.length {φ : Inj} {l l' : List MapEntry} (h : ER φ l l') : l.length = l'.length := by
  induction h with
  | nil => rfl
  | cons _ _ _ _ ih => simp [ih]

/-- the temporaries of a frame of n -/
def TR (φ : Inj) (n : Nat) (t : Tm) (a : Array Value) : Prop := n ≤ a.size ∧ ∀ i, VR φ (tget t i) (a.getD i undef)
theorem TR.mono {φ φ' : Inj} {n : Nat} {t : Tm} {a : Array Value} (h : TR φ n t a) (hle : φ.le φ') : TR φ' n t a := ⟨h.1, fun i => (h.2 i).mono hle⟩
theorem undef_VR {φ : Inj} : VR φ undef undef := .tuple .nil
theorem TR.set {φ : Inj} {n : Nat} {t : Tm} {a : Array Value} (h : TR φ n t a) {d : Nat} (hd : d < n) (hn : n ≤ 60000) {v v' : Value} (hv : VR φ v v') : TR φ n (tset t d v) (a.setIfInBounds d v') := by
  refine ⟨by simpa using h.1, fun i => ?_⟩
  rw [tget_tset t d v i (by omega)]
  by_cases e : i = d
  · subst e
    have hi : i < a.size := Nat.lt_of_lt_of_le hd h.1
    simp [hi, hv]
  · rw [if_neg e]
    have := h.2 i
    simpa [Array.getElem?_setIfInBounds, Ne.symm e] using this

structure LoopR (φ : Inj) (lp : ALoop) (l : Loop) : Prop where
  state : l.state = lp.state
  pending : l.pending = lp.pending
  params : l.params.toList = lp.params
  assign : l.assign = lp.assign
  body : l.body = lp.body
  tmps : TR φ lp.n lp.tmps l.tmps
  dst : ∀ d ∈ lp.params, dstOk lp.n (some d) = true
theorem LoopR.mono {φ φ' : Inj} {lp : ALoop} {l : Loop} (h : LoopR φ lp l) (hle : φ.le φ') : LoopR φ' lp l := ⟨h.state, h.pending, h.params, h.assign, h.body, h.tmps.mono hle, h.dst⟩

structure CellsR (P : Program) (φ : Inj) (c : List Value) (e : TypeId) (ro : Bool) (cc : List Value) (e' : TypeId) (fz : Nat × Nat) (n s d : Nat) : Prop where
  elem : e' = e
  size : cc.length = n
  unit : s = (szOf P e).getD 0
  fits : d + c.length ≤ n
  cells : LR φ c ((cc.drop d).take c.length)
  free : ro = false → ∀ off, off < n → ¬ (fz.1 ≤ off ∧ off < fz.2)
  mult : s ∣ d
def OR (P : Program) (φ : Inj) (o : AObj) (oc : Obj) (n s d : Nat) : Prop :=
  match o with
  | .cells c e ro => ∃ cc e' fz, oc = .cells ⟨cc⟩ e' fz ∧ CellsR P φ c e ro cc e' fz n s d
  | .map es k => ∃ es', oc = .map ⟨es'⟩ k ∧ ER φ es es'
  | .siter s pos => oc = .stringIter s pos ∧ d = 0
  | .loop lp => ∃ l, oc = .loop l ∧ LoopR φ lp l
theorem OR.mono {P : Program} {φ φ' : Inj} {o : AObj} {oc : Obj} {n s d : Nat} (h : OR P φ o oc n s d) (hle : φ.le φ') : OR P φ' o oc n s d := by
  cases o with
  | cells c e ro =>
    obtain ⟨cc, e', fz, h1, h2⟩ := h
    exact ⟨cc, e', fz, h1, ⟨h2.elem, h2.size, h2.unit, h2.fits, h2.cells.mono hle, h2.free, h2.mult⟩⟩
  | map es k =>
    obtain ⟨es', h1, h2⟩ := h
    exact ⟨es', h1, h2.mono hle⟩
  | siter => exact h
  | loop lp =>
    obtain ⟨l, h1, h2⟩ := h
    exact ⟨l, h1, h2.mono hle⟩

structure MR (P : Program) (φ : Inj) (A : AW) (w : World) : Prop where
  obj : ∀ b c n s d, φ b = some (.at_ c n s d) → ∃ o oc, A.heap.get b = some o ∧ w.heap[c]? = some oc ∧ OR P φ o oc n s d
  dead : ∀ b, φ b = some .dead → A.heap.get b = none
  one : ∀ b b' c n s d n' s' d', φ b = some (.at_ c n s d) → φ b' = some (.at_ c n' s' d') → b = b'
  fresh : ∀ b, A.next ≤ b → φ b = none
  globals : ∀ g, g < P.globals.size → φ g = some .dead ∨ ∃ n s, φ g = some (.at_ g n s 0)
  lim : A.lim ≤ A.next

/-- how the world goes on -/
structure Ext (φ : Inj) (A : AW) (w : World) (φ' : Inj) (A' : AW) (w' : World) : Prop where
  le : φ.le φ'
  lim : A'.lim = A.lim
  next : A.next ≤ A'.next
  low : ∀ b, b < A.lim → A'.heap.get b = A.heap.get b ∧ φ' b = φ b
  size : w.heap.size ≤ w'.heap.size
  frame : ∀ c, c < w.heap.size → (∀ b n s d, φ b = some (.at_ c n s d) → b < A.lim) → w'.heap[c]? = w.heap[c]?
  new : ∀ b c n s d, φ' b = some (.at_ c n s d) → φ b = some (.at_ c n s d) ∨ (A.next ≤ b ∧ (w.heap.size ≤ c ∨ ∃ b0 n0 s0 d0, φ b0 = some (.at_ c n0 s0 d0) ∧ A.lim ≤ b0))
  idle : ∀ b, b < A.next → φ b = none → A'.heap.get b = A.heap.get b ∧ φ' b = none
  os : w'.os = w.os
  tape : w'.tape = w.tape
  output : w'.output = w.output
theorem Ext.refl (φ : Inj) (A : AW) (w : World) : Ext φ A w φ A w :=
  ⟨φ.le_refl, rfl, Nat.le_refl _, fun _ _ => ⟨rfl, rfl⟩, Nat.le_refl _, fun _ _ _ => rfl, fun _ _ _ _ _ h => .inl h, fun _ _ h => ⟨rfl, h⟩, rfl, rfl, rfl⟩
theorem Ext.trans {φ φ1 φ2 : Inj} {A A1 A2 : AW} {w w1 w2 : World} (h : Ext φ A w φ1 A1 w1) (k : Ext φ1 A1 w1 φ2 A2 w2): Ext φ A w φ2 A2 w2 := by
  refine ⟨Inj.le_trans h.le k.le, k.lim.trans h.lim, Nat.le_trans h.next k.next, fun b hb => ?_, Nat.le_trans h.size k.size, fun c hc hb => ?_, fun b c n s d hb => ?_, fun b hb hn => ?_, k.os.trans h.os, k.tape.trans h.tape, k.output.trans h.output⟩
  · have h1 := h.low b hb
    have h2 := k.low b (by rw [h.lim]; exact hb)
    exact ⟨h2.1.trans h1.1, h2.2.trans h1.2⟩
  · rw [k.frame c (Nat.lt_of_lt_of_le hc h.size) ?_, h.frame c hc hb]
    intro b n s d he
    rw [h.lim]
    rcases h.new b c n s d he with h1 | ⟨_, h1 | ⟨b0, n0, s0, d0, h1, h2⟩⟩
    · exact hb b n s d h1
    · omega
    · have := hb b0 n0 s0 d0 h1; omega
  · rcases k.new b c n s d hb with h1 | ⟨h0, h1 | ⟨b0, n0, s0, d0, h1, h2⟩⟩
    · exact h.new b c n s d h1
    · exact .inr ⟨Nat.le_trans h.next h0, .inl (Nat.le_trans h.size h1)⟩
    · rcases h.new b0 c n0 s0 d0 h1 with h3 | ⟨_, h3⟩
      · exact .inr ⟨Nat.le_trans h.next h0, .inr ⟨b0, n0, s0, d0, h3, by rw [h.lim] at h2; exact h2⟩⟩
      · exact .inr ⟨Nat.le_trans h.next h0, h3⟩
  · have h1 := h.idle b hb hn
    have h2 := k.idle b (Nat.lt_of_lt_of_le hb h.next) h1.2
    exact ⟨h2.1.trans h1.1, h2.2⟩
end Go.Sh
