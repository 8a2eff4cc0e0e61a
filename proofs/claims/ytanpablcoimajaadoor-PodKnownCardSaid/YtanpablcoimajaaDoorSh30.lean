/- Part of a proof by a machine of ones own: see the text with the theorem. -/
import Derived.Test.YtanpablcoimajaaDoorSh29
import Derived.Orders
set_option linter.unusedVariables false
set_option linter.unusedSimpArgs false
namespace Go.Sh
open Go
variable {P : Program} {φ : Inj} {A : AW} {w : World}

/-! ## Blocks that come to be known later -/
theorem get_add (A : AW) (o : AObj) (x : Nat) : (A.add o).heap.get x = if x = A.next then some o else A.heap.get x := get_put _ _ _ _
theorem MR.more (hM : MR P φ A w) (o : AObj) : MR P φ (A.add o) w := by
  refine ⟨fun x c n s d hx => ?_, fun x hx => ?_, hM.one, fun x hx => hM.fresh x (by have : A.next + 1 ≤ x := hx; omega), hM.globals, Nat.le_trans hM.lim (Nat.le_succ _)⟩
  · obtain ⟨o1, oc, h1, h2, h3⟩ := hM.obj x c n s d hx
    have e : x ≠ A.next := fun e => by have := hM.fresh x (by omega); rw [this] at hx; cases hx
    exact ⟨o1, oc, by rw [get_add, if_neg e]; exact h1, h2, h3⟩
  · have e : x ≠ A.next := fun e => by have := hM.fresh x (by omega); rw [this] at hx; cases hx
    rw [get_add, if_neg e]
    exact hM.dead x hx
theorem Ext.more {φ0 : Inj} {A0 : AW} {w0 : World} (e : Ext φ0 A0 w0 φ A w) (hl : A0.lim ≤ A0.next) (o : AObj) : Ext φ0 A0 w0 φ (A.add o) w := by
  have hn := e.next
  refine ⟨e.le, e.lim, Nat.le_trans e.next (Nat.le_succ _), fun x hx => ?_, e.size, e.frame, e.new, fun x hx h => ?_, e.os, e.tape, e.output⟩
  · rw [get_add, if_neg (by omega)]; exact e.low x hx
  · rw [get_add, if_neg (by omega)]; exact e.idle x hx h
theorem MR.place (hM : MR P φ A w) {b : Nat} (hb : φ b = none) (hlt : b < A.next) {o : AObj} {oc : Obj} {n s : Nat} (hg : A.heap.get b = some o) (ho : OR P φ o oc n s 0) :
    MR P (φ.add b (.at_ w.heap.size n s 0)) A (w.alloc oc) := by
  have hle : φ.le (φ.add b (.at_ w.heap.size n s 0)) := Inj.le_add hb
  have hφ : ∀ x, (φ.add b (.at_ w.heap.size n s 0)) x = if x = b then some (.at_ w.heap.size n s 0) else φ x := fun _ => rfl
  have hlow : ∀ x c n s d, φ x = some (.at_ c n s d) → c < w.heap.size := fun x c n s d hx => by
    obtain ⟨_, _, _, h, _⟩ := hM.obj _ _ _ _ _ hx
    exact lt_of_heap h
  refine ⟨fun x cx nx sx dx hx => ?_, fun x hx => ?_, fun x y c n1 s1 d1 n2 s2 d2 hx hy => ?_, fun x hx => ?_, fun g hg => ?_, hM.lim⟩
  · rw [hφ] at hx
    by_cases e : x = b
    · rw [if_pos e] at hx
      injection hx with hx
      injection hx with e1 e2 e3 e4
      subst e1 e2 e3 e4
      exact ⟨o, oc, e ▸ hg, push_same w oc, ho.mono hle⟩
    · rw [if_neg e] at hx
      obtain ⟨o1, oc1, h3, h4, h5⟩ := hM.obj _ _ _ _ _ hx
      exact ⟨o1, oc1, h3, by rw [push_old w oc (lt_of_heap h4)]; exact h4, h5.mono hle⟩
  · rw [hφ] at hx
    by_cases e : x = b
    · rw [if_pos e] at hx; cases hx
    · rw [if_neg e] at hx; exact hM.dead x hx
  · rw [hφ] at hx hy
    by_cases e : x = b
    · rw [if_pos e] at hx
      by_cases e' : y = b
      · rw [e, e']
      · rw [if_neg e'] at hy
        injection hx with hx
        injection hx with e1
        have := hlow _ _ _ _ _ hy
        omega
    · rw [if_neg e] at hx
      by_cases e' : y = b
      · rw [if_pos e'] at hy
        injection hy with hy
        injection hy with e1
        have := hlow _ _ _ _ _ hx
        omega
      · rw [if_neg e'] at hy
        exact hM.one _ _ _ _ _ _ _ _ _ hx hy
  · rw [hφ, if_neg (by omega)]
    exact hM.fresh x hx
  · rw [hφ]
    by_cases e : g = b
    · rcases hM.globals g hg with h | ⟨n, s, h⟩ <;> rw [e, hb] at h <;> cases h
    · rw [if_neg e]; exact hM.globals g hg
theorem Ext.place {φ0 : Inj} {A0 : AW} {w0 : World} (e : Ext φ0 A0 w0 φ A w) (hl : A0.lim ≤ A0.next) {b : Nat} (hb : φ b = none) (hn : A0.next ≤ b) (oc : Obj) (n s : Nat) : Ext φ0 A0 w0 (φ.add b (.at_ w.heap.size n s 0)) A (w.alloc oc) := by
  have hφ : ∀ x, (φ.add b (.at_ w.heap.size n s 0)) x = if x = b then some (.at_ w.heap.size n s 0) else φ x := fun _ => rfl
  have hsz := e.size
  refine ⟨Inj.le_trans e.le (Inj.le_add hb), e.lim, e.next, fun x hx => ?_, by show w0.heap.size ≤ (w.heap.push oc).size; simp; omega, fun c hc hu => ?_, fun x c n1 s1 d1 hx => ?_, fun x hx h => ?_, e.os, e.tape, e.output⟩
  · rw [hφ, if_neg (by omega)]; exact e.low x hx
  · rw [push_old w oc (by omega)]; exact e.frame c hc hu
  · rw [hφ] at hx
    by_cases e1 : x = b
    · rw [if_pos e1] at hx
      injection hx with hx
      injection hx with e2
      exact .inr ⟨by omega, .inl (by omega)⟩
    · rw [if_neg e1] at hx; exact e.new x c n1 s1 d1 hx
  · rw [hφ, if_neg (by omega)]; exact e.idle x hx h

/-! ## Lists of numbers -/
theorem nodup_le : ∀ (l m : List Nat), l.Nodup → (∀ x ∈ l, x ∈ m) → l.length ≤ m.length
  | [], m, _, _ => Nat.zero_le _
  | x :: l, m, hn, hs => by
    have hx : x ∈ m := hs x (List.mem_cons_self ..)
    have hn' := List.nodup_cons.1 hn
    have := nodup_le l (m.erase x) hn'.2 fun y hy => (List.mem_erase_of_ne (by rintro rfl; exact hn'.1 hy)).2 (hs y (List.mem_cons_of_mem _ hy))
    rw [List.length_erase_of_mem hx] at this
    have h1 : 0 < m.length := List.length_pos_of_mem hx
    simp only [List.length_cons]
    omega
/-- so many different numbers below n: all of them -/
theorem nodup_all {l : List Nat} {n : Nat} (hn : l.Nodup) (hs : ∀ x ∈ l, x < n) (hl : l.length = n) {j : Nat} (hj : j < n) : j ∈ l := by
  apply Classical.byContradiction
  intro h
  have := nodup_le l ((List.range n).erase j) hn fun x hx => (List.mem_erase_of_ne (by rintro rfl; exact h hx)).2 (List.mem_range.2 (hs x hx))
  rw [List.length_erase_of_mem (List.mem_range.2 hj), List.length_range] at this
  omega

/-! ## What is before what -/
theorem fold_bits (acc : Array Nat) (j : Nat) : ∀ (es : List Edge) (s : Nat), (es.foldl (fun s e => if Region.binds .any e then s ||| 2 ^ e.on ||| acc.getD e.on 0 else s) s).testBit j = true →
    s.testBit j = true ∨ ∃ e ∈ es, Region.binds .any e = true ∧ (e.on = j ∨ (acc.getD e.on 0).testBit j = true)
  | [], s, h => .inl h
  | e :: es, s, h => by
    simp only [List.foldl_cons] at h
    rcases fold_bits acc j es _ h with h1 | ⟨e', h1, h2⟩
    · cases hb : Region.binds .any e with
      | false => rw [hb] at h1; exact .inl (by simpa using h1)
      | true =>
        rw [hb] at h1
        simp only [if_true, Nat.testBit_or, Bool.or_eq_true] at h1
        rcases h1 with (h1 | h1) | h1
        · exact .inl h1
        · exact .inr ⟨e, List.mem_cons_self .., hb, .inl (by
            rw [Nat.testBit_two_pow] at h1
            exact of_decide_eq_true h1)⟩
        · exact .inr ⟨e, List.mem_cons_self .., hb, .inr h1⟩
    · exact .inr ⟨e', List.mem_cons_of_mem _ h1, h2⟩
def stepB (acc : Array Nat) (o : Oper) : Array Nat := acc.push (o.after.toList.foldl (fun s e => if Region.binds .any e then s ||| 2 ^ e.on ||| acc.getD e.on 0 else s) 0)
theorem before_eq (ops : Array Oper) : Region.before ops = ops.toList.foldl stepB #[] := by
  unfold Region.before
  rw [← Array.foldl_toList]
  congr 1
  funext acc o
  unfold stepB
  rw [← Array.foldl_toList]
def Bits (all : List Oper) (acc : Array Nat) : Prop :=
  ∀ i j, (acc.getD i 0).testBit j = true → ∃ o e, all[i]? = some o ∧ e ∈ o.after.toList ∧ Region.binds .any e = true ∧ (e.on = j ∨ (acc.getD e.on 0).testBit j = true)
theorem bits_fold (all : List Oper) : ∀ (rest : List Oper) (acc : Array Nat), all.drop acc.size = rest → Bits all acc → Bits all (rest.foldl stepB acc)
  | [], acc, _, h => h
  | o :: rest, acc, hr, h => by
    have ho : all[acc.size]? = some o := by
      have : (all.drop acc.size)[0]? = some o := by rw [hr]; rfl
      rw [List.getElem?_drop] at this
      simpa using this
    have hr' : all.drop (acc.size + 1) = rest := by rw [← List.drop_drop (i := 1) (j := acc.size), hr] <;> rfl
    refine bits_fold all rest (stepB acc o) (by simpa [stepB] using hr') ?_
    have hget : ∀ k, (stepB acc o).getD k 0 = if k = acc.size then (o.after.toList.foldl (fun s e => if Region.binds .any e then s ||| 2 ^ e.on ||| acc.getD e.on 0 else s) 0) else acc.getD k 0 := fun k => by
      unfold stepB
      simp only [Array.getD_eq_getD_getElem?, Array.getElem?_push]
      split <;> rfl
    have hmono : ∀ k j, (acc.getD k 0).testBit j = true → ((stepB acc o).getD k 0).testBit j = true := fun k j hk => by
      rw [hget]
      by_cases e : k = acc.size
      · subst e
        simp at hk
      · rw [if_neg e]; exact hk
    intro i j hi
    rw [hget] at hi
    by_cases e : i = acc.size
    · rw [if_pos e] at hi
      rcases fold_bits acc j _ 0 hi with h1 | ⟨e', h1, h2, h3⟩
      · simp at h1
      · exact ⟨o, e', e ▸ ho, h1, h2, h3.imp id (hmono _ _)⟩
    · rw [if_neg e] at hi
      obtain ⟨o', e', h1, h2, h3, h4⟩ := h i j hi
      exact ⟨o', e', h1, h2, h3, h4.imp id (hmono _ _)⟩
theorem bitOf_getD (b : Array Nat) (i j : Nat) : bitOf b.toList i j = (b.getD i 0).testBit j := by
  unfold bitOf
  rw [nth_eq, Array.getElem?_toList, Array.getD_eq_getD_getElem?]
  cases b[i]? with
  | none => simp
  | some m => rfl
theorem bit_edge {ops : Array Oper} {i j : Nat} (h : bitOf (Region.before ops).toList i j = true) :
    ∃ o e, ops.toList[i]? = some o ∧ e ∈ o.after.toList ∧ Region.binds .any e = true ∧ (e.on = j ∨ bitOf (Region.before ops).toList e.on j = true) := by
  have hb : Bits ops.toList (Region.before ops) := by
    rw [before_eq]
    exact bits_fold ops.toList ops.toList #[] rfl fun i j h => by simp at h
  rw [bitOf_getD] at h
  obtain ⟨o, e, h1, h2, h3, h4⟩ := hb i j h
  exact ⟨o, e, h1, h2, h3, h4.imp id fun h => by rw [bitOf_getD]; exact h⟩
end Go.Sh
