/- Part of a proof by a machine of ones own: see the text with the theorem. -/
import Derived.Test.YtanpablcoimajaaDoorShK
namespace Go.Sh
open Go

theorem bool_rec {α : Type} (b : Bool) (x y : α) : Bool.rec (motive := fun _ => α) x y b = if b then y else x := by cases b <;> rfl

/-! lists -/
section lists
variable {α β : Type}
theorem nth0_eq (l : List α) : ∀ k, nth0 l k = l[k]? := by
  induction l with
  | nil => intro k; rfl
  | cons x l ih => intro k; cases k with
    | zero => rfl
    | succ k => exact ih k
theorem dropL0_eq : ∀ (n : Nat) (l : List α), dropL0 n l = l.drop n
  | 0, l => rfl
  | n + 1, [] => by simp; rfl
  | n + 1, x :: l => dropL0_eq n l
theorem skip8_eq (l : List α) : skip8 l = l.drop 8 := by
  match l with
  | [] => rfl
  | [_] => rfl
  | [_, _] => rfl
  | [_, _, _] => rfl
  | [_, _, _, _] => rfl
  | [_, _, _, _, _] => rfl
  | [_, _, _, _, _, _] => rfl
  | [_, _, _, _, _, _, _] => rfl
  | _ :: _ :: _ :: _ :: _ :: _ :: _ :: _ :: l => rfl
theorem skipN_eq (l : List α) : ∀ n, skipN l n = l.drop (8 * n)
  | 0 => rfl
  | n + 1 => by
    show skip8 (skipN l n) = _
    rw [skip8_eq, skipN_eq l n, List.drop_drop, Nat.mul_succ]
theorem nth_eq (l : List α) (k : Nat) : nth l k = l[k]? := by
  show nth0 (skipN l (k / 8)) (k % 8) = _
  rw [nth0_eq, skipN_eq, List.getElem?_drop]
  congr 1
  omega
theorem dropL_eq (n : Nat) (l : List α) : dropL n l = l.drop n := by
  show dropL0 (n % 8) (skipN l (n / 8)) = _
  rw [dropL0_eq, skipN_eq, List.drop_drop]
  congr 1
  omega
theorem takeL_eq : ∀ (n : Nat) (l : List α), takeL n l = l.take n
  | 0, l => by simp; rfl
  | n + 1, [] => by simp; rfl
  | n + 1, x :: l => by rw [List.take_succ_cons, ← takeL_eq n l]; rfl
theorem lenL_eq (l : List α) : ∀ n, lenL l n = l.length + n := by
  induction l with
  | nil => intro n; simp; rfl
  | cons x l ih => intro n; have := ih (n + 1); simp only [List.length_cons]; show lenL l (n + 1) = _; omega
theorem lenL0 (l : List α) : lenL l 0 = l.length := lenL_eq l 0
theorem mapL_eq (f : α → β) (l : List α) : mapL f l = l.map f := by
  induction l with
  | nil => rfl
  | cons x l ih => simp only [List.map_cons]; rw [← ih]; rfl
theorem appL_eq (l m : List α) : appL l m = l ++ m := by
  induction l with
  | nil => rfl
  | cons x l ih => simp only [List.cons_append]; rw [← ih]; rfl
theorem spliceL_eq : ∀ (n : Nat) (c vs : List α), n ≤ c.length → spliceL n c vs = c.take n ++ (vs ++ c.drop (n + vs.length))
  | 0, c, vs, _ => by
    show appL vs (dropL (lenL vs 0) c) = _
    rw [appL_eq, dropL_eq, lenL0]; simp
  | n + 1, [], vs, h => by simp at h
  | n + 1, x :: c, vs, h => by
    have := spliceL_eq n c vs (by simpa using h)
    show x :: spliceL n c vs = _
    rw [this]
    have e : n + 1 + vs.length = (n + vs.length) + 1 := by omega
    simp [e]
theorem spliceL_length (n : Nat) (c vs : List α) (h : n + vs.length ≤ c.length) : (spliceL n c vs).length = c.length := by
  rw [spliceL_eq n c vs (by omega)]; simp; omega
theorem spliceL_get (n : Nat) (c vs : List α) (h : n + vs.length ≤ c.length) (i : Nat) :
    (spliceL n c vs)[i]? = if n ≤ i ∧ i < n + vs.length then vs[i - n]? else c[i]? := by
  rw [spliceL_eq n c vs (by omega)]
  by_cases h1 : i < n
  · rw [List.getElem?_append_left (by simp; omega), List.getElem?_take_of_lt h1, if_neg (by omega)]
  · rw [List.getElem?_append_right (by simp; omega)]
    have e : (c.take n).length = n := by simp; omega
    rw [e]
    by_cases h2 : i < n + vs.length
    · rw [List.getElem?_append_left (by omega), if_pos ⟨by omega, h2⟩]
    · rw [List.getElem?_append_right (by omega), if_neg (by omega), List.getElem?_drop]
      congr 1; omega
end lists

/-! the table -/
section table
variable {α : Type}
theorem get0_leaf (k : Nat) : T0.get (T0.leaf : T0 α) k = none := rfl
theorem get_node0 (l r : T0 α) (v : Option α) : T0.get (.node l v r) 0 = v := rfl
theorem get_nodeS (l r : T0 α) (v : Option α) (k : Nat) : T0.get (.node l v r) (k + 1) = if Nat.beq (Nat.mod k 2) 0 then T0.get l (Nat.div k 2) else T0.get r (Nat.div k 2) := by
  rw [← bool_rec]; rfl
theorem setF_leaf0 (f : Nat) (a : Option α) : T0.setF (f + 1) .leaf 0 a = .node .leaf a .leaf := rfl
theorem setF_leafS (f k : Nat) (a : Option α) : T0.setF (f + 1) .leaf (k + 1) a = if Nat.beq (Nat.mod k 2) 0 then .node (T0.setF f .leaf (Nat.div k 2) a) none .leaf else .node .leaf none (T0.setF f .leaf (Nat.div k 2) a) := by
  rw [← bool_rec]; rfl
theorem setF_node0 (f : Nat) (l r : T0 α) (v a : Option α) : T0.setF (f + 1) (.node l v r) 0 a = .node l a r := rfl
theorem setF_nodeS (f k : Nat) (l r : T0 α) (v a : Option α) : T0.setF (f + 1) (.node l v r) (k + 1) a = if Nat.beq (Nat.mod k 2) 0 then .node (T0.setF f l (Nat.div k 2) a) v r else .node l v (T0.setF f r (Nat.div k 2) a) := by
  rw [← bool_rec]; rfl
theorem beq2 (k : Nat) : (Nat.beq (Nat.mod k 2) 0 = true) ↔ k % 2 = 0 := by
  show (Nat.beq (k % 2) 0 = true) ↔ _
  rw [Nat.beq_eq]
theorem get_setF : ∀ (f : Nat) (t : T0 α) (k : Nat) (a : Option α) (j : Nat), k < f → (T0.setF f t k a).get j = if j = k then a else t.get j := by
  intro f
  induction f with
  | zero => intro t k a j h; omega
  | succ f ih =>
    intro t k a j h
    have hd : ∀ m, Nat.div m 2 = m / 2 := fun _ => rfl
    cases k with
    | zero =>
      cases t with
      | leaf => rw [setF_leaf0]; cases j with
        | zero => simp [get_node0]
        | succ j => rw [get_nodeS]; simp [get0_leaf]
      | node l v r => rw [setF_node0]; cases j with
        | zero => simp [get_node0]
        | succ j => rw [get_nodeS, get_nodeS]; simp
    | succ k =>
      have hk : k / 2 < f := by omega
      cases t with
      | leaf =>
        rw [setF_leafS]
        by_cases hp : Nat.beq (Nat.mod k 2) 0 = true
        · rw [if_pos hp]
          have hp' := (beq2 k).1 hp
          cases j with
          | zero => simp [get_node0, get0_leaf]
          | succ j =>
            rw [get_nodeS, hd, hd, ih _ _ _ _ hk]
            by_cases hj : Nat.beq (Nat.mod j 2) 0 = true
            · have := (beq2 j).1 hj
              rw [if_pos hj]
              by_cases e : j / 2 = k / 2
              · rw [if_pos e, if_pos (by omega)]
              · rw [if_neg e, if_neg (by omega)]; rfl
            · have : ¬ (j % 2 = 0) := fun h => hj ((beq2 j).2 h)
              rw [if_neg hj, if_neg (by omega)]; rfl
        · rw [if_neg hp]
          have hp' : ¬ (k % 2 = 0) := fun h => hp ((beq2 k).2 h)
          cases j with
          | zero => simp [get_node0, get0_leaf]
          | succ j =>
            rw [get_nodeS, hd, hd, ih _ _ _ _ hk]
            by_cases hj : Nat.beq (Nat.mod j 2) 0 = true
            · have := (beq2 j).1 hj
              rw [if_pos hj, if_neg (by omega)]; rfl
            · have : ¬ (j % 2 = 0) := fun h => hj ((beq2 j).2 h)
              rw [if_neg hj]
              by_cases e : j / 2 = k / 2
              · rw [if_pos e, if_pos (by omega)]
              · rw [if_neg e, if_neg (by omega)]; rfl
      | node l v r =>
        rw [setF_nodeS]
        by_cases hp : Nat.beq (Nat.mod k 2) 0 = true
        · rw [if_pos hp]
          have hp' := (beq2 k).1 hp
          cases j with
          | zero => simp [get_node0]
          | succ j =>
            rw [get_nodeS, get_nodeS, hd, hd, ih _ _ _ _ hk]
            by_cases hj : Nat.beq (Nat.mod j 2) 0 = true
            · have := (beq2 j).1 hj
              rw [if_pos hj, if_pos hj]
              by_cases e : j / 2 = k / 2
              · rw [if_pos e, if_pos (by omega)]
              · rw [if_neg e, if_neg (by omega)]
            · have : ¬ (j % 2 = 0) := fun h => hj ((beq2 j).2 h)
              rw [if_neg hj, if_neg hj, if_neg (by omega)]
        · rw [if_neg hp]
          have hp' : ¬ (k % 2 = 0) := fun h => hp ((beq2 k).2 h)
          cases j with
          | zero => simp [get_node0]
          | succ j =>
            rw [get_nodeS, get_nodeS, hd, hd, ih _ _ _ _ hk]
            by_cases hj : Nat.beq (Nat.mod j 2) 0 = true
            · have := (beq2 j).1 hj
              rw [if_pos hj, if_pos hj, if_neg (by omega)]
            · have : ¬ (j % 2 = 0) := fun h => hj ((beq2 j).2 h)
              rw [if_neg hj, if_neg hj]
              by_cases e : j / 2 = k / 2
              · rw [if_pos e, if_pos (by omega)]
              · rw [if_neg e, if_neg (by omega)]

theorem bool3 {β : Type} (k : Nat) (x y z u : β) : Bool.rec (motive := fun _ => β) (Bool.rec (motive := fun _ => β) u z (Nat.beq (Nat.mod k 4) 2)) (Bool.rec (motive := fun _ => β) y x (Nat.beq (Nat.mod k 4) 0)) (Nat.ble (Nat.mod k 4) 1) =
    if k % 4 = 0 then x else if k % 4 = 1 then y else if k % 4 = 2 then z else u := by
  have h : k % 4 < 4 := Nat.mod_lt _ (by decide)
  show Bool.rec (motive := fun _ => β) (Bool.rec (motive := fun _ => β) u z (Nat.beq (k % 4) 2)) (Bool.rec (motive := fun _ => β) y x (Nat.beq (k % 4) 0)) (Nat.ble (k % 4) 1) = _
  generalize k % 4 = m at h ⊢
  match m, h with
  | 0, _ => rfl
  | 1, _ => rfl
  | 2, _ => rfl
  | 3, _ => rfl
/-- one level of four branches -/
theorem level {β γ δ : Type} {g : β → Nat → γ} {p : β → Nat → δ → β} {n : Nat} {x : δ} {r : γ} (h : ∀ (t : β) (k j : Nat), k < n → j < n → g (p t k x) j = if j = k then r else g t j) (t : Q β) (k j : Nat) (hk : k < 4 * n) (hj : j < 4 * n) :
    (if j % 4 = 0 then g (if k % 4 = 0 then ⟨p t.a (k / 4) x, t.b, t.c, t.d⟩ else if k % 4 = 1 then ⟨t.a, p t.b (k / 4) x, t.c, t.d⟩ else if k % 4 = 2 then ⟨t.a, t.b, p t.c (k / 4) x, t.d⟩ else ⟨t.a, t.b, t.c, p t.d (k / 4) x⟩ : Q β).a (j / 4)
      else if j % 4 = 1 then g (if k % 4 = 0 then ⟨p t.a (k / 4) x, t.b, t.c, t.d⟩ else if k % 4 = 1 then ⟨t.a, p t.b (k / 4) x, t.c, t.d⟩ else if k % 4 = 2 then ⟨t.a, t.b, p t.c (k / 4) x, t.d⟩ else ⟨t.a, t.b, t.c, p t.d (k / 4) x⟩ : Q β).b (j / 4)
      else if j % 4 = 2 then g (if k % 4 = 0 then ⟨p t.a (k / 4) x, t.b, t.c, t.d⟩ else if k % 4 = 1 then ⟨t.a, p t.b (k / 4) x, t.c, t.d⟩ else if k % 4 = 2 then ⟨t.a, t.b, p t.c (k / 4) x, t.d⟩ else ⟨t.a, t.b, t.c, p t.d (k / 4) x⟩ : Q β).c (j / 4)
      else g (if k % 4 = 0 then ⟨p t.a (k / 4) x, t.b, t.c, t.d⟩ else if k % 4 = 1 then ⟨t.a, p t.b (k / 4) x, t.c, t.d⟩ else if k % 4 = 2 then ⟨t.a, t.b, p t.c (k / 4) x, t.d⟩ else ⟨t.a, t.b, t.c, p t.d (k / 4) x⟩ : Q β).d (j / 4)) =
    if j = k then r else (if j % 4 = 0 then g t.a (j / 4) else if j % 4 = 1 then g t.b (j / 4) else if j % 4 = 2 then g t.c (j / 4) else g t.d (j / 4)) := by
  have h1 : k / 4 < n := by omega
  have h2 : j / 4 < n := by omega
  have hk4 : k % 4 = 0 ∨ k % 4 = 1 ∨ k % 4 = 2 ∨ k % 4 = 3 := by omega
  have hj4 : j % 4 = 0 ∨ j % 4 = 1 ∨ j % 4 = 2 ∨ j % 4 = 3 := by omega
  rcases hj4 with e | e | e | e <;> rcases hk4 with e' | e' | e' | e' <;> simp only [e, e', if_true, if_false, Nat.one_ne_zero, Nat.reduceEqDiff, reduceIte] <;>
    first
      | (rw [if_neg (by omega)]; done)
      | (rw [h _ _ _ h1 h2]
         by_cases ee : j / 4 = k / 4
         · rw [if_pos ee, if_pos (by omega)]
         · rw [if_neg ee, if_neg (by omega)])
theorem getQ1_eq (t : Q (α)) (k : Nat) : Q.get1 t k = if k % 4 = 0 then t.a else if k % 4 = 1 then t.b else if k % 4 = 2 then t.c else t.d := bool3 k _ _ _ _
theorem putQ1_eq (t : Q (α)) (k : Nat) (x : α) : Q.put1 t k x = if k % 4 = 0 then ⟨x, t.b, t.c, t.d⟩ else if k % 4 = 1 then ⟨t.a, x, t.c, t.d⟩ else if k % 4 = 2 then ⟨t.a, t.b, x, t.d⟩ else ⟨t.a, t.b, t.c, x⟩ := bool3 k _ _ _ _
theorem get_putQ1 (x : α) (t : Q (α)) (k j : Nat) (hk : k < 4) (hj : j < 4) : Q.get1 (Q.put1 t k x) j = if j = k then x else Q.get1 t j := by
  rw [getQ1_eq, getQ1_eq, putQ1_eq]
  exact level (n := 1) (g := fun t _ => t) (p := fun _ _ x => x) (fun t k j h1 h2 => by rw [if_pos (by omega)]) t k j hk hj
theorem get_allQ1 (x : α) (k : Nat) : Q.get1 (Q.all1 x) k = x := by
  rw [getQ1_eq]
  simp only [Q.all1, ite_self]
theorem getQ2_eq (t : Q (Q (α))) (k : Nat) : Q.get2 t k = if k % 4 = 0 then Q.get1 t.a (k / 4) else if k % 4 = 1 then Q.get1 t.b (k / 4) else if k % 4 = 2 then Q.get1 t.c (k / 4) else Q.get1 t.d (k / 4) := bool3 k _ _ _ _
theorem putQ2_eq (t : Q (Q (α))) (k : Nat) (x : α) : Q.put2 t k x = if k % 4 = 0 then ⟨Q.put1 t.a (k / 4) x, t.b, t.c, t.d⟩ else if k % 4 = 1 then ⟨t.a, Q.put1 t.b (k / 4) x, t.c, t.d⟩ else if k % 4 = 2 then ⟨t.a, t.b, Q.put1 t.c (k / 4) x, t.d⟩ else ⟨t.a, t.b, t.c, Q.put1 t.d (k / 4) x⟩ := bool3 k _ _ _ _
theorem get_putQ2 (x : α) (t : Q (Q (α))) (k j : Nat) (hk : k < 16) (hj : j < 16) : Q.get2 (Q.put2 t k x) j = if j = k then x else Q.get2 t j := by
  rw [getQ2_eq, getQ2_eq, putQ2_eq]
  exact level (n := 4) (g := fun t k => Q.get1 t k) (p := fun t k x => Q.put1 t k x) (get_putQ1 x) t k j hk hj
theorem get_allQ2 (x : α) (k : Nat) : Q.get2 (Q.all2 x) k = x := by
  rw [getQ2_eq]
  simp only [Q.all2, get_allQ1, ite_self]
theorem getQ3_eq (t : Q (Q (Q (α)))) (k : Nat) : Q.get3 t k = if k % 4 = 0 then Q.get2 t.a (k / 4) else if k % 4 = 1 then Q.get2 t.b (k / 4) else if k % 4 = 2 then Q.get2 t.c (k / 4) else Q.get2 t.d (k / 4) := bool3 k _ _ _ _
theorem putQ3_eq (t : Q (Q (Q (α)))) (k : Nat) (x : α) : Q.put3 t k x = if k % 4 = 0 then ⟨Q.put2 t.a (k / 4) x, t.b, t.c, t.d⟩ else if k % 4 = 1 then ⟨t.a, Q.put2 t.b (k / 4) x, t.c, t.d⟩ else if k % 4 = 2 then ⟨t.a, t.b, Q.put2 t.c (k / 4) x, t.d⟩ else ⟨t.a, t.b, t.c, Q.put2 t.d (k / 4) x⟩ := bool3 k _ _ _ _
theorem get_putQ3 (x : α) (t : Q (Q (Q (α)))) (k j : Nat) (hk : k < 64) (hj : j < 64) : Q.get3 (Q.put3 t k x) j = if j = k then x else Q.get3 t j := by
  rw [getQ3_eq, getQ3_eq, putQ3_eq]
  exact level (n := 16) (g := fun t k => Q.get2 t k) (p := fun t k x => Q.put2 t k x) (get_putQ2 x) t k j hk hj
theorem get_allQ3 (x : α) (k : Nat) : Q.get3 (Q.all3 x) k = x := by
  rw [getQ3_eq]
  simp only [Q.all3, get_allQ2, ite_self]
theorem getQ4_eq (t : Q (Q (Q (Q (α))))) (k : Nat) : Q.get4 t k = if k % 4 = 0 then Q.get3 t.a (k / 4) else if k % 4 = 1 then Q.get3 t.b (k / 4) else if k % 4 = 2 then Q.get3 t.c (k / 4) else Q.get3 t.d (k / 4) := bool3 k _ _ _ _
theorem putQ4_eq (t : Q (Q (Q (Q (α))))) (k : Nat) (x : α) : Q.put4 t k x = if k % 4 = 0 then ⟨Q.put3 t.a (k / 4) x, t.b, t.c, t.d⟩ else if k % 4 = 1 then ⟨t.a, Q.put3 t.b (k / 4) x, t.c, t.d⟩ else if k % 4 = 2 then ⟨t.a, t.b, Q.put3 t.c (k / 4) x, t.d⟩ else ⟨t.a, t.b, t.c, Q.put3 t.d (k / 4) x⟩ := bool3 k _ _ _ _
theorem get_putQ4 (x : α) (t : Q (Q (Q (Q (α))))) (k j : Nat) (hk : k < 256) (hj : j < 256) : Q.get4 (Q.put4 t k x) j = if j = k then x else Q.get4 t j := by
  rw [getQ4_eq, getQ4_eq, putQ4_eq]
  exact level (n := 64) (g := fun t k => Q.get3 t k) (p := fun t k x => Q.put3 t k x) (get_putQ3 x) t k j hk hj
theorem get_allQ4 (x : α) (k : Nat) : Q.get4 (Q.all4 x) k = x := by
  rw [getQ4_eq]
  simp only [Q.all4, get_allQ3, ite_self]
theorem getQ5_eq (t : Q (Q (Q (Q (Q (α)))))) (k : Nat) : Q.get5 t k = if k % 4 = 0 then Q.get4 t.a (k / 4) else if k % 4 = 1 then Q.get4 t.b (k / 4) else if k % 4 = 2 then Q.get4 t.c (k / 4) else Q.get4 t.d (k / 4) := bool3 k _ _ _ _
theorem putQ5_eq (t : Q (Q (Q (Q (Q (α)))))) (k : Nat) (x : α) : Q.put5 t k x = if k % 4 = 0 then ⟨Q.put4 t.a (k / 4) x, t.b, t.c, t.d⟩ else if k % 4 = 1 then ⟨t.a, Q.put4 t.b (k / 4) x, t.c, t.d⟩ else if k % 4 = 2 then ⟨t.a, t.b, Q.put4 t.c (k / 4) x, t.d⟩ else ⟨t.a, t.b, t.c, Q.put4 t.d (k / 4) x⟩ := bool3 k _ _ _ _
theorem get_putQ5 (x : α) (t : Q (Q (Q (Q (Q (α)))))) (k j : Nat) (hk : k < 1024) (hj : j < 1024) : Q.get5 (Q.put5 t k x) j = if j = k then x else Q.get5 t j := by
  rw [getQ5_eq, getQ5_eq, putQ5_eq]
  exact level (n := 256) (g := fun t k => Q.get4 t k) (p := fun t k x => Q.put4 t k x) (get_putQ4 x) t k j hk hj
theorem get_allQ5 (x : α) (k : Nat) : Q.get5 (Q.all5 x) k = x := by
  rw [getQ5_eq]
  simp only [Q.all5, get_allQ4, ite_self]
theorem getQ6_eq (t : Q (Q (Q (Q (Q (Q (α))))))) (k : Nat) : Q.get6 t k = if k % 4 = 0 then Q.get5 t.a (k / 4) else if k % 4 = 1 then Q.get5 t.b (k / 4) else if k % 4 = 2 then Q.get5 t.c (k / 4) else Q.get5 t.d (k / 4) := bool3 k _ _ _ _
theorem putQ6_eq (t : Q (Q (Q (Q (Q (Q (α))))))) (k : Nat) (x : α) : Q.put6 t k x = if k % 4 = 0 then ⟨Q.put5 t.a (k / 4) x, t.b, t.c, t.d⟩ else if k % 4 = 1 then ⟨t.a, Q.put5 t.b (k / 4) x, t.c, t.d⟩ else if k % 4 = 2 then ⟨t.a, t.b, Q.put5 t.c (k / 4) x, t.d⟩ else ⟨t.a, t.b, t.c, Q.put5 t.d (k / 4) x⟩ := bool3 k _ _ _ _
theorem get_putQ6 (x : α) (t : Q (Q (Q (Q (Q (Q (α))))))) (k j : Nat) (hk : k < 4096) (hj : j < 4096) : Q.get6 (Q.put6 t k x) j = if j = k then x else Q.get6 t j := by
  rw [getQ6_eq, getQ6_eq, putQ6_eq]
  exact level (n := 1024) (g := fun t k => Q.get5 t k) (p := fun t k x => Q.put5 t k x) (get_putQ5 x) t k j hk hj
theorem get_allQ6 (x : α) (k : Nat) : Q.get6 (Q.all6 x) k = x := by
  rw [getQ6_eq]
  simp only [Q.all6, get_allQ5, ite_self]
theorem getQ7_eq (t : Q (Q (Q (Q (Q (Q (Q (α)))))))) (k : Nat) : Q.get7 t k = if k % 4 = 0 then Q.get6 t.a (k / 4) else if k % 4 = 1 then Q.get6 t.b (k / 4) else if k % 4 = 2 then Q.get6 t.c (k / 4) else Q.get6 t.d (k / 4) := bool3 k _ _ _ _
theorem putQ7_eq (t : Q (Q (Q (Q (Q (Q (Q (α)))))))) (k : Nat) (x : α) : Q.put7 t k x = if k % 4 = 0 then ⟨Q.put6 t.a (k / 4) x, t.b, t.c, t.d⟩ else if k % 4 = 1 then ⟨t.a, Q.put6 t.b (k / 4) x, t.c, t.d⟩ else if k % 4 = 2 then ⟨t.a, t.b, Q.put6 t.c (k / 4) x, t.d⟩ else ⟨t.a, t.b, t.c, Q.put6 t.d (k / 4) x⟩ := bool3 k _ _ _ _
theorem get_putQ7 (x : α) (t : Q (Q (Q (Q (Q (Q (Q (α)))))))) (k j : Nat) (hk : k < 16384) (hj : j < 16384) : Q.get7 (Q.put7 t k x) j = if j = k then x else Q.get7 t j := by
  rw [getQ7_eq, getQ7_eq, putQ7_eq]
  exact level (n := 4096) (g := fun t k => Q.get6 t k) (p := fun t k x => Q.put6 t k x) (get_putQ6 x) t k j hk hj
theorem get_allQ7 (x : α) (k : Nat) : Q.get7 (Q.all7 x) k = x := by
  rw [getQ7_eq]
  simp only [Q.all7, get_allQ6, ite_self]
theorem T.get_eq (t : T α) (k : Nat) : t.get k = if k < 16384 then Q.get7 t.lo k else T0.get t.hi k := by
  unfold T.get
  rw [bool_rec]
  by_cases h : k < 16384
  · rw [if_pos h, if_pos (by simpa [Nat.blt_eq] using h)]
  · rw [if_neg h, if_neg (by simpa [Nat.blt_eq] using h)]
theorem T.put_eq (t : T α) (k : Nat) (a : Option α) : t.put k a = if k < 16384 then ⟨Q.put7 t.lo k a, t.hi⟩ else ⟨t.lo, T0.setF (k + 1) t.hi k a⟩ := by
  show Bool.rec (motive := fun _ => T α) _ _ (Nat.blt k 16384) = _
  rw [bool_rec]
  by_cases h : k < 16384
  · rw [if_pos h, if_pos (by simpa [Nat.blt_eq] using h)]
  · rw [if_neg h, if_neg (by simpa [Nat.blt_eq] using h)]
theorem get_leaf (k : Nat) : T.get (T.leaf : T α) k = none := by
  rw [T.get_eq]
  split
  · exact get_allQ7 _ _
  · rfl
theorem get_put (t : T α) (k : Nat) (a : Option α) (j : Nat) : (t.put k a).get j = if j = k then a else t.get j := by
  rw [T.put_eq, T.get_eq, T.get_eq]
  by_cases hk : k < 16384
  · rw [if_pos hk]
    by_cases hj : j < 16384
    · rw [if_pos hj, if_pos hj]; exact get_putQ7 a t.lo k j hk hj
    · rw [if_neg hj, if_neg hj, if_neg (by omega)]
  · rw [if_neg hk]
    by_cases hj : j < 16384
    · rw [if_pos hj, if_pos hj, if_neg (by omega)]
    · rw [if_neg hj, if_neg hj]; exact get_setF (k + 1) t.hi k a j (Nat.lt_succ_self k)
end table

/-! temporaries -/
noncomputable def gt0 (f : Nat) (t : Tm0) (k : Nat) : Value := (getS0 f k).val t
noncomputable def st0 (f : Nat) (t : Tm0) (k : Nat) (a : Value) : Tm0 := (setS0 f k).val a t
theorem gt_nil (f k : Nat) : gt0 f .nil k = undef := by
  induction f generalizing k with
  | zero => rfl
  | succ f ih => cases k with
    | zero => rfl
    | succ k => unfold gt0 getS0; simp only; rw [bool_rec]; split <;> rfl
theorem gt_zero (t : Tm0) (k : Nat) : gt0 0 t k = undef := rfl
theorem gt_node0 (f : Nat) (v : Value) (l r : Tm0) : gt0 (f + 1) (.node v l r) 0 = v := rfl
theorem gt_nodeS (f k : Nat) (v : Value) (l r : Tm0) : gt0 (f + 1) (.node v l r) (k + 1) = if Nat.beq (Nat.mod k 2) 0 then gt0 f l (Nat.div k 2) else gt0 f r (Nat.div k 2) := by
  show (Bool.rec (motive := fun _ => Box (Tm0 → Value)) _ _ (Nat.beq (Nat.mod k 2) 0)).val _ = _
  rw [bool_rec]; split <;> rfl
theorem st_nil0 (f : Nat) (a : Value) : st0 (f + 1) .nil 0 a = .node a .nil .nil := rfl
theorem st_node0 (f : Nat) (a v : Value) (l r : Tm0) : st0 (f + 1) (.node v l r) 0 a = .node a l r := rfl
theorem st_nilS (f k : Nat) (a : Value) : st0 (f + 1) .nil (k + 1) a = if Nat.beq (Nat.mod k 2) 0 then .node undef (st0 f .nil (Nat.div k 2) a) .nil else .node undef .nil (st0 f .nil (Nat.div k 2) a) := by
  show (Bool.rec (motive := fun _ => Box (Value → Tm0 → Tm0)) _ _ (Nat.beq (Nat.mod k 2) 0)).val _ _ = _
  rw [bool_rec]; split <;> rfl
theorem st_nodeS (f k : Nat) (a v : Value) (l r : Tm0) : st0 (f + 1) (.node v l r) (k + 1) a = if Nat.beq (Nat.mod k 2) 0 then .node v (st0 f l (Nat.div k 2) a) r else .node v l (st0 f r (Nat.div k 2) a) := by
  show (Bool.rec (motive := fun _ => Box (Value → Tm0 → Tm0)) _ _ (Nat.beq (Nat.mod k 2) 0)).val _ _ = _
  rw [bool_rec]; split <;> rfl
theorem gt_st : ∀ (f : Nat) (t : Tm0) (k : Nat) (a : Value) (j : Nat), k + 1 < 2 ^ f → gt0 f (st0 f t k a) j = if j = k then a else gt0 f t j := by
  intro f
  induction f with
  | zero => intro t k a j h; simp at h
  | succ f ih =>
    intro t k a j h
    have hd : ∀ m, Nat.div m 2 = m / 2 := fun _ => rfl
    have h2 : 2 ^ (f + 1) = 2 * 2 ^ f := by rw [Nat.pow_succ]; omega
    cases k with
    | zero =>
      cases t with
      | nil => rw [st_nil0]; cases j with
        | zero => simp [gt_node0]
        | succ j => rw [gt_nodeS]; simp [gt_nil]
      | node v l r => rw [st_node0]; cases j with
        | zero => simp [gt_node0]
        | succ j => rw [gt_nodeS, gt_nodeS]; simp
    | succ k =>
      have hk : k / 2 + 1 < 2 ^ f := by omega
      cases t with
      | nil =>
        rw [st_nilS]
        by_cases hp : Nat.beq (Nat.mod k 2) 0 = true
        · rw [if_pos hp]
          have hp' := (beq2 k).1 hp
          cases j with
          | zero => simp [gt_node0, gt_nil]
          | succ j =>
            rw [gt_nodeS, hd, hd, ih _ _ _ _ hk, gt_nil, gt_nil]
            by_cases hj : Nat.beq (Nat.mod j 2) 0 = true
            · have := (beq2 j).1 hj
              rw [if_pos hj]
              by_cases e : j / 2 = k / 2
              · rw [if_pos e, if_pos (by omega)]
              · rw [if_neg e, if_neg (by omega)]
            · have : ¬ (j % 2 = 0) := fun h => hj ((beq2 j).2 h)
              rw [if_neg hj, if_neg (by omega)]
        · rw [if_neg hp]
          have hp' : ¬ (k % 2 = 0) := fun h => hp ((beq2 k).2 h)
          cases j with
          | zero => simp [gt_node0, gt_nil]
          | succ j =>
            rw [gt_nodeS, hd, hd, ih _ _ _ _ hk, gt_nil, gt_nil]
            by_cases hj : Nat.beq (Nat.mod j 2) 0 = true
            · have := (beq2 j).1 hj
              rw [if_pos hj, if_neg (by omega)]
            · have : ¬ (j % 2 = 0) := fun h => hj ((beq2 j).2 h)
              rw [if_neg hj]
              by_cases e : j / 2 = k / 2
              · rw [if_pos e, if_pos (by omega)]
              · rw [if_neg e, if_neg (by omega)]
      | node v l r =>
        rw [st_nodeS]
        by_cases hp : Nat.beq (Nat.mod k 2) 0 = true
        · rw [if_pos hp]
          have hp' := (beq2 k).1 hp
          cases j with
          | zero => simp [gt_node0]
          | succ j =>
            rw [gt_nodeS, gt_nodeS, hd, hd, ih _ _ _ _ hk]
            by_cases hj : Nat.beq (Nat.mod j 2) 0 = true
            · have := (beq2 j).1 hj
              rw [if_pos hj, if_pos hj]
              by_cases e : j / 2 = k / 2
              · rw [if_pos e, if_pos (by omega)]
              · rw [if_neg e, if_neg (by omega)]
            · have : ¬ (j % 2 = 0) := fun h => hj ((beq2 j).2 h)
              rw [if_neg hj, if_neg hj, if_neg (by omega)]
        · rw [if_neg hp]
          have hp' : ¬ (k % 2 = 0) := fun h => hp ((beq2 k).2 h)
          cases j with
          | zero => simp [gt_node0]
          | succ j =>
            rw [gt_nodeS, gt_nodeS, hd, hd, ih _ _ _ _ hk]
            by_cases hj : Nat.beq (Nat.mod j 2) 0 = true
            · have := (beq2 j).1 hj
              rw [if_pos hj, if_pos hj, if_neg (by omega)]
            · have : ¬ (j % 2 = 0) := fun h => hj ((beq2 j).2 h)
              rw [if_neg hj, if_neg hj]
              by_cases e : j / 2 = k / 2
              · rw [if_pos e, if_pos (by omega)]
              · rw [if_neg e, if_neg (by omega)]
theorem gQ1_eq (t : Q (Value)) (k : Nat) : (gQ1 k).val t = if k % 4 = 0 then t.a else if k % 4 = 1 then t.b else if k % 4 = 2 then t.c else t.d := by
  unfold gQ1
  rw [bool3]
  split
  · rfl
  · split
    · rfl
    · split <;> rfl
theorem sQ1_eq (t : Q (Value)) (k : Nat) (x : Value) : (sQ1 k).val x t = if k % 4 = 0 then ⟨x, t.b, t.c, t.d⟩ else if k % 4 = 1 then ⟨t.a, x, t.c, t.d⟩ else if k % 4 = 2 then ⟨t.a, t.b, x, t.d⟩ else ⟨t.a, t.b, t.c, x⟩ := by
  unfold sQ1
  rw [bool3]
  split
  · rfl
  · split
    · rfl
    · split <;> rfl
theorem get_setQ1 (x : Value) (t : Q (Value)) (k j : Nat) (hk : k < 4) (hj : j < 4) : (gQ1 j).val ((sQ1 k).val x t) = if j = k then x else (gQ1 j).val t := by
  rw [gQ1_eq, gQ1_eq, sQ1_eq]
  exact level (n := 1) (g := fun t _ => t) (p := fun _ _ x => x) (fun t k j h1 h2 => by rw [if_pos (by omega)]) t k j hk hj
theorem all_gQ1 (x : Value) (k : Nat) : (gQ1 k).val (Q.all1 x) = x := by
  rw [gQ1_eq]
  simp only [Q.all1, ite_self]
theorem gQ2_eq (t : Q (Q (Value))) (k : Nat) : (gQ2 k).val t = if k % 4 = 0 then (gQ1 (k / 4)).val t.a else if k % 4 = 1 then (gQ1 (k / 4)).val t.b else if k % 4 = 2 then (gQ1 (k / 4)).val t.c else (gQ1 (k / 4)).val t.d := by
  unfold gQ2
  rw [bool3]
  split
  · rfl
  · split
    · rfl
    · split <;> rfl
theorem sQ2_eq (t : Q (Q (Value))) (k : Nat) (x : Value) : (sQ2 k).val x t = if k % 4 = 0 then ⟨(sQ1 (k / 4)).val x t.a, t.b, t.c, t.d⟩ else if k % 4 = 1 then ⟨t.a, (sQ1 (k / 4)).val x t.b, t.c, t.d⟩ else if k % 4 = 2 then ⟨t.a, t.b, (sQ1 (k / 4)).val x t.c, t.d⟩ else ⟨t.a, t.b, t.c, (sQ1 (k / 4)).val x t.d⟩ := by
  unfold sQ2
  rw [bool3]
  split
  · rfl
  · split
    · rfl
    · split <;> rfl
theorem get_setQ2 (x : Value) (t : Q (Q (Value))) (k j : Nat) (hk : k < 16) (hj : j < 16) : (gQ2 j).val ((sQ2 k).val x t) = if j = k then x else (gQ2 j).val t := by
  rw [gQ2_eq, gQ2_eq, sQ2_eq]
  exact level (n := 4) (g := fun t k => (gQ1 k).val t) (p := fun t k x => (sQ1 k).val x t) (get_setQ1 x) t k j hk hj
theorem all_gQ2 (x : Value) (k : Nat) : (gQ2 k).val (Q.all2 x) = x := by
  rw [gQ2_eq]
  simp only [Q.all2, all_gQ1, ite_self]
theorem gQ3_eq (t : Q (Q (Q (Value)))) (k : Nat) : (gQ3 k).val t = if k % 4 = 0 then (gQ2 (k / 4)).val t.a else if k % 4 = 1 then (gQ2 (k / 4)).val t.b else if k % 4 = 2 then (gQ2 (k / 4)).val t.c else (gQ2 (k / 4)).val t.d := by
  unfold gQ3
  rw [bool3]
  split
  · rfl
  · split
    · rfl
    · split <;> rfl
theorem sQ3_eq (t : Q (Q (Q (Value)))) (k : Nat) (x : Value) : (sQ3 k).val x t = if k % 4 = 0 then ⟨(sQ2 (k / 4)).val x t.a, t.b, t.c, t.d⟩ else if k % 4 = 1 then ⟨t.a, (sQ2 (k / 4)).val x t.b, t.c, t.d⟩ else if k % 4 = 2 then ⟨t.a, t.b, (sQ2 (k / 4)).val x t.c, t.d⟩ else ⟨t.a, t.b, t.c, (sQ2 (k / 4)).val x t.d⟩ := by
  unfold sQ3
  rw [bool3]
  split
  · rfl
  · split
    · rfl
    · split <;> rfl
theorem get_setQ3 (x : Value) (t : Q (Q (Q (Value)))) (k j : Nat) (hk : k < 64) (hj : j < 64) : (gQ3 j).val ((sQ3 k).val x t) = if j = k then x else (gQ3 j).val t := by
  rw [gQ3_eq, gQ3_eq, sQ3_eq]
  exact level (n := 16) (g := fun t k => (gQ2 k).val t) (p := fun t k x => (sQ2 k).val x t) (get_setQ2 x) t k j hk hj
theorem all_gQ3 (x : Value) (k : Nat) : (gQ3 k).val (Q.all3 x) = x := by
  rw [gQ3_eq]
  simp only [Q.all3, all_gQ2, ite_self]
theorem gQ4_eq (t : Q (Q (Q (Q (Value))))) (k : Nat) : (gQ4 k).val t = if k % 4 = 0 then (gQ3 (k / 4)).val t.a else if k % 4 = 1 then (gQ3 (k / 4)).val t.b else if k % 4 = 2 then (gQ3 (k / 4)).val t.c else (gQ3 (k / 4)).val t.d := by
  unfold gQ4
  rw [bool3]
  split
  · rfl
  · split
    · rfl
    · split <;> rfl
theorem sQ4_eq (t : Q (Q (Q (Q (Value))))) (k : Nat) (x : Value) : (sQ4 k).val x t = if k % 4 = 0 then ⟨(sQ3 (k / 4)).val x t.a, t.b, t.c, t.d⟩ else if k % 4 = 1 then ⟨t.a, (sQ3 (k / 4)).val x t.b, t.c, t.d⟩ else if k % 4 = 2 then ⟨t.a, t.b, (sQ3 (k / 4)).val x t.c, t.d⟩ else ⟨t.a, t.b, t.c, (sQ3 (k / 4)).val x t.d⟩ := by
  unfold sQ4
  rw [bool3]
  split
  · rfl
  · split
    · rfl
    · split <;> rfl
theorem get_setQ4 (x : Value) (t : Q (Q (Q (Q (Value))))) (k j : Nat) (hk : k < 256) (hj : j < 256) : (gQ4 j).val ((sQ4 k).val x t) = if j = k then x else (gQ4 j).val t := by
  rw [gQ4_eq, gQ4_eq, sQ4_eq]
  exact level (n := 64) (g := fun t k => (gQ3 k).val t) (p := fun t k x => (sQ3 k).val x t) (get_setQ3 x) t k j hk hj
theorem all_gQ4 (x : Value) (k : Nat) : (gQ4 k).val (Q.all4 x) = x := by
  rw [gQ4_eq]
  simp only [Q.all4, all_gQ3, ite_self]
noncomputable def tget (t : Tm) (k : Nat) : Value := (getS 16 k).val t
noncomputable def tset (t : Tm) (k : Nat) (a : Value) : Tm := (setS 16 k).val a t
theorem tget_eq (t : Tm) (k : Nat) : tget t k = if k < 256 then (gQ4 k).val t.lo else gt0 16 t.hi k := by
  unfold tget getS
  rw [bool_rec]
  by_cases h : k < 256
  · rw [if_pos h, if_pos (by simpa [Nat.blt_eq] using h)]
  · rw [if_neg h, if_neg (by simpa [Nat.blt_eq] using h)]; rfl
theorem tset_eq (t : Tm) (k : Nat) (a : Value) : tset t k a = if k < 256 then ⟨(sQ4 k).val a t.lo, t.hi⟩ else ⟨t.lo, st0 16 t.hi k a⟩ := by
  unfold tset setS
  rw [bool_rec]
  by_cases h : k < 256
  · rw [if_pos h, if_pos (by simpa [Nat.blt_eq] using h)]
  · rw [if_neg h, if_neg (by simpa [Nat.blt_eq] using h)]; rfl
theorem tget_tset (t : Tm) (k : Nat) (a : Value) (j : Nat) (h : k ≤ 60000) : tget (tset t k a) j = if j = k then a else tget t j := by
  rw [tset_eq, tget_eq, tget_eq]
  by_cases hk : k < 256
  · rw [if_pos hk]
    by_cases hj : j < 256
    · rw [if_pos hj, if_pos hj]; exact get_setQ4 a t.lo k j hk hj
    · rw [if_neg hj, if_neg hj, if_neg (by omega)]
  · rw [if_neg hk]
    by_cases hj : j < 256
    · rw [if_pos hj, if_pos hj, if_neg (by omega)]
    · rw [if_neg hj, if_neg hj]; exact gt_st 16 t.hi k a j (by simp; omega)
theorem tget_nil (k : Nat) : tget .nil k = undef := by
  rw [tget_eq]
  split
  · exact all_gQ4 _ _
  · exact gt_nil 16 k
end Go.Sh
