/- Part of a proof by a machine of ones own: see the text with the theorem. -/
import Derived.Test.YtanpablcoimajaaDoorSh3
namespace Go.Sh
open Go
variable {P : Program} {φ : Inj} {A : AW} {w : World}

/-- the world with another block -/
def setBlk (w : World) (b : Nat) (o : Obj) : World := { w with heap := w.heap.setIfInBounds b o }
theorem setBlk_same {b : Nat} {o : Obj} (h : b < w.heap.size) : (setBlk w b o).heap[b]? = some o := by simp [setBlk, h]
theorem setBlk_other {b c : Nat} {o : Obj} (h : c ≠ b) : (setBlk w b o).heap[c]? = w.heap[c]? := by
  simp [setBlk, Ne.symm h]
theorem lt_of_heap {b : Nat} {o : Obj} (h : w.heap[b]? = some o) : b < w.heap.size := (Array.getElem?_eq_some_iff.1 h).1
theorem setBlk_setBlk {b : Nat} {o o' : Obj} : setBlk (setBlk w b o) b o' = setBlk w b o' := by simp [setBlk]
theorem setBlk_self {b : Nat} {o : Obj} (h : w.heap[b]? = some o) : setBlk w b o = w := by
  unfold setBlk
  have : w.heap.setIfInBounds b o = w.heap := by
    apply Array.ext_getElem?
    intro i
    rw [Array.getElem?_setIfInBounds]
    by_cases e : b = i
    · subst e
      obtain ⟨h1, h2⟩ := Array.getElem?_eq_some_iff.1 h
      rw [if_pos rfl, if_pos h1, h]
    · simp [e]
  rw [this]
theorem setCell_eq {b off : Nat} {cc : List Value} {e : TypeId} {fz : Nat × Nat} {v : Value} (h : w.heap[b]? = some (.cells ⟨cc⟩ e fz)) (_hl : off < cc.length) :
    w.setCell ⟨b, off, none⟩ v = setBlk w b (.cells ⟨cc.set off v⟩ e fz) := by
  unfold World.setCell setBlk
  congr 1
  apply Array.ext_getElem?
  intro i
  rw [Array.getElem?_modify, Array.getElem?_setIfInBounds]
  by_cases e : b = i
  · subst e
    simp only [if_true, h, Option.map_some]
    simp [lt_of_heap h]
  · simp [e]
theorem single_cell {v : Value} (h : single v = true) : v.oneCell' = true := by cases v <;> simp_all [single, Value.oneCell']
theorem single_VR {v v' : Value} (h : VR φ v v') (hs : single v = true) : single v' = true := by
  cases h <;> first | rfl | (simp [single] at hs; done) | assumption
theorem singles_mem : ∀ {l : List Value}, singles l = true → ∀ v ∈ l, single v = true
  | [], _, v, hv => by cases hv
  | x :: l, h, v, hv => by
    simp only [singles] at h
    cases hx : single x with
    | false => rw [hx] at h; simp at h
    | true =>
      rw [hx] at h
      simp at h
      cases hv with
      | head => exact hx
      | tail _ hv => exact singles_mem h v hv
theorem singles_LR {l l' : List Value} (h : LR φ l l') (hs : singles l = true) : ∀ v ∈ l', single v = true := by
  induction l generalizing l' with
  | nil => cases h; intro v hv; cases hv
  | cons x l ih =>
    cases h with
    | cons h k =>
      simp only [singles] at hs
      cases hx : single x with
      | false => rw [hx] at hs; simp at hs
      | true =>
        rw [hx] at hs
        simp at hs
        intro v hv
        cases hv with
        | head => exact single_VR h hx
        | tail _ hv => exact ih k hs v hv
theorem cells_of_single {v : Value} (h : single v = true) : v.cells = #[v] := by cases v <;> first | rfl | (simp [single] at h)

/-- cells stored one behind the other -/
theorem run_storeCells {a : Addr} (ha : a.spot = none) {e : TypeId} {fz : Nat × Nat} :
    ∀ (vs : List Value) (i : Nat) (w : World) (cc : List Value), w.heap[a.block]? = some (.cells ⟨cc⟩ e fz) → (∀ v ∈ vs, single v = true) → a.off + i + vs.length ≤ cc.length →
      (∀ off, off < cc.length → ¬ (fz.1 ≤ off ∧ off < fz.2)) →
      (storeCells a vs i).run P w = .ok () (setBlk w a.block (.cells ⟨cc.take (a.off + i) ++ (vs ++ cc.drop (a.off + i + vs.length))⟩ e fz))
  | [], i, w, cc, h, _, hl, _ => by
    have : cc.take (a.off + i) ++ ([] ++ cc.drop (a.off + i + 0)) = cc := by simp
    simp only [List.length_nil]
    rw [this, setBlk_self h]
    rfl
  | v :: vs, i, w, cc, h, hs, hl, hf => by
    simp only [List.length_cons] at hl
    have h1 : w.cell? (a.add i) = some cc[a.off + i] := by
      rw [add_of_none ha, cell_lit h]; simp
    have h2 : w.frozen? (a.add i) = false := by
      rw [add_of_none ha, frozen_lit h]
      have := hf (a.off + i) (by omega)
      simpa using this
    have hst : (store (a.add i) v).run P w = .ok () (setBlk w a.block (.cells ⟨cc.set (a.off + i) v⟩ e fz)) := by
      rw [run_store P w _ v _ (single_cell (hs v (List.mem_cons_self ..))), h1]
      simp only [h2]
      rw [add_of_none ha, setCell_eq h (by omega)]
      rfl
    have hlt := lt_of_heap h
    have ih := run_storeCells ha vs (i + 1) (setBlk w a.block (.cells ⟨cc.set (a.off + i) v⟩ e fz)) (cc.set (a.off + i) v) (setBlk_same hlt) (fun u hu => hs u (List.mem_cons_of_mem _ hu)) (by simp; omega) (fun off ho => hf off (by simpa using ho))
    simp only [storeCells, Sem.run_bind, hst, Result.andThen_ok]
    rw [ih, setBlk_setBlk]
    congr 2
    congr 1
    have e1 : a.off + (i + 1) = (a.off + i) + 1 := by omega
    rw [e1]
    congr 1
    have e2 : a.off + i + 1 + vs.length = a.off + i + (vs.length + 1) := by omega
    rw [e2]
    have e3 : (cc.set (a.off + i) v).take (a.off + i + 1) = cc.take (a.off + i) ++ [v] := by
      rw [List.take_add_one, List.take_set_of_le (Nat.le_refl _)]
      simp [show a.off + i < cc.length by omega]
    rw [e3, List.drop_set_of_lt (by omega)]
    simp

/-- a block becomes another one, that is related too -/
theorem MR.set (hM : MR P φ A w) {b c n s d n' s' d' : Nat} (hb : φ b = some (.at_ c n s d)) (hlim : A.lim ≤ b) {o : AObj} {oc : Obj} (ho : OR P φ o oc n' s' d') (hsame : n' = n ∧ s' = s ∧ d' = d) :
    MR P φ (A.set b (some o)) (setBlk w c oc) ∧ Ext φ A w φ (A.set b (some o)) (setBlk w c oc) := by
  obtain ⟨rfl, rfl, rfl⟩ := hsame
  obtain ⟨o0, oc0, h1, h2, _⟩ := hM.obj _ _ _ _ _ hb
  have hlt := lt_of_heap h2
  have hget : ∀ x, (A.set b (some o)).heap.get x = if x = b then some o else A.heap.get x := fun x => get_put _ _ _ _
  refine ⟨⟨fun x cx nx sx dx hx => ?_, fun x hx => ?_, hM.one, hM.fresh, hM.globals, hM.lim⟩, ⟨φ.le_refl, rfl, Nat.le_refl _, fun x hx => ⟨?_, rfl⟩, by simp [setBlk], fun x hx hu => ?_, fun _ _ _ _ _ h => .inl h, fun x _ hx => ⟨?_, hx⟩, rfl, rfl, rfl⟩⟩
  · rw [hget]
    by_cases e : x = b
    · subst e
      rw [hb] at hx
      injection hx with hx
      injection hx with e1 e2 e3 e4
      subst e1 e2 e3 e4
      exact ⟨o, oc, if_pos rfl, setBlk_same hlt, ho⟩
    · rw [if_neg e]
      obtain ⟨o1, oc1, h3, h4, h5⟩ := hM.obj _ _ _ _ _ hx
      have hne : cx ≠ c := fun e1 => e (hM.one x b cx nx sx dx _ _ _ hx (e1 ▸ hb))
      exact ⟨o1, oc1, h3, by rw [setBlk_other hne]; exact h4, h5⟩
  · rw [hget]
    by_cases e : x = b
    · subst e; rw [hb] at hx; cases hx
    · rw [if_neg e]; exact hM.dead x hx
  · rw [hget, if_neg (by omega)]
  · rw [setBlk_other]
    rintro rfl
    have := hu b _ _ _ hb
    omega
  · rw [hget, if_neg (fun e => by rw [e, hb] at hx; cases hx)]

/-- a new block -/
def Inj.add (φ : Inj) (b : Nat) (e : Ent) : Inj := fun x => if x = b then some e else φ x
theorem Inj.le_add {φ : Inj} {b : Nat} {e : Ent} (h : φ b = none) : φ.le (φ.add b e) := fun x ex hx => by
  unfold Inj.add
  by_cases h1 : x = b
  · subst h1; rw [h] at hx; cases hx
  · rw [if_neg h1]; exact .inl hx
theorem push_same (w : World) (oc : Obj) : (w.alloc oc).heap[w.heap.size]? = some oc := by
  show (w.heap.push oc)[w.heap.size]? = _
  simp
theorem push_old (w : World) (oc : Obj) {c : Nat} (h : c < w.heap.size) : (w.alloc oc).heap[c]? = w.heap[c]? := by
  show (w.heap.push oc)[c]? = _
  rw [Array.getElem?_push, if_neg (Nat.ne_of_lt h)]
theorem MR.add (hM : MR P φ A w) {o : AObj} {oc : Obj} {n s : Nat} (ho : OR P φ o oc n s 0) :
    MR P (φ.add A.next (.at_ w.heap.size n s 0)) (A.add o) (w.alloc oc) ∧ Ext φ A w (φ.add A.next (.at_ w.heap.size n s 0)) (A.add o) (w.alloc oc) ∧ φ.le (φ.add A.next (.at_ w.heap.size n s 0)) := by
  have hle : φ.le (φ.add A.next (.at_ w.heap.size n s 0)) := Inj.le_add (hM.fresh _ (Nat.le_refl _))
  have hget : ∀ x, (A.add o).heap.get x = if x = A.next then some o else A.heap.get x := fun x => get_put _ _ _ _
  have hφ : ∀ x, (φ.add A.next (.at_ w.heap.size n s 0)) x = if x = A.next then some (.at_ w.heap.size n s 0) else φ x := fun _ => rfl
  have hlow : ∀ x c n s d, φ x = some (.at_ c n s d) → c < w.heap.size := fun x c n s d hx => by
    obtain ⟨_, _, _, h, _⟩ := hM.obj _ _ _ _ _ hx
    exact lt_of_heap h
  have hlim := hM.lim
  refine ⟨⟨fun x cx nx sx dx hx => ?_, fun x hx => ?_, fun x y c n1 s1 d1 n2 s2 d2 hx hy => ?_, fun x hx => ?_, fun g hg => ?_, Nat.le_trans hM.lim (Nat.le_succ _)⟩, ⟨hle, rfl, Nat.le_succ _, fun x hx => ?_, (by show w.heap.size ≤ (w.heap.push oc).size; simp), fun x hx _ => push_old w oc hx, fun x c n1 s1 d1 hx => ?_, fun x hx hn => ?_, rfl, rfl, rfl⟩, hle⟩
  · rw [hφ] at hx
    rw [hget]
    by_cases e : x = A.next
    · rw [if_pos e] at hx ⊢
      injection hx with hx
      injection hx with e1 e2 e3 e4
      subst e1 e2 e3 e4
      exact ⟨o, oc, rfl, push_same w oc, ho.mono hle⟩
    · rw [if_neg e] at hx ⊢
      obtain ⟨o1, oc1, h3, h4, h5⟩ := hM.obj _ _ _ _ _ hx
      exact ⟨o1, oc1, h3, by rw [push_old w oc (lt_of_heap h4)]; exact h4, h5.mono hle⟩
  · rw [hφ] at hx
    rw [hget]
    by_cases e : x = A.next
    · rw [if_pos e] at hx; cases hx
    · rw [if_neg e] at hx ⊢; exact hM.dead x hx
  · rw [hφ] at hx hy
    by_cases e : x = A.next
    · rw [if_pos e] at hx
      by_cases e' : y = A.next
      · rw [e, e']
      · rw [if_neg e'] at hy
        injection hx with hx
        injection hx with e1
        have := hlow _ _ _ _ _ hy
        omega
    · rw [if_neg e] at hx
      by_cases e' : y = A.next
      · rw [if_pos e'] at hy
        injection hy with hy
        injection hy with e1
        have := hlow _ _ _ _ _ hx
        omega
      · rw [if_neg e'] at hy
        exact hM.one _ _ _ _ _ _ _ _ _ hx hy
  · have hx' : A.next + 1 ≤ x := hx
    rw [hφ, if_neg (by omega)]
    exact hM.fresh x (by omega)
  · rw [hφ]
    by_cases e : g = A.next
    · have := hM.fresh g (by omega)
      rcases hM.globals g hg with h | ⟨n, s, h⟩ <;> rw [this] at h <;> cases h
    · rw [if_neg e]; exact hM.globals g hg
  · rw [hget, hφ, if_neg (by omega), if_neg (by omega)]
    exact ⟨rfl, rfl⟩
  · rw [hφ] at hx
    by_cases e : x = A.next
    · rw [if_pos e] at hx
      injection hx with hx
      injection hx with e1
      exact .inr ⟨by omega, .inl (by omega)⟩
    · rw [if_neg e] at hx; exact .inl hx
  · rw [hget, hφ, if_neg (by omega), if_neg (by omega)]
    exact ⟨rfl, hn⟩

/-- a draw changes nothing that is looked at -/
theorem MR.drawn (hM : MR P φ A w) (n : Nat) : MR P φ A { w with drawn := n } := ⟨hM.obj, hM.dead, hM.one, hM.fresh, hM.globals, hM.lim⟩
theorem Ext.drawn (w : World) (n : Nat) : Ext φ A w φ A { w with drawn := n } :=
  ⟨φ.le_refl, rfl, Nat.le_refl _, fun _ _ => ⟨rfl, rfl⟩, Nat.le_refl _, fun _ _ _ => rfl, fun _ _ _ _ _ h => .inl h, fun _ _ h => ⟨rfl, h⟩, rfl, rfl, rfl⟩

theorem app3 {α : Type} (x y z : List α) (i : Nat) : (x ++ (y ++ z))[i]? = if i < x.length then x[i]? else if i < x.length + y.length then y[i - x.length]? else z[i - x.length - y.length]? := by
  by_cases h : i < x.length
  · rw [List.getElem?_append_left h, if_pos h]
  · rw [List.getElem?_append_right (by omega), if_neg h]
    by_cases h1 : i < x.length + y.length
    · rw [List.getElem?_append_left (by omega), if_pos h1]
    · rw [List.getElem?_append_right (by omega), if_neg h1]
/-- cells are stored -/
theorem wr_ok (hM : MR P φ A w) {a a' : Addr} (ha : AddrR φ a a') {vs vs' : List Value} (hv : LR φ vs vs') {A' : AW} (h : wr A a.block a.off vs = some A') :
    ∃ w', (storeCells a' vs').run P w = .ok () w' ∧ MR P φ A' w' ∧ Ext φ A w φ A' w' := by
  unfold wr at h
  cases hg : A.heap.get a.block with
  | none => rw [hg] at h; cases h
  | some o =>
    rw [hg] at h
    cases o with
    | cells c e ro =>
      simp only [wrC, lenL0] at h
      cases ro with
      | true => simp at h
      | false =>
        simp only [cond_false] at h
        cases hc : (singles vs && Nat.ble A.lim a.block && Nat.ble (a.off + vs.length) c.length) with
        | false => rw [hc] at h; simp at h
        | true =>
          rw [hc] at h
          simp only [cond_true, Option.some.injEq] at h
          subst h
          simp only [Bool.and_eq_true] at hc
          obtain ⟨⟨hs, hlim⟩, hl⟩ := hc
          have hlim := Nat.le_of_ble_eq_true hlim
          have hl := Nat.le_of_ble_eq_true hl
          obtain ⟨cc, fz, n, s, d, h1, h2, h3, h4, h5⟩ := hM.cells ha hg
          have hlen := hv.length
          have hfit := h5.fits
          have hsz := h5.size
          have hrun := run_storeCells (P := P) (a := a') h3 (e := e) (fz := fz) vs' 0 w cc h4 (singles_LR hv hs) (by omega) (fun off ho => h5.free rfl off (by omega))
          refine ⟨_, hrun, ?_⟩
          refine hM.set h1 hlim (n' := n) (s' := s) (d' := d) ?_ ⟨rfl, rfl, rfl⟩
          refine ⟨_, _, _, rfl, ⟨rfl, ?_, h5.unit, ?_, ?_, h5.free, h5.mult⟩⟩
          · simp; omega
          · rw [spliceL_length _ _ _ hl]; exact hfit
          · rw [spliceL_length _ _ _ hl, spliceL_eq _ _ _ (by omega)]
            have e1 : ((cc.take (a'.off + 0) ++ (vs' ++ cc.drop (a'.off + 0 + vs'.length))).drop d).take c.length = ((cc.drop d).take c.length).take a.off ++ (vs' ++ ((cc.drop d).take c.length).drop (a.off + vs.length)) := by
              apply List.ext_getElem?
              intro i
              rw [h2, Nat.add_zero, app3]
              have e2 : (((cc.drop d).take c.length).take a.off).length = a.off := by simp only [List.length_take, List.length_drop]; omega
              rw [e2]
              by_cases hi : i < c.length
              · rw [List.getElem?_take_of_lt hi, List.getElem?_drop, app3]
                have e3 : (cc.take (a.off + d)).length = a.off + d := by simp only [List.length_take]; omega
                rw [e3]
                by_cases hi1 : i < a.off
                · rw [if_pos (by omega), if_pos hi1, List.getElem?_take_of_lt (by omega), List.getElem?_take_of_lt hi1, List.getElem?_take_of_lt hi, List.getElem?_drop]
                · rw [if_neg (by omega), if_neg hi1]
                  by_cases hi2 : i < a.off + vs'.length
                  · rw [if_pos (by omega), if_pos hi2]
                    congr 1; omega
                  · rw [if_neg (by omega), if_neg hi2, List.getElem?_drop, List.getElem?_drop, List.getElem?_take_of_lt (by omega), List.getElem?_drop]
                    congr 1; omega
              · rw [List.getElem?_eq_none (by simp only [List.length_append, List.length_take, List.length_drop]; omega), if_neg (by omega), if_neg (by omega), List.getElem?_eq_none (by simp only [List.length_take, List.length_drop]; omega)]
            rw [e1]
            exact (h5.cells.take _).append (hv.append (h5.cells.drop _))
    | _ => simp at h
end Go.Sh
