/- Part of a proof by a machine of ones own: see the text with the theorem. -/
import Derived.Test.YtanpablcoimajaaDoorSh2
import Derived.Laws.Cells
import Derived.Laws.NewBlocks
import Derived.Laws.Append
namespace Go.Sh
open Go
variable {P : Program} {φ : Inj} {A : AW} {w : World}

theorem cell_lit {b off : Nat} {cc : Array Value} {e : TypeId} {fz : Nat × Nat} (h : w.heap[b]? = some (.cells cc e fz)) : w.cell? ⟨b, off, none⟩ = cc[off]? := by
  simp [World.cell?, h]
theorem frozen_lit {b off : Nat} {cc : Array Value} {e : TypeId} {fz : Nat × Nat} (h : w.heap[b]? = some (.cells cc e fz)) : w.frozen? ⟨b, off, none⟩ = (fz.1 ≤ off && off < fz.2 : Bool) := by
  obtain ⟨x, y⟩ := fz
  simp [World.frozen?, h]
theorem add_of_none {a : Addr} (h : a.spot = none) (j : Nat) : a.add j = ⟨a.block, a.off + j, none⟩ := by
  cases a with
  | mk b o s =>
    simp at h; subst h
    unfold Addr.add
    by_cases e : j = 0 <;> simp [e]
theorem AddrR.add {a a' : Addr} (h : AddrR φ a a') (j : Nat) : AddrR φ (a.add j) (a'.add j) := by
  have hb : (a.add j).block = a.block := by unfold Addr.add; split <;> rfl
  have ho : (a.add j).off = a.off + j := by unfold Addr.add; split <;> simp_all
  rcases h with h | ⟨c, n, s, d, h, h1, h2, h3⟩
  · exact .inl (by rw [hb]; exact h)
  · refine .inr ⟨c, n, s, d, by rw [hb]; exact h, ?_⟩
    rw [add_of_none h3, ho]
    exact ⟨h1, by simp; omega, rfl⟩

theorem MR.live (hM : MR P φ A w) {b : Nat} {o : AObj} (hg : A.heap.get b = some o) (hb : φ b ≠ none) : ∃ c n s d oc, φ b = some (.at_ c n s d) ∧ w.heap[c]? = some oc ∧ OR P φ o oc n s d := by
  cases hφ : φ b with
  | none => exact absurd hφ hb
  | some e => cases e with
    | dead => have := hM.dead b hφ; rw [hg] at this; cases this
    | at_ c n s d =>
      obtain ⟨o', oc, h1, h2, h3⟩ := hM.obj b c n s d hφ
      rw [hg] at h1
      injection h1 with h1
      subst h1
      exact ⟨c, n, s, d, oc, rfl, h2, h3⟩
theorem AddrR.ne {a a' : Addr} (h : AddrR φ a a') : φ a.block ≠ none := by
  rcases h with h | ⟨c, n, s, d, h, _⟩ <;> rw [h] <;> simp
theorem BlkR.ne {b b' : Nat} (h : BlkR φ b b') : φ b ≠ none := by
  rcases h with h | ⟨n, s, d, h⟩ <;> rw [h] <;> simp
theorem MR.cells (hM : MR P φ A w) {a a' : Addr} (ha : AddrR φ a a') {c : List Value} {e : TypeId} {ro : Bool} (hg : A.heap.get a.block = some (.cells c e ro)) :
    ∃ cc fz n s d, φ a.block = some (.at_ a'.block n s d) ∧ a'.off = a.off + d ∧ a'.spot = none ∧ w.heap[a'.block]? = some (.cells ⟨cc⟩ e fz) ∧ CellsR P φ c e ro cc e fz n s d := by
  obtain ⟨c1, n, s, d, oc, h1, h2, cc, e', fz, h3, h4⟩ := hM.live hg ha.ne
  rcases ha with h | ⟨c2, n2, s2, d2, h, h5, h6, h7⟩
  · rw [h1] at h; cases h
  · rw [h1] at h
    injection h with h
    injection h with e1 e2 e3 e4
    subst e1 e2 e3 e4 h5
    have := h4.elem
    subst this
    subst h3
    exact ⟨cc, fz, n, s, d, h1, h6, h7, h2, h4⟩
theorem MR.objB (hM : MR P φ A w) {b b' : Nat} (hb : BlkR φ b b') {o : AObj} (hg : A.heap.get b = some o) : ∃ n s d oc, φ b = some (.at_ b' n s d) ∧ w.heap[b']? = some oc ∧ OR P φ o oc n s d := by
  obtain ⟨c1, n, s, d, oc, h1, h2, h3⟩ := hM.live hg hb.ne
  rcases hb with h | ⟨n2, s2, d2, h⟩
  · rw [h1] at h; cases h
  · rw [h1] at h
    injection h with h
    injection h with e1
    subst e1
    exact ⟨n, s, d, oc, h1, h2, h3⟩

theorem cellsAt_some {b : Nat} {c : List Value} (h : cellsAt A b = some c) : ∃ e ro, A.heap.get b = some (.cells c e ro) := by
  unfold cellsAt at h
  cases hg : A.heap.get b with
  | none => rw [hg] at h; cases h
  | some o =>
    rw [hg] at h
    cases o with
    | cells c' e ro => simp at h; subst h; exact ⟨e, ro, rfl⟩
    | _ => simp at h
theorem rd_some {b off n : Nat} {cs : List Value} (h : rd A b off n = some cs) : ∃ c e ro, A.heap.get b = some (.cells c e ro) ∧ off + n ≤ c.length ∧ cs = (c.drop off).take n := by
  unfold rd at h
  cases hc : cellsAt A b with
  | none => rw [hc] at h; cases h
  | some c =>
    obtain ⟨e, ro, hg⟩ := cellsAt_some hc
    rw [hc] at h
    simp only [lenL0, takeL_eq, dropL_eq] at h
    cases hb : Nat.ble (off + n) c.length with
    | false => rw [hb] at h; simp at h
    | true =>
      rw [hb] at h
      simp at h
      exact ⟨c, e, ro, hg, Nat.le_of_ble_eq_true hb, h.symm⟩
/-- a piece of a row that is related is read alike -/
theorem CellsR.part {c cc : List Value} {e e' : TypeId} {ro : Bool} {fz : Nat × Nat} {n s d : Nat} (h : CellsR P φ c e ro cc e' fz n s d) (off k : Nat) (hk : off + k ≤ c.length) :
    LR φ ((c.drop off).take k) ((cc.drop (d + off)).take k) := by
  have h1 := (h.cells.drop off).take k
  have e1 : (((cc.drop d).take c.length).drop off).take k = (cc.drop (d + off)).take k := by
    rw [List.drop_take, List.drop_drop, List.take_take, Nat.min_eq_left (by omega)]
  rw [e1] at h1
  exact h1
theorem rd_ok (hM : MR P φ A w) {a a' : Addr} (ha : AddrR φ a a') {n : Nat} {cs : List Value} (h : rd A a.block a.off n = some cs) :
    ∃ cs', LR φ cs cs' ∧ cs'.length = n ∧ ∀ j v, cs'[j]? = some v → w.cell? (a'.add j) = some v := by
  obtain ⟨c, e, ro, hg, hl, rfl⟩ := rd_some h
  obtain ⟨cc, fz, m, s, d, h1, h2, h3, h4, h5⟩ := hM.cells ha hg
  refine ⟨(cc.drop (d + a.off)).take n, h5.part a.off n hl, ?_, fun j v hv => ?_⟩
  · have := h5.fits; have := h5.size; simp; omega
  · rw [add_of_none h3, cell_lit h4, h2]
    have hj : j < n := by
      have := (List.getElem?_eq_some_iff.1 hv).1
      simp at this; omega
    rw [List.getElem?_take_of_lt hj, List.getElem?_drop] at hv
    simpa [Nat.add_comm, Nat.add_left_comm, Nat.add_assoc] using hv
theorem rd1_ok (hM : MR P φ A w) {a a' : Addr} (ha : AddrR φ a a') {v : Value} (h : rd1 A a.block a.off = some v) : ∃ v', VR φ v v' ∧ w.cell? a' = some v' := by
  unfold rd1 at h
  cases hc : cellsAt A a.block with
  | none => rw [hc] at h; cases h
  | some c =>
    obtain ⟨e, ro, hg⟩ := cellsAt_some hc
    rw [hc] at h
    simp only [nth_eq] at h
    obtain ⟨cc, fz, m, s, d, h1, h2, h3, h4, h5⟩ := hM.cells ha hg
    obtain ⟨v', h6, h7⟩ := h5.cells.get h
    refine ⟨v', h7, ?_⟩
    have hl := (List.getElem?_eq_some_iff.1 h).1
    have e1 : a' = ⟨a'.block, a'.off, none⟩ := by cases a'; simp_all
    rw [e1, cell_lit h4, h2]
    rw [List.getElem?_take_of_lt hl, List.getElem?_drop] at h6
    simpa [Nat.add_comm] using h6
theorem run_isAgg {t : TypeId} {b : Bool} (h : aggOf P t = some b) (w : World) : (isAgg t).run P w = .ok b w := by
  unfold aggOf at h
  cases hu : P.underlying t with
  | none => rw [hu] at h; cases h
  | some d =>
    rw [hu] at h
    have hr : (underlying t).run P w = .ok d w := by simp [underlying, hu]
    unfold isAgg
    cases d <;> simp at h <;> subst h <;> simp [hr]
theorem run_sizeOf {t : TypeId} {n : Nat} (h : szOf P t = some n) (w : World) : (sizeOf t).run P w = .ok n w := by
  unfold szOf at h
  cases hi : P.info? t with
  | none => rw [hi] at h; cases h
  | some i => rw [hi] at h; simp at h; subst h; simp [sizeOf, typeInfo, hi]
theorem ldA_ok (hM : MR P φ A w) {a a' : Addr} (ha : AddrR φ a a') {t : TypeId} {v : Value} (h : ldA P A t a = some v) : ∃ v', VR φ v v' ∧ (loadVar t a').run P w = .ok v' w := by
  unfold ldA at h
  cases hb : aggOf P t with
  | none => rw [hb] at h; cases h
  | some b =>
    rw [hb] at h
    cases b with
    | true =>
      simp at h
      cases hs : szOf P t with
      | none => rw [hs] at h; simp at h
      | some n =>
        rw [hs] at h
        simp at h
        cases hr : rd A a.block a.off n with
        | none => rw [hr] at h; simp at h
        | some cs =>
          rw [hr] at h
          simp at h
          subst h
          obtain ⟨cs', h1, h2, h3⟩ := rd_ok hM ha hr
          refine ⟨_, .agg h1, ?_⟩
          have := run_loadCells_list (P := P) w a' cs' h3
          simp [loadVar, run_isAgg hb, run_sizeOf hs, ← h2, this]
    | false =>
      simp at h
      obtain ⟨v', h1, h2⟩ := rd1_ok hM ha h
      exact ⟨v', h1, by simp [loadVar, run_isAgg hb, h2]⟩
end Go.Sh
