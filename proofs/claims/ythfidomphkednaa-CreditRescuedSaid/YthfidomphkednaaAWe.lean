/- Part of a proof by a machine of ones own: see the text with the theorem. -/
import Derived.Test.YthfidomphkednaaAWd
namespace Go.Proofs.Ythfidomphkednaa.walk
open Go Go.Sh
set_option maxRecDepth 100000
set_option linter.unusedSimpArgs false
set_option linter.unusedVariables false
/-! CreditCents: numbers, Rises -/
theorem shP_mem (ps : List Pt) (ds : List Dt) {n k : Nat} (hk : k < n) : (k : Int) ∈ shP ps ds n ↔ shB ps ds k = true := by
  unfold shP
  rw [List.mem_map]
  constructor
  · rintro ⟨a, ha, e⟩
    have : a = k := by omega
    subst this
    exact (List.mem_filter.1 ha).2
  · intro h
    exact ⟨k, List.mem_filter.2 ⟨List.mem_range.2 hk, h⟩, rfl⟩
theorem totL_ls (x : Int → Int) : ∀ n : Nat, totL (lsF n x) = sN (fun k => x (k : Int)) n
  | 0 => rfl
  | n + 1 => by
    have : lsF (n + 1) x = lsF n x ++ [x (n : Int)] := by simp [lsF, List.range_succ]
    rw [this, totL_app, totL_ls x n]
    simp [totL, sN]
end Go.Proofs.Ythfidomphkednaa.walk

namespace Go.Proofs.Ythfidomphkednaa.walk
open Go Go.Sh
set_option maxRecDepth 100000
set_option linter.unusedSimpArgs false
set_option linter.unusedVariables false
/-! a party with more cash -/
theorem src_rows {α : Type} {f : α → List Value} {m : Nat} (hf : ∀ a, (f a).length = m) (hm : 0 < m) {w : AW} {v : Value} {l : List α} (h : RowsV f w v l) (hl : l ≠ []) : srcCells w m v = some (l.flatMap f) ∧ lenA v = some l.length := by
  rcases h with ⟨h, _⟩ | ⟨b, off, sq, c, rfl, ⟨pre, rest, e, ro, h1, h2⟩, h3⟩
  · exact absurd h hl
  · refine ⟨?_, rfl⟩
    have hlen : (l.flatMap f).length = l.length * m := flat_length hf l
    have hpos : 0 < l.length := List.length_pos_iff.2 hl
    have hp : 0 < l.length * m := Nat.mul_pos hpos hm
    show (bif Nat.beq (l.length * m) 0 then some [] else rd w b off (l.length * m)) = _
    have e1 : Nat.beq (l.length * m) 0 = false := by rw [← Bool.not_eq_true]; intro h; have := Nat.eq_of_beq_eq_true h; omega
    rw [e1, cond_false, rd_eq, h1, rdO_cells, if_pos (by rw [List.length_append, List.length_append, hlen]; omega)]
    rw [← h2, List.drop_left, ← hlen, List.take_left]
theorem list22 : isList Try.prog 22 = true := by kernel_rfl
theorem elem22 : elemA Try.prog 22 = some 49 := by kernel_rfl
theorem sz49 : szOf Try.prog 49 = some 2 := by kernel_rfl
theorem small49 : smallT Try.prog 49 = true := by kernel_rfl
/-- a copy of the parties -/
theorem copy_pt {w : AW} {pv : Value} {ps : List Pt} (hv : RowsV ptC w pv ps) (hn : 1 ≤ ps.length) (hn2 : ps.length ≤ 1000) (hl : w.lim ≤ w.next) :
    append1 Try.prog ⟨w.heap.put w.next (some (.cells [] 49 false)), w.next + 1, w.lim⟩ [22, 22] [.slice (some ⟨w.next, 0, none⟩) 0 0, pv] = .val (.slice (some ⟨w.next + 1, 0, none⟩) ps.length ps.length) ⟨((w.heap.put w.next (some (.cells [] 49 false))).put w.next none).put (w.next + 1) (some (.cells (ps.flatMap ptC) 49 false)), w.next + 1 + 1, w.lim⟩ := by
  have hu : Up w ⟨w.heap.put w.next (some (.cells [] 49 false)), w.next + 1, w.lim⟩ := (Up.refl w).add _
  have hne : ps ≠ [] := fun e => by rw [e] at hn; simp at hn
  obtain ⟨h5, h4⟩ := src_rows ptC_length (by decide) (hv.up hu) hne
  have := append_full (P := Try.prog) list22 elem22 sz49 small49 (w := ⟨w.heap.put w.next (some (.cells [] 49 false)), w.next + 1, w.lim⟩) (B := w.next) (n := 0) (m := ps.length) (c := []) h4 h5 (by rw [flat_length ptC_length]) (flat_singles (fun _ => by simp [ptC]) _) (by omega) (by omega) (by simp) (by simp) hl
  simpa using this
theorem rows_pt {w : AW} {B : Nat} {ps : List Pt} (h : w.heap.get B = some (.cells (ps.flatMap ptC) 49 false)) (hb : B < w.next) (c : Nat) : RowsV ptC w (.slice (some ⟨B, 0, none⟩) ps.length c) ps :=
  .inr ⟨B, 0, none, c, rfl, ⟨[], [], 49, false, by rw [h, List.nil_append, List.append_nil], rfl⟩, hb⟩
theorem st_pt {w : AW} {B k : Nat} {ps : List Pt} {p : Pt} (hk : k < ps.length) (hl : w.lim ≤ B) : wrO w B (k * 2) [.string p.nm, .int .i64 p.ch] (some (.cells (ps.flatMap ptC) 49 false)) = some ⟨w.heap.put B (some (.cells ((ps.set k p).flatMap ptC) 49 false)), w.next, w.lim⟩ := by
  have hlen : (ps.flatMap ptC).length = ps.length * 2 := flat_length ptC_length ps
  rw [wrO_cells (by simp) hl (by simp [hlen]; omega), ← flat_set ptC_length ps k p hk]
  rfl
/-- the ledger in which a party has another cash -/
def morP (ps : List Pt) (k : Nat) (c : Int) : List Pt := match ps[k]? with | some p => ps.set k ⟨p.nm, c⟩ | none => ps
theorem morP_eq {ps : List Pt} {k : Nat} {p : Pt} (h : ps[k]? = some p) (c : Int) : morP ps k c = ps.set k ⟨p.nm, c⟩ := by unfold morP; rw [h]
@[simp] theorem morP_len (ps : List Pt) (k : Nat) (c : Int) : (morP ps k c).length = ps.length := by
  unfold morP; split <;> simp
theorem morP_nms (ps : List Pt) (k : Nat) (c : Int) (i : Nat) : nmsTo (morP ps k c) i = nmsTo ps i := by
  unfold morP
  cases h : ps[k]? with
  | none => rfl
  | some p =>
    simp only
    unfold nmsTo
    apply List.ext_getElem?
    intro j
    rw [List.getElem?_map, List.getElem?_map, List.getElem?_take, List.getElem?_take]
    by_cases hj : j < i
    · rw [if_pos hj, if_pos hj, List.getElem?_set]
      by_cases e : k = j
      · subst e
        have hlt := (List.getElem?_eq_some_iff.1 h).1
        rw [if_pos rfl, if_pos hlt, h]; rfl
      · rw [if_neg e]
    · rw [if_neg hj, if_neg hj]
theorem mor_ca {ps : List Pt} {k : Nat} (hk : k < ps.length) (c : Int) (p : Int) : caP (morP ps k c) p = if p = (k : Int) then c else caP ps p := by
  obtain ⟨a, ha⟩ : ∃ a, ps[k]? = some a := ⟨_, List.getElem?_eq_getElem hk⟩
  rw [morP_eq ha]
  unfold caP
  by_cases hp : 0 ≤ p
  · rw [if_pos hp, if_pos hp, List.getElem?_set]
    by_cases e : k = p.toNat
    · rw [if_pos e, if_pos (by omega), if_pos (by omega)]; rfl
    · rw [if_neg e, if_neg (by omega)]
  · rw [if_neg hp, if_neg hp, if_neg (by omega)]
theorem mor_ch {ps : List Pt} {ds : List Dt} (hC : chE ps ds = 0) {k : Nat} (hk : k < ps.length) {c : Int} (hc : 0 ≤ c ∧ c ≤ 100000) : chE (morP ps k c) ds = 0 := by
  have hB : ledB ps ds = true := by
    unfold chE at hC
    split at hC
    · assumption
    · cases hC
  have : ledB (morP ps k c) ds = true := by
    simp only [ledB, parB, debB, Bool.and_eq_true, morP_len] at hB ⊢
    obtain ⟨⟨h1, h2⟩, h3, h4⟩ := hB
    refine ⟨⟨h1, ?_⟩, h3, ?_⟩
    · rw [List.all_eq_true] at h2 ⊢
      intro i hi
      have hlt := List.mem_range.1 hi
      have := h2 i hi
      obtain ⟨a, ha⟩ : ∃ a, ps[k]? = some a := ⟨_, List.getElem?_eq_getElem hk⟩
      obtain ⟨q, hq⟩ : ∃ a, ps[i]? = some a := ⟨_, List.getElem?_eq_getElem hlt⟩
      unfold prB at this ⊢
      rw [morP_nms, morP_eq ha, List.getElem?_set]
      rw [hq] at this
      by_cases e : k = i
      · subst e
        rw [if_pos rfl, if_pos hk]
        rw [ha] at hq
        cases hq
        simp only [inI, Bool.and_eq_true, decide_eq_true_eq] at this ⊢
        exact ⟨this.1, this.2.1, hc⟩
      · rw [if_neg e, hq]; exact this
    · have e : dtB (morP ps k c) ds = dtB ps ds := by funext i; unfold dtB; rw [morP_len]
      rw [e]; exact h4
  unfold chE
  rw [if_pos this]
end Go.Proofs.Ythfidomphkednaa.walk

namespace Go.Proofs.Ythfidomphkednaa.walk
open Go Go.Sh
set_option maxRecDepth 100000
set_option linter.unusedSimpArgs false
set_option linter.unusedVariables false
/-! CreditMore -/
end Go.Proofs.Ythfidomphkednaa.walk
