/- Part of a proof by a machine of ones own: see the text with the theorem. -/
import Derived.Test.YtbbbgaiaigdngaaGreatDoorEWc
import Derived.Test.YtbbbgaiaigdngaaGreatDoorXT3
import Derived.Test.YtbbbgaiaigdngaaGreatDoorShF
namespace Go.Proofs.YtbbbgaiaigdngaaGreatDoor.walk
open Go Go.Sh
set_option maxRecDepth 100000
set_option linter.unusedSimpArgs false
set_option linter.unusedVariables false
/-! VineEnds: With -/
theorem src_any {w : AW} {v : Value} {L : List Int} (h : RowsV intC w v L) : srcCells w 1 v = some (L.flatMap intC) ∧ lenA v = some L.length := by
  rcases h with ⟨rfl, a, c, rfl⟩ | ⟨b, off, sq, c, rfl, ⟨pre, rest, e, ro, h1, h2⟩, h3⟩
  · exact ⟨by cases a <;> rfl, rfl⟩
  · refine ⟨?_, rfl⟩
    have hlen : (L.flatMap intC).length = L.length * 1 := flat_length intC_length L
    rcases Nat.eq_zero_or_pos L.length with h0 | hp
    · have : L = [] := List.eq_nil_of_length_eq_zero h0
      subst this
      rfl
    · show (bif Nat.beq (L.length * 1) 0 then some [] else rd w b off (L.length * 1)) = _
      have e1 : Nat.beq (L.length * 1) 0 = false := by rw [← Bool.not_eq_true]; intro h; have := Nat.eq_of_beq_eq_true h; omega
      rw [e1, cond_false, rd_eq, h1, rdO_cells, if_pos (by rw [List.length_append, List.length_append, h2, hlen]; omega), ← h2, List.drop_left, ← hlen, List.take_left]
/-- onto an empty row of its own -/
theorem app_empty {w : AW} {v : Value} {L : List Int} (hv : RowsV intC w v L) (hn : L.length ≤ 1000) (hl : w.lim ≤ w.next) :
    ∃ B w', append1 Tryz.prog ⟨w.heap.put w.next (some (.cells [] 3 false)), w.next + 1, w.lim⟩ [27, 27] [.slice (some ⟨w.next, 0, none⟩) 0 0, v] = .val (.slice (some ⟨B, 0, none⟩) L.length L.length) w' ∧ w'.heap.get B = some (.cells (L.flatMap intC) 3 false) ∧ w.next ≤ B ∧ B < w'.next ∧ w.next < w'.next ∧ w'.lim = w.lim ∧ ∀ x, x < w.next → w'.heap.get x = w.heap.get x := by
  have hv' : RowsV intC ⟨w.heap.put w.next (some (.cells [] 3 false)), w.next + 1, w.lim⟩ v L := hv.old (fun x hx => by show (w.heap.put _ _).get x = _; rw [get_put, if_neg (by omega)]) (by show w.next ≤ w.next + 1; omega)
  obtain ⟨h5, h4⟩ := src_any hv'
  rcases Nat.eq_zero_or_pos L.length with h0 | hp
  · have hL : L = [] := List.eq_nil_of_length_eq_zero h0
    subst hL
    refine ⟨w.next, ⟨w.heap.put w.next (some (.cells [] 3 false)), w.next + 1, w.lim⟩, ?_, ?_, Nat.le_refl _, Nat.lt_succ_self _, Nat.lt_succ_self _, rfl, ?_⟩
    · rw [append_eq isList27 elem27 sz3 small3, h4, h5]
      rfl
    · show (w.heap.put w.next _).get w.next = _
      rw [get_put, if_pos rfl]; rfl
    · intro x hx
      show (w.heap.put _ _).get x = _
      rw [get_put, if_neg (by omega)]
  · have := append_full (P := Tryz.prog) isList27 elem27 sz3 small3 (w := ⟨w.heap.put w.next (some (.cells [] 3 false)), w.next + 1, w.lim⟩) (B := w.next) (n := 0) (m := L.length) (c := []) h4 h5 (by rw [flat_length intC_length]) (flat_singles (fun _ => by simp [intC]) _) hp (by omega) (by simp) (by simp) hl
    simp only [Nat.zero_add, List.nil_append] at this
    refine ⟨w.next + 1, _, this, ?_, Nat.le_succ _, ?_, ?_, rfl, ?_⟩
    · show (((w.heap.put w.next _).put w.next none).put (w.next + 1) _).get (w.next + 1) = _
      rw [get_put, if_pos rfl]
    · show w.next + 1 < w.next + 1 + 1; omega
    · show w.next < w.next + 1 + 1; omega
    · intro x hx
      show (((w.heap.put w.next _).put w.next none).put (w.next + 1) _).get x = _
      rw [get_put, if_neg (by omega), get_put, if_neg (by omega), get_put, if_neg (by omega)]
theorem call49 {ov : Ov} (m : Nat) (ho : ∀ args w, ov 49 args w = none) (v : Value) (L : List Int) (z : Int) (w : AW) (hv : RowsV intC w v L) (hn : L.length ≤ 1000) (hl : w.lim ≤ w.next) :
    ∃ x w', (run Tryz.prog ov (m + 1)).call 49 [v, .int .i64 z] w .none = .ok (.ret x) w' .none ∧ (∃ B, x = .slice (some ⟨B, 0, none⟩) (L.length + 1) (L.length + 1) ∧ w'.heap.get B = some (.cells ((L ++ [z]).flatMap intC) 3 false) ∧ w.next ≤ B ∧ B < w'.next) ∧ w.next < w'.next ∧ w'.lim = w.lim ∧ ∀ x, x < w.next → w'.heap.get x = w.heap.get x := by
  refine call_wp text49 (by simp) (ho _ _) ?_
  obtain ⟨B, w2, a1, g2, b1, b2, n2, m2, old2⟩ := app_empty hv hn hl
  obtain ⟨w3, hw3⟩ : ∃ w3, (⟨w2.heap.put w2.next (some (.cells [.int .i64 z] 3 false)), w2.next + 1, w2.lim⟩ : AW) = w3 := ⟨_, rfl⟩
  have n3 : w3.next = w2.next + 1 := by rw [← hw3]
  have m3 : w3.lim = w2.lim := by rw [← hw3]
  have hz : RowsV intC w3 (.slice (some ⟨w2.next, 0, none⟩) 1 1) [z] := .inr ⟨w2.next, 0, none, 1, rfl, ⟨[], [], 3, false, by rw [← hw3]; simp [intC], rfl⟩, by omega⟩
  obtain ⟨k5, k4⟩ := src_any hz
  have g3 : w3.heap.get B = some (.cells (L.flatMap intC) 3 false) := by
    rw [← hw3]
    show (w2.heap.put w2.next _).get B = _
    rw [get_put, if_neg (by omega)]
    exact g2
  have a2 := append_full (P := Tryz.prog) isList27 elem27 sz3 small3 (w := w3) (B := B) (n := L.length) (m := 1) (c := L.flatMap intC) k4 k5 (by simp [intC]) (flat_singles (fun _ => by simp [intC]) _) (by omega) (by omega) g3 (flat_length intC_length L) (by omega)
  obtain ⟨w4, hw4⟩ : ∃ w4, (⟨(w3.heap.put B none).put w3.next (some (.cells (L.flatMap intC ++ [z].flatMap intC) 3 false)), w3.next + 1, w3.lim⟩ : AW) = w4 := ⟨_, rfl⟩
  rw [hw4] at a2
  have nj : ∀ (a : Addr) n c, notJunk (.slice (some a) n c) = some (.slice (some a) n c) := fun _ _ _ => rfl
  simp [mc49, a1, hw3, a2, nj, tupV]
  refine ⟨⟨?_, ?_, ?_⟩, ?_, ?_, fun x hx => ?_⟩
  · rw [← hw4]; simp
  · omega
  · rw [← hw4]; show w3.next < w3.next + 1; omega
  · rw [← hw4]; show w.next < w3.next + 1; omega
  · rw [← hw4]; show w3.lim = w.lim; omega
  · rw [← hw4]
    show ((w3.heap.put B none).put w3.next _).get x = _
    rw [get_put, if_neg (by omega), get_put, if_neg (by omega), ← hw3]
    show (w2.heap.put w2.next _).get x = _
    rw [get_put, if_neg (by omega)]
    exact old2 x hx
end Go.Proofs.YtbbbgaiaigdngaaGreatDoor.walk

namespace Go.Proofs.YtbbbgaiaigdngaaGreatDoor.walk
open Go Go.Sh
set_option maxRecDepth 100000
set_option linter.unusedSimpArgs false
set_option linter.unusedVariables false
/-! VineEnds: the truths that are tried, ends 17 -/
structure Wr where
  wa : Option Addr
  wn : Nat
  wc : Nat
  ra : Option Addr
  rn : Nat
  rc : Nat
  W : List Int
  R : List Int
def Wr.wv (y : Wr) : Value := .slice y.wa y.wn y.wc
def Wr.rv (y : Wr) : Value := .slice y.ra y.rn y.rc
def wrC (y : Wr) : List Value := [y.wv, y.rv]
@[simp] theorem wrC_length (y : Wr) : (wrC y).length = 2 := by simp [wrC]
/-- a row of numbers that is there, in a block that is not B -/
def GoodB (w : AW) (B : Nat) (v : Value) (L : List Int) : Prop := (L = [] ∧ v = .slice none 0 0) ∨ ∃ b, v = .slice (some ⟨b, 0, none⟩) L.length L.length ∧ w.heap.get b = some (.cells (L.flatMap intC) 3 false) ∧ b ≠ B ∧ b < w.next
theorem GoodB.rows {w : AW} {B : Nat} {v : Value} {L : List Int} (h : GoodB w B v L) : RowsV intC w v L := by
  rcases h with ⟨rfl, rfl⟩ | ⟨b, rfl, g, _, hb⟩
  · exact .inl ⟨rfl, _, _, rfl⟩
  · exact .inr ⟨b, 0, none, L.length, rfl, ⟨[], [], 3, false, by rw [g, List.nil_append, List.append_nil], rfl⟩, hb⟩
theorem GoodB.move {w w' : AW} {B B' : Nat} {v : Value} {L : List Int} (h : GoodB w B v L) (ho : ∀ x, x < w.next → x ≠ B → w'.heap.get x = w.heap.get x) (hn : w.next ≤ w'.next) (hB : w.next ≤ B') : GoodB w' B' v L := by
  rcases h with h | ⟨b, h1, h2, h3, h4⟩
  · exact .inl h
  · exact .inr ⟨b, h1, by rw [ho b h4 h3]; exact h2, by omega, by omega⟩
def goodL (w : AW) (B : Nat) (acc : List Wr) : Prop := ∀ y ∈ acc, GoodB w B y.wv y.W ∧ GoodB w B y.rv y.R
def prW (y : Wr) : List Int × List Int := (y.W, y.R)
def e2 (d : Day) (y : List Int × List Int) (a : Int) : List (List Int × List Int) := [(y.1 ++ [a], y.2 ++ [d.rl]), (y.1 ++ [a], y.2 ++ [d.rh])]
def e1 (d : Day) (y : List Int × List Int) (n : Nat) : List (List Int × List Int) := (List.range n).flatMap fun k => e2 d y (d.wl + (k : Nat))
def e0 (d : Day) (out : List (List Int × List Int)) : List (List Int × List Int) := out.flatMap fun y => e1 d y (d.wh - d.wl + 1).toNat
/-- all truths of the first days -/
def edL (l : List Day) : Nat → List (List Int × List Int)
  | 0 => [([], [])]
  | i + 1 => match l[i]? with | some d => e0 d (edL l i) | none => edL l i
theorem e2_mem {d : Day} {y : List Int × List Int} {a : Int} {z : List Int × List Int} : z ∈ e2 d y a ↔ ∃ r, (r = d.rl ∨ r = d.rh) ∧ z = (y.1 ++ [a], y.2 ++ [r]) := by
  unfold e2
  constructor
  · intro h
    rcases List.mem_cons.1 h with h | h
    · exact ⟨_, .inl rfl, h⟩
    · exact ⟨_, .inr rfl, List.mem_singleton.1 h⟩
  · rintro ⟨r, rfl | rfl, rfl⟩ <;> simp
theorem e1_mem {d : Day} {y : List Int × List Int} {z : List Int × List Int} : z ∈ e1 d y (d.wh - d.wl + 1).toNat ↔ ∃ a r, inI d.wl a d.wh = true ∧ (r = d.rl ∨ r = d.rh) ∧ z = (y.1 ++ [a], y.2 ++ [r]) := by
  unfold e1
  rw [List.mem_flatMap]
  constructor
  · rintro ⟨k, hk, h⟩
    have hk' := List.mem_range.1 hk
    obtain ⟨r, hr, e⟩ := e2_mem.1 h
    exact ⟨d.wl + (k : Nat), r, by simp [inI]; omega, hr, e⟩
  · rintro ⟨a, r, ha, hr, e⟩
    simp only [inI, Bool.and_eq_true, decide_eq_true_eq] at ha
    refine ⟨(a - d.wl).toNat, List.mem_range.2 (by omega), e2_mem.2 ⟨r, hr, ?_⟩⟩
    rw [show d.wl + (((a - d.wl).toNat : Nat) : Int) = a by omega]
    exact e
/-- exactly the truths of warmths, and of the least or the greatest rain, of so many days -/
theorem edL_mem (l : List Day) : ∀ (n : Nat), n ≤ l.length → ∀ W R, (W, R) ∈ edL l n ↔ W.length = n ∧ R.length = n ∧ ∀ (i : Nat) d, i < n → l[i]? = some d → ∃ a r, W[i]? = some a ∧ R[i]? = some r ∧ inI d.wl a d.wh = true ∧ (r = d.rl ∨ r = d.rh)
  | 0, _, W, R => by
    unfold edL
    rw [List.mem_singleton, Prod.mk.injEq]
    constructor
    · rintro ⟨rfl, rfl⟩
      exact ⟨rfl, rfl, fun i d h => by omega⟩
    · rintro ⟨h1, h2, _⟩
      exact ⟨List.eq_nil_of_length_eq_zero h1, List.eq_nil_of_length_eq_zero h2⟩
  | n + 1, hn, W, R => by
    obtain ⟨d, hd⟩ : ∃ d, l[n]? = some d := ⟨_, List.getElem?_eq_getElem (by omega)⟩
    have ih := edL_mem l n (by omega)
    unfold edL
    rw [hd]
    show (W, R) ∈ e0 d (edL l n) ↔ _
    unfold e0
    rw [List.mem_flatMap]
    constructor
    · rintro ⟨⟨W0, R0⟩, h0, h1⟩
      obtain ⟨k1, k2, k3⟩ := (ih W0 R0).1 h0
      obtain ⟨a, r, ha, hr, e⟩ := e1_mem.1 h1
      simp only [Prod.mk.injEq] at e
      obtain ⟨rfl, rfl⟩ := e
      refine ⟨by simp [k1], by simp [k2], fun i d' hi hd' => ?_⟩
      by_cases h : i < n
      · obtain ⟨a', r', q1, q2, q3, q4⟩ := k3 i d' h hd'
        exact ⟨a', r', by rw [List.getElem?_append_left (by omega)]; exact q1, by rw [List.getElem?_append_left (by omega)]; exact q2, q3, q4⟩
      · obtain rfl : i = n := by omega
        rw [hd] at hd'
        cases hd'
        exact ⟨a, r, by rw [List.getElem?_append_right (by omega), k1, Nat.sub_self]; rfl, by rw [List.getElem?_append_right (by omega), k2, Nat.sub_self]; rfl, ha, hr⟩
    · rintro ⟨h1, h2, h3⟩
      obtain ⟨a, r, q1, q2, q3, q4⟩ := h3 n d (Nat.lt_succ_self _) hd
      have eW : W = W.take n ++ [a] := by
        have := List.take_add_one (l := W) (i := n)
        rw [q1, List.take_of_length_le (by omega)] at this
        exact this
      have eR : R = R.take n ++ [r] := by
        have := List.take_add_one (l := R) (i := n)
        rw [q2, List.take_of_length_le (by omega)] at this
        exact this
      refine ⟨(W.take n, R.take n), (ih _ _).2 ⟨by rw [List.length_take]; omega, by rw [List.length_take]; omega, fun i d' hi hd' => ?_⟩, e1_mem.2 ⟨a, r, q3, q4, by rw [Prod.mk.injEq]; exact ⟨eW, eR⟩⟩⟩
      obtain ⟨a', r', p1, p2, p3, p4⟩ := h3 i d' (by omega) hd'
      exact ⟨a', r', by rw [List.getElem?_take_of_lt hi]; exact p1, by rw [List.getElem?_take_of_lt hi]; exact p2, p3, p4⟩
end Go.Proofs.YtbbbgaiaigdngaaGreatDoor.walk

namespace Go.Proofs.YtbbbgaiaigdngaaGreatDoor.walk
open Go Go.Sh
set_option maxRecDepth 100000
set_option linter.unusedSimpArgs false
set_option linter.unusedVariables false
theorem list51 : isList Tryz.prog 51 = true := by kernel_rfl
theorem elem51 : elemA Tryz.prog 51 = some 41 := by kernel_rfl
theorem sz41 : szOf Tryz.prog 41 = some 2 := by kernel_rfl
theorem small41 : smallT Tryz.prog 41 = true := by kernel_rfl
theorem wrC_singles (y : Wr) : singles (wrC y) = true := by simp [wrC, Wr.wv, Wr.rv]
/-- a day's truths so far -/
def Acc17 (w0 : AW) (n0 : Nat) (w : AW) (v : Value) (acc : List Wr) : Prop := (∀ x, x < w0.next → w.heap.get x = w0.heap.get x) ∧ w0.next ≤ w.next ∧ w.lim = w0.lim ∧ ∃ B, AccQ wrC 41 n0 w v acc B ∧ goodL w B acc
/-- one more of them -/
theorem push17 {w0 : AW} {n0 : Nat} (hn0 : w0.next = n0 + 1) (hl : w0.lim ≤ n0) {w w2 : AW} {v : Value} {acc : List Wr} (h : Acc17 w0 n0 w v acc) (hlen : acc.length ≤ 90000) (hk : ∀ x, x < w.next → w2.heap.get x = w.heap.get x) (hn : w.next ≤ w2.next) (hm : w2.lim = w.lim) {B1 B2 : Nat} {W R : List Int} (g1 : w2.heap.get B1 = some (.cells (W.flatMap intC) 3 false)) (g2 : w2.heap.get B2 = some (.cells (R.flatMap intC) 3 false)) (b1 : w.next ≤ B1 ∧ B1 < w2.next) (b2 : w.next ≤ B2 ∧ B2 < w2.next) :
    ∃ v' w', append1 Tryz.prog ⟨w2.heap.put w2.next (some (.cells [.slice (some ⟨B1, 0, none⟩) W.length W.length, .slice (some ⟨B2, 0, none⟩) R.length R.length] 41 false)), w2.next + 1, w2.lim⟩ [51, 51] [v, .slice (some ⟨w2.next, 0, none⟩) 1 1] = .val v' w' ∧ Acc17 w0 n0 w' v' (acc ++ [⟨some ⟨B1, 0, none⟩, W.length, W.length, some ⟨B2, 0, none⟩, R.length, R.length, W, R⟩]) := by
  obtain ⟨h1, h2, h3, B, ha, hg⟩ := h
  have ha2 : AccQ wrC 41 n0 w2 v acc B := ha.keep (fun _ _ h => hk B h) hn
  obtain ⟨v', w', hap, ⟨B', hB', ha'⟩, hkp, hn', hm'⟩ := AccQ.push (P := Tryz.prog) (st := 51) (sz := 2) list51 elem51 sz41 small41 wrC_length wrC_singles (by decide) ha2 (by omega) (by omega) hlen ⟨some ⟨B1, 0, none⟩, W.length, W.length, some ⟨B2, 0, none⟩, R.length, R.length, W, R⟩
  have hBw : acc ≠ [] → n0 < B ∧ B < w.next := fun h => ha.lt h
  refine ⟨v', w', hap, fun x hx => ?_, by omega, by omega, B', ha', fun y hy => ?_⟩
  · rw [hkp x (by omega) (fun h => by have := hBw h; omega), hk x (by omega), h1 x hx]
  · rcases List.mem_append.1 hy with hy | hy
    · have hne : acc ≠ [] := fun e => by rw [e] at hy; simp at hy
      have hmv : ∀ x, x < w.next → x ≠ B → w'.heap.get x = w.heap.get x := fun x hx hb => by rw [hkp x (by omega) (fun _ => hb), hk x hx]
      obtain ⟨q1, q2⟩ := hg y hy
      exact ⟨q1.move hmv (by omega) (by omega), q2.move hmv (by omega) (by omega)⟩
    · rw [List.mem_singleton.1 hy]
      have k1 : w'.heap.get B1 = some (.cells (W.flatMap intC) 3 false) := by rw [hkp B1 b1.2 (fun h => by have := hBw h; omega)]; exact g1
      have k2 : w'.heap.get B2 = some (.cells (R.flatMap intC) 3 false) := by rw [hkp B2 b2.2 (fun h => by have := hBw h; omega)]; exact g2
      exact ⟨.inr ⟨B1, rfl, k1, by omega, by omega⟩, .inr ⟨B2, rfl, k2, by omega, by omega⟩⟩
end Go.Proofs.YtbbbgaiaigdngaaGreatDoor.walk

namespace Go.Proofs.YtbbbgaiaigdngaaGreatDoor.walk
open Go Go.Sh
set_option maxRecDepth 100000
set_option linter.unusedSimpArgs false
set_option linter.unusedVariables false
set_option maxHeartbeats 2000000 in
theorem loop17d {ov : Ov} (m : Nat) (ho49 : ∀ args w, ov 49 args w = none) (d : Day) (w0 : AW) (n0 : Nat) (hn0 : w0.next = n0 + 1) (hl : w0.lim ≤ n0) (nb : Nat) (hnb : nb < w0.next) (gd : w0.heap.get nb = some (.cells (dayC d) 49 false)) (v3 : Value) (out : List Wr) (hout : RowsV wrC w0 v3 out) (B3 : Nat) (i : Nat) (y : Wr) (hy : out[i]? = some y) (hgw : GoodB w0 B3 y.wv y.W) (hgr : GoodB w0 B3 y.rv y.R) (hyl : y.W.length ≤ 900 ∧ y.R.length ≤ 900) (a : Int) (acc0 : List Wr) (hacc0 : acc0.length ≤ 80000) (v4 : Value)
    (Q : Ex → Tm → AW → Prop) (t : Tm) (w : AW) (hA : Acc17 w0 n0 w (tget t 5) acc0) (t1 : tget t 1 = v4) (t3 : tget t 3 = v3) (t4' : Value) (t4 : tget t 4 = t4') (t6 : tget t 6 = .pointer (some ⟨nb, 0, none⟩)) (t7 : tget t 7 = .int .i64 (i : Nat)) (t8 : tget t 8 = .int .i64 a) (t9 : tget t 9 = .int .i64 0)
    (hQ : ∀ t w acc, Acc17 w0 n0 w (tget t 5) acc → acc.map prW = acc0.map prW ++ e2 d (prW y) a → tget t 1 = v4 → tget t 3 = v3 → tget t 4 = t4' → tget t 6 = .pointer (some ⟨nb, 0, none⟩) → tget t 7 = .int .i64 (i : Nat) → tget t 8 = .int .i64 a → Q (.exit 6) t w) : wp (exM Tryz.prog (run Tryz.prog ov (m + 1)) (.loop mc17_l3) t w) Q := by
  refine wp_rounds (fun k t w => (∃ acc, Acc17 w0 n0 w (tget t 5) acc ∧ acc.map prW = acc0.map prW ++ (e2 d (prW y) a).take k) ∧ tget t 1 = v4 ∧ tget t 3 = v3 ∧ tget t 4 = t4' ∧ tget t 6 = .pointer (some ⟨nb, 0, none⟩) ∧ tget t 7 = .int .i64 (i : Nat) ∧ tget t 8 = .int .i64 a ∧ tget t 9 = .int .i64 (k : Nat) ∧ k ≤ 2) 20 (by decide) ⟨⟨acc0, hA, by simp⟩, t1, t3, t4, t6, t7, t8, by simpa using t9, by omega⟩ ?_
  clear t1 t3 t4 t6 t7 t8 t9 hA
  rintro k t w ⟨⟨acc, hA, hmap⟩, t1, t3, t4, t6, t7, t8, t9, hk⟩
  obtain ⟨ho, hnx, hlm, _⟩ := id hA
  by_cases hlt : k < 2
  · have hlt' : (k : Int) < 2 := by omega
    have hal : acc.length ≤ 90000 := by
      have := congrArg List.length hmap
      simp at this
      omega
    have g6 : w.heap.get nb = some (.cells (dayC d) 49 false) := by rw [ho nb hnb]; exact gd
    obtain ⟨r, hr, hrk⟩ : ∃ r, ([Value.int .i64 d.rl, Value.int .i64 d.rh])[k]? = some (.int .i64 r) ∧ (e2 d (prW y) a)[k]? = some (y.W ++ [a], y.R ++ [r]) := by
      match k, hlt with
      | 0, _ => exact ⟨d.rl, rfl, rfl⟩
      | 1, _ => exact ⟨d.rh, rfl, rfl⟩
    obtain ⟨cs, hcs⟩ : ∃ cs, cs = [Value.int .i64 d.rl, Value.int .i64 d.rh] := ⟨_, rfl⟩
    rw [← hcs] at hr
    obtain ⟨wb, hwb⟩ : ∃ wb, (⟨w.heap.put w.next (some (.cells cs 3 false)), w.next + 1, w.lim⟩ : AW) = wb := ⟨_, rfl⟩
    have nb' : wb.next = w.next + 1 := by rw [← hwb]
    have mb : wb.lim = w.lim := by rw [← hwb]
    have ob : ∀ x, x < w.next → wb.heap.get x = w.heap.get x := fun x hx => by
      rw [← hwb]; show (w.heap.put _ _).get x = _; rw [get_put, if_neg (by omega)]
    have gwb : wb.heap.get w.next = some (.cells cs 3 false) := by rw [← hwb]; show (w.heap.put _ _).get _ = _; rw [get_put, if_pos rfl]
    have obw0 : ∀ x, x < w0.next → wb.heap.get x = w0.heap.get x := fun x hx => by rw [ob x (by omega), ho x hx]
    have rwv : RowsV intC wb y.wv y.W := hgw.rows.old obw0 (by omega)
    obtain ⟨x1, w1, c1, ⟨B1, rfl, g1, p1, p2⟩, n1, m1, o1⟩ := call49 (ov := ov) m ho49 y.wv y.W a wb rwv (by omega) (by omega)
    have rrv : RowsV intC w1 y.rv y.R := hgr.rows.old (fun x hx => by rw [o1 x (by omega), obw0 x hx]) (by omega)
    obtain ⟨x2, w2, c2, ⟨B2, rfl, g2, p3, p4⟩, n2, m2, o2⟩ := call49 (ov := ov) m ho49 y.rv y.R r w1 rrv (by omega) (by omega)
    have hlW : (y.W ++ [a]).length = y.W.length + 1 := by simp
    have hlR : (y.R ++ [r]).length = y.R.length + 1 := by simp
    obtain ⟨v', w', hap, hA'⟩ := push17 hn0 hl hA hal (w2 := w2) (fun x hx => by rw [o2 x (by omega), o1 x (by omega), ob x hx]) (by omega) (by omega) (W := y.W ++ [a]) (R := y.R ++ [r]) (B1 := B1) (B2 := B2) (by rw [o2 B1 p2]; exact g1) g2 ⟨by omega, by omega⟩ ⟨by omega, by omega⟩
    rw [hlW, hlR] at hap
    obtain ⟨b, off, sq, c, e3, hra⟩ := (hout).at_ i (List.getElem?_eq_some_iff.1 hy).1
    have hbl : b < w0.next := hra.2
    have lA := hra.rd1 (j := 0) wrC_length hy (x := y.wv) rfl
    have lB := hra.rd1 (j := 1) wrC_length hy (x := y.rv) rfl
    simp only [Nat.add_zero] at lA
    rw [← obw0 b hbl] at lA
    have lB1 := lB
    rw [← obw0 b hbl] at lB1
    have lB2 : rd1O (w1.heap.get b) (off + i * 2 + 1) = some y.rv := by rw [o1 b (by omega)]; exact lB1
    have hia := fun w => ia51 w ⟨b, off, sq⟩ out.length c .i64 i (List.getElem?_eq_some_iff.1 hy).1
    have hib := fun w => ia27 w ⟨w.next, 0, none⟩ 2 2 .i64 k hlt
    have hib' : ∀ w2 : AW, indexAddrA Tryz.prog w2 27 (.slice (some ⟨w.next, 0, none⟩) 2 2) (.int .i64 (k : Nat)) = .val (.pointer (some ⟨w.next, k, none⟩)) w2 := fun w2 => by
      have := ia27 w2 ⟨w.next, 0, none⟩ 2 2 .i64 k hlt
      simpa using this
    have hw1 : IntKind.wrap .i64 ((k : Int) + 1) = (k : Int) + 1 := wrap64_in (by omega) (by omega)
    rw [e3] at t3
    unfold Wr.wv at lA c1
    unfold Wr.rv at lB1 lB2 c2
    simp only [dayC] at g6
    rw [hcs] at hwb
    simp [mc17_l3, t1, t3, t4, t6, t7, t8, t9, hlt', g6, hwb, hib', gwb, hr, hia, lA, lB1, lB2, c1, c2, hap, hw1]
    refine ⟨by omega, ⟨_, hA', ?_⟩, e3.symm, by omega⟩
    rw [List.map_append, hmap, List.take_add_one, hrk, List.append_assoc]
    rfl
  · have hk' : k = 2 := by omega
    subst hk'
    simp [mc17_l3, t9]
    exact hQ _ _ acc (by simpa using hA) (by rw [hmap]; simp [e2]) (by simp [t1]) (by simp [t3]) (by simp [t4]) (by simp [t6]) (by simp [t7]) (by simp [t8])
end Go.Proofs.YtbbbgaiaigdngaaGreatDoor.walk

namespace Go.Proofs.YtbbbgaiaigdngaaGreatDoor.walk
open Go Go.Sh
set_option maxRecDepth 100000
set_option linter.unusedSimpArgs false
set_option linter.unusedVariables false
theorem e1_succ (d : Day) (y : List Int × List Int) (n : Nat) : e1 d y (n + 1) = e1 d y n ++ e2 d y (d.wl + (n : Nat)) := by
  unfold e1
  rw [List.range_succ, List.flatMap_append]
  simp
theorem e1_len (d : Day) (y : List Int × List Int) : ∀ n, (e1 d y n).length = 2 * n
  | 0 => by simp [e1]
  | n + 1 => by rw [e1_succ, List.length_append, e1_len d y n]; simp [e2]; omega
set_option maxHeartbeats 1000000 in
theorem loop17c {ov : Ov} (m : Nat) (ho49 : ∀ args w, ov 49 args w = none) (d : Day) (hw : 0 ≤ d.wl ∧ d.wl ≤ d.wh ∧ d.wh ≤ 50) (w0 : AW) (n0 : Nat) (hn0 : w0.next = n0 + 1) (hl : w0.lim ≤ n0) (nb : Nat) (hnb : nb < w0.next) (gd : w0.heap.get nb = some (.cells (dayC d) 49 false)) (v3 : Value) (out : List Wr) (hout : RowsV wrC w0 v3 out) (B3 : Nat) (i : Nat) (y : Wr) (hy : out[i]? = some y) (hgw : GoodB w0 B3 y.wv y.W) (hgr : GoodB w0 B3 y.rv y.R) (hyl : y.W.length ≤ 900 ∧ y.R.length ≤ 900) (acc0 : List Wr) (hacc0 : acc0.length ≤ 70000) (v4 t4' : Value)
    (Q : Ex → Tm → AW → Prop) (t : Tm) (w : AW) (hA : Acc17 w0 n0 w (tget t 5) acc0) (t1 : tget t 1 = v4) (t3 : tget t 3 = v3) (t4 : tget t 4 = t4') (t6 : tget t 6 = .pointer (some ⟨nb, 0, none⟩)) (t7 : tget t 7 = .int .i64 (i : Nat)) (t8 : tget t 8 = .int .i64 d.wl)
    (hQ : ∀ t w acc, Acc17 w0 n0 w (tget t 5) acc → acc.map prW = acc0.map prW ++ e1 d (prW y) (d.wh - d.wl + 1).toNat → tget t 1 = v4 → tget t 3 = v3 → tget t 4 = t4' → tget t 6 = .pointer (some ⟨nb, 0, none⟩) → tget t 7 = .int .i64 (i : Nat) → Q (.exit 4) t w) : wp (exM Tryz.prog (run Tryz.prog ov (m + 1)) (.loop mc17_l2) t w) Q := by
  obtain ⟨N, hN⟩ : ∃ N, N = (d.wh - d.wl + 1).toNat := ⟨_, rfl⟩
  refine wp_rounds (fun k t w => (∃ acc, Acc17 w0 n0 w (tget t 5) acc ∧ acc.map prW = acc0.map prW ++ e1 d (prW y) k) ∧ tget t 1 = v4 ∧ tget t 3 = v3 ∧ tget t 4 = t4' ∧ tget t 6 = .pointer (some ⟨nb, 0, none⟩) ∧ tget t 7 = .int .i64 (i : Nat) ∧ tget t 8 = .int .i64 (d.wl + (k : Nat)) ∧ k ≤ N) 200 (by decide) ⟨⟨acc0, hA, by simp [e1]⟩, t1, t3, t4, t6, t7, by simpa using t8, by omega⟩ ?_
  clear t1 t3 t4 t6 t7 t8 hA
  rintro k t w ⟨⟨acc, hA, hmap⟩, t1, t3, t4, t6, t7, t8, hk⟩
  obtain ⟨ho, hnx, hlm, _⟩ := id hA
  have g6 : w.heap.get nb = some (.cells (dayC d) 49 false) := by rw [ho nb hnb]; exact gd
  simp only [dayC] at g6
  obtain ⟨a, ha⟩ : ∃ a, a = d.wl + (k : Int) := ⟨_, rfl⟩
  rw [← ha] at t8
  have hw1 : IntKind.wrap .i64 (a + 1) = d.wl + ((k + 1 : Nat) : Int) := by rw [wrap64_in (by omega) (by omega)]; omega
  by_cases hlt : k < N
  · have hle : a ≤ d.wh := by omega
    have hal : acc.length ≤ 80000 := by
      have := congrArg List.length hmap
      rw [List.length_map, List.length_append, List.length_map, e1_len] at this
      omega
    simp [mc17_l2, t6, t8, g6, hle]
    refine wp_seqX (wp_blockX (wp_blockX (loop17d (ov := ov) m ho49 d w0 n0 hn0 hl nb hnb gd v3 out hout B3 i y hy hgw hgr hyl a acc hal v4 _ _ w (by simpa using hA) ?_ ?_ t4' ?_ ?_ ?_ ?_ ?_ ?_)))
    case _ => simp [t1]
    case _ => simp [t3]
    case _ => simp [t4]
    case _ => simp [t6]
    case _ => simp [t7]
    case _ => simp [t8]
    case _ => simp
    case _ =>
      intro t w' acc' hA' hmap' t1 t3 t4 t6 t7 t8
      simp [t1, t3, t4, t6, t7, t8, hw1]
      refine ⟨by omega, ⟨acc', hA', ?_⟩, hlt⟩
      rw [hmap', hmap, e1_succ, List.append_assoc, ha]
  · have hk' : k = N := by omega
    subst hk'
    have hle : ¬ a ≤ d.wh := by omega
    simp [mc17_l2, t6, t8, g6, hle]
    exact hQ _ _ acc (by simpa using hA) (by rw [hmap, hN]) (by simp [t1]) (by simp [t3]) (by simp [t4]) (by simp [t6]) (by simp [t7])
end Go.Proofs.YtbbbgaiaigdngaaGreatDoor.walk

namespace Go.Proofs.YtbbbgaiaigdngaaGreatDoor.walk
open Go Go.Sh
set_option maxRecDepth 100000
set_option linter.unusedSimpArgs false
set_option linter.unusedVariables false
theorem e0_take {d : Day} {o : List (List Int × List Int)} {i : Nat} {y : List Int × List Int} (h : o[i]? = some y) : e0 d (o.take (i + 1)) = e0 d (o.take i) ++ e1 d y (d.wh - d.wl + 1).toNat := by
  unfold e0
  rw [List.take_add_one, h, List.flatMap_append]
  simp
theorem e0_len (d : Day) (o : List (List Int × List Int)) : (e0 d o).length = o.length * (2 * (d.wh - d.wl + 1).toNat) := by
  unfold e0
  induction o with
  | nil => simp
  | cons y o ih => rw [List.flatMap_cons, List.length_append, e1_len, ih, List.length_cons, Nat.add_mul, Nat.one_mul, Nat.add_comm]
theorem len51V {w0 : AW} {v : Value} {l : List Wr} (h : RowsV wrC w0 v l) (w : AW) : lenB Tryz.prog w 51 v = .val (.int .i64 (l.length : Nat)) w := by
  obtain ⟨a, c, rfl⟩ := h.len
  simp
set_option maxHeartbeats 1000000 in
theorem loop17b {ov : Ov} (m : Nat) (ho49 : ∀ args w, ov 49 args w = none) (d : Day) (hw : 0 ≤ d.wl ∧ d.wl ≤ d.wh ∧ d.wh ≤ 50) (w0 : AW) (n0 : Nat) (hn0 : w0.next = n0 + 1) (hl : w0.lim ≤ n0) (nb : Nat) (hnb : nb < w0.next) (gd : w0.heap.get nb = some (.cells (dayC d) 49 false)) (v3 : Value) (out : List Wr) (hout : RowsV wrC w0 v3 out) (B3 : Nat) (hgo : goodL w0 B3 out) (hyl : ∀ y ∈ out, y.W.length ≤ 900 ∧ y.R.length ≤ 900) (hbig : out.length * 102 ≤ 60000) (v4 t4' : Value)
    (Q : Ex → Tm → AW → Prop) (t : Tm) (w : AW) (hA : Acc17 w0 n0 w (tget t 5) []) (t1 : tget t 1 = v4) (t3 : tget t 3 = v3) (t4 : tget t 4 = t4') (t6 : tget t 6 = .pointer (some ⟨nb, 0, none⟩)) (t7 : tget t 7 = .int .i64 0)
    (hQ : ∀ t w acc, Acc17 w0 n0 w (tget t 5) acc → acc.map prW = e0 d (out.map prW) → tget t 1 = v4 → tget t 4 = t4' → Q (.exit 2) t w) : wp (exM Tryz.prog (run Tryz.prog ov (m + 1)) (.loop mc17_l1) t w) Q := by
  refine wp_rounds (fun k t w => (∃ acc, Acc17 w0 n0 w (tget t 5) acc ∧ acc.map prW = e0 d ((out.map prW).take k)) ∧ tget t 1 = v4 ∧ tget t 3 = v3 ∧ tget t 4 = t4' ∧ tget t 6 = .pointer (some ⟨nb, 0, none⟩) ∧ tget t 7 = .int .i64 (k : Nat) ∧ k ≤ out.length) 1000 (by decide) ⟨⟨[], hA, by simp [e0]⟩, t1, t3, t4, t6, by simpa using t7, by omega⟩ ?_
  clear t1 t3 t4 t6 t7 hA
  rintro k t w ⟨⟨acc, hA, hmap⟩, t1, t3, t4, t6, t7, hk⟩
  obtain ⟨ho, hnx, hlm, _⟩ := id hA
  have g6 : w.heap.get nb = some (.cells (dayC d) 49 false) := by rw [ho nb hnb]; exact gd
  simp only [dayC] at g6
  have hla := len51V hout
  have hw1 : IntKind.wrap .i64 ((k : Int) + 1) = (k : Int) + 1 := wrap64_in (by omega) (by omega)
  by_cases hlt : k < out.length
  · have hlt' : (k : Int) < (out.length : Int) := by omega
    obtain ⟨y, hy⟩ : ∃ y, out[k]? = some y := ⟨_, List.getElem?_eq_getElem hlt⟩
    have hym := List.mem_of_getElem? hy
    have hyp : (out.map prW)[k]? = some (prW y) := by rw [List.getElem?_map, hy]; rfl
    have hal : acc.length ≤ 70000 := by
      have := congrArg List.length hmap
      rw [List.length_map, e0_len, List.length_take, List.length_map] at this
      have h1 : min k out.length * (2 * (d.wh - d.wl + 1).toNat) ≤ out.length * 102 := Nat.mul_le_mul (by omega) (by omega)
      omega
    simp [mc17_l1, t3, t6, t7, hla, hlt', g6]
    refine wp_seqX (wp_blockX (wp_blockX (loop17c (ov := ov) m ho49 d hw w0 n0 hn0 hl nb hnb gd v3 out hout B3 k y hy (hgo y hym).1 (hgo y hym).2 (hyl y hym) acc hal v4 t4' _ _ w (by simpa using hA) ?_ ?_ ?_ ?_ ?_ ?_ ?_)))
    case _ => simp [t1]
    case _ => simp [t3]
    case _ => simp [t4]
    case _ => simp [t6]
    case _ => simp [t7]
    case _ => simp
    case _ =>
      intro t w' acc' hA' hmap' t1 t3 t4 t6 t7
      simp [t1, t3, t4, t6, t7, hw1]
      refine ⟨by omega, ⟨acc', hA', ?_⟩, hlt⟩
      rw [hmap', hmap, ← List.map_take, ← List.map_take, List.map_take, List.map_take, e0_take hyp]
  · have hk' : k = out.length := by omega
    subst hk'
    simp [mc17_l1, t3, t7, hla]
    exact hQ _ _ acc (by simpa using hA) (by rw [hmap, List.take_of_length_le (by simp)]) (by simp [t1]) (by simp [t4])
end Go.Proofs.YtbbbgaiaigdngaaGreatDoor.walk

namespace Go.Proofs.YtbbbgaiaigdngaaGreatDoor.walk
open Go Go.Sh
set_option maxRecDepth 100000
set_option linter.unusedSimpArgs false
set_option linter.unusedVariables false
/-- truths in memory -/
def OutV (w : AW) (v : Value) (o : List (List Int × List Int)) : Prop := ∃ out B, RowsV wrC w v out ∧ goodL w B out ∧ out.map prW = o
theorem OutV.move {w w' : AW} {v : Value} {o : List (List Int × List Int)} (h : OutV w v o) (ho : ∀ x, x < w.next → w'.heap.get x = w.heap.get x) (hn : w.next ≤ w'.next) : OutV w' v o := by
  obtain ⟨out, B, h1, h2, h3⟩ := h
  exact ⟨out, w.next, h1.old ho hn, fun y hy => ⟨(h2 y hy).1.move (fun x hx _ => ho x hx) hn (Nat.le_refl _), (h2 y hy).2.move (fun x hx _ => ho x hx) hn (Nat.le_refl _)⟩, h3⟩
set_option maxHeartbeats 1000000 in
theorem loop17a {ov : Ov} (m : Nat) (ho49 : ∀ args w, ov 49 args w = none) (s : Sea) (dv cv : Value) (l : List Day) (h40 : l.length ≤ 40) (hday : ∀ (i : Nat) d, l[i]? = some d → dayB d = true) (hsz : ∀ k, k < l.length → (edL l k).length ≤ 588) (ws : AW) (hls : ws.lim ≤ ws.next) (hv : RowsV dayC ws dv l) (ns : Nat) (hns : ns < ws.next) (gs : ws.heap.get ns = some (.cells (seaC s dv cv) 29 false))
    (Q : Ex → Tm → AW → Prop) (t : Tm) (t1 : tget t 1 = .pointer (some ⟨ns, 0, none⟩)) (t3 : OutV ws (tget t 3) (edL l 0)) (t4 : tget t 4 = .int .i64 0)
    (hQ : ∀ t w, Ol ws w → OutV w (tget t 3) (edL l l.length) → Q (.exit 0) t w) : wp (exM Tryz.prog (run Tryz.prog ov (m + 1)) (.loop mc17_l0) t ws) Q := by
  refine wp_rounds (fun k t w => Ol ws w ∧ OutV w (tget t 3) (edL l k) ∧ tget t 1 = .pointer (some ⟨ns, 0, none⟩) ∧ tget t 4 = .int .i64 (k : Nat) ∧ k ≤ l.length) 100 (by decide) ⟨Ol.refl _, t3, t1, by simpa using t4, by omega⟩ ?_
  clear t1 t3 t4
  rintro k t w ⟨hO, hout, t1, t4, hk⟩
  have hnx := hO.next
  have hlm := hO.lim
  have g := hO.old ns hns
  rw [gs] at g
  simp only [seaC] at g
  have hl22 := len22V hv
  have hw1 : IntKind.wrap .i64 ((k : Int) + 1) = (k : Int) + 1 := wrap64_in (by omega) (by omega)
  by_cases hlt : k < l.length
  · have hlt' : (k : Int) < (l.length : Int) := by omega
    obtain ⟨d, hd⟩ : ∃ d, l[k]? = some d := ⟨_, List.getElem?_eq_getElem hlt⟩
    have hdb := hday k d hd
    simp only [dayB, Bool.and_eq_true] at hdb
    have hsp := span_le hdb.1
    obtain ⟨b, off, sq, c, rfl, hra⟩ := (hv.old hO.old hnx).at_ k hlt
    have hld := hra.rd (m := 4) (fun _ => by simp [dayC]) hd
    have hia := fun w => ia22 w ⟨b, off, sq⟩ l.length c .i64 k hlt
    obtain ⟨w0, hw0⟩ : ∃ w0, (⟨(w.heap.put w.next (some (.cells [.int .i64 0, .int .i64 0, .int .i64 0, .int .i64 0] 49 false))).put w.next (some (.cells (dayC d) 49 false)), w.next + 1, w.lim⟩ : AW) = w0 := ⟨_, rfl⟩
    have n0 : w0.next = w.next + 1 := by rw [← hw0]
    have m0 : w0.lim = w.lim := by rw [← hw0]
    have o0 : ∀ x, x < w.next → w0.heap.get x = w.heap.get x := fun x hx => by
      rw [← hw0]
      show ((w.heap.put w.next _).put w.next _).get x = _
      rw [get_put, if_neg (by omega), get_put, if_neg (by omega)]
    have gd : w0.heap.get w.next = some (.cells (dayC d) 49 false) := by
      rw [← hw0]
      show ((w.heap.put w.next _).put w.next _).get w.next = _
      rw [get_put, if_pos rfl]
    obtain ⟨out, B3, ho1, ho2, ho3⟩ := hout.move o0 (by omega)
    have hle : out.length = (edL l k).length := by rw [← ho3, List.length_map]
    have hs588 := hsz k hlt
    have sD : ∀ w5 : AW, w5.lim ≤ w.next → wrO w5 w.next 0 (dayC d) (some (.cells [.int .i64 0, .int .i64 0, .int .i64 0, .int .i64 0] 49 false)) = some ⟨w5.heap.put w.next (some (.cells (dayC d) 49 false)), w5.next, w5.lim⟩ := fun w5 h => by rw [wrO_cells (by simp [dayC]) h (by simp [dayC])]; rfl
    have l0 : w.lim ≤ w.next := by omega
    simp only [dayC] at hld sD hw0
    simp [mc17_l0, t1, t4, g, hl22, hlt', hia, hld, sD, l0, -wrO_cells]
    rw [hw0]
    refine wp_seqX (wp_blockX (wp_seqX (wp_blockX (loop17b (ov := ov) m ho49 d hsp w0 w.next n0 (by omega) w.next (by omega) gd (tget t 3) out ho1 B3 ho2 (fun y hy => ?_) (by omega) (.pointer (some ⟨ns, 0, none⟩)) (.int .i64 (k : Nat)) _ _ w0 ?_ ?_ ?_ ?_ ?_ ?_ ?_))))
    case _ =>
      have hm : (y.W, y.R) ∈ edL l k := by rw [← ho3]; exact List.mem_map_of_mem (f := prW) hy
      obtain ⟨q1, q2, _⟩ := (edL_mem l k (by omega) _ _).1 hm
      omega
    case _ => exact ⟨fun _ _ => rfl, Nat.le_refl _, rfl, 0, .inl ⟨rfl, by simp⟩, fun y hy => by simp at hy⟩
    case _ => simp [t1]
    case _ => simp
    case _ => simp [t4]
    case _ => simp
    case _ => simp
    case _ =>
      intro t w2 acc hA hmap t1 t4
      obtain ⟨q1, q2, q3, B, q4, q5⟩ := hA
      simp [t1, t4, hw1]
      refine ⟨by omega, ⟨fun x hx => ?_, by omega, by omega⟩, ⟨acc, B, q4.rows, q5, ?_⟩, hlt⟩
      · rw [q1 x (by omega), o0 x (by omega)]
        exact hO.old x hx
      · rw [hmap, ho3]
        show _ = (match l[k]? with | some d => e0 d (edL l k) | none => edL l k)
        rw [hd]
  · have hk' : k = l.length := by omega
    subst hk'
    simp [mc17_l0, t1, t4, g, hl22]
    exact hQ _ _ hO (by simpa using hout)
theorem call17 {ov : Ov} (m : Nat) (ho : ∀ args w, ov 17 args w = none) (ho49 : ∀ args w, ov 49 args w = none) (s : Sea) (dv cv : Value) (l : List Day) (h40 : l.length ≤ 40) (hday : ∀ (i : Nat) d, l[i]? = some d → dayB d = true) (hsz : ∀ k, k < l.length → (edL l k).length ≤ 588) (w : AW) (hls : w.lim ≤ w.next) (hv : RowsV dayC w dv l) :
    ∃ v w', (run Tryz.prog ov (m + 2)).call 17 [.agg ⟨seaC s dv cv⟩] w .none = .ok (.ret v) w' .none ∧ OutV w' v (edL l l.length) ∧ Ol w w' := by
  refine call_wp text17 (by simp) (ho _ _) ?_
  obtain ⟨w1, hw1⟩ : ∃ w1, (⟨(w.heap.put w.next (some (.cells (seaC s dv cv) 29 false))).put (w.next + 1) (some (.cells [.slice none 0 0, .slice none 0 0] 41 false)), w.next + 1 + 1, w.lim⟩ : AW) = w1 := ⟨_, rfl⟩
  have o1 : ∀ x, x < w.next → w1.heap.get x = w.heap.get x := fun x hx => by
    rw [← hw1]
    show ((w.heap.put w.next _).put (w.next + 1) _).get x = _
    rw [get_put, if_neg (by omega), get_put, if_neg (by omega)]
  have n1 : w1.next = w.next + 1 + 1 := by rw [← hw1]
  have m1 : w1.lim = w.lim := by rw [← hw1]
  have gs : w1.heap.get w.next = some (.cells (seaC s dv cv) 29 false) := by
    rw [← hw1]
    show ((w.heap.put w.next _).put (w.next + 1) _).get w.next = _
    rw [get_put, if_neg (by omega), get_put, if_pos rfl]
  have gw : w1.heap.get (w.next + 1) = some (.cells [.slice none 0 0, .slice none 0 0] 41 false) := by
    rw [← hw1]
    show ((w.heap.put w.next _).put (w.next + 1) _).get (w.next + 1) = _
    rw [get_put, if_pos rfl]
  have hO1 : Ol w w1 := ⟨o1, by omega, m1⟩
  have h0 : OutV w1 (.slice (some ⟨w.next + 1, 0, none⟩) 1 1) (edL l 0) := ⟨[⟨none, 0, 0, none, 0, 0, [], []⟩], w1.next, .inr ⟨w.next + 1, 0, none, 1, rfl, ⟨[], [], 41, false, by rw [gw]; rfl, rfl⟩, by omega⟩, fun y hy => by
    rw [List.mem_singleton.1 hy]
    exact ⟨.inl ⟨rfl, rfl⟩, .inl ⟨rfl, rfl⟩⟩, rfl⟩
  have key := fun Q t => loop17a (ov := ov) m ho49 s dv cv l h40 hday hsz w1 (by omega) (hv.old o1 (by omega)) w.next (by omega) gs Q t
  simp only [seaC] at hw1
  simp [mc17, cellsOf_agg, seaC]
  rw [hw1]
  refine wp_seqX (wp_blockX (key _ _ ?_ ?_ ?_ ?_))
  case _ => simp
  case _ => simpa using h0
  case _ => simp
  case _ =>
    intro t w2 hO2 hout
    have nj : notJunk (tget t 3) = some (tget t 3) := by
      obtain ⟨out, B, h1, _⟩ := hout
      obtain ⟨a, c, e⟩ := h1.len
      rw [e]; rfl
    simp [nj, tupV]
    exact ⟨hout, ⟨fun x hx => by rw [hO2.old x (by omega)]; exact o1 x hx, by have := hO2.next; omega, by have := hO2.lim; omega⟩⟩
end Go.Proofs.YtbbbgaiaigdngaaGreatDoor.walk
