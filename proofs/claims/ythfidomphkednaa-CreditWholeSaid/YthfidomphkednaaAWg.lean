/- Part of a proof by a machine of ones own: see the text with the theorem. -/
import Derived.Test.YthfidomphkednaaAWf
namespace Go.Proofs.Ythfidomphkednaa.walk
open Go Go.Sh
set_option maxRecDepth 100000
set_option linter.unusedSimpArgs false
set_option linter.unusedVariables false
/-! Share -/
def shrA (P : List Int) : Bool := inI 1 P.length 8 && P.all fun z => inI 0 z 1000
def shrB (P : List Int) : Bool := shrA P && decide (0 < totL P)
theorem shA_tot {P : List Int} (h : shrA P = true) : totW P = totL P := by
  simp only [shrA, inI, Bool.and_eq_true, decide_eq_true_eq, List.all_eq_true] at h
  exact totW_eq (fun z hz => by have := h.2 z hz; omega) (by omega)
def S58 : PSpec where
  R args w v := ∃ (a : Value) (P : List Int), args = [a] ∧ RowsV intC w a P ∧ P.length ≤ 2 ^ 60 ∧ v = .bool (shrB P)
  uniq := by
    rintro _ _ _ _ ⟨a, U, rfl, h1, _, rfl⟩ ⟨a', U', e, k1, _, rfl⟩
    cases e
    rw [h1.uniq (m := 1) intC_length intC_inj k1]
  shut h := h
theorem run58 {ov : Ov} (ho : ∀ args w, ov 58 args w = none) (h57 : HasP ov 57 S32.F) (h62 : HasP ov 62 S62.F) (P : List Int) (hlen : P.length ≤ 2 ^ 60) (a : Value) (w : AW) (hv : RowsV intC w a P) : ∃ y w', (run Try.prog ov 2).call 58 [a] w .none = .ok (.ret y) w' .none ∧ y = .bool (shrB P) := by
  refine call_wp text58 (by simp) (ho _ _) ?_
  have hla := fun w2 => len26V (w' := w2) hv
  have r57 := fun (n a b : Int) (w : AW) => S32.call1 (P := Try.prog) h57 (w := w) ⟨n, a, b, rfl, rfl⟩
  cases hI : inI 1 (P.length : Int) 8 with
  | false =>
    have e : shrB P = false := by unfold shrB shrA; rw [hI]; rfl
    simp [mc58, hla, r57, hI, tupV, e]
  | true =>
    have hI' := hI
    simp only [inI, Bool.and_eq_true, decide_eq_true_eq] at hI'
    simp [mc58, hla, r57, hI]
    refine wp_seqX (wp_blockX (wp_rounds (fun i t w' => w' = w ∧ tget t 0 = a ∧ tget t 9 = a ∧ tget t 10 = .int .i64 (P.length : Nat) ∧ tget t 11 = .int .i64 (i : Nat) ∧ i ≤ P.length ∧ (∀ j z, j < i → P[j]? = some z → inI 0 z 1000 = true)) 20 (by decide) ⟨rfl, by simp, by simp, by simp, by simp, by omega, fun j z h => by omega⟩ ?_))
    rintro i t w' ⟨rfl, t0, t9, t10, t11, hi, hall⟩
    by_cases hlt : i < P.length
    · have hlt' : (i : Int) < (P.length : Int) := by omega
      obtain ⟨z, hz⟩ : ∃ z, P[i]? = some z := ⟨_, List.getElem?_eq_getElem hlt⟩
      obtain ⟨b1, o1, s1, c1, rfl, ld1, ia1⟩ := row_ld hv hz
      have hw1' : IntKind.wrap .i64 ((i : Int) + 1) = (i : Int) + 1 := wrap64_in (by omega) (by omega)
      cases hc : inI 0 z 1000 with
      | false =>
        have e : shrB P = false := by
          have : (P.all fun z => inI 0 z 1000) = false := by
            rw [List.all_eq_false]
            exact ⟨z, List.mem_of_getElem? hz, by rw [hc]; decide⟩
          unfold shrB shrA; rw [this, Bool.and_false]; rfl
        simp [mc58_l0, t0, t9, t10, t11, hlt', ia1, ld1, r57, hc, tupV, e]
      | true =>
        simp [mc58_l0, t0, t9, t10, t11, hlt', ia1, ld1, r57, hc, hw1']
        refine ⟨by omega, hlt, fun j y hj hy => ?_⟩
        rcases Nat.lt_succ_iff_lt_or_eq.1 hj with h | rfl
        · exact hall j y h hy
        · rw [hz] at hy; cases hy; exact hc
    · have hi' : i = P.length := by omega
      subst hi'
      have hA : shrA P = true := by
        unfold shrA
        rw [hI, Bool.true_and, List.all_eq_true]
        intro z hz
        obtain ⟨j, hj⟩ := List.getElem?_of_mem hz
        exact hall j z (List.getElem?_eq_some_iff.1 hj).1 hj
      have r62 := S62.call1 (P := Try.prog) h62 (w := w') ⟨a, P, rfl, hv, hlen, rfl⟩
      rw [shA_tot hA] at r62
      have e : shrB P = decide (0 < totL P) := by unfold shrB; rw [hA]; rfl
      simp [mc58_l0, t0, t9, t10, t11, r62, tupV, e]
def shrE (S : Int) (P : List Int) : Int := if inI 0 S 1000000 = true then (if shrB P = true then 0 else 92) else 7
theorem sh_ok {S : Int} {P : List Int} (h : shrE S P = 0) : ShOk P.length S (totL P) (liF P) := by
  unfold shrE at h
  split at h
  · rename_i h1
    split at h
    · rename_i h2
      simp only [shrB, shrA, inI, Bool.and_eq_true, decide_eq_true_eq, List.all_eq_true] at h1 h2
      refine ⟨by omega, by omega, h1, fun k hk => ?_, ?_, by omega⟩
      · obtain ⟨z, hz⟩ : ∃ z, P[k]? = some z := ⟨_, List.getElem?_eq_getElem hk⟩
        rw [liF_at hz]
        exact h2.1.2 z (List.mem_of_getElem? hz)
      · rw [← totL_ls, payV_rows]
    · cases h
  · cases h
theorem call28 {ov : Ov} (m : Nat) (ho : ∀ args w, ov 28 args w = none) (ho59 : ∀ args w, ov 59 args w = none) (ho72 : ∀ args w, ov 72 args w = none) (ho78 : ∀ args w, ov 78 args w = none) (ho84 : ∀ args w, ov 84 args w = none) (h57 : HasP ov 57 S32.F) (h58 : HasP ov 58 S58.F) (h62 : HasP ov 62 S62.F) (h73 : HasP ov 73 S73.F) (h79 : HasP ov 79 S93.F) (S : Int) (P : List Int) (hlen : P.length ≤ 2 ^ 60) (av : Value) (w : AW) (hl : w.lim ≤ w.next) (hv : RowsV intC w av P) :
    ∃ v w', (run Try.prog ov (m + 6)).call 28 [.int .i64 S, av] w .none = .ok (.ret v) w' .none ∧ (∃ v1 U, v = .tuple ⟨[v1, .int .i64 (shrE S P)]⟩ ∧ RowsV intC w' v1 U ∧ (shrE S P = 0 → ShG P.length S (totL P) (liF P) U) ∧ (shrE S P ≠ 0 → U = [])) ∧ Up w w' := by
  refine call_wp text28 (by simp) (ho _ _) ?_
  have nn : notJunk (.slice none 0 0) = some (.slice none 0 0) := rfl
  have r57 := fun (n a b : Int) (w : AW) => S32.call (P := Try.prog) h57 (m := m + 4) (w := w) ⟨n, a, b, rfl, rfl⟩
  have r58 := S58.call (P := Try.prog) h58 (m := m + 4) (w := w) ⟨av, P, rfl, hv, hlen, rfl⟩
  have hnil : ∀ w : AW, RowsV intC w (.slice none 0 0) [] := fun _ => .inl ⟨rfl, _, _, rfl⟩
  cases hI : inI 0 S 1000000 with
  | false =>
    have e : shrE S P = 7 := by unfold shrE; rw [hI]; rfl
    simp [mc28, r57, hI, nn, tupV, e]
    exact ⟨hnil _, Up.refl _⟩
  | true =>
    cases hB : shrB P with
    | false =>
      have e : shrE S P = 92 := by unfold shrE; rw [hI, hB]; rfl
      rw [hB] at r58
      simp [mc28, r57, r58, hI, nn, tupV, e]
      exact ⟨hnil _, Up.refl _⟩
    | true =>
      have e : shrE S P = 0 := by unfold shrE; rw [hI, hB]; rfl
      rw [hB] at r58
      have hv' : RowsV intC w av (lsF P.length (liF P)) := by rw [payV_rows]; exact hv
      obtain ⟨v, w', c59, ⟨U, hU, hG⟩, u, nj⟩ := call59 (ov := ov) m ho59 ho72 ho78 ho84 h62 h73 h79 P.length S (totL P) (liF P) (sh_ok e) av w hl hv'
      simp [mc28, r57, r58, hI, c59, nj, tupV, e]
      exact ⟨⟨U, hU, hG⟩, u⟩
end Go.Proofs.Ythfidomphkednaa.walk

namespace Go.Proofs.Ythfidomphkednaa.walk
open Go Go.Sh
set_option maxRecDepth 100000
set_option linter.unusedSimpArgs false
set_option linter.unusedVariables false
set_option linter.unusedSectionVars false
/-! CreditWhole: numbers -/
theorem sN_upd (f : Int → Int) (k : Nat) (v : Int) : ∀ n : Nat, sN (fun j => updF f (k : Int) v (j : Int)) n = sN (fun j => f (j : Int)) n + (if k < n then v - f (k : Int) else 0)
  | 0 => by simp [sN]
  | n + 1 => by
    have ih := sN_upd f k v n
    simp only [sN]
    rw [ih]
    unfold updF
    by_cases h : k < n
    · rw [if_pos h, if_neg (show ¬ (n : Int) = (k : Int) by omega), if_pos (show k < n + 1 by omega)]; omega
    · by_cases h' : k = n
      · subst h'
        rw [if_neg h, if_pos rfl, if_pos (Nat.lt_succ_self _)]; omega
      · rw [if_neg h, if_neg (show ¬ (n : Int) = (k : Int) by omega), if_neg (show ¬ k < n + 1 by omega)]; omega
theorem totL_perm {U V : List Int} (h : U.Perm V) : totL U = totL V := by
  induction h with
  | nil => rfl
  | cons a _ ih => simp only [totL]; omega
  | swap a b l => simp only [totL]; omega
  | trans _ _ i1 i2 => omega
theorem taken_iff {L : List Sr} {d : Nat} {p : Int} : p ∈ (L.take d).map Sr.a ↔ ∃ (i : Nat) (s : Sr), i < d ∧ L[i]? = some s ∧ s.a = p := by
  rw [List.mem_map]
  constructor
  · rintro ⟨s, hs, rfl⟩
    obtain ⟨i, hi⟩ := List.getElem?_of_mem hs
    have hid : i < d := by
      have := (List.getElem?_eq_some_iff.1 hi).1
      rw [List.length_take] at this; omega
    rw [List.getElem?_take_of_lt hid] at hi
    exact ⟨i, s, hid, hi, rfl⟩
  · rintro ⟨i, s, hid, hi, rfl⟩
    exact ⟨s, List.mem_of_getElem? (i := i) (by rw [List.getElem?_take_of_lt hid]; exact hi), rfl⟩
section
variable {n : Nat} {S W : Int} {x : Int → Int} (hS : ShOk n S W x) {L : List Sr} (hp : L.Perm (srL n (reF S W x))) (hs : SortTo keyS L n) {d : Nat} (hd : (d : Int) = S - totL (lsF n (quF S W x))) (hdn : d < n)
include hS hp hs hd hdn
theorem up_tot : totL (lsF n (upT (quF S W x) L d)) = S := by
  have hlen : L.length = n := by rw [hp.length_eq, srL_len]
  have hnd : (L.map Sr.a).Nodup := (hp.map Sr.a).nodup_iff.2 (srL_nodup n _)
  have key : ∀ i, i ≤ d → sN (fun k => upT (quF S W x) L i (k : Int)) n = sN (fun k => quF S W x (k : Int)) n + (i : Int) := by
    intro i
    induction i with
    | zero => intro _; rw [upT_zero]; simp
    | succ i ih =>
      intro hi
      have h1 := ih (by omega)
      obtain ⟨s, hs'⟩ : ∃ s, L[i]? = some s := ⟨_, List.getElem?_eq_getElem (by omega)⟩
      have hin := srL_mem (hp.mem_iff.1 (List.mem_of_getElem? hs'))
      obtain ⟨k, hk⟩ : ∃ k : Nat, s.a = (k : Int) := ⟨s.a.toNat, by omega⟩
      have st := upT_step (g := quF S W x) hs' hnd
      rw [hk] at st
      rw [← st, sN_upd, if_pos (by omega), h1]
      omega
  have := key d (Nat.le_refl _)
  rw [totL_ls] at hd ⊢
  rw [this]
  omega
theorem pick_pos {i : Nat} {s : Sr} (hi : i < d) (h : L[i]? = some s) : 1 ≤ reF S W x s.a := by
  have hlen : L.length = n := by rw [hp.length_eq, srL_len]
  have hin := srL_mem (hp.mem_iff.1 (List.mem_of_getElem? h))
  have h8 := hS.n8
  have hw := hS.w1
  obtain ⟨k, hk⟩ : ∃ k : Nat, s.a = (k : Int) := ⟨s.a.toNat, by omega⟩
  have hre := hS.re (k := k) (by omega)
  rw [← hk] at hre
  by_cases hc : 1 ≤ reF S W x s.a
  · exact hc
  · exfalso
    have h0 : s.r = 0 := by rw [hin.2]; omega
    have e1 : totL (L.map Sr.r) = W * (d : Int) := by
      rw [totL_perm (hp.map Sr.r)]
      have : (srL n (reF S W x)).map Sr.r = lsF n (reF S W x) := by
        unfold srL lsF
        rw [List.map_map]; rfl
      rw [this, totL_ls, ← hS.left, hd]
    have e2 : L.map Sr.r = (L.take i).map Sr.r ++ (L.drop i).map Sr.r := by rw [← List.map_append, List.take_append_drop]
    have b1 := (totL_in (l := (L.take i).map Sr.r) (M := W - 1) fun z hz => by
      obtain ⟨u, hu, rfl⟩ := List.mem_map.1 hz
      have hu' := srL_mem (hp.mem_iff.1 (List.mem_of_mem_take hu))
      obtain ⟨q, hq⟩ : ∃ q : Nat, u.a = (q : Int) := ⟨u.a.toNat, by omega⟩
      have := hS.re (k := q) (by omega)
      rw [hu'.2, hq]
      exact this).2
    have b2 := (totL_in (l := (L.drop i).map Sr.r) (M := 0) fun z hz => by
      obtain ⟨u, hu, rfl⟩ := List.mem_map.1 hz
      obtain ⟨j, hj⟩ := List.getElem?_of_mem hu
      rw [List.getElem?_drop] at hj
      have hu' := srL_mem (hp.mem_iff.1 (List.mem_of_getElem? hj))
      have hjn : i + j < n := by have := (List.getElem?_eq_some_iff.1 hj).1; omega
      obtain ⟨q, hq⟩ : ∃ q : Nat, u.a = (q : Int) := ⟨u.a.toNat, by omega⟩
      have hr0 := (hS.re (k := q) (by omega)).1
      rw [← hq, ← hu'.2] at hr0
      rcases Nat.eq_zero_or_pos j with rfl | hjp
      · rw [Nat.add_zero, h] at hj
        cases hj
        omega
      · have := hs i (i + j) s u (by omega) hjn h hj
        unfold keyS at this
        omega).2
    have hl1 : ((L.take i).map Sr.r).length = i := by rw [List.length_map, List.length_take]; omega
    rw [hl1] at b1
    rw [e2, totL_app] at e1
    have h3 : W * ((i : Int) + 1) ≤ W * (d : Int) := Int.mul_le_mul_of_nonneg_left (by omega) (by omega)
    have h4 : W * ((i : Int) + 1) = W * (i : Int) + W := by rw [Int.mul_add]; omega
    have h5 : (W - 1) * (i : Int) = W * (i : Int) - (i : Int) := by rw [Int.sub_mul]; omega
    have h6 : (0 : Int) * ((L.drop i).map Sr.r).length = 0 := Int.zero_mul _
    omega
/-- what comes first in the order gets no less -/
theorem up_le {p q : Nat} (hpn : p < n) (hqn : q < n) (h : S * x (q : Int) < S * x (p : Int) ∨ (S * x (q : Int) = S * x (p : Int) ∧ p < q)) : upT (quF S W x) L d (q : Int) ≤ upT (quF S W x) L d (p : Int) := by
  have hlen : L.length = n := by rw [hp.length_eq, srL_len]
  have h8 := hS.n8
  have hw := hS.w1
  have dp := sh_dv S W x p
  have dq := sh_dv S W x q
  have hle : quF S W x (q : Int) ≤ quF S W x (p : Int) := Int.ediv_le_ediv (by omega) (by rcases h with h | ⟨h, _⟩ <;> omega)
  by_cases hlt : quF S W x (q : Int) < quF S W x (p : Int)
  · have := upT_bd (g := quF S W x) (L := L) (i := d) (p := (q : Int))
    have := upT_bd (g := quF S W x) (L := L) (i := d) (p := (p : Int))
    omega
  · have he : quF S W x (q : Int) = quF S W x (p : Int) := by omega
    rw [he] at dq
    unfold upT
    rw [he]
    by_cases hm : (q : Int) ∈ (L.take d).map Sr.a
    · obtain ⟨i, s, hi, hsi, hsa⟩ := taken_iff.1 hm
      have hmem : (⟨(p : Int), reF S W x (p : Int)⟩ : Sr) ∈ L := hp.mem_iff.2 (mem_srL hpn)
      obtain ⟨j, hj⟩ := List.getElem?_of_mem hmem
      have hjn : j < n := by have := (List.getElem?_eq_some_iff.1 hj).1; omega
      by_cases hjd : j < d
      · rw [if_pos hm, if_pos (taken_iff.2 ⟨j, _, hjd, hj, rfl⟩)]; exact Int.le_refl _
      · exfalso
        have hk := hs i j s _ (by omega) hjn hsi hj
        have hin := srL_mem (hp.mem_iff.1 (List.mem_of_getElem? hsi))
        unfold keyS at hk
        simp only at hk
        have hr := hin.2
        rw [hsa] at hr hk
        rw [hr] at hk
        omega
    · rw [if_neg hm]
      split <;> omega
theorem up_zero {p : Nat} (hpn : p < n) (h : S * x (p : Int) = 0) : upT (quF S W x) L d (p : Int) = 0 := by
  have hw := hS.w1
  have e1 : quF S W x (p : Int) = 0 := by unfold quF; rw [h]; exact Int.zero_ediv _
  have e2 : reF S W x (p : Int) = 0 := by unfold reF; rw [h]; exact Int.zero_emod _
  unfold upT
  rw [e1]
  by_cases hm : (p : Int) ∈ (L.take d).map Sr.a
  · obtain ⟨i, s, hi, hsi, hsa⟩ := taken_iff.1 hm
    have := pick_pos hS hp hs hd hdn hi hsi
    rw [hsa, e2] at this
    omega
  · rw [if_neg hm]; rfl
theorem up_off {p : Nat} (hpn : p < n) : 0 ≤ upT (quF S W x) L d (p : Int) ∧ upT (quF S W x) L d (p : Int) * W - S * x (p : Int) < W ∧ -W < upT (quF S W x) L d (p : Int) * W - S * x (p : Int) := by
  have hw := hS.w1
  have dp := sh_dv S W x p
  have hre := hS.re hpn
  have hqu := hS.qu hpn
  unfold upT
  by_cases hm : (p : Int) ∈ (L.take d).map Sr.a
  · obtain ⟨i, s, hi, hsi, hsa⟩ := taken_iff.1 hm
    have := pick_pos hS hp hs hd hdn hi hsi
    rw [hsa] at this
    rw [if_pos hm, Int.add_mul, Int.mul_comm (quF S W x (p : Int)) W]
    omega
  · rw [if_neg hm, Int.add_mul, Int.mul_comm (quF S W x (p : Int)) W]
    omega
end
end Go.Proofs.Ythfidomphkednaa.walk

namespace Go.Proofs.Ythfidomphkednaa.walk
open Go Go.Sh
set_option maxRecDepth 100000
set_option linter.unusedSimpArgs false
set_option linter.unusedVariables false
/-! CreditWhole -/
theorem loop12b {ov : Ov} (m : Nat) (n : Nat) (hn : n ≤ 8) (x G : Int → Int) (k : Nat) (hk : k < n) (hle : ∀ j : Nat, j < k → (x (j : Int) < x (k : Int) → G (j : Int) ≤ G (k : Int)) ∧ (x (k : Int) ≤ x (j : Int) → G (k : Int) ≤ G (j : Int))) (av uv v0 v7 : Value) (w : AW) (hv : RowsV intC w av (lsF n x)) (hu : RowsV intC w uv (lsF n G))
    (Q : Ex → Tm → AW → Prop) (t : Tm) (t0 : tget t 0 = v0) (t1 : tget t 1 = av) (t5 : tget t 5 = uv) (t7 : tget t 7 = v7) (t8 : tget t 8 = .int .i64 (k : Nat)) (t10 : tget t 10 = .int .i64 0)
    (hQ : ∀ t, tget t 0 = v0 → tget t 1 = av → tget t 5 = uv → tget t 7 = v7 → tget t 8 = .int .i64 (k : Nat) → Q (.exit 2) t w) : wp (exM Try.prog (run Try.prog ov m) (.loop mc12_l1) t w) Q := by
  refine wp_rounds (fun i t w' => w' = w ∧ tget t 0 = v0 ∧ tget t 1 = av ∧ tget t 5 = uv ∧ tget t 7 = v7 ∧ tget t 8 = .int .i64 (k : Nat) ∧ tget t 10 = .int .i64 (i : Nat) ∧ i ≤ k) 20 (by decide) ⟨rfl, t0, t1, t5, t7, t8, by simpa using t10, Nat.zero_le _⟩ ?_
  clear t0 t1 t5 t7 t8 t10
  rintro i t w' ⟨rfl, t0, t1, t5, t7, t8, t10, hi⟩
  by_cases hlt : i < k
  · obtain ⟨b1, o1, s1, c1, rfl, ld1, ia1⟩ := row_ld hv (lsF_at n x (k := i) (by omega))
    obtain ⟨b2, o2, s2, c2, e2, ld2, ia2⟩ := row_ld hv (lsF_at n x hk)
    simp only [Value.slice.injEq, Option.some.injEq, Addr.mk.injEq, true_and] at e2
    obtain ⟨⟨rfl, rfl, rfl⟩, rfl⟩ := e2
    obtain ⟨b3, o3, s3, c3, rfl, ld3, ia3⟩ := row_ld hu (lsF_at n G (k := i) (by omega))
    obtain ⟨b4, o4, s4, c4, e4, ld4, ia4⟩ := row_ld hu (lsF_at n G hk)
    simp only [Value.slice.injEq, Option.some.injEq, Addr.mk.injEq, true_and] at e4
    obtain ⟨⟨rfl, rfl, rfl⟩, rfl⟩ := e4
    simp only [lsF_len] at ia1 ia2 ia3 ia4
    obtain ⟨h1, h2⟩ := hle i hlt
    obtain ⟨X, hX⟩ : ∃ X, X = x (i : Int) := ⟨_, rfl⟩
    obtain ⟨Y, hY⟩ : ∃ X, X = x (k : Int) := ⟨_, rfl⟩
    obtain ⟨A, hA⟩ : ∃ X, X = G (i : Int) := ⟨_, rfl⟩
    obtain ⟨B, hB⟩ : ∃ X, X = G (k : Int) := ⟨_, rfl⟩
    rw [← hX] at ld1 h1 h2
    rw [← hY] at ld2 h1 h2
    rw [← hA] at ld3 h1 h2
    rw [← hB] at ld4 h1 h2
    have hlt' : (i : Int) < (k : Int) := by omega
    have hw1' : IntKind.wrap .i64 ((i : Int) + 1) = (i : Int) + 1 := wrap64_in (by omega) (by omega)
    by_cases q1 : Y < X
    · have q2 : ¬ X < Y := by omega
      have q3 : ¬ X = Y := by omega
      have q4 : ¬ A < B := by have := h2 (by omega); omega
      simp [mc12_l1, t0, t1, t5, t7, t8, t10, hlt', ia1, ia2, ia3, ia4, ld1, ld2, ld3, ld4, q1, q2, q3, q4, hw1']
      omega
    · by_cases q2 : X < Y
      · have q3 : ¬ X = Y := by omega
        have q4 : ¬ B < A := by have := h1 q2; omega
        simp [mc12_l1, t0, t1, t5, t7, t8, t10, hlt', ia1, ia2, ia3, ia4, ld1, ld2, ld3, ld4, q1, q2, q3, q4, hw1']
        omega
      · have q3 : X = Y := by omega
        have q4 : ¬ A < B := by have := h2 (by omega); omega
        simp [mc12_l1, t0, t1, t5, t7, t8, t10, hlt', ia1, ia2, ia3, ia4, ld1, ld2, ld3, ld4, q1, q2, q3, q4, hw1']
        omega
  · have hi' : i = k := by omega
    subst hi'
    simp [mc12_l1, t8, t10]
    exact hQ _ (by simp [t0]) (by simp [t1]) (by simp [t5]) (by simp [t7]) (by simp [t8])
set_option maxHeartbeats 1000000 in
theorem loop12a {ov : Ov} (m : Nat) (n : Nat) (hn : n ≤ 8) (S W : Int) (hSb : 0 ≤ S ∧ S ≤ 1000000) (hWb : 1 ≤ W ∧ W ≤ 8000) (x G : Int → Int) (hxb : ∀ k : Nat, k < n → 0 ≤ x (k : Int) ∧ x (k : Int) ≤ 1000) (hGb : ∀ k : Nat, k < n → 0 ≤ G (k : Int) ∧ G (k : Int) ≤ 1000000001) (hof : ∀ k : Nat, k < n → G (k : Int) * W - S * x (k : Int) < W ∧ -W < G (k : Int) * W - S * x (k : Int)) (hz : ∀ k : Nat, k < n → x (k : Int) = 0 → G (k : Int) = 0) (hle : ∀ j k : Nat, j < k → k < n → (x (j : Int) < x (k : Int) → G (j : Int) ≤ G (k : Int)) ∧ (x (k : Int) ≤ x (j : Int) → G (k : Int) ≤ G (j : Int))) (av uv : Value) (w : AW) (hv : RowsV intC w av (lsF n x)) (hu : RowsV intC w uv (lsF n G))
    (Q : Ex → Tm → AW → Prop) (t : Tm) (t0 : tget t 0 = .int .i64 S) (t1 : tget t 1 = av) (t5 : tget t 5 = uv) (t7 : tget t 7 = .int .i64 W) (t8 : tget t 8 = .int .i64 0)
    (hQ : ∀ t, Q (.exit 0) t w) : wp (exM Try.prog (run Try.prog ov m) (.loop mc12_l0) t w) Q := by
  refine wp_rounds (fun i t w' => w' = w ∧ tget t 0 = .int .i64 S ∧ tget t 1 = av ∧ tget t 5 = uv ∧ tget t 7 = .int .i64 W ∧ tget t 8 = .int .i64 (i : Nat) ∧ i ≤ n) 20 (by decide) ⟨rfl, t0, t1, t5, t7, by simpa using t8, Nat.zero_le _⟩ ?_
  clear t0 t1 t5 t7 t8
  rintro i t w' ⟨rfl, t0, t1, t5, t7, t8, hi⟩
  have hla := fun w2 => len26V (w' := w2) hu
  rw [lsF_len] at hla
  by_cases hlt : i < n
  · have hlt' : (i : Int) < (n : Int) := by omega
    have key := fun Q t => loop12b (ov := ov) m n hn x G i hlt (fun j hj => hle j i hj hlt) av uv (.int .i64 S) (.int .i64 W) w' hv hu Q t
    obtain ⟨b1, o1, s1, c1, rfl, ld1, ia1⟩ := row_ld hv (lsF_at n x hlt)
    obtain ⟨b3, o3, s3, c3, rfl, ld3, ia3⟩ := row_ld hu (lsF_at n G hlt)
    simp only [lsF_len] at ia1 ia3
    have hxk := hxb i hlt
    have hGk := hGb i hlt
    have hok := hof i hlt
    have hzk := hz i hlt
    obtain ⟨X, hX⟩ : ∃ X, X = x (i : Int) := ⟨_, rfl⟩
    obtain ⟨A, hA⟩ : ∃ X, X = G (i : Int) := ⟨_, rfl⟩
    rw [← hX] at ld1 hxk hok hzk
    rw [← hA] at ld3 hGk hok hzk
    have m1 : 0 ≤ A * W ∧ A * W ≤ 1000000001 * 8000 := ⟨Int.mul_nonneg hGk.1 (by omega), Int.mul_le_mul hGk.2 hWb.2 (by omega) (by decide)⟩
    have m2 : 0 ≤ S * X ∧ S * X ≤ 1000000 * 1000 := ⟨Int.mul_nonneg hSb.1 hxk.1, Int.mul_le_mul hSb.2 hxk.2 hxk.1 (by decide)⟩
    have e1 : IntKind.wrap .i64 (A * W) = A * W := wrap64_in (by omega) (by omega)
    have e2 : IntKind.wrap .i64 (S * X) = S * X := wrap64_in (by omega) (by omega)
    have e3 : IntKind.wrap .i64 (A * W - S * X) = A * W - S * X := wrap64_in (by omega) (by omega)
    obtain ⟨D, hD⟩ : ∃ D, D = A * W - S * X := ⟨_, rfl⟩
    rw [← hD] at e3 hok
    have e4 : IntKind.wrap .i64 (-W) = -W := wrap64_in (by omega) (by omega)
    have e5 : unS .neg (.int .i64 W) = some (.int .i64 (-W)) := by show some (Value.int .i64 (wrapA .i64 (0 - W))) = _; rw [wrapA_eq, Int.zero_sub, e4]
    have q1 : ¬ A < 0 := by omega
    have q2 : ¬ W ≤ D := by omega
    have q3 : ¬ D ≤ -W := by omega
    have hw1' : IntKind.wrap .i64 ((i : Int) + 1) = (i : Int) + 1 := wrap64_in (by omega) (by omega)
    by_cases hx0 : X = 0
    · have hA0 : (A = 0) = True := eq_true (hzk hx0)
      have hX0 : (X = 0) = True := eq_true hx0
      simp [mc12_l0, t0, t1, t5, t7, t8, hla, hlt', ia1, ia3, ld1, ld3, e1, e2, e3, ← hD, e5, q1, q2, q3, hX0, hA0]
      refine wp_seqX (wp_blockX (wp_blockX (key _ _ ?_ ?_ ?_ ?_ ?_ ?_ ?_)))
      case _ => simp [t0]
      case _ => simp [t1]
      case _ => simp [t5]
      case _ => simp [t7]
      case _ => simp [t8]
      case _ => simp
      case _ =>
        intro t s0 s1 s5 s7 s8
        simp [s0, s1, s5, s7, s8, hw1']
        omega
    · simp [mc12_l0, t0, t1, t5, t7, t8, hla, hlt', ia1, ia3, ld1, ld3, e1, e2, e3, ← hD, e5, q1, q2, q3, hx0]
      refine wp_seqX (wp_blockX (wp_blockX (key _ _ ?_ ?_ ?_ ?_ ?_ ?_ ?_)))
      case _ => simp [t0]
      case _ => simp [t1]
      case _ => simp [t5]
      case _ => simp [t7]
      case _ => simp [t8]
      case _ => simp
      case _ =>
        intro t s0 s1 s5 s7 s8
        simp [s0, s1, s5, s7, s8, hw1']
        omega
  · have hi' : i = n := by omega
    subst hi'
    simp [mc12_l0, t5, t8, hla]
    exact hQ _
end Go.Proofs.Ythfidomphkednaa.walk

namespace Go.Proofs.Ythfidomphkednaa.walk
open Go Go.Sh
set_option maxRecDepth 100000
set_option linter.unusedSimpArgs false
set_option linter.unusedVariables false
set_option maxHeartbeats 1000000 in
theorem call12 {ov : Ov} (m : Nat) (ho : ∀ args w, ov 12 args w = none) (ho28 : ∀ args w, ov 28 args w = none) (ho59 : ∀ args w, ov 59 args w = none) (ho72 : ∀ args w, ov 72 args w = none) (ho78 : ∀ args w, ov 78 args w = none) (ho84 : ∀ args w, ov 84 args w = none)
    (hW : HasW ov) (h38 : HasP ov 38 S62.F) (h57 : HasP ov 57 S32.F) (h58 : HasP ov 58 S58.F) (h62 : HasP ov 62 S62.F) (h73 : HasP ov 73 S73.F) (h79 : HasP ov 79 S93.F) (S : Int) (av : Value) (P : List Int) (hlen : P.length ≤ 2 ^ 60) (w : AW) (hl : w.lim ≤ w.next) (hv : RowsV intC w av P) :
    ∃ v w', (run Try.prog ov (m + 7)).call 12 [.int .i64 S, av] w .none = .ok (.ret v) w' .none ∧ v = .bool true := by
  refine call_wp text12 (by simp) (ho _ _) ?_
  obtain ⟨_, w1, c28, ⟨v1, U, rfl, hr1, hU, hU0⟩, u1⟩ := call28 (ov := ov) m ho28 ho59 ho72 ho78 ho84 h57 h58 h62 h73 h79 S P hlen av w hl hv
  have hlu := fun w2 => len26V (w' := w2) hr1
  have hla := fun w2 => len26V (w' := w2) hv
  have rW := fun w => ruleW (m := m + 5) hW w
  by_cases he : shrE S P = 0
  case neg =>
    obtain rfl := hU0 he
    simp only [List.length_nil] at hlu
    simp [mc12, c28, he, hlu, rW, tupV]
  case pos =>
    obtain ⟨L, d, hp, hs, hd, hdn, rfl⟩ := hU he
    have hS := sh_ok he
    have h8 := hS.n8
    have hn1 := hS.n1
    have hw1 := hS.w1
    have hw8 := hS.w8
    obtain ⟨W, hWe⟩ : ∃ W, W = totL P := ⟨_, rfl⟩
    rw [← hWe] at hS hd hp hr1 hw1 hw8 hlu
    rw [lsF_len] at hlu
    have hv' : RowsV intC w1 av (lsF P.length (liF P)) := by rw [payV_rows]; exact hv.up u1
    have e1 : totW P = W := by
      have h := tot_n (x := liF P) h8 fun k hk => by have := hS.hx k hk; omega
      rw [payV_rows] at h
      rw [h, hWe]
    have hGb : ∀ k : Nat, k < P.length → 0 ≤ upT (quF S W (liF P)) L d (k : Int) ∧ upT (quF S W (liF P)) L d (k : Int) ≤ 1000000001 := fun k hk => by
      have h1 := hS.qu hk
      have h2 := upT_bd (g := quF S W (liF P)) (L := L) (i := d) (p := (k : Int))
      omega
    have e2 : totW (lsF P.length (upT (quF S W (liF P)) L d)) = S := by
      rw [tot_n h8 fun k hk => by have := hGb k hk; omega]
      exact up_tot hS hp hs hd hdn
    have r38a := S62.call (P := Try.prog) h38 (m := m + 5) (w := w1) ⟨av, P, rfl, hv.up u1, hlen, rfl⟩
    have r38b := S62.call (P := Try.prog) h38 (m := m + 5) (w := w1) ⟨v1, _, rfl, hr1, by rw [lsF_len]; exact hlen, rfl⟩
    rw [e1] at r38a
    rw [e2] at r38b
    have q1 : ¬ (8 : Int) < (P.length : Int) := by omega
    have q2 : ¬ W < 1 := by omega
    rw [he] at c28
    have hSs := hS.hs
    simp [mc12, c28, hla, hlu, q1, q2, r38a, r38b]
    refine wp_seqX (wp_blockX (loop12a (ov := ov) (m + 6) P.length h8 S W hSs ⟨hw1, hw8⟩ (liF P) (upT (quF S W (liF P)) L d) hS.hx hGb (fun k hk => (up_off hS hp hs hd hdn hk).2) (fun k hk h0 => up_zero hS hp hs hd hdn hk (by rw [h0]; exact Int.mul_zero _)) (fun j k hjk hk => ⟨fun h => ?_, fun h => ?_⟩) av v1 w1 hv' hr1 _ _ ?_ ?_ ?_ ?_ ?_ ?_))
    case _ =>
      by_cases h0 : S = 0
      · rw [up_zero hS hp hs hd hdn (p := j) (by omega) (by rw [h0]; exact Int.zero_mul _), up_zero hS hp hs hd hdn (p := k) hk (by rw [h0]; exact Int.zero_mul _)]
        exact Int.le_refl _
      · exact up_le hS hp hs hd hdn (p := k) (q := j) hk (by omega) (.inl (Int.mul_lt_mul_of_pos_left h (by omega)))
    case _ =>
      by_cases h0 : S * liF P (k : Int) < S * liF P (j : Int)
      · exact up_le hS hp hs hd hdn (p := j) (q := k) (by omega) hk (.inl h0)
      · have : S * liF P (k : Int) ≤ S * liF P (j : Int) := Int.mul_le_mul_of_nonneg_left h hSs.1
        exact up_le hS hp hs hd hdn (p := j) (q := k) (by omega) hk (.inr ⟨by omega, hjk⟩)
    case _ => simp
    case _ => simp
    case _ => simp
    case _ => simp
    case _ => simp
    case _ =>
      intro t
      simp [rW, tupV]
end Go.Proofs.Ythfidomphkednaa.walk
