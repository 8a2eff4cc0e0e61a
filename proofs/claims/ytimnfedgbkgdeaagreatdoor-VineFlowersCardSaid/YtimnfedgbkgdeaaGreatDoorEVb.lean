/- Part of a proof by a machine of ones own: see the text with the theorem. -/
import Derived.Test.YtimnfedgbkgdeaaGreatDoorEVa
namespace Go.Proofs.YtimnfedgbkgdeaaGreatDoor.walk
open Go Go.Sh
set_option maxRecDepth 100000
set_option linter.unusedSimpArgs false
set_option linter.unusedVariables false
/-! the specification's best number: its loops -/
theorem loop57b {ov : Ov} (l : List Int) (hlen : l.length ≤ 4000) (x : Int) (v : Value) (w : AW) (hv : RowsV intC w v l) (m : Nat)
    (Q : Ex → Tm → AW → Prop) (t : Tm) (t0 : tget t 0 = v) (t1 : tget t 1 = .int .i64 x) (t5 : tget t 5 = .int .i64 0)
    (hyes : ∀ t, tget t 4 = .int .i64 (findAt x l 0) → Q .ret t w) (hno : findAt x l 0 = -1 → ∀ t, Q (.exit 0) t w) : wp (exM Tryz.prog (run Tryz.prog ov m) (.loop mc57_l0) t w) Q := by
  refine wp_rounds (fun i t w' => w' = w ∧ tget t 0 = v ∧ tget t 1 = .int .i64 x ∧ tget t 5 = .int .i64 (i : Nat) ∧ i ≤ l.length ∧ findAt x (l.drop i) i = findAt x l 0) 10000 (by decide) ⟨rfl, t0, t1, by simpa using t5, Nat.zero_le _, rfl⟩ ?_
  clear t0 t1 t5
  rintro i t w' ⟨rfl, t0, t1, t5, hi, hok⟩
  have hln := fun w => len27V hv w
  by_cases hlt : i < l.length
  · obtain ⟨z, hz⟩ : ∃ z, l[i]? = some z := ⟨_, List.getElem?_eq_getElem hlt⟩
    obtain ⟨b, off, sq, cp, rfl, hr⟩ := hv.at_ i hlt
    have hld := hr.int hz
    have hia := fun w => ia27 w ⟨b, off, sq⟩ l.length cp .i64 i hlt
    have hw1 : IntKind.wrap .i64 ((i : Int) + 1) = (i : Int) + 1 := wrap64_in (by omega) (by omega)
    have hd : l.drop i = z :: l.drop (i + 1) := by
      rw [List.drop_eq_getElem_cons hlt]
      congr 1
      rw [List.getElem?_eq_getElem hlt] at hz
      exact Option.some.inj hz
    rw [hd, findAt] at hok
    by_cases h : z = x
    · rw [if_pos h] at hok
      subst h
      simp [mc57_l0, t0, t1, t5, hlt, hia, hld]
      exact hyes _ (by simp [hok])
    · rw [if_neg h] at hok
      simp [mc57_l0, t0, t1, t5, hlt, hia, hld, h, hw1]
      exact ⟨by omega, hlt, hok⟩
  · have hi' : i = l.length := by omega
    subst hi'
    rw [List.drop_length] at hok
    simp [mc57_l0, t0, t5, hln]
    exact hno hok.symm _
theorem run57b {ov : Ov} (ho : ∀ args w, ov 57 args w = none) (l : List Int) (hlen : l.length ≤ 4000) (x : Int) (v : Value) (w : AW) (hv : RowsV intC w v l) :
    ∃ y w', (run Tryz.prog ov 2).call 57 [v, .int .i64 x] w .none = .ok (.ret y) w' .none ∧ y = .int .i64 (findAt x l 0) := by
  refine call_wp text57 (by simp) (ho _ _) ?_
  simp [mc57]
  refine wp_seqX (wp_blockX (loop57b l hlen x v w hv 1 _ _ ?_ ?_ ?_ ?_ ?_))
  case _ => simp
  case _ => simp
  case _ => simp
  case _ => intro t t4; simp [t4, tupV]
  case _ => intro h t; simp [h, tupV]
noncomputable def F57 : PureF := fun args w => match args with | [u, .int .i64 x] => (rowsIn intC w u).bind fun L => bif decide (L.length ≤ 4000) then some (.int .i64 (findAt x L 0)) else none | _ => none
theorem rule57 {ov : Ov} (k : HasP ov 57 F57) {u : Value} {L : List Int} (x : Int) {w : AW} (hs : L.length ≤ 4000) (hv : RowsV intC w u L) (m : Nat) : (run Tryz.prog ov (m + 1)).call 57 [u, .int .i64 x] w .none = .ok (.ret (.int .i64 (findAt x L 0))) w .none := k.call (by
  unfold F57
  simp only [hv.rowsIn (m := 1) intC_length intC_inj, Option.bind_some, decide_eq_true hs]; rfl)
theorem H50_of {ov : Ov} (k : HasP ov 57 F57) : H50 ov := fun m L x u w hL hv => rule57 k x (by omega) hv m
def rowE (rs : List Rac) (back : Int) (G : List Int) (p : Int × Int) : Prs := G.map fun h => (max 0 p.1 + h, p.2 + adS rs p.1 (max 0 p.1 + h) back rs.length)
theorem foldE_app (bt : Bool) (a b acc : Prs) : foldE bt (a ++ b) acc = foldE bt b (foldE bt a acc) := by unfold foldE; rw [List.foldl_append]
theorem foldE_snoc (bt : Bool) (a acc : Prs) (e : Int × Int) : foldE bt (a ++ [e]) acc = updP bt (foldE bt a acc) e.1 e.2 := by rw [foldE_app]; rfl
theorem foldE_len (bt : Bool) (es : Prs) (h : ∀ e ∈ es, 0 ≤ e.1 ∧ e.1 ≤ 2000) : (foldE bt es []).length ≤ 2001 := by
  have h1 := nd_len 2001 ((foldE bt es []).map (·.1)) (foldE_nodup bt es [] (by simp)) fun x hx => by
    obtain ⟨q, hq, rfl⟩ := List.mem_map.1 hx
    rcases foldE_from bt es [] q hq with h2 | h2
    · cases h2
    · have := h q h2; omega
  rwa [List.length_map] at h1
theorem Pd_bd {bt : Bool} {rs : List Rac} (h8 : rs.length ≤ 8) {D : Nat} {G : Nat → List Int} (hG : ∀ i, ∀ x ∈ G i, 0 ≤ x ∧ x ≤ 50) : ∀ (d : Nat) (q : Int × Int), q ∈ PdS bt rs D G d → (-1 ≤ q.1 ∧ q.1 ≤ 50 * (d : Int)) ∧ 0 ≤ q.2 ∧ q.2 ≤ 8 * (d : Int)
  | 0, q, h => by
    rw [List.mem_singleton.1 h]; simp
  | d + 1, q, h => by
    rcases foldE_from bt _ [] q h with h | h
    · cases h
    · unfold esN at h
      rw [List.mem_flatMap] at h
      obtain ⟨p, h1, h⟩ := h
      obtain ⟨x, hx, rfl⟩ := List.mem_map.1 h
      have ih := Pd_bd h8 hG d p h1
      have hg := hG d x hx
      have bd := adS_bd rs p.1 (max 0 p.1 + x) ((D : Int) - (d : Nat)) rs.length
      simp only
      omega
theorem row_bd {rs : List Rac} {back : Int} {G : List Int} {p : Int × Int} {d : Nat} (hd : d ≤ 39) (hp : -1 ≤ p.1 ∧ p.1 ≤ 50 * (d : Int)) (hG : ∀ x ∈ G, 0 ≤ x ∧ x ≤ 50) : ∀ e ∈ rowE rs back G p, 0 ≤ e.1 ∧ e.1 ≤ 2000 := by
  intro e he
  obtain ⟨x, hx, rfl⟩ := List.mem_map.1 he
  have := hG x hx
  simp only
  omega
/-- what the next day's rows are, while they are put together -/
structure InE (w1 : AW) (acc : Prs) (v14 v15 : Value) (C1 C2 : Nat) (w : AW) : Prop where
  old : ∀ x, x < w1.next → w.heap.get x = w1.heap.get x
  a1 : AccI (w1.next - 1) w v14 (acc.map (·.1)) C1
  a2 : AccI (w1.next - 1) w v15 (acc.map (·.2)) C2
  ne : C1 = C2 → C1 = 0
  next : w1.next ≤ w.next
  lim : w.lim = w1.lim
set_option maxHeartbeats 4000000 in
theorem loop32i {ov : Ov} (m : Nat) (h57 : HasP ov 57 F57) (h61 : HasP ov 61 F61) (bt : Bool) (rs : List Rac) (h8 : rs.length ≤ 8) (D d : Nat) (hd : d ≤ D) (hD : D ≤ 39) (G : List Int) (hG : ∀ x ∈ G, 0 ≤ x ∧ x ≤ 50) (hGl : G.length ≤ 1000) (P : Prs) (i : Nat) (p : Int × Int) (hp : P[i]? = some p) (hpb : (-1 ≤ p.1 ∧ p.1 ≤ 50 * (d : Int)) ∧ 0 ≤ p.2 ∧ p.2 ≤ 8 * (d : Int)) (es : Prs) (hes : ∀ e ∈ es, 0 ≤ e.1 ∧ e.1 ≤ 2000) (w1 : AW) (hl1 : w1.lim < w1.next) (rv gv sv bv : Value) (hrv : RowsV racC w1 rv rs) (hgv : RowsV intC w1 gv G) (hsv : RowsV intC w1 sv (P.map (·.1))) (hbv : RowsV intC w1 bv (P.map (·.2))) (T4 T9 : Value)
    (Q : Ex → Tm → AW → Prop) (t : Tm) (w : AW) (hI : ∃ C1 C2, InE w1 (foldE bt es []) (tget t 14) (tget t 15) C1 C2 w) (t1 : tget t 1 = rv) (t2 : tget t 2 = .int .i64 (D : Nat)) (t3 : tget t 3 = .bool bt) (t4 : tget t 4 = T4) (t9 : tget t 9 = T9) (t10 : tget t 10 = sv) (t11 : tget t 11 = bv) (t12 : tget t 12 = .int .i64 (d : Nat)) (t13 : tget t 13 = gv) (t16 : tget t 16 = .int .i64 (i : Nat)) (t17 : tget t 17 = .int .i64 0)
    (hQ : ∀ t w C1 C2, InE w1 (foldE bt (es ++ rowE rs ((D : Int) - (d : Nat)) G p) []) (tget t 14) (tget t 15) C1 C2 w → tget t 1 = rv → tget t 2 = .int .i64 (D : Nat) → tget t 3 = .bool bt → tget t 4 = T4 → tget t 9 = T9 → tget t 10 = sv → tget t 11 = bv → tget t 12 = .int .i64 (d : Nat) → tget t 13 = gv → tget t 16 = .int .i64 (i : Nat) → Q (.exit 4) t w) : wp (exM Tryz.prog (run Tryz.prog ov (m + 1)) (.loop mc32_l2) t w) Q := by
  obtain ⟨R, hR⟩ : ∃ R, R = rowE rs ((D : Int) - (d : Nat)) G p := ⟨_, rfl⟩
  have hRl : R.length = G.length := by rw [hR]; simp [rowE]
  have hRb : ∀ e ∈ R, 0 ≤ e.1 ∧ e.1 ≤ 2000 := by rw [hR]; exact row_bd (by omega) hpb.1 hG
  rw [← hR] at hQ
  refine wp_rounds (fun k t w => (∃ C1 C2, InE w1 (foldE bt (es ++ R.take k) []) (tget t 14) (tget t 15) C1 C2 w) ∧ tget t 1 = rv ∧ tget t 2 = .int .i64 (D : Nat) ∧ tget t 3 = .bool bt ∧ tget t 4 = T4 ∧ tget t 9 = T9 ∧ tget t 10 = sv ∧ tget t 11 = bv ∧ tget t 12 = .int .i64 (d : Nat) ∧ tget t 13 = gv ∧ tget t 16 = .int .i64 (i : Nat) ∧ tget t 17 = .int .i64 (k : Nat) ∧ k ≤ G.length) 2000 (by decide) ⟨by simpa using hI, t1, t2, t3, t4, t9, t10, t11, t12, t13, t16, by simpa using t17, Nat.zero_le _⟩ ?_
  clear t1 t2 t3 t4 t9 t10 t11 t12 t13 t16 t17 hI
  rintro k t w ⟨⟨C1, C2, hI⟩, t1, t2, t3, t4, t9, t10, t11, t12, t13, t16, t17, hk⟩
  have hln := fun w => len27V hgv w
  by_cases hlt : k < G.length
  · obtain ⟨h, hh⟩ : ∃ h, G[k]? = some h := ⟨_, List.getElem?_eq_getElem hlt⟩
    have hhb := hG h (List.mem_of_getElem? hh)
    have hil : i < P.length := (List.getElem?_eq_some_iff.1 hp).1
    obtain ⟨gb, goff, gsq, gc, rfl, hgr⟩ := hgv.at_ k hlt
    obtain ⟨sb, soff, ssq, sc, rfl, hsr⟩ := hsv.at_ i (by simpa using hil)
    obtain ⟨bb, boff, bsq, bc, rfl, hbr⟩ := hbv.at_ i (by simpa using hil)
    have lg := hgr.int hh
    have ls := hsr.int (i := i) (z := p.1) (by rw [List.getElem?_map, hp]; rfl)
    have lb := hbr.int (i := i) (z := p.2) (by rw [List.getElem?_map, hp]; rfl)
    rw [← hI.old gb hgr.2] at lg
    rw [← hI.old sb hsr.2] at ls
    rw [← hI.old bb hbr.2] at lb
    have iag := fun w => ia27 w ⟨gb, goff, gsq⟩ G.length gc .i64 k hlt
    have ias := fun w => ia27 w ⟨sb, soff, ssq⟩ P.length sc .i64 i hil
    have iab := fun w => ia27 w ⟨bb, boff, bsq⟩ P.length bc .i64 i hil
    have hn := hI.next
    have hlm := hI.lim
    have hrvw : RowsV racC w rv rs := hrv.old hI.old hn
    obtain ⟨to, hto⟩ : ∃ to, to = max 0 p.1 + h := ⟨_, rfl⟩
    have htb : 0 ≤ to ∧ to ≤ 2000 := by omega
    have ww1 : IntKind.wrap .i64 (max 0 p.1 + h) = to := by rw [hto]; exact wrap64_in (by omega) (by omega)
    have ww2 : IntKind.wrap .i64 ((D : Int) - (d : Nat)) = (D : Int) - (d : Nat) := wrap64_in (by omega) (by omega)
    have bd := adS_bd rs p.1 to ((D : Int) - (d : Nat)) rs.length
    obtain ⟨n, hn'⟩ : ∃ n, n = p.2 + adS rs p.1 to ((D : Int) - (d : Nat)) rs.length := ⟨_, rfl⟩
    have ww3 : IntKind.wrap .i64 (p.2 + adS rs p.1 to ((D : Int) - (d : Nat)) rs.length) = n := by rw [hn']; exact wrap64_in (by omega) (by omega)
    have wwk : IntKind.wrap .i64 ((k : Int) + 1) = (k : Int) + 1 := wrap64_in (by omega) (by omega)
    have r61 := rule61 h61 p.1 to ((D : Int) - (d : Nat)) h8 hrvw m
    obtain ⟨acc, hacc⟩ : ∃ acc, acc = foldE bt (es ++ R.take k) [] := ⟨_, rfl⟩
    have hal : acc.length ≤ 2001 := by
      rw [hacc]
      refine foldE_len bt _ fun e he => ?_
      rcases List.mem_append.1 he with he | he
      · exact hes e he
      · exact hRb e (List.mem_of_mem_take he)
    have hRk : R[k]? = some (to, n) := by rw [hR]; unfold rowE; rw [List.getElem?_map, hh, hn', hto]; rfl
    have eacc : foldE bt (es ++ R.take (k + 1)) [] = updP bt acc to n := by
      rw [List.take_add_one, hRk, hacc]
      show foldE bt (es ++ (R.take k ++ [(to, n)])) [] = _
      rw [← List.append_assoc, foldE_snoc]
    rw [← hacc] at hI
    obtain ⟨v14, hv14⟩ : ∃ v, v = tget t 14 := ⟨_, rfl⟩
    obtain ⟨v15, hv15⟩ : ∃ v, v = tget t 15 := ⟨_, rfl⟩
    rw [← hv14, ← hv15] at hI
    have t14 := hv14.symm
    have t15 := hv15.symm
    have r57 := rule57 h57 to (by simpa using (by omega : acc.length ≤ 4000)) (acc_rows hI.a1) m
    have hm14 : (acc.map (·.1)).length ≤ 90000 := by rw [List.length_map]; omega
    have hm15 : (acc.map (·.2)).length ≤ 90000 := by rw [List.length_map]; omega
    have pc1 := hI.a1.lt (by omega)
    have pc2 := hI.a2.lt (by omega)
    by_cases hf : findAt to (acc.map (·.1)) 0 < 0
    · have eU := find_none acc 0 hf bt n
      obtain ⟨u1, w2, D1, ha1, ac1, kk1, nb1, nx1, lm1⟩ := int_push hI.a1 (by omega) (by omega) hm14 to
      have q2 : AccI (w1.next - 1) w2 v15 (acc.map (·.2)) C2 := hI.a2.keep (B0 := C1) (fun x h1 h2 h3 => kk1 x h1 h2) (by omega) (fun h => by have := hI.ne h.symm; omega)
      have pd1 := ac1.lt (by omega)
      obtain ⟨u2, w3, D2, ha2, ac2, kk2, nb2, nx2, lm2⟩ := int_push q2 (by omega) (by omega) hm15 n
      have fin : InE w1 (foldE bt (es ++ R.take (k + 1)) []) u1 u2 D1 D2 w3 := by
        rw [eacc, eU]
        refine ⟨fun x hx => ?_, ?_, ?_, fun h => by omega, by omega, by omega⟩
        · rw [kk2 x (by omega) (hI.a2.nb x (by omega)), kk1 x (by omega) (hI.a1.nb x (by omega))]; exact hI.old x hx
        · rw [List.map_append]
          exact ac1.keep (B0 := C2) (fun x h1 h2 h3 => kk2 x h1 h2) (by omega) (fun h => by omega)
        · rw [List.map_append]; exact ac2
      have s1 : sameVal 5 v15 v15 = true := hI.a2.same
      simp [mc32_l2, t1, t2, t3, t4, t9, t10, t11, t12, t13, t14, t15, t16, t17, hln, hlt, iag, ias, iab, lg, ls, lb, ww1, ww2, ww3, wwk, r61, r57, hf, ha1, ha2]
      exact ⟨by omega, ⟨D1, D2, fin⟩, by omega⟩
    · obtain ⟨j, x, f1, f2, f3, f4⟩ := find_at acc 0 (by omega : 0 ≤ findAt to (acc.map (·.1)) 0)
      obtain ⟨g1, g2⟩ := f4 bt n
      rw [Nat.zero_add] at f1
      have hf' : ¬ ((j : Nat) : Int) < 0 := by omega
      rcases hI.a2 with ⟨hnil, _, _⟩ | ⟨rfl, hrow, hb1, hb2⟩
      · rw [hnil] at f3; simp at f3
      · have hset := flat_set intC_length (acc.map (·.2)) j (b2 bt x n) (by rw [List.length_map]; exact f2)
        have hfl : ((acc.map (·.2)).flatMap intC).length = acc.length := by rw [flat_length intC_length, List.length_map]; omega
        have hld : rd1O (some (AObj.cells ((acc.map (·.2)).flatMap intC) 3 false)) j = some (.int .i64 x) := by
          have : RowsA intC (w.heap.put C2 (some (AObj.cells ((acc.map (·.2)).flatMap intC) 3 false))) (C2 + 1) C2 0 (acc.map (·.2)) := ⟨⟨[], [], 3, false, by simp, rfl⟩, Nat.lt_succ_self _⟩
          have := this.int f3
          simpa using this
        simp only [Nat.mul_one, intC, List.cons_append, List.nil_append] at hset
        obtain ⟨q, hq⟩ : ∃ q, q = (acc.map (·.2)).flatMap intC := ⟨_, rfl⟩
        rw [← hq] at hset hfl hld hrow
        have iaj := fun w => ia27 w ⟨C2, 0, none⟩ acc.length acc.length .i64 j f2
        have hfit : j + 1 ≤ acc.length := f2
        have lmC : w.lim ≤ C2 := by omega
        have fin : InE w1 (foldE bt (es ++ R.take (k + 1)) []) v14 (.slice (some ⟨C2, 0, none⟩) (acc.map (·.2)).length (acc.map (·.2)).length) C1 C2 ⟨w.heap.put C2 (some (.cells (((acc.map (·.2)).set j (b2 bt x n)).flatMap intC) 3 false)), w.next, w.lim⟩ := by
          rw [eacc]
          have hC : C1 = C2 → C1 = 0 := hI.ne
          refine ⟨fun y hy => ?_, ?_, ?_, hC, hn, hlm⟩
          · show (w.heap.put _ _).get y = _
            rw [get_put, if_neg (by omega)]; exact hI.old y hy
          · rw [g1]
            exact hI.a1.keep (B0 := C2) (fun y h1 h2 h3 => by show (w.heap.put _ _).get y = _; rw [get_put, if_neg (fun e => by have := h2 e; omega)]) (Nat.le_refl _) hC
          · refine .inr ⟨?_, ?_, hb1, hb2⟩
            · rw [g2, List.length_set]
            · show (w.heap.put _ _).get _ = _
              rw [get_put, if_pos rfl, g2]
        rw [hset.symm] at fin
        simp only [List.length_map] at fin t15
        cases bt with
        | true =>
          simp only [b2, if_true] at fin
          simp [mc32_l2, t1, t2, t3, t4, t9, t10, t11, t12, t13, t14, t15, t16, t17, hln, hlt, iag, ias, iab, lg, ls, lb, ww1, ww2, ww3, wwk, r61, r57, f1, hf', iaj, hrow, hld, hfl, hfit, lmC]
          exact ⟨by omega, ⟨C1, C2, fin⟩, by omega⟩
        | false =>
          simp only [b2, Bool.false_eq_true, if_false] at fin
          simp [mc32_l2, t1, t2, t3, t4, t9, t10, t11, t12, t13, t14, t15, t16, t17, hln, hlt, iag, ias, iab, lg, ls, lb, ww1, ww2, ww3, wwk, r61, r57, f1, hf', iaj, hrow, hld, hfl, hfit, lmC]
          exact ⟨by omega, ⟨C1, C2, fin⟩, by omega⟩
  · have hk' : k = G.length := by omega
    subst hk'
    rw [List.take_of_length_le (by omega)] at hI
    simp [mc32_l2, t13, t17, hln]
    exact hQ _ _ C1 C2 (by simpa using hI) (by simp [t1]) (by simp [t2]) (by simp [t3]) (by simp [t4]) (by simp [t9]) (by simp [t10]) (by simp [t11]) (by simp [t12]) (by simp [t13]) (by simp [t16])
end Go.Proofs.YtimnfedgbkgdeaaGreatDoor.walk

namespace Go.Proofs.YtimnfedgbkgdeaaGreatDoor.walk
open Go Go.Sh
set_option maxRecDepth 100000
set_option linter.unusedSimpArgs false
set_option linter.unusedVariables false
theorem flat_take {rs : List Rac} {back : Int} {G : List Int} {P : Prs} {i : Nat} {p : Int × Int} (hp : P[i]? = some p) : (P.take (i + 1)).flatMap (rowE rs back G) = (P.take i).flatMap (rowE rs back G) ++ rowE rs back G p := by
  rw [List.take_add_one, hp]
  simp
set_option maxHeartbeats 2000000 in
theorem loop32m {ov : Ov} (m : Nat) (h57 : HasP ov 57 F57) (h61 : HasP ov 61 F61) (bt : Bool) (rs : List Rac) (h8 : rs.length ≤ 8) (D d : Nat) (hd : d ≤ D) (hD : D ≤ 39) (G : List Int) (hG : ∀ x ∈ G, 0 ≤ x ∧ x ≤ 50) (hGl : G.length ≤ 1000) (P : Prs) (hPl : P.length ≤ 2001) (hpb : ∀ p ∈ P, (-1 ≤ p.1 ∧ p.1 ≤ 50 * (d : Int)) ∧ 0 ≤ p.2 ∧ p.2 ≤ 8 * (d : Int)) (w1 : AW) (hl1 : w1.lim < w1.next) (rv gv sv bv : Value) (hrv : RowsV racC w1 rv rs) (hgv : RowsV intC w1 gv G) (hsv : RowsV intC w1 sv (P.map (·.1))) (hbv : RowsV intC w1 bv (P.map (·.2))) (T4 T9 : Value)
    (Q : Ex → Tm → AW → Prop) (t : Tm) (t14 : tget t 14 = .slice none 0 0) (t15 : tget t 15 = .slice none 0 0) (t1 : tget t 1 = rv) (t2 : tget t 2 = .int .i64 (D : Nat)) (t3 : tget t 3 = .bool bt) (t4 : tget t 4 = T4) (t9 : tget t 9 = T9) (t10 : tget t 10 = sv) (t11 : tget t 11 = bv) (t12 : tget t 12 = .int .i64 (d : Nat)) (t13 : tget t 13 = gv) (t16 : tget t 16 = .int .i64 0)
    (hQ : ∀ t w C1 C2, InE w1 (foldE bt (esN rs ((D : Int) - (d : Nat)) G P) []) (tget t 14) (tget t 15) C1 C2 w → tget t 1 = rv → tget t 2 = .int .i64 (D : Nat) → tget t 3 = .bool bt → tget t 4 = T4 → tget t 9 = T9 → tget t 12 = .int .i64 (d : Nat) → Q (.exit 2) t w) : wp (exM Tryz.prog (run Tryz.prog ov (m + 1)) (.loop mc32_l1) t w1) Q := by
  refine wp_rounds (fun i t w => (∃ C1 C2, InE w1 (foldE bt ((P.take i).flatMap (rowE rs ((D : Int) - (d : Nat)) G)) []) (tget t 14) (tget t 15) C1 C2 w) ∧ tget t 1 = rv ∧ tget t 2 = .int .i64 (D : Nat) ∧ tget t 3 = .bool bt ∧ tget t 4 = T4 ∧ tget t 9 = T9 ∧ tget t 10 = sv ∧ tget t 11 = bv ∧ tget t 12 = .int .i64 (d : Nat) ∧ tget t 13 = gv ∧ tget t 16 = .int .i64 (i : Nat) ∧ i ≤ P.length) 5000 (by decide) ⟨⟨0, 0, fun _ _ => rfl, .inl ⟨rfl, t14, rfl⟩, .inl ⟨rfl, t15, rfl⟩, fun _ => rfl, Nat.le_refl _, rfl⟩, t1, t2, t3, t4, t9, t10, t11, t12, t13, by simpa using t16, Nat.zero_le _⟩ ?_
  clear t1 t2 t3 t4 t9 t10 t11 t12 t13 t14 t15 t16
  rintro i t w ⟨⟨C1, C2, hI⟩, t1, t2, t3, t4, t9, t10, t11, t12, t13, t16, hi⟩
  have hln := fun w => len27V hsv w
  simp only [List.length_map] at hln
  by_cases hlt : i < P.length
  · obtain ⟨p, hp⟩ : ∃ p, P[i]? = some p := ⟨_, List.getElem?_eq_getElem hlt⟩
    have wwi : IntKind.wrap .i64 ((i : Int) + 1) = (i : Int) + 1 := wrap64_in (by omega) (by omega)
    have hes : ∀ e ∈ (P.take i).flatMap (rowE rs ((D : Int) - (d : Nat)) G), 0 ≤ e.1 ∧ e.1 ≤ 2000 := fun e he => by
      obtain ⟨q, hq, he⟩ := List.mem_flatMap.1 he
      exact row_bd (by omega) (hpb q (List.mem_of_mem_take hq)).1 hG e he
    simp [mc32_l1, t10, t16, hln, hlt]
    refine wp_seqX (wp_blockX (wp_blockX (loop32i m h57 h61 bt rs h8 D d hd hD G hG hGl P i p hp (hpb p (List.mem_of_getElem? hp)) _ hes w1 hl1 rv gv sv bv hrv hgv hsv hbv T4 T9 _ _ w ⟨C1, C2, ?_⟩ ?_ ?_ ?_ ?_ ?_ ?_ ?_ ?_ ?_ ?_ ?_ ?_)))
    case _ => simpa using hI
    case _ => simp [t1]
    case _ => simp [t2]
    case _ => simp [t3]
    case _ => simp [t4]
    case _ => simp [t9]
    case _ => simp [t10]
    case _ => simp [t11]
    case _ => simp [t12]
    case _ => simp [t13]
    case _ => simp [t16]
    case _ => simp
    case _ =>
      intro t w C1 C2 h t1 t2 t3 t4 t9 t10 t11 t12 t13 t16
      rw [← flat_take hp] at h
      simp [t1, t2, t3, t4, t9, t10, t11, t12, t13, t16, wwi]
      exact ⟨by omega, ⟨C1, C2, h⟩, by omega⟩
  · have hi' : i = P.length := by omega
    subst hi'
    rw [List.take_length, show P.flatMap (rowE rs ((D : Int) - (d : Nat)) G) = esN rs ((D : Int) - (d : Nat)) G P from rfl] at hI
    simp [mc32_l1, t10, t16, hln]
    exact hQ _ _ C1 C2 (by simpa using hI) (by simp [t1]) (by simp [t2]) (by simp [t3]) (by simp [t4]) (by simp [t9]) (by simp [t12])
structure In32 (w0 : AW) (cs : List Value) (P : Prs) (sv bv : Value) (w : AW) : Prop where
  old : Old w0.next w0.heap w.heap
  sea : w.heap.get w0.next = some (.cells cs 29 false)
  rs : RowsV intC w sv (P.map (·.1))
  rb : RowsV intC w bv (P.map (·.2))
  next : w0.next < w.next
  lim : w.lim = w0.lim
theorem Pd_len {bt : Bool} {rs : List Rac} (h8 : rs.length ≤ 8) {D : Nat} {G : Nat → List Int} (hG : ∀ i, ∀ x ∈ G i, 0 ≤ x ∧ x ≤ 50) : ∀ d, d ≤ 40 → (PdS bt rs D G d).length ≤ 2001
  | 0, _ => by simp [PdS]
  | d + 1, hd => by
    refine foldE_len bt _ fun e he => ?_
    obtain ⟨p, hp, he⟩ := List.mem_flatMap.1 he
    exact row_bd (by omega) (Pd_bd h8 hG d p hp).1 (hG d) e he
set_option maxHeartbeats 4000000 in
theorem loop32d {ov : Ov} (m : Nat) (ho27 : ∀ args w, ov 27 args w = none) (h57 : HasP ov 57 F57) (h58 : HasP ov 58 F58) (h61 : HasP ov 61 F61) (bt : Bool) (s : Sea) (l : List Day) (c : List Int) (hE : seaE s l c = 0) (rs : List Rac) (h8 : rs.length ≤ 8) (D : Nat) (hD : D < l.length) (dv cv rv hv : Value) (w0 : AW) (hl0 : w0.lim ≤ w0.next) (hdv : RowsV dayC w0 dv l) (hrv : RowsV racC w0 rv rs) (w2 : AW) (h02 : Old w0.next w0.heap w2.heap) (hn2 : w0.next < w2.next) (hhv : RowsV intC w2 hv (shL s c l.length))
    (Q : Ex → Tm → AW → Prop) (t : Tm) (w : AW) (h2w : Old w2.next w2.heap w.heap) (hnw : w2.next ≤ w.next) (hI : In32 w0 (seaC s dv cv) (PdS bt rs D (gvH s l (shL s c l.length)) 0) (tget t 10) (tget t 11) w) (t1 : tget t 1 = rv) (t2 : tget t 2 = .int .i64 (D : Nat)) (t3 : tget t 3 = .bool bt) (t4 : tget t 4 = .pointer (some ⟨w0.next, 0, none⟩)) (t9 : tget t 9 = hv) (t12 : tget t 12 = .int .i64 0)
    (hQ : ∀ t w, In32 w0 (seaC s dv cv) (PdS bt rs D (gvH s l (shL s c l.length)) (D + 1)) (tget t 10) (tget t 11) w → tget t 3 = .bool bt → Q (.exit 0) t w) : wp (exM Tryz.prog (run Tryz.prog ov (m + 2)) (.loop mc32_l0) t w) Q := by
  obtain ⟨f1, f2⟩ := sea_facts hE
  have h40 := (days_len (sea_zero hE).1).2
  have hwet : 0 ≤ s.wet := by
    have := (sea_zero hE).2.2.2.2
    simp only [inI, Bool.and_eq_true, decide_eq_true_eq] at this
    exact this.1
  have hG := gvH_nn hE
  refine wp_rounds (fun d t w => In32 w0 (seaC s dv cv) (PdS bt rs D (gvH s l (shL s c l.length)) d) (tget t 10) (tget t 11) w ∧ Old w2.next w2.heap w.heap ∧ w2.next ≤ w.next ∧ tget t 1 = rv ∧ tget t 2 = .int .i64 (D : Nat) ∧ tget t 3 = .bool bt ∧ tget t 4 = .pointer (some ⟨w0.next, 0, none⟩) ∧ tget t 9 = hv ∧ tget t 12 = .int .i64 (d : Nat) ∧ d ≤ D + 1) 200 (by decide) ⟨hI, h2w, hnw, t1, t2, t3, t4, t9, by simpa using t12, Nat.zero_le _⟩ ?_
  clear t1 t2 t3 t4 t9 t12 hI h2w hnw w
  rintro d t w ⟨hI, h2w, hnw, t1, t2, t3, t4, t9, t12, hd⟩
  by_cases hlt : d ≤ D
  · obtain ⟨dy, hdy⟩ : ∃ x, l[d]? = some x := ⟨_, List.getElem?_eq_getElem (by omega)⟩
    have hz := shL_at s c l.length d (by omega)
    have hlt' : (d : Int) ≤ (D : Int) := by omega
    have hn := hI.next
    have hlm := hI.lim
    have hsea := hI.sea
    have hhw : RowsV intC w hv (shL s c l.length) := hhv.old h2w hnw
    obtain ⟨hb, hoff, hsq, hc, rfl, hhr⟩ := hhw.at_ d (by rw [shL_length]; omega)
    have lz := hhr.int hz
    have iah := fun w => ia27 w ⟨hb, hoff, hsq⟩ (shL s c l.length).length hc .i64 d (by rw [shL_length]; omega)
    simp only [shL_length] at iah
    obtain ⟨gv, w1, c27, ⟨BG, aG⟩, o1, n1, l1⟩ := call27 (ov := ov) m ho27 (H50_of h57) h58 s l h40 d dy hdy (f2 d dy hdy) (shB s c (d + 1)) (fun a => f1 d dy _ a hdy hz) hwet dv cv w (by omega) (hdv.old hI.old (by omega))
    have eG : gvH s l (shL s c l.length) d = gvL s dy (shB s c (d + 1)) := by unfold gvH; rw [hdy, hz]
    have rG := acc_rows aG
    rw [← eG] at rG
    have hGl : (gvH s l (shL s c l.length) d).length ≤ 1000 := by
      rw [eG]
      unfold gvL
      have h1 := gvN_len s dy (shB s c (d + 1)) (if s.wet < dy.rh then [0] else []) (if dy.rl ≤ s.wet then (dy.wh - dy.wl + 1).toNat else 0)
      have hb := f2 d dy hdy
      simp only [dayB, spanB, Bool.and_eq_true, decide_eq_true_eq] at hb
      have h2 : (if s.wet < dy.rh then [(0 : Int)] else []).length ≤ 1 := by split <;> simp
      have h3 : (if dy.rl ≤ s.wet then (dy.wh - dy.wl + 1).toNat else 0) ≤ 51 := by split <;> omega
      omega
    have wwd : IntKind.wrap .i64 ((d : Int) + 1) = (d : Int) + 1 := wrap64_in (by omega) (by omega)
    obtain ⟨sv, hsv⟩ : ∃ v, v = tget t 10 := ⟨_, rfl⟩
    obtain ⟨bv, hbv⟩ : ∃ v, v = tget t 11 := ⟨_, rfl⟩
    rw [← hsv, ← hbv] at hI
    have t10 := hsv.symm
    have t11 := hbv.symm
    have nj := row_notJunk rG
    simp only [seaC, shL_length] at c27 hsea t9
    simp [mc32_l0, t1, t2, t3, t4, t9, t10, t11, t12, hlt', hsea, iah, lz, c27, nj]
    refine wp_seqX (wp_blockX (wp_seqX (wp_blockX (loop32m (m + 1) h57 h61 bt rs h8 D d hlt (by omega) (gvH s l (shL s c l.length) d) (hG d) hGl (PdS bt rs D (gvH s l (shL s c l.length)) d) (Pd_len h8 hG d (by omega)) (Pd_bd h8 hG d) w1 (by omega) rv gv sv bv ((hrv.old hI.old (by omega)).old o1 n1) rG (hI.rs.old o1 n1) (hI.rb.old o1 n1) (.pointer (some ⟨w0.next, 0, none⟩)) (.slice (some ⟨hb, hoff, hsq⟩) l.length hc) _ _ ?_ ?_ ?_ ?_ ?_ ?_ ?_ ?_ ?_ ?_ ?_ ?_ ?_))))
    case _ => simp
    case _ => simp
    case _ => simp [t1]
    case _ => simp [t2]
    case _ => simp [t3]
    case _ => simp [t4]
    case _ => simp [t9]
    case _ => simp [t10]
    case _ => simp [t11]
    case _ => simp [t12]
    case _ => simp
    case _ => simp
    case _ =>
      intro t w3 C1 C2 h t1 t2 t3 t4 t9 t12
      have hn3 := h.next
      have hl3 := h.lim
      have fin : In32 w0 (seaC s dv cv) (PdS bt rs D (gvH s l (shL s c l.length)) (d + 1)) (tget t 14) (tget t 15) w3 := by
        refine ⟨fun x hx => ?_, ?_, acc_rows h.a1, acc_rows h.a2, by omega, by omega⟩
        · rw [h.old x (by omega), o1 x (by omega)]; exact hI.old x hx
        · rw [h.old _ (by omega), o1 _ (by omega)]; exact hI.sea
      have o23 : Old w2.next w2.heap w3.heap := fun x hx => by rw [h.old x (by omega), o1 x (by omega)]; exact h2w x hx
      simp [t1, t2, t3, t4, t9, t12, wwd]
      exact ⟨by omega, fin, o23, by omega, (shL_length _ _ _).symm, hlt⟩
  · have hd' : d = D + 1 := by omega
    subst hd'
    have hlt' : ¬ ((D : Int) + 1 ≤ (D : Int)) := by omega
    simp [mc32_l0, t2, t12, hlt']
    exact hQ _ _ (by simpa using hI) (by simp [t3])
end Go.Proofs.YtimnfedgbkgdeaaGreatDoor.walk

namespace Go.Proofs.YtimnfedgbkgdeaaGreatDoor.walk
open Go Go.Sh
set_option maxRecDepth 100000
set_option linter.unusedSimpArgs false
set_option linter.unusedVariables false
theorem Pd_ne {bt : Bool} {s : Sea} {l : List Day} {c : List Int} {rs : List Rac} (hE : seaE s l c = 0) (hr : racB rs = true) {D : Nat} (hD : D < l.length) : PdS bt rs D (gvH s l (shL s c l.length)) (D + 1) ≠ [] := by
  have h40 := (days_len (sea_zero hE).1).2
  obtain ⟨p, h1, h2⟩ := best_from (bt := bt) (ad := adI rs D) (HsF_bd hE) (d := D + 1) (by omega) (fun i hi => HsF_ne hE (by omega))
  obtain ⟨n, h3, h4⟩ := way_in (bt := bt) hE hr (D := D) (D + 1) (Nat.le_refl _) h1
  intro h
  rw [h] at h3
  cases h3
set_option maxHeartbeats 4000000 in
theorem call32 {ov : Ov} (m : Nat) (ho : ∀ args w, ov 32 args w = none) (ho26 : ∀ args w, ov 26 args w = none) (ho27 : ∀ args w, ov 27 args w = none) (h56 : HasP ov 56 F56) (h57 : HasP ov 57 F57) (h58 : HasP ov 58 F58) (h61 : HasP ov 61 F61) (bt : Bool) (s : Sea) (l : List Day) (c : List Int) (hE : seaE s l c = 0) (rs : List Rac) (hR : racB rs = true) (D : Nat) (hD : D < l.length) (dv cv rv : Value) (w : AW) (hl : w.lim ≤ w.next) (hdv : RowsV dayC w dv l) (hcv : RowsV intC w cv c) (hrv : RowsV racC w rv rs) :
    ∃ x w', (run Tryz.prog ov (m + 3)).call 32 [.agg ⟨seaC s dv cv⟩, rv, .int .i64 (D : Nat), .bool bt] w .none = .ok (.ret x) w' .none ∧ x = .int .i64 (flG s l c rs bt D) ∧ Old w.next w.heap w'.heap ∧ w.next ≤ w'.next ∧ w'.lim = w.lim := by
  refine call_wp text32 (by simp) (ho _ _) ?_
  have h8 : rs.length ≤ 8 := by simp only [racB, Bool.and_eq_true, decide_eq_true_eq] at hR; exact hR.1
  obtain ⟨hdd, hcB, hs, _, _⟩ := sea_zero hE
  have h40 := (days_len hdd).2
  have hcl := cuts_len (by omega) hcB
  obtain ⟨w1, ew1⟩ : ∃ w1 : AW, w1 = ⟨w.heap.put w.next (some (.cells (seaC s dv cv) 29 false)), w.next + 1, w.lim⟩ := ⟨_, rfl⟩
  have o1 : Old w.next w.heap w1.heap := by rw [ew1]; exact (Old.refl _ _).put (Nat.le_refl _)
  have n1 : w1.next = w.next + 1 := by rw [ew1]
  have l1 : w1.lim = w.lim := by rw [ew1]
  have g1 : w1.heap.get w.next = some (.cells (seaC s dv cv) 29 false) := by rw [ew1]; simp
  obtain ⟨hv, w2, c26, B, hacc, o2, n2, l2⟩ := call26 (ov := ov) m ho26 h56 (fun L x u w hL hu => H50_of h57 m L x u w hL hu) s hs l h40 c (by omega) dv cv cv w1 (by omega) (hdv.old o1 (by omega)) (hcv.old o1 (by omega))
  have hhv := acc_rows hacc
  have g2 : w2.heap.get w.next = some (.cells (seaC s dv cv) 29 false) := by rw [o2 _ (by omega)]; exact g1
  obtain ⟨w3, ew3⟩ : ∃ w3 : AW, w3 = ⟨(w2.heap.put w2.next (some (.cells [.int .i64 (-1)] 3 false))).put (w2.next + 1) (some (.cells [.int .i64 0] 3 false)), w2.next + 1 + 1, w2.lim⟩ := ⟨_, rfl⟩
  have k3 : ∀ x, x < w2.next → w3.heap.get x = w2.heap.get x := fun x hx => by rw [ew3]; simp [show ¬ x = w2.next by omega, show ¬ x = w2.next + 1 by omega]
  have n3 : w3.next = w2.next + 2 := by rw [ew3]
  have l3 : w3.lim = w2.lim := by rw [ew3]
  have I3 : In32 w (seaC s dv cv) (PdS bt rs D (gvH s l (shL s c l.length)) 0) (.slice (some ⟨w2.next, 0, none⟩) 1 1) (.slice (some ⟨w2.next + 1, 0, none⟩) 1 1) w3 := by
    refine ⟨fun x hx => ?_, ?_, .inr ⟨w2.next, 0, none, 1, rfl, ⟨[], [], 3, false, ?_, rfl⟩, by omega⟩, .inr ⟨w2.next + 1, 0, none, 1, rfl, ⟨[], [], 3, false, ?_, rfl⟩, by omega⟩, by omega, by omega⟩
    · rw [k3 x (by omega), o2 x (by omega), o1 x hx]
    · rw [k3 _ (by omega)]; exact g2
    · rw [ew3]; simp [PdS, intC]
    · rw [ew3]; simp [PdS, intC]
  have key := fun Q t => loop32d (ov := ov) m ho27 h57 h58 h61 bt s l c hE rs h8 D hD dv cv rv hv w hl hdv hrv w2 (fun x hx => by rw [o2 x (by omega), o1 x hx]) (by omega) hhv Q t w3 k3 (by omega)
  rw [ew1] at c26
  rw [ew3] at key I3
  have nj := row_notJunk hhv
  simp only [seaC] at c26 g2
  simp [mc32, seaC, cellsOf_agg, c26, g2, nj]
  refine wp_seqX (wp_blockX (key _ _ ?_ ?_ ?_ ?_ ?_ ?_ ?_ ?_))
  case _ => simpa using I3
  case _ => simp
  case _ => simp
  case _ => simp
  case _ => simp
  case _ => simp
  case _ => simp
  case _ =>
    intro t w4 hI t3
    obtain ⟨Bs, hBs⟩ : ∃ Bs, Bs = (PdS bt rs D (gvH s l (shL s c l.length)) (D + 1)).map (·.2) := ⟨_, rfl⟩
    have rb := hI.rb
    rw [← hBs] at rb
    have hne : 0 < Bs.length := by
      have h0 := Pd_ne (bt := bt) hE hR hD
      rw [hBs, List.length_map]
      exact List.length_pos_iff.2 h0
    have hBl : Bs.length ≤ 2001 := by rw [hBs, List.length_map]; exact Pd_len h8 (gvH_nn hE) (D + 1) (by omega)
    obtain ⟨b0, hb0⟩ : ∃ b0, Bs[0]? = some b0 := ⟨_, List.getElem?_eq_getElem hne⟩
    have hhd : Bs.headD 0 = b0 := by
      cases Bs with
      | nil => simp at hne
      | cons x B => simpa using hb0
    have hend := end_eq hE hR bt hD
    rw [← hBs] at hend
    unfold bstL at hend
    rw [hhd] at hend
    have hln := fun w => len27V rb w
    have hn := hI.next
    have hlm := hI.lim
    have hold := hI.old
    obtain ⟨bv, hbv⟩ : ∃ v, v = tget t 11 := ⟨_, rfl⟩
    rw [← hbv] at rb hln
    have t11 := hbv.symm
    obtain ⟨bb, boff, bsq, bc, rfl, hbr⟩ := rb.at_ 0 hne
    have lb0 := hbr.int hb0
    simp only [Nat.add_zero] at lb0
    have ia0 := fun w => ia27 w ⟨bb, boff, bsq⟩ Bs.length bc .i64 0 hne
    simp only [Nat.zero_mul, Int.natCast_zero] at ia0
    simp [t3, t11, ia0, lb0]
    refine wp_seqX (wp_blockX (wp_rounds (fun i t' w' => w' = w4 ∧ tget t' 3 = .bool bt ∧ tget t' 11 = .slice (some ⟨bb, boff, bsq⟩) Bs.length bc ∧ tget t' 21 = .int .i64 ((Bs.take i).foldl (b2 bt) b0) ∧ tget t' 22 = .int .i64 (i : Nat) ∧ i ≤ Bs.length) 5000 (by decide) ⟨rfl, by simp [t3], by simp [t11], by simp, by simp, Nat.zero_le _⟩ ?_))
    rintro i t' w' ⟨rfl, t3, t11, t21, t22, hi⟩
    by_cases hlt : i < Bs.length
    · obtain ⟨y, hy⟩ : ∃ y, Bs[i]? = some y := ⟨_, List.getElem?_eq_getElem hlt⟩
      have ly := hbr.int hy
      have iay := fun w => ia27 w ⟨bb, boff, bsq⟩ Bs.length bc .i64 i hlt
      have wwi : IntKind.wrap .i64 ((i : Int) + 1) = (i : Int) + 1 := wrap64_in (by omega) (by omega)
      have e : (Bs.take (i + 1)).foldl (b2 bt) b0 = b2 bt ((Bs.take i).foldl (b2 bt) b0) y := by rw [List.take_add_one, hy, List.foldl_append]; rfl
      cases bt with
      | true =>
        simp only [b2, if_true] at e
        simp [mc32_l3, t3, t11, t21, t22, hlt, iay, ly, wwi, e, b2]
        omega
      | false =>
        simp only [b2, Bool.false_eq_true, if_false] at e
        simp [mc32_l3, t3, t11, t21, t22, hlt, iay, ly, wwi, e, b2]
        omega
    · have hi' : i = Bs.length := by omega
      subst hi'
      rw [List.take_length, hend] at t21
      simp [mc32_l3, t11, t21, t22, tupV]
      exact ⟨hold, by omega, hlm⟩
end Go.Proofs.YtimnfedgbkgdeaaGreatDoor.walk
