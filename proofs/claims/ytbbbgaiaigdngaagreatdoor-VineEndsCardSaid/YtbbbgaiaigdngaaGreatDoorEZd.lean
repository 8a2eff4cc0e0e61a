/- Part of a proof by a machine of ones own: see the text with the theorem. -/
import Derived.Test.YtbbbgaiaigdngaaGreatDoorEZc
import Derived.Test.YtbbbgaiaigdngaaGreatDoorEVc
import Derived.Test.YtbbbgaiaigdngaaGreatDoorEWe
namespace Go.Proofs.YtbbbgaiaigdngaaGreatDoor.walk
open Go Go.Sh
set_option maxRecDepth 100000
set_option linter.unusedSimpArgs false
set_option linter.unusedVariables false
/-! law 5 -/
noncomputable def mc5_r3 : MC := .seq (.seq (.ops [⟨false, none, some 182, 30, .move (.tmp 1)⟩, ⟨false, none, some 183, 3, .call ⟨.builtin .len, #[.tmp 182], #[30]⟩⟩, ⟨false, none, some 184, 4, .binOp .gtr 3 (.tmp 183) (.const (.int .i64 0)) 3⟩]) (.cond (.tmp 184) (.seq (.seq (.ops [⟨true, none, some 186, 29, .load 29 (.tmp 7)⟩]) (.seq (.ops [⟨true, none, some 187, 30, .move (.tmp 1)⟩]) (.seq (.ops [⟨true, none, some 188, 0, .indexAddr 30 (.tmp 187) (.const (.int .i64 0))⟩]) (.seq (.ops [⟨true, none, some 189, 32, .load 32 (.tmp 188)⟩]) (.seq (.ops [⟨true, none, some 22, 0, .alloc 24⟩]) (.seq (.chk [⟨true, none, some 189, 32, .load 32 (.tmp 188)⟩, ⟨true, none, some 186, 29, .load 29 (.tmp 7)⟩]) (.seq (.ops [⟨false, none, some 190, 34, .call ⟨.value (.func 6), #[.tmp 186, .tmp 189], #[29, 32]⟩⟩]) (.seq (.ops [⟨true, none, some 185, 34, .move (.tmp 190)⟩]) (.seq (.ops [⟨true, none, some 191, 24, .extract (.tmp 185) 0⟩]) (.seq (.ops [⟨true, none, some 192, 33, .extract (.tmp 185) 1⟩]) (.seq (.ops [⟨false, none, none, 0, .store 24 (.tmp 22) (.tmp 191)⟩]) (.seq (.ops [⟨true, none, some 23, 33, .assign (.tmp 192)⟩]) (.chk []))))))))))))) (.seq (.seq (.ops [⟨true, none, some 193, 33, .move (.tmp 23)⟩]) (.seq (.ops [⟨true, none, some 194, 4, .binOp .neq 33 (.tmp 193) (.const (.int .i64 0)) 33⟩]) (.seq (.ops [⟨true, none, some 195, 4, .move (.tmp 194)⟩]) (.seq (.ops [⟨true, some (195, false), some 196, 24, .load 24 (.tmp 22)⟩]) (.seq (.ops [⟨true, some (195, false), some 197, 3, .move (.tmp 16)⟩]) (.seq (.ops [⟨true, some (195, false), some 198, 3, .move (.tmp 17)⟩]) (.seq (.ops [⟨false, some (195, false), some 199, 24, .call ⟨.value (.func 19), #[.tmp 197, .tmp 198], #[3, 3]⟩⟩]) (.seq (.ops [⟨true, some (195, false), some 200, 4, .binOp .neq 24 (.tmp 196) (.tmp 199) 24⟩]) (.seq (.ops [⟨true, none, some 201, 4, .pick (.tmp 195) (.const (.bool true)) (.tmp 200)⟩]) (.chk [⟨true, some (195, false), some 196, 24, .load 24 (.tmp 22)⟩])))))))))) (.cond (.tmp 201) (.seq (.ops [⟨false, none, some 6, 4, .assign (.const (.bool false))⟩]) (.ret)) (.skip)))) (.skip))) (.seq (.ops [⟨false, none, some 202, 4, .move (.tmp 14)⟩, ⟨false, none, some 203, 4, .move (.tmp 202)⟩, ⟨false, some (203, true), some 204, 4, .move (.tmp 15)⟩, ⟨false, none, some 205, 4, .pick (.tmp 203) (.tmp 204) (.const (.bool false))⟩, ⟨false, none, some 206, 4, .move (.tmp 205)⟩, ⟨false, some (206, true), some 207, 4, .call ⟨.value (.func 10), #[], #[]⟩⟩, ⟨false, none, some 208, 4, .pick (.tmp 206) (.tmp 207) (.const (.bool false))⟩, ⟨false, none, some 6, 4, .assign (.tmp 208)⟩]) (.ret))
noncomputable def mc5_r2 : MC := .seq (.ops [⟨false, none, some 113, 29, .load 29 (.tmp 7)⟩, ⟨false, none, some 114, 51, .call ⟨.value (.func 17), #[.tmp 113], #[29]⟩⟩, ⟨false, none, some 13, 51, .assign (.tmp 114)⟩]) (.seq (.ops [⟨false, none, some 14, 4, .assign (.const (.bool false))⟩, ⟨false, none, some 15, 4, .assign (.const (.bool false))⟩]) (.seq (.ops [⟨false, none, some 115, 0, .fieldAddr 29 (.tmp 7) 0⟩, ⟨false, none, some 116, 22, .load 22 (.tmp 115)⟩, ⟨false, none, some 117, 3, .call ⟨.builtin .len, #[.tmp 116], #[22]⟩⟩, ⟨false, none, some 16, 3, .assign (.tmp 117)⟩, ⟨false, none, some 17, 3, .assign (.const (.int .i64 0))⟩]) (.seq (.seq (.ops [⟨false, none, some 18, 3, .assign (.const (.int .i64 0))⟩]) (.block 4 (.loop mc5_l2))) mc5_r3)))
noncomputable def mc5_r1 : MC := .seq (.ops [⟨false, none, some 94, 3, .move (.tmp 2)⟩, ⟨false, none, some 95, 0, .fieldAddr 29 (.tmp 7) 0⟩, ⟨false, none, some 96, 22, .load 22 (.tmp 95)⟩, ⟨false, none, some 97, 3, .call ⟨.builtin .len, #[.tmp 96], #[22]⟩⟩, ⟨false, none, some 98, 3, .call ⟨.value (.func 16), #[.tmp 94, .tmp 97], #[3, 3]⟩⟩, ⟨false, none, some 2, 3, .assign (.tmp 98)⟩]) (.seq (.ops [⟨false, none, some 100, 29, .load 29 (.tmp 7)⟩, ⟨false, none, some 101, 30, .move (.tmp 1)⟩, ⟨false, none, some 102, 3, .move (.tmp 2)⟩, ⟨false, none, some 103, 34, .call ⟨.value (.func 8), #[.tmp 100, .tmp 101, .tmp 102], #[29, 30, 3]⟩⟩, ⟨false, none, some 99, 34, .move (.tmp 103)⟩, ⟨false, none, some 104, 24, .extract (.tmp 99) 0⟩, ⟨false, none, some 105, 33, .extract (.tmp 99) 1⟩, ⟨false, none, some 11, 0, .alloc 24⟩, ⟨false, none, none, 0, .store 24 (.tmp 11) (.tmp 104)⟩, ⟨false, none, some 12, 33, .assign (.tmp 105)⟩]) (.seq (.seq (.ops [⟨false, none, some 106, 33, .move (.tmp 12)⟩, ⟨false, none, some 107, 4, .binOp .neq 33 (.tmp 106) (.const (.int .i64 0)) 33⟩]) (.cond (.tmp 107) (.seq (.ops [⟨false, none, some 108, 33, .move (.tmp 12)⟩, ⟨false, none, some 109, 4, .binOp .eql 33 (.tmp 108) (.const (.int .i64 11)) 33⟩, ⟨false, none, some 110, 4, .move (.tmp 109)⟩, ⟨false, some (110, true), some 111, 4, .call ⟨.value (.func 10), #[], #[]⟩⟩, ⟨false, none, some 112, 4, .pick (.tmp 110) (.tmp 111) (.const (.bool false))⟩, ⟨false, none, some 6, 4, .assign (.tmp 112)⟩]) (.ret)) (.skip))) mc5_r2))
theorem mc5_eq : mc5 = .seq (.ops [⟨false, none, some 3, 0, .box 29 (.tmp 0)⟩, ⟨false, none, some 6, 4, .assign (.const (.bool false))⟩]) (.seq (.seq (.ops [⟨false, none, some 24, 29, .load 29 (.tmp 3)⟩, ⟨false, none, some 25, 4, .call ⟨.value (.func 11), #[.tmp 24], #[29]⟩⟩, ⟨false, none, some 26, 4, .unOp .not 4 (.tmp 25)⟩, ⟨false, none, some 27, 4, .move (.tmp 26)⟩, ⟨false, some (27, false), some 28, 30, .move (.tmp 1)⟩, ⟨false, some (27, false), some 29, 3, .call ⟨.builtin .len, #[.tmp 28], #[30]⟩⟩, ⟨false, some (27, false), some 30, 4, .binOp .gtr 3 (.tmp 29) (.const (.int .i64 8)) 3⟩, ⟨false, none, some 31, 4, .pick (.tmp 27) (.const (.bool true)) (.tmp 30)⟩]) (.cond (.tmp 31) (.seq (.ops [⟨false, none, some 32, 4, .call ⟨.value (.func 10), #[], #[]⟩⟩, ⟨false, none, some 6, 4, .assign (.tmp 32)⟩]) (.ret)) (.skip))) (.seq (.ops [⟨false, none, some 33, 29, .load 29 (.tmp 3)⟩, ⟨false, none, some 7, 0, .alloc 29⟩, ⟨false, none, none, 0, .store 29 (.tmp 7) (.tmp 33)⟩]) (.seq (.ops [⟨false, none, some 34, 0, .fieldAddr 29 (.tmp 7) 4⟩, ⟨false, none, none, 0, .store 27 (.tmp 34) (.const (.slice none 0 0))⟩]) (.seq (.ops [⟨false, none, some 35, 0, .fieldAddr 29 (.tmp 7) 0⟩, ⟨false, none, none, 0, .store 22 (.tmp 35) (.const (.slice none 0 0))⟩]) (.seq (.seq (.ops [⟨false, none, some 8, 3, .assign (.const (.int .i64 0))⟩]) (.block 0 (.loop mc5_l0))) (.seq (.seq (.ops [⟨false, none, some 10, 3, .assign (.const (.int .i64 0))⟩]) (.block 2 (.loop mc5_l1))) mc5_r1)))))) := rfl

theorem rac_one {r : Rac} {rs : List Rac} (h : racB (r :: rs) = true) : racB [r] = true := by
  simp only [racB, Bool.and_eq_true, decide_eq_true_eq] at h ⊢
  refine ⟨by simp, ?_⟩
  have key : ∀ n, n ≤ (r :: rs).length → racTo (r :: rs) n = true → 1 ≤ n → racTo (r :: rs) 1 = true := by
    intro n
    induction n with
    | zero => intro _ _ h; omega
    | succ n ih =>
      intro hn hc h1
      by_cases h0 : n = 0
      · subst h0; exact hc
      · refine ih (by omega) ?_ (by omega)
        simp only [racTo, Bool.and_eq_true] at hc
        exact hc.1
  have := key _ (Nat.le_refl _) h.2 (by simp)
  simpa [racTo] using this

theorem same4_int (k : IntKind) (a : Int) : sameVal 4 (.int k a) (.int k a) = true := by
  show (sameK k k && intEq a a) = true
  simp [sameK_refl, intEq_eq]
theorem same4_slice (a : Option Addr) (n c : Nat) : sameVal 4 (.slice a n c) (.slice a n c) = true := by
  show ((a == a) && (Nat.beq n n && Nat.beq c c)) = true
  simp
theorem sea_singles {s : Sea} {vD vC : Value} {l : List Day} {c : List Int} {w : AW} (hv : RowsV dayC w vD l) (hu : RowsV intC w vC c) : ∀ v ∈ seaC s vD vC, sameVal 4 v v = true := fun v h => by
  obtain ⟨a1, c1, rfl⟩ := hv.len
  obtain ⟨a2, c2, rfl⟩ := hu.len
  simp only [seaC, List.mem_cons, List.not_mem_nil, or_false] at h
  rcases h with rfl | rfl | rfl | rfl | rfl | rfl | rfl | rfl | rfl
  all_goals first | exact same4_int _ _ | exact same4_slice _ _ _
set_option maxHeartbeats 4000000 in
theorem tail3 {ov : Ov} (h6 : HasP ov 6 F6) (h19 : HasP ov 19 F19) (hW : HasW ov) (s : Sea) (l : List Day) (c : List Int) (rs : List Rac) (hE : seaE s l c = 0) (hR : racB rs = true) (vD vC rv : Value) (w : AW) (hl : w.lim ≤ w.next) (h7n : 7 ≤ w.next) (hlaid : hasAll w laidL = true) (hv : RowsV dayC w vD l) (hu : RowsV intC w vC c) (hrv : RowsV racC w rv rs) (nx : Nat) (hnx : nx < w.next) (gx : w.heap.get nx = some (.cells (seaC s vD vC) 29 false)) (f1 f2 : Int) (hf : ∀ r rs', rs = r :: rs' → f1 = oA s l c r ∧ f2 = oB s l c r)
    (Q : Ex → Tm → AW → Prop) (t : Tm) (t1 : tget t 1 = rv) (t7 : tget t 7 = .pointer (some ⟨nx, 0, none⟩)) (t14 : tget t 14 = .bool true) (t15 : tget t 15 = .bool true) (t16 : tget t 16 = .int .i64 f1) (t17 : tget t 17 = .int .i64 f2)
    (hQ : ∀ t w, tget t 6 = .bool true → Q .ret t w) : wp (exM Tryz.prog (run Tryz.prog ov 99) mc5_r3 t w) Q := by
  have hlr := fun w => len30V hrv w
  cases rs with
  | nil =>
    have kW := ruleW hW hlaid 98
    simp only [List.length_nil, Int.natCast_zero] at hlr
    simp [mc5_r3, t1, t14, t15, hlr, kW]
    exact hQ _ _ (by simp)
  | cons r rs' =>
    obtain ⟨e1, e2⟩ := hf r rs' rfl
    obtain ⟨br, or', sr, cr, er, hrr⟩ := hrv.at_ 0 (by simp)
    have ldr := hrr.rd racC_length (i := 0) (a := r) rfl
    simp only [Nat.zero_mul, Nat.add_zero] at ldr
    have iar : ∀ w : AW, indexAddrA Tryz.prog w 30 rv (.int .i64 0) = .val (.pointer (some ⟨br, or', sr⟩)) w := fun w => by
      rw [er]
      exact ia30 w ⟨br, or', sr⟩ (r :: rs').length cr .i64 0 (by simp)
    obtain ⟨nr, hnr⟩ : ∃ nr, nr = (r :: rs').length := ⟨_, rfl⟩
    rw [← hnr] at hlr
    have hnp : 0 < nr := by rw [hnr]; simp
    have hR1 : racB [r] = true := rac_one hR
    have hB : oE s l c r = 0 := by unfold oE bothE; rw [if_pos hE, if_pos hR1]
    have z1 : ¬ br = w.next := by have := hrr.2; omega
    have z2 : ¬ nx = w.next := by omega
    obtain ⟨w1, hw1⟩ : ∃ w1 : AW, w1 = ⟨w.heap.put w.next (some (.cells [.int .i64 0, .int .i64 0] 24 false)), w.next + 1, w.lim⟩ := ⟨_, rfl⟩
    have o1 : ∀ x, x < w.next → w1.heap.get x = w.heap.get x := fun x hx => by rw [hw1]; simp [show ¬ x = w.next by omega]
    have r6 := rule6 h6 r (s := s) (w := w1) (hv.old o1 (by rw [hw1]; exact Nat.le_succ _)) (hu.old o1 (by rw [hw1]; exact Nat.le_succ _)) 98
    rw [hB, ← e1, ← e2] at r6
    have r19 := fun w => rule19 h19 f1 f2 98 w
    have kW : ∀ x y : Int, (run Tryz.prog ov 99).call 10 [] ⟨(w.heap.put w.next (some (.cells [.int .i64 0, .int .i64 0] 24 false))).put w.next (some (.cells [.int .i64 x, .int .i64 y] 24 false)), w.next + 1, w.lim⟩ .none = .ok (.ret (.bool true)) ⟨(w.heap.put w.next (some (.cells [.int .i64 0, .int .i64 0] 24 false))).put w.next (some (.cells [.int .i64 x, .int .i64 y] 24 false)), w.next + 1, w.lim⟩ .none := fun x y => ruleW hW (by
      rw [← hlaid]
      refine hasAll_congr _ fun z hz => ?_
      have := laid_lt z hz
      show ((w.heap.put _ _).put _ _).get z.1 = _
      rw [get_put, if_neg (by omega), get_put, if_neg (by omega)]) 98
    rw [hw1] at r6
    have s1 : sameVal 5 (.agg ⟨seaC s vD vC⟩) (.agg ⟨seaC s vD vC⟩) = true := same_agg _ (sea_singles hv hu)
    have s2 : sameVal 5 (.agg ⟨racC r⟩) (.agg ⟨racC r⟩) = true := same_agg _ (by
      intro v hv
      simp only [racC, List.mem_cons, List.not_mem_nil, or_false] at hv
      rcases hv with rfl | rfl <;> exact same4_int _ _)
    have s3 : sameVal 5 (.agg ⟨[.int .i64 f1, .int .i64 f2]⟩) (.agg ⟨[.int .i64 f1, .int .i64 f2]⟩) = true := same_agg _ (by
      intro v hv
      simp only [List.mem_cons, List.not_mem_nil, or_false] at hv
      rcases hv with rfl | rfl <;> exact same4_int _ _)
    simp only [seaC, racC] at gx ldr r6 s1 s2
    simp [mc5_r3, t1, t7, t14, t15, t16, t17, hlr, hnp, gx, iar, ldr, z1, z2, s1, s2, s3, r6, r19, eq_dk, hl, kW]
    exact hQ _ _ (by simp)
set_option maxHeartbeats 4000000 in
theorem tail2 {ov : Ov} (hN : None8 ov) (ho13 : ∀ args w, ov 13 args w = none) (ho14 : ∀ args w, ov 14 args w = none) (ho17 : ∀ args w, ov 17 args w = none) (ho18 : ∀ args w, ov 18 args w = none) (ho47 : ∀ args w, ov 47 args w = none) (ho48 : ∀ args w, ov 48 args w = none) (ho49 : ∀ args w, ov 49 args w = none) (h23 : HasP ov 23 F23) (h43 : HasP ov 43 F43) (h46 : HasP ov 46 F46) (h19 : HasP ov 19 F19) (hW : HasW ov) (s : Sea) (l : List Day) (c : List Int) (rs : List Rac) (hE : seaE s l c = 0) (hR : racB rs = true) (h3 : l.length ≤ 3) (hd3 : ∀ (i : Nat) d, l[i]? = some d → (d.wh - d.wl + 1).toNat ≤ 3) (D : Nat) (hD : D < l.length) (vD vC rv : Value) (w : AW) (hl : w.lim ≤ w.next) (h7n : 7 ≤ w.next) (hlaid : hasAll w laidL = true) (hv : RowsV dayC w vD l) (hu : RowsV intC w vC c) (hrv : RowsV racC w rv rs) (nx nb : Nat) (hnx : nx < w.next) (hnb : nb < w.next) (gx : w.heap.get nx = some (.cells (seaC s vD vC) 29 false)) (gb : w.heap.get nb = some (.cells [.int .i64 (flG s l c rs false D), .int .i64 (flG s l c rs true D)] 24 false))
    (Q : Ex → Tm → AW → Prop) (t : Tm) (t1 : tget t 1 = rv) (t2 : tget t 2 = .int .i64 (D : Nat)) (t7 : tget t 7 = .pointer (some ⟨nx, 0, none⟩)) (t11 : tget t 11 = .pointer (some ⟨nb, 0, none⟩))
    (hQ : ∀ t w, tget t 6 = .bool true → Q .ret t w) : wp (exM Tryz.prog (run Tryz.prog ov 99) mc5_r2 t w) Q := by
  obtain ⟨f1, f2⟩ := sea_facts hE
  have hsz : ∀ k, k < l.length → (edL l k).length ≤ 588 := fun k hk => by
    have := edL_few hd3 h3 k (by omega)
    have h2 : 6 ^ k ≤ 6 ^ 2 := Nat.pow_le_pow_right (by decide) (by omega)
    have h4 : (6 : Nat) ^ 2 = 36 := by decide
    omega
  obtain ⟨v13, w1, c17, hout, hO⟩ := call17 (ov := ov) 97 ho17 ho49 s vD vC l (by omega) f2 hsz w hl hv
  have hn1 := hO.next
  have hm1 := hO.lim
  have gx1 := hO.old nx hnx
  rw [gx] at gx1
  have gb1 := hO.old nb hnb
  rw [gb] at gb1
  have hdl := fun w => len22V hv w
  have hle : (edL l l.length).length ≤ 1000 := by
    have := edL_few hd3 h3 l.length (Nat.le_refl _)
    have h2 : 6 ^ l.length ≤ 6 ^ 3 := Nat.pow_le_pow_right (by decide) h3
    have h4 : (6 : Nat) ^ 3 = 216 := by decide
    omega
  obtain ⟨a13, c13, e13⟩ : ∃ a n c, v13 = .slice a n c := by
    obtain ⟨out, B, h1, _⟩ := hout
    obtain ⟨a, cc, e⟩ := h1.len
    exact ⟨a, _, cc, e⟩
  have key := fun Q t => loop5c (ov := ov) 95 ho13 ho14 ho18 hN.o21 ho48 ho47 hN.p20 h23 h43 h46 hN.p51 hN.p52 hN.p77 s l c rs hE hR D hD (flG s l c rs false D) (flG s l c rs true D) vD vC rv v13 (edL l l.length) (fun p hp => edge_tr f2 (edge_mem.1 (show (p.1, p.2) ∈ _ from hp))) hle w1 (by omega) (hv.old hO.old hn1) (hu.old hO.old hn1) (hrv.old hO.old hn1) hout nx nb (by omega) (by omega) gx1 gb1 Q t
  simp only [seaC] at gx gx1 c17
  simp [mc5_r2, t1, t2, t7, t11, gx, c17, gx1, hdl]
  refine wp_seqX (wp_blockX (key _ _ ?_ ?_ ?_ ?_ ?_ ?_ ?_ ?_ ?_ ?_ ?_))
  case _ => simp [t1]
  case _ => simp [t2]
  case _ => simp [t7]
  case _ => simp [t11]
  case _ => simp
  case _ => simp
  case _ => simp
  case _ => simp
  case _ => simp
  case _ => simp
  case _ =>
    intro t w2 hO2 s1 s7 s14 s15 s16 s17
    have hn2 := hO2.next
    have hm2 := hO2.lim
    have hO3 : ∀ x, x < w.next → w2.heap.get x = w.heap.get x := fun x hx => by rw [hO2.old x (by omega), hO.old x hx]
    rw [ends_any hE hR false hD] at s14
    rw [ends_any hE hR true hD] at s15
    simp
    refine tail3 hN.p6 h19 hW s l c rs hE hR vD vC rv w2 (by omega) (by omega) ?_ (hv.old hO3 (by omega)) (hu.old hO3 (by omega)) (hrv.old hO3 (by omega)) nx (by omega) ?_ _ _ ?_ Q t s1 s7 s14 s15 s16 s17 hQ
    · rw [← hlaid]
      exact hasAll_congr _ fun x hx => hO3 _ (by have := laid_lt x hx; omega)
    · rw [hO3 _ hnx]; simp only [seaC]; exact gx
    · intro r rs' e
      subst e
      rw [ends_open hE r rs' hR (rac_one hR)]
      exact ⟨rfl, rfl⟩
end Go.Proofs.YtbbbgaiaigdngaaGreatDoor.walk

namespace Go.Proofs.YtbbbgaiaigdngaaGreatDoor.walk
open Go Go.Sh
set_option maxRecDepth 100000
set_option linter.unusedSimpArgs false
set_option linter.unusedVariables false
structure None5 (ov : Ov) : Prop where
  n8 : None8 ov
  o5 : ∀ args w, ov 5 args w = none
  o13 : ∀ args w, ov 13 args w = none
  o14 : ∀ args w, ov 14 args w = none
  o17 : ∀ args w, ov 17 args w = none
  o18 : ∀ args w, ov 18 args w = none
  o47 : ∀ args w, ov 47 args w = none
  o48 : ∀ args w, ov 48 args w = none
  o49 : ∀ args w, ov 49 args w = none
  p11 : HasP ov 11 F11
  p16 : HasP ov 16 F16
  p19 : HasP ov 19 F19
  p23 : HasP ov 23 F23
  p43 : HasP ov 43 F43
  p46 : HasP ov 46 F46
set_option maxHeartbeats 4000000 in
theorem tail1 {ov : Ov} (hN : None5 ov) (hW : HasW ov) (s : Sea) (l : List Day) (c : List Int) (rs : List Rac) (hE : seaE s l c = 0) (h1l : 1 ≤ l.length) (h3 : l.length ≤ 3) (hd3 : ∀ (i : Nat) d, l[i]? = some d → (d.wh - d.wl + 1).toNat ≤ 3) (D0 : Int) (vD vC rv : Value) (w : AW) (hl : w.lim ≤ w.next) (h7n : 7 ≤ w.next) (hlaid : hasAll w laidL = true) (hv : RowsV dayC w vD l) (hu : RowsV intC w vC c) (hrv : RowsV racC w rv rs) (nx : Nat) (hnx : nx < w.next) (gx : w.heap.get nx = some (.cells (seaC s vD vC) 29 false))
    (Q : Ex → Tm → AW → Prop) (t : Tm) (t1 : tget t 1 = rv) (t2 : tget t 2 = .int .i64 D0) (t7 : tget t 7 = .pointer (some ⟨nx, 0, none⟩))
    (hQ : ∀ t w, tget t 6 = .bool true → Q .ret t w) : wp (exM Tryz.prog (run Tryz.prog ov 99) mc5_r1 t w) Q := by
  have hb := wrapI_bd (n := D0) (s := (l.length : Int)) (by omega)
  obtain ⟨D, hD⟩ : ∃ D : Nat, wrapI D0 (l.length : Int) = (D : Int) := ⟨_, (Int.toNat_of_nonneg hb.1).symm⟩
  have hDl : D < l.length := by omega
  have r16 := rule16 hN.p16 D0 (s := (l.length : Int)) (by omega) 98 w
  rw [hD] at r16
  have hdl := fun w => len22V hv w
  obtain ⟨ro, gS⟩ := start_of hlaid
  obtain ⟨_, w1, c8, rfl, o1, n1, l1⟩ := call8g (ov := ov) 92 hN.n8 s l c rs (D : Int) vD vC rv w hl (by omega) hv hu hrv ro gS
  obtain ⟨x1, hx1⟩ : ∃ a, a = flV s l c rs false (D : Int) := ⟨_, rfl⟩
  obtain ⟨x2, hx2⟩ : ∃ a, a = flV s l c rs true (D : Int) := ⟨_, rfl⟩
  rw [← hx1, ← hx2] at c8
  obtain ⟨w2, hw2⟩ : ∃ w2 : AW, w2 = ⟨(w1.heap.put w1.next (some (.cells [.int .i64 0, .int .i64 0] 24 false))).put w1.next (some (.cells [.int .i64 x1, .int .i64 x2] 24 false)), w1.next + 1, w1.lim⟩ := ⟨_, rfl⟩
  have o2 : ∀ x, x < w.next → w2.heap.get x = w.heap.get x := fun x hx => by
    rw [hw2]
    show ((w1.heap.put _ _).put _ _).get x = _
    rw [get_put, if_neg (by omega), get_put, if_neg (by omega), o1 x hx]
  have n2 : w2.next = w1.next + 1 := by rw [hw2]
  have l2 : w2.lim = w1.lim := by rw [hw2]
  have hlaid2 : hasAll w2 laidL = true := by
    rw [← hlaid]
    exact hasAll_congr _ fun z hz => o2 _ (by have := laid_lt z hz; omega)
  have lw1 : w1.lim ≤ w1.next := by omega
  cases hR : racB rs with
  | true =>
    have hB : bothE s l c rs = 0 := by unfold bothE; rw [if_pos hE, if_pos hR]
    have hin : inI 0 (D : Int) ((l.length : Int) - 1) = true := by simp [inI]; omega
    have hfl : flE s l c rs (D : Int) = 0 := by unfold flE; rw [if_pos hB, if_pos hin]
    have v1 : x1 = flG s l c rs false D := by rw [hx1]; unfold flV; rw [if_pos hfl]; rfl
    have v2 : x2 = flG s l c rs true D := by rw [hx2]; unfold flV; rw [if_pos hfl]; rfl
    rw [hfl] at c8
    have key := fun t => tail2 (ov := ov) hN.n8 hN.o13 hN.o14 hN.o17 hN.o18 hN.o47 hN.o48 hN.o49 hN.p23 hN.p43 hN.p46 hN.p19 hW s l c rs hE hR h3 hd3 D hDl vD vC rv w2 (by omega) (by omega) hlaid2 (hv.old o2 (by omega)) (hu.old o2 (by omega)) (hrv.old o2 (by omega)) nx w1.next (by omega) (by omega) (by rw [o2 _ hnx]; exact gx) (by rw [hw2, v1, v2]; simp) Q t
    simp only [seaC] at gx c8
    simp [mc5_r1, t1, t2, t7, gx, hdl, r16, c8, lw1]
    rw [← hw2]
    refine key _ ?_ ?_ ?_ ?_ hQ
    · simp [t1]
    · simp
    · simp [t7]
    · simp
  | false =>
    have hB : bothE s l c rs = 11 := by unfold bothE; rw [if_pos hE, hR]; rfl
    have hfl : flE s l c rs (D : Int) = 11 := by unfold flE; rw [if_neg (by rw [hB]; decide), hB]
    rw [hfl] at c8
    have kW := ruleW hW hlaid2 98
    rw [hw2] at kW
    simp only [seaC] at gx c8
    simp [mc5_r1, t1, t2, t7, gx, hdl, r16, c8, lw1, kW]
    exact hQ _ _ (by simp)
set_option maxHeartbeats 4000000 in
theorem run5 {ov : Ov} (hN : None5 ov) (hW : HasW ov) (s : Sea) (l : List Day) (c : List Int) (rs : List Rac) (D0 : Int) (dv cv rv : Value) (w : AW) (hl : w.lim ≤ w.next) (h7n : 7 ≤ w.next) (hlaid : hasAll w laidL = true) (hv : RowsV dayC w dv l) (hu : RowsV intC w cv c) (hrv : RowsV racC w rv rs) :
    ∃ x w', (run Tryz.prog ov 100).call 5 [.agg ⟨seaC s dv cv⟩, rv, .int .i64 D0] w .none = .ok (.ret x) w' .none ∧ x = .bool true := by
  refine call_wp text5 (by simp) (hN.o5 _ _) ?_
  obtain ⟨w1, hw1⟩ : ∃ w1 : AW, w1 = ⟨w.heap.put w.next (some (.cells (seaC s dv cv) 29 false)), w.next + 1, w.lim⟩ := ⟨_, rfl⟩
  have b1 : w1.heap.get w.next = some (.cells (seaC s dv cv) 29 false) := by rw [hw1]; simp
  have n1 : w1.next = w.next + 1 := by rw [hw1]
  have l1 : w1.lim = w.lim := by rw [hw1]
  have o1 : ∀ x, x < w.next → w1.heap.get x = w.heap.get x := fun x hx => by rw [hw1]; simp [show ¬ x = w.next by omega]
  have hv1 := hv.old o1 (by omega : w.next ≤ w1.next)
  have hu1 := hu.old o1 (by omega : w.next ≤ w1.next)
  have hlaid1 : hasAll w1 laidL = true := by
    rw [← hlaid]
    exact hasAll_congr _ fun z hz => o1 _ (by have := laid_lt z hz; omega)
  have r11 := rule11 hN.p11 (s := s) hv1 hu1 98
  have kW1 := ruleW hW hlaid1 98
  have hlr := fun w => len30V hrv w
  rw [mc5_eq]
  by_cases hE : seaE s l c = 0
  · by_cases h8 : rs.length ≤ 8
    · have h8' : ¬ (8 : Int) < (rs.length : Nat) := by omega
      obtain ⟨f1, f2⟩ := sea_facts hE
      have h40 := (days_len (sea_zero hE).1).2
      obtain ⟨n, hn⟩ : ∃ n, n = min 3 l.length := ⟨_, rfl⟩
      obtain ⟨k1, k2, k3⟩ := few_ok hE hn
      obtain ⟨w2, hw2⟩ : ∃ w2 : AW, w2 = ⟨(((w1.heap.put w1.next (some (.cells [.slice none 0 0, .int .i64 0, .int .i64 0, .int .i64 0, .int .i64 0, .int .i64 0, .int .i64 0, .int .i64 0, .slice none 0 0] 29 false))).put w1.next (some (.cells (seaC s dv cv) 29 false))).put w1.next (some (.cells (seaC s dv (.slice none 0 0)) 29 false))).put w1.next (some (.cells (seaC s (.slice none 0 0) (.slice none 0 0)) 29 false)), w1.next + 1, w1.lim⟩ := ⟨_, rfl⟩
      have o2 : ∀ x, x < w1.next → w2.heap.get x = w1.heap.get x := fun x hx => by
        rw [hw2]
        show ((((w1.heap.put _ _).put _ _).put _ _).put _ _).get x = _
        rw [get_put, if_neg (by omega), get_put, if_neg (by omega), get_put, if_neg (by omega), get_put, if_neg (by omega)]
      have n2 : w2.next = w1.next + 1 := by rw [hw2]
      have l2 : w2.lim = w1.lim := by rw [hw2]
      have hO12 : Ol w1 w2 := ⟨o2, by omega, by omega⟩
      have g2 : w2.heap.get w1.next = some (.cells (seaC s (.slice none 0 0) (.slice none 0 0)) 29 false) := by rw [hw2]; simp
      have key := fun Q t => loop5a (ov := ov) 99 s dv cv dv rv (.int .i64 D0) l f2 n hn w1 w2 hO12 hv1 w.next w1.next (by omega) (Nat.le_refl _) n2 (by omega) b1 g2 Q t
      have c1 : c.length ≤ 100 := by
        have := cuts_len (n := (l.length : Int)) (by omega) (sea_zero hE).2.1
        omega
      have lim1 : w1.lim ≤ w1.next := by omega
      have sA : ∀ w5 : AW, w5.lim ≤ w1.next → wrO w5 w1.next 0 (seaC s dv cv) (some (.cells [.slice none 0 0, .int .i64 0, .int .i64 0, .int .i64 0, .int .i64 0, .int .i64 0, .int .i64 0, .int .i64 0, .slice none 0 0] 29 false)) = some ⟨w5.heap.put w1.next (some (.cells (seaC s dv cv) 29 false)), w5.next, w5.lim⟩ := fun w5 h => by
        obtain ⟨a1, cc1, rfl⟩ := hv.len
        obtain ⟨a2, cc2, rfl⟩ := hu.len
        rw [wrO_cells (by simp [seaC]) h (by simp [seaC])]; rfl
      have sB : ∀ w5 : AW, w5.lim ≤ w1.next → wrO w5 w1.next 8 [.slice none 0 0] (some (.cells (seaC s dv cv) 29 false)) = some ⟨w5.heap.put w1.next (some (.cells (seaC s dv (.slice none 0 0)) 29 false)), w5.next, w5.lim⟩ := fun w5 h => by rw [wrO_cells (by simp) h (by simp [seaC])]; rfl
      have sC : ∀ w5 : AW, w5.lim ≤ w1.next → wrO w5 w1.next 0 [.slice none 0 0] (some (.cells (seaC s dv (.slice none 0 0)) 29 false)) = some ⟨w5.heap.put w1.next (some (.cells (seaC s (.slice none 0 0) (.slice none 0 0)) 29 false)), w5.next, w5.lim⟩ := fun w5 h => by rw [wrO_cells (by simp) h (by simp [seaC])]; rfl
      have z1 : ¬ w.next = w1.next := by omega
      have hls : (cellsOf (.agg ⟨seaC s dv cv⟩)).length = 9 := by simp [seaC]
      simp only [hw1] at r11 sA sB sC lim1 hw2 z1
      simp only [seaC] at r11 sA sB sC
      simp [seaC, r11, hE, hlr, h8', sA, sB, sC, lim1, z1, -wrO_cells]
      simp only [seaC] at hw2
      rw [← hw2]
      refine wp_seqX (wp_blockX (key _ _ ?_ ?_ ?_ ?_ ?_ ?_))
      case _ => simp
      case _ => simp
      case _ => simp
      case _ => simp [hw1]
      case _ => simp
      case _ =>
        intro t w3 vD B hO3 hnx3 gx3 hD t1 t2 t3 t7
        have hlen : (fewD l n).length = n := k2
        have hne : fewD l n ≠ [] := fun e => by rw [e] at hlen; simp at hlen; omega
        simp
        refine wp_seqX (wp_blockX (loop5b (ov := ov) 99 s dv cv rv (.int .i64 D0) c c1 w1 w3 hO3 hu1 w.next w1.next (by omega) (Nat.le_refl _) hnx3 (by omega) b1 vD (fewD l n) B hD hne gx3 _ _ ?_ ?_ ?_ ?_ ?_ ?_))
        case _ => simp [t1]
        case _ => simp [t2]
        case _ => simp [t3]
        case _ => simp [t7]
        case _ => simp
        case _ =>
          intro t w4 vC hO4 hnx4 gx4 rD rC t1 t2 t7
          have hn4 := hO4.next
          have hm4 := hO4.lim
          have hO : ∀ x, x < w.next → w4.heap.get x = w.heap.get x := fun x hx => by rw [hO4.old x (by omega), o1 x hx]
          simp
          refine tail1 hN hW s (fewD l n) (fewC c (fewD l n).length c.length) rs k1 (by omega) (by omega) ?_ D0 vD vC rv w4 (by omega) (by omega) ?_ rD rC (hrv.old hO (by omega)) w1.next hnx4 gx4 _ _ t1 t2 t7 ?_
          · intro i d hd
            unfold fewD at hd
            rw [List.getElem?_map] at hd
            obtain ⟨e, he, rfl⟩ := Option.map_eq_some_iff.1 hd
            show (min e.wh (e.wl + 2) - e.wl + 1).toNat ≤ 3
            omega
          · rw [← hlaid]
            exact hasAll_congr _ fun z hz => hO _ (by have := laid_lt z hz; omega)
          · intro t w h6
            simp [h6, tupV]
    · have h8' : (8 : Int) < (rs.length : Nat) := by omega
      simp only [seaC] at r11
      rw [hw1] at r11 kW1
      simp only [seaC] at r11 kW1
      simp [seaC, r11, hE, hlr, h8', kW1, tupV]
  · simp only [seaC] at r11
    rw [hw1] at r11 kW1
    simp only [seaC] at r11 kW1
    simp [seaC, r11, hE, kW1, tupV]
end Go.Proofs.YtbbbgaiaigdngaaGreatDoor.walk
