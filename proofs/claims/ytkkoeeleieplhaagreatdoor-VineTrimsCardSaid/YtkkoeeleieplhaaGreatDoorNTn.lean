/- Part of a proof by a machine of ones own: see the text with the theorem. -/
import Derived.Test.YtkkoeeleieplhaaGreatDoorNDc
import Derived.Test.YtkkoeeleieplhaaGreatDoorNF02
import Derived.Test.YtkkoeeleieplhaaGreatDoorShF
namespace Go.Proofs.YtkkoeeleieplhaaGreatDoor.walk
open Go Go.Sh
set_option maxRecDepth 100000
theorem mixed : Tryz.prog.follows .mixedOrders = true := by kernel_rfl
theorem globals7 : Tryz.prog.globals.size = 7 := by kernel_rfl
theorem no_count : NoCount Tryz.prog := NoCount.of (by kernel_rfl)
theorem works_ov (fact : resIs (spanV 1 2) ((run Tryz.prog noOv 1000).call 29 (flowersA 246 248 1) (startA 249 (flowersL 246 248)) .none) = true) : OvOk Tryz.prog worksOv :=
  memo_ok no_count mixed ov_none fact (by kernel_rfl) (by kernel_rfl) (by rw [globals7]; decide) (by kernel_rfl) ov_none
noncomputable def oW : Ov := memoOv 8 [] laidL (.bool true) noOv
theorem okW' (fact : resIs (spanV 1 2) ((run Tryz.prog noOv 1000).call 29 (flowersA 246 248 1) (startA 249 (flowersL 246 248)) .none) = true) : OvOk Tryz.prog oW := memo_ok no_count mixed (works_ov fact) works_true (by kernel_rfl) (by kernel_rfl) (by rw [globals7]; exact Nat.le_refl _) (by kernel_rfl) ov_none
theorem oW_none {f : Nat} (hf : f ≠ 8) (args : List Value) (w : AW) : oW f args w = none := by
  have : Nat.beq f 8 = false := by rw [← Bool.not_eq_true]; intro h; exact hf (Nat.eq_of_beq_eq_true h)
  simp [oW, memoOv, this, noOv]
theorem oW_has : HasW oW := fun w hw => by
  simp [oW, memoOv, hw, sameL5, sameVal.sameVals]
theorem HasW.skip {f : Nat} {F : PureF} {rest : Ov} (hf : 8 ≠ f) (h : HasW rest) : HasW (ovP f F rest) := fun w hw => by simp [ovP, hf, h w hw]
theorem ovP_none {f g : Nat} {F : PureF} {rest : Ov} (hne : g ≠ f) (h : ∀ args w, rest g args w = none) (args : List Value) (w : AW) : ovP f F rest g args w = none := by simp [ovP, hne, h]
theorem bif_some {α : Type} {b : Bool} {x y : α} (h : (bif b then some x else none) = some y) : b = true ∧ y = x := by
  cases b with
  | true => cases h; exact ⟨rfl, rfl⟩
  | false => cases h
theorem if_some' {α : Type} {c : Prop} {inst : Decidable c} {x y : α} (h : (@ite _ c inst (some x) none) = some y) : c ∧ y = x := by
  by_cases k : c
  · rw [if_pos k] at h; cases h; exact ⟨k, rfl⟩
  · rw [if_neg k] at h; cases h
theorem F38_some {args : List Value} {w : AW} {v : Value} (h : F38 args w = some v) : ∃ n b, args = [.int .i64 n, .int .i64 b] ∧ v = .bool (inI 0 n b) := by
  unfold F38 at h
  split at h
  · cases h; exact ⟨_, _, rfl, rfl⟩
  · cases h
theorem F66_some {args : List Value} {w : AW} {v : Value} (h : F66 args w = some v) : ∃ a b m, args = [.agg ⟨[.int .i64 a, .int .i64 b]⟩, .int .i64 m] ∧ v = .bool (spanB a b m) := by
  unfold F66 at h
  split at h
  · cases h; exact ⟨_, _, _, rfl, rfl⟩
  · cases h
theorem F37_some {args : List Value} {w : AW} {v : Value} (h : F37 args w = some v) : ∃ a b c d e, args = [.agg ⟨[.int .i64 a, .int .i64 b, .int .i64 c, .int .i64 d, .int .i64 e]⟩] ∧ v = .bool (inI 0 a 100 && (inI 0 b 50 && (inI 0 c 100 && spanB d e 100))) := by
  unfold F37 at h
  split at h
  · cases h; exact ⟨_, _, _, _, _, rfl, rfl⟩
  · cases h
theorem F35_some {args : List Value} {w : AW} {v : Value} (h : F35 args w = some v) : ∃ u l, args = [u] ∧ RowsV dayC w u l ∧ v = .bool (daysB l) := by
  unfold F35 at h
  split at h
  · obtain ⟨l, h1, h2⟩ := Option.map_eq_some_iff.1 h
    exact ⟨_, l, rfl, rowsIn_some h1, h2.symm⟩
  · cases h
theorem F36_some {args : List Value} {w : AW} {v : Value} (h : F36 args w = some v) : ∃ u n l, args = [u, .int .i64 n] ∧ RowsV intC w u l ∧ 0 ≤ n ∧ n ≤ 40 ∧ v = .bool (cutsB l n) := by
  unfold F36 at h
  split at h
  · obtain ⟨l, h1, h2⟩ := Option.bind_eq_some_iff.1 h
    obtain ⟨h3, rfl⟩ := bif_some h2
    simp only [inI, Bool.and_eq_true, decide_eq_true_eq] at h3
    exact ⟨_, _, l, rfl, rowsIn_some h1, h3.1, h3.2, rfl⟩
  · cases h
theorem F14_some {args : List Value} {w : AW} {v : Value} (h : F14 args w = some v) : ∃ s l c dv cv, args = [.agg ⟨seaC s dv cv⟩] ∧ RowsV dayC w dv l ∧ RowsV intC w cv c ∧ v = .int .i64 (seaE s l c) := by
  unfold F14 at h
  split at h
  · rename_i a b c d e f g _
    obtain ⟨l, h1, h2⟩ := Option.bind_eq_some_iff.1 h
    obtain ⟨k, h3, h4⟩ := Option.bind_eq_some_iff.1 h2
    cases h4
    exact ⟨⟨_, _, _, _, _, _, _⟩, l, k, _, _, rfl, rowsIn_some h1, rowsIn_some h3, rfl⟩
  · cases h
theorem F34_some {args : List Value} {w : AW} {v : Value} (h : F34 args w = some v) : ∃ n a b, args = [.int .i64 n, .int .i64 a, .int .i64 b] ∧ v = .bool (inI a n b) := by
  unfold F34 at h
  split at h
  · cases h; exact ⟨_, _, _, rfl, rfl⟩
  · cases h
theorem F39_some {args : List Value} {w : AW} {v : Value} (h : F39 args w = some v) : ∃ s dv cv sv n, args = [.agg ⟨yearC s dv cv sv⟩, .int .i64 n] ∧ v = .int .i64 (min n s.cut) := by
  unfold F39 at h
  split at h
  · cases h; exact ⟨⟨_, _, _, _, _, _, _⟩, _, _, _, _, rfl, rfl⟩
  · cases h
theorem F40_some {args : List Value} {w : AW} {v : Value} (h : F40 args w = some v) : ∃ s dv cv sv n, args = [.agg ⟨yearC s dv cv sv⟩, .int .i64 n] ∧ (0 ≤ n ∧ n ≤ 100) ∧ (0 ≤ s.grows ∧ s.grows ≤ 50) ∧ v = .int .i64 (min (n + s.grows) 100) := by
  unfold F40 at h
  split at h
  · obtain ⟨h3, rfl⟩ := bif_some h
    simp only [inI, Bool.and_eq_true, decide_eq_true_eq] at h3
    exact ⟨⟨_, _, _, _, _, _, _⟩, _, _, _, _, rfl, h3.1, h3.2, rfl⟩
  · cases h
theorem F20_some {args : List Value} {w : AW} {v : Value} (h : F20 args w = some v) : ∃ (s : Sea) (n : Int) (cut : Bool), args = [.agg ⟨[.int .i64 s.from_, .int .i64 s.grows, .int .i64 s.cut, .int .i64 s.gl, .int .i64 s.gh]⟩, .int .i64 n, .bool cut] ∧ (-1 ≤ n ∧ n ≤ 100) ∧ (0 ≤ s.grows ∧ s.grows ≤ 50) ∧ v = .int .i64 (nextI s n cut) := by
  unfold F20 at h
  split at h
  · obtain ⟨h3, rfl⟩ := bif_some h
    simp only [inI, Bool.and_eq_true, decide_eq_true_eq] at h3
    exact ⟨⟨0, 0, _, _, _, _, _⟩, _, _, rfl, h3.1, h3.2, rfl⟩
  · cases h
theorem F42_some {args : List Value} {w : AW} {v : Value} (h : F42 args w = some v) : ∃ n a b, args = [.int .i64 n, .agg ⟨[.int .i64 a, .int .i64 b]⟩] ∧ v = .bool (inI a n b) := by
  unfold F42 at h
  split at h
  · cases h; exact ⟨_, _, _, rfl, rfl⟩
  · cases h
theorem F7_some {args : List Value} {w : AW} {v : Value} (h : F7 args w = some v) : ∃ u x L, args = [u, x] ∧ L.length ≤ 1000 ∧ RowsV intC w u L ∧ RowsV intC w x L ∧ v = .bool true := by
  unfold F7 at h
  split at h
  · obtain ⟨A, h1, h⟩ := Option.bind_eq_some_iff.1 h
    obtain ⟨B, h2, h⟩ := Option.bind_eq_some_iff.1 h
    obtain ⟨⟨h3, h4⟩, rfl⟩ := if_some' h
    subst h3
    exact ⟨_, _, A, rfl, h4, rowsIn_some h1, rowsIn_some h2, rfl⟩
  · cases h
theorem F45_some {args : List Value} {w : AW} {v : Value} (h : F45 args w = some v) : ∃ s dv cv sv d z, args = [.agg ⟨yearC s dv cv sv⟩, .agg ⟨[.int .i64 d, .int .i64 z]⟩] ∧ v = .agg ⟨[.int .i64 1, .int .i64 (min z s.cut), .int .i64 0, .int .i64 z]⟩ := by
  unfold F45 at h
  split at h
  · cases h; exact ⟨⟨_, _, _, _, _, _, _⟩, _, _, _, _, _, rfl, rfl⟩
  · cases h
theorem F43_some {args : List Value} {w : AW} {v : Value} (h : F43 args w = some v) : ∃ s dv cv sv d z c n, args = [.agg ⟨yearC s dv cv sv⟩, .agg ⟨[.int .i64 d, .int .i64 z]⟩, .agg ⟨[.int .i64 c, .int .i64 n]⟩] ∧ (0 ≤ n ∧ n ≤ 100) ∧ (0 ≤ s.grows ∧ s.grows ≤ 50) ∧ (0 ≤ d ∧ d ≤ 100) ∧ v = .agg ⟨[.int .i64 (d + 1), .int .i64 (min (n + s.grows) 100)]⟩ := by
  unfold F43 at h
  split at h
  · obtain ⟨h3, rfl⟩ := bif_some h
    simp only [inI, Bool.and_eq_true, decide_eq_true_eq] at h3
    exact ⟨⟨_, _, _, _, _, _, _⟩, _, _, _, _, _, _, _, rfl, h3.1.1, h3.1.2, h3.2, rfl⟩
  · cases h
noncomputable def o38 : Ov := ovP 38 F38 oW
noncomputable def o66 : Ov := ovP 66 F66 o38
noncomputable def o37 : Ov := ovP 37 F37 o66
noncomputable def o35 : Ov := ovP 35 F35 o37
noncomputable def o36 : Ov := ovP 36 F36 o35
noncomputable def o14 : Ov := ovP 14 F14 o36
noncomputable def o34 : Ov := ovP 34 F34 o14
noncomputable def o46 : Ov := ovP 46 F66 o34
noncomputable def o47 : Ov := ovP 47 F36 o46
noncomputable def o17 : Ov := ovP 17 F14 o47
noncomputable def o39 : Ov := ovP 39 F39 o17
noncomputable def o40 : Ov := ovP 40 F40 o39
noncomputable def o20 : Ov := ovP 20 F20 o40
noncomputable def o42 : Ov := ovP 42 F42 o20
noncomputable def o45 : Ov := ovP 45 F45 o42
noncomputable def o43 : Ov := ovP 43 F43 o45
noncomputable def o7 : Ov := ovP 7 F7 o43
section
variable (fact : resIs (spanV 1 2) ((run Tryz.prog noOv 1000).call 29 (flowersA 246 248 1) (startA 249 (flowersL 246 248)) .none) = true)
include fact
theorem ok38 : OvOk Tryz.prog o38 := pure_ok no_count mixed (okW' fact) (fun _ _ _ h => h) fun args w res hl hres => by
  obtain ⟨n, b, rfl, rfl⟩ := F38_some hres
  obtain ⟨_, w', h1, rfl⟩ := run38 (oW_none (by decide))  n b w
  exact ⟨rfl, 2, w', _, h1⟩
theorem ok66 : OvOk Tryz.prog o66 := pure_ok no_count mixed (ok38 fact) (fun _ _ _ h => h) fun args w res hl hres => by
  obtain ⟨a, b, m, rfl, rfl⟩ := F66_some hres
  obtain ⟨_, w', h1, rfl⟩ := run66 (ovP_none (f := 38) (by decide) (oW_none (by decide)))  a b m w
  exact ⟨rfl, 2, w', _, h1⟩
theorem ok37 : OvOk Tryz.prog o37 := pure_ok no_count mixed (ok66 fact) (fun _ _ _ h => h) fun args w res hl hres => by
  obtain ⟨a, b, c, d, e, rfl, rfl⟩ := F37_some hres
  obtain ⟨_, w', h1, rfl⟩ := run37 (ovP_none (f := 66) (by decide) (ovP_none (f := 38) (by decide) (oW_none (by decide)))) (HasP.skip (g := 66) (by decide) .here) .here a b c d e w
  exact ⟨rfl, 2, w', _, h1⟩
theorem ok35 : OvOk Tryz.prog o35 := pure_ok no_count mixed (ok37 fact) (fun _ _ _ h => h) fun args w res hl hres => by
  obtain ⟨u, l, rfl, hv, rfl⟩ := F35_some hres
  obtain ⟨_, w', h1, rfl⟩ := run35 (ovP_none (f := 37) (by decide) (ovP_none (f := 66) (by decide) (ovP_none (f := 38) (by decide) (oW_none (by decide))))) (HasP.skip (g := 37) (by decide) .here) l u w hl hv
  exact ⟨rfl, 2, w', _, h1⟩
theorem ok36 : OvOk Tryz.prog o36 := pure_ok no_count mixed (ok35 fact) (fun _ _ _ h => h) fun args w res hl hres => by
  obtain ⟨u, n, l, rfl, hv, h0, h40, rfl⟩ := F36_some hres
  obtain ⟨_, w', h1, rfl⟩ := run36 (ovP_none (f := 35) (by decide) (ovP_none (f := 37) (by decide) (ovP_none (f := 66) (by decide) (ovP_none (f := 38) (by decide) (oW_none (by decide))))))  l n h0 h40 u w hv
  exact ⟨rfl, 2, w', _, h1⟩
theorem ok14 : OvOk Tryz.prog o14 := pure_ok no_count mixed (ok36 fact) (fun _ _ _ h => h) fun args w res hl hres => by
  obtain ⟨s, l, c, dv, cv, rfl, hv, hc, rfl⟩ := F14_some hres
  obtain ⟨_, w', h1, rfl⟩ := run14 (ovP_none (f := 36) (by decide) (ovP_none (f := 35) (by decide) (ovP_none (f := 37) (by decide) (ovP_none (f := 66) (by decide) (ovP_none (f := 38) (by decide) (oW_none (by decide))))))) (HasP.skip (g := 36) (by decide) .here) .here (HasP.skip (g := 36) (by decide) (HasP.skip (g := 35) (by decide) .here)) (HasP.skip (g := 36) (by decide) (HasP.skip (g := 35) (by decide) (HasP.skip (g := 37) (by decide) (HasP.skip (g := 66) (by decide) .here)))) s l c dv cv w hl hv hc
  exact ⟨rfl, 2, w', _, h1⟩
theorem ok34 : OvOk Tryz.prog o34 := pure_ok no_count mixed (ok14 fact) (fun _ _ _ h => h) fun args w res hl hres => by
  obtain ⟨n, a, b, rfl, rfl⟩ := F34_some hres
  obtain ⟨_, w', h1, rfl⟩ := run34 (ovP_none (f := 14) (by decide) (ovP_none (f := 36) (by decide) (ovP_none (f := 35) (by decide) (ovP_none (f := 37) (by decide) (ovP_none (f := 66) (by decide) (ovP_none (f := 38) (by decide) (oW_none (by decide))))))))  n a b w
  exact ⟨rfl, 2, w', _, h1⟩
theorem ok46 : OvOk Tryz.prog o46 := pure_ok no_count mixed (ok34 fact) (fun _ _ _ h => h) fun args w res hl hres => by
  obtain ⟨a, b, m, rfl, rfl⟩ := F66_some hres
  obtain ⟨_, w', h1, rfl⟩ := run46 (ovP_none (f := 34) (by decide) (ovP_none (f := 14) (by decide) (ovP_none (f := 36) (by decide) (ovP_none (f := 35) (by decide) (ovP_none (f := 37) (by decide) (ovP_none (f := 66) (by decide) (ovP_none (f := 38) (by decide) (oW_none (by decide))))))))) .here a b m w
  exact ⟨rfl, 2, w', _, h1⟩
theorem ok47 : OvOk Tryz.prog o47 := pure_ok no_count mixed (ok46 fact) (fun _ _ _ h => h) fun args w res hl hres => by
  obtain ⟨u, n, l, rfl, hv, h0, h40, rfl⟩ := F36_some hres
  obtain ⟨_, w', h1, rfl⟩ := run47 (ovP_none (f := 46) (by decide) (ovP_none (f := 34) (by decide) (ovP_none (f := 14) (by decide) (ovP_none (f := 36) (by decide) (ovP_none (f := 35) (by decide) (ovP_none (f := 37) (by decide) (ovP_none (f := 66) (by decide) (ovP_none (f := 38) (by decide) (oW_none (by decide)))))))))) (HasP.skip (g := 46) (by decide) .here) l n h0 h40 u w hv
  exact ⟨rfl, 2, w', _, h1⟩
theorem ok17 : OvOk Tryz.prog o17 := pure_ok no_count mixed (ok47 fact) (fun _ _ _ h => h) fun args w res hl hres => by
  obtain ⟨s, l, c, dv, cv, rfl, hv, hc, rfl⟩ := F14_some hres
  obtain ⟨_, w', h1, rfl⟩ := run17 (ovP_none (f := 47) (by decide) (ovP_none (f := 46) (by decide) (ovP_none (f := 34) (by decide) (ovP_none (f := 14) (by decide) (ovP_none (f := 36) (by decide) (ovP_none (f := 35) (by decide) (ovP_none (f := 37) (by decide) (ovP_none (f := 66) (by decide) (ovP_none (f := 38) (by decide) (oW_none (by decide))))))))))) (HasP.skip (g := 47) (by decide) (HasP.skip (g := 46) (by decide) .here)) (HasP.skip (g := 47) (by decide) .here) .here s l c dv cv w hl hv hc
  exact ⟨rfl, 2, w', _, h1⟩
theorem ok39 : OvOk Tryz.prog o39 := pure_ok no_count mixed (ok17 fact) (fun _ _ _ h => h) fun args w res hl hres => by
  obtain ⟨s, dv, cv, sv, n, rfl, rfl⟩ := F39_some hres
  obtain ⟨_, w', h1, rfl⟩ := run39 (ovP_none (f := 17) (by decide) (ovP_none (f := 47) (by decide) (ovP_none (f := 46) (by decide) (ovP_none (f := 34) (by decide) (ovP_none (f := 14) (by decide) (ovP_none (f := 36) (by decide) (ovP_none (f := 35) (by decide) (ovP_none (f := 37) (by decide) (ovP_none (f := 66) (by decide) (ovP_none (f := 38) (by decide) (oW_none (by decide))))))))))))  s dv cv sv n w
  exact ⟨rfl, 2, w', _, h1⟩
theorem ok40 : OvOk Tryz.prog o40 := pure_ok no_count mixed (ok39 fact) (fun _ _ _ h => h) fun args w res hl hres => by
  obtain ⟨s, dv, cv, sv, n, rfl, h1, h2, rfl⟩ := F40_some hres
  obtain ⟨_, w', h1, rfl⟩ := run40 (ovP_none (f := 39) (by decide) (ovP_none (f := 17) (by decide) (ovP_none (f := 47) (by decide) (ovP_none (f := 46) (by decide) (ovP_none (f := 34) (by decide) (ovP_none (f := 14) (by decide) (ovP_none (f := 36) (by decide) (ovP_none (f := 35) (by decide) (ovP_none (f := 37) (by decide) (ovP_none (f := 66) (by decide) (ovP_none (f := 38) (by decide) (oW_none (by decide)))))))))))))  s dv cv sv n h1 h2 w
  exact ⟨rfl, 2, w', _, h1⟩
theorem ok20 : OvOk Tryz.prog o20 := pure_ok no_count mixed (ok40 fact) (fun _ _ _ h => h) fun args w res hl hres => by
  obtain ⟨s, n, cut, rfl, h1, h2, rfl⟩ := F20_some hres
  obtain ⟨_, w', h1, rfl⟩ := run20 (ovP_none (f := 40) (by decide) (ovP_none (f := 39) (by decide) (ovP_none (f := 17) (by decide) (ovP_none (f := 47) (by decide) (ovP_none (f := 46) (by decide) (ovP_none (f := 34) (by decide) (ovP_none (f := 14) (by decide) (ovP_none (f := 36) (by decide) (ovP_none (f := 35) (by decide) (ovP_none (f := 37) (by decide) (ovP_none (f := 66) (by decide) (ovP_none (f := 38) (by decide) (oW_none (by decide))))))))))))))  s n cut h1 h2 w
  exact ⟨rfl, 2, w', _, h1⟩
theorem ok42 : OvOk Tryz.prog o42 := pure_ok no_count mixed (ok20 fact) (fun _ _ _ h => h) fun args w res hl hres => by
  obtain ⟨n, a, b, rfl, rfl⟩ := F42_some hres
  obtain ⟨_, w', h1, rfl⟩ := run42 (ovP_none (f := 20) (by decide) (ovP_none (f := 40) (by decide) (ovP_none (f := 39) (by decide) (ovP_none (f := 17) (by decide) (ovP_none (f := 47) (by decide) (ovP_none (f := 46) (by decide) (ovP_none (f := 34) (by decide) (ovP_none (f := 14) (by decide) (ovP_none (f := 36) (by decide) (ovP_none (f := 35) (by decide) (ovP_none (f := 37) (by decide) (ovP_none (f := 66) (by decide) (ovP_none (f := 38) (by decide) (oW_none (by decide)))))))))))))))  n a b w
  exact ⟨rfl, 2, w', _, h1⟩
theorem ok45 : OvOk Tryz.prog o45 := pure_ok no_count mixed (ok42 fact) (fun _ _ _ h => h) fun args w res hl hres => by
  obtain ⟨s, dv, cv, sv, d, z, rfl, rfl⟩ := F45_some hres
  obtain ⟨_, w', h1, rfl⟩ := run45 (ovP_none (f := 42) (by decide) (ovP_none (f := 20) (by decide) (ovP_none (f := 40) (by decide) (ovP_none (f := 39) (by decide) (ovP_none (f := 17) (by decide) (ovP_none (f := 47) (by decide) (ovP_none (f := 46) (by decide) (ovP_none (f := 34) (by decide) (ovP_none (f := 14) (by decide) (ovP_none (f := 36) (by decide) (ovP_none (f := 35) (by decide) (ovP_none (f := 37) (by decide) (ovP_none (f := 66) (by decide) (ovP_none (f := 38) (by decide) (oW_none (by decide)))))))))))))))) (HasP.skip (g := 42) (by decide) (HasP.skip (g := 20) (by decide) (HasP.skip (g := 40) (by decide) .here))) s dv cv sv d z w (Nat.le_of_eq hl)
  exact ⟨rfl, 2, w', _, h1⟩
theorem ok43 : OvOk Tryz.prog o43 := pure_ok no_count mixed (ok45 fact) (fun _ _ _ h => h) fun args w res hl hres => by
  obtain ⟨s, dv, cv, sv, d, z, c, n, rfl, h1, h2, h3, rfl⟩ := F43_some hres
  obtain ⟨_, w', h1, rfl⟩ := run43 (ovP_none (f := 45) (by decide) (ovP_none (f := 42) (by decide) (ovP_none (f := 20) (by decide) (ovP_none (f := 40) (by decide) (ovP_none (f := 39) (by decide) (ovP_none (f := 17) (by decide) (ovP_none (f := 47) (by decide) (ovP_none (f := 46) (by decide) (ovP_none (f := 34) (by decide) (ovP_none (f := 14) (by decide) (ovP_none (f := 36) (by decide) (ovP_none (f := 35) (by decide) (ovP_none (f := 37) (by decide) (ovP_none (f := 66) (by decide) (ovP_none (f := 38) (by decide) (oW_none (by decide))))))))))))))))) (HasP.skip (g := 45) (by decide) (HasP.skip (g := 42) (by decide) (HasP.skip (g := 20) (by decide) .here))) s dv cv sv d z c n h1 h2 h3 w (Nat.le_of_eq hl)
  exact ⟨rfl, 2, w', _, h1⟩
theorem ok7 : OvOk Tryz.prog o7 := pure_ok no_count mixed (ok43 fact) (fun _ _ _ h => h) fun args w res hl hres => by
  obtain ⟨u, x, L, rfl, hn, hu, hv, rfl⟩ := F7_some hres
  obtain ⟨_, w', h1, rfl⟩ := run7 (ovP_none (f := 43) (by decide) (ovP_none (f := 45) (by decide) (ovP_none (f := 42) (by decide) (ovP_none (f := 20) (by decide) (ovP_none (f := 40) (by decide) (ovP_none (f := 39) (by decide) (ovP_none (f := 17) (by decide) (ovP_none (f := 47) (by decide) (ovP_none (f := 46) (by decide) (ovP_none (f := 34) (by decide) (ovP_none (f := 14) (by decide) (ovP_none (f := 36) (by decide) (ovP_none (f := 35) (by decide) (ovP_none (f := 37) (by decide) (ovP_none (f := 66) (by decide) (ovP_none (f := 38) (by decide) (oW_none (by decide))))))))))))))))))  L hn u x w hu hv
  exact ⟨rfl, 2, w', _, h1⟩
end
theorem top_true (s : Sea) (l : List Day) (c : List Int) (dv cv : Value) (w : AW) (hl : w.lim ≤ w.next) (h7 : 7 ≤ w.next) (hlaid : hasAll w laidL = true) (hv : RowsV dayC w dv l) (hc : RowsV intC w cv c) : ∃ w' x', (run Tryz.prog o7 100).call 3 [.agg ⟨seaC s dv cv⟩] w .none = .ok (.ret (.bool true)) w' x' := by
  obtain ⟨_, w', h1, rfl⟩ := run3 (ov := o7) (fun f hf => by simp only [List.mem_cons, List.not_mem_nil, or_false] at hf; rcases hf with rfl | rfl | rfl | rfl | rfl | rfl | rfl | rfl | rfl <;> exact (ovP_none (f := 7) (by decide) (ovP_none (f := 43) (by decide) (ovP_none (f := 45) (by decide) (ovP_none (f := 42) (by decide) (ovP_none (f := 20) (by decide) (ovP_none (f := 40) (by decide) (ovP_none (f := 39) (by decide) (ovP_none (f := 17) (by decide) (ovP_none (f := 47) (by decide) (ovP_none (f := 46) (by decide) (ovP_none (f := 34) (by decide) (ovP_none (f := 14) (by decide) (ovP_none (f := 36) (by decide) (ovP_none (f := 35) (by decide) (ovP_none (f := 37) (by decide) (ovP_none (f := 66) (by decide) (ovP_none (f := 38) (by decide) (oW_none (by decide)))))))))))))))))))) .here (HasP.skip (g := 7) (by decide) (HasP.skip (g := 43) (by decide) (HasP.skip (g := 45) (by decide) (HasP.skip (g := 42) (by decide) (HasP.skip (g := 20) (by decide) (HasP.skip (g := 40) (by decide) (HasP.skip (g := 39) (by decide) (HasP.skip (g := 17) (by decide) (HasP.skip (g := 47) (by decide) (HasP.skip (g := 46) (by decide) (HasP.skip (g := 34) (by decide) .here))))))))))) (HasP.skip (g := 7) (by decide) (HasP.skip (g := 43) (by decide) (HasP.skip (g := 45) (by decide) (HasP.skip (g := 42) (by decide) (HasP.skip (g := 20) (by decide) (HasP.skip (g := 40) (by decide) (HasP.skip (g := 39) (by decide) .here))))))) (HasP.skip (g := 7) (by decide) (HasP.skip (g := 43) (by decide) (HasP.skip (g := 45) (by decide) (HasP.skip (g := 42) (by decide) .here)))) (HasP.skip (g := 7) (by decide) (HasP.skip (g := 43) (by decide) (HasP.skip (g := 45) (by decide) (HasP.skip (g := 42) (by decide) (HasP.skip (g := 20) (by decide) (HasP.skip (g := 40) (by decide) (HasP.skip (g := 39) (by decide) (HasP.skip (g := 17) (by decide) (HasP.skip (g := 47) (by decide) (HasP.skip (g := 46) (by decide) .here)))))))))) (HasP.skip (g := 7) (by decide) (HasP.skip (g := 43) (by decide) (HasP.skip (g := 45) (by decide) (HasP.skip (g := 42) (by decide) (HasP.skip (g := 20) (by decide) (HasP.skip (g := 40) (by decide) .here)))))) (HasP.skip (g := 7) (by decide) (HasP.skip (g := 43) (by decide) (HasP.skip (g := 45) (by decide) (HasP.skip (g := 42) (by decide) (HasP.skip (g := 20) (by decide) .here))))) (HasP.skip (g := 7) (by decide) (HasP.skip (g := 43) (by decide) (HasP.skip (g := 45) (by decide) .here))) (HasP.skip (g := 7) (by decide) .here) (HasP.skip (g := 7) (by decide) (HasP.skip (g := 43) (by decide) .here)) (HasW.skip (f := 7) (by decide) (HasW.skip (f := 43) (by decide) (HasW.skip (f := 45) (by decide) (HasW.skip (f := 42) (by decide) (HasW.skip (f := 20) (by decide) (HasW.skip (f := 40) (by decide) (HasW.skip (f := 39) (by decide) (HasW.skip (f := 17) (by decide) (HasW.skip (f := 47) (by decide) (HasW.skip (f := 46) (by decide) (HasW.skip (f := 34) (by decide) (HasW.skip (f := 14) (by decide) (HasW.skip (f := 36) (by decide) (HasW.skip (f := 35) (by decide) (HasW.skip (f := 37) (by decide) (HasW.skip (f := 66) (by decide) (HasW.skip (f := 38) (by decide) oW_has))))))))))))))))) s l c dv cv w hl h7 hlaid hv hc
  exact ⟨w', _, h1⟩
end Go.Proofs.YtkkoeeleieplhaaGreatDoor.walk

namespace Go.Proofs.YtkkoeeleieplhaaGreatDoor.walk
open Go Go.Sh Go.ChangeShapes
set_option maxRecDepth 100000
theorem ty29 : tyOk Tryz.prog 6 29 = true := by kernel_rfl
theorem u3 : Tryz.prog.underlying 3 = some (.int .i64) := by kernel_rfl
theorem u22 : Tryz.prog.underlying 22 = some (.slice 98) := by kernel_rfl
theorem u24 : Tryz.prog.underlying 24 = some (.struct (fieldsOf Tryz.prog 24)) := by kernel_rfl
theorem f24 : (fieldsOf Tryz.prog 24).toList.map (fun f => (f.type, f.offset)) = [(3, 0), (3, 1)] := by kernel_rfl
theorem u26 : Tryz.prog.underlying 26 = some (.struct (fieldsOf Tryz.prog 26)) := by kernel_rfl
theorem f26 : (fieldsOf Tryz.prog 26).toList.map (fun f => (f.type, f.offset)) = [(3, 0), (3, 1), (3, 2), (24, 3)] := by kernel_rfl
theorem u27 : Tryz.prog.underlying 27 = some (.slice 3) := by kernel_rfl
theorem u29 : Tryz.prog.underlying 29 = some (.struct (fieldsOf Tryz.prog 29)) := by kernel_rfl
theorem f29 : (fieldsOf Tryz.prog 29).toList.map (fun f => (f.type, f.offset)) = [(22, 0), (3, 1), (3, 2), (26, 3), (27, 8)] := by kernel_rfl
theorem u98 : Tryz.prog.underlying 98 = some (.struct (fieldsOf Tryz.prog 98)) := by kernel_rfl
theorem f98 : (fieldsOf Tryz.prog 98).toList.map (fun f => (f.type, f.offset)) = [(24, 0), (24, 2)] := by kernel_rfl
theorem c3 : Tryz.prog.cellsOf 3 = 1 := by kernel_rfl
theorem c22 : Tryz.prog.cellsOf 22 = 1 := by kernel_rfl
theorem c24 : Tryz.prog.cellsOf 24 = 2 := by kernel_rfl
theorem c26 : Tryz.prog.cellsOf 26 = 5 := by kernel_rfl
theorem c27 : Tryz.prog.cellsOf 27 = 1 := by kernel_rfl
theorem c29 : Tryz.prog.cellsOf 29 = 9 := by kernel_rfl
theorem c98 : Tryz.prog.cellsOf 98 = 4 := by kernel_rfl
theorem span_of {H : T AObj} {n : Nat} {cs : List Value} (h : WT Tryz.prog H n 24 cs) : ∃ a b, cs = [.int .i64 a, .int .i64 b] := by
  obtain ⟨hl, hf⟩ := h.toStruct u24
  rw [f24] at hf
  rw [c24] at hl
  obtain ⟨a, ha, _⟩ := (hf (3, 0) (by simp)).toInt u3
  obtain ⟨b, hb, _⟩ := (hf (3, 1) (by simp)).toInt u3
  rw [c3] at ha hb
  match cs, hl with
  | [x, y], _ =>
    simp at ha hb
    exact ⟨a, b, by rw [ha, hb]⟩
theorem day_wt {H : T AObj} {n : Nat} {cs : List Value} (h : WT Tryz.prog H n 98 cs) : ∃ d, cs = dayC d := by
  obtain ⟨hl, hf⟩ := h.toStruct u98
  rw [f98] at hf
  rw [c98] at hl
  obtain ⟨a, b, h1⟩ := span_of (hf (24, 0) (by simp))
  obtain ⟨c, d, h2⟩ := span_of (hf (24, 2) (by simp))
  rw [c24] at h1 h2
  match cs, hl with
  | [x0, x1, x2, x3], _ =>
    simp at h1 h2
    exact ⟨⟨a, b, c, d⟩, by rw [h1.1, h1.2, h2.1, h2.2]; rfl⟩
theorem ints_of {H : T AObj} {n lim : Nat} {cs : List Value} (h : WT Tryz.prog H n 27 cs) : ∃ v l, cs = [v] ∧ RowsV intC ⟨H, n, lim⟩ v l :=
  rows_of_WT u27 c3 intC_length (fun cs h => by
    obtain ⟨z, hz, _⟩ := h.toInt u3
    exact ⟨z, hz⟩) h
theorem days_of {H : T AObj} {n lim : Nat} {cs : List Value} (h : WT Tryz.prog H n 22 cs) : ∃ v l, cs = [v] ∧ RowsV dayC ⟨H, n, lim⟩ v l :=
  rows_of_WT u22 c98 dayC_length (fun cs h => day_wt h) h
theorem sea_arg {A : AW} {m : Value} (h : ArgT Tryz.prog A.heap A.next 29 m) : ∃ s dv cv l c, m = .agg ⟨seaC s dv cv⟩ ∧ RowsV dayC A dv l ∧ RowsV intC A cv c := by
  unfold ArgT at h
  rw [u29] at h
  obtain ⟨cs, rfl, h⟩ := h
  obtain ⟨hl, hf⟩ := h.toStruct u29
  rw [f29] at hf
  rw [c29] at hl
  obtain ⟨dv, l, h1, k1⟩ := days_of (lim := A.lim) (hf (22, 0) (by simp))
  obtain ⟨a, ha, _⟩ := (hf (3, 1) (by simp)).toInt u3
  obtain ⟨b, hb, _⟩ := (hf (3, 2) (by simp)).toInt u3
  obtain ⟨hl2, hf2⟩ := (hf (26, 3) (by simp)).toStruct u26
  rw [f26] at hf2
  rw [c26] at hl2 hf2
  obtain ⟨x, hx, _⟩ := (hf2 (3, 0) (by simp)).toInt u3
  obtain ⟨y, hy, _⟩ := (hf2 (3, 1) (by simp)).toInt u3
  obtain ⟨z, hz, _⟩ := (hf2 (3, 2) (by simp)).toInt u3
  obtain ⟨p, q, hpq⟩ := span_of (hf2 (24, 3) (by simp))
  obtain ⟨cv, c, h2, k2⟩ := ints_of (lim := A.lim) (hf (27, 8) (by simp))
  rw [c22] at h1
  rw [c27] at h2
  rw [c3] at ha hb hx hy hz
  rw [c24] at hpq
  match cs, hl with
  | [x0, x1, x2, x3, x4, x5, x6, x7, x8], _ =>
    simp at h1 h2 ha hb hx hy hz hpq
    subst h1 h2
    exact ⟨⟨a, b, x, y, z, p, q⟩, _, _, l, c, by rw [ha, hb, hx, hy, hz, hpq.1, hpq.2]; rfl, k1, k2⟩
theorem ints_arg {A : AW} {m : Value} (h : ArgT Tryz.prog A.heap A.next 27 m) : ∃ l, RowsV intC A m l := by
  unfold ArgT at h
  rw [u27] at h
  obtain ⟨v, l, hv, hr⟩ := ints_of (lim := A.lim) h
  cases hv
  exact ⟨l, hr⟩
theorem b3 : Tryz.prog.bytesOf 3 = 8 := by kernel_rfl
theorem short_of {A : AW} {m : Value} {L : List Int} (h : RowsV intC A m L) (k : ∀ (a : Option Addr) (n c : Nat), m = .slice a n c → n * Tryz.prog.bytesOf 3 ≤ reachBytes) : L.length ≤ 2 ^ 60 := by
  obtain ⟨a, c, e⟩ := h.len
  have := k a _ c e
  rw [b3] at this
  unfold reachBytes at this
  omega
theorem hasAll_start : hasAll (startA 7 laidL) laidL = true := by kernel_rfl
theorem laid_at {A : AW} (hs : ∀ b, b < Tryz.prog.globals.size → A.heap.get b = (startH laidL).get b) : hasAll A laidL = true := by
  rw [globals7] at hs
  rw [← hasAll_start]
  exact hasAll_congr _ fun x hx => hs x.1 (laid_lt x hx)
theorem start_true (A : AW) (ms : List Value) (hl : A.lim = A.next) (hG : Tryz.prog.globals.size ≤ A.next) (hs : ∀ b, b < Tryz.prog.globals.size → A.heap.get b = (startH laidL).get b) (hms : ArgsT Tryz.prog A.heap A.next [29] ms) (hz : ∀ (j : Nat) t e a k c, ([29] : List TypeId)[j]? = some t → Tryz.prog.underlying t = some (.slice e) → ms[j]? = some (.slice a k c) → k * Tryz.prog.bytesOf e ≤ reachBytes) :
    ∃ A' x', (run Tryz.prog o7 100).call 3 ms A .none = .ok (.ret (.bool true)) A' x' := by
  rw [globals7] at hG
  match ms, hms, hz with
  | [m], hm, hz =>
    obtain ⟨s, dv, cv, l, c, rfl, hd, hc⟩ := sea_arg hm.1
    exact top_true s l c dv cv A (Nat.le_of_eq hl) hG (laid_at hs) hd hc
end Go.Proofs.YtkkoeeleieplhaaGreatDoor.walk
