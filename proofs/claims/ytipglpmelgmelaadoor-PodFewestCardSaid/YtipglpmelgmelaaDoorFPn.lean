/- Part of a proof by a machine of ones own: see the text with the theorem. -/
import Derived.Test.YtipglpmelgmelaaDoorFWa
import Derived.Test.YtipglpmelgmelaaDoorPF2
import Derived.Test.YtipglpmelgmelaaDoorShF
namespace Go.Proofs.YtipglpmelgmelaaDoor.walk
open Go Go.Sh
open known (partsC laidL noOv)
set_option maxRecDepth 100000
theorem mixed : Tryd.prog.follows .mixedOrders = true := by kernel_rfl
theorem globals1 : Tryd.prog.globals.size = 1 := by kernel_rfl
theorem no_count : NoCount Tryd.prog := NoCount.of (by kernel_rfl)
noncomputable def oW : Ov := memoOv 18 [] laidL (.bool true) noOv
theorem okW' : OvOk Tryd.prog oW := memo_ok no_count mixed ov_none known.works_true (by kernel_rfl) (by kernel_rfl) (by rw [globals1]; exact Nat.le_refl _) (by kernel_rfl) ov_none
theorem oW_none {f : Nat} (hf : f ≠ 18) (args : List Value) (w : AW) : oW f args w = none := by
  have : Nat.beq f 18 = false := by rw [← Bool.not_eq_true]; intro h; exact hf (Nat.eq_of_beq_eq_true h)
  simp [oW, memoOv, this, noOv]
theorem oW_has : HasW oW := fun w hw => by
  have := hasAll_parts hw
  simp [oW, memoOv, this, sameL5, sameVal.sameVals]
theorem HasW.skip {f : Nat} {F : PureF} {rest : Ov} (hf : 18 ≠ f) (h : HasW rest) : HasW (ovP f F rest) := fun w hw => by simp [ovP, hf, h w hw]
theorem ovP_none {f g : Nat} {F : PureF} {rest : Ov} (hne : g ≠ f) (h : ∀ args w, rest g args w = none) (args : List Value) (w : AW) : ovP f F rest g args w = none := by simp [ovP, hne, h]
theorem F33_some {args : List Value} {w : AW} {v : Value} (h : F33 args w = some v) : ∃ n a b, args = [.int .i64 n, .int .i64 a, .int .i64 b] ∧ v = .bool (inI a n b) := by
  unfold F33 at h
  split at h
  · cases h; exact ⟨_, _, _, rfl, rfl⟩
  · cases h
theorem F46_some {args : List Value} {w : AW} {v : Value} (h : F46 args w = some v) : ∃ lo hi a b, args = [.agg ⟨[.int .i64 lo, .int .i64 hi]⟩, .int .i64 a, .int .i64 b] ∧ v = .bool (spanI lo hi a b) := by
  unfold F46 at h
  split at h
  · cases h; exact ⟨_, _, _, _, rfl, rfl⟩
  · cases h
theorem F100_some {args : List Value} {w : AW} {v : Value} (h : F100 args w = some v) : ∃ c, args = [.int .u8 c] ∧ v = .bool (inI 97 c 122) := by
  unfold F100 at h
  split at h
  · cases h; exact ⟨_, rfl, rfl⟩
  · cases h
theorem F101_some {args : List Value} {w : AW} {v : Value} (h : F101 args w = some v) : ∃ c, args = [.int .u8 c] ∧ v = .bool (inI 48 c 57) := by
  unfold F101 at h
  split at h
  · cases h; exact ⟨_, rfl, rfl⟩
  · cases h
theorem F87_some {args : List Value} {w : AW} {v : Value} (h : F87 args w = some v) : ∃ s, args = [.string s] ∧ v = .bool (wordB s.data.toList) := by
  unfold F87 at h
  split at h
  · cases h; exact ⟨_, rfl, rfl⟩
  · cases h
theorem F70_some {args : List Value} {w : AW} {v : Value} (h : F70 args w = some v) : ∃ p, args = [.agg ⟨podC p⟩] ∧ v = .bool (podB p) := by
  unfold F70 at h
  split at h
  · obtain ⟨p, h1, h2⟩ := Option.map_eq_some_iff.1 h
    exact ⟨p, by rw [podOf_some h1], h2.symm⟩
  · cases h
theorem F48_some {args : List Value} {w : AW} {v : Value} (h : F48 args w = some v) : ∃ a b, args = [.agg ⟨[.int .i64 a, .int .i64 b]⟩] ∧ v = .bool (decide (b < a)) := by
  unfold F48 at h
  split at h
  · cases h; exact ⟨_, _, rfl, rfl⟩
  · cases h
theorem F47_some {args : List Value} {w : AW} {v : Value} (h : F47 args w = some v) : ∃ p, args = [.agg ⟨podC p⟩] ∧ v = .agg ⟨[.int .i64 (winL p), .int .i64 (winH p)]⟩ := by
  unfold F47 at h
  split at h
  · obtain ⟨p, h1, h2⟩ := Option.map_eq_some_iff.1 h
    exact ⟨p, by rw [podOf_some h1], h2.symm⟩
  · cases h
theorem F16_some {args : List Value} {w : AW} {v : Value} (h : F16 args w = some v) : ∃ p, args = [.agg ⟨podC p⟩] ∧ v = .tuple ⟨[.agg ⟨[.int .i64 (wA p), .int .i64 (wB p)]⟩, .int .i64 (wE p)]⟩ := by
  unfold F16 at h
  split at h
  · obtain ⟨p, h1, h2⟩ := Option.map_eq_some_iff.1 h
    exact ⟨p, by rw [podOf_some h1], h2.symm⟩
  · cases h
theorem F44_some {args : List Value} {w : AW} {v : Value} (h : F44 args w = some v) : ∃ u l, args = [u] ∧ podsIn w u = some l ∧ v = .bool (podsB l) := by
  unfold F44 at h
  split at h
  · obtain ⟨l, h1, h2⟩ := Option.map_eq_some_iff.1 h
    exact ⟨_, l, rfl, h1, h2.symm⟩
  · cases h
theorem F14_some {args : List Value} {w : AW} {v : Value} (h : F14 args w = some v) : ∃ u l, args = [u] ∧ podsIn w u = some l ∧ v = errB (podsB l) 30 := by
  unfold F14 at h
  split at h
  · obtain ⟨l, h1, h2⟩ := Option.map_eq_some_iff.1 h
    exact ⟨_, l, rfl, h1, h2.symm⟩
  · cases h
theorem F72_some {args : List Value} {w : AW} {v : Value} (h : F72 args w = some v) : ∃ n a b, args = [.int .i64 n, .agg ⟨[.int .i64 a, .int .i64 b]⟩] ∧ v = .bool (inI a n b) := by
  unfold F72 at h
  split at h
  · cases h; exact ⟨_, _, _, rfl, rfl⟩
  · cases h
theorem bif_some {α : Type} {b : Bool} {x y : α} (h : (bif b then some x else none) = some y) : b = true ∧ y = x := by
  cases b with
  | true => cases h; exact ⟨rfl, rfl⟩
  | false => cases h
theorem if_some' {α : Type} {c : Prop} {inst : Decidable c} {x y : α} (h : (@ite _ c inst (some x) none) = some y) : c ∧ y = x := by
  by_cases k : c
  · rw [if_pos k] at h; cases h; exact ⟨k, rfl⟩
  · rw [if_neg k] at h; cases h
theorem F35_some {args : List Value} {w : AW} {v : Value} (h : F35 args w = some v) : ∃ a b, args = [.int .i64 a, .int .i64 b] ∧ v = .agg ⟨[.int .i64 a, .int .i64 b]⟩ := by
  unfold F35 at h
  split at h
  · cases h; exact ⟨_, _, rfl, rfl⟩
  · cases h
theorem F36_some {args : List Value} {w : AW} {x : Value} (h : F36 args w = some x) : ∃ u R n, args = [u, .int .i64 n] ∧ (0 ≤ n ∧ n ≤ 10000) ∧ R.length ≤ 100 ∧ RowsV intC w u R ∧ x = .bool (riseB n R) := by
  unfold F36 at h
  split at h
  · obtain ⟨R, h1, h2⟩ := Option.bind_eq_some_iff.1 h
    obtain ⟨h3, rfl⟩ := bif_some h2
    simp only [inI, Bool.and_eq_true, decide_eq_true_eq] at h3
    exact ⟨_, _, _, rfl, h3.1, h3.2, rowsIn_some h1, rfl⟩
  · cases h
theorem F85_some {args : List Value} {w : AW} {x : Value} (h : F85 args w = some x) : ∃ o, args = [.agg ⟨offC o⟩] ∧ x = oWin o := by
  unfold F85 at h
  split at h
  · obtain ⟨o, h1, rfl⟩ := Option.map_eq_some_iff.1 h
    exact ⟨o, by rw [podOfC_some h1], rfl⟩
  · cases h
theorem F59_some {args : List Value} {w : AW} {x : Value} (h : F59 args w = some x) : ∃ v l a b, args = [v, .agg ⟨[.int .i64 a, .int .i64 b]⟩] ∧ podsIn w v = some l ∧ x = .int .i64 (mkErr l a b) := by
  unfold F59 at h
  split at h
  · obtain ⟨l, h1, rfl⟩ := Option.map_eq_some_iff.1 h
    exact ⟨_, l, _, _, rfl, h1, rfl⟩
  · cases h
theorem F103_some {args : List Value} {w : AW} {x : Value} (h : F103 args w = some x) : ∃ a, args = [.int .i64 a] ∧ x = .bool false := by
  unfold F103 at h
  split at h
  · cases h; exact ⟨_, rfl, rfl⟩
  · cases h
theorem F94_some {args : List Value} {w : AW} {x : Value} (h : F94 args w = some x) : ∃ a b, args = [.int .i64 a, .int .i64 b] ∧ x = .int .i64 (cmpI a b) := by
  unfold F94 at h
  split at h
  · cases h; exact ⟨_, _, rfl, rfl⟩
  · cases h
theorem F110_some {args : List Value} {w : AW} {x : Value} (h : F110 args w = some x) : ∃ a b, args = [.int .i64 a, .int .i64 b] ∧ x = .bool (decide (a < b)) := by
  unfold F110 at h
  split at h
  · cases h; exact ⟨_, _, rfl, rfl⟩
  · cases h
theorem F81_some {args : List Value} {w : AW} {x : Value} (h : F81 args w = some x) : ∃ o, args = [.agg ⟨offC o⟩] ∧ x = .int .i64 (oH o) := by
  unfold F81 at h
  split at h
  · obtain ⟨o, h1, rfl⟩ := Option.map_eq_some_iff.1 h
    exact ⟨o, by rw [podOfC_some h1], rfl⟩
  · cases h
theorem F96_some {args : List Value} {w : AW} {x : Value} (h : F96 args w = some x) : ∃ u L z, args = [u, .int .i64 z] ∧ L.length ≤ 100 ∧ RowsV intC w u L ∧ x = .int .i64 (fnd L z 0) := by
  unfold F96 at h
  split at h
  · obtain ⟨L, h1, h2⟩ := Option.bind_eq_some_iff.1 h
    obtain ⟨h3, rfl⟩ := bif_some h2
    exact ⟨_, L, _, rfl, of_decide_eq_true h3, rowsIn_some h1, rfl⟩
  · cases h
theorem F83_some {args : List Value} {w : AW} {x : Value} (h : F83 args w = some x) : ∃ u L z, args = [u, .int .i64 z] ∧ L.length ≤ 100 ∧ RowsV intC w u L ∧ x = .bool (decide (z ∈ L)) := by
  unfold F83 at h
  split at h
  · obtain ⟨L, h1, h2⟩ := Option.bind_eq_some_iff.1 h
    obtain ⟨h3, rfl⟩ := bif_some h2
    exact ⟨_, L, _, rfl, of_decide_eq_true h3, rowsIn_some h1, rfl⟩
  · cases h
theorem F114_some {args : List Value} {w : AW} {x : Value} (h : F114 args w = some x) : ∃ n : Nat, args = [.int .u64 (n : Int)] ∧ n ≤ 12 ∧ x = .int .i64 (bitI n) := by
  unfold F114 at h
  split at h
  · rename_i z
    obtain ⟨h3, rfl⟩ := bif_some h
    simp only [inI, Bool.and_eq_true, decide_eq_true_eq] at h3
    exact ⟨z.toNat, by rw [show ((z.toNat : Nat) : Int) = z by omega], by omega, rfl⟩
  · cases h
theorem F93_some {args : List Value} {w : AW} {x : Value} (h : F93 args w = some x) : ∃ a b c, args = [.agg ⟨offC a⟩, .agg ⟨offC b⟩, .pointer (some ⟨c, 0, none⟩)] ∧ HasC w c ∧ x = .int .i64 (cmpI (oH a) (oH b)) := by
  unfold F93 at h
  split at h
  · obtain ⟨a, h1, h⟩ := Option.bind_eq_some_iff.1 h
    obtain ⟨b, h2, h⟩ := Option.bind_eq_some_iff.1 h
    obtain ⟨h3, rfl⟩ := if_some' h
    exact ⟨a, b, _, by rw [podOfC_some h1, podOfC_some h2], h3, rfl⟩
  · cases h
theorem F42_some {args : List Value} {w : AW} {v : Value} (h : F42 args w = some v) : ∃ n s, args = [.int .i64 n, .int .i64 s] ∧ s ≤ 2 ^ 60 ∧ v = .int .i64 (wrapI n s) := by
  unfold F42 at h
  split at h
  · obtain ⟨h1, rfl⟩ := bif_some h
    exact ⟨_, _, rfl, of_decide_eq_true h1, rfl⟩
  · cases h
theorem F38_some {args : List Value} {w : AW} {v : Value} (h : F38 args w = some v) : ∃ lo hi n, args = [.int .i64 lo, .int .i64 hi, .int .i64 n] ∧ ((0 ≤ lo ∧ lo ≤ 100000) ∧ 0 ≤ hi ∧ hi ≤ 100000) ∧ v = .int .i64 (withI lo hi n) := by
  unfold F38 at h
  split at h
  · obtain ⟨h1, rfl⟩ := bif_some h
    refine ⟨_, _, _, rfl, ?_, rfl⟩
    simpa [inI] using h1
  · cases h
theorem F37_some {args : List Value} {w : AW} {x : Value} (h : F37 args w = some x) : ∃ p a b, args = [.agg ⟨podC p⟩, .agg ⟨[.int .i64 a, .int .i64 b]⟩] ∧ x = .tuple ⟨[.agg ⟨[.int .i64 (wiL p a), .int .i64 (wiH p b)]⟩, .bool (wiB p a b)]⟩ := by
  unfold F37 at h
  split at h
  · obtain ⟨p, h1, rfl⟩ := Option.map_eq_some_iff.1 h
    exact ⟨p, _, _, by rw [podOf_some h1], rfl⟩
  · cases h
theorem F39_some {args : List Value} {w : AW} {x : Value} (h : F39 args w = some x) : ∃ u R a b, args = [u, .agg ⟨[.int .i64 a, .int .i64 b]⟩] ∧ R.length ≤ 100 ∧ RowsV intC w u R ∧ x = .bool (metB R a b) := by
  unfold F39 at h
  split at h
  · obtain ⟨R, h1, h2⟩ := Option.bind_eq_some_iff.1 h
    obtain ⟨h3, rfl⟩ := bif_some h2
    exact ⟨_, R, _, _, rfl, of_decide_eq_true h3, rowsIn_some h1, rfl⟩
  · cases h
noncomputable def o33 : Ov := ovP 33 F33 oW
theorem ok33 : OvOk Tryd.prog o33 := pure_ok no_count mixed okW' (fun _ _ _ h => h) fun args w res hl hres => by
  obtain ⟨n, a, b, rfl, rfl⟩ := F33_some hres
  obtain ⟨_, w', h1, rfl⟩ := run33 (oW_none (by decide))  n a b w
  exact ⟨rfl, 2, w', _, h1⟩
noncomputable def o46 : Ov := ovP 46 F46 o33
theorem ok46 : OvOk Tryd.prog o46 := pure_ok no_count mixed ok33 (fun _ _ _ h => h) fun args w res hl hres => by
  obtain ⟨lo, hi, a, b, rfl, rfl⟩ := F46_some hres
  obtain ⟨_, w', h1, rfl⟩ := run46 (ovP_none (f := 33) (by decide) (oW_none (by decide)))  lo hi a b w
  exact ⟨rfl, 2, w', _, h1⟩
noncomputable def o79 : Ov := ovP 79 F46 o46
theorem ok79 : OvOk Tryd.prog o79 := pure_ok no_count mixed ok46 (fun _ _ _ h => h) fun args w res hl hres => by
  obtain ⟨lo, hi, a, b, rfl, rfl⟩ := F46_some hres
  obtain ⟨_, w', h1, rfl⟩ := run79 (ovP_none (f := 46) (by decide) (ovP_none (f := 33) (by decide) (oW_none (by decide))))  lo hi a b w
  exact ⟨rfl, 2, w', _, h1⟩
noncomputable def o100 : Ov := ovP 100 F100 o79
theorem ok100 : OvOk Tryd.prog o100 := pure_ok no_count mixed ok79 (fun _ _ _ h => h) fun args w res hl hres => by
  obtain ⟨c, rfl, rfl⟩ := F100_some hres
  obtain ⟨_, w', h1, rfl⟩ := run100 (ovP_none (f := 79) (by decide) (ovP_none (f := 46) (by decide) (ovP_none (f := 33) (by decide) (oW_none (by decide)))))  c w
  exact ⟨rfl, 2, w', _, h1⟩
noncomputable def o101 : Ov := ovP 101 F101 o100
theorem ok101 : OvOk Tryd.prog o101 := pure_ok no_count mixed ok100 (fun _ _ _ h => h) fun args w res hl hres => by
  obtain ⟨c, rfl, rfl⟩ := F101_some hres
  obtain ⟨_, w', h1, rfl⟩ := run101 (ovP_none (f := 100) (by decide) (ovP_none (f := 79) (by decide) (ovP_none (f := 46) (by decide) (ovP_none (f := 33) (by decide) (oW_none (by decide))))))  c w
  exact ⟨rfl, 2, w', _, h1⟩
noncomputable def o87 : Ov := ovP 87 F87 o101
theorem ok87 : OvOk Tryd.prog o87 := pure_ok no_count mixed ok101 (fun _ _ _ h => h) fun args w res hl hres => by
  obtain ⟨s, rfl, rfl⟩ := F87_some hres
  obtain ⟨_, w', h1, rfl⟩ := run87 (ovP_none (f := 101) (by decide) (ovP_none (f := 100) (by decide) (ovP_none (f := 79) (by decide) (ovP_none (f := 46) (by decide) (ovP_none (f := 33) (by decide) (oW_none (by decide))))))) (HasP.skip (g := 101) (by decide) .here) .here s w
  exact ⟨rfl, 2, w', _, h1⟩
noncomputable def o45 : Ov := ovP 45 F87 o87
theorem ok45 : OvOk Tryd.prog o45 := pure_ok no_count mixed ok87 (fun _ _ _ h => h) fun args w res hl hres => by
  obtain ⟨s, rfl, rfl⟩ := F87_some hres
  obtain ⟨_, w', h1, rfl⟩ := run45 (ovP_none (f := 87) (by decide) (ovP_none (f := 101) (by decide) (ovP_none (f := 100) (by decide) (ovP_none (f := 79) (by decide) (ovP_none (f := 46) (by decide) (ovP_none (f := 33) (by decide) (oW_none (by decide)))))))) (HasP.skip (g := 87) (by decide) (HasP.skip (g := 101) (by decide) (HasP.skip (g := 100) (by decide) (HasP.skip (g := 79) (by decide) (HasP.skip (g := 46) (by decide) .here))))) s w
  exact ⟨rfl, 2, w', _, h1⟩
noncomputable def o70 : Ov := ovP 70 F70 o45
theorem ok70 : OvOk Tryd.prog o70 := pure_ok no_count mixed ok45 (fun _ _ _ h => h) fun args w res hl hres => by
  obtain ⟨p, rfl, rfl⟩ := F70_some hres
  obtain ⟨_, w', h1, rfl⟩ := run70 (ovP_none (f := 45) (by decide) (ovP_none (f := 87) (by decide) (ovP_none (f := 101) (by decide) (ovP_none (f := 100) (by decide) (ovP_none (f := 79) (by decide) (ovP_none (f := 46) (by decide) (ovP_none (f := 33) (by decide) (oW_none (by decide))))))))) (HasP.skip (g := 45) (by decide) .here) (HasP.skip (g := 45) (by decide) (HasP.skip (g := 87) (by decide) (HasP.skip (g := 101) (by decide) (HasP.skip (g := 100) (by decide) .here)))) p w
  exact ⟨rfl, 2, w', _, h1⟩
noncomputable def o44 : Ov := ovP 44 F44 o70
theorem ok44 : OvOk Tryd.prog o44 := pure_ok no_count mixed ok70 (fun _ _ _ h => h) fun args w res hl hres => by
  obtain ⟨u, l, rfl, hin, rfl⟩ := F44_some hres
  obtain ⟨_, w', h1, rfl⟩ := run44 (ovP_none (f := 70) (by decide) (ovP_none (f := 45) (by decide) (ovP_none (f := 87) (by decide) (ovP_none (f := 101) (by decide) (ovP_none (f := 100) (by decide) (ovP_none (f := 79) (by decide) (ovP_none (f := 46) (by decide) (ovP_none (f := 33) (by decide) (oW_none (by decide)))))))))) .here u l w hl (podsIn_some hin)
  exact ⟨rfl, 2, w', _, h1⟩
noncomputable def o14 : Ov := ovP 14 F14 o44
theorem ok14 : OvOk Tryd.prog o14 := pure_ok no_count mixed ok44 (fun _ _ _ h => h) fun args w res hl hres => by
  obtain ⟨u, l, rfl, hin, rfl⟩ := F14_some hres
  obtain ⟨_, w', h1, rfl⟩ := run14 (ovP_none (f := 44) (by decide) (ovP_none (f := 70) (by decide) (ovP_none (f := 45) (by decide) (ovP_none (f := 87) (by decide) (ovP_none (f := 101) (by decide) (ovP_none (f := 100) (by decide) (ovP_none (f := 79) (by decide) (ovP_none (f := 46) (by decide) (ovP_none (f := 33) (by decide) (oW_none (by decide))))))))))) .here u l w hin
  exact ⟨rfl, 2, w', _, h1⟩
noncomputable def o15 : Ov := ovP 15 F14 o14
theorem ok15 : OvOk Tryd.prog o15 := pure_ok no_count mixed ok14 (fun _ _ _ h => h) fun args w res hl hres => by
  obtain ⟨u, l, rfl, hin, rfl⟩ := F14_some hres
  obtain ⟨_, w', h1, rfl⟩ := run15 (ovP_none (f := 14) (by decide) (ovP_none (f := 44) (by decide) (ovP_none (f := 70) (by decide) (ovP_none (f := 45) (by decide) (ovP_none (f := 87) (by decide) (ovP_none (f := 101) (by decide) (ovP_none (f := 100) (by decide) (ovP_none (f := 79) (by decide) (ovP_none (f := 46) (by decide) (ovP_none (f := 33) (by decide) (oW_none (by decide)))))))))))) (HasP.skip (g := 14) (by decide) (HasP.skip (g := 44) (by decide) (HasP.skip (g := 70) (by decide) .here))) (HasP.skip (g := 14) (by decide) (HasP.skip (g := 44) (by decide) (HasP.skip (g := 70) (by decide) (HasP.skip (g := 45) (by decide) (HasP.skip (g := 87) (by decide) (HasP.skip (g := 101) (by decide) (HasP.skip (g := 100) (by decide) (HasP.skip (g := 79) (by decide) (HasP.skip (g := 46) (by decide) .here))))))))) (HasP.skip (g := 14) (by decide) (HasP.skip (g := 44) (by decide) (HasP.skip (g := 70) (by decide) (HasP.skip (g := 45) (by decide) (HasP.skip (g := 87) (by decide) (HasP.skip (g := 101) (by decide) (HasP.skip (g := 100) (by decide) (HasP.skip (g := 79) (by decide) .here)))))))) u l w hl (podsIn_some hin)
  exact ⟨rfl, 2, w', _, h1⟩
noncomputable def o47 : Ov := ovP 47 F47 o15
theorem ok47 : OvOk Tryd.prog o47 := pure_ok no_count mixed ok15 (fun _ _ _ h => h) fun args w res hl hres => by
  obtain ⟨p, rfl, rfl⟩ := F47_some hres
  obtain ⟨_, w', h1, rfl⟩ := run47 (ovP_none (f := 15) (by decide) (ovP_none (f := 14) (by decide) (ovP_none (f := 44) (by decide) (ovP_none (f := 70) (by decide) (ovP_none (f := 45) (by decide) (ovP_none (f := 87) (by decide) (ovP_none (f := 101) (by decide) (ovP_none (f := 100) (by decide) (ovP_none (f := 79) (by decide) (ovP_none (f := 46) (by decide) (ovP_none (f := 33) (by decide) (oW_none (by decide)))))))))))))  p w hl
  exact ⟨rfl, 2, w', _, h1⟩
noncomputable def o49 : Ov := ovP 49 F47 o47
theorem ok49 : OvOk Tryd.prog o49 := pure_ok no_count mixed ok47 (fun _ _ _ h => h) fun args w res hl hres => by
  obtain ⟨p, rfl, rfl⟩ := F47_some hres
  obtain ⟨_, w', h1, rfl⟩ := run49 (ovP_none (f := 47) (by decide) (ovP_none (f := 15) (by decide) (ovP_none (f := 14) (by decide) (ovP_none (f := 44) (by decide) (ovP_none (f := 70) (by decide) (ovP_none (f := 45) (by decide) (ovP_none (f := 87) (by decide) (ovP_none (f := 101) (by decide) (ovP_none (f := 100) (by decide) (ovP_none (f := 79) (by decide) (ovP_none (f := 46) (by decide) (ovP_none (f := 33) (by decide) (oW_none (by decide))))))))))))))  p w hl
  exact ⟨rfl, 2, w', _, h1⟩
noncomputable def o48 : Ov := ovP 48 F48 o49
theorem ok48 : OvOk Tryd.prog o48 := pure_ok no_count mixed ok49 (fun _ _ _ h => h) fun args w res hl hres => by
  obtain ⟨a, b, rfl, rfl⟩ := F48_some hres
  obtain ⟨_, w', h1, rfl⟩ := run48 (ovP_none (f := 49) (by decide) (ovP_none (f := 47) (by decide) (ovP_none (f := 15) (by decide) (ovP_none (f := 14) (by decide) (ovP_none (f := 44) (by decide) (ovP_none (f := 70) (by decide) (ovP_none (f := 45) (by decide) (ovP_none (f := 87) (by decide) (ovP_none (f := 101) (by decide) (ovP_none (f := 100) (by decide) (ovP_none (f := 79) (by decide) (ovP_none (f := 46) (by decide) (ovP_none (f := 33) (by decide) (oW_none (by decide)))))))))))))))  a b w
  exact ⟨rfl, 2, w', _, h1⟩
noncomputable def o72 : Ov := ovP 72 F72 o48
theorem ok72 : OvOk Tryd.prog o72 := pure_ok no_count mixed ok48 (fun _ _ _ h => h) fun args w res hl hres => by
  obtain ⟨n, a, b, rfl, rfl⟩ := F72_some hres
  obtain ⟨_, w', h1, rfl⟩ := run72 (ovP_none (f := 48) (by decide) (ovP_none (f := 49) (by decide) (ovP_none (f := 47) (by decide) (ovP_none (f := 15) (by decide) (ovP_none (f := 14) (by decide) (ovP_none (f := 44) (by decide) (ovP_none (f := 70) (by decide) (ovP_none (f := 45) (by decide) (ovP_none (f := 87) (by decide) (ovP_none (f := 101) (by decide) (ovP_none (f := 100) (by decide) (ovP_none (f := 79) (by decide) (ovP_none (f := 46) (by decide) (ovP_none (f := 33) (by decide) (oW_none (by decide))))))))))))))))  n a b w
  exact ⟨rfl, 2, w', _, h1⟩
noncomputable def o85 : Ov := ovP 85 F85 o72
theorem ok85 : OvOk Tryd.prog o85 := pure_ok no_count mixed ok72 (fun _ _ _ h => h) fun args w res hl hres => by
  obtain ⟨o, rfl, rfl⟩ := F85_some hres
  obtain ⟨_, w', h1, rfl⟩ := run85 (ovP_none (f := 72) (by decide) (ovP_none (f := 48) (by decide) (ovP_none (f := 49) (by decide) (ovP_none (f := 47) (by decide) (ovP_none (f := 15) (by decide) (ovP_none (f := 14) (by decide) (ovP_none (f := 44) (by decide) (ovP_none (f := 70) (by decide) (ovP_none (f := 45) (by decide) (ovP_none (f := 87) (by decide) (ovP_none (f := 101) (by decide) (ovP_none (f := 100) (by decide) (ovP_none (f := 79) (by decide) (ovP_none (f := 46) (by decide) (ovP_none (f := 33) (by decide) (oW_none (by decide))))))))))))))))) (HasP.skip (g := 72) (by decide) (HasP.skip (g := 48) (by decide) (HasP.skip (g := 49) (by decide) .here))) o w hl
  exact ⟨rfl, 2, w', _, h1⟩
noncomputable def o59 : Ov := ovP 59 F59 o85
theorem ok59 : OvOk Tryd.prog o59 := pure_ok no_count mixed ok85 (fun _ _ _ h => h) fun args w res hl hres => by
  obtain ⟨v, l, a, b, rfl, hv, rfl⟩ := F59_some hres
  obtain ⟨_, w', h1, rfl⟩ := run59 (ovP_none (f := 85) (by decide) (ovP_none (f := 72) (by decide) (ovP_none (f := 48) (by decide) (ovP_none (f := 49) (by decide) (ovP_none (f := 47) (by decide) (ovP_none (f := 15) (by decide) (ovP_none (f := 14) (by decide) (ovP_none (f := 44) (by decide) (ovP_none (f := 70) (by decide) (ovP_none (f := 45) (by decide) (ovP_none (f := 87) (by decide) (ovP_none (f := 101) (by decide) (ovP_none (f := 100) (by decide) (ovP_none (f := 79) (by decide) (ovP_none (f := 46) (by decide) (ovP_none (f := 33) (by decide) (oW_none (by decide)))))))))))))))))) (HasP.skip (g := 85) (by decide) (HasP.skip (g := 72) (by decide) (HasP.skip (g := 48) (by decide) (HasP.skip (g := 49) (by decide) (HasP.skip (g := 47) (by decide) (HasP.skip (g := 15) (by decide) .here)))))) (HasP.skip (g := 85) (by decide) (HasP.skip (g := 72) (by decide) (HasP.skip (g := 48) (by decide) (HasP.skip (g := 49) (by decide) (HasP.skip (g := 47) (by decide) (HasP.skip (g := 15) (by decide) (HasP.skip (g := 14) (by decide) (HasP.skip (g := 44) (by decide) (HasP.skip (g := 70) (by decide) (HasP.skip (g := 45) (by decide) (HasP.skip (g := 87) (by decide) (HasP.skip (g := 101) (by decide) (HasP.skip (g := 100) (by decide) .here))))))))))))) l a b v w (podsIn_some hv)
  exact ⟨rfl, 2, w', _, h1⟩
noncomputable def o103 : Ov := ovP 103 F103 o59
theorem ok103 : OvOk Tryd.prog o103 := pure_ok no_count mixed ok59 (fun _ _ _ h => h) fun args w res hl hres => by
  obtain ⟨a, rfl, rfl⟩ := F103_some hres
  obtain ⟨_, w', h1, rfl⟩ := run103 (ovP_none (f := 59) (by decide) (ovP_none (f := 85) (by decide) (ovP_none (f := 72) (by decide) (ovP_none (f := 48) (by decide) (ovP_none (f := 49) (by decide) (ovP_none (f := 47) (by decide) (ovP_none (f := 15) (by decide) (ovP_none (f := 14) (by decide) (ovP_none (f := 44) (by decide) (ovP_none (f := 70) (by decide) (ovP_none (f := 45) (by decide) (ovP_none (f := 87) (by decide) (ovP_none (f := 101) (by decide) (ovP_none (f := 100) (by decide) (ovP_none (f := 79) (by decide) (ovP_none (f := 46) (by decide) (ovP_none (f := 33) (by decide) (oW_none (by decide)))))))))))))))))))  a w
  exact ⟨rfl, 2, w', _, h1⟩
noncomputable def o94 : Ov := ovP 94 F94 o103
theorem ok94 : OvOk Tryd.prog o94 := pure_ok no_count mixed ok103 (fun _ _ _ h => h) fun args w res hl hres => by
  obtain ⟨a, b, rfl, rfl⟩ := F94_some hres
  obtain ⟨_, w', h1, rfl⟩ := run94 (ovP_none (f := 103) (by decide) (ovP_none (f := 59) (by decide) (ovP_none (f := 85) (by decide) (ovP_none (f := 72) (by decide) (ovP_none (f := 48) (by decide) (ovP_none (f := 49) (by decide) (ovP_none (f := 47) (by decide) (ovP_none (f := 15) (by decide) (ovP_none (f := 14) (by decide) (ovP_none (f := 44) (by decide) (ovP_none (f := 70) (by decide) (ovP_none (f := 45) (by decide) (ovP_none (f := 87) (by decide) (ovP_none (f := 101) (by decide) (ovP_none (f := 100) (by decide) (ovP_none (f := 79) (by decide) (ovP_none (f := 46) (by decide) (ovP_none (f := 33) (by decide) (oW_none (by decide)))))))))))))))))))) .here a b w
  exact ⟨rfl, 2, w', _, h1⟩
noncomputable def o110 : Ov := ovP 110 F110 o94
theorem ok110 : OvOk Tryd.prog o110 := pure_ok no_count mixed ok94 (fun _ _ _ h => h) fun args w res hl hres => by
  obtain ⟨a, b, rfl, rfl⟩ := F110_some hres
  obtain ⟨_, w', h1, rfl⟩ := run110 (ovP_none (f := 94) (by decide) (ovP_none (f := 103) (by decide) (ovP_none (f := 59) (by decide) (ovP_none (f := 85) (by decide) (ovP_none (f := 72) (by decide) (ovP_none (f := 48) (by decide) (ovP_none (f := 49) (by decide) (ovP_none (f := 47) (by decide) (ovP_none (f := 15) (by decide) (ovP_none (f := 14) (by decide) (ovP_none (f := 44) (by decide) (ovP_none (f := 70) (by decide) (ovP_none (f := 45) (by decide) (ovP_none (f := 87) (by decide) (ovP_none (f := 101) (by decide) (ovP_none (f := 100) (by decide) (ovP_none (f := 79) (by decide) (ovP_none (f := 46) (by decide) (ovP_none (f := 33) (by decide) (oW_none (by decide))))))))))))))))))))) (HasP.skip (g := 94) (by decide) .here) a b w
  exact ⟨rfl, 2, w', _, h1⟩
noncomputable def o81 : Ov := ovP 81 F81 o110
theorem ok81 : OvOk Tryd.prog o81 := pure_ok no_count mixed ok110 (fun _ _ _ h => h) fun args w res hl hres => by
  obtain ⟨o, rfl, rfl⟩ := F81_some hres
  obtain ⟨_, w', h1, rfl⟩ := run81 (ovP_none (f := 110) (by decide) (ovP_none (f := 94) (by decide) (ovP_none (f := 103) (by decide) (ovP_none (f := 59) (by decide) (ovP_none (f := 85) (by decide) (ovP_none (f := 72) (by decide) (ovP_none (f := 48) (by decide) (ovP_none (f := 49) (by decide) (ovP_none (f := 47) (by decide) (ovP_none (f := 15) (by decide) (ovP_none (f := 14) (by decide) (ovP_none (f := 44) (by decide) (ovP_none (f := 70) (by decide) (ovP_none (f := 45) (by decide) (ovP_none (f := 87) (by decide) (ovP_none (f := 101) (by decide) (ovP_none (f := 100) (by decide) (ovP_none (f := 79) (by decide) (ovP_none (f := 46) (by decide) (ovP_none (f := 33) (by decide) (oW_none (by decide)))))))))))))))))))))) (HasP.skip (g := 110) (by decide) (HasP.skip (g := 94) (by decide) (HasP.skip (g := 103) (by decide) (HasP.skip (g := 59) (by decide) .here)))) o w
  exact ⟨rfl, 2, w', _, h1⟩
noncomputable def o96 : Ov := ovP 96 F96 o81
theorem ok96 : OvOk Tryd.prog o96 := pure_ok no_count mixed ok81 (fun _ _ _ h => h) fun args w res hl hres => by
  obtain ⟨u, L, z, rfl, hlen, hu, rfl⟩ := F96_some hres
  obtain ⟨_, w', h1, rfl⟩ := run96 (ovP_none (f := 81) (by decide) (ovP_none (f := 110) (by decide) (ovP_none (f := 94) (by decide) (ovP_none (f := 103) (by decide) (ovP_none (f := 59) (by decide) (ovP_none (f := 85) (by decide) (ovP_none (f := 72) (by decide) (ovP_none (f := 48) (by decide) (ovP_none (f := 49) (by decide) (ovP_none (f := 47) (by decide) (ovP_none (f := 15) (by decide) (ovP_none (f := 14) (by decide) (ovP_none (f := 44) (by decide) (ovP_none (f := 70) (by decide) (ovP_none (f := 45) (by decide) (ovP_none (f := 87) (by decide) (ovP_none (f := 101) (by decide) (ovP_none (f := 100) (by decide) (ovP_none (f := 79) (by decide) (ovP_none (f := 46) (by decide) (ovP_none (f := 33) (by decide) (oW_none (by decide)))))))))))))))))))))))  L hlen z u w hu
  exact ⟨rfl, 2, w', _, h1⟩
noncomputable def o64 : Ov := ovP 64 F96 o96
theorem ok64 : OvOk Tryd.prog o64 := pure_ok no_count mixed ok96 (fun _ _ _ h => h) fun args w res hl hres => by
  obtain ⟨u, L, z, rfl, hlen, hu, rfl⟩ := F96_some hres
  obtain ⟨_, w', h1, rfl⟩ := run64 (ovP_none (f := 96) (by decide) (ovP_none (f := 81) (by decide) (ovP_none (f := 110) (by decide) (ovP_none (f := 94) (by decide) (ovP_none (f := 103) (by decide) (ovP_none (f := 59) (by decide) (ovP_none (f := 85) (by decide) (ovP_none (f := 72) (by decide) (ovP_none (f := 48) (by decide) (ovP_none (f := 49) (by decide) (ovP_none (f := 47) (by decide) (ovP_none (f := 15) (by decide) (ovP_none (f := 14) (by decide) (ovP_none (f := 44) (by decide) (ovP_none (f := 70) (by decide) (ovP_none (f := 45) (by decide) (ovP_none (f := 87) (by decide) (ovP_none (f := 101) (by decide) (ovP_none (f := 100) (by decide) (ovP_none (f := 79) (by decide) (ovP_none (f := 46) (by decide) (ovP_none (f := 33) (by decide) (oW_none (by decide))))))))))))))))))))))))  L hlen z u w hu
  exact ⟨rfl, 2, w', _, h1⟩
noncomputable def o83 : Ov := ovP 83 F83 o64
theorem ok83 : OvOk Tryd.prog o83 := pure_ok no_count mixed ok64 (fun _ _ _ h => h) fun args w res hl hres => by
  obtain ⟨u, L, z, rfl, hlen, hu, rfl⟩ := F83_some hres
  obtain ⟨_, w', h1, rfl⟩ := run83 (ovP_none (f := 64) (by decide) (ovP_none (f := 96) (by decide) (ovP_none (f := 81) (by decide) (ovP_none (f := 110) (by decide) (ovP_none (f := 94) (by decide) (ovP_none (f := 103) (by decide) (ovP_none (f := 59) (by decide) (ovP_none (f := 85) (by decide) (ovP_none (f := 72) (by decide) (ovP_none (f := 48) (by decide) (ovP_none (f := 49) (by decide) (ovP_none (f := 47) (by decide) (ovP_none (f := 15) (by decide) (ovP_none (f := 14) (by decide) (ovP_none (f := 44) (by decide) (ovP_none (f := 70) (by decide) (ovP_none (f := 45) (by decide) (ovP_none (f := 87) (by decide) (ovP_none (f := 101) (by decide) (ovP_none (f := 100) (by decide) (ovP_none (f := 79) (by decide) (ovP_none (f := 46) (by decide) (ovP_none (f := 33) (by decide) (oW_none (by decide))))))))))))))))))))))))) (HasP.skip (g := 64) (by decide) .here) L hlen z u w hu
  exact ⟨rfl, 2, w', _, h1⟩
noncomputable def o114 : Ov := ovP 114 F114 o83
theorem ok114 : OvOk Tryd.prog o114 := pure_ok no_count mixed ok83 (fun _ _ _ h => h) fun args w res hl hres => by
  obtain ⟨n, rfl, hn, rfl⟩ := F114_some hres
  obtain ⟨_, w', h1, rfl⟩ := run114 (ovP_none (f := 83) (by decide) (ovP_none (f := 64) (by decide) (ovP_none (f := 96) (by decide) (ovP_none (f := 81) (by decide) (ovP_none (f := 110) (by decide) (ovP_none (f := 94) (by decide) (ovP_none (f := 103) (by decide) (ovP_none (f := 59) (by decide) (ovP_none (f := 85) (by decide) (ovP_none (f := 72) (by decide) (ovP_none (f := 48) (by decide) (ovP_none (f := 49) (by decide) (ovP_none (f := 47) (by decide) (ovP_none (f := 15) (by decide) (ovP_none (f := 14) (by decide) (ovP_none (f := 44) (by decide) (ovP_none (f := 70) (by decide) (ovP_none (f := 45) (by decide) (ovP_none (f := 87) (by decide) (ovP_none (f := 101) (by decide) (ovP_none (f := 100) (by decide) (ovP_none (f := 79) (by decide) (ovP_none (f := 46) (by decide) (ovP_none (f := 33) (by decide) (oW_none (by decide))))))))))))))))))))))))))  n hn w
  exact ⟨rfl, 2, w', _, h1⟩
noncomputable def o98 : Ov := ovP 98 F114 o114
theorem ok98 : OvOk Tryd.prog o98 := pure_ok no_count mixed ok114 (fun _ _ _ h => h) fun args w res hl hres => by
  obtain ⟨n, rfl, hn, rfl⟩ := F114_some hres
  obtain ⟨_, w', h1, rfl⟩ := run98 (ovP_none (f := 114) (by decide) (ovP_none (f := 83) (by decide) (ovP_none (f := 64) (by decide) (ovP_none (f := 96) (by decide) (ovP_none (f := 81) (by decide) (ovP_none (f := 110) (by decide) (ovP_none (f := 94) (by decide) (ovP_none (f := 103) (by decide) (ovP_none (f := 59) (by decide) (ovP_none (f := 85) (by decide) (ovP_none (f := 72) (by decide) (ovP_none (f := 48) (by decide) (ovP_none (f := 49) (by decide) (ovP_none (f := 47) (by decide) (ovP_none (f := 15) (by decide) (ovP_none (f := 14) (by decide) (ovP_none (f := 44) (by decide) (ovP_none (f := 70) (by decide) (ovP_none (f := 45) (by decide) (ovP_none (f := 87) (by decide) (ovP_none (f := 101) (by decide) (ovP_none (f := 100) (by decide) (ovP_none (f := 79) (by decide) (ovP_none (f := 46) (by decide) (ovP_none (f := 33) (by decide) (oW_none (by decide))))))))))))))))))))))))))) .here n hn w
  exact ⟨rfl, 2, w', _, h1⟩
noncomputable def o93 : Ov := ovP 93 F93 o98
theorem ok93 : OvOk Tryd.prog o93 := pure_ok no_count mixed ok98 (fun _ _ _ h => h) fun args w res hl hres => by
  obtain ⟨a, b, c, rfl, hc, rfl⟩ := F93_some hres
  obtain ⟨_, w', h1, rfl⟩ := run93 (ovP_none (f := 98) (by decide) (ovP_none (f := 114) (by decide) (ovP_none (f := 83) (by decide) (ovP_none (f := 64) (by decide) (ovP_none (f := 96) (by decide) (ovP_none (f := 81) (by decide) (ovP_none (f := 110) (by decide) (ovP_none (f := 94) (by decide) (ovP_none (f := 103) (by decide) (ovP_none (f := 59) (by decide) (ovP_none (f := 85) (by decide) (ovP_none (f := 72) (by decide) (ovP_none (f := 48) (by decide) (ovP_none (f := 49) (by decide) (ovP_none (f := 47) (by decide) (ovP_none (f := 15) (by decide) (ovP_none (f := 14) (by decide) (ovP_none (f := 44) (by decide) (ovP_none (f := 70) (by decide) (ovP_none (f := 45) (by decide) (ovP_none (f := 87) (by decide) (ovP_none (f := 101) (by decide) (ovP_none (f := 100) (by decide) (ovP_none (f := 79) (by decide) (ovP_none (f := 46) (by decide) (ovP_none (f := 33) (by decide) (oW_none (by decide)))))))))))))))))))))))))))) (HasP.skip (g := 98) (by decide) (HasP.skip (g := 114) (by decide) (HasP.skip (g := 83) (by decide) (HasP.skip (g := 64) (by decide) (HasP.skip (g := 96) (by decide) .here))))) (HasP.skip (g := 98) (by decide) (HasP.skip (g := 114) (by decide) (HasP.skip (g := 83) (by decide) (HasP.skip (g := 64) (by decide) (HasP.skip (g := 96) (by decide) (HasP.skip (g := 81) (by decide) (HasP.skip (g := 110) (by decide) .here))))))) a b c w hc
  exact ⟨rfl, 2, w', _, h1⟩
noncomputable def o36 : Ov := ovP 36 F36 o93
theorem ok36 : OvOk Tryd.prog o36 := pure_ok no_count mixed ok93 (fun _ _ _ h => h) fun args w res hl hres => by
  obtain ⟨u, R, n, rfl, hn, hlen, hu, rfl⟩ := F36_some hres
  obtain ⟨_, w', h1, rfl⟩ := run36 (ovP_none (f := 93) (by decide) (ovP_none (f := 98) (by decide) (ovP_none (f := 114) (by decide) (ovP_none (f := 83) (by decide) (ovP_none (f := 64) (by decide) (ovP_none (f := 96) (by decide) (ovP_none (f := 81) (by decide) (ovP_none (f := 110) (by decide) (ovP_none (f := 94) (by decide) (ovP_none (f := 103) (by decide) (ovP_none (f := 59) (by decide) (ovP_none (f := 85) (by decide) (ovP_none (f := 72) (by decide) (ovP_none (f := 48) (by decide) (ovP_none (f := 49) (by decide) (ovP_none (f := 47) (by decide) (ovP_none (f := 15) (by decide) (ovP_none (f := 14) (by decide) (ovP_none (f := 44) (by decide) (ovP_none (f := 70) (by decide) (ovP_none (f := 45) (by decide) (ovP_none (f := 87) (by decide) (ovP_none (f := 101) (by decide) (ovP_none (f := 100) (by decide) (ovP_none (f := 79) (by decide) (ovP_none (f := 46) (by decide) (ovP_none (f := 33) (by decide) (oW_none (by decide))))))))))))))))))))))))))))) (HasP.skip (g := 93) (by decide) (HasP.skip (g := 98) (by decide) (HasP.skip (g := 114) (by decide) (HasP.skip (g := 83) (by decide) (HasP.skip (g := 64) (by decide) (HasP.skip (g := 96) (by decide) (HasP.skip (g := 81) (by decide) (HasP.skip (g := 110) (by decide) (HasP.skip (g := 94) (by decide) (HasP.skip (g := 103) (by decide) (HasP.skip (g := 59) (by decide) (HasP.skip (g := 85) (by decide) (HasP.skip (g := 72) (by decide) (HasP.skip (g := 48) (by decide) (HasP.skip (g := 49) (by decide) (HasP.skip (g := 47) (by decide) (HasP.skip (g := 15) (by decide) (HasP.skip (g := 14) (by decide) (HasP.skip (g := 44) (by decide) (HasP.skip (g := 70) (by decide) (HasP.skip (g := 45) (by decide) (HasP.skip (g := 87) (by decide) (HasP.skip (g := 101) (by decide) (HasP.skip (g := 100) (by decide) (HasP.skip (g := 79) (by decide) (HasP.skip (g := 46) (by decide) .here)))))))))))))))))))))))))) n hn R hlen u w hu
  exact ⟨rfl, 2, w', _, h1⟩
noncomputable def o16 : Ov := ovP 16 F16 o36
theorem ok16 : OvOk Tryd.prog o16 := pure_ok no_count mixed ok36 (fun _ _ _ h => h) fun args w res hl hres => by
  obtain ⟨p, rfl, rfl⟩ := F16_some hres
  obtain ⟨_, w', h1, rfl⟩ := run16 (ovP_none (f := 36) (by decide) (ovP_none (f := 93) (by decide) (ovP_none (f := 98) (by decide) (ovP_none (f := 114) (by decide) (ovP_none (f := 83) (by decide) (ovP_none (f := 64) (by decide) (ovP_none (f := 96) (by decide) (ovP_none (f := 81) (by decide) (ovP_none (f := 110) (by decide) (ovP_none (f := 94) (by decide) (ovP_none (f := 103) (by decide) (ovP_none (f := 59) (by decide) (ovP_none (f := 85) (by decide) (ovP_none (f := 72) (by decide) (ovP_none (f := 48) (by decide) (ovP_none (f := 49) (by decide) (ovP_none (f := 47) (by decide) (ovP_none (f := 15) (by decide) (ovP_none (f := 14) (by decide) (ovP_none (f := 44) (by decide) (ovP_none (f := 70) (by decide) (ovP_none (f := 45) (by decide) (ovP_none (f := 87) (by decide) (ovP_none (f := 101) (by decide) (ovP_none (f := 100) (by decide) (ovP_none (f := 79) (by decide) (ovP_none (f := 46) (by decide) (ovP_none (f := 33) (by decide) (oW_none (by decide)))))))))))))))))))))))))))))) (HasP.skip (g := 36) (by decide) (HasP.skip (g := 93) (by decide) (HasP.skip (g := 98) (by decide) (HasP.skip (g := 114) (by decide) (HasP.skip (g := 83) (by decide) (HasP.skip (g := 64) (by decide) (HasP.skip (g := 96) (by decide) (HasP.skip (g := 81) (by decide) (HasP.skip (g := 110) (by decide) (HasP.skip (g := 94) (by decide) (HasP.skip (g := 103) (by decide) (HasP.skip (g := 59) (by decide) (HasP.skip (g := 85) (by decide) (HasP.skip (g := 72) (by decide) (HasP.skip (g := 48) (by decide) (HasP.skip (g := 49) (by decide) (HasP.skip (g := 47) (by decide) (HasP.skip (g := 15) (by decide) .here)))))))))))))))))) (HasP.skip (g := 36) (by decide) (HasP.skip (g := 93) (by decide) (HasP.skip (g := 98) (by decide) (HasP.skip (g := 114) (by decide) (HasP.skip (g := 83) (by decide) (HasP.skip (g := 64) (by decide) (HasP.skip (g := 96) (by decide) (HasP.skip (g := 81) (by decide) (HasP.skip (g := 110) (by decide) (HasP.skip (g := 94) (by decide) (HasP.skip (g := 103) (by decide) (HasP.skip (g := 59) (by decide) (HasP.skip (g := 85) (by decide) (HasP.skip (g := 72) (by decide) (HasP.skip (g := 48) (by decide) (HasP.skip (g := 49) (by decide) .here)))))))))))))))) (HasP.skip (g := 36) (by decide) (HasP.skip (g := 93) (by decide) (HasP.skip (g := 98) (by decide) (HasP.skip (g := 114) (by decide) (HasP.skip (g := 83) (by decide) (HasP.skip (g := 64) (by decide) (HasP.skip (g := 96) (by decide) (HasP.skip (g := 81) (by decide) (HasP.skip (g := 110) (by decide) (HasP.skip (g := 94) (by decide) (HasP.skip (g := 103) (by decide) (HasP.skip (g := 59) (by decide) (HasP.skip (g := 85) (by decide) (HasP.skip (g := 72) (by decide) .here)))))))))))))) p w hl
  exact ⟨rfl, 2, w', _, h1⟩
noncomputable def o42 : Ov := ovP 42 F42 o16
theorem ok42 : OvOk Tryd.prog o42 := pure_ok no_count mixed ok16 (fun _ _ _ h => h) fun args w res hl hres => by
  obtain ⟨n, s, rfl, hs, rfl⟩ := F42_some hres
  obtain ⟨_, w', h1, rfl⟩ := run42 (ovP_none (f := 16) (by decide) (ovP_none (f := 36) (by decide) (ovP_none (f := 93) (by decide) (ovP_none (f := 98) (by decide) (ovP_none (f := 114) (by decide) (ovP_none (f := 83) (by decide) (ovP_none (f := 64) (by decide) (ovP_none (f := 96) (by decide) (ovP_none (f := 81) (by decide) (ovP_none (f := 110) (by decide) (ovP_none (f := 94) (by decide) (ovP_none (f := 103) (by decide) (ovP_none (f := 59) (by decide) (ovP_none (f := 85) (by decide) (ovP_none (f := 72) (by decide) (ovP_none (f := 48) (by decide) (ovP_none (f := 49) (by decide) (ovP_none (f := 47) (by decide) (ovP_none (f := 15) (by decide) (ovP_none (f := 14) (by decide) (ovP_none (f := 44) (by decide) (ovP_none (f := 70) (by decide) (ovP_none (f := 45) (by decide) (ovP_none (f := 87) (by decide) (ovP_none (f := 101) (by decide) (ovP_none (f := 100) (by decide) (ovP_none (f := 79) (by decide) (ovP_none (f := 46) (by decide) (ovP_none (f := 33) (by decide) (oW_none (by decide)))))))))))))))))))))))))))))))  n s hs w
  exact ⟨rfl, 2, w', _, h1⟩
noncomputable def o35 : Ov := ovP 35 F35 o42
theorem ok35 : OvOk Tryd.prog o35 := pure_ok no_count mixed ok42 (fun _ _ _ h => h) fun args w res hl hres => by
  obtain ⟨a, b, rfl, rfl⟩ := F35_some hres
  obtain ⟨_, w', h1, rfl⟩ := run35 (ovP_none (f := 42) (by decide) (ovP_none (f := 16) (by decide) (ovP_none (f := 36) (by decide) (ovP_none (f := 93) (by decide) (ovP_none (f := 98) (by decide) (ovP_none (f := 114) (by decide) (ovP_none (f := 83) (by decide) (ovP_none (f := 64) (by decide) (ovP_none (f := 96) (by decide) (ovP_none (f := 81) (by decide) (ovP_none (f := 110) (by decide) (ovP_none (f := 94) (by decide) (ovP_none (f := 103) (by decide) (ovP_none (f := 59) (by decide) (ovP_none (f := 85) (by decide) (ovP_none (f := 72) (by decide) (ovP_none (f := 48) (by decide) (ovP_none (f := 49) (by decide) (ovP_none (f := 47) (by decide) (ovP_none (f := 15) (by decide) (ovP_none (f := 14) (by decide) (ovP_none (f := 44) (by decide) (ovP_none (f := 70) (by decide) (ovP_none (f := 45) (by decide) (ovP_none (f := 87) (by decide) (ovP_none (f := 101) (by decide) (ovP_none (f := 100) (by decide) (ovP_none (f := 79) (by decide) (ovP_none (f := 46) (by decide) (ovP_none (f := 33) (by decide) (oW_none (by decide))))))))))))))))))))))))))))))))  a b w (Nat.le_of_eq hl)
  exact ⟨rfl, 2, w', _, h1⟩
noncomputable def o37 : Ov := ovP 37 F37 o35
theorem ok37 : OvOk Tryd.prog o37 := pure_ok no_count mixed ok35 (fun _ _ _ h => h) fun args w res hl hres => by
  obtain ⟨p, a, b, rfl, rfl⟩ := F37_some hres
  obtain ⟨_, w', h1, rfl⟩ := run37 (ovP_none (f := 35) (by decide) (ovP_none (f := 42) (by decide) (ovP_none (f := 16) (by decide) (ovP_none (f := 36) (by decide) (ovP_none (f := 93) (by decide) (ovP_none (f := 98) (by decide) (ovP_none (f := 114) (by decide) (ovP_none (f := 83) (by decide) (ovP_none (f := 64) (by decide) (ovP_none (f := 96) (by decide) (ovP_none (f := 81) (by decide) (ovP_none (f := 110) (by decide) (ovP_none (f := 94) (by decide) (ovP_none (f := 103) (by decide) (ovP_none (f := 59) (by decide) (ovP_none (f := 85) (by decide) (ovP_none (f := 72) (by decide) (ovP_none (f := 48) (by decide) (ovP_none (f := 49) (by decide) (ovP_none (f := 47) (by decide) (ovP_none (f := 15) (by decide) (ovP_none (f := 14) (by decide) (ovP_none (f := 44) (by decide) (ovP_none (f := 70) (by decide) (ovP_none (f := 45) (by decide) (ovP_none (f := 87) (by decide) (ovP_none (f := 101) (by decide) (ovP_none (f := 100) (by decide) (ovP_none (f := 79) (by decide) (ovP_none (f := 46) (by decide) (ovP_none (f := 33) (by decide) (oW_none (by decide))))))))))))))))))))))))))))))))) (HasP.skip (g := 35) (by decide) (HasP.skip (g := 42) (by decide) .here)) .here p a b w hl
  exact ⟨rfl, 2, w', _, h1⟩
noncomputable def o38 : Ov := ovP 38 F38 o37
theorem ok38 : OvOk Tryd.prog o38 := pure_ok no_count mixed ok37 (fun _ _ _ h => h) fun args w res hl hres => by
  obtain ⟨lo, hi, n, rfl, hb, rfl⟩ := F38_some hres
  obtain ⟨_, w', h1, rfl⟩ := run38 (ovP_none (f := 37) (by decide) (ovP_none (f := 35) (by decide) (ovP_none (f := 42) (by decide) (ovP_none (f := 16) (by decide) (ovP_none (f := 36) (by decide) (ovP_none (f := 93) (by decide) (ovP_none (f := 98) (by decide) (ovP_none (f := 114) (by decide) (ovP_none (f := 83) (by decide) (ovP_none (f := 64) (by decide) (ovP_none (f := 96) (by decide) (ovP_none (f := 81) (by decide) (ovP_none (f := 110) (by decide) (ovP_none (f := 94) (by decide) (ovP_none (f := 103) (by decide) (ovP_none (f := 59) (by decide) (ovP_none (f := 85) (by decide) (ovP_none (f := 72) (by decide) (ovP_none (f := 48) (by decide) (ovP_none (f := 49) (by decide) (ovP_none (f := 47) (by decide) (ovP_none (f := 15) (by decide) (ovP_none (f := 14) (by decide) (ovP_none (f := 44) (by decide) (ovP_none (f := 70) (by decide) (ovP_none (f := 45) (by decide) (ovP_none (f := 87) (by decide) (ovP_none (f := 101) (by decide) (ovP_none (f := 100) (by decide) (ovP_none (f := 79) (by decide) (ovP_none (f := 46) (by decide) (ovP_none (f := 33) (by decide) (oW_none (by decide)))))))))))))))))))))))))))))))))) (HasP.skip (g := 37) (by decide) (HasP.skip (g := 35) (by decide) .here)) lo hi n hb w
  exact ⟨rfl, 2, w', _, h1⟩
noncomputable def o39 : Ov := ovP 39 F39 o38
theorem ok39 : OvOk Tryd.prog o39 := pure_ok no_count mixed ok38 (fun _ _ _ h => h) fun args w res hl hres => by
  obtain ⟨u, R, x, y, rfl, hlen, hu, rfl⟩ := F39_some hres
  obtain ⟨_, w', h1, rfl⟩ := run39 (ovP_none (f := 38) (by decide) (ovP_none (f := 37) (by decide) (ovP_none (f := 35) (by decide) (ovP_none (f := 42) (by decide) (ovP_none (f := 16) (by decide) (ovP_none (f := 36) (by decide) (ovP_none (f := 93) (by decide) (ovP_none (f := 98) (by decide) (ovP_none (f := 114) (by decide) (ovP_none (f := 83) (by decide) (ovP_none (f := 64) (by decide) (ovP_none (f := 96) (by decide) (ovP_none (f := 81) (by decide) (ovP_none (f := 110) (by decide) (ovP_none (f := 94) (by decide) (ovP_none (f := 103) (by decide) (ovP_none (f := 59) (by decide) (ovP_none (f := 85) (by decide) (ovP_none (f := 72) (by decide) (ovP_none (f := 48) (by decide) (ovP_none (f := 49) (by decide) (ovP_none (f := 47) (by decide) (ovP_none (f := 15) (by decide) (ovP_none (f := 14) (by decide) (ovP_none (f := 44) (by decide) (ovP_none (f := 70) (by decide) (ovP_none (f := 45) (by decide) (ovP_none (f := 87) (by decide) (ovP_none (f := 101) (by decide) (ovP_none (f := 100) (by decide) (ovP_none (f := 79) (by decide) (ovP_none (f := 46) (by decide) (ovP_none (f := 33) (by decide) (oW_none (by decide))))))))))))))))))))))))))))))))))) (HasP.skip (g := 38) (by decide) (HasP.skip (g := 37) (by decide) (HasP.skip (g := 35) (by decide) (HasP.skip (g := 42) (by decide) (HasP.skip (g := 16) (by decide) (HasP.skip (g := 36) (by decide) (HasP.skip (g := 93) (by decide) (HasP.skip (g := 98) (by decide) (HasP.skip (g := 114) (by decide) (HasP.skip (g := 83) (by decide) (HasP.skip (g := 64) (by decide) (HasP.skip (g := 96) (by decide) (HasP.skip (g := 81) (by decide) (HasP.skip (g := 110) (by decide) (HasP.skip (g := 94) (by decide) (HasP.skip (g := 103) (by decide) (HasP.skip (g := 59) (by decide) (HasP.skip (g := 85) (by decide) (HasP.skip (g := 72) (by decide) (HasP.skip (g := 48) (by decide) (HasP.skip (g := 49) (by decide) (HasP.skip (g := 47) (by decide) (HasP.skip (g := 15) (by decide) (HasP.skip (g := 14) (by decide) (HasP.skip (g := 44) (by decide) (HasP.skip (g := 70) (by decide) (HasP.skip (g := 45) (by decide) (HasP.skip (g := 87) (by decide) (HasP.skip (g := 101) (by decide) (HasP.skip (g := 100) (by decide) (HasP.skip (g := 79) (by decide) (HasP.skip (g := 46) (by decide) .here)))))))))))))))))))))))))))))))) R hlen x y u w hu
  exact ⟨rfl, 2, w', _, h1⟩
theorem top_true (l : List Pod) (a b : Int) (O : List Int) (v u : Value) (w : AW) (hl : w.lim = w.next) (hPW : PartsW w) (hv : PodsV w v l) (hu : RowsV intC w u O) : ∃ w' x', (run Tryd.prog o39 8).call 10 [v, .agg ⟨[.int .i64 a, .int .i64 b]⟩, u] w .none = .ok (.ret (.bool true)) w' x' := by
  obtain ⟨_, w', h1, rfl⟩ := run10 (ovP_none (f := 39) (by decide) (ovP_none (f := 38) (by decide) (ovP_none (f := 37) (by decide) (ovP_none (f := 35) (by decide) (ovP_none (f := 42) (by decide) (ovP_none (f := 16) (by decide) (ovP_none (f := 36) (by decide) (ovP_none (f := 93) (by decide) (ovP_none (f := 98) (by decide) (ovP_none (f := 114) (by decide) (ovP_none (f := 83) (by decide) (ovP_none (f := 64) (by decide) (ovP_none (f := 96) (by decide) (ovP_none (f := 81) (by decide) (ovP_none (f := 110) (by decide) (ovP_none (f := 94) (by decide) (ovP_none (f := 103) (by decide) (ovP_none (f := 59) (by decide) (ovP_none (f := 85) (by decide) (ovP_none (f := 72) (by decide) (ovP_none (f := 48) (by decide) (ovP_none (f := 49) (by decide) (ovP_none (f := 47) (by decide) (ovP_none (f := 15) (by decide) (ovP_none (f := 14) (by decide) (ovP_none (f := 44) (by decide) (ovP_none (f := 70) (by decide) (ovP_none (f := 45) (by decide) (ovP_none (f := 87) (by decide) (ovP_none (f := 101) (by decide) (ovP_none (f := 100) (by decide) (ovP_none (f := 79) (by decide) (ovP_none (f := 46) (by decide) (ovP_none (f := 33) (by decide) (oW_none (by decide)))))))))))))))))))))))))))))))))))) (ovP_none (f := 39) (by decide) (ovP_none (f := 38) (by decide) (ovP_none (f := 37) (by decide) (ovP_none (f := 35) (by decide) (ovP_none (f := 42) (by decide) (ovP_none (f := 16) (by decide) (ovP_none (f := 36) (by decide) (ovP_none (f := 93) (by decide) (ovP_none (f := 98) (by decide) (ovP_none (f := 114) (by decide) (ovP_none (f := 83) (by decide) (ovP_none (f := 64) (by decide) (ovP_none (f := 96) (by decide) (ovP_none (f := 81) (by decide) (ovP_none (f := 110) (by decide) (ovP_none (f := 94) (by decide) (ovP_none (f := 103) (by decide) (ovP_none (f := 59) (by decide) (ovP_none (f := 85) (by decide) (ovP_none (f := 72) (by decide) (ovP_none (f := 48) (by decide) (ovP_none (f := 49) (by decide) (ovP_none (f := 47) (by decide) (ovP_none (f := 15) (by decide) (ovP_none (f := 14) (by decide) (ovP_none (f := 44) (by decide) (ovP_none (f := 70) (by decide) (ovP_none (f := 45) (by decide) (ovP_none (f := 87) (by decide) (ovP_none (f := 101) (by decide) (ovP_none (f := 100) (by decide) (ovP_none (f := 79) (by decide) (ovP_none (f := 46) (by decide) (ovP_none (f := 33) (by decide) (oW_none (by decide)))))))))))))))))))))))))))))))))))) (ovP_none (f := 39) (by decide) (ovP_none (f := 38) (by decide) (ovP_none (f := 37) (by decide) (ovP_none (f := 35) (by decide) (ovP_none (f := 42) (by decide) (ovP_none (f := 16) (by decide) (ovP_none (f := 36) (by decide) (ovP_none (f := 93) (by decide) (ovP_none (f := 98) (by decide) (ovP_none (f := 114) (by decide) (ovP_none (f := 83) (by decide) (ovP_none (f := 64) (by decide) (ovP_none (f := 96) (by decide) (ovP_none (f := 81) (by decide) (ovP_none (f := 110) (by decide) (ovP_none (f := 94) (by decide) (ovP_none (f := 103) (by decide) (ovP_none (f := 59) (by decide) (ovP_none (f := 85) (by decide) (ovP_none (f := 72) (by decide) (ovP_none (f := 48) (by decide) (ovP_none (f := 49) (by decide) (ovP_none (f := 47) (by decide) (ovP_none (f := 15) (by decide) (ovP_none (f := 14) (by decide) (ovP_none (f := 44) (by decide) (ovP_none (f := 70) (by decide) (ovP_none (f := 45) (by decide) (ovP_none (f := 87) (by decide) (ovP_none (f := 101) (by decide) (ovP_none (f := 100) (by decide) (ovP_none (f := 79) (by decide) (ovP_none (f := 46) (by decide) (ovP_none (f := 33) (by decide) (oW_none (by decide)))))))))))))))))))))))))))))))))))) (ovP_none (f := 39) (by decide) (ovP_none (f := 38) (by decide) (ovP_none (f := 37) (by decide) (ovP_none (f := 35) (by decide) (ovP_none (f := 42) (by decide) (ovP_none (f := 16) (by decide) (ovP_none (f := 36) (by decide) (ovP_none (f := 93) (by decide) (ovP_none (f := 98) (by decide) (ovP_none (f := 114) (by decide) (ovP_none (f := 83) (by decide) (ovP_none (f := 64) (by decide) (ovP_none (f := 96) (by decide) (ovP_none (f := 81) (by decide) (ovP_none (f := 110) (by decide) (ovP_none (f := 94) (by decide) (ovP_none (f := 103) (by decide) (ovP_none (f := 59) (by decide) (ovP_none (f := 85) (by decide) (ovP_none (f := 72) (by decide) (ovP_none (f := 48) (by decide) (ovP_none (f := 49) (by decide) (ovP_none (f := 47) (by decide) (ovP_none (f := 15) (by decide) (ovP_none (f := 14) (by decide) (ovP_none (f := 44) (by decide) (ovP_none (f := 70) (by decide) (ovP_none (f := 45) (by decide) (ovP_none (f := 87) (by decide) (ovP_none (f := 101) (by decide) (ovP_none (f := 100) (by decide) (ovP_none (f := 79) (by decide) (ovP_none (f := 46) (by decide) (ovP_none (f := 33) (by decide) (oW_none (by decide)))))))))))))))))))))))))))))))))))) ⟨(ovP_none (f := 39) (by decide) (ovP_none (f := 38) (by decide) (ovP_none (f := 37) (by decide) (ovP_none (f := 35) (by decide) (ovP_none (f := 42) (by decide) (ovP_none (f := 16) (by decide) (ovP_none (f := 36) (by decide) (ovP_none (f := 93) (by decide) (ovP_none (f := 98) (by decide) (ovP_none (f := 114) (by decide) (ovP_none (f := 83) (by decide) (ovP_none (f := 64) (by decide) (ovP_none (f := 96) (by decide) (ovP_none (f := 81) (by decide) (ovP_none (f := 110) (by decide) (ovP_none (f := 94) (by decide) (ovP_none (f := 103) (by decide) (ovP_none (f := 59) (by decide) (ovP_none (f := 85) (by decide) (ovP_none (f := 72) (by decide) (ovP_none (f := 48) (by decide) (ovP_none (f := 49) (by decide) (ovP_none (f := 47) (by decide) (ovP_none (f := 15) (by decide) (ovP_none (f := 14) (by decide) (ovP_none (f := 44) (by decide) (ovP_none (f := 70) (by decide) (ovP_none (f := 45) (by decide) (ovP_none (f := 87) (by decide) (ovP_none (f := 101) (by decide) (ovP_none (f := 100) (by decide) (ovP_none (f := 79) (by decide) (ovP_none (f := 46) (by decide) (ovP_none (f := 33) (by decide) (oW_none (by decide)))))))))))))))))))))))))))))))))))), (ovP_none (f := 39) (by decide) (ovP_none (f := 38) (by decide) (ovP_none (f := 37) (by decide) (ovP_none (f := 35) (by decide) (ovP_none (f := 42) (by decide) (ovP_none (f := 16) (by decide) (ovP_none (f := 36) (by decide) (ovP_none (f := 93) (by decide) (ovP_none (f := 98) (by decide) (ovP_none (f := 114) (by decide) (ovP_none (f := 83) (by decide) (ovP_none (f := 64) (by decide) (ovP_none (f := 96) (by decide) (ovP_none (f := 81) (by decide) (ovP_none (f := 110) (by decide) (ovP_none (f := 94) (by decide) (ovP_none (f := 103) (by decide) (ovP_none (f := 59) (by decide) (ovP_none (f := 85) (by decide) (ovP_none (f := 72) (by decide) (ovP_none (f := 48) (by decide) (ovP_none (f := 49) (by decide) (ovP_none (f := 47) (by decide) (ovP_none (f := 15) (by decide) (ovP_none (f := 14) (by decide) (ovP_none (f := 44) (by decide) (ovP_none (f := 70) (by decide) (ovP_none (f := 45) (by decide) (ovP_none (f := 87) (by decide) (ovP_none (f := 101) (by decide) (ovP_none (f := 100) (by decide) (ovP_none (f := 79) (by decide) (ovP_none (f := 46) (by decide) (ovP_none (f := 33) (by decide) (oW_none (by decide)))))))))))))))))))))))))))))))))))), (ovP_none (f := 39) (by decide) (ovP_none (f := 38) (by decide) (ovP_none (f := 37) (by decide) (ovP_none (f := 35) (by decide) (ovP_none (f := 42) (by decide) (ovP_none (f := 16) (by decide) (ovP_none (f := 36) (by decide) (ovP_none (f := 93) (by decide) (ovP_none (f := 98) (by decide) (ovP_none (f := 114) (by decide) (ovP_none (f := 83) (by decide) (ovP_none (f := 64) (by decide) (ovP_none (f := 96) (by decide) (ovP_none (f := 81) (by decide) (ovP_none (f := 110) (by decide) (ovP_none (f := 94) (by decide) (ovP_none (f := 103) (by decide) (ovP_none (f := 59) (by decide) (ovP_none (f := 85) (by decide) (ovP_none (f := 72) (by decide) (ovP_none (f := 48) (by decide) (ovP_none (f := 49) (by decide) (ovP_none (f := 47) (by decide) (ovP_none (f := 15) (by decide) (ovP_none (f := 14) (by decide) (ovP_none (f := 44) (by decide) (ovP_none (f := 70) (by decide) (ovP_none (f := 45) (by decide) (ovP_none (f := 87) (by decide) (ovP_none (f := 101) (by decide) (ovP_none (f := 100) (by decide) (ovP_none (f := 79) (by decide) (ovP_none (f := 46) (by decide) (ovP_none (f := 33) (by decide) (oW_none (by decide)))))))))))))))))))))))))))))))))))), (ovP_none (f := 39) (by decide) (ovP_none (f := 38) (by decide) (ovP_none (f := 37) (by decide) (ovP_none (f := 35) (by decide) (ovP_none (f := 42) (by decide) (ovP_none (f := 16) (by decide) (ovP_none (f := 36) (by decide) (ovP_none (f := 93) (by decide) (ovP_none (f := 98) (by decide) (ovP_none (f := 114) (by decide) (ovP_none (f := 83) (by decide) (ovP_none (f := 64) (by decide) (ovP_none (f := 96) (by decide) (ovP_none (f := 81) (by decide) (ovP_none (f := 110) (by decide) (ovP_none (f := 94) (by decide) (ovP_none (f := 103) (by decide) (ovP_none (f := 59) (by decide) (ovP_none (f := 85) (by decide) (ovP_none (f := 72) (by decide) (ovP_none (f := 48) (by decide) (ovP_none (f := 49) (by decide) (ovP_none (f := 47) (by decide) (ovP_none (f := 15) (by decide) (ovP_none (f := 14) (by decide) (ovP_none (f := 44) (by decide) (ovP_none (f := 70) (by decide) (ovP_none (f := 45) (by decide) (ovP_none (f := 87) (by decide) (ovP_none (f := 101) (by decide) (ovP_none (f := 100) (by decide) (ovP_none (f := 79) (by decide) (ovP_none (f := 46) (by decide) (ovP_none (f := 33) (by decide) (oW_none (by decide)))))))))))))))))))))))))))))))))))), (ovP_none (f := 39) (by decide) (ovP_none (f := 38) (by decide) (ovP_none (f := 37) (by decide) (ovP_none (f := 35) (by decide) (ovP_none (f := 42) (by decide) (ovP_none (f := 16) (by decide) (ovP_none (f := 36) (by decide) (ovP_none (f := 93) (by decide) (ovP_none (f := 98) (by decide) (ovP_none (f := 114) (by decide) (ovP_none (f := 83) (by decide) (ovP_none (f := 64) (by decide) (ovP_none (f := 96) (by decide) (ovP_none (f := 81) (by decide) (ovP_none (f := 110) (by decide) (ovP_none (f := 94) (by decide) (ovP_none (f := 103) (by decide) (ovP_none (f := 59) (by decide) (ovP_none (f := 85) (by decide) (ovP_none (f := 72) (by decide) (ovP_none (f := 48) (by decide) (ovP_none (f := 49) (by decide) (ovP_none (f := 47) (by decide) (ovP_none (f := 15) (by decide) (ovP_none (f := 14) (by decide) (ovP_none (f := 44) (by decide) (ovP_none (f := 70) (by decide) (ovP_none (f := 45) (by decide) (ovP_none (f := 87) (by decide) (ovP_none (f := 101) (by decide) (ovP_none (f := 100) (by decide) (ovP_none (f := 79) (by decide) (ovP_none (f := 46) (by decide) (ovP_none (f := 33) (by decide) (oW_none (by decide)))))))))))))))))))))))))))))))))))), (ovP_none (f := 39) (by decide) (ovP_none (f := 38) (by decide) (ovP_none (f := 37) (by decide) (ovP_none (f := 35) (by decide) (ovP_none (f := 42) (by decide) (ovP_none (f := 16) (by decide) (ovP_none (f := 36) (by decide) (ovP_none (f := 93) (by decide) (ovP_none (f := 98) (by decide) (ovP_none (f := 114) (by decide) (ovP_none (f := 83) (by decide) (ovP_none (f := 64) (by decide) (ovP_none (f := 96) (by decide) (ovP_none (f := 81) (by decide) (ovP_none (f := 110) (by decide) (ovP_none (f := 94) (by decide) (ovP_none (f := 103) (by decide) (ovP_none (f := 59) (by decide) (ovP_none (f := 85) (by decide) (ovP_none (f := 72) (by decide) (ovP_none (f := 48) (by decide) (ovP_none (f := 49) (by decide) (ovP_none (f := 47) (by decide) (ovP_none (f := 15) (by decide) (ovP_none (f := 14) (by decide) (ovP_none (f := 44) (by decide) (ovP_none (f := 70) (by decide) (ovP_none (f := 45) (by decide) (ovP_none (f := 87) (by decide) (ovP_none (f := 101) (by decide) (ovP_none (f := 100) (by decide) (ovP_none (f := 79) (by decide) (ovP_none (f := 46) (by decide) (ovP_none (f := 33) (by decide) (oW_none (by decide)))))))))))))))))))))))))))))))))))), (ovP_none (f := 39) (by decide) (ovP_none (f := 38) (by decide) (ovP_none (f := 37) (by decide) (ovP_none (f := 35) (by decide) (ovP_none (f := 42) (by decide) (ovP_none (f := 16) (by decide) (ovP_none (f := 36) (by decide) (ovP_none (f := 93) (by decide) (ovP_none (f := 98) (by decide) (ovP_none (f := 114) (by decide) (ovP_none (f := 83) (by decide) (ovP_none (f := 64) (by decide) (ovP_none (f := 96) (by decide) (ovP_none (f := 81) (by decide) (ovP_none (f := 110) (by decide) (ovP_none (f := 94) (by decide) (ovP_none (f := 103) (by decide) (ovP_none (f := 59) (by decide) (ovP_none (f := 85) (by decide) (ovP_none (f := 72) (by decide) (ovP_none (f := 48) (by decide) (ovP_none (f := 49) (by decide) (ovP_none (f := 47) (by decide) (ovP_none (f := 15) (by decide) (ovP_none (f := 14) (by decide) (ovP_none (f := 44) (by decide) (ovP_none (f := 70) (by decide) (ovP_none (f := 45) (by decide) (ovP_none (f := 87) (by decide) (ovP_none (f := 101) (by decide) (ovP_none (f := 100) (by decide) (ovP_none (f := 79) (by decide) (ovP_none (f := 46) (by decide) (ovP_none (f := 33) (by decide) (oW_none (by decide)))))))))))))))))))))))))))))))))))), (ovP_none (f := 39) (by decide) (ovP_none (f := 38) (by decide) (ovP_none (f := 37) (by decide) (ovP_none (f := 35) (by decide) (ovP_none (f := 42) (by decide) (ovP_none (f := 16) (by decide) (ovP_none (f := 36) (by decide) (ovP_none (f := 93) (by decide) (ovP_none (f := 98) (by decide) (ovP_none (f := 114) (by decide) (ovP_none (f := 83) (by decide) (ovP_none (f := 64) (by decide) (ovP_none (f := 96) (by decide) (ovP_none (f := 81) (by decide) (ovP_none (f := 110) (by decide) (ovP_none (f := 94) (by decide) (ovP_none (f := 103) (by decide) (ovP_none (f := 59) (by decide) (ovP_none (f := 85) (by decide) (ovP_none (f := 72) (by decide) (ovP_none (f := 48) (by decide) (ovP_none (f := 49) (by decide) (ovP_none (f := 47) (by decide) (ovP_none (f := 15) (by decide) (ovP_none (f := 14) (by decide) (ovP_none (f := 44) (by decide) (ovP_none (f := 70) (by decide) (ovP_none (f := 45) (by decide) (ovP_none (f := 87) (by decide) (ovP_none (f := 101) (by decide) (ovP_none (f := 100) (by decide) (ovP_none (f := 79) (by decide) (ovP_none (f := 46) (by decide) (ovP_none (f := 33) (by decide) (oW_none (by decide)))))))))))))))))))))))))))))))))))), (ovP_none (f := 39) (by decide) (ovP_none (f := 38) (by decide) (ovP_none (f := 37) (by decide) (ovP_none (f := 35) (by decide) (ovP_none (f := 42) (by decide) (ovP_none (f := 16) (by decide) (ovP_none (f := 36) (by decide) (ovP_none (f := 93) (by decide) (ovP_none (f := 98) (by decide) (ovP_none (f := 114) (by decide) (ovP_none (f := 83) (by decide) (ovP_none (f := 64) (by decide) (ovP_none (f := 96) (by decide) (ovP_none (f := 81) (by decide) (ovP_none (f := 110) (by decide) (ovP_none (f := 94) (by decide) (ovP_none (f := 103) (by decide) (ovP_none (f := 59) (by decide) (ovP_none (f := 85) (by decide) (ovP_none (f := 72) (by decide) (ovP_none (f := 48) (by decide) (ovP_none (f := 49) (by decide) (ovP_none (f := 47) (by decide) (ovP_none (f := 15) (by decide) (ovP_none (f := 14) (by decide) (ovP_none (f := 44) (by decide) (ovP_none (f := 70) (by decide) (ovP_none (f := 45) (by decide) (ovP_none (f := 87) (by decide) (ovP_none (f := 101) (by decide) (ovP_none (f := 100) (by decide) (ovP_none (f := 79) (by decide) (ovP_none (f := 46) (by decide) (ovP_none (f := 33) (by decide) (oW_none (by decide)))))))))))))))))))))))))))))))))))), (ovP_none (f := 39) (by decide) (ovP_none (f := 38) (by decide) (ovP_none (f := 37) (by decide) (ovP_none (f := 35) (by decide) (ovP_none (f := 42) (by decide) (ovP_none (f := 16) (by decide) (ovP_none (f := 36) (by decide) (ovP_none (f := 93) (by decide) (ovP_none (f := 98) (by decide) (ovP_none (f := 114) (by decide) (ovP_none (f := 83) (by decide) (ovP_none (f := 64) (by decide) (ovP_none (f := 96) (by decide) (ovP_none (f := 81) (by decide) (ovP_none (f := 110) (by decide) (ovP_none (f := 94) (by decide) (ovP_none (f := 103) (by decide) (ovP_none (f := 59) (by decide) (ovP_none (f := 85) (by decide) (ovP_none (f := 72) (by decide) (ovP_none (f := 48) (by decide) (ovP_none (f := 49) (by decide) (ovP_none (f := 47) (by decide) (ovP_none (f := 15) (by decide) (ovP_none (f := 14) (by decide) (ovP_none (f := 44) (by decide) (ovP_none (f := 70) (by decide) (ovP_none (f := 45) (by decide) (ovP_none (f := 87) (by decide) (ovP_none (f := 101) (by decide) (ovP_none (f := 100) (by decide) (ovP_none (f := 79) (by decide) (ovP_none (f := 46) (by decide) (ovP_none (f := 33) (by decide) (oW_none (by decide)))))))))))))))))))))))))))))))))))), (ovP_none (f := 39) (by decide) (ovP_none (f := 38) (by decide) (ovP_none (f := 37) (by decide) (ovP_none (f := 35) (by decide) (ovP_none (f := 42) (by decide) (ovP_none (f := 16) (by decide) (ovP_none (f := 36) (by decide) (ovP_none (f := 93) (by decide) (ovP_none (f := 98) (by decide) (ovP_none (f := 114) (by decide) (ovP_none (f := 83) (by decide) (ovP_none (f := 64) (by decide) (ovP_none (f := 96) (by decide) (ovP_none (f := 81) (by decide) (ovP_none (f := 110) (by decide) (ovP_none (f := 94) (by decide) (ovP_none (f := 103) (by decide) (ovP_none (f := 59) (by decide) (ovP_none (f := 85) (by decide) (ovP_none (f := 72) (by decide) (ovP_none (f := 48) (by decide) (ovP_none (f := 49) (by decide) (ovP_none (f := 47) (by decide) (ovP_none (f := 15) (by decide) (ovP_none (f := 14) (by decide) (ovP_none (f := 44) (by decide) (ovP_none (f := 70) (by decide) (ovP_none (f := 45) (by decide) (ovP_none (f := 87) (by decide) (ovP_none (f := 101) (by decide) (ovP_none (f := 100) (by decide) (ovP_none (f := 79) (by decide) (ovP_none (f := 46) (by decide) (ovP_none (f := 33) (by decide) (oW_none (by decide)))))))))))))))))))))))))))))))))))), (ovP_none (f := 39) (by decide) (ovP_none (f := 38) (by decide) (ovP_none (f := 37) (by decide) (ovP_none (f := 35) (by decide) (ovP_none (f := 42) (by decide) (ovP_none (f := 16) (by decide) (ovP_none (f := 36) (by decide) (ovP_none (f := 93) (by decide) (ovP_none (f := 98) (by decide) (ovP_none (f := 114) (by decide) (ovP_none (f := 83) (by decide) (ovP_none (f := 64) (by decide) (ovP_none (f := 96) (by decide) (ovP_none (f := 81) (by decide) (ovP_none (f := 110) (by decide) (ovP_none (f := 94) (by decide) (ovP_none (f := 103) (by decide) (ovP_none (f := 59) (by decide) (ovP_none (f := 85) (by decide) (ovP_none (f := 72) (by decide) (ovP_none (f := 48) (by decide) (ovP_none (f := 49) (by decide) (ovP_none (f := 47) (by decide) (ovP_none (f := 15) (by decide) (ovP_none (f := 14) (by decide) (ovP_none (f := 44) (by decide) (ovP_none (f := 70) (by decide) (ovP_none (f := 45) (by decide) (ovP_none (f := 87) (by decide) (ovP_none (f := 101) (by decide) (ovP_none (f := 100) (by decide) (ovP_none (f := 79) (by decide) (ovP_none (f := 46) (by decide) (ovP_none (f := 33) (by decide) (oW_none (by decide)))))))))))))))))))))))))))))))))))), (HasP.skip (g := 39) (by decide) (HasP.skip (g := 38) (by decide) (HasP.skip (g := 37) (by decide) (HasP.skip (g := 35) (by decide) (HasP.skip (g := 42) (by decide) (HasP.skip (g := 16) (by decide) (HasP.skip (g := 36) (by decide) .here))))))), (HasP.skip (g := 39) (by decide) (HasP.skip (g := 38) (by decide) (HasP.skip (g := 37) (by decide) (HasP.skip (g := 35) (by decide) (HasP.skip (g := 42) (by decide) (HasP.skip (g := 16) (by decide) (HasP.skip (g := 36) (by decide) (HasP.skip (g := 93) (by decide) (HasP.skip (g := 98) (by decide) (HasP.skip (g := 114) (by decide) (HasP.skip (g := 83) (by decide) (HasP.skip (g := 64) (by decide) (HasP.skip (g := 96) (by decide) .here))))))))))))), (HasP.skip (g := 39) (by decide) (HasP.skip (g := 38) (by decide) (HasP.skip (g := 37) (by decide) (HasP.skip (g := 35) (by decide) (HasP.skip (g := 42) (by decide) (HasP.skip (g := 16) (by decide) (HasP.skip (g := 36) (by decide) (HasP.skip (g := 93) (by decide) (HasP.skip (g := 98) (by decide) (HasP.skip (g := 114) (by decide) .here)))))))))), (HasP.skip (g := 39) (by decide) (HasP.skip (g := 38) (by decide) (HasP.skip (g := 37) (by decide) (HasP.skip (g := 35) (by decide) (HasP.skip (g := 42) (by decide) (HasP.skip (g := 16) (by decide) (HasP.skip (g := 36) (by decide) (HasP.skip (g := 93) (by decide) (HasP.skip (g := 98) (by decide) (HasP.skip (g := 114) (by decide) (HasP.skip (g := 83) (by decide) (HasP.skip (g := 64) (by decide) (HasP.skip (g := 96) (by decide) (HasP.skip (g := 81) (by decide) (HasP.skip (g := 110) (by decide) (HasP.skip (g := 94) (by decide) (HasP.skip (g := 103) (by decide) (HasP.skip (g := 59) (by decide) .here)))))))))))))))))), (HasP.skip (g := 39) (by decide) (HasP.skip (g := 38) (by decide) (HasP.skip (g := 37) (by decide) (HasP.skip (g := 35) (by decide) (HasP.skip (g := 42) (by decide) (HasP.skip (g := 16) (by decide) (HasP.skip (g := 36) (by decide) (HasP.skip (g := 93) (by decide) (HasP.skip (g := 98) (by decide) (HasP.skip (g := 114) (by decide) (HasP.skip (g := 83) (by decide) (HasP.skip (g := 64) (by decide) (HasP.skip (g := 96) (by decide) (HasP.skip (g := 81) (by decide) (HasP.skip (g := 110) (by decide) (HasP.skip (g := 94) (by decide) (HasP.skip (g := 103) (by decide) (HasP.skip (g := 59) (by decide) (HasP.skip (g := 85) (by decide) (HasP.skip (g := 72) (by decide) .here)))))))))))))))))))), (HasP.skip (g := 39) (by decide) (HasP.skip (g := 38) (by decide) (HasP.skip (g := 37) (by decide) (HasP.skip (g := 35) (by decide) (HasP.skip (g := 42) (by decide) (HasP.skip (g := 16) (by decide) (HasP.skip (g := 36) (by decide) (HasP.skip (g := 93) (by decide) .here)))))))), (HasP.skip (g := 39) (by decide) (HasP.skip (g := 38) (by decide) (HasP.skip (g := 37) (by decide) (HasP.skip (g := 35) (by decide) (HasP.skip (g := 42) (by decide) (HasP.skip (g := 16) (by decide) (HasP.skip (g := 36) (by decide) (HasP.skip (g := 93) (by decide) (HasP.skip (g := 98) (by decide) (HasP.skip (g := 114) (by decide) (HasP.skip (g := 83) (by decide) (HasP.skip (g := 64) (by decide) (HasP.skip (g := 96) (by decide) (HasP.skip (g := 81) (by decide) .here)))))))))))))), (HasP.skip (g := 39) (by decide) (HasP.skip (g := 38) (by decide) (HasP.skip (g := 37) (by decide) (HasP.skip (g := 35) (by decide) (HasP.skip (g := 42) (by decide) (HasP.skip (g := 16) (by decide) (HasP.skip (g := 36) (by decide) (HasP.skip (g := 93) (by decide) (HasP.skip (g := 98) (by decide) (HasP.skip (g := 114) (by decide) (HasP.skip (g := 83) (by decide) (HasP.skip (g := 64) (by decide) (HasP.skip (g := 96) (by decide) (HasP.skip (g := 81) (by decide) (HasP.skip (g := 110) (by decide) (HasP.skip (g := 94) (by decide) (HasP.skip (g := 103) (by decide) .here)))))))))))))))))⟩ (HasP.skip (g := 39) (by decide) (HasP.skip (g := 38) (by decide) (HasP.skip (g := 37) (by decide) (HasP.skip (g := 35) (by decide) (HasP.skip (g := 42) (by decide) (HasP.skip (g := 16) (by decide) (HasP.skip (g := 36) (by decide) (HasP.skip (g := 93) (by decide) (HasP.skip (g := 98) (by decide) (HasP.skip (g := 114) (by decide) (HasP.skip (g := 83) (by decide) (HasP.skip (g := 64) (by decide) (HasP.skip (g := 96) (by decide) (HasP.skip (g := 81) (by decide) (HasP.skip (g := 110) (by decide) (HasP.skip (g := 94) (by decide) (HasP.skip (g := 103) (by decide) (HasP.skip (g := 59) (by decide) (HasP.skip (g := 85) (by decide) (HasP.skip (g := 72) (by decide) (HasP.skip (g := 48) (by decide) (HasP.skip (g := 49) (by decide) (HasP.skip (g := 47) (by decide) (HasP.skip (g := 15) (by decide) (HasP.skip (g := 14) (by decide) (HasP.skip (g := 44) (by decide) (HasP.skip (g := 70) (by decide) (HasP.skip (g := 45) (by decide) (HasP.skip (g := 87) (by decide) (HasP.skip (g := 101) (by decide) (HasP.skip (g := 100) (by decide) (HasP.skip (g := 79) (by decide) (HasP.skip (g := 46) (by decide) .here))))))))))))))))))))))))))))))))) (HasP.skip (g := 39) (by decide) (HasP.skip (g := 38) (by decide) (HasP.skip (g := 37) (by decide) (HasP.skip (g := 35) (by decide) (HasP.skip (g := 42) (by decide) (HasP.skip (g := 16) (by decide) .here)))))) (HasP.skip (g := 39) (by decide) (HasP.skip (g := 38) (by decide) .here)) (HasP.skip (g := 39) (by decide) .here) .here (HasP.skip (g := 39) (by decide) (HasP.skip (g := 38) (by decide) (HasP.skip (g := 37) (by decide) (HasP.skip (g := 35) (by decide) (HasP.skip (g := 42) (by decide) (HasP.skip (g := 16) (by decide) (HasP.skip (g := 36) (by decide) (HasP.skip (g := 93) (by decide) (HasP.skip (g := 98) (by decide) (HasP.skip (g := 114) (by decide) (HasP.skip (g := 83) (by decide) .here))))))))))) (HasW.skip (f := 39) (by decide) (HasW.skip (f := 38) (by decide) (HasW.skip (f := 37) (by decide) (HasW.skip (f := 35) (by decide) (HasW.skip (f := 42) (by decide) (HasW.skip (f := 16) (by decide) (HasW.skip (f := 36) (by decide) (HasW.skip (f := 93) (by decide) (HasW.skip (f := 98) (by decide) (HasW.skip (f := 114) (by decide) (HasW.skip (f := 83) (by decide) (HasW.skip (f := 64) (by decide) (HasW.skip (f := 96) (by decide) (HasW.skip (f := 81) (by decide) (HasW.skip (f := 110) (by decide) (HasW.skip (f := 94) (by decide) (HasW.skip (f := 103) (by decide) (HasW.skip (f := 59) (by decide) (HasW.skip (f := 85) (by decide) (HasW.skip (f := 72) (by decide) (HasW.skip (f := 48) (by decide) (HasW.skip (f := 49) (by decide) (HasW.skip (f := 47) (by decide) (HasW.skip (f := 15) (by decide) (HasW.skip (f := 14) (by decide) (HasW.skip (f := 44) (by decide) (HasW.skip (f := 70) (by decide) (HasW.skip (f := 45) (by decide) (HasW.skip (f := 87) (by decide) (HasW.skip (f := 101) (by decide) (HasW.skip (f := 100) (by decide) (HasW.skip (f := 79) (by decide) (HasW.skip (f := 46) (by decide) (HasW.skip (f := 33) (by decide) oW_has)))))))))))))))))))))))))))))))))) l a b O v u w hl hPW hv hu
  exact ⟨w', _, h1⟩
end Go.Proofs.YtipglpmelgmelaaDoor.walk

namespace Go.Proofs.YtipglpmelgmelaaDoor.walk
open Go Go.Sh
open known (partsC laidL noOv)
set_option maxRecDepth 100000
theorem ty33 : tyOk Tryd.prog 6 33 = true := by kernel_rfl
theorem u33 : Tryd.prog.underlying 33 = some (.slice 3) := by kernel_rfl
theorem ty22 : tyOk Tryd.prog 6 22 = true := by kernel_rfl
theorem u22 : Tryd.prog.underlying 22 = some (.slice 30) := by kernel_rfl
theorem u3 : Tryd.prog.underlying 3 = some (.int .i64) := by kernel_rfl
theorem u9 : Tryd.prog.underlying 9 = some .string := by kernel_rfl
theorem u30 : Tryd.prog.underlying 30 = some (.struct (fieldsOf Tryd.prog 30)) := by kernel_rfl
theorem f30 : (fieldsOf Tryd.prog 30).toList.map (fun f => (f.type, f.offset)) = [(9, 0), (3, 1), (26, 2), (26, 4), (26, 6)] := by kernel_rfl
theorem u26 : Tryd.prog.underlying 26 = some (.struct (fieldsOf Tryd.prog 26)) := by kernel_rfl
theorem f26 : (fieldsOf Tryd.prog 26).toList.map (fun f => (f.type, f.offset)) = [(3, 0), (3, 1)] := by kernel_rfl
theorem c3 : Tryd.prog.cellsOf 3 = 1 := by kernel_rfl
theorem c9 : Tryd.prog.cellsOf 9 = 1 := by kernel_rfl
theorem c26 : Tryd.prog.cellsOf 26 = 2 := by kernel_rfl
theorem c30 : Tryd.prog.cellsOf 30 = 8 := by kernel_rfl
theorem span_of {H : T AObj} {n : Nat} {cs : List Value} (h : WT Tryd.prog H n 26 cs) : ∃ a b, cs = [.int .i64 a, .int .i64 b] := by
  obtain ⟨hl, hf⟩ := h.toStruct u26
  rw [f26] at hf
  rw [c26] at hl
  obtain ⟨a, ha, _⟩ := (hf (3, 0) (by simp)).toInt u3
  obtain ⟨b, hb, _⟩ := (hf (3, 1) (by simp)).toInt u3
  rw [c3] at ha hb
  match cs, hl with
  | [x, y], _ =>
    simp at ha hb
    exact ⟨a, b, by rw [ha, hb]⟩
theorem pod_of {H : T AObj} {n : Nat} {cs : List Value} (h : WT Tryd.prog H n 30 cs) : ∃ p, cs = podC p := by
  obtain ⟨hl, hf⟩ := h.toStruct u30
  rw [f30] at hf
  rw [c30] at hl
  obtain ⟨s, hs, _⟩ := (hf (9, 0) (by simp)).toStr u9
  obtain ⟨b, hb, _⟩ := (hf (3, 1) (by simp)).toInt u3
  obtain ⟨rl, rh, hr⟩ := span_of (hf (26, 2) (by simp))
  obtain ⟨hl', hh, hh'⟩ := span_of (hf (26, 4) (by simp))
  obtain ⟨gl, gh, hg⟩ := span_of (hf (26, 6) (by simp))
  rw [c9] at hs
  rw [c3] at hb
  rw [c26] at hr hh' hg
  match cs, hl with
  | [x0, x1, x2, x3, x4, x5, x6, x7], _ =>
    simp at hs hb hr hh' hg
    exact ⟨⟨s, b, rl, rh, hl', hh, gl, gh⟩, by rw [hs, hb, hr.1, hr.2, hh'.1, hh'.2, hg.1, hg.2]; rfl⟩
theorem pods_of {A : AW} {m : Value} (h : ArgT Tryd.prog A.heap A.next 22 m) : ∃ l, PodsV A m l := by
  unfold ArgT at h
  rw [u22] at h
  rcases WT.toSlice u22 h with ⟨a, ha⟩ | ⟨b, k, c, ty, ro, ha, hb, hg, hk, _, hc, he⟩
  · cases ha; exact ⟨[], .inl ⟨a, 0, rfl, rfl⟩⟩
  · cases ha
    rw [c30] at hc he
    obtain ⟨l, h1, h2⟩ := chunks (f := podC) podC_length k c hc fun i hi => pod_of (he i hi)
    subst h1
    refine ⟨l, .inr ⟨b, some 1, l.length, rfl, ⟨[], ty, ro, ?_⟩, hb⟩⟩
    rw [hg, List.append_nil, h2]; rfl
theorem parts_start : (startH laidL).get 0 = some (.cells partsC 122 true) := by
  show ((startH []).put 0 (some (.cells partsC 122 true))).get 0 = _
  rw [get_put, if_pos rfl]
theorem ints_of {H : T AObj} {n lim : Nat} {cs : List Value} (h : WT Tryd.prog H n 33 cs) : ∃ v l, cs = [v] ∧ RowsV intC ⟨H, n, lim⟩ v l :=
  rows_of_WT u33 c3 intC_length (fun cs h => by
    obtain ⟨z, hz, _⟩ := h.toInt u3
    exact ⟨z, hz⟩) h
theorem ints_arg {A : AW} {m : Value} (h : ArgT Tryd.prog A.heap A.next 33 m) : ∃ l, RowsV intC A m l := by
  unfold ArgT at h
  rw [u33] at h
  obtain ⟨v, l, hv, hr⟩ := ints_of (lim := A.lim) h
  cases hv
  exact ⟨l, hr⟩
theorem parts_at {A : AW} (hG : Tryd.prog.globals.size ≤ A.next) (hs : ∀ b, b < Tryd.prog.globals.size → A.heap.get b = (startH laidL).get b) : PartsW A := by
  rw [globals1] at hG hs
  exact ⟨⟨true, by rw [hs 0 (by decide), parts_start]⟩, hG⟩
theorem span_arg {A : AW} {m : Value} (h : ArgT Tryd.prog A.heap A.next 26 m) : ∃ a b, m = .agg ⟨[.int .i64 a, .int .i64 b]⟩ := by
  unfold ArgT at h
  rw [u26] at h
  obtain ⟨c, rfl, h⟩ := h
  obtain ⟨a, b, rfl⟩ := span_of h
  exact ⟨a, b, rfl⟩
theorem ty26 : tyOk Tryd.prog 6 26 = true := by kernel_rfl
theorem start_true (A : AW) (ms : List Value) (hl : A.lim = A.next) (hG : Tryd.prog.globals.size ≤ A.next) (hs : ∀ b, b < Tryd.prog.globals.size → A.heap.get b = (startH laidL).get b) (hms : ArgsT Tryd.prog A.heap A.next [22, 26, 33] ms) :
    ∃ A' x', (run Tryd.prog o39 8).call 10 ms A .none = .ok (.ret (.bool true)) A' x' := by
  have hPW := parts_at hG hs
  match ms, hms with
  | [m1, m2, m3], hm =>
    obtain ⟨l, hv⟩ := pods_of hm.1
    obtain ⟨a, b, rfl⟩ := span_arg hm.2.1
    obtain ⟨O, hu⟩ := ints_arg hm.2.2.1
    exact top_true l a b O m1 m3 A hl hPW hv hu
end Go.Proofs.YtipglpmelgmelaaDoor.walk
