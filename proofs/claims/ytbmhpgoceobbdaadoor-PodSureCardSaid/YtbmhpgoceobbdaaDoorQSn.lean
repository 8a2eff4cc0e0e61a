/- Part of a proof by a machine of ones own: see the text with the theorem. -/
import Derived.Test.YtbmhpgoceobbdaaDoorQSa
import Derived.Test.YtbmhpgoceobbdaaDoorPF2
import Derived.Test.YtbmhpgoceobbdaaDoorShF
namespace Go.Proofs.YtbmhpgoceobbdaaDoor.walk
open Go Go.Sh
open known (partsC laidL noOv)
set_option maxRecDepth 100000
theorem mixed : Tryd.prog.follows .mixedOrders = true := by kernel_rfl
theorem globals1 : Tryd.prog.globals.size = 1 := by kernel_rfl
theorem no_count : NoCount Tryd.prog := NoCount.of (by kernel_rfl)
noncomputable def oW : Ov := memoOv 18 [] laidL (.bool true) noOv
theorem okW' : OvOk Tryd.prog oW := memo_ok no_count mixed ov_none known.works_true (by kernel_rfl) (by kernel_rfl) (by rw [globals1]; exact Nat.le_refl _) (by kernel_rfl) ov_none
theorem oW_none {f : Nat} (hf : f ≠ 18) (args : List Value) (w : AW) : oW f args w = none := by
  have : Nat.beq f 18 = false := by rw [← Bool.not_eq_true]; intro h; exact hf (Nat.eq_of_beq_eq_true h)
  simp [oW, memoOv, this, noOv]
theorem oW_has : HasW oW := fun w hw => by
  have := hasAll_parts hw
  simp [oW, memoOv, this, sameL5, sameVal.sameVals]
theorem HasW.skip {f : Nat} {F : PureF} {rest : Ov} (hf : 18 ≠ f) (h : HasW rest) : HasW (ovP f F rest) := fun w hw => by simp [ovP, hf, h w hw]
theorem ovP_none {f g : Nat} {F : PureF} {rest : Ov} (hne : g ≠ f) (h : ∀ args w, rest g args w = none) (args : List Value) (w : AW) : ovP f F rest g args w = none := by simp [ovP, hne, h]
theorem F33_some {args : List Value} {w : AW} {v : Value} (h : F33 args w = some v) : ∃ n a b, args = [.int .i64 n, .int .i64 a, .int .i64 b] ∧ v = .bool (inI a n b) := by
  unfold F33 at h
  split at h
  · cases h; exact ⟨_, _, _, rfl, rfl⟩
  · cases h
theorem F46_some {args : List Value} {w : AW} {v : Value} (h : F46 args w = some v) : ∃ lo hi a b, args = [.agg ⟨[.int .i64 lo, .int .i64 hi]⟩, .int .i64 a, .int .i64 b] ∧ v = .bool (spanI lo hi a b) := by
  unfold F46 at h
  split at h
  · cases h; exact ⟨_, _, _, _, rfl, rfl⟩
  · cases h
theorem F100_some {args : List Value} {w : AW} {v : Value} (h : F100 args w = some v) : ∃ c, args = [.int .u8 c] ∧ v = .bool (inI 97 c 122) := by
  unfold F100 at h
  split at h
  · cases h; exact ⟨_, rfl, rfl⟩
  · cases h
theorem F101_some {args : List Value} {w : AW} {v : Value} (h : F101 args w = some v) : ∃ c, args = [.int .u8 c] ∧ v = .bool (inI 48 c 57) := by
  unfold F101 at h
  split at h
  · cases h; exact ⟨_, rfl, rfl⟩
  · cases h
theorem F87_some {args : List Value} {w : AW} {v : Value} (h : F87 args w = some v) : ∃ s, args = [.string s] ∧ v = .bool (wordB s.data.toList) := by
  unfold F87 at h
  split at h
  · cases h; exact ⟨_, rfl, rfl⟩
  · cases h
theorem F70_some {args : List Value} {w : AW} {v : Value} (h : F70 args w = some v) : ∃ p, args = [.agg ⟨podC p⟩] ∧ v = .bool (podB p) := by
  unfold F70 at h
  split at h
  · obtain ⟨p, h1, h2⟩ := Option.map_eq_some_iff.1 h
    exact ⟨p, by rw [podOf_some h1], h2.symm⟩
  · cases h
theorem F48_some {args : List Value} {w : AW} {v : Value} (h : F48 args w = some v) : ∃ a b, args = [.agg ⟨[.int .i64 a, .int .i64 b]⟩] ∧ v = .bool (decide (b < a)) := by
  unfold F48 at h
  split at h
  · cases h; exact ⟨_, _, rfl, rfl⟩
  · cases h
theorem F47_some {args : List Value} {w : AW} {v : Value} (h : F47 args w = some v) : ∃ p, args = [.agg ⟨podC p⟩] ∧ v = .agg ⟨[.int .i64 (winL p), .int .i64 (winH p)]⟩ := by
  unfold F47 at h
  split at h
  · obtain ⟨p, h1, h2⟩ := Option.map_eq_some_iff.1 h
    exact ⟨p, by rw [podOf_some h1], h2.symm⟩
  · cases h
theorem F16_some {args : List Value} {w : AW} {v : Value} (h : F16 args w = some v) : ∃ p, args = [.agg ⟨podC p⟩] ∧ v = .tuple ⟨[.agg ⟨[.int .i64 (wA p), .int .i64 (wB p)]⟩, .int .i64 (wE p)]⟩ := by
  unfold F16 at h
  split at h
  · obtain ⟨p, h1, h2⟩ := Option.map_eq_some_iff.1 h
    exact ⟨p, by rw [podOf_some h1], h2.symm⟩
  · cases h
theorem F44_some {args : List Value} {w : AW} {v : Value} (h : F44 args w = some v) : ∃ u l, args = [u] ∧ podsIn w u = some l ∧ v = .bool (podsB l) := by
  unfold F44 at h
  split at h
  · obtain ⟨l, h1, h2⟩ := Option.map_eq_some_iff.1 h
    exact ⟨_, l, rfl, h1, h2.symm⟩
  · cases h
theorem F14_some {args : List Value} {w : AW} {v : Value} (h : F14 args w = some v) : ∃ u l, args = [u] ∧ podsIn w u = some l ∧ v = errB (podsB l) 30 := by
  unfold F14 at h
  split at h
  · obtain ⟨l, h1, h2⟩ := Option.map_eq_some_iff.1 h
    exact ⟨_, l, rfl, h1, h2.symm⟩
  · cases h
theorem F72_some {args : List Value} {w : AW} {v : Value} (h : F72 args w = some v) : ∃ n a b, args = [.int .i64 n, .agg ⟨[.int .i64 a, .int .i64 b]⟩] ∧ v = .bool (inI a n b) := by
  unfold F72 at h
  split at h
  · cases h; exact ⟨_, _, _, rfl, rfl⟩
  · cases h
theorem bif_some {α : Type} {b : Bool} {x y : α} (h : (bif b then some x else none) = some y) : b = true ∧ y = x := by
  cases b with
  | true => cases h; exact ⟨rfl, rfl⟩
  | false => cases h
theorem if_some' {α : Type} {c : Prop} {inst : Decidable c} {x y : α} (h : (@ite _ c inst (some x) none) = some y) : c ∧ y = x := by
  by_cases k : c
  · rw [if_pos k] at h; cases h; exact ⟨k, rfl⟩
  · rw [if_neg k] at h; cases h
theorem F88_some {args : List Value} {w : AW} {v : Value} (h : F88 args w = some v) : ∃ p day r h g, args = [.agg ⟨podC p⟩, .int .i64 day, .agg ⟨[.int .i64 r, .int .i64 h, .int .i64 g]⟩] ∧ numB p day r h g = true ∧ v = .int .i64 (onI p.born day r h) := by
  unfold F88 at h
  split at h
  · obtain ⟨p, h1, h2⟩ := Option.bind_eq_some_iff.1 h
    obtain ⟨h3, rfl⟩ := bif_some h2
    exact ⟨p, _, _, _, _, by rw [podOf_some h1], h3, rfl⟩
  · cases h
theorem F89_some {args : List Value} {w : AW} {v : Value} (h : F89 args w = some v) : ∃ p day r h g, args = [.agg ⟨podC p⟩, .int .i64 day, .agg ⟨[.int .i64 r, .int .i64 h, .int .i64 g]⟩] ∧ numB p day r h g = true ∧ v = .int .i64 (gramI p.born day r g) := by
  unfold F89 at h
  split at h
  · obtain ⟨p, h1, h2⟩ := Option.bind_eq_some_iff.1 h
    obtain ⟨h3, rfl⟩ := bif_some h2
    exact ⟨p, _, _, _, _, by rw [podOf_some h1], h3, rfl⟩
  · cases h
theorem F73_some {args : List Value} {w : AW} {v : Value} (h : F73 args w = some v) : ∃ p day r h g, args = [.agg ⟨podC p⟩, .int .i64 day, .agg ⟨[.int .i64 r, .int .i64 h, .int .i64 g]⟩] ∧ numB p day r h g = true ∧ PartsW w ∧ v = .agg ⟨ylC (ylI p.born day r h g)⟩ := by
  unfold F73 at h
  split at h
  · obtain ⟨p, h1, h2⟩ := Option.bind_eq_some_iff.1 h
    obtain ⟨⟨h3, h4⟩, rfl⟩ := if_some' h2
    exact ⟨p, _, _, _, _, by rw [podOf_some h1], h3, h4, rfl⟩
  · cases h
theorem F74_some {args : List Value} {w : AW} {v : Value} (h : F74 args w = some v) : ∃ u ys, args = [u] ∧ RowsV ylC w u ys ∧ (∀ y ∈ ys, smallY y) ∧ ys.length ≤ 100 ∧ v = .agg ⟨ylC (sumYl ys)⟩ := by
  unfold F74 at h
  split at h
  · obtain ⟨ys, h1, h2⟩ := Option.bind_eq_some_iff.1 h
    obtain ⟨⟨h3, h4⟩, rfl⟩ := if_some' h2
    exact ⟨_, ys, rfl, rowsIn_some h1, h3, h4, rfl⟩
  · cases h
theorem F71_some {args : List Value} {w : AW} {x : Value} (h : F71 args w = some x) : ∃ v u l pl, args = [v, u] ∧ podsIn w v = some l ∧ RowsV intC w u pl ∧ l.length ≤ 100 ∧ x = .bool (planB l pl) := by
  unfold F71 at h
  split at h
  · obtain ⟨l, h1, h⟩ := Option.bind_eq_some_iff.1 h
    obtain ⟨pl, h2, h⟩ := Option.bind_eq_some_iff.1 h
    obtain ⟨h3, rfl⟩ := bif_some h
    exact ⟨_, _, l, pl, rfl, h1, rowsIn_some h2, of_decide_eq_true h3, rfl⟩
  · cases h
theorem F50_some {args : List Value} {w : AW} {x : Value} (h : F50 args w = some x) : ∃ v u l pl, args = [v, u] ∧ podsIn w v = some l ∧ RowsV intC w u pl ∧ x = .int .i64 (chkE l pl) := by
  unfold F50 at h
  split at h
  · obtain ⟨l, h1, h⟩ := Option.bind_eq_some_iff.1 h
    obtain ⟨pl, h2, h⟩ := Option.bind_eq_some_iff.1 h
    cases h
    exact ⟨_, _, l, pl, rfl, h1, rowsIn_some h2, rfl⟩
  · cases h
theorem F51_some {args : List Value} {w : AW} {x : Value} (h : F51 args w = some x) : ∃ v vr vh vg l R H G, args = [v, .agg ⟨[vr, vh, vg]⟩] ∧ podsIn w v = some l ∧ RowsV intC w vr R ∧ RowsV intC w vh H ∧ RowsV intC w vg G ∧ l.length ≤ 100 ∧ x = .bool (truthB l R H G) := by
  unfold F51 at h
  split at h
  · obtain ⟨l, h1, h⟩ := Option.bind_eq_some_iff.1 h
    obtain ⟨R, h2, h⟩ := Option.bind_eq_some_iff.1 h
    obtain ⟨H, h3, h⟩ := Option.bind_eq_some_iff.1 h
    obtain ⟨G, h4, h⟩ := Option.bind_eq_some_iff.1 h
    obtain ⟨h5, rfl⟩ := bif_some h
    exact ⟨_, _, _, _, l, R, H, G, rfl, h1, rowsIn_some h2, rowsIn_some h3, rowsIn_some h4, of_decide_eq_true h5, rfl⟩
  · cases h
theorem F52_some {args : List Value} {w : AW} {x : Value} (h : F52 args w = some x) : ∃ v u vr vh vg l pl R H G, args = [v, u, .agg ⟨[vr, vh, vg]⟩] ∧ podsIn w v = some l ∧ RowsV intC w u pl ∧ RowsV intC w vr R ∧ RowsV intC w vh H ∧ RowsV intC w vg G ∧ podsB l = true ∧ planB l pl = true ∧ truthB l R H G = true ∧ PartsW w ∧ x = .agg ⟨ylC (sumYl (ysH l pl R H G))⟩ := by
  unfold F52 at h
  split at h
  · obtain ⟨l, h1, h⟩ := Option.bind_eq_some_iff.1 h
    obtain ⟨pl, h0, h⟩ := Option.bind_eq_some_iff.1 h
    obtain ⟨R, h2, h⟩ := Option.bind_eq_some_iff.1 h
    obtain ⟨H, h3, h⟩ := Option.bind_eq_some_iff.1 h
    obtain ⟨G, h4, h⟩ := Option.bind_eq_some_iff.1 h
    obtain ⟨⟨h5, h6, h7, h8⟩, rfl⟩ := if_some' h
    exact ⟨_, _, _, _, _, l, pl, R, H, G, rfl, h1, rowsIn_some h0, rowsIn_some h2, rowsIn_some h3, rowsIn_some h4, h5, h6, h7, h8, rfl⟩
  · cases h
theorem F19_some {args : List Value} {w : AW} {x : Value} (h : F19 args w = some x) : ∃ v u vr vh vg l pl R H G, args = [v, u, .agg ⟨[vr, vh, vg]⟩] ∧ podsIn w v = some l ∧ RowsV intC w u pl ∧ RowsV intC w vr R ∧ RowsV intC w vh H ∧ RowsV intC w vg G ∧ PartsW w ∧ x = .tuple ⟨[.agg ⟨ylC (harY l pl R H G)⟩, .int .i64 (harE l pl R H G)]⟩ := by
  unfold F19 at h
  split at h
  · obtain ⟨l, h1, h⟩ := Option.bind_eq_some_iff.1 h
    obtain ⟨pl, h0, h⟩ := Option.bind_eq_some_iff.1 h
    obtain ⟨R, h2, h⟩ := Option.bind_eq_some_iff.1 h
    obtain ⟨H, h3, h⟩ := Option.bind_eq_some_iff.1 h
    obtain ⟨G, h4, h⟩ := Option.bind_eq_some_iff.1 h
    obtain ⟨h8, rfl⟩ := if_some' h
    exact ⟨_, _, _, _, _, l, pl, R, H, G, rfl, h1, rowsIn_some h0, rowsIn_some h2, rowsIn_some h3, rowsIn_some h4, h8, rfl⟩
  · cases h
theorem F77_some {args : List Value} {w : AW} {x : Value} (h : F77 args w = some x) : ∃ y v ys, args = [.agg ⟨ylC y⟩, v] ∧ RowsV ylC w v ys ∧ ys.length ≤ 10000 ∧ x = endsV (ys.foldl stepE (y, y)) := by
  unfold F77 at h
  split at h
  · obtain ⟨ys, h1, h⟩ := Option.bind_eq_some_iff.1 h
    obtain ⟨h2, rfl⟩ := if_some' h
    exact ⟨⟨_, _, _, _⟩, _, ys, rfl, rowsIn_some h1, h2, rfl⟩
  · cases h
theorem F56_some {args : List Value} {w : AW} {x : Value} (h : F56 args w = some x) : ∃ v u l pl, args = [v, u] ∧ podsIn w v = some l ∧ RowsV intC w u pl ∧ podsB l = true ∧ planB l pl = true ∧ PartsW w ∧ x = .agg ⟨wgC l pl⟩ := by
  unfold F56 at h
  split at h
  · obtain ⟨l, h1, h⟩ := Option.bind_eq_some_iff.1 h
    obtain ⟨pl, h2, h⟩ := Option.bind_eq_some_iff.1 h
    obtain ⟨⟨h3, h4, h5⟩, rfl⟩ := if_some' h
    exact ⟨_, _, l, pl, rfl, h1, rowsIn_some h2, h3, h4, h5, rfl⟩
  · cases h
theorem F21_some {args : List Value} {w : AW} {x : Value} (h : F21 args w = some x) : ∃ v u l pl, args = [v, u] ∧ podsIn w v = some l ∧ RowsV intC w u pl ∧ PartsW w ∧ x = weiV l pl := by
  unfold F21 at h
  split at h
  · obtain ⟨l, h1, h⟩ := Option.bind_eq_some_iff.1 h
    obtain ⟨pl, h2, h⟩ := Option.bind_eq_some_iff.1 h
    obtain ⟨h5, rfl⟩ := if_some' h
    exact ⟨_, _, l, pl, rfl, h1, rowsIn_some h2, h5, rfl⟩
  · cases h
theorem ground_wei (l : List Pod) (pl : List Int) : groundC 3 (weiV l pl) = true := by
  obtain ⟨a, b, c, d, e, f, h⟩ := weiC_six l pl
  unfold weiV
  rw [h]; rfl
theorem F42_some {args : List Value} {w : AW} {v : Value} (h : F42 args w = some v) : ∃ n s, args = [.int .i64 n, .int .i64 s] ∧ s ≤ 2 ^ 60 ∧ v = .int .i64 (wrapI n s) := by
  unfold F42 at h
  split at h
  · obtain ⟨h1, rfl⟩ := bif_some h
    exact ⟨_, _, rfl, of_decide_eq_true h1, rfl⟩
  · cases h
theorem F41_some {args : List Value} {w : AW} {v : Value} (h : F41 args w = some v) : ∃ u L i, args = [u, .int .i64 i] ∧ RowsV intC w u L ∧ L.length ≤ 2 ^ 60 ∧ v = .int .i64 (nthI L i) := by
  unfold F41 at h
  split at h
  · obtain ⟨L, h1, h2⟩ := Option.bind_eq_some_iff.1 h
    obtain ⟨h3, rfl⟩ := bif_some h2
    exact ⟨_, _, _, rfl, rowsIn_some h1, of_decide_eq_true h3, rfl⟩
  · cases h
theorem F38_some {args : List Value} {w : AW} {v : Value} (h : F38 args w = some v) : ∃ lo hi n, args = [.int .i64 lo, .int .i64 hi, .int .i64 n] ∧ ((0 ≤ lo ∧ lo ≤ 100000) ∧ 0 ≤ hi ∧ hi ≤ 100000) ∧ v = .int .i64 (withI lo hi n) := by
  unfold F38 at h
  split at h
  · obtain ⟨h1, rfl⟩ := bif_some h
    refine ⟨_, _, _, rfl, ?_, rfl⟩
    simpa [inI] using h1
  · cases h
noncomputable def o33 : Ov := ovP 33 F33 oW
theorem ok33 : OvOk Tryd.prog o33 := pure_ok no_count mixed okW' (fun _ _ _ h => h) fun args w res hl hres => by
  obtain ⟨n, a, b, rfl, rfl⟩ := F33_some hres
  obtain ⟨_, w', h1, rfl⟩ := run33 (oW_none (by decide))  n a b w
  exact ⟨rfl, 2, w', _, h1⟩
noncomputable def o46 : Ov := ovP 46 F46 o33
theorem ok46 : OvOk Tryd.prog o46 := pure_ok no_count mixed ok33 (fun _ _ _ h => h) fun args w res hl hres => by
  obtain ⟨lo, hi, a, b, rfl, rfl⟩ := F46_some hres
  obtain ⟨_, w', h1, rfl⟩ := run46 (ovP_none (f := 33) (by decide) (oW_none (by decide)))  lo hi a b w
  exact ⟨rfl, 2, w', _, h1⟩
noncomputable def o79 : Ov := ovP 79 F46 o46
theorem ok79 : OvOk Tryd.prog o79 := pure_ok no_count mixed ok46 (fun _ _ _ h => h) fun args w res hl hres => by
  obtain ⟨lo, hi, a, b, rfl, rfl⟩ := F46_some hres
  obtain ⟨_, w', h1, rfl⟩ := run79 (ovP_none (f := 46) (by decide) (ovP_none (f := 33) (by decide) (oW_none (by decide))))  lo hi a b w
  exact ⟨rfl, 2, w', _, h1⟩
noncomputable def o100 : Ov := ovP 100 F100 o79
theorem ok100 : OvOk Tryd.prog o100 := pure_ok no_count mixed ok79 (fun _ _ _ h => h) fun args w res hl hres => by
  obtain ⟨c, rfl, rfl⟩ := F100_some hres
  obtain ⟨_, w', h1, rfl⟩ := run100 (ovP_none (f := 79) (by decide) (ovP_none (f := 46) (by decide) (ovP_none (f := 33) (by decide) (oW_none (by decide)))))  c w
  exact ⟨rfl, 2, w', _, h1⟩
noncomputable def o101 : Ov := ovP 101 F101 o100
theorem ok101 : OvOk Tryd.prog o101 := pure_ok no_count mixed ok100 (fun _ _ _ h => h) fun args w res hl hres => by
  obtain ⟨c, rfl, rfl⟩ := F101_some hres
  obtain ⟨_, w', h1, rfl⟩ := run101 (ovP_none (f := 100) (by decide) (ovP_none (f := 79) (by decide) (ovP_none (f := 46) (by decide) (ovP_none (f := 33) (by decide) (oW_none (by decide))))))  c w
  exact ⟨rfl, 2, w', _, h1⟩
noncomputable def o87 : Ov := ovP 87 F87 o101
theorem ok87 : OvOk Tryd.prog o87 := pure_ok no_count mixed ok101 (fun _ _ _ h => h) fun args w res hl hres => by
  obtain ⟨s, rfl, rfl⟩ := F87_some hres
  obtain ⟨_, w', h1, rfl⟩ := run87 (ovP_none (f := 101) (by decide) (ovP_none (f := 100) (by decide) (ovP_none (f := 79) (by decide) (ovP_none (f := 46) (by decide) (ovP_none (f := 33) (by decide) (oW_none (by decide))))))) (HasP.skip (g := 101) (by decide) .here) .here s w
  exact ⟨rfl, 2, w', _, h1⟩
noncomputable def o70 : Ov := ovP 70 F70 o87
theorem ok70 : OvOk Tryd.prog o70 := pure_ok no_count mixed ok87 (fun _ _ _ h => h) fun args w res hl hres => by
  obtain ⟨p, rfl, rfl⟩ := F70_some hres
  obtain ⟨_, w', h1, rfl⟩ := run70 (ovP_none (f := 87) (by decide) (ovP_none (f := 101) (by decide) (ovP_none (f := 100) (by decide) (ovP_none (f := 79) (by decide) (ovP_none (f := 46) (by decide) (ovP_none (f := 33) (by decide) (oW_none (by decide)))))))) .here (HasP.skip (g := 87) (by decide) (HasP.skip (g := 101) (by decide) (HasP.skip (g := 100) (by decide) .here))) p w
  exact ⟨rfl, 2, w', _, h1⟩
noncomputable def o48 : Ov := ovP 48 F48 o70
theorem ok48 : OvOk Tryd.prog o48 := pure_ok no_count mixed ok70 (fun _ _ _ h => h) fun args w res hl hres => by
  obtain ⟨a, b, rfl, rfl⟩ := F48_some hres
  obtain ⟨_, w', h1, rfl⟩ := run48 (ovP_none (f := 70) (by decide) (ovP_none (f := 87) (by decide) (ovP_none (f := 101) (by decide) (ovP_none (f := 100) (by decide) (ovP_none (f := 79) (by decide) (ovP_none (f := 46) (by decide) (ovP_none (f := 33) (by decide) (oW_none (by decide)))))))))  a b w
  exact ⟨rfl, 2, w', _, h1⟩
noncomputable def o47 : Ov := ovP 47 F47 o48
theorem ok47 : OvOk Tryd.prog o47 := pure_ok no_count mixed ok48 (fun _ _ _ h => h) fun args w res hl hres => by
  obtain ⟨p, rfl, rfl⟩ := F47_some hres
  obtain ⟨_, w', h1, rfl⟩ := run47 (ovP_none (f := 48) (by decide) (ovP_none (f := 70) (by decide) (ovP_none (f := 87) (by decide) (ovP_none (f := 101) (by decide) (ovP_none (f := 100) (by decide) (ovP_none (f := 79) (by decide) (ovP_none (f := 46) (by decide) (ovP_none (f := 33) (by decide) (oW_none (by decide))))))))))  p w hl
  exact ⟨rfl, 2, w', _, h1⟩
noncomputable def o44 : Ov := ovP 44 F44 o47
theorem ok44 : OvOk Tryd.prog o44 := pure_ok no_count mixed ok47 (fun _ _ _ h => h) fun args w res hl hres => by
  obtain ⟨u, l, rfl, hin, rfl⟩ := F44_some hres
  obtain ⟨_, w', h1, rfl⟩ := run44 (ovP_none (f := 47) (by decide) (ovP_none (f := 48) (by decide) (ovP_none (f := 70) (by decide) (ovP_none (f := 87) (by decide) (ovP_none (f := 101) (by decide) (ovP_none (f := 100) (by decide) (ovP_none (f := 79) (by decide) (ovP_none (f := 46) (by decide) (ovP_none (f := 33) (by decide) (oW_none (by decide))))))))))) (HasP.skip (g := 47) (by decide) (HasP.skip (g := 48) (by decide) .here)) u l w hl (podsIn_some hin)
  exact ⟨rfl, 2, w', _, h1⟩
noncomputable def o14 : Ov := ovP 14 F14 o44
theorem ok14 : OvOk Tryd.prog o14 := pure_ok no_count mixed ok44 (fun _ _ _ h => h) fun args w res hl hres => by
  obtain ⟨u, l, rfl, hin, rfl⟩ := F14_some hres
  obtain ⟨_, w', h1, rfl⟩ := run14 (ovP_none (f := 44) (by decide) (ovP_none (f := 47) (by decide) (ovP_none (f := 48) (by decide) (ovP_none (f := 70) (by decide) (ovP_none (f := 87) (by decide) (ovP_none (f := 101) (by decide) (ovP_none (f := 100) (by decide) (ovP_none (f := 79) (by decide) (ovP_none (f := 46) (by decide) (ovP_none (f := 33) (by decide) (oW_none (by decide)))))))))))) .here u l w hin
  exact ⟨rfl, 2, w', _, h1⟩
noncomputable def o16 : Ov := ovP 16 F16 o14
theorem ok16 : OvOk Tryd.prog o16 := pure_ok no_count mixed ok14 (fun _ _ _ h => h) fun args w res hl hres => by
  obtain ⟨p, rfl, rfl⟩ := F16_some hres
  obtain ⟨_, w', h1, rfl⟩ := run16 (ovP_none (f := 14) (by decide) (ovP_none (f := 44) (by decide) (ovP_none (f := 47) (by decide) (ovP_none (f := 48) (by decide) (ovP_none (f := 70) (by decide) (ovP_none (f := 87) (by decide) (ovP_none (f := 101) (by decide) (ovP_none (f := 100) (by decide) (ovP_none (f := 79) (by decide) (ovP_none (f := 46) (by decide) (ovP_none (f := 33) (by decide) (oW_none (by decide))))))))))))) .here (HasP.skip (g := 14) (by decide) (HasP.skip (g := 44) (by decide) .here)) (HasP.skip (g := 14) (by decide) (HasP.skip (g := 44) (by decide) (HasP.skip (g := 47) (by decide) .here))) p w hl
  exact ⟨rfl, 2, w', _, h1⟩
noncomputable def o72 : Ov := ovP 72 F72 o16
theorem ok72 : OvOk Tryd.prog o72 := pure_ok no_count mixed ok16 (fun _ _ _ h => h) fun args w res hl hres => by
  obtain ⟨n, a, b, rfl, rfl⟩ := F72_some hres
  obtain ⟨_, w', h1, rfl⟩ := run72 (ovP_none (f := 16) (by decide) (ovP_none (f := 14) (by decide) (ovP_none (f := 44) (by decide) (ovP_none (f := 47) (by decide) (ovP_none (f := 48) (by decide) (ovP_none (f := 70) (by decide) (ovP_none (f := 87) (by decide) (ovP_none (f := 101) (by decide) (ovP_none (f := 100) (by decide) (ovP_none (f := 79) (by decide) (ovP_none (f := 46) (by decide) (ovP_none (f := 33) (by decide) (oW_none (by decide))))))))))))))  n a b w
  exact ⟨rfl, 2, w', _, h1⟩
noncomputable def o71 : Ov := ovP 71 F71 o72
theorem ok71 : OvOk Tryd.prog o71 := pure_ok no_count mixed ok72 (fun _ _ _ h => h) fun args w res hl hres => by
  obtain ⟨v, u, l, pl, rfl, hv, hu, hlen, rfl⟩ := F71_some hres
  obtain ⟨_, w', h1, rfl⟩ := run71 (ovP_none (f := 72) (by decide) (ovP_none (f := 16) (by decide) (ovP_none (f := 14) (by decide) (ovP_none (f := 44) (by decide) (ovP_none (f := 47) (by decide) (ovP_none (f := 48) (by decide) (ovP_none (f := 70) (by decide) (ovP_none (f := 87) (by decide) (ovP_none (f := 101) (by decide) (ovP_none (f := 100) (by decide) (ovP_none (f := 79) (by decide) (ovP_none (f := 46) (by decide) (ovP_none (f := 33) (by decide) (oW_none (by decide)))))))))))))))  l pl v u w (podsIn_some hv) hu hlen
  exact ⟨rfl, 2, w', _, h1⟩
noncomputable def o50 : Ov := ovP 50 F50 o71
theorem ok50 : OvOk Tryd.prog o50 := pure_ok no_count mixed ok71 (fun _ _ _ h => h) fun args w res hl hres => by
  obtain ⟨v, u, l, pl, rfl, hv, hu, rfl⟩ := F50_some hres
  obtain ⟨_, w', h1, rfl⟩ := run50 (ovP_none (f := 71) (by decide) (ovP_none (f := 72) (by decide) (ovP_none (f := 16) (by decide) (ovP_none (f := 14) (by decide) (ovP_none (f := 44) (by decide) (ovP_none (f := 47) (by decide) (ovP_none (f := 48) (by decide) (ovP_none (f := 70) (by decide) (ovP_none (f := 87) (by decide) (ovP_none (f := 101) (by decide) (ovP_none (f := 100) (by decide) (ovP_none (f := 79) (by decide) (ovP_none (f := 46) (by decide) (ovP_none (f := 33) (by decide) (oW_none (by decide)))))))))))))))) (HasP.skip (g := 71) (by decide) (HasP.skip (g := 72) (by decide) (HasP.skip (g := 16) (by decide) .here))) .here l pl v u w hv hu
  exact ⟨rfl, 2, w', _, h1⟩
noncomputable def o51 : Ov := ovP 51 F51 o50
theorem ok51 : OvOk Tryd.prog o51 := pure_ok no_count mixed ok50 (fun _ _ _ h => h) fun args w res hl hres => by
  obtain ⟨v, vr, vh, vg, l, R, H, G, rfl, hv, hr, hh, hg, hlen, rfl⟩ := F51_some hres
  obtain ⟨_, w', h1, rfl⟩ := run51 (ovP_none (f := 50) (by decide) (ovP_none (f := 71) (by decide) (ovP_none (f := 72) (by decide) (ovP_none (f := 16) (by decide) (ovP_none (f := 14) (by decide) (ovP_none (f := 44) (by decide) (ovP_none (f := 47) (by decide) (ovP_none (f := 48) (by decide) (ovP_none (f := 70) (by decide) (ovP_none (f := 87) (by decide) (ovP_none (f := 101) (by decide) (ovP_none (f := 100) (by decide) (ovP_none (f := 79) (by decide) (ovP_none (f := 46) (by decide) (ovP_none (f := 33) (by decide) (oW_none (by decide))))))))))))))))) (HasP.skip (g := 50) (by decide) (HasP.skip (g := 71) (by decide) .here)) l R H G v vr vh vg w hl (podsIn_some hv) hr hh hg hlen
  exact ⟨rfl, 2, w', _, h1⟩
noncomputable def o88 : Ov := ovP 88 F88 o51
theorem ok88 : OvOk Tryd.prog o88 := pure_ok no_count mixed ok51 (fun _ _ _ h => h) fun args w res hl hres => by
  obtain ⟨p, day, r, h, g, rfl, hn, rfl⟩ := F88_some hres
  obtain ⟨_, w', h1, rfl⟩ := run88 (ovP_none (f := 51) (by decide) (ovP_none (f := 50) (by decide) (ovP_none (f := 71) (by decide) (ovP_none (f := 72) (by decide) (ovP_none (f := 16) (by decide) (ovP_none (f := 14) (by decide) (ovP_none (f := 44) (by decide) (ovP_none (f := 47) (by decide) (ovP_none (f := 48) (by decide) (ovP_none (f := 70) (by decide) (ovP_none (f := 87) (by decide) (ovP_none (f := 101) (by decide) (ovP_none (f := 100) (by decide) (ovP_none (f := 79) (by decide) (ovP_none (f := 46) (by decide) (ovP_none (f := 33) (by decide) (oW_none (by decide))))))))))))))))))  p day r h g hn w
  exact ⟨rfl, 2, w', _, h1⟩
noncomputable def o89 : Ov := ovP 89 F89 o88
theorem ok89 : OvOk Tryd.prog o89 := pure_ok no_count mixed ok88 (fun _ _ _ h => h) fun args w res hl hres => by
  obtain ⟨p, day, r, h, g, rfl, hn, rfl⟩ := F89_some hres
  obtain ⟨_, w', h1, rfl⟩ := run89 (ovP_none (f := 88) (by decide) (ovP_none (f := 51) (by decide) (ovP_none (f := 50) (by decide) (ovP_none (f := 71) (by decide) (ovP_none (f := 72) (by decide) (ovP_none (f := 16) (by decide) (ovP_none (f := 14) (by decide) (ovP_none (f := 44) (by decide) (ovP_none (f := 47) (by decide) (ovP_none (f := 48) (by decide) (ovP_none (f := 70) (by decide) (ovP_none (f := 87) (by decide) (ovP_none (f := 101) (by decide) (ovP_none (f := 100) (by decide) (ovP_none (f := 79) (by decide) (ovP_none (f := 46) (by decide) (ovP_none (f := 33) (by decide) (oW_none (by decide)))))))))))))))))))  p day r h g hn w
  exact ⟨rfl, 2, w', _, h1⟩
noncomputable def o73 : Ov := ovP 73 F73 o89
theorem ok73 : OvOk Tryd.prog o73 := pure_ok no_count mixed ok89 (fun _ _ _ h => h) fun args w res hl hres => by
  obtain ⟨p, day, r, h, g, rfl, hn, hPW, rfl⟩ := F73_some hres
  obtain ⟨_, w', h1, rfl⟩ := run73 (ovP_none (f := 89) (by decide) (ovP_none (f := 88) (by decide) (ovP_none (f := 51) (by decide) (ovP_none (f := 50) (by decide) (ovP_none (f := 71) (by decide) (ovP_none (f := 72) (by decide) (ovP_none (f := 16) (by decide) (ovP_none (f := 14) (by decide) (ovP_none (f := 44) (by decide) (ovP_none (f := 47) (by decide) (ovP_none (f := 48) (by decide) (ovP_none (f := 70) (by decide) (ovP_none (f := 87) (by decide) (ovP_none (f := 101) (by decide) (ovP_none (f := 100) (by decide) (ovP_none (f := 79) (by decide) (ovP_none (f := 46) (by decide) (ovP_none (f := 33) (by decide) (oW_none (by decide)))))))))))))))))))) (HasP.skip (g := 89) (by decide) .here) .here p day r h g hn w (Nat.le_of_eq hl) hPW
  exact ⟨rfl, 2, w', _, h1⟩
noncomputable def o74 : Ov := ovP 74 F74 o73
theorem ok74 : OvOk Tryd.prog o74 := pure_ok no_count mixed ok73 (fun _ _ _ h => h) fun args w res hl hres => by
  obtain ⟨v, ys, rfl, hv, hy, hlen, rfl⟩ := F74_some hres
  obtain ⟨_, w', h1, rfl⟩ := run74 (ovP_none (f := 73) (by decide) (ovP_none (f := 89) (by decide) (ovP_none (f := 88) (by decide) (ovP_none (f := 51) (by decide) (ovP_none (f := 50) (by decide) (ovP_none (f := 71) (by decide) (ovP_none (f := 72) (by decide) (ovP_none (f := 16) (by decide) (ovP_none (f := 14) (by decide) (ovP_none (f := 44) (by decide) (ovP_none (f := 47) (by decide) (ovP_none (f := 48) (by decide) (ovP_none (f := 70) (by decide) (ovP_none (f := 87) (by decide) (ovP_none (f := 101) (by decide) (ovP_none (f := 100) (by decide) (ovP_none (f := 79) (by decide) (ovP_none (f := 46) (by decide) (ovP_none (f := 33) (by decide) (oW_none (by decide))))))))))))))))))))) (ovP_none (f := 73) (by decide) (ovP_none (f := 89) (by decide) (ovP_none (f := 88) (by decide) (ovP_none (f := 51) (by decide) (ovP_none (f := 50) (by decide) (ovP_none (f := 71) (by decide) (ovP_none (f := 72) (by decide) (ovP_none (f := 16) (by decide) (ovP_none (f := 14) (by decide) (ovP_none (f := 44) (by decide) (ovP_none (f := 47) (by decide) (ovP_none (f := 48) (by decide) (ovP_none (f := 70) (by decide) (ovP_none (f := 87) (by decide) (ovP_none (f := 101) (by decide) (ovP_none (f := 100) (by decide) (ovP_none (f := 79) (by decide) (ovP_none (f := 46) (by decide) (ovP_none (f := 33) (by decide) (oW_none (by decide))))))))))))))))))))) v ys hy hlen w hl hv 0
  exact ⟨rfl, 2, w', _, h1⟩
noncomputable def o52 : Ov := ovP 52 F52 o74
theorem ok52 : OvOk Tryd.prog o52 := pure_ok no_count mixed ok74 (fun _ _ _ h => h) fun args w res hl hres => by
  obtain ⟨v, u, vr, vh, vg, l, pl, R, H, G, rfl, hv, hu, hr, hh, hg, hB, hP, hT, hPW, rfl⟩ := F52_some hres
  obtain ⟨_, w', h1, rfl⟩ := run52 (ovP_none (f := 74) (by decide) (ovP_none (f := 73) (by decide) (ovP_none (f := 89) (by decide) (ovP_none (f := 88) (by decide) (ovP_none (f := 51) (by decide) (ovP_none (f := 50) (by decide) (ovP_none (f := 71) (by decide) (ovP_none (f := 72) (by decide) (ovP_none (f := 16) (by decide) (ovP_none (f := 14) (by decide) (ovP_none (f := 44) (by decide) (ovP_none (f := 47) (by decide) (ovP_none (f := 48) (by decide) (ovP_none (f := 70) (by decide) (ovP_none (f := 87) (by decide) (ovP_none (f := 101) (by decide) (ovP_none (f := 100) (by decide) (ovP_none (f := 79) (by decide) (ovP_none (f := 46) (by decide) (ovP_none (f := 33) (by decide) (oW_none (by decide)))))))))))))))))))))) (HasP.skip (g := 74) (by decide) .here) .here l pl R H G v u vr vh vg w hl hPW (podsIn_some hv) hu hr hh hg hB hP hT
  exact ⟨rfl, 2, w', _, h1⟩
noncomputable def o19 : Ov := ovP 19 F19 o52
theorem ok19 : OvOk Tryd.prog o19 := pure_ok no_count mixed ok52 (fun _ _ _ h => h) fun args w res hl hres => by
  obtain ⟨v, u, vr, vh, vg, l, pl, R, H, G, rfl, hv, hu, hr, hh, hg, hPW, rfl⟩ := F19_some hres
  obtain ⟨_, w', h1, rfl⟩ := run19 (ovP_none (f := 52) (by decide) (ovP_none (f := 74) (by decide) (ovP_none (f := 73) (by decide) (ovP_none (f := 89) (by decide) (ovP_none (f := 88) (by decide) (ovP_none (f := 51) (by decide) (ovP_none (f := 50) (by decide) (ovP_none (f := 71) (by decide) (ovP_none (f := 72) (by decide) (ovP_none (f := 16) (by decide) (ovP_none (f := 14) (by decide) (ovP_none (f := 44) (by decide) (ovP_none (f := 47) (by decide) (ovP_none (f := 48) (by decide) (ovP_none (f := 70) (by decide) (ovP_none (f := 87) (by decide) (ovP_none (f := 101) (by decide) (ovP_none (f := 100) (by decide) (ovP_none (f := 79) (by decide) (ovP_none (f := 46) (by decide) (ovP_none (f := 33) (by decide) (oW_none (by decide))))))))))))))))))))))) (HasP.skip (g := 52) (by decide) (HasP.skip (g := 74) (by decide) (HasP.skip (g := 73) (by decide) (HasP.skip (g := 89) (by decide) (HasP.skip (g := 88) (by decide) (HasP.skip (g := 51) (by decide) .here)))))) (HasP.skip (g := 52) (by decide) (HasP.skip (g := 74) (by decide) (HasP.skip (g := 73) (by decide) (HasP.skip (g := 89) (by decide) (HasP.skip (g := 88) (by decide) .here))))) .here l pl R H G v u vr vh vg w hl hPW hv hu hr hh hg
  exact ⟨rfl, 2, w', _, h1⟩
noncomputable def o77 : Ov := ovP 77 F77 o19
theorem ok77 : OvOk Tryd.prog o77 := pure_ok no_count mixed ok19 (fun _ _ _ h => h) fun args w res hl hres => by
  obtain ⟨y, v, ys, rfl, hv, hlen, rfl⟩ := F77_some hres
  obtain ⟨_, w', h1, rfl⟩ := run77 (ovP_none (f := 19) (by decide) (ovP_none (f := 52) (by decide) (ovP_none (f := 74) (by decide) (ovP_none (f := 73) (by decide) (ovP_none (f := 89) (by decide) (ovP_none (f := 88) (by decide) (ovP_none (f := 51) (by decide) (ovP_none (f := 50) (by decide) (ovP_none (f := 71) (by decide) (ovP_none (f := 72) (by decide) (ovP_none (f := 16) (by decide) (ovP_none (f := 14) (by decide) (ovP_none (f := 44) (by decide) (ovP_none (f := 47) (by decide) (ovP_none (f := 48) (by decide) (ovP_none (f := 70) (by decide) (ovP_none (f := 87) (by decide) (ovP_none (f := 101) (by decide) (ovP_none (f := 100) (by decide) (ovP_none (f := 79) (by decide) (ovP_none (f := 46) (by decide) (ovP_none (f := 33) (by decide) (oW_none (by decide))))))))))))))))))))))))  y ys hlen v w hl hv
  exact ⟨rfl, 2, w', _, h1⟩
noncomputable def o56 : Ov := ovP 56 F56 o77
theorem ok56 : OvOk Tryd.prog o56 := pure_ok no_count mixed ok77 (fun _ _ _ h => h) fun args w res hl hres => by
  obtain ⟨v, u, l, pl, rfl, hv, hu, hB, hP, hPW, rfl⟩ := F56_some hres
  obtain ⟨_, w', h1, rfl⟩ := run56 (ovP_none (f := 77) (by decide) (ovP_none (f := 19) (by decide) (ovP_none (f := 52) (by decide) (ovP_none (f := 74) (by decide) (ovP_none (f := 73) (by decide) (ovP_none (f := 89) (by decide) (ovP_none (f := 88) (by decide) (ovP_none (f := 51) (by decide) (ovP_none (f := 50) (by decide) (ovP_none (f := 71) (by decide) (ovP_none (f := 72) (by decide) (ovP_none (f := 16) (by decide) (ovP_none (f := 14) (by decide) (ovP_none (f := 44) (by decide) (ovP_none (f := 47) (by decide) (ovP_none (f := 48) (by decide) (ovP_none (f := 70) (by decide) (ovP_none (f := 87) (by decide) (ovP_none (f := 101) (by decide) (ovP_none (f := 100) (by decide) (ovP_none (f := 79) (by decide) (ovP_none (f := 46) (by decide) (ovP_none (f := 33) (by decide) (oW_none (by decide))))))))))))))))))))))))) (ovP_none (f := 77) (by decide) (ovP_none (f := 19) (by decide) (ovP_none (f := 52) (by decide) (ovP_none (f := 74) (by decide) (ovP_none (f := 73) (by decide) (ovP_none (f := 89) (by decide) (ovP_none (f := 88) (by decide) (ovP_none (f := 51) (by decide) (ovP_none (f := 50) (by decide) (ovP_none (f := 71) (by decide) (ovP_none (f := 72) (by decide) (ovP_none (f := 16) (by decide) (ovP_none (f := 14) (by decide) (ovP_none (f := 44) (by decide) (ovP_none (f := 47) (by decide) (ovP_none (f := 48) (by decide) (ovP_none (f := 70) (by decide) (ovP_none (f := 87) (by decide) (ovP_none (f := 101) (by decide) (ovP_none (f := 100) (by decide) (ovP_none (f := 79) (by decide) (ovP_none (f := 46) (by decide) (ovP_none (f := 33) (by decide) (oW_none (by decide))))))))))))))))))))))))) (HasP.skip (g := 77) (by decide) (HasP.skip (g := 19) (by decide) (HasP.skip (g := 52) (by decide) (HasP.skip (g := 74) (by decide) .here)))) .here (HasP.skip (g := 77) (by decide) (HasP.skip (g := 19) (by decide) (HasP.skip (g := 52) (by decide) .here))) l pl v u w hl hPW (podsIn_some hv) hu hB hP
  exact ⟨rfl, 3, w', _, h1⟩
noncomputable def o21 : Ov := ovP 21 F21 o56
theorem ok21 : OvOk Tryd.prog o21 := pure_ok no_count mixed ok56 (fun _ _ _ h => h) fun args w res hl hres => by
  obtain ⟨v, u, l, pl, rfl, hv, hu, hPW, rfl⟩ := F21_some hres
  obtain ⟨_, w', h1, rfl⟩ := run21 (ovP_none (f := 56) (by decide) (ovP_none (f := 77) (by decide) (ovP_none (f := 19) (by decide) (ovP_none (f := 52) (by decide) (ovP_none (f := 74) (by decide) (ovP_none (f := 73) (by decide) (ovP_none (f := 89) (by decide) (ovP_none (f := 88) (by decide) (ovP_none (f := 51) (by decide) (ovP_none (f := 50) (by decide) (ovP_none (f := 71) (by decide) (ovP_none (f := 72) (by decide) (ovP_none (f := 16) (by decide) (ovP_none (f := 14) (by decide) (ovP_none (f := 44) (by decide) (ovP_none (f := 47) (by decide) (ovP_none (f := 48) (by decide) (ovP_none (f := 70) (by decide) (ovP_none (f := 87) (by decide) (ovP_none (f := 101) (by decide) (ovP_none (f := 100) (by decide) (ovP_none (f := 79) (by decide) (ovP_none (f := 46) (by decide) (ovP_none (f := 33) (by decide) (oW_none (by decide)))))))))))))))))))))))))) (HasP.skip (g := 56) (by decide) (HasP.skip (g := 77) (by decide) (HasP.skip (g := 19) (by decide) (HasP.skip (g := 52) (by decide) (HasP.skip (g := 74) (by decide) (HasP.skip (g := 73) (by decide) (HasP.skip (g := 89) (by decide) (HasP.skip (g := 88) (by decide) (HasP.skip (g := 51) (by decide) .here))))))))) .here l pl v u w hl hPW hv hu
  exact ⟨ground_wei _ _, 2, w', _, h1⟩
noncomputable def o42 : Ov := ovP 42 F42 o21
theorem ok42 : OvOk Tryd.prog o42 := pure_ok no_count mixed ok21 (fun _ _ _ h => h) fun args w res hl hres => by
  obtain ⟨n, s, rfl, hs, rfl⟩ := F42_some hres
  obtain ⟨_, w', h1, rfl⟩ := run42 (ovP_none (f := 21) (by decide) (ovP_none (f := 56) (by decide) (ovP_none (f := 77) (by decide) (ovP_none (f := 19) (by decide) (ovP_none (f := 52) (by decide) (ovP_none (f := 74) (by decide) (ovP_none (f := 73) (by decide) (ovP_none (f := 89) (by decide) (ovP_none (f := 88) (by decide) (ovP_none (f := 51) (by decide) (ovP_none (f := 50) (by decide) (ovP_none (f := 71) (by decide) (ovP_none (f := 72) (by decide) (ovP_none (f := 16) (by decide) (ovP_none (f := 14) (by decide) (ovP_none (f := 44) (by decide) (ovP_none (f := 47) (by decide) (ovP_none (f := 48) (by decide) (ovP_none (f := 70) (by decide) (ovP_none (f := 87) (by decide) (ovP_none (f := 101) (by decide) (ovP_none (f := 100) (by decide) (ovP_none (f := 79) (by decide) (ovP_none (f := 46) (by decide) (ovP_none (f := 33) (by decide) (oW_none (by decide)))))))))))))))))))))))))))  n s hs w
  exact ⟨rfl, 2, w', _, h1⟩
noncomputable def o41 : Ov := ovP 41 F41 o42
theorem ok41 : OvOk Tryd.prog o41 := pure_ok no_count mixed ok42 (fun _ _ _ h => h) fun args w res hl hres => by
  obtain ⟨v, L, i, rfl, hv, hlen, rfl⟩ := F41_some hres
  obtain ⟨_, w', h1, rfl⟩ := run41 (ovP_none (f := 42) (by decide) (ovP_none (f := 21) (by decide) (ovP_none (f := 56) (by decide) (ovP_none (f := 77) (by decide) (ovP_none (f := 19) (by decide) (ovP_none (f := 52) (by decide) (ovP_none (f := 74) (by decide) (ovP_none (f := 73) (by decide) (ovP_none (f := 89) (by decide) (ovP_none (f := 88) (by decide) (ovP_none (f := 51) (by decide) (ovP_none (f := 50) (by decide) (ovP_none (f := 71) (by decide) (ovP_none (f := 72) (by decide) (ovP_none (f := 16) (by decide) (ovP_none (f := 14) (by decide) (ovP_none (f := 44) (by decide) (ovP_none (f := 47) (by decide) (ovP_none (f := 48) (by decide) (ovP_none (f := 70) (by decide) (ovP_none (f := 87) (by decide) (ovP_none (f := 101) (by decide) (ovP_none (f := 100) (by decide) (ovP_none (f := 79) (by decide) (ovP_none (f := 46) (by decide) (ovP_none (f := 33) (by decide) (oW_none (by decide)))))))))))))))))))))))))))) .here v L i w hv hlen
  exact ⟨rfl, 2, w', _, h1⟩
noncomputable def o38 : Ov := ovP 38 F38 o41
theorem ok38 : OvOk Tryd.prog o38 := pure_ok no_count mixed ok41 (fun _ _ _ h => h) fun args w res hl hres => by
  obtain ⟨lo, hi, n, rfl, hb, rfl⟩ := F38_some hres
  obtain ⟨_, w', h1, rfl⟩ := run38 (ovP_none (f := 41) (by decide) (ovP_none (f := 42) (by decide) (ovP_none (f := 21) (by decide) (ovP_none (f := 56) (by decide) (ovP_none (f := 77) (by decide) (ovP_none (f := 19) (by decide) (ovP_none (f := 52) (by decide) (ovP_none (f := 74) (by decide) (ovP_none (f := 73) (by decide) (ovP_none (f := 89) (by decide) (ovP_none (f := 88) (by decide) (ovP_none (f := 51) (by decide) (ovP_none (f := 50) (by decide) (ovP_none (f := 71) (by decide) (ovP_none (f := 72) (by decide) (ovP_none (f := 16) (by decide) (ovP_none (f := 14) (by decide) (ovP_none (f := 44) (by decide) (ovP_none (f := 47) (by decide) (ovP_none (f := 48) (by decide) (ovP_none (f := 70) (by decide) (ovP_none (f := 87) (by decide) (ovP_none (f := 101) (by decide) (ovP_none (f := 100) (by decide) (ovP_none (f := 79) (by decide) (ovP_none (f := 46) (by decide) (ovP_none (f := 33) (by decide) (oW_none (by decide))))))))))))))))))))))))))))) (HasP.skip (g := 41) (by decide) .here) lo hi n hb w
  exact ⟨rfl, 2, w', _, h1⟩
theorem top_true (p : Pod) (day : Int) (bits : List Int) (x : Value) (w : AW) (hl : w.lim = w.next) (hPW : PartsW w) (hx : RowsV intC w x bits) (hb : bits.length ≤ 2 ^ 60) : ∃ w' x', (run Tryd.prog o38 3).call 7 [.agg ⟨podC p⟩, .int .i64 day, x] w .none = .ok (.ret (.bool true)) w' x' := by
  obtain ⟨_, w', h1, rfl⟩ := run7 (ovP_none (f := 38) (by decide) (ovP_none (f := 41) (by decide) (ovP_none (f := 42) (by decide) (ovP_none (f := 21) (by decide) (ovP_none (f := 56) (by decide) (ovP_none (f := 77) (by decide) (ovP_none (f := 19) (by decide) (ovP_none (f := 52) (by decide) (ovP_none (f := 74) (by decide) (ovP_none (f := 73) (by decide) (ovP_none (f := 89) (by decide) (ovP_none (f := 88) (by decide) (ovP_none (f := 51) (by decide) (ovP_none (f := 50) (by decide) (ovP_none (f := 71) (by decide) (ovP_none (f := 72) (by decide) (ovP_none (f := 16) (by decide) (ovP_none (f := 14) (by decide) (ovP_none (f := 44) (by decide) (ovP_none (f := 47) (by decide) (ovP_none (f := 48) (by decide) (ovP_none (f := 70) (by decide) (ovP_none (f := 87) (by decide) (ovP_none (f := 101) (by decide) (ovP_none (f := 100) (by decide) (ovP_none (f := 79) (by decide) (ovP_none (f := 46) (by decide) (ovP_none (f := 33) (by decide) (oW_none (by decide)))))))))))))))))))))))))))))) (ovP_none (f := 38) (by decide) (ovP_none (f := 41) (by decide) (ovP_none (f := 42) (by decide) (ovP_none (f := 21) (by decide) (ovP_none (f := 56) (by decide) (ovP_none (f := 77) (by decide) (ovP_none (f := 19) (by decide) (ovP_none (f := 52) (by decide) (ovP_none (f := 74) (by decide) (ovP_none (f := 73) (by decide) (ovP_none (f := 89) (by decide) (ovP_none (f := 88) (by decide) (ovP_none (f := 51) (by decide) (ovP_none (f := 50) (by decide) (ovP_none (f := 71) (by decide) (ovP_none (f := 72) (by decide) (ovP_none (f := 16) (by decide) (ovP_none (f := 14) (by decide) (ovP_none (f := 44) (by decide) (ovP_none (f := 47) (by decide) (ovP_none (f := 48) (by decide) (ovP_none (f := 70) (by decide) (ovP_none (f := 87) (by decide) (ovP_none (f := 101) (by decide) (ovP_none (f := 100) (by decide) (ovP_none (f := 79) (by decide) (ovP_none (f := 46) (by decide) (ovP_none (f := 33) (by decide) (oW_none (by decide)))))))))))))))))))))))))))))) (HasP.skip (g := 38) (by decide) (HasP.skip (g := 41) (by decide) (HasP.skip (g := 42) (by decide) (HasP.skip (g := 21) (by decide) (HasP.skip (g := 56) (by decide) (HasP.skip (g := 77) (by decide) (HasP.skip (g := 19) (by decide) (HasP.skip (g := 52) (by decide) (HasP.skip (g := 74) (by decide) (HasP.skip (g := 73) (by decide) (HasP.skip (g := 89) (by decide) (HasP.skip (g := 88) (by decide) (HasP.skip (g := 51) (by decide) (HasP.skip (g := 50) (by decide) (HasP.skip (g := 71) (by decide) (HasP.skip (g := 72) (by decide) (HasP.skip (g := 16) (by decide) .here))))))))))))))))) (HasP.skip (g := 38) (by decide) (HasP.skip (g := 41) (by decide) (HasP.skip (g := 42) (by decide) (HasP.skip (g := 21) (by decide) (HasP.skip (g := 56) (by decide) (HasP.skip (g := 77) (by decide) (HasP.skip (g := 19) (by decide) (HasP.skip (g := 52) (by decide) (HasP.skip (g := 74) (by decide) (HasP.skip (g := 73) (by decide) (HasP.skip (g := 89) (by decide) (HasP.skip (g := 88) (by decide) (HasP.skip (g := 51) (by decide) (HasP.skip (g := 50) (by decide) (HasP.skip (g := 71) (by decide) (HasP.skip (g := 72) (by decide) .here)))))))))))))))) (HasP.skip (g := 38) (by decide) .here) .here (HasP.skip (g := 38) (by decide) (HasP.skip (g := 41) (by decide) (HasP.skip (g := 42) (by decide) (HasP.skip (g := 21) (by decide) (HasP.skip (g := 56) (by decide) (HasP.skip (g := 77) (by decide) .here)))))) (HasP.skip (g := 38) (by decide) (HasP.skip (g := 41) (by decide) (HasP.skip (g := 42) (by decide) .here))) (HasP.skip (g := 38) (by decide) (HasP.skip (g := 41) (by decide) (HasP.skip (g := 42) (by decide) (HasP.skip (g := 21) (by decide) (HasP.skip (g := 56) (by decide) (HasP.skip (g := 77) (by decide) (HasP.skip (g := 19) (by decide) (HasP.skip (g := 52) (by decide) (HasP.skip (g := 74) (by decide) (HasP.skip (g := 73) (by decide) (HasP.skip (g := 89) (by decide) (HasP.skip (g := 88) (by decide) (HasP.skip (g := 51) (by decide) (HasP.skip (g := 50) (by decide) (HasP.skip (g := 71) (by decide) (HasP.skip (g := 72) (by decide) (HasP.skip (g := 16) (by decide) (HasP.skip (g := 14) (by decide) (HasP.skip (g := 44) (by decide) (HasP.skip (g := 47) (by decide) (HasP.skip (g := 48) (by decide) (HasP.skip (g := 70) (by decide) (HasP.skip (g := 87) (by decide) (HasP.skip (g := 101) (by decide) (HasP.skip (g := 100) (by decide) (HasP.skip (g := 79) (by decide) (HasP.skip (g := 46) (by decide) .here))))))))))))))))))))))))))) (HasW.skip (f := 38) (by decide) (HasW.skip (f := 41) (by decide) (HasW.skip (f := 42) (by decide) (HasW.skip (f := 21) (by decide) (HasW.skip (f := 56) (by decide) (HasW.skip (f := 77) (by decide) (HasW.skip (f := 19) (by decide) (HasW.skip (f := 52) (by decide) (HasW.skip (f := 74) (by decide) (HasW.skip (f := 73) (by decide) (HasW.skip (f := 89) (by decide) (HasW.skip (f := 88) (by decide) (HasW.skip (f := 51) (by decide) (HasW.skip (f := 50) (by decide) (HasW.skip (f := 71) (by decide) (HasW.skip (f := 72) (by decide) (HasW.skip (f := 16) (by decide) (HasW.skip (f := 14) (by decide) (HasW.skip (f := 44) (by decide) (HasW.skip (f := 47) (by decide) (HasW.skip (f := 48) (by decide) (HasW.skip (f := 70) (by decide) (HasW.skip (f := 87) (by decide) (HasW.skip (f := 101) (by decide) (HasW.skip (f := 100) (by decide) (HasW.skip (f := 79) (by decide) (HasW.skip (f := 46) (by decide) (HasW.skip (f := 33) (by decide) oW_has)))))))))))))))))))))))))))) p day bits x w hl hPW hx hb
  exact ⟨w', _, h1⟩
end Go.Proofs.YtbmhpgoceobbdaaDoor.walk

namespace Go.Proofs.YtbmhpgoceobbdaaDoor.walk
open Go Go.Sh
open known (partsC laidL noOv)
set_option maxRecDepth 100000
theorem ty33 : tyOk Tryd.prog 6 33 = true := by kernel_rfl
theorem ty35 : tyOk Tryd.prog 6 35 = true := by kernel_rfl
theorem u33 : Tryd.prog.underlying 33 = some (.slice 3) := by kernel_rfl
theorem u35 : Tryd.prog.underlying 35 = some (.struct (fieldsOf Tryd.prog 35)) := by kernel_rfl
theorem f35 : (fieldsOf Tryd.prog 35).toList.map (fun f => (f.type, f.offset)) = [(33, 0), (33, 1), (33, 2)] := by kernel_rfl
theorem c33 : Tryd.prog.cellsOf 33 = 1 := by kernel_rfl
theorem c35 : Tryd.prog.cellsOf 35 = 3 := by kernel_rfl
theorem ty30 : tyOk Tryd.prog 6 30 = true := by kernel_rfl
theorem ty3 : tyOk Tryd.prog 6 3 = true := by kernel_rfl
theorem ty22 : tyOk Tryd.prog 6 22 = true := by kernel_rfl
theorem u22 : Tryd.prog.underlying 22 = some (.slice 30) := by kernel_rfl
theorem u3 : Tryd.prog.underlying 3 = some (.int .i64) := by kernel_rfl
theorem u9 : Tryd.prog.underlying 9 = some .string := by kernel_rfl
theorem u30 : Tryd.prog.underlying 30 = some (.struct (fieldsOf Tryd.prog 30)) := by kernel_rfl
theorem f30 : (fieldsOf Tryd.prog 30).toList.map (fun f => (f.type, f.offset)) = [(9, 0), (3, 1), (26, 2), (26, 4), (26, 6)] := by kernel_rfl
theorem u26 : Tryd.prog.underlying 26 = some (.struct (fieldsOf Tryd.prog 26)) := by kernel_rfl
theorem f26 : (fieldsOf Tryd.prog 26).toList.map (fun f => (f.type, f.offset)) = [(3, 0), (3, 1)] := by kernel_rfl
theorem c3 : Tryd.prog.cellsOf 3 = 1 := by kernel_rfl
theorem c9 : Tryd.prog.cellsOf 9 = 1 := by kernel_rfl
theorem c26 : Tryd.prog.cellsOf 26 = 2 := by kernel_rfl
theorem c30 : Tryd.prog.cellsOf 30 = 8 := by kernel_rfl
theorem span_of {H : T AObj} {n : Nat} {cs : List Value} (h : WT Tryd.prog H n 26 cs) : ∃ a b, cs = [.int .i64 a, .int .i64 b] := by
  obtain ⟨hl, hf⟩ := h.toStruct u26
  rw [f26] at hf
  rw [c26] at hl
  obtain ⟨a, ha, _⟩ := (hf (3, 0) (by simp)).toInt u3
  obtain ⟨b, hb, _⟩ := (hf (3, 1) (by simp)).toInt u3
  rw [c3] at ha hb
  match cs, hl with
  | [x, y], _ =>
    simp at ha hb
    exact ⟨a, b, by rw [ha, hb]⟩
theorem pod_of {H : T AObj} {n : Nat} {cs : List Value} (h : WT Tryd.prog H n 30 cs) : ∃ p, cs = podC p := by
  obtain ⟨hl, hf⟩ := h.toStruct u30
  rw [f30] at hf
  rw [c30] at hl
  obtain ⟨s, hs, _⟩ := (hf (9, 0) (by simp)).toStr u9
  obtain ⟨b, hb, _⟩ := (hf (3, 1) (by simp)).toInt u3
  obtain ⟨rl, rh, hr⟩ := span_of (hf (26, 2) (by simp))
  obtain ⟨hl', hh, hh'⟩ := span_of (hf (26, 4) (by simp))
  obtain ⟨gl, gh, hg⟩ := span_of (hf (26, 6) (by simp))
  rw [c9] at hs
  rw [c3] at hb
  rw [c26] at hr hh' hg
  match cs, hl with
  | [x0, x1, x2, x3, x4, x5, x6, x7], _ =>
    simp at hs hb hr hh' hg
    exact ⟨⟨s, b, rl, rh, hl', hh, gl, gh⟩, by rw [hs, hb, hr.1, hr.2, hh'.1, hh'.2, hg.1, hg.2]; rfl⟩
theorem pods_of {A : AW} {m : Value} (h : ArgT Tryd.prog A.heap A.next 22 m) : ∃ l, PodsV A m l := by
  unfold ArgT at h
  rw [u22] at h
  rcases WT.toSlice u22 h with ⟨a, ha⟩ | ⟨b, k, c, ty, ro, ha, hb, hg, hk, _, hc, he⟩
  · cases ha; exact ⟨[], .inl ⟨a, 0, rfl, rfl⟩⟩
  · cases ha
    rw [c30] at hc he
    obtain ⟨l, h1, h2⟩ := chunks (f := podC) podC_length k c hc fun i hi => pod_of (he i hi)
    subst h1
    refine ⟨l, .inr ⟨b, some 1, l.length, rfl, ⟨[], ty, ro, ?_⟩, hb⟩⟩
    rw [hg, List.append_nil, h2]; rfl
theorem parts_start : (startH laidL).get 0 = some (.cells partsC 122 true) := by
  show ((startH []).put 0 (some (.cells partsC 122 true))).get 0 = _
  rw [get_put, if_pos rfl]
theorem ints_of {H : T AObj} {n lim : Nat} {cs : List Value} (h : WT Tryd.prog H n 33 cs) : ∃ v l, cs = [v] ∧ RowsV intC ⟨H, n, lim⟩ v l :=
  rows_of_WT u33 c3 intC_length (fun cs h => by
    obtain ⟨z, hz, _⟩ := h.toInt u3
    exact ⟨z, hz⟩) h
theorem ints_arg {A : AW} {m : Value} (h : ArgT Tryd.prog A.heap A.next 33 m) : ∃ l, RowsV intC A m l := by
  unfold ArgT at h
  rw [u33] at h
  obtain ⟨v, l, hv, hr⟩ := ints_of (lim := A.lim) h
  cases hv
  exact ⟨l, hr⟩
theorem truth_arg {A : AW} {m : Value} (h : ArgT Tryd.prog A.heap A.next 35 m) : ∃ vr vh vg R H G, m = .agg ⟨[vr, vh, vg]⟩ ∧ RowsV intC A vr R ∧ RowsV intC A vh H ∧ RowsV intC A vg G := by
  unfold ArgT at h
  rw [u35] at h
  obtain ⟨c, rfl, h⟩ := h
  obtain ⟨hl, hf⟩ := h.toStruct u35
  rw [f35] at hf
  rw [c35] at hl
  obtain ⟨a, R, ha, hR⟩ := ints_of (lim := A.lim) (hf (33, 0) (by simp))
  obtain ⟨b, H, hb, hH⟩ := ints_of (lim := A.lim) (hf (33, 1) (by simp))
  obtain ⟨d, G, hd, hG⟩ := ints_of (lim := A.lim) (hf (33, 2) (by simp))
  rw [c33] at ha hb hd
  match c, hl with
  | [x, y, z], _ =>
    simp at ha hb hd
    exact ⟨a, b, d, R, H, G, by rw [ha, hb, hd], hR, hH, hG⟩
theorem parts_at {A : AW} (hG : Tryd.prog.globals.size ≤ A.next) (hs : ∀ b, b < Tryd.prog.globals.size → A.heap.get b = (startH laidL).get b) : PartsW A := by
  rw [globals1] at hG hs
  exact ⟨⟨true, by rw [hs 0 (by decide), parts_start]⟩, hG⟩
theorem pod_arg {A : AW} {m : Value} (h : ArgT Tryd.prog A.heap A.next 30 m) : ∃ p, m = .agg ⟨podC p⟩ := by
  unfold ArgT at h
  rw [u30] at h
  obtain ⟨c, rfl, h⟩ := h
  obtain ⟨p, rfl⟩ := pod_of h
  exact ⟨p, rfl⟩
theorem int_arg {A : AW} {m : Value} (h : ArgT Tryd.prog A.heap A.next 3 m) : ∃ z, m = .int .i64 z := by
  unfold ArgT at h
  rw [u3] at h
  obtain ⟨z, hz, _⟩ := WT.toInt u3 h
  cases hz
  exact ⟨z, rfl⟩
theorem b3 : Tryd.prog.bytesOf 3 = 8 := by kernel_rfl
theorem short_of {A : AW} {m : Value} {L : List Int} (h : RowsV intC A m L) (k : ∀ (a : Option Addr) (n c : Nat), m = .slice a n c → n * Tryd.prog.bytesOf 3 ≤ reachBytes) : L.length ≤ 2 ^ 60 := by
  obtain ⟨a, c, e⟩ := h.len
  have := k a _ c e
  rw [b3] at this
  unfold reachBytes at this
  omega
theorem start_true (A : AW) (ms : List Value) (hl : A.lim = A.next) (hG : Tryd.prog.globals.size ≤ A.next) (hs : ∀ b, b < Tryd.prog.globals.size → A.heap.get b = (startH laidL).get b) (hms : ArgsT Tryd.prog A.heap A.next [30, 3, 33] ms) (hz : ∀ (j : Nat) t e a k c, [30, 3, 33][j]? = some t → Tryd.prog.underlying t = some (.slice e) → ms[j]? = some (.slice a k c) → k * Tryd.prog.bytesOf e ≤ reachBytes) :
    ∃ A' x', (run Tryd.prog o38 3).call 7 ms A .none = .ok (.ret (.bool true)) A' x' := by
  have hPW := parts_at hG hs
  match ms, hms, hz with
  | [m, u, t], hm, hz =>
    obtain ⟨p, rfl⟩ := pod_arg hm.1
    obtain ⟨d, rfl⟩ := int_arg hm.2.1
    obtain ⟨bits, hb⟩ := ints_arg hm.2.2.1
    exact top_true p d bits t A hl hPW hb (short_of hb fun a n c e => hz 2 33 3 a n c rfl u33 (by rw [e]; rfl))
end Go.Proofs.YtbmhpgoceobbdaaDoor.walk
