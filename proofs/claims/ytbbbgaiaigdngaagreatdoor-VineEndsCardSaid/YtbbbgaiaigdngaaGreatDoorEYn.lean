/- Part of a proof by a machine of ones own: see the text with the theorem. -/
import Derived.Test.YtbbbgaiaigdngaaGreatDoorEZd
import Derived.Test.YtbbbgaiaigdngaaGreatDoorEF02
import Derived.Test.YtbbbgaiaigdngaaGreatDoorShF
namespace Go.Proofs.YtbbbgaiaigdngaaGreatDoor.walk
open Go Go.Sh
set_option maxRecDepth 100000
theorem mixed : Tryz.prog.follows .mixedOrders = true := by kernel_rfl
theorem globals7 : Tryz.prog.globals.size = 7 := by kernel_rfl
theorem no_count : NoCount Tryz.prog := NoCount.of (by kernel_rfl)
theorem works_ov (fact : resIs (spanV 1 2) ((run Tryz.prog noOv 1000).call 8 (flowersA 246 248 1) (startA 249 (flowersL 246 248)) .none) = true) : OvOk Tryz.prog worksOv :=
  memo_ok no_count mixed ov_none fact (by kernel_rfl) (by kernel_rfl) (by rw [globals7]; decide) (by kernel_rfl) ov_none
noncomputable def oW : Ov := memoOv 10 [] laidL (.bool true) noOv
theorem okW' (fact : resIs (spanV 1 2) ((run Tryz.prog noOv 1000).call 8 (flowersA 246 248 1) (startA 249 (flowersL 246 248)) .none) = true) : OvOk Tryz.prog oW := memo_ok no_count mixed (works_ov fact) works_true (by kernel_rfl) (by kernel_rfl) (by rw [globals7]; exact Nat.le_refl _) (by kernel_rfl) ov_none
theorem oW_none {f : Nat} (hf : f ≠ 10) (args : List Value) (w : AW) : oW f args w = none := by
  have : Nat.beq f 10 = false := by rw [← Bool.not_eq_true]; intro h; exact hf (Nat.eq_of_beq_eq_true h)
  simp [oW, memoOv, this, noOv]
theorem oW_has : HasW oW := fun w hw => by
  simp [oW, memoOv, hw, sameL5, sameVal.sameVals]
theorem HasW.skip {f : Nat} {F : PureF} {rest : Ov} (hf : 10 ≠ f) (h : HasW rest) : HasW (ovP f F rest) := fun w hw => by simp [ovP, hf, h w hw]
theorem ovP_none {f g : Nat} {F : PureF} {rest : Ov} (hne : g ≠ f) (h : ∀ args w, rest g args w = none) (args : List Value) (w : AW) : ovP f F rest g args w = none := by simp [ovP, hne, h]
theorem bif_some {α : Type} {b : Bool} {x y : α} (h : (bif b then some x else none) = some y) : b = true ∧ y = x := by
  cases b with
  | true => cases h; exact ⟨rfl, rfl⟩
  | false => cases h
theorem F75_some {args : List Value} {w : AW} {v : Value} (h : F75 args w = some v) : ∃ n b, args = [.int .i64 n, .int .i64 b] ∧ v = .bool (inI 0 n b) := by
  unfold F75 at h
  split at h
  · cases h; exact ⟨_, _, rfl, rfl⟩
  · cases h
theorem F89_some {args : List Value} {w : AW} {v : Value} (h : F89 args w = some v) : ∃ a b m, args = [.agg ⟨[.int .i64 a, .int .i64 b]⟩, .int .i64 m] ∧ v = .bool (spanB a b m) := by
  unfold F89 at h
  split at h
  · cases h; exact ⟨_, _, _, rfl, rfl⟩
  · cases h
theorem F74_some {args : List Value} {w : AW} {v : Value} (h : F74 args w = some v) : ∃ a b c d e, args = [.agg ⟨[.int .i64 a, .int .i64 b, .int .i64 c, .int .i64 d, .int .i64 e]⟩] ∧ v = .bool (inI 0 a 100 && (inI 0 b 50 && (inI 0 c 100 && spanB d e 100))) := by
  unfold F74 at h
  split at h
  · cases h; exact ⟨_, _, _, _, _, rfl, rfl⟩
  · cases h
theorem F72_some {args : List Value} {w : AW} {v : Value} (h : F72 args w = some v) : ∃ u l, args = [u] ∧ RowsV dayC w u l ∧ v = .bool (daysB l) := by
  unfold F72 at h
  split at h
  · obtain ⟨l, h1, h2⟩ := Option.map_eq_some_iff.1 h
    exact ⟨_, l, rfl, rowsIn_some h1, h2.symm⟩
  · cases h
theorem F73_some {args : List Value} {w : AW} {v : Value} (h : F73 args w = some v) : ∃ u n l, args = [u, .int .i64 n] ∧ RowsV intC w u l ∧ 0 ≤ n ∧ n ≤ 40 ∧ v = .bool (cutsB l n) := by
  unfold F73 at h
  split at h
  · obtain ⟨l, h1, h2⟩ := Option.bind_eq_some_iff.1 h
    obtain ⟨h3, rfl⟩ := bif_some h2
    simp only [inI, Bool.and_eq_true, decide_eq_true_eq] at h3
    exact ⟨_, _, l, rfl, rowsIn_some h1, h3.1, h3.2, rfl⟩
  · cases h
theorem F43_some {args : List Value} {w : AW} {v : Value} (h : F43 args w = some v) : ∃ s l c dv cv, args = [.agg ⟨seaC s dv cv⟩] ∧ RowsV dayC w dv l ∧ RowsV intC w cv c ∧ v = .int .i64 (seaE s l c) := by
  unfold F43 at h
  split at h
  · rename_i a b c d e f g _
    obtain ⟨l, h1, h2⟩ := Option.bind_eq_some_iff.1 h
    obtain ⟨k, h3, h4⟩ := Option.bind_eq_some_iff.1 h2
    cases h4
    exact ⟨⟨_, _, _, _, _, _, _⟩, l, k, _, _, rfl, rowsIn_some h1, rowsIn_some h3, rfl⟩
  · cases h
theorem F15_some {args : List Value} {w : AW} {v : Value} (h : F15 args w = some v) : ∃ n a b, args = [.int .i64 n, .int .i64 a, .int .i64 b] ∧ v = .bool (inI a n b) := by
  unfold F15 at h
  split at h
  · cases h; exact ⟨_, _, _, rfl, rfl⟩
  · cases h
theorem F51_some {args : List Value} {w : AW} {v : Value} (h : F51 args w = some v) : ∃ s dv cv sv n, args = [.agg ⟨yearC s dv cv sv⟩, .int .i64 n] ∧ v = .int .i64 (min n s.cut) := by
  unfold F51 at h
  split at h
  · cases h; exact ⟨⟨_, _, _, _, _, _, _⟩, _, _, _, _, rfl, rfl⟩
  · cases h
theorem F52_some {args : List Value} {w : AW} {v : Value} (h : F52 args w = some v) : ∃ s dv cv sv n, args = [.agg ⟨yearC s dv cv sv⟩, .int .i64 n] ∧ (0 ≤ n ∧ n ≤ 100) ∧ (0 ≤ s.grows ∧ s.grows ≤ 50) ∧ v = .int .i64 (min (n + s.grows) 100) := by
  unfold F52 at h
  split at h
  · obtain ⟨h3, rfl⟩ := bif_some h
    simp only [inI, Bool.and_eq_true, decide_eq_true_eq] at h3
    exact ⟨⟨_, _, _, _, _, _, _⟩, _, _, _, _, rfl, h3.1, h3.2, rfl⟩
  · cases h
theorem F76_some {args : List Value} {w : AW} {v : Value} (h : F76 args w = some v) : ∃ n a b, args = [.int .i64 n, .agg ⟨[.int .i64 a, .int .i64 b]⟩] ∧ v = .bool (inI a n b) := by
  unfold F76 at h
  split at h
  · cases h; exact ⟨_, _, _, rfl, rfl⟩
  · cases h
theorem F77_some {args : List Value} {w : AW} {v : Value} (h : F77 args w = some v) : ∃ s dv cv sv k warm rain shade L, args = [.agg ⟨yearC s dv cv sv⟩, .int .i64 ((k : Nat) : Int), .int .i64 warm, .int .i64 rain] ∧ HeatOk s warm shade ∧ RowsV intC w sv L ∧ L[k]? = some shade ∧ v = .int .i64 (heatI s warm rain shade) := by
  unfold F77 at h
  split at h
  · rename_i day _ _
    obtain ⟨L, h1, h⟩ := Option.bind_eq_some_iff.1 h
    cases hd : decide (0 ≤ day) with
    | false => rw [hd] at h; cases h
    | true =>
      rw [hd, cond_true] at h
      obtain ⟨z, h2, h⟩ := Option.bind_eq_some_iff.1 h
      obtain ⟨h3, rfl⟩ := bif_some h
      have e : ((day.toNat : Nat) : Int) = day := Int.toNat_of_nonneg (of_decide_eq_true hd)
      exact ⟨⟨_, _, _, _, _, _, _⟩, _, _, _, day.toNat, _, _, z, L, by rw [e]; rfl, heatB_ok h3, rowsIn_some h1, h2, rfl⟩
  · cases h
theorem F46_some {args : List Value} {w : AW} {v : Value} (h : F46 args w = some v) : ∃ s l W R dv cv wv rv, args = [.agg ⟨seaC s dv cv⟩, .agg ⟨[wv, rv]⟩] ∧ l.length ≤ 40 ∧ RowsV dayC w dv l ∧ RowsV intC w wv W ∧ RowsV intC w rv R ∧ v = .bool (trB l W R) := by
  unfold F46 at h
  split at h
  · obtain ⟨l, h1, h⟩ := Option.bind_eq_some_iff.1 h
    obtain ⟨W, h2, h⟩ := Option.bind_eq_some_iff.1 h
    obtain ⟨R, h3, h⟩ := Option.bind_eq_some_iff.1 h
    obtain ⟨h4, rfl⟩ := bif_some h
    exact ⟨⟨_, _, _, _, _, _, _⟩, l, W, R, _, _, _, _, rfl, of_decide_eq_true h4, rowsIn_some h1, rowsIn_some h2, rowsIn_some h3, rfl⟩
  · cases h
theorem F50_some {args : List Value} {w : AW} {v : Value} (h : F50 args w = some v) : ∃ u l, args = [u] ∧ RowsV racC w u l ∧ v = .bool (racB l) := by
  unfold F50 at h
  split at h
  · obtain ⟨l, h1, h2⟩ := Option.bind_eq_some_iff.1 h
    cases h2
    exact ⟨_, l, rfl, rowsIn_some h1, rfl⟩
  · cases h
theorem F20_some {args : List Value} {w : AW} {v : Value} (h : F20 args w = some v) : ∃ s l c r dv cv u, args = [.agg ⟨seaC s dv cv⟩, u] ∧ RowsV dayC w dv l ∧ RowsV intC w cv c ∧ RowsV racC w u r ∧ v = .int .i64 (bothE s l c r) := by
  unfold F20 at h
  split at h
  · obtain ⟨l, h1, h⟩ := Option.bind_eq_some_iff.1 h
    obtain ⟨k, h2, h⟩ := Option.bind_eq_some_iff.1 h
    obtain ⟨r, h3, h⟩ := Option.bind_eq_some_iff.1 h
    cases h
    exact ⟨⟨_, _, _, _, _, _, _⟩, l, k, r, _, _, _, rfl, rowsIn_some h1, rowsIn_some h2, rowsIn_some h3, rfl⟩
  · cases h
theorem F23_some {args : List Value} {w : AW} {v : Value} (h : F23 args w = some v) : ∃ u need L, args = [u, .int .i64 need] ∧ small L = true ∧ RowsV intC w u L ∧ v = .int .i64 (opI L need : Nat) := by
  unfold F23 at h
  split at h
  · obtain ⟨L, h1, h⟩ := Option.bind_eq_some_iff.1 h
    obtain ⟨h2, rfl⟩ := bif_some h
    exact ⟨_, _, L, rfl, h2, rowsIn_some h1, rfl⟩
  · cases h
theorem F16_some {args : List Value} {w : AW} {v : Value} (h : F16 args w = some v) : ∃ n s, args = [.int .i64 n, .int .i64 s] ∧ s ≤ 2 ^ 60 ∧ v = .int .i64 (wrapI n s) := by
  unfold F16 at h
  split at h
  · obtain ⟨h3, rfl⟩ := bif_some h
    exact ⟨_, _, rfl, of_decide_eq_true h3, rfl⟩
  · cases h
theorem F19_some {args : List Value} {w : AW} {v : Value} (h : F19 args w = some v) : ∃ a b, args = [.int .i64 a, .int .i64 b] ∧ v = .agg ⟨[.int .i64 a, .int .i64 b]⟩ := by
  unfold F19 at h
  split at h
  · cases h; exact ⟨_, _, rfl, rfl⟩
  · cases h
theorem F11_some {args : List Value} {w : AW} {v : Value} (h : F11 args w = some v) : ∃ s l c dv cv, args = [.agg ⟨seaC s dv cv⟩] ∧ RowsV dayC w dv l ∧ RowsV intC w cv c ∧ v = .bool (decide (seaE s l c = 0)) := by
  unfold F11 at h
  split at h
  · obtain ⟨l, h1, h⟩ := Option.bind_eq_some_iff.1 h
    obtain ⟨k, h2, h⟩ := Option.bind_eq_some_iff.1 h
    cases h
    exact ⟨⟨_, _, _, _, _, _, _⟩, l, k, _, _, rfl, rowsIn_some h1, rowsIn_some h2, rfl⟩
  · cases h
theorem F6_some {args : List Value} {w : AW} {v : Value} (h : F6 args w = some v) : ∃ s l c r dv cv, args = [.agg ⟨seaC s dv cv⟩, .agg ⟨racC r⟩] ∧ RowsV dayC w dv l ∧ RowsV intC w cv c ∧ v = .tuple ⟨[.agg ⟨[.int .i64 (oA s l c r), .int .i64 (oB s l c r)]⟩, .int .i64 (oE s l c r)]⟩ := by
  unfold F6 at h
  split at h
  · obtain ⟨l, h1, h⟩ := Option.bind_eq_some_iff.1 h
    obtain ⟨k, h2, h⟩ := Option.bind_eq_some_iff.1 h
    cases h
    exact ⟨⟨_, _, _, _, _, _, _⟩, l, k, ⟨_, _⟩, _, _, rfl, rowsIn_some h1, rowsIn_some h2, rfl⟩
  · cases h
noncomputable def o75 : Ov := ovP 75 F75 oW
noncomputable def o89 : Ov := ovP 89 F89 o75
noncomputable def o74 : Ov := ovP 74 F74 o89
noncomputable def o72 : Ov := ovP 72 F72 o74
noncomputable def o73 : Ov := ovP 73 F73 o72
noncomputable def o43 : Ov := ovP 43 F43 o73
noncomputable def o15 : Ov := ovP 15 F15 o43
noncomputable def o51 : Ov := ovP 51 F51 o15
noncomputable def o52 : Ov := ovP 52 F52 o51
noncomputable def o76 : Ov := ovP 76 F76 o52
noncomputable def o77 : Ov := ovP 77 F77 o76
noncomputable def o46 : Ov := ovP 46 F46 o77
noncomputable def o50 : Ov := ovP 50 F50 o46
noncomputable def o20 : Ov := ovP 20 F20 o50
noncomputable def o23 : Ov := ovP 23 F23 o20
noncomputable def o6 : Ov := ovP 6 F6 o23
noncomputable def o11 : Ov := ovP 11 F11 o6
noncomputable def o16 : Ov := ovP 16 F16 o11
noncomputable def o19 : Ov := ovP 19 F19 o16
section
variable (fact : resIs (spanV 1 2) ((run Tryz.prog noOv 1000).call 8 (flowersA 246 248 1) (startA 249 (flowersL 246 248)) .none) = true)
include fact
theorem ok75 : OvOk Tryz.prog o75 := pure_ok no_count mixed (okW' fact) (fun _ _ _ h => h) fun args w res hl hres => by
  obtain ⟨n, b, rfl, rfl⟩ := F75_some hres
  obtain ⟨_, w', h1, rfl⟩ := run75 (oW_none (by decide))   n b w
  exact ⟨rfl, 2, w', _, h1⟩
theorem ok89 : OvOk Tryz.prog o89 := pure_ok no_count mixed (ok75 fact) (fun _ _ _ h => h) fun args w res hl hres => by
  obtain ⟨a, b, m, rfl, rfl⟩ := F89_some hres
  obtain ⟨_, w', h1, rfl⟩ := run89 (ovP_none (f := 75) (by decide) (oW_none (by decide)))   a b m w
  exact ⟨rfl, 2, w', _, h1⟩
theorem ok74 : OvOk Tryz.prog o74 := pure_ok no_count mixed (ok89 fact) (fun _ _ _ h => h) fun args w res hl hres => by
  obtain ⟨a, b, c, d, e, rfl, rfl⟩ := F74_some hres
  obtain ⟨_, w', h1, rfl⟩ := run74 (ovP_none (f := 89) (by decide) (ovP_none (f := 75) (by decide) (oW_none (by decide))))  (HasP.skip (g := 89) (by decide) .here) .here a b c d e w
  exact ⟨rfl, 2, w', _, h1⟩
theorem ok72 : OvOk Tryz.prog o72 := pure_ok no_count mixed (ok74 fact) (fun _ _ _ h => h) fun args w res hl hres => by
  obtain ⟨u, l, rfl, hv, rfl⟩ := F72_some hres
  obtain ⟨_, w', h1, rfl⟩ := run72 (ovP_none (f := 74) (by decide) (ovP_none (f := 89) (by decide) (ovP_none (f := 75) (by decide) (oW_none (by decide)))))  (HasP.skip (g := 74) (by decide) .here) l u w hl hv
  exact ⟨rfl, 2, w', _, h1⟩
theorem ok73 : OvOk Tryz.prog o73 := pure_ok no_count mixed (ok72 fact) (fun _ _ _ h => h) fun args w res hl hres => by
  obtain ⟨u, n, l, rfl, hv, h0, h40, rfl⟩ := F73_some hres
  obtain ⟨_, w', h1, rfl⟩ := run73 (ovP_none (f := 72) (by decide) (ovP_none (f := 74) (by decide) (ovP_none (f := 89) (by decide) (ovP_none (f := 75) (by decide) (oW_none (by decide))))))   l n h0 h40 u w hv
  exact ⟨rfl, 2, w', _, h1⟩
theorem ok43 : OvOk Tryz.prog o43 := pure_ok no_count mixed (ok73 fact) (fun _ _ _ h => h) fun args w res hl hres => by
  obtain ⟨s, l, c, dv, cv, rfl, hv, hc, rfl⟩ := F43_some hres
  obtain ⟨_, w', h1, rfl⟩ := run43 (ovP_none (f := 73) (by decide) (ovP_none (f := 72) (by decide) (ovP_none (f := 74) (by decide) (ovP_none (f := 89) (by decide) (ovP_none (f := 75) (by decide) (oW_none (by decide)))))))  (HasP.skip (g := 73) (by decide) .here) .here (HasP.skip (g := 73) (by decide) (HasP.skip (g := 72) (by decide) .here)) (HasP.skip (g := 73) (by decide) (HasP.skip (g := 72) (by decide) (HasP.skip (g := 74) (by decide) (HasP.skip (g := 89) (by decide) .here)))) s l c dv cv w hl hv hc
  exact ⟨rfl, 2, w', _, h1⟩
theorem ok15 : OvOk Tryz.prog o15 := pure_ok no_count mixed (ok43 fact) (fun _ _ _ h => h) fun args w res hl hres => by
  obtain ⟨n, a, b, rfl, rfl⟩ := F15_some hres
  obtain ⟨_, w', h1, rfl⟩ := run15 (ovP_none (f := 43) (by decide) (ovP_none (f := 73) (by decide) (ovP_none (f := 72) (by decide) (ovP_none (f := 74) (by decide) (ovP_none (f := 89) (by decide) (ovP_none (f := 75) (by decide) (oW_none (by decide))))))))   n a b w
  exact ⟨rfl, 2, w', _, h1⟩
theorem ok51 : OvOk Tryz.prog o51 := pure_ok no_count mixed (ok15 fact) (fun _ _ _ h => h) fun args w res hl hres => by
  obtain ⟨s, dv, cv, sv, n, rfl, rfl⟩ := F51_some hres
  obtain ⟨_, w', h1, rfl⟩ := run51 (ovP_none (f := 15) (by decide) (ovP_none (f := 43) (by decide) (ovP_none (f := 73) (by decide) (ovP_none (f := 72) (by decide) (ovP_none (f := 74) (by decide) (ovP_none (f := 89) (by decide) (ovP_none (f := 75) (by decide) (oW_none (by decide)))))))))   s dv cv sv n w
  exact ⟨rfl, 2, w', _, h1⟩
theorem ok52 : OvOk Tryz.prog o52 := pure_ok no_count mixed (ok51 fact) (fun _ _ _ h => h) fun args w res hl hres => by
  obtain ⟨s, dv, cv, sv, n, rfl, h1, h2, rfl⟩ := F52_some hres
  obtain ⟨_, w', h1, rfl⟩ := run52 (ovP_none (f := 51) (by decide) (ovP_none (f := 15) (by decide) (ovP_none (f := 43) (by decide) (ovP_none (f := 73) (by decide) (ovP_none (f := 72) (by decide) (ovP_none (f := 74) (by decide) (ovP_none (f := 89) (by decide) (ovP_none (f := 75) (by decide) (oW_none (by decide))))))))))   s dv cv sv n h1 h2 w
  exact ⟨rfl, 2, w', _, h1⟩
theorem ok76 : OvOk Tryz.prog o76 := pure_ok no_count mixed (ok52 fact) (fun _ _ _ h => h) fun args w res hl hres => by
  obtain ⟨n, a, b, rfl, rfl⟩ := F76_some hres
  obtain ⟨_, w', h1, rfl⟩ := run76 (ovP_none (f := 52) (by decide) (ovP_none (f := 51) (by decide) (ovP_none (f := 15) (by decide) (ovP_none (f := 43) (by decide) (ovP_none (f := 73) (by decide) (ovP_none (f := 72) (by decide) (ovP_none (f := 74) (by decide) (ovP_none (f := 89) (by decide) (ovP_none (f := 75) (by decide) (oW_none (by decide)))))))))))   n a b w
  exact ⟨rfl, 2, w', _, h1⟩
theorem ok77 : OvOk Tryz.prog o77 := pure_ok no_count mixed (ok76 fact) (fun _ _ _ h => h) fun args w res hl hres => by
  obtain ⟨s, dv, cv, sv, k, warm, rain, shade, L, rfl, hk, hL, hz, rfl⟩ := F77_some hres
  obtain ⟨_, w', h1, rfl⟩ := run77 (ovP_none (f := 76) (by decide) (ovP_none (f := 52) (by decide) (ovP_none (f := 51) (by decide) (ovP_none (f := 15) (by decide) (ovP_none (f := 43) (by decide) (ovP_none (f := 73) (by decide) (ovP_none (f := 72) (by decide) (ovP_none (f := 74) (by decide) (ovP_none (f := 89) (by decide) (ovP_none (f := 75) (by decide) (oW_none (by decide))))))))))))   s dv cv sv k warm rain shade hk L w hL hz
  exact ⟨rfl, 2, w', _, h1⟩
theorem ok46 : OvOk Tryz.prog o46 := pure_ok no_count mixed (ok77 fact) (fun _ _ _ h => h) fun args w res hl hres => by
  obtain ⟨s, l, W, R, dv, cv, wv, rv, rfl, h40, hv, hw, hr, rfl⟩ := F46_some hres
  obtain ⟨_, w', h1, rfl⟩ := run46 (ovP_none (f := 77) (by decide) (ovP_none (f := 76) (by decide) (ovP_none (f := 52) (by decide) (ovP_none (f := 51) (by decide) (ovP_none (f := 15) (by decide) (ovP_none (f := 43) (by decide) (ovP_none (f := 73) (by decide) (ovP_none (f := 72) (by decide) (ovP_none (f := 74) (by decide) (ovP_none (f := 89) (by decide) (ovP_none (f := 75) (by decide) (oW_none (by decide)))))))))))))  (HasP.skip (g := 77) (by decide) .here) s l h40 W R dv cv wv rv w (Nat.le_of_eq hl) hv hw hr
  exact ⟨rfl, 2, w', _, h1⟩
theorem ok50 : OvOk Tryz.prog o50 := pure_ok no_count mixed (ok46 fact) (fun _ _ _ h => h) fun args w res hl hres => by
  obtain ⟨u, l, rfl, hv, rfl⟩ := F50_some hres
  obtain ⟨_, w', h1, rfl⟩ := run50 (ovP_none (f := 46) (by decide) (ovP_none (f := 77) (by decide) (ovP_none (f := 76) (by decide) (ovP_none (f := 52) (by decide) (ovP_none (f := 51) (by decide) (ovP_none (f := 15) (by decide) (ovP_none (f := 43) (by decide) (ovP_none (f := 73) (by decide) (ovP_none (f := 72) (by decide) (ovP_none (f := 74) (by decide) (ovP_none (f := 89) (by decide) (ovP_none (f := 75) (by decide) (oW_none (by decide))))))))))))))  (HasP.skip (g := 46) (by decide) (HasP.skip (g := 77) (by decide) (HasP.skip (g := 76) (by decide) (HasP.skip (g := 52) (by decide) (HasP.skip (g := 51) (by decide) (HasP.skip (g := 15) (by decide) (HasP.skip (g := 43) (by decide) (HasP.skip (g := 73) (by decide) (HasP.skip (g := 72) (by decide) (HasP.skip (g := 74) (by decide) (HasP.skip (g := 89) (by decide) .here))))))))))) l u w hl hv
  exact ⟨rfl, 2, w', _, h1⟩
theorem ok20 : OvOk Tryz.prog o20 := pure_ok no_count mixed (ok50 fact) (fun _ _ _ h => h) fun args w res hl hres => by
  obtain ⟨s, l, c, r, dv, cv, u, rfl, hv, hc, hu, rfl⟩ := F20_some hres
  obtain ⟨_, w', h1, rfl⟩ := run20 (ovP_none (f := 50) (by decide) (ovP_none (f := 46) (by decide) (ovP_none (f := 77) (by decide) (ovP_none (f := 76) (by decide) (ovP_none (f := 52) (by decide) (ovP_none (f := 51) (by decide) (ovP_none (f := 15) (by decide) (ovP_none (f := 43) (by decide) (ovP_none (f := 73) (by decide) (ovP_none (f := 72) (by decide) (ovP_none (f := 74) (by decide) (ovP_none (f := 89) (by decide) (ovP_none (f := 75) (by decide) (oW_none (by decide)))))))))))))))  (HasP.skip (g := 50) (by decide) (HasP.skip (g := 46) (by decide) (HasP.skip (g := 77) (by decide) (HasP.skip (g := 76) (by decide) (HasP.skip (g := 52) (by decide) (HasP.skip (g := 51) (by decide) (HasP.skip (g := 15) (by decide) .here))))))) .here s l c r dv cv u w hv hc hu
  exact ⟨rfl, 2, w', _, h1⟩
theorem ok23 : OvOk Tryz.prog o23 := pure_ok no_count mixed (ok20 fact) (fun _ _ _ h => h) fun args w res hl hres => by
  obtain ⟨u, need, L, rfl, hs, hv, rfl⟩ := F23_some hres
  obtain ⟨_, w', h1, rfl⟩ := run23 (ovP_none (f := 20) (by decide) (ovP_none (f := 50) (by decide) (ovP_none (f := 46) (by decide) (ovP_none (f := 77) (by decide) (ovP_none (f := 76) (by decide) (ovP_none (f := 52) (by decide) (ovP_none (f := 51) (by decide) (ovP_none (f := 15) (by decide) (ovP_none (f := 43) (by decide) (ovP_none (f := 73) (by decide) (ovP_none (f := 72) (by decide) (ovP_none (f := 74) (by decide) (ovP_none (f := 89) (by decide) (ovP_none (f := 75) (by decide) (oW_none (by decide))))))))))))))))   L hs need u w hv
  exact ⟨rfl, 2, w', _, h1⟩
theorem ok6 : OvOk Tryz.prog o6 := pure_ok no_count mixed (ok23 fact) (fun _ _ _ h => h) fun args w res hl hres => by
  obtain ⟨s, l, c, r, dv, cv, rfl, hv, hc, rfl⟩ := F6_some hres
  obtain ⟨_, w', h1, rfl⟩ := run6 (ovP_none (f := 23) (by decide) (ovP_none (f := 20) (by decide) (ovP_none (f := 50) (by decide) (ovP_none (f := 46) (by decide) (ovP_none (f := 77) (by decide) (ovP_none (f := 76) (by decide) (ovP_none (f := 52) (by decide) (ovP_none (f := 51) (by decide) (ovP_none (f := 15) (by decide) (ovP_none (f := 43) (by decide) (ovP_none (f := 73) (by decide) (ovP_none (f := 72) (by decide) (ovP_none (f := 74) (by decide) (ovP_none (f := 89) (by decide) (ovP_none (f := 75) (by decide) (oW_none (by decide))))))))))))))))) (ovP_none (f := 23) (by decide) (ovP_none (f := 20) (by decide) (ovP_none (f := 50) (by decide) (ovP_none (f := 46) (by decide) (ovP_none (f := 77) (by decide) (ovP_none (f := 76) (by decide) (ovP_none (f := 52) (by decide) (ovP_none (f := 51) (by decide) (ovP_none (f := 15) (by decide) (ovP_none (f := 43) (by decide) (ovP_none (f := 73) (by decide) (ovP_none (f := 72) (by decide) (ovP_none (f := 74) (by decide) (ovP_none (f := 89) (by decide) (ovP_none (f := 75) (by decide) (oW_none (by decide))))))))))))))))) (ovP_none (f := 23) (by decide) (ovP_none (f := 20) (by decide) (ovP_none (f := 50) (by decide) (ovP_none (f := 46) (by decide) (ovP_none (f := 77) (by decide) (ovP_none (f := 76) (by decide) (ovP_none (f := 52) (by decide) (ovP_none (f := 51) (by decide) (ovP_none (f := 15) (by decide) (ovP_none (f := 43) (by decide) (ovP_none (f := 73) (by decide) (ovP_none (f := 72) (by decide) (ovP_none (f := 74) (by decide) (ovP_none (f := 89) (by decide) (ovP_none (f := 75) (by decide) (oW_none (by decide))))))))))))))))) (ovP_none (f := 23) (by decide) (ovP_none (f := 20) (by decide) (ovP_none (f := 50) (by decide) (ovP_none (f := 46) (by decide) (ovP_none (f := 77) (by decide) (ovP_none (f := 76) (by decide) (ovP_none (f := 52) (by decide) (ovP_none (f := 51) (by decide) (ovP_none (f := 15) (by decide) (ovP_none (f := 43) (by decide) (ovP_none (f := 73) (by decide) (ovP_none (f := 72) (by decide) (ovP_none (f := 74) (by decide) (ovP_none (f := 89) (by decide) (ovP_none (f := 75) (by decide) (oW_none (by decide))))))))))))))))) (ovP_none (f := 23) (by decide) (ovP_none (f := 20) (by decide) (ovP_none (f := 50) (by decide) (ovP_none (f := 46) (by decide) (ovP_none (f := 77) (by decide) (ovP_none (f := 76) (by decide) (ovP_none (f := 52) (by decide) (ovP_none (f := 51) (by decide) (ovP_none (f := 15) (by decide) (ovP_none (f := 43) (by decide) (ovP_none (f := 73) (by decide) (ovP_none (f := 72) (by decide) (ovP_none (f := 74) (by decide) (ovP_none (f := 89) (by decide) (ovP_none (f := 75) (by decide) (oW_none (by decide))))))))))))))))) (HasP.skip (g := 23) (by decide) .here) .here (HasP.skip (g := 23) (by decide) (HasP.skip (g := 20) (by decide) (HasP.skip (g := 50) (by decide) (HasP.skip (g := 46) (by decide) (HasP.skip (g := 77) (by decide) (HasP.skip (g := 76) (by decide) (HasP.skip (g := 52) (by decide) .here))))))) (HasP.skip (g := 23) (by decide) (HasP.skip (g := 20) (by decide) (HasP.skip (g := 50) (by decide) (HasP.skip (g := 46) (by decide) (HasP.skip (g := 77) (by decide) (HasP.skip (g := 76) (by decide) .here)))))) (HasP.skip (g := 23) (by decide) (HasP.skip (g := 20) (by decide) (HasP.skip (g := 50) (by decide) (HasP.skip (g := 46) (by decide) .here)))) s l c r dv cv w (Nat.le_of_eq hl) hv hc
  exact ⟨rfl, 4, w', _, h1⟩
theorem ok11 : OvOk Tryz.prog o11 := pure_ok no_count mixed (ok6 fact) (fun _ _ _ h => h) fun args w res hl hres => by
  obtain ⟨s, l, c, dv, cv, rfl, hv, hc, rfl⟩ := F11_some hres
  obtain ⟨_, w', h1, rfl⟩ := run11 (ovP_none (f := 6) (by decide) (ovP_none (f := 23) (by decide) (ovP_none (f := 20) (by decide) (ovP_none (f := 50) (by decide) (ovP_none (f := 46) (by decide) (ovP_none (f := 77) (by decide) (ovP_none (f := 76) (by decide) (ovP_none (f := 52) (by decide) (ovP_none (f := 51) (by decide) (ovP_none (f := 15) (by decide) (ovP_none (f := 43) (by decide) (ovP_none (f := 73) (by decide) (ovP_none (f := 72) (by decide) (ovP_none (f := 74) (by decide) (ovP_none (f := 89) (by decide) (ovP_none (f := 75) (by decide) (oW_none (by decide))))))))))))))))))  (HasP.skip (g := 6) (by decide) (HasP.skip (g := 23) (by decide) (HasP.skip (g := 20) (by decide) (HasP.skip (g := 50) (by decide) (HasP.skip (g := 46) (by decide) (HasP.skip (g := 77) (by decide) (HasP.skip (g := 76) (by decide) (HasP.skip (g := 52) (by decide) (HasP.skip (g := 51) (by decide) (HasP.skip (g := 15) (by decide) .here)))))))))) (HasP.skip (g := 6) (by decide) (HasP.skip (g := 23) (by decide) (HasP.skip (g := 20) (by decide) (HasP.skip (g := 50) (by decide) (HasP.skip (g := 46) (by decide) (HasP.skip (g := 77) (by decide) (HasP.skip (g := 76) (by decide) (HasP.skip (g := 52) (by decide) (HasP.skip (g := 51) (by decide) .here))))))))) s l c dv cv w hv hc
  exact ⟨rfl, 2, w', _, h1⟩
theorem ok16 : OvOk Tryz.prog o16 := pure_ok no_count mixed (ok11 fact) (fun _ _ _ h => h) fun args w res hl hres => by
  obtain ⟨n, s, rfl, hs, rfl⟩ := F16_some hres
  obtain ⟨_, w', h1, rfl⟩ := run16 (ovP_none (f := 11) (by decide) (ovP_none (f := 6) (by decide) (ovP_none (f := 23) (by decide) (ovP_none (f := 20) (by decide) (ovP_none (f := 50) (by decide) (ovP_none (f := 46) (by decide) (ovP_none (f := 77) (by decide) (ovP_none (f := 76) (by decide) (ovP_none (f := 52) (by decide) (ovP_none (f := 51) (by decide) (ovP_none (f := 15) (by decide) (ovP_none (f := 43) (by decide) (ovP_none (f := 73) (by decide) (ovP_none (f := 72) (by decide) (ovP_none (f := 74) (by decide) (ovP_none (f := 89) (by decide) (ovP_none (f := 75) (by decide) (oW_none (by decide)))))))))))))))))))   n s hs w
  exact ⟨rfl, 2, w', _, h1⟩
theorem ok19 : OvOk Tryz.prog o19 := pure_ok no_count mixed (ok16 fact) (fun _ _ _ h => h) fun args w res hl hres => by
  obtain ⟨a, b, rfl, rfl⟩ := F19_some hres
  obtain ⟨_, w', h1, rfl⟩ := run19 (ovP_none (f := 16) (by decide) (ovP_none (f := 11) (by decide) (ovP_none (f := 6) (by decide) (ovP_none (f := 23) (by decide) (ovP_none (f := 20) (by decide) (ovP_none (f := 50) (by decide) (ovP_none (f := 46) (by decide) (ovP_none (f := 77) (by decide) (ovP_none (f := 76) (by decide) (ovP_none (f := 52) (by decide) (ovP_none (f := 51) (by decide) (ovP_none (f := 15) (by decide) (ovP_none (f := 43) (by decide) (ovP_none (f := 73) (by decide) (ovP_none (f := 72) (by decide) (ovP_none (f := 74) (by decide) (ovP_none (f := 89) (by decide) (ovP_none (f := 75) (by decide) (oW_none (by decide))))))))))))))))))))   a b w hl
  exact ⟨rfl, 2, w', _, h1⟩
end
theorem top_none8 : None8 o19 := ⟨(ovP_none (f := 19) (by decide) (ovP_none (f := 16) (by decide) (ovP_none (f := 11) (by decide) (ovP_none (f := 6) (by decide) (ovP_none (f := 23) (by decide) (ovP_none (f := 20) (by decide) (ovP_none (f := 50) (by decide) (ovP_none (f := 46) (by decide) (ovP_none (f := 77) (by decide) (ovP_none (f := 76) (by decide) (ovP_none (f := 52) (by decide) (ovP_none (f := 51) (by decide) (ovP_none (f := 15) (by decide) (ovP_none (f := 43) (by decide) (ovP_none (f := 73) (by decide) (ovP_none (f := 72) (by decide) (ovP_none (f := 74) (by decide) (ovP_none (f := 89) (by decide) (ovP_none (f := 75) (by decide) (oW_none (by decide))))))))))))))))))))), (ovP_none (f := 19) (by decide) (ovP_none (f := 16) (by decide) (ovP_none (f := 11) (by decide) (ovP_none (f := 6) (by decide) (ovP_none (f := 23) (by decide) (ovP_none (f := 20) (by decide) (ovP_none (f := 50) (by decide) (ovP_none (f := 46) (by decide) (ovP_none (f := 77) (by decide) (ovP_none (f := 76) (by decide) (ovP_none (f := 52) (by decide) (ovP_none (f := 51) (by decide) (ovP_none (f := 15) (by decide) (ovP_none (f := 43) (by decide) (ovP_none (f := 73) (by decide) (ovP_none (f := 72) (by decide) (ovP_none (f := 74) (by decide) (ovP_none (f := 89) (by decide) (ovP_none (f := 75) (by decide) (oW_none (by decide))))))))))))))))))))), (ovP_none (f := 19) (by decide) (ovP_none (f := 16) (by decide) (ovP_none (f := 11) (by decide) (ovP_none (f := 6) (by decide) (ovP_none (f := 23) (by decide) (ovP_none (f := 20) (by decide) (ovP_none (f := 50) (by decide) (ovP_none (f := 46) (by decide) (ovP_none (f := 77) (by decide) (ovP_none (f := 76) (by decide) (ovP_none (f := 52) (by decide) (ovP_none (f := 51) (by decide) (ovP_none (f := 15) (by decide) (ovP_none (f := 43) (by decide) (ovP_none (f := 73) (by decide) (ovP_none (f := 72) (by decide) (ovP_none (f := 74) (by decide) (ovP_none (f := 89) (by decide) (ovP_none (f := 75) (by decide) (oW_none (by decide))))))))))))))))))))), (ovP_none (f := 19) (by decide) (ovP_none (f := 16) (by decide) (ovP_none (f := 11) (by decide) (ovP_none (f := 6) (by decide) (ovP_none (f := 23) (by decide) (ovP_none (f := 20) (by decide) (ovP_none (f := 50) (by decide) (ovP_none (f := 46) (by decide) (ovP_none (f := 77) (by decide) (ovP_none (f := 76) (by decide) (ovP_none (f := 52) (by decide) (ovP_none (f := 51) (by decide) (ovP_none (f := 15) (by decide) (ovP_none (f := 43) (by decide) (ovP_none (f := 73) (by decide) (ovP_none (f := 72) (by decide) (ovP_none (f := 74) (by decide) (ovP_none (f := 89) (by decide) (ovP_none (f := 75) (by decide) (oW_none (by decide))))))))))))))))))))), (ovP_none (f := 19) (by decide) (ovP_none (f := 16) (by decide) (ovP_none (f := 11) (by decide) (ovP_none (f := 6) (by decide) (ovP_none (f := 23) (by decide) (ovP_none (f := 20) (by decide) (ovP_none (f := 50) (by decide) (ovP_none (f := 46) (by decide) (ovP_none (f := 77) (by decide) (ovP_none (f := 76) (by decide) (ovP_none (f := 52) (by decide) (ovP_none (f := 51) (by decide) (ovP_none (f := 15) (by decide) (ovP_none (f := 43) (by decide) (ovP_none (f := 73) (by decide) (ovP_none (f := 72) (by decide) (ovP_none (f := 74) (by decide) (ovP_none (f := 89) (by decide) (ovP_none (f := 75) (by decide) (oW_none (by decide))))))))))))))))))))), (ovP_none (f := 19) (by decide) (ovP_none (f := 16) (by decide) (ovP_none (f := 11) (by decide) (ovP_none (f := 6) (by decide) (ovP_none (f := 23) (by decide) (ovP_none (f := 20) (by decide) (ovP_none (f := 50) (by decide) (ovP_none (f := 46) (by decide) (ovP_none (f := 77) (by decide) (ovP_none (f := 76) (by decide) (ovP_none (f := 52) (by decide) (ovP_none (f := 51) (by decide) (ovP_none (f := 15) (by decide) (ovP_none (f := 43) (by decide) (ovP_none (f := 73) (by decide) (ovP_none (f := 72) (by decide) (ovP_none (f := 74) (by decide) (ovP_none (f := 89) (by decide) (ovP_none (f := 75) (by decide) (oW_none (by decide))))))))))))))))))))), (ovP_none (f := 19) (by decide) (ovP_none (f := 16) (by decide) (ovP_none (f := 11) (by decide) (ovP_none (f := 6) (by decide) (ovP_none (f := 23) (by decide) (ovP_none (f := 20) (by decide) (ovP_none (f := 50) (by decide) (ovP_none (f := 46) (by decide) (ovP_none (f := 77) (by decide) (ovP_none (f := 76) (by decide) (ovP_none (f := 52) (by decide) (ovP_none (f := 51) (by decide) (ovP_none (f := 15) (by decide) (ovP_none (f := 43) (by decide) (ovP_none (f := 73) (by decide) (ovP_none (f := 72) (by decide) (ovP_none (f := 74) (by decide) (ovP_none (f := 89) (by decide) (ovP_none (f := 75) (by decide) (oW_none (by decide))))))))))))))))))))), (ovP_none (f := 19) (by decide) (ovP_none (f := 16) (by decide) (ovP_none (f := 11) (by decide) (ovP_none (f := 6) (by decide) (ovP_none (f := 23) (by decide) (ovP_none (f := 20) (by decide) (ovP_none (f := 50) (by decide) (ovP_none (f := 46) (by decide) (ovP_none (f := 77) (by decide) (ovP_none (f := 76) (by decide) (ovP_none (f := 52) (by decide) (ovP_none (f := 51) (by decide) (ovP_none (f := 15) (by decide) (ovP_none (f := 43) (by decide) (ovP_none (f := 73) (by decide) (ovP_none (f := 72) (by decide) (ovP_none (f := 74) (by decide) (ovP_none (f := 89) (by decide) (ovP_none (f := 75) (by decide) (oW_none (by decide))))))))))))))))))))), (ovP_none (f := 19) (by decide) (ovP_none (f := 16) (by decide) (ovP_none (f := 11) (by decide) (ovP_none (f := 6) (by decide) (ovP_none (f := 23) (by decide) (ovP_none (f := 20) (by decide) (ovP_none (f := 50) (by decide) (ovP_none (f := 46) (by decide) (ovP_none (f := 77) (by decide) (ovP_none (f := 76) (by decide) (ovP_none (f := 52) (by decide) (ovP_none (f := 51) (by decide) (ovP_none (f := 15) (by decide) (ovP_none (f := 43) (by decide) (ovP_none (f := 73) (by decide) (ovP_none (f := 72) (by decide) (ovP_none (f := 74) (by decide) (ovP_none (f := 89) (by decide) (ovP_none (f := 75) (by decide) (oW_none (by decide))))))))))))))))))))), (ovP_none (f := 19) (by decide) (ovP_none (f := 16) (by decide) (ovP_none (f := 11) (by decide) (ovP_none (f := 6) (by decide) (ovP_none (f := 23) (by decide) (ovP_none (f := 20) (by decide) (ovP_none (f := 50) (by decide) (ovP_none (f := 46) (by decide) (ovP_none (f := 77) (by decide) (ovP_none (f := 76) (by decide) (ovP_none (f := 52) (by decide) (ovP_none (f := 51) (by decide) (ovP_none (f := 15) (by decide) (ovP_none (f := 43) (by decide) (ovP_none (f := 73) (by decide) (ovP_none (f := 72) (by decide) (ovP_none (f := 74) (by decide) (ovP_none (f := 89) (by decide) (ovP_none (f := 75) (by decide) (oW_none (by decide))))))))))))))))))))), (HasP.skip (g := 19) (by decide) (HasP.skip (g := 16) (by decide) (HasP.skip (g := 11) (by decide) (HasP.skip (g := 6) (by decide) (HasP.skip (g := 23) (by decide) .here))))), (HasP.skip (g := 19) (by decide) (HasP.skip (g := 16) (by decide) (HasP.skip (g := 11) (by decide) (HasP.skip (g := 6) (by decide) (HasP.skip (g := 23) (by decide) (HasP.skip (g := 20) (by decide) (HasP.skip (g := 50) (by decide) (HasP.skip (g := 46) (by decide) (HasP.skip (g := 77) (by decide) (HasP.skip (g := 76) (by decide) (HasP.skip (g := 52) (by decide) .here))))))))))), (HasP.skip (g := 19) (by decide) (HasP.skip (g := 16) (by decide) (HasP.skip (g := 11) (by decide) (HasP.skip (g := 6) (by decide) (HasP.skip (g := 23) (by decide) (HasP.skip (g := 20) (by decide) (HasP.skip (g := 50) (by decide) (HasP.skip (g := 46) (by decide) (HasP.skip (g := 77) (by decide) (HasP.skip (g := 76) (by decide) .here)))))))))), (HasP.skip (g := 19) (by decide) (HasP.skip (g := 16) (by decide) (HasP.skip (g := 11) (by decide) (HasP.skip (g := 6) (by decide) (HasP.skip (g := 23) (by decide) (HasP.skip (g := 20) (by decide) (HasP.skip (g := 50) (by decide) (HasP.skip (g := 46) (by decide) .here)))))))), (HasP.skip (g := 19) (by decide) (HasP.skip (g := 16) (by decide) (HasP.skip (g := 11) (by decide) (HasP.skip (g := 6) (by decide) (HasP.skip (g := 23) (by decide) (HasP.skip (g := 20) (by decide) (HasP.skip (g := 50) (by decide) (HasP.skip (g := 46) (by decide) (HasP.skip (g := 77) (by decide) (HasP.skip (g := 76) (by decide) (HasP.skip (g := 52) (by decide) (HasP.skip (g := 51) (by decide) .here)))))))))))), (HasP.skip (g := 19) (by decide) (HasP.skip (g := 16) (by decide) (HasP.skip (g := 11) (by decide) .here)))⟩
theorem top_none5 : None5 o19 := ⟨top_none8, (ovP_none (f := 19) (by decide) (ovP_none (f := 16) (by decide) (ovP_none (f := 11) (by decide) (ovP_none (f := 6) (by decide) (ovP_none (f := 23) (by decide) (ovP_none (f := 20) (by decide) (ovP_none (f := 50) (by decide) (ovP_none (f := 46) (by decide) (ovP_none (f := 77) (by decide) (ovP_none (f := 76) (by decide) (ovP_none (f := 52) (by decide) (ovP_none (f := 51) (by decide) (ovP_none (f := 15) (by decide) (ovP_none (f := 43) (by decide) (ovP_none (f := 73) (by decide) (ovP_none (f := 72) (by decide) (ovP_none (f := 74) (by decide) (ovP_none (f := 89) (by decide) (ovP_none (f := 75) (by decide) (oW_none (by decide))))))))))))))))))))), (ovP_none (f := 19) (by decide) (ovP_none (f := 16) (by decide) (ovP_none (f := 11) (by decide) (ovP_none (f := 6) (by decide) (ovP_none (f := 23) (by decide) (ovP_none (f := 20) (by decide) (ovP_none (f := 50) (by decide) (ovP_none (f := 46) (by decide) (ovP_none (f := 77) (by decide) (ovP_none (f := 76) (by decide) (ovP_none (f := 52) (by decide) (ovP_none (f := 51) (by decide) (ovP_none (f := 15) (by decide) (ovP_none (f := 43) (by decide) (ovP_none (f := 73) (by decide) (ovP_none (f := 72) (by decide) (ovP_none (f := 74) (by decide) (ovP_none (f := 89) (by decide) (ovP_none (f := 75) (by decide) (oW_none (by decide))))))))))))))))))))), (ovP_none (f := 19) (by decide) (ovP_none (f := 16) (by decide) (ovP_none (f := 11) (by decide) (ovP_none (f := 6) (by decide) (ovP_none (f := 23) (by decide) (ovP_none (f := 20) (by decide) (ovP_none (f := 50) (by decide) (ovP_none (f := 46) (by decide) (ovP_none (f := 77) (by decide) (ovP_none (f := 76) (by decide) (ovP_none (f := 52) (by decide) (ovP_none (f := 51) (by decide) (ovP_none (f := 15) (by decide) (ovP_none (f := 43) (by decide) (ovP_none (f := 73) (by decide) (ovP_none (f := 72) (by decide) (ovP_none (f := 74) (by decide) (ovP_none (f := 89) (by decide) (ovP_none (f := 75) (by decide) (oW_none (by decide))))))))))))))))))))), (ovP_none (f := 19) (by decide) (ovP_none (f := 16) (by decide) (ovP_none (f := 11) (by decide) (ovP_none (f := 6) (by decide) (ovP_none (f := 23) (by decide) (ovP_none (f := 20) (by decide) (ovP_none (f := 50) (by decide) (ovP_none (f := 46) (by decide) (ovP_none (f := 77) (by decide) (ovP_none (f := 76) (by decide) (ovP_none (f := 52) (by decide) (ovP_none (f := 51) (by decide) (ovP_none (f := 15) (by decide) (ovP_none (f := 43) (by decide) (ovP_none (f := 73) (by decide) (ovP_none (f := 72) (by decide) (ovP_none (f := 74) (by decide) (ovP_none (f := 89) (by decide) (ovP_none (f := 75) (by decide) (oW_none (by decide))))))))))))))))))))), (ovP_none (f := 19) (by decide) (ovP_none (f := 16) (by decide) (ovP_none (f := 11) (by decide) (ovP_none (f := 6) (by decide) (ovP_none (f := 23) (by decide) (ovP_none (f := 20) (by decide) (ovP_none (f := 50) (by decide) (ovP_none (f := 46) (by decide) (ovP_none (f := 77) (by decide) (ovP_none (f := 76) (by decide) (ovP_none (f := 52) (by decide) (ovP_none (f := 51) (by decide) (ovP_none (f := 15) (by decide) (ovP_none (f := 43) (by decide) (ovP_none (f := 73) (by decide) (ovP_none (f := 72) (by decide) (ovP_none (f := 74) (by decide) (ovP_none (f := 89) (by decide) (ovP_none (f := 75) (by decide) (oW_none (by decide))))))))))))))))))))), (ovP_none (f := 19) (by decide) (ovP_none (f := 16) (by decide) (ovP_none (f := 11) (by decide) (ovP_none (f := 6) (by decide) (ovP_none (f := 23) (by decide) (ovP_none (f := 20) (by decide) (ovP_none (f := 50) (by decide) (ovP_none (f := 46) (by decide) (ovP_none (f := 77) (by decide) (ovP_none (f := 76) (by decide) (ovP_none (f := 52) (by decide) (ovP_none (f := 51) (by decide) (ovP_none (f := 15) (by decide) (ovP_none (f := 43) (by decide) (ovP_none (f := 73) (by decide) (ovP_none (f := 72) (by decide) (ovP_none (f := 74) (by decide) (ovP_none (f := 89) (by decide) (ovP_none (f := 75) (by decide) (oW_none (by decide))))))))))))))))))))), (ovP_none (f := 19) (by decide) (ovP_none (f := 16) (by decide) (ovP_none (f := 11) (by decide) (ovP_none (f := 6) (by decide) (ovP_none (f := 23) (by decide) (ovP_none (f := 20) (by decide) (ovP_none (f := 50) (by decide) (ovP_none (f := 46) (by decide) (ovP_none (f := 77) (by decide) (ovP_none (f := 76) (by decide) (ovP_none (f := 52) (by decide) (ovP_none (f := 51) (by decide) (ovP_none (f := 15) (by decide) (ovP_none (f := 43) (by decide) (ovP_none (f := 73) (by decide) (ovP_none (f := 72) (by decide) (ovP_none (f := 74) (by decide) (ovP_none (f := 89) (by decide) (ovP_none (f := 75) (by decide) (oW_none (by decide))))))))))))))))))))), (ovP_none (f := 19) (by decide) (ovP_none (f := 16) (by decide) (ovP_none (f := 11) (by decide) (ovP_none (f := 6) (by decide) (ovP_none (f := 23) (by decide) (ovP_none (f := 20) (by decide) (ovP_none (f := 50) (by decide) (ovP_none (f := 46) (by decide) (ovP_none (f := 77) (by decide) (ovP_none (f := 76) (by decide) (ovP_none (f := 52) (by decide) (ovP_none (f := 51) (by decide) (ovP_none (f := 15) (by decide) (ovP_none (f := 43) (by decide) (ovP_none (f := 73) (by decide) (ovP_none (f := 72) (by decide) (ovP_none (f := 74) (by decide) (ovP_none (f := 89) (by decide) (ovP_none (f := 75) (by decide) (oW_none (by decide))))))))))))))))))))), (HasP.skip (g := 19) (by decide) (HasP.skip (g := 16) (by decide) .here)), (HasP.skip (g := 19) (by decide) .here), .here, (HasP.skip (g := 19) (by decide) (HasP.skip (g := 16) (by decide) (HasP.skip (g := 11) (by decide) (HasP.skip (g := 6) (by decide) .here)))), (HasP.skip (g := 19) (by decide) (HasP.skip (g := 16) (by decide) (HasP.skip (g := 11) (by decide) (HasP.skip (g := 6) (by decide) (HasP.skip (g := 23) (by decide) (HasP.skip (g := 20) (by decide) (HasP.skip (g := 50) (by decide) (HasP.skip (g := 46) (by decide) (HasP.skip (g := 77) (by decide) (HasP.skip (g := 76) (by decide) (HasP.skip (g := 52) (by decide) (HasP.skip (g := 51) (by decide) (HasP.skip (g := 15) (by decide) .here))))))))))))), (HasP.skip (g := 19) (by decide) (HasP.skip (g := 16) (by decide) (HasP.skip (g := 11) (by decide) (HasP.skip (g := 6) (by decide) (HasP.skip (g := 23) (by decide) (HasP.skip (g := 20) (by decide) (HasP.skip (g := 50) (by decide) .here)))))))⟩
theorem top_true (s : Sea) (l : List Day) (c : List Int) (rs : List Rac) (D : Int) (dv cv rv : Value) (w : AW) (hl : w.lim ≤ w.next) (h7n : 7 ≤ w.next) (hlaid : hasAll w laidL = true) (hv : RowsV dayC w dv l) (hu : RowsV intC w cv c) (hrv : RowsV racC w rv rs) : ∃ w' x', (run Tryz.prog o19 100).call 5 [.agg ⟨seaC s dv cv⟩, rv, .int .i64 D] w .none = .ok (.ret (.bool true)) w' x' := by
  obtain ⟨_, w', h1, rfl⟩ := run5 (ov := o19) top_none5 (HasW.skip (f := 19) (by decide) (HasW.skip (f := 16) (by decide) (HasW.skip (f := 11) (by decide) (HasW.skip (f := 6) (by decide) (HasW.skip (f := 23) (by decide) (HasW.skip (f := 20) (by decide) (HasW.skip (f := 50) (by decide) (HasW.skip (f := 46) (by decide) (HasW.skip (f := 77) (by decide) (HasW.skip (f := 76) (by decide) (HasW.skip (f := 52) (by decide) (HasW.skip (f := 51) (by decide) (HasW.skip (f := 15) (by decide) (HasW.skip (f := 43) (by decide) (HasW.skip (f := 73) (by decide) (HasW.skip (f := 72) (by decide) (HasW.skip (f := 74) (by decide) (HasW.skip (f := 89) (by decide) (HasW.skip (f := 75) (by decide) oW_has))))))))))))))))))) s l c rs D dv cv rv w hl h7n hlaid hv hu hrv
  exact ⟨w', _, h1⟩
end Go.Proofs.YtbbbgaiaigdngaaGreatDoor.walk

namespace Go.Proofs.YtbbbgaiaigdngaaGreatDoor.walk
open Go Go.Sh Go.ChangeShapes
set_option maxRecDepth 100000
theorem ty3 : tyOk Tryz.prog 6 3 = true := by kernel_rfl
theorem ty29 : tyOk Tryz.prog 6 29 = true := by kernel_rfl
theorem u3 : Tryz.prog.underlying 3 = some (.int .i64) := by kernel_rfl
theorem u22 : Tryz.prog.underlying 22 = some (.slice 49) := by kernel_rfl
theorem u24 : Tryz.prog.underlying 24 = some (.struct (fieldsOf Tryz.prog 24)) := by kernel_rfl
theorem f24 : (fieldsOf Tryz.prog 24).toList.map (fun f => (f.type, f.offset)) = [(3, 0), (3, 1)] := by kernel_rfl
theorem u26 : Tryz.prog.underlying 26 = some (.struct (fieldsOf Tryz.prog 26)) := by kernel_rfl
theorem f26 : (fieldsOf Tryz.prog 26).toList.map (fun f => (f.type, f.offset)) = [(3, 0), (3, 1), (3, 2), (24, 3)] := by kernel_rfl
theorem u27 : Tryz.prog.underlying 27 = some (.slice 3) := by kernel_rfl
theorem u29 : Tryz.prog.underlying 29 = some (.struct (fieldsOf Tryz.prog 29)) := by kernel_rfl
theorem f29 : (fieldsOf Tryz.prog 29).toList.map (fun f => (f.type, f.offset)) = [(22, 0), (3, 1), (3, 2), (26, 3), (27, 8)] := by kernel_rfl
theorem u49 : Tryz.prog.underlying 49 = some (.struct (fieldsOf Tryz.prog 49)) := by kernel_rfl
theorem f49 : (fieldsOf Tryz.prog 49).toList.map (fun f => (f.type, f.offset)) = [(24, 0), (24, 2)] := by kernel_rfl
theorem ty30 : tyOk Tryz.prog 6 30 = true := by kernel_rfl
theorem u30 : Tryz.prog.underlying 30 = some (.slice 32) := by kernel_rfl
theorem u32 : Tryz.prog.underlying 32 = some (.struct (fieldsOf Tryz.prog 32)) := by kernel_rfl
theorem f32 : (fieldsOf Tryz.prog 32).toList.map (fun f => (f.type, f.offset)) = [(3, 0), (3, 1)] := by kernel_rfl
theorem c32 : Tryz.prog.cellsOf 32 = 2 := by kernel_rfl
theorem c3 : Tryz.prog.cellsOf 3 = 1 := by kernel_rfl
theorem c22 : Tryz.prog.cellsOf 22 = 1 := by kernel_rfl
theorem c24 : Tryz.prog.cellsOf 24 = 2 := by kernel_rfl
theorem c26 : Tryz.prog.cellsOf 26 = 5 := by kernel_rfl
theorem c27 : Tryz.prog.cellsOf 27 = 1 := by kernel_rfl
theorem c29 : Tryz.prog.cellsOf 29 = 9 := by kernel_rfl
theorem c49 : Tryz.prog.cellsOf 49 = 4 := by kernel_rfl
theorem span_of {H : T AObj} {n : Nat} {cs : List Value} (h : WT Tryz.prog H n 24 cs) : ∃ a b, cs = [.int .i64 a, .int .i64 b] := by
  obtain ⟨hl, hf⟩ := h.toStruct u24
  rw [f24] at hf
  rw [c24] at hl
  obtain ⟨a, ha, _⟩ := (hf (3, 0) (by simp)).toInt u3
  obtain ⟨b, hb, _⟩ := (hf (3, 1) (by simp)).toInt u3
  rw [c3] at ha hb
  match cs, hl with
  | [x, y], _ =>
    simp at ha hb
    exact ⟨a, b, by rw [ha, hb]⟩
theorem day_wt {H : T AObj} {n : Nat} {cs : List Value} (h : WT Tryz.prog H n 49 cs) : ∃ d, cs = dayC d := by
  obtain ⟨hl, hf⟩ := h.toStruct u49
  rw [f49] at hf
  rw [c49] at hl
  obtain ⟨a, b, h1⟩ := span_of (hf (24, 0) (by simp))
  obtain ⟨c, d, h2⟩ := span_of (hf (24, 2) (by simp))
  rw [c24] at h1 h2
  match cs, hl with
  | [x0, x1, x2, x3], _ =>
    simp at h1 h2
    exact ⟨⟨a, b, c, d⟩, by rw [h1.1, h1.2, h2.1, h2.2]; rfl⟩
theorem rac_wt {H : T AObj} {n : Nat} {cs : List Value} (h : WT Tryz.prog H n 32 cs) : ∃ r, cs = racC r := by
  obtain ⟨hl, hf⟩ := h.toStruct u32
  rw [f32] at hf
  rw [c32] at hl
  obtain ⟨a, ha, _⟩ := (hf (3, 0) (by simp)).toInt u3
  obtain ⟨b, hb, _⟩ := (hf (3, 1) (by simp)).toInt u3
  rw [c3] at ha hb
  match cs, hl with
  | [x, y], _ =>
    simp at ha hb
    exact ⟨⟨a, b⟩, by rw [ha, hb]; rfl⟩
theorem racs_arg {A : AW} {m : Value} (h : ArgT Tryz.prog A.heap A.next 30 m) : ∃ l, RowsV racC A m l := by
  unfold ArgT at h
  rw [u30] at h
  obtain ⟨v, l, hv, hr⟩ := rows_of_WT (lim := A.lim) u30 c32 racC_length (fun cs h => rac_wt h) h
  cases hv
  exact ⟨l, hr⟩
theorem ints_of {H : T AObj} {n lim : Nat} {cs : List Value} (h : WT Tryz.prog H n 27 cs) : ∃ v l, cs = [v] ∧ RowsV intC ⟨H, n, lim⟩ v l :=
  rows_of_WT u27 c3 intC_length (fun cs h => by
    obtain ⟨z, hz, _⟩ := h.toInt u3
    exact ⟨z, hz⟩) h
theorem days_of {H : T AObj} {n lim : Nat} {cs : List Value} (h : WT Tryz.prog H n 22 cs) : ∃ v l, cs = [v] ∧ RowsV dayC ⟨H, n, lim⟩ v l :=
  rows_of_WT u22 c49 dayC_length (fun cs h => day_wt h) h
theorem sea_arg {A : AW} {m : Value} (h : ArgT Tryz.prog A.heap A.next 29 m) : ∃ s dv cv l c, m = .agg ⟨seaC s dv cv⟩ ∧ RowsV dayC A dv l ∧ RowsV intC A cv c := by
  unfold ArgT at h
  rw [u29] at h
  obtain ⟨cs, rfl, h⟩ := h
  obtain ⟨hl, hf⟩ := h.toStruct u29
  rw [f29] at hf
  rw [c29] at hl
  obtain ⟨dv, l, h1, k1⟩ := days_of (lim := A.lim) (hf (22, 0) (by simp))
  obtain ⟨a, ha, _⟩ := (hf (3, 1) (by simp)).toInt u3
  obtain ⟨b, hb, _⟩ := (hf (3, 2) (by simp)).toInt u3
  obtain ⟨hl2, hf2⟩ := (hf (26, 3) (by simp)).toStruct u26
  rw [f26] at hf2
  rw [c26] at hl2 hf2
  obtain ⟨x, hx, _⟩ := (hf2 (3, 0) (by simp)).toInt u3
  obtain ⟨y, hy, _⟩ := (hf2 (3, 1) (by simp)).toInt u3
  obtain ⟨z, hz, _⟩ := (hf2 (3, 2) (by simp)).toInt u3
  obtain ⟨p, q, hpq⟩ := span_of (hf2 (24, 3) (by simp))
  obtain ⟨cv, c, h2, k2⟩ := ints_of (lim := A.lim) (hf (27, 8) (by simp))
  rw [c22] at h1
  rw [c27] at h2
  rw [c3] at ha hb hx hy hz
  rw [c24] at hpq
  match cs, hl with
  | [x0, x1, x2, x3, x4, x5, x6, x7, x8], _ =>
    simp at h1 h2 ha hb hx hy hz hpq
    subst h1 h2
    exact ⟨⟨a, b, x, y, z, p, q⟩, _, _, l, c, by rw [ha, hb, hx, hy, hz, hpq.1, hpq.2]; rfl, k1, k2⟩
theorem int_arg {A : AW} {m : Value} (h : ArgT Tryz.prog A.heap A.next 3 m) : ∃ a, m = .int .i64 a := by
  unfold ArgT at h
  rw [u3] at h
  obtain ⟨a, ha, _⟩ := h.toInt u3
  cases ha
  exact ⟨a, rfl⟩
theorem b3 : Tryz.prog.bytesOf 3 = 8 := by kernel_rfl
theorem hasAll_start : hasAll (startA 7 laidL) laidL = true := by kernel_rfl
theorem laid_at {A : AW} (hs : ∀ b, b < Tryz.prog.globals.size → A.heap.get b = (startH laidL).get b) : hasAll A laidL = true := by
  rw [globals7] at hs
  rw [← hasAll_start]
  exact hasAll_congr _ fun x hx => hs x.1 (laid_lt x hx)
theorem start_true (A : AW) (ms : List Value) (hl : A.lim = A.next) (hG : Tryz.prog.globals.size ≤ A.next) (hs : ∀ b, b < Tryz.prog.globals.size → A.heap.get b = (startH laidL).get b) (hms : ArgsT Tryz.prog A.heap A.next [29, 30, 3] ms) (hz : ∀ (j : Nat) t e a k c, ([29, 30, 3] : List TypeId)[j]? = some t → Tryz.prog.underlying t = some (.slice e) → ms[j]? = some (.slice a k c) → k * Tryz.prog.bytesOf e ≤ reachBytes) :
    ∃ A' x', (run Tryz.prog o19 100).call 5 ms A .none = .ok (.ret (.bool true)) A' x' := by
  rw [globals7] at hG
  match ms, hms, hz with
  | [m, r, u], hm, hz =>
    obtain ⟨s, dv, cv, l, c, rfl, hd, hc⟩ := sea_arg hm.1
    obtain ⟨rs, hrs⟩ := racs_arg hm.2.1
    obtain ⟨D, rfl⟩ := int_arg hm.2.2.1
    exact top_true s l c rs D dv cv r A (Nat.le_of_eq hl) hG (laid_at hs) hd hc hrs
end Go.Proofs.YtbbbgaiaigdngaaGreatDoor.walk
