/- Part of a proof by a machine of ones own: see the text with the theorem. -/
import Derived.Test.YtnkhenmabmkajaaGreatDoorHY
import Derived.Test.YtnkhenmabmkajaaGreatDoorHFb
import Derived.Test.YtnkhenmabmkajaaGreatDoorShF
namespace Go.Proofs.YtnkhenmabmkajaaGreatDoor.walk
open Go Go.Sh
set_option maxRecDepth 100000
theorem mixed : Tryz.prog.follows .mixedOrders = true := by kernel_rfl
theorem globals7 : Tryz.prog.globals.size = 7 := by kernel_rfl
theorem no_count : NoCount Tryz.prog := NoCount.of (by kernel_rfl)
theorem works_ov (fact : resIs (spanV 1 2) ((run Tryz.prog noOv 1000).call 39 (flowersA 246 248 1) (startA 249 (flowersL 246 248)) .none) = true) : OvOk Tryz.prog worksOv :=
  memo_ok no_count mixed ov_none fact (by kernel_rfl) (by kernel_rfl) (by rw [globals7]; decide) (by kernel_rfl) ov_none
noncomputable def oW : Ov := memoOv 14 [] laidL (.bool true) noOv
theorem okW' (fact : resIs (spanV 1 2) ((run Tryz.prog noOv 1000).call 39 (flowersA 246 248 1) (startA 249 (flowersL 246 248)) .none) = true) : OvOk Tryz.prog oW := memo_ok no_count mixed (works_ov fact) works_true (by kernel_rfl) (by kernel_rfl) (by rw [globals7]; exact Nat.le_refl _) (by kernel_rfl) ov_none
theorem oW_none {f : Nat} (hf : f ≠ 14) (args : List Value) (w : AW) : oW f args w = none := by
  have : Nat.beq f 14 = false := by rw [← Bool.not_eq_true]; intro h; exact hf (Nat.eq_of_beq_eq_true h)
  simp [oW, memoOv, this, noOv]
theorem oW_has : HasW oW := fun w hw => by
  simp [oW, memoOv, hw, sameL5, sameVal.sameVals]
theorem HasW.skip {f : Nat} {F : PureF} {rest : Ov} (hf : 14 ≠ f) (h : HasW rest) : HasW (ovP f F rest) := fun w hw => by simp [ovP, hf, h w hw]
theorem ovP_none {f g : Nat} {F : PureF} {rest : Ov} (hne : g ≠ f) (h : ∀ args w, rest g args w = none) (args : List Value) (w : AW) : ovP f F rest g args w = none := by simp [ovP, hne, h]
theorem bif_some {α : Type} {b : Bool} {x y : α} (h : (bif b then some x else none) = some y) : b = true ∧ y = x := by
  cases b with
  | true => cases h; exact ⟨rfl, rfl⟩
  | false => cases h
theorem if_some' {α : Type} {c : Prop} {inst : Decidable c} {x y : α} (h : (@ite _ c inst (some x) none) = some y) : c ∧ y = x := by
  by_cases k : c
  · rw [if_pos k] at h; cases h; exact ⟨k, rfl⟩
  · rw [if_neg k] at h; cases h
noncomputable def F50 : PureF := fun args w => match args with | [u, .int .i64 x] => (rowsIn intC w u).bind fun L => bif decide (L.length ≤ 1000) then some (.int .i64 (findAt x L 0)) else none | _ => none
theorem rule50 {ov : Ov} (k : HasP ov 50 F50) : H50 ov := fun m L x u w hl hu => k.call (by
  simp [F50, hu.rowsIn (m := 1) intC_length intC_inj, hl])
theorem F24_some {args : List Value} {w : AW} {v : Value} (h : F24 args w = some v) : ∃ n b, args = [.int .i64 n, .int .i64 b] ∧ v = .bool (inI 0 n b) := by
  unfold F24 at h
  split at h
  · cases h; exact ⟨_, _, rfl, rfl⟩
  · cases h
theorem F51_some {args : List Value} {w : AW} {v : Value} (h : F51 args w = some v) : ∃ a b m, args = [.agg ⟨[.int .i64 a, .int .i64 b]⟩, .int .i64 m] ∧ v = .bool (spanB a b m) := by
  unfold F51 at h
  split at h
  · cases h; exact ⟨_, _, _, rfl, rfl⟩
  · cases h
theorem F23_some {args : List Value} {w : AW} {v : Value} (h : F23 args w = some v) : ∃ a b c d e, args = [.agg ⟨[.int .i64 a, .int .i64 b, .int .i64 c, .int .i64 d, .int .i64 e]⟩] ∧ v = .bool (inI 0 a 100 && (inI 0 b 50 && (inI 0 c 100 && spanB d e 100))) := by
  unfold F23 at h
  split at h
  · cases h; exact ⟨_, _, _, _, _, rfl, rfl⟩
  · cases h
theorem F21_some {args : List Value} {w : AW} {v : Value} (h : F21 args w = some v) : ∃ u l, args = [u] ∧ RowsV dayC w u l ∧ v = .bool (daysB l) := by
  unfold F21 at h
  split at h
  · obtain ⟨l, h1, h2⟩ := Option.map_eq_some_iff.1 h
    exact ⟨_, l, rfl, rowsIn_some h1, h2.symm⟩
  · cases h
theorem F22_some {args : List Value} {w : AW} {v : Value} (h : F22 args w = some v) : ∃ u n l, args = [u, .int .i64 n] ∧ RowsV intC w u l ∧ 0 ≤ n ∧ n ≤ 40 ∧ v = .bool (cutsB l n) := by
  unfold F22 at h
  split at h
  · obtain ⟨l, h1, h2⟩ := Option.bind_eq_some_iff.1 h
    obtain ⟨h3, rfl⟩ := bif_some h2
    simp only [inI, Bool.and_eq_true, decide_eq_true_eq] at h3
    exact ⟨_, _, l, rfl, rowsIn_some h1, h3.1, h3.2, rfl⟩
  · cases h
theorem F8_some {args : List Value} {w : AW} {v : Value} (h : F8 args w = some v) : ∃ s l c dv cv, args = [.agg ⟨seaC s dv cv⟩] ∧ RowsV dayC w dv l ∧ RowsV intC w cv c ∧ v = .int .i64 (seaE s l c) := by
  unfold F8 at h
  split at h
  · rename_i a b c d e f g _
    obtain ⟨l, h1, h2⟩ := Option.bind_eq_some_iff.1 h
    obtain ⟨k, h3, h4⟩ := Option.bind_eq_some_iff.1 h2
    cases h4
    exact ⟨⟨_, _, _, _, _, _, _⟩, l, k, _, _, rfl, rowsIn_some h1, rowsIn_some h3, rfl⟩
  · cases h
theorem F25_some {args : List Value} {w : AW} {v : Value} (h : F25 args w = some v) : ∃ n a b, args = [.int .i64 n, .int .i64 a, .int .i64 b] ∧ v = .bool (inI a n b) := by
  unfold F25 at h
  split at h
  · cases h; exact ⟨_, _, _, rfl, rfl⟩
  · cases h
theorem F47_some {args : List Value} {w : AW} {v : Value} (h : F47 args w = some v) : ∃ s dv cv sv n, args = [.agg ⟨yearC s dv cv sv⟩, .int .i64 n] ∧ v = .int .i64 (min n s.cut) := by
  unfold F47 at h
  split at h
  · cases h; exact ⟨⟨_, _, _, _, _, _, _⟩, _, _, _, _, rfl, rfl⟩
  · cases h
theorem F48_some {args : List Value} {w : AW} {v : Value} (h : F48 args w = some v) : ∃ s dv cv sv n, args = [.agg ⟨yearC s dv cv sv⟩, .int .i64 n] ∧ (0 ≤ n ∧ n ≤ 100) ∧ (0 ≤ s.grows ∧ s.grows ≤ 50) ∧ v = .int .i64 (min (n + s.grows) 100) := by
  unfold F48 at h
  split at h
  · obtain ⟨h3, rfl⟩ := bif_some h
    simp only [inI, Bool.and_eq_true, decide_eq_true_eq] at h3
    exact ⟨⟨_, _, _, _, _, _, _⟩, _, _, _, _, rfl, h3.1, h3.2, rfl⟩
  · cases h
theorem F49_some {args : List Value} {w : AW} {v : Value} (h : F49 args w = some v) : ∃ (s : Sea) (n : Int) (cut : Bool), args = [.agg ⟨[.int .i64 s.from_, .int .i64 s.grows, .int .i64 s.cut, .int .i64 s.gl, .int .i64 s.gh]⟩, .int .i64 n, .bool cut] ∧ (-1 ≤ n ∧ n ≤ 100) ∧ (0 ≤ s.grows ∧ s.grows ≤ 50) ∧ v = .int .i64 (nextI s n cut) := by
  unfold F49 at h
  split at h
  · obtain ⟨h3, rfl⟩ := bif_some h
    simp only [inI, Bool.and_eq_true, decide_eq_true_eq] at h3
    exact ⟨⟨0, 0, _, _, _, _, _⟩, _, _, rfl, h3.1, h3.2, rfl⟩
  · cases h
theorem F50_some {args : List Value} {w : AW} {v : Value} (h : F50 args w = some v) : ∃ u x L, args = [u, .int .i64 x] ∧ RowsV intC w u L ∧ L.length ≤ 1000 ∧ v = .int .i64 (findAt x L 0) := by
  unfold F50 at h
  split at h
  · obtain ⟨l, h1, h2⟩ := Option.bind_eq_some_iff.1 h
    obtain ⟨h3, rfl⟩ := bif_some h2
    exact ⟨_, _, l, rfl, rowsIn_some h1, of_decide_eq_true h3, rfl⟩
  · cases h
theorem F52_some {args : List Value} {w : AW} {v : Value} (h : F52 args w = some v) : ∃ n a b, args = [.int .i64 n, .agg ⟨[.int .i64 a, .int .i64 b]⟩] ∧ v = .bool (inI a n b) := by
  unfold F52 at h
  split at h
  · cases h; exact ⟨_, _, _, rfl, rfl⟩
  · cases h
theorem F53_some {args : List Value} {w : AW} {v : Value} (h : F53 args w = some v) : ∃ s dv cv sv k warm rain shade L, args = [.agg ⟨yearC s dv cv sv⟩, .int .i64 ((k : Nat) : Int), .int .i64 warm, .int .i64 rain] ∧ HeatOk s warm shade ∧ RowsV intC w sv L ∧ L[k]? = some shade ∧ v = .int .i64 (heatI s warm rain shade) := by
  unfold F53 at h
  split at h
  · rename_i day _ _
    obtain ⟨L, h1, h⟩ := Option.bind_eq_some_iff.1 h
    cases hd : decide (0 ≤ day) with
    | false => rw [hd] at h; cases h
    | true =>
      rw [hd, cond_true] at h
      obtain ⟨z, h2, h⟩ := Option.bind_eq_some_iff.1 h
      obtain ⟨h3, rfl⟩ := bif_some h
      have e : ((day.toNat : Nat) : Int) = day := Int.toNat_of_nonneg (of_decide_eq_true hd)
      exact ⟨⟨_, _, _, _, _, _, _⟩, _, _, _, day.toNat, _, _, z, L, by rw [e]; rfl, heatB_ok h3, rowsIn_some h1, h2, rfl⟩
  · cases h
theorem F54_some {args : List Value} {w : AW} {v : Value} (h : F54 args w = some v) : ∃ s dv cv warm rain shade, args = [.agg ⟨seaC s dv cv⟩, .int .i64 warm, .int .i64 rain, .int .i64 shade] ∧ HeatOk s warm shade ∧ v = .int .i64 (heatI s warm rain shade) := by
  unfold F54 at h
  split at h
  · obtain ⟨h3, rfl⟩ := bif_some h
    exact ⟨⟨_, _, _, _, _, _, _⟩, _, _, _, _, _, rfl, heatB_ok h3, rfl⟩
  · cases h
theorem F28_some {args : List Value} {w : AW} {v : Value} (h : F28 args w = some v) : ∃ s l W R dv cv wv rv, args = [.agg ⟨seaC s dv cv⟩, .agg ⟨[wv, rv]⟩] ∧ l.length ≤ 40 ∧ RowsV dayC w dv l ∧ RowsV intC w wv W ∧ RowsV intC w rv R ∧ v = .bool (trB l W R) := by
  unfold F28 at h
  split at h
  · obtain ⟨l, h1, h⟩ := Option.bind_eq_some_iff.1 h
    obtain ⟨W, h2, h⟩ := Option.bind_eq_some_iff.1 h
    obtain ⟨R, h3, h⟩ := Option.bind_eq_some_iff.1 h
    obtain ⟨h4, rfl⟩ := bif_some h
    exact ⟨⟨_, _, _, _, _, _, _⟩, l, W, R, _, _, _, _, rfl, of_decide_eq_true h4, rowsIn_some h1, rowsIn_some h2, rowsIn_some h3, rfl⟩
  · cases h
theorem F55_some {args : List Value} {w : AW} {v : Value} (h : F55 args w = some v) : ∃ u l, args = [u] ∧ RowsV racC w u l ∧ v = .bool (racB l) := by
  unfold F55 at h
  split at h
  · obtain ⟨l, h1, h2⟩ := Option.bind_eq_some_iff.1 h
    cases h2
    exact ⟨_, l, rfl, rowsIn_some h1, rfl⟩
  · cases h
theorem F32_some {args : List Value} {w : AW} {v : Value} (h : F32 args w = some v) : ∃ s l c r dv cv u, args = [.agg ⟨seaC s dv cv⟩, u] ∧ RowsV dayC w dv l ∧ RowsV intC w cv c ∧ RowsV racC w u r ∧ v = .int .i64 (bothE s l c r) := by
  unfold F32 at h
  split at h
  · obtain ⟨l, h1, h⟩ := Option.bind_eq_some_iff.1 h
    obtain ⟨k, h2, h⟩ := Option.bind_eq_some_iff.1 h
    obtain ⟨r, h3, h⟩ := Option.bind_eq_some_iff.1 h
    cases h
    exact ⟨⟨_, _, _, _, _, _, _⟩, l, k, r, _, _, _, rfl, rowsIn_some h1, rowsIn_some h2, rowsIn_some h3, rfl⟩
  · cases h
theorem F46_some {args : List Value} {w : AW} {v : Value} (h : F46 args w = some v) : ∃ u need L, args = [u, .int .i64 need] ∧ small L = true ∧ RowsV intC w u L ∧ v = .int .i64 (opI L need : Nat) := by
  unfold F46 at h
  split at h
  · obtain ⟨L, h1, h⟩ := Option.bind_eq_some_iff.1 h
    obtain ⟨h2, rfl⟩ := bif_some h
    exact ⟨_, _, L, rfl, h2, rowsIn_some h1, rfl⟩
  · cases h
theorem F35_some {args : List Value} {w : AW} {v : Value} (h : F35 args w = some v) : ∃ u need L, args = [.int .i64 need, u] ∧ small L = true ∧ RowsV intC w u L ∧ v = .int .i64 (opI L need : Nat) := by
  unfold F35 at h
  split at h
  · obtain ⟨L, h1, h⟩ := Option.bind_eq_some_iff.1 h
    obtain ⟨h2, rfl⟩ := bif_some h
    exact ⟨_, _, L, rfl, h2, rowsIn_some h1, rfl⟩
  · cases h
theorem F7_some {args : List Value} {w : AW} {v : Value} (h : F7 args w = some v) : ∃ u x L, args = [u, x] ∧ L.length ≤ 1000 ∧ RowsV intC w u L ∧ RowsV intC w x L ∧ v = .bool true := by
  unfold F7 at h
  split at h
  · obtain ⟨A, h1, h⟩ := Option.bind_eq_some_iff.1 h
    obtain ⟨B, h2, h⟩ := Option.bind_eq_some_iff.1 h
    obtain ⟨⟨h3, h4⟩, rfl⟩ := if_some' h
    subst h3
    exact ⟨_, _, A, rfl, h4, rowsIn_some h1, rowsIn_some h2, rfl⟩
  · cases h
theorem F17_some {args : List Value} {w : AW} {v : Value} (h : F17 args w = some v) : ∃ n s, args = [.int .i64 n, .int .i64 s] ∧ s ≤ 2 ^ 60 ∧ v = .int .i64 (wrapI n s) := by
  unfold F17 at h
  split at h
  · obtain ⟨h3, rfl⟩ := bif_some h
    exact ⟨_, _, rfl, of_decide_eq_true h3, rfl⟩
  · cases h
theorem F18_some {args : List Value} {w : AW} {v : Value} (h : F18 args w = some v) : ∃ a b, args = [.int .i64 a, .int .i64 b] ∧ v = .agg ⟨[.int .i64 a, .int .i64 b]⟩ := by
  unfold F18 at h
  split at h
  · cases h; exact ⟨_, _, rfl, rfl⟩
  · cases h
theorem F16_some {args : List Value} {w : AW} {v : Value} (h : F16 args w = some v) : ∃ s l c dv cv, args = [.agg ⟨seaC s dv cv⟩] ∧ RowsV dayC w dv l ∧ RowsV intC w cv c ∧ v = .bool (decide (seaE s l c = 0)) := by
  unfold F16 at h
  split at h
  · obtain ⟨l, h1, h⟩ := Option.bind_eq_some_iff.1 h
    obtain ⟨k, h2, h⟩ := Option.bind_eq_some_iff.1 h
    cases h
    exact ⟨⟨_, _, _, _, _, _, _⟩, l, k, _, _, rfl, rowsIn_some h1, rowsIn_some h2, rfl⟩
  · cases h
theorem F15_some {args : List Value} {w : AW} {v : Value} (h : F15 args w = some v) : ∃ s l c r dv cv, args = [.agg ⟨seaC s dv cv⟩, .agg ⟨racC r⟩] ∧ RowsV dayC w dv l ∧ RowsV intC w cv c ∧ v = .tuple ⟨[.agg ⟨[.int .i64 (oA s l c r), .int .i64 (oB s l c r)]⟩, .int .i64 (oE s l c r)]⟩ := by
  unfold F15 at h
  split at h
  · obtain ⟨l, h1, h⟩ := Option.bind_eq_some_iff.1 h
    obtain ⟨k, h2, h⟩ := Option.bind_eq_some_iff.1 h
    cases h
    exact ⟨⟨_, _, _, _, _, _, _⟩, l, k, ⟨_, _⟩, _, _, rfl, rowsIn_some h1, rowsIn_some h2, rfl⟩
  · cases h
noncomputable def o24 : Ov := ovP 24 F24 oW
noncomputable def o51 : Ov := ovP 51 F51 o24
noncomputable def o23 : Ov := ovP 23 F23 o51
noncomputable def o21 : Ov := ovP 21 F21 o23
noncomputable def o22 : Ov := ovP 22 F22 o21
noncomputable def o8 : Ov := ovP 8 F8 o22
noncomputable def o25 : Ov := ovP 25 F25 o8
noncomputable def o47 : Ov := ovP 47 F47 o25
noncomputable def o48 : Ov := ovP 48 F48 o47
noncomputable def o52 : Ov := ovP 52 F52 o48
noncomputable def o53 : Ov := ovP 53 F53 o52
noncomputable def o55 : Ov := ovP 55 F55 o53
noncomputable def o32 : Ov := ovP 32 F32 o55
noncomputable def o46 : Ov := ovP 46 F46 o32
noncomputable def o15 : Ov := ovP 15 F15 o46
noncomputable def o16 : Ov := ovP 16 F16 o15
noncomputable def o17 : Ov := ovP 17 F17 o16
noncomputable def o18 : Ov := ovP 18 F18 o17
section
variable (fact : resIs (spanV 1 2) ((run Tryz.prog noOv 1000).call 39 (flowersA 246 248 1) (startA 249 (flowersL 246 248)) .none) = true)
include fact
theorem ok24 : OvOk Tryz.prog o24 := pure_ok no_count mixed (okW' fact) (fun _ _ _ h => h) fun args w res hl hres => by
  obtain ⟨n, b, rfl, rfl⟩ := F24_some hres
  obtain ⟨_, w', h1, rfl⟩ := run24 (oW_none (by decide))  n b w
  exact ⟨rfl, 2, w', _, h1⟩
theorem ok51 : OvOk Tryz.prog o51 := pure_ok no_count mixed (ok24 fact) (fun _ _ _ h => h) fun args w res hl hres => by
  obtain ⟨a, b, m, rfl, rfl⟩ := F51_some hres
  obtain ⟨_, w', h1, rfl⟩ := run51 (ovP_none (f := 24) (by decide) (oW_none (by decide)))  a b m w
  exact ⟨rfl, 2, w', _, h1⟩
theorem ok23 : OvOk Tryz.prog o23 := pure_ok no_count mixed (ok51 fact) (fun _ _ _ h => h) fun args w res hl hres => by
  obtain ⟨a, b, c, d, e, rfl, rfl⟩ := F23_some hres
  obtain ⟨_, w', h1, rfl⟩ := run23 (ovP_none (f := 51) (by decide) (ovP_none (f := 24) (by decide) (oW_none (by decide)))) (HasP.skip (g := 51) (by decide) .here) .here a b c d e w
  exact ⟨rfl, 2, w', _, h1⟩
theorem ok21 : OvOk Tryz.prog o21 := pure_ok no_count mixed (ok23 fact) (fun _ _ _ h => h) fun args w res hl hres => by
  obtain ⟨u, l, rfl, hv, rfl⟩ := F21_some hres
  obtain ⟨_, w', h1, rfl⟩ := run21 (ovP_none (f := 23) (by decide) (ovP_none (f := 51) (by decide) (ovP_none (f := 24) (by decide) (oW_none (by decide))))) (HasP.skip (g := 23) (by decide) .here) l u w hl hv
  exact ⟨rfl, 2, w', _, h1⟩
theorem ok22 : OvOk Tryz.prog o22 := pure_ok no_count mixed (ok21 fact) (fun _ _ _ h => h) fun args w res hl hres => by
  obtain ⟨u, n, l, rfl, hv, h0, h40, rfl⟩ := F22_some hres
  obtain ⟨_, w', h1, rfl⟩ := run22 (ovP_none (f := 21) (by decide) (ovP_none (f := 23) (by decide) (ovP_none (f := 51) (by decide) (ovP_none (f := 24) (by decide) (oW_none (by decide))))))  l n h0 h40 u w hv
  exact ⟨rfl, 2, w', _, h1⟩
theorem ok8 : OvOk Tryz.prog o8 := pure_ok no_count mixed (ok22 fact) (fun _ _ _ h => h) fun args w res hl hres => by
  obtain ⟨s, l, c, dv, cv, rfl, hv, hc, rfl⟩ := F8_some hres
  obtain ⟨_, w', h1, rfl⟩ := run8 (ovP_none (f := 22) (by decide) (ovP_none (f := 21) (by decide) (ovP_none (f := 23) (by decide) (ovP_none (f := 51) (by decide) (ovP_none (f := 24) (by decide) (oW_none (by decide))))))) (HasP.skip (g := 22) (by decide) .here) .here (HasP.skip (g := 22) (by decide) (HasP.skip (g := 21) (by decide) .here)) (HasP.skip (g := 22) (by decide) (HasP.skip (g := 21) (by decide) (HasP.skip (g := 23) (by decide) (HasP.skip (g := 51) (by decide) .here)))) s l c dv cv w hl hv hc
  exact ⟨rfl, 2, w', _, h1⟩
theorem ok25 : OvOk Tryz.prog o25 := pure_ok no_count mixed (ok8 fact) (fun _ _ _ h => h) fun args w res hl hres => by
  obtain ⟨n, a, b, rfl, rfl⟩ := F25_some hres
  obtain ⟨_, w', h1, rfl⟩ := run25 (ovP_none (f := 8) (by decide) (ovP_none (f := 22) (by decide) (ovP_none (f := 21) (by decide) (ovP_none (f := 23) (by decide) (ovP_none (f := 51) (by decide) (ovP_none (f := 24) (by decide) (oW_none (by decide))))))))  n a b w
  exact ⟨rfl, 2, w', _, h1⟩
theorem ok47 : OvOk Tryz.prog o47 := pure_ok no_count mixed (ok25 fact) (fun _ _ _ h => h) fun args w res hl hres => by
  obtain ⟨s, dv, cv, sv, n, rfl, rfl⟩ := F47_some hres
  obtain ⟨_, w', h1, rfl⟩ := run47 (ovP_none (f := 25) (by decide) (ovP_none (f := 8) (by decide) (ovP_none (f := 22) (by decide) (ovP_none (f := 21) (by decide) (ovP_none (f := 23) (by decide) (ovP_none (f := 51) (by decide) (ovP_none (f := 24) (by decide) (oW_none (by decide)))))))))  s dv cv sv n w
  exact ⟨rfl, 2, w', _, h1⟩
theorem ok48 : OvOk Tryz.prog o48 := pure_ok no_count mixed (ok47 fact) (fun _ _ _ h => h) fun args w res hl hres => by
  obtain ⟨s, dv, cv, sv, n, rfl, h1, h2, rfl⟩ := F48_some hres
  obtain ⟨_, w', h1, rfl⟩ := run48 (ovP_none (f := 47) (by decide) (ovP_none (f := 25) (by decide) (ovP_none (f := 8) (by decide) (ovP_none (f := 22) (by decide) (ovP_none (f := 21) (by decide) (ovP_none (f := 23) (by decide) (ovP_none (f := 51) (by decide) (ovP_none (f := 24) (by decide) (oW_none (by decide))))))))))  s dv cv sv n h1 h2 w
  exact ⟨rfl, 2, w', _, h1⟩
theorem ok52 : OvOk Tryz.prog o52 := pure_ok no_count mixed (ok48 fact) (fun _ _ _ h => h) fun args w res hl hres => by
  obtain ⟨n, a, b, rfl, rfl⟩ := F52_some hres
  obtain ⟨_, w', h1, rfl⟩ := run52 (ovP_none (f := 48) (by decide) (ovP_none (f := 47) (by decide) (ovP_none (f := 25) (by decide) (ovP_none (f := 8) (by decide) (ovP_none (f := 22) (by decide) (ovP_none (f := 21) (by decide) (ovP_none (f := 23) (by decide) (ovP_none (f := 51) (by decide) (ovP_none (f := 24) (by decide) (oW_none (by decide)))))))))))  n a b w
  exact ⟨rfl, 2, w', _, h1⟩
theorem ok53 : OvOk Tryz.prog o53 := pure_ok no_count mixed (ok52 fact) (fun _ _ _ h => h) fun args w res hl hres => by
  obtain ⟨s, dv, cv, sv, k, warm, rain, shade, L, rfl, hk, hL, hz, rfl⟩ := F53_some hres
  obtain ⟨_, w', h1, rfl⟩ := run53 (ovP_none (f := 52) (by decide) (ovP_none (f := 48) (by decide) (ovP_none (f := 47) (by decide) (ovP_none (f := 25) (by decide) (ovP_none (f := 8) (by decide) (ovP_none (f := 22) (by decide) (ovP_none (f := 21) (by decide) (ovP_none (f := 23) (by decide) (ovP_none (f := 51) (by decide) (ovP_none (f := 24) (by decide) (oW_none (by decide))))))))))))  s dv cv sv k warm rain shade hk L w hL hz
  exact ⟨rfl, 2, w', _, h1⟩
theorem ok55 : OvOk Tryz.prog o55 := pure_ok no_count mixed (ok53 fact) (fun _ _ _ h => h) fun args w res hl hres => by
  obtain ⟨u, l, rfl, hv, rfl⟩ := F55_some hres
  obtain ⟨_, w', h1, rfl⟩ := run55 (ovP_none (f := 53) (by decide) (ovP_none (f := 52) (by decide) (ovP_none (f := 48) (by decide) (ovP_none (f := 47) (by decide) (ovP_none (f := 25) (by decide) (ovP_none (f := 8) (by decide) (ovP_none (f := 22) (by decide) (ovP_none (f := 21) (by decide) (ovP_none (f := 23) (by decide) (ovP_none (f := 51) (by decide) (ovP_none (f := 24) (by decide) (oW_none (by decide))))))))))))) (HasP.skip (g := 53) (by decide) (HasP.skip (g := 52) (by decide) (HasP.skip (g := 48) (by decide) (HasP.skip (g := 47) (by decide) (HasP.skip (g := 25) (by decide) (HasP.skip (g := 8) (by decide) (HasP.skip (g := 22) (by decide) (HasP.skip (g := 21) (by decide) (HasP.skip (g := 23) (by decide) (HasP.skip (g := 51) (by decide) .here)))))))))) l u w hl hv
  exact ⟨rfl, 2, w', _, h1⟩
theorem ok32 : OvOk Tryz.prog o32 := pure_ok no_count mixed (ok55 fact) (fun _ _ _ h => h) fun args w res hl hres => by
  obtain ⟨s, l, c, r, dv, cv, u, rfl, hv, hc, hu, rfl⟩ := F32_some hres
  obtain ⟨_, w', h1, rfl⟩ := run32 (ovP_none (f := 55) (by decide) (ovP_none (f := 53) (by decide) (ovP_none (f := 52) (by decide) (ovP_none (f := 48) (by decide) (ovP_none (f := 47) (by decide) (ovP_none (f := 25) (by decide) (ovP_none (f := 8) (by decide) (ovP_none (f := 22) (by decide) (ovP_none (f := 21) (by decide) (ovP_none (f := 23) (by decide) (ovP_none (f := 51) (by decide) (ovP_none (f := 24) (by decide) (oW_none (by decide)))))))))))))) (HasP.skip (g := 55) (by decide) (HasP.skip (g := 53) (by decide) (HasP.skip (g := 52) (by decide) (HasP.skip (g := 48) (by decide) (HasP.skip (g := 47) (by decide) (HasP.skip (g := 25) (by decide) .here)))))) .here s l c r dv cv u w hv hc hu
  exact ⟨rfl, 2, w', _, h1⟩
theorem ok46 : OvOk Tryz.prog o46 := pure_ok no_count mixed (ok32 fact) (fun _ _ _ h => h) fun args w res hl hres => by
  obtain ⟨u, need, L, rfl, hs, hv, rfl⟩ := F46_some hres
  obtain ⟨_, w', h1, rfl⟩ := run46 (ovP_none (f := 32) (by decide) (ovP_none (f := 55) (by decide) (ovP_none (f := 53) (by decide) (ovP_none (f := 52) (by decide) (ovP_none (f := 48) (by decide) (ovP_none (f := 47) (by decide) (ovP_none (f := 25) (by decide) (ovP_none (f := 8) (by decide) (ovP_none (f := 22) (by decide) (ovP_none (f := 21) (by decide) (ovP_none (f := 23) (by decide) (ovP_none (f := 51) (by decide) (ovP_none (f := 24) (by decide) (oW_none (by decide)))))))))))))))  L hs need u w hv
  exact ⟨rfl, 2, w', _, h1⟩
theorem ok15 : OvOk Tryz.prog o15 := pure_ok no_count mixed (ok46 fact) (fun _ _ _ h => h) fun args w res hl hres => by
  obtain ⟨s, l, c, r, dv, cv, rfl, hv, hc, rfl⟩ := F15_some hres
  obtain ⟨_, w', h1, rfl⟩ := run15 (ovP_none (f := 46) (by decide) (ovP_none (f := 32) (by decide) (ovP_none (f := 55) (by decide) (ovP_none (f := 53) (by decide) (ovP_none (f := 52) (by decide) (ovP_none (f := 48) (by decide) (ovP_none (f := 47) (by decide) (ovP_none (f := 25) (by decide) (ovP_none (f := 8) (by decide) (ovP_none (f := 22) (by decide) (ovP_none (f := 21) (by decide) (ovP_none (f := 23) (by decide) (ovP_none (f := 51) (by decide) (ovP_none (f := 24) (by decide) (oW_none (by decide)))))))))))))))) (ovP_none (f := 46) (by decide) (ovP_none (f := 32) (by decide) (ovP_none (f := 55) (by decide) (ovP_none (f := 53) (by decide) (ovP_none (f := 52) (by decide) (ovP_none (f := 48) (by decide) (ovP_none (f := 47) (by decide) (ovP_none (f := 25) (by decide) (ovP_none (f := 8) (by decide) (ovP_none (f := 22) (by decide) (ovP_none (f := 21) (by decide) (ovP_none (f := 23) (by decide) (ovP_none (f := 51) (by decide) (ovP_none (f := 24) (by decide) (oW_none (by decide)))))))))))))))) (ovP_none (f := 46) (by decide) (ovP_none (f := 32) (by decide) (ovP_none (f := 55) (by decide) (ovP_none (f := 53) (by decide) (ovP_none (f := 52) (by decide) (ovP_none (f := 48) (by decide) (ovP_none (f := 47) (by decide) (ovP_none (f := 25) (by decide) (ovP_none (f := 8) (by decide) (ovP_none (f := 22) (by decide) (ovP_none (f := 21) (by decide) (ovP_none (f := 23) (by decide) (ovP_none (f := 51) (by decide) (ovP_none (f := 24) (by decide) (oW_none (by decide)))))))))))))))) (ovP_none (f := 46) (by decide) (ovP_none (f := 32) (by decide) (ovP_none (f := 55) (by decide) (ovP_none (f := 53) (by decide) (ovP_none (f := 52) (by decide) (ovP_none (f := 48) (by decide) (ovP_none (f := 47) (by decide) (ovP_none (f := 25) (by decide) (ovP_none (f := 8) (by decide) (ovP_none (f := 22) (by decide) (ovP_none (f := 21) (by decide) (ovP_none (f := 23) (by decide) (ovP_none (f := 51) (by decide) (ovP_none (f := 24) (by decide) (oW_none (by decide)))))))))))))))) (ovP_none (f := 46) (by decide) (ovP_none (f := 32) (by decide) (ovP_none (f := 55) (by decide) (ovP_none (f := 53) (by decide) (ovP_none (f := 52) (by decide) (ovP_none (f := 48) (by decide) (ovP_none (f := 47) (by decide) (ovP_none (f := 25) (by decide) (ovP_none (f := 8) (by decide) (ovP_none (f := 22) (by decide) (ovP_none (f := 21) (by decide) (ovP_none (f := 23) (by decide) (ovP_none (f := 51) (by decide) (ovP_none (f := 24) (by decide) (oW_none (by decide)))))))))))))))) (HasP.skip (g := 46) (by decide) .here) .here (HasP.skip (g := 46) (by decide) (HasP.skip (g := 32) (by decide) (HasP.skip (g := 55) (by decide) (HasP.skip (g := 53) (by decide) (HasP.skip (g := 52) (by decide) (HasP.skip (g := 48) (by decide) .here)))))) (HasP.skip (g := 46) (by decide) (HasP.skip (g := 32) (by decide) (HasP.skip (g := 55) (by decide) (HasP.skip (g := 53) (by decide) (HasP.skip (g := 52) (by decide) .here))))) (HasP.skip (g := 46) (by decide) (HasP.skip (g := 32) (by decide) (HasP.skip (g := 55) (by decide) .here))) s l c r dv cv w (Nat.le_of_eq hl) hv hc
  exact ⟨rfl, 4, w', _, h1⟩
theorem ok16 : OvOk Tryz.prog o16 := pure_ok no_count mixed (ok15 fact) (fun _ _ _ h => h) fun args w res hl hres => by
  obtain ⟨s, l, c, dv, cv, rfl, hv, hc, rfl⟩ := F16_some hres
  obtain ⟨_, w', h1, rfl⟩ := run16 (ovP_none (f := 15) (by decide) (ovP_none (f := 46) (by decide) (ovP_none (f := 32) (by decide) (ovP_none (f := 55) (by decide) (ovP_none (f := 53) (by decide) (ovP_none (f := 52) (by decide) (ovP_none (f := 48) (by decide) (ovP_none (f := 47) (by decide) (ovP_none (f := 25) (by decide) (ovP_none (f := 8) (by decide) (ovP_none (f := 22) (by decide) (ovP_none (f := 21) (by decide) (ovP_none (f := 23) (by decide) (ovP_none (f := 51) (by decide) (ovP_none (f := 24) (by decide) (oW_none (by decide))))))))))))))))) (HasP.skip (g := 15) (by decide) (HasP.skip (g := 46) (by decide) (HasP.skip (g := 32) (by decide) (HasP.skip (g := 55) (by decide) (HasP.skip (g := 53) (by decide) (HasP.skip (g := 52) (by decide) (HasP.skip (g := 48) (by decide) (HasP.skip (g := 47) (by decide) (HasP.skip (g := 25) (by decide) .here))))))))) (HasP.skip (g := 15) (by decide) (HasP.skip (g := 46) (by decide) (HasP.skip (g := 32) (by decide) (HasP.skip (g := 55) (by decide) (HasP.skip (g := 53) (by decide) (HasP.skip (g := 52) (by decide) (HasP.skip (g := 48) (by decide) (HasP.skip (g := 47) (by decide) .here)))))))) s l c dv cv w hv hc
  exact ⟨rfl, 2, w', _, h1⟩
theorem ok17 : OvOk Tryz.prog o17 := pure_ok no_count mixed (ok16 fact) (fun _ _ _ h => h) fun args w res hl hres => by
  obtain ⟨n, s, rfl, hs, rfl⟩ := F17_some hres
  obtain ⟨_, w', h1, rfl⟩ := run17 (ovP_none (f := 16) (by decide) (ovP_none (f := 15) (by decide) (ovP_none (f := 46) (by decide) (ovP_none (f := 32) (by decide) (ovP_none (f := 55) (by decide) (ovP_none (f := 53) (by decide) (ovP_none (f := 52) (by decide) (ovP_none (f := 48) (by decide) (ovP_none (f := 47) (by decide) (ovP_none (f := 25) (by decide) (ovP_none (f := 8) (by decide) (ovP_none (f := 22) (by decide) (ovP_none (f := 21) (by decide) (ovP_none (f := 23) (by decide) (ovP_none (f := 51) (by decide) (ovP_none (f := 24) (by decide) (oW_none (by decide))))))))))))))))))  n s hs w
  exact ⟨rfl, 2, w', _, h1⟩
theorem ok18 : OvOk Tryz.prog o18 := pure_ok no_count mixed (ok17 fact) (fun _ _ _ h => h) fun args w res hl hres => by
  obtain ⟨a, b, rfl, rfl⟩ := F18_some hres
  obtain ⟨_, w', h1, rfl⟩ := run18 (ovP_none (f := 17) (by decide) (ovP_none (f := 16) (by decide) (ovP_none (f := 15) (by decide) (ovP_none (f := 46) (by decide) (ovP_none (f := 32) (by decide) (ovP_none (f := 55) (by decide) (ovP_none (f := 53) (by decide) (ovP_none (f := 52) (by decide) (ovP_none (f := 48) (by decide) (ovP_none (f := 47) (by decide) (ovP_none (f := 25) (by decide) (ovP_none (f := 8) (by decide) (ovP_none (f := 22) (by decide) (ovP_none (f := 21) (by decide) (ovP_none (f := 23) (by decide) (ovP_none (f := 51) (by decide) (ovP_none (f := 24) (by decide) (oW_none (by decide)))))))))))))))))))  a b w hl
  exact ⟨rfl, 2, w', _, h1⟩
end
theorem top_true (s : Sea) (l : List Day) (c : List Int) (r : Rac) (x0 x1 : Int) (dv cv : Value) (w : AW) (hl : w.lim ≤ w.next) (h7 : 7 ≤ w.next) (hlaid : hasAll w laidL = true) (hv : RowsV dayC w dv l) (hc : RowsV intC w cv c) : ∃ w' x', (run Tryz.prog o18 2).call 4 [.agg ⟨seaC s dv cv⟩, .agg ⟨racC r⟩, .agg ⟨[.int .i64 x0, .int .i64 x1]⟩] w .none = .ok (.ret (.bool true)) w' x' := by
  obtain ⟨_, w', h1, rfl⟩ := run4 (ov := o18) (ovP_none (f := 18) (by decide) (ovP_none (f := 17) (by decide) (ovP_none (f := 16) (by decide) (ovP_none (f := 15) (by decide) (ovP_none (f := 46) (by decide) (ovP_none (f := 32) (by decide) (ovP_none (f := 55) (by decide) (ovP_none (f := 53) (by decide) (ovP_none (f := 52) (by decide) (ovP_none (f := 48) (by decide) (ovP_none (f := 47) (by decide) (ovP_none (f := 25) (by decide) (ovP_none (f := 8) (by decide) (ovP_none (f := 22) (by decide) (ovP_none (f := 21) (by decide) (ovP_none (f := 23) (by decide) (ovP_none (f := 51) (by decide) (ovP_none (f := 24) (by decide) (oW_none (by decide)))))))))))))))))))) (HasP.skip (g := 18) (by decide) (HasP.skip (g := 17) (by decide) (HasP.skip (g := 16) (by decide) .here))) (HasP.skip (g := 18) (by decide) (HasP.skip (g := 17) (by decide) .here)) (HasP.skip (g := 18) (by decide) .here) .here (HasW.skip (f := 18) (by decide) (HasW.skip (f := 17) (by decide) (HasW.skip (f := 16) (by decide) (HasW.skip (f := 15) (by decide) (HasW.skip (f := 46) (by decide) (HasW.skip (f := 32) (by decide) (HasW.skip (f := 55) (by decide) (HasW.skip (f := 53) (by decide) (HasW.skip (f := 52) (by decide) (HasW.skip (f := 48) (by decide) (HasW.skip (f := 47) (by decide) (HasW.skip (f := 25) (by decide) (HasW.skip (f := 8) (by decide) (HasW.skip (f := 22) (by decide) (HasW.skip (f := 21) (by decide) (HasW.skip (f := 23) (by decide) (HasW.skip (f := 51) (by decide) (HasW.skip (f := 24) (by decide) oW_has)))))))))))))))))) s l c r x0 x1 dv cv w hl h7 hlaid hv hc
  exact ⟨w', _, h1⟩
end Go.Proofs.YtnkhenmabmkajaaGreatDoor.walk

namespace Go.Proofs.YtnkhenmabmkajaaGreatDoor.walk
open Go Go.Sh
set_option maxRecDepth 100000
theorem ty29 : tyOk Tryz.prog 6 29 = true := by kernel_rfl
theorem ty43 : tyOk Tryz.prog 6 43 = true := by kernel_rfl
theorem ty44 : tyOk Tryz.prog 6 44 = true := by kernel_rfl
theorem u44 : Tryz.prog.underlying 44 = some (.array 2 3) := by kernel_rfl
theorem c44 : Tryz.prog.cellsOf 44 = 2 := by kernel_rfl
theorem u3 : Tryz.prog.underlying 3 = some (.int .i64) := by kernel_rfl
theorem u22 : Tryz.prog.underlying 22 = some (.slice 50) := by kernel_rfl
theorem u24 : Tryz.prog.underlying 24 = some (.struct (fieldsOf Tryz.prog 24)) := by kernel_rfl
theorem f24 : (fieldsOf Tryz.prog 24).toList.map (fun f => (f.type, f.offset)) = [(3, 0), (3, 1)] := by kernel_rfl
theorem u26 : Tryz.prog.underlying 26 = some (.struct (fieldsOf Tryz.prog 26)) := by kernel_rfl
theorem f26 : (fieldsOf Tryz.prog 26).toList.map (fun f => (f.type, f.offset)) = [(3, 0), (3, 1), (3, 2), (24, 3)] := by kernel_rfl
theorem u27 : Tryz.prog.underlying 27 = some (.slice 3) := by kernel_rfl
theorem u29 : Tryz.prog.underlying 29 = some (.struct (fieldsOf Tryz.prog 29)) := by kernel_rfl
theorem f29 : (fieldsOf Tryz.prog 29).toList.map (fun f => (f.type, f.offset)) = [(22, 0), (3, 1), (3, 2), (26, 3), (27, 8)] := by kernel_rfl
theorem u31 : Tryz.prog.underlying 31 = some (.struct (fieldsOf Tryz.prog 31)) := by kernel_rfl
theorem f31 : (fieldsOf Tryz.prog 31).toList.map (fun f => (f.type, f.offset)) = [(27, 0), (27, 1)] := by kernel_rfl
theorem u32 : Tryz.prog.underlying 32 = some (.slice 43) := by kernel_rfl
theorem u43 : Tryz.prog.underlying 43 = some (.struct (fieldsOf Tryz.prog 43)) := by kernel_rfl
theorem f43 : (fieldsOf Tryz.prog 43).toList.map (fun f => (f.type, f.offset)) = [(3, 0), (3, 1)] := by kernel_rfl
theorem u50 : Tryz.prog.underlying 50 = some (.struct (fieldsOf Tryz.prog 50)) := by kernel_rfl
theorem f50 : (fieldsOf Tryz.prog 50).toList.map (fun f => (f.type, f.offset)) = [(24, 0), (24, 2)] := by kernel_rfl
theorem c3 : Tryz.prog.cellsOf 3 = 1 := by kernel_rfl
theorem c22 : Tryz.prog.cellsOf 22 = 1 := by kernel_rfl
theorem c24 : Tryz.prog.cellsOf 24 = 2 := by kernel_rfl
theorem c26 : Tryz.prog.cellsOf 26 = 5 := by kernel_rfl
theorem c27 : Tryz.prog.cellsOf 27 = 1 := by kernel_rfl
theorem c29 : Tryz.prog.cellsOf 29 = 9 := by kernel_rfl
theorem c31 : Tryz.prog.cellsOf 31 = 2 := by kernel_rfl
theorem c43 : Tryz.prog.cellsOf 43 = 2 := by kernel_rfl
theorem c50 : Tryz.prog.cellsOf 50 = 4 := by kernel_rfl
theorem span_of {H : T AObj} {n : Nat} {cs : List Value} (h : WT Tryz.prog H n 24 cs) : ∃ a b, cs = [.int .i64 a, .int .i64 b] := by
  obtain ⟨hl, hf⟩ := h.toStruct u24
  rw [f24] at hf
  rw [c24] at hl
  obtain ⟨a, ha, _⟩ := (hf (3, 0) (by simp)).toInt u3
  obtain ⟨b, hb, _⟩ := (hf (3, 1) (by simp)).toInt u3
  rw [c3] at ha hb
  match cs, hl with
  | [x, y], _ =>
    simp at ha hb
    exact ⟨a, b, by rw [ha, hb]⟩
theorem rac_wt {H : T AObj} {n : Nat} {cs : List Value} (h : WT Tryz.prog H n 43 cs) : ∃ r, cs = racC r := by
  obtain ⟨hl, hf⟩ := h.toStruct u43
  rw [f43] at hf
  rw [c43] at hl
  obtain ⟨a, ha, _⟩ := (hf (3, 0) (by simp)).toInt u3
  obtain ⟨b, hb, _⟩ := (hf (3, 1) (by simp)).toInt u3
  rw [c3] at ha hb
  match cs, hl with
  | [x, y], _ =>
    simp at ha hb
    exact ⟨⟨a, b⟩, by rw [ha, hb]; rfl⟩
theorem day_wt {H : T AObj} {n : Nat} {cs : List Value} (h : WT Tryz.prog H n 50 cs) : ∃ d, cs = dayC d := by
  obtain ⟨hl, hf⟩ := h.toStruct u50
  rw [f50] at hf
  rw [c50] at hl
  obtain ⟨a, b, h1⟩ := span_of (hf (24, 0) (by simp))
  obtain ⟨c, d, h2⟩ := span_of (hf (24, 2) (by simp))
  rw [c24] at h1 h2
  match cs, hl with
  | [x0, x1, x2, x3], _ =>
    simp at h1 h2
    exact ⟨⟨a, b, c, d⟩, by rw [h1.1, h1.2, h2.1, h2.2]; rfl⟩
theorem ints_of {H : T AObj} {n lim : Nat} {cs : List Value} (h : WT Tryz.prog H n 27 cs) : ∃ v l, cs = [v] ∧ RowsV intC ⟨H, n, lim⟩ v l :=
  rows_of_WT u27 c3 intC_length (fun cs h => by
    obtain ⟨z, hz, _⟩ := h.toInt u3
    exact ⟨z, hz⟩) h
theorem days_of {H : T AObj} {n lim : Nat} {cs : List Value} (h : WT Tryz.prog H n 22 cs) : ∃ v l, cs = [v] ∧ RowsV dayC ⟨H, n, lim⟩ v l :=
  rows_of_WT u22 c50 dayC_length (fun cs h => day_wt h) h
theorem racs_arg {A : AW} {m : Value} (h : ArgT Tryz.prog A.heap A.next 32 m) : ∃ l, RowsV racC A m l := by
  unfold ArgT at h
  rw [u32] at h
  obtain ⟨v, l, hv, hr⟩ := rows_of_WT (lim := A.lim) u32 c43 racC_length (fun cs h => rac_wt h) h
  cases hv
  exact ⟨l, hr⟩
theorem wea_arg {A : AW} {m : Value} (h : ArgT Tryz.prog A.heap A.next 31 m) : ∃ wv rv W R, m = .agg ⟨[wv, rv]⟩ ∧ RowsV intC A wv W ∧ RowsV intC A rv R := by
  unfold ArgT at h
  rw [u31] at h
  obtain ⟨cs, rfl, h⟩ := h
  obtain ⟨hl, hf⟩ := h.toStruct u31
  rw [f31] at hf
  rw [c31] at hl
  obtain ⟨wv, W, h1, k1⟩ := ints_of (lim := A.lim) (hf (27, 0) (by simp))
  obtain ⟨rv, R, h2, k2⟩ := ints_of (lim := A.lim) (hf (27, 1) (by simp))
  rw [c27] at h1 h2
  match cs, hl with
  | [x, y], _ =>
    simp at h1 h2
    subst h1 h2
    exact ⟨_, _, W, R, rfl, k1, k2⟩
theorem sea_arg {A : AW} {m : Value} (h : ArgT Tryz.prog A.heap A.next 29 m) : ∃ s dv cv l c, m = .agg ⟨seaC s dv cv⟩ ∧ RowsV dayC A dv l ∧ RowsV intC A cv c := by
  unfold ArgT at h
  rw [u29] at h
  obtain ⟨cs, rfl, h⟩ := h
  obtain ⟨hl, hf⟩ := h.toStruct u29
  rw [f29] at hf
  rw [c29] at hl
  obtain ⟨dv, l, h1, k1⟩ := days_of (lim := A.lim) (hf (22, 0) (by simp))
  obtain ⟨a, ha, _⟩ := (hf (3, 1) (by simp)).toInt u3
  obtain ⟨b, hb, _⟩ := (hf (3, 2) (by simp)).toInt u3
  obtain ⟨hl2, hf2⟩ := (hf (26, 3) (by simp)).toStruct u26
  rw [f26] at hf2
  rw [c26] at hl2 hf2
  obtain ⟨x, hx, _⟩ := (hf2 (3, 0) (by simp)).toInt u3
  obtain ⟨y, hy, _⟩ := (hf2 (3, 1) (by simp)).toInt u3
  obtain ⟨z, hz, _⟩ := (hf2 (3, 2) (by simp)).toInt u3
  obtain ⟨p, q, hpq⟩ := span_of (hf2 (24, 3) (by simp))
  obtain ⟨cv, c, h2, k2⟩ := ints_of (lim := A.lim) (hf (27, 8) (by simp))
  rw [c22] at h1
  rw [c27] at h2
  rw [c3] at ha hb hx hy hz
  rw [c24] at hpq
  match cs, hl with
  | [x0, x1, x2, x3, x4, x5, x6, x7, x8], _ =>
    simp at h1 h2 ha hb hx hy hz hpq
    subst h1 h2
    exact ⟨⟨a, b, x, y, z, p, q⟩, _, _, l, c, by rw [ha, hb, hx, hy, hz, hpq.1, hpq.2]; rfl, k1, k2⟩
theorem two_of {H : T AObj} {n : Nat} {cs : List Value} (h : WT Tryz.prog H n 44 cs) : ∃ x y : Int, cs = [.int .i64 x, .int .i64 y] := by
  obtain ⟨hl, hf⟩ := h.toArray u44
  rw [c44] at hl
  obtain ⟨a, ha, _⟩ := (hf 0 (by decide)).toInt u3
  obtain ⟨b, hb, _⟩ := (hf 1 (by decide)).toInt u3
  rw [c3] at ha hb
  match cs, hl with
  | [x, y], _ =>
    simp at ha hb
    exact ⟨a, b, by rw [ha, hb]⟩
theorem hasAll_start : hasAll (startA 7 laidL) laidL = true := by kernel_rfl
theorem start_true (A : AW) (ms : List Value) (hl : A.lim = A.next) (hG : Tryz.prog.globals.size ≤ A.next) (hs : ∀ b, b < Tryz.prog.globals.size → A.heap.get b = (startH laidL).get b) (hms : ArgsT Tryz.prog A.heap A.next [29, 43, 44] ms) :
    ∃ A' x', (run Tryz.prog o18 2).call 4 ms A .none = .ok (.ret (.bool true)) A' x' := by
  rw [globals7] at hG hs
  match ms, hms with
  | [m1, m2, m3], hm =>
    obtain ⟨s, dv, cv, l, c, rfl, hd, hc⟩ := sea_arg hm.1
    have h2 := hm.2.1
    unfold ArgT at h2
    rw [u43] at h2
    obtain ⟨cs, rfl, h2⟩ := h2
    obtain ⟨r, rfl⟩ := rac_wt h2
    have h3 := hm.2.2.1
    unfold ArgT at h3
    rw [u44] at h3
    obtain ⟨cs, rfl, h3⟩ := h3
    obtain ⟨x0, x1, rfl⟩ := two_of h3
    refine top_true s l c r x0 x1 dv cv A (Nat.le_of_eq hl) hG ?_ hd hc
    rw [← hasAll_start]
    refine hasAll_congr _ fun x hx => ?_
    exact hs x.1 (laid_lt x hx)
end Go.Proofs.YtnkhenmabmkajaaGreatDoor.walk
