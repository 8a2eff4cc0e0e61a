/- Part of a proof by a machine of ones own: see the text with the theorem. -/
import Derived.Test.YtanpablcoimajaaDoorPWb
import Derived.Test.YtanpablcoimajaaDoorPF2
import Derived.Test.YtanpablcoimajaaDoorShF
namespace Go.Proofs.YtanpablcoimajaaDoor.walk
open Go Go.Sh
open known (partsC laidL noOv)
set_option maxRecDepth 100000
theorem mixed : Tryd.prog.follows .mixedOrders = true := by kernel_rfl
theorem globals1 : Tryd.prog.globals.size = 1 := by kernel_rfl
theorem no_count : NoCount Tryd.prog := NoCount.of (by kernel_rfl)
noncomputable def oW : Ov := memoOv 18 [] laidL (.bool true) noOv
theorem okW' : OvOk Tryd.prog oW := memo_ok no_count mixed ov_none known.works_true (by kernel_rfl) (by kernel_rfl) (by rw [globals1]; exact Nat.le_refl _) (by kernel_rfl) ov_none
theorem oW_none {f : Nat} (hf : f ≠ 18) (args : List Value) (w : AW) : oW f args w = none := by
  have : Nat.beq f 18 = false := by rw [← Bool.not_eq_true]; intro h; exact hf (Nat.eq_of_beq_eq_true h)
  simp [oW, memoOv, this, noOv]
theorem oW_has : HasW oW := fun w hw => by
  have := hasAll_parts hw
  simp [oW, memoOv, this, sameL5, sameVal.sameVals]
theorem HasW.skip {f : Nat} {F : PureF} {rest : Ov} (hf : 18 ≠ f) (h : HasW rest) : HasW (ovP f F rest) := fun w hw => by simp [ovP, hf, h w hw]
theorem ovP_none {f g : Nat} {F : PureF} {rest : Ov} (hne : g ≠ f) (h : ∀ args w, rest g args w = none) (args : List Value) (w : AW) : ovP f F rest g args w = none := by simp [ovP, hne, h]
theorem F33_some {args : List Value} {w : AW} {v : Value} (h : F33 args w = some v) : ∃ n a b, args = [.int .i64 n, .int .i64 a, .int .i64 b] ∧ v = .bool (inI a n b) := by
  unfold F33 at h
  split at h
  · cases h; exact ⟨_, _, _, rfl, rfl⟩
  · cases h
theorem F46_some {args : List Value} {w : AW} {v : Value} (h : F46 args w = some v) : ∃ lo hi a b, args = [.agg ⟨[.int .i64 lo, .int .i64 hi]⟩, .int .i64 a, .int .i64 b] ∧ v = .bool (spanI lo hi a b) := by
  unfold F46 at h
  split at h
  · cases h; exact ⟨_, _, _, _, rfl, rfl⟩
  · cases h
theorem F100_some {args : List Value} {w : AW} {v : Value} (h : F100 args w = some v) : ∃ c, args = [.int .u8 c] ∧ v = .bool (inI 97 c 122) := by
  unfold F100 at h
  split at h
  · cases h; exact ⟨_, rfl, rfl⟩
  · cases h
theorem F101_some {args : List Value} {w : AW} {v : Value} (h : F101 args w = some v) : ∃ c, args = [.int .u8 c] ∧ v = .bool (inI 48 c 57) := by
  unfold F101 at h
  split at h
  · cases h; exact ⟨_, rfl, rfl⟩
  · cases h
theorem F87_some {args : List Value} {w : AW} {v : Value} (h : F87 args w = some v) : ∃ s, args = [.string s] ∧ v = .bool (wordB s.data.toList) := by
  unfold F87 at h
  split at h
  · cases h; exact ⟨_, rfl, rfl⟩
  · cases h
theorem F70_some {args : List Value} {w : AW} {v : Value} (h : F70 args w = some v) : ∃ p, args = [.agg ⟨podC p⟩] ∧ v = .bool (podB p) := by
  unfold F70 at h
  split at h
  · obtain ⟨p, h1, h2⟩ := Option.map_eq_some_iff.1 h
    exact ⟨p, by rw [podOf_some h1], h2.symm⟩
  · cases h
theorem F48_some {args : List Value} {w : AW} {v : Value} (h : F48 args w = some v) : ∃ a b, args = [.agg ⟨[.int .i64 a, .int .i64 b]⟩] ∧ v = .bool (decide (b < a)) := by
  unfold F48 at h
  split at h
  · cases h; exact ⟨_, _, rfl, rfl⟩
  · cases h
theorem F47_some {args : List Value} {w : AW} {v : Value} (h : F47 args w = some v) : ∃ p, args = [.agg ⟨podC p⟩] ∧ v = .agg ⟨[.int .i64 (winL p), .int .i64 (winH p)]⟩ := by
  unfold F47 at h
  split at h
  · obtain ⟨p, h1, h2⟩ := Option.map_eq_some_iff.1 h
    exact ⟨p, by rw [podOf_some h1], h2.symm⟩
  · cases h
theorem F16_some {args : List Value} {w : AW} {v : Value} (h : F16 args w = some v) : ∃ p, args = [.agg ⟨podC p⟩] ∧ v = .tuple ⟨[.agg ⟨[.int .i64 (wA p), .int .i64 (wB p)]⟩, .int .i64 (wE p)]⟩ := by
  unfold F16 at h
  split at h
  · obtain ⟨p, h1, h2⟩ := Option.map_eq_some_iff.1 h
    exact ⟨p, by rw [podOf_some h1], h2.symm⟩
  · cases h
theorem F44_some {args : List Value} {w : AW} {v : Value} (h : F44 args w = some v) : ∃ u l, args = [u] ∧ podsIn w u = some l ∧ v = .bool (podsB l) := by
  unfold F44 at h
  split at h
  · obtain ⟨l, h1, h2⟩ := Option.map_eq_some_iff.1 h
    exact ⟨_, l, rfl, h1, h2.symm⟩
  · cases h
theorem F14_some {args : List Value} {w : AW} {v : Value} (h : F14 args w = some v) : ∃ u l, args = [u] ∧ podsIn w u = some l ∧ v = errB (podsB l) 30 := by
  unfold F14 at h
  split at h
  · obtain ⟨l, h1, h2⟩ := Option.map_eq_some_iff.1 h
    exact ⟨_, l, rfl, h1, h2.symm⟩
  · cases h
noncomputable def o33 : Ov := ovP 33 F33 oW
theorem ok33 : OvOk Tryd.prog o33 := pure_ok no_count mixed okW' (fun _ _ _ h => h) fun args w v hl h => by
  obtain ⟨n, a, b, rfl, rfl⟩ := F33_some h
  obtain ⟨_, w', h1, rfl⟩ := run33 (oW_none (by decide)) n a b w
  exact ⟨rfl, 2, w', _, h1⟩
noncomputable def o46 : Ov := ovP 46 F46 o33
theorem ok46 : OvOk Tryd.prog o46 := pure_ok no_count mixed ok33 (fun _ _ _ h => h) fun args w v hl h => by
  obtain ⟨lo, hi, a, b, rfl, rfl⟩ := F46_some h
  obtain ⟨_, w', h1, rfl⟩ := run46 (ovP_none (f := 33) (by decide) (oW_none (by decide))) lo hi a b w
  exact ⟨rfl, 2, w', _, h1⟩
noncomputable def o79 : Ov := ovP 79 F46 o46
theorem ok79 : OvOk Tryd.prog o79 := pure_ok no_count mixed ok46 (fun _ _ _ h => h) fun args w v hl h => by
  obtain ⟨lo, hi, a, b, rfl, rfl⟩ := F46_some h
  obtain ⟨_, w', h1, rfl⟩ := run79 (ovP_none (f := 46) (by decide) (ovP_none (f := 33) (by decide) (oW_none (by decide)))) lo hi a b w
  exact ⟨rfl, 2, w', _, h1⟩
noncomputable def o100 : Ov := ovP 100 F100 o79
theorem ok100 : OvOk Tryd.prog o100 := pure_ok no_count mixed ok79 (fun _ _ _ h => h) fun args w v hl h => by
  obtain ⟨c, rfl, rfl⟩ := F100_some h
  obtain ⟨_, w', h1, rfl⟩ := run100 (ovP_none (f := 79) (by decide) (ovP_none (f := 46) (by decide) (ovP_none (f := 33) (by decide) (oW_none (by decide))))) c w
  exact ⟨rfl, 2, w', _, h1⟩
noncomputable def o101 : Ov := ovP 101 F101 o100
theorem ok101 : OvOk Tryd.prog o101 := pure_ok no_count mixed ok100 (fun _ _ _ h => h) fun args w v hl h => by
  obtain ⟨c, rfl, rfl⟩ := F101_some h
  obtain ⟨_, w', h1, rfl⟩ := run101 (ovP_none (f := 100) (by decide) (ovP_none (f := 79) (by decide) (ovP_none (f := 46) (by decide) (ovP_none (f := 33) (by decide) (oW_none (by decide)))))) c w
  exact ⟨rfl, 2, w', _, h1⟩
noncomputable def o87 : Ov := ovP 87 F87 o101
theorem ok87 : OvOk Tryd.prog o87 := pure_ok no_count mixed ok101 (fun _ _ _ h => h) fun args w v hl h => by
  obtain ⟨s, rfl, rfl⟩ := F87_some h
  obtain ⟨_, w', h1, rfl⟩ := run87 (ovP_none (f := 101) (by decide) (ovP_none (f := 100) (by decide) (ovP_none (f := 79) (by decide) (ovP_none (f := 46) (by decide) (ovP_none (f := 33) (by decide) (oW_none (by decide))))))) (HasP.skip (g := 101) (by decide) (.here)) (.here) s w
  exact ⟨rfl, 2, w', _, h1⟩
noncomputable def o45 : Ov := ovP 45 F87 o87
theorem ok45 : OvOk Tryd.prog o45 := pure_ok no_count mixed ok87 (fun _ _ _ h => h) fun args w v hl h => by
  obtain ⟨s, rfl, rfl⟩ := F87_some h
  obtain ⟨_, w', h1, rfl⟩ := run45 (ovP_none (f := 87) (by decide) (ovP_none (f := 101) (by decide) (ovP_none (f := 100) (by decide) (ovP_none (f := 79) (by decide) (ovP_none (f := 46) (by decide) (ovP_none (f := 33) (by decide) (oW_none (by decide)))))))) (HasP.skip (g := 87) (by decide) (HasP.skip (g := 101) (by decide) (HasP.skip (g := 100) (by decide) (HasP.skip (g := 79) (by decide) (HasP.skip (g := 46) (by decide) (.here)))))) s w
  exact ⟨rfl, 2, w', _, h1⟩
noncomputable def o70 : Ov := ovP 70 F70 o45
theorem ok70 : OvOk Tryd.prog o70 := pure_ok no_count mixed ok45 (fun _ _ _ h => h) fun args w v hl h => by
  obtain ⟨p, rfl, rfl⟩ := F70_some h
  obtain ⟨_, w', h1, rfl⟩ := run70 (ovP_none (f := 45) (by decide) (ovP_none (f := 87) (by decide) (ovP_none (f := 101) (by decide) (ovP_none (f := 100) (by decide) (ovP_none (f := 79) (by decide) (ovP_none (f := 46) (by decide) (ovP_none (f := 33) (by decide) (oW_none (by decide))))))))) (HasP.skip (g := 45) (by decide) (.here)) (HasP.skip (g := 45) (by decide) (HasP.skip (g := 87) (by decide) (HasP.skip (g := 101) (by decide) (HasP.skip (g := 100) (by decide) (.here))))) p w
  exact ⟨rfl, 2, w', _, h1⟩
noncomputable def o48 : Ov := ovP 48 F48 o70
theorem ok48 : OvOk Tryd.prog o48 := pure_ok no_count mixed ok70 (fun _ _ _ h => h) fun args w v hl h => by
  obtain ⟨a, b, rfl, rfl⟩ := F48_some h
  obtain ⟨_, w', h1, rfl⟩ := run48 (ovP_none (f := 70) (by decide) (ovP_none (f := 45) (by decide) (ovP_none (f := 87) (by decide) (ovP_none (f := 101) (by decide) (ovP_none (f := 100) (by decide) (ovP_none (f := 79) (by decide) (ovP_none (f := 46) (by decide) (ovP_none (f := 33) (by decide) (oW_none (by decide)))))))))) a b w
  exact ⟨rfl, 2, w', _, h1⟩
noncomputable def o47 : Ov := ovP 47 F47 o48
theorem ok47 : OvOk Tryd.prog o47 := pure_ok no_count mixed ok48 (fun _ _ _ h => h) fun args w v hl h => by
  obtain ⟨p, rfl, rfl⟩ := F47_some h
  obtain ⟨_, w', h1, rfl⟩ := run47 (ovP_none (f := 48) (by decide) (ovP_none (f := 70) (by decide) (ovP_none (f := 45) (by decide) (ovP_none (f := 87) (by decide) (ovP_none (f := 101) (by decide) (ovP_none (f := 100) (by decide) (ovP_none (f := 79) (by decide) (ovP_none (f := 46) (by decide) (ovP_none (f := 33) (by decide) (oW_none (by decide))))))))))) p w hl
  exact ⟨rfl, 2, w', _, h1⟩
noncomputable def o49 : Ov := ovP 49 F47 o47
theorem ok49 : OvOk Tryd.prog o49 := pure_ok no_count mixed ok47 (fun _ _ _ h => h) fun args w v hl h => by
  obtain ⟨p, rfl, rfl⟩ := F47_some h
  obtain ⟨_, w', h1, rfl⟩ := run49 (ovP_none (f := 47) (by decide) (ovP_none (f := 48) (by decide) (ovP_none (f := 70) (by decide) (ovP_none (f := 45) (by decide) (ovP_none (f := 87) (by decide) (ovP_none (f := 101) (by decide) (ovP_none (f := 100) (by decide) (ovP_none (f := 79) (by decide) (ovP_none (f := 46) (by decide) (ovP_none (f := 33) (by decide) (oW_none (by decide)))))))))))) p w hl
  exact ⟨rfl, 2, w', _, h1⟩
noncomputable def o44 : Ov := ovP 44 F44 o49
theorem ok44 : OvOk Tryd.prog o44 := pure_ok no_count mixed ok49 (fun _ _ _ h => h) fun args w v hl h => by
  obtain ⟨u, l, rfl, hin, rfl⟩ := F44_some h
  obtain ⟨_, w', h1, rfl⟩ := run44 (ovP_none (f := 49) (by decide) (ovP_none (f := 47) (by decide) (ovP_none (f := 48) (by decide) (ovP_none (f := 70) (by decide) (ovP_none (f := 45) (by decide) (ovP_none (f := 87) (by decide) (ovP_none (f := 101) (by decide) (ovP_none (f := 100) (by decide) (ovP_none (f := 79) (by decide) (ovP_none (f := 46) (by decide) (ovP_none (f := 33) (by decide) (oW_none (by decide))))))))))))) (HasP.skip (g := 49) (by decide) (HasP.skip (g := 47) (by decide) (HasP.skip (g := 48) (by decide) (.here)))) u l w hl (podsIn_some hin)
  exact ⟨rfl, 2, w', _, h1⟩
noncomputable def o14 : Ov := ovP 14 F14 o44
theorem ok14 : OvOk Tryd.prog o14 := pure_ok no_count mixed ok44 (fun _ _ _ h => h) fun args w v hl h => by
  obtain ⟨u, l, rfl, hin, rfl⟩ := F14_some h
  obtain ⟨_, w', h1, rfl⟩ := run14 (ovP_none (f := 44) (by decide) (ovP_none (f := 49) (by decide) (ovP_none (f := 47) (by decide) (ovP_none (f := 48) (by decide) (ovP_none (f := 70) (by decide) (ovP_none (f := 45) (by decide) (ovP_none (f := 87) (by decide) (ovP_none (f := 101) (by decide) (ovP_none (f := 100) (by decide) (ovP_none (f := 79) (by decide) (ovP_none (f := 46) (by decide) (ovP_none (f := 33) (by decide) (oW_none (by decide)))))))))))))) (.here) u l w hin
  exact ⟨rfl, 2, w', _, h1⟩
noncomputable def o15 : Ov := ovP 15 F14 o14
theorem ok15 : OvOk Tryd.prog o15 := pure_ok no_count mixed ok14 (fun _ _ _ h => h) fun args w v hl h => by
  obtain ⟨u, l, rfl, hin, rfl⟩ := F14_some h
  obtain ⟨_, w', h1, rfl⟩ := run15 (ovP_none (f := 14) (by decide) (ovP_none (f := 44) (by decide) (ovP_none (f := 49) (by decide) (ovP_none (f := 47) (by decide) (ovP_none (f := 48) (by decide) (ovP_none (f := 70) (by decide) (ovP_none (f := 45) (by decide) (ovP_none (f := 87) (by decide) (ovP_none (f := 101) (by decide) (ovP_none (f := 100) (by decide) (ovP_none (f := 79) (by decide) (ovP_none (f := 46) (by decide) (ovP_none (f := 33) (by decide) (oW_none (by decide))))))))))))))) (HasP.skip (g := 14) (by decide) (HasP.skip (g := 44) (by decide) (HasP.skip (g := 49) (by decide) (HasP.skip (g := 47) (by decide) (HasP.skip (g := 48) (by decide) (HasP.skip (g := 70) (by decide) (.here))))))) (HasP.skip (g := 14) (by decide) (HasP.skip (g := 44) (by decide) (HasP.skip (g := 49) (by decide) (HasP.skip (g := 47) (by decide) (HasP.skip (g := 48) (by decide) (HasP.skip (g := 70) (by decide) (HasP.skip (g := 45) (by decide) (HasP.skip (g := 87) (by decide) (HasP.skip (g := 101) (by decide) (HasP.skip (g := 100) (by decide) (HasP.skip (g := 79) (by decide) (HasP.skip (g := 46) (by decide) (.here))))))))))))) (HasP.skip (g := 14) (by decide) (HasP.skip (g := 44) (by decide) (HasP.skip (g := 49) (by decide) (HasP.skip (g := 47) (by decide) (HasP.skip (g := 48) (by decide) (HasP.skip (g := 70) (by decide) (HasP.skip (g := 45) (by decide) (HasP.skip (g := 87) (by decide) (HasP.skip (g := 101) (by decide) (HasP.skip (g := 100) (by decide) (HasP.skip (g := 79) (by decide) (.here)))))))))))) u l w hl (podsIn_some hin)
  exact ⟨rfl, 2, w', _, h1⟩
noncomputable def o16 : Ov := ovP 16 F16 o15
theorem ok16 : OvOk Tryd.prog o16 := pure_ok no_count mixed ok15 (fun _ _ _ h => h) fun args w v hl h => by
  obtain ⟨p, rfl, rfl⟩ := F16_some h
  obtain ⟨_, w', h1, rfl⟩ := run16 (ovP_none (f := 15) (by decide) (ovP_none (f := 14) (by decide) (ovP_none (f := 44) (by decide) (ovP_none (f := 49) (by decide) (ovP_none (f := 47) (by decide) (ovP_none (f := 48) (by decide) (ovP_none (f := 70) (by decide) (ovP_none (f := 45) (by decide) (ovP_none (f := 87) (by decide) (ovP_none (f := 101) (by decide) (ovP_none (f := 100) (by decide) (ovP_none (f := 79) (by decide) (ovP_none (f := 46) (by decide) (ovP_none (f := 33) (by decide) (oW_none (by decide)))))))))))))))) (HasP.skip (g := 15) (by decide) (.here)) (HasP.skip (g := 15) (by decide) (HasP.skip (g := 14) (by decide) (HasP.skip (g := 44) (by decide) (HasP.skip (g := 49) (by decide) (.here))))) (HasP.skip (g := 15) (by decide) (HasP.skip (g := 14) (by decide) (HasP.skip (g := 44) (by decide) (HasP.skip (g := 49) (by decide) (HasP.skip (g := 47) (by decide) (.here)))))) p w hl
  exact ⟨rfl, 2, w', _, h1⟩
noncomputable def o17 : Ov := ovP 17 F16 o16
theorem ok17 : OvOk Tryd.prog o17 := pure_ok no_count mixed ok16 (fun _ _ _ h => h) fun args w v hl h => by
  obtain ⟨p, rfl, rfl⟩ := F16_some h
  obtain ⟨_, w', h1, rfl⟩ := run17 (ovP_none (f := 16) (by decide) (ovP_none (f := 15) (by decide) (ovP_none (f := 14) (by decide) (ovP_none (f := 44) (by decide) (ovP_none (f := 49) (by decide) (ovP_none (f := 47) (by decide) (ovP_none (f := 48) (by decide) (ovP_none (f := 70) (by decide) (ovP_none (f := 45) (by decide) (ovP_none (f := 87) (by decide) (ovP_none (f := 101) (by decide) (ovP_none (f := 100) (by decide) (ovP_none (f := 79) (by decide) (ovP_none (f := 46) (by decide) (ovP_none (f := 33) (by decide) (oW_none (by decide))))))))))))))))) (HasP.skip (g := 16) (by decide) (.here)) (HasP.skip (g := 16) (by decide) (HasP.skip (g := 15) (by decide) (HasP.skip (g := 14) (by decide) (HasP.skip (g := 44) (by decide) (.here))))) p w hl
  exact ⟨rfl, 2, w', _, h1⟩
theorem top_true (v : Value) (l : List Pod) (w : AW) (hl : w.lim = w.next) (hpos : 0 < w.next) (hparts : PartsAt w) (hv : PodsV w v l) : ∃ w' x', (run Tryd.prog o17 2).call 3 [v] w .none = .ok (.ret (.bool true)) w' x' := by
  obtain ⟨_, w', h1, rfl⟩ := run3 (ovP_none (f := 17) (by decide) (ovP_none (f := 16) (by decide) (ovP_none (f := 15) (by decide) (ovP_none (f := 14) (by decide) (ovP_none (f := 44) (by decide) (ovP_none (f := 49) (by decide) (ovP_none (f := 47) (by decide) (ovP_none (f := 48) (by decide) (ovP_none (f := 70) (by decide) (ovP_none (f := 45) (by decide) (ovP_none (f := 87) (by decide) (ovP_none (f := 101) (by decide) (ovP_none (f := 100) (by decide) (ovP_none (f := 79) (by decide) (ovP_none (f := 46) (by decide) (ovP_none (f := 33) (by decide) (oW_none (by decide)))))))))))))))))) (HasP.skip (g := 17) (by decide) (HasP.skip (g := 16) (by decide) (HasP.skip (g := 15) (by decide) (.here)))) (HasP.skip (g := 17) (by decide) (HasP.skip (g := 16) (by decide) (.here))) (HasP.skip (g := 17) (by decide) (.here)) (.here) (HasW.skip (f := 17) (by decide) (HasW.skip (f := 16) (by decide) (HasW.skip (f := 15) (by decide) (HasW.skip (f := 14) (by decide) (HasW.skip (f := 44) (by decide) (HasW.skip (f := 49) (by decide) (HasW.skip (f := 47) (by decide) (HasW.skip (f := 48) (by decide) (HasW.skip (f := 70) (by decide) (HasW.skip (f := 45) (by decide) (HasW.skip (f := 87) (by decide) (HasW.skip (f := 101) (by decide) (HasW.skip (f := 100) (by decide) (HasW.skip (f := 79) (by decide) (HasW.skip (f := 46) (by decide) (HasW.skip (f := 33) (by decide) (oW_has))))))))))))))))) v l w hl hpos hparts hv hv.podsIn
  exact ⟨w', _, h1⟩
end Go.Proofs.YtanpablcoimajaaDoor.walk

namespace Go.Proofs.YtanpablcoimajaaDoor.walk
open Go Go.Sh
open known (partsC laidL noOv)
set_option maxRecDepth 100000
theorem ty22 : tyOk Tryd.prog 6 22 = true := by kernel_rfl
theorem u22 : Tryd.prog.underlying 22 = some (.slice 30) := by kernel_rfl
theorem u3 : Tryd.prog.underlying 3 = some (.int .i64) := by kernel_rfl
theorem u9 : Tryd.prog.underlying 9 = some .string := by kernel_rfl
theorem u30 : Tryd.prog.underlying 30 = some (.struct (fieldsOf Tryd.prog 30)) := by kernel_rfl
theorem f30 : (fieldsOf Tryd.prog 30).toList.map (fun f => (f.type, f.offset)) = [(9, 0), (3, 1), (26, 2), (26, 4), (26, 6)] := by kernel_rfl
theorem u26 : Tryd.prog.underlying 26 = some (.struct (fieldsOf Tryd.prog 26)) := by kernel_rfl
theorem f26 : (fieldsOf Tryd.prog 26).toList.map (fun f => (f.type, f.offset)) = [(3, 0), (3, 1)] := by kernel_rfl
theorem c3 : Tryd.prog.cellsOf 3 = 1 := by kernel_rfl
theorem c9 : Tryd.prog.cellsOf 9 = 1 := by kernel_rfl
theorem c26 : Tryd.prog.cellsOf 26 = 2 := by kernel_rfl
theorem c30 : Tryd.prog.cellsOf 30 = 8 := by kernel_rfl
theorem span_of {H : T AObj} {n : Nat} {cs : List Value} (h : WT Tryd.prog H n 26 cs) : ∃ a b, cs = [.int .i64 a, .int .i64 b] := by
  obtain ⟨hl, hf⟩ := h.toStruct u26
  rw [f26] at hf
  rw [c26] at hl
  obtain ⟨a, ha, _⟩ := (hf (3, 0) (by simp)).toInt u3
  obtain ⟨b, hb, _⟩ := (hf (3, 1) (by simp)).toInt u3
  rw [c3] at ha hb
  match cs, hl with
  | [x, y], _ =>
    simp at ha hb
    exact ⟨a, b, by rw [ha, hb]⟩
theorem pod_of {H : T AObj} {n : Nat} {cs : List Value} (h : WT Tryd.prog H n 30 cs) : ∃ p, cs = podC p := by
  obtain ⟨hl, hf⟩ := h.toStruct u30
  rw [f30] at hf
  rw [c30] at hl
  obtain ⟨s, hs, _⟩ := (hf (9, 0) (by simp)).toStr u9
  obtain ⟨b, hb, _⟩ := (hf (3, 1) (by simp)).toInt u3
  obtain ⟨rl, rh, hr⟩ := span_of (hf (26, 2) (by simp))
  obtain ⟨hl', hh, hh'⟩ := span_of (hf (26, 4) (by simp))
  obtain ⟨gl, gh, hg⟩ := span_of (hf (26, 6) (by simp))
  rw [c9] at hs
  rw [c3] at hb
  rw [c26] at hr hh' hg
  match cs, hl with
  | [x0, x1, x2, x3, x4, x5, x6, x7], _ =>
    simp at hs hb hr hh' hg
    exact ⟨⟨s, b, rl, rh, hl', hh, gl, gh⟩, by rw [hs, hb, hr.1, hr.2, hh'.1, hh'.2, hg.1, hg.2]; rfl⟩
theorem pods_of {A : AW} {m : Value} (h : ArgT Tryd.prog A.heap A.next 22 m) : ∃ l, PodsV A m l := by
  unfold ArgT at h
  rw [u22] at h
  rcases WT.toSlice u22 h with ⟨a, ha⟩ | ⟨b, k, c, ty, ro, ha, hb, hg, hk, _, hc, he⟩
  · cases ha; exact ⟨[], .inl ⟨a, 0, rfl, rfl⟩⟩
  · cases ha
    rw [c30] at hc he
    obtain ⟨l, h1, h2⟩ := chunks (f := podC) podC_length k c hc fun i hi => pod_of (he i hi)
    subst h1
    refine ⟨l, .inr ⟨b, some 1, l.length, rfl, ⟨[], ty, ro, ?_⟩, hb⟩⟩
    rw [hg, List.append_nil, h2]; rfl
theorem parts_start : (startH laidL).get 0 = some (.cells partsC 122 true) := by
  show ((startH []).put 0 (some (.cells partsC 122 true))).get 0 = _
  rw [get_put, if_pos rfl]
theorem start_true (A : AW) (ms : List Value) (hl : A.lim = A.next) (hG : Tryd.prog.globals.size ≤ A.next) (hs : ∀ b, b < Tryd.prog.globals.size → A.heap.get b = (startH laidL).get b) (hms : ArgsT Tryd.prog A.heap A.next [22] ms) :
    ∃ A' x', (run Tryd.prog o17 2).call 3 ms A .none = .ok (.ret (.bool true)) A' x' := by
  rw [globals1] at hG hs
  match ms, hms with
  | [m], hm =>
    obtain ⟨l, hv⟩ := pods_of hm.1
    exact top_true m l A hl hG ⟨true, by rw [hs 0 (by decide), parts_start]⟩ hv
end Go.Proofs.YtanpablcoimajaaDoor.walk
