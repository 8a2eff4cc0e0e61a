/- Part of a proof by a machine of ones own: see the text with the theorem. -/
import Derived.Test.YtcolofoifhbdpaaGreatDoorVX
import Derived.Test.YtcolofoifhbdpaaGreatDoorVFb
import Derived.Test.YtcolofoifhbdpaaGreatDoorShF
namespace Go.Proofs.YtcolofoifhbdpaaGreatDoor.walk
open Go Go.Sh
set_option maxRecDepth 100000
theorem mixed : Tryz.prog.follows .mixedOrders = true := by kernel_rfl
theorem globals7 : Tryz.prog.globals.size = 7 := by kernel_rfl
theorem no_count : NoCount Tryz.prog := NoCount.of (by kernel_rfl)
theorem works_ov (fact : resIs (spanV 1 2) ((run Tryz.prog noOv 1000).call 27 (flowersA 246 248 1) (startA 249 (flowersL 246 248)) .none) = true) : OvOk Tryz.prog worksOv :=
  memo_ok no_count mixed ov_none fact (by kernel_rfl) (by kernel_rfl) (by rw [globals7]; decide) (by kernel_rfl) ov_none
noncomputable def oW : Ov := memoOv 11 [] laidL (.bool true) noOv
theorem okW' (fact : resIs (spanV 1 2) ((run Tryz.prog noOv 1000).call 27 (flowersA 246 248 1) (startA 249 (flowersL 246 248)) .none) = true) : OvOk Tryz.prog oW := memo_ok no_count mixed (works_ov fact) works_true (by kernel_rfl) (by kernel_rfl) (by rw [globals7]; exact Nat.le_refl _) (by kernel_rfl) ov_none
theorem oW_none {f : Nat} (hf : f ≠ 11) (args : List Value) (w : AW) : oW f args w = none := by
  have : Nat.beq f 11 = false := by rw [← Bool.not_eq_true]; intro h; exact hf (Nat.eq_of_beq_eq_true h)
  simp [oW, memoOv, this, noOv]
theorem oW_has : HasW oW := fun w hw => by
  simp [oW, memoOv, hw, sameL5, sameVal.sameVals]
theorem HasW.skip {f : Nat} {F : PureF} {rest : Ov} (hf : 11 ≠ f) (h : HasW rest) : HasW (ovP f F rest) := fun w hw => by simp [ovP, hf, h w hw]
theorem ovP_none {f g : Nat} {F : PureF} {rest : Ov} (hne : g ≠ f) (h : ∀ args w, rest g args w = none) (args : List Value) (w : AW) : ovP f F rest g args w = none := by simp [ovP, hne, h]
theorem F15_some {args : List Value} {w : AW} {v : Value} (h : F15 args w = some v) : ∃ n a b, args = [.int .i64 n, .int .i64 a, .int .i64 b] ∧ v = .bool (inI a n b) := by
  unfold F15 at h
  split at h
  · cases h; exact ⟨_, _, _, rfl, rfl⟩
  · cases h
theorem F33_some {args : List Value} {w : AW} {v : Value} (h : F33 args w = some v) : ∃ n b, args = [.int .i64 n, .int .i64 b] ∧ v = .bool (inI 0 n b) := by
  unfold F33 at h
  split at h
  · cases h; exact ⟨_, _, rfl, rfl⟩
  · cases h
theorem F12_some {args : List Value} {w : AW} {v : Value} (h : F12 args w = some v) : ∃ n b, args = [.int .i64 n, .int .i64 b] ∧ v = .int .i64 (wrapI n b) := by
  unfold F12 at h
  split at h
  · cases h; exact ⟨_, _, rfl, rfl⟩
  · cases h
theorem F13_some {args : List Value} {w : AW} {v : Value} (h : F13 args w = some v) : ∃ c, args = [.int .u8 c] ∧ v = .bool (inI 97 c 122) := by
  unfold F13 at h
  split at h
  · cases h; exact ⟨_, rfl, rfl⟩
  · cases h
theorem F14_some {args : List Value} {w : AW} {v : Value} (h : F14 args w = some v) : ∃ c, args = [.int .u8 c] ∧ v = .bool (inI 48 c 57) := by
  unfold F14 at h
  split at h
  · cases h; exact ⟨_, rfl, rfl⟩
  · cases h
theorem F5_some {args : List Value} {w : AW} {v : Value} (h : F5 args w = some v) : ∃ s, args = [.string s] ∧ v = .bool (wordB s.data.toList) := by
  unfold F5 at h
  split at h
  · cases h; exact ⟨_, rfl, rfl⟩
  · cases h
theorem F34_some {args : List Value} {w : AW} {v : Value} (h : F34 args w = some v) : ∃ u l, args = [u] ∧ racAt w.next w.heap u = some l ∧ v = .bool (racB l) := by
  unfold F34 at h
  split at h
  · obtain ⟨l, h1, h2⟩ := Option.map_eq_some_iff.1 h
    exact ⟨_, l, rfl, h1, h2.symm⟩
  · cases h
theorem F18_some {args : List Value} {w : AW} {v : Value} (h : F18 args w = some v) : ∃ p, args = [.agg ⟨vinC p⟩] ∧ racAt w.next w.heap p.rv = some p.rs ∧ v = .bool (vinB p) := by
  unfold F18 at h
  split at h
  · obtain ⟨p, h1, h2⟩ := Option.map_eq_some_iff.1 h
    obtain ⟨h3, h4⟩ := vinOf_some h1
    exact ⟨p, by rw [h3], h4, h2.symm⟩
  · cases h
theorem F9_some {args : List Value} {w : AW} {v : Value} (h : F9 args w = some v) : ∃ p, args = [.agg ⟨vinC p⟩] ∧ racAt w.next w.heap p.rv = some p.rs ∧ v = .tuple ⟨[.int .i64 (bearN p), .int .i64 (bearE p)]⟩ := by
  unfold F9 at h
  split at h
  · obtain ⟨p, h1, h2⟩ := Option.map_eq_some_iff.1 h
    obtain ⟨h3, h4⟩ := vinOf_some h1
    exact ⟨p, by rw [h3], h4, h2.symm⟩
  · cases h
theorem F16_some {args : List Value} {w : AW} {v : Value} (h : F16 args w = some v) : ∃ u l, args = [u] ∧ vinesIn w.next w.heap u = some l ∧ v = .bool (gardB l) := by
  unfold F16 at h
  split at h
  · obtain ⟨l, h1, h2⟩ := Option.map_eq_some_iff.1 h
    exact ⟨_, l, rfl, h1, h2.symm⟩
  · cases h
theorem F7_some {args : List Value} {w : AW} {v : Value} (h : F7 args w = some v) : ∃ u l, args = [u] ∧ vinesIn w.next w.heap u = some l ∧ v = errB (gardB l) 11 := by
  unfold F7 at h
  split at h
  · obtain ⟨l, h1, h2⟩ := Option.map_eq_some_iff.1 h
    exact ⟨_, l, rfl, h1, h2.symm⟩
  · cases h
noncomputable def o15 : Ov := ovP 15 F15 oW
noncomputable def o33 : Ov := ovP 33 F33 o15
noncomputable def o13 : Ov := ovP 13 F13 o33
noncomputable def o14 : Ov := ovP 14 F14 o13
noncomputable def o5 : Ov := ovP 5 F5 o14
noncomputable def o34 : Ov := ovP 34 F34 o5
noncomputable def o18 : Ov := ovP 18 F18 o34
noncomputable def o9 : Ov := ovP 9 F9 o18
noncomputable def o12 : Ov := ovP 12 F12 o9
section
variable (fact : resIs (spanV 1 2) ((run Tryz.prog noOv 1000).call 27 (flowersA 246 248 1) (startA 249 (flowersL 246 248)) .none) = true)
include fact
theorem ok15 : OvOk Tryz.prog o15 := pure_ok no_count mixed (okW' fact) (fun _ _ _ h => h) fun args w v hl h => by
  obtain ⟨n, a, b, rfl, rfl⟩ := F15_some h
  obtain ⟨_, w', h1, rfl⟩ := run15 (oW_none (by decide))  n a b w
  exact ⟨rfl, 2, w', _, h1⟩
theorem ok33 : OvOk Tryz.prog o33 := pure_ok no_count mixed (ok15 fact) (fun _ _ _ h => h) fun args w v hl h => by
  obtain ⟨n, b, rfl, rfl⟩ := F33_some h
  obtain ⟨_, w', h1, rfl⟩ := run33 (ovP_none (f := 15) (by decide) (oW_none (by decide)))  n b w
  exact ⟨rfl, 2, w', _, h1⟩
theorem ok13 : OvOk Tryz.prog o13 := pure_ok no_count mixed (ok33 fact) (fun _ _ _ h => h) fun args w v hl h => by
  obtain ⟨c, rfl, rfl⟩ := F13_some h
  obtain ⟨_, w', h1, rfl⟩ := run13 (ovP_none (f := 33) (by decide) (ovP_none (f := 15) (by decide) (oW_none (by decide))))  c w
  exact ⟨rfl, 2, w', _, h1⟩
theorem ok14 : OvOk Tryz.prog o14 := pure_ok no_count mixed (ok13 fact) (fun _ _ _ h => h) fun args w v hl h => by
  obtain ⟨c, rfl, rfl⟩ := F14_some h
  obtain ⟨_, w', h1, rfl⟩ := run14 (ovP_none (f := 13) (by decide) (ovP_none (f := 33) (by decide) (ovP_none (f := 15) (by decide) (oW_none (by decide)))))  c w
  exact ⟨rfl, 2, w', _, h1⟩
theorem ok5 : OvOk Tryz.prog o5 := pure_ok no_count mixed (ok14 fact) (fun _ _ _ h => h) fun args w v hl h => by
  obtain ⟨s, rfl, rfl⟩ := F5_some h
  obtain ⟨_, w', h1, rfl⟩ := run5 (ovP_none (f := 14) (by decide) (ovP_none (f := 13) (by decide) (ovP_none (f := 33) (by decide) (ovP_none (f := 15) (by decide) (oW_none (by decide)))))) (HasP.skip (g := 14) (by decide) .here) .here s w
  exact ⟨rfl, 2, w', _, h1⟩
theorem ok34 : OvOk Tryz.prog o34 := pure_ok no_count mixed (ok5 fact) (fun _ _ _ h => h) fun args w v hl h => by
  obtain ⟨u, l, rfl, hv, rfl⟩ := F34_some h
  obtain ⟨_, w', h1, rfl⟩ := run34 (ovP_none (f := 5) (by decide) (ovP_none (f := 14) (by decide) (ovP_none (f := 13) (by decide) (ovP_none (f := 33) (by decide) (ovP_none (f := 15) (by decide) (oW_none (by decide))))))) (HasP.skip (g := 5) (by decide) (HasP.skip (g := 14) (by decide) (HasP.skip (g := 13) (by decide) .here))) u l w hl hv
  exact ⟨rfl, 2, w', _, h1⟩
theorem ok18 : OvOk Tryz.prog o18 := pure_ok no_count mixed (ok34 fact) (fun _ _ _ h => h) fun args w v hl h => by
  obtain ⟨u, rfl, hv, rfl⟩ := F18_some h
  obtain ⟨_, w', h1, rfl⟩ := run18 (ovP_none (f := 34) (by decide) (ovP_none (f := 5) (by decide) (ovP_none (f := 14) (by decide) (ovP_none (f := 13) (by decide) (ovP_none (f := 33) (by decide) (ovP_none (f := 15) (by decide) (oW_none (by decide)))))))) (HasP.skip (g := 34) (by decide) .here) (HasP.skip (g := 34) (by decide) (HasP.skip (g := 5) (by decide) (HasP.skip (g := 14) (by decide) (HasP.skip (g := 13) (by decide) .here)))) .here u w hv
  exact ⟨rfl, 2, w', _, h1⟩
theorem ok9 : OvOk Tryz.prog o9 := pure_ok no_count mixed (ok18 fact) (fun _ _ _ h => h) fun args w v hl h => by
  obtain ⟨u, rfl, hv, rfl⟩ := F9_some h
  obtain ⟨_, w', h1, rfl⟩ := run9 (ovP_none (f := 18) (by decide) (ovP_none (f := 34) (by decide) (ovP_none (f := 5) (by decide) (ovP_none (f := 14) (by decide) (ovP_none (f := 13) (by decide) (ovP_none (f := 33) (by decide) (ovP_none (f := 15) (by decide) (oW_none (by decide))))))))) .here u w hl hv
  exact ⟨rfl, 2, w', _, h1⟩
theorem ok12 : OvOk Tryz.prog o12 := pure_ok no_count mixed (ok9 fact) (fun _ _ _ h => h) fun args w v hl h => by
  obtain ⟨n, b, rfl, rfl⟩ := F12_some h
  obtain ⟨_, w', h1, rfl⟩ := run12 (ovP_none (f := 9) (by decide) (ovP_none (f := 18) (by decide) (ovP_none (f := 34) (by decide) (ovP_none (f := 5) (by decide) (ovP_none (f := 14) (by decide) (ovP_none (f := 13) (by decide) (ovP_none (f := 33) (by decide) (ovP_none (f := 15) (by decide) (oW_none (by decide))))))))))  n b w
  exact ⟨rfl, 2, w', _, h1⟩
end
theorem top_true (v : Vin) (x y : Int) (w : AW) (hl : w.lim = w.next) (h7 : 7 ≤ w.next) (hlaid : hasAll w laidL = true) (hv : racAt w.next w.heap v.rv = some v.rs) : ∃ w' x', (run Tryz.prog o12 2).call 4 [.agg ⟨vinC v⟩, .agg ⟨[.int .i64 x, .int .i64 y]⟩] w .none = .ok (.ret (.bool true)) w' x' := by
  obtain ⟨_, w', h1, rfl⟩ := run4 (ovP_none (f := 12) (by decide) (ovP_none (f := 9) (by decide) (ovP_none (f := 18) (by decide) (ovP_none (f := 34) (by decide) (ovP_none (f := 5) (by decide) (ovP_none (f := 14) (by decide) (ovP_none (f := 13) (by decide) (ovP_none (f := 33) (by decide) (ovP_none (f := 15) (by decide) (oW_none (by decide))))))))))) (HasP.skip (g := 12) (by decide) .here) .here (HasW.skip (f := 12) (by decide) (HasW.skip (f := 9) (by decide) (HasW.skip (f := 18) (by decide) (HasW.skip (f := 34) (by decide) (HasW.skip (f := 5) (by decide) (HasW.skip (f := 14) (by decide) (HasW.skip (f := 13) (by decide) (HasW.skip (f := 33) (by decide) (HasW.skip (f := 15) (by decide) oW_has))))))))) v x y w hl h7 hlaid hv
  exact ⟨w', _, h1⟩
end Go.Proofs.YtcolofoifhbdpaaGreatDoor.walk

namespace Go.Proofs.YtcolofoifhbdpaaGreatDoor.walk
open Go Go.Sh
set_option maxRecDepth 100000
theorem ty30 : tyOk Tryz.prog 6 30 = true := by kernel_rfl
theorem ty33 : tyOk Tryz.prog 6 33 = true := by kernel_rfl
theorem u33 : Tryz.prog.underlying 33 = some (.array 2 3) := by kernel_rfl
theorem c33 : Tryz.prog.cellsOf 33 = 2 := by kernel_rfl
theorem u3 : Tryz.prog.underlying 3 = some (.int .i64) := by kernel_rfl
theorem u9 : Tryz.prog.underlying 9 = some .string := by kernel_rfl
theorem u30 : Tryz.prog.underlying 30 = some (.struct (fieldsOf Tryz.prog 30)) := by kernel_rfl
theorem f30 : (fieldsOf Tryz.prog 30).toList.map (fun f => (f.type, f.offset)) = [(9, 0), (3, 1), (3, 2), (28, 3)] := by kernel_rfl
theorem u28 : Tryz.prog.underlying 28 = some (.slice 35) := by kernel_rfl
theorem u35 : Tryz.prog.underlying 35 = some (.struct (fieldsOf Tryz.prog 35)) := by kernel_rfl
theorem f35 : (fieldsOf Tryz.prog 35).toList.map (fun f => (f.type, f.offset)) = [(3, 0), (3, 1)] := by kernel_rfl
theorem c3 : Tryz.prog.cellsOf 3 = 1 := by kernel_rfl
theorem c9 : Tryz.prog.cellsOf 9 = 1 := by kernel_rfl
theorem c28 : Tryz.prog.cellsOf 28 = 1 := by kernel_rfl
theorem c35 : Tryz.prog.cellsOf 35 = 2 := by kernel_rfl
theorem c30 : Tryz.prog.cellsOf 30 = 4 := by kernel_rfl
theorem rac_of {H : T AObj} {n : Nat} {cs : List Value} (h : WT Tryz.prog H n 35 cs) : ∃ r, cs = racC r := by
  obtain ⟨hl, hf⟩ := h.toStruct u35
  rw [f35] at hf
  rw [c35] at hl
  obtain ⟨a, ha, _⟩ := (hf (3, 0) (by simp)).toInt u3
  obtain ⟨b, hb, _⟩ := (hf (3, 1) (by simp)).toInt u3
  rw [c3] at ha hb
  match cs, hl with
  | [x, y], _ =>
    simp at ha hb
    exact ⟨⟨a, b⟩, by rw [ha, hb]; rfl⟩
theorem racs_of {H : T AObj} {n : Nat} {cs : List Value} (h : WT Tryz.prog H n 28 cs) : ∃ v l, cs = [v] ∧ racAt n H v = some l := by
  rcases WT.toSlice u28 h with ⟨a, ha⟩ | ⟨b, k, c, ty, ro, ha, hb, hg, hk, _, hc, he⟩
  · exact ⟨_, [], ha, rfl⟩
  · rw [c35] at hc he
    obtain ⟨l, h1, h2⟩ := chunks (f := racC) racC_length k c hc fun i hi => rac_of (he i hi)
    subst h1
    refine ⟨_, l, ha, ?_⟩
    cases l with
    | nil => rfl
    | cons p l =>
      show (if b < n then (cellsO (H.get b)).bind (parseR (p :: l).length) else none) = _
      rw [if_pos hb, hg, h2]
      have := parseR_C (p :: l) []
      rw [List.append_nil] at this
      exact this
theorem vin_of {H : T AObj} {n : Nat} {cs : List Value} (h : WT Tryz.prog H n 30 cs) : ∃ v : Vin, cs = vinC v ∧ racAt n H v.rv = some v.rs := by
  obtain ⟨hl, hf⟩ := h.toStruct u30
  rw [f30] at hf
  rw [c30] at hl
  obtain ⟨s, hs, _⟩ := (hf (9, 0) (by simp)).toStr u9
  obtain ⟨a, ha, _⟩ := (hf (3, 1) (by simp)).toInt u3
  obtain ⟨b, hb, _⟩ := (hf (3, 2) (by simp)).toInt u3
  obtain ⟨v, l, hv, hr⟩ := racs_of (hf (28, 3) (by simp))
  rw [c9] at hs
  rw [c3] at ha hb
  rw [c28] at hv
  match cs, hl with
  | [x0, x1, x2, x3], _ =>
    simp at hs ha hb hv
    exact ⟨⟨s, a, b, v, l⟩, by rw [hs, ha, hb, hv]; rfl, hr⟩
theorem hasAll_congr {w w' : AW} : ∀ (L : List LaidV), (∀ x ∈ L, w.heap.get x.1 = w'.heap.get x.1) → hasAll w L = hasAll w' L
  | [], _ => rfl
  | x :: L, h => by
    have h1 : hasB w x = hasB w' x := by
      obtain ⟨b, c, t⟩ := x
      unfold hasB
      rw [h (b, c, t) (List.mem_cons_self ..)]
    show (bif hasB w x then hasAll w L else false) = (bif hasB w' x then hasAll w' L else false)
    rw [h1, hasAll_congr L fun x hx => h x (List.mem_cons_of_mem _ hx)]
theorem hasAll_start : hasAll (startA 7 laidL) laidL = true := by kernel_rfl
theorem two_of {H : T AObj} {n : Nat} {cs : List Value} (h : WT Tryz.prog H n 33 cs) : ∃ x y : Int, cs = [.int .i64 x, .int .i64 y] := by
  obtain ⟨hl, hf⟩ := h.toArray u33
  rw [c33] at hl
  obtain ⟨a, ha, _⟩ := (hf 0 (by decide)).toInt u3
  obtain ⟨b, hb, _⟩ := (hf 1 (by decide)).toInt u3
  rw [c3] at ha hb
  match cs, hl with
  | [x, y], _ =>
    simp at ha hb
    exact ⟨a, b, by rw [ha, hb]⟩
theorem start_true (A : AW) (ms : List Value) (hl : A.lim = A.next) (hG : Tryz.prog.globals.size ≤ A.next) (hs : ∀ b, b < Tryz.prog.globals.size → A.heap.get b = (startH laidL).get b) (hms : ArgsT Tryz.prog A.heap A.next [30, 33] ms) :
    ∃ A' x', (run Tryz.prog o12 2).call 4 ms A .none = .ok (.ret (.bool true)) A' x' := by
  rw [globals7] at hG hs
  match ms, hms with
  | [m, t], hm =>
    have h1 := hm.1
    have h2 := hm.2.1
    unfold ArgT at h1 h2
    rw [u30] at h1
    rw [u33] at h2
    obtain ⟨c, rfl, h1⟩ := h1
    obtain ⟨d, rfl, h2⟩ := h2
    obtain ⟨v, rfl, hv⟩ := vin_of h1
    obtain ⟨x, y, rfl⟩ := two_of h2
    refine top_true v x y A hl hG ?_ hv
    rw [← hasAll_start]
    refine hasAll_congr _ fun x hx => ?_
    have h7 : ∀ x ∈ laidL, x.1 < 7 := by
      intro x hx
      unfold laidL at hx
      simp at hx
      rcases hx with rfl | rfl | rfl <;> decide
    exact hs x.1 (h7 x hx)
end Go.Proofs.YtcolofoifhbdpaaGreatDoor.walk
