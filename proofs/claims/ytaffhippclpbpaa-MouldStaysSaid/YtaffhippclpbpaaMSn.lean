/- Part of a proof by a machine of ones own: see the text with the theorem. -/
import Derived.Test.YtaffhippclpbpaaMWg
import Derived.Test.YtaffhippclpbpaaMF1
import Derived.Test.YtaffhippclpbpaaMF2
import Derived.Test.YtaffhippclpbpaaMF3
import Derived.Test.YtaffhippclpbpaaMF4
import Derived.Test.YtaffhippclpbpaaMF5
import Derived.Test.YtaffhippclpbpaaShF
import Derived.Test.YtaffhippclpbpaaRows
import Derived.WalkKit
import Derived.ProofKit
import Derived.OpenShut
import Derived.Deep.DeepHandedRow
import Derived.Deep.DeepWitnessRowRef
namespace Go.Proofs.Ytaffhippclpbpaa.walk
open Go Go.Sh
set_option maxRecDepth 100000
theorem mixed : Try.prog.follows .mixedOrders = true := by kernel_rfl
theorem globals0 : Try.prog.globals.size = 0 := by kernel_rfl
theorem no_count : NoCount Try.prog := NoCount.of (by kernel_rfl)
theorem worst_ov : OvOk Try.prog worksOv :=
  memo_ok no_count mixed ov_none worst0 (by kernel_rfl) (by kernel_rfl) (by rw [globals0]; exact Nat.zero_le _) (by kernel_rfl)
    (memo_ok no_count mixed ov_none worst1 (by kernel_rfl) (by kernel_rfl) (by rw [globals0]; exact Nat.zero_le _) (by kernel_rfl)
      (memo_ok no_count mixed ov_none worst2 (by kernel_rfl) (by kernel_rfl) (by rw [globals0]; exact Nat.zero_le _) (by kernel_rfl)
        (memo_ok no_count mixed ov_none worst3 (by kernel_rfl) (by kernel_rfl) (by rw [globals0]; exact Nat.zero_le _) (by kernel_rfl) ov_none)))
noncomputable def oW : Ov := memoOv 11 [] [] (.bool true) noOv
theorem okW' : OvOk Try.prog oW := memo_ok no_count mixed worst_ov works_true (by kernel_rfl) (by kernel_rfl) (by rw [globals0]; exact Nat.le_refl _) (by kernel_rfl) ov_none
theorem oW_none {f : Nat} (hf : f ≠ 11) (args : List Value) (w : AW) : oW f args w = none := by
  have : Nat.beq f 11 = false := by rw [← Bool.not_eq_true]; intro h; exact hf (Nat.eq_of_beq_eq_true h)
  simp [oW, memoOv, this, noOv]
theorem oW_has : HasW oW := fun w => by
  simp [oW, memoOv, hasAll, sameL5, sameVal.sameVals]
theorem HasW.skip {f : Nat} {F : PureF} {rest : Ov} (hf : 11 ≠ f) (h : HasW rest) : HasW (ovP f F rest) := fun w => by simp [ovP, hf, h w]
theorem ovP_none {f g : Nat} {F : PureF} {rest : Ov} (hne : g ≠ f) (h : ∀ args w, rest g args w = none) (args : List Value) (w : AW) : ovP f F rest g args w = none := by simp [ovP, hne, h]
noncomputable def ovL : List (Nat × PureF) → Ov
  | [] => oW
  | x :: l => ovP x.1 x.2 (ovL l)
def keyB (g : Nat) : List (Nat × PureF) → Bool
  | [] => Nat.beq g 11
  | x :: l => Nat.beq g x.1 || keyB g l
def lookF (g : Nat) : List (Nat × PureF) → Option PureF
  | [] => none
  | x :: l => bif Nat.beq g x.1 then some x.2 else lookF g l
theorem beq_no {a b : Nat} (h : Nat.beq a b = false) : a ≠ b := fun e => by rw [e, Nat.beq_refl] at h; cases h
theorem chN {g : Nat} : ∀ {l : List (Nat × PureF)}, keyB g l = false → ∀ args w, ovL l g args w = none
  | [], h => oW_none (beq_no h)
  | x :: l, h => by
    simp only [keyB, Bool.or_eq_false_iff] at h
    exact ovP_none (beq_no h.1) (chN h.2)
theorem chH {g : Nat} {F : PureF} : ∀ {l : List (Nat × PureF)}, lookF g l = some F → HasP (ovL l) g F
  | [], h => by cases h
  | x :: l, h => by
    simp only [lookF] at h
    cases hb : Nat.beq g x.1 with
    | true =>
      rw [hb] at h
      cases h
      have e := Nat.eq_of_beq_eq_true hb
      subst e
      exact .here
    | false =>
      rw [hb] at h
      exact HasP.skip (beq_no hb) (chH h)
def memB (g : Nat) : List (Nat × PureF) → Bool
  | [] => false
  | x :: l => Nat.beq g x.1 || memB g l
theorem chW : ∀ {l : List (Nat × PureF)}, memB 11 l = false → HasW (ovL l)
  | [], _ => oW_has
  | x :: l, h => by
    simp only [memB, Bool.or_eq_false_iff] at h
    exact HasW.skip (beq_no h.1) (chW h.2)
noncomputable def l24 : List (Nat × PureF) := (24, S24.F) :: []
noncomputable def o24 : Ov := ovL l24
theorem ok24 : OvOk Try.prog (ovP 24 S24.F (ovL [])) := S24.ok no_count mixed okW' fun args w v hl h => by
  obtain ⟨n, a, b, rfl, rfl⟩ := h
  obtain ⟨v', w', hc, e⟩ := run24 (ov := (ovL [])) (chN rfl) n a b w
  exact ⟨rfl, 2, v', w', _, hc, e⟩
noncomputable def l48 : List (Nat × PureF) := (48, S24.F) :: l24
noncomputable def o48 : Ov := ovL l48
theorem ok48 : OvOk Try.prog (ovP 48 S24.F o24) := S24.ok no_count mixed ok24 fun args w v hl h => by
  obtain ⟨n, a, b, rfl, rfl⟩ := h
  obtain ⟨v', w', hc, e⟩ := run48 (ov := o24) (chN rfl) n a b w
  exact ⟨rfl, 2, v', w', _, hc, e⟩
noncomputable def l14 : List (Nat × PureF) := (14, S14.F) :: l48
noncomputable def o14 : Ov := ovL l14
theorem ok14 : OvOk Try.prog (ovP 14 S14.F o48) := S14.ok no_count mixed ok48 fun args w v hl h => by
  obtain ⟨s, k, rfl, hk, rfl⟩ := h
  obtain ⟨v', w', hc, e⟩ := run14 (ov := o48) (chN rfl) s k hk w
  exact ⟨rfl, 2, v', w', _, hc, e⟩
noncomputable def l16 : List (Nat × PureF) := (16, S16.F) :: l14
noncomputable def o16 : Ov := ovL l16
theorem ok16 : OvOk Try.prog (ovP 16 S16.F o14) := S16.ok no_count mixed ok14 fun args w v hl h => by
  obtain ⟨n, s, rfl, hs, rfl⟩ := h
  obtain ⟨v', w', hc, e⟩ := run16 (ov := o14) (chN rfl) n s hs w
  exact ⟨rfl, 2, v', w', _, hc, e⟩
noncomputable def l29 : List (Nat × PureF) := (29, S29.F) :: l16
noncomputable def o29 : Ov := ovL l29
theorem ok29 : OvOk Try.prog (ovP 29 S29.F o16) := S29.ok no_count mixed ok16 fun args w v hl h => by
  obtain ⟨x, L, i, rfl, hv, hs, rfl⟩ := h
  obtain ⟨v', w', hc, e⟩ := run29 (ov := o16) (chN rfl) (chH rfl) x L i w hv hs
  exact ⟨rfl, 2, v', w', _, hc, e⟩
noncomputable def l65 : List (Nat × PureF) := (65, S65.F) :: l29
noncomputable def o65 : Ov := ovL l65
theorem ok65 : OvOk Try.prog (ovP 65 S65.F o29) := S65.ok no_count mixed ok29 fun args w v hl h => by
  obtain ⟨a, rfl, ha, rfl⟩ := h
  obtain ⟨v', w', hc, e⟩ := run65 (ov := o29) (chN rfl) a ha w
  exact ⟨rfl, 2, v', w', _, hc, e⟩
noncomputable def l64 : List (Nat × PureF) := (64, S64.F) :: l65
noncomputable def o64 : Ov := ovL l64
theorem ok64 : OvOk Try.prog (ovP 64 S64.F o65) := S64.ok no_count mixed ok65 fun args w v hl h => by
  obtain ⟨a, b, rfl, ha, hb, rfl⟩ := h
  obtain ⟨v', w', hc, e⟩ := run64 (ov := o65) (chN rfl) a b ha hb w
  exact ⟨rfl, 2, v', w', _, hc, e⟩
noncomputable def l61 : List (Nat × PureF) := (61, S61.F) :: l64
noncomputable def o61 : Ov := ovL l61
theorem ok61 : OvOk Try.prog (ovP 61 S61.F o64) := S61.ok no_count mixed ok64 fun args w v hl h => by
  obtain ⟨n, a, rfl, ha, rfl⟩ := h
  obtain ⟨v', w', hc, e⟩ := run61 (ov := o64) (chN rfl) (chH rfl) n a ha w
  exact ⟨rfl, 2, v', w', _, hc, e⟩
noncomputable def l76 : List (Nat × PureF) := (76, S73.F) :: l61
noncomputable def o76 : Ov := ovL l76
theorem ok76 : OvOk Try.prog (ovP 76 S73.F o61) := S73.ok no_count mixed ok61 fun args w v hl h => by
  obtain ⟨a, rfl, ha, rfl⟩ := h
  obtain ⟨v', w', hc, e⟩ := run76 (ov := o61) (chN rfl) a ha w
  exact ⟨rfl, 2, v', w', _, hc, e⟩
noncomputable def l73 : List (Nat × PureF) := (73, S73.F) :: l76
noncomputable def o73 : Ov := ovL l73
theorem ok73 : OvOk Try.prog (ovP 73 S73.F o76) := S73.ok no_count mixed ok76 fun args w v hl h => by
  obtain ⟨a, rfl, ha, rfl⟩ := h
  obtain ⟨v', w', hc, e⟩ := run73 (ov := o76) (chN rfl) (chH rfl) a ha w
  exact ⟨rfl, 2, v', w', _, hc, e⟩
noncomputable def l62 : List (Nat × PureF) := (62, S62.F) :: l73
noncomputable def o62 : Ov := ovL l62
theorem ok62 : OvOk Try.prog (ovP 62 S62.F o73) := S62.ok no_count mixed ok73 fun args w v hl h => by
  obtain ⟨a, rfl, ha, rfl⟩ := h
  obtain ⟨v', w', hc, e⟩ := run62 (ov := o73) (chN rfl) (chH rfl) a ha w
  exact ⟨rfl, 2, v', w', _, hc, e⟩
noncomputable def l56 : List (Nat × PureF) := (56, S56.F) :: l62
noncomputable def o56 : Ov := ovL l56
theorem ok56 : OvOk Try.prog (ovP 56 S56.F o62) := S56.ok no_count mixed ok62 fun args w v hl h => by
  obtain ⟨x, l, rfl, hv, hs, hn, rfl⟩ := h
  obtain ⟨v', w', hc, e⟩ := run56 (ov := o62) (chN rfl) x l w hv hs hn
  exact ⟨rfl, 2, v', w', _, hc, e⟩
noncomputable def l63 : List (Nat × PureF) := (63, S63.F) :: l56
noncomputable def o63 : Ov := ovL l63
theorem ok63 : OvOk Try.prog (ovP 63 S63.F o56) := S63.ok no_count mixed ok56 fun args w v hl h => by
  obtain ⟨r, wv, nv, d, l, b, rfl, hR, hd, hn, rfl⟩ := h
  obtain ⟨v', w', hc, e⟩ := run63 (ov := o56) (chN rfl) (chH rfl) (chH rfl) r wv nv d l b w hl hR hd hn
  exact ⟨rfl, 2, v', w', _, hc, e⟩
noncomputable def l47 : List (Nat × PureF) := (47, S47.F) :: l63
noncomputable def o47 : Ov := ovL l47
theorem ok47 : OvOk Try.prog (ovP 47 S47.F o63) := S47.ok no_count mixed ok63 fun args w v hl h => by
  obtain ⟨r, wv, nv, d, l, p, rfl, hR, hd, hn, hB, hp, rfl⟩ := h
  obtain ⟨v', w', hc, e⟩ := run47 (ov := o63) (chN rfl) (chH rfl) (chH rfl) (chH rfl) r wv nv d l p w hl hR hd hn hB hp
  exact ⟨rfl, 2, v', w', _, hc, e⟩
noncomputable def l46 : List (Nat × PureF) := (46, S46.F) :: l47
noncomputable def o46 : Ov := ovL l46
theorem ok46 : OvOk Try.prog (ovP 46 S46.F o47) := S46.ok no_count mixed ok47 fun args w v hl h => by
  obtain ⟨r, wv, nv, d, l, p, k, rfl, hR, hd, hn, hN, hp, hk, rfl⟩ := h
  obtain ⟨v', w', hc, e⟩ := run46 (ov := o47) (chN rfl) (chH rfl) (chH rfl) (chH rfl) r wv nv d l p k w hl hR hd hn hN hp hk
  exact ⟨rfl, 2, v', w', _, hc, e⟩
noncomputable def l74 : List (Nat × PureF) := (74, S74.F) :: l46
noncomputable def o74 : Ov := ovL l74
theorem ok74 : OvOk Try.prog (ovP 74 S74.F o46) := S74.ok no_count mixed ok46 fun args w v hl h => by
  obtain ⟨x, l, p, k, rfl, hv, hn, hk, rfl⟩ := h
  obtain ⟨v', w', hc, k', hk', e⟩ := run74 (ov := o46) (chN rfl) x l p w hl hv hn
  rw [hk'.uniq hk] at e
  exact ⟨rfl, 2, v', w', _, hc, e⟩
noncomputable def l72 : List (Nat × PureF) := (72, S72.F) :: l74
noncomputable def o72 : Ov := ovL l72
theorem ok72 : OvOk Try.prog (ovP 72 S72.F o74) := S72.ok no_count mixed ok74 fun args w v hl h => by
  obtain ⟨x, l, p, rfl, hv, hn, rfl⟩ := h
  obtain ⟨v', w', hc, e⟩ := run72 (ov := o74) (chN rfl) (chH rfl) x l p w hl hv hn
  exact ⟨rfl, 2, v', w', _, hc, e⟩
noncomputable def l60 : List (Nat × PureF) := (60, S60.F) :: l72
noncomputable def o60 : Ov := ovL l60
theorem ok60 : OvOk Try.prog (ovP 60 S60.F o72) := S60.ok no_count mixed ok72 fun args w v hl h => by
  obtain ⟨r, wv, nv, rfl, hR, rfl⟩ := h
  obtain ⟨v', w', hc, e⟩ := run60 (ov := o72) (chN rfl) (chH rfl) r wv nv w hl hR
  exact ⟨rfl, 2, v', w', _, hc, e⟩
noncomputable def l59 : List (Nat × PureF) := (59, S59.F) :: l60
noncomputable def o59 : Ov := ovL l59
theorem ok59 : OvOk Try.prog (ovP 59 S59.F o60) := S59.ok no_count mixed ok60 fun args w v hl h => by
  obtain ⟨r, wv, nv, rfl, hR, hB, hp, rfl⟩ := h
  obtain ⟨v', w', hc, e⟩ := run59 (ov := o60) (chN rfl) (chH rfl) r wv nv w hl hR hB hp
  exact ⟨rfl, 2, v', w', _, hc, e⟩
noncomputable def l43 : List (Nat × PureF) := (43, S43.F) :: l59
noncomputable def o43 : Ov := ovL l43
theorem ok43 : OvOk Try.prog (ovP 43 S43.F o59) := S43.ok no_count mixed ok59 fun args w v hl h => by
  obtain ⟨r, wv, nv, rfl, hR, rfl⟩ := h
  obtain ⟨v', w', hc, e⟩ := run43 (ov := o59) (chN rfl) (chH rfl) (chH rfl) (chH rfl) r wv nv w hl hR
  exact ⟨rfl, 2, v', w', _, hc, e⟩
noncomputable def l27 : List (Nat × PureF) := (27, S27.F) :: l43
noncomputable def o27 : Ov := ovL l27
theorem ok27 : OvOk Try.prog (ovP 27 S27.F o43) := S27.ok no_count mixed ok43 fun args w v hl h => by
  obtain ⟨r, wv, nv, rfl, hR, rfl⟩ := h
  obtain ⟨v', w', hc, e⟩ := run27 (ov := o43) (chN rfl) (chH rfl) r wv nv w hl hR
  exact ⟨rfl, 2, v', w', _, hc, e⟩
noncomputable def l10 : List (Nat × PureF) := (10, S10.F) :: l27
noncomputable def o10 : Ov := ovL l10
theorem ok10 : OvOk Try.prog (ovP 10 S10.F o27) := S10.ok no_count mixed ok27 fun args w v hl h => by
  obtain ⟨r, wv, nv, rfl, hR, rfl⟩ := h
  obtain ⟨v', w', hc, e⟩ := run10 (ov := o27) (chN rfl) (chH rfl) (chH rfl) r wv nv w hl hR
  exact ⟨rfl, 2, v', w', _, hc, e⟩
noncomputable def l44 : List (Nat × PureF) := (44, S44.F) :: l10
noncomputable def o44 : Ov := ovL l44
theorem ok44 : OvOk Try.prog (ovP 44 S44.F o10) := S44.ok no_count mixed ok10 fun args w v hl h => by
  obtain ⟨r, wv, nv, f, lv, ls, rfl, hR, hv, hT, rfl⟩ := h
  obtain ⟨v', w', hc, e⟩ := run44 (ov := o10) (chN rfl) (chH rfl) (chH rfl) r wv nv f lv ls w hl hR hv hT
  exact ⟨rfl, 2, v', w', _, hc, e⟩
noncomputable def l30 : List (Nat × PureF) := (30, S30.F) :: l44
noncomputable def o30 : Ov := ovL l30
theorem ok30 : OvOk Try.prog (ovP 30 S30.F o44) := S30.ok no_count mixed ok44 fun args w v hl h => by
  obtain ⟨r, wv, nv, f, lv, ls, rfl, hR, hv, hT, rfl⟩ := h
  obtain ⟨v', w', hc, e⟩ := run30 (ov := o44) (chN rfl) (chH rfl) (chH rfl) r wv nv f lv ls w hl hR hv hT
  exact ⟨rfl, 2, v', w', _, hc, e⟩
noncomputable def l45 : List (Nat × PureF) := (45, S45.F) :: l30
noncomputable def o45 : Ov := ovL l45
theorem ok45 : OvOk Try.prog (ovP 45 S45.F o30) := S45.ok no_count mixed ok30 fun args w v hl h => by
  obtain ⟨r, wv, nv, rfl, hR, rfl⟩ := h
  obtain ⟨v', w', hc, e⟩ := run45 (ov := o30) (chN rfl) r wv nv w hl hR
  exact ⟨rfl, 2, v', w', _, hc, e⟩
theorem top_true (r : MRun) (wv nv bv : Value) (bits : List Int) (hbits : bits.length ≤ 2 ^ 60) (w : AW) (hl : w.lim = w.next) (hR : RunV w r wv nv) (hv : RowsV intC w bv bits) :
    ∃ w' x', (run Try.prog o45 8).call 3 [.agg ⟨runC r wv nv⟩, bv] w .none = .ok (.ret (.bool true)) w' x' := by
  obtain ⟨v, w', hc, rfl⟩ := call3 (ov := o45) (chN rfl) (chN rfl) (chN rfl) (chN rfl) 4 (chW rfl) (chH rfl) (chH rfl) (chH rfl) (chH rfl) (chH rfl) (chH rfl) (chH rfl) (chH rfl) r wv nv bv bits hbits w hl hR hv
  exact ⟨w', _, hc⟩
end Go.Proofs.Ytaffhippclpbpaa.walk

namespace Go.Proofs.Ytaffhippclpbpaa.walk
open Go Go.Sh Go.ChangeShapes Go.WideShapes Go.ChangeAt Go.RowKit
set_option maxRecDepth 100000
set_option linter.unusedVariables false
theorem u3 : Try.prog.underlying 3 = some (.int .i64) := by kernel_rfl
theorem u22 : Try.prog.underlying 22 = some (.slice 26) := by kernel_rfl
theorem u23 : Try.prog.underlying 23 = some (.slice 37) := by kernel_rfl
theorem u26 : Try.prog.underlying 26 = some (.slice 3) := by kernel_rfl
theorem u25 : Try.prog.underlying 25 = some (.struct (fieldsOf Try.prog 25)) := by kernel_rfl
theorem u37 : Try.prog.underlying 37 = some (.struct (fieldsOf Try.prog 37)) := by kernel_rfl
theorem f25 : (fieldsOf Try.prog 25).toList.map (fun f => (f.type, f.offset)) = [(3, 0), (3, 1), (3, 2), (3, 3), (22, 4), (23, 5)] := by kernel_rfl
theorem f37 : (fieldsOf Try.prog 37).toList.map (fun f => (f.type, f.offset)) = [(3, 0), (3, 1)] := by kernel_rfl
theorem c3 : Try.prog.cellsOf 3 = 1 := by kernel_rfl
theorem c22 : Try.prog.cellsOf 22 = 1 := by kernel_rfl
theorem c23 : Try.prog.cellsOf 23 = 1 := by kernel_rfl
theorem c26 : Try.prog.cellsOf 26 = 1 := by kernel_rfl
theorem c25 : Try.prog.cellsOf 25 = 6 := by kernel_rfl
theorem c37 : Try.prog.cellsOf 37 = 2 := by kernel_rfl
theorem pair_of {H : T AObj} {n : Nat} {cs : List Value} (h : WT Try.prog H n 37 cs) : ∃ p, cs = prC p := by
  obtain ⟨hl, hf⟩ := h.toStruct u37
  rw [f37] at hf
  rw [c37] at hl
  obtain ⟨a, ha, _⟩ := (hf (3, 0) (by simp)).toInt u3
  obtain ⟨b, hb, _⟩ := (hf (3, 1) (by simp)).toInt u3
  rw [c3] at ha hb
  match cs, hl with
  | [x, y], _ =>
    simp at ha hb
    exact ⟨(a, b), by rw [ha, hb]; rfl⟩
theorem rows_ofW {α : Type} {f : α → List Value} {m : Nat} {H : T AObj} {n lim : Nat} {t e : TypeId} {cs : List Value} (hu : Try.prog.underlying t = some (.slice e)) (hc : Try.prog.cellsOf e = m) (hf : ∀ a, (f a).length = m) (hone : ∀ cs, WT Try.prog H n e cs → ∃ a, cs = f a) (h : WT Try.prog H n t cs) :
    ∃ v l, cs = [v] ∧ RowsV f ⟨H, n, lim⟩ v l ∧ CapN v := by
  obtain ⟨v, l, hv, hr⟩ := rows_of_WT (lim := lim) hu hc hf hone h
  refine ⟨v, l, hv, hr, ?_⟩
  rcases WT.toSlice hu h with ⟨a, ha⟩ | ⟨b, k, c, ty, ro, ha, _⟩
  · rw [hv] at ha; cases ha; exact ⟨a, 0, 0, rfl, Nat.le_refl _⟩
  · rw [hv] at ha; cases ha; exact ⟨_, k, k, rfl, Nat.le_refl _⟩
theorem ints_of {H : T AObj} {n lim : Nat} {cs : List Value} (h : WT Try.prog H n 26 cs) : ∃ v l, cs = [v] ∧ RowsV intC ⟨H, n, lim⟩ v l ∧ CapN v :=
  rows_ofW u26 c3 intC_length (fun cs h => by
    obtain ⟨z, hz, _⟩ := h.toInt u3
    exact ⟨z, hz⟩) h
def DayT (w : AW) : Type := { x : Value × List Int // RowsV intC w x.1 x.2 }
def dayC {w : AW} (a : DayT w) : List Value := [a.1.1]
theorem rel_of {w : AW} : ∀ l : List (DayT w), RelR w (l.map fun a => a.1.1) (l.map fun a => a.1.2)
  | [] => trivial
  | a :: l => ⟨a.2, rel_of l⟩
theorem flat_day {w : AW} : ∀ l : List (DayT w), l.flatMap dayC = (l.map fun a => a.1.1).flatMap valC
  | [] => rfl
  | a :: l => by rw [List.flatMap_cons, List.map_cons, List.flatMap_cons, flat_day l]; rfl
theorem rows_day {w : AW} {v : Value} {l : List (DayT w)} (h : RowsV dayC w v l) : RowsV valC w v (l.map fun a => a.1.1) := by
  rcases h with ⟨rfl, a, c, rfl⟩ | ⟨b, off, sq, c, hv, ⟨pre, rest, e, ro, h1, h2⟩, h3⟩
  · exact .inl ⟨rfl, a, c, rfl⟩
  · exact .inr ⟨b, off, sq, c, by rw [hv, List.length_map], ⟨pre, rest, e, ro, by rw [h1, flat_day], h2⟩, h3⟩
theorem run_arg {A : AW} {m : Value} (h : ArgT Try.prog A.heap A.next 25 m) : ∃ r wv nv, m = .agg ⟨runC r wv nv⟩ ∧ RunV A r wv nv := by
  unfold ArgT at h
  rw [u25] at h
  obtain ⟨c, rfl, h⟩ := h
  obtain ⟨hl, hf⟩ := h.toStruct u25
  rw [f25] at hf
  rw [c25] at hl
  obtain ⟨a1, h1, _⟩ := (hf (3, 0) (by simp)).toInt u3
  obtain ⟨a2, h2, _⟩ := (hf (3, 1) (by simp)).toInt u3
  obtain ⟨a3, h3, _⟩ := (hf (3, 2) (by simp)).toInt u3
  obtain ⟨a4, h4, _⟩ := (hf (3, 3) (by simp)).toInt u3
  obtain ⟨wv, l, h5, hW, _⟩ := rows_ofW (lim := A.lim) (α := DayT A) (f := dayC) u22 c26 (fun _ => rfl) (fun cs h => by
    obtain ⟨v, l, hv, hr, _⟩ := ints_of (lim := A.lim) h
    exact ⟨⟨(v, l), hr⟩, hv⟩) (hf (22, 4) (by simp))
  obtain ⟨nv, near, h6, hN, hC⟩ := rows_ofW (lim := A.lim) u23 c37 prC_length (fun cs h => pair_of h) (hf (23, 5) (by simp))
  rw [c3] at h1 h2 h3 h4
  rw [c22] at h5
  rw [c23] at h6
  match c, hl with
  | [x0, x1, x2, x3, x4, x5], _ =>
    simp at h1 h2 h3 h4 h5 h6
    exact ⟨⟨a1, a2, a3, a4, l.map fun a => a.1.2, near⟩, wv, nv, by rw [h1, h2, h3, h4, h5, h6]; rfl, ⟨_, rows_day hW, rel_of l⟩, hN, hC⟩
theorem ints_arg {A : AW} {m : Value} (h : ArgT Try.prog A.heap A.next 26 m) : ∃ l, RowsV intC A m l := by
  unfold ArgT at h
  rw [u26] at h
  obtain ⟨v, l, hv, hr, _⟩ := ints_of (lim := A.lim) h
  cases hv
  exact ⟨l, hr⟩
theorem b3 : Try.prog.bytesOf 3 = 8 := by kernel_rfl
theorem short_of {A : AW} {m : Value} {L : List Int} (h : RowsV intC A m L) (k : ∀ (a : Option Addr) (n c : Nat), m = .slice a n c → n * Try.prog.bytesOf 3 ≤ reachBytes) : L.length ≤ 2 ^ 60 := by
  obtain ⟨a, c, e⟩ := h.len
  have := k a _ c e
  rw [b3] at this
  unfold reachBytes at this
  omega
theorem ty25 : tyOk Try.prog 6 25 = true := by kernel_rfl
theorem ty26 : tyOk Try.prog 6 26 = true := by kernel_rfl
theorem start_true (A : AW) (ms : List Value) (hl : A.lim = A.next) (hG : Try.prog.globals.size ≤ A.next) (hs : ∀ b, b < Try.prog.globals.size → A.heap.get b = (startH []).get b) (hms : ArgsT Try.prog A.heap A.next [25, 26] ms) (hz : ∀ (j : Nat) t e a k c, [25, 26][j]? = some t → Try.prog.underlying t = some (.slice e) → ms[j]? = some (.slice a k c) → k * Try.prog.bytesOf e ≤ reachBytes) :
    ∃ A' x', (run Try.prog o45 8).call 3 ms A .none = .ok (.ret (.bool true)) A' x' := by
  match ms, hms, hz with
  | [m1, m2], hm, hz =>
    obtain ⟨r, wv, nv, rfl, hR⟩ := run_arg hm.1
    obtain ⟨bits, h4⟩ := ints_arg hm.2.1
    exact top_true r wv nv m2 bits (short_of h4 fun a n c e => hz 1 26 3 a n c rfl u26 (by rw [e]; rfl)) A hl hR h4
end Go.Proofs.Ytaffhippclpbpaa.walk
