/- Part of a proof by a machine of ones own: see the text with the theorem. -/
import Derived.Test.YtcolofoifhbdpaaGreatDoorVWb
import Derived.Test.YtcolofoifhbdpaaGreatDoorVBase
namespace Go.Proofs.YtcolofoifhbdpaaGreatDoor.walk
open Go Go.Sh
set_option maxRecDepth 100000
noncomputable def parseV (N : Nat) (H : T AObj) : Nat → List Value → Option (List Vin)
  | 0, _ => some []
  | n + 1, cs => match vinOf N H (cs.take 4) with
    | some p => match parseV N H n (cs.drop 4) with
      | some l => some (p :: l)
      | none => none
    | none => none
theorem parseV_some {N : Nat} {H : T AObj} : ∀ (n : Nat) (cs : List Value) (l : List Vin), parseV N H n cs = some l → l.length = n ∧ (∃ rest, cs = l.flatMap vinC ++ rest) ∧ ∀ v ∈ l, racAt N H v.rv = some v.rs
  | 0, cs, l, h => by cases h; exact ⟨rfl, ⟨cs, rfl⟩, fun v hv => by cases hv⟩
  | n + 1, cs, l, h => by
    unfold parseV at h
    cases h1 : vinOf N H (cs.take 4) with
    | none => rw [h1] at h; cases h
    | some p =>
      rw [h1] at h
      simp only at h
      cases h2 : parseV N H n (cs.drop 4) with
      | none => rw [h2] at h; cases h
      | some l' =>
        rw [h2] at h
        cases h
        obtain ⟨h3, ⟨rest, h4⟩, h5⟩ := parseV_some n _ _ h2
        obtain ⟨h6, h7⟩ := vinOf_some h1
        refine ⟨by simp [h3], ⟨rest, ?_⟩, fun v hv => ?_⟩
        · rw [List.flatMap_cons, List.append_assoc, ← h4, ← h6, List.take_append_drop]
        · rcases List.mem_cons.1 hv with rfl | hv
          · exact h7
          · exact h5 v hv
theorem parseV_C {N : Nat} {H : T AObj} : ∀ (l : List Vin) (rest : List Value), (∀ v ∈ l, racAt N H v.rv = some v.rs) → parseV N H l.length (l.flatMap vinC ++ rest) = some l
  | [], rest, _ => rfl
  | p :: l, rest, h => by
    have h1 : ((p :: l).flatMap vinC ++ rest).take 4 = vinC p := by
      rw [List.flatMap_cons, List.append_assoc, List.take_append_of_le_length (by simp), List.take_of_length_le (by simp)]
    have h2 : ((p :: l).flatMap vinC ++ rest).drop 4 = l.flatMap vinC ++ rest := by
      rw [List.flatMap_cons, List.append_assoc]
      have := List.drop_left (l₁ := vinC p) (l₂ := l.flatMap vinC ++ rest)
      rwa [vinC_length] at this
    show (match vinOf N H (((p :: l).flatMap vinC ++ rest).take 4) with | some q => (match parseV N H l.length (((p :: l).flatMap vinC ++ rest).drop 4) with | some k => some (q :: k) | none => none) | none => none) = _
    rw [h1, vinOf_C (h p (List.mem_cons_self ..))]
    simp only [h2, parseV_C l rest fun v hv => h v (List.mem_cons_of_mem _ hv)]
noncomputable def vinesIn (N : Nat) (H : T AObj) (v : Value) : Option (List Vin) :=
  match v with
  | .slice _ 0 _ => some []
  | .slice (some ⟨b, 0, _⟩) n _ => if b < N then (cellsO (H.get b)).bind (parseV N H n) else none
  | _ => none
def VinesV (N : Nat) (H : T AObj) (v : Value) (l : List Vin) : Prop := (∃ a c, v = .slice a 0 c ∧ l = []) ∨ ∃ b sq c, v = .slice (some ⟨b, 0, sq⟩) l.length c ∧ VinesAt N H b l
theorem vinesIn_some {N : Nat} {H : T AObj} {v : Value} {l : List Vin} (h : vinesIn N H v = some l) : VinesV N H v l := by
  unfold vinesIn at h
  split at h
  · cases h; exact .inl ⟨_, _, rfl, rfl⟩
  · rename_i b sq n c _
    split at h
    · rename_i hb
      obtain ⟨cs, h1, h2⟩ := Option.bind_eq_some_iff.1 h
      obtain ⟨e, ro, h3⟩ := cellsO_get h1
      obtain ⟨h4, ⟨rest, h5⟩, h6⟩ := parseV_some n cs l h2
      subst h4 h5
      exact .inr ⟨b, _, c, rfl, ⟨rest, e, ro, h3⟩, hb, h6⟩
    · cases h
  · cases h
theorem VinesV.vinesIn {N : Nat} {H : T AObj} {v : Value} {l : List Vin} (h : VinesV N H v l) : vinesIn N H v = some l := by
  rcases h with ⟨a, c, rfl, rfl⟩ | ⟨b, sq, c, rfl, ⟨rest, e, ro, h1⟩, h2, h3⟩
  · rfl
  · cases l with
    | nil => rfl
    | cons p l =>
      show (if b < N then (cellsO (H.get b)).bind (parseV N H (p :: l).length) else none) = _
      rw [if_pos h2, h1]
      exact parseV_C (p :: l) rest h3
theorem VinesV.len {N : Nat} {H : T AObj} {v : Value} {l : List Vin} (h : VinesV N H v l) (w : AW) : lenB Tryz.prog w 22 v = .val (.int .i64 (l.length : Nat)) w := by
  rcases h with ⟨a, c, rfl, rfl⟩ | ⟨b, sq, c, rfl, hp⟩ <;> simp
theorem VinesV.parts {N : Nat} {H : T AObj} {v : Value} {l : List Vin} (h : VinesV N H v l) : ∃ b sq c, (∀ i, i < l.length → v = .slice (some ⟨b, 0, sq⟩) l.length c) ∧ (l = [] ∨ VinesAt N H b l) := by
  rcases h with ⟨a, c, rfl, rfl⟩ | ⟨b, sq, c, rfl, hp⟩
  · exact ⟨0, none, 0, fun i hi => by simp at hi, .inl rfl⟩
  · exact ⟨b, sq, c, fun _ _ => rfl, .inr hp⟩
noncomputable def F16 : PureF := fun args w => match args with | [v] => (vinesIn w.next w.heap v).map fun l => .bool (gardB l) | _ => none
noncomputable def errB (b : Bool) (e : Int) : Value := .int .i64 (bif b then 0 else e)
noncomputable def F7 : PureF := fun args w => match args with | [v] => (vinesIn w.next w.heap v).map fun l => errB (gardB l) 11 | _ => none
theorem rule16 {ov : Ov} (h : HasP ov 16 F16) {v : Value} {l : List Vin} {w : AW} (hv : vinesIn w.next w.heap v = some l) : (run Tryz.prog ov 1).call 16 [v] w .none = .ok (.ret (.bool (gardB l))) w .none := h.call (by simp [F16, hv])
theorem rule7 {ov : Ov} (h : HasP ov 7 F7) {v : Value} {l : List Vin} {w : AW} (hv : vinesIn w.next w.heap v = some l) : (run Tryz.prog ov 1).call 7 [v] w .none = .ok (.ret (errB (gardB l) 11)) w .none := h.call (by simp [F7, hv])
theorem rule8 {ov : Ov} (h : HasP ov 8 F7) {v : Value} {l : List Vin} {w : AW} (hv : vinesIn w.next w.heap v = some l) : (run Tryz.prog ov 1).call 8 [v] w .none = .ok (.ret (errB (gardB l) 11)) w .none := h.call (by simp [F7, hv])
theorem run16 {ov : Ov} (ho : ∀ args w, ov 16 args w = none) (h18 : HasP ov 18 F18) (v : Value) (l : List Vin) (w : AW) (hl : w.lim = w.next) (hv : VinesV w.next w.heap v l) : ∃ u w', (run Tryz.prog ov 2).call 16 [v] w .none = .ok (.ret u) w' .none ∧ u = .bool (gardB l) := by
  refine call_wp text16 (by simp) (ho _ _) ?_
  have hlen := hv.len
  obtain ⟨b, sq, c, hb, hp⟩ := hv.parts
  by_cases h12 : (12 : Int) < (l.length : Int)
  · have h12' : ¬ l.length ≤ 12 := by omega
    simp [mc16, hlen, h12, tupV, gardB, h12']
  · have h12' : l.length ≤ 12 := by omega
    simp [mc16, hlen, h12]
    have hp' : l = [] ∨ VinesAt w.next (w.heap.put w.next (some (.map [] 0))) b l := by
      rcases hp with h | h
      · exact .inl h
      · exact .inr (h.put (Nat.le_refl _))
    refine wp_seqX (wp_blockX (loop16 (sq := sq) h18 l b c w.next w.next _ _ _ ⟨hp', Nat.le_refl _, ?_, ?_, ?_, rfl, ?_⟩ h12' ?_ v ?_ hb ?_ ?_ ?_ ?_))
    all_goals first
      | (simp [hl, entsFrom, tagsTo]; done)
      | (intro hc t w; simp [tupV, gardB, h12', hc]; done)
      | (intro hc t w h2; simp [tupV, gardB, h12', hc, h2]; done)
theorem run7 {ov : Ov} (ho : ∀ args w, ov 7 args w = none) (h16 : HasP ov 16 F16) (v : Value) (l : List Vin) (w : AW) (hv : vinesIn w.next w.heap v = some l) : ∃ u w', (run Tryz.prog ov 2).call 7 [v] w .none = .ok (.ret u) w' .none ∧ u = errB (gardB l) 11 := by
  refine call_wp text7 (by simp) (ho _ _) ?_
  have r16 := rule16 h16 hv
  cases h : gardB l <;> simp [mc7, r16, h, tupV, errB]
theorem hasT_snoc {l : List Vin} {k : Nat} {q : Vin} (hq : l[k]? = some q) (t : ByteArray) : hasT (tagsTo l (k + 1)) t = (hasT (tagsTo l k) t || decide (t.data.toList = q.tag.data.toList)) := by
  rw [tags_snoc hq]
  simp [hasT]
theorem hasT_mono {l : List Vin} {t : ByteArray} {k : Nat} (h : hasT (tagsTo l k) t = true) : ∀ i, k ≤ i → hasT (tagsTo l i) t = true
  | 0, hi => by obtain rfl : k = 0 := by omega
                exact h
  | i + 1, hi => by
    rcases Nat.eq_or_lt_of_le hi with e | h1
    · rw [← e]; exact h
    · have ih := hasT_mono h i (by omega)
      cases hq : l[i]? with
      | none =>
        have h2 : l.length ≤ i := List.getElem?_eq_none_iff.1 hq
        have : tagsTo l (i + 1) = tagsTo l i := by unfold tagsTo; rw [List.take_of_length_le h2, List.take_of_length_le (by omega)]
        rw [this]; exact ih
      | some q => rw [hasT_snoc hq, ih]; rfl
def Inv8i (l : List Vin) (t : ByteArray) (i : Nat) (ok0 : Bool) (k : Nat) (ok : Bool) : Prop := (ok = true → ok0 = true ∧ k ≤ i ∧ hasT (tagsTo l k) t = false) ∧ (ok = false → (ok0 && !hasT (tagsTo l i) t) = false)
theorem inner8 {sq : Option Nat} {ov : Ov} (l : List Vin) (N b c i : Nat) (p : Vin) (ok0 : Bool) (Q : Ex → Tm → AW → Prop) (t : Tm) (w : AW) (hp : VinesAt N w.heap b l) (hpi : l[i]? = some p) (hi : i < l.length) (hlen : l.length ≤ 12)
    (t0 : tget t 0 = .slice (some ⟨b, 0, sq⟩) l.length c) (t3 : tget t 3 = .bool ok0) (t4 : tget t 4 = .int .i64 (i : Nat)) (t5 : tget t 5 = .int .i64 0)
    (hQ : ∀ t', tget t' 0 = tget t 0 → tget t' 3 = .bool (ok0 && !hasT (tagsTo l i) p.tag) → tget t' 4 = tget t 4 → Q (.exit 2) t' w) : wp (exM Tryz.prog (run Tryz.prog ov 1) (.loop mc8_l1) t w) Q := by
  rw [t0, t4] at hQ
  refine wp_rounds (fun k t w' => w' = w ∧ tget t 0 = .slice (some ⟨b, 0, sq⟩) l.length c ∧ tget t 4 = .int .i64 (i : Nat) ∧ tget t 5 = .int .i64 (k : Nat) ∧ ∃ ok, tget t 3 = .bool ok ∧ Inv8i l p.tag i ok0 k ok) 20 (by decide)
    ⟨rfl, t0, t4, t5, ok0, t3, fun h => ⟨h, Nat.zero_le _, rfl⟩, fun h => by rw [h]; rfl⟩ ?_
  clear t0 t3 t4 t5
  rintro k t w' ⟨rfl, s0, s4, s5, ok, s3, hy, hn⟩
  obtain ⟨rest, e, ro, hcells⟩ := hp.at_
  have hia2 := fun w => ia22 w ⟨b, 0, sq⟩ l.length c .i64 i hi
  have hl2 := (load_vin hcells hpi).2
  cases ok with
  | false =>
    simp [mc8_l1, s3]
    refine hQ _ ?_ ?_ ?_ <;> simp [s0, s3, s4, hn rfl]
  | true =>
    obtain ⟨hok, hk, hno⟩ := hy rfl
    by_cases hlt : k < i
    · obtain ⟨q, hq⟩ : ∃ q, l[k]? = some q := ⟨_, List.getElem?_eq_getElem (by omega)⟩
      have hld := (load_vin hcells hq).2
      have hia := fun w => ia22 w ⟨b, 0, sq⟩ l.length c .i64 k (by omega)
      have hw1 : IntKind.wrap .i64 ((k : Int) + 1) = (k : Int) + 1 := wrap64_in (by omega) (by omega)
      have hs := hasT_snoc hq p.tag
      by_cases he : q.tag.data.toList = p.tag.data.toList
      · have hbad : hasT (tagsTo l i) p.tag = true := hasT_mono (k := k + 1) (by rw [hs]; simp [he]) i hlt
        have hI : Inv8i l p.tag i ok0 (k + 1) false := ⟨(fun h => by cases h), fun _ => by simp [hbad]⟩
        have he' : q.tag.data = p.tag.data := by simpa using he
        simp [mc8_l1, s0, s3, s4, s5, hlt, hia, hia2, hl2, hld, he', hw1]
        exact ⟨by omega, hI⟩
      · have hI : Inv8i l p.tag i ok0 (k + 1) true := ⟨fun _ => ⟨hok, hlt, by rw [hs, hno]; simp [Ne.symm (show q.tag.data.toList ≠ p.tag.data.toList from he)]⟩, fun h => by cases h⟩
        have he' : ¬ q.tag.data = p.tag.data := by simpa using he
        simp [mc8_l1, s0, s3, s4, s5, hlt, hia, hia2, hl2, hld, he', hw1]
        exact ⟨by omega, hI⟩
    · have hk' : k = i := by omega
      subst hk'
      simp [mc8_l1, s3, s4, s5]
      refine hQ _ ?_ ?_ ?_ <;> simp [s0, s3, s4, hno, hok]
def Inv8 (l : List Vin) (i : Nat) (ok : Bool) : Prop := (ok = true → i ≤ l.length ∧ chkB l i = true ∧ l.length ≤ 12) ∧ (ok = false → gardB l = false)
theorem run8 {ov : Ov} (ho : ∀ args w, ov 8 args w = none) (h17 : HasP ov 17 F18) (v : Value) (l : List Vin) (w : AW) (hv : VinesV w.next w.heap v l) : ∃ u w', (run Tryz.prog ov 2).call 8 [v] w .none = .ok (.ret u) w' .none ∧ u = errB (gardB l) 11 := by
  refine call_wp text8 (by simp) (ho _ _) ?_
  have hlen := hv.len
  obtain ⟨b, sq, c, hb, hp⟩ := hv.parts
  have hI : Inv8 l 0 (decide (l.length ≤ 12)) := ⟨fun h => ⟨Nat.zero_le _, rfl, of_decide_eq_true h⟩, fun h => by simp [gardB]; intro h'; simp at h; omega⟩
  simp [mc8, hlen]
  refine wp_seqX (wp_blockX (wp_rounds (fun i t w' => w' = w ∧ tget t 0 = v ∧ tget t 4 = .int .i64 (i : Nat) ∧ ∃ ok, tget t 3 = .bool ok ∧ Inv8 l i ok) 20 (by decide) ⟨rfl, by simp, by simp, decide (l.length ≤ 12), by simp; omega, hI⟩ ?_))
  rintro i t w' ⟨rfl, t0, t4, ok, t3, hy, hn⟩
  cases ok with
  | false =>
    have hB := hn rfl
    simp [mc8_l0, t3, tupV, hB, errB]
  | true =>
    obtain ⟨hi, hchk, h12⟩ := hy rfl
    by_cases hlt : i < l.length
    · obtain ⟨p, hpi⟩ : ∃ p, l[i]? = some p := ⟨_, List.getElem?_eq_getElem hlt⟩
      have hv0 := hb i hlt
      have hpods : VinesAt w'.next w'.heap b l := by
        rcases hp with h | h
        · subst h; simp at hlt
        · exact h
      obtain ⟨rest, e, ro, hcells⟩ := hpods.at_
      have hld := (load_vin hcells hpi).1
      have hia := fun w => ia22 w ⟨b, 0, sq⟩ l.length c .i64 i hlt
      have hw1 : IntKind.wrap .i64 ((i : Int) + 1) = (i : Int) + 1 := wrap64_in (by omega) (by omega)
      have r17 := rule17 h17 (v := p) (w := w') (hpods.racs p (List.mem_of_getElem? hpi))
      obtain ⟨B, hB⟩ : ∃ B, B = (vinB p && !hasT (tagsTo l i) p.tag) := ⟨_, rfl⟩
      have fin : Inv8 l (i + 1) B := by
        rw [hB]
        refine ⟨fun h => ⟨hlt, by rw [chk_snoc hpi, hchk, h]; rfl, h12⟩, fun h => ?_⟩
        unfold gardB
        rw [chk_false (i := i + 1) (by rw [chk_snoc hpi, h]; simp) _ hlt]
        simp
      have fin' : B = false ∧ Inv8 l (i + 1) false ∨ B = true ∧ Inv8 l (i + 1) true := by
        cases B with
        | false => exact .inl ⟨rfl, fin⟩
        | true => exact .inr ⟨rfl, fin⟩
      rw [hv0] at hlen
      simp [mc8_l0, t0, t3, t4, hlen, hlt, hv0, hia, hld, r17]
      refine wp_seqX (wp_blockX (wp_blockX (inner8 (sq := sq) l w'.next b c i p (vinB p) _ _ _ hpods hpi hlt h12 ?_ ?_ ?_ ?_ ?_)))
      case _ => simp [t0, hv0]
      case _ => simp
      case _ => simp [t4]
      case _ => simp
      case _ =>
        rintro t' e0 e3 e4
        rw [← hB] at e3
        simp [t0, hv0] at e0
        simp [t4] at e4
        simp [e0, e3, e4, hw1]
        exact ⟨by omega, fin'⟩
    · have hi' : i = l.length := by omega
      subst hi'
      have hB : gardB l = true := by simp [gardB, h12, hchk]
      simp [mc8_l0, t0, t3, t4, hlen, tupV, hB, errB]
end Go.Proofs.YtcolofoifhbdpaaGreatDoor.walk

namespace Go.Proofs.YtcolofoifhbdpaaGreatDoor.walk
open Go Go.Sh
set_option maxRecDepth 100000
/-- works, as it is known -/
def HasW (ov : Ov) : Prop := ∀ w, hasAll w laidL = true → ov 11 [] w = some (.ok (.ret (.bool true)) w .none)
theorem ruleW {ov : Ov} (h : HasW ov) {w : AW} (hw : hasAll w laidL = true) : (run Tryz.prog ov 1).call 11 [] w .none = .ok (.ret (.bool true)) w .none := by
  show stepO Tryz.prog (run Tryz.prog ov 0) 11 [] w .none (ov 11 [] w) = _
  rw [h w hw]; rfl
theorem loop3 {sq : Option Nat} {ov : Ov} (h9 : HasP ov 9 F9) (h10 : HasP ov 10 F9) (l : List Vin) (b c : Nat) (Q : Ex → Tm → AW → Prop) (t : Tm) (w : AW) (hp : l = [] ∨ VinesAt w.next w.heap b l) (v1 : Value) (t1 : tget t 1 = v1) (hv : ∀ i, i < l.length → v1 = .slice (some ⟨b, 0, sq⟩) l.length c) (hlen : ∀ w, lenB Tryz.prog w 22 v1 = .val (.int .i64 (l.length : Nat)) w)
    (t5 : tget t 5 = .int .i64 0) (hQ : ∀ t, Q (.exit 0) t w) : wp (exM Tryz.prog (run Tryz.prog ov 1) (.loop mc3_l0) t w) Q := by
  have r9 := fun {v : Vin} (hv : racAt w.next w.heap v.rv = some v.rs) => rule9 h9 hv
  have r10 := fun {v : Vin} (hv : racAt w.next w.heap v.rv = some v.rs) => rule10 h10 hv
  refine wp_rounds (fun i t w' => w' = w ∧ tget t 1 = v1 ∧ tget t 5 = .int .i64 (i : Nat) ∧ i ≤ l.length) 20 (by decide) ⟨rfl, t1, t5, Nat.zero_le _⟩ ?_
  clear t1 t5
  rintro i t w' ⟨rfl, s1, s5, hi⟩
  by_cases hlt : i < l.length
  · by_cases h20 : (i : Int) < 20
    · obtain ⟨p, hpi⟩ : ∃ p, l[i]? = some p := ⟨_, List.getElem?_eq_getElem hlt⟩
      have hv1 := hv i hlt
      have hpods : VinesAt w'.next w'.heap b l := by
        rcases hp with h | h
        · subst h; simp at hlt
        · exact h
      obtain ⟨rest, e, ro, hcells⟩ := hpods.at_
      have hld := (load_vin hcells hpi).1
      have hia := fun w => ia22 w ⟨b, 0, sq⟩ l.length c .i64 i hlt
      have hw1 : IntKind.wrap .i64 ((i : Int) + 1) = (i : Int) + 1 := wrap64_in (by omega) (by omega)
      have g9 := r9 (hpods.racs p (List.mem_of_getElem? hpi))
      have g10 := r10 (hpods.racs p (List.mem_of_getElem? hpi))
      subst hv1
      simp [mc3_l0, s1, s5, hlen, hlt, h20, hia, hld, g9, g10, hw1]
      omega
    · simp [mc3_l0, s1, s5, hlen, hlt, h20]
      exact hQ _
  · simp [mc3_l0, s1, s5, hlen, hlt]
    exact hQ _
theorem run3 {ov : Ov} (ho : ∀ args w, ov 3 args w = none) (h5 : HasP ov 5 F5) (h6 : HasP ov 6 F5) (h7 : HasP ov 7 F7) (h8 : HasP ov 8 F7) (h9 : HasP ov 9 F9) (h10 : HasP ov 10 F9) (hW : HasW ov) (s : ByteArray) (v : Value) (l : List Vin) (w : AW) (hlaid : hasAll w laidL = true) (hv : VinesV w.next w.heap v l) :
    ∃ u w', (run Tryz.prog ov 2).call 3 [.string s, v] w .none = .ok (.ret u) w' .none ∧ u = .bool true := by
  refine call_wp text3 (by simp) (ho _ _) ?_
  have hlen := hv.len
  obtain ⟨b, sq, c, hb, hp⟩ := hv.parts
  have hin := hv.vinesIn
  have r5 := rule5 h5 s w
  have r6 := rule6 h6 s w
  have r7 := rule7 h7 hin
  have r8 := rule8 h8 hin
  have rW := ruleW hW hlaid
  simp [mc3, r5, r6, r7, r8, errB]
  refine wp_seqX (wp_blockX (loop3 (sq := sq) h9 h10 l b c _ _ _ hp v ?_ hb hlen ?_ ?_))
  case _ => simp
  case _ => simp
  case _ =>
    intro t
    simp [rW, tupV]
end Go.Proofs.YtcolofoifhbdpaaGreatDoor.walk
