/- Part of a proof by a machine of ones own: see the text with the theorem. -/
import Derived.Test.YtbmhpgoceobbdaaDoorPWb
import Derived.Test.YtbmhpgoceobbdaaDoorPBase
namespace Go.Proofs.YtbmhpgoceobbdaaDoor.walk
open Go Go.Sh
open known (partsC laidL noOv)
set_option maxRecDepth 100000
/-- the variable that works reads lies where it should -/
def PartsAt (w : AW) : Prop := ∃ ro, w.heap.get 0 = some (.cells partsC 122 ro)
theorem parts_same : sameL5 partsC partsC = true := by kernel_rfl
theorem hasAll_parts {w : AW} (h : PartsAt w) : hasAll w laidL = true := by
  obtain ⟨ro, h⟩ := h
  have h1 : hasB w (0, partsC, 122) = true := by
    unfold hasB
    simp only [h, parts_same, Nat.beq_refl, Bool.and_self]
  show (bif hasB w (0, partsC, 122) then true else false) = true
  rw [h1]; rfl
/-- works, as it is known -/
def HasW (ov : Ov) : Prop := ∀ w, PartsAt w → ov 18 [] w = some (.ok (.ret (.bool true)) w .none)
theorem ruleW {ov : Ov} (h : HasW ov) {w : AW} (hw : PartsAt w) : (run Tryd.prog ov 1).call 18 [] w .none = .ok (.ret (.bool true)) w .none := by
  show stepO Tryd.prog (run Tryd.prog ov 0) 18 [] w .none (ov 18 [] w) = _
  rw [h w hw]; rfl
structure In3 (l : List Pod) (b : Nat) (w : AW) : Prop where
  pods : l = [] ∨ PodsAt w b l
  lim : w.lim ≤ w.next
  parts : PartsAt w
  pos : 0 < w.next
theorem PartsAt.put {w : AW} (h : PartsAt w) {k n lim : Nat} {o : Option AObj} (hk : 0 ≠ k) : PartsAt ⟨w.heap.put k o, n, lim⟩ := by
  obtain ⟨ro, h⟩ := h
  exact ⟨ro, by rw [get_put, if_neg hk]; exact h⟩
theorem In3.add {l : List Pod} {b : Nat} {w : AW} (h : In3 l b w) (o : Option AObj) : In3 l b ⟨w.heap.put w.next o, w.next + 1, w.lim⟩ := by
  obtain ⟨h1, h2, h3, h4⟩ := h
  refine ⟨?_, Nat.le_succ_of_le h2, h3.put (Nat.ne_of_lt h4), Nat.succ_pos _⟩
  rcases h1 with h1 | h1
  · exact .inl h1
  · exact .inr (h1.put (Nat.ne_of_lt h1.lt) (Nat.le_succ _))
theorem In3.again {l : List Pod} {b : Nat} {w : AW} {k n lim : Nat} {o o' : Option AObj} {H : T AObj} (h : In3 l b ⟨H.put k o, n, lim⟩) (hb : l = [] ∨ b ≠ k) (hk : 0 ≠ k) : In3 l b ⟨(H.put k o).put k o', n, lim⟩ := by
  obtain ⟨h1, h2, h3, h4⟩ := h
  refine ⟨?_, h2, PartsAt.put (w := ⟨_, n, lim⟩) h3 hk, h4⟩
  rcases h1 with h1 | h1
  · exact .inl h1
  · rcases hb with hb | hb
    · exact .inl hb
    · exact .inr (PodsAt.put (w := ⟨_, n, lim⟩) h1 hb (Nat.le_refl _))
theorem loop3 {sq : Option Nat} {ov : Ov} (h16 : HasP ov 16 F16) (h17 : HasP ov 17 F16) (l : List Pod) (b c : Nat) (Q : Ex → Tm → AW → Prop) (t : Tm) (w : AW) (hw : In3 l b w) (v0 : Value) (t0 : tget t 0 = v0) (hv : ∀ i, i < l.length → v0 = .slice (some ⟨b, 0, sq⟩) l.length c) (hlen : ∀ w, lenB Tryd.prog w 22 v0 = .val (.int .i64 (l.length : Nat)) w)
    (t3 : tget t 3 = .int .i64 0) (hQ : ∀ t w, In3 l b w → Q (.exit 0) t w) : wp (exM Tryd.prog (run Tryd.prog ov 1) (.loop mc3_l0) t w) Q := by
  have r16 := rule16 h16
  have r17 := rule17 h17
  refine wp_rounds (fun i t w => tget t 0 = v0 ∧ tget t 3 = .int .i64 (i : Nat) ∧ i ≤ l.length ∧ In3 l b w) 20 (by decide) ⟨t0, t3, Nat.zero_le _, hw⟩ ?_
  clear hw t0 t3
  rintro i t w ⟨t0, t3, hi, hw⟩
  by_cases hlt : i < l.length
  · by_cases h20 : (i : Int) < 20
    · obtain ⟨p, hp⟩ : ∃ p, l[i]? = some p := ⟨_, List.getElem?_eq_getElem hlt⟩
      have hv0 := hv i hlt
      have hpods : PodsAt w b l := by
        rcases hw.pods with h | h
        · subst h; simp at hlt
        · exact h
      obtain ⟨rest, e, ro, hcells⟩ := hpods.at_
      have hld := load_pod hcells hp
      have hbn : b ≠ w.next := Nat.ne_of_lt hpods.lt
      have hbn1 : b ≠ w.next + 1 := by have := hpods.lt; omega
      have hia := fun w => ia22 w ⟨b, 0, sq⟩ l.length c .i64 i hlt
      have hw1 : IntKind.wrap .i64 ((i : Int) + 1) = (i : Int) + 1 := wrap64_in (by omega) (by omega)
      have hlim := hw.lim
      have hlim1 : w.lim ≤ w.next + 1 := by omega
      subst hv0
      simp [mc3_l0, t0, t3, hlen, hlt, h20, hia, hld, hbn, hbn1, hlim, hlim1, r16, r17, hw1]
      refine ⟨by omega, hlt, ?_⟩
      have g1 := hw.add (some (.cells [.int .i64 0, .int .i64 0] 26 false))
      have g2 := g1.again (w := w) (o' := some (.cells [.int .i64 (wA p), .int .i64 (wB p)] 26 false)) (.inr hbn) (Nat.ne_of_lt hw.pos)
      have g3 := g2.add (some (.cells [.int .i64 0, .int .i64 0] 26 false))
      exact g3.again (w := w) (.inr hbn1) (by simp)
    · simp [mc3_l0, t0, t3, hlen, hlt, h20]
      exact hQ _ _ hw
  · simp [mc3_l0, t0, t3, hlen, hlt]
    exact hQ _ _ hw
theorem run3 {ov : Ov} (ho : ∀ args w, ov 3 args w = none) (h14 : HasP ov 14 F14) (h15 : HasP ov 15 F14) (h16 : HasP ov 16 F16) (h17 : HasP ov 17 F16) (hW : HasW ov) (v : Value) (l : List Pod) (w : AW) (hl : w.lim = w.next) (hpos : 0 < w.next) (hparts : PartsAt w) (hv : PodsV w v l) (hin : podsIn w v = some l) :
    ∃ u w', (run Tryd.prog ov 2).call 3 [v] w .none = .ok (.ret u) w' .none ∧ u = .bool true := by
  refine call_wp text3 (by simp) (ho _ _) ?_
  have hlen : ∀ w, lenB Tryd.prog w 22 v = .val (.int .i64 (l.length : Nat)) w := by
    intro w
    rcases hv with ⟨a, c, rfl, rfl⟩ | ⟨b, sq, c, rfl, hp⟩ <;> simp
  obtain ⟨b, sq, c, hb, hw⟩ : ∃ b sq c, (∀ i, i < l.length → v = .slice (some ⟨b, 0, sq⟩) l.length c) ∧ In3 l b w := by
    rcases hv with ⟨a, c, rfl, rfl⟩ | ⟨b, sq, c, rfl, hp⟩
    · exact ⟨0, none, 0, fun i hi => by simp at hi, .inl rfl, Nat.le_of_eq hl, hparts, hpos⟩
    · exact ⟨b, sq, c, fun _ _ => rfl, .inr hp, Nat.le_of_eq hl, hparts, hpos⟩
  have r14 := rule14 h14 hin
  have r15 := rule15 h15 hin
  simp [mc3, r14, r15, errB]
  refine wp_seqX (wp_blockX (loop3 (sq := sq) h16 h17 l b c _ _ _ hw v ?_ hb hlen ?_ ?_))
  case _ => simp
  case _ => simp
  case _ =>
    intro t w hw
    have rW := ruleW hW hw.parts
    simp [rW, tupV]
end Go.Proofs.YtbmhpgoceobbdaaDoor.walk
