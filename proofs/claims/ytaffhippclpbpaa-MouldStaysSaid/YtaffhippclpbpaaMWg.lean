/- Part of a proof by a machine of ones own: see the text with the theorem. -/
import Derived.Test.YtaffhippclpbpaaMWf
namespace Go.Proofs.Ytaffhippclpbpaa.walk
open Go Go.Sh
set_option maxRecDepth 100000
set_option linter.unusedSimpArgs false
set_option linter.unusedVariables false
variable {ov : Ov} {Q : Ex → Tm → AW → Prop} {t : Tm} {w : AW} {R : MRun} {wv nv lv pv : Value} {B T f : Nat} {ls : List Nat}
theorem loop3 (m : Nat) (h14 : HasP ov 14 S14.F) (C : C3 w R wv nv B T f lv pv ls)
    (t2 : tget t 2 = .pointer (some ⟨B, 0, none⟩)) (t5 : tget t 5 = .pointer (some ⟨T, 0, none⟩)) (t6 : tget t 6 = pv) (t8 : tget t 8 = .int .i64 0)
    (hQ : ∀ t', Q .normal t' w) :
    wp (blockX 0 (exM Try.prog (run Try.prog ov (m + 1)) (.loop mc3_l0) t w)) Q := by
  have hb := runB_bnd C.ok.run
  have d10 := hb.d10
  refine wp_blockX (wp_rounds (fun i t' w' => w' = w ∧ tget t' 2 = .pointer (some ⟨B, 0, none⟩) ∧ tget t' 5 = .pointer (some ⟨T, 0, none⟩) ∧ tget t' 6 = pv ∧ tget t' 8 = .int .i64 (i : Nat) ∧ i ≤ R.days.length) 20 (by decide) ⟨rfl, t2, t5, t6, t8, Nat.zero_le _⟩ ?_)
  rintro D t' w' ⟨rfl, s2, s5, s6, s8, hi⟩
  have g1 := C.g1
  have hw1 : IntKind.wrap .i64 ((D : Int) + 1) = (D : Int) + 1 := wrap64_in (by omega) (by omega)
  obtain ⟨⟨vs, hvs, hrel⟩, _⟩ := C.hR
  have hl22 := fun w2 => len22V (w' := w2) hvs
  rw [hrel.len] at hl22
  by_cases hlt : D < R.days.length
  · obtain ⟨l, hd⟩ : ∃ l, R.days[D]? = some l := ⟨_, List.getElem?_eq_getElem hlt⟩
    obtain ⟨k, hk⟩ : ∃ l, ls[D]? = some l := ⟨_, List.getElem?_eq_getElem (by rw [C.ok.len]; exact hlt)⟩
    have hml := List.mem_of_getElem? hd
    have hll := (hb.day l hml).1
    obtain ⟨v, hv, hrow⟩ := hrel.at hd
    have hdl : D < vs.length := by rw [hrel.len]; exact hlt
    obtain ⟨bk, off1, sq1, c1, hwv, hra1⟩ := hvs.at_ D hdl
    have hld1 := hra1.rd1 valC_length hv (j := 0) (x := v) rfl
    have hia1 := fun w => ia22 w ⟨bk, off1, sq1⟩ vs.length c1 .i64 D hdl
    rw [← hwv] at hia1
    have hl26 := fun w2 => len26V (w' := w2) hrow
    rw [hll] at hl26
    obtain ⟨b, off, sq, c, hsl, hra⟩ := C.hp.at_ D (by rw [plL_len]; omega)
    have hldA := hra.rd1 natC_length (plL_at (Nat.le_of_lt hlt)) (j := 0) (x := .int .i64 ((plN R ls f D : Nat) : Int)) rfl
    have hldB := hra.rd1 natC_length (plL_at (show D + 1 ≤ R.days.length by omega)) (j := 0) (x := .int .i64 ((plN R ls f (D + 1) : Nat) : Int)) rfl
    have hiaA := fun w => ia26 w ⟨b, off, sq⟩ (plL R ls f R.days.length).length c .i64 D (by rw [plL_len]; omega)
    have hiaB : ∀ w, indexAddrA Try.prog w 26 (.slice (some ⟨b, off, sq⟩) (plL R ls f R.days.length).length c) (.int .i64 ((D : Int) + 1)) = .val (.pointer (some ((⟨b, off, sq⟩ : Addr).add ((D + 1) * 1)))) w := fun w => by
      rw [show ((D : Int) + 1) = ((D + 1 : Nat) : Int) by omega]
      exact ia26 w ⟨b, off, sq⟩ (plL R ls f R.days.length).length c .i64 (D + 1) (by rw [plL_len]; omega)
    rw [← hsl] at hiaA hiaB
    simp only [Nat.mul_one, Nat.add_zero] at hld1 hia1 hldA hldB hiaA hiaB
    have hstep : plN R ls f (D + 1) = dayB l R.near l.length R.boxes.toNat k (plN R ls f D) := by rw [plN, hd, hk]
    have el : l.length = R.pods.toNat := by have := hb.p1; omega
    have hpl : plN R ls f D < 2 ^ l.length := by rw [el]; exact plN_lt C.ok D
    have had := ad_nat (pl20 C.ok D) (pl20 C.ok (D + 1)) (fun i h => by rw [hstep]; exact dayB_stays h)
    have hlaw : ∀ (j : Nat) (z : Int), j < l.length → l[j]? = some z → (plN R ls f (D + 1)).testBit j = (bxB l (plN R ls f D) l.length ||| mrB R.near k (bxB l (plN R ls f D) l.length) R.near.length).testBit z.toNat := fun j z hj hz => by
      rw [hstep]
      exact dayB_law hpl (fun z hz => by have := (hb.day l hml).2 z hz; have := hb.b1; omega) (fun q hq => by have := hb.pair q hq; omega) hj hz rfl
    have hbx20 := bx20 hb hml (plN R ls f D) l.length
    have hmr20 := mr20 hb k (bxB l (plN R ls f D) l.length) R.near.length
    obtain ⟨pa, hpa⟩ : ∃ p, p = plN R ls f D := ⟨_, rfl⟩
    obtain ⟨pb, hpb⟩ : ∃ p, p = plN R ls f (D + 1) := ⟨_, rfl⟩
    rw [← hpa] at had hldA
    rw [← hpb] at had hldB
    simp [mc3_l0, s2, s5, s6, s8, g1, hl22, hlt, hw1, hiaA, hldA, hiaB, hldB, had, hia1, hld1, hl26]
    refine wp_seqX (wp_blockX (wp_seqX (loop3a m h14 C D l hd (by simp [s2]) (by simp [s6]) (by simp [s8]) (by simp) (by simp) fun ta k9 kk => ?_)))
    have a2 := kk 2 (by decide) (by decide) (by decide)
    have a5 := kk 5 (by decide) (by decide) (by decide)
    have a6 := kk 6 (by decide) (by decide) (by decide)
    have a8 := kk 8 (by decide) (by decide) (by decide)
    have a10 := kk 10 (by decide) (by decide) (by decide)
    simp [s2, s5, s6, s8] at a2 a5 a6 a8 a10
    simp
    refine wp_seqX (loop3b m h14 C D k (bxB l (plN R ls f D) l.length) hk hbx20 (by simp [a2]) (by simp [a5]) (by simp [a8]) (by simp [k9]) (by simp [a10]) (by simp) fun tb k10 kb => ?_)
    have b2 := kb 2 (by decide) (by decide) (by decide) (by decide)
    have b5 := kb 5 (by decide) (by decide) (by decide) (by decide)
    have b6 := kb 6 (by decide) (by decide) (by decide) (by decide)
    have b8 := kb 8 (by decide) (by decide) (by decide) (by decide)
    have b9 := kb 9 (by decide) (by decide) (by decide) (by decide)
    simp [a2, a5, a6, a8, k9] at b2 b5 b6 b8 b9
    simp
    refine loop3c m h14 C D l hd _ _ hbx20 hmr20 hlaw (by simp [b2]) (by simp [b6]) (by simp [b8]) (by simp [b9]) (by simp [k10]) (by simp) fun tc kc => ?_
    have c2 := kc 2 (by decide) (by decide)
    have c5 := kc 5 (by decide) (by decide)
    have c6 := kc 6 (by decide) (by decide)
    have c8 := kc 8 (by decide) (by decide)
    simp [b2, b5, b6, b8] at c2 c5 c6 c8
    simp [c2, c5, c6, c8, hw1]
    omega
  · have hi' : D = R.days.length := by omega
    subst hi'
    simp [mc3_l0, s2, s8, g1, hl22]
    exact hQ _
end Go.Proofs.Ytaffhippclpbpaa.walk

namespace Go.Proofs.Ytaffhippclpbpaa.walk
open Go Go.Sh
set_option maxRecDepth 100000
set_option linter.unusedSimpArgs false
set_option linter.unusedVariables false
def HasW (ov : Ov) : Prop := ∀ w, ov 11 [] w = some (.ok (.ret (.bool true)) w .none)
theorem ruleW {ov : Ov} (h : HasW ov) (m : Nat) (w : AW) : (run Try.prog ov (m + 1)).call 11 [] w .none = .ok (.ret (.bool true)) w .none := by
  show stepO Try.prog (run Try.prog ov m) 11 [] w .none (ov 11 [] w) = _
  rw [h w]; rfl
set_option maxHeartbeats 1000000 in
theorem call3 {ov : Ov} (ho : ∀ args w, ov 3 args w = none) (ho12 : ∀ args w, ov 12 args w = none) (ho13 : ∀ args w, ov 13 args w = none) (ho31 : ∀ args w, ov 31 args w = none) (m : Nat) (hW : HasW ov) (h10 : HasP ov 10 S10.F) (h14 : HasP ov 14 S14.F) (h16 : HasP ov 16 S16.F) (h29 : HasP ov 29 S29.F) (h30 : HasP ov 30 S30.F) (h45 : HasP ov 45 S45.F) (h46 : HasP ov 46 S46.F) (h47 : HasP ov 47 S47.F)
    (r : MRun) (wv nv bv : Value) (bits : List Int) (hbits : bits.length ≤ 2 ^ 60) (w : AW) (hl : w.lim = w.next) (hR : RunV w r wv nv) (hv : RowsV intC w bv bits) :
    ∃ v w', (run Try.prog ov (m + 4)).call 3 [.agg ⟨runC r wv nv⟩, bv] w .none = .ok (.ret v) w' .none ∧ v = .bool true := by
  refine call_wp text3 (by simp) (ho _ _) ?_
  obtain ⟨w1, hw1⟩ : ∃ w1, w1 = (⟨w.heap.put w.next (some (.cells (runC r wv nv) 25 false)), w.next + 1, w.lim⟩ : AW) := ⟨_, rfl⟩
  have u1 : Up w w1 := hw1 ▸ (Up.refl w).add _
  have e1n : w1.next = w.next + 1 := by rw [hw1]
  have e1l : w1.lim = w.lim := by rw [hw1]
  have g1 : w1.heap.get w.next = some (.cells (runC r wv nv) 25 false) := by rw [hw1, get_put, if_pos rfl]
  have hR1 := hR.up u1
  have q10 := S10.call (P := Try.prog) h10 (m := m + 2) (w := w1) ⟨r, wv, nv, rfl, hR1, rfl⟩
  have qW := fun w => ruleW hW (m + 2) w
  have ew1 : (⟨w.heap.put w.next (some (.cells [.int .i64 r.pods, .int .i64 r.boxes, .int .i64 r.few, .int .i64 r.delay, wv, nv] 25 false)), w.next + 1, w.lim⟩ : AW) = w1 := by rw [hw1]; rfl
  cases hrun : runB r with
  | false =>
    rw [hrun] at q10
    simp only [runC] at q10 g1
    simp [mc3, cellsOf_agg, runC]
    rw [ew1]
    simp [q10, qW, g1, tupV]
  | true =>
    rw [hrun] at q10
    obtain ⟨v2, w2, hc12, lv, rfl, hrows, u2⟩ := call12 ho12 (m + 1) h16 h29 r wv nv bv bits hbits w1 (by omega) hR1 (hv.up u1) hrun
    have hT := truth_ok hrun bits
    obtain ⟨f, hf⟩ : ∃ f, f = chF bits r.pods r.few.toNat := ⟨_, rfl⟩
    obtain ⟨ls, hls⟩ : ∃ f, f = chL bits r.near.length r.days.length := ⟨_, rfl⟩
    rw [← hf, ← hls] at hT
    rw [← hf] at hc12
    rw [← hls] at hrows
    obtain ⟨a0, c0, hlv⟩ := hrows.len
    subst hlv
    have hl2 : w2.lim ≤ w2.next := by have := u2.lim; have := u2.next; omega
    obtain ⟨w3, hw3⟩ : ∃ w3, w3 = (⟨(w2.heap.put w2.next (some (.cells [.int .i64 0, .slice none 0 0] 30 false))).put w2.next (some (.cells [.int .i64 (f : Int), .slice a0 ls.length c0] 30 false)), w2.next + 1, w2.lim⟩ : AW) := ⟨_, rfl⟩
    have u3 : Up w2 w3 := hw3 ▸ ((Up.refl w2).add _).put (Nat.le_refl _) (Nat.le_refl _)
    have e3n : w3.next = w2.next + 1 := by rw [hw3]
    have g3 : w3.heap.get w2.next = some (.cells [.int .i64 (f : Int), .slice a0 ls.length c0] 30 false) := by rw [hw3, get_put, if_pos rfl]
    have u13 := u2.trans u3
    obtain ⟨v4, w4, hc13, pv, rfl, hpl, u4⟩ := call13 ho13 ho31 m h30 h45 h46 h47 r wv nv f _ ls w3 (by rw [e3n, u3.lim]; omega) (hR1.up u13) (hrows.up u3) hT
    have hnx2 := u2.next
    have g13 : w3.heap.get w.next = some (.cells (runC r wv nv) 25 false) := by rw [u13.at (by omega), g1]
    have g14 : w4.heap.get w.next = some (.cells (runC r wv nv) 25 false) := by rw [u4.at (by omega), g13]
    have g12 : w2.heap.get w.next = some (.cells (runC r wv nv) 25 false) := by rw [u2.at (by omega), g1]
    have g34 : w4.heap.get w2.next = some (.cells [.int .i64 (f : Int), .slice a0 ls.length c0] 30 false) := by rw [u4.at (by omega), g3]
    have hR4 := hR1.up (u13.trans u4)
    have hb := runB_bnd hrun
    have d10 := hb.d10
    have hl26 := fun w2 => len26V (w' := w2) hpl
    rw [plL_len] at hl26
    obtain ⟨⟨vs, hvs, hrel⟩, _⟩ := id hR4
    have hl22 := fun w2 => len22V (w' := w2) hvs
    rw [hrel.len] at hl22
    obtain ⟨b, off, sq, c, hsl, hra⟩ := hpl.at_ 0 (by rw [plL_len]; omega)
    have hld := hra.rd1 natC_length (plL_at (Nat.zero_le _)) (j := 0) (x := .int .i64 ((plN r ls f 0 : Nat) : Int)) rfl
    have hia : ∀ w, indexAddrA Try.prog w 26 (.slice (some ⟨b, off, sq⟩) (plL r ls f r.days.length).length c) (.int .i64 0) = .val (.pointer (some ((⟨b, off, sq⟩ : Addr).add (0 * 1)))) w := fun w => ia26 w ⟨b, off, sq⟩ (plL r ls f r.days.length).length c .i64 0 (by rw [plL_len]; omega)
    rw [← hsl] at hia
    rw [show plN r ls f 0 = f from rfl] at hld
    simp only [Nat.mul_one, Nat.add_zero] at hld hia
    have hwl : IntKind.wrap .i64 ((r.days.length : Int) + 1) = (r.days.length : Int) + 1 := wrap64_in (by omega) (by omega)
    have hok : notJunk pv = some pv := by obtain ⟨a, c, rfl⟩ := hpl.len; rfl
    simp only [runC] at q10 g1 hc12 hc13 g13 g14 g12
    have C : C3 w4 r wv nv w.next w2.next f (.slice a0 ls.length c0) pv ls := ⟨hR4, g14, g34, (hrows.up u3).up u4, hpl, hT⟩
    have ew3 : (⟨(w2.heap.put w2.next (some (.cells [.int .i64 0, .slice none 0 0] 30 false))).put w2.next (some (.cells [.int .i64 (f : Int), .slice a0 ls.length c0] 30 false)), w2.next + 1, w2.lim⟩ : AW) = w3 := hw3.symm
    simp [mc3, cellsOf_agg, runC]
    rw [ew1]
    have hne12 : ¬ w.next = w2.next := by omega
    rw [hw3] at hc13
    simp [q10, g1, hc12, cellsOf_agg, hl2, hne12, g12, hc13, hl26, hl22, g14, g34, hwl, hia, hld]
    refine wp_seqX (loop3 (m + 2) h14 C (by simp) (by simp) (by simp) (by simp) fun t' => ?_)
    simp [qW, tupV]
end Go.Proofs.Ytaffhippclpbpaa.walk
