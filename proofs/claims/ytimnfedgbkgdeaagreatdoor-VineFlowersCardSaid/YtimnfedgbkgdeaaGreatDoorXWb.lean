/- Part of a proof by a machine of ones own: see the text with the theorem. -/
import Derived.Test.YtimnfedgbkgdeaaGreatDoorXWa
namespace Go.Proofs.YtimnfedgbkgdeaaGreatDoor.walk
open Go Go.Sh
set_option maxRecDepth 100000
set_option linter.unusedSimpArgs false
/-! the shade of each day, as the program lays it out -/
def boolC (b : Bool) : List Value := [.bool b]
@[simp] theorem boolC_length (b : Bool) : (boolC b).length = 1 := by simp [boolC]
theorem cut_in {n : Int} {l : List Int} (h : cutsB l n = true) {i : Nat} {c : Int} (hc : l[i]? = some c) : 0 ≤ c ∧ c < n := by
  have hlt : i < l.length := (List.getElem?_eq_some_iff.1 hc).1
  have h1 : cutsTo n l (i + 1) = true := by
    cases hx : cutsTo n l (i + 1) with
    | true => rfl
    | false => rw [show cutsB l n = false from cuts_false hx _ hlt] at h; cases h
  rw [cuts_snoc hc] at h1
  simp only [Bool.and_eq_true, decide_eq_true_eq] at h1
  have := last_ge i (Nat.le_of_lt hlt) h1.1
  omega
theorem bl_at : ∀ (l : List Bool) (i : Nat) (b : Bool), l[i]? = some b → (l.flatMap boolC)[i]? = some (.bool b)
  | [], i, b, h => by simp at h
  | x :: l, 0, b, h => by
    simp only [List.getElem?_cons_zero, Option.some.injEq] at h
    subst h; rfl
  | x :: l, i + 1, b, h => by
    show (boolC x ++ l.flatMap boolC)[i + 1]? = _
    exact bl_at l i b (by simpa using h)
structure Ye (w0 : AW) (s : Sea) (dv cv : Value) (n : Nat) (bl : List Bool) (L : List Int) (w : AW) : Prop where
  old : Old w0.next w0.heap w.heap
  box : w.heap.get w0.next = some (.cells (seaC s dv cv) 29 false)
  res : ∃ z, w.heap.get (w0.next + 1) = some (.cells z 58 false) ∧ z.length = 10
  row : w.heap.get (w0.next + 2) = some (.cells (L.flatMap intC) 3 false)
  year : w.heap.get (w0.next + 3) = some (.cells (yearC s dv cv (.slice (some ⟨w0.next + 2, 0, none⟩) n n)) 58 false)
  cut : w.heap.get (w0.next + 4) = some (.cells (bl.flatMap boolC) 4 false)
  next : w0.next + 4 < w.next
  lim : w.lim = w0.lim
  lens : bl.length = n ∧ L.length = n
theorem loop21a {ov : Ov} (s : Sea) (c : List Int) (n : Nat) (hcB : cutsB c n = true) (hc1000 : c.length ≤ 1000) (dv cv : Value) (w0 : AW) (hl0 : w0.lim ≤ w0.next) (hu : RowsV intC w0 cv c) (L : List Int)
    (Q : Ex → Tm → AW → Prop) (t : Tm) (w : AW) (hw : Ye w0 s dv cv n (List.replicate n false) L w) (m : Nat)
    (t1 : tget t 1 = .pointer (some ⟨w0.next, 0, none⟩)) (t2 : tget t 2 = .pointer (some ⟨w0.next + 1, 0, none⟩)) (t3 : tget t 3 = .pointer (some ⟨w0.next + 3, 0, none⟩)) (t4 : tget t 4 = .slice (some ⟨w0.next + 4, 0, none⟩) n n) (t20 : tget t 20 = cv) (t21 : tget t 21 = .int .i64 (c.length : Nat)) (t22 : tget t 22 = .int .i64 0)
    (hQ : ∀ t w bl, Ye w0 s dv cv n bl L w → (∀ d, d < n → bl[d]? = some (decide ((d : Int) ∈ c))) → tget t 1 = .pointer (some ⟨w0.next, 0, none⟩) → tget t 2 = .pointer (some ⟨w0.next + 1, 0, none⟩) → tget t 3 = .pointer (some ⟨w0.next + 3, 0, none⟩) → tget t 4 = .slice (some ⟨w0.next + 4, 0, none⟩) n n → Q (.exit 0) t w) :
    wp (exM Tryz.prog (run Tryz.prog ov m) (.loop mc21_l0) t w) Q := by
  refine wp_rounds (fun i t w => (∃ bl, Ye w0 s dv cv n bl L w ∧ ∀ d, d < n → bl[d]? = some (decide ((d : Int) ∈ c.take i))) ∧ tget t 1 = .pointer (some ⟨w0.next, 0, none⟩) ∧ tget t 2 = .pointer (some ⟨w0.next + 1, 0, none⟩) ∧ tget t 3 = .pointer (some ⟨w0.next + 3, 0, none⟩) ∧ tget t 4 = .slice (some ⟨w0.next + 4, 0, none⟩) n n ∧ tget t 20 = cv ∧ tget t 21 = .int .i64 (c.length : Nat) ∧ tget t 22 = .int .i64 (i : Nat) ∧ i ≤ c.length) 2000 (by decide)
    ⟨⟨_, hw, fun d hd => by simp [List.getElem?_replicate, hd]⟩, t1, t2, t3, t4, t20, t21, by simpa using t22, Nat.zero_le _⟩ ?_
  clear t1 t2 t3 t4 t20 t21 t22 hw
  rintro i t w ⟨⟨bl, hw, hbl⟩, t1, t2, t3, t4, t20, t21, t22, hi⟩
  by_cases hlt : i < c.length
  · obtain ⟨z, hz⟩ : ∃ z, c[i]? = some z := ⟨_, List.getElem?_eq_getElem hlt⟩
    obtain ⟨b, off, sq, cp, rfl, hr⟩ := hu.at_ i hlt
    have hld := hr.int hz
    rw [← hw.old b hr.2] at hld
    have hia := fun w => ia27 w ⟨b, off, sq⟩ c.length cp .i64 i hlt
    have hw1 : IntKind.wrap .i64 ((i : Int) + 1) = (i : Int) + 1 := wrap64_in (by omega) (by omega)
    obtain ⟨z0, zn⟩ := cut_in hcB hz
    obtain ⟨k, hk⟩ : ∃ k : Nat, (k : Int) = z := ⟨z.toNat, by omega⟩
    have hkn : k < n := by omega
    have hib := fun w => ia92 w ⟨w0.next + 4, 0, none⟩ n n .i64 k hkn
    rw [← hk] at hld
    have hcut := hw.cut
    have hnx := hw.next
    have hlm := hw.lim
    have l4 : w.lim ≤ w0.next + 4 := by omega
    obtain ⟨bl1, bl2⟩ := hw.lens
    have hfl : (bl.flatMap boolC).length = n := by rw [flat_length boolC_length, bl1]; omega
    have hset := flat_set boolC_length bl k true (by omega)
    obtain ⟨cs, hcs⟩ : ∃ cs, cs = bl.flatMap boolC := ⟨_, rfl⟩
    rw [← hcs] at hset hfl hcut
    simp only [Nat.mul_one, boolC, List.cons_append, List.nil_append] at hset
    have hfit : k + 1 ≤ n := hkn
    have hY : Ye w0 s dv (.slice (some ⟨b, off, sq⟩) c.length cp) n (bl.set k true) L ⟨w.heap.put (w0.next + 4) (some (.cells ((bl.set k true).flatMap boolC) 4 false)), w.next, w.lim⟩ := by
      refine ⟨hw.old.put (by omega), ?_, ?_, ?_, ?_, ?_, hnx, hlm, ?_, bl2⟩
      · simp [hw.box]
      · obtain ⟨z, h1, h2⟩ := hw.res; exact ⟨z, by simp [h1], h2⟩
      · simp [hw.row]
      · simp [hw.year]
      · simp
      · rw [List.length_set, bl1]
    have hbl' : ∀ d, d < n → (bl.set k true)[d]? = some (decide ((d : Int) ∈ c.take (i + 1))) := by
      intro d hd
      rw [List.take_add_one, hz]
      by_cases e : d = k
      · subst e
        rw [List.getElem?_set_self (by omega)]
        simp [hk]
      · rw [List.getElem?_set_ne (Ne.symm e), hbl d hd]
        congr 1
        have : ¬ (d : Int) = z := by omega
        simp [this]
    simp [mc21_l0, t4, t20, t21, t22, hlt, hia, hld, hib, hcut, l4, hfl, hfit, hset, hw1]
    exact ⟨by omega, ⟨_, hY, hbl'⟩, t1, t2, t3, hlt⟩
  · have hi' : i = c.length := by omega
    subst hi'
    simp [mc21_l0, t21, t22]
    exact hQ _ _ bl hw (fun d hd => by rw [hbl d hd, List.take_length]) (by simp [t1]) (by simp [t2]) (by simp [t3]) (by simp [t4])
end Go.Proofs.YtimnfedgbkgdeaaGreatDoor.walk

namespace Go.Proofs.YtimnfedgbkgdeaaGreatDoor.walk
open Go Go.Sh
set_option maxRecDepth 100000
set_option linter.unusedSimpArgs false
def curS (s : Sea) (c : List Int) : Nat → Int
  | 0 => s.from_
  | i + 1 => min (shB s c (i + 1) + s.grows) 100
theorem shB_cur {s : Sea} (hs : shadeB s = true) (c : List Int) : ∀ i, shB s c (i + 1) = if (i : Int) ∈ c then min (curS s c i) s.cut else curS s c i
  | 0 => by
    show nextI s (-1) _ = _
    unfold nextI
    by_cases h : ((0 : Nat) : Int) ∈ c <;> simp [h, curS]
  | i + 1 => by
    have hb := (shB_bd hs c (i + 1)).2.2 (Nat.succ_pos _)
    show nextI s (shB s c (i + 1)) _ = _
    unfold nextI
    have e : min 100 (shB s c (i + 1) + s.grows) = min (shB s c (i + 1) + s.grows) 100 := by omega
    by_cases h : ((i + 1 : Nat) : Int) ∈ c
    · rw [if_pos (by simpa using h), if_pos hb, if_pos h]
      show min (min 100 _) _ = min (min _ 100) _
      rw [e]
    · rw [if_neg (by simpa using h), if_pos hb, if_neg h]
      show min 100 _ = min _ 100
      rw [e]
theorem loop21b {ov : Ov} (m : Nat) (h47 : HasP ov 51 F51) (h48 : HasP ov 52 F52) (s : Sea) (hs : shadeB s = true) (c : List Int) (n : Nat) (h40 : n ≤ 40) (dv cv : Value) (w0 : AW) (hl0 : w0.lim ≤ w0.next) (bl : List Bool) (hbl : ∀ d, d < n → bl[d]? = some (decide ((d : Int) ∈ c))) (L0 : List Int)
    (Q : Ex → Tm → AW → Prop) (t : Tm) (w : AW) (hw : Ye w0 s dv cv n bl L0 w)
    (t2 : tget t 2 = .pointer (some ⟨w0.next + 1, 0, none⟩)) (t3 : tget t 3 = .pointer (some ⟨w0.next + 3, 0, none⟩)) (t4 : tget t 4 = .slice (some ⟨w0.next + 4, 0, none⟩) n n) (t7 : tget t 7 = .int .i64 s.from_) (t35 : tget t 35 = .int .i64 (n : Nat)) (t36 : tget t 36 = .int .i64 0)
    (hQ : ∀ t w L, Ye w0 s dv cv n bl L w → (∀ d, d < n → L[d]? = some (shB s c (d + 1))) → tget t 2 = .pointer (some ⟨w0.next + 1, 0, none⟩) → tget t 3 = .pointer (some ⟨w0.next + 3, 0, none⟩) → Q (.exit 2) t w) :
    wp (exM Tryz.prog (run Tryz.prog ov (m + 1)) (.loop mc21_l1) t w) Q := by
  refine wp_rounds (fun i t w => (∃ L, Ye w0 s dv cv n bl L w ∧ ∀ d, d < i → L[d]? = some (shB s c (d + 1))) ∧ tget t 2 = .pointer (some ⟨w0.next + 1, 0, none⟩) ∧ tget t 3 = .pointer (some ⟨w0.next + 3, 0, none⟩) ∧ tget t 4 = .slice (some ⟨w0.next + 4, 0, none⟩) n n ∧ tget t 7 = .int .i64 (curS s c i) ∧ tget t 35 = .int .i64 (n : Nat) ∧ tget t 36 = .int .i64 (i : Nat) ∧ i ≤ n) 200 (by decide)
    ⟨⟨_, hw, fun d hd => by omega⟩, t2, t3, t4, t7, t35, by simpa using t36, Nat.zero_le _⟩ ?_
  clear t2 t3 t4 t7 t35 t36 hw
  rintro i t w ⟨⟨L, hw, hL⟩, t2, t3, t4, t7, t35, t36, hi⟩
  by_cases hlt : i < n
  · have hw1 : IntKind.wrap .i64 ((i : Int) + 1) = (i : Int) + 1 := wrap64_in (by omega) (by omega)
    have hib := fun w => ia92 w ⟨w0.next + 4, 0, none⟩ n n .i64 i hlt
    have hia := fun w => ia27 w ⟨w0.next + 2, 0, none⟩ n n .i64 i hlt
    have hcut := hw.cut
    have hyear := hw.year
    have hrow := hw.row
    have hnx := hw.next
    have hlm := hw.lim
    have l2 : w.lim ≤ w0.next + 2 := by omega
    obtain ⟨bl1, L1⟩ := hw.lens
    have hbi := bl_at bl i _ (hbl i hlt)
    obtain ⟨bs, hbs⟩ : ∃ bs, bs = bl.flatMap boolC := ⟨_, rfl⟩
    rw [← hbs] at hbi hcut
    have hset := flat_set intC_length L i (shB s c (i + 1)) (by omega)
    have hfl : (L.flatMap intC).length = n := by rw [flat_length intC_length, L1]; omega
    obtain ⟨cs, hcs⟩ : ∃ cs, cs = L.flatMap intC := ⟨_, rfl⟩
    rw [← hcs] at hset hfl hrow
    simp only [Nat.mul_one, intC, List.cons_append, List.nil_append] at hset
    have hfit : i + 1 ≤ n := hlt
    have hcur := shB_cur hs c i
    have bd := shB_bd hs c (i + 1)
    have hx0 := bd.2.2 (Nat.succ_pos _)
    have hg := (shade_nums hs).2.1
    obtain ⟨z, hz⟩ : ∃ z, z = shB s c (i + 1) := ⟨_, rfl⟩
    rw [← hz] at hset hcur hx0 bd
    have hnext : curS s c (i + 1) = min (z + s.grows) 100 := by rw [hz]; rfl
    have r47 := fun v n w => rule51 h47 s dv cv v n m w
    have r48 := fun v w => rule52 h48 s dv cv v (n := z) ⟨hx0, bd.2.1⟩ hg m w
    simp only [Nat.zero_add, yearC] at r47 r48
    have hY : Ye w0 s dv cv n bl (L.set i z) ⟨w.heap.put (w0.next + 2) (some (.cells ((L.set i z).flatMap intC) 3 false)), w.next, w.lim⟩ := by
      refine ⟨hw.old.put (by omega), ?_, ?_, ?_, ?_, ?_, by show w0.next + 4 < w.next; omega, hlm, bl1, ?_⟩
      · simp [hw.box]
      · obtain ⟨y, h1, h2⟩ := hw.res; exact ⟨y, by simp [h1], h2⟩
      · simp
      · simp [hw.year]
      · simp [hw.cut]
      · rw [List.length_set, L1]
    have hL' : ∀ d, d < i + 1 → (L.set i z)[d]? = some (shB s c (d + 1)) := by
      intro d hd
      by_cases e : d = i
      · subst e
        rw [List.getElem?_set_self (by omega), hz]
      · rw [List.getElem?_set_ne (Ne.symm e), hL d (by omega)]
    by_cases hm : (i : Int) ∈ c
    · rw [if_pos hm] at hcur
      rw [decide_eq_true hm] at hbi
      have hc' : min (curS s c i) s.cut = z := hcur.symm
      simp [mc21_l1, t2, t3, t4, t7, t35, t36, hlt, hib, hia, hcut, hbi, hyear, yearC, hrow, hfl, hfit, hset, l2, r47, r48, hw1, hc']
      exact ⟨by omega, ⟨_, hY, hL'⟩, hnext.symm⟩
    · rw [if_neg hm] at hcur
      rw [decide_eq_false hm] at hbi
      have hc' : curS s c i = z := hcur.symm
      rw [hc'] at t7
      simp [mc21_l1, t2, t3, t4, t7, t35, t36, hlt, hib, hia, hcut, hbi, hyear, yearC, hrow, hfl, hfit, hset, l2, r48, hw1]
      exact ⟨by omega, ⟨_, hY, hL'⟩, hnext.symm⟩
  · have hi' : i = n := by omega
    subst hi'
    simp [mc21_l1, t35, t36]
    exact hQ _ _ L hw hL (by simp [t2]) (by simp [t3])
theorem shL_eq (s : Sea) (c : List Int) {n : Nat} {L : List Int} (hl : L.length = n) (h : ∀ d, d < n → L[d]? = some (shB s c (d + 1))) : L = shL s c n := by
  have at_ : ∀ n d, d < n → (shL s c n)[d]? = some (shB s c (d + 1)) := by
    intro n
    induction n with
    | zero => intro d hd; omega
    | succ n ih =>
      intro d hd
      show (shL s c n ++ [_])[d]? = _
      by_cases e : d < n
      · rw [List.getElem?_append_left (by rw [shL_length]; exact e), ih d e]
      · have e' : d = n := by omega
        rw [List.getElem?_append_right (by rw [shL_length]; omega), shL_length, e', Nat.sub_self]
        rfl
  apply List.ext_getElem?
  intro d
  by_cases hd : d < n
  · rw [h d hd, at_ n d hd]
  · rw [List.getElem?_eq_none (by omega), List.getElem?_eq_none (by rw [shL_length]; omega)]
end Go.Proofs.YtimnfedgbkgdeaaGreatDoor.walk

namespace Go.Proofs.YtimnfedgbkgdeaaGreatDoor.walk
open Go Go.Sh
set_option maxRecDepth 100000
set_option linter.unusedSimpArgs false
theorem mk27 (n : Nat) (hn : n ≤ 1000) (w : AW) : makeSliceA Tryz.prog w 27 (.int .i64 (n : Int)) (.int .i64 (n : Int)) = .val (.slice (some ⟨w.next, 0, none⟩) n n) ⟨w.heap.put w.next (some (.cells ((List.replicate n (0 : Int)).flatMap intC) 3 false)), w.next + 1, w.lim⟩ := by
  rw [make_eq (e := 3) (z := .int .i64 0) (by kernel_rfl) (by kernel_rfl) (by kernel_rfl) n hn w, ← repl_flat]; rfl
theorem mk92 (n : Nat) (hn : n ≤ 1000) (w : AW) : makeSliceA Tryz.prog w 92 (.int .i64 (n : Int)) (.int .i64 (n : Int)) = .val (.slice (some ⟨w.next, 0, none⟩) n n) ⟨w.heap.put w.next (some (.cells ((List.replicate n false).flatMap boolC) 4 false)), w.next + 1, w.lim⟩ := by
  rw [make_eq (e := 4) (z := .bool false) (by kernel_rfl) (by kernel_rfl) (by kernel_rfl) n hn w, ← repl_flat]; rfl
set_option maxHeartbeats 2000000 in
theorem call21 {ov : Ov} (m : Nat) (ho : ∀ args w, ov 21 args w = none) (h47 : HasP ov 51 F51) (h48 : HasP ov 52 F52) (s : Sea) (hs : shadeB s = true) (l : List Day) (h40 : l.length ≤ 40) (c : List Int) (hcB : cutsB c l.length = true) (hc1000 : c.length ≤ 1000) (dv cv : Value) (w : AW) (hl : w.lim ≤ w.next) (hv : RowsV dayC w dv l) (hu : RowsV intC w cv c) :
    ∃ x w', (run Tryz.prog ov (m + 2)).call 21 [.agg ⟨seaC s dv cv⟩] w .none = .ok (.ret x) w' .none ∧ ∃ B, x = .agg ⟨yearC s dv cv (.slice (some ⟨B, 0, none⟩) l.length l.length)⟩ ∧ w'.heap.get B = some (.cells ((shL s c l.length).flatMap intC) 3 false) ∧ w.next ≤ B ∧ B < w'.next ∧ Old w.next w.heap w'.heap ∧ w.next ≤ w'.next ∧ w'.lim = w.lim := by
  refine call_wp text21 (by simp) (ho _ _) ?_
  have hld := len22V hv
  have hlc := len27V hu
  obtain ⟨da, dc, rfl⟩ := hv.len
  obtain ⟨ca, cc, rfl⟩ := hu.len
  have hmk := fun w => mk27 l.length (by omega) w
  have hmk' := fun w => mk92 l.length (by omega) w
  have l0 : w.lim ≤ w.next + 1 := by omega
  have l3 : w.lim ≤ w.next + 3 := by omega
  have sv : sameVal 5 (.agg ⟨seaC s (.slice da l.length dc) (.slice ca c.length cc)⟩) (.agg ⟨seaC s (.slice da l.length dc) (.slice ca c.length cc)⟩) = true := same_agg _ fun v hv => by
    simp only [seaC, List.mem_cons, List.not_mem_nil, or_false] at hv
    rcases hv with rfl | rfl | rfl | rfl | rfl | rfl | rfl | rfl | rfl
    · exact sameN_slice 3 _ _ _
    all_goals first | exact sameN_int 3 _ _ | exact sameN_slice 3 _ _ _
  unfold seaC at sv
  simp [mc21, seaC, hmk, hmk', hl, l0, l3, cellsOf_agg, sv]
  refine wp_seqX (wp_blockX (loop21a s c l.length hcB hc1000 (.slice da l.length dc) (.slice ca c.length cc) w hl hu (List.replicate l.length 0) _ _ _ ⟨?_, ?_, ?_, ?_, ?_, ?_, ?_, ?_, ?_⟩ (m + 1) ?_ ?_ ?_ ?_ ?_ ?_ ?_ ?_))
  case _ =>
    intro b hb
    simp [show ¬ b = w.next by omega, show ¬ b = w.next + 1 by omega, show ¬ b = w.next + 2 by omega, show ¬ b = w.next + 3 by omega, show ¬ b = w.next + 4 by omega]
  case _ => simp [seaC]
  case _ => exact ⟨_, by simp; rfl, rfl⟩
  case _ => simp
  case _ => simp [yearC]
  case _ => simp
  case _ => simp
  case _ => rfl
  case _ => simp
  case _ => simp
  case _ => simp
  case _ => simp
  case _ => simp
  case _ => simp
  case _ => simp
  case _ => simp
  case _ =>
    intro t w' bl hY hbl t1 t2 t3 t4
    have hbox := hY.box
    have c3 : ∀ h, (seaC s (.slice da l.length dc) (.slice ca c.length cc))[3]'h = .int .i64 s.from_ := fun _ => rfl
    have c0 : ∀ h, (seaC s (.slice da l.length dc) (.slice ca c.length cc))[0]'h = .slice da l.length dc := fun _ => rfl
    unfold seaC at hbox
    simp [t1, t2, t3, t4, hbox]
    refine wp_seqX (wp_blockX (loop21b m h47 h48 s hs c l.length h40 _ _ w hl bl hbl _ _ _ _ hY ?_ ?_ ?_ ?_ ?_ ?_ ?_))
    case _ => simp [t2]
    case _ => simp [t3]
    case _ => simp [t4]
    case _ => simp
    case _ => simp
    case _ => simp
    case _ =>
      clear t1 t2 t3 t4 hbox
      intro t w1 L hY hL t2 t3
      have hyear := hY.year
      obtain ⟨z, hres, hzl⟩ := hY.res
      have hlm := hY.lim
      have hnx := hY.next
      have l1 : w1.lim ≤ w.next + 1 := by omega
      have hLe := shL_eq s c hY.lens.2 hL
      unfold yearC at hyear
      simp [t2, t3, hyear, hres, hzl, l1, cellsOf_agg, tupV]
      exact ⟨w.next + 2, rfl, by rw [if_neg (by omega), hY.row, hLe], by omega, by omega, hY.old.put (Nat.le_succ _), by omega, hlm⟩
end Go.Proofs.YtimnfedgbkgdeaaGreatDoor.walk

namespace Go.Proofs.YtimnfedgbkgdeaaGreatDoor.walk
open Go Go.Sh
set_option maxRecDepth 100000
set_option linter.unusedSimpArgs false
@[simp] theorem fv54_1 (w : AW) (a0 a1 a2 a3 a4 a5 a6 a7 a8 : Value) (ba : Option Addr) (bl bc : Nat) : fieldA Tryz.prog w 58 1 (.agg ⟨[a0, a1, a2, a3, a4, a5, a6, a7, a8, .slice ba bl bc]⟩) = .val (.slice ba bl bc) w := by kernel_rfl
theorem cuts_len {n : Int} {l : List Int} (h0 : 0 ≤ n) (h : cutsB l n = true) : (l.length : Int) ≤ n := by
  have a := last_ge l.length (Nat.le_refl _) h
  have b := last_lt h0 l.length (Nat.le_refl _) h
  omega
theorem sea_zero {s : Sea} {l : List Day} {c : List Int} (h : seaE s l c = 0) : daysB l = true ∧ cutsB c l.length = true ∧ shadeB s = true ∧ inI 0 s.base 50 = true ∧ inI 0 s.wet 100 = true := by
  unfold seaE at h
  cases hx : seaB s l c with
  | false => rw [hx] at h; cases h
  | true =>
    simpa only [seaB, Bool.and_eq_true] using hx
theorem acc_rows {n1 : Nat} {w : AW} {v : Value} {acc : List Int} {B : Nat} (h : AccI n1 w v acc B) : RowsV intC w v acc := by
  rcases h with ⟨h1, h2, _⟩ | ⟨h1, h2, h3, h4⟩
  · exact .inl ⟨h1, _, _, h2⟩
  · exact .inr ⟨B, 0, none, _, h1, ⟨[], [], 3, false, by rw [h2]; simp, rfl⟩, h4⟩
end Go.Proofs.YtimnfedgbkgdeaaGreatDoor.walk

namespace Go.Proofs.YtimnfedgbkgdeaaGreatDoor.walk
open Go Go.Sh
set_option maxRecDepth 100000
set_option linter.unusedSimpArgs false
/-! two rows alike -/
end Go.Proofs.YtimnfedgbkgdeaaGreatDoor.walk

namespace Go.Proofs.YtimnfedgbkgdeaaGreatDoor.walk
open Go Go.Sh
set_option maxRecDepth 100000
set_option linter.unusedSimpArgs false
/-! the heat of a day -/
def heatI (s : Sea) (warm rain shade : Int) : Int := if s.wet < rain then 0 else (max 0 (warm - s.base) * (100 - shade)).tdiv 100
structure HeatOk (s : Sea) (warm shade : Int) : Prop where
  w0 : 0 ≤ warm
  w1 : warm ≤ 50
  b0 : 0 ≤ s.base
  b1 : s.base ≤ 50
  s0 : 0 ≤ shade
  s1 : shade ≤ 100
theorem heat_nums {s : Sea} {warm shade : Int} (h : HeatOk s warm shade) : (0 ≤ max 0 (warm - s.base) * (100 - shade) ∧ max 0 (warm - s.base) * (100 - shade) ≤ 5000) ∧ 0 ≤ (max 0 (warm - s.base) * (100 - shade)).tdiv 100 ∧ (max 0 (warm - s.base) * (100 - shade)).tdiv 100 ≤ 50 := by
  obtain ⟨a, b, c, d, e, f⟩ := h
  have h1 : 0 ≤ max 0 (warm - s.base) * (100 - shade) := Int.mul_nonneg (by omega) (by omega)
  have h2 : max 0 (warm - s.base) * (100 - shade) ≤ 50 * 100 := Int.mul_le_mul (by omega) (by omega) (by omega) (by omega)
  have h3 := Int.tdiv_eq_ediv_of_nonneg (b := 100) h1
  rw [h3]
  omega
theorem run58 {ov : Ov} (ho : ∀ args w, ov 58 args w = none) (s : Sea) (dv cv : Value) (warm rain shade : Int) (hk : HeatOk s warm shade) (w : AW) : ∃ v w', (run Tryz.prog ov 2).call 58 [.agg ⟨seaC s dv cv⟩, .int .i64 warm, .int .i64 rain, .int .i64 shade] w .none = .ok (.ret v) w' .none ∧ v = .int .i64 (heatI s warm rain shade) := by
  refine call_wp text58 (by simp) (ho _ _) ?_
  obtain ⟨⟨n1, n2⟩, n3, n4⟩ := heat_nums hk
  obtain ⟨a, b, c, d, e, f⟩ := hk
  have w1 : IntKind.wrap .i64 (warm - s.base) = warm - s.base := wrap64_in (by omega) (by omega)
  have w2 : IntKind.wrap .i64 (100 - shade) = 100 - shade := wrap64_in (by omega) (by omega)
  have w3 : IntKind.wrap .i64 (max 0 (warm - s.base) * (100 - shade)) = max 0 (warm - s.base) * (100 - shade) := wrap64_in (by omega) (by omega)
  have w4 : IntKind.wrap .i64 ((max 0 (warm - s.base) * (100 - shade)).tdiv 100) = (max 0 (warm - s.base) * (100 - shade)).tdiv 100 := wrap64_in (by omega) (by omega)
  have hq := fun (a : Int) (c : Bool) w => bin_quo (P := Tryz.prog) (w := w) 3 c .i64 a 100 (by decide)
  by_cases h : s.wet < rain
  · simp [mc58, seaC, h, heatI, tupV]
  · simp [mc58, seaC, h, heatI, w1, w2, w3, w4, hq, tupV]
theorem run77 {ov : Ov} (ho : ∀ args w, ov 77 args w = none) (s : Sea) (dv cv sv : Value) (k : Nat) (warm rain shade : Int) (hk : HeatOk s warm shade) (L : List Int) (w : AW) (hL : RowsV intC w sv L) (hz : L[k]? = some shade) : ∃ v w', (run Tryz.prog ov 2).call 77 [.agg ⟨yearC s dv cv sv⟩, .int .i64 (k : Nat), .int .i64 warm, .int .i64 rain] w .none = .ok (.ret v) w' .none ∧ v = .int .i64 (heatI s warm rain shade) := by
  refine call_wp text77 (by simp) (ho _ _) ?_
  obtain ⟨⟨n1, n2⟩, n3, n4⟩ := heat_nums hk
  obtain ⟨a, b, c, d, e, f⟩ := hk
  have hkl : k < L.length := (List.getElem?_eq_some_iff.1 hz).1
  obtain ⟨bk, off, sq, cp, rfl, hr⟩ := hL.at_ k hkl
  have hld := hr.int hz
  have hbn := hr.2
  have m0 : ¬ bk = w.next := by omega
  have hia := fun w => ia27 w ⟨bk, off, sq⟩ L.length cp .i64 k hkl
  have w1 : IntKind.wrap .i64 (warm - s.base) = warm - s.base := wrap64_in (by omega) (by omega)
  have w2 : IntKind.wrap .i64 (100 - shade) = 100 - shade := wrap64_in (by omega) (by omega)
  have hm : max (warm - s.base) 0 = max 0 (warm - s.base) := by omega
  have w3 : IntKind.wrap .i64 (max 0 (warm - s.base) * (100 - shade)) = max 0 (warm - s.base) * (100 - shade) := wrap64_in (by omega) (by omega)
  have w4 : IntKind.wrap .i64 ((max 0 (warm - s.base) * (100 - shade)).tdiv 100) = (max 0 (warm - s.base) * (100 - shade)).tdiv 100 := wrap64_in (by omega) (by omega)
  have hq := fun (a : Int) (c : Bool) w => bin_quo (P := Tryz.prog) (w := w) 3 c .i64 a 100 (by decide)
  by_cases h : s.wet < rain
  · simp [mc77, yearC, h, heatI, tupV]
  · simp [mc77, yearC, h, heatI, hia, hld, m0, hm, w1, w2, w3, w4, hq, tupV]
end Go.Proofs.YtimnfedgbkgdeaaGreatDoor.walk

namespace Go.Proofs.YtimnfedgbkgdeaaGreatDoor.walk
open Go Go.Sh
set_option maxRecDepth 100000
set_option linter.unusedSimpArgs false
/-! weather that can be -/
end Go.Proofs.YtimnfedgbkgdeaaGreatDoor.walk

namespace Go.Proofs.YtimnfedgbkgdeaaGreatDoor.walk
open Go Go.Sh
set_option maxRecDepth 100000
set_option linter.unusedSimpArgs false
end Go.Proofs.YtimnfedgbkgdeaaGreatDoor.walk
