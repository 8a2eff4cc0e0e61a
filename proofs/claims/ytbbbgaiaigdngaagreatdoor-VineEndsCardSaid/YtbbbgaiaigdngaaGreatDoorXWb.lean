/- Part of a proof by a machine of ones own: see the text with the theorem. -/
import Derived.Test.YtbbbgaiaigdngaaGreatDoorXWa
namespace Go.Proofs.YtbbbgaiaigdngaaGreatDoor.walk
open Go Go.Sh
set_option maxRecDepth 100000
set_option linter.unusedSimpArgs false
/-! the shade of each day, as the program lays it out -/
def boolC (b : Bool) : List Value := [.bool b]
@[simp] theorem boolC_length (b : Bool) : (boolC b).length = 1 := by simp [boolC]
theorem cut_in {n : Int} {l : List Int} (h : cutsB l n = true) {i : Nat} {c : Int} (hc : l[i]? = some c) : 0 ≤ c ∧ c < n := by
  have hlt : i < l.length := (List.getElem?_eq_some_iff.1 hc).1
  have h1 : cutsTo n l (i + 1) = true := by
    cases hx : cutsTo n l (i + 1) with
    | true => rfl
    | false => rw [show cutsB l n = false from cuts_false hx _ hlt] at h; cases h
  rw [cuts_snoc hc] at h1
  simp only [Bool.and_eq_true, decide_eq_true_eq] at h1
  have := last_ge i (Nat.le_of_lt hlt) h1.1
  omega
theorem bl_at : ∀ (l : List Bool) (i : Nat) (b : Bool), l[i]? = some b → (l.flatMap boolC)[i]? = some (.bool b)
  | [], i, b, h => by simp at h
  | x :: l, 0, b, h => by
    simp only [List.getElem?_cons_zero, Option.some.injEq] at h
    subst h; rfl
  | x :: l, i + 1, b, h => by
    show (boolC x ++ l.flatMap boolC)[i + 1]? = _
    exact bl_at l i b (by simpa using h)
structure Ye (w0 : AW) (s : Sea) (dv cv : Value) (n : Nat) (bl : List Bool) (L : List Int) (w : AW) : Prop where
  old : Old w0.next w0.heap w.heap
  box : w.heap.get w0.next = some (.cells (seaC s dv cv) 29 false)
  res : ∃ z, w.heap.get (w0.next + 1) = some (.cells z 58 false) ∧ z.length = 10
  row : w.heap.get (w0.next + 2) = some (.cells (L.flatMap intC) 3 false)
  year : w.heap.get (w0.next + 3) = some (.cells (yearC s dv cv (.slice (some ⟨w0.next + 2, 0, none⟩) n n)) 58 false)
  cut : w.heap.get (w0.next + 4) = some (.cells (bl.flatMap boolC) 4 false)
  next : w0.next + 4 < w.next
  lim : w.lim = w0.lim
  lens : bl.length = n ∧ L.length = n
theorem loop21a {ov : Ov} (s : Sea) (c : List Int) (n : Nat) (hcB : cutsB c n = true) (hc1000 : c.length ≤ 1000) (dv cv : Value) (w0 : AW) (hl0 : w0.lim ≤ w0.next) (hu : RowsV intC w0 cv c) (L : List Int)
    (Q : Ex → Tm → AW → Prop) (t : Tm) (w : AW) (hw : Ye w0 s dv cv n (List.replicate n false) L w) (m : Nat)
    (t1 : tget t 1 = .pointer (some ⟨w0.next, 0, none⟩)) (t2 : tget t 2 = .pointer (some ⟨w0.next + 1, 0, none⟩)) (t3 : tget t 3 = .pointer (some ⟨w0.next + 3, 0, none⟩)) (t4 : tget t 4 = .slice (some ⟨w0.next + 4, 0, none⟩) n n) (t20 : tget t 20 = cv) (t21 : tget t 21 = .int .i64 (c.length : Nat)) (t22 : tget t 22 = .int .i64 0)
    (hQ : ∀ t w bl, Ye w0 s dv cv n bl L w → (∀ d, d < n → bl[d]? = some (decide ((d : Int) ∈ c))) → tget t 1 = .pointer (some ⟨w0.next, 0, none⟩) → tget t 2 = .pointer (some ⟨w0.next + 1, 0, none⟩) → tget t 3 = .pointer (some ⟨w0.next + 3, 0, none⟩) → tget t 4 = .slice (some ⟨w0.next + 4, 0, none⟩) n n → Q (.exit 0) t w) :
    wp (exM Tryz.prog (run Tryz.prog ov m) (.loop mc21_l0) t w) Q := by
  refine wp_rounds (fun i t w => (∃ bl, Ye w0 s dv cv n bl L w ∧ ∀ d, d < n → bl[d]? = some (decide ((d : Int) ∈ c.take i))) ∧ tget t 1 = .pointer (some ⟨w0.next, 0, none⟩) ∧ tget t 2 = .pointer (some ⟨w0.next + 1, 0, none⟩) ∧ tget t 3 = .pointer (some ⟨w0.next + 3, 0, none⟩) ∧ tget t 4 = .slice (some ⟨w0.next + 4, 0, none⟩) n n ∧ tget t 20 = cv ∧ tget t 21 = .int .i64 (c.length : Nat) ∧ tget t 22 = .int .i64 (i : Nat) ∧ i ≤ c.length) 2000 (by decide)
    ⟨⟨_, hw, fun d hd => by simp [List.getElem?_replicate, hd]⟩, t1, t2, t3, t4, t20, t21, by simpa using t22, Nat.zero_le _⟩ ?_
  clear t1 t2 t3 t4 t20 t21 t22 hw
  rintro i t w ⟨⟨bl, hw, hbl⟩, t1, t2, t3, t4, t20, t21, t22, hi⟩
  by_cases hlt : i < c.length
  · obtain ⟨z, hz⟩ : ∃ z, c[i]? = some z := ⟨_, List.getElem?_eq_getElem hlt⟩
    obtain ⟨b, off, sq, cp, rfl, hr⟩ := hu.at_ i hlt
    have hld := hr.int hz
    rw [← hw.old b hr.2] at hld
    have hia := fun w => ia27 w ⟨b, off, sq⟩ c.length cp .i64 i hlt
    have hw1 : IntKind.wrap .i64 ((i : Int) + 1) = (i : Int) + 1 := wrap64_in (by omega) (by omega)
    obtain ⟨z0, zn⟩ := cut_in hcB hz
    obtain ⟨k, hk⟩ : ∃ k : Nat, (k : Int) = z := ⟨z.toNat, by omega⟩
    have hkn : k < n := by omega
    have hib := fun w => ia92 w ⟨w0.next + 4, 0, none⟩ n n .i64 k hkn
    rw [← hk] at hld
    have hcut := hw.cut
    have hnx := hw.next
    have hlm := hw.lim
    have l4 : w.lim ≤ w0.next + 4 := by omega
    obtain ⟨bl1, bl2⟩ := hw.lens
    have hfl : (bl.flatMap boolC).length = n := by rw [flat_length boolC_length, bl1]; omega
    have hset := flat_set boolC_length bl k true (by omega)
    obtain ⟨cs, hcs⟩ : ∃ cs, cs = bl.flatMap boolC := ⟨_, rfl⟩
    rw [← hcs] at hset hfl hcut
    simp only [Nat.mul_one, boolC, List.cons_append, List.nil_append] at hset
    have hfit : k + 1 ≤ n := hkn
    have hY : Ye w0 s dv (.slice (some ⟨b, off, sq⟩) c.length cp) n (bl.set k true) L ⟨w.heap.put (w0.next + 4) (some (.cells ((bl.set k true).flatMap boolC) 4 false)), w.next, w.lim⟩ := by
      refine ⟨hw.old.put (by omega), ?_, ?_, ?_, ?_, ?_, hnx, hlm, ?_, bl2⟩
      · simp [hw.box]
      · obtain ⟨z, h1, h2⟩ := hw.res; exact ⟨z, by simp [h1], h2⟩
      · simp [hw.row]
      · simp [hw.year]
      · simp
      · rw [List.length_set, bl1]
    have hbl' : ∀ d, d < n → (bl.set k true)[d]? = some (decide ((d : Int) ∈ c.take (i + 1))) := by
      intro d hd
      rw [List.take_add_one, hz]
      by_cases e : d = k
      · subst e
        rw [List.getElem?_set_self (by omega)]
        simp [hk]
      · rw [List.getElem?_set_ne (Ne.symm e), hbl d hd]
        congr 1
        have : ¬ (d : Int) = z := by omega
        simp [this]
    simp [mc21_l0, t4, t20, t21, t22, hlt, hia, hld, hib, hcut, l4, hfl, hfit, hset, hw1]
    exact ⟨by omega, ⟨_, hY, hbl'⟩, t1, t2, t3, hlt⟩
  · have hi' : i = c.length := by omega
    subst hi'
    simp [mc21_l0, t21, t22]
    exact hQ _ _ bl hw (fun d hd => by rw [hbl d hd, List.take_length]) (by simp [t1]) (by simp [t2]) (by simp [t3]) (by simp [t4])
end Go.Proofs.YtbbbgaiaigdngaaGreatDoor.walk

namespace Go.Proofs.YtbbbgaiaigdngaaGreatDoor.walk
open Go Go.Sh
set_option maxRecDepth 100000
set_option linter.unusedSimpArgs false
def curS (s : Sea) (c : List Int) : Nat → Int
  | 0 => s.from_
  | i + 1 => min (shB s c (i + 1) + s.grows) 100
theorem shB_cur {s : Sea} (hs : shadeB s = true) (c : List Int) : ∀ i, shB s c (i + 1) = if (i : Int) ∈ c then min (curS s c i) s.cut else curS s c i
  | 0 => by
    show nextI s (-1) _ = _
    unfold nextI
    by_cases h : ((0 : Nat) : Int) ∈ c <;> simp [h, curS]
  | i + 1 => by
    have hb := (shB_bd hs c (i + 1)).2.2 (Nat.succ_pos _)
    show nextI s (shB s c (i + 1)) _ = _
    unfold nextI
    have e : min 100 (shB s c (i + 1) + s.grows) = min (shB s c (i + 1) + s.grows) 100 := by omega
    by_cases h : ((i + 1 : Nat) : Int) ∈ c
    · rw [if_pos (by simpa using h), if_pos hb, if_pos h]
      show min (min 100 _) _ = min (min _ 100) _
      rw [e]
    · rw [if_neg (by simpa using h), if_pos hb, if_neg h]
      show min 100 _ = min _ 100
      rw [e]
theorem loop21b {ov : Ov} (m : Nat) (h47 : HasP ov 51 F51) (h48 : HasP ov 52 F52) (s : Sea) (hs : shadeB s = true) (c : List Int) (n : Nat) (h40 : n ≤ 40) (dv cv : Value) (w0 : AW) (hl0 : w0.lim ≤ w0.next) (bl : List Bool) (hbl : ∀ d, d < n → bl[d]? = some (decide ((d : Int) ∈ c))) (L0 : List Int)
    (Q : Ex → Tm → AW → Prop) (t : Tm) (w : AW) (hw : Ye w0 s dv cv n bl L0 w)
    (t2 : tget t 2 = .pointer (some ⟨w0.next + 1, 0, none⟩)) (t3 : tget t 3 = .pointer (some ⟨w0.next + 3, 0, none⟩)) (t4 : tget t 4 = .slice (some ⟨w0.next + 4, 0, none⟩) n n) (t7 : tget t 7 = .int .i64 s.from_) (t35 : tget t 35 = .int .i64 (n : Nat)) (t36 : tget t 36 = .int .i64 0)
    (hQ : ∀ t w L, Ye w0 s dv cv n bl L w → (∀ d, d < n → L[d]? = some (shB s c (d + 1))) → tget t 2 = .pointer (some ⟨w0.next + 1, 0, none⟩) → tget t 3 = .pointer (some ⟨w0.next + 3, 0, none⟩) → Q (.exit 2) t w) :
    wp (exM Tryz.prog (run Tryz.prog ov (m + 1)) (.loop mc21_l1) t w) Q := by
  refine wp_rounds (fun i t w => (∃ L, Ye w0 s dv cv n bl L w ∧ ∀ d, d < i → L[d]? = some (shB s c (d + 1))) ∧ tget t 2 = .pointer (some ⟨w0.next + 1, 0, none⟩) ∧ tget t 3 = .pointer (some ⟨w0.next + 3, 0, none⟩) ∧ tget t 4 = .slice (some ⟨w0.next + 4, 0, none⟩) n n ∧ tget t 7 = .int .i64 (curS s c i) ∧ tget t 35 = .int .i64 (n : Nat) ∧ tget t 36 = .int .i64 (i : Nat) ∧ i ≤ n) 200 (by decide)
    ⟨⟨_, hw, fun d hd => by omega⟩, t2, t3, t4, t7, t35, by simpa using t36, Nat.zero_le _⟩ ?_
  clear t2 t3 t4 t7 t35 t36 hw
  rintro i t w ⟨⟨L, hw, hL⟩, t2, t3, t4, t7, t35, t36, hi⟩
  by_cases hlt : i < n
  · have hw1 : IntKind.wrap .i64 ((i : Int) + 1) = (i : Int) + 1 := wrap64_in (by omega) (by omega)
    have hib := fun w => ia92 w ⟨w0.next + 4, 0, none⟩ n n .i64 i hlt
    have hia := fun w => ia27 w ⟨w0.next + 2, 0, none⟩ n n .i64 i hlt
    have hcut := hw.cut
    have hyear := hw.year
    have hrow := hw.row
    have hnx := hw.next
    have hlm := hw.lim
    have l2 : w.lim ≤ w0.next + 2 := by omega
    obtain ⟨bl1, L1⟩ := hw.lens
    have hbi := bl_at bl i _ (hbl i hlt)
    obtain ⟨bs, hbs⟩ : ∃ bs, bs = bl.flatMap boolC := ⟨_, rfl⟩
    rw [← hbs] at hbi hcut
    have hset := flat_set intC_length L i (shB s c (i + 1)) (by omega)
    have hfl : (L.flatMap intC).length = n := by rw [flat_length intC_length, L1]; omega
    obtain ⟨cs, hcs⟩ : ∃ cs, cs = L.flatMap intC := ⟨_, rfl⟩
    rw [← hcs] at hset hfl hrow
    simp only [Nat.mul_one, intC, List.cons_append, List.nil_append] at hset
    have hfit : i + 1 ≤ n := hlt
    have hcur := shB_cur hs c i
    have bd := shB_bd hs c (i + 1)
    have hx0 := bd.2.2 (Nat.succ_pos _)
    have hg := (shade_nums hs).2.1
    obtain ⟨z, hz⟩ : ∃ z, z = shB s c (i + 1) := ⟨_, rfl⟩
    rw [← hz] at hset hcur hx0 bd
    have hnext : curS s c (i + 1) = min (z + s.grows) 100 := by rw [hz]; rfl
    have r47 := fun v n w => rule51 h47 s dv cv v n m w
    have r48 := fun v w => rule52 h48 s dv cv v (n := z) ⟨hx0, bd.2.1⟩ hg m w
    simp only [Nat.zero_add, yearC] at r47 r48
    have hY : Ye w0 s dv cv n bl (L.set i z) ⟨w.heap.put (w0.next + 2) (some (.cells ((L.set i z).flatMap intC) 3 false)), w.next, w.lim⟩ := by
      refine ⟨hw.old.put (by omega), ?_, ?_, ?_, ?_, ?_, by show w0.next + 4 < w.next; omega, hlm, bl1, ?_⟩
      · simp [hw.box]
      · obtain ⟨y, h1, h2⟩ := hw.res; exact ⟨y, by simp [h1], h2⟩
      · simp
      · simp [hw.year]
      · simp [hw.cut]
      · rw [List.length_set, L1]
    have hL' : ∀ d, d < i + 1 → (L.set i z)[d]? = some (shB s c (d + 1)) := by
      intro d hd
      by_cases e : d = i
      · subst e
        rw [List.getElem?_set_self (by omega), hz]
      · rw [List.getElem?_set_ne (Ne.symm e), hL d (by omega)]
    by_cases hm : (i : Int) ∈ c
    · rw [if_pos hm] at hcur
      rw [decide_eq_true hm] at hbi
      have hc' : min (curS s c i) s.cut = z := hcur.symm
      simp [mc21_l1, t2, t3, t4, t7, t35, t36, hlt, hib, hia, hcut, hbi, hyear, yearC, hrow, hfl, hfit, hset, l2, r47, r48, hw1, hc']
      exact ⟨by omega, ⟨_, hY, hL'⟩, hnext.symm⟩
    · rw [if_neg hm] at hcur
      rw [decide_eq_false hm] at hbi
      have hc' : curS s c i = z := hcur.symm
      rw [hc'] at t7
      simp [mc21_l1, t2, t3, t4, t7, t35, t36, hlt, hib, hia, hcut, hbi, hyear, yearC, hrow, hfl, hfit, hset, l2, r48, hw1]
      exact ⟨by omega, ⟨_, hY, hL'⟩, hnext.symm⟩
  · have hi' : i = n := by omega
    subst hi'
    simp [mc21_l1, t35, t36]
    exact hQ _ _ L hw hL (by simp [t2]) (by simp [t3])
theorem shL_eq (s : Sea) (c : List Int) {n : Nat} {L : List Int} (hl : L.length = n) (h : ∀ d, d < n → L[d]? = some (shB s c (d + 1))) : L = shL s c n := by
  have at_ : ∀ n d, d < n → (shL s c n)[d]? = some (shB s c (d + 1)) := by
    intro n
    induction n with
    | zero => intro d hd; omega
    | succ n ih =>
      intro d hd
      show (shL s c n ++ [_])[d]? = _
      by_cases e : d < n
      · rw [List.getElem?_append_left (by rw [shL_length]; exact e), ih d e]
      · have e' : d = n := by omega
        rw [List.getElem?_append_right (by rw [shL_length]; omega), shL_length, e', Nat.sub_self]
        rfl
  apply List.ext_getElem?
  intro d
  by_cases hd : d < n
  · rw [h d hd, at_ n d hd]
  · rw [List.getElem?_eq_none (by omega), List.getElem?_eq_none (by rw [shL_length]; omega)]
end Go.Proofs.YtbbbgaiaigdngaaGreatDoor.walk

namespace Go.Proofs.YtbbbgaiaigdngaaGreatDoor.walk
open Go Go.Sh
set_option maxRecDepth 100000
set_option linter.unusedSimpArgs false
theorem mk27 (n : Nat) (hn : n ≤ 1000) (w : AW) : makeSliceA Tryz.prog w 27 (.int .i64 (n : Int)) (.int .i64 (n : Int)) = .val (.slice (some ⟨w.next, 0, none⟩) n n) ⟨w.heap.put w.next (some (.cells ((List.replicate n (0 : Int)).flatMap intC) 3 false)), w.next + 1, w.lim⟩ := by
  rw [make_eq (e := 3) (z := .int .i64 0) (by kernel_rfl) (by kernel_rfl) (by kernel_rfl) n hn w, ← repl_flat]; rfl
theorem mk92 (n : Nat) (hn : n ≤ 1000) (w : AW) : makeSliceA Tryz.prog w 92 (.int .i64 (n : Int)) (.int .i64 (n : Int)) = .val (.slice (some ⟨w.next, 0, none⟩) n n) ⟨w.heap.put w.next (some (.cells ((List.replicate n false).flatMap boolC) 4 false)), w.next + 1, w.lim⟩ := by
  rw [make_eq (e := 4) (z := .bool false) (by kernel_rfl) (by kernel_rfl) (by kernel_rfl) n hn w, ← repl_flat]; rfl
set_option maxHeartbeats 2000000 in
theorem call21 {ov : Ov} (m : Nat) (ho : ∀ args w, ov 21 args w = none) (h47 : HasP ov 51 F51) (h48 : HasP ov 52 F52) (s : Sea) (hs : shadeB s = true) (l : List Day) (h40 : l.length ≤ 40) (c : List Int) (hcB : cutsB c l.length = true) (hc1000 : c.length ≤ 1000) (dv cv : Value) (w : AW) (hl : w.lim ≤ w.next) (hv : RowsV dayC w dv l) (hu : RowsV intC w cv c) :
    ∃ x w', (run Tryz.prog ov (m + 2)).call 21 [.agg ⟨seaC s dv cv⟩] w .none = .ok (.ret x) w' .none ∧ ∃ B, x = .agg ⟨yearC s dv cv (.slice (some ⟨B, 0, none⟩) l.length l.length)⟩ ∧ w'.heap.get B = some (.cells ((shL s c l.length).flatMap intC) 3 false) ∧ w.next ≤ B ∧ B < w'.next ∧ Old w.next w.heap w'.heap ∧ w.next ≤ w'.next ∧ w'.lim = w.lim := by
  refine call_wp text21 (by simp) (ho _ _) ?_
  have hld := len22V hv
  have hlc := len27V hu
  obtain ⟨da, dc, rfl⟩ := hv.len
  obtain ⟨ca, cc, rfl⟩ := hu.len
  have hmk := fun w => mk27 l.length (by omega) w
  have hmk' := fun w => mk92 l.length (by omega) w
  have l0 : w.lim ≤ w.next + 1 := by omega
  have l3 : w.lim ≤ w.next + 3 := by omega
  have sv : sameVal 5 (.agg ⟨seaC s (.slice da l.length dc) (.slice ca c.length cc)⟩) (.agg ⟨seaC s (.slice da l.length dc) (.slice ca c.length cc)⟩) = true := same_agg _ fun v hv => by
    simp only [seaC, List.mem_cons, List.not_mem_nil, or_false] at hv
    rcases hv with rfl | rfl | rfl | rfl | rfl | rfl | rfl | rfl | rfl
    · exact sameN_slice 3 _ _ _
    all_goals first | exact sameN_int 3 _ _ | exact sameN_slice 3 _ _ _
  unfold seaC at sv
  simp [mc21, seaC, hmk, hmk', hl, l0, l3, cellsOf_agg, sv]
  refine wp_seqX (wp_blockX (loop21a s c l.length hcB hc1000 (.slice da l.length dc) (.slice ca c.length cc) w hl hu (List.replicate l.length 0) _ _ _ ⟨?_, ?_, ?_, ?_, ?_, ?_, ?_, ?_, ?_⟩ (m + 1) ?_ ?_ ?_ ?_ ?_ ?_ ?_ ?_))
  case _ =>
    intro b hb
    simp [show ¬ b = w.next by omega, show ¬ b = w.next + 1 by omega, show ¬ b = w.next + 2 by omega, show ¬ b = w.next + 3 by omega, show ¬ b = w.next + 4 by omega]
  case _ => simp [seaC]
  case _ => exact ⟨_, by simp; rfl, rfl⟩
  case _ => simp
  case _ => simp [yearC]
  case _ => simp
  case _ => simp
  case _ => rfl
  case _ => simp
  case _ => simp
  case _ => simp
  case _ => simp
  case _ => simp
  case _ => simp
  case _ => simp
  case _ => simp
  case _ =>
    intro t w' bl hY hbl t1 t2 t3 t4
    have hbox := hY.box
    have c3 : ∀ h, (seaC s (.slice da l.length dc) (.slice ca c.length cc))[3]'h = .int .i64 s.from_ := fun _ => rfl
    have c0 : ∀ h, (seaC s (.slice da l.length dc) (.slice ca c.length cc))[0]'h = .slice da l.length dc := fun _ => rfl
    unfold seaC at hbox
    simp [t1, t2, t3, t4, hbox]
    refine wp_seqX (wp_blockX (loop21b m h47 h48 s hs c l.length h40 _ _ w hl bl hbl _ _ _ _ hY ?_ ?_ ?_ ?_ ?_ ?_ ?_))
    case _ => simp [t2]
    case _ => simp [t3]
    case _ => simp [t4]
    case _ => simp
    case _ => simp
    case _ => simp
    case _ =>
      clear t1 t2 t3 t4 hbox
      intro t w1 L hY hL t2 t3
      have hyear := hY.year
      obtain ⟨z, hres, hzl⟩ := hY.res
      have hlm := hY.lim
      have hnx := hY.next
      have l1 : w1.lim ≤ w.next + 1 := by omega
      have hLe := shL_eq s c hY.lens.2 hL
      unfold yearC at hyear
      simp [t2, t3, hyear, hres, hzl, l1, cellsOf_agg, tupV]
      exact ⟨w.next + 2, rfl, by rw [if_neg (by omega), hY.row, hLe], by omega, by omega, hY.old.put (Nat.le_succ _), by omega, hlm⟩
end Go.Proofs.YtbbbgaiaigdngaaGreatDoor.walk

namespace Go.Proofs.YtbbbgaiaigdngaaGreatDoor.walk
open Go Go.Sh
set_option maxRecDepth 100000
set_option linter.unusedSimpArgs false
@[simp] theorem fv54_1 (w : AW) (a0 a1 a2 a3 a4 a5 a6 a7 a8 : Value) (ba : Option Addr) (bl bc : Nat) : fieldA Tryz.prog w 58 1 (.agg ⟨[a0, a1, a2, a3, a4, a5, a6, a7, a8, .slice ba bl bc]⟩) = .val (.slice ba bl bc) w := by kernel_rfl
theorem cuts_len {n : Int} {l : List Int} (h0 : 0 ≤ n) (h : cutsB l n = true) : (l.length : Int) ≤ n := by
  have a := last_ge l.length (Nat.le_refl _) h
  have b := last_lt h0 l.length (Nat.le_refl _) h
  omega
theorem sea_zero {s : Sea} {l : List Day} {c : List Int} (h : seaE s l c = 0) : daysB l = true ∧ cutsB c l.length = true ∧ shadeB s = true ∧ inI 0 s.base 50 = true ∧ inI 0 s.wet 100 = true := by
  unfold seaE at h
  cases hx : seaB s l c with
  | false => rw [hx] at h; cases h
  | true =>
    simpa only [seaB, Bool.and_eq_true] using hx
end Go.Proofs.YtbbbgaiaigdngaaGreatDoor.walk

namespace Go.Proofs.YtbbbgaiaigdngaaGreatDoor.walk
open Go Go.Sh
set_option maxRecDepth 100000
set_option linter.unusedSimpArgs false
/-! two rows alike -/
end Go.Proofs.YtbbbgaiaigdngaaGreatDoor.walk

namespace Go.Proofs.YtbbbgaiaigdngaaGreatDoor.walk
open Go Go.Sh
set_option maxRecDepth 100000
set_option linter.unusedSimpArgs false
/-! the heat of a day -/
def heatI (s : Sea) (warm rain shade : Int) : Int := if s.wet < rain then 0 else (max 0 (warm - s.base) * (100 - shade)).tdiv 100
structure HeatOk (s : Sea) (warm shade : Int) : Prop where
  w0 : 0 ≤ warm
  w1 : warm ≤ 50
  b0 : 0 ≤ s.base
  b1 : s.base ≤ 50
  s0 : 0 ≤ shade
  s1 : shade ≤ 100
theorem heat_nums {s : Sea} {warm shade : Int} (h : HeatOk s warm shade) : (0 ≤ max 0 (warm - s.base) * (100 - shade) ∧ max 0 (warm - s.base) * (100 - shade) ≤ 5000) ∧ 0 ≤ (max 0 (warm - s.base) * (100 - shade)).tdiv 100 ∧ (max 0 (warm - s.base) * (100 - shade)).tdiv 100 ≤ 50 := by
  obtain ⟨a, b, c, d, e, f⟩ := h
  have h1 : 0 ≤ max 0 (warm - s.base) * (100 - shade) := Int.mul_nonneg (by omega) (by omega)
  have h2 : max 0 (warm - s.base) * (100 - shade) ≤ 50 * 100 := Int.mul_le_mul (by omega) (by omega) (by omega) (by omega)
  have h3 := Int.tdiv_eq_ediv_of_nonneg (b := 100) h1
  rw [h3]
  omega
noncomputable def F76 : PureF := fun args _ => match args with | [.int .i64 n, .agg ⟨[.int .i64 a, .int .i64 b]⟩] => some (.bool (inI a n b)) | _ => none
theorem rule76 {ov : Ov} (k : HasP ov 76 F76) (n a b : Int) (m : Nat) (w : AW) : (run Tryz.prog ov (m + 1)).call 76 [.int .i64 n, .agg ⟨[.int .i64 a, .int .i64 b]⟩] w .none = .ok (.ret (.bool (inI a n b))) w .none := k.call rfl
theorem run76 {ov : Ov} (ho : ∀ args w, ov 76 args w = none) (n a b : Int) (w : AW) : ∃ v w', (run Tryz.prog ov 2).call 76 [.int .i64 n, .agg ⟨[.int .i64 a, .int .i64 b]⟩] w .none = .ok (.ret v) w' .none ∧ v = .bool (inI a n b) := by
  refine call_wp text76 (by simp) (ho _ _) ?_
  by_cases h1 : a ≤ n <;> simp [mc76, h1, tupV, inI]
theorem run77 {ov : Ov} (ho : ∀ args w, ov 77 args w = none) (s : Sea) (dv cv sv : Value) (k : Nat) (warm rain shade : Int) (hk : HeatOk s warm shade) (L : List Int) (w : AW) (hL : RowsV intC w sv L) (hz : L[k]? = some shade) : ∃ v w', (run Tryz.prog ov 2).call 77 [.agg ⟨yearC s dv cv sv⟩, .int .i64 (k : Nat), .int .i64 warm, .int .i64 rain] w .none = .ok (.ret v) w' .none ∧ v = .int .i64 (heatI s warm rain shade) := by
  refine call_wp text77 (by simp) (ho _ _) ?_
  obtain ⟨⟨n1, n2⟩, n3, n4⟩ := heat_nums hk
  obtain ⟨a, b, c, d, e, f⟩ := hk
  have hkl : k < L.length := (List.getElem?_eq_some_iff.1 hz).1
  obtain ⟨bk, off, sq, cp, rfl, hr⟩ := hL.at_ k hkl
  have hld := hr.int hz
  have hbn := hr.2
  have m0 : ¬ bk = w.next := by omega
  have hia := fun w => ia27 w ⟨bk, off, sq⟩ L.length cp .i64 k hkl
  have w1 : IntKind.wrap .i64 (warm - s.base) = warm - s.base := wrap64_in (by omega) (by omega)
  have w2 : IntKind.wrap .i64 (100 - shade) = 100 - shade := wrap64_in (by omega) (by omega)
  have hm : max (warm - s.base) 0 = max 0 (warm - s.base) := by omega
  have w3 : IntKind.wrap .i64 (max 0 (warm - s.base) * (100 - shade)) = max 0 (warm - s.base) * (100 - shade) := wrap64_in (by omega) (by omega)
  have w4 : IntKind.wrap .i64 ((max 0 (warm - s.base) * (100 - shade)).tdiv 100) = (max 0 (warm - s.base) * (100 - shade)).tdiv 100 := wrap64_in (by omega) (by omega)
  have hq := fun (a : Int) (c : Bool) w => bin_quo (P := Tryz.prog) (w := w) 3 c .i64 a 100 (by decide)
  by_cases h : s.wet < rain
  · simp [mc77, yearC, h, heatI, tupV]
  · simp [mc77, yearC, h, heatI, hia, hld, m0, hm, w1, w2, w3, w4, hq, tupV]
end Go.Proofs.YtbbbgaiaigdngaaGreatDoor.walk

namespace Go.Proofs.YtbbbgaiaigdngaaGreatDoor.walk
open Go Go.Sh
set_option maxRecDepth 100000
set_option linter.unusedSimpArgs false
/-! weather that can be -/
def trTo (l : List Day) (W R : List Int) : Nat → Bool
  | 0 => true
  | i + 1 => trTo l W R i && (match l[i]?, W[i]?, R[i]? with | some d, some a, some b => inI d.wl a d.wh && inI d.rl b d.rh | _, _, _ => true)
theorem tr_snoc {l : List Day} {W R : List Int} {i : Nat} {d : Day} {a b : Int} (h1 : l[i]? = some d) (h2 : W[i]? = some a) (h3 : R[i]? = some b) : trTo l W R (i + 1) = (trTo l W R i && (inI d.wl a d.wh && inI d.rl b d.rh)) := by
  show (trTo l W R i && _) = _
  rw [h1, h2, h3]
theorem tr_false {l : List Day} {W R : List Int} {i : Nat} (h : trTo l W R i = false) : ∀ n, i ≤ n → trTo l W R n = false
  | 0, hn => by obtain rfl : i = 0 := by omega
                exact h
  | n + 1, hn => by
    rcases Nat.eq_or_lt_of_le hn with e | h1
    · rw [← e]; exact h
    · show (trTo l W R n && _) = false
      rw [tr_false h n (by omega)]; rfl
def trB (l : List Day) (W R : List Int) : Bool := decide (W.length = l.length) && (decide (R.length = l.length) && trTo l W R l.length)
theorem loop46 {ov : Ov} (h52 : HasP ov 76 F76) (l : List Day) (h40 : l.length ≤ 40) (W R : List Int) (e1 : W.length = l.length) (e2 : R.length = l.length) (v wv rv : Value) (w0 : AW) (hl0 : w0.lim ≤ w0.next) (hv : RowsV dayC w0 v l) (hw' : RowsV intC w0 wv W) (hr' : RowsV intC w0 rv R) (n1 : Nat) (hn1 : n1 < w0.next) (hbox : w0.heap.get n1 = some (.cells [wv, rv] 41 false)) (m : Nat)
    (Q : Ex → Tm → AW → Prop) (t : Tm) (t3 : tget t 3 = .pointer (some ⟨n1, 0, none⟩)) (t24 : tget t 24 = v) (t25 : tget t 25 = .int .i64 (l.length : Nat)) (t26 : tget t 26 = .int .i64 0)
    (hyes : trTo l W R l.length = true → ∀ t w, Q (.exit 0) t w) (hno : trTo l W R l.length = false → ∀ t w, tget t 4 = .bool false → Q .ret t w) : wp (exM Tryz.prog (run Tryz.prog ov (m + 1)) (.loop mc46_l0) t w0) Q := by
  refine wp_rounds (fun i t w => tget t 3 = .pointer (some ⟨n1, 0, none⟩) ∧ tget t 24 = v ∧ tget t 25 = .int .i64 (l.length : Nat) ∧ tget t 26 = .int .i64 (i : Nat) ∧ i ≤ l.length ∧ trTo l W R i = true ∧ Ol w0 w) 200 (by decide) ⟨t3, t24, t25, by simpa using t26, Nat.zero_le _, rfl, Ol.refl _⟩ ?_
  clear t3 t24 t25 t26
  rintro i t w ⟨t3, t24, t25, t26, hi, hok, hw⟩
  by_cases hlt : i < l.length
  · obtain ⟨d, hd⟩ : ∃ d, l[i]? = some d := ⟨_, List.getElem?_eq_getElem hlt⟩
    obtain ⟨a, ha⟩ : ∃ d, W[i]? = some d := ⟨_, List.getElem?_eq_getElem (e1 ▸ hlt)⟩
    obtain ⟨c, hc⟩ : ∃ d, R[i]? = some d := ⟨_, List.getElem?_eq_getElem (e2 ▸ hlt)⟩
    obtain ⟨b0, o0, q0, c0, rfl, hr0⟩ := hv.at_ i hlt
    obtain ⟨b1, o1, q1, c1, rfl, hr1⟩ := hw'.at_ i (e1 ▸ hlt)
    obtain ⟨b2, o2, q2, c2, rfl, hr2⟩ := hr'.at_ i (e2 ▸ hlt)
    have hld := hr0.rd (m := 4) dayC_length hd
    have hla := hr1.int ha
    have hlc := hr2.int hc
    rw [← hw.old _ hr0.2] at hld
    rw [← hw.old _ hr1.2] at hla
    rw [← hw.old _ hr2.2] at hlc
    have hbx := hbox
    rw [← hw.old _ hn1] at hbx
    have hn := hw.next
    have hlm := hw.lim
    have hl1 : w.lim ≤ w.next := by omega
    have m0 : ¬ b0 = w.next := by have := hr0.2; omega
    have m1 : ¬ b1 = w.next := by have := hr1.2; omega
    have m2 : ¬ b2 = w.next := by have := hr2.2; omega
    have m3 : ¬ n1 = w.next := by omega
    have hia := fun w => ia22 w ⟨b0, o0, q0⟩ l.length c0 .i64 i hlt
    have hi1 := fun w => ia27 w ⟨b1, o1, q1⟩ W.length c1 .i64 i (e1 ▸ hlt)
    have hi2 := fun w => ia27 w ⟨b2, o2, q2⟩ R.length c2 .i64 i (e2 ▸ hlt)
    have hw1 : IntKind.wrap .i64 ((i : Int) + 1) = (i : Int) + 1 := wrap64_in (by omega) (by omega)
    have r52 := fun n a b w => rule76 h52 n a b m w
    have hs := tr_snoc hd ha hc
    rw [hok, Bool.true_and] at hs
    cases h1 : inI d.wl a d.wh with
    | false =>
      have hbad : trTo l W R l.length = false := tr_false (i := i + 1) (by rw [hs, h1]; rfl) _ hlt
      simp [mc46_l0, t3, t24, t25, t26, hlt, hia, hi1, hi2, hld, hla, hlc, hbx, hl1, m0, m1, m2, m3, cellsOf_agg, dayC, r52, h1]
      exact hno hbad _ _ (by simp)
    | true => cases h2 : inI d.rl c d.rh with
      | false =>
        have hbad : trTo l W R l.length = false := tr_false (i := i + 1) (by rw [hs, h1, h2]; rfl) _ hlt
        simp [mc46_l0, t3, t24, t25, t26, hlt, hia, hi1, hi2, hld, hla, hlc, hbx, hl1, m0, m1, m2, m3, cellsOf_agg, dayC, r52, h1, h2]
        exact hno hbad _ _ (by simp)
      | true =>
        have hs' : trTo l W R (i + 1) = true := by rw [hs, h1, h2]; rfl
        simp [mc46_l0, t3, t24, t25, t26, hlt, hia, hi1, hi2, hld, hla, hlc, hbx, hl1, m0, m1, m2, m3, cellsOf_agg, dayC, r52, h1, h2, hw1]
        exact ⟨by omega, hlt, hs', ⟨(hw.old.put hn).put hn, by show w0.next ≤ w.next + 1; omega, hlm⟩⟩
  · have hi' : i = l.length := by omega
    subst hi'
    simp [mc46_l0, t25, t26]
    exact hyes hok _ _
theorem run46 {ov : Ov} (ho : ∀ args w, ov 46 args w = none) (h52 : HasP ov 76 F76) (s : Sea) (l : List Day) (h40 : l.length ≤ 40) (W R : List Int) (dv cv wv rv : Value) (w : AW) (hl : w.lim ≤ w.next) (hv : RowsV dayC w dv l) (hw : RowsV intC w wv W) (hr : RowsV intC w rv R) :
    ∃ x w', (run Tryz.prog ov 2).call 46 [.agg ⟨seaC s dv cv⟩, .agg ⟨[wv, rv]⟩] w .none = .ok (.ret x) w' .none ∧ x = .bool (trB l W R) := by
  refine call_wp text46 (by simp) (ho _ _) ?_
  have hld := len22V hv
  have hlw := len27V hw
  have hlr := len27V hr
  have o1 : Old w.next w.heap ((w.heap.put w.next (some (.cells (seaC s dv cv) 29 false))).put (w.next + 1) (some (.cells [wv, rv] 41 false))) := ((Old.refl _ _).put (Nat.le_refl _)).put (Nat.le_succ _)
  by_cases e1 : W.length = l.length
  · have e1' : (W.length : Int) = l.length := by omega
    by_cases e2 : R.length = l.length
    · have e2' : (R.length : Int) = l.length := by omega
      unfold seaC at o1
      simp [mc46, seaC, hld, hlw, hlr, e1, e2]
      refine wp_seqX (wp_blockX (loop46 h52 l h40 W R e1 e2 dv wv rv _ ?_ ?_ ?_ ?_ (w.next + 1) ?_ ?_ 0 _ _ ?_ ?_ ?_ ?_ ?_ ?_))
      case _ => show w.lim ≤ w.next + 2; omega
      case _ => exact hv.old (w' := ⟨_, _, _⟩) o1 (by show w.next ≤ w.next + 2; omega)
      case _ => exact hw.old (w' := ⟨_, _, _⟩) o1 (by show w.next ≤ w.next + 2; omega)
      case _ => exact hr.old (w' := ⟨_, _, _⟩) o1 (by show w.next ≤ w.next + 2; omega)
      case _ => exact Nat.lt_succ_self _
      case _ => simp
      case _ => simp
      case _ => simp
      case _ => simp
      case _ => simp
      case _ => intro hy t w; simp [trB, e1, e2, hy, tupV]
      case _ => intro hn t w t4; simp [trB, e1, e2, hn, t4, tupV]
    · have e2' : ¬ (R.length : Int) = l.length := by omega
      simp [mc46, seaC, hld, hlw, hlr, e1, e1', e2, e2', trB, tupV]
  · have e1' : ¬ (W.length : Int) = l.length := by omega
    simp [mc46, seaC, hld, hlw, hlr, e1, e1', trB, tupV]
end Go.Proofs.YtbbbgaiaigdngaaGreatDoor.walk

namespace Go.Proofs.YtbbbgaiaigdngaaGreatDoor.walk
open Go Go.Sh
set_option maxRecDepth 100000
set_option linter.unusedSimpArgs false
noncomputable def F46 : PureF := fun args w => match args with | [.agg ⟨[dv, .int .i64 _, .int .i64 _, .int .i64 _, .int .i64 _, .int .i64 _, .int .i64 _, .int .i64 _, _]⟩, .agg ⟨[wv, rv]⟩] => (rowsIn dayC w dv).bind fun l => (rowsIn intC w wv).bind fun W => (rowsIn intC w rv).bind fun R => bif decide (l.length ≤ 40) then some (.bool (trB l W R)) else none | _ => none
theorem rule46 {ov : Ov} {f : FuncId} (k : HasP ov f F46) {s : Sea} {dv cv wv rv : Value} {l : List Day} {W R : List Int} (h40 : l.length ≤ 40) {w : AW} (hv : RowsV dayC w dv l) (hw : RowsV intC w wv W) (hr : RowsV intC w rv R) (m : Nat) : (run Tryz.prog ov (m + 1)).call f [.agg ⟨seaC s dv cv⟩, .agg ⟨[wv, rv]⟩] w .none = .ok (.ret (.bool (trB l W R))) w .none := k.call (by
  simp [F46, seaC, hv.rowsIn (m := 4) dayC_length dayC_inj, hw.rowsIn (m := 1) intC_length intC_inj, hr.rowsIn (m := 1) intC_length intC_inj, h40])
end Go.Proofs.YtbbbgaiaigdngaaGreatDoor.walk
