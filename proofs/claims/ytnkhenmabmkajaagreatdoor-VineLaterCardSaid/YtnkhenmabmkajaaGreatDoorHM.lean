/- Part of a proof by a machine of ones own: see the text with the theorem. -/
import Derived.Test.YtnkhenmabmkajaaGreatDoorHA
namespace Go.Proofs.YtnkhenmabmkajaaGreatDoor.walk
open Go Go.Sh
set_option maxRecDepth 100000
set_option linter.unusedSimpArgs false
def curS (s : Sea) (c : List Int) : Nat → Int
  | 0 => s.from_
  | i + 1 => min (shB s c (i + 1) + s.grows) 100
theorem shB_cur {s : Sea} (hs : shadeB s = true) (c : List Int) : ∀ i, shB s c (i + 1) = if (i : Int) ∈ c then min (curS s c i) s.cut else curS s c i
  | 0 => by
    show nextI s (-1) _ = _
    unfold nextI
    by_cases h : ((0 : Nat) : Int) ∈ c <;> simp [h, curS]
  | i + 1 => by
    have hb := (shB_bd hs c (i + 1)).2.2 (Nat.succ_pos _)
    show nextI s (shB s c (i + 1)) _ = _
    unfold nextI
    have e : min 100 (shB s c (i + 1) + s.grows) = min (shB s c (i + 1) + s.grows) 100 := by omega
    by_cases h : ((i + 1 : Nat) : Int) ∈ c
    · rw [if_pos (by simpa using h), if_pos hb, if_pos h]
      show min (min 100 _) _ = min (min _ 100) _
      rw [e]
    · rw [if_neg (by simpa using h), if_pos hb, if_neg h]
      show min 100 _ = min _ 100
      rw [e]
theorem loop19b {ov : Ov} (m : Nat) (h47 : HasP ov 47 F47) (h48 : HasP ov 48 F48) (s : Sea) (hs : shadeB s = true) (c : List Int) (n : Nat) (h40 : n ≤ 40) (dv cv : Value) (w0 : AW) (hl0 : w0.lim ≤ w0.next) (bl : List Bool) (hbl : ∀ d, d < n → bl[d]? = some (decide ((d : Int) ∈ c))) (L0 : List Int)
    (Q : Ex → Tm → AW → Prop) (t : Tm) (w : AW) (hw : Ye w0 s dv cv n bl L0 w)
    (t2 : tget t 2 = .pointer (some ⟨w0.next + 1, 0, none⟩)) (t3 : tget t 3 = .pointer (some ⟨w0.next + 3, 0, none⟩)) (t4 : tget t 4 = .slice (some ⟨w0.next + 4, 0, none⟩) n n) (t7 : tget t 7 = .int .i64 s.from_) (t35 : tget t 35 = .int .i64 (n : Nat)) (t36 : tget t 36 = .int .i64 0)
    (hQ : ∀ t w L, Ye w0 s dv cv n bl L w → (∀ d, d < n → L[d]? = some (shB s c (d + 1))) → tget t 2 = .pointer (some ⟨w0.next + 1, 0, none⟩) → tget t 3 = .pointer (some ⟨w0.next + 3, 0, none⟩) → Q (.exit 2) t w) :
    wp (exM Tryz.prog (run Tryz.prog ov (m + 1)) (.loop mc19_l1) t w) Q := by
  refine wp_rounds (fun i t w => (∃ L, Ye w0 s dv cv n bl L w ∧ ∀ d, d < i → L[d]? = some (shB s c (d + 1))) ∧ tget t 2 = .pointer (some ⟨w0.next + 1, 0, none⟩) ∧ tget t 3 = .pointer (some ⟨w0.next + 3, 0, none⟩) ∧ tget t 4 = .slice (some ⟨w0.next + 4, 0, none⟩) n n ∧ tget t 7 = .int .i64 (curS s c i) ∧ tget t 35 = .int .i64 (n : Nat) ∧ tget t 36 = .int .i64 (i : Nat) ∧ i ≤ n) 200 (by decide)
    ⟨⟨_, hw, fun d hd => by omega⟩, t2, t3, t4, t7, t35, by simpa using t36, Nat.zero_le _⟩ ?_
  clear t2 t3 t4 t7 t35 t36 hw
  rintro i t w ⟨⟨L, hw, hL⟩, t2, t3, t4, t7, t35, t36, hi⟩
  by_cases hlt : i < n
  · have hw1 : IntKind.wrap .i64 ((i : Int) + 1) = (i : Int) + 1 := wrap64_in (by omega) (by omega)
    have hib := fun w => ia87 w ⟨w0.next + 4, 0, none⟩ n n .i64 i hlt
    have hia := fun w => ia27 w ⟨w0.next + 2, 0, none⟩ n n .i64 i hlt
    have hcut := hw.cut
    have hyear := hw.year
    have hrow := hw.row
    have hnx := hw.next
    have hlm := hw.lim
    have l2 : w.lim ≤ w0.next + 2 := by omega
    obtain ⟨bl1, L1⟩ := hw.lens
    have hbi := bl_at bl i _ (hbl i hlt)
    obtain ⟨bs, hbs⟩ : ∃ bs, bs = bl.flatMap boolC := ⟨_, rfl⟩
    rw [← hbs] at hbi hcut
    have hset := flat_set intC_length L i (shB s c (i + 1)) (by omega)
    have hfl : (L.flatMap intC).length = n := by rw [flat_length intC_length, L1]; omega
    obtain ⟨cs, hcs⟩ : ∃ cs, cs = L.flatMap intC := ⟨_, rfl⟩
    rw [← hcs] at hset hfl hrow
    simp only [Nat.mul_one, intC, List.cons_append, List.nil_append] at hset
    have hfit : i + 1 ≤ n := hlt
    have hcur := shB_cur hs c i
    have bd := shB_bd hs c (i + 1)
    have hx0 := bd.2.2 (Nat.succ_pos _)
    have hg := (shade_nums hs).2.1
    obtain ⟨z, hz⟩ : ∃ z, z = shB s c (i + 1) := ⟨_, rfl⟩
    rw [← hz] at hset hcur hx0 bd
    have hnext : curS s c (i + 1) = min (z + s.grows) 100 := by rw [hz]; rfl
    have r47 := fun v n w => rule47 h47 s dv cv v n m w
    have r48 := fun v w => rule48 h48 s dv cv v (n := z) ⟨hx0, bd.2.1⟩ hg m w
    simp only [Nat.zero_add, yearC] at r47 r48
    have hY : Ye w0 s dv cv n bl (L.set i z) ⟨w.heap.put (w0.next + 2) (some (.cells ((L.set i z).flatMap intC) 3 false)), w.next, w.lim⟩ := by
      refine ⟨hw.old.put (by omega), ?_, ?_, ?_, ?_, ?_, by show w0.next + 4 < w.next; omega, hlm, bl1, ?_⟩
      · simp [hw.box]
      · obtain ⟨y, h1, h2⟩ := hw.res; exact ⟨y, by simp [h1], h2⟩
      · simp
      · simp [hw.year]
      · simp [hw.cut]
      · rw [List.length_set, L1]
    have hL' : ∀ d, d < i + 1 → (L.set i z)[d]? = some (shB s c (d + 1)) := by
      intro d hd
      by_cases e : d = i
      · subst e
        rw [List.getElem?_set_self (by omega), hz]
      · rw [List.getElem?_set_ne (Ne.symm e), hL d (by omega)]
    by_cases hm : (i : Int) ∈ c
    · rw [if_pos hm] at hcur
      rw [decide_eq_true hm] at hbi
      have hc' : min (curS s c i) s.cut = z := hcur.symm
      simp [mc19_l1, t2, t3, t4, t7, t35, t36, hlt, hib, hia, hcut, hbi, hyear, yearC, hrow, hfl, hfit, hset, l2, r47, r48, hw1, hc']
      exact ⟨by omega, ⟨_, hY, hL'⟩, hnext.symm⟩
    · rw [if_neg hm] at hcur
      rw [decide_eq_false hm] at hbi
      have hc' : curS s c i = z := hcur.symm
      rw [hc'] at t7
      simp [mc19_l1, t2, t3, t4, t7, t35, t36, hlt, hib, hia, hcut, hbi, hyear, yearC, hrow, hfl, hfit, hset, l2, r48, hw1]
      exact ⟨by omega, ⟨_, hY, hL'⟩, hnext.symm⟩
  · have hi' : i = n := by omega
    subst hi'
    simp [mc19_l1, t35, t36]
    exact hQ _ _ L hw hL (by simp [t2]) (by simp [t3])
theorem shL_eq (s : Sea) (c : List Int) {n : Nat} {L : List Int} (hl : L.length = n) (h : ∀ d, d < n → L[d]? = some (shB s c (d + 1))) : L = shL s c n := by
  have at_ : ∀ n d, d < n → (shL s c n)[d]? = some (shB s c (d + 1)) := by
    intro n
    induction n with
    | zero => intro d hd; omega
    | succ n ih =>
      intro d hd
      show (shL s c n ++ [_])[d]? = _
      by_cases e : d < n
      · rw [List.getElem?_append_left (by rw [shL_length]; exact e), ih d e]
      · have e' : d = n := by omega
        rw [List.getElem?_append_right (by rw [shL_length]; omega), shL_length, e', Nat.sub_self]
        rfl
  apply List.ext_getElem?
  intro d
  by_cases hd : d < n
  · rw [h d hd, at_ n d hd]
  · rw [List.getElem?_eq_none (by omega), List.getElem?_eq_none (by rw [shL_length]; omega)]
end Go.Proofs.YtnkhenmabmkajaaGreatDoor.walk

namespace Go.Proofs.YtnkhenmabmkajaaGreatDoor.walk
open Go Go.Sh
set_option maxRecDepth 100000
set_option linter.unusedSimpArgs false
theorem mk27 (n : Nat) (hn : n ≤ 1000) (w : AW) : makeSliceA Tryz.prog w 27 (.int .i64 (n : Int)) (.int .i64 (n : Int)) = .val (.slice (some ⟨w.next, 0, none⟩) n n) ⟨w.heap.put w.next (some (.cells ((List.replicate n (0 : Int)).flatMap intC) 3 false)), w.next + 1, w.lim⟩ := by
  rw [make_eq (e := 3) (z := .int .i64 0) (by kernel_rfl) (by kernel_rfl) (by kernel_rfl) n hn w, ← repl_flat]; rfl
theorem mk87 (n : Nat) (hn : n ≤ 1000) (w : AW) : makeSliceA Tryz.prog w 87 (.int .i64 (n : Int)) (.int .i64 (n : Int)) = .val (.slice (some ⟨w.next, 0, none⟩) n n) ⟨w.heap.put w.next (some (.cells ((List.replicate n false).flatMap boolC) 4 false)), w.next + 1, w.lim⟩ := by
  rw [make_eq (e := 4) (z := .bool false) (by kernel_rfl) (by kernel_rfl) (by kernel_rfl) n hn w, ← repl_flat]; rfl
set_option maxHeartbeats 2000000 in
theorem call19 {ov : Ov} (m : Nat) (ho : ∀ args w, ov 19 args w = none) (h47 : HasP ov 47 F47) (h48 : HasP ov 48 F48) (s : Sea) (hs : shadeB s = true) (l : List Day) (h40 : l.length ≤ 40) (c : List Int) (hcB : cutsB c l.length = true) (hc1000 : c.length ≤ 1000) (dv cv : Value) (w : AW) (hl : w.lim ≤ w.next) (hv : RowsV dayC w dv l) (hu : RowsV intC w cv c) :
    ∃ x w', (run Tryz.prog ov (m + 2)).call 19 [.agg ⟨seaC s dv cv⟩] w .none = .ok (.ret x) w' .none ∧ ∃ B, x = .agg ⟨yearC s dv cv (.slice (some ⟨B, 0, none⟩) l.length l.length)⟩ ∧ w'.heap.get B = some (.cells ((shL s c l.length).flatMap intC) 3 false) ∧ w.next ≤ B ∧ B < w'.next ∧ Old w.next w.heap w'.heap ∧ w.next ≤ w'.next ∧ w'.lim = w.lim := by
  refine call_wp text19 (by simp) (ho _ _) ?_
  have hld := len22V hv
  have hlc := len27V hu
  obtain ⟨da, dc, rfl⟩ := hv.len
  obtain ⟨ca, cc, rfl⟩ := hu.len
  have hmk := fun w => mk27 l.length (by omega) w
  have hmk' := fun w => mk87 l.length (by omega) w
  have l0 : w.lim ≤ w.next + 1 := by omega
  have l3 : w.lim ≤ w.next + 3 := by omega
  have sv : sameVal 5 (.agg ⟨seaC s (.slice da l.length dc) (.slice ca c.length cc)⟩) (.agg ⟨seaC s (.slice da l.length dc) (.slice ca c.length cc)⟩) = true := same_agg _ fun v hv => by
    simp only [seaC, List.mem_cons, List.not_mem_nil, or_false] at hv
    rcases hv with rfl | rfl | rfl | rfl | rfl | rfl | rfl | rfl | rfl
    · exact sameN_slice 3 _ _ _
    all_goals first | exact sameN_int 3 _ _ | exact sameN_slice 3 _ _ _
  unfold seaC at sv
  simp [mc19, seaC, hmk, hmk', hl, l0, l3, cellsOf_agg, sv]
  refine wp_seqX (wp_blockX (loop19a s c l.length hcB hc1000 (.slice da l.length dc) (.slice ca c.length cc) w hl hu (List.replicate l.length 0) _ _ _ ⟨?_, ?_, ?_, ?_, ?_, ?_, ?_, ?_, ?_⟩ (m + 1) ?_ ?_ ?_ ?_ ?_ ?_ ?_ ?_))
  case _ =>
    intro b hb
    simp [show ¬ b = w.next by omega, show ¬ b = w.next + 1 by omega, show ¬ b = w.next + 2 by omega, show ¬ b = w.next + 3 by omega, show ¬ b = w.next + 4 by omega]
  case _ => simp [seaC]
  case _ => exact ⟨_, by simp; rfl, rfl⟩
  case _ => simp
  case _ => simp [yearC]
  case _ => simp
  case _ => simp
  case _ => rfl
  case _ => simp
  case _ => simp
  case _ => simp
  case _ => simp
  case _ => simp
  case _ => simp
  case _ => simp
  case _ => simp
  case _ =>
    intro t w' bl hY hbl t1 t2 t3 t4
    have hbox := hY.box
    have c3 : ∀ h, (seaC s (.slice da l.length dc) (.slice ca c.length cc))[3]'h = .int .i64 s.from_ := fun _ => rfl
    have c0 : ∀ h, (seaC s (.slice da l.length dc) (.slice ca c.length cc))[0]'h = .slice da l.length dc := fun _ => rfl
    unfold seaC at hbox
    simp [t1, t2, t3, t4, hbox]
    refine wp_seqX (wp_blockX (loop19b m h47 h48 s hs c l.length h40 _ _ w hl bl hbl _ _ _ _ hY ?_ ?_ ?_ ?_ ?_ ?_ ?_))
    case _ => simp [t2]
    case _ => simp [t3]
    case _ => simp [t4]
    case _ => simp
    case _ => simp
    case _ => simp
    case _ =>
      clear t1 t2 t3 t4 hbox
      intro t w1 L hY hL t2 t3
      have hyear := hY.year
      obtain ⟨z, hres, hzl⟩ := hY.res
      have hlm := hY.lim
      have hnx := hY.next
      have l1 : w1.lim ≤ w.next + 1 := by omega
      have hLe := shL_eq s c hY.lens.2 hL
      unfold yearC at hyear
      simp [t2, t3, hyear, hres, hzl, l1, cellsOf_agg, tupV]
      exact ⟨w.next + 2, rfl, by rw [if_neg (by omega), hY.row, hLe], by omega, by omega, hY.old.put (Nat.le_succ _), by omega, hlm⟩
end Go.Proofs.YtnkhenmabmkajaaGreatDoor.walk

namespace Go.Proofs.YtnkhenmabmkajaaGreatDoor.walk
open Go Go.Sh
set_option maxRecDepth 100000
set_option linter.unusedSimpArgs false
@[simp] theorem fv54_1 (w : AW) (a0 a1 a2 a3 a4 a5 a6 a7 a8 : Value) (ba : Option Addr) (bl bc : Nat) : fieldA Tryz.prog w 54 1 (.agg ⟨[a0, a1, a2, a3, a4, a5, a6, a7, a8, .slice ba bl bc]⟩) = .val (.slice ba bl bc) w := by kernel_rfl
theorem cuts_len {n : Int} {l : List Int} (h0 : 0 ≤ n) (h : cutsB l n = true) : (l.length : Int) ≤ n := by
  have a := last_ge l.length (Nat.le_refl _) h
  have b := last_lt h0 l.length (Nat.le_refl _) h
  omega
theorem sea_zero {s : Sea} {l : List Day} {c : List Int} (h : seaE s l c = 0) : daysB l = true ∧ cutsB c l.length = true ∧ shadeB s = true ∧ inI 0 s.base 50 = true ∧ inI 0 s.wet 100 = true := by
  unfold seaE at h
  cases hx : seaB s l c with
  | false => rw [hx] at h; cases h
  | true =>
    simpa only [seaB, Bool.and_eq_true] using hx
def shV (s : Sea) (l : List Day) (c : List Int) : List Int := if seaE s l c = 0 then shL s c l.length else []
theorem acc_rows {n1 : Nat} {w : AW} {v : Value} {acc : List Int} {B : Nat} (h : AccI n1 w v acc B) : RowsV intC w v acc := by
  rcases h with ⟨h1, h2, _⟩ | ⟨h1, h2, h3, h4⟩
  · exact .inl ⟨h1, _, _, h2⟩
  · exact .inr ⟨B, 0, none, _, h1, ⟨[], [], 3, false, by rw [h2]; simp, rfl⟩, h4⟩
set_option maxHeartbeats 1000000 in
theorem call5 {ov : Ov} (m : Nat) (ho : ∀ args w, ov 5 args w = none) (ho19 : ∀ args w, ov 19 args w = none) (h8 : HasP ov 8 F8) (h47 : HasP ov 47 F47) (h48 : HasP ov 48 F48) (s : Sea) (l : List Day) (c : List Int) (dv cv : Value) (w : AW) (hl : w.lim ≤ w.next) (hv : RowsV dayC w dv l) (hu : RowsV intC w cv c) :
    ∃ x w', (run Tryz.prog ov (m + 3)).call 5 [.agg ⟨seaC s dv cv⟩] w .none = .ok (.ret x) w' .none ∧ ∃ v, x = .tuple ⟨[v, .int .i64 (seaE s l c)]⟩ ∧ RowsV intC w' v (shV s l c) ∧ Old w.next w.heap w'.heap ∧ w.next ≤ w'.next ∧ w'.lim = w.lim := by
  refine call_wp text5 (by simp) (ho _ _) ?_
  have o1 : Old w.next w.heap (w.heap.put w.next (some (.cells (seaC s dv cv) 29 false))) := (Old.refl _ _).put (Nat.le_refl _)
  have hv1 := hv.old (w' := ⟨w.heap.put w.next (some (.cells (seaC s dv cv) 29 false)), w.next + 1, w.lim⟩) o1 (Nat.le_succ _)
  have hu1 := hu.old (w' := ⟨w.heap.put w.next (some (.cells (seaC s dv cv) 29 false)), w.next + 1, w.lim⟩) o1 (Nat.le_succ _)
  have r8 := rule8 (f := 8) (s := s) h8 hv1 hu1 (m + 1)
  have hl1 : w.lim ≤ w.next + 1 := by omega
  by_cases hE : seaE s l c = 0
  · obtain ⟨hd, hcB, hs, _, _⟩ := sea_zero hE
    have h40 := (days_len hd).2
    have hcl := cuts_len (by omega) hcB
    obtain ⟨x, w', hc, B, rfl, k1, k2, k3, ho', hn, hlm⟩ := call19 m ho19 h47 h48 s hs l h40 c hcB (by omega) dv cv _ hl1 hv1 hu1
    have hn' : w.next + 1 ≤ w'.next := hn
    have hlm' : w'.lim = w.lim := hlm
    have ho2 : Old w.next w.heap w'.heap := o1.trans ho' (Nat.le_succ _)
    rw [hE] at r8
    simp only [seaC, yearC, Nat.reduceAdd] at r8 hc
    simp [mc5, seaC, r8, hc, tupV, hE]
    have hr : RowsV intC w' (.slice (some ⟨B, 0, none⟩) l.length l.length) (shV s l c) := .inr ⟨B, 0, none, l.length, by simp [shV, hE, shL_length], ⟨[], [], 3, false, by simp [shV, hE, k1], rfl⟩, k3⟩
    exact ⟨hr, ho2, by omega, hlm'⟩
  · simp only [seaC, Nat.reduceAdd] at r8
    simp [mc5, seaC, r8, tupV, hE]
    exact .inl ⟨by simp [shV, hE], _, _, rfl⟩
set_option maxHeartbeats 1000000 in
theorem call6 {ov : Ov} (m : Nat) (ho : ∀ args w, ov 6 args w = none) (ho20 : ∀ args w, ov 20 args w = none) (h9 : HasP ov 9 F8) (h49 : HasP ov 49 F49) (h50 : ∀ (L : List Int) (x : Int) (u : Value) (w : AW), L.length ≤ 1000 → RowsV intC w u L → (run Tryz.prog ov (m + 1)).call 50 [u, .int .i64 x] w .none = .ok (.ret (.int .i64 (findAt x L 0))) w .none) (s : Sea) (l : List Day) (c : List Int) (dv cv : Value) (w : AW) (hl : w.lim ≤ w.next) (hv : RowsV dayC w dv l) (hu : RowsV intC w cv c) :
    ∃ x w', (run Tryz.prog ov (m + 3)).call 6 [.agg ⟨seaC s dv cv⟩] w .none = .ok (.ret x) w' .none ∧ ∃ v, x = .tuple ⟨[v, .int .i64 (seaE s l c)]⟩ ∧ RowsV intC w' v (shV s l c) ∧ Old w.next w.heap w'.heap ∧ w.next ≤ w'.next ∧ w'.lim = w.lim := by
  refine call_wp text6 (by simp) (ho _ _) ?_
  have o1 : Old w.next w.heap (w.heap.put w.next (some (.cells (seaC s dv cv) 29 false))) := (Old.refl _ _).put (Nat.le_refl _)
  have hv1 := hv.old (w' := ⟨w.heap.put w.next (some (.cells (seaC s dv cv) 29 false)), w.next + 1, w.lim⟩) o1 (Nat.le_succ _)
  have hu1 := hu.old (w' := ⟨w.heap.put w.next (some (.cells (seaC s dv cv) 29 false)), w.next + 1, w.lim⟩) o1 (Nat.le_succ _)
  have r9 := rule8 (f := 9) (s := s) h9 hv1 hu1 (m + 1)
  have hl1 : w.lim ≤ w.next + 1 := by omega
  by_cases hE : seaE s l c = 0
  · obtain ⟨hd, hcB, hs, _, _⟩ := sea_zero hE
    have h40 := (days_len hd).2
    have hcl := cuts_len (by omega) hcB
    obtain ⟨v, w', hc, B, k1, ho', hn, hlm⟩ := call20 m ho20 h49 h50 s hs l h40 c (by omega) dv cv cv _ hl1 hv1 hu1
    have hn' : w.next + 1 ≤ w'.next := hn
    have hlm' : w'.lim = w.lim := hlm
    have ho2 : Old w.next w.heap w'.heap := o1.trans ho' (Nat.le_succ _)
    rw [hE] at r9
    simp only [seaC, Nat.reduceAdd] at r9 hc
    have nj : notJunk v = some v := by
      rcases k1 with ⟨_, rfl, _⟩ | ⟨rfl, _⟩ <;> rfl
    simp [mc6, seaC, r9, hc, tupV, hE, nj]
    have hr : RowsV intC w' v (shV s l c) := by
      rw [shV, if_pos hE]
      exact acc_rows k1
    exact ⟨hr, ho2, by omega, hlm'⟩
  · simp only [seaC, Nat.reduceAdd] at r9
    simp [mc6, seaC, r9, tupV, hE]
    exact .inl ⟨by simp [shV, hE], _, _, rfl⟩
end Go.Proofs.YtnkhenmabmkajaaGreatDoor.walk

namespace Go.Proofs.YtnkhenmabmkajaaGreatDoor.walk
open Go Go.Sh
set_option maxRecDepth 100000
set_option linter.unusedSimpArgs false
/-! two rows alike -/
theorem loop7 {ov : Ov} (L : List Int) (hlen : L.length ≤ 1000) (u v : Value) (w : AW) (hu : RowsV intC w u L) (hv : RowsV intC w v L) (m : Nat)
    (Q : Ex → Tm → AW → Prop) (t : Tm) (t0 : tget t 0 = u) (t1 : tget t 1 = v) (t5 : tget t 5 = .bool true) (t6 : tget t 6 = .int .i64 0)
    (hQ : ∀ t, tget t 5 = .bool true → Q (.exit 0) t w) : wp (exM Tryz.prog (run Tryz.prog ov m) (.loop mc7_l0) t w) Q := by
  refine wp_rounds (fun i t w' => w' = w ∧ tget t 0 = u ∧ tget t 1 = v ∧ tget t 5 = .bool true ∧ tget t 6 = .int .i64 (i : Nat) ∧ i ≤ L.length) 2000 (by decide) ⟨rfl, t0, t1, t5, by simpa using t6, Nat.zero_le _⟩ ?_
  clear t0 t1 t5 t6
  rintro i t w' ⟨rfl, t0, t1, t5, t6, hi⟩
  have hlu := fun w => len27V hu w
  by_cases hlt : i < L.length
  · obtain ⟨z, hz⟩ : ∃ z, L[i]? = some z := ⟨_, List.getElem?_eq_getElem hlt⟩
    obtain ⟨b, off, sq, cp, rfl, hr⟩ := hu.at_ i hlt
    obtain ⟨b', off', sq', cp', rfl, hr'⟩ := hv.at_ i hlt
    have hld := hr.int hz
    have hld' := hr'.int hz
    have hia := fun w => ia27 w ⟨b, off, sq⟩ L.length cp .i64 i hlt
    have hia' := fun w => ia27 w ⟨b', off', sq'⟩ L.length cp' .i64 i hlt
    have hw1 : IntKind.wrap .i64 ((i : Int) + 1) = (i : Int) + 1 := wrap64_in (by omega) (by omega)
    simp [mc7_l0, t0, t1, t5, t6, hlt, hia, hia', hld, hld', hw1]
    exact ⟨by omega, hlt⟩
  · have hi' : i = L.length := by omega
    subst hi'
    simp [mc7_l0, t0, t5, t6, hlu]
    exact hQ _ (by simp [t5])
theorem run7 {ov : Ov} (ho : ∀ args w, ov 7 args w = none) (L : List Int) (hlen : L.length ≤ 1000) (u v : Value) (w : AW) (hu : RowsV intC w u L) (hv : RowsV intC w v L) :
    ∃ y w', (run Tryz.prog ov 2).call 7 [u, v] w .none = .ok (.ret y) w' .none ∧ y = .bool true := by
  refine call_wp text7 (by simp) (ho _ _) ?_
  have hlu := len27V hu
  have hlv := len27V hv
  simp [mc7, hlu, hlv]
  refine wp_seqX (wp_blockX (loop7 L hlen u v w hu hv 1 _ _ ?_ ?_ ?_ ?_ ?_))
  case _ => simp
  case _ => simp
  case _ => simp
  case _ => simp
  case _ => intro t t5; simp [t5, tupV]
open Classical in
noncomputable def F7 : PureF := fun args w => match args with | [u, v] => (rowsIn intC w u).bind fun A => (rowsIn intC w v).bind fun B => if A = B ∧ A.length ≤ 1000 then some (.bool true) else none | _ => none
theorem rule7 {ov : Ov} (k : HasP ov 7 F7) {u v : Value} {L : List Int} (hlen : L.length ≤ 1000) {w : AW} (hu : RowsV intC w u L) (hv : RowsV intC w v L) (m : Nat) : (run Tryz.prog ov (m + 1)).call 7 [u, v] w .none = .ok (.ret (.bool true)) w .none := k.call (by
  simp only [F7, hu.rowsIn (m := 1) intC_length intC_inj, hv.rowsIn (m := 1) intC_length intC_inj, Option.bind_some]
  rw [if_pos ⟨trivial, hlen⟩])
end Go.Proofs.YtnkhenmabmkajaaGreatDoor.walk

namespace Go.Proofs.YtnkhenmabmkajaaGreatDoor.walk
open Go Go.Sh
set_option maxRecDepth 100000
set_option linter.unusedSimpArgs false
/-! the heat of a day -/
def heatI (s : Sea) (warm rain shade : Int) : Int := if s.wet < rain then 0 else (max 0 (warm - s.base) * (100 - shade)).tdiv 100
structure HeatOk (s : Sea) (warm shade : Int) : Prop where
  w0 : 0 ≤ warm
  w1 : warm ≤ 50
  b0 : 0 ≤ s.base
  b1 : s.base ≤ 50
  s0 : 0 ≤ shade
  s1 : shade ≤ 100
theorem heat_nums {s : Sea} {warm shade : Int} (h : HeatOk s warm shade) : (0 ≤ max 0 (warm - s.base) * (100 - shade) ∧ max 0 (warm - s.base) * (100 - shade) ≤ 5000) ∧ 0 ≤ (max 0 (warm - s.base) * (100 - shade)).tdiv 100 ∧ (max 0 (warm - s.base) * (100 - shade)).tdiv 100 ≤ 50 := by
  obtain ⟨a, b, c, d, e, f⟩ := h
  have h1 : 0 ≤ max 0 (warm - s.base) * (100 - shade) := Int.mul_nonneg (by omega) (by omega)
  have h2 : max 0 (warm - s.base) * (100 - shade) ≤ 50 * 100 := Int.mul_le_mul (by omega) (by omega) (by omega) (by omega)
  have h3 := Int.tdiv_eq_ediv_of_nonneg (b := 100) h1
  rw [h3]
  omega
noncomputable def F52 : PureF := fun args _ => match args with | [.int .i64 n, .agg ⟨[.int .i64 a, .int .i64 b]⟩] => some (.bool (inI a n b)) | _ => none
theorem rule52 {ov : Ov} (k : HasP ov 52 F52) (n a b : Int) (m : Nat) (w : AW) : (run Tryz.prog ov (m + 1)).call 52 [.int .i64 n, .agg ⟨[.int .i64 a, .int .i64 b]⟩] w .none = .ok (.ret (.bool (inI a n b))) w .none := k.call rfl
theorem run52 {ov : Ov} (ho : ∀ args w, ov 52 args w = none) (n a b : Int) (w : AW) : ∃ v w', (run Tryz.prog ov 2).call 52 [.int .i64 n, .agg ⟨[.int .i64 a, .int .i64 b]⟩] w .none = .ok (.ret v) w' .none ∧ v = .bool (inI a n b) := by
  refine call_wp text52 (by simp) (ho _ _) ?_
  by_cases h1 : a ≤ n <;> simp [mc52, h1, tupV, inI]
theorem run54 {ov : Ov} (ho : ∀ args w, ov 54 args w = none) (s : Sea) (dv cv : Value) (warm rain shade : Int) (hk : HeatOk s warm shade) (w : AW) : ∃ v w', (run Tryz.prog ov 2).call 54 [.agg ⟨seaC s dv cv⟩, .int .i64 warm, .int .i64 rain, .int .i64 shade] w .none = .ok (.ret v) w' .none ∧ v = .int .i64 (heatI s warm rain shade) := by
  refine call_wp text54 (by simp) (ho _ _) ?_
  obtain ⟨⟨n1, n2⟩, n3, n4⟩ := heat_nums hk
  obtain ⟨a, b, c, d, e, f⟩ := hk
  have w1 : IntKind.wrap .i64 (warm - s.base) = warm - s.base := wrap64_in (by omega) (by omega)
  have w2 : IntKind.wrap .i64 (100 - shade) = 100 - shade := wrap64_in (by omega) (by omega)
  have w3 : IntKind.wrap .i64 (max 0 (warm - s.base) * (100 - shade)) = max 0 (warm - s.base) * (100 - shade) := wrap64_in (by omega) (by omega)
  have w4 : IntKind.wrap .i64 ((max 0 (warm - s.base) * (100 - shade)).tdiv 100) = (max 0 (warm - s.base) * (100 - shade)).tdiv 100 := wrap64_in (by omega) (by omega)
  have hq := fun (a : Int) (c : Bool) w => bin_quo (P := Tryz.prog) (w := w) 3 c .i64 a 100 (by decide)
  by_cases h : s.wet < rain
  · simp [mc54, seaC, h, heatI, tupV]
  · simp [mc54, seaC, h, heatI, w1, w2, w3, w4, hq, tupV]
theorem run53 {ov : Ov} (ho : ∀ args w, ov 53 args w = none) (s : Sea) (dv cv sv : Value) (k : Nat) (warm rain shade : Int) (hk : HeatOk s warm shade) (L : List Int) (w : AW) (hL : RowsV intC w sv L) (hz : L[k]? = some shade) : ∃ v w', (run Tryz.prog ov 2).call 53 [.agg ⟨yearC s dv cv sv⟩, .int .i64 (k : Nat), .int .i64 warm, .int .i64 rain] w .none = .ok (.ret v) w' .none ∧ v = .int .i64 (heatI s warm rain shade) := by
  refine call_wp text53 (by simp) (ho _ _) ?_
  obtain ⟨⟨n1, n2⟩, n3, n4⟩ := heat_nums hk
  obtain ⟨a, b, c, d, e, f⟩ := hk
  have hkl : k < L.length := (List.getElem?_eq_some_iff.1 hz).1
  obtain ⟨bk, off, sq, cp, rfl, hr⟩ := hL.at_ k hkl
  have hld := hr.int hz
  have hbn := hr.2
  have m0 : ¬ bk = w.next := by omega
  have hia := fun w => ia27 w ⟨bk, off, sq⟩ L.length cp .i64 k hkl
  have w1 : IntKind.wrap .i64 (warm - s.base) = warm - s.base := wrap64_in (by omega) (by omega)
  have w2 : IntKind.wrap .i64 (100 - shade) = 100 - shade := wrap64_in (by omega) (by omega)
  have hm : max (warm - s.base) 0 = max 0 (warm - s.base) := by omega
  have w3 : IntKind.wrap .i64 (max 0 (warm - s.base) * (100 - shade)) = max 0 (warm - s.base) * (100 - shade) := wrap64_in (by omega) (by omega)
  have w4 : IntKind.wrap .i64 ((max 0 (warm - s.base) * (100 - shade)).tdiv 100) = (max 0 (warm - s.base) * (100 - shade)).tdiv 100 := wrap64_in (by omega) (by omega)
  have hq := fun (a : Int) (c : Bool) w => bin_quo (P := Tryz.prog) (w := w) 3 c .i64 a 100 (by decide)
  by_cases h : s.wet < rain
  · simp [mc53, yearC, h, heatI, tupV]
  · simp [mc53, yearC, h, heatI, hia, hld, m0, hm, w1, w2, w3, w4, hq, tupV]
end Go.Proofs.YtnkhenmabmkajaaGreatDoor.walk

namespace Go.Proofs.YtnkhenmabmkajaaGreatDoor.walk
open Go Go.Sh
set_option maxRecDepth 100000
set_option linter.unusedSimpArgs false
/-! weather that can be -/
def trTo (l : List Day) (W R : List Int) : Nat → Bool
  | 0 => true
  | i + 1 => trTo l W R i && (match l[i]?, W[i]?, R[i]? with | some d, some a, some b => inI d.wl a d.wh && inI d.rl b d.rh | _, _, _ => true)
theorem tr_snoc {l : List Day} {W R : List Int} {i : Nat} {d : Day} {a b : Int} (h1 : l[i]? = some d) (h2 : W[i]? = some a) (h3 : R[i]? = some b) : trTo l W R (i + 1) = (trTo l W R i && (inI d.wl a d.wh && inI d.rl b d.rh)) := by
  show (trTo l W R i && _) = _
  rw [h1, h2, h3]
theorem tr_false {l : List Day} {W R : List Int} {i : Nat} (h : trTo l W R i = false) : ∀ n, i ≤ n → trTo l W R n = false
  | 0, hn => by obtain rfl : i = 0 := by omega
                exact h
  | n + 1, hn => by
    rcases Nat.eq_or_lt_of_le hn with e | h1
    · rw [← e]; exact h
    · show (trTo l W R n && _) = false
      rw [tr_false h n (by omega)]; rfl
def trB (l : List Day) (W R : List Int) : Bool := decide (W.length = l.length) && (decide (R.length = l.length) && trTo l W R l.length)
theorem loop28 {ov : Ov} (h52 : HasP ov 52 F52) (l : List Day) (h40 : l.length ≤ 40) (W R : List Int) (e1 : W.length = l.length) (e2 : R.length = l.length) (v wv rv : Value) (w0 : AW) (hl0 : w0.lim ≤ w0.next) (hv : RowsV dayC w0 v l) (hw' : RowsV intC w0 wv W) (hr' : RowsV intC w0 rv R) (n1 : Nat) (hn1 : n1 < w0.next) (hbox : w0.heap.get n1 = some (.cells [wv, rv] 31 false)) (m : Nat)
    (Q : Ex → Tm → AW → Prop) (t : Tm) (t3 : tget t 3 = .pointer (some ⟨n1, 0, none⟩)) (t24 : tget t 24 = v) (t25 : tget t 25 = .int .i64 (l.length : Nat)) (t26 : tget t 26 = .int .i64 0)
    (hyes : trTo l W R l.length = true → ∀ t w, Q (.exit 0) t w) (hno : trTo l W R l.length = false → ∀ t w, tget t 4 = .bool false → Q .ret t w) : wp (exM Tryz.prog (run Tryz.prog ov (m + 1)) (.loop mc28_l0) t w0) Q := by
  refine wp_rounds (fun i t w => tget t 3 = .pointer (some ⟨n1, 0, none⟩) ∧ tget t 24 = v ∧ tget t 25 = .int .i64 (l.length : Nat) ∧ tget t 26 = .int .i64 (i : Nat) ∧ i ≤ l.length ∧ trTo l W R i = true ∧ Ol w0 w) 200 (by decide) ⟨t3, t24, t25, by simpa using t26, Nat.zero_le _, rfl, Ol.refl _⟩ ?_
  clear t3 t24 t25 t26
  rintro i t w ⟨t3, t24, t25, t26, hi, hok, hw⟩
  by_cases hlt : i < l.length
  · obtain ⟨d, hd⟩ : ∃ d, l[i]? = some d := ⟨_, List.getElem?_eq_getElem hlt⟩
    obtain ⟨a, ha⟩ : ∃ d, W[i]? = some d := ⟨_, List.getElem?_eq_getElem (e1 ▸ hlt)⟩
    obtain ⟨c, hc⟩ : ∃ d, R[i]? = some d := ⟨_, List.getElem?_eq_getElem (e2 ▸ hlt)⟩
    obtain ⟨b0, o0, q0, c0, rfl, hr0⟩ := hv.at_ i hlt
    obtain ⟨b1, o1, q1, c1, rfl, hr1⟩ := hw'.at_ i (e1 ▸ hlt)
    obtain ⟨b2, o2, q2, c2, rfl, hr2⟩ := hr'.at_ i (e2 ▸ hlt)
    have hld := hr0.rd (m := 4) dayC_length hd
    have hla := hr1.int ha
    have hlc := hr2.int hc
    rw [← hw.old _ hr0.2] at hld
    rw [← hw.old _ hr1.2] at hla
    rw [← hw.old _ hr2.2] at hlc
    have hbx := hbox
    rw [← hw.old _ hn1] at hbx
    have hn := hw.next
    have hlm := hw.lim
    have hl1 : w.lim ≤ w.next := by omega
    have m0 : ¬ b0 = w.next := by have := hr0.2; omega
    have m1 : ¬ b1 = w.next := by have := hr1.2; omega
    have m2 : ¬ b2 = w.next := by have := hr2.2; omega
    have m3 : ¬ n1 = w.next := by omega
    have hia := fun w => ia22 w ⟨b0, o0, q0⟩ l.length c0 .i64 i hlt
    have hi1 := fun w => ia27 w ⟨b1, o1, q1⟩ W.length c1 .i64 i (e1 ▸ hlt)
    have hi2 := fun w => ia27 w ⟨b2, o2, q2⟩ R.length c2 .i64 i (e2 ▸ hlt)
    have hw1 : IntKind.wrap .i64 ((i : Int) + 1) = (i : Int) + 1 := wrap64_in (by omega) (by omega)
    have r52 := fun n a b w => rule52 h52 n a b m w
    have hs := tr_snoc hd ha hc
    rw [hok, Bool.true_and] at hs
    cases h1 : inI d.wl a d.wh with
    | false =>
      have hbad : trTo l W R l.length = false := tr_false (i := i + 1) (by rw [hs, h1]; rfl) _ hlt
      simp [mc28_l0, t3, t24, t25, t26, hlt, hia, hi1, hi2, hld, hla, hlc, hbx, hl1, m0, m1, m2, m3, cellsOf_agg, dayC, r52, h1]
      exact hno hbad _ _ (by simp)
    | true => cases h2 : inI d.rl c d.rh with
      | false =>
        have hbad : trTo l W R l.length = false := tr_false (i := i + 1) (by rw [hs, h1, h2]; rfl) _ hlt
        simp [mc28_l0, t3, t24, t25, t26, hlt, hia, hi1, hi2, hld, hla, hlc, hbx, hl1, m0, m1, m2, m3, cellsOf_agg, dayC, r52, h1, h2]
        exact hno hbad _ _ (by simp)
      | true =>
        have hs' : trTo l W R (i + 1) = true := by rw [hs, h1, h2]; rfl
        simp [mc28_l0, t3, t24, t25, t26, hlt, hia, hi1, hi2, hld, hla, hlc, hbx, hl1, m0, m1, m2, m3, cellsOf_agg, dayC, r52, h1, h2, hw1]
        exact ⟨by omega, hlt, hs', ⟨(hw.old.put hn).put hn, by show w0.next ≤ w.next + 1; omega, hlm⟩⟩
  · have hi' : i = l.length := by omega
    subst hi'
    simp [mc28_l0, t25, t26]
    exact hyes hok _ _
theorem run28 {ov : Ov} (ho : ∀ args w, ov 28 args w = none) (h52 : HasP ov 52 F52) (s : Sea) (l : List Day) (h40 : l.length ≤ 40) (W R : List Int) (dv cv wv rv : Value) (w : AW) (hl : w.lim ≤ w.next) (hv : RowsV dayC w dv l) (hw : RowsV intC w wv W) (hr : RowsV intC w rv R) :
    ∃ x w', (run Tryz.prog ov 2).call 28 [.agg ⟨seaC s dv cv⟩, .agg ⟨[wv, rv]⟩] w .none = .ok (.ret x) w' .none ∧ x = .bool (trB l W R) := by
  refine call_wp text28 (by simp) (ho _ _) ?_
  have hld := len22V hv
  have hlw := len27V hw
  have hlr := len27V hr
  have o1 : Old w.next w.heap ((w.heap.put w.next (some (.cells (seaC s dv cv) 29 false))).put (w.next + 1) (some (.cells [wv, rv] 31 false))) := ((Old.refl _ _).put (Nat.le_refl _)).put (Nat.le_succ _)
  by_cases e1 : W.length = l.length
  · have e1' : (W.length : Int) = l.length := by omega
    by_cases e2 : R.length = l.length
    · have e2' : (R.length : Int) = l.length := by omega
      unfold seaC at o1
      simp [mc28, seaC, hld, hlw, hlr, e1, e2]
      refine wp_seqX (wp_blockX (loop28 h52 l h40 W R e1 e2 dv wv rv _ ?_ ?_ ?_ ?_ (w.next + 1) ?_ ?_ 0 _ _ ?_ ?_ ?_ ?_ ?_ ?_))
      case _ => show w.lim ≤ w.next + 2; omega
      case _ => exact hv.old (w' := ⟨_, _, _⟩) o1 (by show w.next ≤ w.next + 2; omega)
      case _ => exact hw.old (w' := ⟨_, _, _⟩) o1 (by show w.next ≤ w.next + 2; omega)
      case _ => exact hr.old (w' := ⟨_, _, _⟩) o1 (by show w.next ≤ w.next + 2; omega)
      case _ => exact Nat.lt_succ_self _
      case _ => simp
      case _ => simp
      case _ => simp
      case _ => simp
      case _ => simp
      case _ => intro hy t w; simp [trB, e1, e2, hy, tupV]
      case _ => intro hn t w t4; simp [trB, e1, e2, hn, t4, tupV]
    · have e2' : ¬ (R.length : Int) = l.length := by omega
      simp [mc28, seaC, hld, hlw, hlr, e1, e1', e2, e2', trB, tupV]
  · have e1' : ¬ (W.length : Int) = l.length := by omega
    simp [mc28, seaC, hld, hlw, hlr, e1, e1', trB, tupV]
end Go.Proofs.YtnkhenmabmkajaaGreatDoor.walk

namespace Go.Proofs.YtnkhenmabmkajaaGreatDoor.walk
open Go Go.Sh
set_option maxRecDepth 100000
set_option linter.unusedSimpArgs false
noncomputable def F28 : PureF := fun args w => match args with | [.agg ⟨[dv, .int .i64 _, .int .i64 _, .int .i64 _, .int .i64 _, .int .i64 _, .int .i64 _, .int .i64 _, _]⟩, .agg ⟨[wv, rv]⟩] => (rowsIn dayC w dv).bind fun l => (rowsIn intC w wv).bind fun W => (rowsIn intC w rv).bind fun R => bif decide (l.length ≤ 40) then some (.bool (trB l W R)) else none | _ => none
theorem rule28 {ov : Ov} {f : FuncId} (k : HasP ov f F28) {s : Sea} {dv cv wv rv : Value} {l : List Day} {W R : List Int} (h40 : l.length ≤ 40) {w : AW} (hv : RowsV dayC w dv l) (hw : RowsV intC w wv W) (hr : RowsV intC w rv R) (m : Nat) : (run Tryz.prog ov (m + 1)).call f [.agg ⟨seaC s dv cv⟩, .agg ⟨[wv, rv]⟩] w .none = .ok (.ret (.bool (trB l W R))) w .none := k.call (by
  simp [F28, seaC, hv.rowsIn (m := 4) dayC_length dayC_inj, hw.rowsIn (m := 1) intC_length intC_inj, hr.rowsIn (m := 1) intC_length intC_inj, h40])
theorem loop30 {ov : Ov} (h25 : HasP ov 25 F25) (s : Sea) (l : List Day) (h40 : l.length ≤ 40) (W R : List Int) (b : Bool) (e1 : b = true → W.length = l.length) (e2 : b = true → R.length = l.length) (dv cv wv rv : Value) (w0 : AW) (hl0 : w0.lim ≤ w0.next) (hv : RowsV dayC w0 dv l) (hw' : RowsV intC w0 wv W) (hr' : RowsV intC w0 rv R) (n0 n1 : Nat) (hn0 : n0 < w0.next) (hn1 : n1 < w0.next) (hbox0 : w0.heap.get n0 = some (.cells (seaC s dv cv) 29 false)) (hbox : w0.heap.get n1 = some (.cells [wv, rv] 31 false)) (m : Nat)
    (Q : Ex → Tm → AW → Prop) (t : Tm) (t2 : tget t 2 = .pointer (some ⟨n0, 0, none⟩)) (t3 : tget t 3 = .pointer (some ⟨n1, 0, none⟩)) (t5 : tget t 5 = .bool b) (t6 : tget t 6 = .int .i64 0)
    (hQ : ∀ t w, tget t 5 = .bool (b && trTo l W R l.length) → Q (.exit 0) t w) : wp (exM Tryz.prog (run Tryz.prog ov (m + 1)) (.loop mc30_l0) t w0) Q := by
  refine wp_rounds (fun i t w => tget t 2 = .pointer (some ⟨n0, 0, none⟩) ∧ tget t 3 = .pointer (some ⟨n1, 0, none⟩) ∧ tget t 5 = .bool (b && trTo l W R i) ∧ tget t 6 = .int .i64 (i : Nat) ∧ i ≤ l.length ∧ Ol w0 w) 200 (by decide) ⟨t2, t3, by simpa [trTo] using t5, by simpa using t6, Nat.zero_le _, Ol.refl _⟩ ?_
  clear t2 t3 t5 t6
  rintro i t w ⟨t2, t3, t5, t6, hi, hw⟩
  have hln := fun w => len22V hv w
  have hbx0 := hbox0
  rw [← hw.old _ hn0] at hbx0
  cases hok : (b && trTo l W R i) with
  | false =>
    rw [hok] at t5
    have hbad : (b && trTo l W R l.length) = false := by
      cases b with
      | false => rfl
      | true => exact tr_false (i := i) (by simpa using hok) _ hi
    rw [hbad] at hQ
    simp [mc30_l0, t5]
    exact hQ _ _ (by simp [t5])
  | true =>
    rw [hok] at t5
    simp only [Bool.and_eq_true] at hok
    obtain ⟨rfl, hok⟩ := hok
    have e1 := e1 rfl
    have e2 := e2 rfl
    by_cases hlt : i < l.length
    · obtain ⟨d, hd⟩ : ∃ d, l[i]? = some d := ⟨_, List.getElem?_eq_getElem hlt⟩
      obtain ⟨a, ha⟩ : ∃ d, W[i]? = some d := ⟨_, List.getElem?_eq_getElem (e1 ▸ hlt)⟩
      obtain ⟨c, hc⟩ : ∃ d, R[i]? = some d := ⟨_, List.getElem?_eq_getElem (e2 ▸ hlt)⟩
      obtain ⟨b0, o0, q0, c0, rfl, hr0⟩ := hv.at_ i hlt
      obtain ⟨b1, o1, q1, c1, rfl, hr1⟩ := hw'.at_ i (e1 ▸ hlt)
      obtain ⟨b2, o2, q2, c2, rfl, hr2⟩ := hr'.at_ i (e2 ▸ hlt)
      have hld := hr0.rd (m := 4) dayC_length hd
      have hla := hr1.int ha
      have hlc := hr2.int hc
      rw [← hw.old _ hr0.2] at hld
      rw [← hw.old _ hr1.2] at hla
      rw [← hw.old _ hr2.2] at hlc
      have hbx := hbox
      rw [← hw.old _ hn1] at hbx
      have hn := hw.next
      have hlm := hw.lim
      have hl1 : w.lim ≤ w.next := by omega
      have m0 : ¬ b0 = w.next := by have := hr0.2; omega
      have m1 : ¬ b1 = w.next := by have := hr1.2; omega
      have m2 : ¬ b2 = w.next := by have := hr2.2; omega
      have m3 : ¬ n1 = w.next := by omega
      have hia := fun w => ia22 w ⟨b0, o0, q0⟩ l.length c0 .i64 i hlt
      have hi1 := fun w => ia27 w ⟨b1, o1, q1⟩ W.length c1 .i64 i (e1 ▸ hlt)
      have hi2 := fun w => ia27 w ⟨b2, o2, q2⟩ R.length c2 .i64 i (e2 ▸ hlt)
      have hw1 : IntKind.wrap .i64 ((i : Int) + 1) = (i : Int) + 1 := wrap64_in (by omega) (by omega)
      have r25 := fun n a b w => rule25 h25 n a b m w
      have hs := tr_snoc hd ha hc
      rw [hok, Bool.true_and] at hs
      unfold seaC at hbx0
      cases h1 : inI d.wl a d.wh with
      | false =>
        simp [mc30_l0, t2, t3, t5, t6, hlt, hia, hi1, hi2, hld, hla, hlc, hbx0, hbx, hl1, m0, m1, m2, m3, cellsOf_agg, dayC, r25, h1, hw1]
        exact ⟨by omega, by rw [hs, h1]; rfl, hlt, ⟨(hw.old.put hn).put hn, by show w0.next ≤ w.next + 1; omega, hlm⟩⟩
      | true =>
        simp [mc30_l0, t2, t3, t5, t6, hlt, hia, hi1, hi2, hld, hla, hlc, hbx0, hbx, hl1, m0, m1, m2, m3, cellsOf_agg, dayC, r25, h1, hw1]
        exact ⟨by omega, by rw [hs, h1]; rfl, hlt, ⟨(hw.old.put hn).put hn, by show w0.next ≤ w.next + 1; omega, hlm⟩⟩
    · have hi' : i = l.length := by omega
      subst hi'
      unfold seaC at hbx0
      simp [mc30_l0, t2, t5, t6, hbx0, hln]
      exact hQ _ _ (by simp [t5, hok])
theorem run30 {ov : Ov} (ho : ∀ args w, ov 30 args w = none) (h25 : HasP ov 25 F25) (s : Sea) (l : List Day) (h40 : l.length ≤ 40) (W R : List Int) (dv cv wv rv : Value) (w : AW) (hl : w.lim ≤ w.next) (hv : RowsV dayC w dv l) (hw : RowsV intC w wv W) (hr : RowsV intC w rv R) :
    ∃ x w', (run Tryz.prog ov 2).call 30 [.agg ⟨seaC s dv cv⟩, .agg ⟨[wv, rv]⟩] w .none = .ok (.ret x) w' .none ∧ x = .bool (trB l W R) := by
  refine call_wp text30 (by simp) (ho _ _) ?_
  have hld := len22V hv
  have hlw := len27V hw
  have hlr := len27V hr
  have o1 : Old w.next w.heap ((w.heap.put w.next (some (.cells (seaC s dv cv) 29 false))).put (w.next + 1) (some (.cells [wv, rv] 31 false))) := ((Old.refl _ _).put (Nat.le_refl _)).put (Nat.le_succ _)
  have key : ∀ (b : Bool) t, (b = true → W.length = l.length) → (b = true → R.length = l.length) → (b && trTo l W R l.length) = trB l W R → tget t 2 = .pointer (some ⟨w.next, 0, none⟩) → tget t 3 = .pointer (some ⟨w.next + 1, 0, none⟩) → tget t 5 = .bool b → tget t 6 = .int .i64 0 → ∀ Q : Ex → Tm → AW → Prop, (∀ t w, tget t 5 = .bool (trB l W R) → Q (.exit 0) t w) → wp (exM Tryz.prog (run Tryz.prog ov 1) (.loop mc30_l0) t ⟨(w.heap.put w.next (some (.cells (seaC s dv cv) 29 false))).put (w.next + 1) (some (.cells [wv, rv] 31 false)), w.next + 1 + 1, w.lim⟩) Q := by
    intro b t e1 e2 hb t2 t3 t5 t6 Q hQ
    rw [← hb] at hQ
    exact loop30 h25 s l h40 W R b e1 e2 dv cv wv rv ⟨(w.heap.put w.next (some (.cells (seaC s dv cv) 29 false))).put (w.next + 1) (some (.cells [wv, rv] 31 false)), w.next + 1 + 1, w.lim⟩ (by show w.lim ≤ w.next + 2; omega) (hv.old (w' := ⟨_, _, _⟩) o1 (by show w.next ≤ w.next + 2; omega)) (hw.old (w' := ⟨_, _, _⟩) o1 (by show w.next ≤ w.next + 2; omega)) (hr.old (w' := ⟨_, _, _⟩) o1 (by show w.next ≤ w.next + 2; omega)) w.next (w.next + 1) (by show w.next < w.next + 2; omega) (Nat.lt_succ_self _) (by simp) (by simp) 0 Q t t2 t3 t5 t6 hQ
  by_cases e1 : W.length = l.length
  · have e1' : (W.length : Int) = l.length := by omega
    by_cases e2 : R.length = l.length
    · have e2' : (R.length : Int) = l.length := by omega
      simp [mc30, seaC, hld, hlw, hlr, e1, e1', e2, e2']
      refine wp_seqX (wp_blockX (key true _ (fun _ => e1) (fun _ => e2) (by simp [trB, e1, e2]) ?_ ?_ ?_ ?_ _ ?_))
      case _ => simp
      case _ => simp
      case _ => simp
      case _ => simp
      case _ => intro t w t5; simp [t5, tupV]
    · have e2' : ¬ (R.length : Int) = l.length := by omega
      simp [mc30, seaC, hld, hlw, hlr, e1, e1', e2, e2']
      refine wp_seqX (wp_blockX (key false _ (fun h => by cases h) (fun h => by cases h) (by simp [trB, e1, e2]) ?_ ?_ ?_ ?_ _ ?_))
      case _ => simp
      case _ => simp
      case _ => simp
      case _ => simp
      case _ => intro t w t5; simp [t5, tupV]
  · have e1' : ¬ (W.length : Int) = l.length := by omega
    simp [mc30, seaC, hld, hlw, hlr, e1, e1']
    refine wp_seqX (wp_blockX (key false _ (fun h => by cases h) (fun h => by cases h) (by simp [trB, e1]) ?_ ?_ ?_ ?_ _ ?_))
    case _ => simp
    case _ => simp
    case _ => simp
    case _ => simp
    case _ => intro t w t5; simp [t5, tupV]
end Go.Proofs.YtnkhenmabmkajaaGreatDoor.walk

namespace Go.Proofs.YtnkhenmabmkajaaGreatDoor.walk
open Go Go.Sh
set_option maxRecDepth 100000
set_option linter.unusedSimpArgs false
def heatB (s : Sea) (warm shade : Int) : Bool := inI 0 warm 50 && (inI 0 s.base 50 && inI 0 shade 100)
theorem heatB_ok {s : Sea} {warm shade : Int} (h : heatB s warm shade = true) : HeatOk s warm shade := by
  simp only [heatB, inI, Bool.and_eq_true, decide_eq_true_eq] at h
  exact ⟨h.1.1, h.1.2, h.2.1.1, h.2.1.2, h.2.2.1, h.2.2.2⟩
noncomputable def F54 : PureF := fun args _ => match args with | [.agg ⟨[_, .int .i64 a, .int .i64 b, .int .i64 c, .int .i64 d, .int .i64 e, .int .i64 f, .int .i64 g, _]⟩, .int .i64 warm, .int .i64 rain, .int .i64 shade] => bif heatB ⟨a, b, c, d, e, f, g⟩ warm shade then some (.int .i64 (heatI ⟨a, b, c, d, e, f, g⟩ warm rain shade)) else none | _ => none
theorem rule54 {ov : Ov} (k : HasP ov 54 F54) (s : Sea) (dv cv : Value) {warm shade : Int} (rain : Int) (h : heatB s warm shade = true) (m : Nat) (w : AW) : (run Tryz.prog ov (m + 1)).call 54 [.agg ⟨seaC s dv cv⟩, .int .i64 warm, .int .i64 rain, .int .i64 shade] w .none = .ok (.ret (.int .i64 (heatI s warm rain shade))) w .none := k.call (by
  show (bif heatB s warm shade then _ else _) = _
  rw [h]; rfl)
noncomputable def F53 : PureF := fun args w => match args with | [.agg ⟨[_, .int .i64 a, .int .i64 b, .int .i64 c, .int .i64 d, .int .i64 e, .int .i64 f, .int .i64 g, _, sv]⟩, .int .i64 day, .int .i64 warm, .int .i64 rain] => (rowsIn intC w sv).bind fun L => bif decide (0 ≤ day) then (L[day.toNat]?).bind fun shade => bif heatB ⟨a, b, c, d, e, f, g⟩ warm shade then some (.int .i64 (heatI ⟨a, b, c, d, e, f, g⟩ warm rain shade)) else none else none | _ => none
theorem rule53 {ov : Ov} (k : HasP ov 53 F53) (s : Sea) (dv cv : Value) {sv : Value} {L : List Int} {i : Nat} {warm shade : Int} (rain : Int) {w : AW} (hL : RowsV intC w sv L) (hz : L[i]? = some shade) (h : heatB s warm shade = true) (m : Nat) : (run Tryz.prog ov (m + 1)).call 53 [.agg ⟨yearC s dv cv sv⟩, .int .i64 (i : Nat), .int .i64 warm, .int .i64 rain] w .none = .ok (.ret (.int .i64 (heatI s warm rain shade))) w .none := k.call (by
  unfold F53 yearC
  have e : decide (0 ≤ (i : Int)) = true := by simp
  simp only [hL.rowsIn (m := 1) intC_length intC_inj, Option.bind_some, e, cond_true, Int.toNat_natCast, hz]
  show (bif heatB s warm shade then _ else _) = _
  rw [h]; rfl)
/-- the heats of all days -/
def htL (s : Sea) (S W R : List Int) : Nat → List Int
  | 0 => []
  | d + 1 => htL s S W R d ++ [match S[d]?, W[d]?, R[d]? with | some z, some a, some b => heatI s a b z | _, _, _ => 0]
theorem htL_length (s : Sea) (S W R : List Int) : ∀ n, (htL s S W R n).length = n
  | 0 => rfl
  | n + 1 => by simp [htL, htL_length s S W R n]
structure In29 (w0 : AW) (s : Sea) (dv cv sv wv rv : Value) (n : Nat) (L : List Int) (w : AW) : Prop where
  old : Old w0.next w0.heap w.heap
  box : w.heap.get w0.next = some (.cells (yearC s dv cv sv) 54 false)
  wea : w.heap.get (w0.next + 1) = some (.cells [wv, rv] 31 false)
  row : w.heap.get (w0.next + 2) = some (.cells (L.flatMap intC) 3 false)
  next : w0.next + 2 < w.next
  lim : w.lim = w0.lim
  len : L.length = n
theorem loop29 {ov : Ov} (m : Nat) (h53 : HasP ov 53 F53) (s : Sea) (n : Nat) (h40 : n ≤ 40) (S W R : List Int) (hS : S.length = n) (hW : W.length = n) (hR : R.length = n) (hok : ∀ (i : Nat) (a z : Int), W[i]? = some a → S[i]? = some z → heatB s a z = true) (dv cv sv wv rv : Value) (w0 : AW) (hl0 : w0.lim ≤ w0.next) (hs : RowsV intC w0 sv S) (hw' : RowsV intC w0 wv W) (hr' : RowsV intC w0 rv R) (L0 : List Int)
    (Q : Ex → Tm → AW → Prop) (t : Tm) (w : AW) (hw : In29 w0 s dv cv sv wv rv n L0 w)
    (t2 : tget t 2 = .pointer (some ⟨w0.next, 0, none⟩)) (t3 : tget t 3 = .pointer (some ⟨w0.next + 1, 0, none⟩)) (t5 : tget t 5 = .slice (some ⟨w0.next + 2, 0, none⟩) n n) (t15 : tget t 15 = .int .i64 (n : Nat)) (t16 : tget t 16 = .int .i64 0)
    (hQ : ∀ t w L, In29 w0 s dv cv sv wv rv n L w → (∀ d, d < n → L[d]? = (htL s S W R n)[d]?) → tget t 5 = .slice (some ⟨w0.next + 2, 0, none⟩) n n → Q (.exit 0) t w) :
    wp (exM Tryz.prog (run Tryz.prog ov (m + 1)) (.loop mc29_l0) t w) Q := by
  have at_ : ∀ (k d : Nat) (a b z : Int), d < k → W[d]? = some a → R[d]? = some b → S[d]? = some z → (htL s S W R k)[d]? = some (heatI s a b z) := by
    intro k
    induction k with
    | zero => intro d a b z h; omega
    | succ k ih =>
      intro d a b z h h1 h2 h3
      show (htL s S W R k ++ [_])[d]? = _
      by_cases e : d < k
      · rw [List.getElem?_append_left (by rw [htL_length]; exact e), ih d a b z e h1 h2 h3]
      · have e' : d = k := by omega
        rw [List.getElem?_append_right (by rw [htL_length]; omega), htL_length, e', Nat.sub_self]
        subst e'
        simp [h1, h2, h3]
  refine wp_rounds (fun i t w => (∃ L, In29 w0 s dv cv sv wv rv n L w ∧ ∀ d, d < i → L[d]? = (htL s S W R n)[d]?) ∧ tget t 2 = .pointer (some ⟨w0.next, 0, none⟩) ∧ tget t 3 = .pointer (some ⟨w0.next + 1, 0, none⟩) ∧ tget t 5 = .slice (some ⟨w0.next + 2, 0, none⟩) n n ∧ tget t 15 = .int .i64 (n : Nat) ∧ tget t 16 = .int .i64 (i : Nat) ∧ i ≤ n) 200 (by decide)
    ⟨⟨_, hw, fun d hd => by omega⟩, t2, t3, t5, t15, by simpa using t16, Nat.zero_le _⟩ ?_
  clear t2 t3 t5 t15 t16 hw
  rintro i t w ⟨⟨L, hw, hL⟩, t2, t3, t5, t15, t16, hi⟩
  by_cases hlt : i < n
  · obtain ⟨a, ha⟩ : ∃ d, W[i]? = some d := ⟨_, List.getElem?_eq_getElem (by omega)⟩
    obtain ⟨b, hb⟩ : ∃ d, R[i]? = some d := ⟨_, List.getElem?_eq_getElem (by omega)⟩
    obtain ⟨z, hz⟩ : ∃ d, S[i]? = some d := ⟨_, List.getElem?_eq_getElem (by omega)⟩
    have hnx := hw.next
    have hlm := hw.lim
    have r53 := rule53 h53 s dv cv b (hs.old hw.old (by omega)) hz (hok i a z ha hz) m
    obtain ⟨b1, o1, q1, c1, rfl, hr1⟩ := hw'.at_ i (by omega)
    obtain ⟨b2, o2, q2, c2, rfl, hr2⟩ := hr'.at_ i (by omega)
    have hla := hr1.int ha
    have hlb := hr2.int hb
    rw [← hw.old _ hr1.2] at hla
    rw [← hw.old _ hr2.2] at hlb
    have hi1 := fun w => ia27 w ⟨b1, o1, q1⟩ W.length c1 .i64 i (by omega)
    have hi2 := fun w => ia27 w ⟨b2, o2, q2⟩ R.length c2 .i64 i (by omega)
    have hi3 := fun w => ia27 w ⟨w0.next + 2, 0, none⟩ n n .i64 i hlt
    have hw1 : IntKind.wrap .i64 ((i : Int) + 1) = (i : Int) + 1 := wrap64_in (by omega) (by omega)
    have hbox := hw.box
    have hwea := hw.wea
    have hrow := hw.row
    have l2 : w.lim ≤ w0.next + 2 := by omega
    obtain ⟨x, hx⟩ : ∃ x, x = heatI s a b z := ⟨_, rfl⟩
    rw [← hx] at r53
    have hset := flat_set intC_length L i x (by have := hw.len; omega)
    have hfl : (L.flatMap intC).length = n := by rw [flat_length intC_length, hw.len]; omega
    obtain ⟨cs, hcs⟩ : ∃ cs, cs = L.flatMap intC := ⟨_, rfl⟩
    rw [← hcs] at hset hfl hrow
    simp only [Nat.mul_one, intC, List.cons_append, List.nil_append] at hset
    have hfit : i + 1 ≤ n := hlt
    simp only [Nat.zero_add, yearC] at r53
    unfold yearC at hbox
    simp [mc29_l0, t2, t3, t5, t15, t16, hlt, hbox, hwea, hi1, hi2, hi3, hla, hlb, r53, hrow, hfl, hfit, hset, l2, hw1]
    refine ⟨by omega, L.set i x, ⟨hw.old.put (by omega), ?_, ?_, ?_, by show w0.next + 2 < w.next; omega, hlm, by rw [List.length_set]; exact hw.len⟩, fun d hd => ?_⟩
    · simp [hw.box]
    · simp [hw.wea]
    · simp
    · by_cases e : d = i
      · subst e
        rw [List.getElem?_set_self (by have := hw.len; omega), at_ n d a b z hlt ha hb hz, hx]
      · rw [List.getElem?_set_ne (Ne.symm e), hL d (by omega)]
  · have hi' : i = n := by omega
    subst hi'
    simp [mc29_l0, t15, t16]
    exact hQ _ _ L hw hL (by simp [t5])
set_option maxHeartbeats 1000000 in
theorem call29 {ov : Ov} (m : Nat) (ho : ∀ args w, ov 29 args w = none) (h53 : HasP ov 53 F53) (s : Sea) (l : List Day) (h40 : l.length ≤ 40) (S W R : List Int) (hS : S.length = l.length) (hW : W.length = l.length) (hR : R.length = l.length) (hok : ∀ (i : Nat) (a z : Int), W[i]? = some a → S[i]? = some z → heatB s a z = true) (dv cv sv wv rv : Value) (w : AW) (hl : w.lim ≤ w.next) (hv : RowsV dayC w dv l) (hs : RowsV intC w sv S) (hw : RowsV intC w wv W) (hr : RowsV intC w rv R) :
    ∃ x w', (run Tryz.prog ov (m + 2)).call 29 [.agg ⟨yearC s dv cv sv⟩, .agg ⟨[wv, rv]⟩] w .none = .ok (.ret x) w' .none ∧ RowsV intC w' x (htL s S W R l.length) ∧ Old w.next w.heap w'.heap ∧ w.next ≤ w'.next ∧ w'.lim = w.lim := by
  refine call_wp text29 (by simp) (ho _ _) ?_
  have hld := len22V hv
  have hmk := fun w => mk27 l.length (by omega) w
  simp [mc29, yearC, hld, hmk]
  refine wp_seqX (wp_blockX (loop29 m h53 s l.length h40 S W R hS hW hR hok dv cv sv wv rv w hl hs hw hr (List.replicate l.length 0) _ _ _ ⟨?_, ?_, ?_, ?_, ?_, ?_, ?_⟩ ?_ ?_ ?_ ?_ ?_ ?_))
  case _ =>
    intro b hb
    simp [show ¬ b = w.next by omega, show ¬ b = w.next + 1 by omega, show ¬ b = w.next + 2 by omega]
  case _ => simp [yearC]
  case _ => simp
  case _ => simp
  case _ => simp
  case _ => rfl
  case _ => simp
  case _ => simp
  case _ => simp
  case _ => simp
  case _ => simp
  case _ => simp
  case _ =>
    intro t w' L hI hL t5
    have e : L = htL s S W R l.length := by
      apply List.ext_getElem?
      intro d
      by_cases hd : d < l.length
      · exact hL d hd
      · rw [List.getElem?_eq_none (by rw [hI.len]; omega), List.getElem?_eq_none (by rw [htL_length]; omega)]
    have hnx := hI.next
    have hrow := hI.row
    rw [e] at hrow
    simp [t5, tupV]
    exact ⟨.inr ⟨w.next + 2, 0, none, l.length, by rw [htL_length], ⟨[], [], 3, false, by rw [hrow]; simp, rfl⟩, hnx⟩, hI.old, by omega, hI.lim⟩
end Go.Proofs.YtnkhenmabmkajaaGreatDoor.walk
