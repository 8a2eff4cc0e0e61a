/- Part of a proof by a machine of ones own: see the text with the theorem. -/
import Derived.Test.YtipglpmelgmelaaDoorSWb
namespace Go.Proofs.YtipglpmelgmelaaDoor.walk
open Go Go.Sh
open known (partsC laidL noOv)
set_option maxRecDepth 100000
set_option linter.unusedSimpArgs false
theorem filter_snoc {α : Type} {p : α → Bool} {l : List α} {i : Nat} {a : α} (h : l[i]? = some a) : (l.take (i + 1)).filter p = (l.take i).filter p ++ (if p a then [a] else []) := by
  rw [take_snoc h, List.filter_append]
  cases hp : p a <;> simp [hp]
theorem accI_ge {n1 : Nat} {w : AW} {v : Value} {acc : List Int} {B : Nat} (h : AccI n1 w v acc B) : B = 0 ∨ n1 < B := by
  rcases h with ⟨_, _, h⟩ | ⟨_, _, h, _⟩
  · exact .inl h
  · exact .inr h
set_option maxHeartbeats 2000000 in
theorem loop24c {ov : Ov} (m : Nat) (h63 : HasP ov 63 F63) (l : List Pod) (lo hi : Int) (v lv rv : Value) (X : List Off) (hX : ∀ o ∈ X, ofL l lo hi o) (hlen : X.length ≤ 100) (w0 : AW) (hlim : w0.lim ≤ w0.next) (hv : PodsV w0 v l) (Bl Br : Nat) (R : List Int) (d : Int)
    (Q : Ex → Tm → AW → Prop) (t : Tm) (w : AW) (hw : In24 w0 lo hi w) (al : AccI w0.next w lv (X.map Off.i) Bl) (ar : AccI w0.next w rv R Br)
    (t0 : tget t 0 = v) (t3 : tget t 3 = .pointer (some ⟨w0.next, 0, none⟩)) (t7 : tget t 7 = lv) (t8 : tget t 8 = rv) (t9 : tget t 9 = .int .i64 d) (t11 : tget t 11 = .slice none 0 0) (t12 : tget t 12 = .int .i64 0)
    (hQ : ∀ t w mv Bm, In24 w0 lo hi w → AccI w0.next w rv R Br → AccI w0.next w mv ((X.filter fun o => decide (d < oL o)).map Off.i) Bm → (Bm = Br → Bm = 0) → tget t 0 = v → tget t 3 = .pointer (some ⟨w0.next, 0, none⟩) → tget t 8 = rv → tget t 11 = mv → Q (.exit 4) t w) :
    wp (exM Tryd.prog (run Tryd.prog ov (m + 1)) (.loop mc24_l2) t w) Q := by
  have hml : (X.map Off.i).length = X.length := List.length_map ..
  refine wp_rounds (fun i t w => ∃ mv Bm, In24 w0 lo hi w ∧ AccI w0.next w lv (X.map Off.i) Bl ∧ AccI w0.next w rv R Br ∧ AccI w0.next w mv (((X.take i).filter fun o => decide (d < oL o)).map Off.i) Bm ∧ (Bm = Br → Bm = 0) ∧ (Bm = Bl → Bm = 0) ∧ tget t 0 = v ∧ tget t 3 = .pointer (some ⟨w0.next, 0, none⟩) ∧ tget t 7 = lv ∧ tget t 8 = rv ∧ tget t 9 = .int .i64 d ∧ tget t 11 = mv ∧ tget t 12 = .int .i64 (i : Nat) ∧ i ≤ X.length) 200 (by decide) ⟨_, 0, hw, al, ar, .inl ⟨rfl, rfl, rfl⟩, fun _ => rfl, fun _ => rfl, t0, t3, t7, t8, t9, t11, t12, Nat.zero_le _⟩ ?_
  clear t0 t3 t7 t8 t9 t11 t12 hw al ar
  rintro i t w ⟨mv, Bm, hw, al, ar, am, nr, nl, t0, t3, t7, t8, t9, t11, t12, hi'⟩
  have hr := accI_rows al
  have hlr := len33V hr
  simp only [hml] at hlr
  have hbox := hw.box
  by_cases hlt : i < X.length
  · obtain ⟨o, ho⟩ : ∃ o, X[i]? = some o := ⟨_, List.getElem?_eq_getElem hlt⟩
    obtain ⟨j, j1, j2, j3, j4⟩ := hX o (List.mem_of_getElem? ho)
    have hjl : j < l.length := (List.getElem?_eq_some_iff.1 j1).1
    obtain ⟨b, sq, c, rfl, hpa⟩ := hv.at_ j hjl
    obtain ⟨b', off', sq', c', rfl, hra⟩ := hr.at_ i (by rw [hml]; exact hlt)
    have hld := load_pod' hpa j1
    rw [← hw.old _ hpa.lt] at hld
    have hls := hra.int (z := (j : Int)) (i := i) (by rw [List.getElem?_map, ho, ← j2]; rfl)
    have hia := fun w => ia22 w ⟨b, 0, sq⟩ l.length c .i64 j hjl
    have hib := fun w => ia33 w ⟨b', off', sq'⟩ (X.map Off.i).length c' .i64 i (by rw [hml]; exact hlt)
    rw [hml] at hib t7
    simp only [hml] at hlr
    have hw1 : IntKind.wrap .i64 ((i : Int) + 1) = (i : Int) + 1 := wrap64_in (by omega) (by omega)
    have r63 := fun w => rule63 h63 o.p lo hi (j : Int) m w
    rw [← ofL_eq j2 j3 j4] at r63
    have hnx := hw.next
    have hlm := hw.lim
    have hs := filter_snoc (p := fun o => decide (d < oL o)) ho
    by_cases hc : d < oL o
    · have hs' : ((X.take (i + 1)).filter fun o => decide (d < oL o)).map Off.i = ((X.take i).filter fun o => decide (d < oL o)).map Off.i ++ [(j : Int)] := by
        rw [hs, if_pos (by simpa using hc), List.map_append, ← j2]; rfl
      obtain ⟨v1, w3, B', ha, hac, hkp, hB, hn3, hl3⟩ := int_push am (by omega) hnx (by
        rw [List.length_map]
        have := List.length_filter_le (fun o => decide (d < oL o)) (X.take i)
        rw [List.length_take] at this
        omega) (j : Int)
      have hbl := accI_ge al
      have hbr := accI_ge ar
      have hbm := accI_ge am
      have bll := al.lt (by omega : 0 < w.next)
      have brl := ar.lt (by omega : 0 < w.next)
      simp [mc24_l2, t0, t3, t7, t9, t11, t12, hlt, hlr, hia, hib, hld, hls, hbox, r63, hw1, hc, ha]
      have al' := al.keep (B0 := Bm) (fun x h1 h2 _ => hkp x h1 h2) hn3 (fun h => by have := nl h.symm; omega)
      rw [hml] at al'
      refine ⟨by omega, ⟨fun x hx => ?_, ?_, by omega, by omega⟩, al', ?_, v1, B', ?_, fun h => by omega, fun h => by omega, t8, rfl, hlt⟩
      · rw [hkp x (by omega) (fun h => by omega)]; exact hw.old x hx
      · rw [hkp _ hnx (fun h => by omega)]; exact hbox
      · exact ar.keep (B0 := Bm) (fun x h1 h2 _ => hkp x h1 h2) hn3 (fun h => by have := nr h.symm; omega)
      · rw [hs']; exact hac
    · have hs' : ((X.take (i + 1)).filter fun o => decide (d < oL o)).map Off.i = ((X.take i).filter fun o => decide (d < oL o)).map Off.i := by
        rw [hs, if_neg (by simpa using hc), List.append_nil]
      simp [mc24_l2, t0, t3, t7, t9, t11, t12, hlt, hlr, hia, hib, hld, hls, hbox, r63, hw1, hc]
      rw [hml] at al
      exact ⟨by omega, hw, al, ar, mv, Bm, by rw [hs']; exact am, nr, nl, t8, rfl, hlt⟩
  · have hi'' : i = X.length := by omega
    subst hi''
    simp [mc24_l2, t7, t12, hlr]
    rw [List.take_length] at am
    exact hQ _ _ _ _ hw ar am nr (by simp [t0]) (by simp [t3]) (by simp [t8]) (by simp [t11])
end Go.Proofs.YtipglpmelgmelaaDoor.walk

namespace Go.Proofs.YtipglpmelgmelaaDoor.walk
open Go Go.Sh
open known (partsC laidL noOv)
set_option maxRecDepth 100000
set_option linter.unusedSimpArgs false
theorem filter_less {X : List Off} (h : ∀ o ∈ X, offIn o) (hne : X ≠ []) : (X.filter fun o => decide (minH X < oL o)).length < X.length := by
  rw [List.length_filter_lt_length_iff_exists]
  obtain ⟨a1, a2, a3⟩ := minF X 2000
  obtain ⟨o, ho⟩ := List.exists_mem_of_ne_nil X hne
  rcases a3 with e | ⟨x, hx, e⟩
  · obtain ⟨i1, i2, i3⟩ := h o ho
    have := a2 o ho
    exact ⟨o, ho, by unfold minH; simp; omega⟩
  · obtain ⟨i1, i2, i3⟩ := h x hx
    exact ⟨x, hx, by unfold minH; simp; omega⟩
theorem grd_nil (k : Nat) : grd k [] = [] := by cases k <;> simp [grd]
set_option maxHeartbeats 2000000 in
theorem loop24a {ov : Ov} (m : Nat) (h63 : HasP ov 63 F63) (l : List Pod) (lo hi : Int) (v lv : Value) (os : List Off) (hX : ∀ o ∈ os, ofL l lo hi o) (hin : ∀ o ∈ os, offIn o) (n : Nat) (hn : os.length ≤ n) (hn100 : n ≤ 100) (w0 : AW) (hlim : w0.lim ≤ w0.next) (hv : PodsV w0 v l) (Bl : Nat)
    (Q : Ex → Tm → AW → Prop) (t : Tm) (w : AW) (hw : In24 w0 lo hi w) (al : AccI w0.next w lv (os.map Off.i) Bl)
    (t0 : tget t 0 = v) (t3 : tget t 3 = .pointer (some ⟨w0.next, 0, none⟩)) (t7 : tget t 7 = lv) (t8 : tget t 8 = .slice none 0 0)
    (hQ : ∀ t w rv Br, In24 w0 lo hi w → AccI w0.next w rv (grd n os) Br → tget t 8 = rv → Q (.exit 0) t w) :
    wp (exM Tryd.prog (run Tryd.prog ov (m + 1)) (.loop mc24_l0) t w) Q := by
  refine wp_rounds (fun r t w => ∃ X R lv rv Bl Br, In24 w0 lo hi w ∧ AccI w0.next w lv (X.map Off.i) Bl ∧ AccI w0.next w rv R Br ∧ (Bl = Br → Bl = 0) ∧ (∀ o ∈ X, ofL l lo hi o) ∧ (∀ o ∈ X, offIn o) ∧ X.length + r ≤ n ∧ R ++ grd (n - r) X = grd n os ∧ R.length ≤ r ∧ tget t 0 = v ∧ tget t 3 = .pointer (some ⟨w0.next, 0, none⟩) ∧ tget t 7 = lv ∧ tget t 8 = rv) 200 (by decide) ⟨os, [], lv, _, Bl, 0, hw, al, .inl ⟨rfl, rfl, rfl⟩, fun h => h, hX, hin, by omega, by simp, by simp, t0, t3, t7, t8⟩ ?_
  clear t0 t3 t7 t8 hw al
  rintro r t w ⟨X, R, lv, rv, Bl, Br, hw, al, ar, nlr, hX, hin, hlen, hg, hRl, t0, t3, t7, t8⟩
  have hlr := len33V (accI_rows al)
  have hml : (X.map Off.i).length = X.length := List.length_map ..
  simp only [hml] at hlr
  by_cases hne : X = []
  · subst hne
    simp [mc24_l0, t7, hlr]
    rw [grd_nil, List.append_nil] at hg
    rw [hg] at ar
    exact hQ _ _ _ _ hw ar (by simp [t8])
  · have hpos : 0 < X.length := List.length_pos_iff.2 hne
    have hpos' : (0 : Int) < (X.length : Int) := by omega
    simp [mc24_l0, t7, hlr, hpos]
    refine wp_blockX (wp_seqX (wp_blockX (loop24b m h63 l lo hi v lv X hX (by omega) w0 w hw hv (accI_rows al) rv _ _ ?_ ?_ ?_ ?_ ?_ ?_ ?_)))
    case _ => simp [t0]
    case _ => simp [t3]
    case _ => simp [t7]
    case _ => simp [t8]
    case _ => simp
    case _ => simp
    case _ =>
      intro t s0 s3 s7 s8 s9
      have hnx := hw.next
      have hlm := hw.lim
      obtain ⟨v1, w3, B', ha, hac, hkp, hB, hn3, hl3⟩ := int_push ar (by omega) hnx (by omega) (minH X)
      have hbl := accI_ge al
      have hbr := accI_ge ar
      have bll := al.lt (by omega : 0 < w.next)
      have al3 : AccI w0.next w3 lv (X.map Off.i) Bl := al.keep (B0 := Br) (fun x h1 h2 _ => hkp x h1 h2) hn3 nlr
      have hw3 : In24 w0 lo hi w3 := ⟨fun x hx => by rw [hkp x (by omega) (fun h => by omega)]; exact hw.old x hx, by rw [hkp _ hnx (fun h => by omega)]; exact hw.box, by omega, by omega⟩
      simp [s0, s3, s7, s8, s9, ha]
      refine wp_seqX (wp_blockX (loop24c m h63 l lo hi v lv v1 X hX (by omega) w0 hlim hv Bl B' (R ++ [minH X]) (minH X) _ _ _ hw3 al3 hac ?_ ?_ ?_ ?_ ?_ ?_ ?_ ?_))
      case _ => simp [s0]
      case _ => simp [s3]
      case _ => simp [s7]
      case _ => simp
      case _ => simp [s9]
      case _ => simp
      case _ => simp
      case _ =>
        intro t w4 mv Bm hw4 ar4 am4 nm u0 u3 u8 u11
        simp [u0, u3, u8, u11]
        have hless := filter_less hin hne
        obtain ⟨k, hk⟩ : ∃ k, n - r = k + 1 := ⟨n - r - 1, by omega⟩
        refine ⟨by omega, hw4, ?_⟩
        have hgg : grd (n - r) X = minH X :: grd (n - (r + 1)) (X.filter fun o => decide (minH X < oL o)) := by
          rw [hk, show n - (r + 1) = k by omega]
          show (if X = [] then [] else _) = _
          rw [if_neg hne]
        refine ⟨X.filter fun o => decide (minH X < oL o), R ++ [minH X], mv, v1, Bm, am4, B', ar4, nm, fun o ho => hX o (List.mem_filter.1 ho).1, fun o ho => hin o (List.mem_filter.1 ho).1, by omega, ?_, by simp; omega, rfl, rfl⟩
        rw [List.append_assoc, ← hg, hgg]; rfl
theorem mk_span {l : List Pod} {a b : Int} (h : mkErr l a b = 0) : podsB l = true ∧ 0 ≤ a ∧ a ≤ b ∧ b ≤ 2000 := by
  unfold mkErr at h
  cases hB : podsB l with
  | false => rw [hB] at h; simp at h
  | true =>
    cases hS : spanI a b 0 2000 with
    | false => rw [hB, hS] at h; simp at h
    | true =>
      simp only [spanI, Bool.and_eq_true, decide_eq_true_eq] at hS
      exact ⟨rfl, by omega, by omega, by omega⟩
def offsA (l : List Pod) (a b : Int) : List Off := offsTo l a b l.length
theorem offs_in {l : List Pod} {a b : Int} (h : mkErr l a b = 0) : ∀ o ∈ offsA l a b, offIn o ∧ ofL l a b o ∧ offFit o := by
  obtain ⟨hB, h1, h2, h3⟩ := mk_span h
  intro o ho
  obtain ⟨j, j1, j2, j3, j4, j5, j6⟩ := offs_mem ho
  have c1 : a ≤ oL o := by unfold oL; rw [j4]; omega
  have c2 : oH o ≤ b := by unfold oH; rw [j5]; omega
  obtain ⟨e1, e2⟩ := win_eq (pods_all hB j2)
  have k := pod_ok (pods_all hB j2)
  have := k.h1; have := k.h2; have := k.r1
  have c3 : winL o.p ≤ oL o := by unfold oL; omega
  have c4 : oH o ≤ winH o.p := by unfold oH; omega
  exact ⟨⟨by omega, j6, by omega⟩, ⟨j, j2, j3, j4, j5⟩, by omega, by omega, by omega⟩
def refL (l : List Pod) (a b : Int) : List Int := if mkErr l a b = 0 then grd l.length (offsA l a b) else []
theorem accR_accI {n1 N : Nat} {w : AW} {v : Value} {acc : List Int} (h : AccR intC 3 n1 w v acc) (hn : N ≤ n1) : ∃ B, AccI N w v acc B := by
  rcases h with ⟨rfl, rfl⟩ | ⟨B, h1, h2, h3, h4, _⟩
  · exact ⟨0, .inl ⟨rfl, rfl, rfl⟩⟩
  · exact ⟨B, .inr ⟨h1, h2, by omega, h4⟩⟩
set_option maxHeartbeats 1000000 in
theorem call24 {ov : Ov} (m : Nat) (ho : ∀ args w, ov 24 args w = none) (ho62 : ∀ args w, ov 62 args w = none) (h27 : HasP ov 27 F59) (h63 : HasP ov 63 F63) (l : List Pod) (a b : Int) (v : Value) (w : AW) (hl : w.lim ≤ w.next) (hv : PodsV w v l) :
    ∃ x w', (run Tryd.prog ov (m + 3)).call 24 [v, .agg ⟨[.int .i64 a, .int .i64 b]⟩] w .none = .ok (.ret x) w' .none ∧ ∃ y, x = .tuple ⟨[y, .int .i64 (mkErr l a b)]⟩ ∧ RowsV intC w' y (refL l a b) ∧ Old w.next w.heap w'.heap ∧ w.next ≤ w'.next ∧ w'.lim = w.lim := by
  refine call_wp text24 (by simp) (ho _ _) ?_
  obtain ⟨H1, hH1⟩ : ∃ H1, H1 = w.heap.put w.next (some (.cells [.int .i64 a, .int .i64 b] 26 false)) := ⟨_, rfl⟩
  have o1 : Old w.next w.heap H1 := by rw [hH1]; exact (Old.refl _ _).put (Nat.le_refl _)
  have hv1 : PodsV ⟨H1, w.next + 1, w.lim⟩ v l := hv.old o1 (Nat.le_succ _)
  have r27 := rule59 (f := 27) h27 a b (m + 1) hv1.podsIn
  rw [hH1] at r27
  by_cases hE : mkErr l a b = 0
  · obtain ⟨hB, e1, e2, e3⟩ := mk_span hE
    have h12 := podsB_len hB
    obtain ⟨u, w1, hc, hacc, ho1, hn1, hl1⟩ := call62 m ho62 h63 l a b v _ hv1 (by omega) (by show w.lim ≤ w.next + 1; omega)
    have hn1' : w.next + 1 < w1.next := hn1
    have hl1' : w1.lim = w.lim := hl1
    have nj := hacc.ok
    obtain ⟨Bl, hal⟩ := accR_accI (N := w.next) hacc (by show w.next ≤ w.next + 1; omega)
    have hin := offs_in hE
    have hI : In24 w a b w1 := ⟨fun x hx => by rw [ho1 x (by show x < w.next + 1; omega)]; exact o1 x hx, by rw [ho1 _ (by show w.next < w.next + 1; omega)]; show H1.get _ = _; rw [hH1, get_put, if_pos rfl], by omega, hl1'⟩
    rw [hH1] at hc
    rw [hE] at r27
    simp [mc24, r27, hE, hc, nj]
    refine wp_seqX (wp_blockX (loop24a (m + 1) h63 l a b v u (offsA l a b) (fun o ho => (hin o ho).2.1) (fun o ho => (hin o ho).1) l.length (offs_len _) (by omega) w hl hv Bl _ _ _ hI hal ?_ ?_ ?_ ?_ ?_))
    case _ => simp
    case _ => simp
    case _ => simp
    case _ => simp
    case _ =>
      intro t w' rv Br hI' ar t8
      have nj2 := accI_ok ar
      simp [t8, tupV, nj2]
      have e : refL l a b = grd l.length (offsA l a b) := by unfold refL; rw [if_pos hE]
      rw [e]
      exact ⟨accI_rows ar, hI'.old, by have := hI'.next; omega, hI'.lim⟩
  · have e : refL l a b = [] := by unfold refL; rw [if_neg hE]
    simp [mc24, r27, hE, tupV]
    rw [e]
    exact .inl ⟨rfl, _, _, rfl⟩
end Go.Proofs.YtipglpmelgmelaaDoor.walk

namespace Go.Proofs.YtipglpmelgmelaaDoor.walk
open Go Go.Sh
open known (partsC laidL noOv)
set_option maxRecDepth 100000
set_option linter.unusedSimpArgs false
/-! Rounds and Apart of the program -/
theorem offs_pair {l : List Pod} {lo hi : Int} : ∀ k : Nat, (offsTo l lo hi k).Pairwise (fun a b => a.i < b.i)
  | 0 => List.Pairwise.nil
  | k + 1 => by
    show (offsTo l lo hi k ++ _).Pairwise _
    rw [List.pairwise_append]
    have hlt : ∀ o ∈ offsTo l lo hi k, o.i < (k : Int) := fun o ho => by
      obtain ⟨j, j1, _, j3, _⟩ := offs_mem ho
      omega
    refine ⟨offs_pair k, ?_, fun x hx y hy => ?_⟩
    · split
      · split
        · exact List.Pairwise.nil
        · exact List.pairwise_singleton _ _
      · exact List.Pairwise.nil
    · have := hlt x hx
      split at hy
      · split at hy
        · simp at hy
        · simp at hy; subst hy; exact this
      · simp at hy
/-- pods that are apart, by their places -/
structure ApartOk (l : List Pod) (a b : Int) (C : List Off) (A : List Int) : Prop where
  mem : ∀ o ∈ C, o ∈ offsA l a b
  pair : C.Pairwise (fun x y => oH x < oL y)
  perm : A.Perm (C.map Off.i)
  sort : SortTo id A A.length
  nodup : (C.map Off.i).Nodup
  len : C.length = (refL l a b).length
theorem apart_ok {l : List Pod} {a b : Int} (hE : mkErr l a b = 0) {L : List Off} {A : List Int} (hp : L.Perm (offsA l a b)) (hs : SortTo oH L L.length) (hA : A.Perm (serveS L).2) (hAs : SortTo id A A.length) : (serveS L).1 = refL l a b ∧ ∃ C, ApartOk l a b C A := by
  have hin := offs_in hE
  obtain ⟨h1, h2⟩ := serve_grd hp hs (fun o ho => (hin o ho).1) (k := l.length) (offs_len _)
  have e : refL l a b = grd l.length (offsA l a b) := by unfold refL; rw [if_pos hE]
  have hsub := chosen_sub L (-1)
  have hmem : ∀ o ∈ chosenO (-1) L, o ∈ offsA l a b := fun o ho => (hp.mem_iff).1 (hsub.subset ho)
  refine ⟨by rw [h1, e], chosenO (-1) L, hmem, (chosen_apart L (-1) fun o ho => (hin o ((hp.mem_iff).1 ho)).1.2.1).2, ?_, hAs, ?_, ?_⟩
  · rw [h2] at hA; exact hA
  · have n1 : ((offsA l a b).map Off.i).Nodup := by
      have h := (offs_pair (l := l) (lo := a) (hi := b) l.length).map (S := fun (x y : Int) => x ≠ y) Off.i (fun x y h => by omega)
      exact h
    have n2 : (L.map Off.i).Nodup := (List.Perm.nodup_iff (hp.map Off.i)).2 n1
    exact List.Pairwise.sublist (hsub.map Off.i) n2
  · rw [e, ← h1, h2]; simp
structure Ho60 (ov : Ov) : Prop where
  h60 : ∀ args w, ov 60 args w = none
  h61 : ∀ args w, ov 61 args w = none
  h80 : ∀ args w, ov 80 args w = none
  h91 : ∀ args w, ov 91 args w = none
  h92 : ∀ args w, ov 92 args w = none
  h102 : ∀ args w, ov 102 args w = none
  h115 : ∀ args w, ov 115 args w = none
  h82 : ∀ args w, ov 82 args w = none
  h95 : ∀ args w, ov 95 args w = none
  h84 : ∀ args w, ov 84 args w = none
  h97 : ∀ args w, ov 97 args w = none
  h104 : ∀ args w, ov 104 args w = none
  k93 : HasP ov 93 F93
  k81 : HasP ov 81 F81
  k83 : HasP ov 83 F83
  k85 : HasP ov 85 F85
  k48 : HasP ov 48 F48
  k98 : HasP ov 98 F114
  k110 : HasP ov 110 F110
  k59 : HasP ov 59 F59
theorem call23 {ov : Ov} (q : Nat) (ho : ∀ args w, ov 23 args w = none) (H : Ho60 ov) (l : List Pod) (a b : Int) (v : Value) (w : AW) (hl : w.lim ≤ w.next) (hv : PodsV w v l) :
    ∃ x w', (run Tryd.prog ov (q + 7)).call 23 [v, .agg ⟨[.int .i64 a, .int .i64 b]⟩] w .none = .ok (.ret x) w' .none ∧ ∃ y, x = .tuple ⟨[y, .int .i64 (mkErr l a b)]⟩ ∧ RowsV intC w' y (refL l a b) ∧ Old w.next w.heap w'.heap ∧ w.next ≤ w'.next ∧ w'.lim = w.lim := by
  refine call_wp text23 (by simp) (ho _ _) ?_
  obtain ⟨H1, hH1⟩ : ∃ H1, H1 = w.heap.put w.next (some (.cells [.int .i64 a, .int .i64 b] 26 false)) := ⟨_, rfl⟩
  have o1 : Old w.next w.heap H1 := by rw [hH1]; exact (Old.refl _ _).put (Nat.le_refl _)
  have hv1 : PodsV ⟨H1, w.next + 1, w.lim⟩ v l := hv.old o1 (Nat.le_succ _)
  have r59 := rule59 (f := 59) H.k59 a b (q + 5) hv1.podsIn
  rw [hH1] at r59
  by_cases hE : mkErr l a b = 0
  · obtain ⟨hB, e1, e2, e3⟩ := mk_span hE
    have h12 := podsB_len hB
    have hin := offs_in hE
    obtain ⟨u, w1, hc, hacc, ho1, hn1, hl1⟩ := call61 (q + 4) H.h61 H.k48 H.k85 l a b v _ hv1 (by omega) (by show w.lim ≤ w.next + 1; omega)
    have hn1' : w.next + 1 < w1.next := hn1
    have hl1' : w1.lim = w.lim := hl1
    have nj := hacc.ok
    obtain ⟨x2, w2, c60, rv, av, L, A, rfl, r1, r2, r3, r4, r5, r6, r7, r8, r9⟩ := call60 q H.h60 H.h80 H.h91 H.h92 H.h102 H.h115 H.h82 H.h95 H.h84 H.h97 H.h104 H.k93 H.k81 H.k83 H.k85 H.k98 H.k110 (offsA l a b) (by have := offs_len (l := l) (lo := a) (hi := b) l.length; unfold offsA; omega) (fun o ho => (hin o ho).2.2) _ u w1 (by omega) hacc
    obtain ⟨k1, _⟩ := apart_ok hE r3 r4 r5 r6
    rw [hH1] at hc
    rw [hE] at r59
    have nj1 : notJunk rv = some rv := by obtain ⟨x, y, e⟩ := r1.len; rw [e]; rfl
    have nj2 : notJunk av = some av := by obtain ⟨x, y, e⟩ := r2.len; rw [e]; rfl
    simp only [Nat.add_assoc, Nat.reduceAdd] at hc r59
    simp [mc23, r59, hE, hc, nj, c60, nj1, nj2, tupV]
    rw [k1] at r1
    exact ⟨r1, fun x hx => by rw [r7 x (by omega), ho1 x (by show x < w.next + 1; omega)]; exact o1 x hx, by omega, by omega⟩
  · have e : refL l a b = [] := by unfold refL; rw [if_neg hE]
    simp only [Nat.add_assoc, Nat.reduceAdd] at r59
    simp [mc23, r59, hE, tupV]
    rw [e]
    exact .inl ⟨rfl, _, _, rfl⟩
theorem call26 {ov : Ov} (q : Nat) (ho : ∀ args w, ov 26 args w = none) (H : Ho60 ov) (l : List Pod) (a b : Int) (v : Value) (w : AW) (hl : w.lim ≤ w.next) (hv : PodsV w v l) :
    ∃ x w', (run Tryd.prog ov (q + 7)).call 26 [v, .agg ⟨[.int .i64 a, .int .i64 b]⟩] w .none = .ok (.ret x) w' .none ∧ ∃ y A, x = .tuple ⟨[y, .int .i64 (mkErr l a b)]⟩ ∧ RowsV intC w' y A ∧ (mkErr l a b ≠ 0 → A = []) ∧ (mkErr l a b = 0 → ∃ C, ApartOk l a b C A) ∧ Old w.next w.heap w'.heap ∧ w.next ≤ w'.next ∧ w'.lim = w.lim := by
  refine call_wp text26 (by simp) (ho _ _) ?_
  obtain ⟨H1, hH1⟩ : ∃ H1, H1 = w.heap.put w.next (some (.cells [.int .i64 a, .int .i64 b] 26 false)) := ⟨_, rfl⟩
  have o1 : Old w.next w.heap H1 := by rw [hH1]; exact (Old.refl _ _).put (Nat.le_refl _)
  have hv1 : PodsV ⟨H1, w.next + 1, w.lim⟩ v l := hv.old o1 (Nat.le_succ _)
  have r59 := rule59 (f := 59) H.k59 a b (q + 5) hv1.podsIn
  rw [hH1] at r59
  by_cases hE : mkErr l a b = 0
  · obtain ⟨hB, e1, e2, e3⟩ := mk_span hE
    have h12 := podsB_len hB
    have hin := offs_in hE
    obtain ⟨u, w1, hc, hacc, ho1, hn1, hl1⟩ := call61 (q + 4) H.h61 H.k48 H.k85 l a b v _ hv1 (by omega) (by show w.lim ≤ w.next + 1; omega)
    have hn1' : w.next + 1 < w1.next := hn1
    have hl1' : w1.lim = w.lim := hl1
    have nj := hacc.ok
    obtain ⟨x2, w2, c60, rv, av, L, A, rfl, r1, r2, r3, r4, r5, r6, r7, r8, r9⟩ := call60 q H.h60 H.h80 H.h91 H.h92 H.h102 H.h115 H.h82 H.h95 H.h84 H.h97 H.h104 H.k93 H.k81 H.k83 H.k85 H.k98 H.k110 (offsA l a b) (by have := offs_len (l := l) (lo := a) (hi := b) l.length; unfold offsA; omega) (fun o ho => (hin o ho).2.2) _ u w1 (by omega) hacc
    obtain ⟨_, k2⟩ := apart_ok hE r3 r4 r5 r6
    rw [hH1] at hc
    rw [hE] at r59
    have nj1 : notJunk rv = some rv := by obtain ⟨x, y, e⟩ := r1.len; rw [e]; rfl
    have nj2 : notJunk av = some av := by obtain ⟨x, y, e⟩ := r2.len; rw [e]; rfl
    simp only [Nat.add_assoc, Nat.reduceAdd] at hc r59
    simp [mc26, r59, hE, hc, nj, c60, nj1, nj2, tupV]
    exact ⟨A, r2, k2, fun x hx => by rw [r7 x (by omega), ho1 x (by show x < w.next + 1; omega)]; exact o1 x hx, by omega, by omega⟩
  · simp only [Nat.add_assoc, Nat.reduceAdd] at r59
    simp [mc26, r59, hE, tupV]
    exact .inl ⟨rfl, _, _, rfl⟩
end Go.Proofs.YtipglpmelgmelaaDoor.walk

namespace Go.Proofs.YtipglpmelgmelaaDoor.walk
open Go Go.Sh
open known (partsC laidL noOv)
set_option maxRecDepth 100000
set_option linter.unusedSimpArgs false
/-! the specification's IsApart says yes -/
theorem pair_or {α : Type} {R : α → α → Prop} : ∀ {C : List α}, C.Pairwise R → ∀ x ∈ C, ∀ y ∈ C, x ≠ y → R x y ∨ R y x
  | [], _, x, hx, _, _, _ => by simp at hx
  | c :: C, h, x, hx, y, hy, hne => by
    obtain ⟨h1, h2⟩ := List.pairwise_cons.1 h
    rcases List.mem_cons.1 hx with ex | hx'
    · rcases List.mem_cons.1 hy with ey | hy'
      · exact absurd (ex.trans ey.symm) hne
      · exact .inl (ex ▸ h1 y hy')
    · rcases List.mem_cons.1 hy with ey | hy'
      · exact .inr (ey ▸ h1 x hx')
      · exact pair_or h2 x hx' y hy' hne
theorem apart_at {l : List Pod} {a b : Int} {C : List Off} {A : List Int} (h : ApartOk l a b C A) {i : Nat} {x : Int} (hx : A[i]? = some x) : ∃ o ∈ C, o.i = x ∧ ofL l a b o ∧ x ∈ servL l a b l.length ∧ ∃ j : Nat, x = (j : Int) ∧ j < l.length ∧ l[j]? = some o.p := by
  have h1 : x ∈ C.map Off.i := (h.perm.mem_iff).1 (List.mem_of_getElem? hx)
  obtain ⟨o, ho, rfl⟩ := List.mem_map.1 h1
  have h2 := h.mem o ho
  obtain ⟨j, j1, j2, j3, j4, j5, _⟩ := offs_mem h2
  exact ⟨o, ho, rfl, ⟨j, j2, j3, j4, j5⟩, List.mem_map.2 ⟨o, h2, rfl⟩, j, j3, j1, j2⟩
theorem apart_ne {l : List Pod} {a b : Int} {C : List Off} {A : List Int} (h : ApartOk l a b C A) {i k : Nat} {x y : Int} (hk : k < i) (hx : A[i]? = some x) (hy : A[k]? = some y) : y ≠ x := by
  have hn : A.Nodup := (List.Perm.nodup_iff h.perm).2 h.nodup
  have h1 := (List.getElem?_eq_some_iff.1 hx)
  have h2 := (List.getElem?_eq_some_iff.1 hy)
  obtain ⟨p1, e1⟩ := h1
  obtain ⟨p2, e2⟩ := h2
  have := List.pairwise_iff_getElem.1 hn k i p2 p1 hk
  rw [e1, e2] at this
  exact this
theorem apart_rise {l : List Pod} {a b : Int} {C : List Off} {A : List Int} (h : ApartOk l a b C A) : riseB l.length A = true := by
  have key : ∀ i, i ≤ A.length → riseTo l.length A i = true := by
    intro i
    induction i with
    | zero => intro _; rfl
    | succ i ih =>
      intro hi
      show (riseTo l.length A i && riseOk l.length A i) = true
      rw [ih (by omega), Bool.true_and]
      obtain ⟨x, hx⟩ : ∃ x, A[i]? = some x := ⟨_, List.getElem?_eq_getElem (by omega)⟩
      obtain ⟨o, _, _, _, _, j, rfl, hj, _⟩ := apart_at h hx
      have hb : befI A i < (j : Int) := by
        cases i with
        | zero => show (-1 : Int) < j; omega
        | succ i =>
          obtain ⟨y, hy⟩ : ∃ y, A[i]? = some y := ⟨_, List.getElem?_eq_getElem (by omega)⟩
          show A.getD i 0 < _
          rw [getD_of hy]
          have h1 := h.sort i (i + 1) y _ (by omega) (by omega) hy hx
          have h2 := apart_ne h (Nat.lt_succ_self i) hx hy
          simp only [id] at h1
          omega
      simp only [riseOk, getD_of hx, inI, Bool.and_eq_true, decide_eq_true_eq]
      omega
  exact key _ (Nat.le_refl _)
structure In28 (w1 w : AW) : Prop where
  old : ∀ x, x < w1.next → w.heap.get x = w1.heap.get x
  next : w1.next ≤ w.next
  lim : w.lim = w1.lim
set_option maxHeartbeats 2000000 in
theorem loop28b {ov : Ov} (m : Nat) (h63 : HasP ov 63 F63) (l : List Pod) (a b : Int) (C : List Off) (A : List Int) (hA : ApartOk l a b C A) (hA100 : A.length ≤ 100) (i : Nat) (hi : i < A.length) (v y v7 : Value) (c4 : Nat) (w1 : AW) (hlim : w1.lim ≤ w1.next) (hc4 : c4 < w1.next) (hbox : w1.heap.get c4 = some (.cells [.int .i64 a, .int .i64 b] 26 false)) (hv : PodsV w1 v l) (hy : RowsV intC w1 y A)
    (Q : Ex → Tm → AW → Prop) (t : Tm) (w : AW) (hw : In28 w1 w)
    (t0 : tget t 0 = v) (t2 : tget t 2 = y) (t4 : tget t 4 = .pointer (some ⟨c4, 0, none⟩)) (t7 : tget t 7 = v7) (t8 : tget t 8 = .int .i64 (i : Nat)) (t9 : tget t 9 = .int .i64 0)
    (hQ : ∀ t w, In28 w1 w → tget t 0 = v → tget t 2 = y → tget t 4 = .pointer (some ⟨c4, 0, none⟩) → tget t 7 = v7 → tget t 8 = .int .i64 (i : Nat) → Q (.exit 2) t w) :
    wp (exM Tryd.prog (run Tryd.prog ov (m + 1)) (.loop mc28_l1) t w) Q := by
  refine wp_rounds (fun k t w => In28 w1 w ∧ tget t 0 = v ∧ tget t 2 = y ∧ tget t 4 = .pointer (some ⟨c4, 0, none⟩) ∧ tget t 7 = v7 ∧ tget t 8 = .int .i64 (i : Nat) ∧ tget t 9 = .int .i64 (k : Nat) ∧ k ≤ i) 200 (by decide) ⟨hw, t0, t2, t4, t7, t8, t9, Nat.zero_le _⟩ ?_
  clear t0 t2 t4 t7 t8 t9 hw
  rintro k t w ⟨hw, t0, t2, t4, t7, t8, t9, hk⟩
  by_cases hlt : k < i
  · obtain ⟨x, hx⟩ : ∃ x, A[i]? = some x := ⟨_, List.getElem?_eq_getElem hi⟩
    obtain ⟨z, hz⟩ : ∃ x, A[k]? = some x := ⟨_, List.getElem?_eq_getElem (by omega)⟩
    obtain ⟨o, ho, o1, ⟨jo, p1, p2, p3, p4⟩, _, _⟩ := apart_at hA hx
    obtain ⟨u, hu, u1, ⟨ju, q1, q2, q3, q4⟩, _, _⟩ := apart_at hA hz
    have hne := apart_ne hA hlt hx hz
    have hou : o ≠ u := fun e => by subst e; omega
    have hdis := pair_or hA.pair o ho u hu hou
    have hin1 := offs_mem (hA.mem o ho)
    have hin2 := offs_mem (hA.mem u hu)
    obtain ⟨_, _, _, _, _, _, hn1⟩ := hin1
    obtain ⟨_, _, _, _, _, _, hn2⟩ := hin2
    have hfar : ¬ max (oL o) (oL u) ≤ min (oH o) (oH u) := by omega
    have hxo : x = (jo : Int) := by omega
    have hzu : z = (ju : Int) := by omega
    subst hxo hzu
    have hjo : jo < l.length := (List.getElem?_eq_some_iff.1 p1).1
    have hju : ju < l.length := (List.getElem?_eq_some_iff.1 q1).1
    obtain ⟨pb, psq, pc, rfl, hpa⟩ := hv.at_ jo hjo
    obtain ⟨b', off', sq', c', rfl, hra⟩ := hy.at_ i hi
    have hld1 := load_pod' hpa p1
    have hld2 := load_pod' hpa q1
    have hls1 := hra.int hx
    have hls2 := hra.int hz
    rw [← hw.old _ hpa.lt] at hld1 hld2
    rw [← hw.old _ hra.2] at hls1 hls2
    have hbx := hbox
    rw [← hw.old _ hc4] at hbx
    have hnx := hw.next
    have hlm := hw.lim
    have lw : w.lim ≤ w.next := by omega
    have lw1 : w.lim ≤ w.next + 1 := by omega
    have e1 : ¬ pb = w.next := by have := hpa.lt; omega
    have e2 : ¬ pb = w.next + 1 := by have := hpa.lt; omega
    have e3 : ¬ b' = w.next := by have := hra.2; omega
    have e4 : ¬ b' = w.next + 1 := by have := hra.2; omega
    have e5 : ¬ c4 = w.next := by omega
    have e6 : ¬ c4 = w.next + 1 := by omega
    have hia := fun w => ia22 w ⟨pb, 0, psq⟩ l.length pc .i64 jo hjo
    have hia2 := fun w => ia22 w ⟨pb, 0, psq⟩ l.length pc .i64 ju hju
    have hib := fun w => ia33 w ⟨b', off', sq'⟩ A.length c' .i64 i hi
    have hib2 := fun w => ia33 w ⟨b', off', sq'⟩ A.length c' .i64 k (by omega)
    have hw1 : IntKind.wrap .i64 ((k : Int) + 1) = (k : Int) + 1 := wrap64_in (by omega) (by omega)
    have r1 := fun w => rule63 h63 o.p a b (jo : Int) m w
    have r2 := fun w => rule63 h63 u.p a b (ju : Int) m w
    rw [← ofL_eq p2 p3 p4] at r1
    rw [← ofL_eq q2 q3 q4] at r2
    have sp := fun p => same_pod p
    have sv := fun x y => same_ints [x, y]
    simp only [List.map_cons, List.map_nil] at sv
    have si := fun n k a => sameN_int n k a
    simp [mc28_l1, t0, t2, t4, t8, t9, hlt, hia, hia2, hib, hib2, hld1, hld2, hls1, hls2, hbx, lw, lw1, e1, e2, e3, e4, e5, e6, r1, r2, sp, sv, si, cellsOf_agg, least2, most2, hfar, hw1]
    refine ⟨by omega, ⟨fun x hx => ?_, by show w1.next ≤ w.next + 1 + 1; omega, hlm⟩, ?_⟩
    · simp [show ¬ x = w.next by omega, show ¬ x = w.next + 1 by omega]
      exact hw.old x hx
    · simp [t7]; omega
  · have hk' : k = i := by omega
    subst hk'
    simp [mc28_l1, t8, t9]
    exact hQ _ _ hw (by simp [t0]) (by simp [t2]) (by simp [t4]) (by simp [t7]) (by simp [t8])
end Go.Proofs.YtipglpmelgmelaaDoor.walk

namespace Go.Proofs.YtipglpmelgmelaaDoor.walk
open Go Go.Sh
open known (partsC laidL noOv)
set_option maxRecDepth 100000
set_option linter.unusedSimpArgs false
set_option maxHeartbeats 1000000 in
theorem loop28a {ov : Ov} (m : Nat) (h63 : HasP ov 63 F63) (h64 : HasP ov 64 F96) (l : List Pod) (a b : Int) (C : List Off) (A : List Int) (hA : ApartOk l a b C A) (hA100 : A.length ≤ 100) (hl100 : l.length ≤ 100) (v y sv : Value) (c4 : Nat) (w1 : AW) (hlim : w1.lim ≤ w1.next) (hc4 : c4 < w1.next) (hbox : w1.heap.get c4 = some (.cells [.int .i64 a, .int .i64 b] 26 false)) (hv : PodsV w1 v l) (hy : RowsV intC w1 y A) (hs : RowsV intC w1 sv (servL l a b l.length))
    (Q : Ex → Tm → AW → Prop) (t : Tm) (w : AW) (hw : In28 w1 w)
    (t0 : tget t 0 = v) (t2 : tget t 2 = y) (t4 : tget t 4 = .pointer (some ⟨c4, 0, none⟩)) (t7 : tget t 7 = sv) (t8 : tget t 8 = .int .i64 0)
    (hQ : ∀ t w, In28 w1 w → tget t 0 = v → tget t 2 = y → Q (.exit 0) t w) :
    wp (exM Tryd.prog (run Tryd.prog ov (m + 1)) (.loop mc28_l0) t w) Q := by
  have hly := len33V hy
  refine wp_rounds (fun i t w => In28 w1 w ∧ tget t 0 = v ∧ tget t 2 = y ∧ tget t 4 = .pointer (some ⟨c4, 0, none⟩) ∧ tget t 7 = sv ∧ tget t 8 = .int .i64 (i : Nat) ∧ i ≤ A.length) 200 (by decide) ⟨hw, t0, t2, t4, t7, t8, Nat.zero_le _⟩ ?_
  clear t0 t2 t4 t7 t8 hw
  rintro i t w ⟨hw, t0, t2, t4, t7, t8, hi⟩
  by_cases hlt : i < A.length
  · obtain ⟨x, hx⟩ : ∃ x, A[i]? = some x := ⟨_, List.getElem?_eq_getElem hlt⟩
    obtain ⟨o, ho, o1, _, hmem, _⟩ := apart_at hA hx
    obtain ⟨b', off', sq', c', rfl, hra⟩ := hy.at_ i hlt
    have hls := hra.int hx
    rw [← hw.old _ hra.2] at hls
    have hib := fun w => ia33 w ⟨b', off', sq'⟩ A.length c' .i64 i hlt
    have hw1 : IntKind.wrap .i64 ((i : Int) + 1) = (i : Int) + 1 := wrap64_in (by omega) (by omega)
    have r64 := rule96 (f := 64) h64 (L := servL l a b l.length) (by have := serv_len (l := l) (lo := a) (hi := b) l.length; omega) x (hs.old (w' := w) (fun x hx => hw.old x hx) hw.next) m
    have hf := (fnd_mem (servL l a b l.length) x 0 (Int.le_refl 0)).1 hmem
    have hf' : ¬ fnd (servL l a b l.length) x 0 < 0 := by omega
    simp [mc28_l0, t0, t2, t4, t7, t8, hlt, hly, hib, hls, r64, hf']
    refine wp_seqX (wp_blockX (wp_blockX (loop28b m h63 l a b C A hA hA100 i hlt v (.slice (some ⟨b', off', sq'⟩) A.length c') sv c4 w1 hlim hc4 hbox hv hy _ _ _ hw ?_ ?_ ?_ ?_ ?_ ?_ ?_)))
    case _ => simp [t0]
    case _ => simp [t2]
    case _ => simp [t4]
    case _ => simp [t7]
    case _ => simp [t8]
    case _ => simp
    case _ =>
      intro t w' hw' s0 s2 s4 s7 s8
      simp [s0, s2, s4, s7, s8, hw1]
      exact ⟨by omega, hw', hlt⟩
  · have hi' : i = A.length := by omega
    subst hi'
    simp [mc28_l0, t2, t8, hly]
    exact hQ _ _ hw (by simp [t0]) (by simp [t2])
theorem apart_len {l : List Pod} {a b : Int} {C : List Off} {A : List Int} (h : ApartOk l a b C A) : A.length = (refL l a b).length := by
  rw [h.perm.length_eq, List.length_map, h.len]
theorem call28 {ov : Ov} (m : Nat) (ho : ∀ args w, ov 28 args w = none) (ho62 : ∀ args w, ov 62 args w = none) (h36 : HasP ov 36 F36) (h63 : HasP ov 63 F63) (h64 : HasP ov 64 F96) (l : List Pod) (hl12 : l.length ≤ 12) (a b : Int) (C : List Off) (A : List Int) (hA : ApartOk l a b C A) (hA100 : A.length ≤ 100) (v y : Value) (w : AW) (hl : w.lim ≤ w.next) (hv : PodsV w v l) (hy : RowsV intC w y A) :
    ∃ x w', (run Tryd.prog ov (m + 3)).call 28 [v, .agg ⟨[.int .i64 a, .int .i64 b]⟩, y] w .none = .ok (.ret x) w' .none ∧ x = .bool true ∧ Old w.next w.heap w'.heap ∧ w.next ≤ w'.next ∧ w'.lim = w.lim := by
  refine call_wp text28 (by simp) (ho _ _) ?_
  obtain ⟨H1, hH1⟩ : ∃ H1, H1 = w.heap.put w.next (some (.cells [.int .i64 a, .int .i64 b] 26 false)) := ⟨_, rfl⟩
  have o1 : Old w.next w.heap H1 := by rw [hH1]; exact (Old.refl _ _).put (Nat.le_refl _)
  have hv1 : PodsV ⟨H1, w.next + 1, w.lim⟩ v l := hv.old o1 (Nat.le_succ _)
  obtain ⟨u, w1, hc, hacc, ho1, hn1, hl1⟩ := call62 m ho62 h63 l a b v _ hv1 (by omega) (by show w.lim ≤ w.next + 1; omega)
  have hn1' : w.next + 1 < w1.next := hn1
  have hl1' : w1.lim = w.lim := hl1
  have nj := hacc.ok
  have o2 : Old w.next w.heap w1.heap := o1.trans ho1 (Nat.le_succ _)
  have hv2 : PodsV w1 v l := hv.old o2 (by omega)
  have hy2 : RowsV intC w1 y A := hy.old o2 (by omega)
  have hbox : w1.heap.get w.next = some (.cells [.int .i64 a, .int .i64 b] 26 false) := by rw [ho1 _ (by show w.next < w.next + 1; omega)]; show H1.get _ = _; rw [hH1, get_put, if_pos rfl]
  rw [hH1] at hc
  have hlv := len22V hv
  simp [mc28, hc, nj]
  refine wp_seqX (wp_blockX (loop28a (m + 1) h63 h64 l a b C A hA hA100 (by omega) v y u w.next w1 (by omega) (by omega) hbox hv2 hy2 hacc.rows _ _ _ ⟨fun _ _ => rfl, Nat.le_refl _, rfl⟩ ?_ ?_ ?_ ?_ ?_ ?_))
  case _ => simp
  case _ => simp
  case _ => simp
  case _ => simp
  case _ => simp
  case _ =>
    intro t w' hw t0 t2
    have r36 := rule36 h36 (n := (l.length : Nat)) (by omega) hA100 (hy2.old (w' := w') (fun x hx => hw.old x hx) hw.next) (m + 1)
    rw [apart_rise hA] at r36
    simp [t0, t2, hlv, r36, tupV]
    exact ⟨fun x hx => by rw [hw.old x (by omega)]; exact o2 x hx, by have := hw.next; omega, by have := hw.lim; omega⟩
end Go.Proofs.YtipglpmelgmelaaDoor.walk

namespace Go.Proofs.YtipglpmelgmelaaDoor.walk
open Go Go.Sh
open known (partsC laidL noOv)
set_option maxRecDepth 100000
set_option linter.unusedSimpArgs false
/-! law 5 -/
theorem grd_len : ∀ (k : Nat) (L : List Off), (grd k L).length ≤ k
  | 0, _ => by simp [grd]
  | k + 1, L => by
    unfold grd
    split
    · simp
    · have := grd_len k (L.filter fun o => decide (minH L < oL o))
      simp only [List.length_cons]
      omega
theorem refL_len (l : List Pod) (a b : Int) : (refL l a b).length ≤ 12 := by
  unfold refL
  split
  · rename_i h
    have := grd_len l.length (offsA l a b)
    have := podsB_len (mk_span h).1
    omega
  · simp
set_option maxHeartbeats 4000000 in
theorem run5 {ov : Ov} (ho : ∀ args w, ov 5 args w = none) (ho23 : ∀ args w, ov 23 args w = none) (ho24 : ∀ args w, ov 24 args w = none) (ho26 : ∀ args w, ov 26 args w = none) (ho28 : ∀ args w, ov 28 args w = none) (ho62 : ∀ args w, ov 62 args w = none) (H : Ho60 ov) (ho29 : ∀ args w, ov 29 args w = none) (ho30 : ∀ args w, ov 30 args w = none) (h14 : HasP ov 14 F14) (h15 : HasP ov 15 F14) (h27 : HasP ov 27 F59) (h33 : HasP ov 33 F33) (h36 : HasP ov 36 F36) (h49 : HasP ov 49 F47) (h63 : HasP ov 63 F63) (h64 : HasP ov 64 F96) (h65 : HasP ov 65 F65) (h66 : HasP ov 66 F66) (h25 : HasP ov 25 F25) (hW : HasW ov)
    (l : List Pod) (a b : Int) (v : Value) (w : AW) (hl : w.lim = w.next) (hPW : PartsW w) (hv : PodsV w v l) :
    ∃ x w', (run Tryd.prog ov 8).call 5 [v, .agg ⟨[.int .i64 a, .int .i64 b]⟩] w .none = .ok (.ret x) w' .none ∧ x = .bool true := by
  refine call_wp text5 (by simp) (ho _ _) ?_
  obtain ⟨H1, hH1⟩ : ∃ H1, H1 = w.heap.put w.next (some (.cells [.int .i64 a, .int .i64 b] 26 false)) := ⟨_, rfl⟩
  have o1 : Old w.next w.heap H1 := by rw [hH1]; exact (Old.refl _ _).put (Nat.le_refl _)
  have g1 : H1.get w.next = some (.cells [.int .i64 a, .int .i64 b] 26 false) := by rw [hH1, get_put, if_pos rfl]
  have hv1 : PodsV ⟨H1, w.next + 1, w.lim⟩ v l := hv.old o1 (Nat.le_succ _)
  obtain ⟨x1, w1, c1, y1, rfl, q1, q2, q3, q4⟩ := call23 0 ho23 H l a b v _ (by show w.lim ≤ w.next + 1; omega) hv1
  have q3' : w.next + 1 ≤ w1.next := q3
  have q4' : w1.lim = w.lim := q4
  have o2 : Old w.next w.heap w1.heap := o1.trans q2 (Nat.le_succ _)
  have g2 : w1.heap.get w.next = some (.cells [.int .i64 a, .int .i64 b] 26 false) := by rw [q2 _ (by show w.next < w.next + 1; omega)]; exact g1
  obtain ⟨x2, w2, c2, y2, rfl, p1, p2, p3, p4⟩ := call24 4 ho24 ho62 h27 h63 l a b v w1 (by omega) (hv.old o2 (by omega))
  have o3 : Old w.next w.heap w2.heap := o2.trans p2 (by omega)
  have g3 : w2.heap.get w.next = some (.cells [.int .i64 a, .int .i64 b] 26 false) := by rw [p2 _ (by omega)]; exact g2
  have hy1 : RowsV intC w2 y1 (refL l a b) := q1.old p2 p3
  have r25 := rule25 h25 (by have := refL_len l a b; omega) hy1 p1 6
  obtain ⟨x3, w3, c3, y3, A, rfl, s1, s2, s3, s4, s5, s6⟩ := call26 0 ho26 H l a b v w2 (by omega) (hv.old o3 (by omega))
  have o4 : Old w.next w.heap w3.heap := o3.trans s4 (by omega)
  have g4 : w3.heap.get w.next = some (.cells [.int .i64 a, .int .i64 b] 26 false) := by rw [s4 _ (by omega)]; exact g3
  have r27 := rule59 (f := 27) h27 a b 6 (hv.old (w' := w3) o4 (by omega)).podsIn
  have hlA := len33V s1
  have hlR := len33V p1
  have hR4 : RowsV intC w3 y2 (refL l a b) := p1.old s4 s5
  -- the plans, from any world behind
  have fin : ∀ w4 : AW, Old w.next w.heap w4.heap → w.next < w4.next → w4.lim = w.lim → RowsV intC w4 y2 (refL l a b) → ∃ z1 z2 w5 w6, (run Tryd.prog ov 7).call 29 [v, y2] w4 .none = .ok (.ret (.tuple ⟨[z1, .int .i64 (plE l (refL l a b))]⟩)) w5 .none ∧ (run Tryd.prog ov 7).call 30 [v, y2] w5 .none = .ok (.ret (.tuple ⟨[z2, .int .i64 (plE l (refL l a b))]⟩)) w6 .none ∧ (run Tryd.prog ov 7).call 25 [z1, z2] w6 .none = .ok (.ret (.bool true)) w6 .none ∧ (run Tryd.prog ov 7).call 18 [] w6 .none = .ok (.ret (.bool true)) w6 .none ∧ notJunk z1 = some z1 ∧ notJunk z2 = some z2 := by
    intro w4 o5 hn4 hl4 hr4
    obtain ⟨x5, w5, c5, z1, rfl, e1, e2, e3, e4⟩ := call29 5 ho29 h14 h65 h66 l (refL l a b) v y2 w4 (by omega) (hv.old o5 (by omega)) hr4
    have o6 : Old w.next w.heap w5.heap := o5.trans e2 (by omega)
    obtain ⟨x6, w6, c6, z2, rfl, f1, f2, f3, f4⟩ := call30 5 ho30 h15 h33 h36 h49 l (refL l a b) v y2 w5 (by omega) (hv.old o6 (by omega)) (hr4.old e2 e3)
    have o7 : Old w.next w.heap w6.heap := o6.trans f2 (by omega)
    have k25 := rule25 h25 (by have := plL_len l (refL l a b); omega) (e1.old f2 f3) f1 6
    have kW := ruleWn hW (hPW.old o7 (by omega)).parts 6
    exact ⟨z1, z2, w5, w6, c5, c6, k25, kW, by obtain ⟨x, y, e⟩ := e1.len; rw [e]; rfl, by obtain ⟨x, y, e⟩ := f1.len; rw [e]; rfl⟩
  have n1 : notJunk y1 = some y1 := by obtain ⟨x, y, e⟩ := q1.len; rw [e]; rfl
  have n2 : notJunk y2 = some y2 := by obtain ⟨x, y, e⟩ := p1.len; rw [e]; rfl
  have n3 : notJunk y3 = some y3 := by obtain ⟨x, y, e⟩ := s1.len; rw [e]; rfl
  rw [hH1] at c1
  by_cases hE : mkErr l a b = 0
  · obtain ⟨C, hC⟩ := s3 hE
    have hAl := apart_len hC
    have h12 := podsB_len (mk_span hE).1
    obtain ⟨x4, w4, c4, rfl, t2, t3, t4⟩ := call28 4 ho28 ho62 h36 h63 h64 l h12 a b C A hC (by have := refL_len l a b; omega) v y3 w3 (by omega) (hv.old o4 (by omega)) s1
    obtain ⟨z1, z2, w5, w6, f1, f2, f3, f4, f5, f6⟩ := fin w4 (o4.trans t2 (by omega)) (by omega) (by omega) (hR4.old t2 t3)
    rw [hE] at c1 c2 c3 r27
    rw [hAl] at hlA
    simp [mc5, c1, c2, c3, n1, n2, n3, r25, g2, g3, g4, r27, hE, hlA, hlR, c4, f1, f2, f3, f4, f5, f6, tupV]
  · have hA0 := s2 hE
    subst hA0
    obtain ⟨z1, z2, w5, w6, f1, f2, f3, f4, f5, f6⟩ := fin w3 o4 (by omega) (by omega) hR4
    simp [mc5, c1, c2, c3, n1, n2, n3, r25, g2, g3, g4, r27, hE, hlA, hlR, f1, f2, f3, f4, f5, f6, tupV]
end Go.Proofs.YtipglpmelgmelaaDoor.walk
