/- Part of a proof by a machine of ones own: see the text with the theorem. -/
import Derived.Test.YthfidomphkednaaShF
set_option linter.unusedVariables false
namespace Go.Proofs.Ythfidomphkednaa.walk
open Go Go.Sh
/-! ledgers, in numbers alone -/
structure Dt where
  f : Int
  t : Int
  c : Int
structure Pt where
  nm : ByteArray
  ch : Int
def sI (g : Dt → Int) : List Dt → Int
  | [] => 0
  | d :: l => g d + sI g l
theorem sI_app (g : Dt → Int) : ∀ a b : List Dt, sI g (a ++ b) = sI g a + sI g b
  | [], b => by simp [sI]
  | d :: a, b => by simp only [List.cons_append, sI, sI_app g a b]; omega
theorem sI_le {g k : Dt → Int} : ∀ {l : List Dt}, (∀ d ∈ l, g d ≤ k d) → sI g l ≤ sI k l
  | [], _ => Int.le_refl _
  | d :: l, h => by
    have h1 := h d (List.mem_cons_self ..)
    have h2 := sI_le (l := l) fun e he => h e (List.mem_cons_of_mem _ he)
    simp only [sI]; omega
theorem sI_congr {g k : Dt → Int} {l : List Dt} (h : ∀ d ∈ l, g d = k d) : sI g l = sI k l :=
  Int.le_antisymm (sI_le fun d hd => Int.le_of_eq (h d hd)) (sI_le fun d hd => Int.le_of_eq (h d hd).symm)
theorem sI_zero : ∀ l : List Dt, sI (fun _ => 0) l = 0
  | [] => rfl
  | d :: l => by simp only [sI, sI_zero l]; omega
theorem sI_const (z : Int) : ∀ l : List Dt, sI (fun _ => z) l = z * l.length
  | [] => by simp [sI]
  | d :: l => by simp only [sI, sI_const z l, List.length_cons]; rw [Int.natCast_add, Int.mul_add]; omega
theorem sI_nonneg {g : Dt → Int} {l : List Dt} (h : ∀ d ∈ l, 0 ≤ g d) : 0 ≤ sI g l := by
  have := sI_le h
  rwa [sI_zero] at this
theorem sI_one {g : Dt → Int} : ∀ {l : List Dt}, (∀ d ∈ l, 0 ≤ g d) → ∀ d ∈ l, g d ≤ sI g l
  | e :: l, h, d, hd => by
    have h1 := h e (List.mem_cons_self ..)
    have h2 : 0 ≤ sI g l := sI_nonneg fun x hx => h x (List.mem_cons_of_mem _ hx)
    simp only [sI]
    rcases List.mem_cons.1 hd with rfl | hd
    · omega
    · have := sI_one (fun x hx => h x (List.mem_cons_of_mem _ hx)) d hd; omega
/-- what a party owes -/
def owD (ds : List Dt) (p : Int) : Int := sI (fun d => if d.f = p then d.c else 0) ds
/-- what is paid of a debt -/
def ptD (ow x : Int → Int) (d : Dt) : Int := x d.f * d.c / ow d.f
def inD (ds : List Dt) (x : Int → Int) (p : Int) : Int := sI (fun d => if d.t = p then ptD (owD ds) x d else 0) ds
def caP (ps : List Pt) (p : Int) : Int := if 0 ≤ p then ((ps[p.toNat]?).map Pt.ch).getD 0 else 0
def haD (ps : List Pt) (ds : List Dt) (x : Int → Int) (p : Int) : Int := caP ps p + inD ds x p
def nxD (ps : List Pt) (ds : List Dt) (x : Int → Int) (p : Int) : Int := min (haD ps ds x p) (owD ds p)
/-- a ledger whose numbers are in order (M: how much cash there may be) -/
structure LOk (M : Int) (ps : List Pt) (ds : List Dt) : Prop where
  n1 : 1 ≤ ps.length
  n8 : ps.length ≤ 8
  cash : ∀ p ∈ ps, 0 ≤ p.ch ∧ p.ch ≤ M
  d16 : ds.length ≤ 16
  debt : ∀ d ∈ ds, (0 ≤ d.f ∧ d.f < ps.length) ∧ (0 ≤ d.t ∧ d.t < ps.length) ∧ d.f ≠ d.t ∧ 1 ≤ d.c ∧ d.c ≤ 100000
section
variable {M : Int} {ps : List Pt} {ds : List Dt} (h : LOk M ps ds)
include h
theorem LOk.ow_nonneg (p : Int) : 0 ≤ owD ds p := sI_nonneg fun d hd => by
  have := (h.debt d hd).2.2.2.1
  split <;> omega
theorem LOk.ow_le (p : Int) : owD ds p ≤ 1600000 := by
  have h1 : owD ds p ≤ sI (fun _ => 100000) ds := sI_le fun d hd => by
    have := (h.debt d hd).2.2.2.2
    split <;> omega
  rw [sI_const] at h1
  have := h.d16
  omega
theorem LOk.ow_pos {d : Dt} (hd : d ∈ ds) : d.c ≤ owD ds d.f := by
  have := sI_one (g := fun e => if e.f = d.f then e.c else 0) (l := ds) (fun e he => by
    have := (h.debt e he).2.2.2.1
    show 0 ≤ (if e.f = d.f then e.c else 0)
    split <;> omega) d hd
  rw [if_pos rfl] at this
  exact this
theorem LOk.ow_out {p : Int} (hp : p < 0 ∨ (ps.length : Int) ≤ p) : owD ds p = 0 := by
  unfold owD
  rw [sI_congr (k := fun _ => 0), sI_zero]
  intro d hd
  have := (h.debt d hd).1
  rw [if_neg (by omega)]
theorem LOk.ca (p : Int) : 0 ≤ caP ps p ∧ caP ps p ≤ max M 0 := by
  unfold caP
  split
  · cases he : ps[p.toNat]? with
    | none => simp; omega
    | some a =>
      have := h.cash a (List.mem_of_getElem? he)
      simp; omega
  · omega
omit h in
theorem ca_out {ps : List Pt} {p : Int} (hp : p < 0 ∨ (ps.length : Int) ≤ p) : caP ps p = 0 := by
  unfold caP
  split
  · rw [List.getElem?_eq_none (by omega)]; rfl
  · rfl
omit h in
theorem ca_at {p : Nat} {a : Pt} (ha : ps[p]? = some a) : caP ps (p : Int) = a.ch := by
  unfold caP
  rw [if_pos (by omega), Int.toNat_natCast, ha]; rfl
theorem LOk.pt_mono {x y : Int → Int} (hxy : ∀ p, x p ≤ y p) {d : Dt} (hd : d ∈ ds) : ptD (owD ds) x d ≤ ptD (owD ds) y d := by
  have h1 := h.ow_pos hd
  have h2 := (h.debt d hd).2.2.2.1
  exact Int.ediv_le_ediv (by omega) (Int.mul_le_mul_of_nonneg_right (hxy _) (by omega))
theorem LOk.pt_all {x : Int → Int} {d : Dt} (hd : d ∈ ds) (hx : x d.f = owD ds d.f) : ptD (owD ds) x d = d.c := by
  have h1 := h.ow_pos hd
  have h2 := (h.debt d hd).2.2.2.1
  unfold ptD
  rw [hx]
  exact Int.mul_ediv_cancel_left _ (by omega)
theorem LOk.pt_in {x : Int → Int} (hx : ∀ p, 0 ≤ x p ∧ x p ≤ owD ds p) {d : Dt} (hd : d ∈ ds) : 0 ≤ ptD (owD ds) x d ∧ ptD (owD ds) x d ≤ d.c := by
  have h1 := h.ow_pos hd
  have h2 := (h.debt d hd).2.2.2.1
  refine ⟨Int.ediv_nonneg (Int.mul_nonneg (hx _).1 (by omega)) (by omega), ?_⟩
  have := h.pt_mono (y := owD ds) (fun p => (hx p).2) hd
  rwa [h.pt_all (x := owD ds) hd rfl] at this
theorem LOk.in_in {x : Int → Int} (hx : ∀ p, 0 ≤ x p ∧ x p ≤ owD ds p) (p : Int) : 0 ≤ inD ds x p ∧ inD ds x p ≤ 1600000 := by
  refine ⟨sI_nonneg fun d hd => ?_, ?_⟩
  · have := (h.pt_in hx hd).1
    split <;> omega
  · have h1 : inD ds x p ≤ sI (fun _ => 100000) ds := sI_le fun d hd => by
      have h3 := (h.debt d hd).2.2.2.2
      have h4 := (h.pt_in hx hd).2
      split <;> omega
    rw [sI_const] at h1
    have := h.d16
    omega
end
/-! the greatest payments -/
def PostD (ps : List Pt) (ds : List Dt) (q : Int → Int) : Prop := ∀ p, 0 ≤ q p ∧ q p ≤ owD ds p ∧ q p ≤ haD ps ds q p
structure DescD (ps : List Pt) (ds : List Dt) (x : Int → Int) : Prop where
  rng : ∀ p, 0 ≤ x p ∧ x p ≤ owD ds p
  low : ∀ p, nxD ps ds x p ≤ x p
  top : ∀ q, PostD ps ds q → ∀ p, q p ≤ x p
section
variable {M : Int} {ps : List Pt} {ds : List Dt} (h : LOk M ps ds)
include h
end
/-! to the cent -/
section
variable {M : Int} {ps : List Pt} {ds : List Dt} (h : LOk M ps ds)
include h
end
end Go.Proofs.Ythfidomphkednaa.walk
