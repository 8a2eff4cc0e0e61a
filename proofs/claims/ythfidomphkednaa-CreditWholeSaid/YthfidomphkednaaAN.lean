/- Part of a proof by a machine of ones own: see the text with the theorem. -/
import Derived.Test.YthfidomphkednaaShF
set_option linter.unusedVariables false
namespace Go.Proofs.Ythfidomphkednaa.walk
open Go Go.Sh
/-! ledgers, in numbers alone -/
structure Dt where
  f : Int
  t : Int
  c : Int
structure Pt where
  nm : ByteArray
  ch : Int
def sI (g : Dt → Int) : List Dt → Int
  | [] => 0
  | d :: l => g d + sI g l
/-- what a party owes -/
def owD (ds : List Dt) (p : Int) : Int := sI (fun d => if d.f = p then d.c else 0) ds
/-- what is paid of a debt -/
def ptD (ow x : Int → Int) (d : Dt) : Int := x d.f * d.c / ow d.f
def inD (ds : List Dt) (x : Int → Int) (p : Int) : Int := sI (fun d => if d.t = p then ptD (owD ds) x d else 0) ds
def caP (ps : List Pt) (p : Int) : Int := if 0 ≤ p then ((ps[p.toNat]?).map Pt.ch).getD 0 else 0
def haD (ps : List Pt) (ds : List Dt) (x : Int → Int) (p : Int) : Int := caP ps p + inD ds x p
def nxD (ps : List Pt) (ds : List Dt) (x : Int → Int) (p : Int) : Int := min (haD ps ds x p) (owD ds p)
/-- a ledger whose numbers are in order (M: how much cash there may be) -/
structure LOk (M : Int) (ps : List Pt) (ds : List Dt) : Prop where
  n1 : 1 ≤ ps.length
  n8 : ps.length ≤ 8
  cash : ∀ p ∈ ps, 0 ≤ p.ch ∧ p.ch ≤ M
  d16 : ds.length ≤ 16
  debt : ∀ d ∈ ds, (0 ≤ d.f ∧ d.f < ps.length) ∧ (0 ≤ d.t ∧ d.t < ps.length) ∧ d.f ≠ d.t ∧ 1 ≤ d.c ∧ d.c ≤ 100000
section
variable {M : Int} {ps : List Pt} {ds : List Dt} (h : LOk M ps ds)
include h
end
/-! the greatest payments -/
def PostD (ps : List Pt) (ds : List Dt) (q : Int → Int) : Prop := ∀ p, 0 ≤ q p ∧ q p ≤ owD ds p ∧ q p ≤ haD ps ds q p
structure DescD (ps : List Pt) (ds : List Dt) (x : Int → Int) : Prop where
  rng : ∀ p, 0 ≤ x p ∧ x p ≤ owD ds p
  low : ∀ p, nxD ps ds x p ≤ x p
  top : ∀ q, PostD ps ds q → ∀ p, q p ≤ x p
section
variable {M : Int} {ps : List Pt} {ds : List Dt} (h : LOk M ps ds)
include h
end
/-! to the cent -/
def sN (g : Nat → Int) : Nat → Int
  | 0 => 0
  | n + 1 => sN g n + g n
section
variable {M : Int} {ps : List Pt} {ds : List Dt} (h : LOk M ps ds)
include h
end
end Go.Proofs.Ythfidomphkednaa.walk
