/- Part of a proof by a machine of ones own: see the text with the theorem. -/
import Derived.Test.YtipglpmelgmelaaDoorShF
namespace Go.Sh
/-! what a harvest yields: numbers alone -/
structure Yl where
  ripe : Int
  green : Int
  split : Int
  left : Int
def gramI (born day r g : Int) : Int := (g * min (day - born) r).tdiv 100
def ylI (born day r h g : Int) : Yl :=
  if day = -1 then ⟨0, 0, 0, 1⟩ else if day - born < r then ⟨0, gramI born day r g, 0, 0⟩ else if day - born < r + h then ⟨gramI born day r g, 0, 0, 0⟩ else ⟨0, 0, 1, 0⟩
/-! the least and the greatest, part by part -/
def stepE (s : Yl × Yl) (y : Yl) : Yl × Yl := (⟨min s.1.ripe y.ripe, min s.1.green y.green, min s.1.split y.split, s.1.left⟩, ⟨max s.2.ripe y.ripe, max s.2.green y.green, max s.2.split y.split, s.2.left⟩)
/-- two numbers that are the least and the greatest of some -/
def Tight (lo hi : Int) (S : Int → Prop) : Prop := S lo ∧ S hi ∧ ∀ x, S x → lo ≤ x ∧ x ≤ hi
theorem Tight.wide {lo hi : Int} {S T : Int → Prop} (h : Tight lo hi S) (hs : ∀ x, S x → T x) (hl : ∀ x, T x → ∃ y, S y ∧ y ≤ x) (hh : ∀ x, T x → ∃ y, S y ∧ x ≤ y) : Tight lo hi T :=
  ⟨hs _ h.1, hs _ h.2.1, fun x hx => by
    obtain ⟨y, h1, h2⟩ := hl x hx
    obtain ⟨z, h3, h4⟩ := hh x hx
    have := (h.2.2 y h1).1
    have := (h.2.2 z h3).2
    omega⟩
def endsY (l : List Yl) : Yl × Yl := match l with | [] => (⟨0, 0, 0, 0⟩, ⟨0, 0, 0, 0⟩) | y :: l => l.foldl stepE (y, y)
/-- the samples of a pod that is cut on a day -/
def four (born day hl hh gl gh r : Int) : List Yl := [ylI born day r hl gl, ylI born day r hl gh, ylI born day r hh gl, ylI born day r hh gh]
def sampN (born day rl hl hh gl gh : Int) : Nat → List Yl
  | 0 => []
  | n + 1 => sampN born day rl hl hh gl gh n ++ four born day hl hh gl gh (rl + n)
end Go.Sh

namespace Go.Sh
/-- the numbers of a pod, and a day -/
structure PodOk (born rl rh hl hh gl gh : Int) : Prop where
  born0 : 0 ≤ born
  born1 : born ≤ 1000
  r0 : 1 ≤ rl
  r1 : rl ≤ rh
  r2 : rh ≤ 400
  h0 : 1 ≤ hl
  h1 : hl ≤ hh
  h2 : hh ≤ 100
  g0 : 0 ≤ gl
  g1 : gl ≤ gh
  g2 : gh ≤ 100
section
variable {born rl rh hl hh gl gh day : Int}
def sampY (born day rl rh hl hh gl gh : Int) : List Yl := sampN born day rl hl hh gl gh (rh - rl + 1).toNat
end
/-! sums -/
def sY (c : Yl → Int) : List Yl → Int
  | [] => 0
  | y :: l => c y + sY c l
theorem sY_append (c : Yl → Int) : ∀ l m : List Yl, sY c (l ++ m) = sY c l + sY c m
  | [], m => by simp [sY]
  | y :: l, m => by
    show c y + sY c (l ++ m) = c y + sY c l + sY c m
    rw [sY_append c l m]; omega
theorem sY_snoc {c : Yl → Int} {l : List Yl} {i : Nat} {y : Yl} (h : l[i]? = some y) : sY c (l.take (i + 1)) = sY c (l.take i) + c y := by
  rw [List.take_add_one, h, sY_append]
  simp [sY]
end Go.Sh
