/-
  No cell of these rows narrows 'for every input' (looked for: loops, veiled, ifaces, maps, wideKeys, modest, calm, conditions, laid).
  DERIVED. THE GIVEN ROWS OF THIS SEAT. 7 by the template 'for every input the law returns true; each argument reads behind the call as it read before'; 0 by the template 'total and deterministic' (their statements: YtaffhippclpbpaaTotals.lean).
  GIVEN WITH THE SEED: the statements are not yours to turn. If you find one false, say at which input.
  Laid BY PROGRAM, IN A SANDBOX (cutbox-rows.mjs): the forced cells as the released guide's own fill.sh prints them over the translation 8612f43e3be71778… (all of the seat's roots in one cut). By AI agents, Wed Nov 11 2026. No macro, syntax, notation, axiom, sorry.
-/
import Derived.Test.YtaffhippclpbpaaChecked
import GoSem.Claim
import GoSem.ClaimJoined
import GoSem.ClaimMapViews
import Derived.JoinedTies
import Derived.KernelRfl
namespace Go.Proofs.Ytaffhippclpbpaa
/- THE CELL 'sum', in the pinned program and in every row, IS THE sha256 OF THE DUMP (.gsa) THAT YtaffhippclpbpaaProg.lean LOADS. Nothing in Lean hashes anything: it is a label: what it is worth is what the hold of that sum in a sandbox is worth. -/
noncomputable def Try.pinned : Pinned := { name := "ytaffhippclpbpaa", sum := "8612f43e3be71778d5a3f087103759e10184bccd98e9780ce738f6ffee8f34f2", checked := Try.checked }
namespace Rows
def none {H : Type} : Left H := { results := [], args := [] }

/-- 'rostellumlaw07.MouldStays': WHATEVER THE INPUT: true; the input reads as it did. -/
def mouldStaysSpec : ChangeSpec := { name := "mouldStays", fn := fun _ => fun
  | [d1, d2] => { results := [.lit (.bool true)], args := [d1, d2] }
  | _ => none }
def mouldStaysRow : OpenClaim := { program := "ytaffhippclpbpaa", sum := "8612f43e3be71778d5a3f087103759e10184bccd98e9780ce738f6ffee8f34f2", func := "rostellum/rostellumlaw07.MouldStays", spec := "mouldStays", unfollowed := true, recurses := true, plainKeys := false, apart := false }
def MouldStaysSaid : Prop := mouldStaysRow.holds Try.pinned (OpenSpec.ofChange mouldStaysSpec)

/-- ITS FALSE NEIGHBOUR: 'it returns false'. Refute it at one input. -/
def mouldStaysWrong : ChangeSpec := { name := "mouldStays", fn := fun _ => fun
  | [d1, d2] => { results := [.lit (.bool false)], args := [d1, d2] }
  | _ => none }
def MouldStaysWrongFalsely : Prop := mouldStaysRow.holds Try.pinned (OpenSpec.ofChange mouldStaysWrong)

/-- 'rostellumlaw07.MouldTrue': WHATEVER THE INPUT: true; the input reads as it did. -/
def mouldTrueSpec : ChangeSpec := { name := "mouldTrue", fn := fun _ => fun
  | [d1, d2, d3] => { results := [.lit (.bool true)], args := [d1, d2, d3] }
  | _ => none }
def mouldTrueRow : OpenClaim := { program := "ytaffhippclpbpaa", sum := "8612f43e3be71778d5a3f087103759e10184bccd98e9780ce738f6ffee8f34f2", func := "rostellum/rostellumlaw07.MouldTrue", spec := "mouldTrue", unfollowed := true, recurses := true, plainKeys := false, apart := false }
def MouldTrueSaid : Prop := mouldTrueRow.holds Try.pinned (OpenSpec.ofChange mouldTrueSpec)

/-- ITS FALSE NEIGHBOUR: 'it returns false'. Refute it at one input. -/
def mouldTrueWrong : ChangeSpec := { name := "mouldTrue", fn := fun _ => fun
  | [d1, d2, d3] => { results := [.lit (.bool false)], args := [d1, d2, d3] }
  | _ => none }
def MouldTrueWrongFalsely : Prop := mouldTrueRow.holds Try.pinned (OpenSpec.ofChange mouldTrueWrong)

/-- 'rostellumlaw07.MouldSome': WHATEVER THE INPUT: true; the input reads as it did. -/
def mouldSomeSpec : ChangeSpec := { name := "mouldSome", fn := fun _ => fun
  | [d1, d2, d3] => { results := [.lit (.bool true)], args := [d1, d2, d3] }
  | _ => none }
def mouldSomeRow : OpenClaim := { program := "ytaffhippclpbpaa", sum := "8612f43e3be71778d5a3f087103759e10184bccd98e9780ce738f6ffee8f34f2", func := "rostellum/rostellumlaw07.MouldSome", spec := "mouldSome", unfollowed := true, recurses := true, plainKeys := false, apart := false }
def MouldSomeSaid : Prop := mouldSomeRow.holds Try.pinned (OpenSpec.ofChange mouldSomeSpec)

/-- ITS FALSE NEIGHBOUR: 'it returns false'. Refute it at one input. -/
def mouldSomeWrong : ChangeSpec := { name := "mouldSome", fn := fun _ => fun
  | [d1, d2, d3] => { results := [.lit (.bool false)], args := [d1, d2, d3] }
  | _ => none }
def MouldSomeWrongFalsely : Prop := mouldSomeRow.holds Try.pinned (OpenSpec.ofChange mouldSomeWrong)

/-- 'rostellumlaw07.MouldShipped': WHATEVER THE INPUT: true; the input reads as it did. -/
def mouldShippedSpec : ChangeSpec := { name := "mouldShipped", fn := fun _ => fun
  | [d1, d2, d3] => { results := [.lit (.bool true)], args := [d1, d2, d3] }
  | _ => none }
def mouldShippedRow : OpenClaim := { program := "ytaffhippclpbpaa", sum := "8612f43e3be71778d5a3f087103759e10184bccd98e9780ce738f6ffee8f34f2", func := "rostellum/rostellumlaw07.MouldShipped", spec := "mouldShipped", unfollowed := true, recurses := true, plainKeys := false, apart := false }
def MouldShippedSaid : Prop := mouldShippedRow.holds Try.pinned (OpenSpec.ofChange mouldShippedSpec)

/-- ITS FALSE NEIGHBOUR: 'it returns false'. Refute it at one input. -/
def mouldShippedWrong : ChangeSpec := { name := "mouldShipped", fn := fun _ => fun
  | [d1, d2, d3] => { results := [.lit (.bool false)], args := [d1, d2, d3] }
  | _ => none }
def MouldShippedWrongFalsely : Prop := mouldShippedRow.holds Try.pinned (OpenSpec.ofChange mouldShippedWrong)

/-- 'rostellumlaw07.MouldMore': WHATEVER THE INPUT: true; the input reads as it did. -/
def mouldMoreSpec : ChangeSpec := { name := "mouldMore", fn := fun _ => fun
  | [d1, d2, d3] => { results := [.lit (.bool true)], args := [d1, d2, d3] }
  | _ => none }
def mouldMoreRow : OpenClaim := { program := "ytaffhippclpbpaa", sum := "8612f43e3be71778d5a3f087103759e10184bccd98e9780ce738f6ffee8f34f2", func := "rostellum/rostellumlaw07.MouldMore", spec := "mouldMore", unfollowed := true, recurses := true, plainKeys := false, apart := false }
def MouldMoreSaid : Prop := mouldMoreRow.holds Try.pinned (OpenSpec.ofChange mouldMoreSpec)

/-- ITS FALSE NEIGHBOUR: 'it returns false'. Refute it at one input. -/
def mouldMoreWrong : ChangeSpec := { name := "mouldMore", fn := fun _ => fun
  | [d1, d2, d3] => { results := [.lit (.bool false)], args := [d1, d2, d3] }
  | _ => none }
def MouldMoreWrongFalsely : Prop := mouldMoreRow.holds Try.pinned (OpenSpec.ofChange mouldMoreWrong)

/-- 'rostellumlaw07.MouldFewer': WHATEVER THE INPUT: true; the input reads as it did. -/
def mouldFewerSpec : ChangeSpec := { name := "mouldFewer", fn := fun _ => fun
  | [d1, d2, d3] => { results := [.lit (.bool true)], args := [d1, d2, d3] }
  | _ => none }
def mouldFewerRow : OpenClaim := { program := "ytaffhippclpbpaa", sum := "8612f43e3be71778d5a3f087103759e10184bccd98e9780ce738f6ffee8f34f2", func := "rostellum/rostellumlaw07.MouldFewer", spec := "mouldFewer", unfollowed := true, recurses := true, plainKeys := false, apart := false }
def MouldFewerSaid : Prop := mouldFewerRow.holds Try.pinned (OpenSpec.ofChange mouldFewerSpec)

/-- ITS FALSE NEIGHBOUR: 'it returns false'. Refute it at one input. -/
def mouldFewerWrong : ChangeSpec := { name := "mouldFewer", fn := fun _ => fun
  | [d1, d2, d3] => { results := [.lit (.bool false)], args := [d1, d2, d3] }
  | _ => none }
def MouldFewerWrongFalsely : Prop := mouldFewerRow.holds Try.pinned (OpenSpec.ofChange mouldFewerWrong)

/-- 'rostellumlaw07.MouldKnown': WHATEVER THE INPUT: true; the input reads as it did. -/
def mouldKnownSpec : ChangeSpec := { name := "mouldKnown", fn := fun _ => fun
  | [] => { results := [.lit (.bool true)], args := [] }
  | _ => none }
def mouldKnownRow : OpenClaim := { program := "ytaffhippclpbpaa", sum := "8612f43e3be71778d5a3f087103759e10184bccd98e9780ce738f6ffee8f34f2", func := "rostellum/rostellumlaw07.MouldKnown", spec := "mouldKnown", unfollowed := true, recurses := true, plainKeys := false, apart := false }
def MouldKnownSaid : Prop := mouldKnownRow.holds Try.pinned (OpenSpec.ofChange mouldKnownSpec)

/-- ITS FALSE NEIGHBOUR: 'it returns false'. Refute it at one input. -/
def mouldKnownWrong : ChangeSpec := { name := "mouldKnown", fn := fun _ => fun
  | [] => { results := [.lit (.bool false)], args := [] }
  | _ => none }
def MouldKnownWrongFalsely : Prop := mouldKnownRow.holds Try.pinned (OpenSpec.ofChange mouldKnownWrong)

/- THE SECOND FORM. 'bulk': how many values and letters a reading holds, each counted each time it is reached (what is shared counts as often as it is met; a slice's spare places count too). A statement '..UptoSaid' is the law's where the arguments, and the package variables that the reading takes, are together of bulk at most 1048576: NARROWER than '..Said'. Prove '..Said' where nothing that the law and all that it calls make is longer than what came in: it says more and counts as full. Else prove '..UptoSaid'. A law counts once. -/
mutual
def uptoBulk {H : Type} : DataW H → Nat
  | .lit (.string bytes) => bytes.length + 1
  | .lit _ => 1
  | .nil => 1
  | .ptr d => uptoBulk d + 1
  | .slice elems spare => uptoBulkAll elems + uptoBulkAll spare + 1
  | .agg parts => uptoBulkAll parts + 1
  | .iface _ d => uptoBulk d + 1
  | .map entries => uptoBulkEntries entries + 1
  | .held _ => 1
def uptoBulkAll {H : Type} : List (DataW H) → Nat
  | [] => 0
  | d :: r => uptoBulk d + uptoBulkAll r
def uptoBulkEntries {H : Type} : List (Lit × DataW H) → Nat
  | [] => 0
  | x :: r => uptoBulkEntry x + uptoBulkEntries r
def uptoBulkEntry {H : Type} : Lit × DataW H → Nat
  | (.string bytes, d) => bytes.length + uptoBulk d + 1
  | (_, d) => uptoBulk d + 1
 end
def uptoSmall : (H : Type) → List (DataW H) → Bool := fun _ ds => decide (uptoBulkAll ds ≤ 1048576)
def OpenSpec.upto (s : _root_.Go.ChangeSpec) : _root_.Go.OpenSpec := { _root_.Go.OpenSpec.ofChange s with cond := some uptoSmall }

/-- 'rostellumlaw07.MouldStays', WHERE WHAT IT READS IS OF BULK AT MOST 1048576: true; the input reads as it did. -/
def mouldStaysUptoRow : OpenClaim := { program := "ytaffhippclpbpaa", sum := "8612f43e3be71778d5a3f087103759e10184bccd98e9780ce738f6ffee8f34f2", func := "rostellum/rostellumlaw07.MouldStays", spec := "mouldStays", unfollowed := true, recurses := true, plainKeys := false, apart := false, narrowed := true }
def MouldStaysUptoSaid : Prop := mouldStaysUptoRow.holds Try.pinned (OpenSpec.upto mouldStaysSpec)

/-- 'rostellumlaw07.MouldTrue', WHERE WHAT IT READS IS OF BULK AT MOST 1048576: true; the input reads as it did. -/
def mouldTrueUptoRow : OpenClaim := { program := "ytaffhippclpbpaa", sum := "8612f43e3be71778d5a3f087103759e10184bccd98e9780ce738f6ffee8f34f2", func := "rostellum/rostellumlaw07.MouldTrue", spec := "mouldTrue", unfollowed := true, recurses := true, plainKeys := false, apart := false, narrowed := true }
def MouldTrueUptoSaid : Prop := mouldTrueUptoRow.holds Try.pinned (OpenSpec.upto mouldTrueSpec)

/-- 'rostellumlaw07.MouldSome', WHERE WHAT IT READS IS OF BULK AT MOST 1048576: true; the input reads as it did. -/
def mouldSomeUptoRow : OpenClaim := { program := "ytaffhippclpbpaa", sum := "8612f43e3be71778d5a3f087103759e10184bccd98e9780ce738f6ffee8f34f2", func := "rostellum/rostellumlaw07.MouldSome", spec := "mouldSome", unfollowed := true, recurses := true, plainKeys := false, apart := false, narrowed := true }
def MouldSomeUptoSaid : Prop := mouldSomeUptoRow.holds Try.pinned (OpenSpec.upto mouldSomeSpec)

/-- 'rostellumlaw07.MouldShipped', WHERE WHAT IT READS IS OF BULK AT MOST 1048576: true; the input reads as it did. -/
def mouldShippedUptoRow : OpenClaim := { program := "ytaffhippclpbpaa", sum := "8612f43e3be71778d5a3f087103759e10184bccd98e9780ce738f6ffee8f34f2", func := "rostellum/rostellumlaw07.MouldShipped", spec := "mouldShipped", unfollowed := true, recurses := true, plainKeys := false, apart := false, narrowed := true }
def MouldShippedUptoSaid : Prop := mouldShippedUptoRow.holds Try.pinned (OpenSpec.upto mouldShippedSpec)

/-- 'rostellumlaw07.MouldMore', WHERE WHAT IT READS IS OF BULK AT MOST 1048576: true; the input reads as it did. -/
def mouldMoreUptoRow : OpenClaim := { program := "ytaffhippclpbpaa", sum := "8612f43e3be71778d5a3f087103759e10184bccd98e9780ce738f6ffee8f34f2", func := "rostellum/rostellumlaw07.MouldMore", spec := "mouldMore", unfollowed := true, recurses := true, plainKeys := false, apart := false, narrowed := true }
def MouldMoreUptoSaid : Prop := mouldMoreUptoRow.holds Try.pinned (OpenSpec.upto mouldMoreSpec)

/-- 'rostellumlaw07.MouldFewer', WHERE WHAT IT READS IS OF BULK AT MOST 1048576: true; the input reads as it did. -/
def mouldFewerUptoRow : OpenClaim := { program := "ytaffhippclpbpaa", sum := "8612f43e3be71778d5a3f087103759e10184bccd98e9780ce738f6ffee8f34f2", func := "rostellum/rostellumlaw07.MouldFewer", spec := "mouldFewer", unfollowed := true, recurses := true, plainKeys := false, apart := false, narrowed := true }
def MouldFewerUptoSaid : Prop := mouldFewerUptoRow.holds Try.pinned (OpenSpec.upto mouldFewerSpec)

/-- 'rostellumlaw07.MouldKnown', WHERE WHAT IT READS IS OF BULK AT MOST 1048576: true; the input reads as it did. -/
def mouldKnownUptoRow : OpenClaim := { program := "ytaffhippclpbpaa", sum := "8612f43e3be71778d5a3f087103759e10184bccd98e9780ce738f6ffee8f34f2", func := "rostellum/rostellumlaw07.MouldKnown", spec := "mouldKnown", unfollowed := true, recurses := true, plainKeys := false, apart := false, narrowed := true }
def MouldKnownUptoSaid : Prop := mouldKnownUptoRow.holds Try.pinned (OpenSpec.upto mouldKnownSpec)

end Rows
end Go.Proofs.Ytaffhippclpbpaa
