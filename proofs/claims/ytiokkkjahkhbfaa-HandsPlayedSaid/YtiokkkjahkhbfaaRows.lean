/-
  No cell of these rows narrows 'for every input' (looked for: loops, veiled, ifaces, maps, wideKeys, modest, calm, conditions, laid).
  DERIVED. THE GIVEN ROWS OF THIS SEAT. 8 by the template 'for every input the law returns true; each argument reads behind the call as it read before'; 0 by the template 'total and deterministic' (their statements: YtiokkkjahkhbfaaTotals.lean).
  GIVEN WITH THE SEED: the statements are not yours to turn. If you find one false, say at which input.
  Laid BY PROGRAM, IN A SANDBOX (cutbox-rows.mjs): the forced cells as the released guide's own fill.sh prints them over the translation 5026fb94187ea55c… (all of the seat's roots in one cut). By AI agents, Wed Nov 11 2026. No macro, syntax, notation, axiom, sorry.
-/
import Derived.Test.YtiokkkjahkhbfaaChecked
import GoSem.Claim
import GoSem.ClaimJoined
import GoSem.ClaimMapViews
import Derived.JoinedTies
import Derived.KernelRfl
namespace Go.Proofs.Ytiokkkjahkhbfaa
/- THE CELL 'sum', in the pinned program and in every row, IS THE sha256 OF THE DUMP (.gsa) THAT YtiokkkjahkhbfaaProg.lean LOADS. Nothing in Lean hashes anything: it is a label: what it is worth is what the hold of that sum in a sandbox is worth. -/
noncomputable def Try.pinned : Pinned := { name := "ytiokkkjahkhbfaa", sum := "5026fb94187ea55c98a71f074b91d55aab85407d02b105021c4f6ccd866ad028", checked := Try.checked }
namespace Rows
def none {H : Type} : Left H := { results := [], args := [] }

/-- 'rostellumlaw02.HandsSeasons': WHATEVER THE INPUT: true; the input reads as it did. -/
def handsSeasonsSpec : ChangeSpec := { name := "handsSeasons", fn := fun _ => fun
  | [d] => { results := [.lit (.bool true)], args := [d] }
  | _ => none }
def handsSeasonsRow : OpenClaim := { program := "ytiokkkjahkhbfaa", sum := "5026fb94187ea55c98a71f074b91d55aab85407d02b105021c4f6ccd866ad028", func := "rostellum/rostellumlaw02.HandsSeasons", spec := "handsSeasons", unfollowed := true, recurses := true, plainKeys := false, apart := false }
def HandsSeasonsSaid : Prop := handsSeasonsRow.holds Try.pinned (OpenSpec.ofChange handsSeasonsSpec)

/-- ITS FALSE NEIGHBOUR: 'it returns false'. Refute it at one input. -/
def handsSeasonsWrong : ChangeSpec := { name := "handsSeasons", fn := fun _ => fun
  | [d] => { results := [.lit (.bool false)], args := [d] }
  | _ => none }
def HandsSeasonsWrongFalsely : Prop := handsSeasonsRow.holds Try.pinned (OpenSpec.ofChange handsSeasonsWrong)

/-- 'rostellumlaw02.HandsPlays': WHATEVER THE INPUT: true; the input reads as it did. -/
def handsPlaysSpec : ChangeSpec := { name := "handsPlays", fn := fun _ => fun
  | [d1, d2, d3] => { results := [.lit (.bool true)], args := [d1, d2, d3] }
  | _ => none }
def handsPlaysRow : OpenClaim := { program := "ytiokkkjahkhbfaa", sum := "5026fb94187ea55c98a71f074b91d55aab85407d02b105021c4f6ccd866ad028", func := "rostellum/rostellumlaw02.HandsPlays", spec := "handsPlays", unfollowed := true, recurses := true, plainKeys := false, apart := false }
def HandsPlaysSaid : Prop := handsPlaysRow.holds Try.pinned (OpenSpec.ofChange handsPlaysSpec)

/-- ITS FALSE NEIGHBOUR: 'it returns false'. Refute it at one input. -/
def handsPlaysWrong : ChangeSpec := { name := "handsPlays", fn := fun _ => fun
  | [d1, d2, d3] => { results := [.lit (.bool false)], args := [d1, d2, d3] }
  | _ => none }
def HandsPlaysWrongFalsely : Prop := handsPlaysRow.holds Try.pinned (OpenSpec.ofChange handsPlaysWrong)

/-- 'rostellumlaw02.HandsPlans': WHATEVER THE INPUT: true; the input reads as it did. -/
def handsPlansSpec : ChangeSpec := { name := "handsPlans", fn := fun _ => fun
  | [d1, d2, d3] => { results := [.lit (.bool true)], args := [d1, d2, d3] }
  | _ => none }
def handsPlansRow : OpenClaim := { program := "ytiokkkjahkhbfaa", sum := "5026fb94187ea55c98a71f074b91d55aab85407d02b105021c4f6ccd866ad028", func := "rostellum/rostellumlaw02.HandsPlans", spec := "handsPlans", unfollowed := true, recurses := true, plainKeys := false, apart := false }
def HandsPlansSaid : Prop := handsPlansRow.holds Try.pinned (OpenSpec.ofChange handsPlansSpec)

/-- ITS FALSE NEIGHBOUR: 'it returns false'. Refute it at one input. -/
def handsPlansWrong : ChangeSpec := { name := "handsPlans", fn := fun _ => fun
  | [d1, d2, d3] => { results := [.lit (.bool false)], args := [d1, d2, d3] }
  | _ => none }
def HandsPlansWrongFalsely : Prop := handsPlansRow.holds Try.pinned (OpenSpec.ofChange handsPlansWrong)

/-- 'rostellumlaw02.HandsBounded': WHATEVER THE INPUT: true; the input reads as it did. -/
def handsBoundedSpec : ChangeSpec := { name := "handsBounded", fn := fun _ => fun
  | [d1, d2, d3, d4] => { results := [.lit (.bool true)], args := [d1, d2, d3, d4] }
  | _ => none }
def handsBoundedRow : OpenClaim := { program := "ytiokkkjahkhbfaa", sum := "5026fb94187ea55c98a71f074b91d55aab85407d02b105021c4f6ccd866ad028", func := "rostellum/rostellumlaw02.HandsBounded", spec := "handsBounded", unfollowed := true, recurses := true, plainKeys := false, apart := false }
def HandsBoundedSaid : Prop := handsBoundedRow.holds Try.pinned (OpenSpec.ofChange handsBoundedSpec)

/-- ITS FALSE NEIGHBOUR: 'it returns false'. Refute it at one input. -/
def handsBoundedWrong : ChangeSpec := { name := "handsBounded", fn := fun _ => fun
  | [d1, d2, d3, d4] => { results := [.lit (.bool false)], args := [d1, d2, d3, d4] }
  | _ => none }
def HandsBoundedWrongFalsely : Prop := handsBoundedRow.holds Try.pinned (OpenSpec.ofChange handsBoundedWrong)

/-- 'rostellumlaw02.HandsSure': WHATEVER THE INPUT: true; the input reads as it did. -/
def handsSureSpec : ChangeSpec := { name := "handsSure", fn := fun _ => fun
  | [d1, d2] => { results := [.lit (.bool true)], args := [d1, d2] }
  | _ => none }
def handsSureRow : OpenClaim := { program := "ytiokkkjahkhbfaa", sum := "5026fb94187ea55c98a71f074b91d55aab85407d02b105021c4f6ccd866ad028", func := "rostellum/rostellumlaw02.HandsSure", spec := "handsSure", unfollowed := true, recurses := true, plainKeys := false, apart := false }
def HandsSureSaid : Prop := handsSureRow.holds Try.pinned (OpenSpec.ofChange handsSureSpec)

/-- ITS FALSE NEIGHBOUR: 'it returns false'. Refute it at one input. -/
def handsSureWrong : ChangeSpec := { name := "handsSure", fn := fun _ => fun
  | [d1, d2] => { results := [.lit (.bool false)], args := [d1, d2] }
  | _ => none }
def HandsSureWrongFalsely : Prop := handsSureRow.holds Try.pinned (OpenSpec.ofChange handsSureWrong)

/-- 'rostellumlaw02.HandsPlayed': WHATEVER THE INPUT: true; the input reads as it did. -/
def handsPlayedSpec : ChangeSpec := { name := "handsPlayed", fn := fun _ => fun
  | [d1, d2, d3] => { results := [.lit (.bool true)], args := [d1, d2, d3] }
  | _ => none }
def handsPlayedRow : OpenClaim := { program := "ytiokkkjahkhbfaa", sum := "5026fb94187ea55c98a71f074b91d55aab85407d02b105021c4f6ccd866ad028", func := "rostellum/rostellumlaw02.HandsPlayed", spec := "handsPlayed", unfollowed := true, recurses := true, plainKeys := false, apart := false }
def HandsPlayedSaid : Prop := handsPlayedRow.holds Try.pinned (OpenSpec.ofChange handsPlayedSpec)

/-- ITS FALSE NEIGHBOUR: 'it returns false'. Refute it at one input. -/
def handsPlayedWrong : ChangeSpec := { name := "handsPlayed", fn := fun _ => fun
  | [d1, d2, d3] => { results := [.lit (.bool false)], args := [d1, d2, d3] }
  | _ => none }
def HandsPlayedWrongFalsely : Prop := handsPlayedRow.holds Try.pinned (OpenSpec.ofChange handsPlayedWrong)

/-- 'rostellumlaw02.HandsMore': WHATEVER THE INPUT: true; the input reads as it did. -/
def handsMoreSpec : ChangeSpec := { name := "handsMore", fn := fun _ => fun
  | [d1, d2] => { results := [.lit (.bool true)], args := [d1, d2] }
  | _ => none }
def handsMoreRow : OpenClaim := { program := "ytiokkkjahkhbfaa", sum := "5026fb94187ea55c98a71f074b91d55aab85407d02b105021c4f6ccd866ad028", func := "rostellum/rostellumlaw02.HandsMore", spec := "handsMore", unfollowed := true, recurses := true, plainKeys := false, apart := false }
def HandsMoreSaid : Prop := handsMoreRow.holds Try.pinned (OpenSpec.ofChange handsMoreSpec)

/-- ITS FALSE NEIGHBOUR: 'it returns false'. Refute it at one input. -/
def handsMoreWrong : ChangeSpec := { name := "handsMore", fn := fun _ => fun
  | [d1, d2] => { results := [.lit (.bool false)], args := [d1, d2] }
  | _ => none }
def HandsMoreWrongFalsely : Prop := handsMoreRow.holds Try.pinned (OpenSpec.ofChange handsMoreWrong)

/-- 'rostellumlaw02.HandsKnown': WHATEVER THE INPUT: true; the input reads as it did. -/
def handsKnownSpec : ChangeSpec := { name := "handsKnown", fn := fun _ => fun
  | [] => { results := [.lit (.bool true)], args := [] }
  | _ => none }
def handsKnownRow : OpenClaim := { program := "ytiokkkjahkhbfaa", sum := "5026fb94187ea55c98a71f074b91d55aab85407d02b105021c4f6ccd866ad028", func := "rostellum/rostellumlaw02.HandsKnown", spec := "handsKnown", unfollowed := true, recurses := true, plainKeys := false, apart := false }
def HandsKnownSaid : Prop := handsKnownRow.holds Try.pinned (OpenSpec.ofChange handsKnownSpec)

/-- ITS FALSE NEIGHBOUR: 'it returns false'. Refute it at one input. -/
def handsKnownWrong : ChangeSpec := { name := "handsKnown", fn := fun _ => fun
  | [] => { results := [.lit (.bool false)], args := [] }
  | _ => none }
def HandsKnownWrongFalsely : Prop := handsKnownRow.holds Try.pinned (OpenSpec.ofChange handsKnownWrong)

/- THE SECOND FORM. 'bulk': how many values and letters a reading holds, each counted each time it is reached (what is shared counts as often as it is met; a slice's spare places count too). A statement '..UptoSaid' is the law's where the arguments, and the package variables that the reading takes, are together of bulk at most 1048576: NARROWER than '..Said'. Prove '..Said' where nothing that the law and all that it calls make is longer than what came in: it says more and counts as full. Else prove '..UptoSaid'. A law counts once. -/
mutual
def uptoBulk {H : Type} : DataW H → Nat
  | .lit (.string bytes) => bytes.length + 1
  | .lit _ => 1
  | .nil => 1
  | .ptr d => uptoBulk d + 1
  | .slice elems spare => uptoBulkAll elems + uptoBulkAll spare + 1
  | .agg parts => uptoBulkAll parts + 1
  | .iface _ d => uptoBulk d + 1
  | .map entries => uptoBulkEntries entries + 1
  | .held _ => 1
def uptoBulkAll {H : Type} : List (DataW H) → Nat
  | [] => 0
  | d :: r => uptoBulk d + uptoBulkAll r
def uptoBulkEntries {H : Type} : List (Lit × DataW H) → Nat
  | [] => 0
  | x :: r => uptoBulkEntry x + uptoBulkEntries r
def uptoBulkEntry {H : Type} : Lit × DataW H → Nat
  | (.string bytes, d) => bytes.length + uptoBulk d + 1
  | (_, d) => uptoBulk d + 1
 end
def uptoSmall : (H : Type) → List (DataW H) → Bool := fun _ ds => decide (uptoBulkAll ds ≤ 1048576)
def OpenSpec.upto (s : _root_.Go.ChangeSpec) : _root_.Go.OpenSpec := { _root_.Go.OpenSpec.ofChange s with cond := some uptoSmall }

/-- 'rostellumlaw02.HandsSeasons', WHERE WHAT IT READS IS OF BULK AT MOST 1048576: true; the input reads as it did. -/
def handsSeasonsUptoRow : OpenClaim := { program := "ytiokkkjahkhbfaa", sum := "5026fb94187ea55c98a71f074b91d55aab85407d02b105021c4f6ccd866ad028", func := "rostellum/rostellumlaw02.HandsSeasons", spec := "handsSeasons", unfollowed := true, recurses := true, plainKeys := false, apart := false, narrowed := true }
def HandsSeasonsUptoSaid : Prop := handsSeasonsUptoRow.holds Try.pinned (OpenSpec.upto handsSeasonsSpec)

/-- 'rostellumlaw02.HandsPlays', WHERE WHAT IT READS IS OF BULK AT MOST 1048576: true; the input reads as it did. -/
def handsPlaysUptoRow : OpenClaim := { program := "ytiokkkjahkhbfaa", sum := "5026fb94187ea55c98a71f074b91d55aab85407d02b105021c4f6ccd866ad028", func := "rostellum/rostellumlaw02.HandsPlays", spec := "handsPlays", unfollowed := true, recurses := true, plainKeys := false, apart := false, narrowed := true }
def HandsPlaysUptoSaid : Prop := handsPlaysUptoRow.holds Try.pinned (OpenSpec.upto handsPlaysSpec)

/-- 'rostellumlaw02.HandsPlans', WHERE WHAT IT READS IS OF BULK AT MOST 1048576: true; the input reads as it did. -/
def handsPlansUptoRow : OpenClaim := { program := "ytiokkkjahkhbfaa", sum := "5026fb94187ea55c98a71f074b91d55aab85407d02b105021c4f6ccd866ad028", func := "rostellum/rostellumlaw02.HandsPlans", spec := "handsPlans", unfollowed := true, recurses := true, plainKeys := false, apart := false, narrowed := true }
def HandsPlansUptoSaid : Prop := handsPlansUptoRow.holds Try.pinned (OpenSpec.upto handsPlansSpec)

/-- 'rostellumlaw02.HandsBounded', WHERE WHAT IT READS IS OF BULK AT MOST 1048576: true; the input reads as it did. -/
def handsBoundedUptoRow : OpenClaim := { program := "ytiokkkjahkhbfaa", sum := "5026fb94187ea55c98a71f074b91d55aab85407d02b105021c4f6ccd866ad028", func := "rostellum/rostellumlaw02.HandsBounded", spec := "handsBounded", unfollowed := true, recurses := true, plainKeys := false, apart := false, narrowed := true }
def HandsBoundedUptoSaid : Prop := handsBoundedUptoRow.holds Try.pinned (OpenSpec.upto handsBoundedSpec)

/-- 'rostellumlaw02.HandsSure', WHERE WHAT IT READS IS OF BULK AT MOST 1048576: true; the input reads as it did. -/
def handsSureUptoRow : OpenClaim := { program := "ytiokkkjahkhbfaa", sum := "5026fb94187ea55c98a71f074b91d55aab85407d02b105021c4f6ccd866ad028", func := "rostellum/rostellumlaw02.HandsSure", spec := "handsSure", unfollowed := true, recurses := true, plainKeys := false, apart := false, narrowed := true }
def HandsSureUptoSaid : Prop := handsSureUptoRow.holds Try.pinned (OpenSpec.upto handsSureSpec)

/-- 'rostellumlaw02.HandsPlayed', WHERE WHAT IT READS IS OF BULK AT MOST 1048576: true; the input reads as it did. -/
def handsPlayedUptoRow : OpenClaim := { program := "ytiokkkjahkhbfaa", sum := "5026fb94187ea55c98a71f074b91d55aab85407d02b105021c4f6ccd866ad028", func := "rostellum/rostellumlaw02.HandsPlayed", spec := "handsPlayed", unfollowed := true, recurses := true, plainKeys := false, apart := false, narrowed := true }
def HandsPlayedUptoSaid : Prop := handsPlayedUptoRow.holds Try.pinned (OpenSpec.upto handsPlayedSpec)

/-- 'rostellumlaw02.HandsMore', WHERE WHAT IT READS IS OF BULK AT MOST 1048576: true; the input reads as it did. -/
def handsMoreUptoRow : OpenClaim := { program := "ytiokkkjahkhbfaa", sum := "5026fb94187ea55c98a71f074b91d55aab85407d02b105021c4f6ccd866ad028", func := "rostellum/rostellumlaw02.HandsMore", spec := "handsMore", unfollowed := true, recurses := true, plainKeys := false, apart := false, narrowed := true }
def HandsMoreUptoSaid : Prop := handsMoreUptoRow.holds Try.pinned (OpenSpec.upto handsMoreSpec)

/-- 'rostellumlaw02.HandsKnown', WHERE WHAT IT READS IS OF BULK AT MOST 1048576: true; the input reads as it did. -/
def handsKnownUptoRow : OpenClaim := { program := "ytiokkkjahkhbfaa", sum := "5026fb94187ea55c98a71f074b91d55aab85407d02b105021c4f6ccd866ad028", func := "rostellum/rostellumlaw02.HandsKnown", spec := "handsKnown", unfollowed := true, recurses := true, plainKeys := false, apart := false, narrowed := true }
def HandsKnownUptoSaid : Prop := handsKnownUptoRow.holds Try.pinned (OpenSpec.upto handsKnownSpec)

end Rows
end Go.Proofs.Ytiokkkjahkhbfaa
