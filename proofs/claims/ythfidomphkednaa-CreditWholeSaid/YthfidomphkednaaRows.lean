/-
  No cell of these rows narrows 'for every input' (looked for: loops, veiled, ifaces, maps, wideKeys, modest, calm, conditions, laid).
  DERIVED. THE GIVEN ROWS OF THIS SEAT. 11 by the template 'for every input the law returns true; each argument reads behind the call as it read before'; 0 by the template 'total and deterministic' (their statements: YthfidomphkednaaTotals.lean).
  GIVEN WITH THE SEED: the statements are not yours to turn. If you find one false, say at which input.
  Laid BY PROGRAM, IN A SANDBOX (cutbox-rows.mjs): the forced cells as the released guide's own fill.sh prints them over the translation b10dd80924f74f08… (all of the seat's roots in one cut). By AI agents, Wed Nov 11 2026. No macro, syntax, notation, axiom, sorry.
-/
import Derived.Test.YthfidomphkednaaChecked
import GoSem.Claim
import GoSem.ClaimJoined
import GoSem.ClaimMapViews
import Derived.JoinedTies
import Derived.KernelRfl
namespace Go.Proofs.Ythfidomphkednaa
/- THE CELL 'sum', in the pinned program and in every row, IS THE sha256 OF THE DUMP (.gsa) THAT YthfidomphkednaaProg.lean LOADS. Nothing in Lean hashes anything: it is a label: what it is worth is what the hold of that sum in a sandbox is worth. -/
noncomputable def Try.pinned : Pinned := { name := "ythfidomphkednaa", sum := "b10dd80924f74f086be65d4591edb78d2c5c19df240180216a633af2d645e926", checked := Try.checked }
namespace Rows
def none {H : Type} : Left H := { results := [], args := [] }

/-- 'rostellumlaw09.CreditPays': WHATEVER THE INPUT: true; the input reads as it did. -/
def creditPaysSpec : ChangeSpec := { name := "creditPays", fn := fun _ => fun
  | [d1, d2] => { results := [.lit (.bool true)], args := [d1, d2] }
  | _ => none }
def creditPaysRow : OpenClaim := { program := "ythfidomphkednaa", sum := "b10dd80924f74f086be65d4591edb78d2c5c19df240180216a633af2d645e926", func := "rostellum/rostellumlaw09.CreditPays", spec := "creditPays", unfollowed := true, recurses := true, apart := false }
def CreditPaysSaid : Prop := creditPaysRow.holds Try.pinned (OpenSpec.ofChange creditPaysSpec)

/-- ITS FALSE NEIGHBOUR: 'it returns false'. Refute it at one input. -/
def creditPaysWrong : ChangeSpec := { name := "creditPays", fn := fun _ => fun
  | [d1, d2] => { results := [.lit (.bool false)], args := [d1, d2] }
  | _ => none }
def CreditPaysWrongFalsely : Prop := creditPaysRow.holds Try.pinned (OpenSpec.ofChange creditPaysWrong)

/-- 'rostellumlaw09.CreditClears': WHATEVER THE INPUT: true; the input reads as it did. -/
def creditClearsSpec : ChangeSpec := { name := "creditClears", fn := fun _ => fun
  | [d] => { results := [.lit (.bool true)], args := [d] }
  | _ => none }
def creditClearsRow : OpenClaim := { program := "ythfidomphkednaa", sum := "b10dd80924f74f086be65d4591edb78d2c5c19df240180216a633af2d645e926", func := "rostellum/rostellumlaw09.CreditClears", spec := "creditClears", unfollowed := true, recurses := true, apart := false }
def CreditClearsSaid : Prop := creditClearsRow.holds Try.pinned (OpenSpec.ofChange creditClearsSpec)

/-- ITS FALSE NEIGHBOUR: 'it returns false'. Refute it at one input. -/
def creditClearsWrong : ChangeSpec := { name := "creditClears", fn := fun _ => fun
  | [d] => { results := [.lit (.bool false)], args := [d] }
  | _ => none }
def CreditClearsWrongFalsely : Prop := creditClearsRow.holds Try.pinned (OpenSpec.ofChange creditClearsWrong)

/-- 'rostellumlaw09.CreditRescues': WHATEVER THE INPUT: true; the input reads as it did. -/
def creditRescuesSpec : ChangeSpec := { name := "creditRescues", fn := fun _ => fun
  | [d1, d2] => { results := [.lit (.bool true)], args := [d1, d2] }
  | _ => none }
def creditRescuesRow : OpenClaim := { program := "ythfidomphkednaa", sum := "b10dd80924f74f086be65d4591edb78d2c5c19df240180216a633af2d645e926", func := "rostellum/rostellumlaw09.CreditRescues", spec := "creditRescues", unfollowed := true, recurses := true, apart := false }
def CreditRescuesSaid : Prop := creditRescuesRow.holds Try.pinned (OpenSpec.ofChange creditRescuesSpec)

/-- ITS FALSE NEIGHBOUR: 'it returns false'. Refute it at one input. -/
def creditRescuesWrong : ChangeSpec := { name := "creditRescues", fn := fun _ => fun
  | [d1, d2] => { results := [.lit (.bool false)], args := [d1, d2] }
  | _ => none }
def CreditRescuesWrongFalsely : Prop := creditRescuesRow.holds Try.pinned (OpenSpec.ofChange creditRescuesWrong)

/-- 'rostellumlaw09.CreditShares': WHATEVER THE INPUT: true; the input reads as it did. -/
def creditSharesSpec : ChangeSpec := { name := "creditShares", fn := fun _ => fun
  | [d1, d2] => { results := [.lit (.bool true)], args := [d1, d2] }
  | _ => none }
def creditSharesRow : OpenClaim := { program := "ythfidomphkednaa", sum := "b10dd80924f74f086be65d4591edb78d2c5c19df240180216a633af2d645e926", func := "rostellum/rostellumlaw09.CreditShares", spec := "creditShares", unfollowed := true, recurses := true, apart := false }
def CreditSharesSaid : Prop := creditSharesRow.holds Try.pinned (OpenSpec.ofChange creditSharesSpec)

/-- ITS FALSE NEIGHBOUR: 'it returns false'. Refute it at one input. -/
def creditSharesWrong : ChangeSpec := { name := "creditShares", fn := fun _ => fun
  | [d1, d2] => { results := [.lit (.bool false)], args := [d1, d2] }
  | _ => none }
def CreditSharesWrongFalsely : Prop := creditSharesRow.holds Try.pinned (OpenSpec.ofChange creditSharesWrong)

/-- 'rostellumlaw09.CreditPaid': WHATEVER THE INPUT: true; the input reads as it did. -/
def creditPaidSpec : ChangeSpec := { name := "creditPaid", fn := fun _ => fun
  | [d1, d2, d3] => { results := [.lit (.bool true)], args := [d1, d2, d3] }
  | _ => none }
def creditPaidRow : OpenClaim := { program := "ythfidomphkednaa", sum := "b10dd80924f74f086be65d4591edb78d2c5c19df240180216a633af2d645e926", func := "rostellum/rostellumlaw09.CreditPaid", spec := "creditPaid", unfollowed := true, recurses := true, apart := false }
def CreditPaidSaid : Prop := creditPaidRow.holds Try.pinned (OpenSpec.ofChange creditPaidSpec)

/-- ITS FALSE NEIGHBOUR: 'it returns false'. Refute it at one input. -/
def creditPaidWrong : ChangeSpec := { name := "creditPaid", fn := fun _ => fun
  | [d1, d2, d3] => { results := [.lit (.bool false)], args := [d1, d2, d3] }
  | _ => none }
def CreditPaidWrongFalsely : Prop := creditPaidRow.holds Try.pinned (OpenSpec.ofChange creditPaidWrong)

/-- 'rostellumlaw09.CreditSettled': WHATEVER THE INPUT: true; the input reads as it did. -/
def creditSettledSpec : ChangeSpec := { name := "creditSettled", fn := fun _ => fun
  | [d1, d2] => { results := [.lit (.bool true)], args := [d1, d2] }
  | _ => none }
def creditSettledRow : OpenClaim := { program := "ythfidomphkednaa", sum := "b10dd80924f74f086be65d4591edb78d2c5c19df240180216a633af2d645e926", func := "rostellum/rostellumlaw09.CreditSettled", spec := "creditSettled", unfollowed := true, recurses := true, apart := false }
def CreditSettledSaid : Prop := creditSettledRow.holds Try.pinned (OpenSpec.ofChange creditSettledSpec)

/-- ITS FALSE NEIGHBOUR: 'it returns false'. Refute it at one input. -/
def creditSettledWrong : ChangeSpec := { name := "creditSettled", fn := fun _ => fun
  | [d1, d2] => { results := [.lit (.bool false)], args := [d1, d2] }
  | _ => none }
def CreditSettledWrongFalsely : Prop := creditSettledRow.holds Try.pinned (OpenSpec.ofChange creditSettledWrong)

/-- 'rostellumlaw09.CreditCents': WHATEVER THE INPUT: true; the input reads as it did. -/
def creditCentsSpec : ChangeSpec := { name := "creditCents", fn := fun _ => fun
  | [d] => { results := [.lit (.bool true)], args := [d] }
  | _ => none }
def creditCentsRow : OpenClaim := { program := "ythfidomphkednaa", sum := "b10dd80924f74f086be65d4591edb78d2c5c19df240180216a633af2d645e926", func := "rostellum/rostellumlaw09.CreditCents", spec := "creditCents", unfollowed := true, recurses := true, apart := false }
def CreditCentsSaid : Prop := creditCentsRow.holds Try.pinned (OpenSpec.ofChange creditCentsSpec)

/-- ITS FALSE NEIGHBOUR: 'it returns false'. Refute it at one input. -/
def creditCentsWrong : ChangeSpec := { name := "creditCents", fn := fun _ => fun
  | [d] => { results := [.lit (.bool false)], args := [d] }
  | _ => none }
def CreditCentsWrongFalsely : Prop := creditCentsRow.holds Try.pinned (OpenSpec.ofChange creditCentsWrong)

/-- 'rostellumlaw09.CreditMore': WHATEVER THE INPUT: true; the input reads as it did. -/
def creditMoreSpec : ChangeSpec := { name := "creditMore", fn := fun _ => fun
  | [d1, d2] => { results := [.lit (.bool true)], args := [d1, d2] }
  | _ => none }
def creditMoreRow : OpenClaim := { program := "ythfidomphkednaa", sum := "b10dd80924f74f086be65d4591edb78d2c5c19df240180216a633af2d645e926", func := "rostellum/rostellumlaw09.CreditMore", spec := "creditMore", unfollowed := true, recurses := true, apart := false }
def CreditMoreSaid : Prop := creditMoreRow.holds Try.pinned (OpenSpec.ofChange creditMoreSpec)

/-- ITS FALSE NEIGHBOUR: 'it returns false'. Refute it at one input. -/
def creditMoreWrong : ChangeSpec := { name := "creditMore", fn := fun _ => fun
  | [d1, d2] => { results := [.lit (.bool false)], args := [d1, d2] }
  | _ => none }
def CreditMoreWrongFalsely : Prop := creditMoreRow.holds Try.pinned (OpenSpec.ofChange creditMoreWrong)

/-- 'rostellumlaw09.CreditRescued': WHATEVER THE INPUT: true; the input reads as it did. -/
def creditRescuedSpec : ChangeSpec := { name := "creditRescued", fn := fun _ => fun
  | [d1, d2, d3] => { results := [.lit (.bool true)], args := [d1, d2, d3] }
  | _ => none }
def creditRescuedRow : OpenClaim := { program := "ythfidomphkednaa", sum := "b10dd80924f74f086be65d4591edb78d2c5c19df240180216a633af2d645e926", func := "rostellum/rostellumlaw09.CreditRescued", spec := "creditRescued", unfollowed := true, recurses := true, apart := false }
def CreditRescuedSaid : Prop := creditRescuedRow.holds Try.pinned (OpenSpec.ofChange creditRescuedSpec)

/-- ITS FALSE NEIGHBOUR: 'it returns false'. Refute it at one input. -/
def creditRescuedWrong : ChangeSpec := { name := "creditRescued", fn := fun _ => fun
  | [d1, d2, d3] => { results := [.lit (.bool false)], args := [d1, d2, d3] }
  | _ => none }
def CreditRescuedWrongFalsely : Prop := creditRescuedRow.holds Try.pinned (OpenSpec.ofChange creditRescuedWrong)

/-- 'rostellumlaw09.CreditWhole': WHATEVER THE INPUT: true; the input reads as it did. -/
def creditWholeSpec : ChangeSpec := { name := "creditWhole", fn := fun _ => fun
  | [d1, d2] => { results := [.lit (.bool true)], args := [d1, d2] }
  | _ => none }
def creditWholeRow : OpenClaim := { program := "ythfidomphkednaa", sum := "b10dd80924f74f086be65d4591edb78d2c5c19df240180216a633af2d645e926", func := "rostellum/rostellumlaw09.CreditWhole", spec := "creditWhole", unfollowed := true, recurses := true, apart := false }
def CreditWholeSaid : Prop := creditWholeRow.holds Try.pinned (OpenSpec.ofChange creditWholeSpec)

/-- ITS FALSE NEIGHBOUR: 'it returns false'. Refute it at one input. -/
def creditWholeWrong : ChangeSpec := { name := "creditWhole", fn := fun _ => fun
  | [d1, d2] => { results := [.lit (.bool false)], args := [d1, d2] }
  | _ => none }
def CreditWholeWrongFalsely : Prop := creditWholeRow.holds Try.pinned (OpenSpec.ofChange creditWholeWrong)

/-- 'rostellumlaw09.CreditKnown': WHATEVER THE INPUT: true; the input reads as it did. -/
def creditKnownSpec : ChangeSpec := { name := "creditKnown", fn := fun _ => fun
  | [] => { results := [.lit (.bool true)], args := [] }
  | _ => none }
def creditKnownRow : OpenClaim := { program := "ythfidomphkednaa", sum := "b10dd80924f74f086be65d4591edb78d2c5c19df240180216a633af2d645e926", func := "rostellum/rostellumlaw09.CreditKnown", spec := "creditKnown", unfollowed := true, recurses := true, apart := false }
def CreditKnownSaid : Prop := creditKnownRow.holds Try.pinned (OpenSpec.ofChange creditKnownSpec)

/-- ITS FALSE NEIGHBOUR: 'it returns false'. Refute it at one input. -/
def creditKnownWrong : ChangeSpec := { name := "creditKnown", fn := fun _ => fun
  | [] => { results := [.lit (.bool false)], args := [] }
  | _ => none }
def CreditKnownWrongFalsely : Prop := creditKnownRow.holds Try.pinned (OpenSpec.ofChange creditKnownWrong)

/- THE SECOND FORM. 'bulk': how many values and letters a reading holds, each counted each time it is reached (what is shared counts as often as it is met; a slice's spare places count too). A statement '..UptoSaid' is the law's where the arguments, and the package variables that the reading takes, are together of bulk at most 1048576: NARROWER than '..Said'. Prove '..Said' where nothing that the law and all that it calls make is longer than what came in: it says more and counts as full. Else prove '..UptoSaid'. A law counts once. -/
mutual
def uptoBulk {H : Type} : DataW H → Nat
  | .lit (.string bytes) => bytes.length + 1
  | .lit _ => 1
  | .nil => 1
  | .ptr d => uptoBulk d + 1
  | .slice elems spare => uptoBulkAll elems + uptoBulkAll spare + 1
  | .agg parts => uptoBulkAll parts + 1
  | .iface _ d => uptoBulk d + 1
  | .map entries => uptoBulkEntries entries + 1
  | .held _ => 1
def uptoBulkAll {H : Type} : List (DataW H) → Nat
  | [] => 0
  | d :: r => uptoBulk d + uptoBulkAll r
def uptoBulkEntries {H : Type} : List (Lit × DataW H) → Nat
  | [] => 0
  | x :: r => uptoBulkEntry x + uptoBulkEntries r
def uptoBulkEntry {H : Type} : Lit × DataW H → Nat
  | (.string bytes, d) => bytes.length + uptoBulk d + 1
  | (_, d) => uptoBulk d + 1
 end
def uptoSmall : (H : Type) → List (DataW H) → Bool := fun _ ds => decide (uptoBulkAll ds ≤ 1048576)
def OpenSpec.upto (s : _root_.Go.ChangeSpec) : _root_.Go.OpenSpec := { _root_.Go.OpenSpec.ofChange s with cond := some uptoSmall }

/-- 'rostellumlaw09.CreditPays', WHERE WHAT IT READS IS OF BULK AT MOST 1048576: true; the input reads as it did. -/
def creditPaysUptoRow : OpenClaim := { program := "ythfidomphkednaa", sum := "b10dd80924f74f086be65d4591edb78d2c5c19df240180216a633af2d645e926", func := "rostellum/rostellumlaw09.CreditPays", spec := "creditPays", unfollowed := true, recurses := true, apart := false, narrowed := true }
def CreditPaysUptoSaid : Prop := creditPaysUptoRow.holds Try.pinned (OpenSpec.upto creditPaysSpec)

/-- 'rostellumlaw09.CreditClears', WHERE WHAT IT READS IS OF BULK AT MOST 1048576: true; the input reads as it did. -/
def creditClearsUptoRow : OpenClaim := { program := "ythfidomphkednaa", sum := "b10dd80924f74f086be65d4591edb78d2c5c19df240180216a633af2d645e926", func := "rostellum/rostellumlaw09.CreditClears", spec := "creditClears", unfollowed := true, recurses := true, apart := false, narrowed := true }
def CreditClearsUptoSaid : Prop := creditClearsUptoRow.holds Try.pinned (OpenSpec.upto creditClearsSpec)

/-- 'rostellumlaw09.CreditRescues', WHERE WHAT IT READS IS OF BULK AT MOST 1048576: true; the input reads as it did. -/
def creditRescuesUptoRow : OpenClaim := { program := "ythfidomphkednaa", sum := "b10dd80924f74f086be65d4591edb78d2c5c19df240180216a633af2d645e926", func := "rostellum/rostellumlaw09.CreditRescues", spec := "creditRescues", unfollowed := true, recurses := true, apart := false, narrowed := true }
def CreditRescuesUptoSaid : Prop := creditRescuesUptoRow.holds Try.pinned (OpenSpec.upto creditRescuesSpec)

/-- 'rostellumlaw09.CreditShares', WHERE WHAT IT READS IS OF BULK AT MOST 1048576: true; the input reads as it did. -/
def creditSharesUptoRow : OpenClaim := { program := "ythfidomphkednaa", sum := "b10dd80924f74f086be65d4591edb78d2c5c19df240180216a633af2d645e926", func := "rostellum/rostellumlaw09.CreditShares", spec := "creditShares", unfollowed := true, recurses := true, apart := false, narrowed := true }
def CreditSharesUptoSaid : Prop := creditSharesUptoRow.holds Try.pinned (OpenSpec.upto creditSharesSpec)

/-- 'rostellumlaw09.CreditPaid', WHERE WHAT IT READS IS OF BULK AT MOST 1048576: true; the input reads as it did. -/
def creditPaidUptoRow : OpenClaim := { program := "ythfidomphkednaa", sum := "b10dd80924f74f086be65d4591edb78d2c5c19df240180216a633af2d645e926", func := "rostellum/rostellumlaw09.CreditPaid", spec := "creditPaid", unfollowed := true, recurses := true, apart := false, narrowed := true }
def CreditPaidUptoSaid : Prop := creditPaidUptoRow.holds Try.pinned (OpenSpec.upto creditPaidSpec)

/-- 'rostellumlaw09.CreditSettled', WHERE WHAT IT READS IS OF BULK AT MOST 1048576: true; the input reads as it did. -/
def creditSettledUptoRow : OpenClaim := { program := "ythfidomphkednaa", sum := "b10dd80924f74f086be65d4591edb78d2c5c19df240180216a633af2d645e926", func := "rostellum/rostellumlaw09.CreditSettled", spec := "creditSettled", unfollowed := true, recurses := true, apart := false, narrowed := true }
def CreditSettledUptoSaid : Prop := creditSettledUptoRow.holds Try.pinned (OpenSpec.upto creditSettledSpec)

/-- 'rostellumlaw09.CreditCents', WHERE WHAT IT READS IS OF BULK AT MOST 1048576: true; the input reads as it did. -/
def creditCentsUptoRow : OpenClaim := { program := "ythfidomphkednaa", sum := "b10dd80924f74f086be65d4591edb78d2c5c19df240180216a633af2d645e926", func := "rostellum/rostellumlaw09.CreditCents", spec := "creditCents", unfollowed := true, recurses := true, apart := false, narrowed := true }
def CreditCentsUptoSaid : Prop := creditCentsUptoRow.holds Try.pinned (OpenSpec.upto creditCentsSpec)

/-- 'rostellumlaw09.CreditMore', WHERE WHAT IT READS IS OF BULK AT MOST 1048576: true; the input reads as it did. -/
def creditMoreUptoRow : OpenClaim := { program := "ythfidomphkednaa", sum := "b10dd80924f74f086be65d4591edb78d2c5c19df240180216a633af2d645e926", func := "rostellum/rostellumlaw09.CreditMore", spec := "creditMore", unfollowed := true, recurses := true, apart := false, narrowed := true }
def CreditMoreUptoSaid : Prop := creditMoreUptoRow.holds Try.pinned (OpenSpec.upto creditMoreSpec)

/-- 'rostellumlaw09.CreditRescued', WHERE WHAT IT READS IS OF BULK AT MOST 1048576: true; the input reads as it did. -/
def creditRescuedUptoRow : OpenClaim := { program := "ythfidomphkednaa", sum := "b10dd80924f74f086be65d4591edb78d2c5c19df240180216a633af2d645e926", func := "rostellum/rostellumlaw09.CreditRescued", spec := "creditRescued", unfollowed := true, recurses := true, apart := false, narrowed := true }
def CreditRescuedUptoSaid : Prop := creditRescuedUptoRow.holds Try.pinned (OpenSpec.upto creditRescuedSpec)

/-- 'rostellumlaw09.CreditWhole', WHERE WHAT IT READS IS OF BULK AT MOST 1048576: true; the input reads as it did. -/
def creditWholeUptoRow : OpenClaim := { program := "ythfidomphkednaa", sum := "b10dd80924f74f086be65d4591edb78d2c5c19df240180216a633af2d645e926", func := "rostellum/rostellumlaw09.CreditWhole", spec := "creditWhole", unfollowed := true, recurses := true, apart := false, narrowed := true }
def CreditWholeUptoSaid : Prop := creditWholeUptoRow.holds Try.pinned (OpenSpec.upto creditWholeSpec)

/-- 'rostellumlaw09.CreditKnown', WHERE WHAT IT READS IS OF BULK AT MOST 1048576: true; the input reads as it did. -/
def creditKnownUptoRow : OpenClaim := { program := "ythfidomphkednaa", sum := "b10dd80924f74f086be65d4591edb78d2c5c19df240180216a633af2d645e926", func := "rostellum/rostellumlaw09.CreditKnown", spec := "creditKnown", unfollowed := true, recurses := true, apart := false, narrowed := true }
def CreditKnownUptoSaid : Prop := creditKnownUptoRow.holds Try.pinned (OpenSpec.upto creditKnownSpec)

end Rows
end Go.Proofs.Ythfidomphkednaa
