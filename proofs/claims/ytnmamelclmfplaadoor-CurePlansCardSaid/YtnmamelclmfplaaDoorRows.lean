/-
  NARROWER THAN 'FOR EVERY INPUT', by the rows' own cells (each row's printed sentence says how): CureCans: laid · CureSpans: laid · CurePlans: laid · CureTrue: laid · CureEnds: laid · CureLimit: laid · CureOdder: laid · CureNarrow: laid · CureKnown: laid.
  DERIVED. THE GIVEN ROWS OF THIS SEAT. 9 by the template 'for every input the law returns true; each argument reads behind the call as it read before'; 0 by the template 'total and deterministic' (their statements: YtnmamelclmfplaaDoorTotals.lean).
  GIVEN WITH THE SEED: the statements are not yours to turn. If you find one false, say at which input.
  Laid BY PROGRAM, IN A SANDBOX (cutbox-rows.mjs): the forced cells as the released guide's own fill.sh prints them over the translation f1ff790b9ce69b27… (all of the seat's roots in one cut). By AI agents, Wed Nov 11 2026. No macro, syntax, notation, axiom, sorry.
-/
import Derived.Test.YtnmamelclmfplaaDoorChecked
import GoSem.Claim
import GoSem.ClaimJoined
import GoSem.ClaimMapViews
import Derived.JoinedTies
import Derived.KernelRfl
namespace Go.Proofs.YtnmamelclmfplaaDoor
/- THE CELL 'sum', in the pinned program and in every row, IS THE sha256 OF THE DUMP (.gsa) THAT YtnmamelclmfplaaDoorProg.lean LOADS. Nothing in Lean hashes anything: it is a label: what it is worth is what the hold of that sum in a sandbox is worth. -/
noncomputable def Tryd.pinned : Pinned := { name := "ytnmamelclmfplaadoor", sum := "f1ff790b9ce69b2712e2814ab658f6256c0aea48c193c455f8445f2f81b8b30b", checked := Tryd.checked }
namespace Rows
def none {H : Type} : Left H := { results := [], args := [] }

/- WHAT THE LISTED PACKAGE-LEVEL VARIABLES READ AS WHEN THE CALL BEGINS. Each datum BY PROGRAM (the guide's laid-datum.mjs) off the statement by which the dump's own 'gosem.cut.vars' lays the variable. In a bare row this is a premise. The card (YtnmamelclmfplaaDoorCards.lean) ties it to the program's text. -/
def laid_rostellum_cure_limits {H : Type} : DataW H := .agg [.agg [.lit (.int .i64 0), .lit (.int .i64 60)], .agg [.lit (.int .i64 1), .lit (.int .i64 14)], .agg [.lit (.int .i64 0), .lit (.int .i64 10000)], .agg [.lit (.int .i64 1), .lit (.int .i64 1000000)], .agg [.lit (.int .i64 0), .lit (.int .i64 1010000)], .agg [.lit (.int .i64 0), .lit (.int .i64 10000)], .agg [.lit (.int .i64 0), .lit (.int .i64 1000)]]

/-- 'rostellumlaw06.CureCans': WHATEVER THE INPUT: true; the input reads as it did. -/
def cureCansSpec : ChangeSpec := { name := "cureCans", fn := fun _ => fun
  | [d1, d2] => { results := [.lit (.bool true)], args := [d1, d2] }
  | _ => none }
def cureCansRow : OpenClaim := { program := "ytnmamelclmfplaadoor", sum := "f1ff790b9ce69b2712e2814ab658f6256c0aea48c193c455f8445f2f81b8b30b", func := "rostellum/rostellumlaw06.CureCans", spec := "cureCans", unfollowed := true, recurses := true, named := ["rostellum/cure.limits"], plainKeys := false, apart := false, laid := [("rostellum/cure.limits", laid_rostellum_cure_limits)] }
def CureCansSaid : Prop := cureCansRow.holds Tryd.pinned (OpenSpec.ofChange cureCansSpec)

/-- ITS FALSE NEIGHBOUR: 'it returns false'. Refute it at one input. -/
def cureCansWrong : ChangeSpec := { name := "cureCans", fn := fun _ => fun
  | [d1, d2] => { results := [.lit (.bool false)], args := [d1, d2] }
  | _ => none }
def CureCansWrongFalsely : Prop := cureCansRow.holds Tryd.pinned (OpenSpec.ofChange cureCansWrong)

/-- 'rostellumlaw06.CureSpans': WHATEVER THE INPUT: true; the input reads as it did. -/
def cureSpansSpec : ChangeSpec := { name := "cureSpans", fn := fun _ => fun
  | [d1, d2] => { results := [.lit (.bool true)], args := [d1, d2] }
  | _ => none }
def cureSpansRow : OpenClaim := { program := "ytnmamelclmfplaadoor", sum := "f1ff790b9ce69b2712e2814ab658f6256c0aea48c193c455f8445f2f81b8b30b", func := "rostellum/rostellumlaw06.CureSpans", spec := "cureSpans", unfollowed := true, recurses := true, named := ["rostellum/cure.limits"], plainKeys := false, apart := false, laid := [("rostellum/cure.limits", laid_rostellum_cure_limits)] }
def CureSpansSaid : Prop := cureSpansRow.holds Tryd.pinned (OpenSpec.ofChange cureSpansSpec)

/-- ITS FALSE NEIGHBOUR: 'it returns false'. Refute it at one input. -/
def cureSpansWrong : ChangeSpec := { name := "cureSpans", fn := fun _ => fun
  | [d1, d2] => { results := [.lit (.bool false)], args := [d1, d2] }
  | _ => none }
def CureSpansWrongFalsely : Prop := cureSpansRow.holds Tryd.pinned (OpenSpec.ofChange cureSpansWrong)

/-- 'rostellumlaw06.CurePlans': WHATEVER THE INPUT: true; the input reads as it did. -/
def curePlansSpec : ChangeSpec := { name := "curePlans", fn := fun _ => fun
  | [d1, d2] => { results := [.lit (.bool true)], args := [d1, d2] }
  | _ => none }
def curePlansRow : OpenClaim := { program := "ytnmamelclmfplaadoor", sum := "f1ff790b9ce69b2712e2814ab658f6256c0aea48c193c455f8445f2f81b8b30b", func := "rostellum/rostellumlaw06.CurePlans", spec := "curePlans", unfollowed := true, recurses := true, named := ["rostellum/cure.limits"], plainKeys := false, apart := false, laid := [("rostellum/cure.limits", laid_rostellum_cure_limits)] }
def CurePlansSaid : Prop := curePlansRow.holds Tryd.pinned (OpenSpec.ofChange curePlansSpec)

/-- ITS FALSE NEIGHBOUR: 'it returns false'. Refute it at one input. -/
def curePlansWrong : ChangeSpec := { name := "curePlans", fn := fun _ => fun
  | [d1, d2] => { results := [.lit (.bool false)], args := [d1, d2] }
  | _ => none }
def CurePlansWrongFalsely : Prop := curePlansRow.holds Tryd.pinned (OpenSpec.ofChange curePlansWrong)

/-- 'rostellumlaw06.CureTrue': WHATEVER THE INPUT: true; the input reads as it did. -/
def cureTrueSpec : ChangeSpec := { name := "cureTrue", fn := fun _ => fun
  | [d1, d2] => { results := [.lit (.bool true)], args := [d1, d2] }
  | _ => none }
def cureTrueRow : OpenClaim := { program := "ytnmamelclmfplaadoor", sum := "f1ff790b9ce69b2712e2814ab658f6256c0aea48c193c455f8445f2f81b8b30b", func := "rostellum/rostellumlaw06.CureTrue", spec := "cureTrue", unfollowed := true, recurses := true, named := ["rostellum/cure.limits"], plainKeys := false, apart := false, laid := [("rostellum/cure.limits", laid_rostellum_cure_limits)] }
def CureTrueSaid : Prop := cureTrueRow.holds Tryd.pinned (OpenSpec.ofChange cureTrueSpec)

/-- ITS FALSE NEIGHBOUR: 'it returns false'. Refute it at one input. -/
def cureTrueWrong : ChangeSpec := { name := "cureTrue", fn := fun _ => fun
  | [d1, d2] => { results := [.lit (.bool false)], args := [d1, d2] }
  | _ => none }
def CureTrueWrongFalsely : Prop := cureTrueRow.holds Tryd.pinned (OpenSpec.ofChange cureTrueWrong)

/-- 'rostellumlaw06.CureEnds': WHATEVER THE INPUT: true; the input reads as it did. -/
def cureEndsSpec : ChangeSpec := { name := "cureEnds", fn := fun _ => fun
  | [d1, d2, d3] => { results := [.lit (.bool true)], args := [d1, d2, d3] }
  | _ => none }
def cureEndsRow : OpenClaim := { program := "ytnmamelclmfplaadoor", sum := "f1ff790b9ce69b2712e2814ab658f6256c0aea48c193c455f8445f2f81b8b30b", func := "rostellum/rostellumlaw06.CureEnds", spec := "cureEnds", unfollowed := true, recurses := true, named := ["rostellum/cure.limits"], plainKeys := false, apart := false, laid := [("rostellum/cure.limits", laid_rostellum_cure_limits)] }
def CureEndsSaid : Prop := cureEndsRow.holds Tryd.pinned (OpenSpec.ofChange cureEndsSpec)

/-- ITS FALSE NEIGHBOUR: 'it returns false'. Refute it at one input. -/
def cureEndsWrong : ChangeSpec := { name := "cureEnds", fn := fun _ => fun
  | [d1, d2, d3] => { results := [.lit (.bool false)], args := [d1, d2, d3] }
  | _ => none }
def CureEndsWrongFalsely : Prop := cureEndsRow.holds Tryd.pinned (OpenSpec.ofChange cureEndsWrong)

/-- 'rostellumlaw06.CureLimit': WHATEVER THE INPUT: true; the input reads as it did. -/
def cureLimitSpec : ChangeSpec := { name := "cureLimit", fn := fun _ => fun
  | [d1, d2, d3] => { results := [.lit (.bool true)], args := [d1, d2, d3] }
  | _ => none }
def cureLimitRow : OpenClaim := { program := "ytnmamelclmfplaadoor", sum := "f1ff790b9ce69b2712e2814ab658f6256c0aea48c193c455f8445f2f81b8b30b", func := "rostellum/rostellumlaw06.CureLimit", spec := "cureLimit", unfollowed := true, recurses := true, named := ["rostellum/cure.limits"], plainKeys := false, apart := false, laid := [("rostellum/cure.limits", laid_rostellum_cure_limits)] }
def CureLimitSaid : Prop := cureLimitRow.holds Tryd.pinned (OpenSpec.ofChange cureLimitSpec)

/-- ITS FALSE NEIGHBOUR: 'it returns false'. Refute it at one input. -/
def cureLimitWrong : ChangeSpec := { name := "cureLimit", fn := fun _ => fun
  | [d1, d2, d3] => { results := [.lit (.bool false)], args := [d1, d2, d3] }
  | _ => none }
def CureLimitWrongFalsely : Prop := cureLimitRow.holds Tryd.pinned (OpenSpec.ofChange cureLimitWrong)

/-- 'rostellumlaw06.CureOdder': WHATEVER THE INPUT: true; the input reads as it did. -/
def cureOdderSpec : ChangeSpec := { name := "cureOdder", fn := fun _ => fun
  | [d1, d2, d3] => { results := [.lit (.bool true)], args := [d1, d2, d3] }
  | _ => none }
def cureOdderRow : OpenClaim := { program := "ytnmamelclmfplaadoor", sum := "f1ff790b9ce69b2712e2814ab658f6256c0aea48c193c455f8445f2f81b8b30b", func := "rostellum/rostellumlaw06.CureOdder", spec := "cureOdder", unfollowed := true, recurses := true, named := ["rostellum/cure.limits"], plainKeys := false, apart := false, laid := [("rostellum/cure.limits", laid_rostellum_cure_limits)] }
def CureOdderSaid : Prop := cureOdderRow.holds Tryd.pinned (OpenSpec.ofChange cureOdderSpec)

/-- ITS FALSE NEIGHBOUR: 'it returns false'. Refute it at one input. -/
def cureOdderWrong : ChangeSpec := { name := "cureOdder", fn := fun _ => fun
  | [d1, d2, d3] => { results := [.lit (.bool false)], args := [d1, d2, d3] }
  | _ => none }
def CureOdderWrongFalsely : Prop := cureOdderRow.holds Tryd.pinned (OpenSpec.ofChange cureOdderWrong)

/-- 'rostellumlaw06.CureNarrow': WHATEVER THE INPUT: true; the input reads as it did. -/
def cureNarrowSpec : ChangeSpec := { name := "cureNarrow", fn := fun _ => fun
  | [d1, d2, d3] => { results := [.lit (.bool true)], args := [d1, d2, d3] }
  | _ => none }
def cureNarrowRow : OpenClaim := { program := "ytnmamelclmfplaadoor", sum := "f1ff790b9ce69b2712e2814ab658f6256c0aea48c193c455f8445f2f81b8b30b", func := "rostellum/rostellumlaw06.CureNarrow", spec := "cureNarrow", unfollowed := true, recurses := true, named := ["rostellum/cure.limits"], plainKeys := false, apart := false, laid := [("rostellum/cure.limits", laid_rostellum_cure_limits)] }
def CureNarrowSaid : Prop := cureNarrowRow.holds Tryd.pinned (OpenSpec.ofChange cureNarrowSpec)

/-- ITS FALSE NEIGHBOUR: 'it returns false'. Refute it at one input. -/
def cureNarrowWrong : ChangeSpec := { name := "cureNarrow", fn := fun _ => fun
  | [d1, d2, d3] => { results := [.lit (.bool false)], args := [d1, d2, d3] }
  | _ => none }
def CureNarrowWrongFalsely : Prop := cureNarrowRow.holds Tryd.pinned (OpenSpec.ofChange cureNarrowWrong)

/-- 'rostellumlaw06.CureKnown': WHATEVER THE INPUT: true; the input reads as it did. -/
def cureKnownSpec : ChangeSpec := { name := "cureKnown", fn := fun _ => fun
  | [] => { results := [.lit (.bool true)], args := [] }
  | _ => none }
def cureKnownRow : OpenClaim := { program := "ytnmamelclmfplaadoor", sum := "f1ff790b9ce69b2712e2814ab658f6256c0aea48c193c455f8445f2f81b8b30b", func := "rostellum/rostellumlaw06.CureKnown", spec := "cureKnown", unfollowed := true, recurses := true, named := ["rostellum/cure.limits"], plainKeys := false, apart := false, laid := [("rostellum/cure.limits", laid_rostellum_cure_limits)] }
def CureKnownSaid : Prop := cureKnownRow.holds Tryd.pinned (OpenSpec.ofChange cureKnownSpec)

/-- ITS FALSE NEIGHBOUR: 'it returns false'. Refute it at one input. -/
def cureKnownWrong : ChangeSpec := { name := "cureKnown", fn := fun _ => fun
  | [] => { results := [.lit (.bool false)], args := [] }
  | _ => none }
def CureKnownWrongFalsely : Prop := cureKnownRow.holds Tryd.pinned (OpenSpec.ofChange cureKnownWrong)

/- THE SECOND FORM. 'bulk': how many values and letters a reading holds, each counted each time it is reached (what is shared counts as often as it is met; a slice's spare places count too). A statement '..UptoSaid' is the law's where the arguments, and the package variables that the reading takes, are together of bulk at most 1048576: NARROWER than '..Said'. Prove '..Said' where nothing that the law and all that it calls make is longer than what came in: it says more and counts as full. Else prove '..UptoSaid'. A law counts once. -/
mutual
def uptoBulk {H : Type} : DataW H → Nat
  | .lit (.string bytes) => bytes.length + 1
  | .lit _ => 1
  | .nil => 1
  | .ptr d => uptoBulk d + 1
  | .slice elems spare => uptoBulkAll elems + uptoBulkAll spare + 1
  | .agg parts => uptoBulkAll parts + 1
  | .iface _ d => uptoBulk d + 1
  | .map entries => uptoBulkEntries entries + 1
  | .held _ => 1
def uptoBulkAll {H : Type} : List (DataW H) → Nat
  | [] => 0
  | d :: r => uptoBulk d + uptoBulkAll r
def uptoBulkEntries {H : Type} : List (Lit × DataW H) → Nat
  | [] => 0
  | x :: r => uptoBulkEntry x + uptoBulkEntries r
def uptoBulkEntry {H : Type} : Lit × DataW H → Nat
  | (.string bytes, d) => bytes.length + uptoBulk d + 1
  | (_, d) => uptoBulk d + 1
 end
def uptoSmall : (H : Type) → List (DataW H) → Bool := fun _ ds => decide (uptoBulkAll ds ≤ 1048576)
def OpenSpec.upto (s : _root_.Go.ChangeSpec) : _root_.Go.OpenSpec := { _root_.Go.OpenSpec.ofChange s with cond := some uptoSmall }

/-- 'rostellumlaw06.CureCans', WHERE WHAT IT READS IS OF BULK AT MOST 1048576: true; the input reads as it did. -/
def cureCansUptoRow : OpenClaim := { program := "ytnmamelclmfplaadoor", sum := "f1ff790b9ce69b2712e2814ab658f6256c0aea48c193c455f8445f2f81b8b30b", func := "rostellum/rostellumlaw06.CureCans", spec := "cureCans", unfollowed := true, recurses := true, named := ["rostellum/cure.limits"], plainKeys := false, apart := false, laid := [("rostellum/cure.limits", laid_rostellum_cure_limits)], narrowed := true }
def CureCansUptoSaid : Prop := cureCansUptoRow.holds Tryd.pinned (OpenSpec.upto cureCansSpec)

/-- 'rostellumlaw06.CureSpans', WHERE WHAT IT READS IS OF BULK AT MOST 1048576: true; the input reads as it did. -/
def cureSpansUptoRow : OpenClaim := { program := "ytnmamelclmfplaadoor", sum := "f1ff790b9ce69b2712e2814ab658f6256c0aea48c193c455f8445f2f81b8b30b", func := "rostellum/rostellumlaw06.CureSpans", spec := "cureSpans", unfollowed := true, recurses := true, named := ["rostellum/cure.limits"], plainKeys := false, apart := false, laid := [("rostellum/cure.limits", laid_rostellum_cure_limits)], narrowed := true }
def CureSpansUptoSaid : Prop := cureSpansUptoRow.holds Tryd.pinned (OpenSpec.upto cureSpansSpec)

/-- 'rostellumlaw06.CurePlans', WHERE WHAT IT READS IS OF BULK AT MOST 1048576: true; the input reads as it did. -/
def curePlansUptoRow : OpenClaim := { program := "ytnmamelclmfplaadoor", sum := "f1ff790b9ce69b2712e2814ab658f6256c0aea48c193c455f8445f2f81b8b30b", func := "rostellum/rostellumlaw06.CurePlans", spec := "curePlans", unfollowed := true, recurses := true, named := ["rostellum/cure.limits"], plainKeys := false, apart := false, laid := [("rostellum/cure.limits", laid_rostellum_cure_limits)], narrowed := true }
def CurePlansUptoSaid : Prop := curePlansUptoRow.holds Tryd.pinned (OpenSpec.upto curePlansSpec)

/-- 'rostellumlaw06.CureTrue', WHERE WHAT IT READS IS OF BULK AT MOST 1048576: true; the input reads as it did. -/
def cureTrueUptoRow : OpenClaim := { program := "ytnmamelclmfplaadoor", sum := "f1ff790b9ce69b2712e2814ab658f6256c0aea48c193c455f8445f2f81b8b30b", func := "rostellum/rostellumlaw06.CureTrue", spec := "cureTrue", unfollowed := true, recurses := true, named := ["rostellum/cure.limits"], plainKeys := false, apart := false, laid := [("rostellum/cure.limits", laid_rostellum_cure_limits)], narrowed := true }
def CureTrueUptoSaid : Prop := cureTrueUptoRow.holds Tryd.pinned (OpenSpec.upto cureTrueSpec)

/-- 'rostellumlaw06.CureEnds', WHERE WHAT IT READS IS OF BULK AT MOST 1048576: true; the input reads as it did. -/
def cureEndsUptoRow : OpenClaim := { program := "ytnmamelclmfplaadoor", sum := "f1ff790b9ce69b2712e2814ab658f6256c0aea48c193c455f8445f2f81b8b30b", func := "rostellum/rostellumlaw06.CureEnds", spec := "cureEnds", unfollowed := true, recurses := true, named := ["rostellum/cure.limits"], plainKeys := false, apart := false, laid := [("rostellum/cure.limits", laid_rostellum_cure_limits)], narrowed := true }
def CureEndsUptoSaid : Prop := cureEndsUptoRow.holds Tryd.pinned (OpenSpec.upto cureEndsSpec)

/-- 'rostellumlaw06.CureLimit', WHERE WHAT IT READS IS OF BULK AT MOST 1048576: true; the input reads as it did. -/
def cureLimitUptoRow : OpenClaim := { program := "ytnmamelclmfplaadoor", sum := "f1ff790b9ce69b2712e2814ab658f6256c0aea48c193c455f8445f2f81b8b30b", func := "rostellum/rostellumlaw06.CureLimit", spec := "cureLimit", unfollowed := true, recurses := true, named := ["rostellum/cure.limits"], plainKeys := false, apart := false, laid := [("rostellum/cure.limits", laid_rostellum_cure_limits)], narrowed := true }
def CureLimitUptoSaid : Prop := cureLimitUptoRow.holds Tryd.pinned (OpenSpec.upto cureLimitSpec)

/-- 'rostellumlaw06.CureOdder', WHERE WHAT IT READS IS OF BULK AT MOST 1048576: true; the input reads as it did. -/
def cureOdderUptoRow : OpenClaim := { program := "ytnmamelclmfplaadoor", sum := "f1ff790b9ce69b2712e2814ab658f6256c0aea48c193c455f8445f2f81b8b30b", func := "rostellum/rostellumlaw06.CureOdder", spec := "cureOdder", unfollowed := true, recurses := true, named := ["rostellum/cure.limits"], plainKeys := false, apart := false, laid := [("rostellum/cure.limits", laid_rostellum_cure_limits)], narrowed := true }
def CureOdderUptoSaid : Prop := cureOdderUptoRow.holds Tryd.pinned (OpenSpec.upto cureOdderSpec)

/-- 'rostellumlaw06.CureNarrow', WHERE WHAT IT READS IS OF BULK AT MOST 1048576: true; the input reads as it did. -/
def cureNarrowUptoRow : OpenClaim := { program := "ytnmamelclmfplaadoor", sum := "f1ff790b9ce69b2712e2814ab658f6256c0aea48c193c455f8445f2f81b8b30b", func := "rostellum/rostellumlaw06.CureNarrow", spec := "cureNarrow", unfollowed := true, recurses := true, named := ["rostellum/cure.limits"], plainKeys := false, apart := false, laid := [("rostellum/cure.limits", laid_rostellum_cure_limits)], narrowed := true }
def CureNarrowUptoSaid : Prop := cureNarrowUptoRow.holds Tryd.pinned (OpenSpec.upto cureNarrowSpec)

/-- 'rostellumlaw06.CureKnown', WHERE WHAT IT READS IS OF BULK AT MOST 1048576: true; the input reads as it did. -/
def cureKnownUptoRow : OpenClaim := { program := "ytnmamelclmfplaadoor", sum := "f1ff790b9ce69b2712e2814ab658f6256c0aea48c193c455f8445f2f81b8b30b", func := "rostellum/rostellumlaw06.CureKnown", spec := "cureKnown", unfollowed := true, recurses := true, named := ["rostellum/cure.limits"], plainKeys := false, apart := false, laid := [("rostellum/cure.limits", laid_rostellum_cure_limits)], narrowed := true }
def CureKnownUptoSaid : Prop := cureKnownUptoRow.holds Tryd.pinned (OpenSpec.upto cureKnownSpec)

end Rows
end Go.Proofs.YtnmamelclmfplaaDoor
