/-
  NARROWER THAN 'FOR EVERY INPUT', by the rows' own cells (each row's printed sentence says how): PodWindows: laid · PodHarvests: laid · PodRounds: laid · PodPlans: laid · PodSure: laid · PodTrue: laid · PodEnds: laid · PodFewest: laid · PodServed: laid · PodLonger: laid · PodKnown: laid.
  DERIVED. THE GIVEN ROWS OF THIS SEAT. 11 by the template 'for every input the law returns true; each argument reads behind the call as it read before'; 0 by the template 'total and deterministic' (their statements: YtaiiampennkhiaaDoorTotals.lean).
  GIVEN WITH THE SEED: the statements are not yours to turn. If you find one false, say at which input.
  Laid BY PROGRAM, IN A SANDBOX (cutbox-rows.mjs): the forced cells as the released guide's own fill.sh prints them over the translation 3b0b1bea3f004352… (all of the seat's roots in one cut). By AI agents, Wed Nov 11 2026. No macro, syntax, notation, axiom, sorry.
-/
import Derived.Test.YtaiiampennkhiaaDoorChecked
import GoSem.Claim
import GoSem.ClaimJoined
import GoSem.ClaimMapViews
import Derived.JoinedTies
import Derived.KernelRfl
namespace Go.Proofs.YtaiiampennkhiaaDoor
/- THE CELL 'sum', in the pinned program and in every row, IS THE sha256 OF THE DUMP (.gsa) THAT YtaiiampennkhiaaDoorProg.lean LOADS. Nothing in Lean hashes anything: it is a label: what it is worth is what the hold of that sum in a sandbox is worth. -/
noncomputable def Tryd.pinned : Pinned := { name := "ytaiiampennkhiaadoor", sum := "3b0b1bea3f0043522a1aed3f7006bec2cf95e57948ed6d977361d48f4b746cc9", checked := Tryd.checked }
namespace Rows
def none {H : Type} : Left H := { results := [], args := [] }

/- WHAT THE LISTED PACKAGE-LEVEL VARIABLES READ AS WHEN THE CALL BEGINS. Each datum BY PROGRAM (the guide's laid-datum.mjs) off the statement by which the dump's own 'gosem.cut.vars' lays the variable. In a bare row this is a premise. The card (YtaiiampennkhiaaDoorCards.lean) ties it to the program's text. -/
def laid_rostellum_pod_parts {H : Type} : DataW H := .agg [.agg [.lit (.int .i64 0), .lit (.int .i64 1), .lit (.int .i64 0), .lit (.int .i64 0)], .agg [.lit (.int .i64 1), .lit (.int .i64 0), .lit (.int .i64 0), .lit (.int .i64 0)], .agg [.lit (.int .i64 0), .lit (.int .i64 0), .lit (.int .i64 1), .lit (.int .i64 0)], .agg [.lit (.int .i64 0), .lit (.int .i64 0), .lit (.int .i64 0), .lit (.int .i64 1)]]

/-- 'rostellumlaw03.PodWindows': WHATEVER THE INPUT: true; the input reads as it did. -/
def podWindowsSpec : ChangeSpec := { name := "podWindows", fn := fun _ => fun
  | [d] => { results := [.lit (.bool true)], args := [d] }
  | _ => none }
def podWindowsRow : OpenClaim := { program := "ytaiiampennkhiaadoor", sum := "3b0b1bea3f0043522a1aed3f7006bec2cf95e57948ed6d977361d48f4b746cc9", func := "rostellum/rostellumlaw03.PodWindows", spec := "podWindows", unfollowed := true, recurses := true, named := ["rostellum/pod.parts"], apart := false, laid := [("rostellum/pod.parts", laid_rostellum_pod_parts)] }
def PodWindowsSaid : Prop := podWindowsRow.holds Tryd.pinned (OpenSpec.ofChange podWindowsSpec)

/-- ITS FALSE NEIGHBOUR: 'it returns false'. Refute it at one input. -/
def podWindowsWrong : ChangeSpec := { name := "podWindows", fn := fun _ => fun
  | [d] => { results := [.lit (.bool false)], args := [d] }
  | _ => none }
def PodWindowsWrongFalsely : Prop := podWindowsRow.holds Tryd.pinned (OpenSpec.ofChange podWindowsWrong)

/-- 'rostellumlaw03.PodHarvests': WHATEVER THE INPUT: true; the input reads as it did. -/
def podHarvestsSpec : ChangeSpec := { name := "podHarvests", fn := fun _ => fun
  | [d1, d2, d3] => { results := [.lit (.bool true)], args := [d1, d2, d3] }
  | _ => none }
def podHarvestsRow : OpenClaim := { program := "ytaiiampennkhiaadoor", sum := "3b0b1bea3f0043522a1aed3f7006bec2cf95e57948ed6d977361d48f4b746cc9", func := "rostellum/rostellumlaw03.PodHarvests", spec := "podHarvests", unfollowed := true, recurses := true, named := ["rostellum/pod.parts"], apart := false, laid := [("rostellum/pod.parts", laid_rostellum_pod_parts)] }
def PodHarvestsSaid : Prop := podHarvestsRow.holds Tryd.pinned (OpenSpec.ofChange podHarvestsSpec)

/-- ITS FALSE NEIGHBOUR: 'it returns false'. Refute it at one input. -/
def podHarvestsWrong : ChangeSpec := { name := "podHarvests", fn := fun _ => fun
  | [d1, d2, d3] => { results := [.lit (.bool false)], args := [d1, d2, d3] }
  | _ => none }
def PodHarvestsWrongFalsely : Prop := podHarvestsRow.holds Tryd.pinned (OpenSpec.ofChange podHarvestsWrong)

/-- 'rostellumlaw03.PodRounds': WHATEVER THE INPUT: true; the input reads as it did. -/
def podRoundsSpec : ChangeSpec := { name := "podRounds", fn := fun _ => fun
  | [d1, d2] => { results := [.lit (.bool true)], args := [d1, d2] }
  | _ => none }
def podRoundsRow : OpenClaim := { program := "ytaiiampennkhiaadoor", sum := "3b0b1bea3f0043522a1aed3f7006bec2cf95e57948ed6d977361d48f4b746cc9", func := "rostellum/rostellumlaw03.PodRounds", spec := "podRounds", unfollowed := true, recurses := true, named := ["rostellum/pod.parts"], apart := false, laid := [("rostellum/pod.parts", laid_rostellum_pod_parts)] }
def PodRoundsSaid : Prop := podRoundsRow.holds Tryd.pinned (OpenSpec.ofChange podRoundsSpec)

/-- ITS FALSE NEIGHBOUR: 'it returns false'. Refute it at one input. -/
def podRoundsWrong : ChangeSpec := { name := "podRounds", fn := fun _ => fun
  | [d1, d2] => { results := [.lit (.bool false)], args := [d1, d2] }
  | _ => none }
def PodRoundsWrongFalsely : Prop := podRoundsRow.holds Tryd.pinned (OpenSpec.ofChange podRoundsWrong)

/-- 'rostellumlaw03.PodPlans': WHATEVER THE INPUT: true; the input reads as it did. -/
def podPlansSpec : ChangeSpec := { name := "podPlans", fn := fun _ => fun
  | [d1, d2, d3, d4] => { results := [.lit (.bool true)], args := [d1, d2, d3, d4] }
  | _ => none }
def podPlansRow : OpenClaim := { program := "ytaiiampennkhiaadoor", sum := "3b0b1bea3f0043522a1aed3f7006bec2cf95e57948ed6d977361d48f4b746cc9", func := "rostellum/rostellumlaw03.PodPlans", spec := "podPlans", unfollowed := true, recurses := true, named := ["rostellum/pod.parts"], apart := false, laid := [("rostellum/pod.parts", laid_rostellum_pod_parts)] }
def PodPlansSaid : Prop := podPlansRow.holds Tryd.pinned (OpenSpec.ofChange podPlansSpec)

/-- ITS FALSE NEIGHBOUR: 'it returns false'. Refute it at one input. -/
def podPlansWrong : ChangeSpec := { name := "podPlans", fn := fun _ => fun
  | [d1, d2, d3, d4] => { results := [.lit (.bool false)], args := [d1, d2, d3, d4] }
  | _ => none }
def PodPlansWrongFalsely : Prop := podPlansRow.holds Tryd.pinned (OpenSpec.ofChange podPlansWrong)

/-- 'rostellumlaw03.PodSure': WHATEVER THE INPUT: true; the input reads as it did. -/
def podSureSpec : ChangeSpec := { name := "podSure", fn := fun _ => fun
  | [d1, d2, d3] => { results := [.lit (.bool true)], args := [d1, d2, d3] }
  | _ => none }
def podSureRow : OpenClaim := { program := "ytaiiampennkhiaadoor", sum := "3b0b1bea3f0043522a1aed3f7006bec2cf95e57948ed6d977361d48f4b746cc9", func := "rostellum/rostellumlaw03.PodSure", spec := "podSure", unfollowed := true, recurses := true, named := ["rostellum/pod.parts"], apart := false, laid := [("rostellum/pod.parts", laid_rostellum_pod_parts)] }
def PodSureSaid : Prop := podSureRow.holds Tryd.pinned (OpenSpec.ofChange podSureSpec)

/-- ITS FALSE NEIGHBOUR: 'it returns false'. Refute it at one input. -/
def podSureWrong : ChangeSpec := { name := "podSure", fn := fun _ => fun
  | [d1, d2, d3] => { results := [.lit (.bool false)], args := [d1, d2, d3] }
  | _ => none }
def PodSureWrongFalsely : Prop := podSureRow.holds Tryd.pinned (OpenSpec.ofChange podSureWrong)

/-- 'rostellumlaw03.PodTrue': WHATEVER THE INPUT: true; the input reads as it did. -/
def podTrueSpec : ChangeSpec := { name := "podTrue", fn := fun _ => fun
  | [d1, d2, d3] => { results := [.lit (.bool true)], args := [d1, d2, d3] }
  | _ => none }
def podTrueRow : OpenClaim := { program := "ytaiiampennkhiaadoor", sum := "3b0b1bea3f0043522a1aed3f7006bec2cf95e57948ed6d977361d48f4b746cc9", func := "rostellum/rostellumlaw03.PodTrue", spec := "podTrue", unfollowed := true, recurses := true, named := ["rostellum/pod.parts"], apart := false, laid := [("rostellum/pod.parts", laid_rostellum_pod_parts)] }
def PodTrueSaid : Prop := podTrueRow.holds Tryd.pinned (OpenSpec.ofChange podTrueSpec)

/-- ITS FALSE NEIGHBOUR: 'it returns false'. Refute it at one input. -/
def podTrueWrong : ChangeSpec := { name := "podTrue", fn := fun _ => fun
  | [d1, d2, d3] => { results := [.lit (.bool false)], args := [d1, d2, d3] }
  | _ => none }
def PodTrueWrongFalsely : Prop := podTrueRow.holds Tryd.pinned (OpenSpec.ofChange podTrueWrong)

/-- 'rostellumlaw03.PodEnds': WHATEVER THE INPUT: true; the input reads as it did. -/
def podEndsSpec : ChangeSpec := { name := "podEnds", fn := fun _ => fun
  | [d1, d2] => { results := [.lit (.bool true)], args := [d1, d2] }
  | _ => none }
def podEndsRow : OpenClaim := { program := "ytaiiampennkhiaadoor", sum := "3b0b1bea3f0043522a1aed3f7006bec2cf95e57948ed6d977361d48f4b746cc9", func := "rostellum/rostellumlaw03.PodEnds", spec := "podEnds", unfollowed := true, recurses := true, named := ["rostellum/pod.parts"], apart := false, laid := [("rostellum/pod.parts", laid_rostellum_pod_parts)] }
def PodEndsSaid : Prop := podEndsRow.holds Tryd.pinned (OpenSpec.ofChange podEndsSpec)

/-- ITS FALSE NEIGHBOUR: 'it returns false'. Refute it at one input. -/
def podEndsWrong : ChangeSpec := { name := "podEnds", fn := fun _ => fun
  | [d1, d2] => { results := [.lit (.bool false)], args := [d1, d2] }
  | _ => none }
def PodEndsWrongFalsely : Prop := podEndsRow.holds Tryd.pinned (OpenSpec.ofChange podEndsWrong)

/-- 'rostellumlaw03.PodFewest': WHATEVER THE INPUT: true; the input reads as it did. -/
def podFewestSpec : ChangeSpec := { name := "podFewest", fn := fun _ => fun
  | [d1, d2, d3] => { results := [.lit (.bool true)], args := [d1, d2, d3] }
  | _ => none }
def podFewestRow : OpenClaim := { program := "ytaiiampennkhiaadoor", sum := "3b0b1bea3f0043522a1aed3f7006bec2cf95e57948ed6d977361d48f4b746cc9", func := "rostellum/rostellumlaw03.PodFewest", spec := "podFewest", unfollowed := true, recurses := true, named := ["rostellum/pod.parts"], apart := false, laid := [("rostellum/pod.parts", laid_rostellum_pod_parts)] }
def PodFewestSaid : Prop := podFewestRow.holds Tryd.pinned (OpenSpec.ofChange podFewestSpec)

/-- ITS FALSE NEIGHBOUR: 'it returns false'. Refute it at one input. -/
def podFewestWrong : ChangeSpec := { name := "podFewest", fn := fun _ => fun
  | [d1, d2, d3] => { results := [.lit (.bool false)], args := [d1, d2, d3] }
  | _ => none }
def PodFewestWrongFalsely : Prop := podFewestRow.holds Tryd.pinned (OpenSpec.ofChange podFewestWrong)

/-- 'rostellumlaw03.PodServed': WHATEVER THE INPUT: true; the input reads as it did. -/
def podServedSpec : ChangeSpec := { name := "podServed", fn := fun _ => fun
  | [d1, d2, d3, d4] => { results := [.lit (.bool true)], args := [d1, d2, d3, d4] }
  | _ => none }
def podServedRow : OpenClaim := { program := "ytaiiampennkhiaadoor", sum := "3b0b1bea3f0043522a1aed3f7006bec2cf95e57948ed6d977361d48f4b746cc9", func := "rostellum/rostellumlaw03.PodServed", spec := "podServed", unfollowed := true, recurses := true, named := ["rostellum/pod.parts"], apart := false, laid := [("rostellum/pod.parts", laid_rostellum_pod_parts)] }
def PodServedSaid : Prop := podServedRow.holds Tryd.pinned (OpenSpec.ofChange podServedSpec)

/-- ITS FALSE NEIGHBOUR: 'it returns false'. Refute it at one input. -/
def podServedWrong : ChangeSpec := { name := "podServed", fn := fun _ => fun
  | [d1, d2, d3, d4] => { results := [.lit (.bool false)], args := [d1, d2, d3, d4] }
  | _ => none }
def PodServedWrongFalsely : Prop := podServedRow.holds Tryd.pinned (OpenSpec.ofChange podServedWrong)

/-- 'rostellumlaw03.PodLonger': WHATEVER THE INPUT: true; the input reads as it did. -/
def podLongerSpec : ChangeSpec := { name := "podLonger", fn := fun _ => fun
  | [d1, d2, d3] => { results := [.lit (.bool true)], args := [d1, d2, d3] }
  | _ => none }
def podLongerRow : OpenClaim := { program := "ytaiiampennkhiaadoor", sum := "3b0b1bea3f0043522a1aed3f7006bec2cf95e57948ed6d977361d48f4b746cc9", func := "rostellum/rostellumlaw03.PodLonger", spec := "podLonger", unfollowed := true, recurses := true, named := ["rostellum/pod.parts"], apart := false, laid := [("rostellum/pod.parts", laid_rostellum_pod_parts)] }
def PodLongerSaid : Prop := podLongerRow.holds Tryd.pinned (OpenSpec.ofChange podLongerSpec)

/-- ITS FALSE NEIGHBOUR: 'it returns false'. Refute it at one input. -/
def podLongerWrong : ChangeSpec := { name := "podLonger", fn := fun _ => fun
  | [d1, d2, d3] => { results := [.lit (.bool false)], args := [d1, d2, d3] }
  | _ => none }
def PodLongerWrongFalsely : Prop := podLongerRow.holds Tryd.pinned (OpenSpec.ofChange podLongerWrong)

/-- 'rostellumlaw03.PodKnown': WHATEVER THE INPUT: true; the input reads as it did. -/
def podKnownSpec : ChangeSpec := { name := "podKnown", fn := fun _ => fun
  | [] => { results := [.lit (.bool true)], args := [] }
  | _ => none }
def podKnownRow : OpenClaim := { program := "ytaiiampennkhiaadoor", sum := "3b0b1bea3f0043522a1aed3f7006bec2cf95e57948ed6d977361d48f4b746cc9", func := "rostellum/rostellumlaw03.PodKnown", spec := "podKnown", unfollowed := true, recurses := true, named := ["rostellum/pod.parts"], apart := false, laid := [("rostellum/pod.parts", laid_rostellum_pod_parts)] }
def PodKnownSaid : Prop := podKnownRow.holds Tryd.pinned (OpenSpec.ofChange podKnownSpec)

/-- ITS FALSE NEIGHBOUR: 'it returns false'. Refute it at one input. -/
def podKnownWrong : ChangeSpec := { name := "podKnown", fn := fun _ => fun
  | [] => { results := [.lit (.bool false)], args := [] }
  | _ => none }
def PodKnownWrongFalsely : Prop := podKnownRow.holds Tryd.pinned (OpenSpec.ofChange podKnownWrong)

/- THE SECOND FORM. 'bulk': how many values and letters a reading holds, each counted each time it is reached (what is shared counts as often as it is met; a slice's spare places count too). A statement '..UptoSaid' is the law's where the arguments, and the package variables that the reading takes, are together of bulk at most 1048576: NARROWER than '..Said'. Prove '..Said' where nothing that the law and all that it calls make is longer than what came in: it says more and counts as full. Else prove '..UptoSaid'. A law counts once. -/
mutual
def uptoBulk {H : Type} : DataW H → Nat
  | .lit (.string bytes) => bytes.length + 1
  | .lit _ => 1
  | .nil => 1
  | .ptr d => uptoBulk d + 1
  | .slice elems spare => uptoBulkAll elems + uptoBulkAll spare + 1
  | .agg parts => uptoBulkAll parts + 1
  | .iface _ d => uptoBulk d + 1
  | .map entries => uptoBulkEntries entries + 1
  | .held _ => 1
def uptoBulkAll {H : Type} : List (DataW H) → Nat
  | [] => 0
  | d :: r => uptoBulk d + uptoBulkAll r
def uptoBulkEntries {H : Type} : List (Lit × DataW H) → Nat
  | [] => 0
  | x :: r => uptoBulkEntry x + uptoBulkEntries r
def uptoBulkEntry {H : Type} : Lit × DataW H → Nat
  | (.string bytes, d) => bytes.length + uptoBulk d + 1
  | (_, d) => uptoBulk d + 1
 end
def uptoSmall : (H : Type) → List (DataW H) → Bool := fun _ ds => decide (uptoBulkAll ds ≤ 1048576)
def OpenSpec.upto (s : _root_.Go.ChangeSpec) : _root_.Go.OpenSpec := { _root_.Go.OpenSpec.ofChange s with cond := some uptoSmall }

/-- 'rostellumlaw03.PodWindows', WHERE WHAT IT READS IS OF BULK AT MOST 1048576: true; the input reads as it did. -/
def podWindowsUptoRow : OpenClaim := { program := "ytaiiampennkhiaadoor", sum := "3b0b1bea3f0043522a1aed3f7006bec2cf95e57948ed6d977361d48f4b746cc9", func := "rostellum/rostellumlaw03.PodWindows", spec := "podWindows", unfollowed := true, recurses := true, named := ["rostellum/pod.parts"], apart := false, laid := [("rostellum/pod.parts", laid_rostellum_pod_parts)], narrowed := true }
def PodWindowsUptoSaid : Prop := podWindowsUptoRow.holds Tryd.pinned (OpenSpec.upto podWindowsSpec)

/-- 'rostellumlaw03.PodHarvests', WHERE WHAT IT READS IS OF BULK AT MOST 1048576: true; the input reads as it did. -/
def podHarvestsUptoRow : OpenClaim := { program := "ytaiiampennkhiaadoor", sum := "3b0b1bea3f0043522a1aed3f7006bec2cf95e57948ed6d977361d48f4b746cc9", func := "rostellum/rostellumlaw03.PodHarvests", spec := "podHarvests", unfollowed := true, recurses := true, named := ["rostellum/pod.parts"], apart := false, laid := [("rostellum/pod.parts", laid_rostellum_pod_parts)], narrowed := true }
def PodHarvestsUptoSaid : Prop := podHarvestsUptoRow.holds Tryd.pinned (OpenSpec.upto podHarvestsSpec)

/-- 'rostellumlaw03.PodRounds', WHERE WHAT IT READS IS OF BULK AT MOST 1048576: true; the input reads as it did. -/
def podRoundsUptoRow : OpenClaim := { program := "ytaiiampennkhiaadoor", sum := "3b0b1bea3f0043522a1aed3f7006bec2cf95e57948ed6d977361d48f4b746cc9", func := "rostellum/rostellumlaw03.PodRounds", spec := "podRounds", unfollowed := true, recurses := true, named := ["rostellum/pod.parts"], apart := false, laid := [("rostellum/pod.parts", laid_rostellum_pod_parts)], narrowed := true }
def PodRoundsUptoSaid : Prop := podRoundsUptoRow.holds Tryd.pinned (OpenSpec.upto podRoundsSpec)

/-- 'rostellumlaw03.PodPlans', WHERE WHAT IT READS IS OF BULK AT MOST 1048576: true; the input reads as it did. -/
def podPlansUptoRow : OpenClaim := { program := "ytaiiampennkhiaadoor", sum := "3b0b1bea3f0043522a1aed3f7006bec2cf95e57948ed6d977361d48f4b746cc9", func := "rostellum/rostellumlaw03.PodPlans", spec := "podPlans", unfollowed := true, recurses := true, named := ["rostellum/pod.parts"], apart := false, laid := [("rostellum/pod.parts", laid_rostellum_pod_parts)], narrowed := true }
def PodPlansUptoSaid : Prop := podPlansUptoRow.holds Tryd.pinned (OpenSpec.upto podPlansSpec)

/-- 'rostellumlaw03.PodSure', WHERE WHAT IT READS IS OF BULK AT MOST 1048576: true; the input reads as it did. -/
def podSureUptoRow : OpenClaim := { program := "ytaiiampennkhiaadoor", sum := "3b0b1bea3f0043522a1aed3f7006bec2cf95e57948ed6d977361d48f4b746cc9", func := "rostellum/rostellumlaw03.PodSure", spec := "podSure", unfollowed := true, recurses := true, named := ["rostellum/pod.parts"], apart := false, laid := [("rostellum/pod.parts", laid_rostellum_pod_parts)], narrowed := true }
def PodSureUptoSaid : Prop := podSureUptoRow.holds Tryd.pinned (OpenSpec.upto podSureSpec)

/-- 'rostellumlaw03.PodTrue', WHERE WHAT IT READS IS OF BULK AT MOST 1048576: true; the input reads as it did. -/
def podTrueUptoRow : OpenClaim := { program := "ytaiiampennkhiaadoor", sum := "3b0b1bea3f0043522a1aed3f7006bec2cf95e57948ed6d977361d48f4b746cc9", func := "rostellum/rostellumlaw03.PodTrue", spec := "podTrue", unfollowed := true, recurses := true, named := ["rostellum/pod.parts"], apart := false, laid := [("rostellum/pod.parts", laid_rostellum_pod_parts)], narrowed := true }
def PodTrueUptoSaid : Prop := podTrueUptoRow.holds Tryd.pinned (OpenSpec.upto podTrueSpec)

/-- 'rostellumlaw03.PodEnds', WHERE WHAT IT READS IS OF BULK AT MOST 1048576: true; the input reads as it did. -/
def podEndsUptoRow : OpenClaim := { program := "ytaiiampennkhiaadoor", sum := "3b0b1bea3f0043522a1aed3f7006bec2cf95e57948ed6d977361d48f4b746cc9", func := "rostellum/rostellumlaw03.PodEnds", spec := "podEnds", unfollowed := true, recurses := true, named := ["rostellum/pod.parts"], apart := false, laid := [("rostellum/pod.parts", laid_rostellum_pod_parts)], narrowed := true }
def PodEndsUptoSaid : Prop := podEndsUptoRow.holds Tryd.pinned (OpenSpec.upto podEndsSpec)

/-- 'rostellumlaw03.PodFewest', WHERE WHAT IT READS IS OF BULK AT MOST 1048576: true; the input reads as it did. -/
def podFewestUptoRow : OpenClaim := { program := "ytaiiampennkhiaadoor", sum := "3b0b1bea3f0043522a1aed3f7006bec2cf95e57948ed6d977361d48f4b746cc9", func := "rostellum/rostellumlaw03.PodFewest", spec := "podFewest", unfollowed := true, recurses := true, named := ["rostellum/pod.parts"], apart := false, laid := [("rostellum/pod.parts", laid_rostellum_pod_parts)], narrowed := true }
def PodFewestUptoSaid : Prop := podFewestUptoRow.holds Tryd.pinned (OpenSpec.upto podFewestSpec)

/-- 'rostellumlaw03.PodServed', WHERE WHAT IT READS IS OF BULK AT MOST 1048576: true; the input reads as it did. -/
def podServedUptoRow : OpenClaim := { program := "ytaiiampennkhiaadoor", sum := "3b0b1bea3f0043522a1aed3f7006bec2cf95e57948ed6d977361d48f4b746cc9", func := "rostellum/rostellumlaw03.PodServed", spec := "podServed", unfollowed := true, recurses := true, named := ["rostellum/pod.parts"], apart := false, laid := [("rostellum/pod.parts", laid_rostellum_pod_parts)], narrowed := true }
def PodServedUptoSaid : Prop := podServedUptoRow.holds Tryd.pinned (OpenSpec.upto podServedSpec)

/-- 'rostellumlaw03.PodLonger', WHERE WHAT IT READS IS OF BULK AT MOST 1048576: true; the input reads as it did. -/
def podLongerUptoRow : OpenClaim := { program := "ytaiiampennkhiaadoor", sum := "3b0b1bea3f0043522a1aed3f7006bec2cf95e57948ed6d977361d48f4b746cc9", func := "rostellum/rostellumlaw03.PodLonger", spec := "podLonger", unfollowed := true, recurses := true, named := ["rostellum/pod.parts"], apart := false, laid := [("rostellum/pod.parts", laid_rostellum_pod_parts)], narrowed := true }
def PodLongerUptoSaid : Prop := podLongerUptoRow.holds Tryd.pinned (OpenSpec.upto podLongerSpec)

/-- 'rostellumlaw03.PodKnown', WHERE WHAT IT READS IS OF BULK AT MOST 1048576: true; the input reads as it did. -/
def podKnownUptoRow : OpenClaim := { program := "ytaiiampennkhiaadoor", sum := "3b0b1bea3f0043522a1aed3f7006bec2cf95e57948ed6d977361d48f4b746cc9", func := "rostellum/rostellumlaw03.PodKnown", spec := "podKnown", unfollowed := true, recurses := true, named := ["rostellum/pod.parts"], apart := false, laid := [("rostellum/pod.parts", laid_rostellum_pod_parts)], narrowed := true }
def PodKnownUptoSaid : Prop := podKnownUptoRow.holds Tryd.pinned (OpenSpec.upto podKnownSpec)

end Rows
end Go.Proofs.YtaiiampennkhiaaDoor
