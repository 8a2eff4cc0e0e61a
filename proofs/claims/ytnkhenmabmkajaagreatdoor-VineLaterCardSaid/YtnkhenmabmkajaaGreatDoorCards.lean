/-
  DERIVED. GIVEN WITH THE SEED: THE CARDS: each row of YtnkhenmabmkajaaGreatDoorRows.lean that lists a variable, with what it lists TIED to the program's text (the seventh form; the later family's looks); each row that meets fmt, with fmt's text TOLD by the authors' own Lean function (tested against real Go, not proved from fmt's source: count such statements apart). THE CARD IS WHAT COUNTS. Prove the row's statement (the work); the ties are given (YtnkhenmabmkajaaGreatDoorTie.lean); close each card by the builder's one call (the guide's Derived/Test/ToyasCard.lean, 'card_holds'). Laid BY PROGRAM, IN A SANDBOX (cutbox-door.mjs). By AI agents, Wed Nov 11 2026. No macro, syntax, notation, axiom, sorry.
-/
import Derived.Test.YtnkhenmabmkajaaGreatDoorRows
import GoSem.ClaimSeven
namespace Go.Proofs.YtnkhenmabmkajaaGreatDoor
namespace Rows

/-- THE TIED CARD OF 'rostellumlaw01.VineHeats'. -/
def vineHeatsCard : Claim7 := { stood := { row := vineHeatsRow, standIns := [], harness := (true, "4680da5005b021ae27639154ad1d1c09354d253906d3fd89edd1f7de721db176"), looks := true }, kinds := [], alts := [], laidByText := true, laidKinds := [.data, .data, .data, .sentinel, .sentinel, .data], laidTests := true, laidLooks := .later }
def VineHeatsCardSaid : Prop := Claim7.holds Tryz.pinned (.plain (OpenSpec.ofChange vineHeatsSpec)) vineHeatsCard

/-- THE TIED CARD OF 'rostellumlaw01.VineLater'. -/
def vineLaterCard : Claim7 := { stood := { row := vineLaterRow, standIns := [], harness := (true, "4680da5005b021ae27639154ad1d1c09354d253906d3fd89edd1f7de721db176"), looks := true }, kinds := [], alts := [], laidByText := true, laidKinds := [.data, .data, .data, .sentinel, .sentinel, .data], laidTests := true, laidLooks := .later }
def VineLaterCardSaid : Prop := Claim7.holds Tryz.pinned (.plain (OpenSpec.ofChange vineLaterSpec)) vineLaterCard

/-- THE SECOND FORM's CARD OF 'rostellumlaw01.VineHeats'. -/
def vineHeatsUptoCard : Claim7 := { stood := { row := vineHeatsUptoRow, standIns := [], harness := (true, "4680da5005b021ae27639154ad1d1c09354d253906d3fd89edd1f7de721db176"), looks := true }, kinds := [], alts := [], laidByText := true, laidKinds := [.data, .data, .data, .sentinel, .sentinel, .data], laidTests := true, laidLooks := .later }
def VineHeatsUptoCardSaid : Prop := Claim7.holds Tryz.pinned (.plain (OpenSpec.upto vineHeatsSpec)) vineHeatsUptoCard

/-- THE SECOND FORM's CARD OF 'rostellumlaw01.VineLater'. -/
def vineLaterUptoCard : Claim7 := { stood := { row := vineLaterUptoRow, standIns := [], harness := (true, "4680da5005b021ae27639154ad1d1c09354d253906d3fd89edd1f7de721db176"), looks := true }, kinds := [], alts := [], laidByText := true, laidKinds := [.data, .data, .data, .sentinel, .sentinel, .data], laidTests := true, laidLooks := .later }
def VineLaterUptoCardSaid : Prop := Claim7.holds Tryz.pinned (.plain (OpenSpec.upto vineLaterSpec)) vineLaterUptoCard
end Rows
end Go.Proofs.YtnkhenmabmkajaaGreatDoor
