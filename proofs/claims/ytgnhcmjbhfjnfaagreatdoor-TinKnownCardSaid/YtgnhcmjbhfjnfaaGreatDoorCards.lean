/-
  DERIVED. GIVEN WITH THE SEED: THE CARDS: each row of YtgnhcmjbhfjnfaaGreatDoorRows.lean that lists a variable, with what it lists TIED to the program's text (the seventh form; the later family's looks); each row that meets fmt, with fmt's text TOLD by the authors' own Lean function (tested against real Go, not proved from fmt's source: count such statements apart). THE CARD IS WHAT COUNTS. Prove the row's statement (the work); the ties are given (YtgnhcmjbhfjnfaaGreatDoorTie.lean); close each card by the builder's one call (the guide's Derived/Test/ToyasCard.lean, 'card_holds'). Laid BY PROGRAM, IN A SANDBOX (cutbox-door.mjs). By AI agents, Wed Nov 11 2026. No macro, syntax, notation, axiom, sorry.
-/
import Derived.Test.YtgnhcmjbhfjnfaaGreatDoorRows
import GoSem.ClaimSeven
namespace Go.Proofs.YtgnhcmjbhfjnfaaGreatDoor
namespace Rows

/-- THE TIED CARD OF 'rostellumlaw08.TinCodes'. -/
def tinCodesCard : Claim7 := { stood := { row := tinCodesRow, standIns := [], harness := (true, "81b7b1e62299bdd3d3dcf70d4cdc6a56150de772d0e2de758bbe8cda0b6a2d10"), looks := true }, kinds := [], alts := [], laidByText := true, laidKinds := [.data, .data, .data, .data, .sentinel, .sentinel, .data, .pinned], laidTests := true, laidLooks := .later }
def TinCodesCardSaid : Prop := Claim7.holds Tryz.pinned (.plain (OpenSpec.ofChange tinCodesSpec)) tinCodesCard

/-- THE TIED CARD OF 'rostellumlaw08.TinSorts'. -/
def tinSortsCard : Claim7 := { stood := { row := tinSortsRow, standIns := [], harness := (true, "81b7b1e62299bdd3d3dcf70d4cdc6a56150de772d0e2de758bbe8cda0b6a2d10"), looks := true }, kinds := [], alts := [], laidByText := true, laidKinds := [.data, .data, .data, .data, .sentinel, .sentinel, .data, .pinned], laidTests := true, laidLooks := .later }
def TinSortsCardSaid : Prop := Claim7.holds Tryz.pinned (.plain (OpenSpec.ofChange tinSortsSpec)) tinSortsCard

/-- THE TIED CARD OF 'rostellumlaw08.TinPacks'. -/
def tinPacksCard : Claim7 := { stood := { row := tinPacksRow, standIns := [], harness := (true, "81b7b1e62299bdd3d3dcf70d4cdc6a56150de772d0e2de758bbe8cda0b6a2d10"), looks := true }, kinds := [], alts := [], laidByText := true, laidKinds := [.data, .data, .data, .data, .sentinel, .sentinel, .data, .pinned], laidTests := true, laidLooks := .later }
def TinPacksCardSaid : Prop := Claim7.holds Tryz.pinned (.plain (OpenSpec.ofChange tinPacksSpec)) tinPacksCard

/-- THE TIED CARD OF 'rostellumlaw08.TinPrints'. -/
def tinPrintsCard : Claim7 := { stood := { row := tinPrintsRow, standIns := [], harness := (true, "81b7b1e62299bdd3d3dcf70d4cdc6a56150de772d0e2de758bbe8cda0b6a2d10"), looks := true }, kinds := [], alts := [], laidByText := true, laidKinds := [.data, .data, .data, .data, .sentinel, .sentinel, .data, .pinned], laidTests := true, laidLooks := .later }
def TinPrintsCardSaid : Prop := Claim7.holds Tryz.pinned (.plain (OpenSpec.ofChange tinPrintsSpec)) tinPrintsCard

/-- THE TIED CARD OF 'rostellumlaw08.TinNoticed'. -/
def tinNoticedCard : Claim7 := { stood := { row := tinNoticedRow, standIns := [], harness := (true, "81b7b1e62299bdd3d3dcf70d4cdc6a56150de772d0e2de758bbe8cda0b6a2d10"), looks := true }, kinds := [], alts := [], laidByText := true, laidKinds := [.data, .data, .data, .data, .sentinel, .sentinel, .data, .pinned], laidTests := true, laidLooks := .later }
def TinNoticedCardSaid : Prop := Claim7.holds Tryz.pinned (.plain (OpenSpec.ofChange tinNoticedSpec)) tinNoticedCard

/-- THE TIED CARD OF 'rostellumlaw08.TinNear'. -/
def tinNearCard : Claim7 := { stood := { row := tinNearRow, standIns := [], harness := (true, "81b7b1e62299bdd3d3dcf70d4cdc6a56150de772d0e2de758bbe8cda0b6a2d10"), looks := true }, kinds := [], alts := [], laidByText := true, laidKinds := [.data, .data, .data, .data, .sentinel, .sentinel, .data, .pinned], laidTests := true, laidLooks := .later }
def TinNearCardSaid : Prop := Claim7.holds Tryz.pinned (.plain (OpenSpec.ofChange tinNearSpec)) tinNearCard

/-- THE TIED CARD OF 'rostellumlaw08.TinSorted'. -/
def tinSortedCard : Claim7 := { stood := { row := tinSortedRow, standIns := [], harness := (true, "81b7b1e62299bdd3d3dcf70d4cdc6a56150de772d0e2de758bbe8cda0b6a2d10"), looks := true }, kinds := [], alts := [], laidByText := true, laidKinds := [.data, .data, .data, .data, .sentinel, .sentinel, .data, .pinned], laidTests := true, laidLooks := .later }
def TinSortedCardSaid : Prop := Claim7.holds Tryz.pinned (.plain (OpenSpec.ofChange tinSortedSpec)) tinSortedCard

/-- THE TIED CARD OF 'rostellumlaw08.TinPacked'. -/
def tinPackedCard : Claim7 := { stood := { row := tinPackedRow, standIns := [], harness := (true, "81b7b1e62299bdd3d3dcf70d4cdc6a56150de772d0e2de758bbe8cda0b6a2d10"), looks := true }, kinds := [], alts := [], laidByText := true, laidKinds := [.data, .data, .data, .data, .sentinel, .sentinel, .data, .pinned], laidTests := true, laidLooks := .later }
def TinPackedCardSaid : Prop := Claim7.holds Tryz.pinned (.plain (OpenSpec.ofChange tinPackedSpec)) tinPackedCard

/-- THE TIED CARD OF 'rostellumlaw08.TinBack'. -/
def tinBackCard : Claim7 := { stood := { row := tinBackRow, standIns := [], harness := (true, "81b7b1e62299bdd3d3dcf70d4cdc6a56150de772d0e2de758bbe8cda0b6a2d10"), looks := true }, kinds := [], alts := [], laidByText := true, laidKinds := [.data, .data, .data, .data, .sentinel, .sentinel, .data, .pinned], laidTests := true, laidLooks := .later }
def TinBackCardSaid : Prop := Claim7.holds Tryz.pinned (.plain (OpenSpec.ofChange tinBackSpec)) tinBackCard

/-- THE TIED CARD OF 'rostellumlaw08.TinKnown'. -/
def tinKnownCard : Claim7 := { stood := { row := tinKnownRow, standIns := [], harness := (true, "81b7b1e62299bdd3d3dcf70d4cdc6a56150de772d0e2de758bbe8cda0b6a2d10"), looks := true }, kinds := [], alts := [], laidByText := true, laidKinds := [.data, .data, .data, .data, .sentinel, .sentinel, .data, .pinned], laidTests := true, laidLooks := .later }
def TinKnownCardSaid : Prop := Claim7.holds Tryz.pinned (.plain (OpenSpec.ofChange tinKnownSpec)) tinKnownCard

/-- THE SECOND FORM's CARD OF 'rostellumlaw08.TinCodes'. -/
def tinCodesUptoCard : Claim7 := { stood := { row := tinCodesUptoRow, standIns := [], harness := (true, "81b7b1e62299bdd3d3dcf70d4cdc6a56150de772d0e2de758bbe8cda0b6a2d10"), looks := true }, kinds := [], alts := [], laidByText := true, laidKinds := [.data, .data, .data, .data, .sentinel, .sentinel, .data, .pinned], laidTests := true, laidLooks := .later }
def TinCodesUptoCardSaid : Prop := Claim7.holds Tryz.pinned (.plain (OpenSpec.upto tinCodesSpec)) tinCodesUptoCard

/-- THE SECOND FORM's CARD OF 'rostellumlaw08.TinSorts'. -/
def tinSortsUptoCard : Claim7 := { stood := { row := tinSortsUptoRow, standIns := [], harness := (true, "81b7b1e62299bdd3d3dcf70d4cdc6a56150de772d0e2de758bbe8cda0b6a2d10"), looks := true }, kinds := [], alts := [], laidByText := true, laidKinds := [.data, .data, .data, .data, .sentinel, .sentinel, .data, .pinned], laidTests := true, laidLooks := .later }
def TinSortsUptoCardSaid : Prop := Claim7.holds Tryz.pinned (.plain (OpenSpec.upto tinSortsSpec)) tinSortsUptoCard

/-- THE SECOND FORM's CARD OF 'rostellumlaw08.TinPacks'. -/
def tinPacksUptoCard : Claim7 := { stood := { row := tinPacksUptoRow, standIns := [], harness := (true, "81b7b1e62299bdd3d3dcf70d4cdc6a56150de772d0e2de758bbe8cda0b6a2d10"), looks := true }, kinds := [], alts := [], laidByText := true, laidKinds := [.data, .data, .data, .data, .sentinel, .sentinel, .data, .pinned], laidTests := true, laidLooks := .later }
def TinPacksUptoCardSaid : Prop := Claim7.holds Tryz.pinned (.plain (OpenSpec.upto tinPacksSpec)) tinPacksUptoCard

/-- THE SECOND FORM's CARD OF 'rostellumlaw08.TinPrints'. -/
def tinPrintsUptoCard : Claim7 := { stood := { row := tinPrintsUptoRow, standIns := [], harness := (true, "81b7b1e62299bdd3d3dcf70d4cdc6a56150de772d0e2de758bbe8cda0b6a2d10"), looks := true }, kinds := [], alts := [], laidByText := true, laidKinds := [.data, .data, .data, .data, .sentinel, .sentinel, .data, .pinned], laidTests := true, laidLooks := .later }
def TinPrintsUptoCardSaid : Prop := Claim7.holds Tryz.pinned (.plain (OpenSpec.upto tinPrintsSpec)) tinPrintsUptoCard

/-- THE SECOND FORM's CARD OF 'rostellumlaw08.TinNoticed'. -/
def tinNoticedUptoCard : Claim7 := { stood := { row := tinNoticedUptoRow, standIns := [], harness := (true, "81b7b1e62299bdd3d3dcf70d4cdc6a56150de772d0e2de758bbe8cda0b6a2d10"), looks := true }, kinds := [], alts := [], laidByText := true, laidKinds := [.data, .data, .data, .data, .sentinel, .sentinel, .data, .pinned], laidTests := true, laidLooks := .later }
def TinNoticedUptoCardSaid : Prop := Claim7.holds Tryz.pinned (.plain (OpenSpec.upto tinNoticedSpec)) tinNoticedUptoCard

/-- THE SECOND FORM's CARD OF 'rostellumlaw08.TinNear'. -/
def tinNearUptoCard : Claim7 := { stood := { row := tinNearUptoRow, standIns := [], harness := (true, "81b7b1e62299bdd3d3dcf70d4cdc6a56150de772d0e2de758bbe8cda0b6a2d10"), looks := true }, kinds := [], alts := [], laidByText := true, laidKinds := [.data, .data, .data, .data, .sentinel, .sentinel, .data, .pinned], laidTests := true, laidLooks := .later }
def TinNearUptoCardSaid : Prop := Claim7.holds Tryz.pinned (.plain (OpenSpec.upto tinNearSpec)) tinNearUptoCard

/-- THE SECOND FORM's CARD OF 'rostellumlaw08.TinSorted'. -/
def tinSortedUptoCard : Claim7 := { stood := { row := tinSortedUptoRow, standIns := [], harness := (true, "81b7b1e62299bdd3d3dcf70d4cdc6a56150de772d0e2de758bbe8cda0b6a2d10"), looks := true }, kinds := [], alts := [], laidByText := true, laidKinds := [.data, .data, .data, .data, .sentinel, .sentinel, .data, .pinned], laidTests := true, laidLooks := .later }
def TinSortedUptoCardSaid : Prop := Claim7.holds Tryz.pinned (.plain (OpenSpec.upto tinSortedSpec)) tinSortedUptoCard

/-- THE SECOND FORM's CARD OF 'rostellumlaw08.TinPacked'. -/
def tinPackedUptoCard : Claim7 := { stood := { row := tinPackedUptoRow, standIns := [], harness := (true, "81b7b1e62299bdd3d3dcf70d4cdc6a56150de772d0e2de758bbe8cda0b6a2d10"), looks := true }, kinds := [], alts := [], laidByText := true, laidKinds := [.data, .data, .data, .data, .sentinel, .sentinel, .data, .pinned], laidTests := true, laidLooks := .later }
def TinPackedUptoCardSaid : Prop := Claim7.holds Tryz.pinned (.plain (OpenSpec.upto tinPackedSpec)) tinPackedUptoCard

/-- THE SECOND FORM's CARD OF 'rostellumlaw08.TinBack'. -/
def tinBackUptoCard : Claim7 := { stood := { row := tinBackUptoRow, standIns := [], harness := (true, "81b7b1e62299bdd3d3dcf70d4cdc6a56150de772d0e2de758bbe8cda0b6a2d10"), looks := true }, kinds := [], alts := [], laidByText := true, laidKinds := [.data, .data, .data, .data, .sentinel, .sentinel, .data, .pinned], laidTests := true, laidLooks := .later }
def TinBackUptoCardSaid : Prop := Claim7.holds Tryz.pinned (.plain (OpenSpec.upto tinBackSpec)) tinBackUptoCard

/-- THE SECOND FORM's CARD OF 'rostellumlaw08.TinKnown'. -/
def tinKnownUptoCard : Claim7 := { stood := { row := tinKnownUptoRow, standIns := [], harness := (true, "81b7b1e62299bdd3d3dcf70d4cdc6a56150de772d0e2de758bbe8cda0b6a2d10"), looks := true }, kinds := [], alts := [], laidByText := true, laidKinds := [.data, .data, .data, .data, .sentinel, .sentinel, .data, .pinned], laidTests := true, laidLooks := .later }
def TinKnownUptoCardSaid : Prop := Claim7.holds Tryz.pinned (.plain (OpenSpec.upto tinKnownSpec)) tinKnownUptoCard
end Rows
end Go.Proofs.YtgnhcmjbhfjnfaaGreatDoor
