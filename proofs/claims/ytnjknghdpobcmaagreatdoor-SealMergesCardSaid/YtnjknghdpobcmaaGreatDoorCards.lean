/-
  DERIVED. GIVEN WITH THE SEED: THE CARDS: each row of YtnjknghdpobcmaaGreatDoorRows.lean that lists a variable, with what it lists TIED to the program's text (the seventh form; the later family's looks); each row that meets fmt, with fmt's text TOLD by the authors' own Lean function (tested against real Go, not proved from fmt's source: count such statements apart). THE CARD IS WHAT COUNTS. Prove the row's statement (the work); the ties are given (YtnjknghdpobcmaaGreatDoorTie.lean); close each card by the builder's one call (the guide's Derived/Test/ToyasCard.lean, 'card_holds'). Laid BY PROGRAM, IN A SANDBOX (cutbox-door.mjs). By AI agents, Wed Nov 11 2026. No macro, syntax, notation, axiom, sorry.
-/
import Derived.Test.YtnjknghdpobcmaaGreatDoorRows
import GoSem.ClaimSeven
namespace Go.Proofs.YtnjknghdpobcmaaGreatDoor
namespace Rows

/-- THE TIED CARD OF 'rostellumlaw10.SealMerges'. -/
def sealMergesCard : Claim7 := { stood := { row := sealMergesRow, standIns := [], harness := (true, "13dd3f193e78513b304a6c66849bc3d6d012f1e7b43aef276bb2b291ba39ad66"), looks := true }, kinds := [], alts := [], laidByText := true, laidKinds := [.data, .data, .data, .data, .sentinel, .sentinel, .data, .pinned], laidTests := true, laidLooks := .later }
def SealMergesCardSaid : Prop := Claim7.holds Tryz.pinned (.plain (OpenSpec.ofChange sealMergesSpec)) sealMergesCard

/-- THE TIED CARD OF 'rostellumlaw10.SealChains'. -/
def sealChainsCard : Claim7 := { stood := { row := sealChainsRow, standIns := [], harness := (true, "13dd3f193e78513b304a6c66849bc3d6d012f1e7b43aef276bb2b291ba39ad66"), looks := true }, kinds := [], alts := [], laidByText := true, laidKinds := [.data, .data, .data, .data, .sentinel, .sentinel, .data, .pinned], laidTests := true, laidLooks := .later }
def SealChainsCardSaid : Prop := Claim7.holds Tryz.pinned (.plain (OpenSpec.ofChange sealChainsSpec)) sealChainsCard

/-- THE TIED CARD OF 'rostellumlaw10.SealTins'. -/
def sealTinsCard : Claim7 := { stood := { row := sealTinsRow, standIns := [], harness := (true, "13dd3f193e78513b304a6c66849bc3d6d012f1e7b43aef276bb2b291ba39ad66"), looks := true }, kinds := [], alts := [], laidByText := true, laidKinds := [.data, .data, .data, .data, .sentinel, .sentinel, .data, .pinned], laidTests := true, laidLooks := .later }
def SealTinsCardSaid : Prop := Claim7.holds Tryz.pinned (.plain (OpenSpec.ofChange sealTinsSpec)) sealTinsCard

/-- THE TIED CARD OF 'rostellumlaw10.SealPrints'. -/
def sealPrintsCard : Claim7 := { stood := { row := sealPrintsRow, standIns := [], harness := (true, "13dd3f193e78513b304a6c66849bc3d6d012f1e7b43aef276bb2b291ba39ad66"), looks := true }, kinds := [], alts := [], laidByText := true, laidKinds := [.data, .data, .data, .data, .sentinel, .sentinel, .data, .pinned], laidTests := true, laidLooks := .later }
def SealPrintsCardSaid : Prop := Claim7.holds Tryz.pinned (.plain (OpenSpec.ofChange sealPrintsSpec)) sealPrintsCard

/-- THE TIED CARD OF 'rostellumlaw10.SealAnyOrder'. -/
def sealAnyOrderCard : Claim7 := { stood := { row := sealAnyOrderRow, standIns := [], harness := (true, "13dd3f193e78513b304a6c66849bc3d6d012f1e7b43aef276bb2b291ba39ad66"), looks := true }, kinds := [], alts := [], laidByText := true, laidKinds := [.data, .data, .data, .data, .sentinel, .sentinel, .data, .pinned], laidTests := true, laidLooks := .later }
def SealAnyOrderCardSaid : Prop := Claim7.holds Tryz.pinned (.plain (OpenSpec.ofChange sealAnyOrderSpec)) sealAnyOrderCard

/-- THE TIED CARD OF 'rostellumlaw10.SealChained'. -/
def sealChainedCard : Claim7 := { stood := { row := sealChainedRow, standIns := [], harness := (true, "13dd3f193e78513b304a6c66849bc3d6d012f1e7b43aef276bb2b291ba39ad66"), looks := true }, kinds := [], alts := [], laidByText := true, laidKinds := [.data, .data, .data, .data, .sentinel, .sentinel, .data, .pinned], laidTests := true, laidLooks := .later }
def SealChainedCardSaid : Prop := Claim7.holds Tryz.pinned (.plain (OpenSpec.ofChange sealChainedSpec)) sealChainedCard

/-- THE TIED CARD OF 'rostellumlaw10.SealNeeded'. -/
def sealNeededCard : Claim7 := { stood := { row := sealNeededRow, standIns := [], harness := (true, "13dd3f193e78513b304a6c66849bc3d6d012f1e7b43aef276bb2b291ba39ad66"), looks := true }, kinds := [], alts := [], laidByText := true, laidKinds := [.data, .data, .data, .data, .sentinel, .sentinel, .data, .pinned], laidTests := true, laidLooks := .later }
def SealNeededCardSaid : Prop := Claim7.holds Tryz.pinned (.plain (OpenSpec.ofChange sealNeededSpec)) sealNeededCard

/-- THE TIED CARD OF 'rostellumlaw10.SealTin'. -/
def sealTinCard : Claim7 := { stood := { row := sealTinRow, standIns := [], harness := (true, "13dd3f193e78513b304a6c66849bc3d6d012f1e7b43aef276bb2b291ba39ad66"), looks := true }, kinds := [], alts := [], laidByText := true, laidKinds := [.data, .data, .data, .data, .sentinel, .sentinel, .data, .pinned], laidTests := true, laidLooks := .later }
def SealTinCardSaid : Prop := Claim7.holds Tryz.pinned (.plain (OpenSpec.ofChange sealTinSpec)) sealTinCard

/-- THE TIED CARD OF 'rostellumlaw10.SealMore'. -/
def sealMoreCard : Claim7 := { stood := { row := sealMoreRow, standIns := [], harness := (true, "13dd3f193e78513b304a6c66849bc3d6d012f1e7b43aef276bb2b291ba39ad66"), looks := true }, kinds := [], alts := [], laidByText := true, laidKinds := [.data, .data, .data, .data, .sentinel, .sentinel, .data, .pinned], laidTests := true, laidLooks := .later }
def SealMoreCardSaid : Prop := Claim7.holds Tryz.pinned (.plain (OpenSpec.ofChange sealMoreSpec)) sealMoreCard

/-- THE TIED CARD OF 'rostellumlaw10.SealBack'. -/
def sealBackCard : Claim7 := { stood := { row := sealBackRow, standIns := [], harness := (true, "13dd3f193e78513b304a6c66849bc3d6d012f1e7b43aef276bb2b291ba39ad66"), looks := true }, kinds := [], alts := [], laidByText := true, laidKinds := [.data, .data, .data, .data, .sentinel, .sentinel, .data, .pinned], laidTests := true, laidLooks := .later }
def SealBackCardSaid : Prop := Claim7.holds Tryz.pinned (.plain (OpenSpec.ofChange sealBackSpec)) sealBackCard

/-- THE TIED CARD OF 'rostellumlaw10.SealKnown'. -/
def sealKnownCard : Claim7 := { stood := { row := sealKnownRow, standIns := [], harness := (true, "13dd3f193e78513b304a6c66849bc3d6d012f1e7b43aef276bb2b291ba39ad66"), looks := true }, kinds := [], alts := [], laidByText := true, laidKinds := [.data, .data, .data, .data, .sentinel, .sentinel, .data, .pinned], laidTests := true, laidLooks := .later }
def SealKnownCardSaid : Prop := Claim7.holds Tryz.pinned (.plain (OpenSpec.ofChange sealKnownSpec)) sealKnownCard

/-- THE SECOND FORM's CARD OF 'rostellumlaw10.SealMerges'. -/
def sealMergesUptoCard : Claim7 := { stood := { row := sealMergesUptoRow, standIns := [], harness := (true, "13dd3f193e78513b304a6c66849bc3d6d012f1e7b43aef276bb2b291ba39ad66"), looks := true }, kinds := [], alts := [], laidByText := true, laidKinds := [.data, .data, .data, .data, .sentinel, .sentinel, .data, .pinned], laidTests := true, laidLooks := .later }
def SealMergesUptoCardSaid : Prop := Claim7.holds Tryz.pinned (.plain (OpenSpec.upto sealMergesSpec)) sealMergesUptoCard

/-- THE SECOND FORM's CARD OF 'rostellumlaw10.SealChains'. -/
def sealChainsUptoCard : Claim7 := { stood := { row := sealChainsUptoRow, standIns := [], harness := (true, "13dd3f193e78513b304a6c66849bc3d6d012f1e7b43aef276bb2b291ba39ad66"), looks := true }, kinds := [], alts := [], laidByText := true, laidKinds := [.data, .data, .data, .data, .sentinel, .sentinel, .data, .pinned], laidTests := true, laidLooks := .later }
def SealChainsUptoCardSaid : Prop := Claim7.holds Tryz.pinned (.plain (OpenSpec.upto sealChainsSpec)) sealChainsUptoCard

/-- THE SECOND FORM's CARD OF 'rostellumlaw10.SealTins'. -/
def sealTinsUptoCard : Claim7 := { stood := { row := sealTinsUptoRow, standIns := [], harness := (true, "13dd3f193e78513b304a6c66849bc3d6d012f1e7b43aef276bb2b291ba39ad66"), looks := true }, kinds := [], alts := [], laidByText := true, laidKinds := [.data, .data, .data, .data, .sentinel, .sentinel, .data, .pinned], laidTests := true, laidLooks := .later }
def SealTinsUptoCardSaid : Prop := Claim7.holds Tryz.pinned (.plain (OpenSpec.upto sealTinsSpec)) sealTinsUptoCard

/-- THE SECOND FORM's CARD OF 'rostellumlaw10.SealPrints'. -/
def sealPrintsUptoCard : Claim7 := { stood := { row := sealPrintsUptoRow, standIns := [], harness := (true, "13dd3f193e78513b304a6c66849bc3d6d012f1e7b43aef276bb2b291ba39ad66"), looks := true }, kinds := [], alts := [], laidByText := true, laidKinds := [.data, .data, .data, .data, .sentinel, .sentinel, .data, .pinned], laidTests := true, laidLooks := .later }
def SealPrintsUptoCardSaid : Prop := Claim7.holds Tryz.pinned (.plain (OpenSpec.upto sealPrintsSpec)) sealPrintsUptoCard

/-- THE SECOND FORM's CARD OF 'rostellumlaw10.SealAnyOrder'. -/
def sealAnyOrderUptoCard : Claim7 := { stood := { row := sealAnyOrderUptoRow, standIns := [], harness := (true, "13dd3f193e78513b304a6c66849bc3d6d012f1e7b43aef276bb2b291ba39ad66"), looks := true }, kinds := [], alts := [], laidByText := true, laidKinds := [.data, .data, .data, .data, .sentinel, .sentinel, .data, .pinned], laidTests := true, laidLooks := .later }
def SealAnyOrderUptoCardSaid : Prop := Claim7.holds Tryz.pinned (.plain (OpenSpec.upto sealAnyOrderSpec)) sealAnyOrderUptoCard

/-- THE SECOND FORM's CARD OF 'rostellumlaw10.SealChained'. -/
def sealChainedUptoCard : Claim7 := { stood := { row := sealChainedUptoRow, standIns := [], harness := (true, "13dd3f193e78513b304a6c66849bc3d6d012f1e7b43aef276bb2b291ba39ad66"), looks := true }, kinds := [], alts := [], laidByText := true, laidKinds := [.data, .data, .data, .data, .sentinel, .sentinel, .data, .pinned], laidTests := true, laidLooks := .later }
def SealChainedUptoCardSaid : Prop := Claim7.holds Tryz.pinned (.plain (OpenSpec.upto sealChainedSpec)) sealChainedUptoCard

/-- THE SECOND FORM's CARD OF 'rostellumlaw10.SealNeeded'. -/
def sealNeededUptoCard : Claim7 := { stood := { row := sealNeededUptoRow, standIns := [], harness := (true, "13dd3f193e78513b304a6c66849bc3d6d012f1e7b43aef276bb2b291ba39ad66"), looks := true }, kinds := [], alts := [], laidByText := true, laidKinds := [.data, .data, .data, .data, .sentinel, .sentinel, .data, .pinned], laidTests := true, laidLooks := .later }
def SealNeededUptoCardSaid : Prop := Claim7.holds Tryz.pinned (.plain (OpenSpec.upto sealNeededSpec)) sealNeededUptoCard

/-- THE SECOND FORM's CARD OF 'rostellumlaw10.SealTin'. -/
def sealTinUptoCard : Claim7 := { stood := { row := sealTinUptoRow, standIns := [], harness := (true, "13dd3f193e78513b304a6c66849bc3d6d012f1e7b43aef276bb2b291ba39ad66"), looks := true }, kinds := [], alts := [], laidByText := true, laidKinds := [.data, .data, .data, .data, .sentinel, .sentinel, .data, .pinned], laidTests := true, laidLooks := .later }
def SealTinUptoCardSaid : Prop := Claim7.holds Tryz.pinned (.plain (OpenSpec.upto sealTinSpec)) sealTinUptoCard

/-- THE SECOND FORM's CARD OF 'rostellumlaw10.SealMore'. -/
def sealMoreUptoCard : Claim7 := { stood := { row := sealMoreUptoRow, standIns := [], harness := (true, "13dd3f193e78513b304a6c66849bc3d6d012f1e7b43aef276bb2b291ba39ad66"), looks := true }, kinds := [], alts := [], laidByText := true, laidKinds := [.data, .data, .data, .data, .sentinel, .sentinel, .data, .pinned], laidTests := true, laidLooks := .later }
def SealMoreUptoCardSaid : Prop := Claim7.holds Tryz.pinned (.plain (OpenSpec.upto sealMoreSpec)) sealMoreUptoCard

/-- THE SECOND FORM's CARD OF 'rostellumlaw10.SealBack'. -/
def sealBackUptoCard : Claim7 := { stood := { row := sealBackUptoRow, standIns := [], harness := (true, "13dd3f193e78513b304a6c66849bc3d6d012f1e7b43aef276bb2b291ba39ad66"), looks := true }, kinds := [], alts := [], laidByText := true, laidKinds := [.data, .data, .data, .data, .sentinel, .sentinel, .data, .pinned], laidTests := true, laidLooks := .later }
def SealBackUptoCardSaid : Prop := Claim7.holds Tryz.pinned (.plain (OpenSpec.upto sealBackSpec)) sealBackUptoCard

/-- THE SECOND FORM's CARD OF 'rostellumlaw10.SealKnown'. -/
def sealKnownUptoCard : Claim7 := { stood := { row := sealKnownUptoRow, standIns := [], harness := (true, "13dd3f193e78513b304a6c66849bc3d6d012f1e7b43aef276bb2b291ba39ad66"), looks := true }, kinds := [], alts := [], laidByText := true, laidKinds := [.data, .data, .data, .data, .sentinel, .sentinel, .data, .pinned], laidTests := true, laidLooks := .later }
def SealKnownUptoCardSaid : Prop := Claim7.holds Tryz.pinned (.plain (OpenSpec.upto sealKnownSpec)) sealKnownUptoCard
end Rows
end Go.Proofs.YtnjknghdpobcmaaGreatDoor
