/-
  DERIVED. GIVEN WITH THE SEED: THE CARDS: each row of YthihnhgdbfcabaaGreatDoorRows.lean that lists a variable, with what it lists TIED to the program's text (the seventh form; the later family's looks); each row that meets fmt, with fmt's text TOLD by the authors' own Lean function (tested against real Go, not proved from fmt's source: count such statements apart). THE CARD IS WHAT COUNTS. Prove the row's statement (the work); the ties are given (YthihnhgdbfcabaaGreatDoorTie.lean); close each card by the builder's one call (the guide's Derived/Test/ToyasCard.lean, 'card_holds'). Laid BY PROGRAM, IN A SANDBOX (cutbox-door.mjs). By AI agents, Wed Nov 11 2026. No macro, syntax, notation, axiom, sorry.
-/
import Derived.Test.YthihnhgdbfcabaaGreatDoorRows
import GoSem.ClaimSeven
namespace Go.Proofs.YthihnhgdbfcabaaGreatDoor
namespace Rows

/-- THE TIED CARD OF 'rostellumlaw08.TinCodes'. -/
def tinCodesCard : Claim7 := { stood := { row := tinCodesRow, standIns := [], harness := (true, "5e56de7279c1e2de2adaef017d61725aa65c460ae46af9760c1c9b1bcf70398f"), looks := true }, kinds := [], alts := [], laidByText := true, laidKinds := [.data, .data, .data, .data, .sentinel, .sentinel, .data, .pinned], laidTests := true, laidLooks := .later }
def TinCodesCardSaid : Prop := Claim7.holds Tryz.pinned (.plain (OpenSpec.ofChange tinCodesSpec)) tinCodesCard

/-- THE TIED CARD OF 'rostellumlaw08.TinSorts'. -/
def tinSortsCard : Claim7 := { stood := { row := tinSortsRow, standIns := [], harness := (true, "5e56de7279c1e2de2adaef017d61725aa65c460ae46af9760c1c9b1bcf70398f"), looks := true }, kinds := [], alts := [], laidByText := true, laidKinds := [.data, .data, .data, .data, .sentinel, .sentinel, .data, .pinned], laidTests := true, laidLooks := .later }
def TinSortsCardSaid : Prop := Claim7.holds Tryz.pinned (.plain (OpenSpec.ofChange tinSortsSpec)) tinSortsCard

/-- THE TIED CARD OF 'rostellumlaw08.TinNoticed'. -/
def tinNoticedCard : Claim7 := { stood := { row := tinNoticedRow, standIns := [], harness := (true, "5e56de7279c1e2de2adaef017d61725aa65c460ae46af9760c1c9b1bcf70398f"), looks := true }, kinds := [], alts := [], laidByText := true, laidKinds := [.data, .data, .data, .data, .sentinel, .sentinel, .data, .pinned], laidTests := true, laidLooks := .later }
def TinNoticedCardSaid : Prop := Claim7.holds Tryz.pinned (.plain (OpenSpec.ofChange tinNoticedSpec)) tinNoticedCard

/-- THE TIED CARD OF 'rostellumlaw08.TinNear'. -/
def tinNearCard : Claim7 := { stood := { row := tinNearRow, standIns := [], harness := (true, "5e56de7279c1e2de2adaef017d61725aa65c460ae46af9760c1c9b1bcf70398f"), looks := true }, kinds := [], alts := [], laidByText := true, laidKinds := [.data, .data, .data, .data, .sentinel, .sentinel, .data, .pinned], laidTests := true, laidLooks := .later }
def TinNearCardSaid : Prop := Claim7.holds Tryz.pinned (.plain (OpenSpec.ofChange tinNearSpec)) tinNearCard

/-- THE TIED CARD OF 'rostellumlaw08.TinSorted'. -/
def tinSortedCard : Claim7 := { stood := { row := tinSortedRow, standIns := [], harness := (true, "5e56de7279c1e2de2adaef017d61725aa65c460ae46af9760c1c9b1bcf70398f"), looks := true }, kinds := [], alts := [], laidByText := true, laidKinds := [.data, .data, .data, .data, .sentinel, .sentinel, .data, .pinned], laidTests := true, laidLooks := .later }
def TinSortedCardSaid : Prop := Claim7.holds Tryz.pinned (.plain (OpenSpec.ofChange tinSortedSpec)) tinSortedCard

/-- THE SECOND FORM's CARD OF 'rostellumlaw08.TinCodes'. -/
def tinCodesUptoCard : Claim7 := { stood := { row := tinCodesUptoRow, standIns := [], harness := (true, "5e56de7279c1e2de2adaef017d61725aa65c460ae46af9760c1c9b1bcf70398f"), looks := true }, kinds := [], alts := [], laidByText := true, laidKinds := [.data, .data, .data, .data, .sentinel, .sentinel, .data, .pinned], laidTests := true, laidLooks := .later }
def TinCodesUptoCardSaid : Prop := Claim7.holds Tryz.pinned (.plain (OpenSpec.upto tinCodesSpec)) tinCodesUptoCard

/-- THE SECOND FORM's CARD OF 'rostellumlaw08.TinSorts'. -/
def tinSortsUptoCard : Claim7 := { stood := { row := tinSortsUptoRow, standIns := [], harness := (true, "5e56de7279c1e2de2adaef017d61725aa65c460ae46af9760c1c9b1bcf70398f"), looks := true }, kinds := [], alts := [], laidByText := true, laidKinds := [.data, .data, .data, .data, .sentinel, .sentinel, .data, .pinned], laidTests := true, laidLooks := .later }
def TinSortsUptoCardSaid : Prop := Claim7.holds Tryz.pinned (.plain (OpenSpec.upto tinSortsSpec)) tinSortsUptoCard

/-- THE SECOND FORM's CARD OF 'rostellumlaw08.TinNoticed'. -/
def tinNoticedUptoCard : Claim7 := { stood := { row := tinNoticedUptoRow, standIns := [], harness := (true, "5e56de7279c1e2de2adaef017d61725aa65c460ae46af9760c1c9b1bcf70398f"), looks := true }, kinds := [], alts := [], laidByText := true, laidKinds := [.data, .data, .data, .data, .sentinel, .sentinel, .data, .pinned], laidTests := true, laidLooks := .later }
def TinNoticedUptoCardSaid : Prop := Claim7.holds Tryz.pinned (.plain (OpenSpec.upto tinNoticedSpec)) tinNoticedUptoCard

/-- THE SECOND FORM's CARD OF 'rostellumlaw08.TinNear'. -/
def tinNearUptoCard : Claim7 := { stood := { row := tinNearUptoRow, standIns := [], harness := (true, "5e56de7279c1e2de2adaef017d61725aa65c460ae46af9760c1c9b1bcf70398f"), looks := true }, kinds := [], alts := [], laidByText := true, laidKinds := [.data, .data, .data, .data, .sentinel, .sentinel, .data, .pinned], laidTests := true, laidLooks := .later }
def TinNearUptoCardSaid : Prop := Claim7.holds Tryz.pinned (.plain (OpenSpec.upto tinNearSpec)) tinNearUptoCard

/-- THE SECOND FORM's CARD OF 'rostellumlaw08.TinSorted'. -/
def tinSortedUptoCard : Claim7 := { stood := { row := tinSortedUptoRow, standIns := [], harness := (true, "5e56de7279c1e2de2adaef017d61725aa65c460ae46af9760c1c9b1bcf70398f"), looks := true }, kinds := [], alts := [], laidByText := true, laidKinds := [.data, .data, .data, .data, .sentinel, .sentinel, .data, .pinned], laidTests := true, laidLooks := .later }
def TinSortedUptoCardSaid : Prop := Claim7.holds Tryz.pinned (.plain (OpenSpec.upto tinSortedSpec)) tinSortedUptoCard
end Rows
end Go.Proofs.YthihnhgdbfcabaaGreatDoor
