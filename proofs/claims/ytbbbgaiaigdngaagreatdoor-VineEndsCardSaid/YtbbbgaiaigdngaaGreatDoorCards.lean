/-
  DERIVED. GIVEN WITH THE SEED: THE CARDS: each row of YtbbbgaiaigdngaaGreatDoorRows.lean that lists a variable, with what it lists TIED to the program's text (the seventh form; the later family's looks); each row that meets fmt, with fmt's text TOLD by the authors' own Lean function (tested against real Go, not proved from fmt's source: count such statements apart). THE CARD IS WHAT COUNTS. Prove the row's statement (the work); the ties are given (YtbbbgaiaigdngaaGreatDoorTie.lean); close each card by the builder's one call (the guide's Derived/Test/ToyasCard.lean, 'card_holds'). Laid BY PROGRAM, IN A SANDBOX (cutbox-door.mjs). By AI agents, Wed Nov 11 2026. No macro, syntax, notation, axiom, sorry.
-/
import Derived.Test.YtbbbgaiaigdngaaGreatDoorRows
import GoSem.ClaimSeven
namespace Go.Proofs.YtbbbgaiaigdngaaGreatDoor
namespace Rows

/-- THE TIED CARD OF 'rostellumlaw01.VineFlowers'. -/
def vineFlowersCard : Claim7 := { stood := { row := vineFlowersRow, standIns := [], harness := (true, "55bbc6ee33ea23ca0a2f803bfde3ca3e331b5bc252e11556e1b33c5534d7601d"), looks := true }, kinds := [], alts := [], laidByText := true, laidKinds := [.data, .data, .data, .sentinel, .sentinel, .data], laidTests := true, laidLooks := .later }
def VineFlowersCardSaid : Prop := Claim7.holds Tryz.pinned (.plain (OpenSpec.ofChange vineFlowersSpec)) vineFlowersCard

/-- THE TIED CARD OF 'rostellumlaw01.VineTrue'. -/
def vineTrueCard : Claim7 := { stood := { row := vineTrueRow, standIns := [], harness := (true, "55bbc6ee33ea23ca0a2f803bfde3ca3e331b5bc252e11556e1b33c5534d7601d"), looks := true }, kinds := [], alts := [], laidByText := true, laidKinds := [.data, .data, .data, .sentinel, .sentinel, .data], laidTests := true, laidLooks := .later }
def VineTrueCardSaid : Prop := Claim7.holds Tryz.pinned (.plain (OpenSpec.ofChange vineTrueSpec)) vineTrueCard

/-- THE TIED CARD OF 'rostellumlaw01.VineEnds'. -/
def vineEndsCard : Claim7 := { stood := { row := vineEndsRow, standIns := [], harness := (true, "55bbc6ee33ea23ca0a2f803bfde3ca3e331b5bc252e11556e1b33c5534d7601d"), looks := true }, kinds := [], alts := [], laidByText := true, laidKinds := [.data, .data, .data, .sentinel, .sentinel, .data], laidTests := true, laidLooks := .later }
def VineEndsCardSaid : Prop := Claim7.holds Tryz.pinned (.plain (OpenSpec.ofChange vineEndsSpec)) vineEndsCard

/-- THE SECOND FORM's CARD OF 'rostellumlaw01.VineFlowers'. -/
def vineFlowersUptoCard : Claim7 := { stood := { row := vineFlowersUptoRow, standIns := [], harness := (true, "55bbc6ee33ea23ca0a2f803bfde3ca3e331b5bc252e11556e1b33c5534d7601d"), looks := true }, kinds := [], alts := [], laidByText := true, laidKinds := [.data, .data, .data, .sentinel, .sentinel, .data], laidTests := true, laidLooks := .later }
def VineFlowersUptoCardSaid : Prop := Claim7.holds Tryz.pinned (.plain (OpenSpec.upto vineFlowersSpec)) vineFlowersUptoCard

/-- THE SECOND FORM's CARD OF 'rostellumlaw01.VineTrue'. -/
def vineTrueUptoCard : Claim7 := { stood := { row := vineTrueUptoRow, standIns := [], harness := (true, "55bbc6ee33ea23ca0a2f803bfde3ca3e331b5bc252e11556e1b33c5534d7601d"), looks := true }, kinds := [], alts := [], laidByText := true, laidKinds := [.data, .data, .data, .sentinel, .sentinel, .data], laidTests := true, laidLooks := .later }
def VineTrueUptoCardSaid : Prop := Claim7.holds Tryz.pinned (.plain (OpenSpec.upto vineTrueSpec)) vineTrueUptoCard

/-- THE SECOND FORM's CARD OF 'rostellumlaw01.VineEnds'. -/
def vineEndsUptoCard : Claim7 := { stood := { row := vineEndsUptoRow, standIns := [], harness := (true, "55bbc6ee33ea23ca0a2f803bfde3ca3e331b5bc252e11556e1b33c5534d7601d"), looks := true }, kinds := [], alts := [], laidByText := true, laidKinds := [.data, .data, .data, .sentinel, .sentinel, .data], laidTests := true, laidLooks := .later }
def VineEndsUptoCardSaid : Prop := Claim7.holds Tryz.pinned (.plain (OpenSpec.upto vineEndsSpec)) vineEndsUptoCard
end Rows
end Go.Proofs.YtbbbgaiaigdngaaGreatDoor
