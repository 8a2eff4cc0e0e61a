/-
  DERIVED. GIVEN WITH THE SEED: THE CARDS: each row of YtcolofoifhbdpaaGreatDoorRows.lean that lists a variable, with what it lists TIED to the program's text (the seventh form; the later family's looks); each row that meets fmt, with fmt's text TOLD by the authors' own Lean function (tested against real Go, not proved from fmt's source: count such statements apart). THE CARD IS WHAT COUNTS. Prove the row's statement (the work); the ties are given (YtcolofoifhbdpaaGreatDoorTie.lean); close each card by the builder's one call (the guide's Derived/Test/ToyasCard.lean, 'card_holds'). Laid BY PROGRAM, IN A SANDBOX (cutbox-door.mjs). By AI agents, Wed Nov 11 2026. No macro, syntax, notation, axiom, sorry.
-/
import Derived.Test.YtcolofoifhbdpaaGreatDoorRows
import GoSem.ClaimSeven
namespace Go.Proofs.YtcolofoifhbdpaaGreatDoor
namespace Rows

/-- THE TIED CARD OF 'rostellumlaw01.VineWords'. -/
def vineWordsCard : Claim7 := { stood := { row := vineWordsRow, standIns := [], harness := (true, "32e2c91c811d1ab47ee77c9732239665ebb5dc6e4ee7a4ef4f75fa43a7ee16ea"), looks := true }, kinds := [], alts := [], laidByText := true, laidKinds := [.data, .data, .data, .sentinel, .sentinel, .data], laidTests := true, laidLooks := .later }
def VineWordsCardSaid : Prop := Claim7.holds Tryz.pinned (.plain (OpenSpec.ofChange vineWordsSpec)) vineWordsCard

/-- THE TIED CARD OF 'rostellumlaw01.VineFed'. -/
def vineFedCard : Claim7 := { stood := { row := vineFedRow, standIns := [], harness := (true, "32e2c91c811d1ab47ee77c9732239665ebb5dc6e4ee7a4ef4f75fa43a7ee16ea"), looks := true }, kinds := [], alts := [], laidByText := true, laidKinds := [.data, .data, .data, .sentinel, .sentinel, .data], laidTests := true, laidLooks := .later }
def VineFedCardSaid : Prop := Claim7.holds Tryz.pinned (.plain (OpenSpec.ofChange vineFedSpec)) vineFedCard

/-- THE SECOND FORM's CARD OF 'rostellumlaw01.VineWords'. -/
def vineWordsUptoCard : Claim7 := { stood := { row := vineWordsUptoRow, standIns := [], harness := (true, "32e2c91c811d1ab47ee77c9732239665ebb5dc6e4ee7a4ef4f75fa43a7ee16ea"), looks := true }, kinds := [], alts := [], laidByText := true, laidKinds := [.data, .data, .data, .sentinel, .sentinel, .data], laidTests := true, laidLooks := .later }
def VineWordsUptoCardSaid : Prop := Claim7.holds Tryz.pinned (.plain (OpenSpec.upto vineWordsSpec)) vineWordsUptoCard

/-- THE SECOND FORM's CARD OF 'rostellumlaw01.VineFed'. -/
def vineFedUptoCard : Claim7 := { stood := { row := vineFedUptoRow, standIns := [], harness := (true, "32e2c91c811d1ab47ee77c9732239665ebb5dc6e4ee7a4ef4f75fa43a7ee16ea"), looks := true }, kinds := [], alts := [], laidByText := true, laidKinds := [.data, .data, .data, .sentinel, .sentinel, .data], laidTests := true, laidLooks := .later }
def VineFedUptoCardSaid : Prop := Claim7.holds Tryz.pinned (.plain (OpenSpec.upto vineFedSpec)) vineFedUptoCard
end Rows
end Go.Proofs.YtcolofoifhbdpaaGreatDoor
