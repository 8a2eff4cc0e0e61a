/-
  DERIVED. GIVEN WITH THE SEED: THE CARDS: each row of YtkkoeeleieplhaaGreatDoorRows.lean that lists a variable, with what it lists TIED to the program's text (the seventh form; the later family's looks); each row that meets fmt, with fmt's text TOLD by the authors' own Lean function (tested against real Go, not proved from fmt's source: count such statements apart). THE CARD IS WHAT COUNTS. Prove the row's statement (the work); the ties are given (YtkkoeeleieplhaaGreatDoorTie.lean); close each card by the builder's one call (the guide's Derived/Test/ToyasCard.lean, 'card_holds'). Laid BY PROGRAM, IN A SANDBOX (cutbox-door.mjs). By AI agents, Wed Nov 11 2026. No macro, syntax, notation, axiom, sorry.
-/
import Derived.Test.YtkkoeeleieplhaaGreatDoorRows
import GoSem.ClaimSeven
namespace Go.Proofs.YtkkoeeleieplhaaGreatDoor
namespace Rows

/-- THE TIED CARD OF 'rostellumlaw01.VineTrims'. -/
def vineTrimsCard : Claim7 := { stood := { row := vineTrimsRow, standIns := [], harness := (true, "41689b6d306a3b5d52d59efcae9a35f1c8f44c5a95897022dfa1fa624a5ab2e8"), looks := true }, kinds := [], alts := [], laidByText := true, laidKinds := [.data, .data, .data, .sentinel, .sentinel, .data], laidTests := true, laidLooks := .later }
def VineTrimsCardSaid : Prop := Claim7.holds Tryz.pinned (.plain (OpenSpec.ofChange vineTrimsSpec)) vineTrimsCard

/-- THE TIED CARD OF 'rostellumlaw01.VineFewest'. -/
def vineFewestCard : Claim7 := { stood := { row := vineFewestRow, standIns := [], harness := (true, "41689b6d306a3b5d52d59efcae9a35f1c8f44c5a95897022dfa1fa624a5ab2e8"), looks := true }, kinds := [], alts := [], laidByText := true, laidKinds := [.data, .data, .data, .sentinel, .sentinel, .data], laidTests := true, laidLooks := .later }
def VineFewestCardSaid : Prop := Claim7.holds Tryz.pinned (.plain (OpenSpec.ofChange vineFewestSpec)) vineFewestCard

/-- THE SECOND FORM's CARD OF 'rostellumlaw01.VineTrims'. -/
def vineTrimsUptoCard : Claim7 := { stood := { row := vineTrimsUptoRow, standIns := [], harness := (true, "41689b6d306a3b5d52d59efcae9a35f1c8f44c5a95897022dfa1fa624a5ab2e8"), looks := true }, kinds := [], alts := [], laidByText := true, laidKinds := [.data, .data, .data, .sentinel, .sentinel, .data], laidTests := true, laidLooks := .later }
def VineTrimsUptoCardSaid : Prop := Claim7.holds Tryz.pinned (.plain (OpenSpec.upto vineTrimsSpec)) vineTrimsUptoCard

/-- THE SECOND FORM's CARD OF 'rostellumlaw01.VineFewest'. -/
def vineFewestUptoCard : Claim7 := { stood := { row := vineFewestUptoRow, standIns := [], harness := (true, "41689b6d306a3b5d52d59efcae9a35f1c8f44c5a95897022dfa1fa624a5ab2e8"), looks := true }, kinds := [], alts := [], laidByText := true, laidKinds := [.data, .data, .data, .sentinel, .sentinel, .data], laidTests := true, laidLooks := .later }
def VineFewestUptoCardSaid : Prop := Claim7.holds Tryz.pinned (.plain (OpenSpec.upto vineFewestSpec)) vineFewestUptoCard
end Rows
end Go.Proofs.YtkkoeeleieplhaaGreatDoor
