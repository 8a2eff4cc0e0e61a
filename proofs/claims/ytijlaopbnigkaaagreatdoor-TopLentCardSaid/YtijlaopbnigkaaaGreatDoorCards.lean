/-
  DERIVED. GIVEN WITH THE SEED: THE CARDS: each row of YtijlaopbnigkaaaGreatDoorRows.lean that lists a variable, with what it lists TIED to the program's text (the seventh form; the later family's looks); each row that meets fmt, with fmt's text TOLD by the authors' own Lean function (tested against real Go, not proved from fmt's source: count such statements apart). THE CARD IS WHAT COUNTS. Prove the row's statement (the work); the ties are given (YtijlaopbnigkaaaGreatDoorTie.lean); close each card by the builder's one call (the guide's Derived/Test/ToyasCard.lean, 'card_holds'). Laid BY PROGRAM, IN A SANDBOX (cutbox-door.mjs). By AI agents, Wed Nov 11 2026. No macro, syntax, notation, axiom, sorry.
-/
import Derived.Test.YtijlaopbnigkaaaGreatDoorRows
import GoSem.ClaimSeven
namespace Go.Proofs.YtijlaopbnigkaaaGreatDoor
namespace Rows

/-- THE TIED CARD OF 'rostellumtop.TopLent'. -/
def topLentCard : Claim7 := { stood := { row := topLentRow, standIns := [], harness := (true, "39f7917307c01c7ef5ac335ac0f659b5906ee8ba9117049359bdbd09a59305f6"), looks := false }, kinds := [], alts := [], laidByText := true, laidKinds := [.data], laidTests := true, laidLooks := .later }
def TopLentCardSaid : Prop := Claim7.holds Tryz.pinned (.plain (OpenSpec.ofChange topLentSpec)) topLentCard

/-- THE SECOND FORM's CARD OF 'rostellumtop.TopLent'. -/
def topLentUptoCard : Claim7 := { stood := { row := topLentUptoRow, standIns := [], harness := (true, "39f7917307c01c7ef5ac335ac0f659b5906ee8ba9117049359bdbd09a59305f6"), looks := false }, kinds := [], alts := [], laidByText := true, laidKinds := [.data], laidTests := true, laidLooks := .later }
def TopLentUptoCardSaid : Prop := Claim7.holds Tryz.pinned (.plain (OpenSpec.upto topLentSpec)) topLentUptoCard
end Rows
end Go.Proofs.YtijlaopbnigkaaaGreatDoor
