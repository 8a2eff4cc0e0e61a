/-
  DERIVED. GIVEN WITH THE SEED: THE CARDS: each row of YtabiiddijccmdaaDoorRows.lean that lists a variable, with what it lists TIED to the program's text (the seventh form; the later family's looks); each row that meets fmt, with fmt's text TOLD by the authors' own Lean function (tested against real Go, not proved from fmt's source: count such statements apart). THE CARD IS WHAT COUNTS. Prove the row's statement (the work); the ties are given (YtabiiddijccmdaaDoorTie.lean); close each card by the builder's one call (the guide's Derived/Test/ToyasCard.lean, 'card_holds'). Laid BY PROGRAM, IN A SANDBOX (cutbox-door.mjs). By AI agents, Wed Nov 11 2026. No macro, syntax, notation, axiom, sorry.
-/
import Derived.Test.YtabiiddijccmdaaDoorRows
import GoSem.ClaimSeven
namespace Go.Proofs.YtabiiddijccmdaaDoor
namespace Rows

/-- THE TIED CARD OF 'rostellumtop.TopRipe'. -/
def topRipeCard : Claim7 := { stood := { row := topRipeRow, standIns := [], harness := (true, "b8af7bcd533eae7edb8e38cd8662ff5cc0f1e32493df2aeb50637fa7f52c7489"), looks := false }, kinds := [], alts := [], laidByText := true, laidKinds := [.data, .data, .data], laidTests := true, laidLooks := .later }
def TopRipeCardSaid : Prop := Claim7.holds Tryd.pinned (.plain (OpenSpec.ofChange topRipeSpec)) topRipeCard

/-- THE TIED CARD OF 'rostellumtop.TopCured'. -/
def topCuredCard : Claim7 := { stood := { row := topCuredRow, standIns := [], harness := (true, "b8af7bcd533eae7edb8e38cd8662ff5cc0f1e32493df2aeb50637fa7f52c7489"), looks := false }, kinds := [], alts := [], laidByText := true, laidKinds := [.data, .data], laidTests := true, laidLooks := .later }
def TopCuredCardSaid : Prop := Claim7.holds Tryd.pinned (.plain (OpenSpec.ofChange topCuredSpec)) topCuredCard

/-- THE SECOND FORM's CARD OF 'rostellumtop.TopRipe'. -/
def topRipeUptoCard : Claim7 := { stood := { row := topRipeUptoRow, standIns := [], harness := (true, "b8af7bcd533eae7edb8e38cd8662ff5cc0f1e32493df2aeb50637fa7f52c7489"), looks := false }, kinds := [], alts := [], laidByText := true, laidKinds := [.data, .data, .data], laidTests := true, laidLooks := .later }
def TopRipeUptoCardSaid : Prop := Claim7.holds Tryd.pinned (.plain (OpenSpec.upto topRipeSpec)) topRipeUptoCard

/-- THE SECOND FORM's CARD OF 'rostellumtop.TopCured'. -/
def topCuredUptoCard : Claim7 := { stood := { row := topCuredUptoRow, standIns := [], harness := (true, "b8af7bcd533eae7edb8e38cd8662ff5cc0f1e32493df2aeb50637fa7f52c7489"), looks := false }, kinds := [], alts := [], laidByText := true, laidKinds := [.data, .data], laidTests := true, laidLooks := .later }
def TopCuredUptoCardSaid : Prop := Claim7.holds Tryd.pinned (.plain (OpenSpec.upto topCuredSpec)) topCuredUptoCard
end Rows
end Go.Proofs.YtabiiddijccmdaaDoor
