/-
  DERIVED. GIVEN WITH THE SEED: THE CARDS: each row of YtnmamelclmfplaaDoorRows.lean that lists a variable, with what it lists TIED to the program's text (the seventh form; the later family's looks); each row that meets fmt, with fmt's text TOLD by the authors' own Lean function (tested against real Go, not proved from fmt's source: count such statements apart). THE CARD IS WHAT COUNTS. Prove the row's statement (the work); the ties are given (YtnmamelclmfplaaDoorTie.lean); close each card by the builder's one call (the guide's Derived/Test/ToyasCard.lean, 'card_holds'). Laid BY PROGRAM, IN A SANDBOX (cutbox-door.mjs). By AI agents, Wed Nov 11 2026. No macro, syntax, notation, axiom, sorry.
-/
import Derived.Test.YtnmamelclmfplaaDoorRows
import GoSem.ClaimSeven
namespace Go.Proofs.YtnmamelclmfplaaDoor
namespace Rows

/-- THE TIED CARD OF 'rostellumlaw06.CureCans'. -/
def cureCansCard : Claim7 := { stood := { row := cureCansRow, standIns := [], harness := (true, "1252632c4e54c39158ee47bd577508b286d21e2b6ea91f2000bb00dbb36e85d5"), looks := false }, kinds := [], alts := [], laidByText := true, laidKinds := [.data], laidTests := true, laidLooks := .later }
def CureCansCardSaid : Prop := Claim7.holds Tryd.pinned (.plain (OpenSpec.ofChange cureCansSpec)) cureCansCard

/-- THE TIED CARD OF 'rostellumlaw06.CureSpans'. -/
def cureSpansCard : Claim7 := { stood := { row := cureSpansRow, standIns := [], harness := (true, "1252632c4e54c39158ee47bd577508b286d21e2b6ea91f2000bb00dbb36e85d5"), looks := false }, kinds := [], alts := [], laidByText := true, laidKinds := [.data], laidTests := true, laidLooks := .later }
def CureSpansCardSaid : Prop := Claim7.holds Tryd.pinned (.plain (OpenSpec.ofChange cureSpansSpec)) cureSpansCard

/-- THE TIED CARD OF 'rostellumlaw06.CurePlans'. -/
def curePlansCard : Claim7 := { stood := { row := curePlansRow, standIns := [], harness := (true, "1252632c4e54c39158ee47bd577508b286d21e2b6ea91f2000bb00dbb36e85d5"), looks := false }, kinds := [], alts := [], laidByText := true, laidKinds := [.data], laidTests := true, laidLooks := .later }
def CurePlansCardSaid : Prop := Claim7.holds Tryd.pinned (.plain (OpenSpec.ofChange curePlansSpec)) curePlansCard

/-- THE TIED CARD OF 'rostellumlaw06.CureTrue'. -/
def cureTrueCard : Claim7 := { stood := { row := cureTrueRow, standIns := [], harness := (true, "1252632c4e54c39158ee47bd577508b286d21e2b6ea91f2000bb00dbb36e85d5"), looks := false }, kinds := [], alts := [], laidByText := true, laidKinds := [.data], laidTests := true, laidLooks := .later }
def CureTrueCardSaid : Prop := Claim7.holds Tryd.pinned (.plain (OpenSpec.ofChange cureTrueSpec)) cureTrueCard

/-- THE TIED CARD OF 'rostellumlaw06.CureEnds'. -/
def cureEndsCard : Claim7 := { stood := { row := cureEndsRow, standIns := [], harness := (true, "1252632c4e54c39158ee47bd577508b286d21e2b6ea91f2000bb00dbb36e85d5"), looks := false }, kinds := [], alts := [], laidByText := true, laidKinds := [.data], laidTests := true, laidLooks := .later }
def CureEndsCardSaid : Prop := Claim7.holds Tryd.pinned (.plain (OpenSpec.ofChange cureEndsSpec)) cureEndsCard

/-- THE TIED CARD OF 'rostellumlaw06.CureLimit'. -/
def cureLimitCard : Claim7 := { stood := { row := cureLimitRow, standIns := [], harness := (true, "1252632c4e54c39158ee47bd577508b286d21e2b6ea91f2000bb00dbb36e85d5"), looks := false }, kinds := [], alts := [], laidByText := true, laidKinds := [.data], laidTests := true, laidLooks := .later }
def CureLimitCardSaid : Prop := Claim7.holds Tryd.pinned (.plain (OpenSpec.ofChange cureLimitSpec)) cureLimitCard

/-- THE TIED CARD OF 'rostellumlaw06.CureOdder'. -/
def cureOdderCard : Claim7 := { stood := { row := cureOdderRow, standIns := [], harness := (true, "1252632c4e54c39158ee47bd577508b286d21e2b6ea91f2000bb00dbb36e85d5"), looks := false }, kinds := [], alts := [], laidByText := true, laidKinds := [.data], laidTests := true, laidLooks := .later }
def CureOdderCardSaid : Prop := Claim7.holds Tryd.pinned (.plain (OpenSpec.ofChange cureOdderSpec)) cureOdderCard

/-- THE TIED CARD OF 'rostellumlaw06.CureNarrow'. -/
def cureNarrowCard : Claim7 := { stood := { row := cureNarrowRow, standIns := [], harness := (true, "1252632c4e54c39158ee47bd577508b286d21e2b6ea91f2000bb00dbb36e85d5"), looks := false }, kinds := [], alts := [], laidByText := true, laidKinds := [.data], laidTests := true, laidLooks := .later }
def CureNarrowCardSaid : Prop := Claim7.holds Tryd.pinned (.plain (OpenSpec.ofChange cureNarrowSpec)) cureNarrowCard

/-- THE TIED CARD OF 'rostellumlaw06.CureKnown'. -/
def cureKnownCard : Claim7 := { stood := { row := cureKnownRow, standIns := [], harness := (true, "1252632c4e54c39158ee47bd577508b286d21e2b6ea91f2000bb00dbb36e85d5"), looks := false }, kinds := [], alts := [], laidByText := true, laidKinds := [.data], laidTests := true, laidLooks := .later }
def CureKnownCardSaid : Prop := Claim7.holds Tryd.pinned (.plain (OpenSpec.ofChange cureKnownSpec)) cureKnownCard

/-- THE SECOND FORM's CARD OF 'rostellumlaw06.CureCans'. -/
def cureCansUptoCard : Claim7 := { stood := { row := cureCansUptoRow, standIns := [], harness := (true, "1252632c4e54c39158ee47bd577508b286d21e2b6ea91f2000bb00dbb36e85d5"), looks := false }, kinds := [], alts := [], laidByText := true, laidKinds := [.data], laidTests := true, laidLooks := .later }
def CureCansUptoCardSaid : Prop := Claim7.holds Tryd.pinned (.plain (OpenSpec.upto cureCansSpec)) cureCansUptoCard

/-- THE SECOND FORM's CARD OF 'rostellumlaw06.CureSpans'. -/
def cureSpansUptoCard : Claim7 := { stood := { row := cureSpansUptoRow, standIns := [], harness := (true, "1252632c4e54c39158ee47bd577508b286d21e2b6ea91f2000bb00dbb36e85d5"), looks := false }, kinds := [], alts := [], laidByText := true, laidKinds := [.data], laidTests := true, laidLooks := .later }
def CureSpansUptoCardSaid : Prop := Claim7.holds Tryd.pinned (.plain (OpenSpec.upto cureSpansSpec)) cureSpansUptoCard

/-- THE SECOND FORM's CARD OF 'rostellumlaw06.CurePlans'. -/
def curePlansUptoCard : Claim7 := { stood := { row := curePlansUptoRow, standIns := [], harness := (true, "1252632c4e54c39158ee47bd577508b286d21e2b6ea91f2000bb00dbb36e85d5"), looks := false }, kinds := [], alts := [], laidByText := true, laidKinds := [.data], laidTests := true, laidLooks := .later }
def CurePlansUptoCardSaid : Prop := Claim7.holds Tryd.pinned (.plain (OpenSpec.upto curePlansSpec)) curePlansUptoCard

/-- THE SECOND FORM's CARD OF 'rostellumlaw06.CureTrue'. -/
def cureTrueUptoCard : Claim7 := { stood := { row := cureTrueUptoRow, standIns := [], harness := (true, "1252632c4e54c39158ee47bd577508b286d21e2b6ea91f2000bb00dbb36e85d5"), looks := false }, kinds := [], alts := [], laidByText := true, laidKinds := [.data], laidTests := true, laidLooks := .later }
def CureTrueUptoCardSaid : Prop := Claim7.holds Tryd.pinned (.plain (OpenSpec.upto cureTrueSpec)) cureTrueUptoCard

/-- THE SECOND FORM's CARD OF 'rostellumlaw06.CureEnds'. -/
def cureEndsUptoCard : Claim7 := { stood := { row := cureEndsUptoRow, standIns := [], harness := (true, "1252632c4e54c39158ee47bd577508b286d21e2b6ea91f2000bb00dbb36e85d5"), looks := false }, kinds := [], alts := [], laidByText := true, laidKinds := [.data], laidTests := true, laidLooks := .later }
def CureEndsUptoCardSaid : Prop := Claim7.holds Tryd.pinned (.plain (OpenSpec.upto cureEndsSpec)) cureEndsUptoCard

/-- THE SECOND FORM's CARD OF 'rostellumlaw06.CureLimit'. -/
def cureLimitUptoCard : Claim7 := { stood := { row := cureLimitUptoRow, standIns := [], harness := (true, "1252632c4e54c39158ee47bd577508b286d21e2b6ea91f2000bb00dbb36e85d5"), looks := false }, kinds := [], alts := [], laidByText := true, laidKinds := [.data], laidTests := true, laidLooks := .later }
def CureLimitUptoCardSaid : Prop := Claim7.holds Tryd.pinned (.plain (OpenSpec.upto cureLimitSpec)) cureLimitUptoCard

/-- THE SECOND FORM's CARD OF 'rostellumlaw06.CureOdder'. -/
def cureOdderUptoCard : Claim7 := { stood := { row := cureOdderUptoRow, standIns := [], harness := (true, "1252632c4e54c39158ee47bd577508b286d21e2b6ea91f2000bb00dbb36e85d5"), looks := false }, kinds := [], alts := [], laidByText := true, laidKinds := [.data], laidTests := true, laidLooks := .later }
def CureOdderUptoCardSaid : Prop := Claim7.holds Tryd.pinned (.plain (OpenSpec.upto cureOdderSpec)) cureOdderUptoCard

/-- THE SECOND FORM's CARD OF 'rostellumlaw06.CureNarrow'. -/
def cureNarrowUptoCard : Claim7 := { stood := { row := cureNarrowUptoRow, standIns := [], harness := (true, "1252632c4e54c39158ee47bd577508b286d21e2b6ea91f2000bb00dbb36e85d5"), looks := false }, kinds := [], alts := [], laidByText := true, laidKinds := [.data], laidTests := true, laidLooks := .later }
def CureNarrowUptoCardSaid : Prop := Claim7.holds Tryd.pinned (.plain (OpenSpec.upto cureNarrowSpec)) cureNarrowUptoCard

/-- THE SECOND FORM's CARD OF 'rostellumlaw06.CureKnown'. -/
def cureKnownUptoCard : Claim7 := { stood := { row := cureKnownUptoRow, standIns := [], harness := (true, "1252632c4e54c39158ee47bd577508b286d21e2b6ea91f2000bb00dbb36e85d5"), looks := false }, kinds := [], alts := [], laidByText := true, laidKinds := [.data], laidTests := true, laidLooks := .later }
def CureKnownUptoCardSaid : Prop := Claim7.holds Tryd.pinned (.plain (OpenSpec.upto cureKnownSpec)) cureKnownUptoCard
end Rows
end Go.Proofs.YtnmamelclmfplaaDoor
