/-
  DERIVED. GIVEN WITH THE SEED: THE CARDS: each row of YtiibeglegiajfaaGreatDoorRows.lean that lists a variable, with what it lists TIED to the program's text (the seventh form; the later family's looks); each row that meets fmt, with fmt's text TOLD by the authors' own Lean function (tested against real Go, not proved from fmt's source: count such statements apart). THE CARD IS WHAT COUNTS. Prove the row's statement (the work); the ties are given (YtiibeglegiajfaaGreatDoorTie.lean); close each card by the builder's one call (the guide's Derived/Test/ToyasCard.lean, 'card_holds'). Laid BY PROGRAM, IN A SANDBOX (cutbox-door.mjs). By AI agents, Wed Nov 11 2026. No macro, syntax, notation, axiom, sorry.
-/
import Derived.Test.YtiibeglegiajfaaGreatDoorRows
import GoSem.ClaimSeven
namespace Go.Proofs.YtiibeglegiajfaaGreatDoor
namespace Rows

/-- THE TIED CARD OF 'rostellumlaw01.VineWords'. -/
def vineWordsCard : Claim7 := { stood := { row := vineWordsRow, standIns := [], harness := (true, "02ea969792a29bec3dc9bddb7a20396cf8360577987d9aa2bf3ea14dd9c0610a"), looks := true }, kinds := [], alts := [], laidByText := true, laidKinds := [.data, .data, .data, .sentinel, .sentinel, .data], laidTests := true, laidLooks := .later }
def VineWordsCardSaid : Prop := Claim7.holds Tryz.pinned (.plain (OpenSpec.ofChange vineWordsSpec)) vineWordsCard

/-- THE TIED CARD OF 'rostellumlaw01.VineHeats'. -/
def vineHeatsCard : Claim7 := { stood := { row := vineHeatsRow, standIns := [], harness := (true, "02ea969792a29bec3dc9bddb7a20396cf8360577987d9aa2bf3ea14dd9c0610a"), looks := true }, kinds := [], alts := [], laidByText := true, laidKinds := [.data, .data, .data, .sentinel, .sentinel, .data], laidTests := true, laidLooks := .later }
def VineHeatsCardSaid : Prop := Claim7.holds Tryz.pinned (.plain (OpenSpec.ofChange vineHeatsSpec)) vineHeatsCard

/-- THE TIED CARD OF 'rostellumlaw01.VineFlowers'. -/
def vineFlowersCard : Claim7 := { stood := { row := vineFlowersRow, standIns := [], harness := (true, "02ea969792a29bec3dc9bddb7a20396cf8360577987d9aa2bf3ea14dd9c0610a"), looks := true }, kinds := [], alts := [], laidByText := true, laidKinds := [.data, .data, .data, .sentinel, .sentinel, .data], laidTests := true, laidLooks := .later }
def VineFlowersCardSaid : Prop := Claim7.holds Tryz.pinned (.plain (OpenSpec.ofChange vineFlowersSpec)) vineFlowersCard

/-- THE TIED CARD OF 'rostellumlaw01.VineTrims'. -/
def vineTrimsCard : Claim7 := { stood := { row := vineTrimsRow, standIns := [], harness := (true, "02ea969792a29bec3dc9bddb7a20396cf8360577987d9aa2bf3ea14dd9c0610a"), looks := true }, kinds := [], alts := [], laidByText := true, laidKinds := [.data, .data, .data, .sentinel, .sentinel, .data], laidTests := true, laidLooks := .later }
def VineTrimsCardSaid : Prop := Claim7.holds Tryz.pinned (.plain (OpenSpec.ofChange vineTrimsSpec)) vineTrimsCard

/-- THE TIED CARD OF 'rostellumlaw01.VineTexts'. -/
def vineTextsCard : Claim7 := { stood := { row := vineTextsRow, standIns := [], harness := (true, "02ea969792a29bec3dc9bddb7a20396cf8360577987d9aa2bf3ea14dd9c0610a"), looks := true }, kinds := [], alts := [], laidByText := true, laidKinds := [.data, .data, .data, .sentinel, .sentinel, .data], laidTests := true, laidLooks := .later }
def VineTextsCardSaid : Prop := Claim7.holds Tryz.pinned (.plain (OpenSpec.ofChange vineTextsSpec)) vineTextsCard

/-- THE TIED CARD OF 'rostellumlaw01.VineTrue'. -/
def vineTrueCard : Claim7 := { stood := { row := vineTrueRow, standIns := [], harness := (true, "02ea969792a29bec3dc9bddb7a20396cf8360577987d9aa2bf3ea14dd9c0610a"), looks := true }, kinds := [], alts := [], laidByText := true, laidKinds := [.data, .data, .data, .sentinel, .sentinel, .data], laidTests := true, laidLooks := .later }
def VineTrueCardSaid : Prop := Claim7.holds Tryz.pinned (.plain (OpenSpec.ofChange vineTrueSpec)) vineTrueCard

/-- THE TIED CARD OF 'rostellumlaw01.VineEnds'. -/
def vineEndsCard : Claim7 := { stood := { row := vineEndsRow, standIns := [], harness := (true, "02ea969792a29bec3dc9bddb7a20396cf8360577987d9aa2bf3ea14dd9c0610a"), looks := true }, kinds := [], alts := [], laidByText := true, laidKinds := [.data, .data, .data, .sentinel, .sentinel, .data], laidTests := true, laidLooks := .later }
def VineEndsCardSaid : Prop := Claim7.holds Tryz.pinned (.plain (OpenSpec.ofChange vineEndsSpec)) vineEndsCard

/-- THE TIED CARD OF 'rostellumlaw01.VineLater'. -/
def vineLaterCard : Claim7 := { stood := { row := vineLaterRow, standIns := [], harness := (true, "02ea969792a29bec3dc9bddb7a20396cf8360577987d9aa2bf3ea14dd9c0610a"), looks := true }, kinds := [], alts := [], laidByText := true, laidKinds := [.data, .data, .data, .sentinel, .sentinel, .data], laidTests := true, laidLooks := .later }
def VineLaterCardSaid : Prop := Claim7.holds Tryz.pinned (.plain (OpenSpec.ofChange vineLaterSpec)) vineLaterCard

/-- THE TIED CARD OF 'rostellumlaw01.VineFewest'. -/
def vineFewestCard : Claim7 := { stood := { row := vineFewestRow, standIns := [], harness := (true, "02ea969792a29bec3dc9bddb7a20396cf8360577987d9aa2bf3ea14dd9c0610a"), looks := true }, kinds := [], alts := [], laidByText := true, laidKinds := [.data, .data, .data, .sentinel, .sentinel, .data], laidTests := true, laidLooks := .later }
def VineFewestCardSaid : Prop := Claim7.holds Tryz.pinned (.plain (OpenSpec.ofChange vineFewestSpec)) vineFewestCard

/-- THE TIED CARD OF 'rostellumlaw01.VineFed'. -/
def vineFedCard : Claim7 := { stood := { row := vineFedRow, standIns := [], harness := (true, "02ea969792a29bec3dc9bddb7a20396cf8360577987d9aa2bf3ea14dd9c0610a"), looks := true }, kinds := [], alts := [], laidByText := true, laidKinds := [.data, .data, .data, .sentinel, .sentinel, .data], laidTests := true, laidLooks := .later }
def VineFedCardSaid : Prop := Claim7.holds Tryz.pinned (.plain (OpenSpec.ofChange vineFedSpec)) vineFedCard

/-- THE TIED CARD OF 'rostellumlaw01.VineBack'. -/
def vineBackCard : Claim7 := { stood := { row := vineBackRow, standIns := [], harness := (true, "02ea969792a29bec3dc9bddb7a20396cf8360577987d9aa2bf3ea14dd9c0610a"), looks := true }, kinds := [], alts := [], laidByText := true, laidKinds := [.data, .data, .data, .sentinel, .sentinel, .data], laidTests := true, laidLooks := .later }
def VineBackCardSaid : Prop := Claim7.holds Tryz.pinned (.plain (OpenSpec.ofChange vineBackSpec)) vineBackCard

/-- THE TIED CARD OF 'rostellumlaw01.VineKnown'. -/
def vineKnownCard : Claim7 := { stood := { row := vineKnownRow, standIns := [], harness := (true, "02ea969792a29bec3dc9bddb7a20396cf8360577987d9aa2bf3ea14dd9c0610a"), looks := true }, kinds := [], alts := [], laidByText := true, laidKinds := [.data, .data, .data, .sentinel, .sentinel, .data], laidTests := true, laidLooks := .later }
def VineKnownCardSaid : Prop := Claim7.holds Tryz.pinned (.plain (OpenSpec.ofChange vineKnownSpec)) vineKnownCard

/-- THE SECOND FORM's CARD OF 'rostellumlaw01.VineWords'. -/
def vineWordsUptoCard : Claim7 := { stood := { row := vineWordsUptoRow, standIns := [], harness := (true, "02ea969792a29bec3dc9bddb7a20396cf8360577987d9aa2bf3ea14dd9c0610a"), looks := true }, kinds := [], alts := [], laidByText := true, laidKinds := [.data, .data, .data, .sentinel, .sentinel, .data], laidTests := true, laidLooks := .later }
def VineWordsUptoCardSaid : Prop := Claim7.holds Tryz.pinned (.plain (OpenSpec.upto vineWordsSpec)) vineWordsUptoCard

/-- THE SECOND FORM's CARD OF 'rostellumlaw01.VineHeats'. -/
def vineHeatsUptoCard : Claim7 := { stood := { row := vineHeatsUptoRow, standIns := [], harness := (true, "02ea969792a29bec3dc9bddb7a20396cf8360577987d9aa2bf3ea14dd9c0610a"), looks := true }, kinds := [], alts := [], laidByText := true, laidKinds := [.data, .data, .data, .sentinel, .sentinel, .data], laidTests := true, laidLooks := .later }
def VineHeatsUptoCardSaid : Prop := Claim7.holds Tryz.pinned (.plain (OpenSpec.upto vineHeatsSpec)) vineHeatsUptoCard

/-- THE SECOND FORM's CARD OF 'rostellumlaw01.VineFlowers'. -/
def vineFlowersUptoCard : Claim7 := { stood := { row := vineFlowersUptoRow, standIns := [], harness := (true, "02ea969792a29bec3dc9bddb7a20396cf8360577987d9aa2bf3ea14dd9c0610a"), looks := true }, kinds := [], alts := [], laidByText := true, laidKinds := [.data, .data, .data, .sentinel, .sentinel, .data], laidTests := true, laidLooks := .later }
def VineFlowersUptoCardSaid : Prop := Claim7.holds Tryz.pinned (.plain (OpenSpec.upto vineFlowersSpec)) vineFlowersUptoCard

/-- THE SECOND FORM's CARD OF 'rostellumlaw01.VineTrims'. -/
def vineTrimsUptoCard : Claim7 := { stood := { row := vineTrimsUptoRow, standIns := [], harness := (true, "02ea969792a29bec3dc9bddb7a20396cf8360577987d9aa2bf3ea14dd9c0610a"), looks := true }, kinds := [], alts := [], laidByText := true, laidKinds := [.data, .data, .data, .sentinel, .sentinel, .data], laidTests := true, laidLooks := .later }
def VineTrimsUptoCardSaid : Prop := Claim7.holds Tryz.pinned (.plain (OpenSpec.upto vineTrimsSpec)) vineTrimsUptoCard

/-- THE SECOND FORM's CARD OF 'rostellumlaw01.VineTexts'. -/
def vineTextsUptoCard : Claim7 := { stood := { row := vineTextsUptoRow, standIns := [], harness := (true, "02ea969792a29bec3dc9bddb7a20396cf8360577987d9aa2bf3ea14dd9c0610a"), looks := true }, kinds := [], alts := [], laidByText := true, laidKinds := [.data, .data, .data, .sentinel, .sentinel, .data], laidTests := true, laidLooks := .later }
def VineTextsUptoCardSaid : Prop := Claim7.holds Tryz.pinned (.plain (OpenSpec.upto vineTextsSpec)) vineTextsUptoCard

/-- THE SECOND FORM's CARD OF 'rostellumlaw01.VineTrue'. -/
def vineTrueUptoCard : Claim7 := { stood := { row := vineTrueUptoRow, standIns := [], harness := (true, "02ea969792a29bec3dc9bddb7a20396cf8360577987d9aa2bf3ea14dd9c0610a"), looks := true }, kinds := [], alts := [], laidByText := true, laidKinds := [.data, .data, .data, .sentinel, .sentinel, .data], laidTests := true, laidLooks := .later }
def VineTrueUptoCardSaid : Prop := Claim7.holds Tryz.pinned (.plain (OpenSpec.upto vineTrueSpec)) vineTrueUptoCard

/-- THE SECOND FORM's CARD OF 'rostellumlaw01.VineEnds'. -/
def vineEndsUptoCard : Claim7 := { stood := { row := vineEndsUptoRow, standIns := [], harness := (true, "02ea969792a29bec3dc9bddb7a20396cf8360577987d9aa2bf3ea14dd9c0610a"), looks := true }, kinds := [], alts := [], laidByText := true, laidKinds := [.data, .data, .data, .sentinel, .sentinel, .data], laidTests := true, laidLooks := .later }
def VineEndsUptoCardSaid : Prop := Claim7.holds Tryz.pinned (.plain (OpenSpec.upto vineEndsSpec)) vineEndsUptoCard

/-- THE SECOND FORM's CARD OF 'rostellumlaw01.VineLater'. -/
def vineLaterUptoCard : Claim7 := { stood := { row := vineLaterUptoRow, standIns := [], harness := (true, "02ea969792a29bec3dc9bddb7a20396cf8360577987d9aa2bf3ea14dd9c0610a"), looks := true }, kinds := [], alts := [], laidByText := true, laidKinds := [.data, .data, .data, .sentinel, .sentinel, .data], laidTests := true, laidLooks := .later }
def VineLaterUptoCardSaid : Prop := Claim7.holds Tryz.pinned (.plain (OpenSpec.upto vineLaterSpec)) vineLaterUptoCard

/-- THE SECOND FORM's CARD OF 'rostellumlaw01.VineFewest'. -/
def vineFewestUptoCard : Claim7 := { stood := { row := vineFewestUptoRow, standIns := [], harness := (true, "02ea969792a29bec3dc9bddb7a20396cf8360577987d9aa2bf3ea14dd9c0610a"), looks := true }, kinds := [], alts := [], laidByText := true, laidKinds := [.data, .data, .data, .sentinel, .sentinel, .data], laidTests := true, laidLooks := .later }
def VineFewestUptoCardSaid : Prop := Claim7.holds Tryz.pinned (.plain (OpenSpec.upto vineFewestSpec)) vineFewestUptoCard

/-- THE SECOND FORM's CARD OF 'rostellumlaw01.VineFed'. -/
def vineFedUptoCard : Claim7 := { stood := { row := vineFedUptoRow, standIns := [], harness := (true, "02ea969792a29bec3dc9bddb7a20396cf8360577987d9aa2bf3ea14dd9c0610a"), looks := true }, kinds := [], alts := [], laidByText := true, laidKinds := [.data, .data, .data, .sentinel, .sentinel, .data], laidTests := true, laidLooks := .later }
def VineFedUptoCardSaid : Prop := Claim7.holds Tryz.pinned (.plain (OpenSpec.upto vineFedSpec)) vineFedUptoCard

/-- THE SECOND FORM's CARD OF 'rostellumlaw01.VineBack'. -/
def vineBackUptoCard : Claim7 := { stood := { row := vineBackUptoRow, standIns := [], harness := (true, "02ea969792a29bec3dc9bddb7a20396cf8360577987d9aa2bf3ea14dd9c0610a"), looks := true }, kinds := [], alts := [], laidByText := true, laidKinds := [.data, .data, .data, .sentinel, .sentinel, .data], laidTests := true, laidLooks := .later }
def VineBackUptoCardSaid : Prop := Claim7.holds Tryz.pinned (.plain (OpenSpec.upto vineBackSpec)) vineBackUptoCard

/-- THE SECOND FORM's CARD OF 'rostellumlaw01.VineKnown'. -/
def vineKnownUptoCard : Claim7 := { stood := { row := vineKnownUptoRow, standIns := [], harness := (true, "02ea969792a29bec3dc9bddb7a20396cf8360577987d9aa2bf3ea14dd9c0610a"), looks := true }, kinds := [], alts := [], laidByText := true, laidKinds := [.data, .data, .data, .sentinel, .sentinel, .data], laidTests := true, laidLooks := .later }
def VineKnownUptoCardSaid : Prop := Claim7.holds Tryz.pinned (.plain (OpenSpec.upto vineKnownSpec)) vineKnownUptoCard
end Rows
end Go.Proofs.YtiibeglegiajfaaGreatDoor
