/-
  DERIVED. GIVEN WITH THE SEED: THE CARDS: each row of YtaiiampennkhiaaDoorRows.lean that lists a variable, with what it lists TIED to the program's text (the seventh form; the later family's looks); each row that meets fmt, with fmt's text TOLD by the authors' own Lean function (tested against real Go, not proved from fmt's source: count such statements apart). THE CARD IS WHAT COUNTS. Prove the row's statement (the work); the ties are given (YtaiiampennkhiaaDoorTie.lean); close each card by the builder's one call (the guide's Derived/Test/ToyasCard.lean, 'card_holds'). Laid BY PROGRAM, IN A SANDBOX (cutbox-door.mjs). By AI agents, Wed Nov 11 2026. No macro, syntax, notation, axiom, sorry.
-/
import Derived.Test.YtaiiampennkhiaaDoorRows
import GoSem.ClaimSeven
namespace Go.Proofs.YtaiiampennkhiaaDoor
namespace Rows

/-- THE TIED CARD OF 'rostellumlaw03.PodWindows'. -/
def podWindowsCard : Claim7 := { stood := { row := podWindowsRow, standIns := [], harness := (true, "7d1e1d059ad73f7a1ce631b32ce65eae00eff3e3440ab98e323318e1b91b1361"), looks := false }, kinds := [], alts := [], laidByText := true, laidKinds := [.data], laidTests := true, laidLooks := .later }
def PodWindowsCardSaid : Prop := Claim7.holds Tryd.pinned (.plain (OpenSpec.ofChange podWindowsSpec)) podWindowsCard

/-- THE TIED CARD OF 'rostellumlaw03.PodHarvests'. -/
def podHarvestsCard : Claim7 := { stood := { row := podHarvestsRow, standIns := [], harness := (true, "7d1e1d059ad73f7a1ce631b32ce65eae00eff3e3440ab98e323318e1b91b1361"), looks := false }, kinds := [], alts := [], laidByText := true, laidKinds := [.data], laidTests := true, laidLooks := .later }
def PodHarvestsCardSaid : Prop := Claim7.holds Tryd.pinned (.plain (OpenSpec.ofChange podHarvestsSpec)) podHarvestsCard

/-- THE TIED CARD OF 'rostellumlaw03.PodRounds'. -/
def podRoundsCard : Claim7 := { stood := { row := podRoundsRow, standIns := [], harness := (true, "7d1e1d059ad73f7a1ce631b32ce65eae00eff3e3440ab98e323318e1b91b1361"), looks := false }, kinds := [], alts := [], laidByText := true, laidKinds := [.data], laidTests := true, laidLooks := .later }
def PodRoundsCardSaid : Prop := Claim7.holds Tryd.pinned (.plain (OpenSpec.ofChange podRoundsSpec)) podRoundsCard

/-- THE TIED CARD OF 'rostellumlaw03.PodPlans'. -/
def podPlansCard : Claim7 := { stood := { row := podPlansRow, standIns := [], harness := (true, "7d1e1d059ad73f7a1ce631b32ce65eae00eff3e3440ab98e323318e1b91b1361"), looks := false }, kinds := [], alts := [], laidByText := true, laidKinds := [.data], laidTests := true, laidLooks := .later }
def PodPlansCardSaid : Prop := Claim7.holds Tryd.pinned (.plain (OpenSpec.ofChange podPlansSpec)) podPlansCard

/-- THE TIED CARD OF 'rostellumlaw03.PodSure'. -/
def podSureCard : Claim7 := { stood := { row := podSureRow, standIns := [], harness := (true, "7d1e1d059ad73f7a1ce631b32ce65eae00eff3e3440ab98e323318e1b91b1361"), looks := false }, kinds := [], alts := [], laidByText := true, laidKinds := [.data], laidTests := true, laidLooks := .later }
def PodSureCardSaid : Prop := Claim7.holds Tryd.pinned (.plain (OpenSpec.ofChange podSureSpec)) podSureCard

/-- THE TIED CARD OF 'rostellumlaw03.PodTrue'. -/
def podTrueCard : Claim7 := { stood := { row := podTrueRow, standIns := [], harness := (true, "7d1e1d059ad73f7a1ce631b32ce65eae00eff3e3440ab98e323318e1b91b1361"), looks := false }, kinds := [], alts := [], laidByText := true, laidKinds := [.data], laidTests := true, laidLooks := .later }
def PodTrueCardSaid : Prop := Claim7.holds Tryd.pinned (.plain (OpenSpec.ofChange podTrueSpec)) podTrueCard

/-- THE TIED CARD OF 'rostellumlaw03.PodEnds'. -/
def podEndsCard : Claim7 := { stood := { row := podEndsRow, standIns := [], harness := (true, "7d1e1d059ad73f7a1ce631b32ce65eae00eff3e3440ab98e323318e1b91b1361"), looks := false }, kinds := [], alts := [], laidByText := true, laidKinds := [.data], laidTests := true, laidLooks := .later }
def PodEndsCardSaid : Prop := Claim7.holds Tryd.pinned (.plain (OpenSpec.ofChange podEndsSpec)) podEndsCard

/-- THE TIED CARD OF 'rostellumlaw03.PodFewest'. -/
def podFewestCard : Claim7 := { stood := { row := podFewestRow, standIns := [], harness := (true, "7d1e1d059ad73f7a1ce631b32ce65eae00eff3e3440ab98e323318e1b91b1361"), looks := false }, kinds := [], alts := [], laidByText := true, laidKinds := [.data], laidTests := true, laidLooks := .later }
def PodFewestCardSaid : Prop := Claim7.holds Tryd.pinned (.plain (OpenSpec.ofChange podFewestSpec)) podFewestCard

/-- THE TIED CARD OF 'rostellumlaw03.PodServed'. -/
def podServedCard : Claim7 := { stood := { row := podServedRow, standIns := [], harness := (true, "7d1e1d059ad73f7a1ce631b32ce65eae00eff3e3440ab98e323318e1b91b1361"), looks := false }, kinds := [], alts := [], laidByText := true, laidKinds := [.data], laidTests := true, laidLooks := .later }
def PodServedCardSaid : Prop := Claim7.holds Tryd.pinned (.plain (OpenSpec.ofChange podServedSpec)) podServedCard

/-- THE TIED CARD OF 'rostellumlaw03.PodLonger'. -/
def podLongerCard : Claim7 := { stood := { row := podLongerRow, standIns := [], harness := (true, "7d1e1d059ad73f7a1ce631b32ce65eae00eff3e3440ab98e323318e1b91b1361"), looks := false }, kinds := [], alts := [], laidByText := true, laidKinds := [.data], laidTests := true, laidLooks := .later }
def PodLongerCardSaid : Prop := Claim7.holds Tryd.pinned (.plain (OpenSpec.ofChange podLongerSpec)) podLongerCard

/-- THE TIED CARD OF 'rostellumlaw03.PodKnown'. -/
def podKnownCard : Claim7 := { stood := { row := podKnownRow, standIns := [], harness := (true, "7d1e1d059ad73f7a1ce631b32ce65eae00eff3e3440ab98e323318e1b91b1361"), looks := false }, kinds := [], alts := [], laidByText := true, laidKinds := [.data], laidTests := true, laidLooks := .later }
def PodKnownCardSaid : Prop := Claim7.holds Tryd.pinned (.plain (OpenSpec.ofChange podKnownSpec)) podKnownCard

/-- THE SECOND FORM's CARD OF 'rostellumlaw03.PodWindows'. -/
def podWindowsUptoCard : Claim7 := { stood := { row := podWindowsUptoRow, standIns := [], harness := (true, "7d1e1d059ad73f7a1ce631b32ce65eae00eff3e3440ab98e323318e1b91b1361"), looks := false }, kinds := [], alts := [], laidByText := true, laidKinds := [.data], laidTests := true, laidLooks := .later }
def PodWindowsUptoCardSaid : Prop := Claim7.holds Tryd.pinned (.plain (OpenSpec.upto podWindowsSpec)) podWindowsUptoCard

/-- THE SECOND FORM's CARD OF 'rostellumlaw03.PodHarvests'. -/
def podHarvestsUptoCard : Claim7 := { stood := { row := podHarvestsUptoRow, standIns := [], harness := (true, "7d1e1d059ad73f7a1ce631b32ce65eae00eff3e3440ab98e323318e1b91b1361"), looks := false }, kinds := [], alts := [], laidByText := true, laidKinds := [.data], laidTests := true, laidLooks := .later }
def PodHarvestsUptoCardSaid : Prop := Claim7.holds Tryd.pinned (.plain (OpenSpec.upto podHarvestsSpec)) podHarvestsUptoCard

/-- THE SECOND FORM's CARD OF 'rostellumlaw03.PodRounds'. -/
def podRoundsUptoCard : Claim7 := { stood := { row := podRoundsUptoRow, standIns := [], harness := (true, "7d1e1d059ad73f7a1ce631b32ce65eae00eff3e3440ab98e323318e1b91b1361"), looks := false }, kinds := [], alts := [], laidByText := true, laidKinds := [.data], laidTests := true, laidLooks := .later }
def PodRoundsUptoCardSaid : Prop := Claim7.holds Tryd.pinned (.plain (OpenSpec.upto podRoundsSpec)) podRoundsUptoCard

/-- THE SECOND FORM's CARD OF 'rostellumlaw03.PodPlans'. -/
def podPlansUptoCard : Claim7 := { stood := { row := podPlansUptoRow, standIns := [], harness := (true, "7d1e1d059ad73f7a1ce631b32ce65eae00eff3e3440ab98e323318e1b91b1361"), looks := false }, kinds := [], alts := [], laidByText := true, laidKinds := [.data], laidTests := true, laidLooks := .later }
def PodPlansUptoCardSaid : Prop := Claim7.holds Tryd.pinned (.plain (OpenSpec.upto podPlansSpec)) podPlansUptoCard

/-- THE SECOND FORM's CARD OF 'rostellumlaw03.PodSure'. -/
def podSureUptoCard : Claim7 := { stood := { row := podSureUptoRow, standIns := [], harness := (true, "7d1e1d059ad73f7a1ce631b32ce65eae00eff3e3440ab98e323318e1b91b1361"), looks := false }, kinds := [], alts := [], laidByText := true, laidKinds := [.data], laidTests := true, laidLooks := .later }
def PodSureUptoCardSaid : Prop := Claim7.holds Tryd.pinned (.plain (OpenSpec.upto podSureSpec)) podSureUptoCard

/-- THE SECOND FORM's CARD OF 'rostellumlaw03.PodTrue'. -/
def podTrueUptoCard : Claim7 := { stood := { row := podTrueUptoRow, standIns := [], harness := (true, "7d1e1d059ad73f7a1ce631b32ce65eae00eff3e3440ab98e323318e1b91b1361"), looks := false }, kinds := [], alts := [], laidByText := true, laidKinds := [.data], laidTests := true, laidLooks := .later }
def PodTrueUptoCardSaid : Prop := Claim7.holds Tryd.pinned (.plain (OpenSpec.upto podTrueSpec)) podTrueUptoCard

/-- THE SECOND FORM's CARD OF 'rostellumlaw03.PodEnds'. -/
def podEndsUptoCard : Claim7 := { stood := { row := podEndsUptoRow, standIns := [], harness := (true, "7d1e1d059ad73f7a1ce631b32ce65eae00eff3e3440ab98e323318e1b91b1361"), looks := false }, kinds := [], alts := [], laidByText := true, laidKinds := [.data], laidTests := true, laidLooks := .later }
def PodEndsUptoCardSaid : Prop := Claim7.holds Tryd.pinned (.plain (OpenSpec.upto podEndsSpec)) podEndsUptoCard

/-- THE SECOND FORM's CARD OF 'rostellumlaw03.PodFewest'. -/
def podFewestUptoCard : Claim7 := { stood := { row := podFewestUptoRow, standIns := [], harness := (true, "7d1e1d059ad73f7a1ce631b32ce65eae00eff3e3440ab98e323318e1b91b1361"), looks := false }, kinds := [], alts := [], laidByText := true, laidKinds := [.data], laidTests := true, laidLooks := .later }
def PodFewestUptoCardSaid : Prop := Claim7.holds Tryd.pinned (.plain (OpenSpec.upto podFewestSpec)) podFewestUptoCard

/-- THE SECOND FORM's CARD OF 'rostellumlaw03.PodServed'. -/
def podServedUptoCard : Claim7 := { stood := { row := podServedUptoRow, standIns := [], harness := (true, "7d1e1d059ad73f7a1ce631b32ce65eae00eff3e3440ab98e323318e1b91b1361"), looks := false }, kinds := [], alts := [], laidByText := true, laidKinds := [.data], laidTests := true, laidLooks := .later }
def PodServedUptoCardSaid : Prop := Claim7.holds Tryd.pinned (.plain (OpenSpec.upto podServedSpec)) podServedUptoCard

/-- THE SECOND FORM's CARD OF 'rostellumlaw03.PodLonger'. -/
def podLongerUptoCard : Claim7 := { stood := { row := podLongerUptoRow, standIns := [], harness := (true, "7d1e1d059ad73f7a1ce631b32ce65eae00eff3e3440ab98e323318e1b91b1361"), looks := false }, kinds := [], alts := [], laidByText := true, laidKinds := [.data], laidTests := true, laidLooks := .later }
def PodLongerUptoCardSaid : Prop := Claim7.holds Tryd.pinned (.plain (OpenSpec.upto podLongerSpec)) podLongerUptoCard

/-- THE SECOND FORM's CARD OF 'rostellumlaw03.PodKnown'. -/
def podKnownUptoCard : Claim7 := { stood := { row := podKnownUptoRow, standIns := [], harness := (true, "7d1e1d059ad73f7a1ce631b32ce65eae00eff3e3440ab98e323318e1b91b1361"), looks := false }, kinds := [], alts := [], laidByText := true, laidKinds := [.data], laidTests := true, laidLooks := .later }
def PodKnownUptoCardSaid : Prop := Claim7.holds Tryd.pinned (.plain (OpenSpec.upto podKnownSpec)) podKnownUptoCard
end Rows
end Go.Proofs.YtaiiampennkhiaaDoor
