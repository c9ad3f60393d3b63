/-
  DERIVED. GIVEN WITH THE SEED: THE CARDS: each row of YthcikinkicpicaaGreatDoorRows.lean that lists a variable, with what it lists TIED to the program's text (the seventh form; the later family's looks); each row that meets fmt, with fmt's text TOLD by the authors' own Lean function (tested against real Go, not proved from fmt's source: count such statements apart). THE CARD IS WHAT COUNTS. Prove the row's statement (the work); the ties are given (YthcikinkicpicaaGreatDoorTie.lean); close each card by the builder's one call (the guide's Derived/Test/ToyasCard.lean, 'card_holds'). Laid BY PROGRAM, IN A SANDBOX (cutbox-door.mjs). By AI agents, Wed Nov 11 2026. No macro, syntax, notation, axiom, sorry.
-/
import Derived.Test.YthcikinkicpicaaGreatDoorRows
import GoSem.ClaimSeven
namespace Go.Proofs.YthcikinkicpicaaGreatDoor
namespace Rows

/-- THE TIED CARD OF 'panelaw.Draws'. -/
def drawsCard : Claim7 := { stood := { row := drawsRow, standIns := [], harness := (true, "b8de058cccef20ea3337896735fb32faa4bacc51e7991a3aaad50e3be5f1a017"), looks := false }, kinds := [], alts := [], laidByText := true, laidKinds := [.data], laidTests := true, laidLooks := .later }
def DrawsCardSaid : Prop := Claim7.holds Tryz.pinned (.plain (OpenSpec.ofChange drawsSpec)) drawsCard

/-- THE TIED CARD OF 'panelaw.Sees'. -/
def seesCard : Claim7 := { stood := { row := seesRow, standIns := [], harness := (true, "b8de058cccef20ea3337896735fb32faa4bacc51e7991a3aaad50e3be5f1a017"), looks := false }, kinds := [], alts := [], laidByText := true, laidKinds := [.data], laidTests := true, laidLooks := .later }
def SeesCardSaid : Prop := Claim7.holds Tryz.pinned (.plain (OpenSpec.ofChange seesSpec)) seesCard

/-- THE TIED CARD OF 'panelaw.Works'. -/
def worksCard : Claim7 := { stood := { row := worksRow, standIns := [], harness := (true, "b8de058cccef20ea3337896735fb32faa4bacc51e7991a3aaad50e3be5f1a017"), looks := false }, kinds := [], alts := [], laidByText := true, laidKinds := [.data], laidTests := true, laidLooks := .later }
def WorksCardSaid : Prop := Claim7.holds Tryz.pinned (.plain (OpenSpec.ofChange worksSpec)) worksCard

/-- THE TIED CARD OF 'panelaw.Ways'. -/
def waysCard : Claim7 := { stood := { row := waysRow, standIns := [], harness := (true, "b8de058cccef20ea3337896735fb32faa4bacc51e7991a3aaad50e3be5f1a017"), looks := false }, kinds := [], alts := [], laidByText := true, laidKinds := [.data], laidTests := true, laidLooks := .later }
def WaysCardSaid : Prop := Claim7.holds Tryz.pinned (.plain (OpenSpec.ofChange waysSpec)) waysCard

/-- THE TIED CARD OF 'panelaw.Onward'. -/
def onwardCard : Claim7 := { stood := { row := onwardRow, standIns := [], harness := (true, "b8de058cccef20ea3337896735fb32faa4bacc51e7991a3aaad50e3be5f1a017"), looks := false }, kinds := [], alts := [], laidByText := true, laidKinds := [.data], laidTests := true, laidLooks := .later }
def OnwardCardSaid : Prop := Claim7.holds Tryz.pinned (.plain (OpenSpec.ofChange onwardSpec)) onwardCard

/-- THE TIED CARD OF 'panelaw.Seam'. -/
def seamCard : Claim7 := { stood := { row := seamRow, standIns := [], harness := (true, "b8de058cccef20ea3337896735fb32faa4bacc51e7991a3aaad50e3be5f1a017"), looks := false }, kinds := [], alts := [], laidByText := true, laidKinds := [.data], laidTests := true, laidLooks := .later }
def SeamCardSaid : Prop := Claim7.holds Tryz.pinned (.plain (OpenSpec.ofChange seamSpec)) seamCard

/-- THE TIED CARD OF 'panelaw.Counted'. -/
def countedCard : Claim7 := { stood := { row := countedRow, standIns := [], harness := (true, "b8de058cccef20ea3337896735fb32faa4bacc51e7991a3aaad50e3be5f1a017"), looks := false }, kinds := [], alts := [], laidByText := true, laidKinds := [.data], laidTests := true, laidLooks := .later }
def CountedCardSaid : Prop := Claim7.holds Tryz.pinned (.plain (OpenSpec.ofChange countedSpec)) countedCard

/-- THE TIED CARD OF 'panelaw.Again'. -/
def againCard : Claim7 := { stood := { row := againRow, standIns := [], harness := (true, "b8de058cccef20ea3337896735fb32faa4bacc51e7991a3aaad50e3be5f1a017"), looks := false }, kinds := [], alts := [], laidByText := true, laidKinds := [.data], laidTests := true, laidLooks := .later }
def AgainCardSaid : Prop := Claim7.holds Tryz.pinned (.plain (OpenSpec.ofChange againSpec)) againCard

/-- THE SECOND FORM's CARD OF 'panelaw.Draws'. -/
def drawsUptoCard : Claim7 := { stood := { row := drawsUptoRow, standIns := [], harness := (true, "b8de058cccef20ea3337896735fb32faa4bacc51e7991a3aaad50e3be5f1a017"), looks := false }, kinds := [], alts := [], laidByText := true, laidKinds := [.data], laidTests := true, laidLooks := .later }
def DrawsUptoCardSaid : Prop := Claim7.holds Tryz.pinned (.plain (OpenSpec.upto drawsSpec)) drawsUptoCard

/-- THE SECOND FORM's CARD OF 'panelaw.Sees'. -/
def seesUptoCard : Claim7 := { stood := { row := seesUptoRow, standIns := [], harness := (true, "b8de058cccef20ea3337896735fb32faa4bacc51e7991a3aaad50e3be5f1a017"), looks := false }, kinds := [], alts := [], laidByText := true, laidKinds := [.data], laidTests := true, laidLooks := .later }
def SeesUptoCardSaid : Prop := Claim7.holds Tryz.pinned (.plain (OpenSpec.upto seesSpec)) seesUptoCard

/-- THE SECOND FORM's CARD OF 'panelaw.Works'. -/
def worksUptoCard : Claim7 := { stood := { row := worksUptoRow, standIns := [], harness := (true, "b8de058cccef20ea3337896735fb32faa4bacc51e7991a3aaad50e3be5f1a017"), looks := false }, kinds := [], alts := [], laidByText := true, laidKinds := [.data], laidTests := true, laidLooks := .later }
def WorksUptoCardSaid : Prop := Claim7.holds Tryz.pinned (.plain (OpenSpec.upto worksSpec)) worksUptoCard

/-- THE SECOND FORM's CARD OF 'panelaw.Ways'. -/
def waysUptoCard : Claim7 := { stood := { row := waysUptoRow, standIns := [], harness := (true, "b8de058cccef20ea3337896735fb32faa4bacc51e7991a3aaad50e3be5f1a017"), looks := false }, kinds := [], alts := [], laidByText := true, laidKinds := [.data], laidTests := true, laidLooks := .later }
def WaysUptoCardSaid : Prop := Claim7.holds Tryz.pinned (.plain (OpenSpec.upto waysSpec)) waysUptoCard

/-- THE SECOND FORM's CARD OF 'panelaw.Onward'. -/
def onwardUptoCard : Claim7 := { stood := { row := onwardUptoRow, standIns := [], harness := (true, "b8de058cccef20ea3337896735fb32faa4bacc51e7991a3aaad50e3be5f1a017"), looks := false }, kinds := [], alts := [], laidByText := true, laidKinds := [.data], laidTests := true, laidLooks := .later }
def OnwardUptoCardSaid : Prop := Claim7.holds Tryz.pinned (.plain (OpenSpec.upto onwardSpec)) onwardUptoCard

/-- THE SECOND FORM's CARD OF 'panelaw.Seam'. -/
def seamUptoCard : Claim7 := { stood := { row := seamUptoRow, standIns := [], harness := (true, "b8de058cccef20ea3337896735fb32faa4bacc51e7991a3aaad50e3be5f1a017"), looks := false }, kinds := [], alts := [], laidByText := true, laidKinds := [.data], laidTests := true, laidLooks := .later }
def SeamUptoCardSaid : Prop := Claim7.holds Tryz.pinned (.plain (OpenSpec.upto seamSpec)) seamUptoCard

/-- THE SECOND FORM's CARD OF 'panelaw.Counted'. -/
def countedUptoCard : Claim7 := { stood := { row := countedUptoRow, standIns := [], harness := (true, "b8de058cccef20ea3337896735fb32faa4bacc51e7991a3aaad50e3be5f1a017"), looks := false }, kinds := [], alts := [], laidByText := true, laidKinds := [.data], laidTests := true, laidLooks := .later }
def CountedUptoCardSaid : Prop := Claim7.holds Tryz.pinned (.plain (OpenSpec.upto countedSpec)) countedUptoCard

/-- THE SECOND FORM's CARD OF 'panelaw.Again'. -/
def againUptoCard : Claim7 := { stood := { row := againUptoRow, standIns := [], harness := (true, "b8de058cccef20ea3337896735fb32faa4bacc51e7991a3aaad50e3be5f1a017"), looks := false }, kinds := [], alts := [], laidByText := true, laidKinds := [.data], laidTests := true, laidLooks := .later }
def AgainUptoCardSaid : Prop := Claim7.holds Tryz.pinned (.plain (OpenSpec.upto againSpec)) againUptoCard
end Rows
end Go.Proofs.YthcikinkicpicaaGreatDoor
