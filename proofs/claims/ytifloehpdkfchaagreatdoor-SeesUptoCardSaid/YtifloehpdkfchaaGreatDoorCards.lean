/-
  DERIVED. GIVEN WITH THE SEED: THE CARDS: each row of YtifloehpdkfchaaGreatDoorRows.lean that lists a variable, with what it lists TIED to the program's text (the seventh form; the later family's looks); each row that meets fmt, with fmt's text TOLD by the authors' own Lean function (tested against real Go, not proved from fmt's source: count such statements apart). THE CARD IS WHAT COUNTS. Prove the row's statement (the work); the ties are given (YtifloehpdkfchaaGreatDoorTie.lean); close each card by the builder's one call (the guide's Derived/Test/ToyasCard.lean, 'card_holds'). Laid BY PROGRAM, IN A SANDBOX (cutbox-door.mjs). By AI agents, Wed Nov 11 2026. No macro, syntax, notation, axiom, sorry.
-/
import Derived.Test.YtifloehpdkfchaaGreatDoorRows
import GoSem.ClaimSeven
namespace Go.Proofs.YtifloehpdkfchaaGreatDoor
namespace Rows

/-- THE TIED CARD OF 'panelaw.Draws'. -/
def drawsCard : Claim7 := { stood := { row := drawsRow, standIns := [], harness := (true, "33c4c4bae811356789cb56e97c6048112e9560a1dd5226013f9800689defc2b1"), looks := false }, kinds := [], alts := [], laidByText := true, laidKinds := [.data], laidTests := true, laidLooks := .later }
def DrawsCardSaid : Prop := Claim7.holds Tryz.pinned (.plain (OpenSpec.ofChange drawsSpec)) drawsCard

/-- THE TIED CARD OF 'panelaw.Sees'. -/
def seesCard : Claim7 := { stood := { row := seesRow, standIns := [], harness := (true, "33c4c4bae811356789cb56e97c6048112e9560a1dd5226013f9800689defc2b1"), looks := false }, kinds := [], alts := [], laidByText := true, laidKinds := [.data], laidTests := true, laidLooks := .later }
def SeesCardSaid : Prop := Claim7.holds Tryz.pinned (.plain (OpenSpec.ofChange seesSpec)) seesCard

/-- THE TIED CARD OF 'panelaw.Works'. -/
def worksCard : Claim7 := { stood := { row := worksRow, standIns := [], harness := (true, "33c4c4bae811356789cb56e97c6048112e9560a1dd5226013f9800689defc2b1"), looks := false }, kinds := [], alts := [], laidByText := true, laidKinds := [.data], laidTests := true, laidLooks := .later }
def WorksCardSaid : Prop := Claim7.holds Tryz.pinned (.plain (OpenSpec.ofChange worksSpec)) worksCard

/-- THE SECOND FORM's CARD OF 'panelaw.Draws'. -/
def drawsUptoCard : Claim7 := { stood := { row := drawsUptoRow, standIns := [], harness := (true, "33c4c4bae811356789cb56e97c6048112e9560a1dd5226013f9800689defc2b1"), looks := false }, kinds := [], alts := [], laidByText := true, laidKinds := [.data], laidTests := true, laidLooks := .later }
def DrawsUptoCardSaid : Prop := Claim7.holds Tryz.pinned (.plain (OpenSpec.upto drawsSpec)) drawsUptoCard

/-- THE SECOND FORM's CARD OF 'panelaw.Sees'. -/
def seesUptoCard : Claim7 := { stood := { row := seesUptoRow, standIns := [], harness := (true, "33c4c4bae811356789cb56e97c6048112e9560a1dd5226013f9800689defc2b1"), looks := false }, kinds := [], alts := [], laidByText := true, laidKinds := [.data], laidTests := true, laidLooks := .later }
def SeesUptoCardSaid : Prop := Claim7.holds Tryz.pinned (.plain (OpenSpec.upto seesSpec)) seesUptoCard

/-- THE SECOND FORM's CARD OF 'panelaw.Works'. -/
def worksUptoCard : Claim7 := { stood := { row := worksUptoRow, standIns := [], harness := (true, "33c4c4bae811356789cb56e97c6048112e9560a1dd5226013f9800689defc2b1"), looks := false }, kinds := [], alts := [], laidByText := true, laidKinds := [.data], laidTests := true, laidLooks := .later }
def WorksUptoCardSaid : Prop := Claim7.holds Tryz.pinned (.plain (OpenSpec.upto worksSpec)) worksUptoCard
end Rows
end Go.Proofs.YtifloehpdkfchaaGreatDoor
