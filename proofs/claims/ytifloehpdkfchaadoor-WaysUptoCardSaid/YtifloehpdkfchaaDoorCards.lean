/-
  DERIVED. GIVEN WITH THE SEED: THE CARDS: each row of YtifloehpdkfchaaDoorRows.lean that lists a variable, with what it lists TIED to the program's text (the seventh form; the later family's looks); each row that meets fmt, with fmt's text TOLD by the authors' own Lean function (tested against real Go, not proved from fmt's source: count such statements apart). THE CARD IS WHAT COUNTS. Prove the row's statement (the work); the ties are given (YtifloehpdkfchaaDoorTie.lean); close each card by the builder's one call (the guide's Derived/Test/ToyasCard.lean, 'card_holds'). Laid BY PROGRAM, IN A SANDBOX (cutbox-door.mjs). By AI agents, Wed Nov 11 2026. No macro, syntax, notation, axiom, sorry.
-/
import Derived.Test.YtifloehpdkfchaaDoorRows
import GoSem.ClaimSeven
namespace Go.Proofs.YtifloehpdkfchaaDoor
namespace Rows

/-- THE TIED CARD OF 'panelaw.Ways'. -/
def waysCard : Claim7 := { stood := { row := waysRow, standIns := [], harness := (true, "3dac08853e02228c35073df7bf21e59dc42e94897f21986403cddd1c33c666f5"), looks := false }, kinds := [], alts := [], laidByText := true, laidKinds := [.data], laidTests := true, laidLooks := .later }
def WaysCardSaid : Prop := Claim7.holds Tryd.pinned (.plain (OpenSpec.ofChange waysSpec)) waysCard

/-- THE TIED CARD OF 'panelaw.Onward'. -/
def onwardCard : Claim7 := { stood := { row := onwardRow, standIns := [], harness := (true, "3dac08853e02228c35073df7bf21e59dc42e94897f21986403cddd1c33c666f5"), looks := false }, kinds := [], alts := [], laidByText := true, laidKinds := [.data], laidTests := true, laidLooks := .later }
def OnwardCardSaid : Prop := Claim7.holds Tryd.pinned (.plain (OpenSpec.ofChange onwardSpec)) onwardCard

/-- THE TIED CARD OF 'panelaw.Seam'. -/
def seamCard : Claim7 := { stood := { row := seamRow, standIns := [], harness := (true, "3dac08853e02228c35073df7bf21e59dc42e94897f21986403cddd1c33c666f5"), looks := false }, kinds := [], alts := [], laidByText := true, laidKinds := [.data], laidTests := true, laidLooks := .later }
def SeamCardSaid : Prop := Claim7.holds Tryd.pinned (.plain (OpenSpec.ofChange seamSpec)) seamCard

/-- THE TIED CARD OF 'panelaw.Counted'. -/
def countedCard : Claim7 := { stood := { row := countedRow, standIns := [], harness := (true, "3dac08853e02228c35073df7bf21e59dc42e94897f21986403cddd1c33c666f5"), looks := false }, kinds := [], alts := [], laidByText := true, laidKinds := [.data], laidTests := true, laidLooks := .later }
def CountedCardSaid : Prop := Claim7.holds Tryd.pinned (.plain (OpenSpec.ofChange countedSpec)) countedCard

/-- THE TIED CARD OF 'panelaw.Again'. -/
def againCard : Claim7 := { stood := { row := againRow, standIns := [], harness := (true, "3dac08853e02228c35073df7bf21e59dc42e94897f21986403cddd1c33c666f5"), looks := false }, kinds := [], alts := [], laidByText := true, laidKinds := [.data], laidTests := true, laidLooks := .later }
def AgainCardSaid : Prop := Claim7.holds Tryd.pinned (.plain (OpenSpec.ofChange againSpec)) againCard

/-- THE SECOND FORM's CARD OF 'panelaw.Ways'. -/
def waysUptoCard : Claim7 := { stood := { row := waysUptoRow, standIns := [], harness := (true, "3dac08853e02228c35073df7bf21e59dc42e94897f21986403cddd1c33c666f5"), looks := false }, kinds := [], alts := [], laidByText := true, laidKinds := [.data], laidTests := true, laidLooks := .later }
def WaysUptoCardSaid : Prop := Claim7.holds Tryd.pinned (.plain (OpenSpec.upto waysSpec)) waysUptoCard

/-- THE SECOND FORM's CARD OF 'panelaw.Onward'. -/
def onwardUptoCard : Claim7 := { stood := { row := onwardUptoRow, standIns := [], harness := (true, "3dac08853e02228c35073df7bf21e59dc42e94897f21986403cddd1c33c666f5"), looks := false }, kinds := [], alts := [], laidByText := true, laidKinds := [.data], laidTests := true, laidLooks := .later }
def OnwardUptoCardSaid : Prop := Claim7.holds Tryd.pinned (.plain (OpenSpec.upto onwardSpec)) onwardUptoCard

/-- THE SECOND FORM's CARD OF 'panelaw.Seam'. -/
def seamUptoCard : Claim7 := { stood := { row := seamUptoRow, standIns := [], harness := (true, "3dac08853e02228c35073df7bf21e59dc42e94897f21986403cddd1c33c666f5"), looks := false }, kinds := [], alts := [], laidByText := true, laidKinds := [.data], laidTests := true, laidLooks := .later }
def SeamUptoCardSaid : Prop := Claim7.holds Tryd.pinned (.plain (OpenSpec.upto seamSpec)) seamUptoCard

/-- THE SECOND FORM's CARD OF 'panelaw.Counted'. -/
def countedUptoCard : Claim7 := { stood := { row := countedUptoRow, standIns := [], harness := (true, "3dac08853e02228c35073df7bf21e59dc42e94897f21986403cddd1c33c666f5"), looks := false }, kinds := [], alts := [], laidByText := true, laidKinds := [.data], laidTests := true, laidLooks := .later }
def CountedUptoCardSaid : Prop := Claim7.holds Tryd.pinned (.plain (OpenSpec.upto countedSpec)) countedUptoCard

/-- THE SECOND FORM's CARD OF 'panelaw.Again'. -/
def againUptoCard : Claim7 := { stood := { row := againUptoRow, standIns := [], harness := (true, "3dac08853e02228c35073df7bf21e59dc42e94897f21986403cddd1c33c666f5"), looks := false }, kinds := [], alts := [], laidByText := true, laidKinds := [.data], laidTests := true, laidLooks := .later }
def AgainUptoCardSaid : Prop := Claim7.holds Tryd.pinned (.plain (OpenSpec.upto againSpec)) againUptoCard
end Rows
end Go.Proofs.YtifloehpdkfchaaDoor
