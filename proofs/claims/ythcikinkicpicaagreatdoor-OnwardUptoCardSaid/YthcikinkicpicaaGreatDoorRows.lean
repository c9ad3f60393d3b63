/-
  NARROWER THAN 'FOR EVERY INPUT', by the rows' own cells (each row's printed sentence says how): Draws: laid · Sees: laid · Works: laid · Ways: laid · Onward: laid · Seam: laid · Counted: laid · Again: laid.
  DERIVED. THE GIVEN ROWS OF THIS SEAT. 8 by the template 'for every input the law returns true; each argument reads behind the call as it read before'; 0 by the template 'total and deterministic' (their statements: YthcikinkicpicaaGreatDoorTotals.lean).
  GIVEN WITH THE SEED: the statements are not yours to turn. If you find one false, say at which input.
  Laid BY PROGRAM, IN A SANDBOX (cutbox-rows.mjs): the forced cells as the released guide's own fill.sh prints them over the translation da408050b99e6531… (all of the seat's roots in one cut). By AI agents, Wed Nov 11 2026. No macro, syntax, notation, axiom, sorry.
-/
import Derived.Test.YthcikinkicpicaaGreatDoorChecked
import GoSem.Claim
import GoSem.ClaimJoined
import GoSem.ClaimMapViews
import Derived.JoinedTies
import Derived.KernelRfl
namespace Go.Proofs.YthcikinkicpicaaGreatDoor
/- THE CELL 'sum', in the pinned program and in every row, IS THE sha256 OF THE DUMP (.gsa) THAT YthcikinkicpicaaGreatDoorProg.lean LOADS. Nothing in Lean hashes anything: it is a label: what it is worth is what the hold of that sum in a sandbox is worth. -/
noncomputable def Tryz.pinned : Pinned := { name := "ythcikinkicpicaagreatdoor", sum := "da408050b99e6531b8f5cc524b4e3fac292d367cb38d6e087c3e56d219402a27", checked := Tryz.checked }
namespace Rows
def none {H : Type} : Left H := { results := [], args := [] }

/- WHAT THE LISTED PACKAGE-LEVEL VARIABLES READ AS WHEN THE CALL BEGINS. Each datum BY PROGRAM (the guide's laid-datum.mjs) off the statement by which the dump's own 'gosem.cut.vars' lays the variable. In a bare row this is a premise. The card (YthcikinkicpicaaGreatDoorCards.lean) ties it to the program's text. -/
def laid_pane_pane_bytesBehind {H : Type} : DataW H := .agg [.lit (.int .i64 0), .lit (.int .i64 2), .lit (.int .i64 7), .lit (.int .i64 2), .lit (.int .i64 7), .lit (.int .i64 4), .lit (.int .i64 1), .lit (.int .i64 1), .lit (.int .i64 1), .lit (.int .i64 27), .lit (.int .i64 1), .lit (.int .i64 1), .lit (.int .i64 1), .lit (.int .i64 3), .lit (.int .i64 1)]

/-- 'panelaw.Draws': WHATEVER THE INPUT: true; the input reads as it did. -/
def drawsSpec : ChangeSpec := { name := "draws", fn := fun _ => fun
  | [d1, d2] => { results := [.lit (.bool true)], args := [d1, d2] }
  | _ => none }
def drawsRow : OpenClaim := { program := "ythcikinkicpicaagreatdoor", sum := "da408050b99e6531b8f5cc524b4e3fac292d367cb38d6e087c3e56d219402a27", func := "pane/panelaw.Draws", spec := "draws", unfollowed := true, recurses := true, named := ["pane/pane.bytesBehind"], plainKeys := false, apart := false, laid := [("pane/pane.bytesBehind", laid_pane_pane_bytesBehind)] }
def DrawsSaid : Prop := drawsRow.holds Tryz.pinned (OpenSpec.ofChange drawsSpec)

/-- ITS FALSE NEIGHBOUR: 'it returns false'. Refute it at one input. -/
def drawsWrong : ChangeSpec := { name := "draws", fn := fun _ => fun
  | [d1, d2] => { results := [.lit (.bool false)], args := [d1, d2] }
  | _ => none }
def DrawsWrongFalsely : Prop := drawsRow.holds Tryz.pinned (OpenSpec.ofChange drawsWrong)

/-- 'panelaw.Sees': WHATEVER THE INPUT: true; the input reads as it did. -/
def seesSpec : ChangeSpec := { name := "sees", fn := fun _ => fun
  | [d1, d2] => { results := [.lit (.bool true)], args := [d1, d2] }
  | _ => none }
def seesRow : OpenClaim := { program := "ythcikinkicpicaagreatdoor", sum := "da408050b99e6531b8f5cc524b4e3fac292d367cb38d6e087c3e56d219402a27", func := "pane/panelaw.Sees", spec := "sees", unfollowed := true, recurses := true, named := ["pane/pane.bytesBehind"], plainKeys := false, apart := false, laid := [("pane/pane.bytesBehind", laid_pane_pane_bytesBehind)] }
def SeesSaid : Prop := seesRow.holds Tryz.pinned (OpenSpec.ofChange seesSpec)

/-- ITS FALSE NEIGHBOUR: 'it returns false'. Refute it at one input. -/
def seesWrong : ChangeSpec := { name := "sees", fn := fun _ => fun
  | [d1, d2] => { results := [.lit (.bool false)], args := [d1, d2] }
  | _ => none }
def SeesWrongFalsely : Prop := seesRow.holds Tryz.pinned (OpenSpec.ofChange seesWrong)

/-- 'panelaw.Works': WHATEVER THE INPUT: true; the input reads as it did. -/
def worksSpec : ChangeSpec := { name := "works", fn := fun _ => fun
  | [d1, d2] => { results := [.lit (.bool true)], args := [d1, d2] }
  | _ => none }
def worksRow : OpenClaim := { program := "ythcikinkicpicaagreatdoor", sum := "da408050b99e6531b8f5cc524b4e3fac292d367cb38d6e087c3e56d219402a27", func := "pane/panelaw.Works", spec := "works", unfollowed := true, recurses := true, named := ["pane/pane.bytesBehind"], plainKeys := false, apart := false, laid := [("pane/pane.bytesBehind", laid_pane_pane_bytesBehind)] }
def WorksSaid : Prop := worksRow.holds Tryz.pinned (OpenSpec.ofChange worksSpec)

/-- ITS FALSE NEIGHBOUR: 'it returns false'. Refute it at one input. -/
def worksWrong : ChangeSpec := { name := "works", fn := fun _ => fun
  | [d1, d2] => { results := [.lit (.bool false)], args := [d1, d2] }
  | _ => none }
def WorksWrongFalsely : Prop := worksRow.holds Tryz.pinned (OpenSpec.ofChange worksWrong)

/-- 'panelaw.Ways': WHATEVER THE INPUT: true; the input reads as it did. -/
def waysSpec : ChangeSpec := { name := "ways", fn := fun _ => fun
  | [d1, d2, d3, d4] => { results := [.lit (.bool true)], args := [d1, d2, d3, d4] }
  | _ => none }
def waysRow : OpenClaim := { program := "ythcikinkicpicaagreatdoor", sum := "da408050b99e6531b8f5cc524b4e3fac292d367cb38d6e087c3e56d219402a27", func := "pane/panelaw.Ways", spec := "ways", unfollowed := true, recurses := true, named := ["pane/pane.bytesBehind"], plainKeys := false, apart := false, laid := [("pane/pane.bytesBehind", laid_pane_pane_bytesBehind)] }
def WaysSaid : Prop := waysRow.holds Tryz.pinned (OpenSpec.ofChange waysSpec)

/-- ITS FALSE NEIGHBOUR: 'it returns false'. Refute it at one input. -/
def waysWrong : ChangeSpec := { name := "ways", fn := fun _ => fun
  | [d1, d2, d3, d4] => { results := [.lit (.bool false)], args := [d1, d2, d3, d4] }
  | _ => none }
def WaysWrongFalsely : Prop := waysRow.holds Tryz.pinned (OpenSpec.ofChange waysWrong)

/-- 'panelaw.Onward': WHATEVER THE INPUT: true; the input reads as it did. -/
def onwardSpec : ChangeSpec := { name := "onward", fn := fun _ => fun
  | [d1, d2, d3] => { results := [.lit (.bool true)], args := [d1, d2, d3] }
  | _ => none }
def onwardRow : OpenClaim := { program := "ythcikinkicpicaagreatdoor", sum := "da408050b99e6531b8f5cc524b4e3fac292d367cb38d6e087c3e56d219402a27", func := "pane/panelaw.Onward", spec := "onward", unfollowed := true, recurses := true, named := ["pane/pane.bytesBehind"], plainKeys := false, apart := false, laid := [("pane/pane.bytesBehind", laid_pane_pane_bytesBehind)] }
def OnwardSaid : Prop := onwardRow.holds Tryz.pinned (OpenSpec.ofChange onwardSpec)

/-- ITS FALSE NEIGHBOUR: 'it returns false'. Refute it at one input. -/
def onwardWrong : ChangeSpec := { name := "onward", fn := fun _ => fun
  | [d1, d2, d3] => { results := [.lit (.bool false)], args := [d1, d2, d3] }
  | _ => none }
def OnwardWrongFalsely : Prop := onwardRow.holds Tryz.pinned (OpenSpec.ofChange onwardWrong)

/-- 'panelaw.Seam': WHATEVER THE INPUT: true; the input reads as it did. -/
def seamSpec : ChangeSpec := { name := "seam", fn := fun _ => fun
  | [d1, d2, d3, d4, d5, d6, d7, d8, d9, d10] => { results := [.lit (.bool true)], args := [d1, d2, d3, d4, d5, d6, d7, d8, d9, d10] }
  | _ => none }
def seamRow : OpenClaim := { program := "ythcikinkicpicaagreatdoor", sum := "da408050b99e6531b8f5cc524b4e3fac292d367cb38d6e087c3e56d219402a27", func := "pane/panelaw.Seam", spec := "seam", unfollowed := true, recurses := true, named := ["pane/pane.bytesBehind"], plainKeys := false, apart := false, laid := [("pane/pane.bytesBehind", laid_pane_pane_bytesBehind)] }
def SeamSaid : Prop := seamRow.holds Tryz.pinned (OpenSpec.ofChange seamSpec)

/-- ITS FALSE NEIGHBOUR: 'it returns false'. Refute it at one input. -/
def seamWrong : ChangeSpec := { name := "seam", fn := fun _ => fun
  | [d1, d2, d3, d4, d5, d6, d7, d8, d9, d10] => { results := [.lit (.bool false)], args := [d1, d2, d3, d4, d5, d6, d7, d8, d9, d10] }
  | _ => none }
def SeamWrongFalsely : Prop := seamRow.holds Tryz.pinned (OpenSpec.ofChange seamWrong)

/-- 'panelaw.Counted': WHATEVER THE INPUT: true; the input reads as it did. -/
def countedSpec : ChangeSpec := { name := "counted", fn := fun _ => fun
  | [d1, d2, d3, d4, d5, d6, d7] => { results := [.lit (.bool true)], args := [d1, d2, d3, d4, d5, d6, d7] }
  | _ => none }
def countedRow : OpenClaim := { program := "ythcikinkicpicaagreatdoor", sum := "da408050b99e6531b8f5cc524b4e3fac292d367cb38d6e087c3e56d219402a27", func := "pane/panelaw.Counted", spec := "counted", unfollowed := true, recurses := true, named := ["pane/pane.bytesBehind"], plainKeys := false, apart := false, laid := [("pane/pane.bytesBehind", laid_pane_pane_bytesBehind)] }
def CountedSaid : Prop := countedRow.holds Tryz.pinned (OpenSpec.ofChange countedSpec)

/-- ITS FALSE NEIGHBOUR: 'it returns false'. Refute it at one input. -/
def countedWrong : ChangeSpec := { name := "counted", fn := fun _ => fun
  | [d1, d2, d3, d4, d5, d6, d7] => { results := [.lit (.bool false)], args := [d1, d2, d3, d4, d5, d6, d7] }
  | _ => none }
def CountedWrongFalsely : Prop := countedRow.holds Tryz.pinned (OpenSpec.ofChange countedWrong)

/-- 'panelaw.Again': WHATEVER THE INPUT: true; the input reads as it did. -/
def againSpec : ChangeSpec := { name := "again", fn := fun _ => fun
  | [d1, d2, d3, d4, d5, d6, d7, d8] => { results := [.lit (.bool true)], args := [d1, d2, d3, d4, d5, d6, d7, d8] }
  | _ => none }
def againRow : OpenClaim := { program := "ythcikinkicpicaagreatdoor", sum := "da408050b99e6531b8f5cc524b4e3fac292d367cb38d6e087c3e56d219402a27", func := "pane/panelaw.Again", spec := "again", unfollowed := true, recurses := true, named := ["pane/pane.bytesBehind"], plainKeys := false, apart := false, laid := [("pane/pane.bytesBehind", laid_pane_pane_bytesBehind)] }
def AgainSaid : Prop := againRow.holds Tryz.pinned (OpenSpec.ofChange againSpec)

/-- ITS FALSE NEIGHBOUR: 'it returns false'. Refute it at one input. -/
def againWrong : ChangeSpec := { name := "again", fn := fun _ => fun
  | [d1, d2, d3, d4, d5, d6, d7, d8] => { results := [.lit (.bool false)], args := [d1, d2, d3, d4, d5, d6, d7, d8] }
  | _ => none }
def AgainWrongFalsely : Prop := againRow.holds Tryz.pinned (OpenSpec.ofChange againWrong)

/- THE SECOND FORM. 'bulk': how many values and letters a reading holds, each counted each time it is reached (what is shared counts as often as it is met; a slice's spare places count too). A statement '..UptoSaid' is the law's where the arguments, and the package variables that the reading takes, are together of bulk at most 1048576: NARROWER than '..Said'. Prove '..Said' where nothing that the law and all that it calls make is longer than what came in: it says more and counts as full. Else prove '..UptoSaid'. A law counts once. -/
mutual
def uptoBulk {H : Type} : DataW H → Nat
  | .lit (.string bytes) => bytes.length + 1
  | .lit _ => 1
  | .nil => 1
  | .ptr d => uptoBulk d + 1
  | .slice elems spare => uptoBulkAll elems + uptoBulkAll spare + 1
  | .agg parts => uptoBulkAll parts + 1
  | .iface _ d => uptoBulk d + 1
  | .map entries => uptoBulkEntries entries + 1
  | .held _ => 1
def uptoBulkAll {H : Type} : List (DataW H) → Nat
  | [] => 0
  | d :: r => uptoBulk d + uptoBulkAll r
def uptoBulkEntries {H : Type} : List (Lit × DataW H) → Nat
  | [] => 0
  | x :: r => uptoBulkEntry x + uptoBulkEntries r
def uptoBulkEntry {H : Type} : Lit × DataW H → Nat
  | (.string bytes, d) => bytes.length + uptoBulk d + 1
  | (_, d) => uptoBulk d + 1
 end
def uptoSmall : (H : Type) → List (DataW H) → Bool := fun _ ds => decide (uptoBulkAll ds ≤ 1048576)
def OpenSpec.upto (s : _root_.Go.ChangeSpec) : _root_.Go.OpenSpec := { _root_.Go.OpenSpec.ofChange s with cond := some uptoSmall }

/-- 'panelaw.Draws', WHERE WHAT IT READS IS OF BULK AT MOST 1048576: true; the input reads as it did. -/
def drawsUptoRow : OpenClaim := { program := "ythcikinkicpicaagreatdoor", sum := "da408050b99e6531b8f5cc524b4e3fac292d367cb38d6e087c3e56d219402a27", func := "pane/panelaw.Draws", spec := "draws", unfollowed := true, recurses := true, named := ["pane/pane.bytesBehind"], plainKeys := false, apart := false, laid := [("pane/pane.bytesBehind", laid_pane_pane_bytesBehind)], narrowed := true }
def DrawsUptoSaid : Prop := drawsUptoRow.holds Tryz.pinned (OpenSpec.upto drawsSpec)

/-- 'panelaw.Sees', WHERE WHAT IT READS IS OF BULK AT MOST 1048576: true; the input reads as it did. -/
def seesUptoRow : OpenClaim := { program := "ythcikinkicpicaagreatdoor", sum := "da408050b99e6531b8f5cc524b4e3fac292d367cb38d6e087c3e56d219402a27", func := "pane/panelaw.Sees", spec := "sees", unfollowed := true, recurses := true, named := ["pane/pane.bytesBehind"], plainKeys := false, apart := false, laid := [("pane/pane.bytesBehind", laid_pane_pane_bytesBehind)], narrowed := true }
def SeesUptoSaid : Prop := seesUptoRow.holds Tryz.pinned (OpenSpec.upto seesSpec)

/-- 'panelaw.Works', WHERE WHAT IT READS IS OF BULK AT MOST 1048576: true; the input reads as it did. -/
def worksUptoRow : OpenClaim := { program := "ythcikinkicpicaagreatdoor", sum := "da408050b99e6531b8f5cc524b4e3fac292d367cb38d6e087c3e56d219402a27", func := "pane/panelaw.Works", spec := "works", unfollowed := true, recurses := true, named := ["pane/pane.bytesBehind"], plainKeys := false, apart := false, laid := [("pane/pane.bytesBehind", laid_pane_pane_bytesBehind)], narrowed := true }
def WorksUptoSaid : Prop := worksUptoRow.holds Tryz.pinned (OpenSpec.upto worksSpec)

/-- 'panelaw.Ways', WHERE WHAT IT READS IS OF BULK AT MOST 1048576: true; the input reads as it did. -/
def waysUptoRow : OpenClaim := { program := "ythcikinkicpicaagreatdoor", sum := "da408050b99e6531b8f5cc524b4e3fac292d367cb38d6e087c3e56d219402a27", func := "pane/panelaw.Ways", spec := "ways", unfollowed := true, recurses := true, named := ["pane/pane.bytesBehind"], plainKeys := false, apart := false, laid := [("pane/pane.bytesBehind", laid_pane_pane_bytesBehind)], narrowed := true }
def WaysUptoSaid : Prop := waysUptoRow.holds Tryz.pinned (OpenSpec.upto waysSpec)

/-- 'panelaw.Onward', WHERE WHAT IT READS IS OF BULK AT MOST 1048576: true; the input reads as it did. -/
def onwardUptoRow : OpenClaim := { program := "ythcikinkicpicaagreatdoor", sum := "da408050b99e6531b8f5cc524b4e3fac292d367cb38d6e087c3e56d219402a27", func := "pane/panelaw.Onward", spec := "onward", unfollowed := true, recurses := true, named := ["pane/pane.bytesBehind"], plainKeys := false, apart := false, laid := [("pane/pane.bytesBehind", laid_pane_pane_bytesBehind)], narrowed := true }
def OnwardUptoSaid : Prop := onwardUptoRow.holds Tryz.pinned (OpenSpec.upto onwardSpec)

/-- 'panelaw.Seam', WHERE WHAT IT READS IS OF BULK AT MOST 1048576: true; the input reads as it did. -/
def seamUptoRow : OpenClaim := { program := "ythcikinkicpicaagreatdoor", sum := "da408050b99e6531b8f5cc524b4e3fac292d367cb38d6e087c3e56d219402a27", func := "pane/panelaw.Seam", spec := "seam", unfollowed := true, recurses := true, named := ["pane/pane.bytesBehind"], plainKeys := false, apart := false, laid := [("pane/pane.bytesBehind", laid_pane_pane_bytesBehind)], narrowed := true }
def SeamUptoSaid : Prop := seamUptoRow.holds Tryz.pinned (OpenSpec.upto seamSpec)

/-- 'panelaw.Counted', WHERE WHAT IT READS IS OF BULK AT MOST 1048576: true; the input reads as it did. -/
def countedUptoRow : OpenClaim := { program := "ythcikinkicpicaagreatdoor", sum := "da408050b99e6531b8f5cc524b4e3fac292d367cb38d6e087c3e56d219402a27", func := "pane/panelaw.Counted", spec := "counted", unfollowed := true, recurses := true, named := ["pane/pane.bytesBehind"], plainKeys := false, apart := false, laid := [("pane/pane.bytesBehind", laid_pane_pane_bytesBehind)], narrowed := true }
def CountedUptoSaid : Prop := countedUptoRow.holds Tryz.pinned (OpenSpec.upto countedSpec)

/-- 'panelaw.Again', WHERE WHAT IT READS IS OF BULK AT MOST 1048576: true; the input reads as it did. -/
def againUptoRow : OpenClaim := { program := "ythcikinkicpicaagreatdoor", sum := "da408050b99e6531b8f5cc524b4e3fac292d367cb38d6e087c3e56d219402a27", func := "pane/panelaw.Again", spec := "again", unfollowed := true, recurses := true, named := ["pane/pane.bytesBehind"], plainKeys := false, apart := false, laid := [("pane/pane.bytesBehind", laid_pane_pane_bytesBehind)], narrowed := true }
def AgainUptoSaid : Prop := againUptoRow.holds Tryz.pinned (OpenSpec.upto againSpec)

end Rows
end Go.Proofs.YthcikinkicpicaaGreatDoor
