/-
  DERIVED. GIVEN WITH THE SEED: THE CARDS: each row of YtcnfmkhjhffebaaDoorRows.lean that lists a variable, with what it lists TIED to the program's text (the seventh form; the later family's looks); each row that meets fmt, with fmt's text TOLD by the authors' own Lean function (tested against real Go, not proved from fmt's source: count such statements apart). THE CARD IS WHAT COUNTS. Prove the row's statement (the work); the ties are given (YtcnfmkhjhffebaaDoorTie.lean); close each card by the builder's one call (the guide's Derived/Test/ToyasCard.lean, 'card_holds'). Laid BY PROGRAM, IN A SANDBOX (cutbox-door.mjs). By AI agents, Wed Nov 11 2026. No macro, syntax, notation, axiom, sorry.
-/
import Derived.Test.YtcnfmkhjhffebaaDoorRows
import GoSem.ClaimSeven
namespace Go.Proofs.YtcnfmkhjhffebaaDoor
namespace Rows

/-- THE TIED CARD OF 'hodmanlaw13.CommitAll'. -/
def commitAllCard : Claim7 := { stood := { row := commitAllRow, standIns := [], harness := (true, "843c0bd705d6e3e1b489dc1c7791f91ab1e102c0021abdd85800ad58c449501d"), looks := false }, kinds := [], alts := [], laidByText := true, laidKinds := [.data], laidTests := true, laidLooks := .later }
def CommitAllCardSaid : Prop := Claim7.holds Tryd.pinned (.plain (OpenSpec.ofChange commitAllSpec)) commitAllCard

/-- THE TIED CARD OF 'hodmanlaw13.CommitFair'. -/
def commitFairCard : Claim7 := { stood := { row := commitFairRow, standIns := [], harness := (true, "843c0bd705d6e3e1b489dc1c7791f91ab1e102c0021abdd85800ad58c449501d"), looks := false }, kinds := [], alts := [], laidByText := true, laidKinds := [.data], laidTests := true, laidLooks := .later }
def CommitFairCardSaid : Prop := Claim7.holds Tryd.pinned (.plain (OpenSpec.ofChange commitFairSpec)) commitFairCard

/-- THE TIED CARD OF 'hodmanlaw13.CommitTrim'. -/
def commitTrimCard : Claim7 := { stood := { row := commitTrimRow, standIns := [], harness := (true, "843c0bd705d6e3e1b489dc1c7791f91ab1e102c0021abdd85800ad58c449501d"), looks := false }, kinds := [], alts := [], laidByText := true, laidKinds := [.data], laidTests := true, laidLooks := .later }
def CommitTrimCardSaid : Prop := Claim7.holds Tryd.pinned (.plain (OpenSpec.ofChange commitTrimSpec)) commitTrimCard

/-- THE TIED CARD OF 'hodmanlaw13.CommitForms'. -/
def commitFormsCard : Claim7 := { stood := { row := commitFormsRow, standIns := [], harness := (true, "843c0bd705d6e3e1b489dc1c7791f91ab1e102c0021abdd85800ad58c449501d"), looks := false }, kinds := [], alts := [], laidByText := true, laidKinds := [.data], laidTests := true, laidLooks := .later }
def CommitFormsCardSaid : Prop := Claim7.holds Tryd.pinned (.plain (OpenSpec.ofChange commitFormsSpec)) commitFormsCard

/-- THE TIED CARD OF 'hodmanlaw13.CommitTwice'. -/
def commitTwiceCard : Claim7 := { stood := { row := commitTwiceRow, standIns := [], harness := (true, "843c0bd705d6e3e1b489dc1c7791f91ab1e102c0021abdd85800ad58c449501d"), looks := false }, kinds := [], alts := [], laidByText := true, laidKinds := [.data], laidTests := true, laidLooks := .later }
def CommitTwiceCardSaid : Prop := Claim7.holds Tryd.pinned (.plain (OpenSpec.ofChange commitTwiceSpec)) commitTwiceCard

/-- THE SECOND FORM's CARD OF 'hodmanlaw13.CommitAll'. -/
def commitAllUptoCard : Claim7 := { stood := { row := commitAllUptoRow, standIns := [], harness := (true, "843c0bd705d6e3e1b489dc1c7791f91ab1e102c0021abdd85800ad58c449501d"), looks := false }, kinds := [], alts := [], laidByText := true, laidKinds := [.data], laidTests := true, laidLooks := .later }
def CommitAllUptoCardSaid : Prop := Claim7.holds Tryd.pinned (.plain (OpenSpec.upto commitAllSpec)) commitAllUptoCard

/-- THE SECOND FORM's CARD OF 'hodmanlaw13.CommitFair'. -/
def commitFairUptoCard : Claim7 := { stood := { row := commitFairUptoRow, standIns := [], harness := (true, "843c0bd705d6e3e1b489dc1c7791f91ab1e102c0021abdd85800ad58c449501d"), looks := false }, kinds := [], alts := [], laidByText := true, laidKinds := [.data], laidTests := true, laidLooks := .later }
def CommitFairUptoCardSaid : Prop := Claim7.holds Tryd.pinned (.plain (OpenSpec.upto commitFairSpec)) commitFairUptoCard

/-- THE SECOND FORM's CARD OF 'hodmanlaw13.CommitTrim'. -/
def commitTrimUptoCard : Claim7 := { stood := { row := commitTrimUptoRow, standIns := [], harness := (true, "843c0bd705d6e3e1b489dc1c7791f91ab1e102c0021abdd85800ad58c449501d"), looks := false }, kinds := [], alts := [], laidByText := true, laidKinds := [.data], laidTests := true, laidLooks := .later }
def CommitTrimUptoCardSaid : Prop := Claim7.holds Tryd.pinned (.plain (OpenSpec.upto commitTrimSpec)) commitTrimUptoCard

/-- THE SECOND FORM's CARD OF 'hodmanlaw13.CommitForms'. -/
def commitFormsUptoCard : Claim7 := { stood := { row := commitFormsUptoRow, standIns := [], harness := (true, "843c0bd705d6e3e1b489dc1c7791f91ab1e102c0021abdd85800ad58c449501d"), looks := false }, kinds := [], alts := [], laidByText := true, laidKinds := [.data], laidTests := true, laidLooks := .later }
def CommitFormsUptoCardSaid : Prop := Claim7.holds Tryd.pinned (.plain (OpenSpec.upto commitFormsSpec)) commitFormsUptoCard

/-- THE SECOND FORM's CARD OF 'hodmanlaw13.CommitTwice'. -/
def commitTwiceUptoCard : Claim7 := { stood := { row := commitTwiceUptoRow, standIns := [], harness := (true, "843c0bd705d6e3e1b489dc1c7791f91ab1e102c0021abdd85800ad58c449501d"), looks := false }, kinds := [], alts := [], laidByText := true, laidKinds := [.data], laidTests := true, laidLooks := .later }
def CommitTwiceUptoCardSaid : Prop := Claim7.holds Tryd.pinned (.plain (OpenSpec.upto commitTwiceSpec)) commitTwiceUptoCard
end Rows
end Go.Proofs.YtcnfmkhjhffebaaDoor
