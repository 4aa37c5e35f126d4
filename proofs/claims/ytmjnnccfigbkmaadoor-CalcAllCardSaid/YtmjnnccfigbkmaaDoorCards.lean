/-
  DERIVED. GIVEN WITH THE SEED: THE CARDS: each row of YtmjnnccfigbkmaaDoorRows.lean that lists a variable, with what it lists TIED to the program's text (the seventh form; the later family's looks); each row that meets fmt, with fmt's text TOLD by the authors' own Lean function (tested against real Go, not proved from fmt's source: count such statements apart). THE CARD IS WHAT COUNTS. Prove the row's statement (the work); the ties are given (YtmjnnccfigbkmaaDoorTie.lean); close each card by the builder's one call (the guide's Derived/Test/ToyasCard.lean, 'card_holds'). Laid BY PROGRAM, IN A SANDBOX (cutbox-door.mjs). By AI agents, Wed Nov 11 2026. No macro, syntax, notation, axiom, sorry.
-/
import Derived.Test.YtmjnnccfigbkmaaDoorRows
import GoSem.ClaimSeven
namespace Go.Proofs.YtmjnnccfigbkmaaDoor
namespace Rows

/-- THE TIED CARD OF 'hodmanlaw1.CalcAll'. -/
def calcAllCard : Claim7 := { stood := { row := calcAllRow, standIns := [], harness := (true, "acffdefef437e78adee8462911a6cd1cffdc6a3285f915a7e64319b1f8b6fc81"), looks := false }, kinds := [], alts := [], laidByText := true, laidKinds := [.data], laidTests := true, laidLooks := .later }
def CalcAllCardSaid : Prop := Claim7.holds Tryd.pinned (.plain (OpenSpec.ofChange calcAllSpec)) calcAllCard

/-- THE TIED CARD OF 'hodmanlaw1.CalcBack'. -/
def calcBackCard : Claim7 := { stood := { row := calcBackRow, standIns := [], harness := (true, "acffdefef437e78adee8462911a6cd1cffdc6a3285f915a7e64319b1f8b6fc81"), looks := false }, kinds := [], alts := [], laidByText := true, laidKinds := [.data], laidTests := true, laidLooks := .later }
def CalcBackCardSaid : Prop := Claim7.holds Tryd.pinned (.plain (OpenSpec.ofChange calcBackSpec)) calcBackCard

/-- THE TIED CARD OF 'hodmanlaw1.CalcUp'. -/
def calcUpCard : Claim7 := { stood := { row := calcUpRow, standIns := [], harness := (true, "acffdefef437e78adee8462911a6cd1cffdc6a3285f915a7e64319b1f8b6fc81"), looks := false }, kinds := [], alts := [], laidByText := true, laidKinds := [.data], laidTests := true, laidLooks := .later }
def CalcUpCardSaid : Prop := Claim7.holds Tryd.pinned (.plain (OpenSpec.ofChange calcUpSpec)) calcUpCard

/-- THE TIED CARD OF 'hodmanlaw1.CalcRound'. -/
def calcRoundCard : Claim7 := { stood := { row := calcRoundRow, standIns := [], harness := (true, "acffdefef437e78adee8462911a6cd1cffdc6a3285f915a7e64319b1f8b6fc81"), looks := false }, kinds := [], alts := [], laidByText := true, laidKinds := [.data], laidTests := true, laidLooks := .later }
def CalcRoundCardSaid : Prop := Claim7.holds Tryd.pinned (.plain (OpenSpec.ofChange calcRoundSpec)) calcRoundCard

/-- THE TIED CARD OF 'hodmanlaw1.CalcForms'. -/
def calcFormsCard : Claim7 := { stood := { row := calcFormsRow, standIns := [], harness := (true, "acffdefef437e78adee8462911a6cd1cffdc6a3285f915a7e64319b1f8b6fc81"), looks := false }, kinds := [], alts := [], laidByText := true, laidKinds := [.data], laidTests := true, laidLooks := .later }
def CalcFormsCardSaid : Prop := Claim7.holds Tryd.pinned (.plain (OpenSpec.ofChange calcFormsSpec)) calcFormsCard

/-- THE TIED CARD OF 'hodmanlaw1.CalcOrder'. -/
def calcOrderCard : Claim7 := { stood := { row := calcOrderRow, standIns := [], harness := (true, "acffdefef437e78adee8462911a6cd1cffdc6a3285f915a7e64319b1f8b6fc81"), looks := false }, kinds := [], alts := [], laidByText := true, laidKinds := [.data], laidTests := true, laidLooks := .later }
def CalcOrderCardSaid : Prop := Claim7.holds Tryd.pinned (.plain (OpenSpec.ofChange calcOrderSpec)) calcOrderCard

/-- THE SECOND FORM's CARD OF 'hodmanlaw1.CalcAll'. -/
def calcAllUptoCard : Claim7 := { stood := { row := calcAllUptoRow, standIns := [], harness := (true, "acffdefef437e78adee8462911a6cd1cffdc6a3285f915a7e64319b1f8b6fc81"), looks := false }, kinds := [], alts := [], laidByText := true, laidKinds := [.data], laidTests := true, laidLooks := .later }
def CalcAllUptoCardSaid : Prop := Claim7.holds Tryd.pinned (.plain (OpenSpec.upto calcAllSpec)) calcAllUptoCard

/-- THE SECOND FORM's CARD OF 'hodmanlaw1.CalcBack'. -/
def calcBackUptoCard : Claim7 := { stood := { row := calcBackUptoRow, standIns := [], harness := (true, "acffdefef437e78adee8462911a6cd1cffdc6a3285f915a7e64319b1f8b6fc81"), looks := false }, kinds := [], alts := [], laidByText := true, laidKinds := [.data], laidTests := true, laidLooks := .later }
def CalcBackUptoCardSaid : Prop := Claim7.holds Tryd.pinned (.plain (OpenSpec.upto calcBackSpec)) calcBackUptoCard

/-- THE SECOND FORM's CARD OF 'hodmanlaw1.CalcUp'. -/
def calcUpUptoCard : Claim7 := { stood := { row := calcUpUptoRow, standIns := [], harness := (true, "acffdefef437e78adee8462911a6cd1cffdc6a3285f915a7e64319b1f8b6fc81"), looks := false }, kinds := [], alts := [], laidByText := true, laidKinds := [.data], laidTests := true, laidLooks := .later }
def CalcUpUptoCardSaid : Prop := Claim7.holds Tryd.pinned (.plain (OpenSpec.upto calcUpSpec)) calcUpUptoCard

/-- THE SECOND FORM's CARD OF 'hodmanlaw1.CalcRound'. -/
def calcRoundUptoCard : Claim7 := { stood := { row := calcRoundUptoRow, standIns := [], harness := (true, "acffdefef437e78adee8462911a6cd1cffdc6a3285f915a7e64319b1f8b6fc81"), looks := false }, kinds := [], alts := [], laidByText := true, laidKinds := [.data], laidTests := true, laidLooks := .later }
def CalcRoundUptoCardSaid : Prop := Claim7.holds Tryd.pinned (.plain (OpenSpec.upto calcRoundSpec)) calcRoundUptoCard

/-- THE SECOND FORM's CARD OF 'hodmanlaw1.CalcForms'. -/
def calcFormsUptoCard : Claim7 := { stood := { row := calcFormsUptoRow, standIns := [], harness := (true, "acffdefef437e78adee8462911a6cd1cffdc6a3285f915a7e64319b1f8b6fc81"), looks := false }, kinds := [], alts := [], laidByText := true, laidKinds := [.data], laidTests := true, laidLooks := .later }
def CalcFormsUptoCardSaid : Prop := Claim7.holds Tryd.pinned (.plain (OpenSpec.upto calcFormsSpec)) calcFormsUptoCard

/-- THE SECOND FORM's CARD OF 'hodmanlaw1.CalcOrder'. -/
def calcOrderUptoCard : Claim7 := { stood := { row := calcOrderUptoRow, standIns := [], harness := (true, "acffdefef437e78adee8462911a6cd1cffdc6a3285f915a7e64319b1f8b6fc81"), looks := false }, kinds := [], alts := [], laidByText := true, laidKinds := [.data], laidTests := true, laidLooks := .later }
def CalcOrderUptoCardSaid : Prop := Claim7.holds Tryd.pinned (.plain (OpenSpec.upto calcOrderSpec)) calcOrderUptoCard
end Rows
end Go.Proofs.YtmjnnccfigbkmaaDoor
