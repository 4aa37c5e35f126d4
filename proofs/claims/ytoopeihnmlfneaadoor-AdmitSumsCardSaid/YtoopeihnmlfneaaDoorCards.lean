/-
  DERIVED. GIVEN WITH THE SEED: THE CARDS: each row of YtoopeihnmlfneaaDoorRows.lean that lists a variable, with what it lists TIED to the program's text (the seventh form; the later family's looks); each row that meets fmt, with fmt's text TOLD by the authors' own Lean function (tested against real Go, not proved from fmt's source: count such statements apart). THE CARD IS WHAT COUNTS. Prove the row's statement (the work); the ties are given (YtoopeihnmlfneaaDoorTie.lean); close each card by the builder's one call (the guide's Derived/Test/ToyasCard.lean, 'card_holds'). Laid BY PROGRAM, IN A SANDBOX (cutbox-door.mjs). By AI agents, Wed Nov 11 2026. No macro, syntax, notation, axiom, sorry.
-/
import Derived.Test.YtoopeihnmlfneaaDoorRows
import GoSem.ClaimSeven
namespace Go.Proofs.YtoopeihnmlfneaaDoor
namespace Rows

/-- THE TIED CARD OF 'hodmanlaw16.AdmitAll'. -/
def admitAllCard : Claim7 := { stood := { row := admitAllRow, standIns := [], harness := (true, "0ec9ab70a4aee05fe5b775763c6432b03fbf49bb0568449bb5d9f90c41d77b45"), looks := false }, kinds := [], alts := [], laidByText := true, laidKinds := [.data], laidTests := true, laidLooks := .later }
def AdmitAllCardSaid : Prop := Claim7.holds Tryd.pinned (.plain (OpenSpec.ofChange admitAllSpec)) admitAllCard

/-- THE TIED CARD OF 'hodmanlaw16.AdmitSums'. -/
def admitSumsCard : Claim7 := { stood := { row := admitSumsRow, standIns := [], harness := (true, "0ec9ab70a4aee05fe5b775763c6432b03fbf49bb0568449bb5d9f90c41d77b45"), looks := false }, kinds := [], alts := [], laidByText := true, laidKinds := [.data], laidTests := true, laidLooks := .later }
def AdmitSumsCardSaid : Prop := Claim7.holds Tryd.pinned (.plain (OpenSpec.ofChange admitSumsSpec)) admitSumsCard

/-- THE TIED CARD OF 'hodmanlaw16.AdmitForms'. -/
def admitFormsCard : Claim7 := { stood := { row := admitFormsRow, standIns := [], harness := (true, "0ec9ab70a4aee05fe5b775763c6432b03fbf49bb0568449bb5d9f90c41d77b45"), looks := false }, kinds := [], alts := [], laidByText := true, laidKinds := [.data], laidTests := true, laidLooks := .later }
def AdmitFormsCardSaid : Prop := Claim7.holds Tryd.pinned (.plain (OpenSpec.ofChange admitFormsSpec)) admitFormsCard

/-- THE SECOND FORM's CARD OF 'hodmanlaw16.AdmitAll'. -/
def admitAllUptoCard : Claim7 := { stood := { row := admitAllUptoRow, standIns := [], harness := (true, "0ec9ab70a4aee05fe5b775763c6432b03fbf49bb0568449bb5d9f90c41d77b45"), looks := false }, kinds := [], alts := [], laidByText := true, laidKinds := [.data], laidTests := true, laidLooks := .later }
def AdmitAllUptoCardSaid : Prop := Claim7.holds Tryd.pinned (.plain (OpenSpec.upto admitAllSpec)) admitAllUptoCard

/-- THE SECOND FORM's CARD OF 'hodmanlaw16.AdmitSums'. -/
def admitSumsUptoCard : Claim7 := { stood := { row := admitSumsUptoRow, standIns := [], harness := (true, "0ec9ab70a4aee05fe5b775763c6432b03fbf49bb0568449bb5d9f90c41d77b45"), looks := false }, kinds := [], alts := [], laidByText := true, laidKinds := [.data], laidTests := true, laidLooks := .later }
def AdmitSumsUptoCardSaid : Prop := Claim7.holds Tryd.pinned (.plain (OpenSpec.upto admitSumsSpec)) admitSumsUptoCard

/-- THE SECOND FORM's CARD OF 'hodmanlaw16.AdmitForms'. -/
def admitFormsUptoCard : Claim7 := { stood := { row := admitFormsUptoRow, standIns := [], harness := (true, "0ec9ab70a4aee05fe5b775763c6432b03fbf49bb0568449bb5d9f90c41d77b45"), looks := false }, kinds := [], alts := [], laidByText := true, laidKinds := [.data], laidTests := true, laidLooks := .later }
def AdmitFormsUptoCardSaid : Prop := Claim7.holds Tryd.pinned (.plain (OpenSpec.upto admitFormsSpec)) admitFormsUptoCard
end Rows
end Go.Proofs.YtoopeihnmlfneaaDoor
