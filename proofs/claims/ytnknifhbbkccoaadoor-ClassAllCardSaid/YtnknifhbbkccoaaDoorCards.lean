/-
  DERIVED. GIVEN WITH THE SEED: THE CARDS: each row of YtnknifhbbkccoaaDoorRows.lean that lists a variable, with what it lists TIED to the program's text (the seventh form; the later family's looks); each row that meets fmt, with fmt's text TOLD by the authors' own Lean function (tested against real Go, not proved from fmt's source: count such statements apart). THE CARD IS WHAT COUNTS. Prove the row's statement (the work); the ties are given (YtnknifhbbkccoaaDoorTie.lean); close each card by the builder's one call (the guide's Derived/Test/ToyasCard.lean, 'card_holds'). Laid BY PROGRAM, IN A SANDBOX (cutbox-door.mjs). By AI agents, Wed Nov 11 2026. No macro, syntax, notation, axiom, sorry.
-/
import Derived.Test.YtnknifhbbkccoaaDoorRows
import GoSem.ClaimSeven
namespace Go.Proofs.YtnknifhbbkccoaaDoor
namespace Rows

/-- THE TIED CARD OF 'hodmanlaw7.ClassAll'. -/
def classAllCard : Claim7 := { stood := { row := classAllRow, standIns := [], harness := (true, "3ecdaab91720fd547ac3dbeea450085eaae0f8c18354cb460ea0ea16e3ad9c32"), looks := false }, kinds := [], alts := [], laidByText := true, laidKinds := [.data], laidTests := true, laidLooks := .later }
def ClassAllCardSaid : Prop := Claim7.holds Tryd.pinned (.plain (OpenSpec.ofChange classAllSpec)) classAllCard

/-- THE TIED CARD OF 'hodmanlaw7.ClassLeast'. -/
def classLeastCard : Claim7 := { stood := { row := classLeastRow, standIns := [], harness := (true, "3ecdaab91720fd547ac3dbeea450085eaae0f8c18354cb460ea0ea16e3ad9c32"), looks := false }, kinds := [], alts := [], laidByText := true, laidKinds := [.data], laidTests := true, laidLooks := .later }
def ClassLeastCardSaid : Prop := Claim7.holds Tryd.pinned (.plain (OpenSpec.ofChange classLeastSpec)) classLeastCard

/-- THE TIED CARD OF 'hodmanlaw7.ClassForms'. -/
def classFormsCard : Claim7 := { stood := { row := classFormsRow, standIns := [], harness := (true, "3ecdaab91720fd547ac3dbeea450085eaae0f8c18354cb460ea0ea16e3ad9c32"), looks := false }, kinds := [], alts := [], laidByText := true, laidKinds := [.data], laidTests := true, laidLooks := .later }
def ClassFormsCardSaid : Prop := Claim7.holds Tryd.pinned (.plain (OpenSpec.ofChange classFormsSpec)) classFormsCard

/-- THE TIED CARD OF 'hodmanlaw7.ClassMany'. -/
def classManyCard : Claim7 := { stood := { row := classManyRow, standIns := [], harness := (true, "3ecdaab91720fd547ac3dbeea450085eaae0f8c18354cb460ea0ea16e3ad9c32"), looks := false }, kinds := [], alts := [], laidByText := true, laidKinds := [.data], laidTests := true, laidLooks := .later }
def ClassManyCardSaid : Prop := Claim7.holds Tryd.pinned (.plain (OpenSpec.ofChange classManySpec)) classManyCard

/-- THE SECOND FORM's CARD OF 'hodmanlaw7.ClassAll'. -/
def classAllUptoCard : Claim7 := { stood := { row := classAllUptoRow, standIns := [], harness := (true, "3ecdaab91720fd547ac3dbeea450085eaae0f8c18354cb460ea0ea16e3ad9c32"), looks := false }, kinds := [], alts := [], laidByText := true, laidKinds := [.data], laidTests := true, laidLooks := .later }
def ClassAllUptoCardSaid : Prop := Claim7.holds Tryd.pinned (.plain (OpenSpec.upto classAllSpec)) classAllUptoCard

/-- THE SECOND FORM's CARD OF 'hodmanlaw7.ClassLeast'. -/
def classLeastUptoCard : Claim7 := { stood := { row := classLeastUptoRow, standIns := [], harness := (true, "3ecdaab91720fd547ac3dbeea450085eaae0f8c18354cb460ea0ea16e3ad9c32"), looks := false }, kinds := [], alts := [], laidByText := true, laidKinds := [.data], laidTests := true, laidLooks := .later }
def ClassLeastUptoCardSaid : Prop := Claim7.holds Tryd.pinned (.plain (OpenSpec.upto classLeastSpec)) classLeastUptoCard

/-- THE SECOND FORM's CARD OF 'hodmanlaw7.ClassForms'. -/
def classFormsUptoCard : Claim7 := { stood := { row := classFormsUptoRow, standIns := [], harness := (true, "3ecdaab91720fd547ac3dbeea450085eaae0f8c18354cb460ea0ea16e3ad9c32"), looks := false }, kinds := [], alts := [], laidByText := true, laidKinds := [.data], laidTests := true, laidLooks := .later }
def ClassFormsUptoCardSaid : Prop := Claim7.holds Tryd.pinned (.plain (OpenSpec.upto classFormsSpec)) classFormsUptoCard

/-- THE SECOND FORM's CARD OF 'hodmanlaw7.ClassMany'. -/
def classManyUptoCard : Claim7 := { stood := { row := classManyUptoRow, standIns := [], harness := (true, "3ecdaab91720fd547ac3dbeea450085eaae0f8c18354cb460ea0ea16e3ad9c32"), looks := false }, kinds := [], alts := [], laidByText := true, laidKinds := [.data], laidTests := true, laidLooks := .later }
def ClassManyUptoCardSaid : Prop := Claim7.holds Tryd.pinned (.plain (OpenSpec.upto classManySpec)) classManyUptoCard
end Rows
end Go.Proofs.YtnknifhbbkccoaaDoor
