/-
  DERIVED. GIVEN WITH THE SEED: THE CARDS: each row of YtckfmgopbfgdjaaDoorRows.lean that lists a variable, with what it lists TIED to the program's text (the seventh form; the later family's looks); each row that meets fmt, with fmt's text TOLD by the authors' own Lean function (tested against real Go, not proved from fmt's source: count such statements apart). THE CARD IS WHAT COUNTS. Prove the row's statement (the work); the ties are given (YtckfmgopbfgdjaaDoorTie.lean); close each card by the builder's one call (the guide's Derived/Test/ToyasCard.lean, 'card_holds'). Laid BY PROGRAM, IN A SANDBOX (cutbox-door.mjs). By AI agents, Wed Nov 11 2026. No macro, syntax, notation, axiom, sorry.
-/
import Derived.Test.YtckfmgopbfgdjaaDoorRows
import GoSem.ClaimSeven
namespace Go.Proofs.YtckfmgopbfgdjaaDoor
namespace Rows

/-- THE TIED CARD OF 'hodmanlaw12.PinBytes'. -/
def pinBytesCard : Claim7 := { stood := { row := pinBytesRow, standIns := [], harness := (true, "0a6b00d0c58ec77104e853ed9c5c259ea66773a459a279d839fdfac7b11e0755"), looks := false }, kinds := [], alts := [], laidByText := true, laidKinds := [.data, .data], laidTests := true, laidLooks := .later }
def PinBytesCardSaid : Prop := Claim7.holds Tryd.pinned (.plain (OpenSpec.ofChange pinBytesSpec)) pinBytesCard

/-- THE TIED CARD OF 'hodmanlaw12.PinForms'. -/
def pinFormsCard : Claim7 := { stood := { row := pinFormsRow, standIns := [], harness := (true, "0a6b00d0c58ec77104e853ed9c5c259ea66773a459a279d839fdfac7b11e0755"), looks := false }, kinds := [], alts := [], laidByText := true, laidKinds := [.data, .data], laidTests := true, laidLooks := .later }
def PinFormsCardSaid : Prop := Claim7.holds Tryd.pinned (.plain (OpenSpec.ofChange pinFormsSpec)) pinFormsCard

/-- THE TIED CARD OF 'hodmanlaw12.PinMore'. -/
def pinMoreCard : Claim7 := { stood := { row := pinMoreRow, standIns := [], harness := (true, "0a6b00d0c58ec77104e853ed9c5c259ea66773a459a279d839fdfac7b11e0755"), looks := false }, kinds := [], alts := [], laidByText := true, laidKinds := [.data, .data], laidTests := true, laidLooks := .later }
def PinMoreCardSaid : Prop := Claim7.holds Tryd.pinned (.plain (OpenSpec.ofChange pinMoreSpec)) pinMoreCard

/-- THE SECOND FORM's CARD OF 'hodmanlaw12.PinBytes'. -/
def pinBytesUptoCard : Claim7 := { stood := { row := pinBytesUptoRow, standIns := [], harness := (true, "0a6b00d0c58ec77104e853ed9c5c259ea66773a459a279d839fdfac7b11e0755"), looks := false }, kinds := [], alts := [], laidByText := true, laidKinds := [.data, .data], laidTests := true, laidLooks := .later }
def PinBytesUptoCardSaid : Prop := Claim7.holds Tryd.pinned (.plain (OpenSpec.upto pinBytesSpec)) pinBytesUptoCard

/-- THE SECOND FORM's CARD OF 'hodmanlaw12.PinForms'. -/
def pinFormsUptoCard : Claim7 := { stood := { row := pinFormsUptoRow, standIns := [], harness := (true, "0a6b00d0c58ec77104e853ed9c5c259ea66773a459a279d839fdfac7b11e0755"), looks := false }, kinds := [], alts := [], laidByText := true, laidKinds := [.data, .data], laidTests := true, laidLooks := .later }
def PinFormsUptoCardSaid : Prop := Claim7.holds Tryd.pinned (.plain (OpenSpec.upto pinFormsSpec)) pinFormsUptoCard

/-- THE SECOND FORM's CARD OF 'hodmanlaw12.PinMore'. -/
def pinMoreUptoCard : Claim7 := { stood := { row := pinMoreUptoRow, standIns := [], harness := (true, "0a6b00d0c58ec77104e853ed9c5c259ea66773a459a279d839fdfac7b11e0755"), looks := false }, kinds := [], alts := [], laidByText := true, laidKinds := [.data, .data], laidTests := true, laidLooks := .later }
def PinMoreUptoCardSaid : Prop := Claim7.holds Tryd.pinned (.plain (OpenSpec.upto pinMoreSpec)) pinMoreUptoCard
end Rows
end Go.Proofs.YtckfmgopbfgdjaaDoor
