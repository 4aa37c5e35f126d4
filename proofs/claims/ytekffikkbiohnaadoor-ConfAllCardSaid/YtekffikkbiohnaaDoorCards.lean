/-
  DERIVED. GIVEN WITH THE SEED: THE CARDS: each row of YtekffikkbiohnaaDoorRows.lean that lists a variable, with what it lists TIED to the program's text (the seventh form; the later family's looks); each row that meets fmt, with fmt's text TOLD by the authors' own Lean function (tested against real Go, not proved from fmt's source: count such statements apart). THE CARD IS WHAT COUNTS. Prove the row's statement (the work); the ties are given (YtekffikkbiohnaaDoorTie.lean); close each card by the builder's one call (the guide's Derived/Test/ToyasCard.lean, 'card_holds'). Laid BY PROGRAM, IN A SANDBOX (cutbox-door.mjs). By AI agents, Wed Nov 11 2026. No macro, syntax, notation, axiom, sorry.
-/
import Derived.Test.YtekffikkbiohnaaDoorRows
import GoSem.ClaimSeven
namespace Go.Proofs.YtekffikkbiohnaaDoor
namespace Rows

/-- THE TIED CARD OF 'hodmanlaw2.ConfAll'. -/
def confAllCard : Claim7 := { stood := { row := confAllRow, standIns := [], harness := (true, "5d179eec2e484eb2795ae111637b29105e9fc6925278dbcef82113e027d39594"), looks := false }, kinds := [], alts := [], laidByText := true, laidKinds := [.data], laidTests := true, laidLooks := .later }
def ConfAllCardSaid : Prop := Claim7.holds Tryd.pinned (.plain (OpenSpec.ofChange confAllSpec)) confAllCard

/-- THE TIED CARD OF 'hodmanlaw2.ConfWhole'. -/
def confWholeCard : Claim7 := { stood := { row := confWholeRow, standIns := [], harness := (true, "5d179eec2e484eb2795ae111637b29105e9fc6925278dbcef82113e027d39594"), looks := false }, kinds := [], alts := [], laidByText := true, laidKinds := [.data], laidTests := true, laidLooks := .later }
def ConfWholeCardSaid : Prop := Claim7.holds Tryd.pinned (.plain (OpenSpec.ofChange confWholeSpec)) confWholeCard

/-- THE TIED CARD OF 'hodmanlaw2.ConfForms'. -/
def confFormsCard : Claim7 := { stood := { row := confFormsRow, standIns := [], harness := (true, "5d179eec2e484eb2795ae111637b29105e9fc6925278dbcef82113e027d39594"), looks := false }, kinds := [], alts := [], laidByText := true, laidKinds := [.data], laidTests := true, laidLooks := .later }
def ConfFormsCardSaid : Prop := Claim7.holds Tryd.pinned (.plain (OpenSpec.ofChange confFormsSpec)) confFormsCard

/-- THE TIED CARD OF 'hodmanlaw2.ConfMore'. -/
def confMoreCard : Claim7 := { stood := { row := confMoreRow, standIns := [], harness := (true, "5d179eec2e484eb2795ae111637b29105e9fc6925278dbcef82113e027d39594"), looks := false }, kinds := [], alts := [], laidByText := true, laidKinds := [.data], laidTests := true, laidLooks := .later }
def ConfMoreCardSaid : Prop := Claim7.holds Tryd.pinned (.plain (OpenSpec.ofChange confMoreSpec)) confMoreCard

/-- THE SECOND FORM's CARD OF 'hodmanlaw2.ConfAll'. -/
def confAllUptoCard : Claim7 := { stood := { row := confAllUptoRow, standIns := [], harness := (true, "5d179eec2e484eb2795ae111637b29105e9fc6925278dbcef82113e027d39594"), looks := false }, kinds := [], alts := [], laidByText := true, laidKinds := [.data], laidTests := true, laidLooks := .later }
def ConfAllUptoCardSaid : Prop := Claim7.holds Tryd.pinned (.plain (OpenSpec.upto confAllSpec)) confAllUptoCard

/-- THE SECOND FORM's CARD OF 'hodmanlaw2.ConfWhole'. -/
def confWholeUptoCard : Claim7 := { stood := { row := confWholeUptoRow, standIns := [], harness := (true, "5d179eec2e484eb2795ae111637b29105e9fc6925278dbcef82113e027d39594"), looks := false }, kinds := [], alts := [], laidByText := true, laidKinds := [.data], laidTests := true, laidLooks := .later }
def ConfWholeUptoCardSaid : Prop := Claim7.holds Tryd.pinned (.plain (OpenSpec.upto confWholeSpec)) confWholeUptoCard

/-- THE SECOND FORM's CARD OF 'hodmanlaw2.ConfForms'. -/
def confFormsUptoCard : Claim7 := { stood := { row := confFormsUptoRow, standIns := [], harness := (true, "5d179eec2e484eb2795ae111637b29105e9fc6925278dbcef82113e027d39594"), looks := false }, kinds := [], alts := [], laidByText := true, laidKinds := [.data], laidTests := true, laidLooks := .later }
def ConfFormsUptoCardSaid : Prop := Claim7.holds Tryd.pinned (.plain (OpenSpec.upto confFormsSpec)) confFormsUptoCard

/-- THE SECOND FORM's CARD OF 'hodmanlaw2.ConfMore'. -/
def confMoreUptoCard : Claim7 := { stood := { row := confMoreUptoRow, standIns := [], harness := (true, "5d179eec2e484eb2795ae111637b29105e9fc6925278dbcef82113e027d39594"), looks := false }, kinds := [], alts := [], laidByText := true, laidKinds := [.data], laidTests := true, laidLooks := .later }
def ConfMoreUptoCardSaid : Prop := Claim7.holds Tryd.pinned (.plain (OpenSpec.upto confMoreSpec)) confMoreUptoCard
end Rows
end Go.Proofs.YtekffikkbiohnaaDoor
