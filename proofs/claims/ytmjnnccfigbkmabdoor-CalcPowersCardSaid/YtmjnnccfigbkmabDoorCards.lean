/-
  DERIVED. GIVEN WITH THE SEED: THE CARDS: each row of YtmjnnccfigbkmabDoorRows.lean that lists a variable, with what it lists TIED to the program's text (the seventh form; the later family's looks); each row that meets fmt, with fmt's text TOLD by the authors' own Lean function (tested against real Go, not proved from fmt's source: count such statements apart). THE CARD IS WHAT COUNTS. Prove the row's statement (the work); the ties are given (YtmjnnccfigbkmabDoorTie.lean); close each card by the builder's one call (the guide's Derived/Test/ToyasCard.lean, 'card_holds'). Laid BY PROGRAM, IN A SANDBOX (cutbox-door.mjs). By AI agents, Wed Nov 11 2026. No macro, syntax, notation, axiom, sorry.
-/
import Derived.Test.YtmjnnccfigbkmabDoorRows
import GoSem.ClaimSeven
namespace Go.Proofs.YtmjnnccfigbkmabDoor
namespace Rows

/-- THE TIED CARD OF 'hodmanlaw1.CalcPowers'. -/
def calcPowersCard : Claim7 := { stood := { row := calcPowersRow, standIns := [], harness := (true, "e5bce4ca6bbcd0a30e65776ebb5397ad5ab53e924da0adf5515679b51a1366a0"), looks := false }, kinds := [], alts := [], laidByText := true, laidKinds := [.data], laidTests := true, laidLooks := .later }
def CalcPowersCardSaid : Prop := Claim7.holds Tryd.pinned (.plain (OpenSpec.ofChange calcPowersSpec)) calcPowersCard

/-- THE SECOND FORM's CARD OF 'hodmanlaw1.CalcPowers'. -/
def calcPowersUptoCard : Claim7 := { stood := { row := calcPowersUptoRow, standIns := [], harness := (true, "e5bce4ca6bbcd0a30e65776ebb5397ad5ab53e924da0adf5515679b51a1366a0"), looks := false }, kinds := [], alts := [], laidByText := true, laidKinds := [.data], laidTests := true, laidLooks := .later }
def CalcPowersUptoCardSaid : Prop := Claim7.holds Tryd.pinned (.plain (OpenSpec.upto calcPowersSpec)) calcPowersUptoCard
end Rows
end Go.Proofs.YtmjnnccfigbkmabDoor
