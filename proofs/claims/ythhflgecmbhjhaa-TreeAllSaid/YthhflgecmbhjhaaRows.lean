/-
  No cell of these rows narrows 'for every input' (looked for: loops, veiled, ifaces, maps, wideKeys, modest, calm, conditions, laid).
  DERIVED. THE GIVEN ROWS OF THIS SEAT. 4 by the template 'for every input the law returns true; each argument reads behind the call as it read before'; 0 by the template 'total and deterministic' (their statements: YthhflgecmbhjhaaTotals.lean).
  GIVEN WITH THE SEED: the statements are not yours to turn. If you find one false, say at which input.
  Laid BY PROGRAM, IN A SANDBOX (cutbox-rows.mjs): the forced cells as the released guide's own fill.sh prints them over the translation 7d208c8bb5693232… (all of the seat's roots in one cut). By AI agents, Wed Nov 11 2026. No macro, syntax, notation, axiom, sorry.
-/
import Derived.Test.YthhflgecmbhjhaaChecked
import GoSem.Claim
import GoSem.ClaimJoined
import GoSem.ClaimMapViews
import Derived.JoinedTies
import Derived.KernelRfl
namespace Go.Proofs.Ythhflgecmbhjhaa
/- THE CELL 'sum', in the pinned program and in every row, IS THE sha256 OF THE DUMP (.gsa) THAT YthhflgecmbhjhaaProg.lean LOADS. Nothing in Lean hashes anything: it is a label: what it is worth is what the hold of that sum in a sandbox is worth. -/
noncomputable def Try.pinned : Pinned := { name := "ythhflgecmbhjhaa", sum := "7d208c8bb569323255a9b59ac423497e6ce9806ad1f0856b6ccfda3af85c92ac", checked := Try.checked }
namespace Rows
def none {H : Type} : Left H := { results := [], args := [] }

/-- 'hodmanlaw5.TreeAll': WHATEVER THE INPUT: true; the input reads as it did. -/
def treeAllSpec : ChangeSpec := { name := "treeAll", fn := fun _ => fun
  | [d1, d2, d3, d4, d5, d6] => { results := [.lit (.bool true)], args := [d1, d2, d3, d4, d5, d6] }
  | _ => none }
def treeAllRow : OpenClaim := { program := "ythhflgecmbhjhaa", sum := "7d208c8bb569323255a9b59ac423497e6ce9806ad1f0856b6ccfda3af85c92ac", func := "hodman/hodmanlaw5.TreeAll", spec := "treeAll", apart := false }
def TreeAllSaid : Prop := treeAllRow.holds Try.pinned (OpenSpec.ofChange treeAllSpec)

/-- ITS FALSE NEIGHBOUR: 'it returns false'. Refute it at one input. -/
def treeAllWrong : ChangeSpec := { name := "treeAll", fn := fun _ => fun
  | [d1, d2, d3, d4, d5, d6] => { results := [.lit (.bool false)], args := [d1, d2, d3, d4, d5, d6] }
  | _ => none }
def TreeAllWrongFalsely : Prop := treeAllRow.holds Try.pinned (OpenSpec.ofChange treeAllWrong)

/-- 'hodmanlaw5.TreeGlance': WHATEVER THE INPUT: true; the input reads as it did. -/
def treeGlanceSpec : ChangeSpec := { name := "treeGlance", fn := fun _ => fun
  | [d1, d2, d3, d4, d5] => { results := [.lit (.bool true)], args := [d1, d2, d3, d4, d5] }
  | _ => none }
def treeGlanceRow : OpenClaim := { program := "ythhflgecmbhjhaa", sum := "7d208c8bb569323255a9b59ac423497e6ce9806ad1f0856b6ccfda3af85c92ac", func := "hodman/hodmanlaw5.TreeGlance", spec := "treeGlance", apart := false }
def TreeGlanceSaid : Prop := treeGlanceRow.holds Try.pinned (OpenSpec.ofChange treeGlanceSpec)

/-- ITS FALSE NEIGHBOUR: 'it returns false'. Refute it at one input. -/
def treeGlanceWrong : ChangeSpec := { name := "treeGlance", fn := fun _ => fun
  | [d1, d2, d3, d4, d5] => { results := [.lit (.bool false)], args := [d1, d2, d3, d4, d5] }
  | _ => none }
def TreeGlanceWrongFalsely : Prop := treeGlanceRow.holds Try.pinned (OpenSpec.ofChange treeGlanceWrong)

/-- 'hodmanlaw5.TreeForms': WHATEVER THE INPUT: true; the input reads as it did. -/
def treeFormsSpec : ChangeSpec := { name := "treeForms", fn := fun _ => fun
  | [] => { results := [.lit (.bool true)], args := [] }
  | _ => none }
def treeFormsRow : OpenClaim := { program := "ythhflgecmbhjhaa", sum := "7d208c8bb569323255a9b59ac423497e6ce9806ad1f0856b6ccfda3af85c92ac", func := "hodman/hodmanlaw5.TreeForms", spec := "treeForms", apart := false }
def TreeFormsSaid : Prop := treeFormsRow.holds Try.pinned (OpenSpec.ofChange treeFormsSpec)

/-- ITS FALSE NEIGHBOUR: 'it returns false'. Refute it at one input. -/
def treeFormsWrong : ChangeSpec := { name := "treeForms", fn := fun _ => fun
  | [] => { results := [.lit (.bool false)], args := [] }
  | _ => none }
def TreeFormsWrongFalsely : Prop := treeFormsRow.holds Try.pinned (OpenSpec.ofChange treeFormsWrong)

/-- 'hodmanlaw5.TreeRow': WHATEVER THE INPUT: true; the input reads as it did. -/
def treeRowSpec : ChangeSpec := { name := "treeRow", fn := fun _ => fun
  | [d1, d2] => { results := [.lit (.bool true)], args := [d1, d2] }
  | _ => none }
def treeRowRow : OpenClaim := { program := "ythhflgecmbhjhaa", sum := "7d208c8bb569323255a9b59ac423497e6ce9806ad1f0856b6ccfda3af85c92ac", func := "hodman/hodmanlaw5.TreeRow", spec := "treeRow", apart := false }
def TreeRowSaid : Prop := treeRowRow.holds Try.pinned (OpenSpec.ofChange treeRowSpec)

/-- ITS FALSE NEIGHBOUR: 'it returns false'. Refute it at one input. -/
def treeRowWrong : ChangeSpec := { name := "treeRow", fn := fun _ => fun
  | [d1, d2] => { results := [.lit (.bool false)], args := [d1, d2] }
  | _ => none }
def TreeRowWrongFalsely : Prop := treeRowRow.holds Try.pinned (OpenSpec.ofChange treeRowWrong)

/- THE SECOND FORM. 'bulk': how many values and letters a reading holds, each counted each time it is reached (what is shared counts as often as it is met; a slice's spare places count too). A statement '..UptoSaid' is the law's where the arguments, and the package variables that the reading takes, are together of bulk at most 1048576: NARROWER than '..Said'. Prove '..Said' where nothing that the law and all that it calls make is longer than what came in: it says more and counts as full. Else prove '..UptoSaid'. A law counts once. -/
mutual
def uptoBulk {H : Type} : DataW H → Nat
  | .lit (.string bytes) => bytes.length + 1
  | .lit _ => 1
  | .nil => 1
  | .ptr d => uptoBulk d + 1
  | .slice elems spare => uptoBulkAll elems + uptoBulkAll spare + 1
  | .agg parts => uptoBulkAll parts + 1
  | .iface _ d => uptoBulk d + 1
  | .map entries => uptoBulkEntries entries + 1
  | .held _ => 1
def uptoBulkAll {H : Type} : List (DataW H) → Nat
  | [] => 0
  | d :: r => uptoBulk d + uptoBulkAll r
def uptoBulkEntries {H : Type} : List (Lit × DataW H) → Nat
  | [] => 0
  | x :: r => uptoBulkEntry x + uptoBulkEntries r
def uptoBulkEntry {H : Type} : Lit × DataW H → Nat
  | (.string bytes, d) => bytes.length + uptoBulk d + 1
  | (_, d) => uptoBulk d + 1
 end
def uptoSmall : (H : Type) → List (DataW H) → Bool := fun _ ds => decide (uptoBulkAll ds ≤ 1048576)
def OpenSpec.upto (s : _root_.Go.ChangeSpec) : _root_.Go.OpenSpec := { _root_.Go.OpenSpec.ofChange s with cond := some uptoSmall }

/-- 'hodmanlaw5.TreeAll', WHERE WHAT IT READS IS OF BULK AT MOST 1048576: true; the input reads as it did. -/
def treeAllUptoRow : OpenClaim := { program := "ythhflgecmbhjhaa", sum := "7d208c8bb569323255a9b59ac423497e6ce9806ad1f0856b6ccfda3af85c92ac", func := "hodman/hodmanlaw5.TreeAll", spec := "treeAll", apart := false, narrowed := true }
def TreeAllUptoSaid : Prop := treeAllUptoRow.holds Try.pinned (OpenSpec.upto treeAllSpec)

/-- 'hodmanlaw5.TreeGlance', WHERE WHAT IT READS IS OF BULK AT MOST 1048576: true; the input reads as it did. -/
def treeGlanceUptoRow : OpenClaim := { program := "ythhflgecmbhjhaa", sum := "7d208c8bb569323255a9b59ac423497e6ce9806ad1f0856b6ccfda3af85c92ac", func := "hodman/hodmanlaw5.TreeGlance", spec := "treeGlance", apart := false, narrowed := true }
def TreeGlanceUptoSaid : Prop := treeGlanceUptoRow.holds Try.pinned (OpenSpec.upto treeGlanceSpec)

/-- 'hodmanlaw5.TreeForms', WHERE WHAT IT READS IS OF BULK AT MOST 1048576: true; the input reads as it did. -/
def treeFormsUptoRow : OpenClaim := { program := "ythhflgecmbhjhaa", sum := "7d208c8bb569323255a9b59ac423497e6ce9806ad1f0856b6ccfda3af85c92ac", func := "hodman/hodmanlaw5.TreeForms", spec := "treeForms", apart := false, narrowed := true }
def TreeFormsUptoSaid : Prop := treeFormsUptoRow.holds Try.pinned (OpenSpec.upto treeFormsSpec)

/-- 'hodmanlaw5.TreeRow', WHERE WHAT IT READS IS OF BULK AT MOST 1048576: true; the input reads as it did. -/
def treeRowUptoRow : OpenClaim := { program := "ythhflgecmbhjhaa", sum := "7d208c8bb569323255a9b59ac423497e6ce9806ad1f0856b6ccfda3af85c92ac", func := "hodman/hodmanlaw5.TreeRow", spec := "treeRow", apart := false, narrowed := true }
def TreeRowUptoSaid : Prop := treeRowUptoRow.holds Try.pinned (OpenSpec.upto treeRowSpec)

end Rows
end Go.Proofs.Ythhflgecmbhjhaa
