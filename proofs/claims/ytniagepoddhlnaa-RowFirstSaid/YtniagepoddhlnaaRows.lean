/-
  No cell of these rows narrows 'for every input' (looked for: loops, veiled, ifaces, maps, wideKeys, modest, calm, conditions, laid).
  DERIVED. THE GIVEN ROWS OF THIS SEAT. 5 by the template 'for every input the law returns true; each argument reads behind the call as it read before'; 0 by the template 'total and deterministic' (their statements: YtniagepoddhlnaaTotals.lean).
  GIVEN WITH THE SEED: the statements are not yours to turn. If you find one false, say at which input.
  Laid BY PROGRAM, IN A SANDBOX (cutbox-rows.mjs): the forced cells as the released guide's own fill.sh prints them over the translation 93e26732f8434d3a… (all of the seat's roots in one cut). By AI agents, Wed Nov 11 2026. No macro, syntax, notation, axiom, sorry.
-/
import Derived.Test.YtniagepoddhlnaaChecked
import GoSem.Claim
import GoSem.ClaimJoined
import GoSem.ClaimMapViews
import Derived.JoinedTies
import Derived.KernelRfl
namespace Go.Proofs.Ytniagepoddhlnaa
/- THE CELL 'sum', in the pinned program and in every row, IS THE sha256 OF THE DUMP (.gsa) THAT YtniagepoddhlnaaProg.lean LOADS. Nothing in Lean hashes anything: it is a label: what it is worth is what the hold of that sum in a sandbox is worth. -/
noncomputable def Try.pinned : Pinned := { name := "ytniagepoddhlnaa", sum := "93e26732f8434d3a88fa4379f06959f374fa07dab95157f74d02b2b3274de09d", checked := Try.checked }
namespace Rows
def none {H : Type} : Left H := { results := [], args := [] }

/-- 'hodmanlaw4.RowAll': WHATEVER THE INPUT: true; the input reads as it did. -/
def rowAllSpec : ChangeSpec := { name := "rowAll", fn := fun _ => fun
  | [d1, d2, d3, d4, d5] => { results := [.lit (.bool true)], args := [d1, d2, d3, d4, d5] }
  | _ => none }
def rowAllRow : OpenClaim := { program := "ytniagepoddhlnaa", sum := "93e26732f8434d3a88fa4379f06959f374fa07dab95157f74d02b2b3274de09d", func := "hodman/hodmanlaw4.RowAll", spec := "rowAll", apart := false }
def RowAllSaid : Prop := rowAllRow.holds Try.pinned (OpenSpec.ofChange rowAllSpec)

/-- ITS FALSE NEIGHBOUR: 'it returns false'. Refute it at one input. -/
def rowAllWrong : ChangeSpec := { name := "rowAll", fn := fun _ => fun
  | [d1, d2, d3, d4, d5] => { results := [.lit (.bool false)], args := [d1, d2, d3, d4, d5] }
  | _ => none }
def RowAllWrongFalsely : Prop := rowAllRow.holds Try.pinned (OpenSpec.ofChange rowAllWrong)

/-- 'hodmanlaw4.RowSet': WHATEVER THE INPUT: true; the input reads as it did. -/
def rowSetSpec : ChangeSpec := { name := "rowSet", fn := fun _ => fun
  | [d1, d2, d3, d4, d5] => { results := [.lit (.bool true)], args := [d1, d2, d3, d4, d5] }
  | _ => none }
def rowSetRow : OpenClaim := { program := "ytniagepoddhlnaa", sum := "93e26732f8434d3a88fa4379f06959f374fa07dab95157f74d02b2b3274de09d", func := "hodman/hodmanlaw4.RowSet", spec := "rowSet", apart := false }
def RowSetSaid : Prop := rowSetRow.holds Try.pinned (OpenSpec.ofChange rowSetSpec)

/-- ITS FALSE NEIGHBOUR: 'it returns false'. Refute it at one input. -/
def rowSetWrong : ChangeSpec := { name := "rowSet", fn := fun _ => fun
  | [d1, d2, d3, d4, d5] => { results := [.lit (.bool false)], args := [d1, d2, d3, d4, d5] }
  | _ => none }
def RowSetWrongFalsely : Prop := rowSetRow.holds Try.pinned (OpenSpec.ofChange rowSetWrong)

/-- 'hodmanlaw4.RowFirst': WHATEVER THE INPUT: true; the input reads as it did. -/
def rowFirstSpec : ChangeSpec := { name := "rowFirst", fn := fun _ => fun
  | [d1, d2, d3] => { results := [.lit (.bool true)], args := [d1, d2, d3] }
  | _ => none }
def rowFirstRow : OpenClaim := { program := "ytniagepoddhlnaa", sum := "93e26732f8434d3a88fa4379f06959f374fa07dab95157f74d02b2b3274de09d", func := "hodman/hodmanlaw4.RowFirst", spec := "rowFirst", apart := false }
def RowFirstSaid : Prop := rowFirstRow.holds Try.pinned (OpenSpec.ofChange rowFirstSpec)

/-- ITS FALSE NEIGHBOUR: 'it returns false'. Refute it at one input. -/
def rowFirstWrong : ChangeSpec := { name := "rowFirst", fn := fun _ => fun
  | [d1, d2, d3] => { results := [.lit (.bool false)], args := [d1, d2, d3] }
  | _ => none }
def RowFirstWrongFalsely : Prop := rowFirstRow.holds Try.pinned (OpenSpec.ofChange rowFirstWrong)

/-- 'hodmanlaw4.RowForms': WHATEVER THE INPUT: true; the input reads as it did. -/
def rowFormsSpec : ChangeSpec := { name := "rowForms", fn := fun _ => fun
  | [] => { results := [.lit (.bool true)], args := [] }
  | _ => none }
def rowFormsRow : OpenClaim := { program := "ytniagepoddhlnaa", sum := "93e26732f8434d3a88fa4379f06959f374fa07dab95157f74d02b2b3274de09d", func := "hodman/hodmanlaw4.RowForms", spec := "rowForms", apart := false }
def RowFormsSaid : Prop := rowFormsRow.holds Try.pinned (OpenSpec.ofChange rowFormsSpec)

/-- ITS FALSE NEIGHBOUR: 'it returns false'. Refute it at one input. -/
def rowFormsWrong : ChangeSpec := { name := "rowForms", fn := fun _ => fun
  | [] => { results := [.lit (.bool false)], args := [] }
  | _ => none }
def RowFormsWrongFalsely : Prop := rowFormsRow.holds Try.pinned (OpenSpec.ofChange rowFormsWrong)

/-- 'hodmanlaw4.RowJoins': WHATEVER THE INPUT: true; the input reads as it did. -/
def rowJoinsSpec : ChangeSpec := { name := "rowJoins", fn := fun _ => fun
  | [d1, d2, d3, d4, d5] => { results := [.lit (.bool true)], args := [d1, d2, d3, d4, d5] }
  | _ => none }
def rowJoinsRow : OpenClaim := { program := "ytniagepoddhlnaa", sum := "93e26732f8434d3a88fa4379f06959f374fa07dab95157f74d02b2b3274de09d", func := "hodman/hodmanlaw4.RowJoins", spec := "rowJoins", apart := false }
def RowJoinsSaid : Prop := rowJoinsRow.holds Try.pinned (OpenSpec.ofChange rowJoinsSpec)

/-- ITS FALSE NEIGHBOUR: 'it returns false'. Refute it at one input. -/
def rowJoinsWrong : ChangeSpec := { name := "rowJoins", fn := fun _ => fun
  | [d1, d2, d3, d4, d5] => { results := [.lit (.bool false)], args := [d1, d2, d3, d4, d5] }
  | _ => none }
def RowJoinsWrongFalsely : Prop := rowJoinsRow.holds Try.pinned (OpenSpec.ofChange rowJoinsWrong)

/- THE SECOND FORM. 'bulk': how many values and letters a reading holds, each counted each time it is reached (what is shared counts as often as it is met; a slice's spare places count too). A statement '..UptoSaid' is the law's where the arguments, and the package variables that the reading takes, are together of bulk at most 1048576: NARROWER than '..Said'. Prove '..Said' where nothing that the law and all that it calls make is longer than what came in: it says more and counts as full. Else prove '..UptoSaid'. A law counts once. -/
mutual
def uptoBulk {H : Type} : DataW H → Nat
  | .lit (.string bytes) => bytes.length + 1
  | .lit _ => 1
  | .nil => 1
  | .ptr d => uptoBulk d + 1
  | .slice elems spare => uptoBulkAll elems + uptoBulkAll spare + 1
  | .agg parts => uptoBulkAll parts + 1
  | .iface _ d => uptoBulk d + 1
  | .map entries => uptoBulkEntries entries + 1
  | .held _ => 1
def uptoBulkAll {H : Type} : List (DataW H) → Nat
  | [] => 0
  | d :: r => uptoBulk d + uptoBulkAll r
def uptoBulkEntries {H : Type} : List (Lit × DataW H) → Nat
  | [] => 0
  | x :: r => uptoBulkEntry x + uptoBulkEntries r
def uptoBulkEntry {H : Type} : Lit × DataW H → Nat
  | (.string bytes, d) => bytes.length + uptoBulk d + 1
  | (_, d) => uptoBulk d + 1
 end
def uptoSmall : (H : Type) → List (DataW H) → Bool := fun _ ds => decide (uptoBulkAll ds ≤ 1048576)
def OpenSpec.upto (s : _root_.Go.ChangeSpec) : _root_.Go.OpenSpec := { _root_.Go.OpenSpec.ofChange s with cond := some uptoSmall }

/-- 'hodmanlaw4.RowAll', WHERE WHAT IT READS IS OF BULK AT MOST 1048576: true; the input reads as it did. -/
def rowAllUptoRow : OpenClaim := { program := "ytniagepoddhlnaa", sum := "93e26732f8434d3a88fa4379f06959f374fa07dab95157f74d02b2b3274de09d", func := "hodman/hodmanlaw4.RowAll", spec := "rowAll", apart := false, narrowed := true }
def RowAllUptoSaid : Prop := rowAllUptoRow.holds Try.pinned (OpenSpec.upto rowAllSpec)

/-- 'hodmanlaw4.RowSet', WHERE WHAT IT READS IS OF BULK AT MOST 1048576: true; the input reads as it did. -/
def rowSetUptoRow : OpenClaim := { program := "ytniagepoddhlnaa", sum := "93e26732f8434d3a88fa4379f06959f374fa07dab95157f74d02b2b3274de09d", func := "hodman/hodmanlaw4.RowSet", spec := "rowSet", apart := false, narrowed := true }
def RowSetUptoSaid : Prop := rowSetUptoRow.holds Try.pinned (OpenSpec.upto rowSetSpec)

/-- 'hodmanlaw4.RowFirst', WHERE WHAT IT READS IS OF BULK AT MOST 1048576: true; the input reads as it did. -/
def rowFirstUptoRow : OpenClaim := { program := "ytniagepoddhlnaa", sum := "93e26732f8434d3a88fa4379f06959f374fa07dab95157f74d02b2b3274de09d", func := "hodman/hodmanlaw4.RowFirst", spec := "rowFirst", apart := false, narrowed := true }
def RowFirstUptoSaid : Prop := rowFirstUptoRow.holds Try.pinned (OpenSpec.upto rowFirstSpec)

/-- 'hodmanlaw4.RowForms', WHERE WHAT IT READS IS OF BULK AT MOST 1048576: true; the input reads as it did. -/
def rowFormsUptoRow : OpenClaim := { program := "ytniagepoddhlnaa", sum := "93e26732f8434d3a88fa4379f06959f374fa07dab95157f74d02b2b3274de09d", func := "hodman/hodmanlaw4.RowForms", spec := "rowForms", apart := false, narrowed := true }
def RowFormsUptoSaid : Prop := rowFormsUptoRow.holds Try.pinned (OpenSpec.upto rowFormsSpec)

/-- 'hodmanlaw4.RowJoins', WHERE WHAT IT READS IS OF BULK AT MOST 1048576: true; the input reads as it did. -/
def rowJoinsUptoRow : OpenClaim := { program := "ytniagepoddhlnaa", sum := "93e26732f8434d3a88fa4379f06959f374fa07dab95157f74d02b2b3274de09d", func := "hodman/hodmanlaw4.RowJoins", spec := "rowJoins", apart := false, narrowed := true }
def RowJoinsUptoSaid : Prop := rowJoinsUptoRow.holds Try.pinned (OpenSpec.upto rowJoinsSpec)

end Rows
end Go.Proofs.Ytniagepoddhlnaa
