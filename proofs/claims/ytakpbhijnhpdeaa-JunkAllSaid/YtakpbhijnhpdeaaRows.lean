/-
  No cell of these rows narrows 'for every input' (looked for: loops, veiled, ifaces, maps, wideKeys, modest, calm, conditions, laid).
  DERIVED. THE GIVEN ROWS OF THIS SEAT. 3 by the template 'for every input the law returns true; each argument reads behind the call as it read before'; 0 by the template 'total and deterministic' (their statements: YtakpbhijnhpdeaaTotals.lean).
  GIVEN WITH THE SEED: the statements are not yours to turn. If you find one false, say at which input.
  Laid BY PROGRAM, IN A SANDBOX (cutbox-rows.mjs): the forced cells as the released guide's own fill.sh prints them over the translation 8b3756cc5d80bb63… (all of the seat's roots in one cut). By AI agents, Wed Nov 11 2026. No macro, syntax, notation, axiom, sorry.
-/
import Derived.Test.YtakpbhijnhpdeaaChecked
import GoSem.Claim
import GoSem.ClaimJoined
import GoSem.ClaimMapViews
import Derived.JoinedTies
import Derived.KernelRfl
namespace Go.Proofs.Ytakpbhijnhpdeaa
/- THE CELL 'sum', in the pinned program and in every row, IS THE sha256 OF THE DUMP (.gsa) THAT YtakpbhijnhpdeaaProg.lean LOADS. Nothing in Lean hashes anything: it is a label: what it is worth is what the hold of that sum in a sandbox is worth. -/
noncomputable def Try.pinned : Pinned := { name := "ytakpbhijnhpdeaa", sum := "8b3756cc5d80bb633ff69e5413c60e967a72832bfd6d4bfb020854409d46ccd9", checked := Try.checked }
namespace Rows
def none {H : Type} : Left H := { results := [], args := [] }

/-- 'hodmanlaw14.JunkAll': WHATEVER THE INPUT: true; the input reads as it did. -/
def junkAllSpec : ChangeSpec := { name := "junkAll", fn := fun _ => fun
  | [d1, d2, d3, d4, d5, d6] => { results := [.lit (.bool true)], args := [d1, d2, d3, d4, d5, d6] }
  | _ => none }
def junkAllRow : OpenClaim := { program := "ytakpbhijnhpdeaa", sum := "8b3756cc5d80bb633ff69e5413c60e967a72832bfd6d4bfb020854409d46ccd9", func := "hodman/hodmanlaw14.JunkAll", spec := "junkAll", apart := false }
def JunkAllSaid : Prop := junkAllRow.holds Try.pinned (OpenSpec.ofChange junkAllSpec)

/-- ITS FALSE NEIGHBOUR: 'it returns false'. Refute it at one input. -/
def junkAllWrong : ChangeSpec := { name := "junkAll", fn := fun _ => fun
  | [d1, d2, d3, d4, d5, d6] => { results := [.lit (.bool false)], args := [d1, d2, d3, d4, d5, d6] }
  | _ => none }
def JunkAllWrongFalsely : Prop := junkAllRow.holds Try.pinned (OpenSpec.ofChange junkAllWrong)

/-- 'hodmanlaw14.JunkOnly': WHATEVER THE INPUT: true; the input reads as it did. -/
def junkOnlySpec : ChangeSpec := { name := "junkOnly", fn := fun _ => fun
  | [d1, d2, d3, d4] => { results := [.lit (.bool true)], args := [d1, d2, d3, d4] }
  | _ => none }
def junkOnlyRow : OpenClaim := { program := "ytakpbhijnhpdeaa", sum := "8b3756cc5d80bb633ff69e5413c60e967a72832bfd6d4bfb020854409d46ccd9", func := "hodman/hodmanlaw14.JunkOnly", spec := "junkOnly", apart := false }
def JunkOnlySaid : Prop := junkOnlyRow.holds Try.pinned (OpenSpec.ofChange junkOnlySpec)

/-- ITS FALSE NEIGHBOUR: 'it returns false'. Refute it at one input. -/
def junkOnlyWrong : ChangeSpec := { name := "junkOnly", fn := fun _ => fun
  | [d1, d2, d3, d4] => { results := [.lit (.bool false)], args := [d1, d2, d3, d4] }
  | _ => none }
def JunkOnlyWrongFalsely : Prop := junkOnlyRow.holds Try.pinned (OpenSpec.ofChange junkOnlyWrong)

/-- 'hodmanlaw14.JunkForms': WHATEVER THE INPUT: true; the input reads as it did. -/
def junkFormsSpec : ChangeSpec := { name := "junkForms", fn := fun _ => fun
  | [] => { results := [.lit (.bool true)], args := [] }
  | _ => none }
def junkFormsRow : OpenClaim := { program := "ytakpbhijnhpdeaa", sum := "8b3756cc5d80bb633ff69e5413c60e967a72832bfd6d4bfb020854409d46ccd9", func := "hodman/hodmanlaw14.JunkForms", spec := "junkForms", apart := false }
def JunkFormsSaid : Prop := junkFormsRow.holds Try.pinned (OpenSpec.ofChange junkFormsSpec)

/-- ITS FALSE NEIGHBOUR: 'it returns false'. Refute it at one input. -/
def junkFormsWrong : ChangeSpec := { name := "junkForms", fn := fun _ => fun
  | [] => { results := [.lit (.bool false)], args := [] }
  | _ => none }
def JunkFormsWrongFalsely : Prop := junkFormsRow.holds Try.pinned (OpenSpec.ofChange junkFormsWrong)

/- THE SECOND FORM. 'bulk': how many values and letters a reading holds, each counted each time it is reached (what is shared counts as often as it is met; a slice's spare places count too). A statement '..UptoSaid' is the law's where the arguments, and the package variables that the reading takes, are together of bulk at most 1048576: NARROWER than '..Said'. Prove '..Said' where nothing that the law and all that it calls make is longer than what came in: it says more and counts as full. Else prove '..UptoSaid'. A law counts once. -/
mutual
def uptoBulk {H : Type} : DataW H → Nat
  | .lit (.string bytes) => bytes.length + 1
  | .lit _ => 1
  | .nil => 1
  | .ptr d => uptoBulk d + 1
  | .slice elems spare => uptoBulkAll elems + uptoBulkAll spare + 1
  | .agg parts => uptoBulkAll parts + 1
  | .iface _ d => uptoBulk d + 1
  | .map entries => uptoBulkEntries entries + 1
  | .held _ => 1
def uptoBulkAll {H : Type} : List (DataW H) → Nat
  | [] => 0
  | d :: r => uptoBulk d + uptoBulkAll r
def uptoBulkEntries {H : Type} : List (Lit × DataW H) → Nat
  | [] => 0
  | x :: r => uptoBulkEntry x + uptoBulkEntries r
def uptoBulkEntry {H : Type} : Lit × DataW H → Nat
  | (.string bytes, d) => bytes.length + uptoBulk d + 1
  | (_, d) => uptoBulk d + 1
 end
def uptoSmall : (H : Type) → List (DataW H) → Bool := fun _ ds => decide (uptoBulkAll ds ≤ 1048576)
def OpenSpec.upto (s : _root_.Go.ChangeSpec) : _root_.Go.OpenSpec := { _root_.Go.OpenSpec.ofChange s with cond := some uptoSmall }

/-- 'hodmanlaw14.JunkAll', WHERE WHAT IT READS IS OF BULK AT MOST 1048576: true; the input reads as it did. -/
def junkAllUptoRow : OpenClaim := { program := "ytakpbhijnhpdeaa", sum := "8b3756cc5d80bb633ff69e5413c60e967a72832bfd6d4bfb020854409d46ccd9", func := "hodman/hodmanlaw14.JunkAll", spec := "junkAll", apart := false, narrowed := true }
def JunkAllUptoSaid : Prop := junkAllUptoRow.holds Try.pinned (OpenSpec.upto junkAllSpec)

/-- 'hodmanlaw14.JunkOnly', WHERE WHAT IT READS IS OF BULK AT MOST 1048576: true; the input reads as it did. -/
def junkOnlyUptoRow : OpenClaim := { program := "ytakpbhijnhpdeaa", sum := "8b3756cc5d80bb633ff69e5413c60e967a72832bfd6d4bfb020854409d46ccd9", func := "hodman/hodmanlaw14.JunkOnly", spec := "junkOnly", apart := false, narrowed := true }
def JunkOnlyUptoSaid : Prop := junkOnlyUptoRow.holds Try.pinned (OpenSpec.upto junkOnlySpec)

/-- 'hodmanlaw14.JunkForms', WHERE WHAT IT READS IS OF BULK AT MOST 1048576: true; the input reads as it did. -/
def junkFormsUptoRow : OpenClaim := { program := "ytakpbhijnhpdeaa", sum := "8b3756cc5d80bb633ff69e5413c60e967a72832bfd6d4bfb020854409d46ccd9", func := "hodman/hodmanlaw14.JunkForms", spec := "junkForms", apart := false, narrowed := true }
def JunkFormsUptoSaid : Prop := junkFormsUptoRow.holds Try.pinned (OpenSpec.upto junkFormsSpec)

end Rows
end Go.Proofs.Ytakpbhijnhpdeaa
