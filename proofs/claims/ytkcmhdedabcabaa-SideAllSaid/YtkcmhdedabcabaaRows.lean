/-
  No cell of these rows narrows 'for every input' (looked for: loops, veiled, ifaces, maps, wideKeys, modest, calm, conditions, laid).
  DERIVED. THE GIVEN ROWS OF THIS SEAT. 3 by the template 'for every input the law returns true; each argument reads behind the call as it read before'; 0 by the template 'total and deterministic' (their statements: YtkcmhdedabcabaaTotals.lean).
  GIVEN WITH THE SEED: the statements are not yours to turn. If you find one false, say at which input.
  Laid BY PROGRAM, IN A SANDBOX (cutbox-rows.mjs): the forced cells as the released guide's own fill.sh prints them over the translation 7a19c82add894de7… (all of the seat's roots in one cut). By AI agents, Wed Nov 11 2026. No macro, syntax, notation, axiom, sorry.
-/
import Derived.Test.YtkcmhdedabcabaaChecked
import GoSem.Claim
import GoSem.ClaimJoined
import GoSem.ClaimMapViews
import Derived.JoinedTies
import Derived.KernelRfl
namespace Go.Proofs.Ytkcmhdedabcabaa
/- THE CELL 'sum', in the pinned program and in every row, IS THE sha256 OF THE DUMP (.gsa) THAT YtkcmhdedabcabaaProg.lean LOADS. Nothing in Lean hashes anything: it is a label: what it is worth is what the hold of that sum in a sandbox is worth. -/
noncomputable def Try.pinned : Pinned := { name := "ytkcmhdedabcabaa", sum := "7a19c82add894de7c76602e5a1e529fb52096a6577783127612b283b3f27bdac", checked := Try.checked }
namespace Rows
def none {H : Type} : Left H := { results := [], args := [] }

/-- 'hodmanlaw10.SideAll': WHATEVER THE INPUT: true; the input reads as it did. -/
def sideAllSpec : ChangeSpec := { name := "sideAll", fn := fun _ => fun
  | [d1, d2] => { results := [.lit (.bool true)], args := [d1, d2] }
  | _ => none }
def sideAllRow : OpenClaim := { program := "ytkcmhdedabcabaa", sum := "7a19c82add894de7c76602e5a1e529fb52096a6577783127612b283b3f27bdac", func := "hodman/hodmanlaw10.SideAll", spec := "sideAll", plainKeys := false, apart := false }
def SideAllSaid : Prop := sideAllRow.holds Try.pinned (OpenSpec.ofChange sideAllSpec)

/-- ITS FALSE NEIGHBOUR: 'it returns false'. Refute it at one input. -/
def sideAllWrong : ChangeSpec := { name := "sideAll", fn := fun _ => fun
  | [d1, d2] => { results := [.lit (.bool false)], args := [d1, d2] }
  | _ => none }
def SideAllWrongFalsely : Prop := sideAllRow.holds Try.pinned (OpenSpec.ofChange sideAllWrong)

/-- 'hodmanlaw10.SideOnce': WHATEVER THE INPUT: true; the input reads as it did. -/
def sideOnceSpec : ChangeSpec := { name := "sideOnce", fn := fun _ => fun
  | [d] => { results := [.lit (.bool true)], args := [d] }
  | _ => none }
def sideOnceRow : OpenClaim := { program := "ytkcmhdedabcabaa", sum := "7a19c82add894de7c76602e5a1e529fb52096a6577783127612b283b3f27bdac", func := "hodman/hodmanlaw10.SideOnce", spec := "sideOnce", plainKeys := false, apart := false }
def SideOnceSaid : Prop := sideOnceRow.holds Try.pinned (OpenSpec.ofChange sideOnceSpec)

/-- ITS FALSE NEIGHBOUR: 'it returns false'. Refute it at one input. -/
def sideOnceWrong : ChangeSpec := { name := "sideOnce", fn := fun _ => fun
  | [d] => { results := [.lit (.bool false)], args := [d] }
  | _ => none }
def SideOnceWrongFalsely : Prop := sideOnceRow.holds Try.pinned (OpenSpec.ofChange sideOnceWrong)

/-- 'hodmanlaw10.SideForms': WHATEVER THE INPUT: true; the input reads as it did. -/
def sideFormsSpec : ChangeSpec := { name := "sideForms", fn := fun _ => fun
  | [] => { results := [.lit (.bool true)], args := [] }
  | _ => none }
def sideFormsRow : OpenClaim := { program := "ytkcmhdedabcabaa", sum := "7a19c82add894de7c76602e5a1e529fb52096a6577783127612b283b3f27bdac", func := "hodman/hodmanlaw10.SideForms", spec := "sideForms", plainKeys := false, apart := false }
def SideFormsSaid : Prop := sideFormsRow.holds Try.pinned (OpenSpec.ofChange sideFormsSpec)

/-- ITS FALSE NEIGHBOUR: 'it returns false'. Refute it at one input. -/
def sideFormsWrong : ChangeSpec := { name := "sideForms", fn := fun _ => fun
  | [] => { results := [.lit (.bool false)], args := [] }
  | _ => none }
def SideFormsWrongFalsely : Prop := sideFormsRow.holds Try.pinned (OpenSpec.ofChange sideFormsWrong)

/- THE SECOND FORM. 'bulk': how many values and letters a reading holds, each counted each time it is reached (what is shared counts as often as it is met; a slice's spare places count too). A statement '..UptoSaid' is the law's where the arguments, and the package variables that the reading takes, are together of bulk at most 1048576: NARROWER than '..Said'. Prove '..Said' where nothing that the law and all that it calls make is longer than what came in: it says more and counts as full. Else prove '..UptoSaid'. A law counts once. -/
mutual
def uptoBulk {H : Type} : DataW H → Nat
  | .lit (.string bytes) => bytes.length + 1
  | .lit _ => 1
  | .nil => 1
  | .ptr d => uptoBulk d + 1
  | .slice elems spare => uptoBulkAll elems + uptoBulkAll spare + 1
  | .agg parts => uptoBulkAll parts + 1
  | .iface _ d => uptoBulk d + 1
  | .map entries => uptoBulkEntries entries + 1
  | .held _ => 1
def uptoBulkAll {H : Type} : List (DataW H) → Nat
  | [] => 0
  | d :: r => uptoBulk d + uptoBulkAll r
def uptoBulkEntries {H : Type} : List (Lit × DataW H) → Nat
  | [] => 0
  | x :: r => uptoBulkEntry x + uptoBulkEntries r
def uptoBulkEntry {H : Type} : Lit × DataW H → Nat
  | (.string bytes, d) => bytes.length + uptoBulk d + 1
  | (_, d) => uptoBulk d + 1
 end
def uptoSmall : (H : Type) → List (DataW H) → Bool := fun _ ds => decide (uptoBulkAll ds ≤ 1048576)
def OpenSpec.upto (s : _root_.Go.ChangeSpec) : _root_.Go.OpenSpec := { _root_.Go.OpenSpec.ofChange s with cond := some uptoSmall }

/-- 'hodmanlaw10.SideAll', WHERE WHAT IT READS IS OF BULK AT MOST 1048576: true; the input reads as it did. -/
def sideAllUptoRow : OpenClaim := { program := "ytkcmhdedabcabaa", sum := "7a19c82add894de7c76602e5a1e529fb52096a6577783127612b283b3f27bdac", func := "hodman/hodmanlaw10.SideAll", spec := "sideAll", plainKeys := false, apart := false, narrowed := true }
def SideAllUptoSaid : Prop := sideAllUptoRow.holds Try.pinned (OpenSpec.upto sideAllSpec)

/-- 'hodmanlaw10.SideOnce', WHERE WHAT IT READS IS OF BULK AT MOST 1048576: true; the input reads as it did. -/
def sideOnceUptoRow : OpenClaim := { program := "ytkcmhdedabcabaa", sum := "7a19c82add894de7c76602e5a1e529fb52096a6577783127612b283b3f27bdac", func := "hodman/hodmanlaw10.SideOnce", spec := "sideOnce", plainKeys := false, apart := false, narrowed := true }
def SideOnceUptoSaid : Prop := sideOnceUptoRow.holds Try.pinned (OpenSpec.upto sideOnceSpec)

/-- 'hodmanlaw10.SideForms', WHERE WHAT IT READS IS OF BULK AT MOST 1048576: true; the input reads as it did. -/
def sideFormsUptoRow : OpenClaim := { program := "ytkcmhdedabcabaa", sum := "7a19c82add894de7c76602e5a1e529fb52096a6577783127612b283b3f27bdac", func := "hodman/hodmanlaw10.SideForms", spec := "sideForms", plainKeys := false, apart := false, narrowed := true }
def SideFormsUptoSaid : Prop := sideFormsUptoRow.holds Try.pinned (OpenSpec.upto sideFormsSpec)

end Rows
end Go.Proofs.Ytkcmhdedabcabaa
