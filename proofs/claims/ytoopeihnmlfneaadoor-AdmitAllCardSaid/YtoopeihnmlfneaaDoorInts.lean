/- The cells of a block that holds ints; carried into worlds that have grown. -/
import Derived.Test.YtoopeihnmlfneaaDoorBase
namespace Go.Proofs.YtoopeihnmlfneaaDoor
open Go.RowKit

abbrev intsO (l : List Int) (t : TypeId) : Obj := .cells (l.map (Value.int .i64)).toArray t
/-- the cells of a block that holds ints -/
def HasI (w : World) (n : Nat) (l : List Int) : Prop := ∀ k, k < l.length → w.cell? ⟨n, k, none⟩ = some (.int .i64 (l.getD k 0))
theorem HasI.made (w : World) (l : List Int) (t : TypeId) : HasI (w.alloc (intsO l t)) w.heap.size l := by
  intro k hk
  simp [intsO, hk, List.getD_eq_getElem?_getD]
theorem HasI.kept {w w' : World} {n : Nat} {l : List Int} (h : HasI w n l) (k : Kept w w') : HasI w' n l := fun i hi => k.cell (h i hi)
end Go.Proofs.YtoopeihnmlfneaaDoor
