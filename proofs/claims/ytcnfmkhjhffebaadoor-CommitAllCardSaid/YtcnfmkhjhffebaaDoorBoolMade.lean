/- Rows of bools as they are made (make), in new memory. -/
import Derived.Test.YtcnfmkhjhffebaaDoorBoolMem
import Derived.Deep.OwnRows
namespace Go.Proofs.YtcnfmkhjhffebaaDoor
open Go.RowKit

theorem OwnB.base {w : World} {base g cap N : Nat} {bs : List Bool} (h : OwnB w base (.slice (some ⟨g, 0, none⟩) N cap) bs) : base ≤ g := by
  rcases h.2 with ⟨e, _⟩ | ⟨g', cap', cur, e, hb, _⟩
  · cases e
  · cases e; exact hb
theorem toList_falses (n : Nat) : (madeCells (Value.bool false).cells (n * 1)).toList = bvals (List.replicate n false) := by
  rw [Nat.mul_one]
  unfold bvals
  rw [List.map_replicate]
  exact toList_madeCells_one _ _
theorem bools_run (q : Nat) (h : q ≤ 65536) (w : World) : (Instr.makeSlice 23 (.int .i64 (q : Int)) (.int .i64 (q : Int))).run Tryd.prog w = .ok (.slice (some ⟨w.heap.size, 0, none⟩) q q) (w.alloc (.cells (madeCells #[.bool false] q) 4)) :=
  run_make_row' (P := Tryd.prog) 23 4 (.bool false) 1 Tryd.underlying23 infoBool rfl .i64 .i64 q (by omega) (by omega) w
/-- a row of bools as it is made -/
theorem bools_made (q : Nat) (h : q ≤ 65536) (w : World) : OwnB (w.alloc (.cells (madeCells #[.bool false] q) 4)) w.heap.size (.slice (some ⟨w.heap.size, 0, none⟩) q q) (List.replicate q false) := by
  have e : (madeCells #[Value.bool false] q).toList = bvals (List.replicate q false) := by have := toList_falses q; rwa [Nat.mul_one] at this
  have hl : (madeCells #[Value.bool false] q).size = q := by rw [← Array.length_toList, e, bvals_length, List.length_replicate]
  refine ⟨by rw [bvals_length, Nat.mul_one], .inr ⟨w.heap.size, q, madeCells #[.bool false] q, by rw [List.length_replicate], Nat.le_refl _, heap_alloc_new w _, by rw [List.length_replicate]; exact Nat.le_refl _, by unfold maxLen; omega, by rw [hl, Nat.mul_one], ?_⟩⟩
  rw [e, List.length_replicate, Nat.mul_one]
  exact List.take_of_length_le (by rw [bvals_length, List.length_replicate]; exact Nat.le_refl _)
theorem OwnB.bit {w : World} {base g cap N : Nat} {bs : List Bool} (h : OwnB w base (.slice (some ⟨g, 0, none⟩) N cap) bs) (hN : N = bs.length) (k : Nat) (b : Bool) (hb : bs.getD k false = b) (hk : k < N) : w.cell? ⟨g, k, none⟩ = some (.bool b) := by
  subst hb
  exact h.cell hN k hk
end Go.Proofs.YtcnfmkhjhffebaaDoor
