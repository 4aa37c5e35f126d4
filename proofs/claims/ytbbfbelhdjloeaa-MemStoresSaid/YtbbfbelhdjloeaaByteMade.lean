/- Bytes that are made: so many noughts. -/
import Derived.Test.YtbbfbelhdjloeaaByteIn
import Derived.Deep.OwnRows
namespace Go.Proofs.Ytbbfbelhdjloeaa
open Go.RowKit

theorem toList_noughts (q : Nat) : (madeCells #[Value.int .u8 0] q).toList = yvals (List.replicate q 0) := by
  unfold yvals
  rw [List.map_replicate]
  have h := toList_madeCells_one (Value.int .u8 0) q
  simpa using h
theorem zeros_run (q : Nat) (h : q ≤ 1048576) (w : World) : (Instr.makeSlice 22 (.int .i64 (q : Int)) (.int .i64 (q : Int))).run Try.prog w = .ok (.slice (some ⟨w.heap.size, 0, none⟩) q q) (w.alloc (.cells (madeCells #[.int .u8 0] q) 5)) :=
  run_make_row' (P := Try.prog) 22 5 (.int .u8 0) 1 Try.underlying22 infoByte rfl .i64 .i64 q (by omega) (by omega) w
theorem zeros_made (q : Nat) (h : q ≤ 1048576) (w : World) : OwnY (w.alloc (.cells (madeCells #[.int .u8 0] q) 5)) w.heap.size (.slice (some ⟨w.heap.size, 0, none⟩) q q) (List.replicate q 0) := by
  have e := toList_noughts q
  have hl : (madeCells #[Value.int .u8 0] q).size = q := by rw [← Array.length_toList, e, yvals_length, List.length_replicate]
  refine ⟨by rw [yvals_length, Nat.mul_one], .inr ⟨w.heap.size, q, madeCells #[.int .u8 0] q, by rw [List.length_replicate], Nat.le_refl _, heap_alloc_new w _, by rw [List.length_replicate]; exact Nat.le_refl _, by unfold maxLen; omega, by rw [hl, Nat.mul_one], ?_⟩⟩
  rw [e, List.length_replicate, Nat.mul_one]
  exact List.take_of_length_le (by rw [yvals_length, List.length_replicate]; exact Nat.le_refl _)
end Go.Proofs.Ytbbfbelhdjloeaa
