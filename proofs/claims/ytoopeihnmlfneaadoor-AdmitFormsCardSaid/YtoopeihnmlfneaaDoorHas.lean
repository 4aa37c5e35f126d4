/- The cells of a block that holds a request, or what there is; carried into worlds that have grown. -/
import Derived.Test.YtoopeihnmlfneaaDoorConfMath
namespace Go.Proofs.YtoopeihnmlfneaaDoor
open Go.RowKit

/-- the cells of a block that holds what there is -/
def HasC (w : World) (n o : Nat) (c : Cf) : Prop :=
  w.cell? ⟨n, o, none⟩ = some (.int .i64 c.g) ∧ w.cell? ⟨n, o + 1, none⟩ = some (.int .i64 c.n) ∧ w.cell? ⟨n, o + 2, none⟩ = some (.int .i64 c.m) ∧ w.cell? ⟨n, o + 3, none⟩ = some (.int .i64 c.l) ∧ w.cell? ⟨n, o + 4, none⟩ = some (.int .i64 c.pg) ∧ w.cell? ⟨n, o + 5, none⟩ = some (.int .i64 c.p) ∧ w.cell? ⟨n, o + 6, none⟩ = some (.int .i64 c.h) ∧ w.cell? ⟨n, o + 7, none⟩ = some (.int .i64 c.se)
theorem HasC.kept {w w' : World} {n o : Nat} {c : Cf} (h : HasC w n o c) (k : Kept w w') : HasC w' n o c := by
  obtain ⟨h0, h1, h2, h3, h4, h5, h6, h7⟩ := h
  exact ⟨k.cell h0, k.cell h1, k.cell h2, k.cell h3, k.cell h4, k.cell h5, k.cell h6, k.cell h7⟩
theorem HasC.made (w : World) (c : Cf) (t : TypeId) : HasC (w.alloc (c.obj t)) w.heap.size 0 c := by
  unfold HasC
  simp [Cf.obj]

/-- and of one that holds what is asked for -/
def HasR (w : World) (n o : Nat) (r : Rw) : Prop :=
  w.cell? ⟨n, o, none⟩ = some (.int .i64 r.g) ∧ w.cell? ⟨n, o + 1, none⟩ = some (.int .i64 r.la) ∧ w.cell? ⟨n, o + 2, none⟩ = some (.int .i64 r.li) ∧ w.cell? ⟨n, o + 3, none⟩ = some (.int .i64 r.pg) ∧ w.cell? ⟨n, o + 4, none⟩ = some (.int .i64 r.bu) ∧ w.cell? ⟨n, o + 5, none⟩ = some (.int .i64 r.se)
theorem HasR.kept {w w' : World} {n o : Nat} {r : Rw} (h : HasR w n o r) (k : Kept w w') : HasR w' n o r := by
  obtain ⟨h0, h1, h2, h3, h4, h5⟩ := h
  exact ⟨k.cell h0, k.cell h1, k.cell h2, k.cell h3, k.cell h4, k.cell h5⟩
theorem HasR.made (w : World) (r : Rw) (t : TypeId) : HasR (w.alloc (r.obj t)) w.heap.size 0 r := by
  unfold HasR
  simp [Rw.obj]
end Go.Proofs.YtoopeihnmlfneaaDoor
