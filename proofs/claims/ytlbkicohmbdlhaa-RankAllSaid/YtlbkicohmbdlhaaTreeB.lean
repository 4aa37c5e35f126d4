/- What package tree answers where it only reads (Has, FirstZero), as contracts. -/
import Derived.Test.YtlbkicohmbdlhaaTreeA
namespace Go.Proofs.Ytlbkicohmbdlhaa
open Go.RowKit

/-- a tree that is handed over lies in a block of the call's own -/
theorem fresh_box (w : World) (c : Array Value) (t : TypeId) : Fresh w (w.alloc (.cells c t)) := (Below.refl _ _).alloc (Nat.le_refl _) _
theorem fresh_more {w w1 : World} (h : Fresh w w1) (c : Array Value) (t : TypeId) : Fresh w (w1.alloc (.cells c t)) := h.alloc h.size _
theorem fresh_set {w w1 : World} (h : Fresh w w1) {b : Nat} (hb : w.heap.size ≤ b) (j : Nat) (v : Value) : Fresh w (w1.setCell ⟨b, j, none⟩ v) := h.setCell hb v


theorem fresh_drewN {w w1 : World} (h : Fresh w w1) (m : Nat) : Fresh w (w1.drewN m) := h.trans (Fresh.drewN w1 m)

end Go.Proofs.Ytlbkicohmbdlhaa
