/- Trees in variables of a law's own: what is known of them in any later world; what is held over a region that draws. -/
import Derived.Test.YtlbkicohmbdlhaaTreeLaw
namespace Go.Proofs.Ytlbkicohmbdlhaa
open Go.RowKit

/-- a tree in a variable of its own: what is known of it in any later world -/
structure Var (W : World) (T : Nat) (b o cap n L : Nat) (ws : List Nat) : Prop where
  c0 : ∀ w', Fresh W w' → w'.cell? ⟨T, 0, none⟩ = some (.int .i64 (n : Int))
  c1 : ∀ w', Fresh W w' → w'.cell? ⟨T, 1, none⟩ = some (.slice (some ⟨b, o, none⟩) L cap)
  tr : ∀ w', Fresh W w' → TreeAt w' (.agg #[.int .i64 (n : Int), .slice (some ⟨b, o, none⟩) L cap]) n ws
  lv : ∀ w', Fresh W w' → LvAt w' (some ⟨b, o, none⟩) L (lvV ws)
theorem Var.mono {W W' : World} {T b o cap n L : Nat} {ws : List Nat} (h : Var W T b o cap n L ws) (k : Fresh W W') : Var W' T b o cap n L ws :=
  ⟨fun w' h' => h.c0 w' (k.trans h'), fun w' h' => h.c1 w' (k.trans h'), fun w' h' => h.tr w' (k.trans h'), fun w' h' => h.lv w' (k.trans h')⟩
theorem var_of {W : World} {T b o cap n L : Nat} {ws : List Nat} (hL : nLev n = L) (hb : W.heap[T]? = some (.cells #[.int .i64 (n : Int), .slice (some ⟨b, o, none⟩) L cap] 27 (0, 0))) (h : TreeAt W (.agg #[.int .i64 (n : Int), .slice (some ⟨b, o, none⟩) L cap]) n ws) : Var W T b o cap n L ws := by
  have hl : ∀ w', Fresh W w' → w'.heap[T]? = some (.cells #[.int .i64 (n : Int), .slice (some ⟨b, o, none⟩) L cap] 27 (0, 0)) := fun w' hf => by
    rw [hf.block T (Array.getElem?_eq_some_iff.1 hb).1]; exact hb
  subst hL
  obtain ⟨b', o', cap', e, hlv⟩ := h.shape
  obtain ⟨rfl, rfl, rfl⟩ : b = b' ∧ o = o' ∧ cap = cap' := by simpa [and_assoc] using e
  exact ⟨fun w' hf => cell_block (hl w' hf) 0 _ rfl, fun w' hf => cell_block (hl w' hf) 1 _ rfl, fun w' hf => h.fresh hf, fun w' hf => hlv.fresh hf⟩
theorem var_new {w : World} {b o cap n L : Nat} {ws : List Nat} (hL : nLev n = L) (h : TreeAt w (.agg #[.int .i64 (n : Int), .slice (some ⟨b, o, none⟩) L cap]) n ws) : Var (w.alloc (.cells #[.int .i64 (n : Int), .slice (some ⟨b, o, none⟩) L cap] 27)) w.heap.size b o cap n L ws :=
  var_of hL (heap_alloc_new w _) (h.boxed _ _)
/-- where the variable was made ahead of the call -/
theorem var_elder {w1 w2 : World} {U b o cap n L : Nat} {ws : List Nat} {u0 u1 : Value} (hL : nLev n = L) (hU : w1.heap[U]? = some (.cells #[u0, u1] 27 (0, 0))) (k : Fresh w1 w2) (h : TreeNew w1.heap.size w2 (.agg #[.int .i64 (n : Int), .slice (some ⟨b, o, none⟩) L cap]) n ws) :
    Var ((w2.setCell ⟨U, 0, none⟩ (.int .i64 (n : Int))).setCell ⟨U, 1, none⟩ (.slice (some ⟨b, o, none⟩) L cap)) U b o cap n L ws := by
  have hl := (Array.getElem?_eq_some_iff.1 hU).1
  exact var_of hL (two_cells (by rw [k.block U hl]; exact hU) _ _) (h.store hl _ _).at
theorem elder_at {w4 w5 : World} {u0 u1 : Value} (k : Fresh (w4.alloc (.cells #[u0, u1] 27)) w5) : w5.heap[w4.heap.size]? = some (.cells #[u0, u1] 27 (0, 0)) := by
  rw [k.block w4.heap.size (by simp)]; exact heap_alloc_new w4 _
theorem elder_cells {w4 w5 : World} {u0 u1 : Value} (k : Fresh (w4.drew.alloc (.cells #[u0, u1] 27)) w5) : w5.cell? ⟨w4.heap.size, 0, none⟩ = some u0 ∧ w5.cell? ⟨w4.heap.size, 1, none⟩ = some u1 ∧ w5.frozen? ⟨w4.heap.size, 0, none⟩ = false ∧ w5.frozen? ⟨w4.heap.size, 1, none⟩ = false := by
  have h := elder_at (w4 := w4.drew) k
  exact ⟨cell_block h 0 _ rfl, cell_block h 1 _ rfl, free_block h 0, free_block h 1⟩
theorem heldT_drew {W w1 : World} {p q r : Addr} {u v x l : Value} {n : Nat} {ws : List Nat} (a : w1.cell? p = some u) (b : w1.cell? q = some v) (c : w1.cell? r = some x) (d : TreeAt w1 l n ws) (e : Fresh W w1) : w1.drew.cell? p = some u ∧ w1.drew.cell? q = some v ∧ w1.drew.cell? r = some x ∧ TreeAt w1.drew l n ws ∧ Fresh W w1.drew := ⟨a, b, c, d.drew, Below.drew e⟩
theorem heldT_fresh {W w1 w2 : World} {p q r : Addr} {u v x l : Value} {n : Nat} {ws : List Nat} (h : Fresh w1 w2) (s : w1.cell? p = some u ∧ w1.cell? q = some v ∧ w1.cell? r = some x ∧ TreeAt w1 l n ws ∧ Fresh W w1) : w2.cell? p = some u ∧ w2.cell? q = some v ∧ w2.cell? r = some x ∧ TreeAt w2 l n ws ∧ Fresh W w2 :=
  ⟨(h.cell (World.block_lt_of_cell? _ _ s.1)).trans s.1, (h.cell (World.block_lt_of_cell? _ _ s.2.1)).trans s.2.1, (h.cell (World.block_lt_of_cell? _ _ s.2.2.1)).trans s.2.2.1, s.2.2.2.1.fresh h, s.2.2.2.2.trans h⟩
theorem heldT_set {W w1 : World} {p q r : Addr} {u v x l : Value} {n : Nat} {ws : List Nat} (b : W.cell? p = some u ∧ W.cell? q = some v ∧ W.cell? r = some x ∧ TreeAt W l n ws ∧ Fresh W W) {U : Nat} (hU : W.heap.size ≤ U) (y z : Value) (s : w1.cell? p = some u ∧ w1.cell? q = some v ∧ w1.cell? r = some x ∧ TreeAt w1 l n ws ∧ Fresh W w1) : ((w1.setCell ⟨U, 0, none⟩ y).setCell ⟨U, 1, none⟩ z).cell? p = some u ∧ ((w1.setCell ⟨U, 0, none⟩ y).setCell ⟨U, 1, none⟩ z).cell? q = some v ∧ ((w1.setCell ⟨U, 0, none⟩ y).setCell ⟨U, 1, none⟩ z).cell? r = some x ∧ TreeAt ((w1.setCell ⟨U, 0, none⟩ y).setCell ⟨U, 1, none⟩ z) l n ws ∧ Fresh W ((w1.setCell ⟨U, 0, none⟩ y).setCell ⟨U, 1, none⟩ z) :=
  heldT_fresh ((s.2.2.2.2.setCell hU y).setCell hU z) b
theorem heldT_tree {W w1 : World} {p q r : Addr} {u v x l : Value} {n : Nat} {ws : List Nat} (s : w1.cell? p = some u ∧ w1.cell? q = some v ∧ w1.cell? r = some x ∧ TreeAt w1 l n ws ∧ Fresh W w1) : TreeAt w1 l n ws := s.2.2.2.1
end Go.Proofs.Ytlbkicohmbdlhaa
