/- An engine that is built in a variable, and handed out of it: where slots and marks lie beside the variable and the result (Out4, OutV, eng_out). -/
import Derived.Test.YtegolecdmpikhaaPackG
namespace Go.Proofs.Ytegolecdmpikhaa
open Go.RowKit

/-- what was made in blocks from b4 on, up to world w4, lies off V and R -/
structure Out4 (W wA : World) (V R : Nat) (w4 : World) (b4 : Nat) : Prop where
  f : Fresh w4 wA
  lo : W.heap.size ≤ b4
  r : R < b4
  v : V < b4 ∨ w4.heap.size ≤ V
/-- the variable, as it was made -/
structure OutV (W w : World) (V n R : Nat) : Prop where
  blk : w.heap[V]? = some (.cells #[.int .i64 0, .slice none 0 0, .slice none 0 0] 29 (0, 0))
  le : W.heap.size ≤ V
  ne : n ≠ V ∧ R ≠ V
theorem OutV.fresh {W w w' : World} {V n R : Nat} (h : OutV W w V n R) (k : Fresh w w') : OutV W w' V n R := ⟨by rw [k.block V (Array.getElem?_eq_some_iff.1 h.blk).1]; exact h.blk, h.le, h.ne⟩
theorem OutV.cells {W w : World} {V n R : Nat} (h : OutV W w V n R) : w.cell? ⟨V, 0, none⟩ = some (.int .i64 0) ∧ w.cell? ⟨V, 1, none⟩ = some (.slice none 0 0) ∧ w.cell? ⟨V, 2, none⟩ = some (.slice none 0 0) ∧ w.frozen? ⟨V, 0, none⟩ = false ∧ w.frozen? ⟨V, 1, none⟩ = false ∧ w.frozen? ⟨V, 2, none⟩ = false :=
  ⟨cell_block h.blk 0 _ rfl, cell_block h.blk 1 _ rfl, cell_block h.blk 2 _ rfl, free_block h.blk 0, free_block h.blk 1, free_block h.blk 2⟩
theorem HeldG.out {W : World} {n R V : Nat} {G : Int} {s t : Value} {w : World} (h : HeldG W n R G s t w) (o : OutV W w V n R) (x y z : Value) : HeldG W n R G s t (((w.setCell ⟨V, 0, none⟩ x).setCell ⟨V, 1, none⟩ y).setCell ⟨V, 2, none⟩ z) := by
  obtain ⟨a, b, c, hr⟩ := h.res
  exact ⟨heap_set_other (heap_set_other (heap_set_other h.box o.ne.1 _) o.ne.1 _) o.ne.1 _, fresh_set (fresh_set (fresh_set h.el o.le _ _) o.le _ _) o.le _ _, ⟨a, b, c, heap_set_other (heap_set_other (heap_set_other hr o.ne.2 _) o.ne.2 _) o.ne.2 _⟩, h.le⟩
/-- a variable that is made now -/
theorem outV_new {W w w6 : World} {n R : Nat} (hb : w6.heap[w.heap.size]? = some (.cells #[.int .i64 0, .slice none 0 0, .slice none 0 0] 29 (0, 0))) (f : Fresh W w) (hn : n < w.heap.size) (hR : R < w.heap.size) : OutV W w6 w.heap.size n R := ⟨hb, f.size, by omega, by omega⟩
theorem EngNew.sets {base : Nat} {w : World} {v : Value} {E : Eng} (h : EngNew base w v E) {R : Nat} (hR : R < base) (x y z : Value) : EngNew base (((w.setCell ⟨R, 0, none⟩ x).setCell ⟨R, 1, none⟩ y).setCell ⟨R, 2, none⟩ z) v E :=
  fun w' hw => h w' fun k hk hl => by
    rw [hw k hk (by simpa [World.setCell] using hl), heap_setCell_other _ ⟨R, 2, none⟩ k z (by show k ≠ R; omega), heap_setCell_other _ ⟨R, 1, none⟩ k y (by show k ≠ R; omega), heap_setCell_other _ ⟨R, 0, none⟩ k x (by show k ≠ R; omega)]
/-- slots and marks that lie beside V and R -/
theorem eng_out {W wA w4 w5 : World} {V R : Nat} {g : Int} {G N c : Nat} {p : Nat → Bool} {ps : List Pc} {x y z x' y' z' : Value} {sa ma : Option Addr} {sc mc b4 b5 : Nat} (hx : g = (G : Int)) (hs : SlotsNew b4 w4 (.agg #[.slice sa c sc]) N c p) (hm : OwnM w5 b5 (.slice ma ps.length mc) ps) (h4 : Out4 W wA V R w4 b4) (h5 : Out4 W wA V R w5 b5) (hl : ps.length ≤ 1048576) (hi : ∀ q ∈ ps, In64 q) :
    EngNew W.heap.size (((((((wA.setCell ⟨V, 0, none⟩ x).setCell ⟨V, 1, none⟩ y).setCell ⟨V, 2, none⟩ z)).setCell ⟨R, 0, none⟩ x').setCell ⟨R, 1, none⟩ y').setCell ⟨R, 2, none⟩ z') (.agg #[.int .i64 g, .slice sa c sc, .slice ma ps.length mc]) ⟨G, N, c, p, ps⟩ := by
  subst hx
  intro w' hw
  have key : ∀ k, W.heap.size ≤ k → k ≠ V → k ≠ R → k < wA.heap.size → w'.heap[k]? = wA.heap[k]? := fun k hk hv hr hl => by
    rw [hw k hk (by simpa [World.setCell] using hl), heap_setCell_other _ ⟨R, 2, none⟩ k z' hr, heap_setCell_other _ ⟨R, 1, none⟩ k y' hr, heap_setCell_other _ ⟨R, 0, none⟩ k x' hr, heap_setCell_other _ ⟨V, 2, none⟩ k z hv, heap_setCell_other _ ⟨V, 1, none⟩ k y hv, heap_setCell_other _ ⟨V, 0, none⟩ k x hv]
  have off : ∀ {w4 b4}, Out4 W wA V R w4 b4 → ∀ k, b4 ≤ k → k < w4.heap.size → w'.heap[k]? = w4.heap[k]? := fun {w4 b4} o k hk hl => by
    have h1 := o.f.size
    have h2 := o.lo
    have h3 := o.r
    rw [key k (by omega) (by rcases o.v with h | h <;> omega) (by omega) (by omega), o.f.block k hl]
  exact ⟨sa, sc, ma, mc, rfl, hs _ (off h4), (hm.turn (off h5)).at hl hi⟩
end Go.Proofs.Ytegolecdmpikhaa
