/- Rows of ints in new memory of a call (OwnI), and what becomes of rows of new memory when others are turned. -/
import Derived.Test.YtbbfbelhdjloeaaMem
import Derived.OneCell
namespace Go.Proofs.Ytbbfbelhdjloeaa
open Go.RowKit

/-- numbers as ints -/
def nvals (l : List Nat) : List Value := l.map fun i => .int .i64 ((i : Nat) : Int)
theorem nvals_length (l : List Nat) : (nvals l).length = l.length := by unfold nvals; rw [List.length_map]
theorem nvals_get (l : List Nat) (i : Nat) (hi : i < l.length) : (nvals l)[i]? = some (.int .i64 ((l.getD i 0 : Nat) : Int)) := by
  unfold nvals
  simp [List.getElem?_eq_getElem hi, List.getD_eq_getElem?_getD]
/-- ints in new memory -/
def OwnI (w : World) (base : Nat) (v : Value) (l : List Nat) : Prop := w.ownsRow base 3 1 v l.length (nvals l)
theorem OwnI.nil (w : World) (base : Nat) : OwnI w base (.slice none 0 0) [] := World.ownsRow_nil _ _ _ _
theorem OwnI.fresh {w w' : World} {base : Nat} {v : Value} {l : List Nat} (h : OwnI w base v l) (k : Fresh w w') : OwnI w' base v l := ownsRow_fresh h k
theorem OwnI.mono {w : World} {base base' : Nat} {v : Value} {l : List Nat} (h : OwnI w base v l) (hb : base' ≤ base) : OwnI w base' v l := ownsRow_mono h hb
theorem OwnI.shape {w : World} {base : Nat} {v : Value} {l : List Nat} (h : OwnI w base v l) : ∃ a cap, v = .slice a l.length cap := by
  rcases h.2 with ⟨rfl, hn⟩ | ⟨g, cap, cur, rfl, _⟩
  · exact ⟨none, 0, by rw [hn]⟩
  · exact ⟨_, cap, rfl⟩
theorem OwnI.block {w : World} {base : Nat} {v : Value} {l : List Nat} (h : OwnI w base v l) (i : Nat) (hi : v.ownBlock = some i) : base ≤ i := by
  rcases h.2 with ⟨rfl, _⟩ | ⟨g, cap, cur, rfl, hb, _⟩
  · cases hi
  · have : g = i := by simpa [Value.ownBlock] using hi
    omega
/-- its cells -/
theorem OwnI.cell {w : World} {base : Nat} {a : Option Addr} {n cap : Nat} {l : List Nat} (h : OwnI w base (.slice a n cap) l) (i : Nat) (hi : i < l.length) : ∃ g, a = some ⟨g, 0, none⟩ ∧ w.cell? ⟨g, i, none⟩ = some (.int .i64 ((l.getD i 0 : Nat) : Int)) := by
  have h0 := h
  rcases h.2 with ⟨e, hn⟩ | ⟨g, cap', cur, e, hb, hg, hc⟩
  · omega
  · cases e
    exact ⟨g, rfl, by rw [World.ownsRow.cellAt h0 i (by omega), nvals_get l i hi]⟩
theorem infoInts : (Try.prog.info? 3).map (fun i => (i.zero, i.size, i.bytes)) = some (some (.int .i64 0), 1, 8) := by kernel_rfl
theorem ownI_push {w' : World} {base : Nat} {v' : Value} {l : List Nat} {x : Nat} (hown : w'.ownsRow base 3 1 v' (l.length + 1) (nvals l ++ [.int .i64 ((x : Nat) : Int)])) : OwnI w' base v' (l ++ [x]) := by
  unfold OwnI nvals
  rw [List.map_append, List.length_append]
  exact hown
theorem grown_fresh {w w' : World} (h : Fresh w w') (g : Option Nat) : w.grownBy w' g := ⟨h.os, h.tape, h.output, h.size, fun i hi _ => h.block i hi⟩
theorem grown_cell {w w' : World} {g : Option Nat} (h : w.grownBy w' g) {p : Addr} {v : Value} (hc : w.cell? p = some v) (hp : some p.block ≠ g) : w'.cell? p = some v :=
  (World.cell?_of_block (h.block p.block (World.block_lt_of_cell? _ _ hc) hp)).trans hc
theorem grown_set (w : World) (g k : Nat) (v : Value) : w.grownBy (w.setCell ⟨g, k, none⟩ v) (some g) :=
  ⟨rfl, rfl, rfl, by simp [World.setCell], fun i _ hne => heap_setCell_other w ⟨g, k, none⟩ i v (fun e => hne (by rw [e]))⟩
/-- a row whose block is not turned -/
theorem ownsRow_off {w w' : World} {base : Nat} {e : TypeId} {size : Nat} {v : Value} {n : Nat} {xs : List Value} {g : Option Nat} (h : w.ownsRow base e size v n xs) (k : w.grownBy w' g) (hg : ∀ i, v.ownBlock = some i → some i ≠ g) : w'.ownsRow base e size v n xs := by
  refine ⟨h.1, ?_⟩
  rcases h.2 with hn' | ⟨g', cap, cur, rfl, hb, hc, rest⟩
  · exact .inl hn'
  · refine .inr ⟨g', cap, cur, rfl, hb, ?_, rest⟩
    rw [k.block g' (Array.getElem?_eq_some_iff.1 hc).1 (hg g' rfl)]
    exact hc
/-- rows of two types lie in two blocks -/
theorem own_apart {w : World} {b1 b2 : Nat} {e1 e2 : TypeId} {s1 s2 : Nat} {v1 v2 : Value} {n1 n2 : Nat} {x1 x2 : List Value} (h1 : w.ownsRow b1 e1 s1 v1 n1 x1) (h2 : w.ownsRow b2 e2 s2 v2 n2 x2) (hne : e1 ≠ e2) : ∀ i, v1.ownBlock = some i → some i ≠ v2.ownBlock := by
  intro i hi he
  obtain ⟨c1, g1⟩ := own_type h1 i hi
  obtain ⟨c2, g2⟩ := own_type h2 i he.symm
  rw [g1] at g2
  simp only [Option.some.injEq, Obj.cells.injEq] at g2
  exact hne g2.2.1
end Go.Proofs.Ytbbfbelhdjloeaa
