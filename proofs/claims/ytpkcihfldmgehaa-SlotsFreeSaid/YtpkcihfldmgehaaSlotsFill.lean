/- A row of trees that is filled, one after the other (FillS): the landed code's New and Use make one. -/
import Derived.Test.YtpkcihfldmgehaaSlotsMem
namespace Go.Proofs.Ytpkcihfldmgehaa
open Go.RowKit

/-- V: the block that holds the row; g: the row's block; k trees of c are there -/
structure FillS (W : World) (V g c k : Nat) (ns : Nat → Nat) (f : Nat → List Nat) (w : World) : Prop where
  var : w.heap[V]? = some (.cells #[.slice (some ⟨g, 0, none⟩) c c] 26 (0, 0))
  own : ∃ us : List Value, w.ownsRow W.heap.size 45 2 (.slice (some ⟨g, 0, none⟩) c c) c us ∧ ∀ i, i < k → ∃ x lo hi, us[i * 2]? = some (.int .i64 ((ns i : Nat) : Int)) ∧ us[i * 2 + 1]? = some x ∧ TreeIn lo hi w (.agg #[.int .i64 ((ns i : Nat) : Int), x]) (ns i) (f i) ∧ V < lo ∧ hi ≤ w.heap.size
  el : Fresh W w
  lt : W.heap.size ≤ g ∧ g < V
theorem FillS.fresh {W : World} {V g c k : Nat} {ns : Nat → Nat} {f : Nat → List Nat} {w w' : World} (h : FillS W V g c k ns f w) (j : Fresh w w') : FillS W V g c k ns f w' := by
  obtain ⟨us, h1, h2⟩ := h.own
  refine ⟨by rw [j.block V (Array.getElem?_eq_some_iff.1 h.var).1]; exact h.var, ⟨us, ownsRow_fresh h1 j, fun i hi => ?_⟩, h.el.trans j, h.lt⟩
  obtain ⟨x, lo, hi', c0, c1, t, l1, l2⟩ := h2 i hi
  exact ⟨x, lo, hi', c0, c1, t.fresh l2 j, l1, Nat.le_trans l2 j.size⟩
theorem FillS.cell {W : World} {V g c k : Nat} {ns : Nat → Nat} {f : Nat → List Nat} {w : World} (h : FillS W V g c k ns f w) : w.cell? ⟨V, 0, none⟩ = some (.slice (some ⟨g, 0, none⟩) c c) := cell_block h.var 0 _ rfl
/-- a place of the row: there, and free to be stored into -/
theorem FillS.place {W : World} {V g c k : Nat} {ns : Nat → Nat} {f : Nat → List Nat} {w : World} (h : FillS W V g c k ns f w) (i : Nat) (hi : i < c) : (∃ x y, w.cell? ⟨g, i * 2, none⟩ = some x ∧ w.cell? ⟨g, i * 2 + 1, none⟩ = some y) ∧ (∀ j, w.frozen? ⟨g, j, none⟩ = false) := by
  obtain ⟨us, h1, h2⟩ := h.own
  have hl : us.length = c * 2 := h1.1
  refine ⟨⟨us[i * 2]'(by omega), us[i * 2 + 1]'(by omega), ?_, ?_⟩, World.ownsRow.frozenAt h1⟩
  · rw [World.ownsRow.cellAt h1 (i * 2) (by omega)]; exact List.getElem?_eq_getElem _
  · rw [World.ownsRow.cellAt h1 (i * 2 + 1) (by omega)]; exact List.getElem?_eq_getElem _
/-- a tree of the row -/
theorem FillS.tree {W : World} {V g c k : Nat} {ns : Nat → Nat} {f : Nat → List Nat} {w : World} (h : FillS W V g c k ns f w) (hk : k ≤ c) (i : Nat) (hi : i < k) : ∃ x, w.cell? ⟨g, i * 2, none⟩ = some (.int .i64 ((ns i : Nat) : Int)) ∧ w.cell? ⟨g, i * 2 + 1, none⟩ = some x ∧ TreeAt w (.agg #[.int .i64 ((ns i : Nat) : Int), x]) (ns i) (f i) := by
  obtain ⟨us, h1, h2⟩ := h.own
  obtain ⟨x, lo, hi', c0, c1, t, l1, l2⟩ := h2 i hi
  exact ⟨x, by rw [World.ownsRow.cellAt h1 (i * 2) (by omega)]; exact c0, by rw [World.ownsRow.cellAt h1 (i * 2 + 1) (by omega)]; exact c1, t.at⟩
/-- one more tree: w: ahead of the call that made it; w1: behind it -/
theorem FillS.put {W : World} {V g c k : Nat} {ns : Nat → Nat} {f : Nat → List Nat} {w w1 : World} {x : Value} (h : FillS W V g c k ns f w) (hk : k < c) (hf : Fresh w w1)
    (ht : TreeNew w.heap.size w1 (.agg #[.int .i64 ((ns k : Nat) : Int), x]) (ns k) (f k)) :
    FillS W V g c (k + 1) ns f ((w1.setCell ⟨g, k * 2, none⟩ (.int .i64 ((ns k : Nat) : Int))).setCell ⟨g, k * 2 + 1, none⟩ x) := by
  have h1 := h.fresh hf
  obtain ⟨us, o1, o2⟩ := h1.own
  have hul : us.length = c * 2 := o1.1
  have hV : V < w.heap.size := (Array.getElem?_eq_some_iff.1 h.var).1
  have hVg : V ≠ g := by have := h.lt; omega
  have o3 := (World.ownsRow.stored (World.ownsRow.stored o1 (k * 2) (.int .i64 ((ns k : Nat) : Int))).1 (k * 2 + 1) x).1
  have keep : ∀ i, i ≠ g → ((w1.setCell ⟨g, k * 2, none⟩ (.int .i64 ((ns k : Nat) : Int))).setCell ⟨g, k * 2 + 1, none⟩ x).heap[i]? = w1.heap[i]? := fun i hi => by
    rw [heap_setCell_other _ ⟨g, k * 2 + 1, none⟩ i x hi, heap_setCell_other _ ⟨g, k * 2, none⟩ i _ hi]
  have hsz : ((w1.setCell ⟨g, k * 2, none⟩ (.int .i64 ((ns k : Nat) : Int))).setCell ⟨g, k * 2 + 1, none⟩ x).heap.size = w1.heap.size := by simp [World.setCell]
  refine ⟨by rw [keep V hVg]; exact h1.var, ⟨_, o3, fun i hi => ?_⟩, fresh_set (fresh_set h1.el h.lt.1 _ _) h.lt.1 _ _, h.lt⟩
  by_cases e : i = k
  · subst e
    refine ⟨x, w.heap.size, w1.heap.size, ?_, ?_, ht.in.beside (fun j j1 _ => keep j (by have := h.lt; omega)), hV, by rw [hsz]; exact Nat.le_refl _⟩
    · rw [List.getElem?_set_ne (by omega), List.getElem?_set_self (by omega)]
    · rw [List.getElem?_set_self (by simp; omega)]
  · obtain ⟨y, lo, hi', c0, c1, t, l1, l2⟩ := o2 i (by omega)
    refine ⟨y, lo, hi', ?_, ?_, t.beside (fun j j1 _ => keep j (by have := h.lt; omega)), l1, by rw [hsz]; exact l2⟩
    · rw [List.getElem?_set_ne (by omega), List.getElem?_set_ne (by omega)]; exact c0
    · rw [List.getElem?_set_ne (by omega), List.getElem?_set_ne (by omega)]; exact c1
/-- the row, once it is filled -/
theorem FillS.done {W : World} {V g c N : Nat} {p : Nat → Bool} {w : World} (h : FillS W V g c c (fun k => N / 2 ^ k) (trW N p) w) (hc : Cls N c) : SlotsNew W.heap.size w (.agg #[.slice (some ⟨g, 0, none⟩) c c]) N c p := by
  obtain ⟨us, h1, h2⟩ := h.own
  intro w' hw
  refine ⟨hc, _, c, rfl, Nat.le_refl _, by have := hc.2.1; omega, fun i hi => ?_⟩
  obtain ⟨x, lo, hi', c0, c1, t, l1, l2⟩ := h2 i hi
  obtain ⟨cur, hg⟩ := own_type h1 g rfl
  have hg' : w'.heap[g]? = some (.cells cur 45 (0, 0)) := by rw [hw g h.lt.1 (Array.getElem?_eq_some_iff.1 hg).1]; exact hg
  have hgl := World.ownsRow.cellAt h1 (i * 2) (by omega)
  have hgl1 := World.ownsRow.cellAt h1 (i * 2 + 1) (by omega)
  have e : ∀ j, w'.cell? ⟨g, j, none⟩ = w.cell? ⟨g, j, none⟩ := fun j => by rw [cell_of_row w' g j cur 45 (0, 0) hg', cell_of_row w g j cur 45 (0, 0) hg]
  refine ⟨g, 0, x, rfl, ?_, ?_, t w' fun k k1 k2 => hw k (by have := h.lt; omega) (Nat.lt_of_lt_of_le k2 l2)⟩
  · rw [Nat.zero_add, e, hgl]; exact c0
  · rw [Nat.zero_add, e, hgl1]; exact c1
/-- the start: a row that was made, and a block for it -/
theorem fill_start {W w w1 : World} {c : Nat} {us : List Value} {ns : Nat → Nat} {f : Nat → List Nat} (hf : Fresh W w) (hown : w1.ownsRow w.heap.size 45 2 (.slice (some ⟨w.heap.size, 0, none⟩) c c) c us) (hgrow : w.grownBy w1 none) :
    FillS W w1.heap.size w.heap.size c 0 ns f (w1.alloc (.cells #[.slice (some ⟨w.heap.size, 0, none⟩) c c] 26)) := by
  have f1 : Fresh w w1 := (Below.refl _ _).grown hgrow (Nat.le_refl _) (fun k hk => by cases hk)
  obtain ⟨cur, hg⟩ := own_type hown w.heap.size rfl
  exact ⟨heap_alloc_new w1 _, ⟨us, ownsRow_fresh (ownsRow_mono hown hf.size) (fresh_box _ _ _), fun i hi => by omega⟩, fresh_more (hf.trans f1) _ _, hf.size, (Array.getElem?_eq_some_iff.1 hg).1⟩
end Go.Proofs.Ytpkcihfldmgehaa
