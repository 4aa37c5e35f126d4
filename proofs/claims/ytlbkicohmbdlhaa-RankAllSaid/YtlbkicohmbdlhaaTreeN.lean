/- New of package tree, as a contract: none of so many bits set, those beyond set; the empty tree where there may be none. -/
import Derived.Test.YtlbkicohmbdlhaaTreeGrow
import Derived.Test.YtlbkicohmbdlhaaTreeB
namespace Go.Proofs.Ytlbkicohmbdlhaa
open Go.RowKit


/-- the start -/
theorem grows_start (w : World) (n : Nat) (f : Nat → List Nat) : Grows w w.heap.size (w.heap.size + 1) n 0 f (.slice none 0 0) ((w.alloc (.cells #[.int .i64 0, .slice none 0 0] 27)).alloc (.cells #[.int .i64 (n : Int), .slice none 0 0] 27)) := by
  have s1 : (w.alloc (.cells #[.int .i64 0, .slice none 0 0] 27)).heap.size = w.heap.size + 1 := by simp
  refine ⟨?_, ?_, ⟨[], rfl, World.ownsRow_nil _ _ _ _, fun i hi => by omega⟩, (((Below.refl _ w).alloc (Nat.le_refl _) _).alloc (by rw [s1]; omega) _)⟩
  · have := heap_alloc_new w (.cells #[.int .i64 0, .slice none 0 0] 27 (0, 0))
    have f2 := fresh_box (w.alloc (.cells #[.int .i64 0, .slice none 0 0] 27)) #[.int .i64 (n : Int), .slice none 0 0] 27
    rw [f2.block w.heap.size (by rw [s1]; omega)]
    exact this
  · have := heap_alloc_new (w.alloc (.cells #[.int .i64 0, .slice none 0 0] 27)) (.cells #[.int .i64 (n : Int), .slice none 0 0] 27 (0, 0))
    rw [s1] at this
    exact this

theorem news_at {w2 : World} {S : Nat} (hs : w2.heap.size = S) (v : Value) (e : TypeId) : ∀ j u, [v][j]? = some u → (w2.alloc (.cells #[v] e)).cell? ((⟨S, 0, none⟩ : Addr).add j) = some u := by
  subst hs
  intro j u hj
  match j, hj with
  | 0, hj => simp at hj; subst hj; simp [Addr.add]
theorem one_slice (a : Option Addr) (n c : Nat) : ∀ u ∈ [Value.slice a n c], u.oneCell' = true := by
  intro u hu; simp at hu; subst hu; rfl
/-- words that were made -/
theorem words_made {w0 wr w1 : World} {ln : Nat} {v : Value} (hown : w1.ownsRow w0.heap.size 48 1 v ln (madeCells (Value.int .u64 0).cells (ln * 1)).toList) (hgrow : wr.grownBy w1 none) : OwnW w1 w0.heap.size v (List.replicate ln 0) ∧ Fresh wr w1 := by
  refine ⟨?_, (Below.refl _ _).grown hgrow (Nat.le_refl _) (fun k hk => by cases hk)⟩
  rw [toList_zeros] at hown
  unfold OwnW
  rw [List.length_replicate]
  exact hown
theorem zero_row (ln : Nat) : W64 (List.replicate ln 0) := by intro u hu; rw [List.eq_of_mem_replicate hu]; decide
/-- a tree whose levels are all there, its value handed over in the result's block -/
theorem Grows.done {w0 : World} {R T n : Nat} {ws : List Nat} {lv : Value} {wr : World} (h : Grows w0 R T n (nLev n) (lvV ws) lv wr) (n1 : 1 ≤ n) (n2 : n ≤ 65536) (hl : Lev n ws) (hR : w0.heap.size ≤ R) (x y : Value) :
    TreeNew w0.heap.size ((wr.setCell ⟨R, 0, none⟩ x).setCell ⟨R, 1, none⟩ y) (.agg #[.int .i64 (n : Int), lv]) n ws ∧ Fresh w0 ((wr.setCell ⟨R, 0, none⟩ x).setCell ⟨R, 1, none⟩ y) := by
  refine ⟨?_, (h.bel.setCell hR _).setCell hR _⟩
  obtain ⟨us, h1, h2, h3⟩ := h.own
  have hs1 := heap_set_same (j := 0) h.res x
  have hs : Stays wr ((wr.setCell ⟨R, 0, none⟩ x).setCell ⟨R, 1, none⟩ y) := (Stays.setCell h.res (by decide) 0 x).trans (Stays.setCell hs1 (by decide) 1 y)
  have hb : lv.ownBlock ≠ some R := by
    intro e
    obtain ⟨c, hc⟩ := own_type h2 R e
    rw [h.res] at hc
    simp at hc
  have h2' := ownsRow_setCell_other (a := ⟨R, 1, none⟩) (ownsRow_setCell_other (a := ⟨R, 0, none⟩) h2 hb x) hb y
  have hh := nLev_in n
  obtain ⟨g, cap, rfl⟩ := own_shape h2 hh.1
  have hgb := World.ownsRow.lt h2' g rfl
  intro w' hw
  refine ⟨n1, n2, hl, _, cap, rfl, fun i hi => ⟨g, 0, us.getD i (.slice none 0 0), rfl, ?_, ?_⟩⟩
  · refine (World.cell?_of_block (hw g hgb.1 hgb.2)).trans ?_
    rw [Nat.zero_add, World.ownsRow.cellAt h2' i (by omega), List.getD_eq_getElem?_getD, List.getElem?_eq_getElem (by omega)]; rfl
  · have hb := nb_words n i n1 n2
    exact (((h3 i hi).stays hs).agree hw).at (lev_lv hl i).1 (by rw [lv_length hl i]; omega)

theorem result_cells {w0 : World} {R T n k : Nat} {f : Nat → List Nat} {lv : Value} {wr : World} (h : Grows w0 R T n k f lv wr) (x y : Value) :
    ((wr.setCell ⟨R, 0, none⟩ x).setCell ⟨R, 1, none⟩ y).cell? ⟨R, 0, none⟩ = some x ∧ ((wr.setCell ⟨R, 0, none⟩ x).setCell ⟨R, 1, none⟩ y).cell? ⟨R, 1, none⟩ = some y := by
  have h1 := heap_set_same (j := 1) (heap_set_same (j := 0) h.res x) y
  exact ⟨cell_block h1 0 x (by simp), cell_block h1 1 y (by simp)⟩

end Go.Proofs.Ytlbkicohmbdlhaa
