/- A tree that a call makes level by level: what is known of its memory (Grows), and what one more level does to it. -/
import Derived.Test.YtpkcihfldmgehaaTreeMem
namespace Go.Proofs.Ytpkcihfldmgehaa
open Go.RowKit

theorem OwnW.fresh {w w' : World} {base : Nat} {v : Value} {ws : List Nat} (h : OwnW w base v ws) (k : Fresh w w') : OwnW w' base v ws := ownsRow_fresh h k

/-- a tree in the making: k levels, as f tells them; R: the result's block, T: its own -/
structure Grows (w0 : World) (R T n k : Nat) (f : Nat → List Nat) (lv : Value) (wr : World) : Prop where
  res : wr.heap[R]? = some (.cells #[.int .i64 0, .slice none 0 0] 45 (0, 0))
  str : wr.heap[T]? = some (.cells #[.int .i64 (n : Int), lv] 45 (0, 0))
  own : ∃ us : List Value, us.length = k ∧ wr.ownsRow w0.heap.size 59 1 lv k us ∧ ∀ i, i < k → OwnW wr w0.heap.size (us.getD i (.slice none 0 0)) (f i)
  bel : Fresh w0 wr
theorem Grows.fresh {w0 : World} {R T n k : Nat} {f : Nat → List Nat} {lv : Value} {wr w' : World} (h : Grows w0 R T n k f lv wr) (hf : Fresh wr w') : Grows w0 R T n k f lv w' := by
  obtain ⟨us, h1, h2, h3⟩ := h.own
  exact ⟨by rw [hf.block R (Array.getElem?_eq_some_iff.1 h.res).1]; exact h.res, by rw [hf.block T (Array.getElem?_eq_some_iff.1 h.str).1]; exact h.str, ⟨us, h1, ownsRow_fresh h2 hf, fun i hi => (h3 i hi).fresh hf⟩, h.bel.trans hf⟩
theorem Grows.cellT {w0 : World} {R T n k : Nat} {f : Nat → List Nat} {lv : Value} {wr : World} (h : Grows w0 R T n k f lv wr) : wr.cell? ⟨T, 1, none⟩ = some lv := cell_block h.str 1 lv rfl
theorem Grows.cellN {w0 : World} {R T n k : Nat} {f : Nat → List Nat} {lv : Value} {wr : World} (h : Grows w0 R T n k f lv wr) : wr.cell? ⟨T, 0, none⟩ = some (.int .i64 (n : Int)) := cell_block h.str 0 _ rfl
theorem Grows.freeT {w0 : World} {R T n k : Nat} {f : Nat → List Nat} {lv : Value} {wr : World} (h : Grows w0 R T n k f lv wr) (j : Nat) : wr.frozen? ⟨T, j, none⟩ = false := free_block h.str j
theorem Grows.freeR {w0 : World} {R T n k : Nat} {f : Nat → List Nat} {lv : Value} {wr : World} (h : Grows w0 R T n k f lv wr) (j : Nat) : wr.frozen? ⟨R, j, none⟩ = false := free_block h.res j
theorem Grows.cellR0 {w0 : World} {R T n k : Nat} {f : Nat → List Nat} {lv : Value} {wr : World} (h : Grows w0 R T n k f lv wr) : wr.cell? ⟨R, 0, none⟩ = some (.int .i64 0) := cell_block h.res 0 _ rfl
theorem Grows.cellR1 {w0 : World} {R T n k : Nat} {f : Nat → List Nat} {lv : Value} {wr : World} (h : Grows w0 R T n k f lv wr) : wr.cell? ⟨R, 1, none⟩ = some (.slice none 0 0) := cell_block h.res 1 _ rfl
theorem Grows.ltT {w0 : World} {R T n k : Nat} {f : Nat → List Nat} {lv : Value} {wr : World} (h : Grows w0 R T n k f lv wr) : T < wr.heap.size := (Array.getElem?_eq_some_iff.1 h.str).1
theorem Grows.ltR {w0 : World} {R T n k : Nat} {f : Nat → List Nat} {lv : Value} {wr : World} (h : Grows w0 R T n k f lv wr) : R < wr.heap.size := (Array.getElem?_eq_some_iff.1 h.res).1
theorem block_grown {w w' : World} {row : Option Nat} {b : Nat} {c : Array Value} {t : TypeId} (hb : w.heap[b]? = some (.cells c t (0, 0))) (hg : w.grownBy w' row) (hr : ∀ k, row = some k → ∃ c' t', w.heap[k]? = some (.cells c' t' (0, 0)) ∧ t' ≠ t) : w'.heap[b]? = some (.cells c t (0, 0)) := by
  rw [hg.block b (Array.getElem?_eq_some_iff.1 hb).1, hb]
  rintro e
  obtain ⟨c', t', h1, h2⟩ := hr b e.symm
  rw [hb] at h1
  simp at h1
  exact h2 h1.2.symm
/-- what an append leaves: the levels, one more -/
theorem Grows.append {w0 : World} {R T n k : Nat} {f : Nat → List Nat} {lv lv' u : Value} {w2 w3 : World} {us : List Value} (h : Grows w0 R T n k f lv w2) (hus : us.length = k) (hrows : ∀ i, i < k → OwnW w2 w0.heap.size (us.getD i (.slice none 0 0)) (f i)) (hlv : w2.ownsRow w0.heap.size 59 1 lv k us)
    (hu : OwnW w2 w0.heap.size u (f k)) (hown : w3.ownsRow w0.heap.size 59 1 lv' (k + 1) (us ++ [u])) (hgrow : w2.grownBy w3 lv.ownBlock) :
    w3.heap[R]? = some (.cells #[.int .i64 0, .slice none 0 0] 45 (0, 0)) ∧ w3.heap[T]? = some (.cells #[.int .i64 (n : Int), lv] 45 (0, 0)) ∧ (∀ i, i < k + 1 → OwnW w3 w0.heap.size ((us ++ [u]).getD i (.slice none 0 0)) (f i)) ∧ Fresh w0 w3 := by
  have hr : ∀ j, lv.ownBlock = some j → ∃ c' t', w2.heap[j]? = some (.cells c' t' (0, 0)) ∧ t' ≠ 45 := fun j hj => by
    obtain ⟨c, hc⟩ := own_type hlv j hj
    exact ⟨c, _, hc, by decide⟩
  have hs : Stays w2 w3 := Stays.grown hgrow fun j hj => by
    obtain ⟨c, hc⟩ := own_type hlv j hj
    exact ⟨c, _, _, hc, by decide⟩
  refine ⟨block_grown h.res hgrow hr, block_grown h.str hgrow hr, fun i hi => ?_, h.bel.grown hgrow h.bel.size fun j hj => (World.ownsRow.lt hlv j hj).1⟩
  rcases Nat.lt_or_ge i k with hk | hk
  · have e : (us ++ [u]).getD i (.slice none 0 0) = us.getD i (.slice none 0 0) := by
      rw [List.getD_eq_getElem?_getD, List.getElem?_append_left (by omega), List.getD_eq_getElem?_getD]
    rw [e]
    exact (hrows i hk).stays hs
  · obtain rfl : i = k := by omega
    have e : (us ++ [u]).getD i (.slice none 0 0) = u := by
      rw [List.getD_eq_getElem?_getD, List.getElem?_append_right (by omega), hus, Nat.sub_self]; rfl
    rw [e]
    exact hu.stays hs
/-- and the field is written -/
theorem Grows.store {w0 : World} {R T n k : Nat} {f : Nat → List Nat} {lv lv' : Value} {w3 : World} {us : List Value} (hR : R ≠ T) (hT : w0.heap.size ≤ T) (hus : us.length = k)
    (h1 : w3.heap[R]? = some (.cells #[.int .i64 0, .slice none 0 0] 45 (0, 0))) (h2 : w3.heap[T]? = some (.cells #[.int .i64 (n : Int), lv] 45 (0, 0))) (h3 : w3.ownsRow w0.heap.size 59 1 lv' k us) (h4 : ∀ i, i < k → OwnW w3 w0.heap.size (us.getD i (.slice none 0 0)) (f i)) (h5 : Fresh w0 w3) :
    Grows w0 R T n k f lv' (w3.setCell ⟨T, 1, none⟩ lv') := by
  refine ⟨heap_set_other h1 hR _, heap_set_same h2 _, ⟨us, hus, ?_, fun i hi => ?_⟩, h5.setCell hT _⟩
  · refine ownsRow_setCell_other h3 ?_ _
    intro e
    obtain ⟨c, hc⟩ := own_type h3 T e
    rw [h2] at hc
    simp at hc
  · exact (h4 i hi).stays (Stays.setCell h2 (by decide) 1 lv')
/-- a tree whose levels are all there -/
theorem Grows.at {w0 : World} {R T n : Nat} {ws : List Nat} {lv : Value} {wr : World} (h : Grows w0 R T n (nLev n) (lvV ws) lv wr) (n1 : 1 ≤ n) (n2 : n ≤ 65536) (hl : Lev n ws) : TreeAt wr (.agg #[.int .i64 (n : Int), lv]) n ws := by
  obtain ⟨us, h1, h2, h3⟩ := h.own
  have hh := nLev_in n
  obtain ⟨g, cap, rfl⟩ := own_shape h2 hh.1
  refine ⟨n1, n2, hl, _, cap, rfl, fun i hi => ⟨g, 0, us.getD i (.slice none 0 0), rfl, ?_, ?_⟩⟩
  · rw [Nat.zero_add, World.ownsRow.cellAt h2 i (by omega), List.getD_eq_getElem?_getD, List.getElem?_eq_getElem (by omega)]; rfl
  · have hb := nb_words n i n1 n2
    exact (h3 i hi).at (lev_lv hl i).1 (by rw [lv_length hl i]; omega)
end Go.Proofs.Ytpkcihfldmgehaa
