/- What the document's own Of makes (hodmanref8.Of): slots of granules that are live, as a contract. -/
import Derived.Test.YtpkcihfldmgehaaRefSlotsA
namespace Go.Proofs.Ytpkcihfldmgehaa
open Go.RowKit

/-- bits that lie in blocks from lo to hi -/
def BitsIn (lo hi : Nat) (w : World) (v : Value) (bs : List Bool) : Prop := ∀ w' : World, (∀ k, lo ≤ k → k < hi → w'.heap[k]? = w.heap[k]?) → BoolsAt w' v bs
theorem BitsIn.at {lo hi : Nat} {w : World} {v : Value} {bs : List Bool} (h : BitsIn lo hi w v bs) : BoolsAt w v bs := h w fun _ _ _ => rfl
theorem BitsIn.beside {lo hi : Nat} {w w1 : World} {v : Value} {bs : List Bool} (h : BitsIn lo hi w v bs) (hk : ∀ k, lo ≤ k → k < hi → w1.heap[k]? = w.heap[k]?) : BitsIn lo hi w1 v bs :=
  fun w' hw => h w' fun i h1 h2 => (hw i h1 h2).trans (hk i h1 h2)
theorem BitsIn.fresh {lo hi : Nat} {w w1 : World} {v : Value} {bs : List Bool} (h : BitsIn lo hi w v bs) (hs : hi ≤ w.heap.size) (k : Fresh w w1) : BitsIn lo hi w1 v bs :=
  h.beside fun i _ h2 => k.block i (Nat.lt_of_lt_of_le h2 hs)
theorem BoolsAt.in {w : World} {v : Value} {bs : List Bool} (h : BoolsAt w v bs) : BitsIn 0 w.heap.size w v bs := by
  intro w' hw
  obtain ⟨a, cap, rfl, hc⟩ := h
  refine ⟨a, cap, rfl, fun i hi => ?_⟩
  obtain ⟨b, o, e, hcell⟩ := hc i hi
  have hb : b < w.heap.size := World.block_lt_of_cell? _ _ hcell
  exact ⟨b, o, e, (World.cell?_of_block (w := w) (hw b (Nat.zero_le _) hb)).trans hcell⟩
theorem OwnB.in {w : World} {base : Nat} {v : Value} {bs : List Bool} (h : OwnB w base v bs) : BitsIn base w.heap.size w v bs := by
  intro w' hw
  refine OwnB.at (base := base) ⟨h.1, ?_⟩
  rcases h.2 with hn | ⟨g, cap, cur, rfl, hb, hg, rest⟩
  · exact .inl hn
  · exact .inr ⟨g, cap, cur, rfl, hb, by rw [hw g hb (Array.getElem?_eq_some_iff.1 hg).1]; exact hg, rest⟩
theorem box_next (w : World) (c : Array Value) (t : TypeId) {p : World → Prop} (h : ∀ w5, w5 = w.alloc (.cells c t) → p w5) : p (w.alloc (.cells c t)) := h _ rfl
theorem two_news (w : World) (x y : Value) (t : TypeId) : ∀ j u, [x, y][j]? = some u → (w.alloc (.cells #[x, y] t)).cell? ((⟨w.heap.size, 0, none⟩ : Addr).add j) = some u := by
  intro j u hu
  have hb := heap_alloc_new w (.cells #[x, y] t (0, 0))
  rw [Go.WideShapes.add_plain, Nat.zero_add]
  match j, hu with
  | 0, hu => exact cell_block hb 0 _ hu
  | 1, hu => exact cell_block hb 1 _ hu
  | j + 2, hu => simp at hu
/-- halves, told so far -/
def Halves (p : Nat → Bool) (k m j : Nat) (hs : List Bool) : Prop := hs.length = m ∧ ∀ t, t < j → hs.getD t false = clsB p (k + 1) t
theorem halves_step {p : Nat → Bool} {k m j : Nat} {hs : List Bool} (h : Halves p k m j hs) (hj : j < m) (b : Bool) (hb : clsB p (k + 1) j = b) : Halves p k m (j + 1) (hs.set j b) := by
  refine ⟨by rw [List.length_set]; exact h.1, fun t ht => ?_⟩
  by_cases e : t = j
  · subst e
    rw [hb]
    simp [List.getD_eq_getElem?_getD, show t < hs.length by rw [h.1]; exact hj]
  · have := h.2 t (by omega)
    rw [← this]
    simp [List.getD_eq_getElem?_getD, List.getElem?_set_ne (fun e' => e e'.symm)]
/-- where Of stands behind k classes -/
structure Stage (w : World) (R S B N : Nat) (p : Nat → Bool) (k : Nat) (bv lv : Value) (cs : List Bool) (wr : World) : Prop where
  bits : ∃ lo hi, BitsIn lo hi wr bv cs ∧ hi ≤ wr.heap.size ∧ (S < lo ∨ hi ≤ S) ∧ ∀ g, lv.ownBlock = some g → g < lo ∨ hi ≤ g
  len : cs.length = N / 2 ^ k
  are : ∀ j, j < N / 2 ^ k → cs.getD j false = clsB p k j
  grow : GrowS w B S k (fun k => N / 2 ^ k) (trW N p) lv wr
  res : wr.heap[R]? = some (.cells #[.slice none 0 0] 26 (0, 0))
theorem Stage.fresh {w : World} {R S B N : Nat} {p : Nat → Bool} {k : Nat} {bv lv : Value} {cs : List Bool} {wr w' : World} (h : Stage w R S B N p k bv lv cs wr) (f : Fresh wr w') : Stage w R S B N p k bv lv cs w' :=
  ⟨(let ⟨lo, hi, h1, h2, h3, h4⟩ := h.bits; ⟨lo, hi, h1.fresh h2 f, Nat.le_trans h2 f.size, h3, h4⟩), h.len, h.are, h.grow.fresh f, by rw [f.block R (Array.getElem?_eq_some_iff.1 h.res).1]; exact h.res⟩
theorem Stage.cell {w : World} {R S B N : Nat} {p : Nat → Bool} {k : Nat} {bv lv : Value} {cs : List Bool} {wr : World} (h : Stage w R S B N p k bv lv cs wr) : wr.cell? ⟨S, 0, none⟩ = some lv ∧ wr.frozen? ⟨S, 0, none⟩ = false ∧ wr.cell? ⟨R, 0, none⟩ = some (.slice none 0 0) ∧ wr.frozen? ⟨R, 0, none⟩ = false :=
  ⟨cell_block h.grow.var 0 _ rfl, free_block h.grow.var 0, cell_block h.res 0 _ rfl, free_block h.res 0⟩
/-- one class more: w3: the tree is made; w4: it lies in a block; w5: it is appended -/
theorem Stage.push {w : World} {R S B N : Nat} {p : Nat → Bool} {k : Nat} {bv lv lv' x : Value} {cs : List Bool} {wd w3 w5 : World} {us : List Value} (hRS : R ≠ S) (hR : R < B)
    (h : Stage w R S B N p k bv lv cs wd) (ht : TreeNew wd.heap.size w3 (.agg #[.int .i64 ((N / 2 ^ k : Nat) : Int), x]) (N / 2 ^ k) (trW N p k)) (hf : Fresh wd w3)
    (hus : wd.ownsRow B 45 2 lv k us) (hold : ∀ i, i < k → ∃ x lo hi, us[i * 2]? = some (.int .i64 ((N / 2 ^ i : Nat) : Int)) ∧ us[i * 2 + 1]? = some x ∧ TreeIn lo hi wd (.agg #[.int .i64 ((N / 2 ^ i : Nat) : Int), x]) (N / 2 ^ i) (trW N p i) ∧ B ≤ lo ∧ hi ≤ wd.heap.size ∧ ∀ g, lv.ownBlock = some g → g < lo ∨ hi ≤ g)
    (hown : w5.ownsRow B 45 2 lv' (k + 1) (us ++ [.int .i64 ((N / 2 ^ k : Nat) : Int), x])) (hgrow : (w3.alloc (.cells #[.int .i64 ((N / 2 ^ k : Nat) : Int), x] 45)).grownBy w5 lv.ownBlock) (hloc : lv'.ownBlock = lv.ownBlock ∨ lv'.ownBlock = some (w3.alloc (.cells #[.int .i64 ((N / 2 ^ k : Nat) : Int), x] 45)).heap.size) :
    GrowS w B S (k + 1) (fun k => N / 2 ^ k) (trW N p) lv' (w5.setCell ⟨S, 0, none⟩ lv') ∧ (w5.setCell ⟨S, 0, none⟩ lv').heap[R]? = some (.cells #[.slice none 0 0] 26 (0, 0)) ∧ BoolsAt (w5.setCell ⟨S, 0, none⟩ lv') bv cs ∧ w5.cell? ⟨S, 0, none⟩ = some lv ∧ w5.frozen? ⟨S, 0, none⟩ = false := by
  have f4 : Fresh wd (w3.alloc (.cells #[.int .i64 ((N / 2 ^ k : Nat) : Int), x] 45)) := fresh_more hf _ _
  have hb : ∀ g, lv.ownBlock = some g → B ≤ g ∧ g < wd.heap.size := fun g hg => by
    rcases hus.2 with ⟨rfl, _⟩ | ⟨g', cap, cur, rfl, hb, hgg, _⟩
    · cases hg
    · have : g' = g := by simpa [Value.ownBlock] using hg
      subst this
      exact ⟨hb, (Array.getElem?_eq_some_iff.1 hgg).1⟩
  have hSB : S < B := h.grow.lt.2.1
  have kept : ∀ i, i < wd.heap.size → (∀ g, lv.ownBlock = some g → i ≠ g) → w5.heap[i]? = wd.heap[i]? := fun i hi hne => by
    rw [hgrow.block i (Nat.lt_of_lt_of_le hi f4.size) (fun e => hne i e.symm rfl), f4.block i hi]
  have hsv : w5.heap[S]? = some (.cells #[lv] 26 (0, 0)) := by
    rw [kept S (Array.getElem?_eq_some_iff.1 h.grow.var).1 (fun g hg e => by have := hb g hg; omega)]; exact h.grow.var
  refine ⟨?_, ?_, ?_, cell_block hsv 0 _ rfl, free_block hsv 0⟩
  · refine h.grow.push (ownsRow_fresh hus f4) (fun i hi => ?_) (lo := wd.heap.size) (hi := w3.heap.size) (ht.in.beside fun j _ j2 => (fresh_box w3 _ _).block j j2) h.grow.lt.2.2 (by simp) (fun g hg => .inl (hb g hg).2) f4 hown hgrow hloc
    obtain ⟨y, lo, hi', c0, c1, t, l1, l2, l3⟩ := hold i hi
    exact ⟨y, lo, hi', c0, c1, t.fresh l2 f4, l1, Nat.le_trans l2 f4.size, l3⟩
  · rw [heap_setCell_other w5 ⟨S, 0, none⟩ R lv' hRS, kept R (Array.getElem?_eq_some_iff.1 h.res).1 (fun g hg e => by have := hb g hg; omega)]
    exact h.res
  · obtain ⟨lo, hi, h1, h2, h3, h4⟩ := h.bits
    refine h1 _ fun i i1 i2 => ?_
    rw [heap_setCell_other w5 ⟨S, 0, none⟩ i lv' (by show i ≠ S; omega)]
    exact kept i (by omega) fun g hg e => by rcases h4 g hg with h | h <;> omega
end Go.Proofs.Ytpkcihfldmgehaa
