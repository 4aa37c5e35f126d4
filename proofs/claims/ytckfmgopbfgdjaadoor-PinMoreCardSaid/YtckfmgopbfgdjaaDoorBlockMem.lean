/- Blocks in memory: a slice of blocks that is read (BlocksAt: nil, or a row that begins at a cell), in new memory of a call (OwnK). -/
import Derived.Test.YtckfmgopbfgdjaaDoorPinMath
import Derived.Test.YtckfmgopbfgdjaaDoorMem
import Derived.OneCell
namespace Go.Proofs.YtckfmgopbfgdjaaDoor
open Go.RowKit

/-- the i-th block -/
def bk (bl : List Bk) (i : Nat) : Bk := bl.getD i (0, 0, 0)
theorem bk_mem {bl : List Bk} {i : Nat} (h : i < bl.length) : bk bl i ∈ bl := by
  unfold bk; rw [List.getD_eq_getElem?_getD, List.getElem?_eq_getElem h]; exact List.getElem_mem h
/-- numbers that are small enough -/
def Small (b : Bk) : Prop := b.1 ≤ 1099511627776 ∧ b.2.1 ≤ 1099511627776 ∧ b.2.2 ≤ 1099511627776
/-- a slice of blocks: where they lie -/
def BlocksAt (w : World) (v : Value) (bl : List Bk) : Prop :=
  (∀ p ∈ bl, Small p) ∧ bl.length ≤ 1048576 ∧ ((v = .slice none 0 0 ∧ bl = []) ∨ ∃ b o cap, v = .slice (some ⟨b, o, none⟩) bl.length cap ∧ bl.length ≤ cap ∧ cap ≤ 9223372036854775807 ∧
    ∀ i, i < bl.length → w.cell? ⟨b, o + i * 3, none⟩ = some (.int .i64 ((bk bl i).1 : Int)) ∧ w.cell? ⟨b, o + i * 3 + 1, none⟩ = some (.int .i64 ((bk bl i).2.1 : Int)) ∧ w.cell? ⟨b, o + i * 3 + 2, none⟩ = some (.int .i64 ((bk bl i).2.2 : Int)))
theorem BlocksAt.fresh {w w' : World} {v : Value} {bl : List Bk} (h : BlocksAt w v bl) (k : Fresh w w') : BlocksAt w' v bl := by
  obtain ⟨h1, h2, h3⟩ := h
  refine ⟨h1, h2, ?_⟩
  rcases h3 with h | ⟨b, o, cap, e, h4, h5, hc⟩
  · exact .inl h
  · refine .inr ⟨b, o, cap, e, h4, h5, fun i hi => ?_⟩
    obtain ⟨c0, c1, c2⟩ := hc i hi
    exact ⟨(k.cell (World.block_lt_of_cell? _ _ c0)).trans c0, (k.cell (World.block_lt_of_cell? _ _ c1)).trans c1, (k.cell (World.block_lt_of_cell? _ _ c2)).trans c2⟩
theorem blocksAt_nil (w : World) : BlocksAt w (.slice none 0 0) [] := ⟨fun p hp => by simp at hp, Nat.zero_le _, .inl ⟨rfl, rfl⟩⟩
theorem BlocksAt.shape {w : World} {v : Value} {bl : List Bk} (h : BlocksAt w v bl) : ∃ a cap, v = .slice a bl.length cap := by
  rcases h.2.2 with ⟨rfl, rfl⟩ | ⟨b, o, cap, rfl, _⟩
  · exact ⟨none, 0, rfl⟩
  · exact ⟨_, cap, rfl⟩
/-- the cells of one -/
theorem BlocksAt.cell {w : World} {a : Option Addr} {n cap : Nat} {bl : List Bk} (h : BlocksAt w (.slice a n cap) bl) (i : Nat) (hi : i < bl.length) : ∃ b o, a = some ⟨b, o, none⟩ ∧ w.cell? ⟨b, o + i * 3, none⟩ = some (.int .i64 ((bk bl i).1 : Int)) ∧ w.cell? ⟨b, o + i * 3 + 1, none⟩ = some (.int .i64 ((bk bl i).2.1 : Int)) ∧ w.cell? ⟨b, o + i * 3 + 2, none⟩ = some (.int .i64 ((bk bl i).2.2 : Int)) := by
  rcases h.2.2 with ⟨_, rfl⟩ | ⟨b, o, cap', e, _, _, hc⟩
  · simp at hi
  · cases e
    exact ⟨b, o, rfl, hc i hi⟩
theorem BlocksAt.small {w : World} {v : Value} {bl : List Bk} (h : BlocksAt w v bl) {i : Nat} (hi : i < bl.length) : Small (bk bl i) := h.1 _ (bk_mem hi)

/-- blocks as cells -/
def kvals : List Bk → List Value
  | [] => []
  | p :: r => .int .i64 (p.1 : Int) :: .int .i64 (p.2.1 : Int) :: .int .i64 (p.2.2 : Int) :: kvals r
theorem kvals_length : ∀ bl : List Bk, (kvals bl).length = bl.length * 3
  | [] => rfl
  | p :: r => by simp [kvals, kvals_length r]; omega
theorem kvals_append : ∀ a b : List Bk, kvals (a ++ b) = kvals a ++ kvals b
  | [], b => rfl
  | p :: r, b => by simp [kvals, kvals_append r b]
theorem kvals_one : ∀ (bl : List Bk), ∀ u ∈ kvals bl, u.oneCell' = true
  | [], u, hu => by simp [kvals] at hu
  | p :: r, u, hu => by
    rcases List.mem_cons.1 hu with rfl | hu
    · rfl
    · rcases List.mem_cons.1 hu with rfl | hu
      · rfl
      · rcases List.mem_cons.1 hu with rfl | hu
        · rfl
        · exact kvals_one r u hu
theorem kvals_get : ∀ (bl : List Bk) (i : Nat), i < bl.length → (kvals bl)[i * 3]? = some (.int .i64 ((bk bl i).1 : Int)) ∧ (kvals bl)[i * 3 + 1]? = some (.int .i64 ((bk bl i).2.1 : Int)) ∧ (kvals bl)[i * 3 + 2]? = some (.int .i64 ((bk bl i).2.2 : Int))
  | [], i, h => by simp at h
  | p :: r, 0, _ => by simp [kvals, bk]
  | p :: r, i + 1, h => by
    have := kvals_get r i (by simpa using h)
    have e : (i + 1) * 3 = i * 3 + 1 + 1 + 1 := by omega
    rw [e]
    simpa [kvals, bk] using this
/-- blocks in new memory of a call -/
def OwnK (w : World) (base : Nat) (v : Value) (bl : List Bk) : Prop := w.ownsRow base 31 3 v bl.length (kvals bl)
theorem OwnK.fresh {w w' : World} {base : Nat} {v : Value} {bl : List Bk} (h : OwnK w base v bl) (k : Fresh w w') : OwnK w' base v bl := ownsRow_fresh h k
theorem OwnK.mono {w : World} {base base' : Nat} {v : Value} {bl : List Bk} (h : OwnK w base v bl) (hb : base' ≤ base) : OwnK w base' v bl := ownsRow_mono h hb
theorem OwnK.nil (w : World) (base : Nat) : OwnK w base (.slice none 0 0) [] := World.ownsRow_nil _ _ _ _
theorem OwnK.at {w : World} {base : Nat} {v : Value} {bl : List Bk} (h : OwnK w base v bl) (hl : bl.length ≤ 1048576) (hi : ∀ p ∈ bl, Small p) : BlocksAt w v bl := by
  have h0 := h
  rcases h.2 with ⟨rfl, hn⟩ | ⟨g, cap, cur, rfl, hb, hg, hc, hm, _⟩
  · have : bl = [] := List.eq_nil_of_length_eq_zero hn
    subst this
    exact blocksAt_nil w
  · refine ⟨hi, hl, .inr ⟨g, 0, cap, rfl, hc, hm, fun i hi => ?_⟩⟩
    have c0 := World.ownsRow.cellAt h0 (i * 3) (by omega)
    have c1 := World.ownsRow.cellAt h0 (i * 3 + 1) (by omega)
    have c2 := World.ownsRow.cellAt h0 (i * 3 + 2) (by omega)
    rw [Nat.zero_add, c0, c1, c2]
    exact kvals_get bl i hi
theorem OwnK.block {w : World} {base : Nat} {v : Value} {bl : List Bk} (h : OwnK w base v bl) (i : Nat) (hi : v.ownBlock = some i) : base ≤ i := by
  rcases h.2 with ⟨rfl, _⟩ | ⟨g, cap, cur, rfl, hb, _⟩
  · cases hi
  · have : g = i := by simpa [Value.ownBlock] using hi
    omega
theorem OwnK.shape {w : World} {base : Nat} {v : Value} {bl : List Bk} (h : OwnK w base v bl) : ∃ a cap, v = .slice a bl.length cap := by
  rcases h.2 with ⟨rfl, hn⟩ | ⟨g, cap, cur, rfl, _⟩
  · exact ⟨none, 0, by rw [hn]⟩
  · exact ⟨_, cap, rfl⟩
theorem OwnK.grown {w w1 : World} {base : Nat} {W : World} {v : Value} {bl : List Bk} (h : OwnK w base v bl) (hW : W.heap.size ≤ base) (f : Fresh W w) (hg : w.grownBy w1 v.ownBlock) : Fresh W w1 :=
  f.grown hg f.size fun i hi => Nat.le_trans hW (h.block i hi)
theorem infoBlock : (Tryd.prog.info? 31).map (fun i => (i.zero, i.size, i.bytes)) = some (some (.agg #[.int .i64 0, .int .i64 0, .int .i64 0]), 3, 24) := by kernel_rfl
/-- one more -/
theorem ownK_push {w' : World} {base : Nat} {v' : Value} {bl : List Bk} {x y z : Nat} (hown : w'.ownsRow base 31 3 v' (bl.length + 1) (kvals bl ++ [.int .i64 (x : Int), .int .i64 (y : Int), .int .i64 (z : Int)])) : OwnK w' base v' (bl ++ [(x, y, z)]) := by
  unfold OwnK
  rw [kvals_append, List.length_append]
  exact hown
theorem block_news {w : World} {B : Nat} {x y z : Value} {t : TypeId} (hb : w.heap[B]? = some (.cells #[x, y, z] t (0, 0))) : ∀ j u, [x, y, z][j]? = some u → w.cell? ((⟨B, 0, none⟩ : Addr).add j) = some u := by
  intro j u hu
  rw [Go.WideShapes.add_plain, Nat.zero_add]
  match j, hu with
  | 0, hu => exact cell_block hb 0 _ hu
  | 1, hu => exact cell_block hb 1 _ hu
  | 2, hu => exact cell_block hb 2 _ hu
  | j + 3, hu => simp at hu
theorem block_one (x y z : Int) : ∀ u ∈ [Value.int .i64 x, .int .i64 y, .int .i64 z], u.oneCell' = true := by
  intro u hu
  simp at hu
  rcases hu with rfl | rfl | rfl <;> rfl
/-- blocks laid out in a block of memory -/
theorem blocksAt_lit {w : World} {B : Nat} {cs : Array Value} {t : TypeId} {bl : List Bk} {n : Nat} (hb : w.heap[B]? = some (.cells cs t (0, 0))) (hcs : cs.toList = kvals bl) (hn : bl.length = n) (hl : bl.length ≤ 1048576) (hi : ∀ p ∈ bl, Small p) : BlocksAt w (.slice (some ⟨B, 0, none⟩) n n) bl := by
  subst hn
  refine ⟨hi, hl, .inr ⟨B, 0, bl.length, rfl, Nat.le_refl _, by omega, fun i hi => ?_⟩⟩
  have key : ∀ j u, (kvals bl)[j]? = some u → w.cell? ⟨B, j, none⟩ = some u := fun j u hu => cell_block hb j u (by rw [← hcs] at hu; simpa using hu)
  obtain ⟨g0, g1, g2⟩ := kvals_get bl i hi
  rw [Nat.zero_add]
  exact ⟨key _ _ g0, key _ _ g1, key _ _ g2⟩
end Go.Proofs.YtckfmgopbfgdjaaDoor
