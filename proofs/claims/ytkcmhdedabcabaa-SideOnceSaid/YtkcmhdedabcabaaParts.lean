/- Rows of pairs side by side (flat, PartsAt): what slices.Concat is handed. Of no types of a program. -/
import Derived.Test.YtkcmhdedabcabaaPairMem
namespace Go.Proofs.Ytkcmhdedabcabaa
open Go.RowKit

def flat (f : Nat → List Pc) : Nat → List Pc
  | 0 => []
  | k + 1 => flat f k ++ f k
theorem flat_length (f : Nat → List Pc) (h : ∀ i, i < 3 → (f i).length ≤ 1048576) : ∀ k, k ≤ 3 → (flat f k).length ≤ k * 1048576
  | 0, _ => by simp [flat]
  | k + 1, hk => by
    have := flat_length f h k (by omega)
    have := h k (by omega)
    simp [flat]
    omega
/-- parts in a row -/
def PartsAt (w : World) (b o k : Nat) (V : Nat → Value) (f : Nat → List Pc) : Prop := ∀ i, i < k → w.cell? ⟨b, o + i, none⟩ = some (V i) ∧ SpansIn w (V i) (f i)
theorem PartsAt.fresh {w w' : World} {b o k : Nat} {V : Nat → Value} {f : Nat → List Pc} (h : PartsAt w b o k V f) (hf : Fresh w w') : PartsAt w' b o k V f :=
  fun i hi => ⟨(hf.cell (World.block_lt_of_cell? _ _ (h i hi).1)).trans (h i hi).1, (h i hi).2.fresh hf⟩
theorem flat2 (A B : List Pc) : flat (fun i => [A, B].getD i []) 2 = A ++ B := by simp [flat]
theorem flat3 (A B C : List Pc) : flat (fun i => [A, B, C].getD i []) 3 = A ++ B ++ C := by simp [flat]
/-- a new block of parts -/
theorem parts_next (w : World) (c : Array Value) (t : TypeId) {p : World → Prop} (h : ∀ w5, w5.heap[w.heap.size]? = some (.cells c t (0, 0)) → Fresh w w5 → p w5) : p (w.alloc (.cells c t)) :=
  h _ (heap_alloc_new w _) (fresh_box _ _ _)
/-- two parts -/
theorem parts2 {w : World} {g : Nat} {t : TypeId} {V0 V1 : Value} {f0 f1 : List Pc} (hb : w.heap[g]? = some (.cells #[V0, V1] t (0, 0))) (h0 : SpansIn w V0 f0) (h1 : SpansIn w V1 f1) :
    PartsAt w g 0 2 (fun i => [V0, V1].getD i undef) (fun i => [f0, f1].getD i []) := by
  intro i hi
  match i, hi with
  | 0, _ => exact ⟨cell_block hb 0 _ rfl, h0⟩
  | 1, _ => exact ⟨cell_block hb 1 _ rfl, h1⟩
/-- three parts -/
theorem parts3 {w : World} {g : Nat} {t : TypeId} {V0 V1 V2 : Value} {f0 f1 f2 : List Pc} (hb : w.heap[g]? = some (.cells #[V0, V1, V2] t (0, 0))) (h0 : SpansIn w V0 f0) (h1 : SpansIn w V1 f1) (h2 : SpansIn w V2 f2) :
    PartsAt w g 0 3 (fun i => [V0, V1, V2].getD i undef) (fun i => [f0, f1, f2].getD i []) := by
  intro i hi
  match i, hi with
  | 0, _ => exact ⟨cell_block hb 0 _ rfl, h0⟩
  | 1, _ => exact ⟨cell_block hb 1 _ rfl, h1⟩
  | 2, _ => exact ⟨cell_block hb 2 _ rfl, h2⟩
/-- one pair in a new block -/
theorem pairIn_one (w : World) (t : TypeId) (s1 s2 : Int) (h : In64 (s1, s2)) : SpansIn (w.alloc (.cells #[.int .i64 s1, .int .i64 s2] t)) (.slice (some ⟨w.heap.size, 0, none⟩) 1 1) [(s1, s2)] := by
  have hb := heap_alloc_new w (.cells #[.int .i64 s1, .int .i64 s2] t (0, 0))
  refine spansIn_some (ps := [(s1, s2)]) (by simp) (by simp) (by decide) (fun p hp => by simp at hp; rw [hp]; exact h) fun i hi => ?_
  have hi0 : i = 0 := by simpa using hi
  subst hi0
  exact ⟨cell_block hb 0 _ rfl, cell_block hb 1 _ rfl⟩
theorem wrap_next {i : Nat} (h : (i : Int) + 1 ≤ 9223372036854775807) : IntKind.i64.wrap ((i : Int) + 1) = ((i + 1 : Nat) : Int) := by
  have : IntKind.i64.wrap ((i : Int) + 1) = (i : Int) + 1 := by rw [IntKind.wrap_i64]; omega
  rw [this]; omega
/-- a pair in a block -/
def PairB (W : World) (n : Nat) (s1 s2 : Int) (w : World) : Prop := w.cell? ⟨n, 0, none⟩ = some (.int .i64 s1) ∧ w.cell? ⟨n, 1, none⟩ = some (.int .i64 s2) ∧ Fresh W w
theorem PairB.fresh {W : World} {n : Nat} {s1 s2 : Int} {w w' : World} (h : PairB W n s1 s2 w) (k : Fresh w w') : PairB W n s1 s2 w' := by
  obtain ⟨a, b, e⟩ := h
  exact ⟨(k.cell (World.block_lt_of_cell? _ _ a)).trans a, (k.cell (World.block_lt_of_cell? _ _ b)).trans b, e.trans k⟩
/-- a pair of what is handed over -/
def PairC (W : World) (b o : Nat) (p1 p2 : Int) (w : World) : Prop := w.cell? ⟨b, o, none⟩ = some (.int .i64 p1) ∧ w.cell? ⟨b, o + 1, none⟩ = some (.int .i64 p2) ∧ Fresh W w
theorem PairC.fresh {W : World} {b o : Nat} {p1 p2 : Int} {w w' : World} (h : PairC W b o p1 p2 w) (k : Fresh w w') : PairC W b o p1 p2 w' := by
  obtain ⟨a, b, e⟩ := h
  exact ⟨(k.cell (World.block_lt_of_cell? _ _ a)).trans a, (k.cell (World.block_lt_of_cell? _ _ b)).trans b, e.trans k⟩
end Go.Proofs.Ytkcmhdedabcabaa
