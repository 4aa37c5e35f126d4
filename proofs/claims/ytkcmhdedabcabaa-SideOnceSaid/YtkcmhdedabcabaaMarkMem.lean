/- Marks in memory: a slice of marks in new memory of a call (OwnM). -/
import Derived.Test.YtkcmhdedabcabaaPairMem
namespace Go.Proofs.Ytkcmhdedabcabaa
open Go.RowKit

/-- marks in new memory of a call -/
def OwnM (w : World) (base : Nat) (v : Value) (ps : List Pc) : Prop := w.ownsRow base 24 2 v ps.length (svals ps)
theorem OwnM.fresh {w w' : World} {base : Nat} {v : Value} {ps : List Pc} (h : OwnM w base v ps) (k : Fresh w w') : OwnM w' base v ps := ownsRow_fresh h k
theorem OwnM.mono {w : World} {base base' : Nat} {v : Value} {ps : List Pc} (h : OwnM w base v ps) (hb : base' ≤ base) : OwnM w base' v ps := ownsRow_mono h hb
theorem OwnM.nil (w : World) (base : Nat) : OwnM w base (.slice none 0 0) [] := World.ownsRow_nil _ _ _ _
theorem OwnM.at {w : World} {base : Nat} {v : Value} {ps : List Pc} (h : OwnM w base v ps) (hl : ps.length ≤ 1048576) (hi : ∀ p ∈ ps, In64 p) : SpansIn w v ps := by
  have h0 := h
  rcases h.2 with ⟨rfl, hn⟩ | ⟨g, cap, cur, rfl, hb, hg, hc, hm, _⟩
  · have : ps = [] := List.eq_nil_of_length_eq_zero hn
    subst this
    exact spansIn_nil w
  · refine spansIn_some hl hc hm hi fun i hi => ?_
    have c0 := World.ownsRow.cellAt h0 (i * 2) (by omega)
    have c1 := World.ownsRow.cellAt h0 (i * 2 + 1) (by omega)
    rw [Nat.zero_add, c0, c1]
    exact svals_get ps i hi
theorem OwnM.setCell {w : World} {base : Nat} {v : Value} {ps : List Pc} (h : OwnM w base v ps) {b : Nat} (hb : b < base) (j : Nat) (u : Value) : OwnM (w.setCell ⟨b, j, none⟩ u) base v ps := by
  refine ownsRow_setCell_other h ?_ u
  intro e
  rcases h.2 with ⟨rfl, _⟩ | ⟨g, cap, cur, rfl, hg, _⟩
  · cases e
  · have : g = b := by simpa [Value.ownBlock] using e
    omega
theorem OwnM.block {w : World} {base : Nat} {v : Value} {ps : List Pc} (h : OwnM w base v ps) (i : Nat) (hi : v.ownBlock = some i) : base ≤ i := by
  rcases h.2 with ⟨rfl, _⟩ | ⟨g, cap, cur, rfl, hb, _⟩
  · cases hi
  · have : g = i := by simpa [Value.ownBlock] using hi
    omega
theorem infoMark : (Try.prog.info? 24).map (fun i => (i.zero, i.size, i.bytes)) = some (some (.agg #[.int .i64 0, .int .i64 0]), 2, 16) := by kernel_rfl
/-- one more -/
theorem ownM_push {w' : World} {base : Nat} {v' : Value} {ps : List Pc} {p1 p2 : Int} (hown : w'.ownsRow base 24 2 v' (ps.length + 1) (svals ps ++ [.int .i64 p1, .int .i64 p2])) : OwnM w' base v' (ps ++ [(p1, p2)]) := by
  unfold OwnM
  rw [svals_append, List.length_append]
  exact hown
theorem mark_news (w : World) (s1 s2 : Int) : ∀ j u, [Value.int .i64 s1, .int .i64 s2][j]? = some u → (w.alloc (.cells #[.int .i64 s1, .int .i64 s2] 24)).cell? ((⟨w.heap.size, 0, none⟩ : Addr).add j) = some u := by
  intro j u hu
  have hb := heap_alloc_new w (.cells #[.int .i64 s1, .int .i64 s2] 24 (0, 0))
  rw [Go.WideShapes.add_plain, Nat.zero_add]
  match j, hu with
  | 0, hu => exact cell_block hb 0 _ hu
  | 1, hu => exact cell_block hb 1 _ hu
  | j + 2, hu => simp at hu
theorem mark_one (s1 s2 : Int) : ∀ u ∈ [Value.int .i64 s1, .int .i64 s2], u.oneCell' = true := by
  intro u hu
  simp at hu
  rcases hu with rfl | rfl <;> rfl
theorem OwnM.grown {w w1 : World} {base : Nat} {W : World} {v : Value} {ps : List Pc} (h : OwnM w base v ps) (hW : W.heap.size ≤ base) (f : Fresh W w) (hg : w.grownBy w1 v.ownBlock) : Fresh W w1 :=
  f.grown hg f.size fun i hi => Nat.le_trans hW (h.block i hi)
theorem OwnM.shape {w : World} {base : Nat} {v : Value} {ps : List Pc} (h : OwnM w base v ps) : ∃ a cap, v = .slice a ps.length cap := by
  rcases h.2 with ⟨rfl, hn⟩ | ⟨g, cap, cur, rfl, _⟩
  · exact ⟨none, 0, by rw [hn]⟩
  · exact ⟨_, cap, rfl⟩
end Go.Proofs.Ytkcmhdedabcabaa
