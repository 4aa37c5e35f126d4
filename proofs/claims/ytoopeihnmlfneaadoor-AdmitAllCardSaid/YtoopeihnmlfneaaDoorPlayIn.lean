/- From a slice of bytes that came in to a reader of its numbers. -/
import Derived.Test.YtoopeihnmlfneaaDoorPlayNum
namespace Go.Proofs.YtoopeihnmlfneaaDoor
open Go.RowKit Go.ChangeShapes

/-- what Made makes is a reader at its first number -/
theorem picks_made {w w1 : World} {a : Option Addr} {len cap : Nat} {zs : List Int} (h : IsRow .u8 w a len cap zs) (k : Kept w w1) :
    PicksAt (w1.alloc (.cells #[.slice a len cap, .int .i64 0] 43)) w1.heap.size (zs.take len) 0 := by
  have hk : Kept w1 (w1.alloc (.cells #[.slice a len cap, .int .i64 0] 43)) := (Kept.refl w1).alloc _ _
  have hfr : ∀ o, (w1.alloc (.cells #[.slice a len cap, .int .i64 0] 43)).frozen? ⟨w1.heap.size, o, none⟩ = false := fun o => by rw [frozen?_alloc_cells]; simp [World.frozen?]
  rcases h with ⟨rfl, rfl, rfl, rfl⟩ | ⟨x, rfl, hl, hm, hz, hc, hw⟩
  · exact ⟨⟨none, 0, by simp, by simp, fun z hz => by simp at hz, fun i hi => by simp at hi⟩, by simp, Nat.zero_le _, hfr⟩
  · have hlen : (zs.take len).length = len := by rw [List.length_take]; omega
    have hml : (zs.take len).length ≤ 9223372036854775807 := by have e : maxLen = 9223372036854775807 := rfl; omega
    refine ⟨⟨some x, cap, by rw [hlen]; simp, hml, fun z hz' => bounds_u8 (hw z (List.mem_of_mem_take hz')), fun i hi => ?_⟩, by simp, Nat.zero_le _, hfr⟩
    rw [hlen] at hi
    obtain ⟨b, o, s⟩ := x
    have hs : s = none := by simpa [Addr.add] using World.cell?_spot (hc 0 (by omega))
    subst hs
    have ea : (⟨b, o, none⟩ : Addr).add i = ⟨b, o + i, none⟩ := Go.WideShapes.add_plain b o i
    have c' : w.cell? ⟨b, o + i, none⟩ = some (.int .u8 (zs.getD i 0)) := by rw [← ea]; exact hc i (by omega)
    have e : (zs.take len).getD i 0 = zs.getD i 0 := by simp [List.getD_eq_getElem?_getD, hi]
    rw [e]
    exact ⟨b, o, rfl, World.block_lt_of_cell? _ _ (k.cell c'), hk.cell (k.cell c')⟩
end Go.Proofs.YtoopeihnmlfneaaDoor
