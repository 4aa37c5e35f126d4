/- The bytes that came in, as a list. Of no program. -/
import Derived.Test.YtcnfmkhjhffebaaDoorOpen
import Derived.Test.YtcnfmkhjhffebaaDoorMem
namespace Go.Proofs.YtcnfmkhjhffebaaDoor
open Go.ChangeShapes Go.WideShapes Go.ChangeAt Go.RowKit

/-- bytes that are read -/
def BytesAt (w : World) (a : Option Addr) (zs : List Int) : Prop := (∀ z ∈ zs, 0 ≤ z ∧ z ≤ 255) ∧ ∀ i, i < zs.length → ∃ b o, a = some ⟨b, o, none⟩ ∧ w.cell? ⟨b, o + i, none⟩ = some (.int .u8 (zs.getD i 0))
theorem BytesAt.fresh {w w' : World} {a : Option Addr} {zs : List Int} (h : BytesAt w a zs) (k : Fresh w w') : BytesAt w' a zs :=
  ⟨h.1, fun i hi => by
    obtain ⟨b, o, e, c⟩ := h.2 i hi
    exact ⟨b, o, e, (k.cell (World.block_lt_of_cell? _ _ c)).trans c⟩⟩
theorem BytesAt.low {w : World} {a : Option Addr} {zs : List Int} (h : BytesAt w a zs) {i : Nat} (hi : i < zs.length) : 0 ≤ zs.getD i 0 ∧ zs.getD i 0 ≤ 255 :=
  h.1 _ (by rw [List.getD_eq_getElem?_getD, List.getElem?_eq_getElem hi]; exact List.getElem_mem _)
theorem bytes_list {w : World} {a : Option Addr} {len cap : Nat} {zs : List Int} (h : IsRow .u8 w a len cap zs) : ∃ ys : List Int, ys.length = len ∧ BytesAt w a ys := by
  rcases h with ⟨rfl, rfl, rfl, rfl⟩ | ⟨x, rfl, hl, hm, hz, hc, hw⟩
  · exact ⟨[], rfl, fun z hz => by simp at hz, fun i hi => by simp at hi⟩
  · have hlen : (zs.take len).length = len := by rw [List.length_take]; omega
    refine ⟨zs.take len, hlen, fun z hz' => bounds_u8 (hw z (List.mem_of_mem_take hz')), fun i hi => ?_⟩
    rw [hlen] at hi
    obtain ⟨b, o, s⟩ := x
    have hs : s = none := by simpa [Addr.add] using World.cell?_spot (hc 0 (by omega))
    subst hs
    have ea : (⟨b, o, none⟩ : Addr).add i = ⟨b, o + i, none⟩ := Go.WideShapes.add_plain b o i
    have e : (zs.take len).getD i 0 = zs.getD i 0 := by simp [List.getD_eq_getElem?_getD, hi]
    rw [e]
    exact ⟨b, o, rfl, by rw [← ea]; exact hc i (by omega)⟩
end Go.Proofs.YtcnfmkhjhffebaaDoor
