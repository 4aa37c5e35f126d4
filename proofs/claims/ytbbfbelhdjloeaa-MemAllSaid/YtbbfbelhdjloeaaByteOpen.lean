/- How a slice of bytes is told to a walk: as bytes that are read. -/
import Derived.Test.YtbbfbelhdjloeaaOpen
import Derived.Test.YtbbfbelhdjloeaaByteIn
namespace Go.Proofs.Ytbbfbelhdjloeaa
open Go.ChangeShapes Go.WideShapes Go.ChangeAt Go.RowKit

theorem bytesIn_of {w : World} {a : Option Addr} {len cap : Nat} {zs : List Int} (h : Go.Proofs.Ytbbfbelhdjloeaa.IsRow .u8 w a len cap zs) (hl : len ≤ 1048576) : ∃ l, l.length = len ∧ BytesIn w (.slice a len cap) l ∧ ∀ z ∈ l, 0 ≤ z ∧ z ≤ 255 := by
  rcases h with ⟨rfl, rfl, rfl, rfl⟩ | ⟨x, rfl, h1, h2, h3, hc, hw⟩
  · exact ⟨[], rfl, bytesIn_nil w none, fun z hz => by simp at hz⟩
  · have hlen : (zs.take len).length = len := by rw [List.length_take]; omega
    refine ⟨zs.take len, hlen, ?_, fun z hz' => bounds_u8 (hw z (List.mem_of_mem_take hz'))⟩
    by_cases g : cap = 0
    · subst g
      obtain rfl : len = 0 := by omega
      exact bytesIn_nil w _
    · obtain ⟨b, o, s⟩ := x
      have hs : s = none := by simpa [Addr.add] using World.cell?_spot (hc 0 (by omega))
      subst hs
      refine ⟨by rw [hlen]; exact hl, .inr ⟨b, o, cap, by rw [hlen], by rw [hlen]; exact h1, by unfold maxLen at h2; omega, fun i hi => ?_⟩⟩
      rw [hlen] at hi
      have e : (zs.take len).getD i 0 = zs.getD i 0 := by simp [List.getD_eq_getElem?_getD, hi]
      have ea : (⟨b, o, none⟩ : Addr).add i = ⟨b, o + i, none⟩ := Go.WideShapes.add_plain b o i
      rw [e, ← ea]
      exact hc i (by omega)
theorem row_le {k : IntKind} {w : World} {a : Option Addr} {len cap : Nat} {zs : List Int} (h : Go.Proofs.Ytbbfbelhdjloeaa.IsRow k w a len cap zs) : (len : Int) ≤ 9223372036854775807 := by
  rcases h with ⟨_, rfl, _⟩ | ⟨x, _, h1, h2, _⟩
  · decide
  · unfold maxLen at h2; omega
end Go.Proofs.Ytbbfbelhdjloeaa
