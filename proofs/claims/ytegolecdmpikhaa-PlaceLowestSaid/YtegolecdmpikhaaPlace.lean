/- What is asked of package place is so: New, Place and Release answer as the document says, in new memory. -/
import Derived.Test.YtegolecdmpikhaaPlaceN
import Derived.Test.YtegolecdmpikhaaPlaceP
import Derived.Test.YtegolecdmpikhaaPlaceR
import Derived.Test.YtegolecdmpikhaaPackG
namespace Go.Proofs.Ytegolecdmpikhaa
open Go.RowKit

theorem ok_gm {E : Eng} (h : E.Ok) : gmB (E.G : Int) = true := by
  obtain ⟨K, hK⟩ := h.pow
  have h1 : E.G ≤ 65536 := Nat.le_trans (Nat.le_mul_of_pos_right _ h.inv.cls.2.2.1) h.inv.fits
  rw [hK] at h1 ⊢
  exact gm_pow h1
theorem place_says : PlaceSays where
  new_yes g n m K N c w h := enew_yes g n m K N c w h
  new_no g n m w _ _ h := enew_no g n m w h
  place_no v E X x w h hX _ _ hl := by
    refine (eplace_no v E x w h.at hl).mono ?_
    rintro e w' ⟨u, rfl, e1, f⟩
    exact ⟨u, rfl, e1.off (Fresh.refl _) fun k hk => .inl (hX k hk), f⟩
  place_yes v E X k i w h hX ho hk hl hi := by
    refine (eplace_yes v E.G E.N E.c E.p E.ps k i w h.at ho.inv ho.few (ok_gm ho) hk hl hi).mono ?_
    rintro e w' ⟨u, rfl, e1, f⟩
    exact ⟨u, rfl, e1.off (Fresh.refl _) fun k hk => .inl (hX k hk), f⟩
  rel_no v E X x w h hX ho hx hl := by
    refine (erel_no v E x w h.at ho.inv.rise ho.few hx.1 hx.2.1 hl).mono ?_
    rintro e w' ⟨u, rfl, e1, f⟩
    exact ⟨u, rfl, e1.off (Fresh.refl _) fun k hk => .inl (hX k hk), f⟩
  rel_yes v E X k i w h hX ho hm hk hi := by
    obtain ⟨h1, h2⟩ := hit_mem ho.inv.rise hm
    refine (erel_yes v E.G E.N E.c E.p E.ps _ k i w h.at ho.inv ho.few (ok_gm ho) h1 rfl h2 hk hi).mono ?_
    rintro e w' ⟨u, rfl, e1, f⟩
    exact ⟨u, rfl, e1.off (Fresh.refl _) fun k hk => .inl (hX k hk), f⟩
end Go.Proofs.Ytegolecdmpikhaa
