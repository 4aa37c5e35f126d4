/- The bytes that came in, cell by cell; whether any of some bits is set (anyV). Of no program. -/
import Derived.Test.YtpkcihfldmgehaaOpen
import Derived.Test.YtpkcihfldmgehaaMem
import Derived.Test.YtpkcihfldmgehaaSlotsMath
namespace Go.Proofs.Ytpkcihfldmgehaa
open Go.ChangeShapes Go.WideShapes Go.ChangeAt Go.RowKit

/-- the bytes that came in -/
def RowAt (w : World) (a : Option Addr) (len : Nat) : Prop := ∀ i, i < len → ∃ b o z, a = some ⟨b, o, none⟩ ∧ w.cell? ⟨b, o + i, none⟩ = some (.int .u8 z) ∧ 0 ≤ z ∧ z ≤ 255
theorem IsRow.at {w : World} {a : Option Addr} {len cap : Nat} {zs : List Int} (h : IsRow .u8 w a len cap zs) : RowAt w a len := by
  intro i hi
  rcases h with ⟨rfl, rfl, rfl, rfl⟩ | ⟨x, rfl, hl, hm, hz, hc, hw⟩
  · omega
  · obtain ⟨b, o, s⟩ := x
    have hs : s = none := by simpa [Addr.add] using World.cell?_spot (hc 0 (by omega))
    subst hs
    have h1 := hc i (by omega)
    rw [Go.WideShapes.add_plain b o i] at h1
    have hb := bounds_u8 (hw (zs.getD i 0) (by rw [List.getD_eq_getElem?_getD, List.getElem?_eq_getElem (show i < zs.length by omega)]; exact List.getElem_mem _))
    exact ⟨b, o, zs.getD i 0, rfl, h1, hb.1, hb.2⟩
theorem RowAt.fresh {w w' : World} {a : Option Addr} {len : Nat} (h : RowAt w a len) (k : Fresh w w') : RowAt w' a len := by
  intro i hi
  obtain ⟨b, o, z, e, c, h1, h2⟩ := h i hi
  exact ⟨b, o, z, e, (k.cell (World.block_lt_of_cell? _ _ c)).trans c, h1, h2⟩
/-- is any of m bits from a on set? -/
def anyV (p : Nat → Bool) (a : Nat) : Nat → Bool
  | 0 => false
  | m + 1 => anyV p a m || p (a + m)
theorem any_succ (p : Nat → Bool) (a m : Nat) : anyV p a (m + 1) = (anyV p a m || p (a + m)) := rfl
theorem any_iff (p : Nat → Bool) (a : Nat) : ∀ m, anyV p a m = true ↔ ∃ t, t < m ∧ p (a + t) = true
  | 0 => ⟨fun h => (by cases h), fun ⟨t, h, _⟩ => (by omega)⟩
  | m + 1 => by
    show (anyV p a m || p (a + m)) = true ↔ _
    rw [Bool.or_eq_true, any_iff p a m]
    constructor
    · rintro (⟨t, h1, h2⟩ | h)
      · exact ⟨t, by omega, h2⟩
      · exact ⟨m, by omega, h⟩
    · rintro ⟨t, h1, h2⟩
      by_cases e : t = m
      · subst e; exact .inr h2
      · exact .inl ⟨t, by omega, h2⟩
theorem any_cls (p : Nat → Bool) (k j : Nat) : anyV p (j * 2 ^ k) (2 ^ k) = clsB p k j := by
  rw [Bool.eq_iff_iff, any_iff, cls_iff]
end Go.Proofs.Ytpkcihfldmgehaa
