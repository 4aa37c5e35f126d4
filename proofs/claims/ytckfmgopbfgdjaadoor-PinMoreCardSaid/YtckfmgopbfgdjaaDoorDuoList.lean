/- Pairs of bytes that came in, as a list. Of no program. -/
import Derived.Test.YtckfmgopbfgdjaaDoorDuo
namespace Go.Proofs.YtckfmgopbfgdjaaDoor
open Go.RowKit

/-- the i-th pair -/
def dz (zs : List (Nat × Nat)) (i : Nat) : Nat × Nat := zs.getD i (0, 0)
/-- where they lie -/
def DuoAt (w : World) (a : Option Addr) (zs : List (Nat × Nat)) : Prop :=
  (∀ z ∈ zs, z.1 ≤ 255 ∧ z.2 ≤ 255) ∧ ∀ i, i < zs.length → ∃ b o, a = some ⟨b, o, none⟩ ∧ w.cell? ⟨b, o + i * 2, none⟩ = some (.int .u8 ((dz zs i).1 : Int)) ∧ w.cell? ⟨b, o + i * 2 + 1, none⟩ = some (.int .u8 ((dz zs i).2 : Int))
theorem DuoAt.fresh {w w' : World} {a : Option Addr} {zs : List (Nat × Nat)} (h : DuoAt w a zs) (k : Fresh w w') : DuoAt w' a zs := by
  refine ⟨h.1, fun i hi => ?_⟩
  obtain ⟨b, o, e, h0, h1⟩ := h.2 i hi
  exact ⟨b, o, e, (k.cell (World.block_lt_of_cell? _ _ h0)).trans h0, (k.cell (World.block_lt_of_cell? _ _ h1)).trans h1⟩
theorem DuoAt.low {w : World} {a : Option Addr} {zs : List (Nat × Nat)} (h : DuoAt w a zs) {i : Nat} (hi : i < zs.length) : (dz zs i).1 ≤ 255 ∧ (dz zs i).2 ≤ 255 := by
  refine h.1 _ ?_
  unfold dz; rw [List.getD_eq_getElem?_getD, List.getElem?_eq_getElem hi]; exact List.getElem_mem hi
theorem duo_list {w : World} {a : Option Addr} {len : Nat} (h : IsDuo w a len) : ∃ zs, zs.length = len ∧ DuoAt w a zs := by
  have key : ∀ i, ∃ z : Nat × Nat, i < len → (z.1 ≤ 255 ∧ z.2 ≤ 255) ∧ ∃ b o, a = some ⟨b, o, none⟩ ∧ w.cell? ⟨b, o + i * 2, none⟩ = some (.int .u8 (z.1 : Int)) ∧ w.cell? ⟨b, o + i * 2 + 1, none⟩ = some (.int .u8 (z.2 : Int)) := fun i => by
    by_cases hi : i < len
    · obtain ⟨b, o, z0, z1, e, ⟨h0, b0, b0'⟩, ⟨h1, b1, b1'⟩⟩ := h i hi
      refine ⟨(z0.toNat, z1.toNat), fun _ => ⟨by simp only; omega, b, o, e, ?_, ?_⟩⟩
      · rw [h0]; simp only; rw [Int.toNat_of_nonneg b0]
      · rw [h1]; simp only; rw [Int.toNat_of_nonneg b1]
    · exact ⟨(0, 0), fun h => absurd h hi⟩
  have f := fun i => Classical.choose_spec (key i)
  refine ⟨(List.range len).map fun i => Classical.choose (key i), by simp, fun z hz => ?_, fun i hi => ?_⟩
  · obtain ⟨i, hi, rfl⟩ := List.mem_map.1 hz
    exact (f i (by simpa using hi)).1
  · have hi' : i < len := by simpa using hi
    have e : dz ((List.range len).map fun i => Classical.choose (key i)) i = Classical.choose (key i) := by
      unfold dz; rw [List.getD_eq_getElem?_getD, List.getElem?_map, List.getElem?_range hi']; rfl
    rw [e]
    exact (f i hi').2
end Go.Proofs.YtckfmgopbfgdjaaDoor
