/- What there is of a request that hodmanplay makes, of no program: a power of two G, N that is G times 2 to the L, both at most 65536. -/
import Derived.Test.YtoopeihnmlfneaaDoorPlay
import Derived.Test.YtoopeihnmlfneaaDoorWhole
namespace Go.Proofs.YtoopeihnmlfneaaDoor
open Go.RowKit

theorem raw_in (zs : List Int) (j : Nat) : ∃ g la li pg bu se, rawOf zs j false = ⟨g, la, li, pg, bu, se⟩ ∧ (1 ≤ g ∧ g ≤ 9) ∧ (1 ≤ la ∧ la ≤ 108) ∧ (1 ≤ li ∧ li ≤ 150) ∧ (1 ≤ pg ∧ pg ≤ 30) ∧ (0 ≤ bu ∧ bu ≤ 65536) ∧ 0 ≤ se ∧ se ≤ 255 := by
  have i0 := pk_in zs j 9 (by decide)
  have i1 := pk_in zs (j + 1) 12 (by decide)
  have i2 := pk_in zs (j + 2) 150 (by decide)
  have i3 := pk_in zs (j + 3) 30 (by decide)
  have i4 := pk_in zs (j + 4) 200 (by decide)
  have i5 := pk_in zs (j + 5) 20 (by decide)
  have m1 := Int.mul_le_mul (show rawG zs j ≤ 9 by unfold rawG; omega) (show 1 + pk zs (j + 1) 12 ≤ 12 by omega) (by omega) (by decide)
  have m2 := Int.mul_le_mul (show 1 ≤ rawG zs j by unfold rawG; omega) (show 1 ≤ 1 + pk zs (j + 1) 12 by omega) (by decide) (by unfold rawG; omega)
  exact ⟨_, _, _, _, _, _, rfl, ⟨by unfold rawG; omega, by unfold rawG; omega⟩, ⟨by omega, by omega⟩, ⟨by omega, by omega⟩, ⟨by omega, by omega⟩, ⟨by simp; omega, by simp; omega⟩, by omega, by omega⟩

/-- a configuration as there is one -/
structure Fit (c : Cf) (a l : Nat) : Prop where
  a16 : a ≤ 16
  l16 : l ≤ 16
  g : c.g = ((2 ^ a : Nat) : Int)
  n : c.n = ((2 ^ a * 2 ^ l : Nat) : Int)
  el : c.l = l
  n16 : c.n ≤ 65536
  g1 : 1 ≤ c.g
  gn : c.g ≤ c.n
theorem fit_play (zs : List Int) (j : Nat) : ∃ a l, Fit (ofC (rawOf zs j false)) a l := by
  obtain ⟨g, la, li, pg, bu, se, er, hg, hla, hli, hpg, hbu, hse⟩ := raw_in zs j
  rw [er]
  obtain ⟨G, N, M, P, M2, l, W, hl, A, _⟩ := more_of (d := 0) hg hla hli hpg hbu hse ⟨Int.le_refl _, by decide⟩
  obtain ⟨a, ha, hG⟩ := W.pow
  rw [(A bu se hbu hse).1]
  refine ⟨a, l, ha, hl, hG, ?_, rfl, W.n16, W.g1, W.gn⟩
  show N = _
  rw [← W.sh, hG, ← pow_cast, ← Int.natCast_mul]
end Go.Proofs.YtoopeihnmlfneaaDoor
