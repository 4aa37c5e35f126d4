/- What there is of a configuration that hodmanplay makes, its M too; so many of so much as their product. Of no program. -/
import Derived.Test.YtoopeihnmlfneaaDoorPlayRaw
import Derived.Test.YtoopeihnmlfneaaDoorAdmitMath
namespace Go.Proofs.YtoopeihnmlfneaaDoor
open Go.ChangeShapes Go.WideShapes Go.ChangeAt Go.RowKit

theorem fit_adm (zs : List Int) (j : Nat) : ∃ a l, Fit (ofC (rawOf zs j false)) a l ∧ 1 ≤ (ofC (rawOf zs j false)).m ∧ (ofC (rawOf zs j false)).m ≤ 200000 := by
  obtain ⟨g, la, li, pg, bu, se, er, hg, hla, hli, hpg, hbu, hse⟩ := raw_in zs j
  rw [er]
  obtain ⟨G, N, M, P, M2, l, W, hl, A, _⟩ := more_of (d := 0) hg hla hli hpg hbu hse ⟨Int.le_refl _, by decide⟩
  obtain ⟨a, ha, hG⟩ := W.pow
  have h1 := W.ml
  have h2 := W.m16
  rw [(A bu se hbu hse).1]
  refine ⟨a, l, ⟨ha, hl, hG, ?_, rfl, W.n16, W.g1, W.gn⟩, ?_, h2⟩
  · show N = _
    rw [← W.sh, hG, ← pow_cast, ← Int.natCast_mul]
  · show 1 ≤ M
    dsimp only at h1
    omega
/-- so many of so much are let in as their product is -/
theorem many_same {g n m live x s : Int} (n1 : 1 ≤ n) (x0 : 0 ≤ x) (x1 : x ≤ 4) (s0 : 0 ≤ s) (s1 : s ≤ 100000) : maE g n m live x s = adE g n m live (x * s) 1 ∧ maV g n m live x s = adV g n m live (x * s) 1 := by
  have h0 := Int.mul_nonneg x0 s0
  have h1 := Int.mul_le_mul x1 s1 s0 (by decide)
  by_cases h : prE n x s = 0
  · exact ma_yes h
  · have e := ma_no (g := g) (m := m) (live := live) h
    rw [e.1, e.2]
    have lg : logB 1 = true := by decide +kernel
    rcases pr_cases n x s with ⟨_, _, h2⟩ | ⟨e1, _, _, _, h2⟩ | ⟨e1, _⟩
    · omega
    · have h3 : n < x * s := by
        rcases h2 with h2 | ⟨_, _, h2⟩
        · have := (mul_fits (a := x) (b := s) (by omega) (by omega)).1
          rw [h2] at this; cases this
        · exact h2
      have h4 : chE n (x * s) 1 = 4 := by
        rcases ch_cases g n (x * s) 1 with ⟨_, _, h5⟩ | ⟨h5, _⟩ | ⟨_, _, _, _, _, h5⟩
        · rcases h5 with h5 | h5
          · rw [lg] at h5; cases h5
          · omega
        · exact h5
        · omega
      rcases ad_cases g n m live (x * s) 1 with ⟨_, e3, e4⟩ | ⟨h5, _⟩ | ⟨h5, _⟩
      · rw [e3, e4, e1, h4]; exact ⟨rfl, rfl⟩
      · omega
      · omega
    · exact absurd e1 h
end Go.Proofs.YtoopeihnmlfneaaDoor
