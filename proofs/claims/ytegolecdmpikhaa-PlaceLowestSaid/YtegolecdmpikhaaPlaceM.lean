/- What the program's place holds of a granule's bytes and of a class (granuleMay, hasClass), as contracts. -/
import Derived.Test.YtegolecdmpikhaaPackA
namespace Go.Proofs.Ytegolecdmpikhaa
open Go.RowKit

def gmB (g : Int) : Bool := decide (1 ≤ g ∧ g ≤ 65536) && (g.toNat &&& (g.toNat - 1) == 0)
theorem gm_cases (g : Int) : (gmB g = true ∧ ∃ K : Nat, g = ((2 ^ K : Nat) : Int) ∧ 2 ^ K ≤ 65536) ∨ (gmB g = false ∧ ∀ K : Nat, g = ((2 ^ K : Nat) : Int) → 65536 < 2 ^ K) := by
  unfold gmB
  by_cases h : 1 ≤ g ∧ g ≤ 65536
  · rw [decide_eq_true h, Bool.true_and]
    by_cases h2 : g.toNat &&& (g.toNat - 1) = 0
    · obtain ⟨K, hK⟩ := (and_pred_zero g.toNat (by omega)).1 h2
      exact .inl ⟨by rw [h2]; rfl, K, by omega, by omega⟩
    · refine .inr ⟨by rw [beq_eq_false_iff_ne]; exact h2, fun K hK => absurd ((and_pred_zero g.toNat (by omega)).2 ⟨K, by omega⟩) h2⟩
  · rw [decide_eq_false h, Bool.false_and]
    refine .inr ⟨rfl, fun K hK => ?_⟩
    have : 1 ≤ 2 ^ K := Nat.pow_pos (by decide)
    omega
theorem gm_pow {K : Nat} (h : 2 ^ K ≤ 65536) : gmB ((2 ^ K : Nat) : Int) = true := by
  rcases gm_cases ((2 ^ K : Nat) : Int) with ⟨h, _⟩ | ⟨_, h2⟩
  · exact h
  · have := h2 K rfl; omega
theorem gmay_any (g : Int) (w : World) : Calls Try.prog 16 #[.int .i64 g] w fun e w' => e = .returned (.bool (gmB g)) ∧ w' = w := by
  by_cases h1 : 1 ≤ g
  · by_cases h2 : g ≤ 65536
    · have E := hide (andPred g (by omega) (by omega))
      have G := hide (show gmB g = (g.toNat &&& (g.toNat - 1) == 0) by unfold gmB; rw [decide_eq_true ⟨h1, h2⟩, Bool.true_and])
      go_enter Try.func16, Try.ntmps16
      go_wp2
      go_ret
      refine ⟨retB ?_, rfl⟩
      rw [E.out, G.out]
      by_cases h : g.toNat &&& (g.toNat - 1) = 0
      · rw [h]; rfl
      · rw [beq_eq_false_iff_ne.2 h, beq_eq_false_iff_ne]; omega
    · have G := hide (show gmB g = false by unfold gmB; rw [decide_eq_false (by omega)]; rfl)
      go_enter Try.func16, Try.ntmps16
      go_wp2
      go_ret
      exact ⟨retB G.out.symm, rfl⟩
  · have G := hide (show gmB g = false by unfold gmB; rw [decide_eq_false (by omega)]; rfl)
    go_enter Try.func16, Try.ntmps16
    go_wp2
    go_ret
    exact ⟨retB G.out.symm, rfl⟩
/-- a class that there is -/
theorem hasc_yes (g : Int) (sa ma : Option Addr) (c sc n mc k : Nat) (w : World) (hk : k < c) :
    Calls Try.prog 30 #[.agg #[.int .i64 g, .slice sa c sc, .slice ma n mc], .int .i64 (k : Int)] w fun e w' => e = .returned (.bool true) ∧ Fresh w w' := by
  have k0 : (0 : Int) ≤ (k : Int) := by omega
  have k1 : (k : Int) < (c : Int) := by omega
  have F := hide (fresh_box w #[.int .i64 g, .slice sa c sc, .slice ma n mc] 29)
  clear hk
  go_enter Try.func30, Try.ntmps30
  go_wp2
  go_ret
  exact ⟨rfl, F.out⟩
end Go.Proofs.Ytegolecdmpikhaa
