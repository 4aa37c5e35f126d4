/- Plain arithmetic of class, of no program: what is charged (P7.1), as plain functions. -/
import Derived.Test.YtoopeihnmlfneaaDoorConfMath
namespace Go.Proofs.YtoopeihnmlfneaaDoor
open Go.RowKit

/-- why nothing is charged: 3: no such alignment; 4: no such size; 0: something is -/
def chE (n s a : Int) : Int := if logB a && decide (a ≤ n) then (if decide (0 ≤ s) && decide (s ≤ n) then 0 else 4) else 3
/-- what is charged -/
def chV (g n s a : Int) : Int := if chE n s a = 0 then upV (max s (max a g)) else 0
/-- why there is no product: 2: a number below 0; 4: too much -/
def prE (n x y : Int) : Int := if decide (0 ≤ x) && decide (0 ≤ y) then (if mulB x y && decide (x * y ≤ n) then 0 else 4) else 2
def prV (n x y : Int) : Int := if prE n x y = 0 then x * y else 0

theorem ch_cases (g n s a : Int) :
    (chE n s a = 3 ∧ chV g n s a = 0 ∧ (logB a = false ∨ n < a)) ∨
    (chE n s a = 4 ∧ chV g n s a = 0 ∧ logB a = true ∧ a ≤ n ∧ (s < 0 ∨ n < s)) ∨
    (chE n s a = 0 ∧ chV g n s a = upV (max s (max a g)) ∧ logB a = true ∧ a ≤ n ∧ 0 ≤ s ∧ s ≤ n) := by
  by_cases h1 : logB a = true ∧ a ≤ n
  · by_cases h2 : 0 ≤ s ∧ s ≤ n
    · have e : chE n s a = 0 := by simp [chE, h1.1, h1.2, h2.1, h2.2]
      exact .inr (.inr ⟨e, by rw [chV, e]; rfl, h1.1, h1.2, h2.1, h2.2⟩)
    · have e : chE n s a = 4 := by
        have : (decide (0 ≤ s) && decide (s ≤ n)) = false := by
          rw [← Bool.not_eq_true, Bool.and_eq_true, decide_eq_true_eq, decide_eq_true_eq]; exact h2
        simp [chE, h1.1, h1.2, this]
      exact .inr (.inl ⟨e, by rw [chV, e]; rfl, h1.1, h1.2, by omega⟩)
  · have e : chE n s a = 3 := by
      have : (logB a && decide (a ≤ n)) = false := by
        rw [← Bool.not_eq_true, Bool.and_eq_true, decide_eq_true_eq]; exact h1
      simp [chE, this]
    refine .inl ⟨e, by rw [chV, e]; rfl, ?_⟩
    cases hb : logB a with
    | false => exact .inl rfl
    | true => exact .inr (Int.not_le.1 fun h => h1 ⟨hb, h⟩)

theorem pr_cases (n x y : Int) :
    (prE n x y = 2 ∧ prV n x y = 0 ∧ (x < 0 ∨ y < 0)) ∨
    (prE n x y = 4 ∧ prV n x y = 0 ∧ 0 ≤ x ∧ 0 ≤ y ∧ (mulB x y = false ∨ (mulB x y = true ∧ mulV x y = x * y ∧ n < x * y))) ∨
    (prE n x y = 0 ∧ prV n x y = x * y ∧ 0 ≤ x ∧ 0 ≤ y ∧ mulB x y = true ∧ mulV x y = x * y ∧ x * y ≤ n) := by
  by_cases h1 : 0 ≤ x ∧ 0 ≤ y
  · by_cases h2 : mulB x y = true ∧ x * y ≤ n
    · have e : prE n x y = 0 := by simp [prE, h1.1, h1.2, h2.1, h2.2]
      exact .inr (.inr ⟨e, by rw [prV, e]; rfl, h1.1, h1.2, h2.1, by simp [mulV, h2.1], h2.2⟩)
    · have e : prE n x y = 4 := by
        have : (mulB x y && decide (x * y ≤ n)) = false := by
          rw [← Bool.not_eq_true, Bool.and_eq_true, decide_eq_true_eq]; exact h2
        simp [prE, h1.1, h1.2, this]
      refine .inr (.inl ⟨e, by rw [prV, e]; rfl, h1.1, h1.2, ?_⟩)
      cases hb : mulB x y with
      | false => exact .inl rfl
      | true => exact .inr ⟨rfl, by simp [mulV, hb], Int.not_le.1 fun h => h2 ⟨hb, h⟩⟩
  · have e : prE n x y = 2 := by
      have : (decide (0 ≤ x) && decide (0 ≤ y)) = false := by
        rw [← Bool.not_eq_true, Bool.and_eq_true, decide_eq_true_eq, decide_eq_true_eq]; exact h1
      simp [prE, this]
    exact .inl ⟨e, by rw [prV, e]; rfl, by omega⟩
end Go.Proofs.YtoopeihnmlfneaaDoor
