/- Who is let in, plainly (P16.1). Of no program. -/
import Derived.Test.YtoopeihnmlfneaaDoorClassMath
namespace Go.Proofs.YtoopeihnmlfneaaDoor
open Go.RowKit

/-- why one is not let in: what Charge says; 5: too much would be live; 0: it is -/
def adE (g n m live s a : Int) : Int := if chE n s a = 0 then (if live + chV g n s a ≤ m then 0 else 5) else chE n s a
/-- what is charged -/
def adV (g n m live s a : Int) : Int := if adE g n m live s a = 0 then chV g n s a else 0
/-- so many of so much -/
def maE (g n m live x s : Int) : Int := if prE n x s = 0 then adE g n m live (prV n x s) 1 else prE n x s
def maV (g n m live x s : Int) : Int := if prE n x s = 0 then adV g n m live (prV n x s) 1 else 0
theorem ch_range {g n s a : Int} (g1 : 1 ≤ g) (g2 : g ≤ 65536) (n2 : n ≤ 65536) (h : chE n s a = 0) : 1 ≤ chV g n s a ∧ chV g n s a ≤ 65536 := by
  rcases ch_cases g n s a with ⟨e, _⟩ | ⟨e, _⟩ | ⟨_, e, _, h1, h2, h3⟩
  · omega
  · omega
  · obtain ⟨k, hk, _, _, e2⟩ := upV_pow (v := max s (max a g)) (by omega) (by omega)
    rw [e, e2]
    have h1 : 1 ≤ 2 ^ k := Nat.one_le_two_pow
    have h2 : 2 ^ k ≤ 2 ^ 16 := Nat.pow_le_pow_right (by decide) hk
    omega
theorem ad_cases (g n m live s a : Int) :
    (chE n s a ≠ 0 ∧ adE g n m live s a = chE n s a ∧ adV g n m live s a = 0) ∨
    (chE n s a = 0 ∧ m < live + chV g n s a ∧ adE g n m live s a = 5 ∧ adV g n m live s a = 0) ∨
    (chE n s a = 0 ∧ live + chV g n s a ≤ m ∧ adE g n m live s a = 0 ∧ adV g n m live s a = chV g n s a) := by
  by_cases h : chE n s a = 0
  · by_cases h2 : live + chV g n s a ≤ m
    · have e : adE g n m live s a = 0 := by unfold adE; rw [if_pos h, if_pos h2]
      exact .inr (.inr ⟨h, h2, e, by unfold adV; rw [if_pos e]⟩)
    · have e : adE g n m live s a = 5 := by unfold adE; rw [if_pos h, if_neg h2]
      exact .inr (.inl ⟨h, by omega, e, by unfold adV; rw [if_neg (by omega)]⟩)
  · have e : adE g n m live s a = chE n s a := by unfold adE; rw [if_neg h]
    exact .inl ⟨h, e, by unfold adV; rw [if_neg (by omega)]⟩
theorem ma_yes {g n m live x s : Int} (h : prE n x s = 0) : maE g n m live x s = adE g n m live (x * s) 1 ∧ maV g n m live x s = adV g n m live (x * s) 1 := by
  have e : prV n x s = x * s := by unfold prV; rw [if_pos h]
  unfold maE maV
  rw [if_pos h, if_pos h, e]
  exact ⟨rfl, rfl⟩
theorem ma_no {g n m live x s : Int} (h : prE n x s ≠ 0) : maE g n m live x s = prE n x s ∧ maV g n m live x s = 0 := by
  unfold maE maV
  rw [if_neg h, if_neg h]
  exact ⟨rfl, rfl⟩
/-- what follows: who is let in at so much is at less, at the same charge -/
theorem ad_less {g n m l k s a : Int} (g1 : 1 ≤ g) (g2 : g ≤ 65536) (n2 : n ≤ 65536) (hk : k ≤ l) (h : adE g n m l s a = 0) :
    1 ≤ adV g n m l s a ∧ l + adV g n m l s a ≤ m ∧ adE g n m k s a = 0 ∧ adV g n m k s a = adV g n m l s a := by
  rcases ad_cases g n m l s a with ⟨h1, e, _⟩ | ⟨_, _, e, _⟩ | ⟨h1, h2, _, v⟩
  · omega
  · omega
  · have r := ch_range g1 g2 n2 h1
    rcases ad_cases g n m k s a with ⟨h1', _, _⟩ | ⟨_, h2', _, _⟩ | ⟨_, _, e', v'⟩
    · omega
    · omega
    · rw [v, v', e']
      exact ⟨r.1, h2, rfl, rfl⟩
theorem ad_none {g n m l s a : Int} (h : adE g n m l s a ≠ 0) : adV g n m l s a = 0 := by unfold adV; rw [if_neg h]
theorem ad_far {g n m l k s a : Int} (h : adE g n m l s a = 5) (h2 : adE g n m k s a = 0) : m < l + adV g n m k s a := by
  rcases ad_cases g n m l s a with ⟨h1, e, _⟩ | ⟨_, h3, _, _⟩ | ⟨_, _, e, _⟩
  · rcases ch_cases g n s a with ⟨e3, _⟩ | ⟨e3, _⟩ | ⟨e3, _⟩ <;> omega
  · rcases ad_cases g n m k s a with ⟨_, _, _⟩ | ⟨_, _, e', _⟩ | ⟨_, _, _, v'⟩
    · omega
    · omega
    · rw [v']; exact h3
  · omega
end Go.Proofs.YtoopeihnmlfneaaDoor
