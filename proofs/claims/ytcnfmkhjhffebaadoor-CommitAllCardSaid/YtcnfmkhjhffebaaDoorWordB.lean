/- A word of bits, of what is said of each: those below m. Of no program. -/
import Derived.RowKit
namespace Go.Proofs.YtcnfmkhjhffebaaDoor
open Go.RowKit

/-- a word of bits, those below m -/
def wordB (q : Nat → Bool) : Nat → Nat
  | 0 => 0
  | m + 1 => wordB q m ||| (if q m then 2 ^ m else 0)
theorem wordB_lt (q : Nat → Bool) : ∀ m, wordB q m < 2 ^ m
  | 0 => Nat.one_pos
  | m + 1 => by
    have h := wordB_lt q m
    have h2 : 2 ^ m < 2 ^ (m + 1) := Nat.pow_lt_pow_right (by decide) (by omega)
    refine Nat.or_lt_two_pow (Nat.lt_trans h h2) ?_
    split
    · exact h2
    · exact Nat.two_pow_pos _
theorem wordB_bit (q : Nat → Bool) (k : Nat) : ∀ m, (wordB q m).testBit k = (decide (k < m) && q k)
  | 0 => by simp [wordB]
  | m + 1 => by
    show (wordB q m ||| _).testBit k = _
    rw [Nat.testBit_or, wordB_bit q k m]
    by_cases hk : k = m
    · subst hk
      cases hq : q k <;> simp
    · have hz : (if q m = true then 2 ^ m else 0).testBit k = false := by
        split
        · rw [Nat.testBit_two_pow]; exact decide_eq_false (fun e => hk e.symm)
        · exact Nat.zero_testBit _
      rw [hz, Bool.or_false]
      congr 1
      apply decide_eq_decide.2
      omega
end Go.Proofs.YtcnfmkhjhffebaaDoor
