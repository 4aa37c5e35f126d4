/- How the walk spells words of 64 bits: and, or, and not, shifts by so many, one bit. Of no program. -/
import Derived.Test.YtcnfmkhjhffebaaDoorBase
import Derived.Test.YtcnfmkhjhffebaaDoorWordMath
import Derived.Laws.BitsAllLaws
namespace Go.Proofs.YtcnfmkhjhffebaaDoor
open Go.RowKit

theorem cast_pow2 (k : Nat) : (2 : Int) ^ k = ((2 ^ k : Nat) : Int) := by rw [Int.natCast_pow]; rfl
theorem and_spelt (a b : Nat) (ha : a < 18446744073709551616) (hb : b < 18446744073709551616) : bits .and .u64 (a : Int) (b : Int) = ((a &&& b : Nat) : Int) := u64_and_nat a b ha hb
theorem or_spelt (a b : Nat) (ha : a < 18446744073709551616) (hb : b < 18446744073709551616) : bits .or .u64 (a : Int) (b : Int) = ((a ||| b : Nat) : Int) := u64_or_nat a b ha hb
theorem andNot_spelt (a b : Nat) (ha : a < 18446744073709551616) (hb : b < 18446744073709551616) : bits .andNot .u64 (a : Int) (b : Int) = ((a &&& notV b : Nat) : Int) := u64_andNot_nat a b ha hb
theorem shr_nat (v h : Nat) : ((v : Int) / 2 ^ h) = ((v / 2 ^ h : Nat) : Int) := by rw [cast_pow2]; exact (Int.natCast_ediv _ _).symm

theorem bit_spelt (u k : Nat) (hu : u < 18446744073709551616) : bits .and .u64 ((u : Int) / 2 ^ k) 1 = (if u.testBit k then 1 else 0 : Int) := by
  rw [shr_nat]
  have h := and_spelt (u / 2 ^ k) 1 (Nat.lt_of_le_of_lt (Nat.div_le_self _ _) hu) (by decide)
  rw [show ((1 : Nat) : Int) = 1 by rfl] at h
  rw [h, Nat.and_one_is_mod]
  have e : u.testBit k = decide (u / 2 ^ k % 2 = 1) := Nat.testBit_eq_decide_div_mod_eq
  rw [e]
  rcases Nat.mod_two_eq_zero_or_one (u / 2 ^ k) with h | h <;> rw [h] <;> rfl
end Go.Proofs.YtcnfmkhjhffebaaDoor
