/- What package row answers where it only reads (Has, Count, FirstZero), as contracts: plain functions of what is handed in. -/
import Derived.Test.YtniagepoddhlnaaRowLaw
import Derived.Test.YtniagepoddhlnaaRowStep
import Derived.Test.YtniagepoddhlnaaWord
import Derived.Deep.QuietTactic
import Derived.BigQuiet
namespace Go.Proofs.Ytniagepoddhlnaa
open Go.RowKit

theorem and63 (n : Int) : bits .and .i64 n 63 = n % 64 := by
  have h : (BitVec.ofInt 64 63).toNat = 2 ^ 6 - 1 := by decide
  have key : (BitVec.ofInt 64 n &&& BitVec.ofInt 64 63).toNat = (n % ((2 ^ 64 : Nat) : Int)).toNat % 2 ^ 6 := by
    rw [BitVec.toNat_and, BitVec.toNat_ofInt, h, Nat.and_two_pow_sub_one_eq_mod]
  show IntKind.i64.wrap ((BitVec.ofInt 64 n &&& BitVec.ofInt 64 63).toNat : Nat) = n % 64
  rw [key, IntKind.wrap_i64]
  omega
theorem and63_nat (j : Nat) : bits .and .i64 (j : Int) 63 = ((j % 64 : Nat) : Int) := by rw [and63]; omega
theorem hi64_6 (a : Nat) (h : a < 18446744073709551616) : a &&& (2 ^ 64 - 1 - 63) = 64 * (a / 64) := by
  refine eq_of_bits (Nat.lt_of_le_of_lt Nat.and_le_left h) (by omega) fun k hk => ?_
  have e : (2 ^ 64 - 1 - 63 : Nat) = maskN 6 58 := by decide
  rw [Nat.testBit_and, e, testBit_maskN]
  have e2 : 64 * (a / 64) = 2 ^ 6 * (a / 2 ^ 6) := by rw [show (2 : Nat) ^ 6 = 64 by decide]
  rw [e2, Nat.testBit_two_pow_mul]
  by_cases h6 : 6 ≤ k
  · rw [decide_eq_true h6, decide_eq_true (by omega), Bool.and_true, Bool.true_and, Nat.testBit_div_two_pow, show k - 6 + 6 = k by omega]
  · rw [decide_eq_false h6, decide_eq_false (by omega), Bool.and_false, Bool.false_and]
theorem andNot63 (j : Nat) (h : j < 9223372036854775807) : bits .andNot .i64 (j : Int) 63 = ((64 * (j / 64) : Nat) : Int) := by
  show IntKind.i64.wrap ((BitVec.ofInt 64 (j : Int) &&& ~~~BitVec.ofInt 64 ((63 : Nat) : Int)).toNat : Int) = _
  rw [BitVec.toNat_and, BitVec.toNat_not, ofInt_u64 j (by omega), ofInt_u64 63 (by omega), hi64_6 j (by omega), IntKind.wrap_i64]
  omega

theorem bits_any (a : Option Addr) (N cap : Nat) (hN : N ≤ 1099511627776) (w : World) :
    Calls Try.prog 21 #[.slice a N cap] w fun e w' => e = .returned (.int .i64 (64 * (N : Int))) ∧ w' = w := by
  have h1 : (0 : Int) ≤ (N : Int) := by omega
  have h2 : (N : Int) ≤ 1099511627776 := by omega
  go_enter Try.func21, Try.ntmps21
  go_wp2
  go_ret
  exact ⟨ret_int (by omega), rfl⟩
theorem next_nat (j : Nat) (hj : (j : Int) ≤ 70368744177664) (w : World) :
    Calls Try.prog 22 #[.int .i64 (j : Int)] w fun e w' => e = .returned (.int .i64 ((nextV j : Nat) : Int)) ∧ w' = w := by
  have E := hide (show ((nextV j : Nat) : Int) = 64 * ((j : Int) / 64 + 1) by unfold nextV; omega)
  have h1 : (0 : Int) ≤ (j : Int) := by omega
  generalize (j : Int) = x at *
  go_enter Try.func22, Try.ntmps22
  go_wp2
  go_ret
  exact ⟨ret_int (by rw [E.out]; omega), rfl⟩

def loV (N : Nat) (f n : Int) : Nat := if f < 0 ∨ n < 0 ∨ 64 * (N : Int) ≤ f then 0 else f.toNat
def hiV (N : Nat) (f n : Int) : Nat := if f < 0 ∨ n < 0 ∨ 64 * (N : Int) ≤ f then 0 else min (f.toNat + n.toNat) (64 * N)
theorem lo_hi (N : Nat) (f n : Int) : loV N f n ≤ hiV N f n ∧ hiV N f n ≤ 64 * N := by
  unfold loV hiV
  by_cases h : f < 0 ∨ n < 0 ∨ 64 * (N : Int) ≤ f
  · rw [if_pos h, if_pos h]; omega
  · rw [if_neg h, if_neg h]; omega
theorem set_lohi {ws : List Nat} (h : W64 ws) (f n : Int) (on : Bool) : setV ws (loV ws.length f n) (hiV ws.length f n - loV ws.length f n) on = setW ws f n on := by
  unfold loV hiV setW
  by_cases hb : f < 0 ∨ n < 0 ∨ 64 * (ws.length : Int) ≤ f
  · rw [if_pos hb, if_pos hb, Nat.sub_self, set_none h]
    by_cases h1 : f < 0 ∨ n < 0
    · rw [if_pos h1]
    · rw [if_neg h1]
      refine row_ext h (setV_64 h _ _ _) (by rw [setV_length]) fun i hi => ?_
      rw [bitV_setV, if_neg (by omega)]
  · rw [if_neg hb, if_neg hb, if_neg (by omega)]
    refine row_ext (setV_64 h _ _ _) (setV_64 h _ _ _) (by rw [setV_length, setV_length]) fun i hi => ?_
    rw [setV_length] at hi
    rw [bitV_setV, bitV_setV]
    by_cases h3 : f.toNat ≤ i ∧ i < f.toNat + n.toNat ∧ i < 64 * ws.length
    · rw [if_pos h3, if_pos (by omega)]
    · rw [if_neg h3, if_neg (by omega)]
theorem cnt_lohi (ws : List Nat) (f n : Int) : cnt (bitV ws) (loV ws.length f n) (hiV ws.length f n) = cntW ws f n := by
  unfold loV hiV cntW cntV
  by_cases hb : f < 0 ∨ n < 0 ∨ 64 * (ws.length : Int) ≤ f
  · rw [if_pos hb, if_pos hb, cnt_self _ _ _ (Nat.le_refl _)]
    by_cases h1 : f < 0 ∨ n < 0
    · rw [if_pos h1]
    · rw [if_neg h1, cnt_self _ _ _ (by omega)]
  · rw [if_neg hb, if_neg hb, if_neg (by omega)]
theorem within_any (a : Option Addr) (N cap : Nat) (f n : Int) (hN : N ≤ 1099511627776) (hf : -9223372036854775808 ≤ f) (hf' : f ≤ 9223372036854775807) (hn : -9223372036854775808 ≤ n) (hn' : n ≤ 9223372036854775807) (w : World) :
    Calls Try.prog 26 #[.slice a N cap, .int .i64 f, .int .i64 n] w fun e w' => e = .returned (.tuple #[.int .i64 ((loV N f n : Nat) : Int), .int .i64 ((hiV N f n : Nat) : Int)]) ∧ w' = w := by
  have hb1 : (0 : Int) ≤ (N : Int) := by omega
  have hb2 : (N : Int) ≤ 1099511627776 := by omega
  by_cases h0 : f < 0
  · have e1 : loV N f n = 0 := by unfold loV; rw [if_pos (Or.inl h0)]
    have e2 : hiV N f n = 0 := by unfold hiV; rw [if_pos (Or.inl h0)]
    rw [e1, e2]
    clear e1 e2
    go_enter Try.func26, Try.ntmps26
    go_wp2
    go_ret2
    exact ⟨rfl, rfl⟩
  by_cases h1 : n < 0
  · have e1 : loV N f n = 0 := by unfold loV; rw [if_pos (Or.inr (Or.inl h1))]
    have e2 : hiV N f n = 0 := by unfold hiV; rw [if_pos (Or.inr (Or.inl h1))]
    rw [e1, e2]
    clear e1 e2
    go_enter Try.func26, Try.ntmps26
    go_wp2
    go_ret2
    exact ⟨rfl, rfl⟩
  by_cases h2 : 64 * (N : Int) ≤ f
  · have e1 : loV N f n = 0 := by unfold loV; rw [if_pos (Or.inr (Or.inr h2))]
    have e2 : hiV N f n = 0 := by unfold hiV; rw [if_pos (Or.inr (Or.inr h2))]
    rw [e1, e2]
    clear e1 e2
    have g0 : 0 ≤ f := by omega
    have g1 : 0 ≤ n := by omega
    clear h0 h1
    have B := hide (bits_any a N cap hN w)
    clear hN
    go_enter Try.func26, Try.ntmps26
    go_wp2_with fail
    refine B.out.mono ?_
    rintro e w' ⟨rfl, rfl⟩
    go_wp2
    go_ret2
    exact ⟨rfl, rfl⟩
  · have E1 := hide (show ((loV N f n : Nat) : Int) = f by unfold loV; rw [if_neg (by omega)]; omega)
    have E2 := hide (show ((hiV N f n : Nat) : Int) = f + min n (64 * (N : Int) - f) by unfold hiV; rw [if_neg (by omega)]; omega)
    have g0 : 0 ≤ f := by omega
    have g1 : 0 ≤ n := by omega
    have g2 : f < 64 * (N : Int) := by omega
    rw [E1.out, E2.out]
    clear h0 h1 h2 E1 E2
    have B := hide (bits_any a N cap hN w)
    clear hN
    have m1 : min n (64 * (N : Int) - f) ≤ 64 * (N : Int) - f := Int.min_le_right _ _
    have m2 : 0 ≤ min n (64 * (N : Int) - f) := by omega
    go_enter Try.func26, Try.ntmps26
    go_wp2_with fail
    refine B.out.mono ?_
    rintro e w' ⟨rfl, rfl⟩
    go_wp2_with fail
    refine B.out.mono ?_
    rintro e w' ⟨rfl, rfl⟩
    go_wp2
    go_ret2
    exact ⟨rfl, rfl⟩

theorem hasw_any (v : Value) (ws : List Nat) (i : Int) (w : World) (h : WordsAt w v ws) (hi : -9223372036854775808 ≤ i) (hi' : i ≤ 9223372036854775807) :
    Calls Try.prog 12 #[v, .int .i64 i] w fun e w' => e = .returned (.bool (hasW ws i)) ∧ w' = w := by
  obtain ⟨a, cap, rfl, hl, h64, hn0, hc⟩ := h
  by_cases h0 : i < 0
  · have e : hasW ws i = false := by unfold hasW; rw [decide_eq_false (by omega)]; rfl
    rw [e]
    clear e hc hn0
    go_enter Try.func12, Try.ntmps12
    go_wp2
    go_ret
    exact ⟨rfl, rfl⟩
  obtain ⟨k, rfl⟩ : ∃ k : Nat, i = k := ⟨i.toNat, by omega⟩
  rw [hasW_pos]
  have B := hide (bits_any a ws.length cap hl w)
  have hl0 : (0 : Int) ≤ (ws.length : Int) := by omega
  have hl1 : (ws.length : Int) ≤ 1099511627776 := by omega
  by_cases h1 : 64 * ws.length ≤ k
  · rw [bitV_beyond ws k h1]
    have h2 : 64 * (ws.length : Int) ≤ (k : Int) := by omega
    clear hc h1 h0 hl h64 hn0
    generalize hL : (ws.length : Int) = L at *
    go_enter Try.func12, Try.ntmps12
    go_wp2_with fail
    refine B.out.mono ?_
    rintro e w' ⟨rfl, rfl⟩
    go_wp2
    go_ret
    exact ⟨rfl, rfl⟩
  · have h2 : (k : Int) < 64 * (ws.length : Int) := by omega
    obtain ⟨b, o, rfl, hcell⟩ := hc (k / 64) (by omega)
    clear hn0
    have hm := and63_nat k
    have e : bitV ws k = (ws.getD (k / 64) 0).testBit (k % 64) := rfl
    rw [e]
    have U := hide (h64.getD (k / 64))
    have hb := bit_spelt (ws.getD (k / 64) 0) (k % 64) U.out
    have hk : ((k % 64 : Nat) : Int).toNat = k % 64 := by omega
    clear e hc h0 hl
    generalize ws.getD (k / 64) 0 = u at *
    go_enter Try.func12, Try.ntmps12
    go_wp2_with fail
    refine B.out.mono ?_
    rintro e w' ⟨rfl, rfl⟩
    go_wp2
    all_goals
      go_ret
      exact ⟨rfl, rfl⟩
end Go.Proofs.Ytniagepoddhlnaa
