/- How the walk spells bits of an int (x & 63, x &^ 63) and of words; rows of new memory as blocks; a callee that draws nothing. -/
import Derived.Test.YtpkcihfldmgehaaRowMem
import Derived.Test.YtpkcihfldmgehaaWordMath
import Derived.Deep.QuietTactic
import Derived.Laws.CopyOwn
namespace Go.Proofs.Ytpkcihfldmgehaa
open Go.RowKit

theorem and63 (n : Int) : bits .and .i64 n 63 = n % 64 := by
  have h : (BitVec.ofInt 64 63).toNat = 2 ^ 6 - 1 := by decide
  have key : (BitVec.ofInt 64 n &&& BitVec.ofInt 64 63).toNat = (n % ((2 ^ 64 : Nat) : Int)).toNat % 2 ^ 6 := by
    rw [BitVec.toNat_and, BitVec.toNat_ofInt, h, Nat.and_two_pow_sub_one_eq_mod]
  show IntKind.i64.wrap ((BitVec.ofInt 64 n &&& BitVec.ofInt 64 63).toNat : Nat) = n % 64
  rw [key, IntKind.wrap_i64]
  omega
theorem and63_nat (j : Nat) : bits .and .i64 (j : Int) 63 = ((j % 64 : Nat) : Int) := by rw [and63]; omega
theorem hi64_6 (a : Nat) (h : a < 18446744073709551616) : a &&& (2 ^ 64 - 1 - 63) = 64 * (a / 64) := by
  refine eq_of_bits (Nat.lt_of_le_of_lt Nat.and_le_left h) (by omega) fun k hk => ?_
  have e : (2 ^ 64 - 1 - 63 : Nat) = maskN 6 58 := by decide
  rw [Nat.testBit_and, e, testBit_maskN]
  have e2 : 64 * (a / 64) = 2 ^ 6 * (a / 2 ^ 6) := by rw [show (2 : Nat) ^ 6 = 64 by decide]
  rw [e2, Nat.testBit_two_pow_mul]
  by_cases h6 : 6 ≤ k
  · rw [decide_eq_true h6, decide_eq_true (by omega), Bool.and_true, Bool.true_and, Nat.testBit_div_two_pow, show k - 6 + 6 = k by omega]
  · rw [decide_eq_false h6, decide_eq_false (by omega), Bool.and_false, Bool.false_and]
theorem andNot63 (j : Nat) (h : j < 9223372036854775807) : bits .andNot .i64 (j : Int) 63 = ((64 * (j / 64) : Nat) : Int) := by
  show IntKind.i64.wrap ((BitVec.ofInt 64 (j : Int) &&& ~~~BitVec.ofInt 64 ((63 : Nat) : Int)).toNat : Int) = _
  rw [BitVec.toNat_and, BitVec.toNat_not, ofInt_u64 j (by omega), ofInt_u64 63 (by omega), hi64_6 j (by omega), IntKind.wrap_i64]
  omega


theorem or_spelt (a b : Nat) (ha : a < 18446744073709551616) (hb : b < 18446744073709551616) : bits .or .u64 (a : Int) (b : Int) = ((a ||| b : Nat) : Int) := u64_or_nat a b ha hb

theorem zeros_vals (n : Nat) : wvals (List.replicate n 0) = List.replicate n (.int .u64 0) := by unfold wvals; rw [List.map_replicate]; rfl
theorem toList_zeros (n : Nat) : (madeCells (Value.int .u64 0).cells (n * 1)).toList = wvals (List.replicate n 0) := by
  rw [Nat.mul_one, zeros_vals]
  exact toList_madeCells_one _ _

/-- a block's cells as a row of new memory -/
theorem ownW_of_block {w : World} {base g n : Nat} {ws : List Nat} (hb : base ≤ g) (hg : w.heap[g]? = some (.cells (wvals ws).toArray 67 (0, 0))) (hn : ws.length = n) (hn1 : n ≤ maxLen) : OwnW w base (.slice (some ⟨g, 0, none⟩) n n) ws := by
  subst hn
  refine ⟨by rw [wvals_length, Nat.mul_one], .inr ⟨g, ws.length, (wvals ws).toArray, rfl, hb, hg, Nat.le_refl _, hn1, by simp [wvals_length], ?_⟩⟩
  show List.take (ws.length * 1) (wvals ws) = _
  exact List.take_of_length_le (by rw [wvals_length, Nat.mul_one]; exact Nat.le_refl _)
theorem block_of_own {w : World} {base g n : Nat} {xs : List Value} (h : w.ownsRow base 67 1 (.slice (some ⟨g, 0, none⟩) n n) n xs) : base ≤ g ∧ w.heap[g]? = some (.cells xs.toArray 67 (0, 0)) := by
  rcases h.2 with ⟨h', _⟩ | ⟨g', cap', cur, h', hb, hg, hnc, hcm, hcs, htake⟩
  · simp at h'
  · simp only [Value.slice.injEq, Option.some.injEq, Addr.mk.injEq, and_true, true_and] at h'
    obtain ⟨rfl, rfl⟩ := h'
    refine ⟨hb, ?_⟩
    rw [hg]
    have e : cur.toList = xs := by rw [← htake]; exact (List.take_of_length_le (by rw [Array.length_toList, hcs]; exact Nat.le_refl _)).symm
    rw [← e]
theorem splice_whole (xs ys : List Value) (h : ys.length = xs.length) : splice xs 0 ys = ys := by
  unfold splice
  rw [List.take_zero, List.nil_append, Nat.zero_add, h, List.drop_length, List.append_nil]
theorem OwnW.put {w : World} {base g cap : Nat} {ws : List Nat} {N : Nat} (h : OwnW w base (.slice (some ⟨g, 0, none⟩) N cap) ws) (hN : N = ws.length) (k x : Nat) :
    OwnW (w.setCell ⟨g, k, none⟩ (.int .u64 ((x : Nat) : Int))) base (.slice (some ⟨g, 0, none⟩) N cap) (ws.set k x) := by
  subst hN
  have := (World.ownsRow.stored h k (.int .u64 ((x : Nat) : Int))).1
  rw [wvals_set] at this
  unfold OwnW
  rw [List.length_set]
  exact this
theorem andNot_spelt (a b : Nat) (ha : a < 18446744073709551616) (hb : b < 18446744073709551616) : bits .andNot .u64 (a : Int) (b : Int) = ((a &&& notV b : Nat) : Int) := u64_andNot_nat a b ha hb
end Go.Proofs.Ytpkcihfldmgehaa
