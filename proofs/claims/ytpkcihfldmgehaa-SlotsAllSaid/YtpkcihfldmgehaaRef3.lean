/- What the document's own answers to word are (hodmanref3's Bit, LowOne, LowZero, Ones, Mask, Nth), as contracts: the same plain functions as the program's package word has. -/
import Derived.Test.YtpkcihfldmgehaaBase
import Derived.Test.YtpkcihfldmgehaaWord
namespace Go.Proofs.Ytpkcihfldmgehaa
open Go.RowKit

/-! Bit -/
theorem bit_nat (u k : Nat) (hu : u < 18446744073709551616) (hk : k < 64) (w : World) :
    Calls Try.prog 52 #[.int .u64 (u : Int), .int .i64 (k : Int)] w fun e w' => e = .returned (.bool (u.testBit k)) ∧ w' = w := by
  have S := hide (bit_spelt u k hu)
  have T := hide (show ((k : Int)).toNat = k by omega)
  have U := hide (show (0 : Int) ≤ u ∧ (u : Int) ≤ 18446744073709551615 by omega)
  have h0 : (0 : Int) ≤ k := by omega
  have h1 : (k : Int) < 64 := by omega
  cases hb : u.testBit k with
  | false =>
    have z : (bits .and .u64 ((u : Int) / 2 ^ ((k : Int)).toNat) 1 == 1) = false := by rw [T.out, S.out, hb]; rfl
    obtain ⟨u0, u1⟩ := U.out
    clear hb hk hu
    generalize (u : Int) = x at *
    generalize (k : Int) = y at *
    go_enter Try.func52, Try.ntmps52
    go_wp2
    go_ret
    exact ⟨rfl, rfl⟩
  | true =>
    have z : (bits .and .u64 ((u : Int) / 2 ^ ((k : Int)).toNat) 1 == 1) = true := by rw [T.out, S.out, hb]; rfl
    obtain ⟨u0, u1⟩ := U.out
    clear hb hk hu
    generalize (u : Int) = x at *
    generalize (k : Int) = y at *
    go_enter Try.func52, Try.ntmps52
    go_wp2
    go_ret
    exact ⟨rfl, rfl⟩

theorem bit_to (x y : Int) (u k : Nat) (hx : x = u) (hy : y = k) (hu : u < 18446744073709551616) (hk : k < 64) (w : World) :
    Calls Try.prog 52 #[.int .u64 x, .int .i64 y] w fun e w' => e = .returned (.bool (u.testBit k)) ∧ w' = w := by
  subst hx; subst hy; exact bit_nat u k hu hk w
/-! LowOne, Nth: the lowest of those that are left -/
/-- the bits set from k on -/
def fromL (u k : Nat) : List Nat := ((List.range (64 - k)).map (k + ·)).filter fun i => u.testBit i
theorem fromL_zero (u : Nat) : fromL u 0 = onesL u := by unfold fromL onesL; simp
theorem fromL_end (u : Nat) : fromL u 64 = [] := rfl
theorem fromL_step (u k : Nat) (hk : k < 64) : fromL u k = if u.testBit k then k :: fromL u (k + 1) else fromL u (k + 1) := by
  unfold fromL
  rw [show 64 - k = (64 - (k + 1)) + 1 by omega, List.range_succ_eq_map, List.map_cons, List.filter_cons, Nat.add_zero, List.map_map]
  have e : ((k + ·) ∘ Nat.succ) = (k + 1 + ·) := by funext x; simp; omega
  rw [e]

/-! Ones -/
/-! Nth -/
theorem nth_from (u : Nat) (n : Int) : nthV u n = if n < 0 then 64 else ((fromL u 0)[n.toNat]?).getD 64 := by rw [fromL_zero]; rfl
theorem from_cons (u k : Nat) (hk : k < 64) (hb : u.testBit k = true) (m : Nat) : (fromL u k)[m + 1]? = (fromL u (k + 1))[m]? := by rw [fromL_step u k hk, if_pos hb]; rfl
theorem from_head (u k : Nat) (hk : k < 64) (hb : u.testBit k = true) : (fromL u k)[0]? = some k := by rw [fromL_step u k hk, if_pos hb]; rfl
theorem from_skip (u k : Nat) (hk : k < 64) (hb : u.testBit k = false) : fromL u k = fromL u (k + 1) := by rw [fromL_step u k hk, hb]; rfl
/-! Mask -/
theorem mod_on (M k : Nat) (hb : M.testBit k = true) : M % 2 ^ k ||| 2 ^ k = M % 2 ^ (k + 1) := by
  apply Nat.eq_of_testBit_eq
  intro j
  rw [Nat.testBit_or, Nat.testBit_mod_two_pow, Nat.testBit_mod_two_pow, Nat.testBit_two_pow]
  rcases Nat.lt_trichotomy j k with h | rfl | h
  · simp [h, show j < k + 1 by omega, show k ≠ j by omega]
  · simp [hb]
  · simp [show ¬ j < k by omega, show ¬ j < k + 1 by omega, show k ≠ j by omega]
theorem mod_off (M k : Nat) (hb : M.testBit k = false) : M % 2 ^ k = M % 2 ^ (k + 1) := by
  apply Nat.eq_of_testBit_eq
  intro j
  rw [Nat.testBit_mod_two_pow, Nat.testBit_mod_two_pow]
  rcases Nat.lt_trichotomy j k with h | rfl | h
  · simp [h, show j < k + 1 by omega]
  · simp [hb]
  · simp [show ¬ j < k by omega, show ¬ j < k + 1 by omega]
end Go.Proofs.Ytpkcihfldmgehaa
