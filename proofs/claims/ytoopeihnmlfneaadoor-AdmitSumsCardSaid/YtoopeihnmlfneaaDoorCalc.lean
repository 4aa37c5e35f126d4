/- What the program's package calc answers (Add, Mul, Up, Log, Round), as contracts: each call returns just this, and changes nothing. Condition of Log: the library's table lies in its variable. -/
import Derived.Test.YtoopeihnmlfneaaDoorBase
import Derived.Test.YtoopeihnmlfneaaDoorShelf
import Derived.Test.YtoopeihnmlfneaaDoorCalcMath
import Derived.WalkKit
import Derived.WalkSpells
namespace Go.Proofs.YtoopeihnmlfneaaDoor
open Go.RowKit

theorem wrap64_over (n : Int) (h1 : 9223372036854775808 ≤ n) (h2 : n ≤ 18446744073709551615) : wrap64 n = n - 18446744073709551616 := by unfold wrap64; omega
theorem wrap64_under (n : Int) (h1 : n ≤ -9223372036854775809) (h2 : -18446744073709551616 ≤ n) : wrap64 n = n + 18446744073709551616 := by unfold wrap64; omega

theorem neg_wrap (a : Int) (h1 : -9223372036854775808 ≤ a) (h2 : a < 0) : IntKind.u64.wrap (-IntKind.u64.wrap a) = (a.natAbs : Int) := by
  rw [IntKind.wrap_u64, IntKind.wrap_u64]; omega

theorem magnitude_any (a : Int) (w : World) (ha : -9223372036854775808 ≤ a) (ha' : a ≤ 9223372036854775807) :
    Calls Tryd.prog 34 #[.int .i64 a] w fun e w' => e = .returned (.int .u64 (a.natAbs : Int)) ∧ w' = w := by
  by_cases h1 : a < 0
  · go_enter Tryd.func34, Tryd.ntmps34
    go_wp2
    go_ret
    exact ⟨ret_int (neg_wrap a ha h1), rfl⟩
  · go_enter Tryd.func34, Tryd.ntmps34
    go_wp2
    go_ret
    exact ⟨ret_int (by omega), rfl⟩

theorem fzo_yes (n : Int) (w : World) (h0 : 0 ≤ n) (h1 : n < 9223372036854775808) :
    Calls Tryd.prog 35 #[.int .u64 n] w fun e w' => e = .returned (.tuple #[.int .i64 n, .bool true]) ∧ w' = w := by
  go_enter Tryd.func35, Tryd.ntmps35
  go_wp2
  go_ret2
  exact ⟨rfl, rfl⟩
theorem fzo_no (n : Int) (w : World) (h0 : 9223372036854775808 ≤ n) :
    Calls Tryd.prog 35 #[.int .u64 n] w fun e w' => e = .returned (.tuple #[.int .i64 0, .bool false]) ∧ w' = w := by
  go_enter Tryd.func35, Tryd.ntmps35
  go_wp2
  go_ret2
  exact ⟨rfl, rfl⟩
theorem toz_wrap (n : Int) (h0 : 0 ≤ n) (h1 : n ≤ 9223372036854775808) : wrap64 (IntKind.u64.wrap (-n)) = -n := by
  rw [IntKind.wrap_u64]; unfold wrap64; omega
theorem toz_yes (n : Int) (w : World) (h0 : 0 ≤ n) (h1 : n ≤ 9223372036854775808) :
    Calls Tryd.prog 36 #[.int .u64 n] w fun e w' => e = .returned (.tuple #[.int .i64 (-n), .bool true]) ∧ w' = w := by
  go_enter Tryd.func36, Tryd.ntmps36
  go_wp2
  go_ret2
  exact ⟨ret_int_bool (toz_wrap n h0 h1), rfl⟩
theorem toz_no (n : Int) (w : World) (h0 : 9223372036854775808 < n) :
    Calls Tryd.prog 36 #[.int .u64 n] w fun e w' => e = .returned (.tuple #[.int .i64 0, .bool false]) ∧ w' = w := by
  go_enter Tryd.func36, Tryd.ntmps36
  go_wp2
  go_ret2
  exact ⟨rfl, rfl⟩

/-- Mul64 at a product that fits 64 bits without a sign. -/
theorem mul64_fits (x y n : Nat) (w : World) (hx : x < 18446744073709551616) (hy : y < 18446744073709551616) (hn : x * y = n) (hf : n < 18446744073709551616) :
    Calls Tryd.prog 33 #[.int .u64 x, .int .u64 y] w fun e w' => e = .returned (.tuple #[.int .u64 0, .int .u64 n]) ∧ w' = w := by
  refine (Tryd.bits_Mul64 x y hx hy w).mono ?_
  rintro e w' ⟨rfl, rfl⟩
  rw [hn, Nat.div_eq_of_lt hf, Nat.mod_eq_of_lt hf]
  exact ⟨rfl, rfl⟩
/-- and one that does not: the upper half is not nought. -/
theorem mul64_over (x y : Nat) (w : World) (hx : x < 18446744073709551616) (hy : y < 18446744073709551616) (hf : 18446744073709551616 ≤ x * y) :
    Calls Tryd.prog 33 #[.int .u64 x, .int .u64 y] w fun e w' => ∃ h l : Int, e = .returned (.tuple #[.int .u64 h, .int .u64 l]) ∧ 1 ≤ h ∧ w' = w := by
  refine (Tryd.bits_Mul64 x y hx hy w).mono ?_
  rintro e w' ⟨rfl, rfl⟩
  have : 1 ≤ x * y / 18446744073709551616 := (Nat.le_div_iff_mul_le (by omega)).2 (by omega)
  exact ⟨_, _, rfl, by omega, rfl⟩

theorem mul_yes (a b : Int) (w : World) (ha : -9223372036854775808 ≤ a) (ha' : a ≤ 9223372036854775807) (hb : -9223372036854775808 ≤ b) (hb' : b ≤ 9223372036854775807) (h : -9223372036854775808 ≤ a * b) (h' : a * b ≤ 9223372036854775807) :
    Calls Tryd.prog 27 #[.int .i64 a, .int .i64 b] w fun e w' => e = .returned (.tuple #[.int .i64 (a * b), .bool true]) ∧ w' = w := by
  have hn := hide (Int.natAbs_mul a b).symm
  by_cases h1 : a < 0 <;> by_cases h2 : b < 0
  · have h3 := Int.mul_pos_of_neg_of_neg h1 h2
    go_enter Tryd.func27, Tryd.ntmps27
    go_wp2_with fail
    refine (magnitude_any a _ ha ha').mono ?_
    rintro e w' ⟨rfl, rfl⟩
    go_wp2_with fail
    refine (magnitude_any b _ hb hb').mono ?_
    rintro e w' ⟨rfl, rfl⟩
    go_wp2_with fail
    refine (mul64_fits a.natAbs b.natAbs (a * b).natAbs _ (by omega) (by omega) hn.out (by omega)).mono ?_
    rintro e w' ⟨rfl, rfl⟩
    go_wp2_with fail
    refine (fzo_yes _ _ (by omega) (by omega)).mono ?_
    rintro e w' ⟨rfl, rfl⟩
    go_wp2
    go_ret2
    exact ⟨ret_int_bool (by omega), rfl⟩
  · have h3 := Int.mul_nonpos_of_nonpos_of_nonneg (Int.le_of_lt h1) (Int.not_lt.1 h2)
    go_enter Tryd.func27, Tryd.ntmps27
    go_wp2_with fail
    refine (magnitude_any a _ ha ha').mono ?_
    rintro e w' ⟨rfl, rfl⟩
    go_wp2_with fail
    refine (magnitude_any b _ hb hb').mono ?_
    rintro e w' ⟨rfl, rfl⟩
    go_wp2_with fail
    refine (mul64_fits a.natAbs b.natAbs (a * b).natAbs _ (by omega) (by omega) hn.out (by omega)).mono ?_
    rintro e w' ⟨rfl, rfl⟩
    go_wp2_with fail
    refine (toz_yes _ _ (by omega) (by omega)).mono ?_
    rintro e w' ⟨rfl, rfl⟩
    go_wp2
    go_ret2
    exact ⟨ret_int_bool (by omega), rfl⟩
  · have h3 := Int.mul_nonpos_of_nonneg_of_nonpos (Int.not_lt.1 h1) (Int.le_of_lt h2)
    go_enter Tryd.func27, Tryd.ntmps27
    go_wp2_with fail
    refine (magnitude_any a _ ha ha').mono ?_
    rintro e w' ⟨rfl, rfl⟩
    go_wp2_with fail
    refine (magnitude_any b _ hb hb').mono ?_
    rintro e w' ⟨rfl, rfl⟩
    go_wp2_with fail
    refine (mul64_fits a.natAbs b.natAbs (a * b).natAbs _ (by omega) (by omega) hn.out (by omega)).mono ?_
    rintro e w' ⟨rfl, rfl⟩
    go_wp2_with fail
    refine (toz_yes _ _ (by omega) (by omega)).mono ?_
    rintro e w' ⟨rfl, rfl⟩
    go_wp2
    go_ret2
    exact ⟨ret_int_bool (by omega), rfl⟩
  · have h3 := Int.mul_nonneg (Int.not_lt.1 h1) (Int.not_lt.1 h2)
    have hd : (decide (a < 0) == decide (b < 0)) = true := by simp [h1, h2]
    go_enter Tryd.func27, Tryd.ntmps27
    go_wp2_with fail
    refine (magnitude_any a _ ha ha').mono ?_
    rintro e w' ⟨rfl, rfl⟩
    go_wp2_with fail
    refine (magnitude_any b _ hb hb').mono ?_
    rintro e w' ⟨rfl, rfl⟩
    go_wp2_with fail
    refine (mul64_fits a.natAbs b.natAbs (a * b).natAbs _ (by omega) (by omega) hn.out (by omega)).mono ?_
    rintro e w' ⟨rfl, rfl⟩
    go_wp2_with fail
    refine (fzo_yes _ _ (by omega) (by omega)).mono ?_
    rintro e w' ⟨rfl, rfl⟩
    go_wp2
    go_ret2
    exact ⟨ret_int_bool (by omega), rfl⟩

/-- what a product that is none of 64 bits with a sign comes to in magnitudes -/
theorem mul_no (a b : Int) (w : World) (ha : -9223372036854775808 ≤ a) (ha' : a ≤ 9223372036854775807) (hb : -9223372036854775808 ≤ b) (hb' : b ≤ 9223372036854775807) (h : a * b < -9223372036854775808 ∨ 9223372036854775807 < a * b) :
    Calls Tryd.prog 27 #[.int .i64 a, .int .i64 b] w fun e w' => e = .returned (.tuple #[.int .i64 0, .bool false]) ∧ w' = w := by
  have hn := hide (Int.natAbs_mul a b).symm
  by_cases hf : (a * b).natAbs < 18446744073709551616
  · by_cases hd : (decide (a < 0) == decide (b < 0)) = true
    · have h3 : 0 ≤ a * b := by
        simp only [beq_iff_eq, decide_eq_decide] at hd
        by_cases h1 : a < 0
        · exact Int.mul_nonneg_of_nonpos_of_nonpos (by omega) (by have := hd.1 h1; omega)
        · exact Int.mul_nonneg (by omega) (by have := fun x => h1 (hd.2 x); omega)
      go_enter Tryd.func27, Tryd.ntmps27
      go_wp2_with fail
      refine (magnitude_any a _ ha ha').mono ?_
      rintro e w' ⟨rfl, rfl⟩
      go_wp2_with fail
      refine (magnitude_any b _ hb hb').mono ?_
      rintro e w' ⟨rfl, rfl⟩
      go_wp2_with fail
      refine (mul64_fits a.natAbs b.natAbs (a * b).natAbs _ (by omega) (by omega) hn.out (by omega)).mono ?_
      rintro e w' ⟨rfl, rfl⟩
      go_wp2_with fail
      refine (fzo_no _ _ (by omega)).mono ?_
      rintro e w' ⟨rfl, rfl⟩
      go_wp2
      go_ret2
      exact ⟨rfl, rfl⟩
    · have h3 : a * b ≤ 0 := by
        by_cases h1 : a < 0
        · have h2 : ¬ b < 0 := fun h2 => hd (by simp [h1, h2])
          exact Int.mul_nonpos_of_nonpos_of_nonneg (by omega) (by omega)
        · have h2 : b < 0 := by
            refine Int.not_le.1 fun h2 => hd ?_
            have h2' : ¬ b < 0 := by omega
            simp [h1, h2']
          exact Int.mul_nonpos_of_nonneg_of_nonpos (by omega) (by omega)
      have hd' : (decide (a < 0) == decide (b < 0)) = false := by simpa using hd
      clear hd
      go_enter Tryd.func27, Tryd.ntmps27
      go_wp2_with fail
      refine (magnitude_any a _ ha ha').mono ?_
      rintro e w' ⟨rfl, rfl⟩
      go_wp2_with fail
      refine (magnitude_any b _ hb hb').mono ?_
      rintro e w' ⟨rfl, rfl⟩
      go_wp2_with fail
      refine (mul64_fits a.natAbs b.natAbs (a * b).natAbs _ (by omega) (by omega) hn.out (by omega)).mono ?_
      rintro e w' ⟨rfl, rfl⟩
      go_wp2_with fail
      refine (toz_no _ _ (by omega)).mono ?_
      rintro e w' ⟨rfl, rfl⟩
      go_wp2
      go_ret2
      exact ⟨rfl, rfl⟩
  · go_enter Tryd.func27, Tryd.ntmps27
    go_wp2_with fail
    refine (magnitude_any a _ ha ha').mono ?_
    rintro e w' ⟨rfl, rfl⟩
    go_wp2_with fail
    refine (magnitude_any b _ hb hb').mono ?_
    rintro e w' ⟨rfl, rfl⟩
    go_wp2_with fail
    refine (mul64_over a.natAbs b.natAbs _ (by omega) (by omega) (by rw [hn.out]; omega)).mono ?_
    rintro e w' ⟨hi, lo, rfl, hhi, rfl⟩
    go_wp2
    go_ret2
    exact ⟨rfl, rfl⟩

theorem wrap_pow (k : Nat) (hk : k ≤ 62) : IntKind.u64.wrap (2 ^ k) = ((2 ^ k : Nat) : Int) := by
  have := pow_62 hk
  rw [IntKind.wrap_u64, ← pow_cast]; omega

theorem up_yes (v : Int) (k : Nat) (w : World) (h1 : 1 ≤ v) (h2 : v ≤ 4611686018427387904) (hk : k ≤ 62) (hl : Least v.toNat k) :
    Calls Tryd.prog 31 #[.int .i64 v] w fun e w' => e = .returned (.tuple #[.int .i64 ((2 ^ k : Nat) : Int), .bool true]) ∧ w' = w := by
  have e1 : Lib.bitLen (v - 1).toNat = k := by
    rw [show (v - 1).toNat = v.toNat - 1 by omega]; exact least_unique (least_bitLen v.toNat (by omega) (by omega)) hl
  have c1 := fun w => Tryd.bits_Len64 (v - 1) w (by omega) (by omega)
  rw [e1] at c1
  have H1 := hide c1; clear c1 e1
  have hp := pow_62 hk
  go_enter Tryd.func31, Tryd.ntmps31
  go_wp2_with fail
  refine (H1.out _).mono ?_
  rintro e w' ⟨rfl, rfl⟩
  go_wp2_with fail
  rw [wrap_pow k hk]
  refine (fzo_yes _ _ (by omega) (by omega)).mono ?_
  rintro e w' ⟨rfl, rfl⟩
  go_wp2
  go_ret2
  exact ⟨rfl, rfl⟩

theorem bitLen_63 (n : Nat) (h1 : 4611686018427387904 ≤ n) (h2 : n ≤ 9223372036854775807) : Lib.bitLen n = 63 := by
  obtain ⟨a, b, _⟩ := bitLen_spec n (by omega)
  have b' := b (by omega)
  have h3 : 62 < Lib.bitLen n := pow_lt_of (by omega)
  have h4 : Lib.bitLen n < 64 := pow_lt_of (by omega)
  omega
theorem up_no (v : Int) (w : World) (hv : -9223372036854775808 ≤ v) (hv' : v ≤ 9223372036854775807) (h : v < 1 ∨ 4611686018427387904 < v) :
    Calls Tryd.prog 31 #[.int .i64 v] w fun e w' => e = .returned (.tuple #[.int .i64 0, .bool false]) ∧ w' = w := by
  rcases h with h | h
  · go_enter Tryd.func31, Tryd.ntmps31
    go_wp2
    go_ret2
    exact ⟨rfl, rfl⟩
  · have c1 := fun w => Tryd.bits_Len64 (v - 1) w (by omega) (by omega)
    rw [bitLen_63 _ (by omega) (by omega)] at c1
    have H1 := hide c1; clear c1
    go_enter Tryd.func31, Tryd.ntmps31
    go_wp2_with fail
    refine (H1.out _).mono ?_
    rintro e w' ⟨rfl, rfl⟩
    go_wp2_with fail
    refine (fzo_no _ _ (by omega)).mono ?_
    rintro e w' ⟨rfl, rfl⟩
    go_wp2
    go_ret2
    exact ⟨rfl, rfl⟩

/-- the library's table lies in its variable -/
def Tab (w : World) : Prop := TabAt 0 Lib.deBruijn64tab w
theorem Tab.kept {w w' : World} (h : Tab w) (k : Kept w w') : Tab w' := fun j hj => k.cell (h j hj)

theorem log_yes (k : Nat) (w : World) (hk : k ≤ 62) (hT : Tab w) :
    Calls Tryd.prog 30 #[.int .i64 ((2 ^ k : Nat) : Int)] w fun e w' => e = .returned (.tuple #[.int .i64 k, .bool true]) ∧ w' = w := by
  have hp := pow_62 hk
  have c1 := Tryd.bits_TrailingZeros64 (2 ^ k) (by omega) w (fun _ => hT)
  rw [ctz_pow k (by omega)] at c1
  have H1 := hide c1; clear c1
  have ha : bits .and .i64 ((2 ^ k : Nat) : Int) (((2 ^ k : Nat) : Int) - 1) = 0 := by
    rw [andPred _ (by omega) (by omega), Int.toNat_natCast, (and_pred_zero _ (by omega)).2 ⟨k, rfl⟩]; rfl
  generalize hv : ((2 ^ k : Nat) : Int) = v at *
  have h1 : 1 ≤ v := by omega
  have h2 : v ≤ 4611686018427387904 := by omega
  have H2 := hide hv
  clear hv hp
  go_enter Tryd.func30, Tryd.ntmps30
  go_wp2_with fail
  refine H1.out.mono ?_
  rintro e w' ⟨rfl, rfl⟩
  go_wp2
  go_ret2
  exact ⟨rfl, rfl⟩

theorem log_no (v : Int) (w : World) (hv : -9223372036854775808 ≤ v) (hv' : v ≤ 9223372036854775807) (h : ∀ k : Nat, k ≤ 62 → v ≠ ((2 ^ k : Nat) : Int)) :
    Calls Tryd.prog 30 #[.int .i64 v] w fun e w' => e = .returned (.tuple #[.int .i64 0, .bool false]) ∧ w' = w := by
  by_cases h1 : v < 1
  · clear h
    go_enter Tryd.func30, Tryd.ntmps30
    go_wp2
    go_ret2
    exact ⟨rfl, rfl⟩
  · have ha : (bits .and .i64 v (v - 1) != 0) = true := by
      rw [andPred _ (by omega) (by omega), bne_iff_ne]
      intro hc
      obtain ⟨k, hk⟩ := (and_pred_zero v.toNat (by omega)).1 (by omega)
      have : k < 63 := pow_lt_of (by omega)
      exact h k (by omega) (by omega)
    clear h
    go_enter Tryd.func30, Tryd.ntmps30
    go_wp2
    go_ret2
    exact ⟨rfl, rfl⟩

theorem mul_any (a b : Int) (w : World) (ha : -9223372036854775808 ≤ a) (ha' : a ≤ 9223372036854775807) (hb : -9223372036854775808 ≤ b) (hb' : b ≤ 9223372036854775807) :
    Calls Tryd.prog 27 #[.int .i64 a, .int .i64 b] w fun e w' => e = .returned (.tuple #[.int .i64 (mulV a b), .bool (mulB a b)]) ∧ w' = w := by
  rcases mul_cases a b with ⟨e1, e2, h, h'⟩ | ⟨e1, e2, h⟩
  · rw [e1, e2]; exact mul_yes a b w ha ha' hb hb' h h'
  · rw [e1, e2]; exact mul_no a b w ha ha' hb hb' h
theorem up_any (v : Int) (w : World) (ha : -9223372036854775808 ≤ v) (ha' : v ≤ 9223372036854775807) :
    Calls Tryd.prog 31 #[.int .i64 v] w fun e w' => e = .returned (.tuple #[.int .i64 (upV v), .bool (upB v)]) ∧ w' = w := by
  rcases up_cases v with ⟨k, hk, h1, h2, hl, e1, e2⟩ | ⟨e1, e2, h⟩
  · rw [e1, e2]; exact up_yes v k w h1 h2 hk hl
  · rw [e1, e2]; exact up_no v w ha ha' h
theorem log_any (v : Int) (w : World) (ha : -9223372036854775808 ≤ v) (ha' : v ≤ 9223372036854775807) (hT : Tab w) :
    Calls Tryd.prog 30 #[.int .i64 v] w fun e w' => e = .returned (.tuple #[.int .i64 (logV v), .bool (logB v)]) ∧ w' = w := by
  rcases log_cases v ha' with ⟨k, hk, h1, e1, e2⟩ | ⟨e1, e2, h⟩
  · rw [e1, e2, h1]; exact log_yes k w hk hT
  · rw [e1, e2]; exact log_no v w ha ha' h
/-! The same, with the answer written out: for calls at numbers that are known. -/
theorem mul_to (a b s : Int) (c : Bool) (hs : mulV a b = s) (hc : mulB a b = c) (w : World) (ha : -9223372036854775808 ≤ a) (ha' : a ≤ 9223372036854775807) (hb : -9223372036854775808 ≤ b) (hb' : b ≤ 9223372036854775807) :
    Calls Tryd.prog 27 #[.int .i64 a, .int .i64 b] w fun e w' => e = .returned (.tuple #[.int .i64 s, .bool c]) ∧ w' = w := by
  subst hs; subst hc; exact mul_any a b w ha ha' hb hb'
theorem up_to (v s : Int) (c : Bool) (hs : upV v = s) (hc : upB v = c) (w : World) (ha : -9223372036854775808 ≤ v) (ha' : v ≤ 9223372036854775807) :
    Calls Tryd.prog 31 #[.int .i64 v] w fun e w' => e = .returned (.tuple #[.int .i64 s, .bool c]) ∧ w' = w := by
  subst hs; subst hc; exact up_any v w ha ha'
theorem log_to (v s : Int) (c : Bool) (hs : logV v = s) (hc : logB v = c) (w : World) (ha : -9223372036854775808 ≤ v) (ha' : v ≤ 9223372036854775807) (hT : Tab w) :
    Calls Tryd.prog 30 #[.int .i64 v] w fun e w' => e = .returned (.tuple #[.int .i64 s, .bool c]) ∧ w' = w := by
  subst hs; subst hc; exact log_any v w ha ha' hT
end Go.Proofs.YtoopeihnmlfneaaDoor
