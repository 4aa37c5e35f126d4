/- What the program's package calc answers (Add, Mul, Up, Log, Round), as contracts: each call returns just this, and changes nothing. Condition of Log: the library's table lies in its variable. -/
import Derived.Test.YtekffikkbiohnaaDoorChecked
import Derived.Test.YtekffikkbiohnaaDoorShelf
import Derived.Test.YtekffikkbiohnaaDoorCalcMath
import Derived.WalkKit
import Derived.WalkSpells
namespace Go.Proofs.YtekffikkbiohnaaDoor
open Go.RowKit

theorem wrap64_over (n : Int) (h1 : 9223372036854775808 ≤ n) (h2 : n ≤ 18446744073709551615) : wrap64 n = n - 18446744073709551616 := by unfold wrap64; omega
theorem wrap64_under (n : Int) (h1 : n ≤ -9223372036854775809) (h2 : -18446744073709551616 ≤ n) : wrap64 n = n + 18446744073709551616 := by unfold wrap64; omega

theorem add_yes (a b : Int) (w : World) (ha : -9223372036854775808 ≤ a) (ha' : a ≤ 9223372036854775807) (hb : -9223372036854775808 ≤ b) (hb' : b ≤ 9223372036854775807) (h : -9223372036854775808 ≤ a + b) (h' : a + b ≤ 9223372036854775807) :
    Calls Tryd.prog 32 #[.int .i64 a, .int .i64 b] w fun e w' => e = .returned (.tuple #[.int .i64 (a + b), .bool true]) ∧ w' = w := by
  by_cases h1 : a < 0 <;> by_cases h2 : b < 0
  · have h3 : a + b < 0 := by omega
    go_enter Tryd.func32, Tryd.ntmps32
    go_wp2
    go_ret2
    exact ⟨rfl, rfl⟩
  · go_enter Tryd.func32, Tryd.ntmps32
    go_wp2
    go_ret2
    exact ⟨rfl, rfl⟩
  · go_enter Tryd.func32, Tryd.ntmps32
    go_wp2
    go_ret2
    exact ⟨rfl, rfl⟩
  · have h3 : ¬ a + b < 0 := by omega
    go_enter Tryd.func32, Tryd.ntmps32
    go_wp2
    go_ret2
    exact ⟨rfl, rfl⟩

theorem add_no (a b : Int) (w : World) (ha : -9223372036854775808 ≤ a) (ha' : a ≤ 9223372036854775807) (hb : -9223372036854775808 ≤ b) (hb' : b ≤ 9223372036854775807) (h : a + b < -9223372036854775808 ∨ 9223372036854775807 < a + b) :
    Calls Tryd.prog 32 #[.int .i64 a, .int .i64 b] w fun e w' => e = .returned (.tuple #[.int .i64 0, .bool false]) ∧ w' = w := by
  rcases h with h | h
  · have h1 : a < 0 := by omega
    have h2 : b < 0 := by omega
    have h3 : ¬ wrap64 (a + b) < 0 := by rw [wrap64_under (a + b) (by omega) (by omega)]; omega
    go_enter Tryd.func32, Tryd.ntmps32
    go_wp2
    go_ret2
    exact ⟨rfl, rfl⟩
  · have h1 : ¬ a < 0 := by omega
    have h2 : ¬ b < 0 := by omega
    have h3 : wrap64 (a + b) < 0 := by rw [wrap64_over (a + b) (by omega) (by omega)]; omega
    go_enter Tryd.func32, Tryd.ntmps32
    go_wp2
    go_ret2
    exact ⟨rfl, rfl⟩

theorem ret_int {k : IntKind} {a b : Int} (h : a = b) : Ending.returned (.int k a) = .returned (.int k b) := by rw [h]
theorem ret_int_bool {k : IntKind} {a b : Int} {c : Bool} (h : a = b) : Ending.returned (.tuple #[.int k a, .bool c]) = .returned (.tuple #[.int k b, .bool c]) := by rw [h]

theorem ret_pair {k : IntKind} {a b : Int} {c d : Bool} (h : a = b) (g : c = d) : Ending.returned (.tuple #[.int k a, .bool c]) = .returned (.tuple #[.int k b, .bool d]) := by rw [h, g]

theorem fzo_yes (n : Int) (w : World) (h0 : 0 ≤ n) (h1 : n < 9223372036854775808) :
    Calls Tryd.prog 30 #[.int .u64 n] w fun e w' => e = .returned (.tuple #[.int .i64 n, .bool true]) ∧ w' = w := by
  go_enter Tryd.func30, Tryd.ntmps30
  go_wp2
  go_ret2
  exact ⟨rfl, rfl⟩
theorem fzo_no (n : Int) (w : World) (h0 : 9223372036854775808 ≤ n) :
    Calls Tryd.prog 30 #[.int .u64 n] w fun e w' => e = .returned (.tuple #[.int .i64 0, .bool false]) ∧ w' = w := by
  go_enter Tryd.func30, Tryd.ntmps30
  go_wp2
  go_ret2
  exact ⟨rfl, rfl⟩
def Hid (p : Prop) : Prop := p
theorem hide {p : Prop} (h : p) : Hid p := h
theorem Hid.out {p : Prop} (h : Hid p) : p := h

theorem wrap_pow (k : Nat) (hk : k ≤ 62) : IntKind.u64.wrap (2 ^ k) = ((2 ^ k : Nat) : Int) := by
  have := pow_62 hk
  rw [IntKind.wrap_u64, ← pow_cast]; omega

theorem up_yes (v : Int) (k : Nat) (w : World) (h1 : 1 ≤ v) (h2 : v ≤ 4611686018427387904) (hk : k ≤ 62) (hl : Least v.toNat k) :
    Calls Tryd.prog 26 #[.int .i64 v] w fun e w' => e = .returned (.tuple #[.int .i64 ((2 ^ k : Nat) : Int), .bool true]) ∧ w' = w := by
  have e1 : Lib.bitLen (v - 1).toNat = k := by
    rw [show (v - 1).toNat = v.toNat - 1 by omega]; exact least_unique (least_bitLen v.toNat (by omega) (by omega)) hl
  have c1 := fun w => Tryd.bits_Len64 (v - 1) w (by omega) (by omega)
  rw [e1] at c1
  have H1 := hide c1; clear c1 e1
  have hp := pow_62 hk
  go_enter Tryd.func26, Tryd.ntmps26
  go_wp2_with fail
  refine (H1.out _).mono ?_
  rintro e w' ⟨rfl, rfl⟩
  go_wp2_with fail
  rw [wrap_pow k hk]
  refine (fzo_yes _ _ (by omega) (by omega)).mono ?_
  rintro e w' ⟨rfl, rfl⟩
  go_wp2
  go_ret2
  exact ⟨rfl, rfl⟩

theorem bitLen_63 (n : Nat) (h1 : 4611686018427387904 ≤ n) (h2 : n ≤ 9223372036854775807) : Lib.bitLen n = 63 := by
  obtain ⟨a, b, _⟩ := bitLen_spec n (by omega)
  have b' := b (by omega)
  have h3 : 62 < Lib.bitLen n := pow_lt_of (by omega)
  have h4 : Lib.bitLen n < 64 := pow_lt_of (by omega)
  omega
theorem up_no (v : Int) (w : World) (hv : -9223372036854775808 ≤ v) (hv' : v ≤ 9223372036854775807) (h : v < 1 ∨ 4611686018427387904 < v) :
    Calls Tryd.prog 26 #[.int .i64 v] w fun e w' => e = .returned (.tuple #[.int .i64 0, .bool false]) ∧ w' = w := by
  rcases h with h | h
  · go_enter Tryd.func26, Tryd.ntmps26
    go_wp2
    go_ret2
    exact ⟨rfl, rfl⟩
  · have c1 := fun w => Tryd.bits_Len64 (v - 1) w (by omega) (by omega)
    rw [bitLen_63 _ (by omega) (by omega)] at c1
    have H1 := hide c1; clear c1
    go_enter Tryd.func26, Tryd.ntmps26
    go_wp2_with fail
    refine (H1.out _).mono ?_
    rintro e w' ⟨rfl, rfl⟩
    go_wp2_with fail
    refine (fzo_no _ _ (by omega)).mono ?_
    rintro e w' ⟨rfl, rfl⟩
    go_wp2
    go_ret2
    exact ⟨rfl, rfl⟩

/-- the library's table lies in its variable -/
def Tab (w : World) : Prop := TabAt 0 Lib.deBruijn64tab w

theorem log_yes (k : Nat) (w : World) (hk : k ≤ 62) (hT : Tab w) :
    Calls Tryd.prog 22 #[.int .i64 ((2 ^ k : Nat) : Int)] w fun e w' => e = .returned (.tuple #[.int .i64 k, .bool true]) ∧ w' = w := by
  have hp := pow_62 hk
  have c1 := Tryd.bits_TrailingZeros64 (2 ^ k) (by omega) w (fun _ => hT)
  rw [ctz_pow k (by omega)] at c1
  have H1 := hide c1; clear c1
  have ha : bits .and .i64 ((2 ^ k : Nat) : Int) (((2 ^ k : Nat) : Int) - 1) = 0 := by
    rw [andPred _ (by omega) (by omega), Int.toNat_natCast, (and_pred_zero _ (by omega)).2 ⟨k, rfl⟩]; rfl
  generalize hv : ((2 ^ k : Nat) : Int) = v at *
  have h1 : 1 ≤ v := by omega
  have h2 : v ≤ 4611686018427387904 := by omega
  have H2 := hide hv
  clear hv hp
  go_enter Tryd.func22, Tryd.ntmps22
  go_wp2_with fail
  refine H1.out.mono ?_
  rintro e w' ⟨rfl, rfl⟩
  go_wp2
  go_ret2
  exact ⟨rfl, rfl⟩

theorem log_no (v : Int) (w : World) (hv : -9223372036854775808 ≤ v) (hv' : v ≤ 9223372036854775807) (h : ∀ k : Nat, k ≤ 62 → v ≠ ((2 ^ k : Nat) : Int)) :
    Calls Tryd.prog 22 #[.int .i64 v] w fun e w' => e = .returned (.tuple #[.int .i64 0, .bool false]) ∧ w' = w := by
  by_cases h1 : v < 1
  · clear h
    go_enter Tryd.func22, Tryd.ntmps22
    go_wp2
    go_ret2
    exact ⟨rfl, rfl⟩
  · have ha : (bits .and .i64 v (v - 1) != 0) = true := by
      rw [andPred _ (by omega) (by omega), bne_iff_ne]
      intro hc
      obtain ⟨k, hk⟩ := (and_pred_zero v.toNat (by omega)).1 (by omega)
      have : k < 63 := pow_lt_of (by omega)
      exact h k (by omega) (by omega)
    clear h
    go_enter Tryd.func22, Tryd.ntmps22
    go_wp2
    go_ret2
    exact ⟨rfl, rfl⟩

theorem round_bad (v to : Int) (w : World) (h : v < 0 ∨ to < 1) :
    Calls Tryd.prog 27 #[.int .i64 v, .int .i64 to] w fun e w' => e = .returned (.tuple #[.int .i64 0, .bool false]) ∧ w' = w := by
  by_cases h1 : v < 0
  · clear h
    go_enter Tryd.func27, Tryd.ntmps27
    go_wp2
    go_ret2
    exact ⟨rfl, rfl⟩
  · have h2 : to < 1 := by omega
    clear h
    go_enter Tryd.func27, Tryd.ntmps27
    go_wp2
    go_ret2
    exact ⟨rfl, rfl⟩
theorem round_is (v to : Int) (w : World) (h1 : 0 ≤ v) (h2 : 1 ≤ to) (h3 : v ≤ 9223372036854775807) (h4 : to ≤ 9223372036854775807) (h : v % to = 0) :
    Calls Tryd.prog 27 #[.int .i64 v, .int .i64 to] w fun e w' => e = .returned (.tuple #[.int .i64 v, .bool true]) ∧ w' = w := by
  go_enter Tryd.func27, Tryd.ntmps27
  go_wp2
  go_ret2
  exact ⟨rfl, rfl⟩
theorem round_yes (v to : Int) (w : World) (h1 : 0 ≤ v) (h2 : 1 ≤ to) (h3 : v ≤ 9223372036854775807) (h4 : to ≤ 9223372036854775807) (h : v % to ≠ 0) (h5 : v + (to - v % to) ≤ 9223372036854775807) :
    Calls Tryd.prog 27 #[.int .i64 v, .int .i64 to] w fun e w' => e = .returned (.tuple #[.int .i64 (v + (to - v % to)), .bool true]) ∧ w' = w := by
  have h6 := Int.emod_nonneg v (show to ≠ 0 by omega)
  have h7 := Int.emod_lt_of_pos v (show 0 < to by omega)
  generalize hm : v % to = m at *
  have H := hide hm
  go_enter Tryd.func27, Tryd.ntmps27
  go_wp2_with fail
  refine (add_yes _ _ _ (by omega) (by omega) (by omega) (by omega) (by omega) (by omega)).mono ?_
  rintro e w' ⟨rfl, rfl⟩
  go_wp2
  go_ret2
  exact ⟨rfl, rfl⟩
theorem round_no (v to : Int) (w : World) (h1 : 0 ≤ v) (h2 : 1 ≤ to) (h3 : v ≤ 9223372036854775807) (h4 : to ≤ 9223372036854775807) (h : v % to ≠ 0) (h5 : 9223372036854775807 < v + (to - v % to)) :
    Calls Tryd.prog 27 #[.int .i64 v, .int .i64 to] w fun e w' => e = .returned (.tuple #[.int .i64 0, .bool false]) ∧ w' = w := by
  have h6 := Int.emod_nonneg v (show to ≠ 0 by omega)
  have h7 := Int.emod_lt_of_pos v (show 0 < to by omega)
  generalize hm : v % to = m at *
  have H := hide hm
  go_enter Tryd.func27, Tryd.ntmps27
  go_wp2_with fail
  refine (add_no _ _ _ (by omega) (by omega) (by omega) (by omega) (by omega)).mono ?_
  rintro e w' ⟨rfl, rfl⟩
  go_wp2
  go_ret2
  exact ⟨rfl, rfl⟩

theorem add_any (a b : Int) (w : World) (ha : -9223372036854775808 ≤ a) (ha' : a ≤ 9223372036854775807) (hb : -9223372036854775808 ≤ b) (hb' : b ≤ 9223372036854775807) :
    Calls Tryd.prog 32 #[.int .i64 a, .int .i64 b] w fun e w' => e = .returned (.tuple #[.int .i64 (addV a b), .bool (addB a b)]) ∧ w' = w := by
  rcases add_cases a b with ⟨e1, e2, h, h'⟩ | ⟨e1, e2, h⟩
  · rw [e1, e2]; exact add_yes a b w ha ha' hb hb' h h'
  · rw [e1, e2]; exact add_no a b w ha ha' hb hb' h
theorem up_any (v : Int) (w : World) (ha : -9223372036854775808 ≤ v) (ha' : v ≤ 9223372036854775807) :
    Calls Tryd.prog 26 #[.int .i64 v] w fun e w' => e = .returned (.tuple #[.int .i64 (upV v), .bool (upB v)]) ∧ w' = w := by
  rcases up_cases v with ⟨k, hk, h1, h2, hl, e1, e2⟩ | ⟨e1, e2, h⟩
  · rw [e1, e2]; exact up_yes v k w h1 h2 hk hl
  · rw [e1, e2]; exact up_no v w ha ha' h
theorem log_any (v : Int) (w : World) (ha : -9223372036854775808 ≤ v) (ha' : v ≤ 9223372036854775807) (hT : Tab w) :
    Calls Tryd.prog 22 #[.int .i64 v] w fun e w' => e = .returned (.tuple #[.int .i64 (logV v), .bool (logB v)]) ∧ w' = w := by
  rcases log_cases v ha' with ⟨k, hk, h1, e1, e2⟩ | ⟨e1, e2, h⟩
  · rw [e1, e2, h1]; exact log_yes k w hk hT
  · rw [e1, e2]; exact log_no v w ha ha' h
theorem round_any (v to : Int) (w : World) (ha' : v ≤ 9223372036854775807) (hb' : to ≤ 9223372036854775807) :
    Calls Tryd.prog 27 #[.int .i64 v, .int .i64 to] w fun e w' => e = .returned (.tuple #[.int .i64 (roundV v to), .bool (roundB v to)]) ∧ w' = w := by
  by_cases h : v < 0 ∨ to < 1
  · have := round_not (v := v) (to := to) (by omega)
    rw [this.1, this.2]; exact round_bad v to w h
  · by_cases h0 : v % to = 0
    · have e : upTo v to = v := by simp [upTo, h0]
      have := round_fits (v := v) (to := to) (by omega) (by omega) (by omega)
      rw [this.1, this.2, e]; exact round_is v to w (by omega) (by omega) ha' hb' h0
    · have e : upTo v to = v + (to - v % to) := by simp [upTo, h0]
      by_cases h5 : v + (to - v % to) ≤ 9223372036854775807
      · have := round_fits (v := v) (to := to) (by omega) (by omega) (by omega)
        rw [this.1, this.2, e]; exact round_yes v to w (by omega) (by omega) ha' hb' h0 h5
      · have := round_not (v := v) (to := to) (by omega)
        rw [this.1, this.2]; exact round_no v to w (by omega) (by omega) ha' hb' h0 (by omega)

/-! The same, with the answer written out: for calls at numbers that are known. -/
theorem add_to (a b s : Int) (c : Bool) (hs : addV a b = s) (hc : addB a b = c) (w : World) (ha : -9223372036854775808 ≤ a) (ha' : a ≤ 9223372036854775807) (hb : -9223372036854775808 ≤ b) (hb' : b ≤ 9223372036854775807) :
    Calls Tryd.prog 32 #[.int .i64 a, .int .i64 b] w fun e w' => e = .returned (.tuple #[.int .i64 s, .bool c]) ∧ w' = w := by
  subst hs; subst hc; exact add_any a b w ha ha' hb hb'
theorem up_to (v s : Int) (c : Bool) (hs : upV v = s) (hc : upB v = c) (w : World) (ha : -9223372036854775808 ≤ v) (ha' : v ≤ 9223372036854775807) :
    Calls Tryd.prog 26 #[.int .i64 v] w fun e w' => e = .returned (.tuple #[.int .i64 s, .bool c]) ∧ w' = w := by
  subst hs; subst hc; exact up_any v w ha ha'
theorem log_to (v s : Int) (c : Bool) (hs : logV v = s) (hc : logB v = c) (w : World) (ha : -9223372036854775808 ≤ v) (ha' : v ≤ 9223372036854775807) (hT : Tab w) :
    Calls Tryd.prog 22 #[.int .i64 v] w fun e w' => e = .returned (.tuple #[.int .i64 s, .bool c]) ∧ w' = w := by
  subst hs; subst hc; exact log_any v w ha ha' hT
theorem round_to (v to s : Int) (c : Bool) (hs : roundV v to = s) (hc : roundB v to = c) (w : World) (ha' : v ≤ 9223372036854775807) (hb' : to ≤ 9223372036854775807) :
    Calls Tryd.prog 27 #[.int .i64 v, .int .i64 to] w fun e w' => e = .returned (.tuple #[.int .i64 s, .bool c]) ∧ w' = w := by
  subst hs; subst hc; exact round_any v to w ha' hb'
end Go.Proofs.YtekffikkbiohnaaDoor
