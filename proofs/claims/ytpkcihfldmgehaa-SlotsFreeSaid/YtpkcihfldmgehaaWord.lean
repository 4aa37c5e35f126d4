/- What package word answers, as contracts: of any word and number each function returns these plain functions of what it is handed, and changes nothing. -/
import Derived.Test.YtpkcihfldmgehaaBase
import Derived.Test.YtpkcihfldmgehaaSwar
namespace Go.Proofs.Ytpkcihfldmgehaa
open Go.RowKit

/-! Mask -/
theorem maskN_min (i n : Nat) : maskN (min i 64) (min n 64) = maskN i n :=
  eq_of_bits (maskN_lt _ _) (maskN_lt _ _) fun k hk => by
    rw [testBit_maskN, testBit_maskN]
    apply decide_eq_decide.2
    omega
theorem cast_pow2 (k : Nat) : (2 : Int) ^ k = ((2 ^ k : Nat) : Int) := by rw [Int.natCast_pow]; rfl
theorem mask_spelt (i n : Nat) : IntKind.u64.wrap (IntKind.u64.wrap (IntKind.u64.wrap (2 ^ min n 64) - 1) * 2 ^ min i 64) = ((maskN i n : Nat) : Int) := by
  rw [← maskN_min i n]
  have hi : min i 64 ≤ 64 := Nat.min_le_right _ _
  have hn : min n 64 ≤ 64 := Nat.min_le_right _ _
  generalize min i 64 = I at *
  generalize min n 64 = N at *
  rw [cast_pow2, cast_pow2]
  have e : IntKind.u64.wrap (IntKind.u64.wrap ((2 ^ N : Nat) : Int) - 1) = ((2 ^ N - 1 : Nat) : Int) := by
    rcases Nat.lt_or_ge N 64 with h | h
    · have h1 : 2 ^ N ≤ 2 ^ 63 := Nat.pow_le_pow_right (by decide) (by omega)
      have h2 := Nat.two_pow_pos N
      rw [IntKind.wrap_u64, IntKind.wrap_u64]
      omega
    · obtain rfl : N = 64 := by omega
      rw [IntKind.wrap_u64, IntKind.wrap_u64]
      decide
  rw [e, IntKind.wrap_u64, ← Int.natCast_mul]
  unfold maskN
  rw [Nat.shiftLeft_eq]
  omega
theorem mask_any (i n : Int) (w : World) (hi : -9223372036854775808 ≤ i) (hi' : i ≤ 9223372036854775807) (hn : -9223372036854775808 ≤ n) (hn' : n ≤ 9223372036854775807) :
    Calls Try.prog 39 #[.int .i64 i, .int .i64 n] w fun e w' => e = .returned (.int .u64 (maskV i n)) ∧ w' = w := by
  by_cases h1 : i < 0
  · have e : maskV i n = 0 := by unfold maskV; rw [if_pos (Or.inl h1)]
    rw [e]
    clear e
    go_enter Try.func39, Try.ntmps39
    go_wp2
    go_ret
    exact ⟨rfl, rfl⟩
  by_cases h2 : n < 0
  · have e : maskV i n = 0 := by unfold maskV; rw [if_pos (Or.inr h2)]
    rw [e]
    clear e
    go_enter Try.func39, Try.ntmps39
    go_wp2
    go_ret
    exact ⟨rfl, rfl⟩
  have h3 : 0 ≤ i := by omega
  have h4 : 0 ≤ n := by omega
  have e : maskV i n = maskN i.toNat n.toNat := by unfold maskV; rw [if_neg (by omega)]
  rw [e]
  clear e
  go_enter Try.func39, Try.ntmps39
  go_wp2
  go_ret
  exact ⟨ret_int (mask_spelt i.toNat n.toNat), rfl⟩
theorem mask_to (i n : Int) (r : Nat) (hr : maskV i n = r) (w : World) (hi : -9223372036854775808 ≤ i) (hi' : i ≤ 9223372036854775807) (hn : -9223372036854775808 ≤ n) (hn' : n ≤ 9223372036854775807) :
    Calls Try.prog 39 #[.int .i64 i, .int .i64 n] w fun e w' => e = .returned (.int .u64 r) ∧ w' = w := by
  subst hr; exact mask_any i n w hi hi' hn hn'
theorem maskV_nat (i n : Nat) : maskV i n = maskN i n := by
  unfold maskV; rw [if_neg (by omega), Int.toNat_natCast, Int.toNat_natCast]

/-! Ones -/
def step1 (u : Int) : Int := IntKind.u64.wrap (bits .and .u64 u 6148914691236517205 + bits .and .u64 (u / 2) 6148914691236517205)
def step2 (u : Int) : Int := IntKind.u64.wrap (bits .and .u64 u 3689348814741910323 + bits .and .u64 (u / 4) 3689348814741910323)
def step3 (u : Int) : Int := IntKind.u64.wrap (bits .and .u64 u 1085102592571150095 + bits .and .u64 (u / 16) 1085102592571150095)
theorem and_spelt (a b : Nat) (ha : a < 18446744073709551616) (hb : b < 18446744073709551616) : bits .and .u64 (a : Int) (b : Int) = ((a &&& b : Nat) : Int) := u64_and_nat a b ha hb
theorem step1_eq (u : Nat) (hu : u < 18446744073709551616) : step1 u = (pairs 1 32 u : Nat) := by
  have h := pairs_eq 1 32 u
  have hl := pairs_lt 1 (by decide) 32 u
  rw [show pat 1 32 = 6148914691236517205 by decide +kernel] at h
  unfold step1
  rw [show ((u : Int) / 2) = ((u / 2 : Nat) : Int) by omega]
  have e1 := and_spelt u 6148914691236517205 hu (by decide)
  have e2 := and_spelt (u / 2) 6148914691236517205 (by omega) (by decide)
  rw [show (((6148914691236517205 : Nat)) : Int) = 6148914691236517205 by rfl] at e1 e2
  rw [e1, e2, ← Int.natCast_add, IntKind.wrap_u64]
  rw [show (2 : Nat) ^ 1 = 2 by decide] at h
  rw [h]
  have : (2 : Nat) ^ (2 * 1 * 32) = 18446744073709551616 := by decide
  omega
theorem step2_eq (u : Nat) (hu : u < 18446744073709551616) : step2 u = (pairs 2 16 u : Nat) := by
  have h := pairs_eq 2 16 u
  have hl := pairs_lt 2 (by decide) 16 u
  rw [show pat 2 16 = 3689348814741910323 by decide +kernel] at h
  unfold step2
  rw [show ((u : Int) / 4) = ((u / 4 : Nat) : Int) by omega]
  have e1 := and_spelt u 3689348814741910323 hu (by decide)
  have e2 := and_spelt (u / 4) 3689348814741910323 (by omega) (by decide)
  rw [show (((3689348814741910323 : Nat)) : Int) = 3689348814741910323 by rfl] at e1 e2
  rw [e1, e2, ← Int.natCast_add, IntKind.wrap_u64]
  rw [show (2 : Nat) ^ 2 = 4 by decide] at h
  rw [h]
  have : (2 : Nat) ^ (2 * 2 * 16) = 18446744073709551616 := by decide
  omega
theorem step3_eq (u : Nat) (hu : u < 18446744073709551616) : step3 u = (pairs 4 8 u : Nat) := by
  have h := pairs_eq 4 8 u
  have hl := pairs_lt 4 (by decide) 8 u
  rw [show pat 4 8 = 1085102592571150095 by decide +kernel] at h
  unfold step3
  rw [show ((u : Int) / 16) = ((u / 16 : Nat) : Int) by omega]
  have e1 := and_spelt u 1085102592571150095 hu (by decide)
  have e2 := and_spelt (u / 16) 1085102592571150095 (by omega) (by decide)
  rw [show (((1085102592571150095 : Nat)) : Int) = 1085102592571150095 by rfl] at e1 e2
  rw [e1, e2, ← Int.natCast_add, IntKind.wrap_u64]
  rw [show (2 : Nat) ^ 4 = 16 by decide] at h
  rw [h]
  have : (2 : Nat) ^ (2 * 4 * 8) = 18446744073709551616 := by decide
  omega
theorem ones_spelt (u : Nat) (hu : u < 18446744073709551616) : wrap64 (IntKind.u64.wrap (step3 (step2 (step1 u)) * 72340172838076673) / 72057594037927936) = (onesV u : Nat) := by
  have h1 : pairs 1 32 u < 18446744073709551616 := by have := pairs_lt 1 (by decide) 32 u; simpa using this
  have h2 : pairs 2 16 (pairs 1 32 u) < 18446744073709551616 := by have := pairs_lt 2 (by decide) 16 (pairs 1 32 u); simpa using this
  rw [step1_eq u hu, step2_eq _ h1, step3_eq _ h2]
  have h := swar u
  have hl := ones_le u
  generalize pairs 4 8 (pairs 2 16 (pairs 1 32 u)) = v at *
  rw [IntKind.wrap_u64, show (v : Int) * 72340172838076673 = ((v * 72340172838076673 : Nat) : Int) by omega]
  generalize v * 72340172838076673 = x at *
  rw [show ((x : Nat) : Int) % 18446744073709551616 / 72057594037927936 = ((x % 18446744073709551616 / 72057594037927936 : Nat) : Int) by omega, h]
  unfold wrap64
  omega
/-! LowOne -/
theorem ones_zero {u : Nat} (hu : u < 18446744073709551616) : onesV u = 0 ↔ u = 0 := by
  constructor
  · intro h
    refine eq_of_bits hu (by decide) fun k hk => ?_
    rw [Nat.zero_testBit]
    cases hb : u.testBit k with
    | false => rfl
    | true =>
      have hm := mem_onesL.2 ⟨hk, hb⟩
      have : onesL u = [] := List.eq_nil_of_length_eq_zero h
      rw [this] at hm
      simp at hm
  · rintro rfl; decide
theorem pow_div_two (m : Nat) : 2 ^ (m + 1) / 2 = 2 ^ m := by rw [Nat.pow_succ]; omega
theorem pow_le_32 {m : Nat} (h : m ≤ 5) : 1 ≤ 2 ^ m ∧ 2 ^ m ≤ 32 := by
  have := Nat.two_pow_pos m
  have := Nat.pow_le_pow_right (show 0 < 2 by decide) h
  omega
theorem shr_nat (v h : Nat) : ((v : Int) / 2 ^ h) = ((v / 2 ^ h : Nat) : Int) := by rw [cast_pow2]; exact (Int.natCast_ediv _ _).symm

theorem bit_spelt (u k : Nat) (hu : u < 18446744073709551616) : bits .and .u64 ((u : Int) / 2 ^ k) 1 = (if u.testBit k then 1 else 0 : Int) := by
  rw [shr_nat]
  have h := and_spelt (u / 2 ^ k) 1 (Nat.lt_of_le_of_lt (Nat.div_le_self _ _) hu) (by decide)
  rw [show ((1 : Nat) : Int) = 1 by rfl] at h
  rw [h, Nat.and_one_is_mod]
  have e : u.testBit k = decide (u / 2 ^ k % 2 = 1) := Nat.testBit_eq_decide_div_mod_eq
  rw [e]
  rcases Nat.mod_two_eq_zero_or_one (u / 2 ^ k) with h | h <;> rw [h] <;> rfl

theorem low_nat (u : Nat) (hu : u < 18446744073709551616) (w : World) :
    Calls Try.prog 54 #[.int .u64 (u : Int)] w fun e w' => e = .returned (.int .i64 (lowOneV u : Nat)) ∧ w' = w := by
  by_cases h0 : u = 0
  · subst h0
    have e : lowOneV 0 = 64 := by decide
    rw [e]
    clear e
    go_enter Try.func54, Try.ntmps54
    go_wp2
    go_ret
    exact ⟨rfl, rfl⟩
  have z : ((u : Int) == 0) = false := by rw [beq_eq_false_iff_ne]; omega
  have O0 := hide (show 0 < onesV u from Nat.pos_of_ne_zero fun h => h0 ((ones_zero hu).1 h))
  have U := hide hu
  clear hu h0
  go_enter Try.func54, Try.ntmps54
  go_wp2
  clear z
  go_loop [0, 3, 4] (fun x y z => ∃ j v a : Nat, j ≤ 6 ∧ x = .int .u64 (v : Int) ∧ y = .int .i64 (a : Int) ∧ z = .int .i64 ((2 ^ j / 2 : Nat) : Int) ∧ v < 18446744073709551616 ∧ 0 < onesV v ∧ nthV v 0 < 2 ^ j ∧ lowOneV u = a + nthV v 0) (fun _ _ z => (intOf z).toNat)
  case atStart =>
    refine ⟨6, u, 0, Nat.le_refl _, rfl, rfl, rfl, U.out, O0.out, ?_, by rw [nth_zero, Nat.zero_add]⟩
    have := nth_none u 0
    have := nth_le u 0
    have := O0.out
    show nthV u 0 < 64
    have e : nthV u ((0 : Nat) : Int) = nthV u 0 := rfl
    omega
  case round =>
    obtain ⟨j, v, a, hj, rfl, rfl, rfl, hv, ho, hn, hl⟩ := hrel
    have ha : a ≤ 64 := by have := low_le u; omega
    have N := hide hn
    have L := hide hl
    have O := hide ho
    have V := hide hv
    clear hn hl ho hv
    cases j with
    | zero =>
      go_wp2
      go_ret
      have := N.out
      have := L.out
      exact ⟨ret_int (by omega), rfl⟩
    | succ m =>
      rw [pow_div_two]
      obtain ⟨p1, p2⟩ := pow_le_32 (show m ≤ 5 by omega)
      have q1 : (1 : Int) ≤ ((2 ^ m : Nat) : Int) := by omega
      have q2 : ((2 ^ m : Nat) : Int) ≤ 32 := by omega
      have M := hide (maskV_nat 0 (2 ^ m))
      have A := hide (and_spelt v (maskN 0 (2 ^ m)) V.out (maskN_lt _ _))
      have hand : v &&& maskN 0 (2 ^ m) < 18446744073709551616 := Nat.lt_of_le_of_lt Nat.and_le_left V.out
      have P := hide (show 2 ^ m ≤ 64 by omega)
      have H2 := hide (show ((2 ^ m / 2 : Nat) : Int) = ((2 ^ m : Nat) : Int) / 2 by omega)
      have HP := hide (show 2 ^ (m + 1) = 2 ^ m + 2 ^ m by rw [Nat.pow_succ]; omega)
      have HT := hide (show (((2 ^ m : Nat) : Int)).toNat = 2 ^ m by omega)
      clear p1 p2
      by_cases hz : v &&& maskN 0 (2 ^ m) = 0
      · have zz : (bits .and .u64 (v : Int) (maskN 0 (2 ^ m) : Nat) == 0) = true := by rw [A.out, hz]; rfl
        have HZ := hide hz
        clear hz
        generalize ((2 ^ m : Nat) : Int) = p at *
        go_wp2_with fail
        refine (mask_to 0 p _ (by exact M.out) _ (by omega) (by omega) (by omega) (by omega)).mono ?_
        rintro e w' ⟨rfl, rfl⟩
        go_wp2
        go_round
        case rel =>
          have e0 : onesV (v &&& maskN 0 (2 ^ m)) = 0 := by rw [HZ.out]; decide
          obtain ⟨f1, f2⟩ := nth_above v (2 ^ m) 0 V.out P.out (by omega) O.out
          rw [e0] at f1 f2
          have f3 : nthV v 0 = 2 ^ m + nthV (v / 2 ^ 2 ^ m) 0 := f1
          have := N.out
          have := HP.out
          have := L.out
          refine ⟨m, v / 2 ^ 2 ^ m, a + 2 ^ m, by omega, by rw [HT.out, shr_nat], by rw [← HT.out]; congr 1; omega, by rw [H2.out], Nat.lt_of_le_of_lt (Nat.div_le_self _ _) V.out, by omega, by omega, by omega⟩
        case measure => simp [intOf]; omega
      · have zz : (bits .and .u64 (v : Int) (maskN 0 (2 ^ m) : Nat) == 0) = false := by rw [A.out, beq_eq_false_iff_ne]; omega
        have HZ := hide hz
        have HA := hide hand
        clear hz hand
        generalize ((2 ^ m : Nat) : Int) = p at *
        go_wp2_with fail
        refine (mask_to 0 p _ (by exact M.out) _ (by omega) (by omega) (by omega) (by omega)).mono ?_
        rintro e w' ⟨rfl, rfl⟩
        go_wp2
        go_round
        case rel =>
          have e0 : 0 < onesV (v &&& maskN 0 (2 ^ m)) := Nat.pos_of_ne_zero fun h => HZ.out ((ones_zero HA.out).1 h)
          refine ⟨m, v, a, by omega, rfl, rfl, by rw [H2.out], V.out, O.out, nth_below v (2 ^ m) 0 V.out P.out e0, L.out⟩
        case measure => simp [intOf]; omega
theorem low_to (x : Int) (u : Nat) (r : Int) (hx : x = u) (hu : u < 18446744073709551616) (hr : (lowOneV u : Int) = r) (w : World) :
    Calls Try.prog 54 #[.int .u64 x] w fun e w' => e = .returned (.int .i64 r) ∧ w' = w := by
  subst hx; subst hr; exact low_nat u hu w

/-! LowZero -/
theorem xor_spelt (u : Nat) (hu : u < 18446744073709551616) : bits .xor .u64 IntKind.u64.max (u : Int) = (notV u : Nat) := by
  have e : IntKind.u64.max = ((18446744073709551615 : Nat) : Int) := by decide
  rw [e, u64_xor_nat _ _ (by decide) hu]
  congr 1
  refine eq_of_bits (Nat.xor_lt_two_pow (n := 64) (by decide) (by simpa using hu)) (by unfold notV; omega) fun k hk => ?_
  rw [Nat.testBit_xor, testBit_notV hu k hk, show (18446744073709551615 : Nat) = 2 ^ 64 - 1 by decide, Nat.testBit_two_pow_sub_one]
  simp [hk]
theorem notV_lt (u : Nat) : notV u < 18446744073709551616 := by unfold notV; omega
theorem lowz_nat (u : Nat) (hu : u < 18446744073709551616) (w : World) :
    Calls Try.prog 48 #[.int .u64 (u : Int)] w fun e w' => e = .returned (.int .i64 (lowOneV (notV u) : Nat)) ∧ w' = w := by
  have hs : IntKind.u64.signed = false := rfl
  have hx : bits .xor .u64 IntKind.u64.max (u : Int) = (notV u : Nat) := xor_spelt u hu
  have U := hide hu
  clear hu
  go_enter Try.func48, Try.ntmps48
  go_wp2_with fail
  refine (low_to _ (notV u) _ rfl (notV_lt u) rfl _).mono ?_
  rintro e w' ⟨rfl, rfl⟩
  go_wp2
  go_ret
  exact ⟨rfl, rfl⟩

theorem lowz_to (x : Int) (u : Nat) (r : Int) (hx : x = u) (hu : u < 18446744073709551616) (hr : (lowOneV (notV u) : Int) = r) (w : World) :
    Calls Try.prog 48 #[.int .u64 x] w fun e w' => e = .returned (.int .i64 r) ∧ w' = w := by
  subst hx; subst hr; exact lowz_nat u hu w
theorem mask_great : maskV 1 4611686018427387904 = 18446744073709551614 := by
  have e : maskV 1 4611686018427387904 = maskN 1 4611686018427387904 := maskV_nat 1 4611686018427387904
  rw [e, ← maskN_min]
  decide +kernel

/-! Nth -/
end Go.Proofs.Ytpkcihfldmgehaa
