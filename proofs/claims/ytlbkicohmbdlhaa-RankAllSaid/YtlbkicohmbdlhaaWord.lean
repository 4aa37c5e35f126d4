/- What package word answers, as contracts: of any word and number each function returns these plain functions of what it is handed, and changes nothing. -/
import Derived.Test.YtlbkicohmbdlhaaBase
import Derived.Test.YtlbkicohmbdlhaaSwar
namespace Go.Proofs.Ytlbkicohmbdlhaa
open Go.RowKit

/-! Mask -/
theorem maskN_min (i n : Nat) : maskN (min i 64) (min n 64) = maskN i n :=
  eq_of_bits (maskN_lt _ _) (maskN_lt _ _) fun k hk => by
    rw [testBit_maskN, testBit_maskN]
    apply decide_eq_decide.2
    omega
theorem cast_pow2 (k : Nat) : (2 : Int) ^ k = ((2 ^ k : Nat) : Int) := by rw [Int.natCast_pow]; rfl
theorem mask_spelt (i n : Nat) : IntKind.u64.wrap (IntKind.u64.wrap (IntKind.u64.wrap (2 ^ min n 64) - 1) * 2 ^ min i 64) = ((maskN i n : Nat) : Int) := by
  rw [← maskN_min i n]
  have hi : min i 64 ≤ 64 := Nat.min_le_right _ _
  have hn : min n 64 ≤ 64 := Nat.min_le_right _ _
  generalize min i 64 = I at *
  generalize min n 64 = N at *
  rw [cast_pow2, cast_pow2]
  have e : IntKind.u64.wrap (IntKind.u64.wrap ((2 ^ N : Nat) : Int) - 1) = ((2 ^ N - 1 : Nat) : Int) := by
    rcases Nat.lt_or_ge N 64 with h | h
    · have h1 : 2 ^ N ≤ 2 ^ 63 := Nat.pow_le_pow_right (by decide) (by omega)
      have h2 := Nat.two_pow_pos N
      rw [IntKind.wrap_u64, IntKind.wrap_u64]
      omega
    · obtain rfl : N = 64 := by omega
      rw [IntKind.wrap_u64, IntKind.wrap_u64]
      decide
  rw [e, IntKind.wrap_u64, ← Int.natCast_mul]
  unfold maskN
  rw [Nat.shiftLeft_eq]
  omega
theorem mask_any (i n : Int) (w : World) (hi : -9223372036854775808 ≤ i) (hi' : i ≤ 9223372036854775807) (hn : -9223372036854775808 ≤ n) (hn' : n ≤ 9223372036854775807) :
    Calls Try.prog 29 #[.int .i64 i, .int .i64 n] w fun e w' => e = .returned (.int .u64 (maskV i n)) ∧ w' = w := by
  by_cases h1 : i < 0
  · have e : maskV i n = 0 := by unfold maskV; rw [if_pos (Or.inl h1)]
    rw [e]
    clear e
    go_enter Try.func29, Try.ntmps29
    go_wp2
    go_ret
    exact ⟨rfl, rfl⟩
  by_cases h2 : n < 0
  · have e : maskV i n = 0 := by unfold maskV; rw [if_pos (Or.inr h2)]
    rw [e]
    clear e
    go_enter Try.func29, Try.ntmps29
    go_wp2
    go_ret
    exact ⟨rfl, rfl⟩
  have h3 : 0 ≤ i := by omega
  have h4 : 0 ≤ n := by omega
  have e : maskV i n = maskN i.toNat n.toNat := by unfold maskV; rw [if_neg (by omega)]
  rw [e]
  clear e
  go_enter Try.func29, Try.ntmps29
  go_wp2
  go_ret
  exact ⟨ret_int (mask_spelt i.toNat n.toNat), rfl⟩
theorem mask_to (i n : Int) (r : Nat) (hr : maskV i n = r) (w : World) (hi : -9223372036854775808 ≤ i) (hi' : i ≤ 9223372036854775807) (hn : -9223372036854775808 ≤ n) (hn' : n ≤ 9223372036854775807) :
    Calls Try.prog 29 #[.int .i64 i, .int .i64 n] w fun e w' => e = .returned (.int .u64 r) ∧ w' = w := by
  subst hr; exact mask_any i n w hi hi' hn hn'
theorem maskV_nat (i n : Nat) : maskV i n = maskN i n := by
  unfold maskV; rw [if_neg (by omega), Int.toNat_natCast, Int.toNat_natCast]

/-! Ones -/
def step1 (u : Int) : Int := IntKind.u64.wrap (bits .and .u64 u 6148914691236517205 + bits .and .u64 (u / 2) 6148914691236517205)
def step2 (u : Int) : Int := IntKind.u64.wrap (bits .and .u64 u 3689348814741910323 + bits .and .u64 (u / 4) 3689348814741910323)
def step3 (u : Int) : Int := IntKind.u64.wrap (bits .and .u64 u 1085102592571150095 + bits .and .u64 (u / 16) 1085102592571150095)
theorem and_spelt (a b : Nat) (ha : a < 18446744073709551616) (hb : b < 18446744073709551616) : bits .and .u64 (a : Int) (b : Int) = ((a &&& b : Nat) : Int) := u64_and_nat a b ha hb
theorem step1_eq (u : Nat) (hu : u < 18446744073709551616) : step1 u = (pairs 1 32 u : Nat) := by
  have h := pairs_eq 1 32 u
  have hl := pairs_lt 1 (by decide) 32 u
  rw [show pat 1 32 = 6148914691236517205 by decide +kernel] at h
  unfold step1
  rw [show ((u : Int) / 2) = ((u / 2 : Nat) : Int) by omega]
  have e1 := and_spelt u 6148914691236517205 hu (by decide)
  have e2 := and_spelt (u / 2) 6148914691236517205 (by omega) (by decide)
  rw [show (((6148914691236517205 : Nat)) : Int) = 6148914691236517205 by rfl] at e1 e2
  rw [e1, e2, ← Int.natCast_add, IntKind.wrap_u64]
  rw [show (2 : Nat) ^ 1 = 2 by decide] at h
  rw [h]
  have : (2 : Nat) ^ (2 * 1 * 32) = 18446744073709551616 := by decide
  omega
theorem step2_eq (u : Nat) (hu : u < 18446744073709551616) : step2 u = (pairs 2 16 u : Nat) := by
  have h := pairs_eq 2 16 u
  have hl := pairs_lt 2 (by decide) 16 u
  rw [show pat 2 16 = 3689348814741910323 by decide +kernel] at h
  unfold step2
  rw [show ((u : Int) / 4) = ((u / 4 : Nat) : Int) by omega]
  have e1 := and_spelt u 3689348814741910323 hu (by decide)
  have e2 := and_spelt (u / 4) 3689348814741910323 (by omega) (by decide)
  rw [show (((3689348814741910323 : Nat)) : Int) = 3689348814741910323 by rfl] at e1 e2
  rw [e1, e2, ← Int.natCast_add, IntKind.wrap_u64]
  rw [show (2 : Nat) ^ 2 = 4 by decide] at h
  rw [h]
  have : (2 : Nat) ^ (2 * 2 * 16) = 18446744073709551616 := by decide
  omega
theorem step3_eq (u : Nat) (hu : u < 18446744073709551616) : step3 u = (pairs 4 8 u : Nat) := by
  have h := pairs_eq 4 8 u
  have hl := pairs_lt 4 (by decide) 8 u
  rw [show pat 4 8 = 1085102592571150095 by decide +kernel] at h
  unfold step3
  rw [show ((u : Int) / 16) = ((u / 16 : Nat) : Int) by omega]
  have e1 := and_spelt u 1085102592571150095 hu (by decide)
  have e2 := and_spelt (u / 16) 1085102592571150095 (by omega) (by decide)
  rw [show (((1085102592571150095 : Nat)) : Int) = 1085102592571150095 by rfl] at e1 e2
  rw [e1, e2, ← Int.natCast_add, IntKind.wrap_u64]
  rw [show (2 : Nat) ^ 4 = 16 by decide] at h
  rw [h]
  have : (2 : Nat) ^ (2 * 4 * 8) = 18446744073709551616 := by decide
  omega
theorem ones_spelt (u : Nat) (hu : u < 18446744073709551616) : wrap64 (IntKind.u64.wrap (step3 (step2 (step1 u)) * 72340172838076673) / 72057594037927936) = (onesV u : Nat) := by
  have h1 : pairs 1 32 u < 18446744073709551616 := by have := pairs_lt 1 (by decide) 32 u; simpa using this
  have h2 : pairs 2 16 (pairs 1 32 u) < 18446744073709551616 := by have := pairs_lt 2 (by decide) 16 (pairs 1 32 u); simpa using this
  rw [step1_eq u hu, step2_eq _ h1, step3_eq _ h2]
  have h := swar u
  have hl := ones_le u
  generalize pairs 4 8 (pairs 2 16 (pairs 1 32 u)) = v at *
  rw [IntKind.wrap_u64, show (v : Int) * 72340172838076673 = ((v * 72340172838076673 : Nat) : Int) by omega]
  generalize v * 72340172838076673 = x at *
  rw [show ((x : Nat) : Int) % 18446744073709551616 / 72057594037927936 = ((x % 18446744073709551616 / 72057594037927936 : Nat) : Int) by omega, h]
  unfold wrap64
  omega
theorem ones_nat (u : Nat) (hu : u < 18446744073709551616) (w : World) :
    Calls Try.prog 22 #[.int .u64 (u : Int)] w fun e w' => e = .returned (.int .i64 (onesV u : Nat)) ∧ w' = w := by
  have H := hide (ones_spelt u hu)
  have h0 : (0 : Int) ≤ u := by omega
  have h1 : (u : Int) ≤ 18446744073709551615 := by omega
  clear hu
  generalize (u : Int) = x at *
  go_enter Try.func22, Try.ntmps22
  go_wp2
  go_ret
  exact ⟨ret_int H.out, rfl⟩
theorem ones_to (x : Int) (u : Nat) (r : Int) (hx : x = u) (hu : u < 18446744073709551616) (hr : (onesV u : Int) = r) (w : World) :
    Calls Try.prog 22 #[.int .u64 x] w fun e w' => e = .returned (.int .i64 r) ∧ w' = w := by
  subst hx; subst hr; exact ones_nat u hu w

/-! LowOne -/
theorem ones_zero {u : Nat} (hu : u < 18446744073709551616) : onesV u = 0 ↔ u = 0 := by
  constructor
  · intro h
    refine eq_of_bits hu (by decide) fun k hk => ?_
    rw [Nat.zero_testBit]
    cases hb : u.testBit k with
    | false => rfl
    | true =>
      have hm := mem_onesL.2 ⟨hk, hb⟩
      have : onesL u = [] := List.eq_nil_of_length_eq_zero h
      rw [this] at hm
      simp at hm
  · rintro rfl; decide
theorem pow_div_two (m : Nat) : 2 ^ (m + 1) / 2 = 2 ^ m := by rw [Nat.pow_succ]; omega
theorem pow_le_32 {m : Nat} (h : m ≤ 5) : 1 ≤ 2 ^ m ∧ 2 ^ m ≤ 32 := by
  have := Nat.two_pow_pos m
  have := Nat.pow_le_pow_right (show 0 < 2 by decide) h
  omega
theorem shr_nat (v h : Nat) : ((v : Int) / 2 ^ h) = ((v / 2 ^ h : Nat) : Int) := by rw [cast_pow2]; exact (Int.natCast_ediv _ _).symm

theorem bit_spelt (u k : Nat) (hu : u < 18446744073709551616) : bits .and .u64 ((u : Int) / 2 ^ k) 1 = (if u.testBit k then 1 else 0 : Int) := by
  rw [shr_nat]
  have h := and_spelt (u / 2 ^ k) 1 (Nat.lt_of_le_of_lt (Nat.div_le_self _ _) hu) (by decide)
  rw [show ((1 : Nat) : Int) = 1 by rfl] at h
  rw [h, Nat.and_one_is_mod]
  have e : u.testBit k = decide (u / 2 ^ k % 2 = 1) := Nat.testBit_eq_decide_div_mod_eq
  rw [e]
  rcases Nat.mod_two_eq_zero_or_one (u / 2 ^ k) with h | h <;> rw [h] <;> rfl

/-! LowZero -/
theorem xor_spelt (u : Nat) (hu : u < 18446744073709551616) : bits .xor .u64 IntKind.u64.max (u : Int) = (notV u : Nat) := by
  have e : IntKind.u64.max = ((18446744073709551615 : Nat) : Int) := by decide
  rw [e, u64_xor_nat _ _ (by decide) hu]
  congr 1
  refine eq_of_bits (Nat.xor_lt_two_pow (n := 64) (by decide) (by simpa using hu)) (by unfold notV; omega) fun k hk => ?_
  rw [Nat.testBit_xor, testBit_notV hu k hk, show (18446744073709551615 : Nat) = 2 ^ 64 - 1 by decide, Nat.testBit_two_pow_sub_one]
  simp [hk]
theorem notV_lt (u : Nat) : notV u < 18446744073709551616 := by unfold notV; omega
theorem mask_great : maskV 1 4611686018427387904 = 18446744073709551614 := by
  have e : maskV 1 4611686018427387904 = maskN 1 4611686018427387904 := maskV_nat 1 4611686018427387904
  rw [e, ← maskN_min]
  decide +kernel

/-! Nth -/
theorem nthw_nat (u : Nat) (n : Int) (hu : u < 18446744073709551616) (hn : -9223372036854775808 ≤ n) (hn' : n ≤ 9223372036854775807) (w : World) :
    Calls Try.prog 23 #[.int .u64 (u : Int), .int .i64 n] w fun e w' => e = .returned (.int .i64 (nthV u n : Nat)) ∧ w' = w := by
  by_cases h0 : n < 0
  · have e : nthV u n = 64 := by unfold nthV; rw [if_pos h0]
    rw [e]
    clear e
    go_enter Try.func23, Try.ntmps23
    go_wp2
    go_ret
    exact ⟨rfl, rfl⟩
  obtain ⟨k, rfl⟩ : ∃ k : Nat, n = k := ⟨n.toNat, by omega⟩
  have hle := ones_le u
  by_cases h1 : onesV u ≤ k
  · have e : nthV u k = 64 := (nth_none u k).2 h1
    rw [e]
    clear e
    have h1' : ((onesV u : Nat) : Int) ≤ k := by omega
    go_enter Try.func23, Try.ntmps23
    go_wp2_with fail
    refine (ones_nat u hu _).mono ?_
    rintro e w' ⟨rfl, rfl⟩
    go_wp2
    go_ret
    exact ⟨rfl, rfl⟩
  have h1' : (k : Int) < ((onesV u : Nat) : Int) := by omega
  have U := hide hu
  have K := hide (show k < onesV u by omega)
  have R := hide (ones_nat u hu w)
  have hle' : ((onesV u : Nat) : Int) ≤ 64 := by omega
  have hk0 : (0 : Int) ≤ k := by omega
  clear hu h1 h0 hle
  generalize hB : ((onesV u : Nat) : Int) = b0 at *
  clear hB
  generalize hX : (k : Int) = x at *
  have X := hide hX
  clear hX
  go_enter Try.func23, Try.ntmps23
  go_wp2_with fail
  refine R.out.mono ?_
  rintro e w' ⟨rfl, rfl⟩
  go_wp2
  go_loop [0, 1, 5, 6] (fun q s y z => ∃ j v i a : Nat, j ≤ 6 ∧ q = .int .u64 (v : Int) ∧ s = .int .i64 (i : Int) ∧ y = .int .i64 (a : Int) ∧ z = .int .i64 ((2 ^ j / 2 : Nat) : Int) ∧ v < 18446744073709551616 ∧ i < onesV v ∧ nthV v i < 2 ^ j ∧ nthV u x = a + nthV v i) (fun _ _ _ z => (intOf z).toNat)
  case atStart =>
    refine ⟨6, u, k, 0, Nat.le_refl _, rfl, by rw [X.out], rfl, rfl, U.out, K.out, ?_, by rw [X.out, Nat.zero_add]⟩
    have := nth_none u k
    have := nth_le u k
    have := K.out
    show nthV u k < 64
    omega
  case round =>
    obtain ⟨j, v, i, a, hj, rfl, rfl, rfl, rfl, hv, ho, hn, hl⟩ := hrel
    have ha : a ≤ 64 := by have := nth_le u x; omega
    have hi : i ≤ 64 := by have := ones_le v; omega
    have N := hide hn
    have L := hide hl
    have O := hide ho
    have V := hide hv
    clear hn hl ho hv
    cases j with
    | zero =>
      go_wp2
      go_ret
      have := N.out
      have := L.out
      exact ⟨ret_int (by omega), rfl⟩
    | succ m =>
      rw [pow_div_two]
      obtain ⟨p1, p2⟩ := pow_le_32 (show m ≤ 5 by omega)
      have q1 : (1 : Int) ≤ ((2 ^ m : Nat) : Int) := by omega
      have q2 : ((2 ^ m : Nat) : Int) ≤ 32 := by omega
      have M := hide (maskV_nat 0 (2 ^ m))
      have A := hide (and_spelt v (maskN 0 (2 ^ m)) V.out (maskN_lt _ _))
      have HA := hide (show v &&& maskN 0 (2 ^ m) < 18446744073709551616 from Nat.lt_of_le_of_lt Nat.and_le_left V.out)
      have P := hide (show 2 ^ m ≤ 64 by omega)
      have H2 := hide (show ((2 ^ m / 2 : Nat) : Int) = ((2 ^ m : Nat) : Int) / 2 by omega)
      have HP := hide (show 2 ^ (m + 1) = 2 ^ m + 2 ^ m by rw [Nat.pow_succ]; omega)
      have HT := hide (show (((2 ^ m : Nat) : Int)).toNat = 2 ^ m by omega)
      have hb := ones_le (v &&& maskN 0 (2 ^ m))
      have hb' : ((onesV (v &&& maskN 0 (2 ^ m)) : Nat) : Int) ≤ 64 := by omega
      have hb0 : (0 : Int) ≤ ((onesV (v &&& maskN 0 (2 ^ m)) : Nat) : Int) := by omega
      clear p1 p2 hb
      by_cases hz : onesV (v &&& maskN 0 (2 ^ m)) ≤ i
      · have zz : ((onesV (v &&& maskN 0 (2 ^ m)) : Nat) : Int) ≤ i := by omega
        have HZ := hide hz
        clear hz
        generalize ((2 ^ m : Nat) : Int) = p at *
        generalize hB : ((onesV (v &&& maskN 0 (2 ^ m)) : Nat) : Int) = b at *
        have B := hide hB
        clear hB
        go_wp2_with fail
        refine (mask_to 0 p _ (by exact M.out) _ (by omega) (by omega) (by omega) (by omega)).mono ?_
        rintro e w' ⟨rfl, rfl⟩
        go_wp2_with fail
        refine (ones_to _ _ _ A.out HA.out B.out _).mono ?_
        rintro e w' ⟨rfl, rfl⟩
        go_wp2
        go_round
        case rel =>
          obtain ⟨f1, f2⟩ := nth_above v (2 ^ m) i V.out P.out HZ.out O.out
          have := N.out
          have := HP.out
          have := L.out
          have := B.out
          have := HZ.out
          refine ⟨m, v / 2 ^ 2 ^ m, i - onesV (v &&& maskN 0 (2 ^ m)), a + 2 ^ m, by omega, by rw [HT.out, shr_nat], by congr 1; omega, by rw [← HT.out]; congr 1; omega, by rw [H2.out], Nat.lt_of_le_of_lt (Nat.div_le_self _ _) V.out, f2, by omega, by omega⟩
        case measure => simp [intOf]; omega
      · have zz : (i : Int) < ((onesV (v &&& maskN 0 (2 ^ m)) : Nat) : Int) := by omega
        have HZ := hide (show i < onesV (v &&& maskN 0 (2 ^ m)) by omega)
        clear hz
        generalize ((2 ^ m : Nat) : Int) = p at *
        generalize hB : ((onesV (v &&& maskN 0 (2 ^ m)) : Nat) : Int) = b at *
        have B := hide hB
        clear hB
        go_wp2_with fail
        refine (mask_to 0 p _ (by exact M.out) _ (by omega) (by omega) (by omega) (by omega)).mono ?_
        rintro e w' ⟨rfl, rfl⟩
        go_wp2_with fail
        refine (ones_to _ _ _ A.out HA.out B.out _).mono ?_
        rintro e w' ⟨rfl, rfl⟩
        go_wp2
        go_round
        case rel =>
          refine ⟨m, v, i, a, by omega, rfl, rfl, rfl, by rw [H2.out], V.out, O.out, nth_below v (2 ^ m) i V.out P.out HZ.out, L.out⟩
        case measure => simp [intOf]; omega
theorem nthw_to (x : Int) (u : Nat) (n : Int) (r : Int) (hx : x = u) (hu : u < 18446744073709551616) (hr : (nthV u n : Int) = r) (hn : -9223372036854775808 ≤ n) (hn' : n ≤ 9223372036854775807) (w : World) :
    Calls Try.prog 23 #[.int .u64 x, .int .i64 n] w fun e w' => e = .returned (.int .i64 r) ∧ w' = w := by
  subst hx; subst hr; exact nthw_nat u n hu hn hn' w
end Go.Proofs.Ytlbkicohmbdlhaa
