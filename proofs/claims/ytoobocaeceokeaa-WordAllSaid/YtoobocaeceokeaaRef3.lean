/- What the document's own answers to word are (hodmanref3's Bit, LowOne, LowZero, Ones, Mask, Nth), as contracts: the same plain functions as the program's package word has. -/
import Derived.Test.YtoobocaeceokeaaBase
import Derived.Test.YtoobocaeceokeaaWord
namespace Go.Proofs.Ytoobocaeceokeaa
open Go.RowKit

/-! Bit -/
theorem bit_nat (u k : Nat) (hu : u < 18446744073709551616) (hk : k < 64) (w : World) :
    Calls Try.prog 19 #[.int .u64 (u : Int), .int .i64 (k : Int)] w fun e w' => e = .returned (.bool (u.testBit k)) ∧ w' = w := by
  have S := hide (bit_spelt u k hu)
  have T := hide (show ((k : Int)).toNat = k by omega)
  have U := hide (show (0 : Int) ≤ u ∧ (u : Int) ≤ 18446744073709551615 by omega)
  have h0 : (0 : Int) ≤ k := by omega
  have h1 : (k : Int) < 64 := by omega
  cases hb : u.testBit k with
  | false =>
    have z : (bits .and .u64 ((u : Int) / 2 ^ ((k : Int)).toNat) 1 == 1) = false := by rw [T.out, S.out, hb]; rfl
    obtain ⟨u0, u1⟩ := U.out
    clear hb hk hu
    generalize (u : Int) = x at *
    generalize (k : Int) = y at *
    go_enter Try.func19, Try.ntmps19
    go_wp2
    go_ret
    exact ⟨rfl, rfl⟩
  | true =>
    have z : (bits .and .u64 ((u : Int) / 2 ^ ((k : Int)).toNat) 1 == 1) = true := by rw [T.out, S.out, hb]; rfl
    obtain ⟨u0, u1⟩ := U.out
    clear hb hk hu
    generalize (u : Int) = x at *
    generalize (k : Int) = y at *
    go_enter Try.func19, Try.ntmps19
    go_wp2
    go_ret
    exact ⟨rfl, rfl⟩

/-! LowOne, Nth: the lowest of those that are left -/
/-- the bits set from k on -/
def fromL (u k : Nat) : List Nat := ((List.range (64 - k)).map (k + ·)).filter fun i => u.testBit i
theorem fromL_zero (u : Nat) : fromL u 0 = onesL u := by unfold fromL onesL; simp
theorem fromL_end (u : Nat) : fromL u 64 = [] := rfl
theorem fromL_step (u k : Nat) (hk : k < 64) : fromL u k = if u.testBit k then k :: fromL u (k + 1) else fromL u (k + 1) := by
  unfold fromL
  rw [show 64 - k = (64 - (k + 1)) + 1 by omega, List.range_succ_eq_map, List.map_cons, List.filter_cons, Nat.add_zero, List.map_map]
  have e : ((k + ·) ∘ Nat.succ) = (k + 1 + ·) := by funext x; simp; omega
  rw [e]

theorem rlow_nat (u : Nat) (hu : u < 18446744073709551616) (w : World) :
    Calls Try.prog 10 #[.int .u64 (u : Int)] w fun e w' => e = .returned (.int .i64 (lowOneV u : Nat)) ∧ w' = w := by
  have G := hide (show lowOneV u = ((fromL u 0)[0]?).getD 64 by rw [fromL_zero]; rfl)
  have U := hide hu
  clear hu
  go_enter Try.func10, Try.ntmps10
  go_wp2
  go_loop [3] (fun i => ∃ k : Nat, k ≤ 64 ∧ i = .int .i64 (k : Int) ∧ fromL u k = fromL u 0) (fun i => (64 - intOf i).toNat)
  case atStart => exact ⟨0, by omega, rfl, rfl⟩
  case round =>
    obtain ⟨k, hk, rfl, hl⟩ := hrel
    have L := hide hl
    clear hl
    by_cases h : k < 64
    · have s := fromL_step u k h
      cases hb : u.testBit k with
      | true =>
        rw [if_pos hb] at s
        have B := hide hb
        have E := hide (show lowOneV u = k by rw [G.out, ← L.out, s]; rfl)
        clear s hb
        go_wp2_with fail
        refine (bit_nat u k U.out h _).mono ?_
        rintro e w' ⟨rfl, rfl⟩
        rw [B.out]
        go_wp2
        go_ret
        exact ⟨ret_int (by rw [E.out]), rfl⟩
      | false =>
        have e : fromL u (k + 1) = fromL u 0 := by rw [hb] at s; rw [← L.out, s]; rfl
        have E := hide e
        have B := hide hb
        clear e s hb
        go_wp2_with fail
        refine (bit_nat u k U.out h _).mono ?_
        rintro e w' ⟨rfl, rfl⟩
        rw [B.out]
        go_wp2
        go_round
        case rel => exact ⟨k + 1, by omega, by go_num, E.out⟩
        case measure => simp [intOf]; omega
    · obtain rfl : k = 64 := by omega
      go_wp2
      go_ret
      exact ⟨ret_int (by rw [G.out, ← L.out, fromL_end]; rfl), rfl⟩

theorem rlowz_nat (u : Nat) (hu : u < 18446744073709551616) (w : World) :
    Calls Try.prog 12 #[.int .u64 (u : Int)] w fun e w' => e = .returned (.int .i64 (lowOneV (notV u) : Nat)) ∧ w' = w := by
  have hs : IntKind.u64.signed = false := rfl
  have hx : bits .xor .u64 IntKind.u64.max (u : Int) = (notV u : Nat) := xor_spelt u hu
  clear hu
  go_enter Try.func12, Try.ntmps12
  go_wp2_with fail
  refine (rlow_nat (notV u) (notV_lt u) _).mono ?_
  rintro e w' ⟨rfl, rfl⟩
  go_wp2
  go_ret
  exact ⟨rfl, rfl⟩

/-! Ones -/
theorem rones_nat (u : Nat) (hu : u < 18446744073709551616) (w : World) :
    Calls Try.prog 14 #[.int .u64 (u : Int)] w fun e w' => e = .returned (.int .i64 (onesV u : Nat)) ∧ w' = w := by
  have U := hide hu
  clear hu
  go_enter Try.func14, Try.ntmps14
  go_wp2
  go_loop [3, 4] (fun n i => ∃ k c : Nat, k ≤ 64 ∧ i = .int .i64 (k : Int) ∧ n = .int .i64 (c : Int) ∧ c + (fromL u k).length = onesV u) (fun _ i => (64 - intOf i).toNat)
  case atStart => exact ⟨0, 0, by omega, rfl, rfl, by rw [fromL_zero, Nat.zero_add]; rfl⟩
  case round =>
    obtain ⟨k, c, hk, rfl, rfl, hl⟩ := hrel
    have hc : c ≤ 64 := by have := ones_le u; omega
    have L := hide hl
    clear hl
    by_cases h : k < 64
    · have s := fromL_step u k h
      cases hb : u.testBit k with
      | true =>
        rw [if_pos hb] at s
        have B := hide hb
        have S := hide s
        clear s hb
        go_wp2_with fail
        refine (bit_nat u k U.out h _).mono ?_
        rintro e w' ⟨rfl, rfl⟩
        rw [B.out]
        go_wp2
        go_round
        case rel =>
          have := L.out
          rw [S.out, List.length_cons] at this
          exact ⟨k + 1, c + 1, by omega, by go_num, by go_num, by omega⟩
        case measure => simp [intOf]; omega
      | false =>
        rw [hb] at s
        have B := hide hb
        have S := hide (show fromL u k = fromL u (k + 1) from s)
        clear s hb
        go_wp2_with fail
        refine (bit_nat u k U.out h _).mono ?_
        rintro e w' ⟨rfl, rfl⟩
        rw [B.out]
        go_wp2
        go_round
        case rel =>
          have := L.out
          rw [S.out] at this
          exact ⟨k + 1, c, by omega, by go_num, rfl, this⟩
        case measure => simp [intOf]; omega
    · obtain rfl : k = 64 := by omega
      have e : c = onesV u := by have := L.out; rw [fromL_end] at this; simpa using this
      have E := hide e
      clear e
      go_wp2
      go_ret
      exact ⟨ret_int (by rw [E.out]), rfl⟩

/-! Nth -/
theorem nth_from (u : Nat) (n : Int) : nthV u n = if n < 0 then 64 else ((fromL u 0)[n.toNat]?).getD 64 := by rw [fromL_zero]; rfl
theorem from_cons (u k : Nat) (hk : k < 64) (hb : u.testBit k = true) (m : Nat) : (fromL u k)[m + 1]? = (fromL u (k + 1))[m]? := by rw [fromL_step u k hk, if_pos hb]; rfl
theorem from_head (u k : Nat) (hk : k < 64) (hb : u.testBit k = true) : (fromL u k)[0]? = some k := by rw [fromL_step u k hk, if_pos hb]; rfl
theorem from_skip (u k : Nat) (hk : k < 64) (hb : u.testBit k = false) : fromL u k = fromL u (k + 1) := by rw [fromL_step u k hk, hb]; rfl
theorem rnth_pos (u n : Nat) (hu : u < 18446744073709551616) (hn' : (n : Int) ≤ 9223372036854775807) (w : World) :
    Calls Try.prog 16 #[.int .u64 (u : Int), .int .i64 (n : Int)] w fun e w' => e = .returned (.int .i64 (nthV u n : Nat)) ∧ w' = w := by
  have G := hide (show nthV u n = ((fromL u 0)[n]?).getD 64 by rw [nth_from, if_neg (by omega), Int.toNat_natCast])
  have U := hide hu
  clear hu
  go_enter Try.func16, Try.ntmps16
  go_wp2
  go_loop [1, 5] (fun s i => ∃ k m : Nat, k ≤ 64 ∧ i = .int .i64 (k : Int) ∧ s = .int .i64 (m : Int) ∧ (m : Int) ≤ 9223372036854775807 ∧ (fromL u k)[m]? = (fromL u 0)[n]?) (fun _ i => (64 - intOf i).toNat)
  case atStart => exact ⟨0, n, by omega, rfl, rfl, hn', rfl⟩
  case round =>
    obtain ⟨k, m, hk, rfl, rfl, hm, hl⟩ := hrel
    have L := hide hl
    clear hl hn'
    by_cases h : k < 64
    · cases hb : u.testBit k with
      | true =>
        have B := hide hb
        cases m with
        | zero =>
          have E := hide (show nthV u n = k by rw [G.out, ← L.out, from_head u k h hb]; rfl)
          clear hb
          go_wp2_with fail
          refine (bit_nat u k U.out h _).mono ?_
          rintro e w' ⟨rfl, rfl⟩
          rw [B.out]
          go_wp2
          go_ret
          exact ⟨ret_int (by rw [E.out]), rfl⟩
        | succ m =>
          have F := hide (from_cons u k h hb m)
          have z : (((m + 1 : Nat) : Int) == 0) = false := by rw [beq_eq_false_iff_ne]; omega
          have z0 : (1 : Int) ≤ ((m + 1 : Nat) : Int) := by omega
          have Z := hide (show ((m + 1 : Nat) : Int) - 1 = (m : Nat) by omega)
          clear hb
          generalize ((m + 1 : Nat) : Int) = s at *
          go_wp2_with fail
          refine (bit_nat u k U.out h _).mono ?_
          rintro e w' ⟨rfl, rfl⟩
          rw [B.out]
          go_wp2
          go_round
          case rel => exact ⟨k + 1, m, by omega, by go_num, by rw [Z.out], by have := Z.out; omega, by rw [← F.out, L.out]⟩
          case measure => simp [intOf]; omega
      | false =>
        have B := hide hb
        have F := hide (from_skip u k h hb)
        clear hb
        go_wp2_with fail
        refine (bit_nat u k U.out h _).mono ?_
        rintro e w' ⟨rfl, rfl⟩
        rw [B.out]
        go_wp2
        go_round
        case rel => exact ⟨k + 1, m, by omega, by go_num, rfl, hm, by rw [← F.out, L.out]⟩
        case measure => simp [intOf]; omega
    · obtain rfl : k = 64 := by omega
      go_wp2
      go_ret
      exact ⟨ret_int (by rw [G.out, ← L.out, fromL_end]; rfl), rfl⟩
theorem rnth_neg (u : Nat) (n : Int) (hu : u < 18446744073709551616) (hn : -9223372036854775808 ≤ n) (hn0 : n < 0) (w : World) :
    Calls Try.prog 16 #[.int .u64 (u : Int), .int .i64 n] w fun e w' => e = .returned (.int .i64 64) ∧ w' = w := by
  have U := hide hu
  clear hu
  go_enter Try.func16, Try.ntmps16
  go_wp2
  go_loop [1, 5] (fun s i => ∃ (k : Nat) (m : Int), k ≤ 64 ∧ i = .int .i64 (k : Int) ∧ s = .int .i64 m ∧ -9223372036854775808 ≤ m ∧ m ≤ 9223372036854775807 ∧ (m < 0 ∨ 9223372036854775807 ≤ m + k)) (fun _ i => (64 - intOf i).toNat)
  case atStart => exact ⟨0, n, by omega, rfl, rfl, hn, by omega, .inl hn0⟩
  case round =>
    obtain ⟨k, m, hk, rfl, rfl, hm, hm', hor⟩ := hrel
    have z : (m == 0) = false := by rw [beq_eq_false_iff_ne]; omega
    have OR := hide hor
    clear hor hn hn0
    by_cases h : k < 64
    · cases hb : u.testBit k with
      | true =>
        have B := hide hb
        clear hb
        by_cases hl : m = -9223372036854775808
        · subst hl
          have hw : wrap64 (-9223372036854775809) = 9223372036854775807 := by unfold wrap64; decide
          go_wp2_with fail
          refine (bit_nat u k U.out h _).mono ?_
          rintro e w' ⟨rfl, rfl⟩
          rw [B.out]
          go_wp2
          go_round
          case rel => exact ⟨k + 1, 9223372036854775807, by omega, by go_num, by rw [hw], by omega, by omega, by omega⟩
          case measure => simp [intOf]; omega
        · have hl' : -9223372036854775807 ≤ m := by omega
          clear hl hm
          go_wp2_with fail
          refine (bit_nat u k U.out h _).mono ?_
          rintro e w' ⟨rfl, rfl⟩
          rw [B.out]
          go_wp2
          go_round
          case rel => exact ⟨k + 1, m - 1, by omega, by go_num, rfl, by omega, by omega, by have := OR.out; omega⟩
          case measure => simp [intOf]; omega
      | false =>
        have B := hide hb
        clear hb
        go_wp2_with fail
        refine (bit_nat u k U.out h _).mono ?_
        rintro e w' ⟨rfl, rfl⟩
        rw [B.out]
        go_wp2
        go_round
        case rel => exact ⟨k + 1, m, by omega, by go_num, rfl, hm, hm', by have := OR.out; omega⟩
        case measure => simp [intOf]; omega
    · obtain rfl : k = 64 := by omega
      go_wp2
      go_ret
      exact ⟨rfl, rfl⟩
theorem rnth_nat (u : Nat) (n : Int) (hu : u < 18446744073709551616) (hn : -9223372036854775808 ≤ n) (hn' : n ≤ 9223372036854775807) (w : World) :
    Calls Try.prog 16 #[.int .u64 (u : Int), .int .i64 n] w fun e w' => e = .returned (.int .i64 (nthV u n : Nat)) ∧ w' = w := by
  by_cases h : n < 0
  · have e : nthV u n = 64 := by unfold nthV; rw [if_pos h]
    rw [e]
    exact rnth_neg u n hu hn h w
  · obtain ⟨k, rfl⟩ : ∃ k : Nat, n = k := ⟨n.toNat, by omega⟩
    exact rnth_pos u k hu hn' w

/-! Mask -/
theorem mod_on (M k : Nat) (hb : M.testBit k = true) : M % 2 ^ k ||| 2 ^ k = M % 2 ^ (k + 1) := by
  apply Nat.eq_of_testBit_eq
  intro j
  rw [Nat.testBit_or, Nat.testBit_mod_two_pow, Nat.testBit_mod_two_pow, Nat.testBit_two_pow]
  rcases Nat.lt_trichotomy j k with h | rfl | h
  · simp [h, show j < k + 1 by omega, show k ≠ j by omega]
  · simp [hb]
  · simp [show ¬ j < k by omega, show ¬ j < k + 1 by omega, show k ≠ j by omega]
theorem mod_off (M k : Nat) (hb : M.testBit k = false) : M % 2 ^ k = M % 2 ^ (k + 1) := by
  apply Nat.eq_of_testBit_eq
  intro j
  rw [Nat.testBit_mod_two_pow, Nat.testBit_mod_two_pow]
  rcases Nat.lt_trichotomy j k with h | rfl | h
  · simp [h, show j < k + 1 by omega]
  · simp [hb]
  · simp [show ¬ j < k by omega, show ¬ j < k + 1 by omega]
theorem rmask_nat (i n : Int) (w : World) (hi : -9223372036854775808 ≤ i) (hi' : i ≤ 9223372036854775807) (hn : -9223372036854775808 ≤ n) (hn' : n ≤ 9223372036854775807) :
    Calls Try.prog 18 #[.int .i64 i, .int .i64 n] w fun e w' => e = .returned (.int .u64 (maskV i n)) ∧ w' = w := by
  by_cases h1 : i < 0
  · have e : maskV i n = 0 := by unfold maskV; rw [if_pos (Or.inl h1)]
    rw [e]
    clear e
    go_enter Try.func18, Try.ntmps18
    go_wp2
    go_ret
    exact ⟨rfl, rfl⟩
  by_cases h2 : n < 0
  · have e : maskV i n = 0 := by unfold maskV; rw [if_pos (Or.inr h2)]
    rw [e]
    clear e
    go_enter Try.func18, Try.ntmps18
    go_wp2
    go_ret
    exact ⟨rfl, rfl⟩
  have h3 : 0 ≤ i := by omega
  have h4 : 0 ≤ n := by omega
  have e : maskV i n = maskN i.toNat n.toNat := by unfold maskV; rw [if_neg (by omega)]
  rw [e]
  have ML := hide (maskN_lt i.toNat n.toNat)
  have MB := hide (testBit_maskN i.toNat n.toNat)
  clear e h1 h2 hi hn
  generalize maskN i.toNat n.toNat = M at *
  go_enter Try.func18, Try.ntmps18
  go_wp2
  go_loop [5, 6] (fun v x => ∃ k : Nat, k ≤ 64 ∧ x = .int .i64 (k : Int) ∧ v = .int .u64 ((M % 2 ^ k : Nat) : Int)) (fun _ x => (64 - intOf x).toNat)
  case atStart => exact ⟨0, by omega, rfl, by rw [Nat.pow_zero, Nat.mod_one]; rfl⟩
  case round =>
    obtain ⟨k, hk, rfl, rfl⟩ := hrel
    by_cases h : k < 64
    · have P := hide (show (2 : Nat) ^ k < 18446744073709551616 by have := Nat.pow_le_pow_right (show 0 < 2 by decide) (show k ≤ 63 by omega); omega)
      have ML' := hide (show M % 2 ^ k < 18446744073709551616 from Nat.lt_of_le_of_lt (Nat.mod_le _ _) ML.out)
      by_cases hki : i ≤ k
      · by_cases hkn : (k : Int) - i < n
        · have hb := hide (mod_on M k (by rw [MB.out]; exact decide_eq_true (by omega)))
          have W := hide (show IntKind.u64.wrap (2 ^ k) = ((2 ^ k : Nat) : Int) by rw [cast_pow2, IntKind.wrap_u64]; exact Int.emod_eq_of_lt (Int.natCast_nonneg _) (by have := P.out; omega))
          have O := hide (u64_or_nat (M % 2 ^ k) (2 ^ k) ML'.out P.out)
          generalize ((M % 2 ^ k : Nat) : Int) = m at *
          go_wp2
          go_round
          case rel => exact ⟨k + 1, by omega, by go_num, by rw [W.out, O.out, hb.out]⟩
          case measure => simp [intOf]; omega
        · have hb := hide (mod_off M k (by rw [MB.out]; exact decide_eq_false (by omega)))
          have hkn' : n ≤ (k : Int) - i := by omega
          clear hkn
          generalize hm : ((M % 2 ^ k : Nat) : Int) = m at *
          have Hm := hide hm
          clear hm
          go_wp2
          go_round
          case rel => exact ⟨k + 1, by omega, by go_num, by rw [← Hm.out, hb.out]⟩
          case measure => simp [intOf]; omega
      · have hb := hide (mod_off M k (by rw [MB.out]; exact decide_eq_false (by omega)))
        have hki' : (k : Int) < i := by omega
        clear hki
        generalize hm : ((M % 2 ^ k : Nat) : Int) = m at *
        have Hm := hide hm
        clear hm
        go_wp2
        go_round
        case rel => exact ⟨k + 1, by omega, by go_num, by rw [← Hm.out, hb.out]⟩
        case measure => simp [intOf]; omega
    · obtain rfl : k = 64 := by omega
      have E := hide (show M % 2 ^ 64 = M from Nat.mod_eq_of_lt ML.out)
      generalize hm : ((M % 2 ^ 64 : Nat) : Int) = m at *
      have Hm := hide hm
      clear hm
      go_wp2
      go_ret
      exact ⟨ret_int (by rw [← Hm.out, E.out]), rfl⟩
end Go.Proofs.Ytoobocaeceokeaa
