/- What the program's package pin answers of pages (whole, Pages, Count), as contracts. Condition: the library's table lies in its variable. -/
import Derived.Test.YtckfmgopbfgdjaaDoorTabTwo
import Derived.Test.YtckfmgopbfgdjaaDoorCalcMath
import Derived.Test.YtckfmgopbfgdjaaDoorPinMath
import Derived.Test.YtckfmgopbfgdjaaDoorBoolMem
namespace Go.Proofs.YtckfmgopbfgdjaaDoor
open Go.RowKit

theorem tz_any (x : Nat) (hx : x < 18446744073709551616) (w : World) (hT : Tab w) :
    Calls Tryd.prog 12 #[.int .u64 x] w fun e w' => e = .returned (.int .i64 (Lib.ctz 64 x)) ∧ w' = w := by
  have c := hide (Tryd.bits_TrailingZeros64 x hx w (fun _ => hT))
  have hw : IntKind.u64.wrap (x : Int) = (x : Int) := by rw [IntKind.wrap_u64]; omega
  clear hT
  go_enter Tryd.func12, Tryd.ntmps12
  go_wp2_with fail
  refine (c.out).mono ?_
  rintro e w' ⟨rfl, rfl⟩
  go_wp2
  go_ret
  exact ⟨rfl, rfl⟩

theorem whole_any (p n : Nat) (w : World) (h1 : 1 ≤ p) (h2 : p ≤ 9223372036854775807) (h3 : n ≤ 9223372036854775807) (hT : Tab w) :
    Calls Tryd.prog 11 #[.int .i64 (p : Int), .int .i64 (n : Int)] w fun e w' => e = .returned (.int .i64 ((n / p : Nat) : Int)) ∧ w' = w := by
  have p1 : (1 : Int) ≤ (p : Int) := by omega
  have p2 : (p : Int) ≤ 9223372036854775807 := by omega
  have n1 : (0 : Int) ≤ (n : Int) := by omega
  have n2 : (n : Int) ≤ 9223372036854775807 := by omega
  by_cases g : p &&& (p - 1) = 0
  · obtain ⟨k, hk⟩ := (and_pred_zero p (by omega)).1 g
    have k1 : k < 63 := by
      refine Decidable.byContradiction fun hc => ?_
      have : 2 ^ 63 ≤ 2 ^ k := Nat.pow_le_pow_right (by decide) (by omega)
      omega
    have ha : bits .and .i64 (p : Int) ((p : Int) - 1) = 0 := by
      rw [andPred _ p1 p2, Int.toNat_natCast, g]; rfl
    have C := hide (tz_any p (by omega) w hT)
    have HK := hide (show Lib.ctz 64 p = k by rw [hk]; exact ctz_pow k (by omega))
    have E := hide (show (n : Int) / 2 ^ k = ((n / p : Nat) : Int) by rw [show (2 : Int) ^ k = (p : Int) by rw [hk]; simp]; exact (Int.natCast_ediv _ _).symm)
    have hw : IntKind.u64.wrap (p : Int) = (p : Int) := by rw [IntKind.wrap_u64]; omega
    have k0 : (0 : Int) ≤ (k : Int) := by omega
    have k2 : (k : Int) ≤ 62 := by omega
    clear g hk h1 h2 h3 hT
    go_enter Tryd.func11, Tryd.ntmps11
    go_wp2_with fail
    refine (C.out).mono ?_
    rintro e w' ⟨rfl, rfl⟩
    rw [HK.out]
    go_wp2
    go_ret
    exact ⟨ret_int E.out, rfl⟩
  · have ha : (bits .and .i64 (p : Int) ((p : Int) - 1) == 0) = false := by
      rw [andPred _ p1 p2, Int.toNat_natCast, beq_eq_false_iff_ne]; omega
    have E := hide (show wrap64 ((n : Int) / (p : Int)) = ((n / p : Nat) : Int) by
      have : n / p ≤ n := Nat.div_le_self _ _
      rw [show (n : Int) / (p : Int) = ((n / p : Nat) : Int) from (Int.natCast_ediv _ _).symm]
      generalize n / p = q at *
      unfold wrap64; omega)
    have z : ((p : Int) == 0) = false := by rw [beq_eq_false_iff_ne]; omega
    clear g h1 h2 h3 hT
    go_enter Tryd.func11, Tryd.ntmps11
    go_wp2
    go_ret
    exact ⟨ret_int E.out, rfl⟩

set_option maxRecDepth 100000 in
/-- the pages that bytes lie in -/
theorem pages_nat (p a n : Nat) (w : World) (h1 : 1 ≤ p) (h2 : p ≤ 9223372036854775807) (h3 : a + n ≤ 9223372036854775807) (h4 : (a + n - 1) / p < 9223372036854775807) (hT : Tab w) :
    Calls Tryd.prog 9 #[.int .i64 (p : Int), .int .i64 (a : Int), .int .i64 (n : Int)] w fun e w' => e = .returned (.tuple #[.int .i64 ((pF p a : Nat) : Int), .int .i64 ((pB p a n : Nat) : Int)]) ∧ w' = w := by
  have p1 : (1 : Int) ≤ (p : Int) := by omega
  have p2 : (p : Int) ≤ 9223372036854775807 := by omega
  have a1 : (0 : Int) ≤ (a : Int) := by omega
  have a2 : (a : Int) + (n : Int) ≤ 9223372036854775807 := by omega
  have n1 : (0 : Int) ≤ (n : Int) := by omega
  have C1 := hide (whole_any p a w h1 h2 (by omega) hT)
  by_cases g : n = 0
  · have E := hide (show pB p a n = pF p a by unfold pB pF; rw [if_pos g])
    have g' : (n : Int) = 0 := by omega
    clear hT h1 h2 h3 h4
    go_enter Tryd.func9, Tryd.ntmps9
    go_wp2_with fail
    refine (C1.out).mono ?_
    rintro e w' ⟨rfl, rfl⟩
    go_wp2
    go_ret2
    exact ⟨by rw [E.out]; rfl, rfl⟩
  · have g' : (1 : Int) ≤ (n : Int) := by omega
    have C2 := hide (whole_any p (a + n - 1) w h1 h2 (by omega) hT)
    have EC := hide (show (a : Int) + (n : Int) - 1 = ((a + n - 1 : Nat) : Int) by omega)
    have E := hide (show pB p a n = (a + n - 1) / p + 1 by unfold pB; rw [if_neg g])
    have Q := hide h4
    generalize (a + n - 1) / p = q at *
    generalize a + n - 1 = m at *
    clear hT h1 h2 h3 h4 g
    go_enter Tryd.func9, Tryd.ntmps9
    go_wp2_with fail
    refine (C1.out).mono ?_
    rintro e w' ⟨rfl, rfl⟩
    go_wp2_with fail
    rw [EC.out]
    refine C2.out.mono ?_
    rintro e w' ⟨rfl, rfl⟩
    have q1 : (0 : Int) ≤ (q : Int) := by omega
    have q2 : (q : Int) < 9223372036854775807 := by have := Q.out; omega
    go_wp2
    go_ret2
    exact ⟨by rw [E.out]; rfl, rfl⟩
theorem pages_none (p a n : Int) (w : World) (h : p < 1 ∨ a < 0 ∨ n < 0) (p1 : -9223372036854775808 ≤ p) (p2 : p ≤ 9223372036854775807) (a1 : -9223372036854775808 ≤ a) (a2 : a ≤ 9223372036854775807) (n1 : -9223372036854775808 ≤ n) (n2 : n ≤ 9223372036854775807) :
    Calls Tryd.prog 9 #[.int .i64 p, .int .i64 a, .int .i64 n] w fun e w' => e = .returned (.tuple #[.int .i64 0, .int .i64 0]) ∧ w' = w := by
  by_cases g1 : p < 1
  · clear h
    go_enter Tryd.func9, Tryd.ntmps9
    go_wp2
    go_ret2
    exact ⟨rfl, rfl⟩
  · by_cases g2 : a < 0
    · clear h
      go_enter Tryd.func9, Tryd.ntmps9
      go_wp2
      go_ret2
      exact ⟨rfl, rfl⟩
    · have g3 : n < 0 := by omega
      clear h
      go_enter Tryd.func9, Tryd.ntmps9
      go_wp2
      go_ret2
      exact ⟨rfl, rfl⟩

/-- how many are met -/
theorem count_any (v : Value) (bs : List Bool) (w : World) (h : BoolsAt w v bs) (hl : bs.length ≤ 1048576) :
    Calls Tryd.prog 10 #[v] w fun e w' => e = .returned (.int .i64 ((cntL bs : Nat) : Int)) ∧ w' = w := by
  obtain ⟨a, cap, rfl, hc⟩ := h
  have HC := hide hc
  have l0 : (0 : Int) ≤ (bs.length : Int) := by omega
  have l1 : (bs.length : Int) ≤ 1048576 := by omega
  have TL := hide (show cntL (bs.take bs.length) = cntL bs by rw [List.take_length])
  have TS := hide (cntL_take_succ bs)
  have LE := hide (fun j => show cntL (bs.take j) ≤ bs.length from Nat.le_trans (cntL_le _) (by rw [List.length_take]; omega))
  clear hc hl
  go_enter Tryd.func10, Tryd.ntmps10
  go_wp2
  go_loop [3, 8] (fun c i => ∃ j : Nat, j ≤ bs.length ∧ i = .int .i64 (j : Int) ∧ c = .int .i64 ((cntL (bs.take j) : Nat) : Int)) (fun _ i => (bs.length - intOf i).toNat)
  case atStart => exact ⟨0, Nat.zero_le _, rfl, rfl⟩
  case round =>
    obtain ⟨j, hj, rfl, rfl⟩ := hrel
    by_cases g : j < bs.length
    · have g' : (j : Int) < (bs.length : Int) := by omega
      obtain ⟨b, o, rfl, cl⟩ := HC.out j g
      have S := hide (TS.out j g)
      have L := LE.out j
      have c1 : ((cntL (bs.take j) : Nat) : Int) ≤ 1048576 := by omega
      have c0 : 0 ≤ ((cntL (bs.take j) : Nat) : Int) := by omega
      clear L
      generalize cntL (bs.take j) = q at *
      cases hb : bs.getD j false with
      | true =>
        rw [hb] at cl S
        clear hb
        go_wp2
        go_round
        case rel => exact ⟨j + 1, by omega, by go_num, by rw [S.out]; go_num⟩
        case measure => simp [intOf]; omega
      | false =>
        rw [hb] at cl S
        clear hb
        go_wp2
        go_round
        case rel => exact ⟨j + 1, by omega, by go_num, by rw [S.out]; go_num⟩
        case measure => simp [intOf]; omega
    · obtain rfl : j = bs.length := by omega
      go_wp2
      go_ret
      exact ⟨ret_int (by first | rfl | rw [TL.out]), rfl⟩
end Go.Proofs.YtckfmgopbfgdjaaDoor
