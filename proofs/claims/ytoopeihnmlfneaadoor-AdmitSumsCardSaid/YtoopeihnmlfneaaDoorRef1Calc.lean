/- What the document's own answers to calc are (hodmanref1's Add, Mul, Up, Log, Round), as contracts: the same plain functions as the program's package calc has. -/
import Derived.Test.YtoopeihnmlfneaaDoorBase
import Derived.Test.YtoopeihnmlfneaaDoorCalcMath
import Derived.WalkKit
import Derived.WalkSpells
namespace Go.Proofs.YtoopeihnmlfneaaDoor
open Go.RowKit

theorem radd_any (a b : Int) (w : World) (ha : -9223372036854775808 ≤ a) (ha' : a ≤ 9223372036854775807) (hb : -9223372036854775808 ≤ b) (hb' : b ≤ 9223372036854775807) :
    Calls Tryd.prog 29 #[.int .i64 a, .int .i64 b] w fun e w' => e = .returned (.tuple #[.int .i64 (addV a b), .bool (addB a b)]) ∧ w' = w := by
  rcases add_cases a b with ⟨e1, e2, h, h'⟩ | ⟨e1, e2, h⟩
  · rw [e1, e2]
    clear e1 e2
    rcases Int.lt_trichotomy b 0 with h0 | h0 | h0
    · have h1 : -9223372036854775808 - b ≤ a := by omega
      go_enter Tryd.func29, Tryd.ntmps29
      go_wp2
      go_ret2
      exact ⟨rfl, rfl⟩
    · subst h0
      go_enter Tryd.func29, Tryd.ntmps29
      go_wp2
      go_ret2
      exact ⟨ret_int_bool (by omega), rfl⟩
    · have h1 : a ≤ 9223372036854775807 - b := by omega
      go_enter Tryd.func29, Tryd.ntmps29
      go_wp2
      go_ret2
      exact ⟨rfl, rfl⟩
  · rw [e1, e2]
    clear e1 e2
    rcases Int.lt_trichotomy b 0 with h0 | h0 | h0
    · have h1 : a < -9223372036854775808 - b := by omega
      clear h
      go_enter Tryd.func29, Tryd.ntmps29
      go_wp2
      go_ret2
      exact ⟨rfl, rfl⟩
    · exfalso; omega
    · have h1 : 9223372036854775807 - b < a := by omega
      clear h
      go_enter Tryd.func29, Tryd.ntmps29
      go_wp2
      go_ret2
      exact ⟨rfl, rfl⟩

theorem quo_wraps (a b : Int) (hb : b ≠ 0) (h1 : b ≠ -1) (ha : -9223372036854775808 ≤ a) (ha' : a ≤ 9223372036854775807) (hbl : -9223372036854775808 ≤ b) (hbu : b ≤ 9223372036854775807) (h : a * b < -9223372036854775808 ∨ 9223372036854775807 < a * b) :
    wrap64 ((wrap64 (a * b)).tdiv b) ≠ a := by
  intro he
  have hb1 : b ≠ 1 := by rintro rfl; rw [Int.mul_one] at h; omega
  have hw : ∃ k, wrap64 (a * b) = a * b + 18446744073709551616 * k := ⟨-((a * b + 9223372036854775808) / 18446744073709551616), by unfold wrap64; omega⟩
  have hc : -9223372036854775808 ≤ wrap64 (a * b) ∧ wrap64 (a * b) ≤ 9223372036854775807 := by unfold wrap64; omega
  obtain ⟨k, hk⟩ := hw
  generalize wrap64 (a * b) = c at *
  have hq : (c.tdiv b).natAbs = c.natAbs / b.natAbs := Int.natAbs_tdiv c b
  have hq2 : c.natAbs / b.natAbs ≤ c.natAbs / 2 := Nat.div_le_div_left (by omega) (by omega)
  have hqr : wrap64 (c.tdiv b) = c.tdiv b := by
    generalize c.tdiv b = q at *
    unfold wrap64; omega
  rw [hqr] at he
  have hm := Int.tmod_add_mul_tdiv c b
  have hmb : (c.tmod b).natAbs = c.natAbs % b.natAbs := Int.natAbs_tmod c b
  have hmb2 : c.natAbs % b.natAbs < b.natAbs := Nat.mod_lt _ (by omega)
  rw [he, Int.mul_comm] at hm
  generalize c.tmod b = m at *
  have hk0 : k ≠ 0 := by rintro rfl; omega
  omega

theorem rmul_any (a b : Int) (w : World) (ha : -9223372036854775808 ≤ a) (ha' : a ≤ 9223372036854775807) (hb : -9223372036854775808 ≤ b) (hb' : b ≤ 9223372036854775807) :
    Calls Tryd.prog 28 #[.int .i64 a, .int .i64 b] w fun e w' => e = .returned (.tuple #[.int .i64 (mulV a b), .bool (mulB a b)]) ∧ w' = w := by
  by_cases h0 : a = 0
  · subst h0
    have := mul_fits (a := 0) (b := b) (by rw [Int.zero_mul]; omega) (by rw [Int.zero_mul]; omega)
    rw [this.1, this.2, Int.zero_mul]
    clear this
    go_enter Tryd.func28, Tryd.ntmps28
    go_wp2
    go_ret2
    exact ⟨rfl, rfl⟩
  by_cases h1 : b = 0
  · subst h1
    have := mul_fits (a := a) (b := 0) (by rw [Int.mul_zero]; omega) (by rw [Int.mul_zero]; omega)
    rw [this.1, this.2, Int.mul_zero]
    clear this
    go_enter Tryd.func28, Tryd.ntmps28
    go_wp2
    go_ret2
    exact ⟨rfl, rfl⟩
  have z0 : (a == 0) = false := by simpa using h0
  have z1 : (b == 0) = false := by simpa using h1
  by_cases h2 : b = -1
  · subst h2
    by_cases h3 : a = -9223372036854775808
    · subst h3
      have e : mulB (-9223372036854775808) (-1) = false ∧ mulV (-9223372036854775808) (-1) = 0 := by decide
      rw [e.1, e.2]
      clear e
      go_enter Tryd.func28, Tryd.ntmps28
      go_wp2
      go_ret2
      exact ⟨rfl, rfl⟩
    · have e := mul_fits (a := a) (b := -1) (by omega) (by omega)
      have z3 : (a == -9223372036854775808) = false := by simpa using h3
      have w1 : wrap64 1 = 1 := by unfold wrap64; decide
      have w2 : wrap64 (-1) = -1 := by unfold wrap64; decide
      have w3 : wrap64 (-a) = -a := by unfold wrap64; omega
      have w4 : wrap64 a = a := by unfold wrap64; omega
      rw [e.1, e.2, show a * -1 = -a by omega]
      clear e h3
      by_cases h4 : a = -1
      · subst h4
        clear w3 w4
        go_enter Tryd.func28, Tryd.ntmps28
        go_wp2
        go_ret2
        exact ⟨rfl, rfl⟩
      · have z4 : (a == -1) = false := by simpa using h4
        have W3 := hide w3
        go_enter Tryd.func28, Tryd.ntmps28
        go_wp2
        go_ret2
        exact ⟨ret_int_bool W3.out, rfl⟩
  have z2 : (b == -1) = false := by simpa using h2
  by_cases h3 : a = -1
  · subst h3
    by_cases h4 : b = -9223372036854775808
    · subst h4
      have e : mulB (-1) (-9223372036854775808) = false ∧ mulV (-1) (-9223372036854775808) = 0 := by decide
      rw [e.1, e.2]
      clear e
      go_enter Tryd.func28, Tryd.ntmps28
      go_wp2
      go_ret2
      exact ⟨rfl, rfl⟩
    · have e := mul_fits (a := -1) (b := b) (by omega) (by omega)
      have z3 : (b == -9223372036854775808) = false := by simpa using h4
      have w2 : wrap64 (-1) = -1 := by unfold wrap64; decide
      have w3 : wrap64 (-b) = -b := by unfold wrap64; omega
      have hd : wrap64 ((-b).tdiv b) = -1 := by rw [Int.neg_tdiv, Int.tdiv_self h1]; exact w2
      rw [e.1, e.2, show -1 * b = -b by omega]
      clear e
      go_enter Tryd.func28, Tryd.ntmps28
      go_wp2
      go_ret2
      exact ⟨rfl, rfl⟩
  have z3 : (a == -1) = false := by simpa using h3
  rcases mul_cases a b with ⟨e1, e2, g, g'⟩ | ⟨e1, e2, g⟩
  · rw [e1, e2]
    clear e1 e2
    have hd : wrap64 ((a * b).tdiv b) = a := by rw [Int.mul_tdiv_cancel a h1]; unfold wrap64; omega
    have hw : wrap64 (a * b) = a * b := by unfold wrap64; omega
    generalize hy : a * b = y at *
    have Y := hide hy
    have hw' : wrap64 (a * b) = y := by rw [hy]; exact hw
    have W := hide hw'
    clear hy hw
    go_enter Tryd.func28, Tryd.ntmps28
    go_wp2
    go_ret2
    exact ⟨ret_int_bool W.out, rfl⟩
  · rw [e1, e2]
    clear e1 e2
    have hd : (wrap64 ((wrap64 (a * b)).tdiv b) == a) = false := by
      simpa using quo_wraps a b h1 h2 ha ha' hb hb' g
    generalize hc : wrap64 (a * b) = c at *
    clear g
    go_enter Tryd.func28, Tryd.ntmps28
    go_wp2
    go_ret2
    exact ⟨rfl, rfl⟩

theorem rround_any (v to : Int) (w : World) (ha' : v ≤ 9223372036854775807) (hb' : to ≤ 9223372036854775807) :
    Calls Tryd.prog 22 #[.int .i64 v, .int .i64 to] w fun e w' => e = .returned (.tuple #[.int .i64 (roundV v to), .bool (roundB v to)]) ∧ w' = w := by
  by_cases h : v < 0 ∨ to < 1
  · have := round_not (v := v) (to := to) (by omega)
    rw [this.1, this.2]
    clear this
    by_cases h1 : v < 0
    · clear h
      go_enter Tryd.func22, Tryd.ntmps22
      go_wp2
      go_ret2
      exact ⟨rfl, rfl⟩
    · have h2 : to < 1 := by omega
      clear h
      go_enter Tryd.func22, Tryd.ntmps22
      go_wp2
      go_ret2
      exact ⟨rfl, rfl⟩
  have h1 : 0 ≤ v := by omega
  have h2 : 1 ≤ to := by omega
  clear h
  by_cases h0 : v % to = 0
  · have e : upTo v to = v := by simp [upTo, h0]
    have := round_fits (v := v) (to := to) h1 h2 (by omega)
    rw [this.1, this.2, e]
    clear this e
    go_enter Tryd.func22, Tryd.ntmps22
    go_wp2
    go_ret2
    exact ⟨rfl, rfl⟩
  · have h6 := Int.emod_nonneg v (show to ≠ 0 by omega)
    have h7 := Int.emod_lt_of_pos v (show 0 < to by omega)
    have h8 : v % to ≤ v := by
      have := Int.emod_add_mul_ediv v to
      have := Int.mul_nonneg (show 0 ≤ to by omega) (Int.ediv_nonneg h1 (show 0 ≤ to by omega))
      omega
    have hv : addV (v - v % to) to = roundV v to ∧ addB (v - v % to) to = roundB v to := by
      have e : upTo v to = v + (to - v % to) := by simp [upTo, h0]
      by_cases h5 : v + (to - v % to) ≤ 9223372036854775807
      · have a1 := add_fits (a := v - v % to) (b := to) (by omega) (by omega)
        have a2 := round_fits (v := v) (to := to) h1 h2 (by omega)
        exact ⟨by rw [a1.2, a2.2]; omega, by rw [a1.1, a2.1]⟩
      · have a1 := add_not (a := v - v % to) (b := to) (by omega)
        have a2 := round_not (v := v) (to := to) (by omega)
        exact ⟨by rw [a1.2, a2.2], by rw [a1.1, a2.1]⟩
    have h0' : (v % to == 0) = false := by simpa using h0
    rw [← hv.1, ← hv.2]
    clear hv h0
    generalize hm : v % to = m at *
    go_enter Tryd.func22, Tryd.ntmps22
    go_wp2_with fail
    refine (radd_any (v - m) to _ (by omega) (by omega) (by omega) (by omega)).mono ?_
    rintro e w' ⟨rfl, rfl⟩
    go_wp2
    go_ret2
    exact ⟨rfl, rfl⟩

theorem least_or {v j k : Nat} (hl : Least v k) (hj : j ≤ k) : (2 ^ j < v ∧ j < k) ∨ (v ≤ 2 ^ j ∧ j = k) := by
  rcases Nat.lt_or_ge j k with h | h
  · exact .inl ⟨hl.2 j h, h⟩
  · obtain rfl : j = k := by omega
    exact .inr ⟨hl.1, rfl⟩

theorem rup_any (v : Int) (w : World) (ha : -9223372036854775808 ≤ v) (ha' : v ≤ 9223372036854775807) :
    Calls Tryd.prog 21 #[.int .i64 v] w fun e w' => e = .returned (.tuple #[.int .i64 (upV v), .bool (upB v)]) ∧ w' = w := by
  rcases up_cases v with ⟨k, hk, h1, h2, hl, e1, e2⟩ | ⟨e1, e2, h⟩
  · rw [e1, e2]
    clear e1 e2
    go_enter Tryd.func21, Tryd.ntmps21
    go_wp2
    go_loop [4] (fun p => ∃ j : Nat, j ≤ k ∧ p = .int .i64 ((2 ^ j : Nat) : Int)) (fun p => (9223372036854775808 - intOf p).toNat)
    case atStart => exact ⟨0, Nat.zero_le _, rfl⟩
    case round =>
      obtain ⟨j, hj, rfl⟩ := hrel
      have hp := pow_62 (show j ≤ 62 by omega)
      have hs : ((2 ^ (j + 1) : Nat) : Int) = ((2 ^ j : Nat) : Int) * 2 := by rw [Nat.pow_succ]; omega
      have S := hide hs
      have hp1 : 1 ≤ ((2 ^ j : Nat) : Int) := by omega
      have hp2 : ((2 ^ j : Nat) : Int) ≤ 4611686018427387904 := by omega
      rcases least_or hl hj with ⟨h3, h4⟩ | ⟨h3, h4⟩
      · have h5 : ((2 ^ j : Nat) : Int) < v := by omega
        clear hs hp h3
        generalize ((2 ^ j : Nat) : Int) = p at *
        go_wp2
        go_round
        case rel => exact ⟨j + 1, by omega, by rw [S.out]⟩
        case measure => simp [intOf]; omega
      · have h5 : v ≤ ((2 ^ j : Nat) : Int) := by omega
        subst h4
        clear hs hp h3 S
        generalize hP : ((2 ^ j : Nat) : Int) = p at *
        have P := hide hP
        clear hP
        go_wp2
        go_ret2
        exact ⟨ret_int_bool P.out.symm, rfl⟩
  · rw [e1, e2]
    clear e1 e2
    by_cases h1 : v < 1
    · clear h
      go_enter Tryd.func21, Tryd.ntmps21
      go_wp2
      go_ret2
      exact ⟨rfl, rfl⟩
    · have h2 : 4611686018427387904 < v := by omega
      clear h
      go_enter Tryd.func21, Tryd.ntmps21
      go_wp2
      go_ret2
      exact ⟨rfl, rfl⟩

theorem rlog_any (v : Int) (w : World) (ha' : v ≤ 9223372036854775807) :
    Calls Tryd.prog 23 #[.int .i64 v] w fun e w' => e = .returned (.tuple #[.int .i64 (logV v), .bool (logB v)]) ∧ w' = w := by
  go_enter Tryd.func23, Tryd.ntmps23
  go_wp2
  go_loop [4, 5] (fun p n => ∃ j : Nat, j ≤ 63 ∧ n = .int .i64 j ∧ p = .int .i64 ((2 ^ min j 62 : Nat) : Int) ∧ ∀ i : Nat, i < j → v ≠ ((2 ^ i : Nat) : Int)) (fun _ n => (63 - intOf n).toNat)
  case atStart => exact ⟨0, Nat.zero_le _, rfl, rfl, fun i hi => absurd hi (Nat.not_lt_zero i)⟩
  case round =>
    obtain ⟨j, hj, rfl, rfl, hno⟩ := hrel
    have NO := hide hno
    clear hno
    by_cases h63 : j < 63
    · have em : min j 62 = j := by omega
      rw [em]
      clear em
      have hp := pow_62 (show j ≤ 62 by omega)
      have S := hide (show ((2 ^ (j + 1) : Nat) : Int) = ((2 ^ j : Nat) : Int) * 2 by rw [Nat.pow_succ]; omega)
      have hp1 : 1 ≤ ((2 ^ j : Nat) : Int) := by omega
      have hp2 : ((2 ^ j : Nat) : Int) ≤ 4611686018427387904 := by omega
      by_cases hv : v = ((2 ^ j : Nat) : Int)
      · have F := hide (log_fits (v := v) (k := j) (by omega) hv)
        have hv' : (((2 ^ j : Nat) : Int) == v) = true := by simpa using hv.symm
        clear hv hp
        generalize ((2 ^ j : Nat) : Int) = p at *
        go_wp2
        go_ret2
        exact ⟨ret_pair F.out.2.symm F.out.1.symm, rfl⟩
      · have NE := hide hv
        have hv' : (((2 ^ j : Nat) : Int) == v) = false := by rw [beq_eq_false_iff_ne]; exact fun h => hv h.symm
        clear hp hv
        by_cases h62 : j < 62
        · have hp3 : ((2 ^ j : Nat) : Int) ≤ 2305843009213693952 := by have := pow_le_pow (show j ≤ 61 by omega); omega
          generalize hP : ((2 ^ j : Nat) : Int) = p at *
          have P := hide hP
          clear hP
          go_wp2
          go_round
          case rel =>
            refine ⟨j + 1, by omega, by go_num, ?_, fun i hi => ?_⟩
            · rw [show min (j + 1) 62 = j + 1 by omega, S.out]
            · rcases Nat.lt_or_ge i j with h | h
              · exact NO.out i h
              · rw [show i = j by omega, P.out]; exact NE.out
          case measure => simp [intOf]; omega
        · generalize hP : ((2 ^ j : Nat) : Int) = p at *
          have P := hide hP
          clear hP
          go_wp2
          go_round
          case rel =>
            refine ⟨j + 1, by omega, by go_num, ?_, fun i hi => ?_⟩
            · rw [show min (j + 1) 62 = j by omega, P.out]
            · rcases Nat.lt_or_ge i j with h | h
              · exact NO.out i h
              · rw [show i = j by omega, P.out]; exact NE.out
          case measure => simp [intOf]; omega
    · have F := hide (log_not (v := v) ha' (fun k hk => NO.out k (by omega)))
      go_wp2
      go_ret2
      exact ⟨ret_pair F.out.2.symm F.out.1.symm, rfl⟩
end Go.Proofs.YtoopeihnmlfneaaDoor
