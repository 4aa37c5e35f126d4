/- The document's own answers to rank (hodmanref3's Below, NthTree), bit by bit, as contracts. -/
import Derived.Test.YtlbkicohmbdlhaaRankMath
import Derived.Test.YtlbkicohmbdlhaaRefTreeA
namespace Go.Proofs.Ytlbkicohmbdlhaa
open Go.RowKit

theorem rbelow_any (v : Value) (n : Nat) (ws : List Nat) (i : Int) (w : World) (h : TreeAt w v n ws) :
    Calls Try.prog 13 #[v, .int .i64 i] w fun e w' => e = .returned (.int .i64 ((belowV n ws i : Nat) : Int)) ∧ Fresh w w' := by
  have T := hide h
  obtain ⟨n1, n2, hlev, a, cap, rfl, hlv⟩ := h
  have q2 : (n : Int) ≤ 65536 := by omega
  have FB := hide (fresh_box w #[.int .i64 (n : Int), .slice a (nLev n) cap] 27)
  have BT := hide (tbits_any _ n ws _ (T.out.fresh FB.out))
  clear hlv hlev T
  generalize nLev n = N at *
  go_enter Try.func13, Try.ntmps13
  go_wp2_with fail
  refine BT.out.mono ?_
  rintro e w1 ⟨g, c, rfl, ho, hf1⟩
  have OB := hide ho
  have F1 := hide (FB.out.trans hf1)
  clear ho hf1 BT
  go_wp2
  go_loop [6, 7] (fun c x => ∃ j : Nat, j ≤ n ∧ (j : Int) ≤ max i 0 ∧ x = .int .i64 (j : Int) ∧ c = .int .i64 ((cnt (bitV ws) 0 j : Nat) : Int)) (fun _ x => (n - intOf x).toNat)
  case atStart => exact ⟨0, Nat.zero_le _, by omega, rfl, by rw [cnt_self _ _ _ (Nat.le_refl _)]; rfl⟩
  case round =>
    obtain ⟨j, hj, hji, rfl, rfl⟩ := hrel
    have S := hide (cnt_succ (bitV ws) 0 j (Nat.zero_le _))
    have CL := hide (cnt_le (bitV ws) 0 j)
    have EN := hide (show ¬ (j < n ∧ (j : Int) < i) → belowV n ws i = cnt (bitV ws) 0 j from fun hc => by unfold belowV; rw [show min i.toNat n = j by omega])
    rcases Nat.lt_or_ge j n with hjn | hjn
    · have j1 : (j : Int) < (n : Int) := by omega
      by_cases h1 : (j : Int) < i
      · have cl := OB.out.cell (by rw [bitsL_length]) j hjn
        rw [bitsL_get n ws j hjn] at cl
        have g1 : ((cnt (bitV ws) 0 j : Nat) : Int) ≤ 65536 := by have := CL.out; omega
        clear EN CL
        cases hb : bitV ws j with
        | true =>
          rw [hb, if_pos rfl] at S
          rw [hb] at cl
          clear hb
          generalize cnt (bitV ws) 0 j = C at *
          go_wp2
          go_round
          case rel => exact ⟨j + 1, by omega, by omega, by go_num, by rw [S.out]; go_num⟩
          case measure => simp [intOf]; omega
        | false =>
          rw [hb, if_neg (by decide)] at S
          rw [hb] at cl
          clear hb
          generalize cnt (bitV ws) 0 j = C at *
          go_wp2
          go_round
          case rel => exact ⟨j + 1, by omega, by omega, by go_num, by rw [S.out]; go_num⟩
          case measure => simp [intOf]; omega
      · have h2 : i ≤ (j : Int) := by omega
        have E := hide (EN.out (by omega))
        clear EN CL S h1
        generalize cnt (bitV ws) 0 j = C at *
        go_wp2
        go_ret
        exact ⟨ret_int (by rw [E.out]), F1.out⟩
    · have h2 : (n : Int) ≤ (j : Int) := by omega
      have E := hide (EN.out (by omega))
      clear EN CL S
      generalize cnt (bitV ws) 0 j = C at *
      go_wp2
      go_ret
      exact ⟨ret_int (by rw [E.out]), F1.out⟩

theorem rnth_nat (v : Value) (n : Nat) (ws : List Nat) (N : Nat) (w : World) (h : TreeAt w v n ws) (hN : (N : Int) ≤ 9223372036854775807) :
    Calls Try.prog 11 #[v, .int .i64 (N : Int)] w fun e w' => e = foundE (nthT n ws (N : Int)) ∧ Fresh w w' := by
  have T := hide h
  obtain ⟨n1, n2, hlev, a, cap, rfl, hlv⟩ := h
  have q2 : (n : Int) ≤ 65536 := by omega
  have FB := hide (fresh_box w #[.int .i64 (n : Int), .slice a (nLev n) cap] 27)
  have BT := hide (tbits_any _ n ws _ (T.out.fresh FB.out))
  clear hlv hlev T
  generalize nLev n = L at *
  go_enter Try.func11, Try.ntmps11
  go_wp2_with fail
  refine BT.out.mono ?_
  rintro e w1 ⟨g, c, rfl, ho, hf1⟩
  have OB := hide ho
  have F1 := hide (FB.out.trans hf1)
  clear ho hf1 BT
  go_wp2
  go_loop [1, 7] (fun r x => ∃ j R : Nat, j ≤ n ∧ x = .int .i64 (j : Int) ∧ r = .int .i64 (R : Int) ∧ cnt (bitV ws) 0 j + R = N) (fun _ x => (n - intOf x).toNat)
  case atStart => exact ⟨0, N, Nat.zero_le _, rfl, rfl, by rw [cnt_self _ _ _ (Nat.le_refl _)]; omega⟩
  case round =>
    obtain ⟨j, R, hj, rfl, rfl, hR⟩ := hrel
    have S := hide (cnt_succ (bitV ws) 0 j (Nat.zero_le _))
    have HR := hide hR
    have r1 : (R : Int) ≤ 9223372036854775807 := by omega
    rcases Nat.lt_or_ge j n with hjn | hjn
    · have j1 : (j : Int) < (n : Int) := by omega
      have cl := OB.out.cell (by rw [bitsL_length]) j hjn
      rw [bitsL_get n ws j hjn] at cl
      have NS := hide (fun (hb : bitV ws j = true) (h0 : R = 0) => nthT_some hjn hb (show cnt (bitV ws) 0 j = N by omega))
      clear hR
      cases hb : bitV ws j with
      | true =>
        rw [hb, if_pos rfl] at S
        have N0 := hide (NS.out hb)
        rw [hb] at cl
        clear hb NS
        rcases Nat.eq_zero_or_pos R with rfl | hR0
        · have X := hide (N0.out rfl)
          clear N0
          go_wp2
          go_ret2
          exact ⟨by rw [X.out]; rfl, F1.out⟩
        · have z : ((R : Int) == 0) = false := by rw [beq_eq_false_iff_ne]; omega
          have r0 : (1 : Int) ≤ (R : Int) := by omega
          clear N0
          go_wp2
          go_round
          case rel => exact ⟨j + 1, R - 1, by omega, by go_num, by go_num, by rw [S.out]; have := HR.out; omega⟩
          case measure => simp [intOf]; omega
      | false =>
        rw [hb, if_neg (by decide)] at S
        rw [hb] at cl
        clear hb NS
        go_wp2
        go_round
        case rel => exact ⟨j + 1, R, by omega, by go_num, rfl, by rw [S.out]; have := HR.out; omega⟩
        case measure => simp [intOf]; omega
    · obtain rfl : j = n := by omega
      have X := hide (nthT_none (n := j) (ws := ws) (k := N) (by omega))
      clear hR S
      go_wp2
      go_ret2
      exact ⟨by rw [X.out]; rfl, F1.out⟩
/-- below 0 it never comes to 0, though it may run under the least int there is -/
theorem rnth_neg (v : Value) (n : Nat) (ws : List Nat) (k : Int) (w : World) (h : TreeAt w v n ws) (hk : k < 0) (hk' : -9223372036854775808 ≤ k) :
    Calls Try.prog 11 #[v, .int .i64 k] w fun e w' => e = foundE (nthT n ws k) ∧ Fresh w w' := by
  rw [nthT_neg hk]
  have T := hide h
  obtain ⟨n1, n2, hlev, a, cap, rfl, hlv⟩ := h
  have q2 : (n : Int) ≤ 65536 := by omega
  have FB := hide (fresh_box w #[.int .i64 (n : Int), .slice a (nLev n) cap] 27)
  have BT := hide (tbits_any _ n ws _ (T.out.fresh FB.out))
  clear hlv hlev T
  generalize nLev n = L at *
  go_enter Try.func11, Try.ntmps11
  go_wp2_with fail
  refine BT.out.mono ?_
  rintro e w1 ⟨g, c, rfl, ho, hf1⟩
  have OB := hide ho
  have F1 := hide (FB.out.trans hf1)
  clear ho hf1 BT
  go_wp2
  go_loop [1, 7] (fun r x => ∃ (j : Nat) (R : Int), j ≤ n ∧ x = .int .i64 (j : Int) ∧ r = .int .i64 R ∧ ((-9223372036854775808 ≤ R ∧ R < 0) ∨ (9223372036854775807 - (j : Int) ≤ R ∧ R ≤ 9223372036854775807))) (fun _ x => (n - intOf x).toNat)
  case atStart => exact ⟨0, k, Nat.zero_le _, rfl, rfl, .inl ⟨hk', hk⟩⟩
  case round =>
    obtain ⟨j, R, hj, rfl, rfl, hR⟩ := hrel
    have HR := hide hR
    rcases Nat.lt_or_ge j n with hjn | hjn
    · have j1 : (j : Int) < (n : Int) := by omega
      have cl := OB.out.cell (by rw [bitsL_length]) j hjn
      rw [bitsL_get n ws j hjn] at cl
      have z : (R == 0) = false := by rw [beq_eq_false_iff_ne]; omega
      clear hR
      cases hb : bitV ws j with
      | true =>
        rw [hb] at cl
        clear hb
        go_wp2
        go_round
        case rel => exact ⟨j + 1, _, by omega, by go_num, rfl, by have := HR.out; unfold wrap64; omega⟩
        case measure => simp [intOf]; omega
      | false =>
        rw [hb] at cl
        clear hb
        go_wp2
        go_round
        case rel => exact ⟨j + 1, R, by omega, by go_num, rfl, by have := HR.out; omega⟩
        case measure => simp [intOf]; omega
    · have h2 : (n : Int) ≤ (j : Int) := by omega
      clear hR
      go_wp2
      go_ret2
      exact ⟨rfl, F1.out⟩
theorem rnth_any (v : Value) (n : Nat) (ws : List Nat) (k : Int) (w : World) (h : TreeAt w v n ws) (hk : -9223372036854775808 ≤ k) (hk' : k ≤ 9223372036854775807) :
    Calls Try.prog 11 #[v, .int .i64 k] w fun e w' => e = foundE (nthT n ws k) ∧ Fresh w w' := by
  by_cases h0 : k < 0
  · exact rnth_neg v n ws k w h h0 hk
  · obtain ⟨N, rfl⟩ : ∃ N : Nat, k = N := ⟨k.toNat, by omega⟩
    exact rnth_nat v n ws N w h hk'
end Go.Proofs.Ytlbkicohmbdlhaa
