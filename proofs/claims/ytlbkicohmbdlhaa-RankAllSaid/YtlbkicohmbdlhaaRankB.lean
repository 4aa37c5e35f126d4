/- What package rank answers (Below, Nth, Zeros), as contracts. -/
import Derived.Test.YtlbkicohmbdlhaaRank
import Derived.Test.YtlbkicohmbdlhaaTreeVar
namespace Go.Proofs.Ytlbkicohmbdlhaa
open Go.RowKit

theorem endOf_to (v : Value) (n : Nat) (ws : List Nat) (i : Int) (en : Nat) (hen : min i.toNat n = en) (w : World) (h : TreeAt w v n ws) (hi : -9223372036854775808 ≤ i) (hi' : i ≤ 9223372036854775807) :
    Calls Try.prog 20 #[v, .int .i64 i] w fun e w' => e = .returned (.int .i64 (en : Int)) ∧ Fresh w w' := by
  subst hen; exact endOf_any v n ws i w h hi hi'

set_option maxHeartbeats 1000000 in
theorem below_any (v : Value) (n : Nat) (ws : List Nat) (i : Int) (w : World) (h : TreeAt w v n ws) (hi : -9223372036854775808 ≤ i) (hi' : i ≤ 9223372036854775807) :
    Calls Try.prog 12 #[v, .int .i64 i] w fun e w' => e = .returned (.int .i64 ((belowV n ws i : Nat) : Int)) ∧ Fresh w w' := by
  have n1 := h.1
  have n2 := h.2.1
  have A64 := hide h.lev.1
  obtain ⟨b, o, cap, rfl, _⟩ := h.shape
  obtain ⟨L, hL⟩ : ∃ L, nLev n = L := ⟨_, rfl⟩
  rw [hL] at h ⊢
  have VT := hide (var_new hL h)
  clear h hL
  obtain ⟨W1, hW1⟩ : ∃ W1, W1 = w.alloc (.cells #[.int .i64 (n : Int), .slice (some ⟨b, o, none⟩) L cap] 27) := ⟨_, rfl⟩
  rw [← hW1] at VT
  have FW := hide (show Fresh w W1 by subst hW1; exact fresh_box w _ _)
  have HW := hide hW1
  clear hW1
  have c0 := VT.out.c0 W1 (Fresh.refl _)
  have c1 := VT.out.c1 W1 (Fresh.refl _)
  obtain ⟨en, hen⟩ : ∃ en, min i.toNat n = en := ⟨_, rfl⟩
  have EN := hide hen
  have en1 : en ≤ n := by omega
  have BV := hide (show belowV n ws i = cnt (bitV ws) 0 en by unfold belowV; rw [hen])
  clear hen
  go_enter Try.func12, Try.ntmps12
  go_wp2_with fail
  rw [← HW.out]
  refine (endOf_to _ n ws i en EN.out _ (VT.out.tr _ (Fresh.refl _)) hi hi').mono ?_
  rintro e w2 ⟨rfl, k2⟩
  have K2 := hide k2
  clear c0 c1 k2
  go_wp2
  go_loopw [5, 7] (fun c x wr => ∃ k : Nat, 64 * k < en + 64 ∧ x = .int .i64 (k : Int) ∧ c = .int .i64 ((cnt (bitV ws) 0 (min (64 * k) en) : Nat) : Int) ∧ Fresh W1 wr) (fun _ x _ => (en - intOf x).toNat)
  case atStart => exact ⟨0, by omega, rfl, by rw [cnt_self _ _ _ (by omega)]; rfl, K2.out⟩
  case round =>
    obtain ⟨k, hk, rfl, rfl, hF⟩ := hrel
    have KF := hide hF
    have c0 := VT.out.c0 wr hF
    have c1 := VT.out.c1 wr hF
    clear hF K2
    by_cases hke : 64 * k < en
    · have S := hide (word_step ws k en hke)
      have CL := hide (cnt_le (bitV ws) 0 (64 * k))
      rw [Nat.min_eq_left (show 64 * k ≤ en by omega)]
      have A := hide (show ws.getD k 0 &&& maskN 0 (en - 64 * k) < 18446744073709551616 from Nat.lt_of_le_of_lt Nat.and_le_left (A64.out.getD k))
      have OL := hide (ones_le (ws.getD k 0 &&& maskN 0 (en - 64 * k)))
      have SB := hide (fun v w h => setB_nat v n ws k en w h hke en1)
      have h1 : (k : Int) * 64 < (en : Int) := by omega
      have h2 : (en : Int) ≤ 65536 := by omega
      have g1 : (0 : Int) ≤ ((cnt (bitV ws) 0 (64 * k) : Nat) : Int) := by omega
      have g2 : ((cnt (bitV ws) 0 (64 * k) : Nat) : Int) ≤ 65536 := by have := CL.out; omega
      generalize ws.getD k 0 &&& maskN 0 (en - 64 * k) = u at *
      generalize cnt (bitV ws) 0 (64 * k) = C at *
      have o1 : ((onesV u : Nat) : Int) ≤ 64 := by have := OL.out; omega
      have ON := hide (fun w => ones_nat u A.out w)
      generalize onesV u = q at *
      clear CL OL A
      go_wp2_with fail
      refine (SB.out _ _ (VT.out.tr _ KF.out)).mono ?_
      rintro e w3 ⟨rfl, k3⟩
      have K3 := hide (KF.out.trans k3)
      clear k3 c0 c1
      go_wp2_with fail
      refine (ON.out _).mono ?_
      rintro e w4 ⟨rfl, rfl⟩
      go_wp2
      go_roundw
      case rel => first | exact ⟨k + 1, by omega, by go_num, by rw [S.out]; go_num, K3.out⟩ | ((repeat apply Exists.intro); refine ⟨?_, rfl⟩; exact ⟨k + 1, by omega, by go_num, by rw [S.out]; go_num, K3.out⟩)
      case measure => simp [intOf]; omega
    · have h1 : (en : Int) ≤ (k : Int) * 64 := by omega
      have h2 : (k : Int) ≤ 2000 := by omega
      rw [Nat.min_eq_right (show en ≤ 64 * k by omega)]
      have F2 := hide (FW.out.trans KF.out)
      generalize hC : ((cnt (bitV ws) 0 en : Nat) : Int) = C at *
      have CC := hide hC
      clear hC hke c0 c1
      go_wp2
      go_ret
      exact ⟨ret_int (by rw [BV.out, CC.out]), F2.out⟩

set_option maxHeartbeats 1000000 in
theorem nth_nat (v : Value) (n : Nat) (ws : List Nat) (N : Nat) (w : World) (h : TreeAt w v n ws) (hN : (N : Int) ≤ 9223372036854775807) :
    Calls Try.prog 10 #[v, .int .i64 (N : Int)] w fun e w' => e = foundE (nthT n ws (N : Int)) ∧ Fresh w w' := by
  have n1 := h.1
  have n2 := h.2.1
  have A64 := hide h.lev.1
  obtain ⟨b, o, cap, rfl, _⟩ := h.shape
  obtain ⟨L, hL⟩ : ∃ L, nLev n = L := ⟨_, rfl⟩
  rw [hL] at h ⊢
  have VT := hide (var_new hL h)
  clear h hL
  obtain ⟨W1, hW1⟩ : ∃ W1, W1 = w.alloc (.cells #[.int .i64 (n : Int), .slice (some ⟨b, o, none⟩) L cap] 27) := ⟨_, rfl⟩
  rw [← hW1] at VT
  have FW := hide (show Fresh w W1 by subst hW1; exact fresh_box w _ _)
  have HW := hide hW1
  clear hW1
  have c0 := VT.out.c0 W1 (Fresh.refl _)
  have c1 := VT.out.c1 W1 (Fresh.refl _)
  have q0 : (0 : Int) ≤ (N : Int) := by omega
  have q2 : (n : Int) ≤ 65536 := by omega
  go_enter Try.func10, Try.ntmps10
  go_wp2_with fail
  rw [← HW.out]
  refine (endOf_to _ n ws (n : Int) n (by omega) _ (VT.out.tr _ (Fresh.refl _)) (by omega) (by omega)).mono ?_
  rintro e w2 ⟨rfl, k2⟩
  have K2 := hide k2
  clear c0 c1 k2
  go_wp2
  go_loopw [1, 7] (fun r x wr => ∃ k R : Nat, 64 * k < n + 64 ∧ x = .int .i64 (k : Int) ∧ r = .int .i64 (R : Int) ∧ cnt (bitV ws) 0 (min (64 * k) n) + R = N ∧ Fresh W1 wr) (fun _ x _ => (n - intOf x).toNat)
  case atStart => exact ⟨0, N, by omega, rfl, rfl, by rw [cnt_self _ _ _ (by omega)]; omega, K2.out⟩
  case round =>
    obtain ⟨k, R, hk, rfl, rfl, hR, hF⟩ := hrel
    have KF := hide hF
    have c0 := VT.out.c0 wr hF
    have c1 := VT.out.c1 wr hF
    have r0 : (0 : Int) ≤ (R : Int) := by omega
    have r1 : (R : Int) ≤ 9223372036854775807 := by omega
    clear hF K2
    by_cases hke : 64 * k < n
    · have S := hide (word_step ws k n hke)
      rw [Nat.min_eq_left (show 64 * k ≤ n by omega)] at hR
      have HR := hide hR
      have WN := hide (fun h => word_nth n ws k n N hke (Nat.le_refl _) (by omega) h)
      have RN := hide (show N - cnt (bitV ws) 0 (64 * k) = R by omega)
      rw [RN.out] at WN
      have A := hide (show ws.getD k 0 &&& maskN 0 (n - 64 * k) < 18446744073709551616 from Nat.lt_of_le_of_lt Nat.and_le_left (A64.out.getD k))
      have OL := hide (ones_le (ws.getD k 0 &&& maskN 0 (n - 64 * k)))
      have NL := hide (nth_le (ws.getD k 0 &&& maskN 0 (n - 64 * k)) (R : Int))
      have SB := hide (fun v w h => setB_nat v n ws k n w h hke (Nat.le_refl _))
      have h1 : (k : Int) * 64 < (n : Int) := by omega
      generalize ws.getD k 0 &&& maskN 0 (n - 64 * k) = u at *
      have o1 : ((onesV u : Nat) : Int) ≤ 64 := by have := OL.out; omega
      have ON := hide (fun w => ones_nat u A.out w)
      have NN := hide (fun w => nthw_nat u (R : Int) A.out (by omega) r1 w)
      clear hR OL A RN
      by_cases hlt : R < onesV u
      · have X := hide (WN.out hlt)
        have lt' : (R : Int) < ((onesV u : Nat) : Int) := by omega
        have p1 : ((nthV u (R : Int) : Nat) : Int) ≤ 64 := by have := NL.out; omega
        have p0 : (0 : Int) ≤ ((nthV u (R : Int) : Nat) : Int) := by omega
        generalize onesV u = q at *
        generalize nthV u (R : Int) = p at *
        clear WN S hlt NL
        go_wp2_with fail
        refine (SB.out _ _ (VT.out.tr _ KF.out)).mono ?_
        rintro e w3 ⟨rfl, k3⟩
        have K3 := hide (FW.out.trans (KF.out.trans k3))
        clear k3 c0 c1
        go_wp2_with fail
        refine (ON.out _).mono ?_
        rintro e w4 ⟨rfl, rfl⟩
        go_wp2_with fail
        refine (NN.out _).mono ?_
        rintro e w4 ⟨rfl, rfl⟩
        go_wp2
        go_ret2
        exact ⟨by rw [X.out]; exact ret_pair (by simp; omega) rfl, K3.out⟩
      · have ge' : ((onesV u : Nat) : Int) ≤ (R : Int) := by omega
        have ge2 : onesV u ≤ R := by omega
        generalize onesV u = q at *
        clear WN hlt NL NN
        go_wp2_with fail
        refine (SB.out _ _ (VT.out.tr _ KF.out)).mono ?_
        rintro e w3 ⟨rfl, k3⟩
        have K3 := hide (KF.out.trans k3)
        clear k3 c0 c1
        go_wp2_with fail
        refine (ON.out _).mono ?_
        rintro e w4 ⟨rfl, rfl⟩
        go_wp2
        go_roundw
        case rel => first | exact ⟨k + 1, R - q, by omega, by go_num, by go_num, by rw [S.out]; have := HR.out; omega, K3.out⟩ | ((repeat apply Exists.intro); refine ⟨?_, rfl⟩; exact ⟨k + 1, R - q, by omega, by go_num, by go_num, by rw [S.out]; have := HR.out; omega, K3.out⟩)
        case measure => simp [intOf]; omega
    · have h1 : (n : Int) ≤ (k : Int) * 64 := by omega
      have h2 : (k : Int) ≤ 2000 := by omega
      rw [Nat.min_eq_right (show n ≤ 64 * k by omega)] at hR
      have X := hide (nthT_none (n := n) (ws := ws) (k := N) (by omega))
      have F2 := hide (FW.out.trans KF.out)
      clear hke c0 c1 hR
      go_wp2
      go_ret2
      exact ⟨by rw [X.out]; rfl, F2.out⟩
theorem nth_any (v : Value) (n : Nat) (ws : List Nat) (k : Int) (w : World) (h : TreeAt w v n ws) (hk' : k ≤ 9223372036854775807) :
    Calls Try.prog 10 #[v, .int .i64 k] w fun e w' => e = foundE (nthT n ws k) ∧ Fresh w w' := by
  by_cases h0 : k < 0
  · rw [nthT_neg h0]
    obtain ⟨n1, n2, hlev, a, cap, rfl, hlv⟩ := h
    have FB := hide (fresh_box w #[.int .i64 (n : Int), .slice a (nLev n) cap] 27)
    clear hlev hlv
    generalize nLev n = N at *
    go_enter Try.func10, Try.ntmps10
    go_wp2
    go_ret2
    exact ⟨rfl, FB.out⟩
  · obtain ⟨N, rfl⟩ : ∃ N : Nat, k = N := ⟨k.toNat, by omega⟩
    exact nth_nat v n ws N w h hk'

theorem zeros_any (v : Value) (n : Nat) (ws : List Nat) (w : World) (h : TreeAt w v n ws) :
    Calls Try.prog 14 #[v] w fun e w' => e = .returned (.int .i64 ((n - cnt (bitV ws) 0 n : Nat) : Int)) ∧ Fresh w w' := by
  have n2 := h.2.1
  obtain ⟨b, o, cap, rfl, _⟩ := h.shape
  obtain ⟨L, hL⟩ : ∃ L, nLev n = L := ⟨_, rfl⟩
  rw [hL] at h ⊢
  have VT := hide (var_new hL h)
  clear h hL
  obtain ⟨W1, hW1⟩ : ∃ W1, W1 = w.alloc (.cells #[.int .i64 (n : Int), .slice (some ⟨b, o, none⟩) L cap] 27) := ⟨_, rfl⟩
  rw [← hW1] at VT
  have FW := hide (show Fresh w W1 by subst hW1; exact fresh_box w _ _)
  have HW := hide hW1
  clear hW1
  have c0 := VT.out.c0 W1 (Fresh.refl _)
  have c1 := VT.out.c1 W1 (Fresh.refl _)
  have q2 : (n : Int) ≤ 65536 := by omega
  have BL := hide (fun v w h => below_any v n ws (n : Int) w h (by omega) (by omega))
  rw [below_nat n ws n (Nat.le_refl _)] at BL
  have CL := hide (cnt_le (bitV ws) 0 n)
  generalize cnt (bitV ws) 0 n = C at *
  have g1 : (C : Int) ≤ (n : Int) := by have := CL.out; omega
  have g0 : (0 : Int) ≤ (C : Int) := by omega
  go_enter Try.func14, Try.ntmps14
  go_wp2_with fail
  rw [← HW.out]
  refine (endOf_to _ n ws (n : Int) n (by omega) _ (VT.out.tr _ (Fresh.refl _)) (by omega) (by omega)).mono ?_
  rintro e w2 ⟨rfl, k2⟩
  have K2 := hide k2
  clear c0 c1 k2
  have c0 := VT.out.c0 w2 K2.out
  have c1 := VT.out.c1 w2 K2.out
  go_wp2_with fail
  refine (BL.out _ _ (VT.out.tr _ K2.out)).mono ?_
  rintro e w3 ⟨rfl, k3⟩
  have K3 := hide (FW.out.trans (K2.out.trans k3))
  clear k3 c0 c1
  go_wp2
  go_ret
  exact ⟨ret_int (by omega), K3.out⟩
end Go.Proofs.Ytlbkicohmbdlhaa
