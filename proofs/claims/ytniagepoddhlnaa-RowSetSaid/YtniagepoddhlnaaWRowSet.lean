/- The walk of hodmanlaw4.RowSet, given what package row answers (RowSays). (This text was written by wip/tools/rowgen.py's help.) -/
import Derived.Test.YtniagepoddhlnaaRowLaw
import Derived.Test.YtniagepoddhlnaaRefRow
import Derived.Test.YtniagepoddhlnaaPlayWords
import Derived.Deep.QuietTactic
import Derived.BigQuiet
namespace Go.Proofs.Ytniagepoddhlnaa
open Go.ChangeShapes Go.WideShapes Go.ChangeAt Go.RowKit

set_option maxRecDepth 100000 in
set_option maxHeartbeats 4000000 in
theorem rowSet_walk0 (R : RowSays) (a : Option Addr) (len cap : Nat) (zs : List Int) (f : Int) (hf : 0 ≤ f) (hf' : f ≤ 65535) (n : Int) (hn : 0 ≤ n) (hn' : n ≤ 65535) (on : Bool) (t : Int) (ht : 0 ≤ t) (ht' : t ≤ 65535) (w : World) (hrow : IsRow .u8 w a len cap zs) :
    Calls Try.prog 4 #[.slice a len cap, .int .u16 f, .int .u16 n, .bool on, .int .u16 t] w fun e w' => e = .returned (.bool true) ∧ Fresh w w' := by
  obtain ⟨F, hF⟩ : ∃ F : Nat, f % 900 = F := ⟨(f % 900).toNat, by omega⟩
  obtain ⟨N, hN⟩ : ∃ N : Nat, n % 300 = N := ⟨(n % 300).toNat, by omega⟩
  have f1 : (F : Int) < 900 := by omega
  have n1 : (N : Int) < 300 := by omega
  have f0 : (0 : Int) ≤ (F : Int) := by omega
  have n0 : (0 : Int) ≤ (N : Int) := by omega
  have RR := hide R
  obtain ⟨hb, hl, hm⟩ := bytes_in hrow
  have HB := hide hb
  have HL := hide hl
  clear R hrow hb hl
  by_cases h100 : len ≤ 100
  · have l1 : (len : Int) ≤ 100 := by omega
    go_enter Try.func4, Try.ntmps4
    go_wp2_with fail
    refine (begun4_true RR.out _).mono ?_
    rintro e w1 ⟨rfl, k1⟩
    have K1 := hide k1
    clear k1
    go_wp2_with fail
    refine (words_any a len cap (zs.take len) _ (HB.out.fresh K1.out) HL.out (by omega)).mono ?_
    rintro e w2 ⟨v2, ws, rfl, o2, h64, hlen, k2⟩
    have Hl2 := hide (o2.at h64 (by omega))
    have A64 := hide h64
    have kk : Fresh w1 w2 := k2
    clear k2 h64
    obtain ⟨a2, c2, rfl, -⟩ := Hl2.out
    clear o2
    have K2 := hide (K1.out.trans kk)
    clear kk K1
    have wl : (ws.length : Int) ≤ 100 := by omega
    have wl0 : (0 : Int) ≤ (ws.length : Int) := by omega
    obtain ⟨I, hI⟩ : ∃ I : Nat, t % (64 * (ws.length : Int) + 1) = I := ⟨(t % (64 * (ws.length : Int) + 1)).toNat, by have := Int.emod_nonneg t (show 64 * (ws.length : Int) + 1 ≠ 0 by omega); omega⟩
    have i1 : (I : Int) < 64 * (ws.length : Int) + 1 := by rw [← hI]; exact Int.emod_lt_of_pos _ (by omega)
    have i0 : (0 : Int) ≤ (I : Int) := by omega
    have HI := hide hI
    clear hI
    go_wp2_with fail
    go_quiet (fail)
    rw [HI.out]
    have kq := Fresh.drewN w2 nq
    have K3 := hide (K2.out.trans kq)
    have Hl3 := hide (Hl2.out.fresh kq)
    clear kq K2 Hl2
    have SW := hide (setW_pos ws F N on)
    have X1 := hide (show cntV (setV ws F N on) F N = if on then min (F + N) (64 * ws.length) - F else 0 from set_same_count F N on)
    have X2 := hide (show cntV (setV ws F N on) 0 (64 * ws.length) + cntV ws F N = cntV ws 0 (64 * ws.length) + cntV (setV ws F N on) F N from set_all_count F N on)
    have X3 := hide (bitV_setV ws F N on I)
    have hul : (setV ws F N on).length = ws.length := setV_length ws F N on
    have q1 := cntV_le ws F N
    have q2 := cntV_le ws 0 (64 * ws.length)
    generalize setV ws F N on = us at *
    have P1 := hide (show ((cntW us (F : Int) (N : Int) : Nat) : Int) = (cntV us F N : Nat) by rw [cntW_pos])
    have P2 := hide (show ((cntW us 0 (64 * (ws.length : Int)) : Nat) : Int) = (cntV us 0 (64 * ws.length) : Nat) by have := cntW_pos us 0 (64 * ws.length); rw [← this]; congr 2)
    have P3 := hide (show ((cntW ws 0 (64 * (ws.length : Int)) : Nat) : Int) = (cntV ws 0 (64 * ws.length) : Nat) by have := cntW_pos ws 0 (64 * ws.length); rw [← this]; congr 2)
    have P4 := hide (show ((cntW ws (F : Int) (N : Int) : Nat) : Int) = (cntV ws F N : Nat) by rw [cntW_pos])
    go_wp2_with fail
    refine (RR.out.set_to _ _ _ _ _ _ SW.out _ Hl3.out (by omega) (by omega) (by omega) (by omega)).mono ?_
    rintro e w4 ⟨v4, rfl, h4, k4⟩
    have Hx4 := hide h4
    have K4 := hide (K3.out.trans k4)
    have Hl4 := hide (Hl3.out.fresh k4)
    clear k4 K3 Hl3
    obtain ⟨a4, c4, rfl, -⟩ := h4
    rw [hul] at Hx4 ⊢
    clear hul SW
    have hcase : (F ≤ I ∧ I < F + N ∧ I < 64 * ws.length) ∨ I < F ∨ (F ≤ I ∧ F + N ≤ I) ∨ (F ≤ I ∧ I < F + N ∧ 64 * ws.length ≤ I) := by omega
    obtain ⟨Wv, hW⟩ : ∃ Wv : Int, max 0 (min ((F : Int) + (N : Int)) (64 * (ws.length : Int)) - min (F : Int) (64 * (ws.length : Int))) = Wv := ⟨_, rfl⟩
    have hw0 : 0 ≤ Wv := by omega
    have hw1 : Wv ≤ 6400 := by omega
    obtain ⟨A, hA⟩ : ∃ A : Int, ((cntV ws 0 (64 * ws.length) : Nat) : Int) = A := ⟨_, rfl⟩
    obtain ⟨B, hB⟩ : ∃ B : Int, ((cntV ws F N : Nat) : Int) = B := ⟨_, rfl⟩
    have a0 : 0 ≤ A := by omega
    have a1 : A ≤ 6400 := by omega
    have b0 : 0 ≤ B := by omega
    have b1 : B ≤ 6400 := by omega
    cases on with
    | true =>
      have Y1 := hide (show ((cntV us F N : Nat) : Int) = Wv by rw [X1.out, if_pos rfl]; omega)
      have Y2 := hide (show ((cntV us 0 (64 * ws.length) : Nat) : Int) = A - B + Wv by have := X2.out; have := Y1.out; omega)
      rcases hcase with ⟨d1, d2, d3⟩ | d1 | ⟨d1, d2⟩ | ⟨d1, d2, d3⟩
      · have Z := hide (show hasW us (I : Int) = true by rw [hasW_pos, X3.out, if_pos (by omega)])
        have g1 : (F : Int) ≤ (I : Int) := by omega
        have g2 : (I : Int) < (F : Int) + (N : Int) := by omega
        have g3 : (I : Int) < 64 * (ws.length : Int) := by omega
        clear d1 d2 d3
        clear X1 X2 X3
        go_wp2_with fail
        refine (RR.out.has_to _ us _ _ Z.out _ Hx4.out (by omega) (by omega)).mono ?_
        rintro e w5 ⟨rfl, k5⟩
        have K5 := hide (K4.out.trans k5)
        have Hl5 := hide (Hl4.out.fresh k5)
        have Hx5 := hide (Hx4.out.fresh k5)
        clear k5 K4 Hl4 Hx4
        go_wp2_with fail
        refine (RR.out.count_to _ us _ _ _ (P1.out.trans Y1.out) _ Hx5.out (by omega) (by omega) (by omega) (by omega)).mono ?_
        rintro e w6 ⟨rfl, k6⟩
        have K6 := hide (K5.out.trans k6)
        have Hl6 := hide (Hl5.out.fresh k6)
        have Hx6 := hide (Hx5.out.fresh k6)
        clear k6 K5 Hl5 Hx5
        go_wp2_with fail
        refine (RR.out.count_to _ us _ _ _ (P2.out.trans Y2.out) _ Hx6.out (by omega) (by omega) (by omega) (by omega)).mono ?_
        rintro e w7 ⟨rfl, k7⟩
        have K7 := hide (K6.out.trans k7)
        have Hl7 := hide (Hl6.out.fresh k7)
        have Hx7 := hide (Hx6.out.fresh k7)
        clear k7 K6 Hl6 Hx6
        go_wp2_with fail
        refine (RR.out.count_to _ ws _ _ _ (P3.out.trans hA) _ Hl7.out (by omega) (by omega) (by omega) (by omega)).mono ?_
        rintro e w8 ⟨rfl, k8⟩
        have K8 := hide (K7.out.trans k8)
        have Hl8 := hide (Hl7.out.fresh k8)
        have Hx8 := hide (Hx7.out.fresh k8)
        clear k8 K7 Hl7 Hx7
        go_wp2_with fail
        refine (RR.out.count_to _ ws _ _ _ (P4.out.trans hB) _ Hl8.out (by omega) (by omega) (by omega) (by omega)).mono ?_
        rintro e w9 ⟨rfl, k9⟩
        have K9 := hide (K8.out.trans k9)
        have Hl9 := hide (Hl8.out.fresh k9)
        have Hx9 := hide (Hx8.out.fresh k9)
        clear k9 K8 Hl8 Hx8
        go_wp2
        go_ret
        exact ⟨rfl, K9.out⟩
      · have Z := hide (show hasW us (I : Int) = bitV ws I by rw [hasW_pos, X3.out, if_neg (by omega)])
        have Z2 := hide (show hasW ws (I : Int) = bitV ws I from hasW_pos ws I)
        have g1 : (I : Int) < (F : Int) := by omega
        clear d1
        clear X1 X2 X3
        generalize bitV ws I = bb at *
        go_wp2_with fail
        refine (RR.out.has_to _ us _ _ Z.out _ Hx4.out (by omega) (by omega)).mono ?_
        rintro e w5 ⟨rfl, k5⟩
        have K5 := hide (K4.out.trans k5)
        have Hl5 := hide (Hl4.out.fresh k5)
        have Hx5 := hide (Hx4.out.fresh k5)
        clear k5 K4 Hl4 Hx4
        go_wp2_with fail
        refine (RR.out.has_to _ ws _ _ Z2.out _ Hl5.out (by omega) (by omega)).mono ?_
        rintro e w6 ⟨rfl, k6⟩
        have K6 := hide (K5.out.trans k6)
        have Hl6 := hide (Hl5.out.fresh k6)
        have Hx6 := hide (Hx5.out.fresh k6)
        clear k6 K5 Hl5 Hx5
        go_wp2_with fail
        refine (RR.out.count_to _ us _ _ _ (P1.out.trans Y1.out) _ Hx6.out (by omega) (by omega) (by omega) (by omega)).mono ?_
        rintro e w7 ⟨rfl, k7⟩
        have K7 := hide (K6.out.trans k7)
        have Hl7 := hide (Hl6.out.fresh k7)
        have Hx7 := hide (Hx6.out.fresh k7)
        clear k7 K6 Hl6 Hx6
        go_wp2_with fail
        refine (RR.out.count_to _ us _ _ _ (P2.out.trans Y2.out) _ Hx7.out (by omega) (by omega) (by omega) (by omega)).mono ?_
        rintro e w8 ⟨rfl, k8⟩
        have K8 := hide (K7.out.trans k8)
        have Hl8 := hide (Hl7.out.fresh k8)
        have Hx8 := hide (Hx7.out.fresh k8)
        clear k8 K7 Hl7 Hx7
        go_wp2_with fail
        refine (RR.out.count_to _ ws _ _ _ (P3.out.trans hA) _ Hl8.out (by omega) (by omega) (by omega) (by omega)).mono ?_
        rintro e w9 ⟨rfl, k9⟩
        have K9 := hide (K8.out.trans k9)
        have Hl9 := hide (Hl8.out.fresh k9)
        have Hx9 := hide (Hx8.out.fresh k9)
        clear k9 K8 Hl8 Hx8
        go_wp2_with fail
        refine (RR.out.count_to _ ws _ _ _ (P4.out.trans hB) _ Hl9.out (by omega) (by omega) (by omega) (by omega)).mono ?_
        rintro e w10 ⟨rfl, k10⟩
        have K10 := hide (K9.out.trans k10)
        have Hl10 := hide (Hl9.out.fresh k10)
        have Hx10 := hide (Hx9.out.fresh k10)
        clear k10 K9 Hl9 Hx9
        go_wp2
        go_ret
        exact ⟨rfl, K10.out⟩
      · have Z := hide (show hasW us (I : Int) = bitV ws I by rw [hasW_pos, X3.out, if_neg (by omega)])
        have Z2 := hide (show hasW ws (I : Int) = bitV ws I from hasW_pos ws I)
        have g1 : (F : Int) ≤ (I : Int) := by omega
        have g2 : (F : Int) + (N : Int) ≤ (I : Int) := by omega
        clear d1 d2
        clear X1 X2 X3
        generalize bitV ws I = bb at *
        go_wp2_with fail
        refine (RR.out.has_to _ us _ _ Z.out _ Hx4.out (by omega) (by omega)).mono ?_
        rintro e w5 ⟨rfl, k5⟩
        have K5 := hide (K4.out.trans k5)
        have Hl5 := hide (Hl4.out.fresh k5)
        have Hx5 := hide (Hx4.out.fresh k5)
        clear k5 K4 Hl4 Hx4
        go_wp2_with fail
        refine (RR.out.has_to _ ws _ _ Z2.out _ Hl5.out (by omega) (by omega)).mono ?_
        rintro e w6 ⟨rfl, k6⟩
        have K6 := hide (K5.out.trans k6)
        have Hl6 := hide (Hl5.out.fresh k6)
        have Hx6 := hide (Hx5.out.fresh k6)
        clear k6 K5 Hl5 Hx5
        go_wp2_with fail
        refine (RR.out.count_to _ us _ _ _ (P1.out.trans Y1.out) _ Hx6.out (by omega) (by omega) (by omega) (by omega)).mono ?_
        rintro e w7 ⟨rfl, k7⟩
        have K7 := hide (K6.out.trans k7)
        have Hl7 := hide (Hl6.out.fresh k7)
        have Hx7 := hide (Hx6.out.fresh k7)
        clear k7 K6 Hl6 Hx6
        go_wp2_with fail
        refine (RR.out.count_to _ us _ _ _ (P2.out.trans Y2.out) _ Hx7.out (by omega) (by omega) (by omega) (by omega)).mono ?_
        rintro e w8 ⟨rfl, k8⟩
        have K8 := hide (K7.out.trans k8)
        have Hl8 := hide (Hl7.out.fresh k8)
        have Hx8 := hide (Hx7.out.fresh k8)
        clear k8 K7 Hl7 Hx7
        go_wp2_with fail
        refine (RR.out.count_to _ ws _ _ _ (P3.out.trans hA) _ Hl8.out (by omega) (by omega) (by omega) (by omega)).mono ?_
        rintro e w9 ⟨rfl, k9⟩
        have K9 := hide (K8.out.trans k9)
        have Hl9 := hide (Hl8.out.fresh k9)
        have Hx9 := hide (Hx8.out.fresh k9)
        clear k9 K8 Hl8 Hx8
        go_wp2_with fail
        refine (RR.out.count_to _ ws _ _ _ (P4.out.trans hB) _ Hl9.out (by omega) (by omega) (by omega) (by omega)).mono ?_
        rintro e w10 ⟨rfl, k10⟩
        have K10 := hide (K9.out.trans k10)
        have Hl10 := hide (Hl9.out.fresh k10)
        have Hx10 := hide (Hx9.out.fresh k10)
        clear k10 K9 Hl9 Hx9
        go_wp2
        go_ret
        exact ⟨rfl, K10.out⟩
      · have Z := hide (show hasW us (I : Int) = bitV ws I by rw [hasW_pos, X3.out, if_neg (by omega)])
        have Z2 := hide (show hasW ws (I : Int) = bitV ws I from hasW_pos ws I)
        have g1 : (F : Int) ≤ (I : Int) := by omega
        have g2 : (I : Int) < (F : Int) + (N : Int) := by omega
        have g3 : 64 * (ws.length : Int) ≤ (I : Int) := by omega
        clear d1 d2 d3
        clear X1 X2 X3
        generalize bitV ws I = bb at *
        go_wp2_with fail
        refine (RR.out.has_to _ us _ _ Z.out _ Hx4.out (by omega) (by omega)).mono ?_
        rintro e w5 ⟨rfl, k5⟩
        have K5 := hide (K4.out.trans k5)
        have Hl5 := hide (Hl4.out.fresh k5)
        have Hx5 := hide (Hx4.out.fresh k5)
        clear k5 K4 Hl4 Hx4
        go_wp2_with fail
        refine (RR.out.has_to _ ws _ _ Z2.out _ Hl5.out (by omega) (by omega)).mono ?_
        rintro e w6 ⟨rfl, k6⟩
        have K6 := hide (K5.out.trans k6)
        have Hl6 := hide (Hl5.out.fresh k6)
        have Hx6 := hide (Hx5.out.fresh k6)
        clear k6 K5 Hl5 Hx5
        go_wp2_with fail
        refine (RR.out.count_to _ us _ _ _ (P1.out.trans Y1.out) _ Hx6.out (by omega) (by omega) (by omega) (by omega)).mono ?_
        rintro e w7 ⟨rfl, k7⟩
        have K7 := hide (K6.out.trans k7)
        have Hl7 := hide (Hl6.out.fresh k7)
        have Hx7 := hide (Hx6.out.fresh k7)
        clear k7 K6 Hl6 Hx6
        go_wp2_with fail
        refine (RR.out.count_to _ us _ _ _ (P2.out.trans Y2.out) _ Hx7.out (by omega) (by omega) (by omega) (by omega)).mono ?_
        rintro e w8 ⟨rfl, k8⟩
        have K8 := hide (K7.out.trans k8)
        have Hl8 := hide (Hl7.out.fresh k8)
        have Hx8 := hide (Hx7.out.fresh k8)
        clear k8 K7 Hl7 Hx7
        go_wp2_with fail
        refine (RR.out.count_to _ ws _ _ _ (P3.out.trans hA) _ Hl8.out (by omega) (by omega) (by omega) (by omega)).mono ?_
        rintro e w9 ⟨rfl, k9⟩
        have K9 := hide (K8.out.trans k9)
        have Hl9 := hide (Hl8.out.fresh k9)
        have Hx9 := hide (Hx8.out.fresh k9)
        clear k9 K8 Hl8 Hx8
        go_wp2_with fail
        refine (RR.out.count_to _ ws _ _ _ (P4.out.trans hB) _ Hl9.out (by omega) (by omega) (by omega) (by omega)).mono ?_
        rintro e w10 ⟨rfl, k10⟩
        have K10 := hide (K9.out.trans k10)
        have Hl10 := hide (Hl9.out.fresh k10)
        have Hx10 := hide (Hx9.out.fresh k10)
        clear k10 K9 Hl9 Hx9
        go_wp2
        go_ret
        exact ⟨rfl, K10.out⟩
    | false =>
      have Y1 := hide (show ((cntV us F N : Nat) : Int) = 0 by rw [X1.out]; rfl)
      have Y2 := hide (show ((cntV us 0 (64 * ws.length) : Nat) : Int) = A - B by have := X2.out; have := Y1.out; omega)
      rcases hcase with ⟨d1, d2, d3⟩ | d1 | ⟨d1, d2⟩ | ⟨d1, d2, d3⟩
      · have Z := hide (show hasW us (I : Int) = false by rw [hasW_pos, X3.out, if_pos (by omega)])
        have g1 : (F : Int) ≤ (I : Int) := by omega
        have g2 : (I : Int) < (F : Int) + (N : Int) := by omega
        have g3 : (I : Int) < 64 * (ws.length : Int) := by omega
        clear d1 d2 d3
        clear X1 X2 X3
        go_wp2_with fail
        refine (RR.out.has_to _ us _ _ Z.out _ Hx4.out (by omega) (by omega)).mono ?_
        rintro e w5 ⟨rfl, k5⟩
        have K5 := hide (K4.out.trans k5)
        have Hl5 := hide (Hl4.out.fresh k5)
        have Hx5 := hide (Hx4.out.fresh k5)
        clear k5 K4 Hl4 Hx4
        go_wp2_with fail
        refine (RR.out.count_to _ us _ _ _ (P1.out.trans Y1.out) _ Hx5.out (by omega) (by omega) (by omega) (by omega)).mono ?_
        rintro e w6 ⟨rfl, k6⟩
        have K6 := hide (K5.out.trans k6)
        have Hl6 := hide (Hl5.out.fresh k6)
        have Hx6 := hide (Hx5.out.fresh k6)
        clear k6 K5 Hl5 Hx5
        go_wp2_with fail
        refine (RR.out.count_to _ us _ _ _ (P2.out.trans Y2.out) _ Hx6.out (by omega) (by omega) (by omega) (by omega)).mono ?_
        rintro e w7 ⟨rfl, k7⟩
        have K7 := hide (K6.out.trans k7)
        have Hl7 := hide (Hl6.out.fresh k7)
        have Hx7 := hide (Hx6.out.fresh k7)
        clear k7 K6 Hl6 Hx6
        go_wp2_with fail
        refine (RR.out.count_to _ ws _ _ _ (P3.out.trans hA) _ Hl7.out (by omega) (by omega) (by omega) (by omega)).mono ?_
        rintro e w8 ⟨rfl, k8⟩
        have K8 := hide (K7.out.trans k8)
        have Hl8 := hide (Hl7.out.fresh k8)
        have Hx8 := hide (Hx7.out.fresh k8)
        clear k8 K7 Hl7 Hx7
        go_wp2_with fail
        refine (RR.out.count_to _ ws _ _ _ (P4.out.trans hB) _ Hl8.out (by omega) (by omega) (by omega) (by omega)).mono ?_
        rintro e w9 ⟨rfl, k9⟩
        have K9 := hide (K8.out.trans k9)
        have Hl9 := hide (Hl8.out.fresh k9)
        have Hx9 := hide (Hx8.out.fresh k9)
        clear k9 K8 Hl8 Hx8
        go_wp2
        go_ret
        exact ⟨rfl, K9.out⟩
      · have Z := hide (show hasW us (I : Int) = bitV ws I by rw [hasW_pos, X3.out, if_neg (by omega)])
        have Z2 := hide (show hasW ws (I : Int) = bitV ws I from hasW_pos ws I)
        have g1 : (I : Int) < (F : Int) := by omega
        clear d1
        clear X1 X2 X3
        generalize bitV ws I = bb at *
        go_wp2_with fail
        refine (RR.out.has_to _ us _ _ Z.out _ Hx4.out (by omega) (by omega)).mono ?_
        rintro e w5 ⟨rfl, k5⟩
        have K5 := hide (K4.out.trans k5)
        have Hl5 := hide (Hl4.out.fresh k5)
        have Hx5 := hide (Hx4.out.fresh k5)
        clear k5 K4 Hl4 Hx4
        go_wp2_with fail
        refine (RR.out.has_to _ ws _ _ Z2.out _ Hl5.out (by omega) (by omega)).mono ?_
        rintro e w6 ⟨rfl, k6⟩
        have K6 := hide (K5.out.trans k6)
        have Hl6 := hide (Hl5.out.fresh k6)
        have Hx6 := hide (Hx5.out.fresh k6)
        clear k6 K5 Hl5 Hx5
        go_wp2_with fail
        refine (RR.out.count_to _ us _ _ _ (P1.out.trans Y1.out) _ Hx6.out (by omega) (by omega) (by omega) (by omega)).mono ?_
        rintro e w7 ⟨rfl, k7⟩
        have K7 := hide (K6.out.trans k7)
        have Hl7 := hide (Hl6.out.fresh k7)
        have Hx7 := hide (Hx6.out.fresh k7)
        clear k7 K6 Hl6 Hx6
        go_wp2_with fail
        refine (RR.out.count_to _ us _ _ _ (P2.out.trans Y2.out) _ Hx7.out (by omega) (by omega) (by omega) (by omega)).mono ?_
        rintro e w8 ⟨rfl, k8⟩
        have K8 := hide (K7.out.trans k8)
        have Hl8 := hide (Hl7.out.fresh k8)
        have Hx8 := hide (Hx7.out.fresh k8)
        clear k8 K7 Hl7 Hx7
        go_wp2_with fail
        refine (RR.out.count_to _ ws _ _ _ (P3.out.trans hA) _ Hl8.out (by omega) (by omega) (by omega) (by omega)).mono ?_
        rintro e w9 ⟨rfl, k9⟩
        have K9 := hide (K8.out.trans k9)
        have Hl9 := hide (Hl8.out.fresh k9)
        have Hx9 := hide (Hx8.out.fresh k9)
        clear k9 K8 Hl8 Hx8
        go_wp2_with fail
        refine (RR.out.count_to _ ws _ _ _ (P4.out.trans hB) _ Hl9.out (by omega) (by omega) (by omega) (by omega)).mono ?_
        rintro e w10 ⟨rfl, k10⟩
        have K10 := hide (K9.out.trans k10)
        have Hl10 := hide (Hl9.out.fresh k10)
        have Hx10 := hide (Hx9.out.fresh k10)
        clear k10 K9 Hl9 Hx9
        go_wp2
        go_ret
        exact ⟨rfl, K10.out⟩
      · have Z := hide (show hasW us (I : Int) = bitV ws I by rw [hasW_pos, X3.out, if_neg (by omega)])
        have Z2 := hide (show hasW ws (I : Int) = bitV ws I from hasW_pos ws I)
        have g1 : (F : Int) ≤ (I : Int) := by omega
        have g2 : (F : Int) + (N : Int) ≤ (I : Int) := by omega
        clear d1 d2
        clear X1 X2 X3
        generalize bitV ws I = bb at *
        go_wp2_with fail
        refine (RR.out.has_to _ us _ _ Z.out _ Hx4.out (by omega) (by omega)).mono ?_
        rintro e w5 ⟨rfl, k5⟩
        have K5 := hide (K4.out.trans k5)
        have Hl5 := hide (Hl4.out.fresh k5)
        have Hx5 := hide (Hx4.out.fresh k5)
        clear k5 K4 Hl4 Hx4
        go_wp2_with fail
        refine (RR.out.has_to _ ws _ _ Z2.out _ Hl5.out (by omega) (by omega)).mono ?_
        rintro e w6 ⟨rfl, k6⟩
        have K6 := hide (K5.out.trans k6)
        have Hl6 := hide (Hl5.out.fresh k6)
        have Hx6 := hide (Hx5.out.fresh k6)
        clear k6 K5 Hl5 Hx5
        go_wp2_with fail
        refine (RR.out.count_to _ us _ _ _ (P1.out.trans Y1.out) _ Hx6.out (by omega) (by omega) (by omega) (by omega)).mono ?_
        rintro e w7 ⟨rfl, k7⟩
        have K7 := hide (K6.out.trans k7)
        have Hl7 := hide (Hl6.out.fresh k7)
        have Hx7 := hide (Hx6.out.fresh k7)
        clear k7 K6 Hl6 Hx6
        go_wp2_with fail
        refine (RR.out.count_to _ us _ _ _ (P2.out.trans Y2.out) _ Hx7.out (by omega) (by omega) (by omega) (by omega)).mono ?_
        rintro e w8 ⟨rfl, k8⟩
        have K8 := hide (K7.out.trans k8)
        have Hl8 := hide (Hl7.out.fresh k8)
        have Hx8 := hide (Hx7.out.fresh k8)
        clear k8 K7 Hl7 Hx7
        go_wp2_with fail
        refine (RR.out.count_to _ ws _ _ _ (P3.out.trans hA) _ Hl8.out (by omega) (by omega) (by omega) (by omega)).mono ?_
        rintro e w9 ⟨rfl, k9⟩
        have K9 := hide (K8.out.trans k9)
        have Hl9 := hide (Hl8.out.fresh k9)
        have Hx9 := hide (Hx8.out.fresh k9)
        clear k9 K8 Hl8 Hx8
        go_wp2_with fail
        refine (RR.out.count_to _ ws _ _ _ (P4.out.trans hB) _ Hl9.out (by omega) (by omega) (by omega) (by omega)).mono ?_
        rintro e w10 ⟨rfl, k10⟩
        have K10 := hide (K9.out.trans k10)
        have Hl10 := hide (Hl9.out.fresh k10)
        have Hx10 := hide (Hx9.out.fresh k10)
        clear k10 K9 Hl9 Hx9
        go_wp2
        go_ret
        exact ⟨rfl, K10.out⟩
      · have Z := hide (show hasW us (I : Int) = bitV ws I by rw [hasW_pos, X3.out, if_neg (by omega)])
        have Z2 := hide (show hasW ws (I : Int) = bitV ws I from hasW_pos ws I)
        have g1 : (F : Int) ≤ (I : Int) := by omega
        have g2 : (I : Int) < (F : Int) + (N : Int) := by omega
        have g3 : 64 * (ws.length : Int) ≤ (I : Int) := by omega
        clear d1 d2 d3
        clear X1 X2 X3
        generalize bitV ws I = bb at *
        go_wp2_with fail
        refine (RR.out.has_to _ us _ _ Z.out _ Hx4.out (by omega) (by omega)).mono ?_
        rintro e w5 ⟨rfl, k5⟩
        have K5 := hide (K4.out.trans k5)
        have Hl5 := hide (Hl4.out.fresh k5)
        have Hx5 := hide (Hx4.out.fresh k5)
        clear k5 K4 Hl4 Hx4
        go_wp2_with fail
        refine (RR.out.has_to _ ws _ _ Z2.out _ Hl5.out (by omega) (by omega)).mono ?_
        rintro e w6 ⟨rfl, k6⟩
        have K6 := hide (K5.out.trans k6)
        have Hl6 := hide (Hl5.out.fresh k6)
        have Hx6 := hide (Hx5.out.fresh k6)
        clear k6 K5 Hl5 Hx5
        go_wp2_with fail
        refine (RR.out.count_to _ us _ _ _ (P1.out.trans Y1.out) _ Hx6.out (by omega) (by omega) (by omega) (by omega)).mono ?_
        rintro e w7 ⟨rfl, k7⟩
        have K7 := hide (K6.out.trans k7)
        have Hl7 := hide (Hl6.out.fresh k7)
        have Hx7 := hide (Hx6.out.fresh k7)
        clear k7 K6 Hl6 Hx6
        go_wp2_with fail
        refine (RR.out.count_to _ us _ _ _ (P2.out.trans Y2.out) _ Hx7.out (by omega) (by omega) (by omega) (by omega)).mono ?_
        rintro e w8 ⟨rfl, k8⟩
        have K8 := hide (K7.out.trans k8)
        have Hl8 := hide (Hl7.out.fresh k8)
        have Hx8 := hide (Hx7.out.fresh k8)
        clear k8 K7 Hl7 Hx7
        go_wp2_with fail
        refine (RR.out.count_to _ ws _ _ _ (P3.out.trans hA) _ Hl8.out (by omega) (by omega) (by omega) (by omega)).mono ?_
        rintro e w9 ⟨rfl, k9⟩
        have K9 := hide (K8.out.trans k9)
        have Hl9 := hide (Hl8.out.fresh k9)
        have Hx9 := hide (Hx8.out.fresh k9)
        clear k9 K8 Hl8 Hx8
        go_wp2_with fail
        refine (RR.out.count_to _ ws _ _ _ (P4.out.trans hB) _ Hl9.out (by omega) (by omega) (by omega) (by omega)).mono ?_
        rintro e w10 ⟨rfl, k10⟩
        have K10 := hide (K9.out.trans k10)
        have Hl10 := hide (Hl9.out.fresh k10)
        have Hx10 := hide (Hx9.out.fresh k10)
        clear k10 K9 Hl9 Hx9
        go_wp2
        go_ret
        exact ⟨rfl, K10.out⟩
  · have l1 : (100 : Int) < (len : Int) := by omega
    go_enter Try.func4, Try.ntmps4
    go_wp2_with fail
    refine (begun4_true RR.out _).mono ?_
    rintro e w1 ⟨rfl, k1⟩
    have K1 := hide k1
    clear k1
    go_wp2
    go_ret
    exact ⟨rfl, K1.out⟩
end Go.Proofs.Ytniagepoddhlnaa
