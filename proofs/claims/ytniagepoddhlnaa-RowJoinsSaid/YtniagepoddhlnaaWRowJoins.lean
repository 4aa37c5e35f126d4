/- The walk of hodmanlaw4.RowJoins, given what package row answers (RowSays). (This text was written by wip/tools/rowgen.py's help.) -/
import Derived.Test.YtniagepoddhlnaaRowLaw
import Derived.Test.YtniagepoddhlnaaRefRow
import Derived.Test.YtniagepoddhlnaaPlayWords
namespace Go.Proofs.Ytniagepoddhlnaa
open Go.ChangeShapes Go.WideShapes Go.ChangeAt Go.RowKit

set_option maxRecDepth 100000 in
set_option maxHeartbeats 4000000 in
theorem rowJoins_walk0 (R : RowSays) (a : Option Addr) (len cap : Nat) (zs : List Int) (f : Int) (hf : 0 ≤ f) (hf' : f ≤ 255) (x : Int) (hx : 0 ≤ x) (hx' : x ≤ 255) (y : Int) (hy : 0 ≤ y) (hy' : y ≤ 255) (on : Bool) (w : World) (hrow : IsRow .u8 w a len cap zs) :
    Calls Try.prog 7 #[.slice a len cap, .int .u8 f, .int .u8 x, .int .u8 y, .bool on] w fun e w' => e = .returned (.bool true) ∧ Fresh w w' := by
  obtain ⟨F, rfl⟩ : ∃ F : Nat, f = F := ⟨f.toNat, by omega⟩
  obtain ⟨X, rfl⟩ : ∃ X : Nat, x = X := ⟨x.toNat, by omega⟩
  obtain ⟨Y, rfl⟩ : ∃ Y : Nat, y = Y := ⟨y.toNat, by omega⟩
  have RR := hide R
  obtain ⟨hb, hl, hm⟩ := bytes_in hrow
  have HB := hide hb
  have HL := hide hl
  clear R hrow hb hl
  by_cases h100 : len ≤ 100
  · have l1 : (len : Int) ≤ 100 := by omega
    go_enter Try.func7, Try.ntmps7
    go_wp2_with fail
    refine (begun4_true RR.out _).mono ?_
    rintro e w1 ⟨rfl, k1⟩
    have K1 := hide k1
    clear k1
    go_wp2_with fail
    refine (words_any a len cap (zs.take len) _ (HB.out.fresh K1.out) HL.out (by omega)).mono ?_
    rintro e w2 ⟨v2, ws, rfl, o2, h64, hlen, k2⟩
    have Hl2 := hide (o2.at h64 (by omega))
    have A64 := hide h64
    have kk : Fresh w1 w2 := k2
    clear k2 h64
    obtain ⟨a2, c2, rfl, -⟩ := Hl2.out
    clear o2
    have K2 := hide (K1.out.trans kk)
    clear kk K1
    have S1 := hide (show setW ws (F : Int) ((X : Int) + (Y : Int)) on = setV ws F (X + Y) on by rw [← Int.natCast_add, setW_pos])
    have S2 := hide (show setW ws (F : Int) (X : Int) on = setV ws F X on from setW_pos ws F X on)
    have S3 := hide (show setW (setV ws F X on) ((F : Int) + (X : Int)) (Y : Int) on = setV ws F (X + Y) on by rw [← Int.natCast_add, setW_pos, set_joins A64.out])
    have C2 := hide (show ((cntW ws (F : Int) (X : Int) : Nat) : Int) = (cntV ws F X : Nat) by rw [cntW_pos])
    have C3 := hide (show ((cntW ws ((F : Int) + (X : Int)) (Y : Int) : Nat) : Int) = (cntV ws (F + X) Y : Nat) by rw [← Int.natCast_add, cntW_pos])
    have C1 := hide (show ((cntW ws (F : Int) ((X : Int) + (Y : Int)) : Nat) : Int) = (cntV ws F X : Nat) + (cntV ws (F + X) Y : Nat) by rw [← Int.natCast_add, cntW_pos, count_joins, Int.natCast_add])
    have b1 := cntV_le ws F X
    have b2 := cntV_le ws (F + X) Y
    have b3 : ((cntV ws F X : Nat) : Int) ≤ 6400 := by omega
    have b4 : ((cntV ws (F + X) Y : Nat) : Int) ≤ 6400 := by omega
    have b5 : (0 : Int) ≤ ((cntV ws F X : Nat) : Int) := by omega
    have b6 : (0 : Int) ≤ ((cntV ws (F + X) Y : Nat) : Int) := by omega
    clear b1 b2
    generalize ((cntV ws F X : Nat) : Int) = c2 at *
    generalize ((cntV ws (F + X) Y : Nat) : Int) = c3 at *
    generalize setV ws F (X + Y) on = us at *
    generalize setV ws F X on = vs at *
    go_wp2_with fail
    refine (RR.out.set_to _ _ _ _ _ _ S1.out _ Hl2.out (by omega) (by omega) (by omega) (by omega)).mono ?_
    rintro e w3 ⟨v3, rfl, h3, k3⟩
    have Ho3 := hide h3
    have K3 := hide (K2.out.trans k3)
    have Hl3 := hide (Hl2.out.fresh k3)
    clear k3 K2 Hl2
    obtain ⟨a3, c3, rfl, -⟩ := h3
    go_wp2_with fail
    refine (RR.out.set_to _ _ _ _ _ _ S2.out _ Hl3.out (by omega) (by omega) (by omega) (by omega)).mono ?_
    rintro e w4 ⟨v4, rfl, h4, k4⟩
    have Ht4 := hide h4
    have K4 := hide (K3.out.trans k4)
    have Hl4 := hide (Hl3.out.fresh k4)
    have Ho4 := hide (Ho3.out.fresh k4)
    clear k4 K3 Hl3 Ho3
    obtain ⟨a4, c4, rfl, -⟩ := h4
    go_wp2_with fail
    refine (RR.out.set_to _ _ _ _ _ _ S3.out _ Ht4.out (by omega) (by omega) (by omega) (by omega)).mono ?_
    rintro e w5 ⟨v5, rfl, h5, k5⟩
    have Hu5 := hide h5
    have K5 := hide (K4.out.trans k5)
    have Hl5 := hide (Hl4.out.fresh k5)
    have Ho5 := hide (Ho4.out.fresh k5)
    have Ht5 := hide (Ht4.out.fresh k5)
    clear k5 K4 Hl4 Ho4 Ht4
    obtain ⟨a5, c5, rfl, -⟩ := h5
    clear Ht5
    go_wp2_with fail
    refine (rsame_to _ _ us us true (by simp) _ Ho5.out Hu5.out).mono ?_
    rintro e w6 ⟨rfl, n6, rfl⟩
    have k6 := Fresh.drewN w5 n6
    have K6 := hide (K5.out.trans k6)
    have Hl6 := hide (Hl5.out.fresh k6)
    have Ho6 := hide (Ho5.out.fresh k6)
    have Hu6 := hide (Hu5.out.fresh k6)
    clear k6 K5 Hl5 Ho5 Hu5
    clear Ho6
    clear Hu6
    go_wp2_with fail
    refine (RR.out.count_to _ _ _ _ _ C1.out _ Hl6.out (by omega) (by omega) (by omega) (by omega)).mono ?_
    rintro e w7 ⟨rfl, k7⟩
    have K7 := hide (K6.out.trans k7)
    have Hl7 := hide (Hl6.out.fresh k7)
    clear k7 K6 Hl6
    go_wp2_with fail
    refine (RR.out.count_to _ _ _ _ _ C2.out _ Hl7.out (by omega) (by omega) (by omega) (by omega)).mono ?_
    rintro e w8 ⟨rfl, k8⟩
    have K8 := hide (K7.out.trans k8)
    have Hl8 := hide (Hl7.out.fresh k8)
    clear k8 K7 Hl7
    go_wp2_with fail
    refine (RR.out.count_to _ _ _ _ _ C3.out _ Hl8.out (by omega) (by omega) (by omega) (by omega)).mono ?_
    rintro e w9 ⟨rfl, k9⟩
    have K9 := hide (K8.out.trans k9)
    have Hl9 := hide (Hl8.out.fresh k9)
    clear k9 K8 Hl8
    go_wp2
    go_ret
    exact ⟨rfl, K9.out⟩
  · have l1 : (100 : Int) < (len : Int) := by omega
    go_enter Try.func7, Try.ntmps7
    go_wp2_with fail
    refine (begun4_true RR.out _).mono ?_
    rintro e w1 ⟨rfl, k1⟩
    have K1 := hide k1
    clear k1
    go_wp2
    go_ret
    exact ⟨rfl, K1.out⟩
end Go.Proofs.Ytniagepoddhlnaa
