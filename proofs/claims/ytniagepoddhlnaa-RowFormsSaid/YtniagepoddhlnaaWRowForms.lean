/- The walk of hodmanlaw4.RowForms, given what package row answers (RowSays). (This text was written by wip/tools/rowgen.py's help.) -/
import Derived.Test.YtniagepoddhlnaaRowLaw
import Derived.Test.YtniagepoddhlnaaRefRow
namespace Go.Proofs.Ytniagepoddhlnaa
open Go.ChangeShapes Go.WideShapes Go.ChangeAt Go.RowKit

theorem forms_great : setW [18446744073709551608, 549755813887, 0] 100 4611686018427387904 true = [18446744073709551608, 18446744073709551615, 18446744073709551615] := by
  have h : W64 [18446744073709551608, 549755813887, 0] := by unfold W64; decide
  have e : setW [18446744073709551608, 549755813887, 0] 100 4611686018427387904 true = setV [18446744073709551608, 549755813887, 0] 100 4611686018427387904 true := setW_pos [18446744073709551608, 549755813887, 0] 100 4611686018427387904 true
  rw [e, setV_cap h 100 4611686018427387904 92 true (by decide) (by decide)]
  decide +kernel

set_option maxRecDepth 100000 in
set_option maxHeartbeats 4000000 in
theorem rowForms_walk0 (R : RowSays) (w : World) : Calls Try.prog 6 #[] w fun e w' => e = .returned (.bool true) ∧ Fresh w w' := by
  have RR := hide R
  clear R
  go_enter Try.func6, Try.ntmps6
  go_wp2_with fail
  refine (begun4_true RR.out _).mono ?_
  rintro e w1 ⟨rfl, k1⟩
  have K1 := hide k1
  clear k1
  go_wp2_with fail
  refine (RR.out.new_to 130 [0, 0, 0] (by decide +kernel) _ (by decide) (by decide)).mono ?_
  rintro e w2 ⟨v2, rfl, h2, k2⟩
  have Hz2 := hide h2
  have K2 := hide (K1.out.trans k2)
  clear k2 K1
  obtain ⟨a2, c2, rfl, -⟩ := h2
  go_wp2_with fail
  refine (RR.out.set_to _ [0, 0, 0] 3 100 true [18446744073709551608, 549755813887, 0] (by decide +kernel) _ Hz2.out (by decide) (by decide) (by decide) (by decide)).mono ?_
  rintro e w3 ⟨v3, rfl, h3, k3⟩
  have Hl3 := hide h3
  have K3 := hide (K2.out.trans k3)
  have Hz3 := hide (Hz2.out.fresh k3)
  clear k3 K2 Hz2
  obtain ⟨a3, c3, rfl, -⟩ := h3
  clear Hz3
  go_wp2_with fail
  refine (RR.out.first_to _ [18446744073709551608, 549755813887, 0] 130 3 103 true (by decide +kernel) (by decide) (by decide) _ Hl3.out (by decide) (by decide) (by decide) (by decide)).mono ?_
  rintro e w4 ⟨rfl, k4⟩
  have K4 := hide (K3.out.trans k4)
  have Hl4 := hide (Hl3.out.fresh k4)
  clear k4 K3 Hl3
  go_wp2_with fail
  refine (RR.out.first_to _ [18446744073709551608, 549755813887, 0] 103 3 0 false (by decide +kernel) (by decide) (by decide) _ Hl4.out (by decide) (by decide) (by decide) (by decide)).mono ?_
  rintro e w5 ⟨rfl, k5⟩
  have K5 := hide (K4.out.trans k5)
  have Hl5 := hide (Hl4.out.fresh k5)
  clear k5 K4 Hl4
  go_wp2_with fail
  refine (RR.out.first_to _ [18446744073709551608, 549755813887, 0] 500 192 0 false (by decide +kernel) (by decide) (by decide) _ Hl5.out (by decide) (by decide) (by decide) (by decide)).mono ?_
  rintro e w6 ⟨rfl, k6⟩
  have K6 := hide (K5.out.trans k6)
  have Hl6 := hide (Hl5.out.fresh k6)
  clear k6 K5 Hl5
  go_wp2_with fail
  refine (RR.out.first_to _ [18446744073709551608, 549755813887, 0] 130 0 0 true (by decide +kernel) (by decide) (by decide) _ Hl6.out (by decide) (by decide) (by decide) (by decide)).mono ?_
  rintro e w7 ⟨rfl, k7⟩
  have K7 := hide (K6.out.trans k7)
  have Hl7 := hide (Hl6.out.fresh k7)
  clear k7 K6 Hl6
  go_wp2_with fail
  refine (RR.out.set_to _ [18446744073709551608, 549755813887, 0] 50 10 false [17294948469009547256, 549755813887, 0] (by decide +kernel) _ Hl7.out (by decide) (by decide) (by decide) (by decide)).mono ?_
  rintro e w8 ⟨v8, rfl, h8, k8⟩
  have Hm8 := hide h8
  have K8 := hide (K7.out.trans k8)
  have Hl8 := hide (Hl7.out.fresh k8)
  clear k8 K7 Hl7
  obtain ⟨a8, c8, rfl, -⟩ := h8
  go_wp2_with fail
  refine (RR.out.first_to _ [17294948469009547256, 549755813887, 0] 130 3 50 true (by decide +kernel) (by decide) (by decide) _ Hm8.out (by decide) (by decide) (by decide) (by decide)).mono ?_
  rintro e w9 ⟨rfl, k9⟩
  have K9 := hide (K8.out.trans k9)
  have Hl9 := hide (Hl8.out.fresh k9)
  have Hm9 := hide (Hm8.out.fresh k9)
  clear k9 K8 Hl8 Hm8
  go_wp2_with fail
  refine (RR.out.set_to _ [18446744073709551608, 549755813887, 0] (-1) 5 false [18446744073709551608, 549755813887, 0] (by decide +kernel) _ Hl9.out (by decide) (by decide) (by decide) (by decide)).mono ?_
  rintro e w10 ⟨v10, rfl, h10, k10⟩
  have Hn10 := hide h10
  have K10 := hide (K9.out.trans k10)
  have Hl10 := hide (Hl9.out.fresh k10)
  have Hm10 := hide (Hm9.out.fresh k10)
  clear k10 K9 Hl9 Hm9
  obtain ⟨a10, c10, rfl, -⟩ := h10
  go_wp2_with fail
  refine (RR.out.set_to _ [18446744073709551608, 549755813887, 0] 100 4611686018427387904 true [18446744073709551608, 18446744073709551615, 18446744073709551615] forms_great _ Hl10.out (by decide) (by decide) (by decide) (by decide)).mono ?_
  rintro e w11 ⟨v11, rfl, h11, k11⟩
  have Ho11 := hide h11
  have K11 := hide (K10.out.trans k11)
  have Hl11 := hide (Hl10.out.fresh k11)
  have Hm11 := hide (Hm10.out.fresh k11)
  have Hn11 := hide (Hn10.out.fresh k11)
  clear k11 K10 Hl10 Hm10 Hn10
  obtain ⟨a11, c11, rfl, -⟩ := h11
  go_wp2_with fail
  refine (RR.out.count_to _ [17294948469009547256, 549755813887, 0] 0 192 90 (by decide +kernel) _ Hm11.out (by decide) (by decide) (by decide) (by decide)).mono ?_
  rintro e w12 ⟨rfl, k12⟩
  have K12 := hide (K11.out.trans k12)
  have Hl12 := hide (Hl11.out.fresh k12)
  have Hm12 := hide (Hm11.out.fresh k12)
  have Hn12 := hide (Hn11.out.fresh k12)
  have Ho12 := hide (Ho11.out.fresh k12)
  clear k12 K11 Hl11 Hm11 Hn11 Ho11
  clear Hm12
  go_wp2_with fail
  refine (rsame_to _ _ [18446744073709551608, 549755813887, 0] [18446744073709551608, 549755813887, 0] true (by decide) _ Hn12.out Hl12.out).mono ?_
  rintro e w13 ⟨rfl, n13, rfl⟩
  have k13 := Fresh.drewN w12 n13
  have K13 := hide (K12.out.trans k13)
  have Hl13 := hide (Hl12.out.fresh k13)
  have Hn13 := hide (Hn12.out.fresh k13)
  have Ho13 := hide (Ho12.out.fresh k13)
  clear k13 K12 Hl12 Hn12 Ho12
  clear Hn13
  go_wp2_with fail
  refine (RR.out.count_to _ [18446744073709551608, 18446744073709551615, 18446744073709551615] 0 4611686018427387904 189 (by decide +kernel) _ Ho13.out (by decide) (by decide) (by decide) (by decide)).mono ?_
  rintro e w14 ⟨rfl, k14⟩
  have K14 := hide (K13.out.trans k14)
  have Hl14 := hide (Hl13.out.fresh k14)
  have Ho14 := hide (Ho13.out.fresh k14)
  clear k14 K13 Hl13 Ho13
  clear Ho14
  go_wp2_with fail
  refine (RR.out.count_to _ [18446744073709551608, 549755813887, 0] (-1) 5 0 (by decide +kernel) _ Hl14.out (by decide) (by decide) (by decide) (by decide)).mono ?_
  rintro e w15 ⟨rfl, k15⟩
  have K15 := hide (K14.out.trans k15)
  have Hl15 := hide (Hl14.out.fresh k15)
  clear k15 K14 Hl14
  go_wp2_with fail
  refine (RR.out.count_to _ [18446744073709551608, 549755813887, 0] 5 (-1) 0 (by decide +kernel) _ Hl15.out (by decide) (by decide) (by decide) (by decide)).mono ?_
  rintro e w16 ⟨rfl, k16⟩
  have K16 := hide (K15.out.trans k16)
  have Hl16 := hide (Hl15.out.fresh k16)
  clear k16 K15 Hl15
  go_wp2_with fail
  refine (RR.out.has_to _ [18446744073709551608, 549755813887, 0] (-1) false (by decide +kernel) _ Hl16.out (by decide) (by decide)).mono ?_
  rintro e w17 ⟨rfl, k17⟩
  have K17 := hide (K16.out.trans k17)
  have Hl17 := hide (Hl16.out.fresh k17)
  clear k17 K16 Hl16
  go_wp2_with fail
  refine (RR.out.has_to _ [18446744073709551608, 549755813887, 0] 192 false (by decide +kernel) _ Hl17.out (by decide) (by decide)).mono ?_
  rintro e w18 ⟨rfl, k18⟩
  have K18 := hide (K17.out.trans k18)
  have Hl18 := hide (Hl17.out.fresh k18)
  clear k18 K17 Hl17
  clear Hl18
  go_wp2_with fail
  refine (RR.out.new_to 0 [] (by decide +kernel) _ (by decide) (by decide)).mono ?_
  rintro e w19 ⟨v19, rfl, h19, k19⟩
  have Ha19 := hide h19
  have K19 := hide (K18.out.trans k19)
  clear k19 K18
  obtain ⟨a19, c19, rfl, -⟩ := h19
  clear Ha19
  go_wp2_with fail
  refine (RR.out.new_to 64 [0] (by decide +kernel) _ (by decide) (by decide)).mono ?_
  rintro e w20 ⟨v20, rfl, h20, k20⟩
  have Hb20 := hide h20
  have K20 := hide (K19.out.trans k20)
  clear k20 K19
  obtain ⟨a20, c20, rfl, -⟩ := h20
  clear Hb20
  go_wp2_with fail
  refine (RR.out.new_to 65 [0, 0] (by decide +kernel) _ (by decide) (by decide)).mono ?_
  rintro e w21 ⟨v21, rfl, h21, k21⟩
  have Hc21 := hide h21
  have K21 := hide (K20.out.trans k21)
  clear k21 K20
  obtain ⟨a21, c21, rfl, -⟩ := h21
  clear Hc21
  go_wp2
  go_ret
  exact ⟨rfl, K21.out⟩
end Go.Proofs.Ytniagepoddhlnaa
