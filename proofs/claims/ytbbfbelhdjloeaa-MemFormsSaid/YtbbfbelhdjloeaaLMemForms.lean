/- Proved here: hodmanlaw15.MemForms, a closed statement, called in any memory, returns true: what becomes of some bytes is as promise P15.1 has it. No condition. -/
import Derived.Test.YtbbfbelhdjloeaaMemLaw
import Derived.Test.YtbbfbelhdjloeaaOpen
namespace Go.Proofs.Ytbbfbelhdjloeaa
open Go.ChangeShapes Go.WideShapes Go.ChangeAt Go.RowKit

set_option maxRecDepth 100000 in
set_option maxHeartbeats 4000000 in
theorem memForms_walk0 (w : World) : Calls Try.prog 6 #[] w fun e w' => e = .returned (.bool true) ∧ Fresh w w' := by
  go_enter Try.func6, Try.ntmps6
  go_wp2_with fail
  refine (begun15_true _).mono ?_
  rintro e w1 ⟨rfl, k1⟩
  have K1 := hide k1
  clear k1
  have BB0 := hide (lit_bytes w1 #[.int .u8 1, .int .u8 2, .int .u8 3, .int .u8 4, .int .u8 5] [1, 2, 3, 4, 5] 5 rfl rfl (by decide))
  have KK0 := hide (fresh_more K1.out #[.int .u8 1, .int .u8 2, .int .u8 3, .int .u8 4, .int .u8 5] 5)
  clear K1
  go_wp2_with fail
  refine (ymove_to _ _ [1, 2, 1, 2, 3] 0 2 3 true _ BB0.out (by decide) (by decide) (by decide) (by decide) (by decide) (by decide) (by decide +kernel) (by decide +kernel)).mono ?_
  rintro e v0 ⟨u0, rfl, c, f⟩
  have BB1 := hide (BB0.out.fresh f)
  have KK1 := hide (KK0.out.trans f)
  have R0_0 := hide c
  clear BB0 KK0 c f 
  go_wp2_with fail
  refine (ymove_to _ _ [3, 4, 5, 4, 5] 2 0 3 true _ BB1.out (by decide) (by decide) (by decide) (by decide) (by decide) (by decide) (by decide +kernel) (by decide +kernel)).mono ?_
  rintro e v1 ⟨u1, rfl, c, f⟩
  have BB2 := hide (BB1.out.fresh f)
  have KK2 := hide (KK1.out.trans f)
  have R0_1 := hide (R0_0.out.fresh f)
  have R1_1 := hide c
  clear BB1 KK1 c f R0_0
  go_wp2_with fail
  refine (ymove_to _ _ [1, 2, 3, 4, 5] 5 5 0 true _ BB2.out (by decide) (by decide) (by decide) (by decide) (by decide) (by decide) (by decide +kernel) (by decide +kernel)).mono ?_
  rintro e v2 ⟨u2, rfl, c, f⟩
  have BB3 := hide (BB2.out.fresh f)
  have KK3 := hide (KK2.out.trans f)
  have R0_2 := hide (R0_1.out.fresh f)
  have R1_2 := hide (R1_1.out.fresh f)
  have R2_2 := hide c
  clear BB2 KK2 c f R0_1 R1_1
  go_wp2_with fail
  refine (ymove_to _ _ [1, 2, 3, 4, 5] 5 0 1 false _ BB3.out (by decide) (by decide) (by decide) (by decide) (by decide) (by decide) (by decide +kernel) (by decide +kernel)).mono ?_
  rintro e v3 ⟨u3, rfl, c, f⟩
  have BB4 := hide (BB3.out.fresh f)
  have KK4 := hide (KK3.out.trans f)
  have R0_3 := hide (R0_2.out.fresh f)
  have R1_3 := hide (R1_2.out.fresh f)
  have R2_3 := hide (R2_2.out.fresh f)
  clear BB3 KK3 c f R0_2 R1_2 R2_2
  go_wp2_with fail
  refine (ymove_to _ _ [1, 2, 3, 4, 5] 0 3 3 false _ BB4.out (by decide) (by decide) (by decide) (by decide) (by decide) (by decide) (by decide +kernel) (by decide +kernel)).mono ?_
  rintro e v4 ⟨u4, rfl, c, f⟩
  have BB5 := hide (BB4.out.fresh f)
  have KK5 := hide (KK4.out.trans f)
  have R0_4 := hide (R0_3.out.fresh f)
  have R1_4 := hide (R1_3.out.fresh f)
  have R2_4 := hide (R2_3.out.fresh f)
  clear BB4 KK4 c f R0_3 R1_3 R2_3
  go_wp2_with fail
  refine (ymove_to _ _ [1, 2, 3, 4, 5] (-1) 0 1 false _ BB5.out (by decide) (by decide) (by decide) (by decide) (by decide) (by decide) (by decide +kernel) (by decide +kernel)).mono ?_
  rintro e v5 ⟨u5, rfl, c, f⟩
  have BB6 := hide (BB5.out.fresh f)
  have KK6 := hide (KK5.out.trans f)
  have R0_5 := hide (R0_4.out.fresh f)
  have R1_5 := hide (R1_4.out.fresh f)
  have R2_5 := hide (R2_4.out.fresh f)
  clear BB5 KK5 c f R0_4 R1_4 R2_4
  go_wp2_with fail
  refine (ymove_to _ _ [1, 2, 3, 4, 5] 0 0 4611686018427387904 false _ BB6.out (by decide) (by decide) (by decide) (by decide) (by decide) (by decide) (by decide +kernel) (by decide +kernel)).mono ?_
  rintro e v6 ⟨u6, rfl, c, f⟩
  have BB7 := hide (BB6.out.fresh f)
  have KK7 := hide (KK6.out.trans f)
  have R0_6 := hide (R0_5.out.fresh f)
  have R1_6 := hide (R1_5.out.fresh f)
  have R2_6 := hide (R2_5.out.fresh f)
  clear BB6 KK6 c f R0_5 R1_5 R2_5
  go_wp2_with fail
  refine (yzero_to _ _ [1, 0, 0, 4, 5] 1 2 true _ BB7.out (by decide) (by decide) (by decide) (by decide) (by decide +kernel) (by decide +kernel)).mono ?_
  rintro e v7 ⟨u7, rfl, c, f⟩
  have BB8 := hide (BB7.out.fresh f)
  have KK8 := hide (KK7.out.trans f)
  have R0_7 := hide (R0_6.out.fresh f)
  have R1_7 := hide (R1_6.out.fresh f)
  have R2_7 := hide (R2_6.out.fresh f)
  have R7_7 := hide c
  clear BB7 KK7 c f R0_6 R1_6 R2_6
  go_wp2_with fail
  refine (yzero_to _ _ [1, 2, 3, 4, 5] 4 2 false _ BB8.out (by decide) (by decide) (by decide) (by decide) (by decide +kernel) (by decide +kernel)).mono ?_
  rintro e v8 ⟨u8, rfl, c, f⟩
  have BB9 := hide (BB8.out.fresh f)
  have KK9 := hide (KK8.out.trans f)
  have R0_8 := hide (R0_7.out.fresh f)
  have R1_8 := hide (R1_7.out.fresh f)
  have R2_8 := hide (R2_7.out.fresh f)
  have R7_8 := hide (R7_7.out.fresh f)
  clear BB8 KK8 c f R0_7 R1_7 R2_7 R7_7
  go_wp2_with fail
  refine (yzero_to _ _ [1, 2, 3, 4, 5] 6 0 false _ BB9.out (by decide) (by decide) (by decide) (by decide) (by decide +kernel) (by decide +kernel)).mono ?_
  rintro e v9 ⟨u9, rfl, c, f⟩
  have BB10 := hide (BB9.out.fresh f)
  have KK10 := hide (KK9.out.trans f)
  have R0_9 := hide (R0_8.out.fresh f)
  have R1_9 := hide (R1_8.out.fresh f)
  have R2_9 := hide (R2_8.out.fresh f)
  have R7_9 := hide (R7_8.out.fresh f)
  clear BB9 KK9 c f R0_8 R1_8 R2_8 R7_8
  go_wp2_with fail
  refine (yput_to _ _ [1, 2, 3, 4, 5] 5 1 false _ BB10.out (by decide) (by decide) (by decide +kernel) (by decide +kernel)).mono ?_
  rintro e v10 ⟨u10, rfl, c, f⟩
  have BB11 := hide (BB10.out.fresh f)
  have KK11 := hide (KK10.out.trans f)
  have R0_10 := hide (R0_9.out.fresh f)
  have R1_10 := hide (R1_9.out.fresh f)
  have R2_10 := hide (R2_9.out.fresh f)
  have R7_10 := hide (R7_9.out.fresh f)
  clear BB10 KK10 c f R0_9 R1_9 R2_9 R7_9
  have s0 := bytes_str R0_10.out
  have s1 := bytes_str R1_10.out
  have s2 := bytes_str R2_10.out
  have s7 := bytes_str R7_10.out
  have sb := bytes_str BB11.out
  have q0 : (strOfNums [1, 2, 1, 2, 3]).toList = [1, 2, 1, 2, 3] := by decide +kernel
  have q1 : (strOfNums [3, 4, 5, 4, 5]).toList = [3, 4, 5, 4, 5] := by decide +kernel
  have q2 : (strOfNums [1, 2, 3, 4, 5]).toList = [1, 2, 3, 4, 5] := by decide +kernel
  have q7 : (strOfNums [1, 0, 0, 4, 5]).toList = [1, 0, 0, 4, 5] := by decide +kernel
  go_wp2
  go_ret
  exact ⟨rfl, KK11.out⟩

set_option linter.unusedVariables false
set_option maxRecDepth 100000 in
theorem memForms_lifted (os : Os) (started : os.Started) (H : Type) (enc : TypeId × Value → H) :
    ReturnsInHanded {} Try.checked os 6 .any (Rows.memFormsSpec.pre6 enc Try.prog Try.f6 Rows.memFormsRow.domain false) (Rows.memFormsSpec.post enc Try.prog Try.f6 false true false false) := by
  refine returnsInHanded_of_change (C := Try.checked) own started (by kernel_rfl) Try.func6
    (ChangeSpec.witness6 (enc := enc) (C := Try.checked) false ⟨#[], #[], []⟩ 8 (by kernel_rfl) (by kernel_rfl) (by kernel_rfl) (by kernel_rfl)) ?_
  intro W base args ds gs before hval0 hW hcnd _
  have hval : ∀ (j : Nat) t v, Try.f6.params[j]? = some t → args[j]? = some v → Value.okWide Try.prog W .any base t v := hval0
  have hW' := hW
  obtain ⟨p, q, hA0, hV, rfl, hfz, hnd⟩ := hW
  have hA : DataW.TrodAll enc Try.prog W 0 (fun _ => true) true Try.f6.params.toList args.toList ds p := hA0
  rw [Try.params6] at hA hval
  obtain ⟨rfl, rfl, rfl⟩ := trodAll_none hA
  obtain ⟨rfl, rfl⟩ := trodVars_none hV
  clear hA0 hval0
  refine (memForms_walk0  W).mono fun e W' ⟨he, hg⟩ => ?_
  subst he
  exact ⟨_, rfl, _, _, _, [], _, [], hW', trodAll_mk1 (shut_bool Try.underlying4 _), trodAll_mk0, rfl, hg.frame _, fun h => by cases h⟩

theorem memForms_row : Rows.MemFormsSaid :=
  OpenClaim.holds_of_wide 6 Try.f6 rfl rfl rfl rfl rfl rfl rfl ⟨rfl, rfl, rfl, rfl, rfl⟩ rfl rfl rfl rfl rfl (by kernel_rfl) Try.func6 (by kernel_rfl)
    (of_decide_eq_true (by kernel_rfl)) (by unfold Func.isWrapper; first | (rw [if_pos (by decide +kernel)]; kernel_rfl) | (rw [if_neg (by decide +kernel)]; exact ⟨rfl, rfl⟩))
    (fun os started H enc _ => memForms_lifted os started H enc)

theorem memForms_holds : Rows.MemFormsSaid := memForms_row
#print axioms memForms_holds
end Go.Proofs.Ytbbfbelhdjloeaa
