/- Proved here: hodmanlaw14.JunkForms, a closed statement, called in any memory, returns true: what stands in some fresh pages is as promise P14.1 has it. No condition. -/
import Derived.Test.YtakpbhijnhpdeaaJunkLaw
import Derived.Test.YtakpbhijnhpdeaaOpen
namespace Go.Proofs.Ytakpbhijnhpdeaa
open Go.ChangeShapes Go.WideShapes Go.ChangeAt Go.RowKit

/-- a block of bytes, written out -/
theorem lit_made (w : World) (cs : Array Value) (l : List Int) (n : Nat) (hcs : cs.toList = yvals l) (hn : l.length = n) (hl : l.length ≤ 1048576) : BytesIn (w.alloc (.cells cs 5)) (.slice (some ⟨w.heap.size, 0, none⟩) n n) l :=
  bytesIn_lit (heap_alloc_new w _) hcs hn hl

set_option maxRecDepth 100000 in
set_option maxHeartbeats 4000000 in
theorem junkForms_walk0 (w : World) : Calls Try.prog 5 #[] w fun e w' => e = .returned (.bool true) ∧ Fresh w w' := by
  go_enter Try.func5, Try.ntmps5
  go_wp2_with fail
  refine (begun14_true _).mono ?_
  rintro e w1 ⟨rfl, k1⟩
  have K1 := hide k1
  clear k1
  have L1 := hide (lit_made w1 #[.int .u8 1, .int .u8 2, .int .u8 3, .int .u8 4, .int .u8 5] [1, 2, 3, 4, 5] 5 rfl rfl (by decide))
  go_wp2_with fail
  refine (fill_to _ _ [1, 2, 26, 33, 5] 250 1 2 _ L1.out (by decide) (by decide) (by decide) (by decide) (by decide +kernel)).mono ?_
  rintro e w2 ⟨u, rfl, b, f⟩
  have B := hide b
  have K2 := hide ((fresh_more K1.out _ _).trans f)
  clear b f L1 K1
  have L1 := hide (lit_made w2 #[.int .u8 1, .int .u8 2, .int .u8 3] [1, 2, 3] 3 rfl rfl (by decide))
  go_wp2_with fail
  refine (fill_to _ _ [1, 2, 32] 0 1 2 _ L1.out (by decide) (by decide) (by decide) (by decide) (by decide +kernel)).mono ?_
  rintro e w3 ⟨v, rfl, c, f⟩
  have C := hide c
  have B3 := hide (B.out.fresh ((fresh_box _ _ _).trans f))
  have K3 := hide ((fresh_more K2.out _ _).trans f)
  clear c f L1 K2 B
  have s1 := bytes_str B3.out
  have s2 := bytes_str C.out
  have q1 : (strOfNums [1, 2, 26, 33, 5]).toList = [1, 2, 26, 33, 5] := by decide +kernel
  have q2 : (strOfNums [1, 2, 32]).toList = [1, 2, 32] := by decide +kernel
  have q9 : (strOfNums [9]).toList = [9] := by decide +kernel
  go_wp2_with fail
  have L1 := hide (lit_made w3 #[.int .u8 9] [9] 1 rfl rfl (by decide))
  refine (fill_to _ _ [9] 0 1 4 _ L1.out (by decide) (by decide) (by decide) (by decide) (by decide +kernel)).mono ?_
  rintro e w4 ⟨u4, rfl, b, f⟩
  have s4 := bytes_str b
  have K4 := hide ((fresh_more K3.out _ _).trans f)
  clear b f L1 K3
  go_wp2_with fail
  have L1 := hide (lit_made w4 #[.int .u8 9] [9] 1 rfl rfl (by decide))
  refine (fill_to _ _ [9] 0 (-1) 4 _ L1.out (by decide) (by decide) (by decide) (by decide) (by decide +kernel)).mono ?_
  rintro e w5 ⟨u5, rfl, b, f⟩
  have s5 := bytes_str b
  have K5 := hide ((fresh_more K4.out _ _).trans f)
  clear b f L1 K4
  go_wp2_with fail
  have L1 := hide (lit_made w5 #[.int .u8 9] [9] 1 rfl rfl (by decide))
  refine (fill_to _ _ [9] 0 0 (-4) _ L1.out (by decide) (by decide) (by decide) (by decide) (by decide +kernel)).mono ?_
  rintro e w6 ⟨u6, rfl, b, f⟩
  have s6 := bytes_str b
  have K6 := hide ((fresh_more K5.out _ _).trans f)
  clear b f L1 K5
  go_wp2_with fail
  refine (byte_to _ _ _ 0 _ (by decide)).mono ?_
  rintro e w7 ⟨rfl, rfl⟩
  go_wp2_with fail
  refine (byte_to _ _ _ 39 _ (by decide)).mono ?_
  rintro e w8 ⟨rfl, rfl⟩
  go_wp2
  go_ret
  exact ⟨rfl, K6.out⟩

set_option linter.unusedVariables false
set_option maxRecDepth 100000 in
theorem junkForms_lifted (os : Os) (started : os.Started) (H : Type) (enc : TypeId × Value → H) :
    ReturnsInHanded {} Try.checked os 5 .any (Rows.junkFormsSpec.pre6 enc Try.prog Try.f5 Rows.junkFormsRow.domain false) (Rows.junkFormsSpec.post enc Try.prog Try.f5 false true false false) := by
  refine returnsInHanded_of_change (C := Try.checked) own started (by kernel_rfl) Try.func5
    (ChangeSpec.witness6 (enc := enc) (C := Try.checked) false ⟨#[], #[], []⟩ 8 (by kernel_rfl) (by kernel_rfl) (by kernel_rfl) (by kernel_rfl)) ?_
  intro W base args ds gs before hval0 hW hcnd _
  have hval : ∀ (j : Nat) t v, Try.f5.params[j]? = some t → args[j]? = some v → Value.okWide Try.prog W .any base t v := hval0
  have hW' := hW
  obtain ⟨p, q, hA0, hV, rfl, hfz, hnd⟩ := hW
  have hA : DataW.TrodAll enc Try.prog W 0 (fun _ => true) true Try.f5.params.toList args.toList ds p := hA0
  rw [Try.params5] at hA hval
  obtain ⟨rfl, rfl, rfl⟩ := trodAll_none hA
  obtain ⟨rfl, rfl⟩ := trodVars_none hV
  clear hA0 hval0
  refine (junkForms_walk0  W).mono fun e W' ⟨he, hg⟩ => ?_
  subst he
  exact ⟨_, rfl, _, _, _, [], _, [], hW', trodAll_mk1 (shut_bool Try.underlying4 _), trodAll_mk0, rfl, hg.frame _, fun h => by cases h⟩

theorem junkForms_row : Rows.JunkFormsSaid :=
  OpenClaim.holds_of_wide 5 Try.f5 rfl rfl rfl rfl rfl rfl rfl ⟨rfl, rfl, rfl, rfl, rfl⟩ rfl rfl rfl rfl rfl (by kernel_rfl) Try.func5 (by kernel_rfl)
    (of_decide_eq_true (by kernel_rfl)) (by unfold Func.isWrapper; first | (rw [if_pos (by decide +kernel)]; kernel_rfl) | (rw [if_neg (by decide +kernel)]; exact ⟨rfl, rfl⟩))
    (fun os started H enc _ => junkForms_lifted os started H enc)

theorem junkForms_holds : Rows.JunkFormsSaid := junkForms_row
#print axioms junkForms_holds
end Go.Proofs.Ytakpbhijnhpdeaa
