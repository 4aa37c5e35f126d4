/- Proved here: hodmanlaw13.CommitForms, a closed statement, called in any memory in which the library's table math/bits.deBruijn64tab lies as its initialiser lays it, returns true: which pages are there, of some, is as promise P13.1 has it. No condition besides. -/
import Derived.Test.YtcnfmkhjhffebaaDoorComLaw
import Derived.Test.YtcnfmkhjhffebaaDoorOpen
import Derived.Test.YtcnfmkhjhffebaaDoorCards
import Derived.Test.YtcnfmkhjhffebaaDoorTie
namespace Go.Proofs.YtcnfmkhjhffebaaDoor
open Go.ChangeShapes Go.WideShapes Go.ChangeAt Go.RowKit

set_option maxRecDepth 100000 in
set_option maxHeartbeats 4000000 in
theorem commitForms_walk0 (w : World) (hT : Tab w) : Calls Tryd.prog 6 #[] w fun e w' => e = .returned (.bool true) ∧ Fresh w w' := by
  have HT := hide hT
  have HL := hide (fun w => lits_made w #[.bool true, .bool true, .bool false, .bool true] #[.bool true, .bool false, .bool false, .bool false] 4 [true, true, false, true] [true, false, false, false] 4 4 rfl rfl rfl rfl (by decide) (by decide))
  clear hT
  go_enter Tryd.func6, Tryd.ntmps6
  go_wp2_with fail
  refine (begun13_true _ HT.out).mono ?_
  rintro e w1 ⟨rfl, k1⟩
  have B := hide (HL.out w1)
  have K := hide (k1.trans B.out.2.2)
  clear k1 HL
  go_wp2_with fail
  obtain ⟨wl, hwl⟩ : ∃ wl, wl = (w1.alloc (.cells #[.bool true, .bool true, .bool false, .bool true] 4)).alloc (.cells #[.bool true, .bool false, .bool false, .bool false] 4) := ⟨_, rfl⟩
  rw [← hwl] at B K ⊢
  clear hwl
  obtain ⟨S, hS⟩ : ∃ S, S = w1.heap.size := ⟨_, rfl⟩
  rw [← hS] at B ⊢
  clear hS
  have B' := hide (show _ ∧ _ from ⟨B.out.1, B.out.2.1⟩)
  clear B
  have B := B'
  clear B'
  refine (commit_to _ _ [true, true, false, true] [true, false, false, false] 2 3 4 2 3 4 1 [true, true, true, true] [2] _ (B.out.1) (B.out.2) (HT.out.below K.out) rfl rfl rfl (by decide) (by decide +kernel) (by decide +kernel) (by decide +kernel) rfl).mono ?_
  rintro e wx ⟨gx, ax, cx, rfl, o1, o2, k3⟩
  have Xx := hide (o1.inn (by decide))
  have Rx := hide o2
  clear o1 o2
  have B' := hide (show _ ∧ _ from ⟨B.out.1.fresh k3, B.out.2.fresh k3⟩)
  have K' := hide (K.out.trans k3)
  clear B K k3 
  have B := B'
  have K := K'
  clear B' K' 
  go_wp2_with fail
  refine (commit_to _ _ [true, true, false, true] [true, false, false, false] 2 3 3 2 3 4 1 [true, false, true, false] [2] _ (B.out.1) (B.out.2) (HT.out.below K.out) rfl rfl rfl (by decide) (by decide +kernel) (by decide +kernel) (by decide +kernel) rfl).mono ?_
  rintro e wy ⟨gy, ay, cy, rfl, o1, o2, k3⟩
  have Xy := hide (o1.inn (by decide))
  have Ry := hide o2
  clear o1 o2
  have B' := hide (show _ ∧ _ from ⟨B.out.1.fresh k3, B.out.2.fresh k3⟩)
  have K' := hide (K.out.trans k3)
  have Xx' := hide (Xx.out.fresh k3)
  have Rx' := hide (Rx.out.fresh k3)
  clear B K k3 Xx Rx
  have B := B'
  have K := K'
  have Xx := Xx'
  have Rx := Rx'
  clear B' K' Xx' Rx'
  go_wp2_with fail
  refine (commit_to _ _ [true, true, false, true] [true, false, false, false] 2 3 2 2 3 4 1 [true, false, true, false] [2] _ (B.out.1) (B.out.2) (HT.out.below K.out) rfl rfl rfl (by decide) (by decide +kernel) (by decide +kernel) (by decide +kernel) rfl).mono ?_
  rintro e wz ⟨gz, az, cz, rfl, o1, o2, k3⟩
  have Xz := hide (o1.inn (by decide))
  have Rz := hide o2
  clear o1 o2
  have B' := hide (show _ ∧ _ from ⟨B.out.1.fresh k3, B.out.2.fresh k3⟩)
  have K' := hide (K.out.trans k3)
  have Xx' := hide (Xx.out.fresh k3)
  have Rx' := hide (Rx.out.fresh k3)
  have Xy' := hide (Xy.out.fresh k3)
  have Ry' := hide (Ry.out.fresh k3)
  clear B K k3 Xx Rx Xy Ry
  have B := B'
  have K := K'
  have Xx := Xx'
  have Rx := Rx'
  have Xy := Xy'
  have Ry := Ry'
  clear B' K' Xx' Rx' Xy' Ry'
  go_wp2_with fail
  refine (commit_no _ _ [true, true, false, true] [true, false, false, false] 2 3 1 _ (B.out.1) (B.out.2) (by decide) (by decide) (by decide) (by decide) (by decide +kernel)).mono ?_
  rintro e wn1 ⟨rfl, k3⟩
  have B' := hide (show _ ∧ _ from ⟨B.out.1.fresh k3, B.out.2.fresh k3⟩)
  have K' := hide (K.out.trans k3)
  have Xx' := hide (Xx.out.fresh k3)
  have Rx' := hide (Rx.out.fresh k3)
  have Xy' := hide (Xy.out.fresh k3)
  have Ry' := hide (Ry.out.fresh k3)
  have Xz' := hide (Xz.out.fresh k3)
  have Rz' := hide (Rz.out.fresh k3)
  clear B K k3 Xx Rx Xy Ry Xz Rz
  have B := B'
  have K := K'
  have Xx := Xx'
  have Rx := Rx'
  have Xy := Xy'
  have Ry := Ry'
  have Xz := Xz'
  have Rz := Rz'
  clear B' K' Xx' Rx' Xy' Ry' Xz' Rz'
  unfold noE
  go_wp2_with fail
  refine (commit_to _ _ [true, true, false, true] [true, false, false, false] 1 1 1 1 1 4 0 [true, false, false, false] [] _ (B.out.1) (B.out.2) (HT.out.below K.out) rfl rfl rfl (by decide) (by decide +kernel) (by decide +kernel) (by decide +kernel) rfl).mono ?_
  rintro e wu ⟨gu, au, cu, rfl, o1, o2, k3⟩
  have Xu := hide (o1.inn (by decide))
  have Ru := hide o2
  clear o1 o2
  have B' := hide (show _ ∧ _ from ⟨B.out.1.fresh k3, B.out.2.fresh k3⟩)
  have K' := hide (K.out.trans k3)
  have Xx' := hide (Xx.out.fresh k3)
  have Rx' := hide (Rx.out.fresh k3)
  have Xy' := hide (Xy.out.fresh k3)
  have Ry' := hide (Ry.out.fresh k3)
  have Xz' := hide (Xz.out.fresh k3)
  have Rz' := hide (Rz.out.fresh k3)
  clear B K k3 Xx Rx Xy Ry Xz Rz
  have B := B'
  have K := K'
  have Xx := Xx'
  have Rx := Rx'
  have Xy := Xy'
  have Ry := Ry'
  have Xz := Xz'
  have Rz := Rz'
  clear B' K' Xx' Rx' Xy' Ry' Xz' Rz'
  go_wp2_with fail
  refine (commit_no _ _ [true, true, false, true] [true, false, false, false] 3 2 9 _ (B.out.1) (B.out.2) (by decide) (by decide) (by decide) (by decide) (by decide +kernel)).mono ?_
  rintro e wn2 ⟨rfl, k3⟩
  have B' := hide (show _ ∧ _ from ⟨B.out.1.fresh k3, B.out.2.fresh k3⟩)
  have K' := hide (K.out.trans k3)
  have Xx' := hide (Xx.out.fresh k3)
  have Rx' := hide (Rx.out.fresh k3)
  have Xy' := hide (Xy.out.fresh k3)
  have Ry' := hide (Ry.out.fresh k3)
  have Xz' := hide (Xz.out.fresh k3)
  have Rz' := hide (Rz.out.fresh k3)
  have Xu' := hide (Xu.out.fresh k3)
  have Ru' := hide (Ru.out.fresh k3)
  clear B K k3 Xx Rx Xy Ry Xz Rz Xu Ru
  have B := B'
  have K := K'
  have Xx := Xx'
  have Rx := Rx'
  have Xy := Xy'
  have Ry := Ry'
  have Xz := Xz'
  have Rz := Rz'
  have Xu := Xu'
  have Ru := Ru'
  clear B' K' Xx' Rx' Xy' Ry' Xz' Rz' Xu' Ru'
  unfold noE
  go_wp2_with fail
  refine (commit_no _ _ [true, true, false, true] [true, false, false, false] 0 5 9 _ (B.out.1) (B.out.2) (by decide) (by decide) (by decide) (by decide) (by decide +kernel)).mono ?_
  rintro e wn3 ⟨rfl, k3⟩
  have B' := hide (show _ ∧ _ from ⟨B.out.1.fresh k3, B.out.2.fresh k3⟩)
  have K' := hide (K.out.trans k3)
  have Xx' := hide (Xx.out.fresh k3)
  have Rx' := hide (Rx.out.fresh k3)
  have Xy' := hide (Xy.out.fresh k3)
  have Ry' := hide (Ry.out.fresh k3)
  have Xz' := hide (Xz.out.fresh k3)
  have Rz' := hide (Rz.out.fresh k3)
  have Xu' := hide (Xu.out.fresh k3)
  have Ru' := hide (Ru.out.fresh k3)
  clear B K k3 Xx Rx Xy Ry Xz Rz Xu Ru
  have B := B'
  have K := K'
  have Xx := Xx'
  have Rx := Rx'
  have Xy := Xy'
  have Ry := Ry'
  have Xz := Xz'
  have Rz := Rz'
  have Xu := Xu'
  have Ru := Ru'
  clear B' K' Xx' Rx' Xy' Ry' Xz' Rz' Xu' Ru'
  unfold noE
  go_wp2_with fail
  refine (commit_no _ _ [true, true, false, true] [true, false, false, false] (-1) 2 9 _ (B.out.1) (B.out.2) (by decide) (by decide) (by decide) (by decide) (by decide +kernel)).mono ?_
  rintro e wn4 ⟨rfl, k3⟩
  have B' := hide (show _ ∧ _ from ⟨B.out.1.fresh k3, B.out.2.fresh k3⟩)
  have K' := hide (K.out.trans k3)
  have Xx' := hide (Xx.out.fresh k3)
  have Rx' := hide (Rx.out.fresh k3)
  have Xy' := hide (Xy.out.fresh k3)
  have Ry' := hide (Ry.out.fresh k3)
  have Xz' := hide (Xz.out.fresh k3)
  have Rz' := hide (Rz.out.fresh k3)
  have Xu' := hide (Xu.out.fresh k3)
  have Ru' := hide (Ru.out.fresh k3)
  clear B K k3 Xx Rx Xy Ry Xz Rz Xu Ru
  have B := B'
  have K := K'
  have Xx := Xx'
  have Rx := Rx'
  have Xy := Xy'
  have Ry := Ry'
  have Xz := Xz'
  have Rz := Rz'
  have Xu := Xu'
  have Ru := Ru'
  clear B' K' Xx' Rx' Xy' Ry' Xz' Rz' Xu' Ru'
  unfold noE
  go_wp2_with fail
  refine (commit_no _ _ [true, true, false, true] [true, false, false] 0 1 9 _ (B.out.1) (front_at B.out.2 3 (by decide)) (by decide) (by decide) (by decide) (by decide) (by decide +kernel)).mono ?_
  rintro e wn5 ⟨rfl, k3⟩
  have B' := hide (show _ ∧ _ from ⟨B.out.1.fresh k3, B.out.2.fresh k3⟩)
  have K' := hide (K.out.trans k3)
  have Xx' := hide (Xx.out.fresh k3)
  have Rx' := hide (Rx.out.fresh k3)
  have Xy' := hide (Xy.out.fresh k3)
  have Ry' := hide (Ry.out.fresh k3)
  have Xz' := hide (Xz.out.fresh k3)
  have Rz' := hide (Rz.out.fresh k3)
  have Xu' := hide (Xu.out.fresh k3)
  have Ru' := hide (Ru.out.fresh k3)
  clear B K k3 Xx Rx Xy Ry Xz Rz Xu Ru
  have B := B'
  have K := K'
  have Xx := Xx'
  have Rx := Rx'
  have Xy := Xy'
  have Ry := Ry'
  have Xz := Xz'
  have Rz := Rz'
  have Xu := Xu'
  have Ru := Ru'
  clear B' K' Xx' Rx' Xy' Ry' Xz' Rz' Xu' Ru'
  unfold noE
  go_wp2_with fail
  have L := hide (boolsIn_lit (heap_alloc_new wn5 (.cells #[.bool true, .bool true, .bool true, .bool true] 4)) (bs := [true, true, true, true]) (n := 4) rfl rfl (by decide))
  have FL := hide (fresh_box wn5 #[.bool true, .bool true, .bool true, .bool true] 4)
  refine (sameb_true _ _ [true, true, true, true] _ (Xx.out.fresh FL.out).at L.out.at (by decide)).mono ?_
  rintro e wa ⟨rfl, k4⟩
  have k3 := FL.out.trans k4
  clear L FL k4
  have B' := hide (show _ ∧ _ from ⟨B.out.1.fresh k3, B.out.2.fresh k3⟩)
  have K' := hide (K.out.trans k3)
  have Xx' := hide (Xx.out.fresh k3)
  have Rx' := hide (Rx.out.fresh k3)
  have Xy' := hide (Xy.out.fresh k3)
  have Ry' := hide (Ry.out.fresh k3)
  have Xz' := hide (Xz.out.fresh k3)
  have Rz' := hide (Rz.out.fresh k3)
  have Xu' := hide (Xu.out.fresh k3)
  have Ru' := hide (Ru.out.fresh k3)
  clear B K k3 Xx Rx Xy Ry Xz Rz Xu Ru
  have B := B'
  have K := K'
  have Xx := Xx'
  have Rx := Rx'
  have Xy := Xy'
  have Ry := Ry'
  have Xz := Xz'
  have Rz := Rz'
  have Xu := Xu'
  have Ru := Ru'
  clear B' K' Xx' Rx' Xy' Ry' Xz' Rz' Xu' Ru'
  obtain ⟨gf, rfl, d2⟩ := Rx.out.one 0 (by decide) (x := 2) rfl
  go_wp2_with fail
  clear d2
  have L := hide (boolsIn_lit (heap_alloc_new wa (.cells #[.bool true, .bool false, .bool true, .bool false] 4)) (bs := [true, false, true, false]) (n := 4) rfl rfl (by decide))
  have FL := hide (fresh_box wa #[.bool true, .bool false, .bool true, .bool false] 4)
  refine (sameb_true _ _ [true, false, true, false] _ (Xy.out.fresh FL.out).at L.out.at (by decide)).mono ?_
  rintro e wb ⟨rfl, k4⟩
  have k3 := FL.out.trans k4
  clear L FL k4
  have B' := hide (show _ ∧ _ from ⟨B.out.1.fresh k3, B.out.2.fresh k3⟩)
  have K' := hide (K.out.trans k3)
  have Xx' := hide (Xx.out.fresh k3)
  have Rx' := hide (Rx.out.fresh k3)
  have Xy' := hide (Xy.out.fresh k3)
  have Ry' := hide (Ry.out.fresh k3)
  have Xz' := hide (Xz.out.fresh k3)
  have Rz' := hide (Rz.out.fresh k3)
  have Xu' := hide (Xu.out.fresh k3)
  have Ru' := hide (Ru.out.fresh k3)
  clear B K k3 Xx Rx Xy Ry Xz Rz Xu Ru
  have B := B'
  have K := K'
  have Xx := Xx'
  have Rx := Rx'
  have Xy := Xy'
  have Ry := Ry'
  have Xz := Xz'
  have Rz := Rz'
  have Xu := Xu'
  have Ru := Ru'
  clear B' K' Xx' Rx' Xy' Ry' Xz' Rz' Xu' Ru'
  go_wp2_with fail
  refine (sameb_true _ _ [true, false, true, false] _ Xz.out.at Xy.out.at (by decide)).mono ?_
  rintro e wc ⟨rfl, k3⟩
  have B' := hide (show _ ∧ _ from ⟨B.out.1.fresh k3, B.out.2.fresh k3⟩)
  have K' := hide (K.out.trans k3)
  have Xx' := hide (Xx.out.fresh k3)
  have Rx' := hide (Rx.out.fresh k3)
  have Xy' := hide (Xy.out.fresh k3)
  have Ry' := hide (Ry.out.fresh k3)
  have Xz' := hide (Xz.out.fresh k3)
  have Rz' := hide (Rz.out.fresh k3)
  have Xu' := hide (Xu.out.fresh k3)
  have Ru' := hide (Ru.out.fresh k3)
  clear B K k3 Xx Rx Xy Ry Xz Rz Xu Ru
  have B := B'
  have K := K'
  have Xx := Xx'
  have Rx := Rx'
  have Xy := Xy'
  have Ry := Ry'
  have Xz := Xz'
  have Rz := Rz'
  have Xu := Xu'
  have Ru := Ru'
  clear B' K' Xx' Rx' Xy' Ry' Xz' Rz' Xu' Ru'
  go_wp2_with fail
  have L := hide (boolsIn_lit (heap_alloc_new wc (.cells #[.bool true, .bool false, .bool false, .bool false] 4)) (bs := [true, false, false, false]) (n := 4) rfl rfl (by decide))
  have FL := hide (fresh_box wc #[.bool true, .bool false, .bool false, .bool false] 4)
  refine (sameb_true _ _ [true, false, false, false] _ (Xu.out.fresh FL.out).at L.out.at (by decide)).mono ?_
  rintro e wd ⟨rfl, k4⟩
  have k3 := FL.out.trans k4
  clear L FL k4
  have B' := hide (show _ ∧ _ from ⟨B.out.1.fresh k3, B.out.2.fresh k3⟩)
  have K' := hide (K.out.trans k3)
  have Xx' := hide (Xx.out.fresh k3)
  have Rx' := hide (Rx.out.fresh k3)
  have Xy' := hide (Xy.out.fresh k3)
  have Ry' := hide (Ry.out.fresh k3)
  have Xz' := hide (Xz.out.fresh k3)
  have Rz' := hide (Rz.out.fresh k3)
  have Xu' := hide (Xu.out.fresh k3)
  have Ru' := hide (Ru.out.fresh k3)
  clear B K k3 Xx Rx Xy Ry Xz Rz Xu Ru
  have B := B'
  have K := K'
  have Xx := Xx'
  have Rx := Rx'
  have Xy := Xy'
  have Ry := Ry'
  have Xz := Xz'
  have Rz := Rz'
  have Xu := Xu'
  have Ru := Ru'
  clear B' K' Xx' Rx' Xy' Ry' Xz' Rz' Xu' Ru'
  go_wp2
  go_ret
  exact ⟨rfl, K.out⟩

set_option linter.unusedVariables false
set_option maxRecDepth 100000 in
theorem commitForms_lifted (os : Os) (started : os.Started) (H : Type) (enc : TypeId × Value → H) :
    ReturnsInHanded {} Tryd.checked os 6 .any (fun w args => (Rows.commitFormsSpec.pre enc Tryd.prog Tryd.f6 [] false w args ∧ laidMetH Tryd.prog laid1 w) ∧ sizedMet enc Tryd.prog Tryd.f6 (OpenSpec.ofChange Rows.commitFormsSpec) false w args)
      (Rows.commitFormsSpec.post enc Tryd.prog Tryd.f6 false true false false) := by
  refine returnsInHanded_of_change_and (C := Tryd.checked) (X := fun w _ => laidMetH Tryd.prog laid1 w) (fun _ _ _ hh h => h.of_heap hh) own started (by kernel_rfl) Tryd.func6
    (ChangeSpec.witness_shaped (enc := enc) (C := Tryd.checked) (os := os) (X := fun w _ => laidMetH Tryd.prog laid1 w) false (World.doorLaid Tryd.prog 400 os) #[] 8 rfl (World.shaped_of_RefB (by kernel_rfl) (by kernel_rfl)) (by kernel_rfl) (by kernel_rfl) (by kernel_rfl) (door_met os _)) ?_
  intro W base args ds gs before hval0 hW _ _ hL _
  have hval : ∀ (j : Nat) t v, Tryd.f6.params[j]? = some t → args[j]? = some v → Value.okWide Tryd.prog W .any base t v := hval0
  have hW' := hW
  obtain ⟨p, q, hA0, hV, rfl, hfz, hnd⟩ := hW
  have hA : DataW.TrodAll enc Tryd.prog W 0 (fun _ => true) true Tryd.f6.params.toList args.toList ds p := hA0
  rw [Tryd.params6] at hA hval
  obtain ⟨rfl, rfl, rfl⟩ := trodAll_none hA
  obtain ⟨rfl, rfl⟩ := trodVars_none hV
  clear hA0 hval0
  have hT := tab_of_laid hL
  refine (commitForms_walk0  W hT).mono fun e W' ⟨he, hg⟩ => ?_
  subst he
  exact ⟨_, rfl, _, _, _, [], _, [], hW', trodAll_mk1 (shut_bool Tryd.underlying4 _), trodAll_mk0, rfl, hg.frame _, fun h => by cases h⟩

theorem commitForms_row : Rows.CommitFormsSaid :=
  OpenClaim.holds_of_wide 6 Tryd.f6 rfl rfl rfl rfl rfl rfl rfl ⟨rfl, rfl, rfl, rfl, rfl⟩ rfl rfl rfl rfl rfl (by kernel_rfl) Tryd.func6 (by kernel_rfl)
    (of_decide_eq_true (by kernel_rfl)) (by unfold Func.isWrapper; first | (rw [if_pos (by decide +kernel)]; kernel_rfl) | (rw [if_neg (by decide +kernel)]; exact ⟨rfl, rfl⟩))
    (fun os started H enc _ => commitForms_lifted os started H enc)

theorem commitForms_holds : Rows.CommitFormsCardSaid :=
  Claim7.holds_tied_plain_at .later [] [.data] true (true, "843c0bd705d6e3e1b489dc1c7791f91ab1e102c0021abdd85800ad58c449501d") false
    commitForms_row (fun _ h => by cases h) (by kernel_rfl) (fun _ h => by cases h) commitForms_row_tie rfl ⟨rfl, rfl⟩ (by kernel_rfl) rfl
    (fun f fn hf hfn => by
      obtain rfl : f = 6 := Option.some.inj ((show Tryd.prog.funcNamed "hodman/hodmanlaw13.CommitForms" = some 6 by kernel_rfl).symm.trans hf) |>.symm
      obtain rfl : fn = Tryd.f6 := (Option.some.inj (Tryd.func6.symm.trans hfn)).symm
      exact ⟨by kernel_rfl, fun j t ht => by
        rw [Tryd.params6] at ht
        simp at ht⟩)
    (by kernel_rfl)
#print axioms commitForms_holds
end Go.Proofs.YtcnfmkhjhffebaaDoor
