/- Proved here: hodmanlaw1.CalcOrder returns true at every three numbers of 32 bits, in any memory in which the library's table math/bits.deBruijn64tab lies as its initialiser lays it: sums of three by calc.Add are the same, whichever two are added first, and products by calc.Mul go with sums. No condition besides. -/
import Derived.Test.YtmjnnccfigbkmaaDoorLawA
import Derived.Test.YtmjnnccfigbkmaaDoorCards
import Derived.Test.YtmjnnccfigbkmaaDoorTie
import Derived.RowKit3
namespace Go.Proofs.YtmjnnccfigbkmaaDoor
open Go.ChangeShapes Go.WideShapes Go.ChangeAt Go.RowKit

theorem mul32 (a b A B : Int) (hA : 0 ≤ A) (ha : -A ≤ a) (ha' : a ≤ A) (hb : -B ≤ b) (hb' : b ≤ B) : -(A * B) ≤ a * b ∧ a * b ≤ A * B := by
  have h := Int.natAbs_mul a b
  have h1 : a.natAbs * b.natAbs ≤ A.natAbs * B.natAbs := Nat.mul_le_mul (by omega) (by omega)
  have h2 := Int.natAbs_mul A B
  have h3 : 0 ≤ A * B := Int.mul_nonneg hA (by omega)
  omega

theorem calcOrder_walk (x : Int) (hx : -2147483648 ≤ x) (hx' : x ≤ 2147483647) (y : Int) (hy : -2147483648 ≤ y) (hy' : y ≤ 2147483647) (z : Int) (hz : -2147483648 ≤ z) (hz' : z ≤ 2147483647) (w : World) (hT : Tab w) :
    Calls Tryd.prog 8 #[.int .i32 x, .int .i32 y, .int .i32 z] w fun e w' => e = .returned (.bool true) ∧ Grown w w' := by
  have m1 := mul32 x (y + z) 2147483648 4294967296 (by omega) (by omega) (by omega) (by omega) (by omega)
  have m2 := mul32 x y 2147483648 2147483648 (by omega) (by omega) (by omega) (by omega) (by omega)
  have m3 := mul32 x z 2147483648 2147483648 (by omega) (by omega) (by omega) (by omega) (by omega)
  have hd : x * (y + z) = x * y + x * z := Int.mul_add x y z
  have hass : x + y + z = x + (y + z) := Int.add_assoc x y z
  have v1 := (add_fits (a := x) (b := y) (by omega) (by omega))
  have v2 := (add_fits (a := y) (b := z) (by omega) (by omega))
  have v3 := (add_fits (a := x + y) (b := z) (by omega) (by omega))
  have v4 := (add_fits (a := x) (b := y + z) (by omega) (by omega))
  rw [← hass] at v4
  have v6 := (mul_fits (a := x) (b := y) (by omega) (by omega))
  have v7 := (mul_fits (a := x) (b := z) (by omega) (by omega))
  have H1 := hide v1; have H2 := hide v2; have H3 := hide v3; have H4 := hide v4; have H6 := hide v6; have H7 := hide v7
  clear v1 v2 v3 v4 v6 v7
  rcases mul_cases x (y + z) with ⟨e1, e2, f1, f2⟩ | ⟨e1, e2, f1⟩
  · rw [hd] at e2 f1 f2
    have H8 := hide (add_fits (a := x * y) (b := x * z) f1 f2)
    have H5 := hide (And.intro e1 e2)
    clear e1 e2 hd hass
    go_enter Tryd.func8, Tryd.ntmps8
    go_wp2_with fail
    refine (begun_true _ hT).mono ?_
    rintro e w' ⟨rfl, rfl⟩
    go_wp2_with fail
    refine (add_to x y _ _ H1.out.2 H1.out.1 _ (by omega) (by omega) (by omega) (by omega)).mono ?_
    rintro e w' ⟨rfl, rfl⟩
    go_wp2_with fail
    refine (add_to y z _ _ H2.out.2 H2.out.1 _ (by omega) (by omega) (by omega) (by omega)).mono ?_
    rintro e w' ⟨rfl, rfl⟩
    go_wp2_with fail
    refine (add_to (x + y) z _ _ H3.out.2 H3.out.1 _ (by omega) (by omega) (by omega) (by omega)).mono ?_
    rintro e w' ⟨rfl, rfl⟩
    go_wp2_with fail
    refine (add_to x (y + z) _ _ H4.out.2 H4.out.1 _ (by omega) (by omega) (by omega) (by omega)).mono ?_
    rintro e w' ⟨rfl, rfl⟩
    go_wp2_with fail
    refine (mul_to x (y + z) _ _ H5.out.2 H5.out.1 _ (by omega) (by omega) (by omega) (by omega)).mono ?_
    rintro e w' ⟨rfl, rfl⟩
    go_wp2_with fail
    refine (mul_to x y _ _ H6.out.2 H6.out.1 _ (by omega) (by omega) (by omega) (by omega)).mono ?_
    rintro e w' ⟨rfl, rfl⟩
    go_wp2_with fail
    refine (mul_to x z _ _ H7.out.2 H7.out.1 _ (by omega) (by omega) (by omega) (by omega)).mono ?_
    rintro e w' ⟨rfl, rfl⟩
    go_wp2_with fail
    refine (add_to (x * y) (x * z) _ _ H8.out.2 H8.out.1 _ (by omega) (by omega) (by omega) (by omega)).mono ?_
    rintro e w' ⟨rfl, rfl⟩
    go_wp2
    go_ret
    exact ⟨rfl, Grown.refl _⟩
  · rw [hd] at f1
    have H8 := hide (add_not (a := x * y) (b := x * z) f1)
    have H5 := hide (And.intro e1 e2)
    clear e1 e2 hd hass
    go_enter Tryd.func8, Tryd.ntmps8
    go_wp2_with fail
    refine (begun_true _ hT).mono ?_
    rintro e w' ⟨rfl, rfl⟩
    go_wp2_with fail
    refine (add_to x y _ _ H1.out.2 H1.out.1 _ (by omega) (by omega) (by omega) (by omega)).mono ?_
    rintro e w' ⟨rfl, rfl⟩
    go_wp2_with fail
    refine (add_to y z _ _ H2.out.2 H2.out.1 _ (by omega) (by omega) (by omega) (by omega)).mono ?_
    rintro e w' ⟨rfl, rfl⟩
    go_wp2_with fail
    refine (add_to (x + y) z _ _ H3.out.2 H3.out.1 _ (by omega) (by omega) (by omega) (by omega)).mono ?_
    rintro e w' ⟨rfl, rfl⟩
    go_wp2_with fail
    refine (add_to x (y + z) _ _ H4.out.2 H4.out.1 _ (by omega) (by omega) (by omega) (by omega)).mono ?_
    rintro e w' ⟨rfl, rfl⟩
    go_wp2_with fail
    refine (mul_to x (y + z) _ _ H5.out.2 H5.out.1 _ (by omega) (by omega) (by omega) (by omega)).mono ?_
    rintro e w' ⟨rfl, rfl⟩
    go_wp2_with fail
    refine (mul_to x y _ _ H6.out.2 H6.out.1 _ (by omega) (by omega) (by omega) (by omega)).mono ?_
    rintro e w' ⟨rfl, rfl⟩
    go_wp2_with fail
    refine (mul_to x z _ _ H7.out.2 H7.out.1 _ (by omega) (by omega) (by omega) (by omega)).mono ?_
    rintro e w' ⟨rfl, rfl⟩
    go_wp2_with fail
    refine (add_to (x * y) (x * z) _ _ H8.out.2 H8.out.1 _ (by omega) (by omega) (by omega) (by omega)).mono ?_
    rintro e w' ⟨rfl, rfl⟩
    go_wp2
    go_ret
    exact ⟨rfl, Grown.refl _⟩

set_option linter.unusedVariables false
set_option maxRecDepth 100000 in
theorem calcOrder_lifted (os : Os) (started : os.Started) (H : Type) (enc : TypeId × Value → H) :
    ReturnsInHanded {} Tryd.checked os 8 .any (fun w args => (Rows.calcOrderSpec.pre enc Tryd.prog Tryd.f8 [] false w args ∧ laidMetH Tryd.prog laid1 w) ∧ sizedMet enc Tryd.prog Tryd.f8 (OpenSpec.ofChange Rows.calcOrderSpec) false w args)
      (Rows.calcOrderSpec.post enc Tryd.prog Tryd.f8 false true false false) := by
  refine returnsInHanded_of_change_and (C := Tryd.checked) (X := fun w _ => laidMetH Tryd.prog laid1 w) (fun _ _ _ hh h => h.of_heap hh) own started (by kernel_rfl) Tryd.func8
    (ChangeSpec.witness_shaped (enc := enc) (C := Tryd.checked) (os := os) (X := fun w _ => laidMetH Tryd.prog laid1 w) false (World.doorLaid Tryd.prog 400 os) #[.int .i32 0, .int .i32 0, .int .i32 0] 8 rfl (World.shaped_of_RefB (by kernel_rfl) (by kernel_rfl)) (by kernel_rfl) (by kernel_rfl) (by kernel_rfl) (door_met os _)) ?_
  intro W base args ds gs before hval0 hW _ _ hL _
  have hval : ∀ (j : Nat) t v, Tryd.f8.params[j]? = some t → args[j]? = some v → Value.okWide Tryd.prog W .any base t v := hval0
  have hW' := hW
  obtain ⟨p, q, hA0, hV, rfl, hfz, hnd⟩ := hW
  have hA : DataW.TrodAll enc Tryd.prog W 0 (fun _ => true) true Tryd.f8.params.toList args.toList ds p := hA0
  rw [Tryd.params8] at hA hval
  obtain ⟨v0, vs0, d0, ds0, p0, q0, hargs, rfl, rfl, h0, r0⟩ := trodAll_cons hA
  obtain ⟨v1, vs1, d1, ds1, p1, q1, rfl, rfl, rfl, h1, r1⟩ := trodAll_cons r0
  obtain ⟨v2, vs2, d2, ds2, p2, q2, rfl, rfl, rfl, h2, r2⟩ := trodAll_cons r1
  obtain ⟨rfl, rfl, rfl⟩ := trodAll_nil r2
  obtain rfl : args = #[v0, v1, v2] := by cases args; simp_all
  obtain ⟨rfl, rfl⟩ := trodVars_none hV
  obtain ⟨a0, rfl, rfl, rfl, w0⟩ := open_int Tryd.underlying21 (hval 0 21 v0 rfl rfl) h0
  obtain ⟨a1, rfl, rfl, rfl, w1⟩ := open_int Tryd.underlying21 (hval 1 21 v1 rfl rfl) h1
  obtain ⟨a2, rfl, rfl, rfl, w2⟩ := open_int Tryd.underlying21 (hval 2 21 v2 rfl rfl) h2
  clear hA0 hval0
  simp only [List.append_nil] at hW'
  have hT := tab_of_laid hL
  refine (calcOrder_walk a0 (bounds_i32 w0).1 (bounds_i32 w0).2 a1 (bounds_i32 w1).1 (bounds_i32 w1).2 a2 (bounds_i32 w2).1 (bounds_i32 w2).2 W hT).mono fun e W' ⟨he, hg⟩ => ?_
  subst he
  exact ⟨_, rfl, post_of_same (pa := []) (pv := []) hW' (fun _ _ _ => (trodAll_cons_mk (shut_bool Tryd.underlying4 _) trodAll_mk0)) (fun sp _ => (trodAll_cons_mk (shut_int Tryd.underlying21 w0) (trodAll_cons_mk (shut_int Tryd.underlying21 w1) (trodAll_cons_mk (shut_int Tryd.underlying21 w2) trodAll_mk0)))) (fun _ _ => rfl) rfl
    (hg.frame _) hg.2.1 (ok_one (by kernel_rfl) rfl (okWide_bool_mk Tryd.underlying4 _))⟩

theorem calcOrder_row : Rows.CalcOrderSaid :=
  OpenClaim.holds_of_wide 8 Tryd.f8 rfl rfl rfl rfl rfl rfl rfl ⟨rfl, rfl, rfl, rfl, rfl⟩ rfl rfl rfl rfl rfl (by kernel_rfl) Tryd.func8 (by kernel_rfl)
    (of_decide_eq_true (by kernel_rfl)) (by unfold Func.isWrapper; first | (rw [if_pos (by decide +kernel)]; kernel_rfl) | (rw [if_neg (by decide +kernel)]; exact ⟨rfl, rfl⟩))
    (fun os started H enc _ => calcOrder_lifted os started H enc)

theorem calcOrder_holds : Rows.CalcOrderCardSaid :=
  Claim7.holds_tied_plain_at .later [] [.data] true (true, "acffdefef437e78adee8462911a6cd1cffdc6a3285f915a7e64319b1f8b6fc81") false
    calcOrder_row (fun _ h => by cases h) (by kernel_rfl) (fun _ h => by cases h) calcOrder_row_tie rfl ⟨rfl, rfl⟩ (by kernel_rfl) rfl
    (fun f fn hf hfn => by
      obtain rfl : f = 8 := Option.some.inj ((show Tryd.prog.funcNamed "hodman/hodmanlaw1.CalcOrder" = some 8 by kernel_rfl).symm.trans hf) |>.symm
      obtain rfl : fn = Tryd.f8 := (Option.some.inj (Tryd.func8.symm.trans hfn)).symm
      exact ⟨by kernel_rfl, fun j t ht => by
        rw [Tryd.params8] at ht
        have hm : t ∈ [21, 21, 21] := by simpa using Array.mem_of_getElem? ht
        have hall : ([21, 21, 21].all fun u => !Tryd.prog.wantsStandIn u) = true := by kernel_rfl
        exact (show Tryd.prog.wantsStandIn t = false by simpa using List.all_eq_true.1 hall t hm)⟩)
    (by kernel_rfl)
#print axioms calcOrder_holds
end Go.Proofs.YtmjnnccfigbkmaaDoor
