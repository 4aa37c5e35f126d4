/- Proved here: hodmanlaw1.CalcUp returns true at every number, in any memory in which the library's table math/bits.deBruijn64tab lies as its initialiser lays it: what calc.Up tells is a power of two, not below, half of it is below, and calc.Log says which. No condition besides. -/
import Derived.Test.YtmjnnccfigbkmaaDoorLawA
import Derived.Test.YtmjnnccfigbkmaaDoorCards
import Derived.Test.YtmjnnccfigbkmaaDoorTie
import Derived.RowKit3
namespace Go.Proofs.YtmjnnccfigbkmaaDoor
open Go.ChangeShapes Go.WideShapes Go.ChangeAt Go.RowKit

theorem calcUp_walk (v : Int) (hv : -9223372036854775808 ≤ v) (hv' : v ≤ 9223372036854775807) (w : World) (hT : Tab w) :
    Calls Tryd.prog 5 #[.int .i64 v] w fun e w' => e = .returned (.bool true) ∧ Grown w w' := by
  rcases up_cases v with ⟨k, hk, h1, h2, hl, e1, e2⟩ | ⟨e1, e2, h⟩
  · obtain ⟨l1, l2⟩ := log_fits (v := ((2 ^ k : Nat) : Int)) hk rfl
    have hp := pow_62 hk
    have hle := hl.1
    have hhalf : ((2 ^ k : Nat) : Int) = 1 ∨ ((2 ^ k : Nat) : Int) / 2 < v := by
      cases k with
      | zero => exact .inl rfl
      | succ j => have := hl.2 j (by omega); rw [Nat.pow_succ]; right; omega
    have hown : (((2 ^ k : Nat) : Int) = v ∧ logB v = true) ∨ (((2 ^ k : Nat) : Int) ≠ v ∧ logB v = false) := by
      by_cases hc : ((2 ^ k : Nat) : Int) = v
      · exact .inl ⟨hc, hc ▸ l1⟩
      · refine .inr ⟨hc, (log_not hv' fun j hj he => hc ?_).1⟩
        have hs : Least v.toNat j := by rw [he, Int.toNat_natCast]; exact least_self j
        rw [least_unique hl hs, he]
    have hs : wrap64 (2 ^ k) = ((2 ^ k : Nat) : Int) := by rw [← pow_cast]; unfold wrap64; omega
    have hle' : v ≤ ((2 ^ k : Nat) : Int) := by omega
    have hp1 : 1 ≤ ((2 ^ k : Nat) : Int) := by omega
    have hp2 : ((2 ^ k : Nat) : Int) ≤ 4611686018427387904 := by omega
    clear hl hle hp
    generalize ((2 ^ k : Nat) : Int) = p at *
    have hk' : (k : Int) < 63 := by omega
    rcases hhalf with hh | hh <;> rcases hown with ⟨ho, ho'⟩ | ⟨ho, ho'⟩
    · subst hh; subst ho
      go_enter Tryd.func5, Tryd.ntmps5
      go_wp2_with fail
      refine (begun_true _ hT).mono ?_
      rintro e w' ⟨rfl, rfl⟩
      go_wp2_with fail
      refine (up_any 1 _ (by omega) (by omega)).mono ?_
      rintro e w' ⟨rfl, rfl⟩
      go_wp2_with fail
      refine (log_any 1 _ (by omega) (by omega) hT).mono ?_
      rintro e w' ⟨rfl, rfl⟩
      go_wp2_with fail
      refine (log_any 1 _ (by omega) (by omega) hT).mono ?_
      rintro e w' ⟨rfl, rfl⟩
      go_wp2
      go_ret
      exact ⟨rfl, Grown.refl _⟩
    · exfalso; omega
    · subst ho
      by_cases hh1 : p = 1
      · subst hh1
        go_enter Tryd.func5, Tryd.ntmps5
        go_wp2_with fail
        refine (begun_true _ hT).mono ?_
        rintro e w' ⟨rfl, rfl⟩
        go_wp2_with fail
        refine (up_any 1 _ (by omega) (by omega)).mono ?_
        rintro e w' ⟨rfl, rfl⟩
        go_wp2_with fail
        refine (log_any 1 _ (by omega) (by omega) hT).mono ?_
        rintro e w' ⟨rfl, rfl⟩
        go_wp2_with fail
        refine (log_any 1 _ (by omega) (by omega) hT).mono ?_
        rintro e w' ⟨rfl, rfl⟩
        go_wp2
        go_ret
        exact ⟨rfl, Grown.refl _⟩
      · go_enter Tryd.func5, Tryd.ntmps5
        go_wp2_with fail
        refine (begun_true _ hT).mono ?_
        rintro e w' ⟨rfl, rfl⟩
        go_wp2_with fail
        refine (up_any p _ (by omega) (by omega)).mono ?_
        rintro e w' ⟨rfl, rfl⟩
        go_wp2_with fail
        refine (log_any p _ (by omega) (by omega) hT).mono ?_
        rintro e w' ⟨rfl, rfl⟩
        go_wp2_with fail
        refine (log_any p _ (by omega) (by omega) hT).mono ?_
        rintro e w' ⟨rfl, rfl⟩
        go_wp2
        go_ret
        exact ⟨rfl, Grown.refl _⟩
    · by_cases hh1 : p = 1
      · exfalso; omega
      · have hne : (p == v) = false := by simpa using ho
        go_enter Tryd.func5, Tryd.ntmps5
        go_wp2_with fail
        refine (begun_true _ hT).mono ?_
        rintro e w' ⟨rfl, rfl⟩
        go_wp2_with fail
        refine (up_any v _ (by omega) (by omega)).mono ?_
        rintro e w' ⟨rfl, rfl⟩
        go_wp2_with fail
        refine (log_any p _ (by omega) (by omega) hT).mono ?_
        rintro e w' ⟨rfl, rfl⟩
        go_wp2_with fail
        refine (log_any v _ (by omega) (by omega) hT).mono ?_
        rintro e w' ⟨rfl, rfl⟩
        go_wp2
        go_ret
        exact ⟨rfl, Grown.refl _⟩
  · by_cases h1 : v < 1
    · clear h
      go_enter Tryd.func5, Tryd.ntmps5
      go_wp2_with fail
      refine (begun_true _ hT).mono ?_
      rintro e w' ⟨rfl, rfl⟩
      go_wp2_with fail
      refine (up_any v _ (by omega) (by omega)).mono ?_
      rintro e w' ⟨rfl, rfl⟩
      go_wp2
      go_ret
      exact ⟨rfl, Grown.refl _⟩
    · have h2 : 4611686018427387904 < v := by omega
      clear h
      go_enter Tryd.func5, Tryd.ntmps5
      go_wp2_with fail
      refine (begun_true _ hT).mono ?_
      rintro e w' ⟨rfl, rfl⟩
      go_wp2_with fail
      refine (up_any v _ (by omega) (by omega)).mono ?_
      rintro e w' ⟨rfl, rfl⟩
      go_wp2
      go_ret
      exact ⟨rfl, Grown.refl _⟩

set_option linter.unusedVariables false
set_option maxRecDepth 100000 in
theorem calcUp_lifted (os : Os) (started : os.Started) (H : Type) (enc : TypeId × Value → H) :
    ReturnsInHanded {} Tryd.checked os 5 .any (fun w args => (Rows.calcUpSpec.pre enc Tryd.prog Tryd.f5 [] false w args ∧ laidMetH Tryd.prog laid1 w) ∧ sizedMet enc Tryd.prog Tryd.f5 (OpenSpec.ofChange Rows.calcUpSpec) false w args)
      (Rows.calcUpSpec.post enc Tryd.prog Tryd.f5 false true false false) := by
  refine returnsInHanded_of_change_and (C := Tryd.checked) (X := fun w _ => laidMetH Tryd.prog laid1 w) (fun _ _ _ hh h => h.of_heap hh) own started (by kernel_rfl) Tryd.func5
    (ChangeSpec.witness_shaped (enc := enc) (C := Tryd.checked) (os := os) (X := fun w _ => laidMetH Tryd.prog laid1 w) false (World.doorLaid Tryd.prog 400 os) #[.int .i64 0] 8 rfl (World.shaped_of_RefB (by kernel_rfl) (by kernel_rfl)) (by kernel_rfl) (by kernel_rfl) (by kernel_rfl) (door_met os _)) ?_
  intro W base args ds gs before hval0 hW _ _ hL _
  have hval : ∀ (j : Nat) t v, Tryd.f5.params[j]? = some t → args[j]? = some v → Value.okWide Tryd.prog W .any base t v := hval0
  have hW' := hW
  obtain ⟨p, q, hA0, hV, rfl, hfz, hnd⟩ := hW
  have hA : DataW.TrodAll enc Tryd.prog W 0 (fun _ => true) true Tryd.f5.params.toList args.toList ds p := hA0
  rw [Tryd.params5] at hA hval
  obtain ⟨v0, vs0, d0, ds0, p0, q0, hargs, rfl, rfl, h0, r0⟩ := trodAll_cons hA
  obtain ⟨rfl, rfl, rfl⟩ := trodAll_nil r0
  obtain rfl : args = #[v0] := by cases args; simp_all
  obtain ⟨rfl, rfl⟩ := trodVars_none hV
  obtain ⟨a0, rfl, rfl, rfl, w0⟩ := open_int Tryd.underlying3 (hval 0 3 v0 rfl rfl) h0
  clear hA0 hval0
  simp only [List.append_nil] at hW'
  have hT := tab_of_laid hL
  refine (calcUp_walk a0 (bounds_i64 w0).1 (bounds_i64 w0).2 W hT).mono fun e W' ⟨he, hg⟩ => ?_
  subst he
  exact ⟨_, rfl, post_of_same (pa := []) (pv := []) hW' (fun _ _ _ => (trodAll_cons_mk (shut_bool Tryd.underlying4 _) trodAll_mk0)) (fun sp _ => (trodAll_cons_mk (shut_int Tryd.underlying3 w0) trodAll_mk0)) (fun _ _ => rfl) rfl
    (hg.frame _) hg.2.1 (ok_one (by kernel_rfl) rfl (okWide_bool_mk Tryd.underlying4 _))⟩

theorem calcUp_row : Rows.CalcUpSaid :=
  OpenClaim.holds_of_wide 5 Tryd.f5 rfl rfl rfl rfl rfl rfl rfl ⟨rfl, rfl, rfl, rfl, rfl⟩ rfl rfl rfl rfl rfl (by kernel_rfl) Tryd.func5 (by kernel_rfl)
    (of_decide_eq_true (by kernel_rfl)) (by unfold Func.isWrapper; first | (rw [if_pos (by decide +kernel)]; kernel_rfl) | (rw [if_neg (by decide +kernel)]; exact ⟨rfl, rfl⟩))
    (fun os started H enc _ => calcUp_lifted os started H enc)

theorem calcUp_holds : Rows.CalcUpCardSaid :=
  Claim7.holds_tied_plain_at .later [] [.data] true (true, "acffdefef437e78adee8462911a6cd1cffdc6a3285f915a7e64319b1f8b6fc81") false
    calcUp_row (fun _ h => by cases h) (by kernel_rfl) (fun _ h => by cases h) calcUp_row_tie rfl ⟨rfl, rfl⟩ (by kernel_rfl) rfl
    (fun f fn hf hfn => by
      obtain rfl : f = 5 := Option.some.inj ((show Tryd.prog.funcNamed "hodman/hodmanlaw1.CalcUp" = some 5 by kernel_rfl).symm.trans hf) |>.symm
      obtain rfl : fn = Tryd.f5 := (Option.some.inj (Tryd.func5.symm.trans hfn)).symm
      exact ⟨by kernel_rfl, fun j t ht => by
        rw [Tryd.params5] at ht
        have hm : t ∈ [3] := by simpa using Array.mem_of_getElem? ht
        have hall : ([3].all fun u => !Tryd.prog.wantsStandIn u) = true := by kernel_rfl
        exact (show Tryd.prog.wantsStandIn t = false by simpa using List.all_eq_true.1 hall t hm)⟩)
    (by kernel_rfl)
#print axioms calcUp_holds
end Go.Proofs.YtmjnnccfigbkmaaDoor
