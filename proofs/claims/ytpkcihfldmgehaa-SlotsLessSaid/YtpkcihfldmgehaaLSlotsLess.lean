/- Proved here: hodmanlaw9.SlotsLess returns true at every bytes, in any memory: where a great place is free the small ones in it are, so the lowest small one is not above it. No condition. -/
import Derived.Test.YtpkcihfldmgehaaSlotsLaw
import Derived.Test.YtpkcihfldmgehaaSlotsMore
import Derived.Test.YtpkcihfldmgehaaUsedSlots
import Derived.Test.YtpkcihfldmgehaaOpen
namespace Go.Proofs.Ytpkcihfldmgehaa
open Go.ChangeShapes Go.WideShapes Go.ChangeAt Go.RowKit

theorem used_to (a : Option Addr) (len cap : Nat) (zs : List Int) (x y : Int) (N c : Nat) (hx : x = N) (hy : y = c) (hc : Cls N c) (w : World) (h : ∃ W, IsRow .u8 W a len cap zs ∧ Fresh W w) :
    Calls Try.prog 8 #[.slice a len cap, .int .i64 x, .int .i64 y] w fun e w' => ∃ u k p, e = .returned (.agg #[.slice u c k]) ∧ SlotsAt w' (.agg #[.slice u c k]) N c p ∧ Fresh w w' := by
  subst hx hy
  refine (used_any a len cap zs N c hc w h).mono ?_
  rintro e w' ⟨v, p, rfl, s, f⟩
  obtain ⟨_, u, k, rfl, _⟩ := id s
  exact ⟨u, k, p, rfl, s, f⟩
set_option maxRecDepth 100000 in
set_option maxHeartbeats 1000000 in
theorem slotsLess_walk0 (a : Option Addr) (len cap : Nat) (zs : List Int) (w : World) (hrow : IsRow .u8 w a len cap zs) :
    Calls Try.prog 6 #[.slice a len cap] w fun e w' => e = .returned (.bool true) ∧ Fresh w w' := by
  by_cases h20 : len ≤ 20
  · have l0 : (len : Int) ≤ 20 := by omega
    have CC := hide (show Cls 256 6 by unfold Cls; decide)
    have RW := hide hrow
    clear hrow h20
    go_enter Try.func6, Try.ntmps6
    go_wp2_with fail
    refine (begun9_true _).mono ?_
    rintro e w1 ⟨rfl, k1⟩
    have K1 := hide k1
    clear k1
    go_wp2_with fail
    refine (used_to a len cap zs 256 6 256 6 rfl rfl CC.out w1 ⟨w, RW.out, K1.out⟩).mono ?_
    rintro e w2 ⟨ua, uc, p, rfl, s2, f2⟩
    obtain ⟨w3, S, hw3, hS, v3, f3⟩ := sv_new s2
    have V3 := hide v3
    have F3 := hide (K1.out.trans (f2.trans f3))
    have HW3 := hide hw3
    have HS := hide hS
    clear s2 f2 v3 f3 hw3 hS K1
    go_wp2
    rw [← HW3.out, ← HS.out]
    go_loopw [4] (fun i wr => ∃ k : Nat, 1 ≤ k ∧ k ≤ 6 ∧ i = .int .i64 (k : Int) ∧ Fresh w3 wr) (fun i _ => (6 - intOf i).toNat)
    case atStart => exact ⟨1, Nat.le_refl _, by decide, rfl, Fresh.refl _⟩
    case round =>
      obtain ⟨k, hk1, hk6, rfl, hf⟩ := hrel
      have VR := hide (V3.out.fresh hf)
      have FR := hide hf
      have s0 := VR.out.cell
      have k0 : (1 : Int) ≤ (k : Int) := by omega
      clear hf
      by_cases g : k < 6
      · have g' : (k : Int) < 6 := by omega
        obtain ⟨j, hj⟩ : ∃ j, k = j + 1 := ⟨k - 1, by omega⟩
        have i3 : (k : Int) - 1 = (j : Int) := by omega
        rcases low_cases (N := 256) p g with ⟨i, e1, h2, _, _⟩ | ⟨e1, _⟩
        · obtain ⟨l, e2, l1, l2⟩ := low_less CC.out (show j + 1 < 6 by omega) (by rw [← hj]; exact e1)
          have E1 := hide e1
          have E2 := hide e2
          have d1 : (l : Int) ≤ 2 * (i : Int) := by omega
          have d2 : (i : Int) ≤ 65536 := by omega
          have d0 : (0 : Int) ≤ (i : Int) := by omega
          clear h2 l1 l2 e1 e2 hj
          go_wp2_with fail
          refine (low_some _ 256 6 p k (i : Int) i E1.out rfl _ VR.out.2).mono ?_
          rintro e w4 ⟨rfl, f4⟩
          have V4 := hide (VR.out.fresh f4)
          have F4 := hide (FR.out.trans f4)
          clear s0 f4
          have s0 := V4.out.cell
          go_wp2_with fail
          refine (low_some _ 256 6 p j (l : Int) l E2.out rfl _ V4.out.2).mono ?_
          rintro e w5 ⟨rfl, f5⟩
          have F5 := hide (F4.out.trans f5)
          clear s0 f5 V4 VR F4
          go_wp2
          go_roundw
          case rel => exact ⟨k + 1, by omega, by omega, by go_num, F5.out⟩
          case measure => simp [intOf]; omega
        · have E1 := hide e1
          clear e1 hj
          go_wp2_with fail
          refine (low_no _ 256 6 p k E1.out _ VR.out.2).mono ?_
          rintro e w4 ⟨rfl, f4⟩
          have V4 := hide (VR.out.fresh f4)
          have F4 := hide (FR.out.trans f4)
          clear s0 f4
          have s0 := V4.out.cell
          have LJ := hide (low_any _ 256 6 p (j : Int) w4 V4.out.2)
          unfold foundE at LJ
          generalize lowS 256 6 p (j : Int) = r at LJ
          go_wp2_with fail
          refine LJ.out.mono ?_
          rintro e w5 ⟨rfl, f5⟩
          have F5 := hide (F4.out.trans f5)
          clear s0 f5 V4 VR F4 LJ
          go_wp2
          go_roundw
          case rel => exact ⟨k + 1, by omega, by omega, by go_num, F5.out⟩
          case measure => simp [intOf]; omega
      · obtain rfl : k = 6 := by omega
        go_wp2_with fail
        refine (smay_true _ 256 6 p _ VR.out.2).mono ?_
        rintro e w4 ⟨rfl, f4⟩
        have F4 := hide (F3.out.trans (FR.out.trans f4))
        clear s0 f4
        go_wp2
        go_ret
        exact ⟨rfl, F4.out⟩
  · have l0 : (20 : Int) < (len : Int) := by omega
    clear hrow h20
    go_enter Try.func6, Try.ntmps6
    go_wp2_with fail
    refine (begun9_true _).mono ?_
    rintro e w1 ⟨rfl, k1⟩
    have K1 := hide k1
    clear k1
    go_wp2
    go_ret
    exact ⟨rfl, K1.out⟩
set_option linter.unusedVariables false
set_option maxRecDepth 100000 in
theorem slotsLess_lifted (os : Os) (started : os.Started) (H : Type) (enc : TypeId × Value → H) :
    ReturnsInHanded {} Try.checked os 6 .any (Rows.slotsLessSpec.pre6 enc Try.prog Try.f6 Rows.slotsLessRow.domain false) (Rows.slotsLessSpec.post enc Try.prog Try.f6 false true false false) := by
  refine returnsInHanded_of_change (C := Try.checked) own started (by kernel_rfl) Try.func6
    (ChangeSpec.witness6 (enc := enc) (C := Try.checked) false ⟨#[], #[.slice none 0 0], []⟩ 8 (by kernel_rfl) (by kernel_rfl) (by kernel_rfl) (by kernel_rfl)) ?_
  intro W base args ds gs before hval0 hW hcnd _
  have hval : ∀ (j : Nat) t v, Try.f6.params[j]? = some t → args[j]? = some v → Value.okWide Try.prog W .any base t v := hval0
  have hW' := hW
  obtain ⟨p, q, hA0, hV, rfl, hfz, hnd⟩ := hW
  have hA : DataW.TrodAll enc Try.prog W 0 (fun _ => true) true Try.f6.params.toList args.toList ds p := hA0
  rw [Try.params6] at hA hval
  obtain ⟨v0, vs0, d0, ds0, p0, q0, hargs, rfl, rfl, h0, r0⟩ := trodAll_cons hA
  obtain ⟨rfl, rfl, rfl⟩ := trodAll_nil r0
  obtain rfl : args = #[v0] := by cases args; simp_all
  obtain ⟨rfl, rfl⟩ := trodVars_none hV
  have lt0 : ∀ x ∈ p0, x.block < W.heap.size := by obtain ⟨m, hm⟩ := h0; exact DataW.trod_lt m _ _ _ hm
  obtain ⟨a0, len0, cap0, rfl⟩ := okWide_slice Try.underlying22 (hval 0 22 v0 rfl rfl)
  obtain ⟨z0, w0⟩ := isRow_of Try.underlying22 Try.underlying5 (by kernel_rfl) h0
  clear hA0 hval0
  refine (slotsLess_walk0 a0 len0 cap0 z0 W w0).mono fun e W' ⟨he, hg⟩ => ?_
  subst he
  exact ⟨_, rfl, _, _, _, [], _, [], hW', trodAll_mk1 (shut_bool Try.underlying4 _), (trodAll_cons_mk (Below.trod laidOut (by kernel_rfl) (of_decide_eq_true (by kernel_rfl)) h0 hg lt0) trodAll_mk0), rfl, hg.frame _, fun h => by cases h⟩

theorem slotsLess_row : Rows.SlotsLessSaid :=
  OpenClaim.holds_of_wide 6 Try.f6 rfl rfl rfl rfl rfl rfl rfl ⟨rfl, rfl, rfl, rfl, rfl⟩ rfl rfl rfl rfl rfl (by kernel_rfl) Try.func6 (by kernel_rfl)
    (of_decide_eq_true (by kernel_rfl)) (by unfold Func.isWrapper; first | (rw [if_pos (by decide +kernel)]; kernel_rfl) | (rw [if_neg (by decide +kernel)]; exact ⟨rfl, rfl⟩))
    (fun os started H enc _ => slotsLess_lifted os started H enc)

theorem slotsLess_holds : Rows.SlotsLessSaid := slotsLess_row
#print axioms slotsLess_holds
end Go.Proofs.Ytpkcihfldmgehaa
