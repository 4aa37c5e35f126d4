/- Proved here: hodmanlaw15.MemMoves, called with any slice of bytes and any three bytes, returns true: that what is moved is whole, also where it lies over itself, and all else stays follows from promise P15.1. No condition. -/
import Derived.Test.YtbbfbelhdjloeaaMemLaw
import Derived.Test.YtbbfbelhdjloeaaMemBackM
import Derived.Test.YtbbfbelhdjloeaaByteOpen
import Derived.BigQuiet
namespace Go.Proofs.Ytbbfbelhdjloeaa
open Go.ChangeShapes Go.WideShapes Go.ChangeAt Go.RowKit

theorem far_not {L F T : Nat} : mayMove L (F : Int) (T : Int) ((L : Int) + 1) = false := by
  have : hasN L (F : Int) ((L : Int) + 1) = false := hasN_not.2 (by omega)
  unfold mayMove
  rw [this]; rfl

set_option maxRecDepth 100000 in
set_option maxHeartbeats 1000000 in
theorem memMoves_walk0 (a : Option Addr) (len cap : Nat) (zs : List Int) (x : Int) (x0 : 0 ≤ x) (x1 : x ≤ 255) (y : Int) (y0 : 0 ≤ y) (y1 : y ≤ 255) (z : Int) (z0 : 0 ≤ z) (z1 : z ≤ 255) (w : World) (hR : IsRow .u8 w a len cap zs) :
    Calls Try.prog 4 #[.slice a len cap, .int .u8 x, .int .u8 y, .int .u8 z] w fun e w' => e = .returned (.bool true) ∧ Fresh w w' := by
  have l0 : (0 : Int) ≤ (len : Int) := by omega
  have lm := row_le hR
  by_cases g : 50 < len
  · have g' : (50 : Int) < (len : Int) := by omega
    clear hR
    go_enter Try.func4, Try.ntmps4
    go_wp2_with fail
    refine (begun15_true _).mono ?_
    rintro e w1 ⟨rfl, k1⟩
    have K1 := hide k1
    clear k1
    go_wp2
    go_ret
    exact ⟨rfl, K1.out⟩
  have g' : (len : Int) ≤ 50 := by omega
  by_cases g0 : len = 0
  · subst g0
    clear hR g
    go_enter Try.func4, Try.ntmps4
    go_wp2_with fail
    refine (begun15_true _).mono ?_
    rintro e w1 ⟨rfl, k1⟩
    have K1 := hide k1
    clear k1
    go_wp2
    go_ret
    exact ⟨rfl, K1.out⟩
  obtain ⟨l, hl, hb, -⟩ := bytesIn_of hR (by omega)
  have HB := hide hb
  have HL := hide hl
  have p0 : (1 : Int) ≤ (len : Int) := by omega
  have n3 : (len : Int) ≠ 0 := by omega
  have n4 : (len : Int) ≠ -1 := by omega
  have h5 : decide ((50 : Int) < (len : Int)) = false := decide_eq_false (by omega)
  have h6 : ((len : Int) == 0) = false := by rw [beq_eq_false_iff_ne]; omega
  clear hR hb hl g g0
  obtain ⟨F, hF, F1⟩ : ∃ F : Nat, x % (len : Int) = (F : Int) ∧ F < len := by
    have h1 := Int.emod_nonneg x (show (len : Int) ≠ 0 by omega)
    have h2 := Int.emod_lt_of_pos x (show 0 < (len : Int) by omega)
    exact ⟨(x % (len : Int)).toNat, by omega, by omega⟩
  obtain ⟨T, hT, T1⟩ : ∃ T : Nat, y % (len : Int) = (T : Int) ∧ T < len := by
    have h1 := Int.emod_nonneg y (show (len : Int) ≠ 0 by omega)
    have h2 := Int.emod_lt_of_pos y (show 0 < (len : Int) by omega)
    exact ⟨(y % (len : Int)).toNat, by omega, by omega⟩
  obtain ⟨M, hM, M1, M2, M3⟩ : ∃ M : Nat, max (F : Int) (T : Int) = (M : Int) ∧ F ≤ M ∧ T ≤ M ∧ M < len := ⟨max F T, by omega, by omega, by omega, by omega⟩
  obtain ⟨K, hK, K0⟩ : ∃ K : Nat, z % ((len : Int) - (M : Int) + 1) = (K : Int) ∧ M + K ≤ len := by
    have h1 := Int.emod_nonneg z (show (len : Int) - (M : Int) + 1 ≠ 0 by omega)
    have h2 := Int.emod_lt_of_pos z (show 0 < (len : Int) - (M : Int) + 1 by omega)
    exact ⟨(z % ((len : Int) - (M : Int) + 1)).toNat, by omega, by omega⟩
  obtain ⟨D, hD⟩ : ∃ D, T + K = D := ⟨_, rfl⟩
  have HD := hide hD
  have FK := hide (show F + K ≤ len by omega)
  have TK := hide (show T + K ≤ len by omega)
  have hd : (T : Int) + (K : Int) = (D : Int) := by omega
  have f0 : (0 : Int) ≤ (F : Int) := by omega
  have f1 : (F : Int) ≤ 49 := by omega
  have t0 : (0 : Int) ≤ (T : Int) := by omega
  have t1 : (T : Int) ≤ 49 := by omega
  have m0 : (0 : Int) ≤ (M : Int) := by omega
  have m1 : (M : Int) ≤ (len : Int) := by omega
  have k0 : (0 : Int) ≤ (K : Int) := by omega
  have k1 : (K : Int) ≤ 50 := by omega
  have c1 : IntKind.i64.wrap (F : Int) = (F : Int) := by rw [IntKind.wrap_i64]; omega
  have c2 : IntKind.i64.wrap (T : Int) = (T : Int) := by rw [IntKind.wrap_i64]; omega
  clear hD F1 T1 M1 M2 M3 K0
  go_enter Try.func4, Try.ntmps4
  go_wp2_with fail
  refine (begun15_true _).mono ?_
  rintro e w1 ⟨rfl, k1⟩
  have K1 := hide k1
  have B1 := hide (HB.out.fresh k1)
  clear k1 HB
  go_wp2_with fail
  go_quiet (fail)
  generalize hwa : World.drewN w1 _ = w2
  have F2 := hide (show Fresh w1 w2 from hwa ▸ Fresh.drewN w1 _)
  have K2 := hide (K1.out.trans F2.out)
  have B2 := hide (B1.out.fresh F2.out)
  clear hwa F2 K1 B1
  go_wp2_with fail
  refine (ymove_to _ _ _ F T K true w2 B2.out (by omega) (by omega) (by omega) (by omega) (by omega) (by omega) rfl (by unfold mayMove; rw [HL.out, hasN_nat FK.out, hasN_nat TK.out]; rfl)).mono ?_
  rintro e w3 ⟨u, rfl, b3, f3⟩
  simp only [hF, hT, hK]
  have XL := hide (show (moveV l F T K).length = len by rw [moveV_length, HL.out])
  have XG := hide (fun i (hi : i < len) => show (moveV l F T K).getD i 0 = if T ≤ i ∧ i < D then l.getD (F + (i - T)) 0 else l.getD i 0 by
    have := @move_get l F T K i (by rw [HL.out]; exact FK.out) (by rw [HL.out]; exact TK.out) (by rw [HL.out]; exact hi)
    rw [HD.out] at this
    exact this)
  obtain ⟨au, cu, rfl, -, -⟩ := b3.shape
  have B3 := hide b3
  have K3 := hide (K2.out.trans f3)
  have C3 := hide (B2.out.fresh f3)
  rw [XL.out] at B3 ⊢
  generalize moveV l F T K = X at B3 XL XG
  clear b3 f3 K2 B2 hF hT hK hM c1 c2 x0 x1 y0 y1 z0 z1
  go_wp2
  go_loopw [14] (fun i wr => ∃ k : Nat, k ≤ len ∧ i = .int .i64 (k : Int) ∧ wr = w3) (fun i _ => (len - intOf i).toNat)
  case atStart => exact ⟨0, Nat.zero_le _, rfl, rfl⟩
  case round =>
    obtain ⟨k, hk, rfl, hw⟩ := hrel
    subst hw
    have k0' : (0 : Int) ≤ (k : Int) := by omega
    by_cases gk : k < len
    · have gk' : (k : Int) < (len : Int) := by omega
      have GK := hide (show k + 1 ≤ len by omega)
      obtain ⟨b2, o2, rfl, d2⟩ := B3.out.cell k (by rw [XL.out]; exact gk)
      rw [XG.out k gk] at d2
      obtain ⟨b1, o1, rfl, d1⟩ := C3.out.cell k (by rw [HL.out]; exact gk)
      by_cases ga : T ≤ k
      · have ga' : (T : Int) ≤ (k : Int) := by omega
        by_cases gb : k < D
        · have gb' : (k : Int) < (D : Int) := by omega
          rw [if_pos ⟨ga, gb⟩] at d2
          obtain ⟨J, hJ⟩ : ∃ J, F + (k - T) = J := ⟨_, rfl⟩
          have hj : (k : Int) - (T : Int) + (F : Int) = (J : Int) := by omega
          have jl : J < len := by have := FK.out; have := HD.out; omega
          have jl' : (J : Int) < (len : Int) := by omega
          have j0 : (0 : Int) ≤ (J : Int) := by omega
          obtain ⟨b4, o4, e4, d4⟩ := C3.out.cell J (by rw [HL.out]; exact jl)
          cases e4
          rw [hJ] at d2
          generalize l.getD J 0 = v at d2 d4
          generalize l.getD k 0 = v1 at d1
          clear gk hk ga gb hJ jl
          go_wp2
          go_roundw
          case rel => exact ⟨k + 1, GK.out, by go_num, trivial⟩
          case measure => simp [intOf]; omega
        · have gb' : (D : Int) ≤ (k : Int) := by omega
          have gb2 : decide ((k : Int) < (D : Int)) = false := decide_eq_false (by omega)
          rw [if_neg (by omega)] at d2
          generalize l.getD k 0 = v1 at d1 d2
          clear gk hk ga gb
          go_wp2
          go_roundw
          case rel => exact ⟨k + 1, GK.out, by go_num, trivial⟩
          case measure => simp [intOf]; omega
      · have ga' : (k : Int) < (T : Int) := by omega
        have ga2 : decide ((T : Int) ≤ (k : Int)) = false := decide_eq_false (by omega)
        rw [if_neg (by omega)] at d2
        generalize l.getD k 0 = v1 at d1 d2
        clear gk hk ga
        go_wp2
        go_roundw
        case rel => exact ⟨k + 1, GK.out, by go_num, trivial⟩
        case measure => simp [intOf]; omega
    · obtain rfl : k = len := by omega
      go_wp2_with fail
      refine (ymove_to _ _ _ F T ((k : Int) + 1) false _ C3.out (by omega) (by omega) (by omega) (by omega) (by omega) (by omega) rfl (by rw [HL.out]; exact far_not)).mono ?_
      rintro e w4 ⟨u4, rfl, b4, f4⟩
      have K4 := hide (K3.out.trans f4)
      clear b4 f4
      go_wp2
      go_ret
      exact ⟨rfl, K4.out⟩

set_option linter.unusedVariables false
set_option maxRecDepth 100000 in
theorem memMoves_lifted (os : Os) (started : os.Started) (H : Type) (enc : TypeId × Value → H) :
    ReturnsInHanded {} Try.checked os 4 .any (Rows.memMovesSpec.pre6 enc Try.prog Try.f4 Rows.memMovesRow.domain false) (Rows.memMovesSpec.post enc Try.prog Try.f4 false true false false) := by
  refine returnsInHanded_of_change (C := Try.checked) own started (by kernel_rfl) Try.func4
    (ChangeSpec.witness6 (enc := enc) (C := Try.checked) false ⟨#[], #[.slice none 0 0, .int .u8 0, .int .u8 0, .int .u8 0], []⟩ 8 (by kernel_rfl) (by kernel_rfl) (by kernel_rfl) (by kernel_rfl)) ?_
  intro W base args ds gs before hval0 hW hcnd _
  have hval : ∀ (j : Nat) t v, Try.f4.params[j]? = some t → args[j]? = some v → Value.okWide Try.prog W .any base t v := hval0
  have hW' := hW
  obtain ⟨p, q, hA0, hV, rfl, hfz, hnd⟩ := hW
  have hA : DataW.TrodAll enc Try.prog W 0 (fun _ => true) true Try.f4.params.toList args.toList ds p := hA0
  rw [Try.params4] at hA hval
  obtain ⟨v0, vs0, d0, ds0, p0, q0, hargs, rfl, rfl, h0, r0⟩ := trodAll_cons hA
  obtain ⟨v1, vs1, d1, ds1, p1, q1, rfl, rfl, rfl, h1, r1⟩ := trodAll_cons r0
  obtain ⟨v2, vs2, d2, ds2, p2, q2, rfl, rfl, rfl, h2, r2⟩ := trodAll_cons r1
  obtain ⟨v3, vs3, d3, ds3, p3, q3, rfl, rfl, rfl, h3, r3⟩ := trodAll_cons r2
  obtain ⟨rfl, rfl, rfl⟩ := trodAll_nil r3
  obtain rfl : args = #[v0, v1, v2, v3] := by cases args; simp_all
  obtain ⟨rfl, rfl⟩ := trodVars_none hV
  have lt0 : ∀ x ∈ p0, x.block < W.heap.size := by obtain ⟨m, hm⟩ := h0; exact DataW.trod_lt m _ _ _ hm
  have lt1 : ∀ x ∈ p1, x.block < W.heap.size := by obtain ⟨m, hm⟩ := h1; exact DataW.trod_lt m _ _ _ hm
  have lt2 : ∀ x ∈ p2, x.block < W.heap.size := by obtain ⟨m, hm⟩ := h2; exact DataW.trod_lt m _ _ _ hm
  have lt3 : ∀ x ∈ p3, x.block < W.heap.size := by obtain ⟨m, hm⟩ := h3; exact DataW.trod_lt m _ _ _ hm
  obtain ⟨a0, len0, cap0, rfl⟩ := okWide_slice Try.underlying22 (hval 0 22 v0 rfl rfl)
  obtain ⟨z0, w0⟩ := isRow_of Try.underlying22 Try.underlying5 (by kernel_rfl) h0
  obtain ⟨a1, rfl, rfl, rfl, w1⟩ := open_int Try.underlying5 (hval 1 5 v1 rfl rfl) h1
  obtain ⟨a2, rfl, rfl, rfl, w2⟩ := open_int Try.underlying5 (hval 2 5 v2 rfl rfl) h2
  obtain ⟨a3, rfl, rfl, rfl, w3⟩ := open_int Try.underlying5 (hval 3 5 v3 rfl rfl) h3
  clear hA0 hval0
  refine (memMoves_walk0 a0 len0 cap0 z0 a1 (bounds_u8 w1).1 (bounds_u8 w1).2 a2 (bounds_u8 w2).1 (bounds_u8 w2).2 a3 (bounds_u8 w3).1 (bounds_u8 w3).2 W w0).mono fun e W' ⟨he, hg⟩ => ?_
  subst he
  exact ⟨_, rfl, _, _, _, [], _, [], hW', trodAll_mk1 (shut_bool Try.underlying4 _), (trodAll_cons_mk (Below.trod laidOut (by kernel_rfl) (of_decide_eq_true (by kernel_rfl)) h0 hg lt0) (trodAll_cons_mk (Below.trod laidOut (by kernel_rfl) (of_decide_eq_true (by kernel_rfl)) h1 hg lt1) (trodAll_cons_mk (Below.trod laidOut (by kernel_rfl) (of_decide_eq_true (by kernel_rfl)) h2 hg lt2) (trodAll_cons_mk (Below.trod laidOut (by kernel_rfl) (of_decide_eq_true (by kernel_rfl)) h3 hg lt3) trodAll_mk0)))), rfl, hg.frame _, fun h => by cases h⟩

theorem memMoves_row : Rows.MemMovesSaid :=
  OpenClaim.holds_of_wide 4 Try.f4 rfl rfl rfl rfl rfl rfl rfl ⟨rfl, rfl, rfl, rfl, rfl⟩ rfl rfl rfl rfl rfl (by kernel_rfl) Try.func4 (by kernel_rfl)
    (of_decide_eq_true (by kernel_rfl)) (by unfold Func.isWrapper; first | (rw [if_pos (by decide +kernel)]; kernel_rfl) | (rw [if_neg (by decide +kernel)]; exact ⟨rfl, rfl⟩))
    (fun os started H enc _ => memMoves_lifted os started H enc)

theorem memMoves_holds : Rows.MemMovesSaid := memMoves_row
#print axioms memMoves_holds
end Go.Proofs.Ytbbfbelhdjloeaa
