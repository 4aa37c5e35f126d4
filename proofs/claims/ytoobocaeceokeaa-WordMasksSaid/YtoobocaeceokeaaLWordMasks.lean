/- Proved here: hodmanlaw3.WordMasks returns true at every three numbers, in any memory: pieces side by side that Mask tells have no bit in common and are one piece, as many bits of one are set as fit, and the lowest is where it begins. No condition. -/
import Derived.Test.YtoobocaeceokeaaLawC
import Derived.RowKit3
namespace Go.Proofs.Ytoobocaeceokeaa
open Go.ChangeShapes Go.WideShapes Go.ChangeAt Go.RowKit

theorem or_spelt (a b : Nat) (ha : a < 18446744073709551616) (hb : b < 18446744073709551616) : bits .or .u64 (a : Int) (b : Int) = ((a ||| b : Nat) : Int) := u64_or_nat a b ha hb
theorem masks_ones (x y : Nat) : ((onesV (maskN x y) : Nat) : Int) = max 0 (min (y : Int) (64 - x)) := by rw [ones_mask]; omega

theorem maskV_at (x y : Int) (hx : 0 ≤ x) (hy : 0 ≤ y) : maskV x y = maskN x.toNat y.toNat := by unfold maskV; rw [if_neg (by omega)]

set_option maxRecDepth 100000 in
set_option maxHeartbeats 2000000 in
theorem wordMasks_walk (i : Int) (hi : 0 ≤ i) (hi' : i ≤ 255) (a : Int) (ha : 0 ≤ a) (ha' : a ≤ 255) (b : Int) (hb : 0 ≤ b) (hb' : b ≤ 255) (w : World) :
    Calls Try.prog 5 #[.int .u8 i, .int .u8 a, .int .u8 b] w fun e w' => e = .returned (.bool true) ∧ Grown w w' := by
  have x1 : 0 ≤ i % 80 := by omega
  have x2 : i % 80 < 80 := by omega
  have y1 : 0 ≤ a % 80 := by omega
  have y2 : a % 80 < 80 := by omega
  have z1 : 0 ≤ b % 80 := by omega
  have z2 : b % 80 < 80 := by omega
  have M1 := hide (maskV_at (i % 80) (a % 80) x1 y1)
  have M2 := hide (maskV_at (i % 80 + a % 80) (b % 80) (by omega) z1)
  have M3 := hide (maskV_at (i % 80) (a % 80 + b % 80) x1 (by omega))
  have eA : maskN (i % 80).toNat (a % 80).toNat &&& maskN (i % 80 + a % 80).toNat (b % 80).toNat = 0 := by
    rw [Int.toNat_add x1 y1]; exact masks_apart _ _ _
  have eO : maskN (i % 80).toNat (a % 80).toNat ||| maskN (i % 80 + a % 80).toNat (b % 80).toNat = maskN (i % 80).toNat (a % 80 + b % 80).toNat := by
    rw [Int.toNat_add x1 y1, Int.toNat_add y1 z1]; exact masks_join _ _ _
  have hA : bits .and .u64 ((maskN (i % 80).toNat (a % 80).toNat : Nat) : Int) ((maskN (i % 80 + a % 80).toNat (b % 80).toNat : Nat) : Int) = 0 := by
    rw [and_spelt _ _ (maskN_lt _ _) (maskN_lt _ _), eA]; rfl
  have hO : bits .or .u64 ((maskN (i % 80).toNat (a % 80).toNat : Nat) : Int) ((maskN (i % 80 + a % 80).toNat (b % 80).toNat : Nat) : Int) = ((maskN (i % 80).toNat (a % 80 + b % 80).toNat : Nat) : Int) := by
    rw [or_spelt _ _ (maskN_lt _ _) (maskN_lt _ _), eO]
  have N1 := hide (maskN_lt (i % 80).toNat (a % 80).toNat)
  have O := hide (show ((onesV (maskN (i % 80).toNat (a % 80).toNat) : Nat) : Int) = max 0 (min (a % 80) (64 - i % 80)) by rw [masks_ones]; omega)
  have L := hide (show maskN (i % 80).toNat (a % 80).toNat = 0 ∨ ((lowOneV (maskN (i % 80).toNat (a % 80).toNat) : Nat) : Int) = i % 80 by
    rcases low_mask (i % 80).toNat (a % 80).toNat with h | h
    · exact .inl h
    · right; rw [h]; omega)
  clear eA eO
  generalize maskN (i % 80).toNat (a % 80).toNat = m1 at *
  generalize maskN (i % 80 + a % 80).toNat (b % 80).toNat = m2 at *
  generalize maskN (i % 80).toNat (a % 80 + b % 80).toNat = m3 at *
  by_cases h0 : m1 = 0
  · subst h0
    go_enter Try.func5, Try.ntmps5
    go_wp2_with fail
    refine (begun3_true _).mono ?_
    rintro e w' ⟨rfl, rfl⟩
    go_wp2_with fail
    refine (mask_to _ _ _ M1.out _ (by omega) (by omega) (by omega) (by omega)).mono ?_
    rintro e w' ⟨rfl, rfl⟩
    go_wp2_with fail
    refine (mask_to _ _ _ M2.out _ (by omega) (by omega) (by omega) (by omega)).mono ?_
    rintro e w' ⟨rfl, rfl⟩
    go_wp2_with fail
    refine (mask_to _ _ _ M2.out _ (by omega) (by omega) (by omega) (by omega)).mono ?_
    rintro e w' ⟨rfl, rfl⟩
    go_wp2_with fail
    refine (mask_to _ _ _ M3.out _ (by omega) (by omega) (by omega) (by omega)).mono ?_
    rintro e w' ⟨rfl, rfl⟩
    go_wp2_with fail
    refine (ones_to _ _ _ rfl N1.out O.out _).mono ?_
    rintro e w' ⟨rfl, rfl⟩
    go_wp2
    go_ret
    exact ⟨rfl, Grown.refl _⟩
  · have L2 := hide (L.out.resolve_left h0)
    have z0 : (((m1 : Nat) : Int) == 0) = false := by rw [beq_eq_false_iff_ne]; omega
    clear h0
    go_enter Try.func5, Try.ntmps5
    go_wp2_with fail
    refine (begun3_true _).mono ?_
    rintro e w' ⟨rfl, rfl⟩
    go_wp2_with fail
    refine (mask_to _ _ _ M1.out _ (by omega) (by omega) (by omega) (by omega)).mono ?_
    rintro e w' ⟨rfl, rfl⟩
    go_wp2_with fail
    refine (mask_to _ _ _ M2.out _ (by omega) (by omega) (by omega) (by omega)).mono ?_
    rintro e w' ⟨rfl, rfl⟩
    go_wp2_with fail
    refine (mask_to _ _ _ M2.out _ (by omega) (by omega) (by omega) (by omega)).mono ?_
    rintro e w' ⟨rfl, rfl⟩
    go_wp2_with fail
    refine (mask_to _ _ _ M3.out _ (by omega) (by omega) (by omega) (by omega)).mono ?_
    rintro e w' ⟨rfl, rfl⟩
    go_wp2_with fail
    refine (ones_to _ _ _ rfl N1.out O.out _).mono ?_
    rintro e w' ⟨rfl, rfl⟩
    go_wp2_with fail
    refine (low_to _ _ _ rfl N1.out L2.out _).mono ?_
    rintro e w' ⟨rfl, rfl⟩
    go_wp2
    go_ret
    exact ⟨rfl, Grown.refl _⟩

set_option linter.unusedVariables false
set_option maxRecDepth 100000 in
theorem wordMasks_lifted (os : Os) (started : os.Started) (H : Type) (enc : TypeId × Value → H) :
    ReturnsInHanded {} Try.checked os 5 .any (Rows.wordMasksSpec.pre6 enc Try.prog Try.f5 Rows.wordMasksRow.domain false) (Rows.wordMasksSpec.post enc Try.prog Try.f5 false true false false) := by
  refine returnsInHanded_of_change (C := Try.checked) own started (by kernel_rfl) Try.func5
    (ChangeSpec.witness6 (enc := enc) (C := Try.checked) false ⟨#[], #[.int .u8 0, .int .u8 0, .int .u8 0], []⟩ 8 (by kernel_rfl) (by kernel_rfl) (by kernel_rfl) (by kernel_rfl)) ?_
  intro W base args ds gs before hval0 hW hcnd _
  have hval : ∀ (j : Nat) t v, Try.f5.params[j]? = some t → args[j]? = some v → Value.okWide Try.prog W .any base t v := hval0
  have hW' := hW
  obtain ⟨p, q, hA0, hV, rfl, hfz, hnd⟩ := hW
  have hA : DataW.TrodAll enc Try.prog W 0 (fun _ => true) true Try.f5.params.toList args.toList ds p := hA0
  rw [Try.params5] at hA hval
  obtain ⟨v0, vs0, d0, ds0, p0, q0, hargs, rfl, rfl, h0, r0⟩ := trodAll_cons hA
  obtain ⟨v1, vs1, d1, ds1, p1, q1, rfl, rfl, rfl, h1, r1⟩ := trodAll_cons r0
  obtain ⟨v2, vs2, d2, ds2, p2, q2, rfl, rfl, rfl, h2, r2⟩ := trodAll_cons r1
  obtain ⟨rfl, rfl, rfl⟩ := trodAll_nil r2
  obtain rfl : args = #[v0, v1, v2] := by cases args; simp_all
  obtain ⟨rfl, rfl⟩ := trodVars_none hV
  obtain ⟨a0, rfl, rfl, rfl, w0⟩ := open_int Try.underlying5 (hval 0 5 v0 rfl rfl) h0
  obtain ⟨a1, rfl, rfl, rfl, w1⟩ := open_int Try.underlying5 (hval 1 5 v1 rfl rfl) h1
  obtain ⟨a2, rfl, rfl, rfl, w2⟩ := open_int Try.underlying5 (hval 2 5 v2 rfl rfl) h2
  clear hA0 hval0
  simp only [List.append_nil] at hW'
  refine (wordMasks_walk a0 (bounds_u8 w0).1 (bounds_u8 w0).2 a1 (bounds_u8 w1).1 (bounds_u8 w1).2 a2 (bounds_u8 w2).1 (bounds_u8 w2).2 W).mono fun e W' ⟨he, hg⟩ => ?_
  subst he
  exact ⟨_, rfl, post_of_same (pa := []) (pv := []) hW' (fun _ _ _ => (trodAll_cons_mk (shut_bool Try.underlying4 _) trodAll_mk0)) (fun sp _ => (trodAll_cons_mk (shut_int Try.underlying5 w0) (trodAll_cons_mk (shut_int Try.underlying5 w1) (trodAll_cons_mk (shut_int Try.underlying5 w2) trodAll_mk0)))) (fun _ _ => rfl) rfl
    (hg.frame _) hg.2.1 (ok_one (by kernel_rfl) rfl (okWide_bool_mk Try.underlying4 _))⟩

theorem wordMasks_row : Rows.WordMasksSaid :=
  OpenClaim.holds_of_wide 5 Try.f5 rfl rfl rfl rfl rfl rfl rfl ⟨rfl, rfl, rfl, rfl, rfl⟩ rfl rfl rfl rfl rfl (by kernel_rfl) Try.func5 (by kernel_rfl)
    (of_decide_eq_true (by kernel_rfl)) (by unfold Func.isWrapper; first | (rw [if_pos (by decide +kernel)]; kernel_rfl) | (rw [if_neg (by decide +kernel)]; exact ⟨rfl, rfl⟩))
    (fun os started H enc _ => wordMasks_lifted os started H enc)

theorem wordMasks_holds : Rows.WordMasksSaid := wordMasks_row
#print axioms wordMasks_holds
end Go.Proofs.Ytoobocaeceokeaa
