/- Proved here: hodmanlaw3.WordAll returns true at every 64 bits and every two numbers, in any memory: what the program's package word answers is what the document's own answers are, bit by bit. No condition. -/
import Derived.Test.YtoobocaeceokeaaLawC
import Derived.Test.YtoobocaeceokeaaRef3
import Derived.RowKit3
namespace Go.Proofs.Ytoobocaeceokeaa
open Go.ChangeShapes Go.WideShapes Go.ChangeAt Go.RowKit

/-- one of five words -/
def pick5 (a b c d e : Nat) : Nat → Nat
  | 0 => a
  | 1 => b
  | 2 => c
  | 3 => d
  | _ => e
theorem pick5_lt {a b c d e m : Nat} (ha : a < m) (hb : b < m) (hc : c < m) (hd : d < m) (he : e < m) (k : Nat) : pick5 a b c d e k < m := by
  unfold pick5
  split <;> assumption
abbrev row5 (w : World) (a b c d e : Nat) : World := w.alloc (.cells #[.int .u64 (a : Nat), .int .u64 (b : Nat), .int .u64 (c : Nat), .int .u64 (d : Nat), .int .u64 (e : Nat)] 22)
theorem row5_at (w : World) (a b c d e : Nat) (k : Nat) (hk : k < 5) : (row5 w a b c d e).cell? ⟨w.heap.size, k, none⟩ = some (.int .u64 (pick5 a b c d e k : Nat)) := by
  match k, hk with
  | 0, _ => simp [row5, pick5]
  | 1, _ => simp [row5, pick5]
  | 2, _ => simp [row5, pick5]
  | 3, _ => simp [row5, pick5]
  | 4, _ => simp [row5, pick5]
theorem wrap_some (z : Int) : ∃ v : Nat, IntKind.u64.wrap z = (v : Int) ∧ v < 18446744073709551616 :=
  ⟨(IntKind.u64.wrap z).toNat, by rw [IntKind.wrap_u64]; omega, by rw [IntKind.wrap_u64]; omega⟩
theorem and_some (u : Nat) (hu : u < 18446744073709551616) : ∃ v : Nat, bits .and .u64 (u : Int) 255 = (v : Int) ∧ v < 18446744073709551616 :=
  ⟨u &&& 255, and_spelt u 255 hu (by decide), Nat.lt_of_le_of_lt Nat.and_le_left hu⟩
theorem xor_some (u : Nat) (hu : u < 18446744073709551616) : ∃ v : Nat, bits .xor .u64 IntKind.u64.max (u : Int) = (v : Int) ∧ v < 18446744073709551616 :=
  ⟨notV u, xor_spelt u hu, notV_lt u⟩
theorem div_some (u : Nat) (hu : u < 18446744073709551616) : ∃ v : Nat, (u : Int) / 1152921504606846976 = (v : Int) ∧ v < 18446744073709551616 :=
  ⟨((u : Int) / 1152921504606846976).toNat, by omega, by omega⟩

theorem and_in (a b : Int) : -9223372036854775808 ≤ bits .and .i64 a b ∧ bits .and .i64 a b ≤ 9223372036854775807 := by
  show -9223372036854775808 ≤ IntKind.i64.wrap _ ∧ IntKind.i64.wrap _ ≤ 9223372036854775807
  rw [IntKind.wrap_i64]; omega

set_option maxRecDepth 100000 in
set_option maxHeartbeats 4000000 in
theorem wordAll_walk (x : Int) (hx : 0 ≤ x) (hx' : x ≤ 18446744073709551615) (i : Int) (hi : -9223372036854775808 ≤ i) (hi' : i ≤ 9223372036854775807) (n : Int) (hn : -9223372036854775808 ≤ n) (hn' : n ≤ 9223372036854775807) (w : World) :
    Calls Try.prog 3 #[.int .u64 x, .int .i64 i, .int .i64 n] w fun e w' => e = .returned (.bool true) ∧ Grown w w' := by
  obtain ⟨u, rfl⟩ : ∃ u : Nat, x = u := ⟨x.toNat, by omega⟩
  have hu : u < 18446744073709551616 := by omega
  have hs : IntKind.u64.signed = false := rfl
  obtain ⟨v1, hN, b1⟩ := xor_some u hu
  obtain ⟨v2, hA, b2⟩ := and_some u hu
  obtain ⟨v3, hS, b3⟩ := wrap_some ((u : Int) * 1152921504606846976)
  obtain ⟨v4, hD, b4⟩ := div_some u hu
  have PL := hide (fun k => pick5_lt hu b1 b2 b3 b4 k)
  clear hu hx hx' b1 b2 b3 b4
  go_enter Try.func3, Try.ntmps3
  go_wp2_with fail
  refine (begun3_true _).mono ?_
  rintro e w' ⟨rfl, rfl⟩
  go_wp2
  generalize hW : World.alloc w' _ = W
  have HA : Hid (∀ k, k < 5 → W.cell? ⟨w'.heap.size, k, none⟩ = some (.int .u64 (pick5 u v1 v2 v3 v4 k : Nat))) := by subst hW; exact row5_at w' u v1 v2 v3 v4
  have HG : Hid (Grown w' W) := by subst hW; exact (Grown.refl w').alloc _ _
  clear hW
  clear hN hA hS hD
  generalize w'.heap.size = z at *
  go_loop [8] (fun j => ∃ k : Nat, k ≤ 5 ∧ j = .int .i64 (k : Int)) (fun j => (5 - intOf j).toNat)
  case atStart => exact ⟨0, by omega, rfl⟩
  case round =>
    obtain ⟨k, hk, rfl⟩ := hrel
    by_cases h : k < 5
    · have hc := HA.out k h
      have V := hide (PL.out k)
      generalize pick5 u v1 v2 v3 v4 k = v at *
      go_wp2_with fail
      refine (low_nat v V.out _).mono ?_
      rintro e w2 ⟨rfl, rfl⟩
      go_wp2_with fail
      refine (rlow_nat v V.out _).mono ?_
      rintro e w2 ⟨rfl, rfl⟩
      go_wp2_with fail
      refine (lowz_nat v V.out _).mono ?_
      rintro e w2 ⟨rfl, rfl⟩
      go_wp2_with fail
      refine (rlowz_nat v V.out _).mono ?_
      rintro e w2 ⟨rfl, rfl⟩
      go_wp2_with fail
      refine (ones_nat v V.out _).mono ?_
      rintro e w2 ⟨rfl, rfl⟩
      go_wp2_with fail
      refine (rones_nat v V.out _).mono ?_
      rintro e w2 ⟨rfl, rfl⟩
      go_wp2_with fail
      refine (nthw_nat v n V.out hn hn' _).mono ?_
      rintro e w2 ⟨rfl, rfl⟩
      go_wp2_with fail
      refine (rnth_nat v n V.out hn hn' _).mono ?_
      rintro e w2 ⟨rfl, rfl⟩
      go_wp2_with fail
      refine (nthw_nat v _ V.out (by omega) (by omega) _).mono ?_
      rintro e w2 ⟨rfl, rfl⟩
      go_wp2_with fail
      refine (rnth_nat v _ V.out (by omega) (by omega) _).mono ?_
      rintro e w2 ⟨rfl, rfl⟩
      go_wp2
      go_round
      case rel => exact ⟨k + 1, by omega, by go_num⟩
      case measure => simp [intOf]; omega
    · go_wp2_with fail
      refine (mask_any i n _ hi hi' hn hn').mono ?_
      rintro e w2 ⟨rfl, rfl⟩
      go_wp2_with fail
      refine (rmask_nat i n _ hi hi' hn hn').mono ?_
      rintro e w2 ⟨rfl, rfl⟩
      go_wp2_with fail
      refine (mask_any _ _ _ (and_in i 63).1 (and_in i 63).2 (and_in n 127).1 (and_in n 127).2).mono ?_
      rintro e w2 ⟨rfl, rfl⟩
      go_wp2_with fail
      refine (rmask_nat _ _ _ (and_in i 63).1 (and_in i 63).2 (and_in n 127).1 (and_in n 127).2).mono ?_
      rintro e w2 ⟨rfl, rfl⟩
      go_wp2
      go_ret
      exact ⟨rfl, HG.out⟩

set_option linter.unusedVariables false
set_option maxRecDepth 100000 in
theorem wordAll_lifted (os : Os) (started : os.Started) (H : Type) (enc : TypeId × Value → H) :
    ReturnsInHanded {} Try.checked os 3 .any (Rows.wordAllSpec.pre6 enc Try.prog Try.f3 Rows.wordAllRow.domain false) (Rows.wordAllSpec.post enc Try.prog Try.f3 false true false false) := by
  refine returnsInHanded_of_change (C := Try.checked) own started (by kernel_rfl) Try.func3
    (ChangeSpec.witness6 (enc := enc) (C := Try.checked) false ⟨#[], #[.int .u64 0, .int .i64 0, .int .i64 0], []⟩ 8 (by kernel_rfl) (by kernel_rfl) (by kernel_rfl) (by kernel_rfl)) ?_
  intro W base args ds gs before hval0 hW hcnd _
  have hval : ∀ (j : Nat) t v, Try.f3.params[j]? = some t → args[j]? = some v → Value.okWide Try.prog W .any base t v := hval0
  have hW' := hW
  obtain ⟨p, q, hA0, hV, rfl, hfz, hnd⟩ := hW
  have hA : DataW.TrodAll enc Try.prog W 0 (fun _ => true) true Try.f3.params.toList args.toList ds p := hA0
  rw [Try.params3] at hA hval
  obtain ⟨v0, vs0, d0, ds0, p0, q0, hargs, rfl, rfl, h0, r0⟩ := trodAll_cons hA
  obtain ⟨v1, vs1, d1, ds1, p1, q1, rfl, rfl, rfl, h1, r1⟩ := trodAll_cons r0
  obtain ⟨v2, vs2, d2, ds2, p2, q2, rfl, rfl, rfl, h2, r2⟩ := trodAll_cons r1
  obtain ⟨rfl, rfl, rfl⟩ := trodAll_nil r2
  obtain rfl : args = #[v0, v1, v2] := by cases args; simp_all
  obtain ⟨rfl, rfl⟩ := trodVars_none hV
  obtain ⟨a0, rfl, rfl, rfl, w0⟩ := open_int Try.underlying22 (hval 0 22 v0 rfl rfl) h0
  obtain ⟨a1, rfl, rfl, rfl, w1⟩ := open_int Try.underlying3 (hval 1 3 v1 rfl rfl) h1
  obtain ⟨a2, rfl, rfl, rfl, w2⟩ := open_int Try.underlying3 (hval 2 3 v2 rfl rfl) h2
  clear hA0 hval0
  simp only [List.append_nil] at hW'
  refine (wordAll_walk a0 (bounds_u64 w0).1 (bounds_u64 w0).2 a1 (bounds_i64 w1).1 (bounds_i64 w1).2 a2 (bounds_i64 w2).1 (bounds_i64 w2).2 W).mono fun e W' ⟨he, hg⟩ => ?_
  subst he
  exact ⟨_, rfl, post_of_same (pa := []) (pv := []) hW' (fun _ _ _ => (trodAll_cons_mk (shut_bool Try.underlying4 _) trodAll_mk0)) (fun sp _ => (trodAll_cons_mk (shut_int Try.underlying22 w0) (trodAll_cons_mk (shut_int Try.underlying3 w1) (trodAll_cons_mk (shut_int Try.underlying3 w2) trodAll_mk0)))) (fun _ _ => rfl) rfl
    (hg.frame _) hg.2.1 (ok_one (by kernel_rfl) rfl (okWide_bool_mk Try.underlying4 _))⟩

theorem wordAll_row : Rows.WordAllSaid :=
  OpenClaim.holds_of_wide 3 Try.f3 rfl rfl rfl rfl rfl rfl rfl ⟨rfl, rfl, rfl, rfl, rfl⟩ rfl rfl rfl rfl rfl (by kernel_rfl) Try.func3 (by kernel_rfl)
    (of_decide_eq_true (by kernel_rfl)) (by unfold Func.isWrapper; first | (rw [if_pos (by decide +kernel)]; kernel_rfl) | (rw [if_neg (by decide +kernel)]; exact ⟨rfl, rfl⟩))
    (fun os started H enc _ => wordAll_lifted os started H enc)

theorem wordAll_holds : Rows.WordAllSaid := wordAll_row
#print axioms wordAll_holds
end Go.Proofs.Ytoobocaeceokeaa
