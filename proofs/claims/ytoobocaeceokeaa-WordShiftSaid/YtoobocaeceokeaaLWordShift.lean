/- Proved here: hodmanlaw3.WordShift returns true at every 64 bits and every shift, in any memory: what is shifted has its lowest one so much higher, or none, and as many set as do not fall out. No condition. -/
import Derived.Test.YtoobocaeceokeaaLawC
import Derived.RowKit3
namespace Go.Proofs.Ytoobocaeceokeaa
open Go.ChangeShapes Go.WideShapes Go.ChangeAt Go.RowKit

theorem shl_spelt (u n : Nat) : IntKind.u64.wrap ((u : Int) * 2 ^ n) = ((shlV u n : Nat) : Int) := by
  rw [cast_pow2, ← Int.natCast_mul, IntKind.wrap_u64]
  unfold shlV
  rw [Nat.shiftLeft_eq]
  omega
theorem out_spelt (u n : Nat) (hu : u < 18446744073709551616) : bits .andNot .u64 (u : Int) ((maskN 0 n : Nat) : Int) = ((u &&& notV (maskN 0 n) : Nat) : Int) := u64_andNot_nat u _ hu (maskN_lt _ _)
theorem out_bits (u n k : Nat) (hk : k < 64) : (u &&& notV (maskN 0 (64 - n))).testBit k = (u.testBit k && !decide (k < 64 - n)) := by
  rw [Nat.testBit_and, testBit_notV (maskN_lt _ _) k hk, testBit_maskN]
  simp [hk]

set_option maxRecDepth 100000 in
set_option maxHeartbeats 2000000 in
theorem wordShift_walk (x : Int) (hx : 0 ≤ x) (hx' : x ≤ 18446744073709551615) (a : Int) (ha : 0 ≤ a) (ha' : a ≤ 255) (w : World) :
    Calls Try.prog 7 #[.int .u64 x, .int .u8 a] w fun e w' => e = .returned (.bool true) ∧ Grown w w' := by
  obtain ⟨u, rfl⟩ : ∃ u : Nat, x = u := ⟨x.toNat, by omega⟩
  have hu : u < 18446744073709551616 := by omega
  have n1 : 0 ≤ a % 64 := by omega
  have n2 : a % 64 < 64 := by omega
  obtain ⟨n, hn⟩ : ∃ n : Nat, a % 64 = n := ⟨(a % 64).toNat, by omega⟩
  have hn64 : n ≤ 64 := by omega
  obtain ⟨c1, c2⟩ := shift_counts u (u &&& notV (maskN 0 (64 - n))) n hn64 (fun k hk => out_bits u n k hk)
  have T := hide (show (a % 64).toNat = n by omega)
  have SH := hide (shl_spelt u n)
  have SL := hide (show shlV u n < 18446744073709551616 from Nat.mod_lt _ (by decide))
  have MV := hide (show maskV 0 (64 - a % 64) = maskN 0 (64 - n) by
    have := maskV_nat 0 (64 - n)
    rw [← this]; congr 1; omega)
  have OS := hide (out_spelt u (64 - n) hu)
  have OL := hide (show u &&& notV (maskN 0 (64 - n)) < 18446744073709551616 from Nat.lt_of_le_of_lt Nat.and_le_left hu)
  have l1 := ones_le u
  have l2 := ones_le (u &&& notV (maskN 0 (64 - n)))
  have l3 := low_le u
  have l4 := ones_le (shlV u n)
  have T2 := hide (show maskV 0 (64 - (n : Int)) = maskN 0 (64 - n) by rw [← hn]; exact MV.out)
  generalize shlV u n = v at *
  generalize maskN 0 (64 - n) = M at *
  generalize u &&& notV M = q at *
  have U := hide hu
  have Z := hide (show ((onesV v : Nat) : Int) = ((onesV u : Nat) : Int) - ((onesV q : Nat) : Int) by omega)
  have C := hide c2
  have f1 : ((onesV u : Nat) : Int) ≤ 64 := by omega
  have f2 : ((onesV q : Nat) : Int) ≤ 64 := by omega
  have f3 : ((lowOneV u : Nat) : Int) ≤ 64 := by omega
  have g1 : (0 : Int) ≤ ((onesV u : Nat) : Int) := by omega
  have g2 : (0 : Int) ≤ ((onesV q : Nat) : Int) := by omega
  have g3 : (0 : Int) ≤ ((lowOneV u : Nat) : Int) := by omega
  have n3 : (0 : Int) ≤ (n : Int) := by omega
  have n4 : (n : Int) ≤ 63 := by omega
  clear c1 c2 l1 l2 l3 l4 hu hn64
  rcases C.out with ⟨h1, h2, h3⟩ | ⟨h1, h2⟩
  · have k1 : (64 : Int) ≤ ((lowOneV u : Nat) : Int) + (n : Int) := by omega
    have LV := hide (show ((lowOneV v : Nat) : Int) = 64 by omega)
    have Q := hide (show ((onesV q : Nat) : Int) = ((onesV u : Nat) : Int) by omega)
    have z2 : (((onesV u : Nat) : Int) - ((onesV u : Nat) : Int) == ((onesV u : Nat) : Int) - ((onesV u : Nat) : Int)) = true := by simp
    have ZZ := hide (show ((onesV v : Nat) : Int) = ((onesV u : Nat) : Int) - ((onesV u : Nat) : Int) by rw [Z.out, Q.out])
    clear h1 h2 h3 z2
    generalize hL : ((lowOneV u : Nat) : Int) = l at *
    generalize hO : ((onesV u : Nat) : Int) = o at *
    have L := hide hL
    have O := hide hO
    clear hL hO
    go_enter Try.func7, Try.ntmps7
    go_wp2_with fail
    refine (begun3_true _).mono ?_
    rintro e w' ⟨rfl, rfl⟩
    go_wp2_with fail
    refine (low_to _ u _ rfl U.out L.out _).mono ?_
    rintro e w' ⟨rfl, rfl⟩
    go_wp2_with fail
    refine (low_to _ v _ SH.out SL.out LV.out _).mono ?_
    rintro e w' ⟨rfl, rfl⟩
    go_wp2_with fail
    refine (mask_to _ _ _ T2.out _ (by omega) (by omega) (by omega) (by omega)).mono ?_
    rintro e w' ⟨rfl, rfl⟩
    go_wp2_with fail
    refine (ones_to _ q _ OS.out OL.out Q.out _).mono ?_
    rintro e w' ⟨rfl, rfl⟩
    go_wp2_with fail
    refine (ones_to _ v _ SH.out SL.out ZZ.out _).mono ?_
    rintro e w' ⟨rfl, rfl⟩
    go_wp2_with fail
    refine (ones_to _ u _ rfl U.out O.out _).mono ?_
    rintro e w' ⟨rfl, rfl⟩
    go_wp2_with fail
    refine (ones_to _ u _ rfl U.out O.out _).mono ?_
    rintro e w' ⟨rfl, rfl⟩
    go_wp2
    go_ret
    exact ⟨rfl, Grown.refl _⟩
  · have k1 : ((lowOneV u : Nat) : Int) + (n : Int) < 64 := by omega
    have LV := hide (show ((lowOneV v : Nat) : Int) = ((lowOneV u : Nat) : Int) + (n : Int) by omega)
    clear h1 h2
    generalize hL : ((lowOneV u : Nat) : Int) = l at *
    generalize hO : ((onesV u : Nat) : Int) = o at *
    generalize hQ : ((onesV q : Nat) : Int) = c at *
    have L := hide hL
    have O := hide hO
    have Q := hide hQ
    clear hL hO hQ
    go_enter Try.func7, Try.ntmps7
    go_wp2_with fail
    refine (begun3_true _).mono ?_
    rintro e w' ⟨rfl, rfl⟩
    go_wp2_with fail
    refine (low_to _ u _ rfl U.out L.out _).mono ?_
    rintro e w' ⟨rfl, rfl⟩
    go_wp2_with fail
    refine (low_to _ v _ SH.out SL.out LV.out _).mono ?_
    rintro e w' ⟨rfl, rfl⟩
    go_wp2_with fail
    refine (mask_to _ _ _ T2.out _ (by omega) (by omega) (by omega) (by omega)).mono ?_
    rintro e w' ⟨rfl, rfl⟩
    go_wp2_with fail
    refine (ones_to _ q _ OS.out OL.out Q.out _).mono ?_
    rintro e w' ⟨rfl, rfl⟩
    go_wp2_with fail
    refine (ones_to _ v _ SH.out SL.out Z.out _).mono ?_
    rintro e w' ⟨rfl, rfl⟩
    go_wp2_with fail
    refine (ones_to _ u _ rfl U.out O.out _).mono ?_
    rintro e w' ⟨rfl, rfl⟩
    go_wp2
    go_ret
    exact ⟨rfl, Grown.refl _⟩

set_option linter.unusedVariables false
set_option maxRecDepth 100000 in
theorem wordShift_lifted (os : Os) (started : os.Started) (H : Type) (enc : TypeId × Value → H) :
    ReturnsInHanded {} Try.checked os 7 .any (Rows.wordShiftSpec.pre6 enc Try.prog Try.f7 Rows.wordShiftRow.domain false) (Rows.wordShiftSpec.post enc Try.prog Try.f7 false true false false) := by
  refine returnsInHanded_of_change (C := Try.checked) own started (by kernel_rfl) Try.func7
    (ChangeSpec.witness6 (enc := enc) (C := Try.checked) false ⟨#[], #[.int .u64 0, .int .u8 0], []⟩ 8 (by kernel_rfl) (by kernel_rfl) (by kernel_rfl) (by kernel_rfl)) ?_
  intro W base args ds gs before hval0 hW hcnd _
  have hval : ∀ (j : Nat) t v, Try.f7.params[j]? = some t → args[j]? = some v → Value.okWide Try.prog W .any base t v := hval0
  have hW' := hW
  obtain ⟨p, q, hA0, hV, rfl, hfz, hnd⟩ := hW
  have hA : DataW.TrodAll enc Try.prog W 0 (fun _ => true) true Try.f7.params.toList args.toList ds p := hA0
  rw [Try.params7] at hA hval
  obtain ⟨v0, vs0, d0, ds0, p0, q0, hargs, rfl, rfl, h0, r0⟩ := trodAll_cons hA
  obtain ⟨v1, vs1, d1, ds1, p1, q1, rfl, rfl, rfl, h1, r1⟩ := trodAll_cons r0
  obtain ⟨rfl, rfl, rfl⟩ := trodAll_nil r1
  obtain rfl : args = #[v0, v1] := by cases args; simp_all
  obtain ⟨rfl, rfl⟩ := trodVars_none hV
  obtain ⟨a0, rfl, rfl, rfl, w0⟩ := open_int Try.underlying22 (hval 0 22 v0 rfl rfl) h0
  obtain ⟨a1, rfl, rfl, rfl, w1⟩ := open_int Try.underlying5 (hval 1 5 v1 rfl rfl) h1
  clear hA0 hval0
  simp only [List.append_nil] at hW'
  refine (wordShift_walk a0 (bounds_u64 w0).1 (bounds_u64 w0).2 a1 (bounds_u8 w1).1 (bounds_u8 w1).2 W).mono fun e W' ⟨he, hg⟩ => ?_
  subst he
  exact ⟨_, rfl, post_of_same (pa := []) (pv := []) hW' (fun _ _ _ => (trodAll_cons_mk (shut_bool Try.underlying4 _) trodAll_mk0)) (fun sp _ => (trodAll_cons_mk (shut_int Try.underlying22 w0) (trodAll_cons_mk (shut_int Try.underlying5 w1) trodAll_mk0))) (fun _ _ => rfl) rfl
    (hg.frame _) hg.2.1 (ok_one (by kernel_rfl) rfl (okWide_bool_mk Try.underlying4 _))⟩

theorem wordShift_row : Rows.WordShiftSaid :=
  OpenClaim.holds_of_wide 7 Try.f7 rfl rfl rfl rfl rfl rfl rfl ⟨rfl, rfl, rfl, rfl, rfl⟩ rfl rfl rfl rfl rfl (by kernel_rfl) Try.func7 (by kernel_rfl)
    (of_decide_eq_true (by kernel_rfl)) (by unfold Func.isWrapper; first | (rw [if_pos (by decide +kernel)]; kernel_rfl) | (rw [if_neg (by decide +kernel)]; exact ⟨rfl, rfl⟩))
    (fun os started H enc _ => wordShift_lifted os started H enc)

theorem wordShift_holds : Rows.WordShiftSaid := wordShift_row
#print axioms wordShift_holds
end Go.Proofs.Ytoobocaeceokeaa
