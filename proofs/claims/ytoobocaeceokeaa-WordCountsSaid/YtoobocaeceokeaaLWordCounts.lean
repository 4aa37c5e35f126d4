/- Proved here: hodmanlaw3.WordCounts returns true at every 64 bits, in any memory: Nth counts what Ones counts, the n-th is set and has n set ones below it, and beyond the last there is none; the lowest is the first of them, and what is not set is what is left. No condition. -/
import Derived.Test.YtoobocaeceokeaaLawC
import Derived.RowKit3
namespace Go.Proofs.Ytoobocaeceokeaa
open Go.ChangeShapes Go.WideShapes Go.ChangeAt Go.RowKit

set_option maxRecDepth 100000 in
set_option maxHeartbeats 2000000 in
theorem wordCounts_walk (x : Int) (hx : 0 ≤ x) (hx' : x ≤ 18446744073709551615) (w : World) :
    Calls Try.prog 4 #[.int .u64 x] w fun e w' => e = .returned (.bool true) ∧ Grown w w' := by
  obtain ⟨u, rfl⟩ : ∃ u : Nat, x = u := ⟨x.toNat, by omega⟩
  have hu : u < 18446744073709551616 := by omega
  have U := hide hu
  have NT := hide (ones_not hu)
  have hs : IntKind.u64.signed = false := rfl
  have hx : bits .xor .u64 IntKind.u64.max (u : Int) = (notV u : Nat) := xor_spelt u hu
  have l1 := ones_le u
  have l1' : ((onesV u : Nat) : Int) ≤ 64 := by omega
  have l0' : (0 : Int) ≤ ((onesV u : Nat) : Int) := by omega
  clear l1 hu
  generalize hO : ((onesV u : Nat) : Int) = o at *
  have O := hide hO
  clear hO
  go_enter Try.func4, Try.ntmps4
  go_wp2_with fail
  refine (begun3_true _).mono ?_
  rintro e w' ⟨rfl, rfl⟩
  go_wp2_with fail
  refine (ones_to _ u _ rfl U.out O.out _).mono ?_
  rintro e w' ⟨rfl, rfl⟩
  go_wp2
  go_loop [4] (fun i => ∃ k : Nat, k ≤ 66 ∧ i = .int .i64 (k : Int)) (fun i => (66 - intOf i).toNat)
  case atStart => exact ⟨0, by omega, rfl⟩
  case round =>
    obtain ⟨k, hk, rfl⟩ := hrel
    by_cases h : k < 66
    · have hn := nth_none u k
      have hl := nth_le u k
      by_cases hok : onesV u ≤ k
      · have N := hide (show ((nthV u k : Nat) : Int) = 64 by rw [hn.2 hok]; rfl)
        have ho : o ≤ (k : Int) := by have := O.out; omega
        clear hn hl hok
        go_wp2_with fail
        refine (nthw_to _ u _ _ rfl U.out N.out (by omega) (by omega) _).mono ?_
        rintro e w' ⟨rfl, rfl⟩
        go_wp2
        go_round
        case rel => exact ⟨k + 1, by omega, by go_num⟩
        case measure => simp [intOf]; omega
      · have hlt : nthV u k < 64 := by
          rcases Nat.lt_or_ge (nthV u k) 64 with h | h
          · exact h
          · exact absurd (hn.1 (by omega)) hok
        obtain ⟨b1, b2⟩ := nth_some hlt
        have ho : (k : Int) < o := by have := O.out; omega
        have hb := bit_spelt u (nthV u k) U.out
        rw [b1, if_pos rfl] at hb
        have TN := hide (show (((nthV u k : Nat) : Int)).toNat = nthV u k by omega)
        have i1 : (0 : Int) ≤ ((nthV u k : Nat) : Int) := by omega
        have i2 : ((nthV u k : Nat) : Int) < 64 := by omega
        have i3 : (((nthV u k : Nat) : Int) == 64) = false := by rw [beq_eq_false_iff_ne]; omega
        have hb' : bits .and .u64 ((u : Int) / 2 ^ (((nthV u k : Nat) : Int)).toNat) 1 = 1 := by rw [TN.out]; exact hb
        have AS := hide (and_spelt u (maskN 0 (nthV u k)) U.out (maskN_lt _ _))
        have AL := hide (show u &&& maskN 0 (nthV u k) < 18446744073709551616 from Nat.lt_of_le_of_lt Nat.and_le_left U.out)
        have MV := hide (maskV_nat 0 (nthV u k))
        have B2 := hide (show ((onesV (u &&& maskN 0 (nthV u k)) : Nat) : Int) = (k : Int) by rw [b2])
        clear hn hl hok hlt b1 b2 hb
        generalize hI : ((nthV u k : Nat) : Int) = i at *
        have I := hide hI
        clear hI
        go_wp2_with fail
        refine (nthw_to _ u _ _ rfl U.out I.out (by omega) (by omega) _).mono ?_
        rintro e w' ⟨rfl, rfl⟩
        go_wp2_with fail
        refine (mask_to _ _ _ MV.out _ (by omega) (by omega) (by omega) (by omega)).mono ?_
        rintro e w' ⟨rfl, rfl⟩
        go_wp2_with fail
        refine (ones_to _ _ _ AS.out AL.out B2.out _).mono ?_
        rintro e w' ⟨rfl, rfl⟩
        go_wp2
        go_round
        case rel => exact ⟨k + 1, by omega, by go_num⟩
        case measure => simp [intOf]; omega
    · have NZ := hide (show ((nthV u 0 : Nat) : Int) = (lowOneV u : Nat) by rw [nth_zero])
      have hno : o + ((onesV (notV u) : Nat) : Int) = 64 := by have := NT.out; have := O.out; omega
      generalize hP : ((onesV (notV u) : Nat) : Int) = p at *
      have NO := hide hP
      clear hP
      go_wp2_with fail
      refine (nthw_to _ u _ _ rfl U.out NZ.out (by omega) (by omega) _).mono ?_
      rintro e w' ⟨rfl, rfl⟩
      go_wp2_with fail
      refine (low_to _ u _ rfl U.out rfl _).mono ?_
      rintro e w' ⟨rfl, rfl⟩
      go_wp2_with fail
      refine (lowz_to _ u _ rfl U.out rfl _).mono ?_
      rintro e w' ⟨rfl, rfl⟩
      go_wp2_with fail
      refine (low_to _ (notV u) _ rfl (notV_lt u) rfl _).mono ?_
      rintro e w' ⟨rfl, rfl⟩
      go_wp2_with fail
      refine (ones_to _ (notV u) _ rfl (notV_lt u) NO.out _).mono ?_
      rintro e w' ⟨rfl, rfl⟩
      go_wp2
      go_ret
      exact ⟨rfl, Grown.refl _⟩

set_option linter.unusedVariables false
set_option maxRecDepth 100000 in
theorem wordCounts_lifted (os : Os) (started : os.Started) (H : Type) (enc : TypeId × Value → H) :
    ReturnsInHanded {} Try.checked os 4 .any (Rows.wordCountsSpec.pre6 enc Try.prog Try.f4 Rows.wordCountsRow.domain false) (Rows.wordCountsSpec.post enc Try.prog Try.f4 false true false false) := by
  refine returnsInHanded_of_change (C := Try.checked) own started (by kernel_rfl) Try.func4
    (ChangeSpec.witness6 (enc := enc) (C := Try.checked) false ⟨#[], #[.int .u64 0], []⟩ 8 (by kernel_rfl) (by kernel_rfl) (by kernel_rfl) (by kernel_rfl)) ?_
  intro W base args ds gs before hval0 hW hcnd _
  have hval : ∀ (j : Nat) t v, Try.f4.params[j]? = some t → args[j]? = some v → Value.okWide Try.prog W .any base t v := hval0
  have hW' := hW
  obtain ⟨p, q, hA0, hV, rfl, hfz, hnd⟩ := hW
  have hA : DataW.TrodAll enc Try.prog W 0 (fun _ => true) true Try.f4.params.toList args.toList ds p := hA0
  rw [Try.params4] at hA hval
  obtain ⟨v0, vs0, d0, ds0, p0, q0, hargs, rfl, rfl, h0, r0⟩ := trodAll_cons hA
  obtain ⟨rfl, rfl, rfl⟩ := trodAll_nil r0
  obtain rfl : args = #[v0] := by cases args; simp_all
  obtain ⟨rfl, rfl⟩ := trodVars_none hV
  obtain ⟨a0, rfl, rfl, rfl, w0⟩ := open_int Try.underlying22 (hval 0 22 v0 rfl rfl) h0
  clear hA0 hval0
  simp only [List.append_nil] at hW'
  refine (wordCounts_walk a0 (bounds_u64 w0).1 (bounds_u64 w0).2 W).mono fun e W' ⟨he, hg⟩ => ?_
  subst he
  exact ⟨_, rfl, post_of_same (pa := []) (pv := []) hW' (fun _ _ _ => (trodAll_cons_mk (shut_bool Try.underlying4 _) trodAll_mk0)) (fun sp _ => (trodAll_cons_mk (shut_int Try.underlying22 w0) trodAll_mk0)) (fun _ _ => rfl) rfl
    (hg.frame _) hg.2.1 (ok_one (by kernel_rfl) rfl (okWide_bool_mk Try.underlying4 _))⟩

theorem wordCounts_row : Rows.WordCountsSaid :=
  OpenClaim.holds_of_wide 4 Try.f4 rfl rfl rfl rfl rfl rfl rfl ⟨rfl, rfl, rfl, rfl, rfl⟩ rfl rfl rfl rfl rfl (by kernel_rfl) Try.func4 (by kernel_rfl)
    (of_decide_eq_true (by kernel_rfl)) (by unfold Func.isWrapper; first | (rw [if_pos (by decide +kernel)]; kernel_rfl) | (rw [if_neg (by decide +kernel)]; exact ⟨rfl, rfl⟩))
    (fun os started H enc _ => wordCounts_lifted os started H enc)

theorem wordCounts_holds : Rows.WordCountsSaid := wordCounts_row
#print axioms wordCounts_holds
end Go.Proofs.Ytoobocaeceokeaa
