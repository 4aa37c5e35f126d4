/- What the program's package commit makes of pages, 64 of them as a word (below, between, word), as contracts. -/
import Derived.Test.YtcnfmkhjhffebaaDoorComMath
import Derived.Test.YtcnfmkhjhffebaaDoorBoolMem
namespace Go.Proofs.YtcnfmkhjhffebaaDoor
open Go.RowKit

theorem belowI_lt (i : Int) : belowI i < 18446744073709551616 := wordB_64 _
theorem below_any (i : Int) (w : World) (h1 : -9223372036854775808 ≤ i) (h2 : i ≤ 9223372036854775807) :
    Calls Tryd.prog 23 #[.int .i64 i] w fun e w' => e = .returned (.int .u64 ((belowI i : Nat) : Int)) ∧ w' = w := by
  have m0 : 0 ≤ max i 0 := by omega
  have E := hide (below_spelt i)
  go_enter Tryd.func23, Tryd.ntmps23
  go_wp2
  go_ret
  exact ⟨ret_int E.out, rfl⟩
theorem between_any (f t : Int) (u : Nat) (hu : belowI t &&& notV (belowI f) = u) (w : World) (f1 : -9223372036854775808 ≤ f) (f2 : f ≤ 9223372036854775807) (t1 : -9223372036854775808 ≤ t) (t2 : t ≤ 9223372036854775807) :
    Calls Tryd.prog 18 #[.int .i64 f, .int .i64 t] w fun e w' => e = .returned (.int .u64 (u : Int)) ∧ w' = w := by
  have C1 := hide (below_any t w t1 t2)
  have C2 := hide (below_any f w f1 f2)
  have E : bits .andNot .u64 ((belowI t : Nat) : Int) ((belowI f : Nat) : Int) = (u : Int) := by rw [andNot_spelt _ _ (belowI_lt _) (belowI_lt _), hu]
  clear hu
  go_enter Tryd.func18, Tryd.ntmps18
  go_wp2_with fail
  refine (C1.out).mono ?_
  rintro e w' ⟨rfl, rfl⟩
  go_wp2_with fail
  refine (C2.out).mono ?_
  rintro e w' ⟨rfl, rfl⟩
  go_wp2
  go_ret
  exact ⟨rfl, rfl⟩
/-- one bit more of a word -/
theorem word_more (q : Nat → Bool) (k : Nat) (hk : k < 64) (hq : q k = true) : bits .or .u64 ((wordB q k : Nat) : Int) (IntKind.u64.wrap (2 ^ k)) = ((wordB q (k + 1) : Nat) : Int) := by
  have h1 : 2 ^ k ≤ 2 ^ 63 := Nat.pow_le_pow_right (by decide) (by omega)
  have h2 := Nat.two_pow_pos k
  have h3 := wordB_lt q k
  have e : IntKind.u64.wrap (2 ^ k) = ((2 ^ k : Nat) : Int) := by rw [cast_pow2, IntKind.wrap_u64]; omega
  rw [e, or_spelt _ _ (by omega) (by omega), wordB_succ, hq, if_pos rfl]
theorem word_less (q : Nat → Bool) (k : Nat) (hq : q k = false) : wordB q k = wordB q (k + 1) := by
  rw [wordB_succ, hq]; simp
set_option maxHeartbeats 400000 in
theorem word_any (v : Value) (l : List Bool) (A : Nat) (w : World) (h : BoolsAt w v l) (hl : l.length ≤ 1048576) (hA : A ≤ 1099511627776) :
    Calls Tryd.prog 17 #[v, .int .i64 (A : Int)] w fun e w' => e = .returned (.int .u64 ((wordB (fun j => l.getD (A + j) false) 64 : Nat) : Int)) ∧ w' = w := by
  obtain ⟨a, cap, rfl, hc⟩ := h
  have HC := hide hc
  have l0 : (0 : Int) ≤ (l.length : Int) := by omega
  have l1 : (l.length : Int) ≤ 1048576 := by omega
  have a0 : (0 : Int) ≤ (A : Int) := by omega
  have a1 : (A : Int) ≤ 1099511627776 := by omega
  have NO := hide (fun i (hi : l.length ≤ i) => show l.getD i false = false by rw [List.getD_eq_getElem?_getD, List.getElem?_eq_none hi]; rfl)
  obtain ⟨q, hq⟩ : ∃ q : Nat → Bool, (fun j => l.getD (A + j) false) = q := ⟨_, rfl⟩
  have HQ := hide (fun j => show l.getD (A + j) false = q j by rw [← hq])
  rw [hq]
  clear hc hl hA hq
  go_enter Tryd.func17, Tryd.ntmps17
  go_wp2
  go_loop [5, 6] (fun u i => ∃ k : Nat, k ≤ 64 ∧ i = .int .i64 ((A + k : Nat) : Int) ∧ u = .int .u64 ((wordB q k : Nat) : Int)) (fun _ i => ((A : Int) + 64 - intOf i).toNat)
  case atStart => exact ⟨0, by omega, rfl, rfl⟩
  case round =>
    obtain ⟨k, hk, rfl, rfl⟩ := hrel
    obtain ⟨I, hI⟩ : ∃ I : Nat, A + k = I := ⟨_, rfl⟩
    rw [hI]
    have i0 : (0 : Int) ≤ (I : Int) := by omega
    have i1 : (I : Int) ≤ 1099511627840 := by omega
    have ik : (I : Int) - (A : Int) = (k : Int) := by omega
    have k0 : (0 : Int) ≤ (k : Int) := by omega
    by_cases g : k < 64 ∧ I < l.length
    · have g1 : (I : Int) < min ((A : Int) + 64) (l.length : Int) := by omega
      have g2 : (k : Int) < 64 := by omega
      obtain ⟨b, o, rfl, cl⟩ := HC.out I g.2
      have QK := HQ.out k
      rw [hI] at QK
      have UL := hide (show wordB q k < 18446744073709551616 from Nat.lt_of_lt_of_le (wordB_lt q k) (by have := Nat.pow_le_pow_right (show 0 < 2 by decide) (show k ≤ 64 by omega); omega))
      have WM := hide (word_more q k g.1)
      have WL := hide (word_less q k)
      have GK := hide (show k + 1 ≤ 64 by omega)
      have II := hide hI
      clear g hI hk
      cases hb : q k with
      | true =>
        rw [QK, hb] at cl
        have WE := hide (WM.out hb)
        clear hb QK
        go_wp2
        go_round
        case rel => exact ⟨k + 1, GK.out, by have := II.out; go_num, by first | (rw [← WE.out]; done) | (trace_state; sorry)⟩
        case measure => simp [intOf]; omega
      | false =>
        rw [QK, hb] at cl
        have WE := hide (WL.out hb)
        clear hb QK
        go_wp2
        go_round
        case rel => exact ⟨k + 1, GK.out, by have := II.out; go_num, by rw [← WE.out]⟩
        case measure => simp [intOf]; omega
    · have g1 : ¬ ((I : Int) < min ((A : Int) + 64) (l.length : Int)) := by omega
      have WE := hide (show wordB q k = wordB q 64 from wordB_more hk fun j hj hj' => by rw [← HQ.out j]; exact NO.out _ (by omega))
      clear hI g
      go_wp2
      go_ret
      exact ⟨ret_int (by rw [WE.out]), rfl⟩
end Go.Proofs.YtcnfmkhjhffebaaDoor
