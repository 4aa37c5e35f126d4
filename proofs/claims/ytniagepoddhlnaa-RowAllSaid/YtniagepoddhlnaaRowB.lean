/- Count and FirstZero of package row, as contracts. -/
import Derived.Test.YtniagepoddhlnaaRow
namespace Go.Proofs.Ytniagepoddhlnaa
open Go.RowKit

/-- a callee that draws nothing, behind draws -/
theorem quiet_same {P : Program} {f : FuncId} {args : Array Value} {w : World} {m n : Nat} {v : Value}
    (h : Calls P f args (w.drewN (m + n)) fun e w' => e = .returned v ∧ w' = w.drewN (m + n)) : Calls P f args (w.drewN (m + n)) fun e w'' => e = .returned v ∧ ∃ n, w'' = w.drewN (m + n) :=
  h.mono fun _ _ ⟨he, hm⟩ => ⟨he, n, hm⟩

theorem or_spelt (a b : Nat) (ha : a < 18446744073709551616) (hb : b < 18446744073709551616) : bits .or .u64 (a : Int) (b : Int) = ((a ||| b : Nat) : Int) := u64_or_nat a b ha hb

set_option maxHeartbeats 1000000 in
theorem countw_any (v : Value) (ws : List Nat) (f n : Int) (w : World) (h : WordsAt w v ws) (hf : -9223372036854775808 ≤ f) (hf' : f ≤ 9223372036854775807) (hn : -9223372036854775808 ≤ n) (hn' : n ≤ 9223372036854775807) :
    Calls Try.prog 17 #[v, .int .i64 f, .int .i64 n] w fun e w' => e = .returned (.int .i64 (cntW ws f n : Nat)) ∧ ∃ m, w' = w.drewN m := by
  obtain ⟨a, cap, rfl, hl, h64, hn0, hc⟩ := h
  have hl0 : (0 : Int) ≤ (ws.length : Int) := by omega
  have hl1 : (ws.length : Int) ≤ 1099511627776 := by omega
  have WI := hide (within_any a ws.length cap f n hl hf hf' hn hn' w)
  have EN := hide (cnt_lohi ws f n)
  obtain ⟨q1, q2⟩ := lo_hi ws.length f n
  rw [← EN.out]
  have A64 := hide h64
  have HC := hide hc
  generalize loV ws.length f n = lo at *
  generalize hiV ws.length f n = hi at *
  clear hn0 h64 hc EN
  have q3 : (hi : Int) ≤ 64 * (ws.length : Int) := by omega
  have q4 : (0 : Int) ≤ (lo : Int) := by omega
  have q5 : (lo : Int) ≤ (hi : Int) := by omega
  go_enter Try.func17, Try.ntmps17
  go_wp2_with fail
  refine WI.out.mono ?_
  rintro e w' ⟨rfl, rfl⟩
  go_wp2
  go_loopw [7, 8] (fun c i w2 => ∃ j m : Nat, lo ≤ j ∧ i = .int .i64 (j : Int) ∧ c = .int .i64 ((cnt (bitV ws) lo (min j hi) : Nat) : Int) ∧ w2 = w'.drewN m) (fun _ i _ => (64 * ws.length - intOf i).toNat)
  case atStart => exact ⟨lo, 0, Nat.le_refl _, rfl, by rw [cnt_self _ _ _ (Nat.min_le_left _ _)]; rfl, rfl⟩
  case round =>
    obtain ⟨j, m, hj, rfl, rfl, rfl⟩ := hrel
    by_cases h1 : j < hi
    · have h2 : (j : Int) < (hi : Int) := by omega
      obtain ⟨b, o, rfl, hcell⟩ := HC.out (j / 64) (by omega)
      have hcell' : (w'.drewN m).cell? ⟨b, o + j / 64, none⟩ = some (.int .u64 ((ws.getD (j / 64) 0 : Nat) : Int)) := hcell
      have S := hide (cnt_step ws lo j hi hj h1)
      have CL := hide (cnt_le (bitV ws) lo j)
      rw [Nat.min_eq_left (show j ≤ hi by omega)]
      have OL := hide (ones_part_le (ws.getD (j / 64) 0) (j % 64) (hi - j))
      have U := hide (A64.out.getD (j / 64))
      have hm := and63_nat j
      have k4 : (0 : Int) ≤ ((cnt (bitV ws) lo j : Nat) : Int) := by omega
      have k5 : ((cnt (bitV ws) lo j : Nat) : Int) ≤ 70368744177664 := by have := CL.out; omega
      have hand := and_spelt (ws.getD (j / 64) 0) (maskN (j % 64) (hi - j)) U.out (maskN_lt _ _)
      generalize ws.getD (j / 64) 0 = u at *
      have hd : (((hi - j : Nat) : Nat) : Int) = (hi : Int) - (j : Int) := by omega
      have M := hide (show maskV ((j : Int) % 64) ((hi : Int) - (j : Int)) = maskN (j % 64) (hi - j) by rw [← hd, ← maskV_nat]; rfl)
      have A := hide (show u &&& maskN (j % 64) (hi - j) < 18446744073709551616 from Nat.lt_of_le_of_lt Nat.and_le_left U.out)
      have Z := hide (show wrap64 (((cnt (bitV ws) lo j : Nat) : Int) + ((onesV (u &&& maskN (j % 64) (hi - j)) : Nat) : Int)) = ((cnt (bitV ws) lo (min (nextV j) hi) : Nat) : Int) by rw [S.out, Int.natCast_add]; have := OL.out; unfold wrap64; omega)
      have N := hide (next_nat j (by omega) )
      go_wp2_with fail
      go_quiet (first | (go_at_call 24; exact quiet_same (mask_to _ _ (maskN (j % 64) (hi - j)) (by exact M.out) _ (by omega) (by omega) (by omega) (by omega))) | (go_at_call 27; exact quiet_same (ones_to _ (u &&& maskN (j % 64) (hi - j)) _ rfl A.out rfl _)))
      rw [Z.out]
      go_wp2_with fail
      refine (N.out _).mono ?_
      rintro e w2 ⟨rfl, rfl⟩
      go_wp2
      go_roundw
      case rel => exact ⟨nextV j, _, by have := next_gt j; omega, rfl, rfl, rfl⟩
      case measure =>
        have := next_gt j
        simp [intOf]; omega
    · have h2 : (hi : Int) ≤ (j : Int) := by omega
      rw [Nat.min_eq_right (show hi ≤ j by omega)]
      generalize hC : ((cnt (bitV ws) lo hi : Nat) : Int) = c at *
      have C := hide hC
      clear h1 hC
      go_wp2
      go_ret
      exact ⟨ret_int C.out.symm, _, rfl⟩

set_option maxHeartbeats 1000000 in
theorem firstw_nat (v : Value) (ws : List Nat) (s : Int) (f : Nat) (w : World) (h : WordsAt w v ws) (hs : -9223372036854775808 ≤ s) (hs' : s ≤ 9223372036854775807) (hf : (f : Int) ≤ 9223372036854775807) :
    Calls Try.prog 10 #[v, .int .i64 s, .int .i64 (f : Int)] w fun e w' => e = foundE (first (bitV ws) f (min s.toNat (64 * ws.length))) ∧ ∃ m, w' = w.drewN m := by
  obtain ⟨a, cap, rfl, hl, h64, hn0, hc⟩ := h
  have hl0 : (0 : Int) ≤ (ws.length : Int) := by omega
  have hl1 : (ws.length : Int) ≤ 1099511627776 := by omega
  have B := hide (bits_any a ws.length cap hl w)
  have A64 := hide h64
  have HC := hide hc
  have f0 : (0 : Int) ≤ (f : Int) := by omega
  have e1 : min s (64 * (ws.length : Int)) ≤ 64 * (ws.length : Int) := Int.min_le_right _ _
  have E2 := hide (show ∀ j : Nat, (j : Int) < min s (64 * (ws.length : Int)) ↔ j < min s.toNat (64 * ws.length) by intro j; omega)
  clear hn0 h64 hc hl
  go_enter Try.func10, Try.ntmps10
  go_wp2_with fail
  refine B.out.mono ?_
  rintro e w' ⟨rfl, rfl⟩
  go_wp2
  generalize min s (64 * (ws.length : Int)) = en at *
  go_loopw [9] (fun i w2 => ∃ j m : Nat, f ≤ j ∧ i = .int .i64 (j : Int) ∧ w2 = w'.drewN m ∧ ∀ t, f ≤ t → t < j → bitV ws t = true) (fun i _ => (64 * ws.length - intOf i).toNat)
  case atStart => exact ⟨f, 0, Nat.le_refl _, rfl, rfl, fun t h1 h2 => by omega⟩
  case round =>
    obtain ⟨j, m, hj, rfl, rfl, hall⟩ := hrel
    have A := hide hall
    clear hall
    by_cases h2 : (j : Int) < en
    · obtain ⟨b, o, rfl, hcell⟩ := HC.out (j / 64) (by omega)
      have hcell' : (w'.drewN m).cell? ⟨b, o + j / 64, none⟩ = some (.int .u64 ((ws.getD (j / 64) 0 : Nat) : Int)) := hcell
      have U := hide (A64.out.getD (j / 64))
      have hm := and63_nat j
      have hnm := andNot63 j (by omega)
      have hor := or_spelt (ws.getD (j / 64) 0) (maskN 0 (j % 64)) U.out (maskN_lt _ _)
      have V := hide (show ws.getD (j / 64) 0 ||| maskN 0 (j % 64) < 18446744073709551616 from Nat.or_lt_two_pow (n := 64) U.out (maskN_lt _ _))
      have M := hide (show maskV 0 ((j : Int) % 64) = maskN 0 (j % 64) from maskV_nat 0 (j % 64))
      have N := hide (next_nat j (by omega))
      have F := hide (show ((foundAt ws j : Nat) : Int) = ((64 * (j / 64) : Nat) : Int) + ((lowOneV (notV (ws.getD (j / 64) 0 ||| maskN 0 (j % 64))) : Nat) : Int) by unfold foundAt; omega)
      have g1 := found_le ws j
      have g2 := next_gt j
      have g3 := found_ge A64.out j
      have G1 := hide (fun t => found_all A64.out j t)
      have G2 := hide (found_not A64.out j)
      have Z := hide (show wrap64 (64 * ((j : Int) / 64) + ((lowOneV (notV (ws.getD (j / 64) 0 ||| maskN 0 (j % 64))) : Nat) : Int)) = ((foundAt ws j : Nat) : Int) by have := F.out; unfold nextV at g1; unfold wrap64; omega)
      have GG := hide g1
      have GH := hide g2
      have GI := hide g3
      clear g1 g2 g3
      generalize ws.getD (j / 64) 0 = u at *
      go_wp2_with fail
      go_quiet (first | (go_at_call 24; exact quiet_same (mask_to _ _ (maskN 0 (j % 64)) (by exact M.out) _ (by omega) (by omega) (by omega) (by omega))) | (go_at_call 23; exact quiet_same (lowz_to _ (u ||| maskN 0 (j % 64)) _ rfl V.out rfl _)))
      rw [Z.out]
      have FN := hide (show en ≤ ((foundAt ws j : Nat) : Int) → first (bitV ws) f (min s.toNat (64 * ws.length)) = none from fun he => first_none fun t h3 h4 => by
        rcases Nat.lt_or_ge t j with h | h
        · exact A.out t h3 h
        · exact G1.out t h (by have := (E2.out t).2 h4; omega))
      have FS := hide (show ((foundAt ws j : Nat) : Int) < en → foundAt ws j < nextV j → first (bitV ws) f (min s.toNat (64 * ws.length)) = some (foundAt ws j) from fun he hn => first_some (by have := GI.out; omega) ((E2.out _).1 he) (G2.out hn) fun t h3 h4 => by
        rcases Nat.lt_or_ge t j with h | h
        · exact A.out t h3 h
        · exact G1.out t h h4)
      have FA := hide (show nextV j ≤ foundAt ws j → ∀ t, f ≤ t → t < nextV j → bitV ws t = true from fun hn t h3 h4 => by
        rcases Nat.lt_or_ge t j with h | h
        · exact A.out t h3 h
        · exact G1.out t h (by omega))
      clear Z F G1 G2 M V hor hnm hm U hcell hcell' A HC B E2
      have GN : ((nextV j : Nat) : Int) ≤ (j : Int) + 64 := by unfold nextV; omega
      by_cases c1 : en ≤ ((foundAt ws j : Nat) : Int)
      · have X := hide (FN.out c1)
        go_wp2
        go_ret2
        exact ⟨by rw [X.out]; rfl, _, rfl⟩
      · have c1' : ((foundAt ws j : Nat) : Int) < en := by omega
        by_cases c2 : foundAt ws j < nextV j
        · have X := hide (FS.out c1' c2)
          have c2' : ((foundAt ws j : Nat) : Int) < ((nextV j : Nat) : Int) := by omega
          clear c1 c2
          generalize hP : ((foundAt ws j : Nat) : Int) = p at *
          have P := hide hP
          clear hP
          go_wp2_with fail
          refine (N.out _).mono ?_
          rintro e w2 ⟨rfl, rfl⟩
          go_wp2
          go_ret2
          exact ⟨by rw [X.out, ← P.out]; rfl, _, rfl⟩
        · have X := hide (FA.out (by omega))
          have c2' : ((nextV j : Nat) : Int) ≤ ((foundAt ws j : Nat) : Int) := by omega
          clear c1 c2
          generalize ((foundAt ws j : Nat) : Int) = p at *
          go_wp2_with fail
          refine (N.out _).mono ?_
          rintro e w2 ⟨rfl, rfl⟩
          go_wp2_with fail
          refine (N.out _).mono ?_
          rintro e w2 ⟨rfl, rfl⟩
          go_wp2
          go_roundw
          case rel => exact ⟨nextV j, _, by have := GH.out; omega, rfl, rfl, X.out⟩
          case measure =>
            have := GH.out
            simp [intOf]; omega
    · have EX := hide (first_none (p := bitV ws) (a := f) (b := min s.toNat (64 * ws.length)) (fun t h3 h4 => A.out t h3 (by have := (E2.out t).2 h4; omega)))
      go_wp2
      go_ret2
      exact ⟨by rw [EX.out]; rfl, _, rfl⟩
theorem firstw_any (v : Value) (ws : List Nat) (s f : Int) (w : World) (h : WordsAt w v ws) (hs : -9223372036854775808 ≤ s) (hs' : s ≤ 9223372036854775807) (hf : -9223372036854775808 ≤ f) (hf' : f ≤ 9223372036854775807) :
    Calls Try.prog 10 #[v, .int .i64 s, .int .i64 f] w fun e w' => e = foundE (firstW ws s f) ∧ ∃ m, w' = w.drewN m := by
  by_cases h0 : f < 0
  · have e : firstW ws s f = none := by unfold firstW; rw [if_pos h0]
    rw [e]
    clear e
    obtain ⟨a, cap, rfl, hl, h64, hn0, hc⟩ := h
    clear hc h64 hn0
    go_enter Try.func10, Try.ntmps10
    go_wp2
    go_ret2
    exact ⟨rfl, 0, rfl⟩
  · obtain ⟨a, rfl⟩ : ∃ a : Nat, f = a := ⟨f.toNat, by omega⟩
    have e : firstW ws s a = first (bitV ws) a (min s.toNat (64 * ws.length)) := by unfold firstW; rw [if_neg (by omega), Int.toNat_natCast]
    rw [e]
    exact firstw_nat v ws s a w h hs hs' hf'
end Go.Proofs.Ytniagepoddhlnaa
