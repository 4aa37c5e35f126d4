/- The small helpers of package tree that hold no tree (sizeMay, wordsFor, rest, isSet, tellsOf, zeroInWord, put), as contracts. -/
import Derived.Test.YtpkcihfldmgehaaTreeMem
import Derived.Test.YtpkcihfldmgehaaWord
import Derived.Deep.QuietTactic
import Derived.BigQuiet
import Derived.Handy
namespace Go.Proofs.Ytpkcihfldmgehaa
open Go.RowKit

theorem sizeMay_any (s : Int) (w : World) : Calls Try.prog 43 #[.int .i64 s] w fun e w' => e = .returned (.bool (decide (1 ≤ s) && decide (s ≤ 65536))) ∧ w' = w := by
  by_cases h1 : 1 ≤ s
  · by_cases h2 : s ≤ 65536
    · go_enter Try.func43, Try.ntmps43
      go_wp2
      go_ret
      exact ⟨retB (by rw [decide_eq_true h1, decide_eq_true h2]; rfl), rfl⟩
    · go_enter Try.func43, Try.ntmps43
      go_wp2
      go_ret
      exact ⟨retB (by simp; omega), rfl⟩
  · have h3 : s < 1 := by omega
    go_enter Try.func43, Try.ntmps43
    go_wp2
    go_ret
    exact ⟨retB (by rw [decide_eq_false (by omega)]; rfl), rfl⟩
theorem sizeMay_to (s : Int) (b : Bool) (hb : (decide (1 ≤ s) && decide (s ≤ 65536)) = b) (w : World) : Calls Try.prog 43 #[.int .i64 s] w fun e w' => e = .returned (.bool b) ∧ w' = w := by
  subst hb; exact sizeMay_any s w
theorem wordsFor_nat (n : Nat) (h1 : 1 ≤ n) (h2 : n ≤ 65536) (w : World) : Calls Try.prog 44 #[.int .i64 (n : Int)] w fun e w' => e = .returned (.int .i64 (((n + 63) / 64 : Nat) : Int)) ∧ w' = w := by
  have E := hide (show (((n + 63) / 64 : Nat) : Int) = ((n : Int) - 1) / 64 + 1 by omega)
  have g1 : (1 : Int) ≤ (n : Int) := by omega
  have g2 : (n : Int) ≤ 65536 := by omega
  clear h1 h2
  generalize (n : Int) = x at *
  go_enter Try.func44, Try.ntmps44
  go_wp2
  go_ret
  exact ⟨ret_int E.out.symm, rfl⟩
theorem wordsFor_to (x : Int) (n : Nat) (r : Int) (hx : x = n) (hr : (((n + 63) / 64 : Nat) : Int) = r) (h1 : 1 ≤ n) (h2 : n ≤ 65536) (w : World) : Calls Try.prog 44 #[.int .i64 x] w fun e w' => e = .returned (.int .i64 r) ∧ w' = w := by
  subst hx; subst hr; exact wordsFor_nat n h1 h2 w
theorem rest_nat (n : Nat) (h1 : 1 ≤ n) (h2 : n ≤ 65536) (w : World) : Calls Try.prog 45 #[.int .i64 (n : Int)] w fun e w' => e = .returned (.int .u64 ((maskN ((n - 1) % 64 + 1) 64 : Nat) : Int)) ∧ w' = w := by
  have g1 : (1 : Int) ≤ (n : Int) := by omega
  have g2 : (n : Int) ≤ 65536 := by omega
  have hm := and63 ((n : Int) - 1)
  have E := hide (show ((n : Int) - 1) % 64 + 1 = (((n - 1) % 64 + 1 : Nat) : Int) by omega)
  have m1 : 0 ≤ ((n : Int) - 1) % 64 := by omega
  have m2 : ((n : Int) - 1) % 64 ≤ 63 := by omega
  go_enter Try.func45, Try.ntmps45
  go_wp2_with fail
  refine (mask_to _ 64 (maskN ((n - 1) % 64 + 1) 64) (by rw [E.out]; exact maskV_nat _ 64) _ (by omega) (by omega) (by decide) (by decide)).mono ?_
  rintro e w' ⟨rfl, rfl⟩
  go_wp2
  go_ret
  exact ⟨rfl, rfl⟩
theorem rest_to (x : Int) (n : Nat) (hx : x = n) (h1 : 1 ≤ n) (h2 : n ≤ 65536) (w : World) : Calls Try.prog 45 #[.int .i64 x] w fun e w' => e = .returned (.int .u64 ((maskN ((n - 1) % 64 + 1) 64 : Nat) : Int)) ∧ w' = w := by
  subst hx; exact rest_nat n h1 h2 w

theorem isSet_nat (v : Value) (ws : List Nat) (k : Nat) (w : World) (h : WordsAt w v ws) (hk : (k : Int) ≤ 9223372036854775807) :
    Calls Try.prog 53 #[v, .int .i64 (k : Int)] w fun e w' => e = .returned (.bool (bitV ws k)) ∧ w' = w := by
  obtain ⟨a, cap, rfl, hl, h64, hn0, hc⟩ := h
  have hl0 : (0 : Int) ≤ (ws.length : Int) := by omega
  have hl1 : (ws.length : Int) ≤ 1099511627776 := by omega
  by_cases h1 : ws.length ≤ k / 64
  · rw [bitV_beyond ws k (by omega)]
    have h2 : (ws.length : Int) ≤ (k : Int) / 64 := by omega
    clear hc h1 hl h64 hn0
    generalize hL : (ws.length : Int) = L at *
    go_enter Try.func53, Try.ntmps53
    go_wp2
    go_ret
    exact ⟨rfl, rfl⟩
  · have h2 : (k : Int) / 64 < (ws.length : Int) := by omega
    obtain ⟨b, o, rfl, hcell⟩ := hc (k / 64) (by omega)
    clear hn0
    have hm := and63_nat k
    have e : bitV ws k = (ws.getD (k / 64) 0).testBit (k % 64) := rfl
    rw [e]
    have U := hide (h64.getD (k / 64))
    have hb := bit_spelt (ws.getD (k / 64) 0) (k % 64) U.out
    have hk : ((k % 64 : Nat) : Int).toNat = k % 64 := by omega
    clear e hc hl
    generalize ws.getD (k / 64) 0 = u at *
    go_enter Try.func53, Try.ntmps53
    go_wp2
    all_goals
      go_ret
      exact ⟨rfl, rfl⟩

/-- word i of a row is put: that bits are set, or taken away -/
theorem put_any (base g cap : Nat) (ws : List Nat) (k : Nat) (m : Nat) (on : Bool) (w : World) (h : OwnW w base (.slice (some ⟨g, 0, none⟩) ws.length cap) ws) (h64 : W64 ws) (hl : ws.length ≤ 65536) (hk : k < ws.length) (hm : m < 18446744073709551616) :
    Calls Try.prog 38 #[.slice (some ⟨g, 0, none⟩) ws.length cap, .int .i64 (k : Int), .int .u64 (m : Int), .bool on] w fun e w' => e = .returned (.tuple #[]) ∧ w' = w.setCell ⟨g, k, none⟩ (.int .u64 (((if on then ws.getD k 0 ||| m else ws.getD k 0 &&& notV m : Nat)) : Int)) := by
  have hc := h.cell k hk
  have hf := h.free k
  have hor := or_spelt (ws.getD k 0) m (h64.getD k) hm
  have han := andNot_spelt (ws.getD k 0) m (h64.getD k) hm
  have k1 : (k : Int) < (ws.length : Int) := by omega
  have k2 : (ws.length : Int) ≤ 65536 := by omega
  clear h
  generalize ws.getD k 0 = u at *
  cases on with
  | true =>
    clear han
    go_enter Try.func38, Try.ntmps38
    go_wp2
    go_returns
    exact ⟨rfl, rfl⟩
  | false =>
    clear hor
    go_enter Try.func38, Try.ntmps38
    go_wp2
    go_returns
    exact ⟨rfl, rfl⟩

theorem tells_true (v u : Value) (xs : List Nat) (w : World) (h : WordsAt w v (upV xs)) (k : WordsAt w u xs) (hl : xs.length ≤ 65536) :
    Calls Try.prog 46 #[v, u] w fun e w' => e = .returned (.bool true) ∧ w' = w := by
  have H := hide h
  obtain ⟨a2, cap2, rfl, -⟩ := h
  obtain ⟨a, cap, rfl, -, h64, hn0, hc⟩ := k
  have HC := hide hc
  have l1 : (xs.length : Int) ≤ 65536 := by omega
  clear hc hn0 h64
  go_enter Try.func46, Try.ntmps46
  go_wp2
  go_loop [9] (fun i => ∃ j : Nat, j ≤ xs.length ∧ i = .int .i64 (j : Int)) (fun i => (xs.length - intOf i).toNat)
  case atStart => exact ⟨0, Nat.zero_le _, rfl⟩
  case round =>
    obtain ⟨j, hj, rfl⟩ := hrel
    by_cases g : j < xs.length
    · obtain ⟨b, o, rfl, hcell⟩ := HC.out j g
      have g' : (j : Int) < (xs.length : Int) := by omega
      have B := hide (up_bit xs j g)
      have I := hide (isSet_nat _ (upV xs) j w H.out (by omega))
      by_cases hf : xs.getD j 0 = 18446744073709551615
      · have E := hide (show bitV (upV xs) j = true by rw [B.out]; exact decide_eq_true hf)
        rw [hf] at hcell
        clear hf
        go_wp2_with fail
        refine I.out.mono ?_
        rintro e w' ⟨rfl, rfl⟩
        rw [E.out]
        go_wp2
        go_round
        case rel => exact ⟨j + 1, by omega, by go_num⟩
        case measure => simp [intOf]; omega
      · have E := hide (show bitV (upV xs) j = false by rw [B.out]; exact decide_eq_false hf)
        have z : (((xs.getD j 0 : Nat) : Int) == 18446744073709551615) = false := by rw [beq_eq_false_iff_ne]; omega
        clear hf
        generalize xs.getD j 0 = c at *
        go_wp2_with fail
        refine I.out.mono ?_
        rintro e w' ⟨rfl, rfl⟩
        rw [E.out]
        go_wp2
        go_round
        case rel => exact ⟨j + 1, by omega, by go_num⟩
        case measure => simp [intOf]; omega
    · obtain rfl : j = xs.length := by omega
      go_wp2
      go_ret
      exact ⟨rfl, rfl⟩

theorem zero_far (v : Value) (ws : List Nat) (x : Nat) (w : World) (h : WordsAt w v ws) (hf : ws.length ≤ x / 64) :
    Calls Try.prog 33 #[v, .int .i64 (x : Int)] w fun e w' => e = .returned (.tuple #[.int .i64 0, .bool false]) ∧ ∃ m, w' = w.drewN m := by
  obtain ⟨a, cap, rfl, hl, h64, hn0, hc⟩ := h
  have h2 : (ws.length : Int) ≤ (x : Int) / 64 := by omega
  clear hc h64 hn0 hf hl
  generalize hL : (ws.length : Int) = L at *
  go_enter Try.func33, Try.ntmps33
  go_wp2
  go_ret2
  exact ⟨rfl, 0, rfl⟩
theorem zero_in (v : Value) (ws : List Nat) (x : Nat) (w : World) (h : WordsAt w v ws) (hx : (x : Int) ≤ 1099511627776) (hf : x / 64 < ws.length) :
    Calls Try.prog 33 #[v, .int .i64 (x : Int)] w fun e w' => e = .returned (.tuple #[.int .i64 ((foundAt ws x : Nat) : Int), .bool (decide (foundAt ws x < nextV x))]) ∧ ∃ m, w' = w.drewN m := by
  obtain ⟨a, cap, rfl, hl, h64, hn0, hc⟩ := h
  have h2 : (x : Int) / 64 < (ws.length : Int) := by omega
  have l1 : (ws.length : Int) ≤ 1099511627776 := by omega
  obtain ⟨b, o, rfl, hcell⟩ := hc (x / 64) hf
  have U := hide (h64.getD (x / 64))
  have hm := and63_nat x
  have hnm := andNot63 x (by omega)
  have hor := or_spelt (ws.getD (x / 64) 0) (maskN 0 (x % 64)) U.out (maskN_lt _ _)
  have V := hide (show ws.getD (x / 64) 0 ||| maskN 0 (x % 64) < 18446744073709551616 from Nat.or_lt_two_pow (n := 64) U.out (maskN_lt _ _))
  have M := hide (show maskV 0 ((x : Int) % 64) = maskN 0 (x % 64) from maskV_nat 0 (x % 64))
  have F := hide (show ((foundAt ws x : Nat) : Int) = ((64 * (x / 64) : Nat) : Int) + ((lowOneV (notV (ws.getD (x / 64) 0 ||| maskN 0 (x % 64))) : Nat) : Int) by unfold foundAt; omega)
  have D := hide (show decide (foundAt ws x < nextV x) = decide (((lowOneV (notV (ws.getD (x / 64) 0 ||| maskN 0 (x % 64))) : Nat) : Int) < 64) from decide_eq_decide.2 (by unfold foundAt nextV; omega))
  have L := low_le (notV (ws.getD (x / 64) 0 ||| maskN 0 (x % 64)))
  clear hc hn0 h64 hl hf
  generalize ws.getD (x / 64) 0 = u at *
  have P := hide (show ∀ w, Calls Try.prog 48 #[.int .u64 ((u ||| maskN 0 (x % 64) : Nat) : Int)] w fun e w' => e = .returned (.int .i64 ((lowOneV (notV (u ||| maskN 0 (x % 64))) : Nat) : Int)) ∧ w' = w from fun w => lowz_nat _ V.out w)
  have L2 : ((lowOneV (notV (u ||| maskN 0 (x % 64))) : Nat) : Int) ≤ 64 := by omega
  have L3 : (0 : Int) ≤ ((lowOneV (notV (u ||| maskN 0 (x % 64))) : Nat) : Int) := by omega
  clear L
  generalize ((lowOneV (notV (u ||| maskN 0 (x % 64))) : Nat) : Int) = q at *
  go_enter Try.func33, Try.ntmps33
  go_wp2_with fail
  go_quiet (first | (go_at_call 39; exact Calls.quiet_of_same (mask_to _ _ (maskN 0 (x % 64)) (by exact M.out) _ (by omega) (by omega) (by omega) (by omega))) | (go_at_call 48; exact Calls.quiet_of_same (P.out _)))
  go_wp2
  go_ret2
  exact ⟨ret_pair (by rw [F.out]; omega) D.out.symm, _, rfl⟩
theorem zero_hit (v : Value) (ws : List Nat) (x : Nat) (y : Int) (hy : y = x) (w : World) (h : WordsAt w v ws) (hx : (x : Int) ≤ 1099511627776) (hf : x / 64 < ws.length) (hF : foundAt ws x < nextV x) :
    Calls Try.prog 33 #[v, .int .i64 y] w fun e w' => e = .returned (.tuple #[.int .i64 ((foundAt ws x : Nat) : Int), .bool true]) ∧ ∃ m, w' = w.drewN m := by
  subst hy
  have := zero_in v ws x w h hx hf
  rwa [decide_eq_true hF] at this
theorem zero_miss (v : Value) (ws : List Nat) (x : Nat) (w : World) (h : WordsAt w v ws) (hx : (x : Int) ≤ 1099511627776) (hF : ws.length ≤ x / 64 ∨ nextV x ≤ foundAt ws x) :
    Calls Try.prog 33 #[v, .int .i64 (x : Int)] w fun e w' => (∃ r, e = .returned (.tuple #[.int .i64 r, .bool false])) ∧ ∃ m, w' = w.drewN m := by
  by_cases hf : ws.length ≤ x / 64
  · exact (zero_far v ws x w h hf).mono fun e w' ⟨he, hm⟩ => ⟨⟨_, he⟩, hm⟩
  · have := zero_in v ws x w h hx (by omega)
    rw [decide_eq_false (by omega)] at this
    exact this.mono fun e w' ⟨he, hm⟩ => ⟨⟨_, he⟩, hm⟩
end Go.Proofs.Ytpkcihfldmgehaa
