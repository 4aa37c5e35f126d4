/- The small helpers of package slots (live, turned, there, shapeMay), and Lowest, as contracts. -/
import Derived.Test.YtpkcihfldmgehaaSlotsMem
import Derived.Test.YtpkcihfldmgehaaSlotsTurn
import Derived.Test.YtpkcihfldmgehaaTreeB
import Derived.Test.YtpkcihfldmgehaaHeld
namespace Go.Proofs.Ytpkcihfldmgehaa
open Go.RowKit

theorem or_one (p : Nat) (h : p ≤ 65536) : bits .or .i64 ((p : Int) * 2) 1 = (p : Int) * 2 + 1 := by
  show IntKind.i64.wrap ((BitVec.ofInt 64 ((p : Int) * 2) ||| BitVec.ofInt 64 ((1 : Nat) : Int)).toNat : Int) = _
  have e : (p : Int) * 2 = ((2 * p : Nat) : Int) := by omega
  rw [e, BitVec.toNat_or, ofInt_u64 (2 * p) (by omega), ofInt_u64 1 (by omega)]
  have := Nat.two_pow_add_eq_or_of_lt (i := 1) (b := 1) (by decide) p
  rw [Nat.pow_one] at this
  rw [← this, IntKind.wrap_i64]
  omega
theorem has_nat {n : Nat} {ws : List Nat} {i : Nat} (h : i < n) : hasT n ws (i : Int) = bitV ws i := by
  unfold hasT; rw [decide_eq_true (by omega), decide_eq_true (by omega), Int.toNat_natCast]; rfl
theorem live_any (v : Value) (n : Nat) (ws : List Nat) (p : Nat) (w : World) (h : TreeAt w v n ws) (hp : 2 * p + 1 < n) :
    Calls Try.prog 36 #[v, .int .i64 (p : Int)] w fun e w' => e = .returned (.bool (halfB (bitV ws) p)) ∧ Fresh w w' := by
  obtain ⟨q1, q2, _, a, cap, rfl, _⟩ := id h
  have T := hide h
  have p0 : (0 : Int) ≤ (p : Int) := by omega
  have p1 : (p : Int) ≤ 65536 := by omega
  have or1 := or_one p (by omega)
  have e0 : hasT n ws ((p : Int) * 2) = bitV ws (2 * p) := by rw [show (p : Int) * 2 = ((2 * p : Nat) : Int) by omega]; exact has_nat (by omega)
  have e1 : hasT n ws ((p : Int) * 2 + 1) = bitV ws (2 * p + 1) := by rw [show (p : Int) * 2 + 1 = ((2 * p + 1 : Nat) : Int) by omega]; exact has_nat hp
  have H0 := hide (fun w' (k : Fresh w w') => thas_any _ n ws ((p : Int) * 2) w' (T.out.fresh k) (by omega) (by omega))
  have H1 := hide (fun w' (k : Fresh w w') => thas_any _ n ws ((p : Int) * 2 + 1) w' (T.out.fresh k) (by omega) (by omega))
  rw [e0] at H0
  rw [e1] at H1
  obtain ⟨W1, hW1⟩ : ∃ W1, W1 = w.alloc (.cells #[.int .i64 (n : Int), .slice a (nLev n) cap] 45) := ⟨_, rfl⟩
  have F1 := hide (show Fresh w W1 by rw [hW1]; exact fresh_box _ _ _)
  have B1 := hide (show W1.heap[w.heap.size]? = some (.cells #[.int .i64 (n : Int), .slice a (nLev n) cap] 45 (0, 0)) by rw [hW1]; exact heap_alloc_new w _)
  have HW := hide hW1
  unfold halfB
  clear e0 e1 h hW1 T hp q1 q2
  generalize (n : Int) = N at *
  generalize nLev n = L at *
  cases h0 : bitV ws (2 * p) with
  | true =>
    rw [h0] at H0
    go_enter Try.func36, Try.ntmps36
    go_wp2_with fail
    rw [← HW.out]
    refine (H0.out _ F1.out).mono ?_
    rintro e w2 ⟨rfl, f2⟩
    have F2 := hide (F1.out.trans f2)
    clear f2
    go_wp2
    go_ret
    exact ⟨rfl, F2.out⟩
  | false =>
    rw [h0] at H0
    generalize bitV ws (2 * p + 1) = y at *
    go_enter Try.func36, Try.ntmps36
    go_wp2_with fail
    rw [← HW.out]
    refine (H0.out _ F1.out).mono ?_
    rintro e w2 ⟨rfl, f2⟩
    have F2 := hide (F1.out.trans f2)
    have B2 : w2.heap[w.heap.size]? = some (.cells #[.int .i64 N, .slice a L cap] 45 (0, 0)) := by rw [f2.block w.heap.size (Array.getElem?_eq_some_iff.1 B1.out).1]; exact B1.out
    have c0 := cell_block B2 0 _ rfl
    have c1 := cell_block B2 1 _ rfl
    clear f2 B2
    go_wp2_with fail
    refine (H1.out _ F2.out).mono ?_
    rintro e w3 ⟨rfl, f3⟩
    have F3 := hide (F2.out.trans f3)
    clear f3 c0 c1
    go_wp2
    go_ret
    exact ⟨rfl, F3.out⟩

theorem wrap_in (x : Int) (h1 : -1 ≤ x) (h2 : x ≤ 65536) : wrap64 x = x := by unfold wrap64; omega
theorem and_low (N k : Nat) (hN : N ≤ 65536) (hk : k ≤ 16) : bits .and .i64 (N : Int) (wrap64 (wrap64 (2 ^ k) - 1)) = ((N % 2 ^ k : Nat) : Int) := by
  have h1 : 2 ^ k ≤ 2 ^ 16 := Nat.pow_le_pow_right (by decide) hk
  have h2 : 1 ≤ 2 ^ k := Nat.pow_pos (by decide)
  have e : ((2 : Int) ^ k) = ((2 ^ k : Nat) : Int) := by simp
  rw [e, wrap_in ((2 ^ k : Nat) : Int) (by omega) (by omega), wrap_in (((2 ^ k : Nat) : Int) - 1) (by omega) (by omega), show ((2 ^ k : Nat) : Int) - 1 = ((2 ^ k - 1 : Nat) : Int) by omega]
  show IntKind.i64.wrap ((BitVec.ofInt 64 (N : Int) &&& BitVec.ofInt 64 ((2 ^ k - 1 : Nat) : Int)).toNat : Int) = _
  rw [BitVec.toNat_and, ofInt_u64 N (by omega), ofInt_u64 (2 ^ k - 1) (by omega), Nat.and_two_pow_sub_one_eq_mod, IntKind.wrap_i64]
  have := Nat.mod_le N (2 ^ k)
  omega
theorem shape_in (N c : Nat) (w : World) (h1 : 1 ≤ c) (h2 : c ≤ 17) (h3 : 1 ≤ N) (h4 : N ≤ 65536) :
    Calls Try.prog 31 #[.int .i64 (N : Int), .int .i64 (c : Int)] w fun e w' => e = .returned (.bool (decide (N % 2 ^ (c - 1) = 0))) ∧ w' = w := by
  have c1 : (1 : Int) ≤ (c : Int) := by omega
  have c2 : (c : Int) ≤ 17 := by omega
  have n1 : (1 : Int) ≤ (N : Int) := by omega
  have n2 : (N : Int) ≤ 65536 := by omega
  have E := hide (and_low N (c - 1) h4 (by omega))
  clear h1 h2 h3 h4
  go_enter Try.func31, Try.ntmps31
  go_wp2
  go_ret
  refine ⟨retB ?_, rfl⟩
  rw [E.out]
  by_cases h : N % 2 ^ (c - 1) = 0
  · rw [h]; rfl
  · rw [decide_eq_false h, beq_eq_false_iff_ne]; omega
theorem shape_yes (N c : Nat) (w : World) (h : Cls N c) : Calls Try.prog 31 #[.int .i64 (N : Int), .int .i64 (c : Int)] w fun e w' => e = .returned (.bool true) ∧ w' = w := by
  have := shape_in N c w h.1 h.2.1 h.2.2.1 h.2.2.2.1
  rwa [decide_eq_true h.2.2.2.2] at this
theorem shape_no (x y : Int) (hno : ∀ N c : Nat, x = N → y = c → ¬ Cls N c) (w : World) : Calls Try.prog 31 #[.int .i64 x, .int .i64 y] w fun e w' => e = .returned (.bool false) ∧ w' = w := by
  by_cases h1 : 1 ≤ y
  · by_cases h2 : y ≤ 17
    · by_cases h3 : 1 ≤ x
      · by_cases h4 : x ≤ 65536
        · obtain ⟨N, rfl⟩ : ∃ N : Nat, x = N := ⟨x.toNat, by omega⟩
          obtain ⟨c, rfl⟩ : ∃ c : Nat, y = c := ⟨y.toNat, by omega⟩
          have := shape_in N c w (by omega) (by omega) (by omega) (by omega)
          rwa [decide_eq_false (fun h => hno N c rfl rfl ⟨by omega, by omega, by omega, by omega, h⟩)] at this
        · clear hno
          go_enter Try.func31, Try.ntmps31
          go_wp2
          go_ret
          exact ⟨rfl, rfl⟩
      · clear hno
        go_enter Try.func31, Try.ntmps31
        go_wp2
        go_ret
        exact ⟨rfl, rfl⟩
    · clear hno
      go_enter Try.func31, Try.ntmps31
      go_wp2
      go_ret
      exact ⟨rfl, rfl⟩
  · clear hno
    go_enter Try.func31, Try.ntmps31
    go_wp2
    go_ret
    exact ⟨rfl, rfl⟩
theorem low_any (v : Value) (N c : Nat) (p : Nat → Bool) (x : Int) (w : World) (h : SlotsAt w v N c p) :
    Calls Try.prog 9 #[v, .int .i64 x] w fun e w' => e = foundE (lowS N c p x) ∧ Fresh w w' := by
  obtain ⟨hc, a, cap, rfl, h1, h2, ht⟩ := h
  have c0 : (0 : Int) ≤ (c : Int) := by omega
  have c1 : (c : Int) ≤ 17 := by have := hc.2.1; omega
  by_cases g1 : x < 0
  · have e : lowS N c p x = none := by unfold lowS; rw [if_neg (by omega)]
    rw [e]
    clear e ht
    go_enter Try.func9, Try.ntmps9
    go_wp2
    go_ret2
    exact ⟨rfl, fresh_box _ _ _⟩
  · by_cases g2 : x < (c : Int)
    · obtain ⟨k, rfl⟩ : ∃ k : Nat, x = k := ⟨x.toNat, by omega⟩
      have e : lowS N c p (k : Int) = firstT (N / 2 ^ k) (trW N p k) 0 := by unfold lowS; rw [if_pos (by omega), Int.toNat_natCast]
      rw [e]
      obtain ⟨b, o, lv, rfl, d0, d1, t⟩ := ht k (by omega)
      have FT := hide (fun (w' : World) (f : Fresh w w') => tfirst_any _ _ _ 0 w' (t.fresh f) (by decide) (by decide))
      have k0 : (0 : Int) ≤ (k : Int) := by omega
      have bl : b < w.heap.size := World.block_lt_of_cell? _ _ d0
      clear e ht t g1
      unfold foundE at FT ⊢
      generalize firstT (N / 2 ^ k) (trW N p k) 0 = r at *
      generalize ((N / 2 ^ k : Nat) : Int) = nn at *
      go_enter Try.func9, Try.ntmps9
      go_wp2_with fail
      refine (FT.out _ (fresh_box _ _ _)).mono ?_
      rintro e w2 ⟨rfl, f2⟩
      have F2 := hide ((fresh_box w _ _).trans f2)
      clear f2
      go_wp2
      go_ret2
      exact ⟨rfl, F2.out⟩
    · have e : lowS N c p x = none := by unfold lowS; rw [if_neg (by omega)]
      rw [e]
      have g3 : (c : Int) ≤ x := by omega
      clear e ht g1 g2
      go_enter Try.func9, Try.ntmps9
      go_wp2
      go_ret2
      exact ⟨rfl, fresh_box _ _ _⟩
/-- no slots -/
theorem slow_none (x : Int) (w : World) : Calls Try.prog 9 #[noSlots, .int .i64 x] w fun e w' => e = foundE none ∧ Fresh w w' := by
  unfold noSlots
  by_cases g1 : x < 0
  · go_enter Try.func9, Try.ntmps9
    go_wp2
    go_ret2
    exact ⟨rfl, fresh_box _ _ _⟩
  · have g3 : (0 : Int) ≤ x := by omega
    clear g1
    go_enter Try.func9, Try.ntmps9
    go_wp2
    go_ret2
    exact ⟨rfl, fresh_box _ _ _⟩
end Go.Proofs.Ytpkcihfldmgehaa
