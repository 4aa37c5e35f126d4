/- Which bits of a class turn (turned), which granules are there (there), of package slots, as contracts. -/
import Derived.Test.YtpkcihfldmgehaaSlotsA
namespace Go.Proofs.Ytpkcihfldmgehaa
open Go.RowKit

theorem ret_two {a b c d : Int} (h : a = c) (g : b = d) : Ending.returned (.tuple #[.int .i64 a, .int .i64 b]) = .returned (.tuple #[.int .i64 c, .int .i64 d]) := by rw [h, g]
set_option maxHeartbeats 1000000 in
theorem turned_any (v : Value) (n m : Nat) (ws : List Nat) (F E : Nat) (on x0 x1 : Bool) (w : World) (h : TreeAt w v n ws) (hn : n = 2 * m) (hE : E ≤ n) (h0 : F < E → halfB (bitV ws) (F / 2) = x0) (h1 : F < E → halfB (bitV ws) ((E - 1) / 2) = x1) :
    Calls Try.prog 24 #[v, .int .i64 (F : Int), .int .i64 (E : Int), .bool on] w fun e w' => e = .returned (.tuple #[.int .i64 ((turnF x0 F E on : Nat) : Int), .int .i64 ((turnE x0 x1 F E on : Nat) : Int)]) ∧ Fresh w w' := by
  obtain ⟨q1, q2, _, a, cap, rfl, _⟩ := id h
  obtain ⟨W1, hW1⟩ : ∃ W1, W1 = w.alloc (.cells #[.int .i64 (n : Int), .slice a (nLev n) cap] 45) := ⟨_, rfl⟩
  have F1 := hide (show Fresh w W1 by rw [hW1]; exact fresh_box _ _ _)
  have B1 := hide (show W1.heap[w.heap.size]? = some (.cells #[.int .i64 (n : Int), .slice a (nLev n) cap] 45 (0, 0)) by rw [hW1]; exact heap_alloc_new w _)
  have HW := hide hW1
  have LV := hide (fun (p : Nat) (hp : p < m) w' (k : Fresh w w') => live_any _ n ws p w' (h.fresh k) (by omega))
  have e0 : (0 : Int) ≤ (F : Int) := by omega
  have e1 : (0 : Int) ≤ (E : Int) := by omega
  have e2 : (E : Int) ≤ 65536 := by omega
  by_cases g : E ≤ F
  · have g' : (E : Int) ≤ (F : Int) := by omega
    unfold turnF turnE
    rw [if_pos g, if_pos g]
    clear hW1 h h0 h1 LV B1 g hn hE q1 q2
    go_enter Try.func24, Try.ntmps24
    go_wp2
    rw [← HW.out]
    go_ret2
    exact ⟨rfl, F1.out⟩
  · have g' : (F : Int) < (E : Int) := by omega
    have L0 := hide (fun w' (k : Fresh w w') => LV.out (F / 2) (by omega) w' k)
    have L1 := hide (fun w' (k : Fresh w w') => LV.out ((E - 1) / 2) (by omega) w' k)
    rw [h0 (by omega)] at L0
    rw [h1 (by omega)] at L1
    have K := hide (show F / 2 ≤ (E - 1) / 2 by omega)
    unfold turnF turnE
    rw [if_neg g, if_neg g]
    have eA : (F : Int) / 2 = ((F / 2 : Nat) : Int) := by omega
    have eB : ((E : Int) - 1) / 2 = (((E - 1) / 2 : Nat) : Int) := by omega
    have HT := hide (show ∀ x0 x1, tF x0 F on = (if !on && x0 then F / 2 + 1 else F / 2) ∧ tE x0 x1 F E on = (if !on && (decide (tF x0 F on < (E - 1) / 2 + 1) && x1) then (E - 1) / 2 else (E - 1) / 2 + 1) from fun _ _ => ⟨rfl, rfl⟩)
    obtain ⟨u1, u2⟩ := HT.out x0 x1
    rw [u2, u1]
    have ks : (((E - 1) / 2 : Nat) : Int) ≤ 65536 := by omega
    generalize F / 2 = A at *
    generalize (E - 1) / 2 = B at *
    clear hW1 h h0 h1 LV g hn hE q1 q2 HT u1 u2
    generalize (n : Int) = N at *
    generalize nLev n = L at *
    cases on with
    | true =>
      clear L0 L1
      go_enter Try.func24, Try.ntmps24
      go_wp2
      rw [← HW.out]
      go_ret2
      exact ⟨ret_two (by simp) (by simp), F1.out⟩
    | false =>
      have a1 : (A : Int) ≤ 65536 := by have := K.out; omega
      have a0 : (0 : Int) ≤ (A : Int) := by omega
      have b0 : (0 : Int) ≤ (B : Int) := by omega
      cases x0 with
      | true =>
        by_cases gg : A + 1 < B + 1
        · have g1 : (A : Int) + 1 < (B : Int) + 1 := by omega
          simp only [Bool.not_false, Bool.and_true, if_true, decide_eq_true gg, Bool.true_and]
          cases x1 with
          | true =>
            go_enter Try.func24, Try.ntmps24
            go_wp2_with fail
            rw [← HW.out]
            refine (L0.out _ F1.out).mono ?_
            rintro e w2 ⟨rfl, f2⟩
            have F2 := hide (F1.out.trans f2)
            have B2 : w2.heap[w.heap.size]? = some (.cells #[.int .i64 N, .slice a L cap] 45 (0, 0)) := by rw [f2.block w.heap.size (Array.getElem?_eq_some_iff.1 B1.out).1]; exact B1.out
            have c0 := cell_block B2 0 _ rfl
            have c1 := cell_block B2 1 _ rfl
            clear f2 B2
            go_wp2_with fail
            refine (L1.out _ F2.out).mono ?_
            rintro e w3 ⟨rfl, f3⟩
            have F3 := hide (F2.out.trans f3)
            clear f3 c0 c1
            go_wp2
            go_ret2
            exact ⟨ret_two (by simp) (by simp), F3.out⟩
          | false =>
            go_enter Try.func24, Try.ntmps24
            go_wp2_with fail
            rw [← HW.out]
            refine (L0.out _ F1.out).mono ?_
            rintro e w2 ⟨rfl, f2⟩
            have F2 := hide (F1.out.trans f2)
            have B2 : w2.heap[w.heap.size]? = some (.cells #[.int .i64 N, .slice a L cap] 45 (0, 0)) := by rw [f2.block w.heap.size (Array.getElem?_eq_some_iff.1 B1.out).1]; exact B1.out
            have c0 := cell_block B2 0 _ rfl
            have c1 := cell_block B2 1 _ rfl
            clear f2 B2
            go_wp2_with fail
            refine (L1.out _ F2.out).mono ?_
            rintro e w3 ⟨rfl, f3⟩
            have F3 := hide (F2.out.trans f3)
            clear f3 c0 c1
            go_wp2
            go_ret2
            exact ⟨ret_two (by simp) (by simp), F3.out⟩
        · have g1 : (B : Int) + 1 ≤ (A : Int) + 1 := by omega
          simp only [Bool.not_false, Bool.and_true, if_true, decide_eq_false gg, Bool.false_and, Bool.true_and, Bool.false_eq_true, if_false]
          clear L1
          go_enter Try.func24, Try.ntmps24
          go_wp2_with fail
          rw [← HW.out]
          refine (L0.out _ F1.out).mono ?_
          rintro e w2 ⟨rfl, f2⟩
          have F2 := hide (F1.out.trans f2)
          have B2 : w2.heap[w.heap.size]? = some (.cells #[.int .i64 N, .slice a L cap] 45 (0, 0)) := by rw [f2.block w.heap.size (Array.getElem?_eq_some_iff.1 B1.out).1]; exact B1.out
          have c0 := cell_block B2 0 _ rfl
          have c1 := cell_block B2 1 _ rfl
          clear f2 B2
          clear c0 c1
          go_wp2
          go_ret2
          exact ⟨ret_two (by simp) (by simp), F2.out⟩
      | false =>
        have gg : A < B + 1 := by have := K.out; omega
        have g1 : (A : Int) < (B : Int) + 1 := by omega
        simp only [Bool.not_false, Bool.and_false, decide_eq_true gg, Bool.true_and, Bool.false_eq_true, if_false]
        cases x1 with
        | true =>
          go_enter Try.func24, Try.ntmps24
          go_wp2_with fail
          rw [← HW.out]
          refine (L0.out _ F1.out).mono ?_
          rintro e w2 ⟨rfl, f2⟩
          have F2 := hide (F1.out.trans f2)
          have B2 : w2.heap[w.heap.size]? = some (.cells #[.int .i64 N, .slice a L cap] 45 (0, 0)) := by rw [f2.block w.heap.size (Array.getElem?_eq_some_iff.1 B1.out).1]; exact B1.out
          have c0 := cell_block B2 0 _ rfl
          have c1 := cell_block B2 1 _ rfl
          clear f2 B2
          go_wp2_with fail
          refine (L1.out _ F2.out).mono ?_
          rintro e w3 ⟨rfl, f3⟩
          have F3 := hide (F2.out.trans f3)
          clear f3 c0 c1
          go_wp2
          go_ret2
          exact ⟨ret_two (by simp) (by simp), F3.out⟩
        | false =>
          go_enter Try.func24, Try.ntmps24
          go_wp2_with fail
          rw [← HW.out]
          refine (L0.out _ F1.out).mono ?_
          rintro e w2 ⟨rfl, f2⟩
          have F2 := hide (F1.out.trans f2)
          have B2 : w2.heap[w.heap.size]? = some (.cells #[.int .i64 N, .slice a L cap] 45 (0, 0)) := by rw [f2.block w.heap.size (Array.getElem?_eq_some_iff.1 B1.out).1]; exact B1.out
          have c0 := cell_block B2 0 _ rfl
          have c1 := cell_block B2 1 _ rfl
          clear f2 B2
          go_wp2_with fail
          refine (L1.out _ F2.out).mono ?_
          rintro e w3 ⟨rfl, f3⟩
          have F3 := hide (F2.out.trans f3)
          clear f3 c0 c1
          go_wp2
          go_ret2
          exact ⟨ret_two (by simp) (by simp), F3.out⟩
theorem there_any (v : Value) (N c : Nat) (p : Nat → Bool) (f m : Int) (w : World) (h : SlotsAt w v N c p) (hm : m ≤ 9223372036854775807) :
    Calls Try.prog 23 #[v, .int .i64 f, .int .i64 m] w fun e w' => e = .returned (.tuple #[.int .i64 ((thF N f m : Nat) : Int), .int .i64 ((thE N f m : Nat) : Int)]) ∧ Fresh w w' := by
  obtain ⟨hc, a, cap, rfl, h1, h2, ht⟩ := h
  obtain ⟨b, o, lv, rfl, d0, d1, t⟩ := ht 0 hc.1
  simp only [Nat.zero_mul, Nat.add_zero, Nat.pow_zero, Nat.div_one] at d0
  have bl : b < w.heap.size := World.block_lt_of_cell? _ _ d0
  have c1 : (1 : Int) ≤ (c : Int) := by have := hc.1; omega
  have c2 : (c : Int) ≤ 17 := by have := hc.2.1; omega
  have c3 : ((c : Int) == 0) = false := by rw [beq_eq_false_iff_ne]; omega
  have c4 : (0 : Int) < (c : Int) := by omega
  have c5 : 0 < c := by have := hc.1; omega
  have n1 : (1 : Int) ≤ (N : Int) := by have := hc.2.2.1; omega
  have n2 : (N : Int) ≤ 65536 := by have := hc.2.2.2.1; omega
  have FB := hide (fresh_box w #[.slice (some ⟨b, o, none⟩) c cap] 26)
  unfold thF thE
  by_cases g1 : f < 0
  · rw [if_pos (.inl g1), if_pos (.inl g1)]
    clear d1 t ht hc h1 h2
    go_enter Try.func23, Try.ntmps23
    go_wp2
    go_ret2
    exact ⟨rfl, FB.out⟩
  · by_cases g2 : m < 1
    · rw [if_pos (.inr (.inl g2)), if_pos (.inr (.inl g2))]
      have g1' : 0 ≤ f := by omega
      clear d1 t ht hc h1 h2 g1
      go_enter Try.func23, Try.ntmps23
      go_wp2
      go_ret2
      exact ⟨rfl, FB.out⟩
    · by_cases g3 : (N : Int) ≤ f
      · rw [if_pos (.inr (.inr g3)), if_pos (.inr (.inr g3))]
        have g1' : 0 ≤ f := by omega
        have g2' : 1 ≤ m := by omega
        clear d1 t ht hc h1 h2 g1 g2
        go_enter Try.func23, Try.ntmps23
        go_wp2
        go_ret2
        exact ⟨rfl, FB.out⟩
      · rw [if_neg (by omega), if_neg (by omega)]
        have g1' : 0 ≤ f := by omega
        have g2' : 1 ≤ m := by omega
        have g3' : f < (N : Int) := by omega
        have E1 := hide (show f = ((f.toNat : Nat) : Int) by omega)
        have E2 := hide (show f + min m ((N : Int) - f) = ((f.toNat + min m.toNat (N - f.toNat) : Nat) : Int) by omega)
        have m1 : min m ((N : Int) - f) ≤ (N : Int) - f := Int.min_le_right _ _
        have m2 : 1 ≤ min m ((N : Int) - f) := by omega
        clear d1 t ht hc h1 h2 g1 g2 g3
        generalize f.toNat + min m.toNat (N - f.toNat) = R at *
        generalize ((f.toNat : Nat) : Int) = R0 at *
        go_enter Try.func23, Try.ntmps23
        go_wp2_with fail
        go_region
        go_wp2
        go_ret2
        exact ⟨ret_two E1.out E2.out, FB.out.drew⟩
end Go.Proofs.Ytpkcihfldmgehaa
