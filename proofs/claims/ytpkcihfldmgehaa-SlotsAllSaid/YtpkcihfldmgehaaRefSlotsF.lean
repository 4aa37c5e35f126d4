/- What the document's own NewSlots answers (hodmanref8), as contracts. -/
import Derived.Test.YtpkcihfldmgehaaRefSlotsE
namespace Go.Proofs.Ytpkcihfldmgehaa
open Go.RowKit

set_option maxHeartbeats 2000000 in
theorem rnews_no (g x : Int) (hno : ∀ N c : Nat, g = N → x = c → ¬ Cls N c) (w : World) :
    Calls Try.prog 16 #[.int .i64 g, .int .i64 x] w fun e w' => e = .returned noSlots ∧ Fresh w w' := by
  obtain ⟨R, hR⟩ : ∃ R, R = w.heap.size := ⟨_, rfl⟩
  obtain ⟨W1, hW1⟩ : ∃ W1, W1 = w.alloc (.cells #[.slice none 0 0] 26) := ⟨_, rfl⟩
  have FW := hide (show Fresh w W1 by rw [hW1]; exact fresh_box _ _ _)
  have bR : W1.heap[R]? = some (.cells #[.slice none 0 0] 26 (0, 0)) := by rw [hR, hW1]; exact heap_alloc_new w _
  have BR4 := hide (show (W1.setCell ⟨R, 0, none⟩ (.slice none 0 0)).heap[R]? = some (.cells #[.slice none 0 0] 26 (0, 0)) from heap_set_same bR _)
  have FR := hide (show Fresh w (W1.setCell ⟨R, 0, none⟩ (.slice none 0 0)) from fresh_set FW.out (by rw [hR]; exact Nat.le_refl _) 0 _)
  have r0 : W1.cell? ⟨R, 0, none⟩ = some (.slice none 0 0) := cell_block bR 0 _ rfl
  have r1 := free_block bR 0
  have HR := hide hR
  have HW := hide hW1
  have NO := hide hno
  clear hno bR hR hW1
  by_cases g1 : x < 1
  · have g0 : x ≤ 0 := by omega
    clear g0
    go_enter Try.func16, Try.ntmps16
    go_wp2
    rw [← HW.out, ← HR.out]
    refine bodyPost_ret (by simp [results, Try.results16, go_sem, r0]; try rfl) rfl ?_
    exact ⟨rfl, FW.out⟩
  by_cases g2 : 17 < x
  · have g3 : 1 ≤ x := by omega
    clear g1
    go_enter Try.func16, Try.ntmps16
    go_wp2
    rw [← HW.out, ← HR.out]
    refine bodyPost_ret (by simp [results, Try.results16, go_sem, r0]; try rfl) rfl ?_
    exact ⟨rfl, FW.out⟩
  by_cases g3 : g < 1
  · have g4 : 1 ≤ x := by omega
    have g5 : x ≤ 17 := by omega
    clear g1 g2
    go_enter Try.func16, Try.ntmps16
    go_wp2
    rw [← HW.out, ← HR.out]
    refine bodyPost_ret (by simp [results, Try.results16, go_sem, r0]; try rfl) rfl ?_
    exact ⟨rfl, FW.out⟩
  by_cases g4 : 65536 < g
  · have g5 : 1 ≤ x := by omega
    have g6 : x ≤ 17 := by omega
    have g7 : 1 ≤ g := by omega
    clear g1 g2 g3
    go_enter Try.func16, Try.ntmps16
    go_wp2
    rw [← HW.out, ← HR.out]
    refine bodyPost_ret (by simp [results, Try.results16, go_sem, r0]; try rfl) rfl ?_
    exact ⟨rfl, FW.out⟩
  obtain ⟨N, rfl⟩ : ∃ N : Nat, g = N := ⟨g.toNat, by omega⟩
  obtain ⟨c, rfl⟩ : ∃ c : Nat, x = c := ⟨x.toNat, by omega⟩
  have HC1 := hide (show 1 ≤ c by omega)
  have HM := hide (show N % 2 ^ (c - 1) ≠ 0 from fun e => NO.out N c rfl rfl ⟨by omega, by omega, by omega, by omega, e⟩)
  have n1 : (1 : Int) ≤ (N : Int) := by omega
  have n2 : (N : Int) ≤ 65536 := by omega
  have c1 : (1 : Int) ≤ (c : Int) := by omega
  have c2 : (c : Int) ≤ 17 := by omega
  clear g1 g2 g3 g4 NO
  go_enter Try.func16, Try.ntmps16
  go_wp2
  rw [← HW.out, ← HR.out]
  go_loop [5, 6] (fun z i => ∃ (j s : Nat), 1 ≤ j ∧ j ≤ c ∧ i = .int .i64 (j : Int) ∧ z = .int .i64 (s : Int) ∧ s = 2 ^ (j - 1)) (fun _ i => (c - intOf i).toNat)
  case atStart => exact ⟨1, 1, Nat.le_refl _, HC1.out, rfl, rfl, rfl⟩
  case round =>
    obtain ⟨j, s, hj1, hj, rfl, rfl, hs⟩ := hrel
    have HSS := hide hs
    have sb := pow_small (j := j) (by omega)
    have s1 : (s : Int) ≤ 65536 := by omega
    have s0 : (1 : Int) ≤ (s : Int) := by omega
    have j0 : (1 : Int) ≤ (j : Int) := by omega
    clear hs sb
    by_cases g : j < c
    · have g' : (j : Int) < (c : Int) := by omega
      go_wp2
      go_round
      case rel => exact ⟨j + 1, s * 2, by omega, by omega, by go_num, by go_num, by rw [pow_next hj1, HSS.out]⟩
      case measure => simp [intOf]; omega
    · obtain rfl : c = j := by omega
      have hmod : ((N : Int) % (s : Int) == 0) = false := by
        rw [beq_eq_false_iff_ne]
        have h5 := HM.out
        rw [← HSS.out] at h5
        omega
      have hne : (s : Int) ≠ 0 := by omega
      go_wp2
      clear r0 r1
      generalize W1.setCell ⟨R, 0, none⟩ (.slice none 0 0) = W9 at BR4 FR ⊢
      have h0 : W9.cell? ⟨R, 0, none⟩ = some (.slice none 0 0) := cell_block BR4.out 0 _ rfl
      refine bodyPost_ret (by simp [results, Try.results16, go_sem, h0]; try rfl) rfl ?_
      exact ⟨rfl, FR.out⟩
end Go.Proofs.Ytpkcihfldmgehaa
