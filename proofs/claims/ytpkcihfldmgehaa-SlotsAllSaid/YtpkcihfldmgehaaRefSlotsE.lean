/- What the document's own NewSlots answers (hodmanref8), as contracts. -/
import Derived.Test.YtpkcihfldmgehaaRefSlotsD
namespace Go.Proofs.Ytpkcihfldmgehaa
open Go.RowKit

theorem pow_small {j : Nat} (h : j ≤ 17) : 2 ^ (j - 1) ≤ 65536 ∧ 1 ≤ 2 ^ (j - 1) := by
  have : 2 ^ (j - 1) ≤ 2 ^ 16 := Nat.pow_le_pow_right (by decide) (by omega)
  exact ⟨by simpa using this, Nat.pow_pos (by decide)⟩
theorem pow_next {j : Nat} (h : 1 ≤ j) : 2 ^ (j + 1 - 1) = 2 ^ (j - 1) * 2 := by
  rw [show j + 1 - 1 = (j - 1) + 1 by omega, Nat.pow_succ]
set_option maxHeartbeats 2000000 in
theorem rnews_ok (N c : Nat) (hc : Cls N c) (w : World) :
    Calls Try.prog 16 #[.int .i64 (N : Int), .int .i64 (c : Int)] w fun e w' => ∃ u, e = .returned u ∧ SlotsNew w.heap.size w' u N c (fun _ => false) ∧ Fresh w w' := by
  obtain ⟨i1, hi1, hy0, hy1, hy2⟩ := infoOf infoBool
  obtain ⟨R, hR⟩ : ∃ R, R = w.heap.size := ⟨_, rfl⟩
  obtain ⟨W1, hW1⟩ : ∃ W1, W1 = w.alloc (.cells #[.slice none 0 0] 26) := ⟨_, rfl⟩
  have FW := hide (show Fresh w W1 by rw [hW1]; exact fresh_box _ _ _)
  have BR := hide (show W1.heap[R]? = some (.cells #[.slice none 0 0] 26 (0, 0)) by rw [hR, hW1]; exact heap_alloc_new w _)
  have WR := hide (show w.heap.size ≤ R ∧ R < W1.heap.size by rw [hR, hW1]; simp)
  have HC := hide hc
  have HC1 := hide hc.1
  have HR := hide hR
  have HW := hide hW1
  have n1 : (1 : Int) ≤ (N : Int) := by have := hc.2.2.1; omega
  have n2 : (N : Int) ≤ 65536 := by have := hc.2.2.2.1; omega
  have c1 : (1 : Int) ≤ (c : Int) := by have := hc.1; omega
  have c2 : (c : Int) ≤ 17 := by have := hc.2.1; omega
  clear hc hR hW1
  go_enter Try.func16, Try.ntmps16
  go_wp2
  rw [← HW.out, ← HR.out]
  go_loop [5, 6] (fun z i => ∃ (j s : Nat), 1 ≤ j ∧ j ≤ c ∧ i = .int .i64 (j : Int) ∧ z = .int .i64 (s : Int) ∧ s = 2 ^ (j - 1)) (fun _ i => (c - intOf i).toNat)
  case atStart => exact ⟨1, 1, Nat.le_refl _, HC1.out, rfl, rfl, rfl⟩
  case round =>
    obtain ⟨j, s, hj1, hj, rfl, rfl, hs⟩ := hrel
    have HSS := hide hs
    have sb := pow_small (j := j) (by omega)
    have s1 : (s : Int) ≤ 65536 := by omega
    have s0 : (1 : Int) ≤ (s : Int) := by omega
    have j0 : (1 : Int) ≤ (j : Int) := by omega
    clear hs sb
    by_cases g : j < c
    · have g' : (j : Int) < (c : Int) := by omega
      go_wp2
      go_round
      case rel => exact ⟨j + 1, s * 2, by omega, by omega, by go_num, by go_num, by rw [pow_next hj1, HSS.out]⟩
      case measure => simp [intOf]; omega
    · obtain rfl : c = j := by omega
      have hmod : (N : Int) % (s : Int) = 0 := by
        have h5 := HC.out.2.2.2.2
        rw [← HSS.out] at h5
        omega
      have hne : (s : Int) ≠ 0 := by omega
      go_wp2_with (at_make; refine wpList_make_full _ rfl _ _ 52 rfl W1.heap.size 4 i1 (.bool false) 1 Try.underlying52 hi1 hy0 hy1 _ _ _ _ N rfl rfl rfl rfl (by rw [hy2]; omega) (by unfold maxLen; omega) (Nat.le_refl _) ?_; intro w2 hown hgrow; have MB := hide (bools_made (w0 := W1) (wr := W1) (w1 := w2) (ln := N) (v := .slice (some ⟨W1.heap.size, 0, none⟩) N N) hown hgrow); clear hown hgrow)
      refine (of_any _ (List.replicate N false) N c _ MB.out.1.at List.length_replicate HC.out).mono ?_
      rintro e w3 ⟨u, rfl, s3, f3⟩
      obtain ⟨_, ua, uc, rfl, _⟩ := s3.at
      have K3 := hide (MB.out.2.trans f3)
      have S3 := hide ((s3.store (Nat.lt_of_lt_of_le WR.out.2 MB.out.2.size) (.slice ua c uc)).congr (q := fun _ => false) (fun i hi => by simp [List.getD_eq_getElem?_getD, hi]))
      have B3 := hide (Nat.le_trans FW.out.size MB.out.2.size)
      have bR3 := BR.out
      rw [← K3.out.block R WR.out.2] at bR3
      have r0 := cell_block bR3 0 _ rfl
      have r1 := free_block bR3 0
      have BR4 := hide (show (w3.setCell ⟨R, 0, none⟩ (.slice ua c uc)).heap[R]? = some (.cells #[.slice ua c uc] 26 (0, 0)) from heap_set_same bR3 _)
      have FR := hide (show Fresh w (w3.setCell ⟨R, 0, none⟩ (.slice ua c uc)) from fresh_set (FW.out.trans K3.out) WR.out.1 0 _)
      clear s3 f3 bR3
      go_wp2
      clear r0 r1
      generalize w3.setCell ⟨R, 0, none⟩ (.slice ua c uc) = W9 at S3 BR4 FR ⊢
      have h0 : W9.cell? ⟨R, 0, none⟩ = some (.slice ua c uc) := cell_block BR4.out 0 _ rfl
      refine bodyPost_ret (by simp [results, Try.results16, go_sem, h0]; try rfl) rfl ?_
      exact ⟨_, rfl, S3.out.mono B3.out, FR.out⟩
end Go.Proofs.Ytpkcihfldmgehaa
