/- What the program's place.New answers, as a contract. -/
import Derived.Test.YtegolecdmpikhaaPlaceM
import Derived.Test.YtegolecdmpikhaaPackG
import Derived.Test.YtegolecdmpikhaaPackH
namespace Go.Proofs.Ytegolecdmpikhaa
open Go.RowKit

set_option maxRecDepth 100000 in
set_option maxHeartbeats 1000000 in
theorem enew_yes (g n m : Int) (K N c : Nat) (w : World) (h : EngOk g n m K N c) :
    Calls Try.prog 8 #[.int .i64 g, .int .i64 n, .int .i64 m] w fun e w' => ∃ u, e = .returned (.tuple #[u, .bool true]) ∧ EngNew w.heap.size w' u (Eng.none (2 ^ K) N c) ∧ Fresh w w' := by
  obtain ⟨h1, h2, rfl, rfl, hc⟩ := h
  obtain ⟨R, hR⟩ : ∃ R, R = w.heap.size := ⟨_, rfl⟩
  obtain ⟨W1, hW⟩ : ∃ W1, W1 = w.alloc (.cells #[.int .i64 0, .slice none 0 0, .slice none 0 0] 29) := ⟨_, rfl⟩
  have RE := hide (show ResE w R W1 from ⟨by rw [hR, hW]; exact heap_alloc_new w _, by rw [hW]; exact fresh_box _ _ _, by rw [hR]; exact Nat.le_refl _⟩)
  have hN := hc.2.2.1
  obtain ⟨G, hG⟩ : ∃ G, G = 2 ^ K := ⟨_, rfl⟩
  have G1 : 1 ≤ G := by rw [hG]; exact Nat.pow_pos (by decide)
  rw [← hG] at h1 h2
  have GN : G ≤ 65536 := Nat.le_trans (Nat.le_mul_of_pos_right G hN) h2
  have GM := hide (fun w => gmay_any g w)
  rw [show gmB g = true by rw [h1, hG]; exact gm_pow (by rw [← hG]; exact GN)] at GM
  have NS := hide (snew_ok N c hc)
  obtain ⟨P, hP⟩ : ∃ P : Int, P = g * (N : Int) := ⟨_, rfl⟩
  have hP2 : P = ((G * N : Nat) : Int) := by rw [hP, h1]; simp
  have p1 : 0 ≤ P := by omega
  have p2 : P ≤ 65536 := by omega
  have p3 : wrap64 (g * (N : Int)) = P := by rw [← hP]; exact wrapQ _ p1 p2
  have p4 : IntKind.i64.wrap (g * (N : Int)) = P := by rw [← hP]; exact wrapT _ p1 p2
  have c1 : (1 : Int) ≤ (c : Int) := by have := hc.1; omega
  have c2 : ((c : Int) == 0) = false := by rw [beq_eq_false_iff_ne]; omega
  have HR := hide hR
  have HW := hide hW
  have HG := hide h1
  have RW := hide (show R < W1.heap.size from (Array.getElem?_eq_some_iff.1 RE.out.1).1)
  have F1 := hide (show Fresh w W1 from RE.out.2.1)
  rw [← hG]
  clear hR hW hc G1 GN h2 hG h1 hP hP2
  go_enter Try.func8, Try.ntmps8
  go_wp2_with fail
  rw [← HW.out, ← HR.out]
  refine (NS.out _).mono ?_
  rintro e w3 ⟨u, rfl, s3, f3⟩
  obtain ⟨_, ua, uc, rfl, _⟩ := s3.at
  obtain ⟨V, hV⟩ : ∃ V, V = w3.heap.size := ⟨_, rfl⟩
  obtain ⟨w4, hw4⟩ : ∃ w4, w4 = w3.alloc (.cells #[.slice ua c uc] 26) := ⟨_, rfl⟩
  have f4 : Fresh w3 w4 := by rw [hw4]; exact fresh_box _ _ _
  have R4 := hide ((RE.out.fresh f3).fresh f4)
  have S4 := hide (s3.fresh f4)
  have VC : w4.heap[V]? = some (.cells #[.slice ua c uc] 26 (0, 0)) := by rw [hV, hw4]; exact heap_alloc_new w3 _
  have v0 : w4.cell? ⟨V, 0, none⟩ = some (.slice ua c uc) := cell_block VC 0 _ rfl
  have HV := hide hV
  have HW4 := hide hw4
  clear s3 f3 hV hw4 f4 VC
  go_wp2_with fail
  rw [← HV.out, ← HW4.out]
  refine (GM.out _).mono ?_
  rintro e w5 ⟨rfl, hw5⟩
  subst hw5
  obtain ⟨r0, r1, r2, y0, y1, y2⟩ := R4.out.cells
  have R5 := hide (three_cells R4.out.1 (.int .i64 g) (.slice ua c uc) (.slice none 0 0))
  have F5 := hide (fresh_set (fresh_set (fresh_set R4.out.2.1 R4.out.2.2 0 (.int .i64 g)) R4.out.2.2 1 (.slice ua c uc)) R4.out.2.2 2 (.slice none 0 0))
  have S5 := hide (show SlotsNew W1.heap.size (((w5.setCell ⟨R, 0, none⟩ (.int .i64 g)).setCell ⟨R, 1, none⟩ (.slice ua c uc)).setCell ⟨R, 2, none⟩ (.slice none 0 0)) (.agg #[.slice ua c uc]) N c (fun _ => false) from fun w' hw => S4.out _ fun k hk hl => by
    have := RW.out
    rw [hw k hk (by simpa [World.setCell] using hl), heap_setCell_other _ ⟨R, 2, none⟩ k _ (by show k ≠ R; omega), heap_setCell_other _ ⟨R, 1, none⟩ k _ (by show k ≠ R; omega), heap_setCell_other _ ⟨R, 0, none⟩ k _ (by show k ≠ R; omega)])
  clear S4 R4 HW4 HV
  go_wp2
  clear r0 r1 r2 y0 y1 y2 v0
  generalize World.setCell _ ⟨R, 2, none⟩ _ = W9 at R5 F5 S5 ⊢
  have h0 : W9.cell? ⟨R, 0, none⟩ = some (.int .i64 g) := cell_block R5.out 0 _ rfl
  have h1 : W9.cell? ⟨R, 1, none⟩ = some (.slice ua c uc) := cell_block R5.out 1 _ rfl
  have h2 : W9.cell? ⟨R, 2, none⟩ = some (.slice none 0 0) := cell_block R5.out 2 _ rfl
  refine bodyPost_ret (by simp [results, Try.results8, go_sem, h0, h1, h2]; try rfl) rfl ?_
  exact ⟨_, rfl, fun w' hw => ⟨ua, uc, none, 0, by rw [HG.out]; rfl, S5.out w' fun k hk hl => hw k (Nat.le_trans F1.out.size hk) hl, spansIn_nil _⟩, F5.out⟩

set_option maxRecDepth 100000 in
set_option maxHeartbeats 1000000 in
theorem enew_no (g n m : Int) (w : World) (h : ∀ K N c : Nat, ¬ EngOk g n m K N c) :
    Calls Try.prog 8 #[.int .i64 g, .int .i64 n, .int .i64 m] w fun e w' => e = .returned (.tuple #[noEng, .bool false]) ∧ Fresh w w' := by
  unfold noEng
  obtain ⟨R, hR⟩ : ∃ R, R = w.heap.size := ⟨_, rfl⟩
  obtain ⟨W1, hW⟩ : ∃ W1, W1 = w.alloc (.cells #[.int .i64 0, .slice none 0 0, .slice none 0 0] 29) := ⟨_, rfl⟩
  have RE := hide (show ResE w R W1 from ⟨by rw [hR, hW]; exact heap_alloc_new w _, by rw [hW]; exact fresh_box _ _ _, by rw [hR]; exact Nat.le_refl _⟩)
  have HR := hide hR
  have HW := hide hW
  have GM := hide (fun w => gmay_any g w)
  clear hR hW
  have NS := hide (show ∀ w, Calls Try.prog 15 #[.int .i64 n, .int .i64 m] w fun e w' => ∃ ua c uc, e = .returned (.agg #[.slice ua c uc]) ∧ (c = 0 ∨ ∃ N : Nat, n = (N : Int) ∧ m = (c : Int) ∧ Cls N c) ∧ Fresh w w' from fun w => by
    by_cases hc : ∃ N c : Nat, n = N ∧ m = c ∧ Cls N c
    · obtain ⟨N, c, rfl, rfl, hc⟩ := hc
      refine (snew_ok N c hc w).mono ?_
      rintro e w' ⟨u, rfl, s, f⟩
      obtain ⟨_, a, k, rfl, _⟩ := s.at
      exact ⟨a, c, k, rfl, .inr ⟨N, rfl, rfl, hc⟩, f⟩
    · refine (snew_no n m (fun N c h1 h2 h3 => hc ⟨N, c, h1, h2, h3⟩) w).mono ?_
      rintro e w' ⟨rfl, f⟩
      exact ⟨none, 0, 0, rfl, .inl rfl, f⟩)
  have HH := hide h
  clear h
  rcases gm_cases g with ⟨gb, K, hgk, hK⟩ | ⟨gb, _⟩
  · rw [gb] at GM
    have GK := hide hgk
    have KK := hide hK
    have g1 : 1 ≤ g := by have : 1 ≤ 2 ^ K := Nat.pow_pos (by decide)
                          omega
    have g2 : g ≤ 65536 := by omega
    clear gb hgk hK
    go_enter Try.func8, Try.ntmps8
    go_wp2_with fail
    rw [← HW.out, ← HR.out]
    refine (NS.out _).mono ?_
    rintro e w3 ⟨ua, c, uc, rfl, hc, f3⟩
    rcases hc with hc0 | ⟨N, hn, hm, hcl⟩
    · have c1 : ((c : Int) == 0) = true := by rw [hc0]; rfl
      clear hc0
      obtain ⟨V, hV⟩ : ∃ V, V = w3.heap.size := ⟨_, rfl⟩
      obtain ⟨w4, hw4⟩ : ∃ w4, w4 = w3.alloc (.cells #[.slice ua c uc] 26) := ⟨_, rfl⟩
      have R4 := hide ((RE.out.fresh f3).fresh (show Fresh w3 w4 by rw [hw4]; exact fresh_box _ _ _))
      have v0 : w4.cell? ⟨V, 0, none⟩ = some (.slice ua c uc) := by rw [hV, hw4]; exact cell_block (heap_alloc_new w3 _) 0 _ rfl
      have HV := hide hV
      have HW4 := hide hw4
      clear f3 hV hw4
      go_wp2_with fail
      rw [← HV.out, ← HW4.out]
      refine (GM.out _).mono ?_
      rintro e w5 ⟨rfl, hw5⟩
      subst hw5
      obtain ⟨r0, r1, r2, y0, y1, y2⟩ := R4.out.cells
      have R5 := hide (three_cells R4.out.1 (.int .i64 0) (.slice none 0 0) (.slice none 0 0))
      have F5 := hide (fresh_set (fresh_set (fresh_set R4.out.2.1 R4.out.2.2 0 (.int .i64 0)) R4.out.2.2 1 (.slice none 0 0)) R4.out.2.2 2 (.slice none 0 0))
      clear HW4 HV R4
      go_wp2
      clear r0 r1 r2 y0 y1 y2 v0
      generalize World.setCell _ ⟨R, 2, none⟩ _ = W9 at R5 F5 ⊢
      have h0 : W9.cell? ⟨R, 0, none⟩ = some (.int .i64 0) := cell_block R5.out 0 _ rfl
      have h1 : W9.cell? ⟨R, 1, none⟩ = some (.slice none 0 0) := cell_block R5.out 1 _ rfl
      have h2 : W9.cell? ⟨R, 2, none⟩ = some (.slice none 0 0) := cell_block R5.out 2 _ rfl
      refine bodyPost_ret (by simp [results, Try.results8, go_sem, h0, h1, h2]; try rfl) rfl ?_
      exact ⟨rfl, F5.out⟩
    · have c1 : ((c : Int) == 0) = false := by rw [beq_eq_false_iff_ne]; have := hcl.1; omega
      obtain ⟨P, hP⟩ : ∃ P : Int, P = g * n := ⟨_, rfl⟩
      have hP2 : P = ((2 ^ K * N : Nat) : Int) := by rw [hP, GK.out, hn]; simp
      have p1 : 65536 < P := by
        rcases Nat.lt_or_ge 65536 (2 ^ K * N) with h | h
        · omega
        · exact absurd ⟨GK.out, h, hn, hm, hcl⟩ (HH.out K N c)
      have p2 : P ≤ 4294967296 := by
        have h1 := KK.out
        have h2 : N ≤ 65536 := hcl.2.2.2.1
        have := Nat.mul_le_mul h1 h2
        omega
      have p3 : wrap64 (g * n) = P := by rw [← hP]; unfold wrap64; omega
      have p4 : IntKind.i64.wrap (g * n) = P := by rw [← hP, IntKind.wrap_i64]; omega
      clear hn hm hcl hP hP2
      obtain ⟨V, hV⟩ : ∃ V, V = w3.heap.size := ⟨_, rfl⟩
      obtain ⟨w4, hw4⟩ : ∃ w4, w4 = w3.alloc (.cells #[.slice ua c uc] 26) := ⟨_, rfl⟩
      have R4 := hide ((RE.out.fresh f3).fresh (show Fresh w3 w4 by rw [hw4]; exact fresh_box _ _ _))
      have v0 : w4.cell? ⟨V, 0, none⟩ = some (.slice ua c uc) := by rw [hV, hw4]; exact cell_block (heap_alloc_new w3 _) 0 _ rfl
      have HV := hide hV
      have HW4 := hide hw4
      clear f3 hV hw4
      go_wp2_with fail
      rw [← HV.out, ← HW4.out]
      refine (GM.out _).mono ?_
      rintro e w5 ⟨rfl, hw5⟩
      subst hw5
      obtain ⟨r0, r1, r2, y0, y1, y2⟩ := R4.out.cells
      have R5 := hide (three_cells R4.out.1 (.int .i64 0) (.slice none 0 0) (.slice none 0 0))
      have F5 := hide (fresh_set (fresh_set (fresh_set R4.out.2.1 R4.out.2.2 0 (.int .i64 0)) R4.out.2.2 1 (.slice none 0 0)) R4.out.2.2 2 (.slice none 0 0))
      clear HW4 HV R4
      go_wp2
      clear r0 r1 r2 y0 y1 y2 v0
      generalize World.setCell _ ⟨R, 2, none⟩ _ = W9 at R5 F5 ⊢
      have h0 : W9.cell? ⟨R, 0, none⟩ = some (.int .i64 0) := cell_block R5.out 0 _ rfl
      have h1 : W9.cell? ⟨R, 1, none⟩ = some (.slice none 0 0) := cell_block R5.out 1 _ rfl
      have h2 : W9.cell? ⟨R, 2, none⟩ = some (.slice none 0 0) := cell_block R5.out 2 _ rfl
      refine bodyPost_ret (by simp [results, Try.results8, go_sem, h0, h1, h2]; try rfl) rfl ?_
      exact ⟨rfl, F5.out⟩
  · rw [gb] at GM
    clear gb
    go_enter Try.func8, Try.ntmps8
    go_wp2_with fail
    rw [← HW.out, ← HR.out]
    refine (NS.out _).mono ?_
    rintro e w3 ⟨ua, c, uc, rfl, _, f3⟩
    obtain ⟨V, hV⟩ : ∃ V, V = w3.heap.size := ⟨_, rfl⟩
    obtain ⟨w4, hw4⟩ : ∃ w4, w4 = w3.alloc (.cells #[.slice ua c uc] 26) := ⟨_, rfl⟩
    have R4 := hide ((RE.out.fresh f3).fresh (show Fresh w3 w4 by rw [hw4]; exact fresh_box _ _ _))
    have v0 : w4.cell? ⟨V, 0, none⟩ = some (.slice ua c uc) := by rw [hV, hw4]; exact cell_block (heap_alloc_new w3 _) 0 _ rfl
    have HV := hide hV
    have HW4 := hide hw4
    clear f3 hV hw4
    go_wp2_with fail
    rw [← HV.out, ← HW4.out]
    refine (GM.out _).mono ?_
    rintro e w5 ⟨rfl, hw5⟩
    subst hw5
    obtain ⟨r0, r1, r2, y0, y1, y2⟩ := R4.out.cells
    have R5 := hide (three_cells R4.out.1 (.int .i64 0) (.slice none 0 0) (.slice none 0 0))
    have F5 := hide (fresh_set (fresh_set (fresh_set R4.out.2.1 R4.out.2.2 0 (.int .i64 0)) R4.out.2.2 1 (.slice none 0 0)) R4.out.2.2 2 (.slice none 0 0))
    clear HW4 HV R4
    go_wp2
    clear r0 r1 r2 y0 y1 y2 v0
    generalize World.setCell _ ⟨R, 2, none⟩ _ = W9 at R5 F5 ⊢
    have h0 : W9.cell? ⟨R, 0, none⟩ = some (.int .i64 0) := cell_block R5.out 0 _ rfl
    have h1 : W9.cell? ⟨R, 1, none⟩ = some (.slice none 0 0) := cell_block R5.out 1 _ rfl
    have h2 : W9.cell? ⟨R, 2, none⟩ = some (.slice none 0 0) := cell_block R5.out 2 _ rfl
    refine bodyPost_ret (by simp [results, Try.results8, go_sem, h0, h1, h2]; try rfl) rfl ?_
    exact ⟨rfl, F5.out⟩
end Go.Proofs.Ytegolecdmpikhaa
