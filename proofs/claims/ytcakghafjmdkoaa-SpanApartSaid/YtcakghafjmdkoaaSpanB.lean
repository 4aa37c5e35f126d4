/- What the program's span answers of pieces over one another (overAny), and its copy (copied), as contracts. -/
import Derived.Test.YtcakghafjmdkoaaSpanA
import Derived.Test.YtcakghafjmdkoaaHeld
import Derived.Deep.RegionWith
namespace Go.Proofs.Ytcakghafjmdkoaa
open Go.RowKit

theorem copied_any (v : Value) (ps : List Pc) (w : World) (h : SpansIn w v ps) :
    Calls Try.prog 23 #[v] w fun e w' => ∃ u, e = .returned u ∧ OwnS w' w.heap.size u ps ∧ Fresh w w' := by
  have H := hide h
  obtain ⟨i0, hi, hz0, hz1, hz2⟩ := infoOf infoSpan
  rcases h.cases with ⟨rfl, rfl⟩ | ⟨b, o, cap, rfl, h1, h2, h3, h4, hc⟩
  · clear h
    go_enter Try.func23, Try.ntmps23
    go_wp2_with (at_builtin; refine wpList_append_own_none rfl _ _ 23 rfl w.heap.size 25 i0 2 Try.underlying23 hi (.slice none 0 0) 0 [] rfl (World.ownsRow_nil _ _ _ _) rfl ?_)
    go_ret
    exact ⟨_, rfl, OwnS.nil _ _, Fresh.refl _⟩
  · have NW := hide H.out.news
    have WL := hide (svals_length ps)
    have W1 := hide (svals_one ps)
    have m1 : 0 + ps.length ≤ maxLen := by unfold maxLen; omega
    have m2 : (0 + ps.length) * 16 ≤ 140737488355328 := by omega
    have FIN := hide (show ∀ v1 w1, w1.ownsRow w.heap.size 25 2 v1 (0 + ps.length) ([] ++ svals ps) → w.grownBy w1 (Value.slice none 0 0).ownBlock → OwnS w1 w.heap.size v1 ps ∧ Fresh w w1 from fun v1 w1 ho hg => by
      rw [Nat.zero_add, List.nil_append] at ho
      exact ⟨ho, (Fresh.refl w).grown hg (Nat.le_refl _) fun k hk => by cases hk⟩)
    clear h hc h4
    go_enter Try.func23, Try.ntmps23
    go_wp2_with (at_builtin; refine wpList_append_own _ rfl _ _ 23 rfl w.heap.size 25 i0 (.agg #[.int .i64 0, .int .i64 0]) 2 16 Try.underlying23 hi hz0 hz1 hz2 rfl (by decide) (.slice none 0 0) 0 [] rfl (World.ownsRow_nil _ _ _ _) ⟨b, o, none⟩ ps.length cap (svals ps) rfl WL.out NW.out W1.out m1 m2 (Nat.le_refl _) ?_; intro v1 w1 hown hgrow _)
    obtain ⟨o1, f1⟩ := FIN.out _ _ hown hgrow
    have O1 := hide o1
    have F1 := hide f1
    clear hown hgrow o1 f1
    go_ret
    exact ⟨_, rfl, O1.out, F1.out⟩

/-- what is held over a region: two pieces -/
def Held4 (W : World) (x n : Nat) (p1 p2 s1 s2 : Int) (w : World) : Prop := w.cell? ⟨x, 0, none⟩ = some (.int .i64 p1) ∧ w.cell? ⟨x, 1, none⟩ = some (.int .i64 p2) ∧ w.cell? ⟨n, 0, none⟩ = some (.int .i64 s1) ∧ w.cell? ⟨n, 1, none⟩ = some (.int .i64 s2) ∧ Fresh W w
theorem Held4.fresh {W : World} {x n : Nat} {p1 p2 s1 s2 : Int} {w w' : World} (h : Held4 W x n p1 p2 s1 s2 w) (k : Fresh w w') : Held4 W x n p1 p2 s1 s2 w' := by
  obtain ⟨a, b, c, d, e⟩ := h
  exact ⟨(k.cell (World.block_lt_of_cell? _ _ a)).trans a, (k.cell (World.block_lt_of_cell? _ _ b)).trans b, (k.cell (World.block_lt_of_cell? _ _ c)).trans c, (k.cell (World.block_lt_of_cell? _ _ d)).trans d, e.trans k⟩
set_option maxHeartbeats 2000000 in
theorem overAny_any (v : Value) (ps : List Pc) (s1 s2 : Int) (w : World) (h : SpansAt w v ps) (hg : Good ps) (hs : aloneB (s1, s2) = true) :
    Calls Try.prog 22 #[v, .agg #[.int .i64 s1, .int .i64 s2]] w fun e w' => e = .returned (.bool (ps.any fun x => overB x (s1, s2))) ∧ Fresh w w' := by
  have H := hide h
  obtain ⟨a, cap, rfl, hl, hl2, hl3, h4, hn0, hc⟩ := h
  have l0 : (0 : Int) ≤ (ps.length : Int) := by omega
  have l1 : (ps.length : Int) ≤ 1048576 := by omega
  have HB : Hid (1 ≤ s2 ∧ 0 ≤ s1 ∧ s1 + s2 ≤ 1099511627776) := (alone_iff (s1, s2)).1 hs
  have G := hide (fun (j : Nat) (hj : j < ps.length) => hg.pos hj)
  have ES := hide (fun w => endOf_any s1 s2 w (by have := HB.out; omega) (by have := HB.out; omega))
  obtain ⟨n, hn⟩ : ∃ n, n = w.heap.size := ⟨_, rfl⟩
  have HN := hide hn
  obtain ⟨W1, hW1⟩ : ∃ W1, W1 = w.alloc (.cells #[.int .i64 s1, .int .i64 s2] 25) := ⟨_, rfl⟩
  have FW := hide (show Fresh w W1 by subst hW1; exact fresh_box _ _ _)
  have BB : W1.heap[n]? = some (.cells #[.int .i64 s1, .int .i64 s2] 25 (0, 0)) := by subst hW1; rw [hn]; exact heap_alloc_new w _
  have SB := hide (show n < W1.heap.size by subst hW1; rw [hn]; simp)
  have s0 : W1.cell? ⟨n, 0, none⟩ = some (.int .i64 s1) := cell_block BB 0 _ rfl
  have s01 : W1.cell? ⟨n, 1, none⟩ = some (.int .i64 s2) := cell_block BB 1 _ rfl
  have S0 := hide s0
  have S1 := hide s01
  have HW := hide hW1
  clear hl hl2 hl3 h4 hn0 hc hg hs s0 s01 BB hW1 hn
  go_enter Try.func22, Try.ntmps22
  go_wp2
  rw [← HW.out, ← HN.out]
  go_loopw [9] (fun i wr => ∃ (j : Nat), j ≤ ps.length ∧ i = .int .i64 (j : Int) ∧ (∀ t, t < j → overB (nth ps t) (s1, s2) = false) ∧ Fresh W1 wr) (fun i _ => (ps.length - intOf i).toNat)
  case atStart => exact ⟨0, Nat.zero_le _, rfl, fun t ht => by omega, Fresh.refl _⟩
  case round =>
    obtain ⟨j, hj, rfl, ha, hf⟩ := hrel
    have F := hide hf
    have A := hide ha
    have s0 := (hf.cell SB.out).trans S0.out
    have s01 := (hf.cell SB.out).trans S1.out
    have hnb : n < wr.heap.size := Nat.lt_of_lt_of_le SB.out hf.size
    clear ha hf
    by_cases g : j < ps.length
    · have g' : (j : Int) < (ps.length : Int) := by omega
      obtain ⟨a', cap', e, _, _, _, _, _, hc⟩ := H.out.fresh (FW.out.trans F.out)
      cases e
      obtain ⟨b, o, rfl, c0, c1⟩ := hc j g
      clear hc
      have HP := hide (G.out j g)
      have AT := hide (fun h => any_true (s := (s1, s2)) g h)
      have A2 := hide (show overB (nth ps j) (s1, s2) = false → ∀ t, t < j + 1 → overB (nth ps t) (s1, s2) = false from fun h t ht => by
        rcases Nat.lt_or_ge t j with h' | h'
        · exact A.out t h'
        · rw [show t = j by omega]; exact h)
      generalize nth ps j = p at *
      obtain ⟨p1, p2⟩ := p
      simp only at c0 c1
      have hb : b < wr.heap.size := World.block_lt_of_cell? _ _ c0
      have HP' : Hid (1 ≤ p2 ∧ 0 ≤ p1 ∧ p1 + p2 ≤ 1099511627776) := HP.out
      have EP := hide (fun w => endOf_any p1 p2 w (by have := HP'.out; omega) (by have := HP'.out; omega))
      have OT : Hid (p1 < s1 + s2 ∧ s1 < p1 + p2 → overB (p1, p2) (s1, s2) = true) := (over_iff (p1, p2) (s1, s2)).2
      have OF : Hid (s1 + s2 ≤ p1 ∨ p1 + p2 ≤ s1 → overB (p1, p2) (s1, s2) = false) := (over_false (p1, p2) (s1, s2)).2
      clear HP
      obtain ⟨W2, hW2⟩ : ∃ W2, W2 = wr.alloc (.cells #[.int .i64 p1, .int .i64 p2] 25) := ⟨_, rfl⟩
      obtain ⟨X, hX⟩ : ∃ X, X = wr.heap.size := ⟨_, rfl⟩
      have F2 := hide (show Fresh W1 W2 by subst hW2; exact fresh_more F.out _ _)
      have HX2 : W2.heap[X]? = some (.cells #[.int .i64 p1, .int .i64 p2] 25 (0, 0)) := by subst hW2; rw [hX]; exact heap_alloc_new wr _
      have x0 : W2.cell? ⟨X, 0, none⟩ = some (.int .i64 p1) := cell_block HX2 0 _ rfl
      have x1 : W2.cell? ⟨X, 1, none⟩ = some (.int .i64 p2) := cell_block HX2 1 _ rfl
      have y0 : W2.cell? ⟨n, 0, none⟩ = some (.int .i64 s1) := (F2.out.cell SB.out).trans S0.out
      have y1 : W2.cell? ⟨n, 1, none⟩ = some (.int .i64 s2) := (F2.out.cell SB.out).trans S1.out
      have HS : Hid (Held4 W1 X n p1 p2 s1 s2 W2.drew) := ⟨x0, x1, y0, y1, F2.out.drew⟩
      have HW2 := hide hW2
      have HX := hide hX
      clear hW2 hX HX2 x0 x1 y0 y1
      by_cases g1 : p1 < s1 + s2
      · by_cases g2 : s1 < p1 + p2
        · have N := hide (AT.out (OT.out ⟨g1, g2⟩))
          go_wp2_with fail
          rw [← HW2.out, ← HX.out]
          refine wp_region_held (S := Held4 W1 X n p1 p2 s1 s2) (by kernel_rfl) ?_
          change wpAnyH _ _ _ _ _ _ _ _ (World.drew _)
          refine held_take (i := 0) (d := 13) (v := ?_) rfl rfl (by kernel_rfl) (by kernel_rfl) (by kernel_rfl) (fun _ _ _ h => h) (by rfl) ?_ HS.out ?_
          rotate_left
          · intro wz hz
            obtain ⟨x0, x1, y0, y1, -⟩ := hz
            go_simp
            first | done | with_reducible rfl
          refine held_take (i := 1) (d := 14) (v := ?_) rfl rfl (by kernel_rfl) (by kernel_rfl) (by kernel_rfl) (fun _ _ _ h => h) (by rfl) ?_ HS.out ?_
          rotate_left
          · intro wz hz
            obtain ⟨x0, x1, y0, y1, -⟩ := hz
            go_simp
            first | done | with_reducible rfl
          refine held_take (i := 2) (d := 15) (v := ?_) rfl rfl (by kernel_rfl) (by kernel_rfl) (by kernel_rfl) (fun _ _ _ h => h) (by rfl) ?_ HS.out ?_
          rotate_left
          · intro wz hz
            obtain ⟨x0, x1, y0, y1, -⟩ := hz
            go_simp
            first | done | with_reducible rfl
          refine wpAnyH_ready (rs := [3]) (by kernel_rfl) (by simp) ?_
          refine AllReadyH.cons rfl (fun K hK => ?_) AllReadyH.nil
          go_simp
          go_wp2_with fail
          refine (ES.out _).mono ?_; rintro e w' ⟨rfl, hw⟩; have HS' := hide (HS.out.fresh (show Fresh _ w' by rw [hw]; exact fresh_box _ _ _)); clear HS hw; have HS := HS'; clear HS'
          refine hK.out _ _ HS.out (fun _ => ?_)
          clear hK K
          refine held_take (i := 4) (d := 17) (v := ?_) rfl rfl (by kernel_rfl) (by kernel_rfl) (by kernel_rfl) (fun _ _ _ h => h) (by rfl) ?_ HS.out ?_
          rotate_left
          · intro wz hz
            obtain ⟨x0, x1, y0, y1, -⟩ := hz
            go_simp
            first | done | with_reducible rfl
          refine held_take (i := 5) (d := 18) (v := ?_) rfl rfl (by kernel_rfl) (by kernel_rfl) (by kernel_rfl) (fun _ _ _ h => h) (by rfl) ?_ HS.out ?_
          rotate_left
          · intro wz hz
            obtain ⟨x0, x1, y0, y1, -⟩ := hz
            go_simp
            first | done | with_reducible rfl
          refine held_take (i := 6) (d := 19) (v := ?_) rfl rfl (by kernel_rfl) (by kernel_rfl) (by kernel_rfl) (fun _ _ _ h => h) (by rfl) ?_ HS.out ?_
          rotate_left
          · intro wz hz
            obtain ⟨x0, x1, y0, y1, -⟩ := hz
            go_simp
            first | done | with_reducible rfl
          refine held_take (i := 7) (d := 20) (v := ?_) rfl rfl (by kernel_rfl) (by kernel_rfl) (by kernel_rfl) (fun _ _ _ h => h) (by rfl) ?_ HS.out ?_
          rotate_left
          · intro wz hz
            obtain ⟨x0, x1, y0, y1, -⟩ := hz
            go_simp
            first | done | with_reducible rfl
          refine held_take (i := 8) (d := 21) (v := ?_) rfl rfl (by kernel_rfl) (by kernel_rfl) (by kernel_rfl) (fun _ _ _ h => h) (by rfl) ?_ HS.out ?_
          rotate_left
          · intro wz hz
            obtain ⟨x0, x1, y0, y1, -⟩ := hz
            go_simp
            first | done | with_reducible rfl
          refine wpAnyH_ready (rs := [9]) (by kernel_rfl) (by simp) ?_
          refine AllReadyH.cons rfl (fun K hK => ?_) AllReadyH.nil
          go_simp
          go_wp2_with fail
          refine (EP.out _).mono ?_; rintro e w' ⟨rfl, hw⟩; have HS' := hide (HS.out.fresh (show Fresh _ w' by rw [hw]; exact fresh_box _ _ _)); clear HS hw; have HS := HS'; clear HS'
          refine hK.out _ _ HS.out (fun _ => ?_)
          clear hK K
          refine held_take (i := 10) (d := 23) (v := ?_) rfl rfl (by kernel_rfl) (by kernel_rfl) (by kernel_rfl) (fun _ _ _ h => h) (by rfl) ?_ HS.out ?_
          rotate_left
          · intro wz hz
            obtain ⟨x0, x1, y0, y1, -⟩ := hz
            go_simp
            first | done | with_reducible rfl
          refine held_take (i := 11) (d := 24) (v := ?_) rfl rfl (by kernel_rfl) (by kernel_rfl) (by kernel_rfl) (fun _ _ _ h => h) (by rfl) ?_ HS.out ?_
          rotate_left
          · intro wz hz
            obtain ⟨x0, x1, y0, y1, -⟩ := hz
            go_simp
            first | done | with_reducible rfl
          refine wpAnyH_done (by kernel_rfl) ?_ _
          simp only [Act.put, List.setIfInBounds_toArray, List.set_cons_succ, List.set_cons_zero]
          go_wp2
          go_ret
          exact ⟨retB (by rw [N.out]), FW.out.trans HS.out.2.2.2.2⟩
        · have N := hide (A2.out (OF.out (by omega)))
          go_wp2_with fail
          rw [← HW2.out, ← HX.out]
          refine wp_region_held (S := Held4 W1 X n p1 p2 s1 s2) (by kernel_rfl) ?_
          change wpAnyH _ _ _ _ _ _ _ _ (World.drew _)
          refine held_take (i := 0) (d := 13) (v := ?_) rfl rfl (by kernel_rfl) (by kernel_rfl) (by kernel_rfl) (fun _ _ _ h => h) (by rfl) ?_ HS.out ?_
          rotate_left
          · intro wz hz
            obtain ⟨x0, x1, y0, y1, -⟩ := hz
            go_simp
            first | done | with_reducible rfl
          refine held_take (i := 1) (d := 14) (v := ?_) rfl rfl (by kernel_rfl) (by kernel_rfl) (by kernel_rfl) (fun _ _ _ h => h) (by rfl) ?_ HS.out ?_
          rotate_left
          · intro wz hz
            obtain ⟨x0, x1, y0, y1, -⟩ := hz
            go_simp
            first | done | with_reducible rfl
          refine held_take (i := 2) (d := 15) (v := ?_) rfl rfl (by kernel_rfl) (by kernel_rfl) (by kernel_rfl) (fun _ _ _ h => h) (by rfl) ?_ HS.out ?_
          rotate_left
          · intro wz hz
            obtain ⟨x0, x1, y0, y1, -⟩ := hz
            go_simp
            first | done | with_reducible rfl
          refine wpAnyH_ready (rs := [3]) (by kernel_rfl) (by simp) ?_
          refine AllReadyH.cons rfl (fun K hK => ?_) AllReadyH.nil
          go_simp
          go_wp2_with fail
          refine (ES.out _).mono ?_; rintro e w' ⟨rfl, hw⟩; have HS' := hide (HS.out.fresh (show Fresh _ w' by rw [hw]; exact fresh_box _ _ _)); clear HS hw; have HS := HS'; clear HS'
          refine hK.out _ _ HS.out (fun _ => ?_)
          clear hK K
          refine held_take (i := 4) (d := 17) (v := ?_) rfl rfl (by kernel_rfl) (by kernel_rfl) (by kernel_rfl) (fun _ _ _ h => h) (by rfl) ?_ HS.out ?_
          rotate_left
          · intro wz hz
            obtain ⟨x0, x1, y0, y1, -⟩ := hz
            go_simp
            first | done | with_reducible rfl
          refine held_take (i := 5) (d := 18) (v := ?_) rfl rfl (by kernel_rfl) (by kernel_rfl) (by kernel_rfl) (fun _ _ _ h => h) (by rfl) ?_ HS.out ?_
          rotate_left
          · intro wz hz
            obtain ⟨x0, x1, y0, y1, -⟩ := hz
            go_simp
            first | done | with_reducible rfl
          refine held_take (i := 6) (d := 19) (v := ?_) rfl rfl (by kernel_rfl) (by kernel_rfl) (by kernel_rfl) (fun _ _ _ h => h) (by rfl) ?_ HS.out ?_
          rotate_left
          · intro wz hz
            obtain ⟨x0, x1, y0, y1, -⟩ := hz
            go_simp
            first | done | with_reducible rfl
          refine held_take (i := 7) (d := 20) (v := ?_) rfl rfl (by kernel_rfl) (by kernel_rfl) (by kernel_rfl) (fun _ _ _ h => h) (by rfl) ?_ HS.out ?_
          rotate_left
          · intro wz hz
            obtain ⟨x0, x1, y0, y1, -⟩ := hz
            go_simp
            first | done | with_reducible rfl
          refine held_take (i := 8) (d := 21) (v := ?_) rfl rfl (by kernel_rfl) (by kernel_rfl) (by kernel_rfl) (fun _ _ _ h => h) (by rfl) ?_ HS.out ?_
          rotate_left
          · intro wz hz
            obtain ⟨x0, x1, y0, y1, -⟩ := hz
            go_simp
            first | done | with_reducible rfl
          refine wpAnyH_ready (rs := [9]) (by kernel_rfl) (by simp) ?_
          refine AllReadyH.cons rfl (fun K hK => ?_) AllReadyH.nil
          go_simp
          go_wp2_with fail
          refine (EP.out _).mono ?_; rintro e w' ⟨rfl, hw⟩; have HS' := hide (HS.out.fresh (show Fresh _ w' by rw [hw]; exact fresh_box _ _ _)); clear HS hw; have HS := HS'; clear HS'
          refine hK.out _ _ HS.out (fun _ => ?_)
          clear hK K
          refine held_take (i := 10) (d := 23) (v := ?_) rfl rfl (by kernel_rfl) (by kernel_rfl) (by kernel_rfl) (fun _ _ _ h => h) (by rfl) ?_ HS.out ?_
          rotate_left
          · intro wz hz
            obtain ⟨x0, x1, y0, y1, -⟩ := hz
            go_simp
            first | done | with_reducible rfl
          refine held_take (i := 11) (d := 24) (v := ?_) rfl rfl (by kernel_rfl) (by kernel_rfl) (by kernel_rfl) (fun _ _ _ h => h) (by rfl) ?_ HS.out ?_
          rotate_left
          · intro wz hz
            obtain ⟨x0, x1, y0, y1, -⟩ := hz
            go_simp
            first | done | with_reducible rfl
          refine wpAnyH_done (by kernel_rfl) ?_ _
          simp only [Act.put, List.setIfInBounds_toArray, List.set_cons_succ, List.set_cons_zero]
          go_wp2
          go_roundw
          case rel => exact ⟨j + 1, by omega, by go_num, N.out, HS.out.2.2.2.2⟩
          case measure => simp [intOf]; omega
      · have N := hide (A2.out (OF.out (by omega)))
        have d1 : decide (p1 < s1 + s2) = false := decide_eq_false g1
        clear g1
        go_wp2_with fail
        rw [← HW2.out, ← HX.out]
        refine wp_region_held (S := Held4 W1 X n p1 p2 s1 s2) (by kernel_rfl) ?_
        change wpAnyH _ _ _ _ _ _ _ _ (World.drew _)
        refine held_take (i := 0) (d := 13) (v := ?_) rfl rfl (by kernel_rfl) (by kernel_rfl) (by kernel_rfl) (fun _ _ _ h => h) (by rfl) ?_ HS.out ?_
        rotate_left
        · intro wz hz
          obtain ⟨x0, x1, y0, y1, -⟩ := hz
          go_simp
          first | done | with_reducible rfl
        refine held_take (i := 1) (d := 14) (v := ?_) rfl rfl (by kernel_rfl) (by kernel_rfl) (by kernel_rfl) (fun _ _ _ h => h) (by rfl) ?_ HS.out ?_
        rotate_left
        · intro wz hz
          obtain ⟨x0, x1, y0, y1, -⟩ := hz
          go_simp
          first | done | with_reducible rfl
        refine held_take (i := 2) (d := 15) (v := ?_) rfl rfl (by kernel_rfl) (by kernel_rfl) (by kernel_rfl) (fun _ _ _ h => h) (by rfl) ?_ HS.out ?_
        rotate_left
        · intro wz hz
          obtain ⟨x0, x1, y0, y1, -⟩ := hz
          go_simp
          first | done | with_reducible rfl
        refine wpAnyH_ready (rs := [3]) (by kernel_rfl) (by simp) ?_
        refine AllReadyH.cons rfl (fun K hK => ?_) AllReadyH.nil
        go_simp
        go_wp2_with fail
        refine (ES.out _).mono ?_; rintro e w' ⟨rfl, hw⟩; have HS' := hide (HS.out.fresh (show Fresh _ w' by rw [hw]; exact fresh_box _ _ _)); clear HS hw; have HS := HS'; clear HS'
        refine hK.out _ _ HS.out (fun _ => ?_)
        clear hK K
        refine held_take (i := 4) (d := 17) (v := ?_) rfl rfl (by kernel_rfl) (by kernel_rfl) (by kernel_rfl) (fun _ _ _ h => h) (by rfl) ?_ HS.out ?_
        rotate_left
        · intro wz hz
          obtain ⟨x0, x1, y0, y1, -⟩ := hz
          go_simp
          first | done | with_reducible rfl
        refine held_take (i := 5) (d := 18) (v := ?_) rfl rfl (by kernel_rfl) (by kernel_rfl) (by kernel_rfl) (fun _ _ _ h => h) (by rfl) ?_ HS.out ?_
        rotate_left
        · intro wz hz
          obtain ⟨x0, x1, y0, y1, -⟩ := hz
          go_simp
          first | done | with_reducible rfl
        refine held_off (i := 6) (d := 19) rfl rfl (by kernel_rfl) (by kernel_rfl) (by kernel_rfl) (fun _ _ _ h => h) (by rfl) HS.out ?_
        refine held_off (i := 7) (d := 20) rfl rfl (by kernel_rfl) (by kernel_rfl) (by kernel_rfl) (fun _ _ _ h => h) (by rfl) HS.out ?_
        refine held_off (i := 8) (d := 21) rfl rfl (by kernel_rfl) (by kernel_rfl) (by kernel_rfl) (fun _ _ _ h => h) (by rfl) HS.out ?_
        refine held_off (i := 9) (d := 22) rfl rfl (by kernel_rfl) (by kernel_rfl) (by kernel_rfl) (fun _ _ _ h => h) (by rfl) HS.out ?_
        refine held_off (i := 10) (d := 23) rfl rfl (by kernel_rfl) (by kernel_rfl) (by kernel_rfl) (fun _ _ _ h => h) (by rfl) HS.out ?_
        refine held_take (i := 11) (d := 24) (v := ?_) rfl rfl (by kernel_rfl) (by kernel_rfl) (by kernel_rfl) (fun _ _ _ h => h) (by rfl) ?_ HS.out ?_
        rotate_left
        · intro wz hz
          obtain ⟨x0, x1, y0, y1, -⟩ := hz
          go_simp
          first | done | with_reducible rfl
        refine wpAnyH_done (by kernel_rfl) ?_ _
        simp only [Act.put, List.setIfInBounds_toArray, List.set_cons_succ, List.set_cons_zero]
        go_wp2
        go_roundw
        case rel => exact ⟨j + 1, by omega, by go_num, N.out, HS.out.2.2.2.2⟩
        case measure => simp [intOf]; omega
    · obtain rfl : j = ps.length := by omega
      have N := hide (any_false A.out)
      go_wp2
      go_ret
      exact ⟨retB (by rw [N.out]), FW.out.trans F.out⟩
end Go.Proofs.Ytcakghafjmdkoaa
