/- May of package slots: true of slots that may be, false of none, as contracts. -/
import Derived.Test.YtpkcihfldmgehaaSlotsA
import Derived.Test.YtpkcihfldmgehaaTreeM
namespace Go.Proofs.Ytpkcihfldmgehaa
open Go.RowKit

theorem TreeAt.tail {w : World} {x y : Value} {n : Nat} {ws : List Nat} (h : TreeAt w (.agg #[x, y]) n ws) : ∃ a l c, y = .slice a l c := by
  obtain ⟨_, _, _, a, c, e, _⟩ := h
  simp at e
  exact ⟨a, _, c, e.2⟩
/-- two boxes of trees -/
def HeldB (W : World) (n m : Nat) (x y : Int) (u v : Value) (w : World) : Prop := w.cell? ⟨n, 0, none⟩ = some (.int .i64 x) ∧ w.cell? ⟨n, 1, none⟩ = some u ∧ w.cell? ⟨m, 0, none⟩ = some (.int .i64 y) ∧ w.cell? ⟨m, 1, none⟩ = some v ∧ Fresh W w
theorem HeldB.fresh {W : World} {n m : Nat} {x y : Int} {u v : Value} {w w' : World} (h : HeldB W n m x y u v w) (k : Fresh w w') : HeldB W n m x y u v w' := by
  obtain ⟨a, b, c, d, e⟩ := h
  exact ⟨(k.cell (World.block_lt_of_cell? _ _ a)).trans a, (k.cell (World.block_lt_of_cell? _ _ b)).trans b, (k.cell (World.block_lt_of_cell? _ _ c)).trans c, (k.cell (World.block_lt_of_cell? _ _ d)).trans d, e.trans k⟩
set_option maxHeartbeats 1000000 in
theorem stells_true (x y : Int) (u v : Value) (n : Nat) (ws ws' : List Nat) (hx : x = (n : Int)) (hy : y = ((2 * n : Nat) : Int)) (w : World) (h : TreeAt w (.agg #[.int .i64 x, u]) n ws) (h' : TreeAt w (.agg #[.int .i64 y, v]) (2 * n) ws') (hb : ∀ j, j < n → bitV ws j = halfB (bitV ws') j) :
    Calls Try.prog 30 #[.agg #[.int .i64 x, u], .agg #[.int .i64 y, v]] w fun e w' => e = .returned (.bool true) ∧ Fresh w w' := by
  obtain ⟨ua, ul, uc, rfl⟩ := h.tail
  obtain ⟨va, vl, vc, rfl⟩ := h'.tail
  obtain ⟨a, ha⟩ : ∃ a, a = w.heap.size := ⟨_, rfl⟩
  obtain ⟨b, hb'⟩ : ∃ b, b = w.heap.size + 1 := ⟨_, rfl⟩
  obtain ⟨W1, hW1⟩ : ∃ W1, W1 = (w.alloc (.cells #[.int .i64 x, .slice ua ul uc] 45)).alloc (.cells #[.int .i64 y, .slice va vl vc] 45) := ⟨_, rfl⟩
  have FW : Fresh w W1 := by rw [hW1]; exact fresh_more (fresh_box _ _ _) _ _
  have bb : W1.heap[b]? = some (.cells #[.int .i64 y, .slice va vl vc] 45 (0, 0)) := by
    rw [hb', hW1]
    have := heap_alloc_new (w.alloc (.cells #[.int .i64 x, .slice ua ul uc] 45)) (.cells #[.int .i64 y, .slice va vl vc] 45 (0, 0))
    rwa [show (w.alloc (.cells #[.int .i64 x, .slice ua ul uc] 45)).heap.size = w.heap.size + 1 by simp] at this
  have ba : W1.heap[a]? = some (.cells #[.int .i64 x, .slice ua ul uc] 45 (0, 0)) := by
    rw [ha, hW1, (fresh_box (w.alloc (.cells #[.int .i64 x, .slice ua ul uc] 45)) #[.int .i64 y, .slice va vl vc] 45).block w.heap.size (by simp)]
    exact heap_alloc_new w _
  have q0 := cell_block ba 0 _ rfl
  have q1 := cell_block bb 0 _ rfl
  have H0 := hide (show HeldB w a b x y (.slice ua ul uc) (.slice va vl vc) W1 from ⟨q0, cell_block ba 1 _ rfl, q1, cell_block bb 1 _ rfl, FW⟩)
  have TA := hide h
  have TB := hide h'
  have HB := hide hb
  have n1 : (1 : Int) ≤ x := by have := h.1; omega
  have n2 : x ≤ 65536 := by have := h.2.1; omega
  have n3 : x * 2 = y := by omega
  have HX := hide hx
  have HA := hide ha
  have HBB := hide hb'
  have HW := hide hW1
  clear ha hb' hW1 FW ba bb h h' hb hx hy
  go_enter Try.func30, Try.ntmps30
  go_wp2
  rw [← HW.out, ← HBB.out, ← HA.out]
  clear q0 q1
  go_loopw [14] (fun i wr => ∃ j : Nat, j ≤ n ∧ i = .int .i64 (j : Int) ∧ HeldB w a b x y (.slice ua ul uc) (.slice va vl vc) wr) (fun i _ => (x - intOf i).toNat)
  case atStart => exact ⟨0, Nat.zero_le _, rfl, H0.out⟩
  case round =>
    obtain ⟨j, hj, rfl, hh⟩ := hrel
    have j0 : (0 : Int) ≤ (j : Int) := by omega
    by_cases g : j < n
    · have g' : (j : Int) < x := by have := HX.out; omega
      have HS : Hid (HeldB w a b x y (.slice ua ul uc) (.slice va vl vc) wr.drew) := hh.fresh (Fresh.refl _).drew
      have e1 := HB.out j g
      have HT := hide (fun w' (k : Fresh w w') => thas_any _ n ws (j : Int) w' (TA.out.fresh k) (by omega) (by omega))
      have LT := hide (fun w' (k : Fresh w w') => live_any _ (2 * n) ws' j w' (TB.out.fresh k) (by omega))
      rw [has_nat g, e1] at HT
      generalize halfB (bitV ws') j = r at HT LT
      clear hh e1 H0
      go_wp2_with fail
      refine wp_region_held (S := HeldB w a b x y (.slice ua ul uc) (.slice va vl vc)) (by kernel_rfl) ?_
      change wpAnyH _ _ _ _ _ _ _ _ (World.drew _)
      generalize World.drew wr = wd at HS ⊢
      refine held_take (i := 0) (d := 17) (v := ?_) rfl rfl (by kernel_rfl) (by kernel_rfl) (by kernel_rfl) (fun _ _ _ h => h) (by kernel_rfl) ?_ HS.out ?_
      rotate_left
      · intro wz hz
        obtain ⟨z0, z1, z2, z3, -⟩ := hz
        go_simp
        first | done | with_reducible rfl
      refine held_take (i := 1) (d := 18) (v := ?_) rfl rfl (by kernel_rfl) (by kernel_rfl) (by kernel_rfl) (fun _ _ _ h => h) (by kernel_rfl) ?_ HS.out ?_
      rotate_left
      · intro wz hz
        obtain ⟨z0, z1, z2, z3, -⟩ := hz
        go_simp
        first | done | with_reducible rfl
      refine held_take (i := 3) (d := 20) (v := ?_) rfl rfl (by kernel_rfl) (by kernel_rfl) (by kernel_rfl) (fun _ _ _ h => h) (by kernel_rfl) ?_ HS.out ?_
      rotate_left
      · intro wz hz
        obtain ⟨z0, z1, z2, z3, -⟩ := hz
        go_simp
        first | done | with_reducible rfl
      refine held_take (i := 4) (d := 21) (v := ?_) rfl rfl (by kernel_rfl) (by kernel_rfl) (by kernel_rfl) (fun _ _ _ h => h) (by kernel_rfl) ?_ HS.out ?_
      rotate_left
      · intro wz hz
        obtain ⟨z0, z1, z2, z3, -⟩ := hz
        go_simp
        first | done | with_reducible rfl
      refine wpAnyH_ready (rs := [2]) (by kernel_rfl) (by simp) ?_
      refine AllReadyH.cons rfl (fun K hK => ?_) AllReadyH.nil
      go_simp
      go_wp2_with fail
      refine (HT.out _ HS.out.2.2.2.2).mono ?_; rintro e w2 ⟨rfl, f2⟩; have HS' := hide (HS.out.fresh f2); clear HS f2; have HS := HS'; clear HS'
      refine hK.out _ _ HS.out (fun _ => ?_)
      clear hK K
      refine wpAnyH_ready (rs := [5]) (by kernel_rfl) (by simp) ?_
      refine AllReadyH.cons rfl (fun K hK => ?_) AllReadyH.nil
      go_simp
      go_wp2_with fail
      refine (LT.out _ HS.out.2.2.2.2).mono ?_; rintro e w3 ⟨rfl, f3⟩; have HS' := hide (HS.out.fresh f3); clear HS f3; have HS := HS'; clear HS'
      refine hK.out _ _ HS.out (fun _ => ?_)
      clear hK K
      refine held_take (i := 6) (d := 23) (v := ?_) rfl rfl (by kernel_rfl) (by kernel_rfl) (by kernel_rfl) (fun _ _ _ h => h) (by kernel_rfl) ?_ HS.out ?_
      rotate_left
      · intro wz hz
        obtain ⟨z0, z1, z2, z3, -⟩ := hz
        go_simp
        first | done | with_reducible rfl
      refine wpAnyH_done (by kernel_rfl) ?_ _
      try simp only [Act.put, List.setIfInBounds_toArray, List.set_cons_succ, List.set_cons_zero]
      go_wp2
      go_roundw
      case rel => exact ⟨j + 1, by omega, by go_num, HS.out⟩
      case measure => simp [intOf]; omega
    · have g' : x ≤ (j : Int) := by have := HX.out; omega
      clear H0
      have F := hide hh.2.2.2.2
      clear hh
      go_wp2
      go_ret
      exact ⟨rfl, F.out⟩
theorem smay_none (w : World) : Calls Try.prog 14 #[noSlots] w fun e w' => e = .returned (.bool false) ∧ Fresh w w' := by
  unfold noSlots
  have FB := hide (fresh_box w #[.slice none 0 0] 26)
  go_enter Try.func14, Try.ntmps14
  go_wp2
  refine wp_loop_rounds 1 ?_
  rw [rounds_succ]
  go_wp2
  go_ret
  exact ⟨rfl, FB.out⟩
/-- the tree's box -/
def HeldP (W : World) (t : Nat) (x : Int) (u : Value) (w : World) : Prop := w.cell? ⟨t, 0, none⟩ = some (.int .i64 x) ∧ w.cell? ⟨t, 1, none⟩ = some u ∧ Fresh W w
theorem HeldP.fresh {W : World} {t : Nat} {x : Int} {u : Value} {w w' : World} (h : HeldP W t x u w) (k : Fresh w w') : HeldP W t x u w' := by
  obtain ⟨a, b, c⟩ := h
  exact ⟨(k.cell (World.block_lt_of_cell? _ _ a)).trans a, (k.cell (World.block_lt_of_cell? _ _ b)).trans b, c.trans k⟩
/-- the slots' box, the tree's, and the one below -/
def HeldM (W : World) (n t b o c cap q : Nat) (x y : Int) (u v : Value) (w : World) : Prop := w.cell? ⟨n, 0, none⟩ = some (.slice (some ⟨b, o, none⟩) c cap) ∧ w.cell? ⟨b, o + q, none⟩ = some (.int .i64 y) ∧ w.cell? ⟨b, o + q + 1, none⟩ = some v ∧ HeldP W t x u w
theorem HeldM.fresh {W : World} {n t b o c cap q : Nat} {x y : Int} {u v : Value} {w w' : World} (h : HeldM W n t b o c cap q x y u v w) (k : Fresh w w') : HeldM W n t b o c cap q x y u v w' := by
  obtain ⟨d, e, f, g⟩ := h
  exact ⟨(k.cell (World.block_lt_of_cell? _ _ d)).trans d, (k.cell (World.block_lt_of_cell? _ _ e)).trans e, (k.cell (World.block_lt_of_cell? _ _ f)).trans f, g.fresh k⟩
set_option maxHeartbeats 2000000 in
theorem smay_true (v : Value) (N c : Nat) (p : Nat → Bool) (w : World) (h : SlotsAt w v N c p) : Calls Try.prog 14 #[v] w fun e w' => e = .returned (.bool true) ∧ Fresh w w' := by
  obtain ⟨hc, a, cap, rfl, h1, h2, ht⟩ := h
  obtain ⟨b, o, _, rfl, _, _, _⟩ := ht 0 hc.1
  obtain ⟨n, hn⟩ : ∃ n, n = w.heap.size := ⟨_, rfl⟩
  obtain ⟨W1, hW1⟩ : ∃ W1, W1 = w.alloc (.cells #[.slice (some ⟨b, o, none⟩) c cap] 26) := ⟨_, rfl⟩
  have FW := hide (show Fresh w W1 by rw [hW1]; exact fresh_box _ _ _)
  have BN := hide (show W1.heap[n]? = some (.cells #[.slice (some ⟨b, o, none⟩) c cap] 26 (0, 0)) by rw [hn, hW1]; exact heap_alloc_new w _)
  have HT := hide (ht.fresh FW.out)
  have HC := hide hc
  have c0 : (1 : Int) ≤ (c : Int) := by have := hc.1; omega
  have c1 : (c : Int) ≤ 17 := by have := hc.2.1; omega
  have HN := hide hn
  have HW := hide hW1
  clear hn hW1 hc ht h1 h2
  go_enter Try.func14, Try.ntmps14
  go_wp2
  rw [← HW.out, ← HN.out]
  go_loopw [8] (fun i wr => ∃ j : Nat, j ≤ c ∧ i = .int .i64 (j : Int) ∧ Fresh W1 wr) (fun i _ => (c - intOf i).toNat)
  case atStart => exact ⟨0, Nat.zero_le _, rfl, Fresh.refl _⟩
  case round =>
    obtain ⟨k, hk, rfl, hf⟩ := hrel
    have k0 : (0 : Int) ≤ (k : Int) := by omega
    have nc := cell_block (show wr.heap[n]? = some (.cells #[.slice (some ⟨b, o, none⟩) c cap] 26 (0, 0)) by rw [hf.block n (Array.getElem?_eq_some_iff.1 BN.out).1]; exact BN.out) 0 _ rfl
    by_cases g : k < c
    · have k1 : (k : Int) < (c : Int) := by omega
      obtain ⟨b', o', lv, e', d0, d1, t⟩ := HT.out.fresh hf k g
      cases e'
      obtain ⟨la, ll, lc, rfl⟩ := t.tail
      obtain ⟨T, hT⟩ : ∃ T, T = wr.heap.size := ⟨_, rfl⟩
      have MT := hide (fun w' (k2 : Fresh wr w') => may_true _ (N / 2 ^ k) (trW N p k) w' (t.fresh k2))
      have TT := hide t
      have HF := hide hf
      have BT : ∀ x, (wr.alloc (.cells #[.int .i64 x, .slice la ll lc] 45)).heap[T]? = some (.cells #[.int .i64 x, .slice la ll lc] 45 (0, 0)) := fun x => by rw [hT]; exact heap_alloc_new wr _
      have HTT := hide hT
      by_cases hk0 : k = 0
      · have kz : (k : Int) ≤ 0 := by omega
        have kd : decide ((0 : Int) < (k : Int)) = false := decide_eq_false (by omega)
        have kd2 : decide (0 < k) = false := decide_eq_false (by omega)
        generalize ((N / 2 ^ k : Nat) : Int) = nn at d0 MT
        have BT' := hide (BT nn)
        clear hf t hT BT hk0 TT
        go_wp2_with fail
        rw [← HTT.out]
        have F1 := hide (fresh_box wr #[.int .i64 nn, .slice la ll lc] 45)
        generalize wr.alloc (.cells #[.int .i64 nn, .slice la ll lc] 45) = wz at BT' F1 ⊢
        have HS : Hid (HeldP wr T nn (.slice la ll lc) wz.drew) := HeldP.fresh ⟨cell_block BT'.out 0 _ rfl, cell_block BT'.out 1 _ rfl, F1.out⟩ (Fresh.refl wz).drew
        refine wp_region_held (S := HeldP wr T nn (.slice la ll lc)) (by kernel_rfl) ?_
        change wpAnyH _ _ _ _ _ _ _ _ (World.drew _)
        generalize World.drew wz = wd at HS ⊢
        refine held_take (i := 0) (d := 13) (v := ?_) rfl rfl (by kernel_rfl) (by kernel_rfl) (by kernel_rfl) (fun _ _ _ h => h) (by kernel_rfl) ?_ HS.out ?_
        rotate_left
        · intro wz hz
          obtain ⟨z0, z1, -⟩ := hz
          go_simp
          first | done | with_reducible rfl
        refine wpAnyH_ready (rs := [1]) (by kernel_rfl) (by simp) ?_
        refine AllReadyH.cons rfl (fun K hK => ?_) AllReadyH.nil
        go_simp
        go_wp2_with fail
        refine (MT.out _ HS.out.2.2).mono ?_; rintro e w2 ⟨rfl, f2⟩; have HS' := hide (HS.out.fresh f2); clear HS f2; have HS := HS'; clear HS'
        refine hK.out _ _ HS.out (fun _ => ?_)
        clear hK K
        refine held_take (i := 2) (d := 15) (v := ?_) rfl rfl (by kernel_rfl) (by kernel_rfl) (by kernel_rfl) (fun _ _ _ h => h) (by kernel_rfl) ?_ HS.out ?_
        rotate_left
        · intro wz hz
          obtain ⟨z0, z1, -⟩ := hz
          go_simp
          first | done | with_reducible rfl
        refine held_take (i := 3) (d := 16) (v := ?_) rfl rfl (by kernel_rfl) (by kernel_rfl) (by kernel_rfl) (fun _ _ _ h => h) (by kernel_rfl) ?_ HS.out ?_
        rotate_left
        · intro wz hz
          obtain ⟨z0, z1, -⟩ := hz
          go_simp
          first | done | with_reducible rfl
        refine held_take (i := 4) (d := 17) (v := ?_) rfl rfl (by kernel_rfl) (by kernel_rfl) (by kernel_rfl) (fun _ _ _ h => h) (by kernel_rfl) ?_ HS.out ?_
        rotate_left
        · intro wz hz
          obtain ⟨z0, z1, -⟩ := hz
          go_simp
          first | done | with_reducible rfl
        refine held_take (i := 5) (d := 18) (v := ?_) rfl rfl (by kernel_rfl) (by kernel_rfl) (by kernel_rfl) (fun _ _ _ h => h) (by kernel_rfl) ?_ HS.out ?_
        rotate_left
        · intro wz hz
          obtain ⟨z0, z1, -⟩ := hz
          go_simp
          first | done | with_reducible rfl
        refine held_take (i := 6) (d := 19) (v := ?_) rfl rfl (by kernel_rfl) (by kernel_rfl) (by kernel_rfl) (fun _ _ _ h => h) (by kernel_rfl) ?_ HS.out ?_
        rotate_left
        · intro wz hz
          obtain ⟨z0, z1, -⟩ := hz
          go_simp
          first | done | with_reducible rfl
        refine held_off (i := 7) (d := 20) rfl rfl (by kernel_rfl) (by kernel_rfl) (by kernel_rfl) (fun _ _ _ h => h) (by kernel_rfl) HS.out ?_
        refine held_off (i := 8) (d := 21) rfl rfl (by kernel_rfl) (by kernel_rfl) (by kernel_rfl) (fun _ _ _ h => h) (by kernel_rfl) HS.out ?_
        refine held_off (i := 9) (d := 22) rfl rfl (by kernel_rfl) (by kernel_rfl) (by kernel_rfl) (fun _ _ _ h => h) (by kernel_rfl) HS.out ?_
        refine held_off (i := 10) (d := 23) rfl rfl (by kernel_rfl) (by kernel_rfl) (by kernel_rfl) (fun _ _ _ h => h) (by kernel_rfl) HS.out ?_
        refine held_off (i := 11) (d := 24) rfl rfl (by kernel_rfl) (by kernel_rfl) (by kernel_rfl) (fun _ _ _ h => h) (by kernel_rfl) HS.out ?_
        refine held_off (i := 12) (d := 25) rfl rfl (by kernel_rfl) (by kernel_rfl) (by kernel_rfl) (fun _ _ _ h => h) (by kernel_rfl) HS.out ?_
        refine held_off (i := 13) (d := 26) rfl rfl (by kernel_rfl) (by kernel_rfl) (by kernel_rfl) (fun _ _ _ h => h) (by kernel_rfl) HS.out ?_
        refine held_off (i := 14) (d := 27) rfl rfl (by kernel_rfl) (by kernel_rfl) (by kernel_rfl) (fun _ _ _ h => h) (by kernel_rfl) HS.out ?_
        refine held_off (i := 15) (d := 28) rfl rfl (by kernel_rfl) (by kernel_rfl) (by kernel_rfl) (fun _ _ _ h => h) (by kernel_rfl) HS.out ?_
        refine held_take (i := 16) (d := 29) (v := ?_) rfl rfl (by kernel_rfl) (by kernel_rfl) (by kernel_rfl) (fun _ _ _ h => h) (by kernel_rfl) ?_ HS.out ?_
        rotate_left
        · intro wz hz
          obtain ⟨z0, z1, -⟩ := hz
          go_simp
          first | done | with_reducible rfl
        refine held_take (i := 17) (d := 30) (v := ?_) rfl rfl (by kernel_rfl) (by kernel_rfl) (by kernel_rfl) (fun _ _ _ h => h) (by kernel_rfl) ?_ HS.out ?_
        rotate_left
        · intro wz hz
          obtain ⟨z0, z1, -⟩ := hz
          go_simp
          first | done | with_reducible rfl
        refine wpAnyH_done (by kernel_rfl) ?_ _
        try simp only [Act.put, List.setIfInBounds_toArray, List.set_cons_succ, List.set_cons_zero]
        go_wp2
        go_roundw
        case rel => exact ⟨k + 1, by omega, by go_num, HF.out.trans HS.out.2.2⟩
        case measure => simp [intOf]; omega
      · obtain ⟨j, hj⟩ : ∃ j, k = j + 1 := ⟨k - 1, by omega⟩
        obtain ⟨b', o', lv, e', g0, g1, u⟩ := HT.out.fresh hf j (by omega)
        cases e'
        obtain ⟨ya, yl, yc, rfl⟩ := u.tail
        have HH : 2 * (N / 2 ^ (j + 1)) = N / 2 ^ j := HC.out.half (by omega)
        rw [← hj] at HH
        have BI : ∀ i, i < N / 2 ^ k → bitV (trW N p k) i = halfB (bitV (trW N p j)) i := fun i hi => by
          unfold halfB
          rw [tr_bit hi, tr_bit (by omega), tr_bit (by omega), hj]; rfl
        have ST := hide (fun w' (k2 : Fresh wr w') => stells_true ((N / 2 ^ k : Nat) : Int) ((N / 2 ^ j : Nat) : Int) (.slice la ll lc) (.slice ya yl yc) (N / 2 ^ k) (trW N p k) (trW N p j) rfl (by rw [HH]) w' (t.fresh k2) (by rw [HH]; exact u.fresh k2) BI)
        have i1 : (0 : Int) < (k : Int) := by omega
        have kd : decide ((0 : Int) < (k : Int)) = true := decide_eq_true (by omega)
        have kd2 : decide (0 < k) = true := decide_eq_true (by omega)
        have i3 : (k : Int) - 1 = (j : Int) := by omega
        have i6 : IntKind.i64.wrap (j : Int) = (j : Int) := by rw [IntKind.wrap_i64]; omega
        have i4 : (j : Int) < (c : Int) := by omega
        have i5 : (0 : Int) ≤ (j : Int) := by omega
        generalize ((N / 2 ^ k : Nat) : Int) = nn at d0 MT ST
        generalize ((N / 2 ^ j : Nat) : Int) = mm at g0 ST
        have BT' := hide (BT nn)
        have G0 := hide g0
        have G1 := hide g1
        have NC := hide nc
        clear hf t u hT BT hk0 TT HH BI hj
        go_wp2_with fail
        rw [← HTT.out]
        have F1 := hide (fresh_box wr #[.int .i64 nn, .slice la ll lc] 45)
        generalize wr.alloc (.cells #[.int .i64 nn, .slice la ll lc] 45) = wz at BT' F1 ⊢
        have HS : Hid (HeldM wr n T b o c cap (j * 2) nn mm (.slice la ll lc) (.slice ya yl yc) wz.drew) := HeldM.fresh ⟨(F1.out.cell (World.block_lt_of_cell? _ _ NC.out)).trans NC.out, (F1.out.cell (World.block_lt_of_cell? _ _ G0.out)).trans G0.out, (F1.out.cell (World.block_lt_of_cell? _ _ G1.out)).trans G1.out, cell_block BT'.out 0 _ rfl, cell_block BT'.out 1 _ rfl, F1.out⟩ (Fresh.refl wz).drew
        refine wp_region_held (S := HeldM wr n T b o c cap (j * 2) nn mm (.slice la ll lc) (.slice ya yl yc)) (by kernel_rfl) ?_
        change wpAnyH _ _ _ _ _ _ _ _ (World.drew _)
        generalize World.drew wz = wd at HS ⊢
        refine held_take (i := 0) (d := 13) (v := ?_) rfl rfl (by kernel_rfl) (by kernel_rfl) (by kernel_rfl) (fun _ _ _ h => h) (by kernel_rfl) ?_ HS.out ?_
        rotate_left
        · intro wz hz
          obtain ⟨z2, z3, z4, z0, z1, -⟩ := hz
          go_simp
          first | done | with_reducible rfl
        refine wpAnyH_ready (rs := [1]) (by kernel_rfl) (by simp) ?_
        refine AllReadyH.cons rfl (fun K hK => ?_) AllReadyH.nil
        go_simp
        go_wp2_with fail
        refine (MT.out _ HS.out.2.2.2.2.2).mono ?_; rintro e w2 ⟨rfl, f2⟩; have HS' := hide (HS.out.fresh f2); clear HS f2; have HS := HS'; clear HS'
        refine hK.out _ _ HS.out (fun _ => ?_)
        clear hK K
        refine held_take (i := 2) (d := 15) (v := ?_) rfl rfl (by kernel_rfl) (by kernel_rfl) (by kernel_rfl) (fun _ _ _ h => h) (by kernel_rfl) ?_ HS.out ?_
        rotate_left
        · intro wz hz
          obtain ⟨z2, z3, z4, z0, z1, -⟩ := hz
          go_simp
          first | done | with_reducible rfl
        refine held_take (i := 3) (d := 16) (v := ?_) rfl rfl (by kernel_rfl) (by kernel_rfl) (by kernel_rfl) (fun _ _ _ h => h) (by kernel_rfl) ?_ HS.out ?_
        rotate_left
        · intro wz hz
          obtain ⟨z2, z3, z4, z0, z1, -⟩ := hz
          go_simp
          first | done | with_reducible rfl
        refine held_take (i := 4) (d := 17) (v := ?_) rfl rfl (by kernel_rfl) (by kernel_rfl) (by kernel_rfl) (fun _ _ _ h => h) (by kernel_rfl) ?_ HS.out ?_
        rotate_left
        · intro wz hz
          obtain ⟨z2, z3, z4, z0, z1, -⟩ := hz
          go_simp
          first | done | with_reducible rfl
        refine held_take (i := 5) (d := 18) (v := ?_) rfl rfl (by kernel_rfl) (by kernel_rfl) (by kernel_rfl) (fun _ _ _ h => h) (by kernel_rfl) ?_ HS.out ?_
        rotate_left
        · intro wz hz
          obtain ⟨z2, z3, z4, z0, z1, -⟩ := hz
          go_simp
          first | done | with_reducible rfl
        refine held_take (i := 6) (d := 19) (v := ?_) rfl rfl (by kernel_rfl) (by kernel_rfl) (by kernel_rfl) (fun _ _ _ h => h) (by kernel_rfl) ?_ HS.out ?_
        rotate_left
        · intro wz hz
          obtain ⟨z2, z3, z4, z0, z1, -⟩ := hz
          go_simp
          first | done | with_reducible rfl
        refine held_take (i := 7) (d := 20) (v := ?_) rfl rfl (by kernel_rfl) (by kernel_rfl) (by kernel_rfl) (fun _ _ _ h => h) (by kernel_rfl) ?_ HS.out ?_
        rotate_left
        · intro wz hz
          obtain ⟨z2, z3, z4, z0, z1, -⟩ := hz
          go_simp
          first | done | with_reducible rfl
        refine held_take (i := 8) (d := 21) (v := ?_) rfl rfl (by kernel_rfl) (by kernel_rfl) (by kernel_rfl) (fun _ _ _ h => h) (by kernel_rfl) ?_ HS.out ?_
        rotate_left
        · intro wz hz
          obtain ⟨z2, z3, z4, z0, z1, -⟩ := hz
          go_simp
          first | done | with_reducible rfl
        refine held_take (i := 9) (d := 22) (v := ?_) rfl rfl (by kernel_rfl) (by kernel_rfl) (by kernel_rfl) (fun _ _ _ h => h) (by kernel_rfl) ?_ HS.out ?_
        rotate_left
        · intro wz hz
          obtain ⟨z2, z3, z4, z0, z1, -⟩ := hz
          go_simp
          first | done | with_reducible rfl
        refine held_take (i := 10) (d := 23) (v := ?_) rfl rfl (by kernel_rfl) (by kernel_rfl) (by kernel_rfl) (fun _ _ _ h => h) (by kernel_rfl) ?_ HS.out ?_
        rotate_left
        · intro wz hz
          obtain ⟨z2, z3, z4, z0, z1, -⟩ := hz
          go_simp
          first | done | with_reducible rfl
        refine held_take (i := 11) (d := 24) (v := ?_) rfl rfl (by kernel_rfl) (by kernel_rfl) (by kernel_rfl) (fun _ _ _ h => h) (by kernel_rfl) ?_ HS.out ?_
        rotate_left
        · intro wz hz
          obtain ⟨z2, z3, z4, z0, z1, -⟩ := hz
          go_simp
          first | done | with_reducible rfl
        refine held_take (i := 12) (d := 25) (v := ?_) rfl rfl (by kernel_rfl) (by kernel_rfl) (by kernel_rfl) (fun _ _ _ h => h) (by kernel_rfl) ?_ HS.out ?_
        rotate_left
        · intro wz hz
          obtain ⟨z2, z3, z4, z0, z1, -⟩ := hz
          go_simp
          first | done | with_reducible rfl
        refine held_take (i := 13) (d := 26) (v := ?_) rfl rfl (by kernel_rfl) (by kernel_rfl) (by kernel_rfl) (fun _ _ _ h => h) (by kernel_rfl) ?_ HS.out ?_
        rotate_left
        · intro wz hz
          obtain ⟨z2, z3, z4, z0, z1, -⟩ := hz
          go_simp
          first | done | with_reducible rfl
        refine wpAnyH_ready (rs := [14]) (by kernel_rfl) (by simp) ?_
        refine AllReadyH.cons rfl (fun K hK => ?_) AllReadyH.nil
        go_simp
        go_wp2_with fail
        refine (ST.out _ HS.out.2.2.2.2.2).mono ?_; rintro e w3 ⟨rfl, f3⟩; have HS' := hide (HS.out.fresh f3); clear HS f3; have HS := HS'; clear HS'
        refine hK.out _ _ HS.out (fun _ => ?_)
        clear hK K
        refine held_take (i := 15) (d := 28) (v := ?_) rfl rfl (by kernel_rfl) (by kernel_rfl) (by kernel_rfl) (fun _ _ _ h => h) (by kernel_rfl) ?_ HS.out ?_
        rotate_left
        · intro wz hz
          obtain ⟨z2, z3, z4, z0, z1, -⟩ := hz
          go_simp
          first | done | with_reducible rfl
        refine held_take (i := 16) (d := 29) (v := ?_) rfl rfl (by kernel_rfl) (by kernel_rfl) (by kernel_rfl) (fun _ _ _ h => h) (by kernel_rfl) ?_ HS.out ?_
        rotate_left
        · intro wz hz
          obtain ⟨z2, z3, z4, z0, z1, -⟩ := hz
          go_simp
          first | done | with_reducible rfl
        refine held_take (i := 17) (d := 30) (v := ?_) rfl rfl (by kernel_rfl) (by kernel_rfl) (by kernel_rfl) (fun _ _ _ h => h) (by kernel_rfl) ?_ HS.out ?_
        rotate_left
        · intro wz hz
          obtain ⟨z2, z3, z4, z0, z1, -⟩ := hz
          go_simp
          first | done | with_reducible rfl
        refine wpAnyH_done (by kernel_rfl) ?_ _
        try simp only [Act.put, List.setIfInBounds_toArray, List.set_cons_succ, List.set_cons_zero]
        go_wp2
        go_roundw
        case rel => exact ⟨k + 1, by omega, by go_num, HF.out.trans HS.out.2.2.2.2.2⟩
        case measure => simp [intOf]; omega
    · obtain rfl : c = k := by omega
      have F := hide (FW.out.trans hf)
      clear hf
      go_wp2
      go_ret
      exact ⟨retB (decide_eq_true (by omega)), F.out⟩
end Go.Proofs.Ytpkcihfldmgehaa
