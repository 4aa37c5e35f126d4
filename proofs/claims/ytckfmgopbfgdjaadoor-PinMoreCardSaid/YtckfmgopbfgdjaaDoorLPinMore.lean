/- Proved here: hodmanlaw12.PinMore, called with three bytes and any slice of pairs of bytes, in any memory in which the library's table math/bits.deBruijn64tab lies as its initialiser lays it, returns true: with one more block no page less is met, and as many more at most as it has, is what follows from promise P12.1. No condition besides. -/
import Derived.Test.YtckfmgopbfgdjaaDoorPinLaw
import Derived.Test.YtckfmgopbfgdjaaDoorPlayBlocks
import Derived.Test.YtckfmgopbfgdjaaDoorOpen2
import Derived.Test.YtckfmgopbfgdjaaDoorCards
import Derived.Test.YtckfmgopbfgdjaaDoorTie
namespace Go.Proofs.YtckfmgopbfgdjaaDoor
open Go.ChangeShapes Go.WideShapes Go.ChangeAt Go.RowKit

/-- a block that is read -/
def HeldK (W : World) (b : Nat) (x y : Int) (w : World) : Prop := w.cell? ⟨b, 0, none⟩ = some (.int .i64 x) ∧ w.cell? ⟨b, 1, none⟩ = some (.int .i64 y) ∧ w.cell? ⟨b, 2, none⟩ = some (.int .i64 0) ∧ Fresh W w
theorem HeldK.fresh {W : World} {b : Nat} {x y : Int} {w w' : World} (h : HeldK W b x y w) (k : Fresh w w') : HeldK W b x y w' :=
  ⟨(k.cell (World.block_lt_of_cell? _ _ h.1)).trans h.1, (k.cell (World.block_lt_of_cell? _ _ h.2.1)).trans h.2.1, (k.cell (World.block_lt_of_cell? _ _ h.2.2.1)).trans h.2.2.1, h.2.2.2.trans k⟩

theorem byte_rem (x : Int) (x0 : 0 ≤ x) : ∃ T : Nat, x.tmod 40 = (T : Int) ∧ T ≤ 39 :=
  ⟨(x.tmod 40).toNat, by rw [Int.tmod_eq_emod_of_nonneg x0]; omega, by rw [Int.tmod_eq_emod_of_nonneg x0]; omega⟩

set_option maxRecDepth 100000 in
set_option maxHeartbeats 2000000 in
theorem pinMore_walk0 (x : Int) (x0 : 0 ≤ x) (_x1 : x ≤ 255) (a : Option Addr) (len cap : Nat) (y : Int) (y0 : 0 ≤ y) (y1 : y ≤ 255) (z : Int) (z0 : 0 ≤ z) (_z1 : z ≤ 255) (w : World) (hR : IsDuo w a len ∧ len ≤ maxLen) (hT : Tab w) :
    Calls Tryd.prog 5 #[.int .u8 x, .slice a len cap, .int .u8 y, .int .u8 z] w fun e w' => e = .returned (.bool true) ∧ Fresh w w' := by
  have HT := hide hT
  obtain ⟨zs, hz, hd⟩ := duo_list hR.1
  have HD := hide hd
  have ZL := hide hz
  have l0 : (0 : Int) ≤ (len : Int) := by omega
  have lm : (len : Int) ≤ 9223372036854775807 := by have := hR.2; unfold maxLen at this; omega
  clear hT hR hd hz
  by_cases g : 10 < len
  · have g' : (10 : Int) < (len : Int) := by omega
    go_enter Tryd.func5, Tryd.ntmps5
    go_wp2_with fail
    refine (begun12_true _ HT.out).mono ?_
    rintro e w1 ⟨rfl, k1⟩
    have K1 := hide k1
    clear k1
    go_wp2
    go_ret
    exact ⟨rfl, K1.out⟩
  · have g' : (len : Int) ≤ 10 := by omega
    have SM := hide (blL_small HD.out)
    have LB := hide (show (blL zs).length = len by rw [blL_length, ZL.out])
    obtain ⟨T, t1, t2⟩ := byte_rem x x0
    obtain ⟨U, u1, u2⟩ := byte_rem z z0
    obtain ⟨Y, rfl⟩ := Int.eq_ofNat_of_zero_le y0
    obtain ⟨P, hP⟩ : ∃ P : Nat, P = 1 + T := ⟨_, rfl⟩
    obtain ⟨M, hM⟩ : ∃ M : Nat, M = 1 + U := ⟨_, rfl⟩
    have t3 : (0 : Int) ≤ (T : Int) := by omega
    have t4 : (T : Int) ≤ 39 := by omega
    have t5 : 1 + (T : Int) = (P : Int) := by omega
    have t6 : IntKind.i64.wrap (T : Int) = (T : Int) := by rw [IntKind.wrap_i64]; omega
    have t7 : IntKind.i64.wrap (1 + (T : Int)) = (P : Int) := by rw [IntKind.wrap_i64]; omega
    have u3 : (0 : Int) ≤ (U : Int) := by omega
    have u4 : (U : Int) ≤ 39 := by omega
    have u5 : 1 + (U : Int) = (M : Int) := by omega
    have u6 : IntKind.i64.wrap (U : Int) = (U : Int) := by rw [IntKind.wrap_i64]; omega
    have u7 : IntKind.i64.wrap (1 + (U : Int)) = (M : Int) := by rw [IntKind.wrap_i64]; omega
    have u8 : IntKind.i64.wrap (Y : Int) = (Y : Int) := by rw [IntKind.wrap_i64]; omega
    have p1 : (1 : Int) ≤ (P : Int) := by omega
    have p2 : (P : Int) ≤ 40 := by omega
    have m1 : (1 : Int) ≤ (M : Int) := by omega
    have m2 : (M : Int) ≤ 40 := by omega
    have P1 := hide (show 1 ≤ P by omega)
    have P2 := hide (show P ≤ 40 by omega)
    have M1 := hide (show 1 ≤ M by omega)
    have M2 := hide (show M ≤ 40 by omega)
    have Y2 := hide (show Y ≤ 255 by omega)
    obtain ⟨L, hL⟩ : ∃ L : Nat, 320 / P = L := ⟨_, rfl⟩
    have HL := hide hL
    have q2 : (0 : Int) ≤ (L : Int) := by omega
    have q3 : (L : Int) ≤ 320 := by have : 320 / P ≤ 320 := Nat.div_le_self _ _; omega
    have L3 := hide (show L ≤ 320 by omega)
    clear hP t2 hL hM u2
    generalize hbl : blL zs = bl at *
    have HB := hide hbl
    clear hbl
    go_enter Tryd.func5, Tryd.ntmps5
    go_wp2_with fail
    refine (begun12_true _ HT.out).mono ?_
    rintro e w1 ⟨rfl, k1⟩
    have K1 := hide k1
    clear k1
    go_wp2_with fail
    refine (blocks_any a zs len cap w1 (HD.out.fresh K1.out) ZL.out (by omega)).mono ?_
    rintro e w2 ⟨u, rfl, o2, f2⟩
    rw [HB.out] at o2
    have B2 := hide (o2.at (by have := LB.out; omega) (fun p hp => (SM.out p hp).1))
    obtain ⟨oa, oc, rfl⟩ := o2.shape
    have K2 := hide (K1.out.trans f2)
    clear o2 f2 K1
    go_wp2_with fail
    obtain ⟨i0, hi, hz0, hz1, hz2⟩ := infoOf infoBlock
    obtain ⟨wv, hwv⟩ : ∃ wv, wv = w2.alloc (.cells #[.int .i64 (Y : Int), .int .i64 (M : Int), .int .i64 0] 31) := ⟨_, rfl⟩
    have FV := hide (show Fresh w2 wv from hwv ▸ fresh_box _ _ _)
    have BV : wv.heap[w2.heap.size]? = some (.cells #[.int .i64 (Y : Int), .int .i64 (M : Int), .int .i64 0] 31 (0, 0)) := hwv ▸ heap_alloc_new w2 _
    rw [← hwv]
    generalize w2.heap.size = b at BV ⊢
    have HS : Hid (HeldK wv b (Y : Int) (M : Int) wv.drew) := HeldK.fresh ⟨cell_block BV 0 _ rfl, cell_block BV 1 _ rfl, cell_block BV 2 _ rfl, Fresh.refl _⟩ (Fresh.refl wv).drew
    clear hwv BV t1 u1 t3 t4 t5 t6 t7 u3 u4 u5 u6 u7 u8
    refine wp_region_held (S := HeldK wv b (Y : Int) (M : Int)) (by kernel_rfl) ?_
    change wpAnyH _ _ _ _ _ _ _ _ (World.drew _)
    generalize World.drew wv = wd at HS ⊢
    refine held_take (i := 0) (d := 35) (v := ?_) rfl rfl (by kernel_rfl) (by kernel_rfl) (by kernel_rfl) (fun _ _ _ h => h) (by kernel_rfl) ?_ HS.out ?_
    rotate_left
    · intro wz hz
      obtain ⟨c0, c1, c2, -⟩ := hz
      go_simp
      first | done | with_reducible rfl
    refine held_take (i := 1) (d := 36) (v := ?_) rfl rfl (by kernel_rfl) (by kernel_rfl) (by kernel_rfl) (fun _ _ _ h => h) (by kernel_rfl) ?_ HS.out ?_
    rotate_left
    · intro wz hz
      obtain ⟨c0, c1, c2, -⟩ := hz
      go_simp
      first | done | with_reducible rfl
    refine held_take (i := 3) (d := 38) (v := ?_) rfl rfl (by kernel_rfl) (by kernel_rfl) (by kernel_rfl) (fun _ _ _ h => h) (by kernel_rfl) ?_ HS.out ?_
    rotate_left
    · intro wz hz
      obtain ⟨c0, c1, c2, -⟩ := hz
      go_simp
      first | done | with_reducible rfl
    refine held_take (i := 4) (d := 39) (v := ?_) rfl rfl (by kernel_rfl) (by kernel_rfl) (by kernel_rfl) (fun _ _ _ h => h) (by kernel_rfl) ?_ HS.out ?_
    rotate_left
    · intro wz hz
      obtain ⟨c0, c1, c2, -⟩ := hz
      go_simp
      first | done | with_reducible rfl
    refine held_take (i := 6) (d := 41) (v := ?_) rfl rfl (by kernel_rfl) (by kernel_rfl) (by kernel_rfl) (fun _ _ _ h => h) (by kernel_rfl) ?_ HS.out ?_
    rotate_left
    · intro wz hz
      obtain ⟨c0, c1, c2, -⟩ := hz
      go_simp
      first | done | with_reducible rfl
    refine wpAnyH_ready (rs := [2, 7]) (by kernel_rfl) (by simp) ?_
    refine AllReadyH.cons rfl (fun K hK => ?_) (AllReadyH.cons rfl (fun K hK => ?_) AllReadyH.nil)
    · skip
      go_simp
      go_wp2_with fail
      refine (met_nat P 320 L (L * P) _ bl wd (B2.out.fresh (FV.out.trans HS.out.2.2.2)) P1.out (by have := P2.out; omega) (by decide) HL.out rfl (HT.out.below ((K2.out.trans FV.out).trans HS.out.2.2.2))).mono ?_; rintro e wb ⟨gm, cm, rfl, o3, f3⟩; have OA := hide o3; have HS' := hide (HS.out.fresh f3); clear HS o3 f3; have HS := HS'; have HW := HS'; clear HS'
      refine hK.out _ _ HS.out (fun _ => ?_)
      clear hK K
      refine wpAnyH_ready (rs := [5, 7]) (by kernel_rfl) (by simp) ?_
      refine AllReadyH.cons rfl (fun K hK => ?_) (AllReadyH.cons rfl (fun K hK => ?_) AllReadyH.nil)
      · skip
        go_simp
        go_wp2_with fail
        refine (blocks_any a zs len cap wb (HD.out.fresh ((K2.out.trans FV.out).trans HS.out.2.2.2)) ZL.out (by omega)).mono ?_; rintro e w4 ⟨u, rfl, o4, f4⟩; rw [HB.out] at o4; obtain ⟨ka, kc, rfl⟩ := o4.shape; have O4 := hide o4; have F4 := hide f4; have HS' := hide (HS.out.fresh f4); clear HS o4 f4; have HS := HS'; clear HS'
        refine hK.out _ _ HS.out (fun _ => ?_)
        clear hK K
        refine wpAnyH_ready (rs := [7]) (by kernel_rfl) (by simp) ?_
        refine AllReadyH.cons rfl (fun K hK => ?_) AllReadyH.nil
        go_simp
        refine one_block _ _ _ _ ?_; intro w5 hb5 k5; have NB := hide hb5; have FW := hide (F4.out.trans k5); have OU := hide (O4.out.fresh k5); have HS' := hide (HS.out.fresh k5); clear HS hb5 k5 O4 F4; have HS := HS'; clear HS'; generalize w4.heap.size = R at NB ⊢
        refine hK.out _ _ HS.out (fun _ => ?_)
        clear hK K
        have SP := hide (show ∀ p ∈ bl ++ [(Y, M, 0)], Small p from fun p hp => by
          rcases List.mem_append.1 hp with h | h
          · exact (SM.out p h).1
          · simp at h; subst h; have := Y2.out; have := M2.out; unfold Small; simp only; omega)
        refine wpAnyH_ready (rs := [8]) (by kernel_rfl) (by simp) ?_
        refine AllReadyH.cons rfl (fun K hK => ?_) AllReadyH.nil
        rw [if_pos (by rfl)]
        refine wp_append_own _ _ _ 24 rfl wb.heap.size 31 i0 (.agg #[.int .i64 0, .int .i64 0, .int .i64 0]) 3 24 Tryd.underlying24 hi hz0 hz1 hz2 rfl (by decide) _ _ _ rfl OU.out ⟨R, 0, none⟩ 1 1 [.int .i64 (Y : Int), .int .i64 (M : Int), .int .i64 0] rfl rfl (block_news NB.out) (block_one _ _ _) (by rw [LB.out]; unfold maxLen; omega) (by rw [LB.out]; omega) FW.out.size ?_; intro v6 w6 hown hgrow _; have O6 := hide (ownK_push (z := 0) hown); have K6 := hide (OU.out.grown (Nat.le_refl _) FW.out hgrow); have HS' := hide (HW.out.fresh K6.out); have OA6 := hide (OA.out.fresh K6.out); clear HS hown hgrow OU NB FW HW OA; have HS := HS'; clear HS'
        refine hK.out _ _ HS.out (fun _ => ?_)
        clear hK K
        have LA := hide (show (bl ++ [(Y, M, 0)]).length = bl.length + 1 by simp)
        obtain ⟨ua, uc, rfl⟩ := O6.out.shape
        have B6 := hide (O6.out.at (by have := LB.out; have := LA.out; omega) SP.out)
        generalize hbn : bl ++ [(Y, M, 0)] = bn at *
        have HBN := hide hbn
        clear hbn
        refine wpAnyH_ready (rs := [9]) (by kernel_rfl) (by simp) ?_
        refine AllReadyH.cons rfl (fun K hK => ?_) AllReadyH.nil
        go_simp
        go_wp2_with fail
        refine (met_nat P 320 L (L * P) _ bn w6 B6.out P1.out (by have := P2.out; omega) (by decide) HL.out rfl (HT.out.below ((K2.out.trans FV.out).trans HS.out.2.2.2))).mono ?_; rintro e w7 ⟨gn, cn, rfl, o7, f7⟩; have O7 := hide o7; have OA7 := hide (OA6.out.fresh f7); have HS' := hide (HS.out.fresh f7); clear HS o7 f7 OA6; have HS := HS'; clear HS'
        refine hK.out _ _ HS.out (fun _ => ?_)
        clear hK K
        refine held_take (i := 10) (d := 12) (v := ?_) rfl rfl (by kernel_rfl) (by kernel_rfl) (by kernel_rfl) (fun _ _ _ h => h) (by kernel_rfl) ?_ HS.out ?_
        rotate_left
        · intro wz hz
          obtain ⟨c0, c1, c2, -⟩ := hz
          go_simp
          first | done | with_reducible rfl
        refine held_take (i := 11) (d := 13) (v := ?_) rfl rfl (by kernel_rfl) (by kernel_rfl) (by kernel_rfl) (fun _ _ _ h => h) (by kernel_rfl) ?_ HS.out ?_
        rotate_left
        · intro wz hz
          obtain ⟨c0, c1, c2, -⟩ := hz
          go_simp
          first | done | with_reducible rfl
        refine wpAnyH_done (by kernel_rfl) ?_ _
        try simp only [Act.put, List.setIfInBounds_toArray, List.set_cons_succ, List.set_cons_zero]
        have hL1 : L ≤ 320 := L3.out
        have hM1 : 1 ≤ M := M1.out
        have hM2 : M ≤ 40 := M2.out
        have hY2 : Y ≤ 255 := Y2.out
        obtain ⟨f, hf⟩ : ∃ f, pF P Y = f := ⟨_, rfl⟩
        obtain ⟨t, ht⟩ : ∃ t, pB P Y M = t := ⟨_, rfl⟩
        have f2 : f ≤ 255 := by have : Y / P ≤ Y := Nat.div_le_self _ _; unfold pF at hf; omega
        have t2 : t ≤ 300 := by have : (Y + M - 1) / P ≤ Y + M - 1 := Nat.div_le_self _ _; unfold pB at ht; rw [if_neg (by omega)] at ht; omega
        have PG := hide (pages_to P Y M f t hf ht w7 P1.out (by have := P2.out; omega) (by omega) (HT.out.below ((K2.out.trans FV.out).trans HS.out.2.2.2)))
        have CM := cnt_more L P bl (Y, M, 0)
        rw [HBN.out] at CM
        simp only [hf, ht] at CM
        have NG := hide (show ∀ k, k < L → (metL L P bn).getD k false = ((metL L P bl).getD k false || (decide (f ≤ k) && decide (k < t))) from fun k hk => by
          rw [metL_get hk, metL_get hk, ← HBN.out, metB_append, metB_one]
          unfold inB
          simp only
          rw [hf, ht])
        have MA := hide (metL_length L P bl)
        have MN := hide (metL_length L P bn)
        have LN := cntL_le (metL L P bn)
        rw [MN.out] at LN
        generalize metL L P bl = ms at *
        generalize metL L P bn = ns at *
        have CB := hide (fun w' (k : Fresh w7 w') => count_to _ ns (cntL ns) rfl w' (O7.out.fresh k).at (by rw [MN.out]; omega))
        have CA := hide (fun w' (k : Fresh w7 w') => count_to _ ms (cntL ms) rfl w' (OA7.out.fresh k).at (by rw [MA.out]; omega))
        generalize cntL ns = nb at *
        generalize cntL ms = na at *
        obtain ⟨cm1, cm2⟩ := CM
        have i1 : (na : Int) ≤ (nb : Int) := by omega
        have i2 : (nb : Int) ≤ (na : Int) + (t : Int) - (f : Int) := by omega
        have i3 : (0 : Int) ≤ (na : Int) := by omega
        have i4 : (nb : Int) ≤ 320 := by omega
        have i5 : (0 : Int) ≤ (f : Int) := by omega
        have i6 : (f : Int) ≤ 255 := by omega
        have i7 : (0 : Int) ≤ (t : Int) := by omega
        have i8 : (t : Int) ≤ 300 := by omega
        have FE := hide ((K2.out.trans FV.out).trans HS.out.2.2.2)
        obtain ⟨c0, c1, -, -⟩ := HS.out
        clear cm1 cm2 hf ht f2 t2 hL1 hM1 hM2 hY2 LN HS hi hz0 hz1 hz2 K6 LA O6 B6
        go_wp2_with fail
        refine PG.out.mono ?_
        rintro e w8 ⟨rfl, rfl⟩
        clear c0 c1
        go_wp2
        go_loopw [16] (fun i ws => ∃ k : Nat, k ≤ L ∧ i = .int .i64 (k : Int) ∧ Fresh w8 ws) (fun i _ => (L - intOf i).toNat)
        case atStart => exact ⟨0, Nat.zero_le _, rfl, Fresh.refl _⟩
        case round =>
          obtain ⟨k, hk, rfl, hws⟩ := hrel
          have FD := hide hws
          have k0 : (0 : Int) ≤ (k : Int) := by omega
          clear hws
          by_cases gk : k < L
          · have gk' : (k : Int) < (L : Int) := by omega
            have z1 := (O7.out.fresh FD.out).cell MN.out.symm k gk
            have z2 := (OA7.out.fresh FD.out).cell MA.out.symm k gk
            rw [NG.out k gk] at z1
            have FN := hide (fun n => FD.out.trans (Fresh.drewN wr n))
            cases hb : ms.getD k false with
            | true =>
              rw [hb] at z1 z2
              simp only [Bool.true_or] at z1
              clear hb
              go_wp2_with fail
              go_quiet (fail)
              go_wp2
              go_roundw
              case rel => exact ⟨k + 1, by omega, by go_num, FN.out _⟩
              case measure => simp [intOf]; omega
            | false =>
              rw [hb] at z1 z2
              simp only [Bool.false_or] at z1
              clear hb
              by_cases g1 : f ≤ k
              · have e1 : decide ((f : Int) ≤ (k : Int)) = true := decide_eq_true (by omega)
                rw [decide_eq_true g1, Bool.true_and] at z1
                by_cases g2 : k < t
                · have e2 : decide ((k : Int) < (t : Int)) = true := decide_eq_true (by omega)
                  rw [decide_eq_true g2] at z1
                  go_wp2_with fail
                  go_quiet (fail)
                  go_wp2
                  go_roundw
                  case rel => exact ⟨k + 1, by omega, by go_num, FN.out _⟩
                  case measure => simp [intOf]; omega
                · have e2 : decide ((k : Int) < (t : Int)) = false := decide_eq_false (by omega)
                  rw [decide_eq_false g2] at z1
                  go_wp2_with fail
                  go_quiet (fail)
                  go_wp2
                  go_roundw
                  case rel => exact ⟨k + 1, by omega, by go_num, FN.out _⟩
                  case measure => simp [intOf]; omega
              · have e1 : decide ((f : Int) ≤ (k : Int)) = false := decide_eq_false (by omega)
                rw [decide_eq_false g1, Bool.false_and] at z1
                go_wp2_with fail
                go_quiet (fail)
                go_wp2
                go_roundw
                case rel => exact ⟨k + 1, by omega, by go_num, FN.out _⟩
                case measure => simp [intOf]; omega
          · obtain rfl : k = L := by omega
            have FZ := hide (FE.out.trans FD.out)
            have CB1 := hide (CB.out wr FD.out)
            have CA1 := hide (CA.out wr FD.out)
            clear CB CA
            go_wp2_with fail
            refine (CB1.out).mono ?_
            rintro e w' ⟨rfl, rfl⟩
            go_wp2_with fail
            refine (CA1.out).mono ?_
            rintro e w' ⟨rfl, rfl⟩
            go_wp2_with fail
            refine (CB1.out).mono ?_
            rintro e w' ⟨rfl, rfl⟩
            go_wp2_with fail
            refine (CA1.out).mono ?_
            rintro e w' ⟨rfl, rfl⟩
            go_wp2
            go_ret
            exact ⟨rfl, FZ.out⟩
      · skip
        go_simp
        refine one_block _ _ _ _ ?_; intro w4 hb4 k4; have N4 := hide hb4; have F4 := hide k4; have HS' := hide (HS.out.fresh k4); have OA4 := hide (OA.out.fresh k4); clear HS HW OA hb4 k4; have HS := HS'; have HW := HS'; clear HS'; generalize wb.heap.size = R at N4 ⊢
        refine hK.out _ _ HS.out (fun _ => ?_)
        clear hK K
        refine wpAnyH_ready (rs := [5]) (by kernel_rfl) (by simp) ?_
        refine AllReadyH.cons rfl (fun K hK => ?_) AllReadyH.nil
        go_simp
        go_wp2_with fail
        refine (blocks_any a zs len cap w4 (HD.out.fresh ((K2.out.trans FV.out).trans HS.out.2.2.2)) ZL.out (by omega)).mono ?_; rintro e w5 ⟨u, rfl, o5, f5⟩; rw [HB.out] at o5; obtain ⟨ka, kc, rfl⟩ := o5.shape; have OU := hide o5; have FW := hide f5; have NB := hide (show w5.heap[R]? = some _ from (f5.block R (Array.getElem?_eq_some_iff.1 N4.out).1).trans N4.out); have HS' := hide (HS.out.fresh f5); clear HS o5 f5 N4; have HS := HS'; clear HS'
        refine hK.out _ _ HS.out (fun _ => ?_)
        clear hK K
        obtain ⟨wb, hwb⟩ : ∃ wb, wb = w4 := ⟨_, rfl⟩
        subst hwb
        have OA := OA4
        clear OA4
        have SP := hide (show ∀ p ∈ bl ++ [(Y, M, 0)], Small p from fun p hp => by
          rcases List.mem_append.1 hp with h | h
          · exact (SM.out p h).1
          · simp at h; subst h; have := Y2.out; have := M2.out; unfold Small; simp only; omega)
        refine wpAnyH_ready (rs := [8]) (by kernel_rfl) (by simp) ?_
        refine AllReadyH.cons rfl (fun K hK => ?_) AllReadyH.nil
        rw [if_pos (by rfl)]
        refine wp_append_own _ _ _ 24 rfl wb.heap.size 31 i0 (.agg #[.int .i64 0, .int .i64 0, .int .i64 0]) 3 24 Tryd.underlying24 hi hz0 hz1 hz2 rfl (by decide) _ _ _ rfl OU.out ⟨R, 0, none⟩ 1 1 [.int .i64 (Y : Int), .int .i64 (M : Int), .int .i64 0] rfl rfl (block_news NB.out) (block_one _ _ _) (by rw [LB.out]; unfold maxLen; omega) (by rw [LB.out]; omega) FW.out.size ?_; intro v6 w6 hown hgrow _; have O6 := hide (ownK_push (z := 0) hown); have K6 := hide (OU.out.grown (Nat.le_refl _) FW.out hgrow); have HS' := hide (HW.out.fresh K6.out); have OA6 := hide (OA.out.fresh K6.out); clear HS hown hgrow OU NB FW HW OA; have HS := HS'; clear HS'
        refine hK.out _ _ HS.out (fun _ => ?_)
        clear hK K
        have LA := hide (show (bl ++ [(Y, M, 0)]).length = bl.length + 1 by simp)
        obtain ⟨ua, uc, rfl⟩ := O6.out.shape
        have B6 := hide (O6.out.at (by have := LB.out; have := LA.out; omega) SP.out)
        generalize hbn : bl ++ [(Y, M, 0)] = bn at *
        have HBN := hide hbn
        clear hbn
        refine wpAnyH_ready (rs := [9]) (by kernel_rfl) (by simp) ?_
        refine AllReadyH.cons rfl (fun K hK => ?_) AllReadyH.nil
        go_simp
        go_wp2_with fail
        refine (met_nat P 320 L (L * P) _ bn w6 B6.out P1.out (by have := P2.out; omega) (by decide) HL.out rfl (HT.out.below ((K2.out.trans FV.out).trans HS.out.2.2.2))).mono ?_; rintro e w7 ⟨gn, cn, rfl, o7, f7⟩; have O7 := hide o7; have OA7 := hide (OA6.out.fresh f7); have HS' := hide (HS.out.fresh f7); clear HS o7 f7 OA6; have HS := HS'; clear HS'
        refine hK.out _ _ HS.out (fun _ => ?_)
        clear hK K
        refine held_take (i := 10) (d := 12) (v := ?_) rfl rfl (by kernel_rfl) (by kernel_rfl) (by kernel_rfl) (fun _ _ _ h => h) (by kernel_rfl) ?_ HS.out ?_
        rotate_left
        · intro wz hz
          obtain ⟨c0, c1, c2, -⟩ := hz
          go_simp
          first | done | with_reducible rfl
        refine held_take (i := 11) (d := 13) (v := ?_) rfl rfl (by kernel_rfl) (by kernel_rfl) (by kernel_rfl) (fun _ _ _ h => h) (by kernel_rfl) ?_ HS.out ?_
        rotate_left
        · intro wz hz
          obtain ⟨c0, c1, c2, -⟩ := hz
          go_simp
          first | done | with_reducible rfl
        refine wpAnyH_done (by kernel_rfl) ?_ _
        try simp only [Act.put, List.setIfInBounds_toArray, List.set_cons_succ, List.set_cons_zero]
        have hL1 : L ≤ 320 := L3.out
        have hM1 : 1 ≤ M := M1.out
        have hM2 : M ≤ 40 := M2.out
        have hY2 : Y ≤ 255 := Y2.out
        obtain ⟨f, hf⟩ : ∃ f, pF P Y = f := ⟨_, rfl⟩
        obtain ⟨t, ht⟩ : ∃ t, pB P Y M = t := ⟨_, rfl⟩
        have f2 : f ≤ 255 := by have : Y / P ≤ Y := Nat.div_le_self _ _; unfold pF at hf; omega
        have t2 : t ≤ 300 := by have : (Y + M - 1) / P ≤ Y + M - 1 := Nat.div_le_self _ _; unfold pB at ht; rw [if_neg (by omega)] at ht; omega
        have PG := hide (pages_to P Y M f t hf ht w7 P1.out (by have := P2.out; omega) (by omega) (HT.out.below ((K2.out.trans FV.out).trans HS.out.2.2.2)))
        have CM := cnt_more L P bl (Y, M, 0)
        rw [HBN.out] at CM
        simp only [hf, ht] at CM
        have NG := hide (show ∀ k, k < L → (metL L P bn).getD k false = ((metL L P bl).getD k false || (decide (f ≤ k) && decide (k < t))) from fun k hk => by
          rw [metL_get hk, metL_get hk, ← HBN.out, metB_append, metB_one]
          unfold inB
          simp only
          rw [hf, ht])
        have MA := hide (metL_length L P bl)
        have MN := hide (metL_length L P bn)
        have LN := cntL_le (metL L P bn)
        rw [MN.out] at LN
        generalize metL L P bl = ms at *
        generalize metL L P bn = ns at *
        have CB := hide (fun w' (k : Fresh w7 w') => count_to _ ns (cntL ns) rfl w' (O7.out.fresh k).at (by rw [MN.out]; omega))
        have CA := hide (fun w' (k : Fresh w7 w') => count_to _ ms (cntL ms) rfl w' (OA7.out.fresh k).at (by rw [MA.out]; omega))
        generalize cntL ns = nb at *
        generalize cntL ms = na at *
        obtain ⟨cm1, cm2⟩ := CM
        have i1 : (na : Int) ≤ (nb : Int) := by omega
        have i2 : (nb : Int) ≤ (na : Int) + (t : Int) - (f : Int) := by omega
        have i3 : (0 : Int) ≤ (na : Int) := by omega
        have i4 : (nb : Int) ≤ 320 := by omega
        have i5 : (0 : Int) ≤ (f : Int) := by omega
        have i6 : (f : Int) ≤ 255 := by omega
        have i7 : (0 : Int) ≤ (t : Int) := by omega
        have i8 : (t : Int) ≤ 300 := by omega
        have FE := hide ((K2.out.trans FV.out).trans HS.out.2.2.2)
        obtain ⟨c0, c1, -, -⟩ := HS.out
        clear cm1 cm2 hf ht f2 t2 hL1 hM1 hM2 hY2 LN HS hi hz0 hz1 hz2 K6 LA O6 B6
        go_wp2_with fail
        refine PG.out.mono ?_
        rintro e w8 ⟨rfl, rfl⟩
        clear c0 c1
        go_wp2
        go_loopw [16] (fun i ws => ∃ k : Nat, k ≤ L ∧ i = .int .i64 (k : Int) ∧ Fresh w8 ws) (fun i _ => (L - intOf i).toNat)
        case atStart => exact ⟨0, Nat.zero_le _, rfl, Fresh.refl _⟩
        case round =>
          obtain ⟨k, hk, rfl, hws⟩ := hrel
          have FD := hide hws
          have k0 : (0 : Int) ≤ (k : Int) := by omega
          clear hws
          by_cases gk : k < L
          · have gk' : (k : Int) < (L : Int) := by omega
            have z1 := (O7.out.fresh FD.out).cell MN.out.symm k gk
            have z2 := (OA7.out.fresh FD.out).cell MA.out.symm k gk
            rw [NG.out k gk] at z1
            have FN := hide (fun n => FD.out.trans (Fresh.drewN wr n))
            cases hb : ms.getD k false with
            | true =>
              rw [hb] at z1 z2
              simp only [Bool.true_or] at z1
              clear hb
              go_wp2_with fail
              go_quiet (fail)
              go_wp2
              go_roundw
              case rel => exact ⟨k + 1, by omega, by go_num, FN.out _⟩
              case measure => simp [intOf]; omega
            | false =>
              rw [hb] at z1 z2
              simp only [Bool.false_or] at z1
              clear hb
              by_cases g1 : f ≤ k
              · have e1 : decide ((f : Int) ≤ (k : Int)) = true := decide_eq_true (by omega)
                rw [decide_eq_true g1, Bool.true_and] at z1
                by_cases g2 : k < t
                · have e2 : decide ((k : Int) < (t : Int)) = true := decide_eq_true (by omega)
                  rw [decide_eq_true g2] at z1
                  go_wp2_with fail
                  go_quiet (fail)
                  go_wp2
                  go_roundw
                  case rel => exact ⟨k + 1, by omega, by go_num, FN.out _⟩
                  case measure => simp [intOf]; omega
                · have e2 : decide ((k : Int) < (t : Int)) = false := decide_eq_false (by omega)
                  rw [decide_eq_false g2] at z1
                  go_wp2_with fail
                  go_quiet (fail)
                  go_wp2
                  go_roundw
                  case rel => exact ⟨k + 1, by omega, by go_num, FN.out _⟩
                  case measure => simp [intOf]; omega
              · have e1 : decide ((f : Int) ≤ (k : Int)) = false := decide_eq_false (by omega)
                rw [decide_eq_false g1, Bool.false_and] at z1
                go_wp2_with fail
                go_quiet (fail)
                go_wp2
                go_roundw
                case rel => exact ⟨k + 1, by omega, by go_num, FN.out _⟩
                case measure => simp [intOf]; omega
          · obtain rfl : k = L := by omega
            have FZ := hide (FE.out.trans FD.out)
            have CB1 := hide (CB.out wr FD.out)
            have CA1 := hide (CA.out wr FD.out)
            clear CB CA
            go_wp2_with fail
            refine (CB1.out).mono ?_
            rintro e w' ⟨rfl, rfl⟩
            go_wp2_with fail
            refine (CA1.out).mono ?_
            rintro e w' ⟨rfl, rfl⟩
            go_wp2_with fail
            refine (CB1.out).mono ?_
            rintro e w' ⟨rfl, rfl⟩
            go_wp2_with fail
            refine (CA1.out).mono ?_
            rintro e w' ⟨rfl, rfl⟩
            go_wp2
            go_ret
            exact ⟨rfl, FZ.out⟩
    · skip
      go_simp
      refine one_block _ _ _ _ ?_; intro w3 hb3 k3; have N3 := hide hb3; have HS' := hide (HS.out.fresh k3); clear HS hb3 k3; have HS := HS'; clear HS'; generalize wd.heap.size = R at N3 ⊢
      refine hK.out _ _ HS.out (fun _ => ?_)
      clear hK K
      refine wpAnyH_ready (rs := [2]) (by kernel_rfl) (by simp) ?_
      refine AllReadyH.cons rfl (fun K hK => ?_) AllReadyH.nil
      go_simp
      go_wp2_with fail
      refine (met_nat P 320 L (L * P) _ bl w3 (B2.out.fresh (FV.out.trans HS.out.2.2.2)) P1.out (by have := P2.out; omega) (by decide) HL.out rfl (HT.out.below ((K2.out.trans FV.out).trans HS.out.2.2.2))).mono ?_; rintro e wb ⟨gm, cm, rfl, o4, f4⟩; have OA := hide o4; have N4 := hide (show wb.heap[R]? = some _ from (f4.block R (Array.getElem?_eq_some_iff.1 N3.out).1).trans N3.out); have HS' := hide (HS.out.fresh f4); clear HS o4 f4 N3; have HS := HS'; have HW := HS'; clear HS'
      refine hK.out _ _ HS.out (fun _ => ?_)
      clear hK K
      refine wpAnyH_ready (rs := [5]) (by kernel_rfl) (by simp) ?_
      refine AllReadyH.cons rfl (fun K hK => ?_) AllReadyH.nil
      go_simp
      go_wp2_with fail
      refine (blocks_any a zs len cap wb (HD.out.fresh ((K2.out.trans FV.out).trans HS.out.2.2.2)) ZL.out (by omega)).mono ?_; rintro e w5 ⟨u, rfl, o5, f5⟩; rw [HB.out] at o5; obtain ⟨ka, kc, rfl⟩ := o5.shape; have OU := hide o5; have FW := hide f5; have NB := hide (show w5.heap[R]? = some _ from (f5.block R (Array.getElem?_eq_some_iff.1 N4.out).1).trans N4.out); have HS' := hide (HS.out.fresh f5); clear HS o5 f5 N4; have HS := HS'; clear HS'
      refine hK.out _ _ HS.out (fun _ => ?_)
      clear hK K
      have SP := hide (show ∀ p ∈ bl ++ [(Y, M, 0)], Small p from fun p hp => by
        rcases List.mem_append.1 hp with h | h
        · exact (SM.out p h).1
        · simp at h; subst h; have := Y2.out; have := M2.out; unfold Small; simp only; omega)
      refine wpAnyH_ready (rs := [8]) (by kernel_rfl) (by simp) ?_
      refine AllReadyH.cons rfl (fun K hK => ?_) AllReadyH.nil
      rw [if_pos (by rfl)]
      refine wp_append_own _ _ _ 24 rfl wb.heap.size 31 i0 (.agg #[.int .i64 0, .int .i64 0, .int .i64 0]) 3 24 Tryd.underlying24 hi hz0 hz1 hz2 rfl (by decide) _ _ _ rfl OU.out ⟨R, 0, none⟩ 1 1 [.int .i64 (Y : Int), .int .i64 (M : Int), .int .i64 0] rfl rfl (block_news NB.out) (block_one _ _ _) (by rw [LB.out]; unfold maxLen; omega) (by rw [LB.out]; omega) FW.out.size ?_; intro v6 w6 hown hgrow _; have O6 := hide (ownK_push (z := 0) hown); have K6 := hide (OU.out.grown (Nat.le_refl _) FW.out hgrow); have HS' := hide (HW.out.fresh K6.out); have OA6 := hide (OA.out.fresh K6.out); clear HS hown hgrow OU NB FW HW OA; have HS := HS'; clear HS'
      refine hK.out _ _ HS.out (fun _ => ?_)
      clear hK K
      have LA := hide (show (bl ++ [(Y, M, 0)]).length = bl.length + 1 by simp)
      obtain ⟨ua, uc, rfl⟩ := O6.out.shape
      have B6 := hide (O6.out.at (by have := LB.out; have := LA.out; omega) SP.out)
      generalize hbn : bl ++ [(Y, M, 0)] = bn at *
      have HBN := hide hbn
      clear hbn
      refine wpAnyH_ready (rs := [9]) (by kernel_rfl) (by simp) ?_
      refine AllReadyH.cons rfl (fun K hK => ?_) AllReadyH.nil
      go_simp
      go_wp2_with fail
      refine (met_nat P 320 L (L * P) _ bn w6 B6.out P1.out (by have := P2.out; omega) (by decide) HL.out rfl (HT.out.below ((K2.out.trans FV.out).trans HS.out.2.2.2))).mono ?_; rintro e w7 ⟨gn, cn, rfl, o7, f7⟩; have O7 := hide o7; have OA7 := hide (OA6.out.fresh f7); have HS' := hide (HS.out.fresh f7); clear HS o7 f7 OA6; have HS := HS'; clear HS'
      refine hK.out _ _ HS.out (fun _ => ?_)
      clear hK K
      refine held_take (i := 10) (d := 12) (v := ?_) rfl rfl (by kernel_rfl) (by kernel_rfl) (by kernel_rfl) (fun _ _ _ h => h) (by kernel_rfl) ?_ HS.out ?_
      rotate_left
      · intro wz hz
        obtain ⟨c0, c1, c2, -⟩ := hz
        go_simp
        first | done | with_reducible rfl
      refine held_take (i := 11) (d := 13) (v := ?_) rfl rfl (by kernel_rfl) (by kernel_rfl) (by kernel_rfl) (fun _ _ _ h => h) (by kernel_rfl) ?_ HS.out ?_
      rotate_left
      · intro wz hz
        obtain ⟨c0, c1, c2, -⟩ := hz
        go_simp
        first | done | with_reducible rfl
      refine wpAnyH_done (by kernel_rfl) ?_ _
      try simp only [Act.put, List.setIfInBounds_toArray, List.set_cons_succ, List.set_cons_zero]
      have hL1 : L ≤ 320 := L3.out
      have hM1 : 1 ≤ M := M1.out
      have hM2 : M ≤ 40 := M2.out
      have hY2 : Y ≤ 255 := Y2.out
      obtain ⟨f, hf⟩ : ∃ f, pF P Y = f := ⟨_, rfl⟩
      obtain ⟨t, ht⟩ : ∃ t, pB P Y M = t := ⟨_, rfl⟩
      have f2 : f ≤ 255 := by have : Y / P ≤ Y := Nat.div_le_self _ _; unfold pF at hf; omega
      have t2 : t ≤ 300 := by have : (Y + M - 1) / P ≤ Y + M - 1 := Nat.div_le_self _ _; unfold pB at ht; rw [if_neg (by omega)] at ht; omega
      have PG := hide (pages_to P Y M f t hf ht w7 P1.out (by have := P2.out; omega) (by omega) (HT.out.below ((K2.out.trans FV.out).trans HS.out.2.2.2)))
      have CM := cnt_more L P bl (Y, M, 0)
      rw [HBN.out] at CM
      simp only [hf, ht] at CM
      have NG := hide (show ∀ k, k < L → (metL L P bn).getD k false = ((metL L P bl).getD k false || (decide (f ≤ k) && decide (k < t))) from fun k hk => by
        rw [metL_get hk, metL_get hk, ← HBN.out, metB_append, metB_one]
        unfold inB
        simp only
        rw [hf, ht])
      have MA := hide (metL_length L P bl)
      have MN := hide (metL_length L P bn)
      have LN := cntL_le (metL L P bn)
      rw [MN.out] at LN
      generalize metL L P bl = ms at *
      generalize metL L P bn = ns at *
      have CB := hide (fun w' (k : Fresh w7 w') => count_to _ ns (cntL ns) rfl w' (O7.out.fresh k).at (by rw [MN.out]; omega))
      have CA := hide (fun w' (k : Fresh w7 w') => count_to _ ms (cntL ms) rfl w' (OA7.out.fresh k).at (by rw [MA.out]; omega))
      generalize cntL ns = nb at *
      generalize cntL ms = na at *
      obtain ⟨cm1, cm2⟩ := CM
      have i1 : (na : Int) ≤ (nb : Int) := by omega
      have i2 : (nb : Int) ≤ (na : Int) + (t : Int) - (f : Int) := by omega
      have i3 : (0 : Int) ≤ (na : Int) := by omega
      have i4 : (nb : Int) ≤ 320 := by omega
      have i5 : (0 : Int) ≤ (f : Int) := by omega
      have i6 : (f : Int) ≤ 255 := by omega
      have i7 : (0 : Int) ≤ (t : Int) := by omega
      have i8 : (t : Int) ≤ 300 := by omega
      have FE := hide ((K2.out.trans FV.out).trans HS.out.2.2.2)
      obtain ⟨c0, c1, -, -⟩ := HS.out
      clear cm1 cm2 hf ht f2 t2 hL1 hM1 hM2 hY2 LN HS hi hz0 hz1 hz2 K6 LA O6 B6
      go_wp2_with fail
      refine PG.out.mono ?_
      rintro e w8 ⟨rfl, rfl⟩
      clear c0 c1
      go_wp2
      go_loopw [16] (fun i ws => ∃ k : Nat, k ≤ L ∧ i = .int .i64 (k : Int) ∧ Fresh w8 ws) (fun i _ => (L - intOf i).toNat)
      case atStart => exact ⟨0, Nat.zero_le _, rfl, Fresh.refl _⟩
      case round =>
        obtain ⟨k, hk, rfl, hws⟩ := hrel
        have FD := hide hws
        have k0 : (0 : Int) ≤ (k : Int) := by omega
        clear hws
        by_cases gk : k < L
        · have gk' : (k : Int) < (L : Int) := by omega
          have z1 := (O7.out.fresh FD.out).cell MN.out.symm k gk
          have z2 := (OA7.out.fresh FD.out).cell MA.out.symm k gk
          rw [NG.out k gk] at z1
          have FN := hide (fun n => FD.out.trans (Fresh.drewN wr n))
          cases hb : ms.getD k false with
          | true =>
            rw [hb] at z1 z2
            simp only [Bool.true_or] at z1
            clear hb
            go_wp2_with fail
            go_quiet (fail)
            go_wp2
            go_roundw
            case rel => exact ⟨k + 1, by omega, by go_num, FN.out _⟩
            case measure => simp [intOf]; omega
          | false =>
            rw [hb] at z1 z2
            simp only [Bool.false_or] at z1
            clear hb
            by_cases g1 : f ≤ k
            · have e1 : decide ((f : Int) ≤ (k : Int)) = true := decide_eq_true (by omega)
              rw [decide_eq_true g1, Bool.true_and] at z1
              by_cases g2 : k < t
              · have e2 : decide ((k : Int) < (t : Int)) = true := decide_eq_true (by omega)
                rw [decide_eq_true g2] at z1
                go_wp2_with fail
                go_quiet (fail)
                go_wp2
                go_roundw
                case rel => exact ⟨k + 1, by omega, by go_num, FN.out _⟩
                case measure => simp [intOf]; omega
              · have e2 : decide ((k : Int) < (t : Int)) = false := decide_eq_false (by omega)
                rw [decide_eq_false g2] at z1
                go_wp2_with fail
                go_quiet (fail)
                go_wp2
                go_roundw
                case rel => exact ⟨k + 1, by omega, by go_num, FN.out _⟩
                case measure => simp [intOf]; omega
            · have e1 : decide ((f : Int) ≤ (k : Int)) = false := decide_eq_false (by omega)
              rw [decide_eq_false g1, Bool.false_and] at z1
              go_wp2_with fail
              go_quiet (fail)
              go_wp2
              go_roundw
              case rel => exact ⟨k + 1, by omega, by go_num, FN.out _⟩
              case measure => simp [intOf]; omega
        · obtain rfl : k = L := by omega
          have FZ := hide (FE.out.trans FD.out)
          have CB1 := hide (CB.out wr FD.out)
          have CA1 := hide (CA.out wr FD.out)
          clear CB CA
          go_wp2_with fail
          refine (CB1.out).mono ?_
          rintro e w' ⟨rfl, rfl⟩
          go_wp2_with fail
          refine (CA1.out).mono ?_
          rintro e w' ⟨rfl, rfl⟩
          go_wp2_with fail
          refine (CB1.out).mono ?_
          rintro e w' ⟨rfl, rfl⟩
          go_wp2_with fail
          refine (CA1.out).mono ?_
          rintro e w' ⟨rfl, rfl⟩
          go_wp2
          go_ret
          exact ⟨rfl, FZ.out⟩

set_option linter.unusedVariables false
set_option maxRecDepth 100000 in
theorem pinMore_lifted (os : Os) (started : os.Started) (H : Type) (enc : TypeId × Value → H) :
    ReturnsInHanded {} Tryd.checked os 5 .any (fun w args => (Rows.pinMoreSpec.pre enc Tryd.prog Tryd.f5 [] false w args ∧ laidMetH Tryd.prog laid1 w) ∧ sizedMet enc Tryd.prog Tryd.f5 (OpenSpec.ofChange Rows.pinMoreSpec) false w args)
      (Rows.pinMoreSpec.post enc Tryd.prog Tryd.f5 false true false false) := by
  refine returnsInHanded_of_change_and (C := Tryd.checked) (X := fun w _ => laidMetH Tryd.prog laid1 w) (fun _ _ _ hh h => h.of_heap hh) own started (by kernel_rfl) Tryd.func5
    (ChangeSpec.witness_shaped (enc := enc) (C := Tryd.checked) (os := os) (X := fun w _ => laidMetH Tryd.prog laid1 w) false (World.doorLaid Tryd.prog 400 os) #[.int .u8 0, .slice none 0 0, .int .u8 0, .int .u8 0] 8 rfl (World.shaped_of_RefB (by kernel_rfl) (by kernel_rfl)) (by kernel_rfl) (by kernel_rfl) (by kernel_rfl) (door_met os _)) ?_
  intro W base args ds gs before hval0 hW _ _ hL _
  have hval : ∀ (j : Nat) t v, Tryd.f5.params[j]? = some t → args[j]? = some v → Value.okWide Tryd.prog W .any base t v := hval0
  have hW' := hW
  obtain ⟨p, q, hA0, hV, rfl, hfz, hnd⟩ := hW
  have hA : DataW.TrodAll enc Tryd.prog W 0 (fun _ => true) true Tryd.f5.params.toList args.toList ds p := hA0
  rw [Tryd.params5] at hA hval
  obtain ⟨v0, vs0, d0, ds0, p0, q0, hargs, rfl, rfl, h0, r0⟩ := trodAll_cons hA
  obtain ⟨v1, vs1, d1, ds1, p1, q1, rfl, rfl, rfl, h1, r1⟩ := trodAll_cons r0
  obtain ⟨v2, vs2, d2, ds2, p2, q2, rfl, rfl, rfl, h2, r2⟩ := trodAll_cons r1
  obtain ⟨v3, vs3, d3, ds3, p3, q3, rfl, rfl, rfl, h3, r3⟩ := trodAll_cons r2
  obtain ⟨rfl, rfl, rfl⟩ := trodAll_nil r3
  obtain rfl : args = #[v0, v1, v2, v3] := by cases args; simp_all
  obtain ⟨rfl, rfl⟩ := trodVars_none hV
  have lt0 : ∀ x ∈ p0, x.block < W.heap.size := by obtain ⟨m, hm⟩ := h0; exact DataW.trod_lt m _ _ _ hm
  have lt1 : ∀ x ∈ p1, x.block < W.heap.size := by obtain ⟨m, hm⟩ := h1; exact DataW.trod_lt m _ _ _ hm
  have lt2 : ∀ x ∈ p2, x.block < W.heap.size := by obtain ⟨m, hm⟩ := h2; exact DataW.trod_lt m _ _ _ hm
  have lt3 : ∀ x ∈ p3, x.block < W.heap.size := by obtain ⟨m, hm⟩ := h3; exact DataW.trod_lt m _ _ _ hm
  obtain ⟨a0, rfl, rfl, rfl, w0⟩ := open_int Tryd.underlying5 (hval 0 5 v0 rfl rfl) h0
  obtain ⟨a1, len1, cap1, rfl⟩ := okWide_slice Tryd.underlying22 (hval 1 22 v1 rfl rfl)
  have w1 := isDuo_of Tryd.underlying22 Tryd.underlying36 Tryd.underlying5 (by kernel_rfl) (by kernel_rfl) h1
  obtain ⟨a2, rfl, rfl, rfl, w2⟩ := open_int Tryd.underlying5 (hval 2 5 v2 rfl rfl) h2
  obtain ⟨a3, rfl, rfl, rfl, w3⟩ := open_int Tryd.underlying5 (hval 3 5 v3 rfl rfl) h3
  clear hA0 hval0
  have hT := tab_of_laid hL
  refine (pinMore_walk0 a0 (bounds_u8 w0).1 (bounds_u8 w0).2 a1 len1 cap1 a2 (bounds_u8 w2).1 (bounds_u8 w2).2 a3 (bounds_u8 w3).1 (bounds_u8 w3).2 W w1 hT).mono fun e W' ⟨he, hg⟩ => ?_
  subst he
  exact ⟨_, rfl, _, _, _, [], _, [], hW', trodAll_mk1 (shut_bool Tryd.underlying4 _), (trodAll_cons_mk (Below.trod laidOut (by kernel_rfl) (of_decide_eq_true (by kernel_rfl)) h0 hg lt0) (trodAll_cons_mk (Below.trod laidOut (by kernel_rfl) (of_decide_eq_true (by kernel_rfl)) h1 hg lt1) (trodAll_cons_mk (Below.trod laidOut (by kernel_rfl) (of_decide_eq_true (by kernel_rfl)) h2 hg lt2) (trodAll_cons_mk (Below.trod laidOut (by kernel_rfl) (of_decide_eq_true (by kernel_rfl)) h3 hg lt3) trodAll_mk0)))), rfl, hg.frame _, fun h => by cases h⟩

theorem pinMore_row : Rows.PinMoreSaid :=
  OpenClaim.holds_of_wide 5 Tryd.f5 rfl rfl rfl rfl rfl rfl rfl ⟨rfl, rfl, rfl, rfl, rfl⟩ rfl rfl rfl rfl rfl (by kernel_rfl) Tryd.func5 (by kernel_rfl)
    (of_decide_eq_true (by kernel_rfl)) (by unfold Func.isWrapper; first | (rw [if_pos (by decide +kernel)]; kernel_rfl) | (rw [if_neg (by decide +kernel)]; exact ⟨rfl, rfl⟩))
    (fun os started H enc _ => pinMore_lifted os started H enc)

theorem pinMore_holds : Rows.PinMoreCardSaid :=
  Claim7.holds_tied_plain_at .later [] [.data, .data] true (true, "0a6b00d0c58ec77104e853ed9c5c259ea66773a459a279d839fdfac7b11e0755") false
    pinMore_row (fun _ h => by cases h) (by kernel_rfl) (fun _ h => by cases h) pinMore_row_tie rfl ⟨rfl, rfl⟩ (by kernel_rfl) rfl
    (fun f fn hf hfn => by
      obtain rfl : f = 5 := Option.some.inj ((show Tryd.prog.funcNamed "hodman/hodmanlaw12.PinMore" = some 5 by kernel_rfl).symm.trans hf) |>.symm
      obtain rfl : fn = Tryd.f5 := (Option.some.inj (Tryd.func5.symm.trans hfn)).symm
      exact ⟨by kernel_rfl, fun j t ht => by
        rw [Tryd.params5] at ht
        have hm : t ∈ [5, 22, 5, 5] := by simpa using Array.mem_of_getElem? ht
        have hall : ([5, 22, 5, 5].all fun u => !Tryd.prog.wantsStandIn u) = true := by kernel_rfl
        exact (show Tryd.prog.wantsStandIn t = false by simpa using List.all_eq_true.1 hall t hm)⟩)
    (by kernel_rfl)
#print axioms pinMore_holds
end Go.Proofs.YtckfmgopbfgdjaaDoor
