/- Pages that are made of bytes (hodmanlaw13.rows): which are there, which are met. -/
import Derived.Test.YtcnfmkhjhffebaaDoorTwoB
import Derived.Test.YtcnfmkhjhffebaaDoorByteMem
import Derived.Test.YtcnfmkhjhffebaaDoorHeld
namespace Go.Proofs.YtcnfmkhjhffebaaDoor
open Go.RowKit

def onL (zs : List Int) : List Bool := zs.map fun z => decide (z % 2 = 1)
def metR (zs : List Int) : List Bool := zs.map fun z => decide (z % 5 = 0)
theorem onL_length (zs : List Int) : (onL zs).length = zs.length := by unfold onL; simp
theorem metR_length (zs : List Int) : (metR zs).length = zs.length := by unfold metR; simp
theorem onL_take (zs : List Int) {j : Nat} (h : j < zs.length) : onL (zs.take (j + 1)) = onL (zs.take j) ++ [decide (zs.getD j 0 % 2 = 1)] := by
  unfold onL
  rw [List.take_add_one, List.map_append, List.getD_eq_getElem?_getD, List.getElem?_eq_getElem h]; rfl
theorem metR_take (zs : List Int) {j : Nat} (h : j < zs.length) : metR (zs.take (j + 1)) = metR (zs.take j) ++ [decide (zs.getD j 0 % 5 = 0)] := by
  unfold metR
  rw [List.take_add_one, List.map_append, List.getD_eq_getElem?_getD, List.getElem?_eq_getElem h]; rfl
/-- a byte that is read -/
def HeldU (W : World) (b o : Nat) (z : Int) (w : World) : Prop := w.cell? ⟨b, o, none⟩ = some (.int .u8 z) ∧ Fresh W w
theorem HeldU.fresh {W : World} {b o : Nat} {z : Int} {w w' : World} (h : HeldU W b o z w) (k : Fresh w w') : HeldU W b o z w' :=
  ⟨(k.cell (World.block_lt_of_cell? _ _ h.1)).trans h.1, h.2.trans k⟩

set_option maxRecDepth 100000 in
set_option maxHeartbeats 1000000 in
theorem rows_any (a : Option Addr) (zs : List Int) (len cap : Nat) (w : World) (h : BytesAt w a zs) (hz : zs.length = len) (hl : len ≤ 1000) :
    Calls Tryd.prog 9 #[.slice a len cap] w fun e w' => ∃ u v, e = .returned (.tuple #[u, v]) ∧ Two w w.heap.size u v (onL zs) (metR zs) w' := by
  have HD := hide h
  obtain ⟨i0, hi, hz0, hz1, hz2⟩ := infoOf infoBool
  have l0 : (0 : Int) ≤ (len : Int) := by omega
  have l1 : (len : Int) ≤ 1000 := by omega
  have LE := hide hl
  have HZ := hide hz
  clear h hl hz
  go_enter Tryd.func9, Tryd.ntmps9
  go_wp2
  go_loopw [4, 5, 6] (fun av bv iv wr => ∃ (j : Nat), j ≤ len ∧ iv = .int .i64 (j : Int) ∧ Two w w.heap.size av bv (onL (zs.take j)) (metR (zs.take j)) wr) (fun _ _ i _ => (len - intOf i).toNat)
  case atStart => exact ⟨0, Nat.zero_le _, rfl, Two.start w⟩
  case round =>
    obtain ⟨j, hj, rfl, ht⟩ := hrel
    have j0 : (0 : Int) ≤ (j : Int) := by omega
    have T := hide ht
    clear ht
    by_cases g : j < len
    · have g' : (j : Int) < (len : Int) := by omega
      have gz : j < zs.length := by rw [HZ.out]; exact g
      obtain ⟨b, o, rfl, h0⟩ := (HD.out.fresh T.out.f).2 j gz
      have hlow := HD.out.low gz
      have NA := hide (onL_take zs gz)
      have NB := hide (metR_take zs gz)
      have LA := hide (show (onL (zs.take j)).length ≤ 1000 by rw [onL_length, List.length_take]; have := LE.out; omega)
      have LB := hide (show (metR (zs.take j)).length ≤ 1000 by rw [metR_length, List.length_take]; have := LE.out; omega)
      generalize hgz : zs.getD j 0 = z at *
      generalize onL (zs.take j) = xs at *
      generalize metR (zs.take j) = ys at *
      obtain ⟨x, hx⟩ : ∃ x : Bool, decide (z % 2 = 1) = x := ⟨_, rfl⟩
      obtain ⟨y, hy⟩ : ∃ y : Bool, decide (z % 5 = 0) = y := ⟨_, rfl⟩
      rw [hx] at NA
      rw [hy] at NB
      obtain ⟨z0, z1⟩ := hlow
      have x1 : (z.tmod 2 == 1) = x := by rw [Int.tmod_eq_emod_of_nonneg z0, ← hx]; rfl
      have y1 : (z.tmod 5 == 0) = y := by rw [Int.tmod_eq_emod_of_nonneg z0, ← hy]; rfl
      have HS : Hid (HeldU w b (o + j) z wr.drew) := ⟨h0, T.out.f.drew⟩
      have HH := hide (show ∀ w', Fresh w w' → HeldU w b (o + j) z w' from fun w' k => ⟨(by
        obtain ⟨b', o', e, c⟩ := (HD.out.fresh k).2 j gz
        cases e
        rw [hgz] at c
        exact c), k⟩)
      have TD : Hid (Two w w.heap.size u4 u5 xs ys wr.drew) := T.out.fresh (Fresh.refl wr).drew
      clear h0 hx hy hgz
      go_wp2_with fail
      refine wp_region_held (S := HeldU w b (o + j) z) (by kernel_rfl) ?_
      change wpAnyH _ _ _ _ _ _ _ _ (World.drew _)
      generalize World.drew wr = wd at HS TD ⊢
      refine held_take (i := 0) (d := 13) (v := ?_) rfl rfl (by kernel_rfl) (by kernel_rfl) (by kernel_rfl) (fun _ _ _ h => h) (by kernel_rfl) ?_ HS.out ?_
      rotate_left
      · intro wz hz
        obtain ⟨z0', -⟩ := hz
        go_simp
        first | done | with_reducible rfl
      refine held_take (i := 1) (d := 14) (v := ?_) rfl rfl (by kernel_rfl) (by kernel_rfl) (by kernel_rfl) (fun _ _ _ h => h) (by kernel_rfl) ?_ HS.out ?_
      rotate_left
      · intro wz hz
        obtain ⟨z0', -⟩ := hz
        go_simp
        first | done | with_reducible rfl
      refine held_take (i := 2) (d := 15) (v := ?_) rfl rfl (by kernel_rfl) (by kernel_rfl) (by kernel_rfl) (fun _ _ _ h => h) (by kernel_rfl) ?_ HS.out ?_
      rotate_left
      · intro wz hz
        obtain ⟨z0', -⟩ := hz
        go_simp
        first | done | with_reducible rfl
      refine held_take (i := 3) (d := 16) (v := ?_) rfl rfl (by kernel_rfl) (by kernel_rfl) (by kernel_rfl) (fun _ _ _ h => h) (by kernel_rfl) ?_ HS.out ?_
      rotate_left
      · intro wz hz
        obtain ⟨z0', -⟩ := hz
        go_simp
        first | done | with_reducible rfl
      refine held_take (i := 4) (d := 17) (v := ?_) rfl rfl (by kernel_rfl) (by kernel_rfl) (by kernel_rfl) (fun _ _ _ h => h) (by kernel_rfl) ?_ HS.out ?_
      rotate_left
      · intro wz hz
        obtain ⟨z0', -⟩ := hz
        go_simp
        first | done | with_reducible rfl
      refine held_take (i := 5) (d := 18) (v := ?_) rfl rfl (by kernel_rfl) (by kernel_rfl) (by kernel_rfl) (fun _ _ _ h => h) (by kernel_rfl) ?_ HS.out ?_
      rotate_left
      · intro wz hz
        obtain ⟨z0', -⟩ := hz
        go_simp
        first | done | with_reducible rfl
      refine held_take (i := 6) (d := 19) (v := ?_) rfl rfl (by kernel_rfl) (by kernel_rfl) (by kernel_rfl) (fun _ _ _ h => h) (by kernel_rfl) ?_ HS.out ?_
      rotate_left
      · intro wz hz
        obtain ⟨z0', -⟩ := hz
        go_simp
        first | done | with_reducible rfl
      refine held_take (i := 9) (d := 22) (v := ?_) rfl rfl (by kernel_rfl) (by kernel_rfl) (by kernel_rfl) (fun _ _ _ h => h) (by kernel_rfl) ?_ HS.out ?_
      rotate_left
      · intro wz hz
        obtain ⟨z0', -⟩ := hz
        go_simp
        first | done | with_reducible rfl
      refine held_take (i := 10) (d := 23) (v := ?_) rfl rfl (by kernel_rfl) (by kernel_rfl) (by kernel_rfl) (fun _ _ _ h => h) (by kernel_rfl) ?_ HS.out ?_
      rotate_left
      · intro wz hz
        obtain ⟨z0', -⟩ := hz
        go_simp
        first | done | with_reducible rfl
      refine held_take (i := 11) (d := 24) (v := ?_) rfl rfl (by kernel_rfl) (by kernel_rfl) (by kernel_rfl) (fun _ _ _ h => h) (by kernel_rfl) ?_ HS.out ?_
      rotate_left
      · intro wz hz
        obtain ⟨z0', -⟩ := hz
        go_simp
        first | done | with_reducible rfl
      refine held_take (i := 12) (d := 25) (v := ?_) rfl rfl (by kernel_rfl) (by kernel_rfl) (by kernel_rfl) (fun _ _ _ h => h) (by kernel_rfl) ?_ HS.out ?_
      rotate_left
      · intro wz hz
        obtain ⟨z0', -⟩ := hz
        go_simp
        first | done | with_reducible rfl
      refine held_take (i := 13) (d := 26) (v := ?_) rfl rfl (by kernel_rfl) (by kernel_rfl) (by kernel_rfl) (fun _ _ _ h => h) (by kernel_rfl) ?_ HS.out ?_
      rotate_left
      · intro wz hz
        obtain ⟨z0', -⟩ := hz
        go_simp
        first | done | with_reducible rfl
      refine held_take (i := 14) (d := 27) (v := ?_) rfl rfl (by kernel_rfl) (by kernel_rfl) (by kernel_rfl) (fun _ _ _ h => h) (by kernel_rfl) ?_ HS.out ?_
      rotate_left
      · intro wz hz
        obtain ⟨z0', -⟩ := hz
        go_simp
        first | done | with_reducible rfl
      refine held_take (i := 15) (d := 28) (v := ?_) rfl rfl (by kernel_rfl) (by kernel_rfl) (by kernel_rfl) (fun _ _ _ h => h) (by kernel_rfl) ?_ HS.out ?_
      rotate_left
      · intro wz hz
        obtain ⟨z0', -⟩ := hz
        go_simp
        first | done | with_reducible rfl
      refine wpAnyH_ready (rs := [7, 16]) (by kernel_rfl) (by simp) ?_
      refine AllReadyH.cons rfl (fun K hK => ?_) (AllReadyH.cons rfl (fun K hK => ?_) AllReadyH.nil)
      · skip
        go_simp
        refine two_alloc _ x TD.out ?_; intro wk kk tk lk; have GA := hide lk; have TD' := hide tk; have HS' := hide (HS.out.fresh kk); clear HS TD kk tk lk; have HS := HS'; have TD := TD'; clear HS' TD'
        refine hK.out _ _ HS.out (fun _ => ?_)
        clear hK K
        refine wpAnyH_ready (rs := [8, 16]) (by kernel_rfl) (by simp) ?_
        refine AllReadyH.cons rfl (fun K hK => ?_) (AllReadyH.cons rfl (fun K hK => ?_) AllReadyH.nil)
        · skip
          rw [if_pos (by rfl)]
          refine wp_append_own_at _ _ _ 23 rfl w.heap.size 4 i0 (.bool false) 1 1 Tryd.underlying23 hi hz0 hz1 hz2 rfl (by decide) _ _ _ rfl TD.out.a ⟨_, 0, none⟩ 1 1 [.bool x] rfl rfl GA.out.news (one_bool x) (by have := LA.out; unfold maxLen; omega) (by have := LA.out; omega) TD.out.lb ?_; intro va wa hown hgrow hloc; have TD' := hide (TD.out.left hown hgrow hloc); have HS' := hide (show HeldU w b (o + j) z wa from HH.out _ TD'.out.f); clear HS TD GA hown hgrow hloc; have HS := HS'; have TD := TD'; clear HS' TD'
          refine hK.out _ _ HS.out (fun _ => ?_)
          clear hK K
          refine wpAnyH_ready (rs := [16]) (by kernel_rfl) (by simp) ?_
          refine AllReadyH.cons rfl (fun K hK => ?_) AllReadyH.nil
          go_simp
          refine two_alloc _ y TD.out ?_; intro wk kk tk lk; have GB := hide lk; have TD' := hide tk; have HS' := hide (HS.out.fresh kk); clear HS TD kk tk lk; have HS := HS'; have TD := TD'; clear HS' TD'
          refine hK.out _ _ HS.out (fun _ => ?_)
          clear hK K
          refine wpAnyH_ready (rs := [17]) (by kernel_rfl) (by simp) ?_
          refine AllReadyH.cons rfl (fun K hK => ?_) AllReadyH.nil
          rw [if_pos (by rfl)]
          refine wp_append_own_at _ _ _ 23 rfl w.heap.size 4 i0 (.bool false) 1 1 Tryd.underlying23 hi hz0 hz1 hz2 rfl (by decide) _ _ _ rfl TD.out.b ⟨_, 0, none⟩ 1 1 [.bool y] rfl rfl GB.out.news (one_bool y) (by have := LB.out; unfold maxLen; omega) (by have := LB.out; omega) TD.out.lb ?_; intro vb wb hown hgrow hloc; have TD' := hide (TD.out.right hown hgrow hloc); have HS' := hide (show HeldU w b (o + j) z wb from HH.out _ TD'.out.f); clear HS TD GB hown hgrow hloc; have HS := HS'; have TD := TD'; clear HS' TD'
          refine hK.out _ _ HS.out (fun _ => ?_)
          clear hK K
          refine held_take (i := 18) (d := 4) (v := ?_) rfl rfl (by kernel_rfl) (by kernel_rfl) (by kernel_rfl) (fun _ _ _ h => h) (by kernel_rfl) ?_ HS.out ?_
          rotate_left
          · intro wz hz
            obtain ⟨z0', -⟩ := hz
            go_simp
            first | done | with_reducible rfl
          refine held_take (i := 19) (d := 5) (v := ?_) rfl rfl (by kernel_rfl) (by kernel_rfl) (by kernel_rfl) (fun _ _ _ h => h) (by kernel_rfl) ?_ HS.out ?_
          rotate_left
          · intro wz hz
            obtain ⟨z0', -⟩ := hz
            go_simp
            first | done | with_reducible rfl
          refine wpAnyH_done (by kernel_rfl) ?_ _
          try simp only [Act.put, List.setIfInBounds_toArray]
          clear HS
          go_wp2
          go_roundw
          case rel => exact ⟨j + 1, by omega, by go_num, by rw [NA.out, NB.out]; exact TD.out⟩
          case measure => simp [intOf]; omega
        · skip
          go_simp
          refine two_alloc _ y TD.out ?_; intro wk kk tk lk; have GB := hide lk; have TD' := hide tk; have HS' := hide (HS.out.fresh kk); have G' := hide (GA.out.fresh kk); clear GA; have GA := G'; clear G'; clear HS TD kk tk lk; have HS := HS'; have TD := TD'; clear HS' TD'
          refine hK.out _ _ HS.out (fun _ => ?_)
          clear hK K
          refine wpAnyH_ready (rs := [8]) (by kernel_rfl) (by simp) ?_
          refine AllReadyH.cons rfl (fun K hK => ?_) AllReadyH.nil
          rw [if_pos (by rfl)]
          refine wp_append_own_at _ _ _ 23 rfl w.heap.size 4 i0 (.bool false) 1 1 Tryd.underlying23 hi hz0 hz1 hz2 rfl (by decide) _ _ _ rfl TD.out.a ⟨_, 0, none⟩ 1 1 [.bool x] rfl rfl GA.out.news (one_bool x) (by have := LA.out; unfold maxLen; omega) (by have := LA.out; omega) TD.out.lb ?_; intro va wa hown hgrow hloc; have TD' := hide (TD.out.left hown hgrow hloc); have HS' := hide (show HeldU w b (o + j) z wa from HH.out _ TD'.out.f); have G' := hide (GB.out.after hgrow hloc); clear GB; have GB := G'; clear G'; clear HS TD GA hown hgrow hloc; have HS := HS'; have TD := TD'; clear HS' TD'
          refine hK.out _ _ HS.out (fun _ => ?_)
          clear hK K
          refine wpAnyH_ready (rs := [17]) (by kernel_rfl) (by simp) ?_
          refine AllReadyH.cons rfl (fun K hK => ?_) AllReadyH.nil
          rw [if_pos (by rfl)]
          refine wp_append_own_at _ _ _ 23 rfl w.heap.size 4 i0 (.bool false) 1 1 Tryd.underlying23 hi hz0 hz1 hz2 rfl (by decide) _ _ _ rfl TD.out.b ⟨_, 0, none⟩ 1 1 [.bool y] rfl rfl GB.out.news (one_bool y) (by have := LB.out; unfold maxLen; omega) (by have := LB.out; omega) TD.out.lb ?_; intro vb wb hown hgrow hloc; have TD' := hide (TD.out.right hown hgrow hloc); have HS' := hide (show HeldU w b (o + j) z wb from HH.out _ TD'.out.f); clear HS TD GB hown hgrow hloc; have HS := HS'; have TD := TD'; clear HS' TD'
          refine hK.out _ _ HS.out (fun _ => ?_)
          clear hK K
          refine held_take (i := 18) (d := 4) (v := ?_) rfl rfl (by kernel_rfl) (by kernel_rfl) (by kernel_rfl) (fun _ _ _ h => h) (by kernel_rfl) ?_ HS.out ?_
          rotate_left
          · intro wz hz
            obtain ⟨z0', -⟩ := hz
            go_simp
            first | done | with_reducible rfl
          refine held_take (i := 19) (d := 5) (v := ?_) rfl rfl (by kernel_rfl) (by kernel_rfl) (by kernel_rfl) (fun _ _ _ h => h) (by kernel_rfl) ?_ HS.out ?_
          rotate_left
          · intro wz hz
            obtain ⟨z0', -⟩ := hz
            go_simp
            first | done | with_reducible rfl
          refine wpAnyH_done (by kernel_rfl) ?_ _
          try simp only [Act.put, List.setIfInBounds_toArray]
          clear HS
          go_wp2
          go_roundw
          case rel => exact ⟨j + 1, by omega, by go_num, by rw [NA.out, NB.out]; exact TD.out⟩
          case measure => simp [intOf]; omega
      · skip
        go_simp
        refine two_alloc _ y TD.out ?_; intro wk kk tk lk; have GB := hide lk; have TD' := hide tk; have HS' := hide (HS.out.fresh kk); clear HS TD kk tk lk; have HS := HS'; have TD := TD'; clear HS' TD'
        refine hK.out _ _ HS.out (fun _ => ?_)
        clear hK K
        refine wpAnyH_ready (rs := [7]) (by kernel_rfl) (by simp) ?_
        refine AllReadyH.cons rfl (fun K hK => ?_) AllReadyH.nil
        go_simp
        refine two_alloc _ x TD.out ?_; intro wk kk tk lk; have GA := hide lk; have TD' := hide tk; have HS' := hide (HS.out.fresh kk); have G' := hide (GB.out.fresh kk); clear GB; have GB := G'; clear G'; clear HS TD kk tk lk; have HS := HS'; have TD := TD'; clear HS' TD'
        refine hK.out _ _ HS.out (fun _ => ?_)
        clear hK K
        refine wpAnyH_ready (rs := [8]) (by kernel_rfl) (by simp) ?_
        refine AllReadyH.cons rfl (fun K hK => ?_) AllReadyH.nil
        rw [if_pos (by rfl)]
        refine wp_append_own_at _ _ _ 23 rfl w.heap.size 4 i0 (.bool false) 1 1 Tryd.underlying23 hi hz0 hz1 hz2 rfl (by decide) _ _ _ rfl TD.out.a ⟨_, 0, none⟩ 1 1 [.bool x] rfl rfl GA.out.news (one_bool x) (by have := LA.out; unfold maxLen; omega) (by have := LA.out; omega) TD.out.lb ?_; intro va wa hown hgrow hloc; have TD' := hide (TD.out.left hown hgrow hloc); have HS' := hide (show HeldU w b (o + j) z wa from HH.out _ TD'.out.f); have G' := hide (GB.out.after hgrow hloc); clear GB; have GB := G'; clear G'; clear HS TD GA hown hgrow hloc; have HS := HS'; have TD := TD'; clear HS' TD'
        refine hK.out _ _ HS.out (fun _ => ?_)
        clear hK K
        refine wpAnyH_ready (rs := [17]) (by kernel_rfl) (by simp) ?_
        refine AllReadyH.cons rfl (fun K hK => ?_) AllReadyH.nil
        rw [if_pos (by rfl)]
        refine wp_append_own_at _ _ _ 23 rfl w.heap.size 4 i0 (.bool false) 1 1 Tryd.underlying23 hi hz0 hz1 hz2 rfl (by decide) _ _ _ rfl TD.out.b ⟨_, 0, none⟩ 1 1 [.bool y] rfl rfl GB.out.news (one_bool y) (by have := LB.out; unfold maxLen; omega) (by have := LB.out; omega) TD.out.lb ?_; intro vb wb hown hgrow hloc; have TD' := hide (TD.out.right hown hgrow hloc); have HS' := hide (show HeldU w b (o + j) z wb from HH.out _ TD'.out.f); clear HS TD GB hown hgrow hloc; have HS := HS'; have TD := TD'; clear HS' TD'
        refine hK.out _ _ HS.out (fun _ => ?_)
        clear hK K
        refine held_take (i := 18) (d := 4) (v := ?_) rfl rfl (by kernel_rfl) (by kernel_rfl) (by kernel_rfl) (fun _ _ _ h => h) (by kernel_rfl) ?_ HS.out ?_
        rotate_left
        · intro wz hz
          obtain ⟨z0', -⟩ := hz
          go_simp
          first | done | with_reducible rfl
        refine held_take (i := 19) (d := 5) (v := ?_) rfl rfl (by kernel_rfl) (by kernel_rfl) (by kernel_rfl) (fun _ _ _ h => h) (by kernel_rfl) ?_ HS.out ?_
        rotate_left
        · intro wz hz
          obtain ⟨z0', -⟩ := hz
          go_simp
          first | done | with_reducible rfl
        refine wpAnyH_done (by kernel_rfl) ?_ _
        try simp only [Act.put, List.setIfInBounds_toArray]
        clear HS
        go_wp2
        go_roundw
        case rel => exact ⟨j + 1, by omega, by go_num, by rw [NA.out, NB.out]; exact TD.out⟩
        case measure => simp [intOf]; omega
    · obtain rfl : len = j := by omega
      have ZA := hide (show zs.take len = zs from List.take_of_length_le (by rw [HZ.out]; exact Nat.le_refl _))
      go_wp2
      go_ret2
      exact ⟨_, _, rfl, by rw [← ZA.out]; exact T.out⟩
end Go.Proofs.YtcnfmkhjhffebaaDoor
