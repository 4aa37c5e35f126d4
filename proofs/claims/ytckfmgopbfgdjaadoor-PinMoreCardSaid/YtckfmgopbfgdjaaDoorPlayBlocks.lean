/- Blocks that are made of bytes (hodmanlaw12.Blocks). -/
import Derived.Test.YtckfmgopbfgdjaaDoorBlockMem
import Derived.Test.YtckfmgopbfgdjaaDoorDuoList
import Derived.Test.YtckfmgopbfgdjaaDoorHeld
namespace Go.Proofs.YtckfmgopbfgdjaaDoor
open Go.RowKit

def blk (z : Nat × Nat) : Bk := (z.1, 1 + z.2 % 40, 0)
def blL (zs : List (Nat × Nat)) : List Bk := zs.map blk
theorem blL_length (zs : List (Nat × Nat)) : (blL zs).length = zs.length := by unfold blL; simp
theorem blL_bk (zs : List (Nat × Nat)) {i : Nat} (h : i < zs.length) : bk (blL zs) i = blk (dz zs i) := by
  unfold bk blL dz
  rw [List.getD_eq_getElem?_getD, List.getD_eq_getElem?_getD, List.getElem?_map, List.getElem?_eq_getElem h]; rfl
theorem blL_take (zs : List (Nat × Nat)) {j : Nat} (h : j < zs.length) : blL (zs.take (j + 1)) = blL (zs.take j) ++ [blk (dz zs j)] := by
  unfold blL dz
  rw [List.take_add_one, List.map_append, List.getD_eq_getElem?_getD, List.getElem?_eq_getElem h]; rfl
theorem blL_small {w : World} {a : Option Addr} {zs : List (Nat × Nat)} (h : DuoAt w a zs) : ∀ p ∈ blL zs, Small p ∧ p.1 ≤ 255 ∧ 1 ≤ p.2.1 ∧ p.2.1 ≤ 40 := fun p hp => by
  obtain ⟨z, hz, rfl⟩ := List.mem_map.1 hp
  have := h.1 z hz
  have := Nat.mod_lt z.2 (show 0 < 40 by decide)
  unfold Small blk
  simp only
  omega
/-- two bytes that are read -/
def HeldY (W : World) (b o : Nat) (z0 z1 : Int) (w : World) : Prop := w.cell? ⟨b, o, none⟩ = some (.int .u8 z0) ∧ w.cell? ⟨b, o + 1, none⟩ = some (.int .u8 z1) ∧ Fresh W w
theorem HeldY.fresh {W : World} {b o : Nat} {z0 z1 : Int} {w w' : World} (h : HeldY W b o z0 z1 w) (k : Fresh w w') : HeldY W b o z0 z1 w' :=
  ⟨(k.cell (World.block_lt_of_cell? _ _ h.1)).trans h.1, (k.cell (World.block_lt_of_cell? _ _ h.2.1)).trans h.2.1, h.2.2.trans k⟩
/-- a block of one, made ahead of an append -/
theorem one_block (w : World) (x y z : Value) {p : World → Prop} (h : ∀ w5, w5.heap[w.heap.size]? = some (.cells #[x, y, z] 31 (0, 0)) → Fresh w w5 → p w5) : p (w.alloc (.cells #[x, y, z] 31)) :=
  h _ (heap_alloc_new w _) (fresh_box _ _ _)

set_option maxHeartbeats 1000000 in
theorem blocks_any (a : Option Addr) (zs : List (Nat × Nat)) (len cap : Nat) (w : World) (h : DuoAt w a zs) (hz : zs.length = len) (hl : len ≤ 1000) :
    Calls Tryd.prog 7 #[.slice a len cap] w fun e w' => ∃ u, e = .returned u ∧ OwnK w' w.heap.size u (blL zs) ∧ Fresh w w' := by
  have HD := hide h
  obtain ⟨i0, hi, hz0, hz1, hz2⟩ := infoOf infoBlock
  have l0 : (0 : Int) ≤ (len : Int) := by omega
  have l1 : (len : Int) ≤ 1000 := by omega
  have LE := hide hl
  have HZ := hide hz
  clear h hl hz
  go_enter Tryd.func7, Tryd.ntmps7
  go_wp2
  go_loopw [3, 4] (fun ov iv wr => ∃ (j : Nat), j ≤ len ∧ iv = .int .i64 (j : Int) ∧ OwnK wr w.heap.size ov (blL (zs.take j)) ∧ Fresh w wr) (fun _ i _ => (len - intOf i).toNat)
  case atStart => exact ⟨0, Nat.zero_le _, rfl, OwnK.nil _ _, Fresh.refl _⟩
  case round =>
    obtain ⟨j, hj, rfl, ho, hf⟩ := hrel
    have F := hide hf
    have j0 : (0 : Int) ≤ (j : Int) := by omega
    by_cases g : j < len
    · have g' : (j : Int) < (len : Int) := by omega
      have gz : j < zs.length := by rw [HZ.out]; exact g
      obtain ⟨b, o, rfl, h0, h1⟩ := (HD.out.fresh hf).2 j gz
      have hlow := HD.out.low gz
      obtain ⟨oa, oc, rfl⟩ := ho.shape
      have LB := hide (show (blL (zs.take j)).length = j by rw [blL_length, List.length_take]; omega)
      have NX := hide (blL_take zs gz)
      obtain ⟨x0, y0, hxy⟩ : ∃ x y, dz zs j = (x, y) := ⟨_, _, rfl⟩
      rw [hxy] at h0 h1 hlow NX
      simp only at h0 h1 hlow
      have HS : Hid (HeldY w b (o + j * 2) (x0 : Int) (y0 : Int) wr.drew) := HeldY.fresh ⟨h0, h1, hf⟩ (Fresh.refl wr).drew
      have HB := hide (show ∀ w', Fresh w w' → HeldY w b (o + j * 2) (x0 : Int) (y0 : Int) w' from fun w' k => by
        obtain ⟨b', o', e, c0, c1⟩ := (HD.out.fresh k).2 j gz
        cases e
        rw [hxy] at c0 c1
        exact ⟨c0, c1, k⟩)
      have OD : Hid (OwnK wr.drew w.heap.size (.slice oa (blL (zs.take j)).length oc) (blL (zs.take j))) := ho.fresh (Fresh.refl wr).drew
      have FD : Hid (Fresh w wr.drew) := hf.drew
      obtain ⟨Y, hY⟩ : ∃ Y : Nat, Y = 1 + y0 % 40 := ⟨_, rfl⟩
      have x1 : (0 : Int) ≤ (x0 : Int) := by omega
      have x2 : (x0 : Int) ≤ 255 := by omega
      have y1 : (0 : Int) ≤ (y0 : Int) := by omega
      have y2 : (y0 : Int) ≤ 255 := by omega
      obtain ⟨T, hT⟩ : ∃ T : Nat, T = y0 % 40 := ⟨_, rfl⟩
      have t1 : (0 : Int) ≤ (T : Int) := by omega
      have t2 : (T : Int) ≤ 39 := by omega
      have t3 : (y0 : Int).tmod 40 = (T : Int) := by rw [Int.tmod_eq_emod_of_nonneg y1, hT]; omega
      have t4 : 1 + (T : Int) = (Y : Int) := by omega
      have e6 : IntKind.i64.wrap (x0 : Int) = (x0 : Int) := by rw [IntKind.wrap_i64]; omega
      have e7 : IntKind.i64.wrap (T : Int) = (T : Int) := by rw [IntKind.wrap_i64]; omega
      have e8 : IntKind.i64.wrap (1 + (T : Int)) = (Y : Int) := by rw [IntKind.wrap_i64]; omega
      have PU := hide (fun w1 v1 (ho : w1.ownsRow w.heap.size 31 3 v1 ((blL (zs.take j)).length + 1) (kvals (blL (zs.take j)) ++ [.int .i64 (x0 : Int), .int .i64 (Y : Int), .int .i64 0])) => show OwnK w1 w.heap.size v1 (blL (zs.take (j + 1))) by rw [NX.out]; unfold blk; simp only; rw [← hY]; exact ownK_push (z := 0) ho)
      clear hY hT t4 ho hf h0 h1 hlow hxy
      go_wp2_with fail
      refine wp_region_held (S := HeldY w b (o + j * 2) (x0 : Int) (y0 : Int)) (by kernel_rfl) ?_
      change wpAnyH _ _ _ _ _ _ _ _ (World.drew _)
      generalize World.drew wr = wd at HS OD FD ⊢
      refine held_take (i := 0) (d := 11) (v := ?_) rfl rfl (by kernel_rfl) (by kernel_rfl) (by kernel_rfl) (fun _ _ _ h => h) (by kernel_rfl) ?_ HS.out ?_
      rotate_left
      · intro wz hz
        obtain ⟨y0', y1', -⟩ := hz
        go_simp
        first | done | with_reducible rfl
      refine held_take (i := 1) (d := 12) (v := ?_) rfl rfl (by kernel_rfl) (by kernel_rfl) (by kernel_rfl) (fun _ _ _ h => h) (by kernel_rfl) ?_ HS.out ?_
      rotate_left
      · intro wz hz
        obtain ⟨y0', y1', -⟩ := hz
        go_simp
        first | done | with_reducible rfl
      refine held_take (i := 2) (d := 13) (v := ?_) rfl rfl (by kernel_rfl) (by kernel_rfl) (by kernel_rfl) (fun _ _ _ h => h) (by kernel_rfl) ?_ HS.out ?_
      rotate_left
      · intro wz hz
        obtain ⟨y0', y1', -⟩ := hz
        go_simp
        first | done | with_reducible rfl
      refine held_take (i := 3) (d := 14) (v := ?_) rfl rfl (by kernel_rfl) (by kernel_rfl) (by kernel_rfl) (fun _ _ _ h => h) (by kernel_rfl) ?_ HS.out ?_
      rotate_left
      · intro wz hz
        obtain ⟨y0', y1', -⟩ := hz
        go_simp
        first | done | with_reducible rfl
      refine held_take (i := 4) (d := 15) (v := ?_) rfl rfl (by kernel_rfl) (by kernel_rfl) (by kernel_rfl) (fun _ _ _ h => h) (by kernel_rfl) ?_ HS.out ?_
      rotate_left
      · intro wz hz
        obtain ⟨y0', y1', -⟩ := hz
        go_simp
        first | done | with_reducible rfl
      refine held_take (i := 5) (d := 16) (v := ?_) rfl rfl (by kernel_rfl) (by kernel_rfl) (by kernel_rfl) (fun _ _ _ h => h) (by kernel_rfl) ?_ HS.out ?_
      rotate_left
      · intro wz hz
        obtain ⟨y0', y1', -⟩ := hz
        go_simp
        first | done | with_reducible rfl
      refine held_take (i := 6) (d := 17) (v := ?_) rfl rfl (by kernel_rfl) (by kernel_rfl) (by kernel_rfl) (fun _ _ _ h => h) (by kernel_rfl) ?_ HS.out ?_
      rotate_left
      · intro wz hz
        obtain ⟨y0', y1', -⟩ := hz
        go_simp
        first | done | with_reducible rfl
      refine held_take (i := 7) (d := 18) (v := ?_) rfl rfl (by kernel_rfl) (by kernel_rfl) (by kernel_rfl) (fun _ _ _ h => h) (by kernel_rfl) ?_ HS.out ?_
      rotate_left
      · intro wz hz
        obtain ⟨y0', y1', -⟩ := hz
        go_simp
        first | done | with_reducible rfl
      refine held_take (i := 8) (d := 19) (v := ?_) rfl rfl (by kernel_rfl) (by kernel_rfl) (by kernel_rfl) (fun _ _ _ h => h) (by kernel_rfl) ?_ HS.out ?_
      rotate_left
      · intro wz hz
        obtain ⟨y0', y1', -⟩ := hz
        go_simp
        first | done | with_reducible rfl
      refine held_take (i := 9) (d := 20) (v := ?_) rfl rfl (by kernel_rfl) (by kernel_rfl) (by kernel_rfl) (fun _ _ _ h => h) (by kernel_rfl) ?_ HS.out ?_
      rotate_left
      · intro wz hz
        obtain ⟨y0', y1', -⟩ := hz
        go_simp
        first | done | with_reducible rfl
      refine held_take (i := 10) (d := 21) (v := ?_) rfl rfl (by kernel_rfl) (by kernel_rfl) (by kernel_rfl) (fun _ _ _ h => h) (by kernel_rfl) ?_ HS.out ?_
      rotate_left
      · intro wz hz
        obtain ⟨y0', y1', -⟩ := hz
        go_simp
        first | done | with_reducible rfl
      refine held_take (i := 11) (d := 22) (v := ?_) rfl rfl (by kernel_rfl) (by kernel_rfl) (by kernel_rfl) (fun _ _ _ h => h) (by kernel_rfl) ?_ HS.out ?_
      rotate_left
      · intro wz hz
        obtain ⟨y0', y1', -⟩ := hz
        go_simp
        first | done | with_reducible rfl
      refine held_take (i := 12) (d := 23) (v := ?_) rfl rfl (by kernel_rfl) (by kernel_rfl) (by kernel_rfl) (fun _ _ _ h => h) (by kernel_rfl) ?_ HS.out ?_
      rotate_left
      · intro wz hz
        obtain ⟨y0', y1', -⟩ := hz
        go_simp
        first | done | with_reducible rfl
      refine held_take (i := 13) (d := 24) (v := ?_) rfl rfl (by kernel_rfl) (by kernel_rfl) (by kernel_rfl) (fun _ _ _ h => h) (by kernel_rfl) ?_ HS.out ?_
      rotate_left
      · intro wz hz
        obtain ⟨y0', y1', -⟩ := hz
        go_simp
        first | done | with_reducible rfl
      refine held_take (i := 14) (d := 25) (v := ?_) rfl rfl (by kernel_rfl) (by kernel_rfl) (by kernel_rfl) (fun _ _ _ h => h) (by kernel_rfl) ?_ HS.out ?_
      rotate_left
      · intro wz hz
        obtain ⟨y0', y1', -⟩ := hz
        go_simp
        first | done | with_reducible rfl
      refine held_take (i := 15) (d := 26) (v := ?_) rfl rfl (by kernel_rfl) (by kernel_rfl) (by kernel_rfl) (fun _ _ _ h => h) (by kernel_rfl) ?_ HS.out ?_
      rotate_left
      · intro wz hz
        obtain ⟨y0', y1', -⟩ := hz
        go_simp
        first | done | with_reducible rfl
      refine wpAnyH_ready (rs := [16]) (by kernel_rfl) (by simp) ?_
      refine AllReadyH.cons rfl (fun K hK => ?_) AllReadyH.nil
      go_simp
      refine one_block _ _ _ _ ?_; intro w4 hb4 k4; have B4 := hide hb4; have K4 := hide k4; have HS' := hide (HS.out.fresh k4); clear HS hb4 k4; have HS := HS'; clear HS'
      refine hK.out _ _ HS.out (fun _ => ?_)
      clear hK K
      refine wpAnyH_ready (rs := [17]) (by kernel_rfl) (by simp) ?_
      refine AllReadyH.cons rfl (fun K hK => ?_) AllReadyH.nil
      rw [if_pos (by rfl)]
      refine wp_append_own _ _ _ 24 rfl w.heap.size 31 i0 (.agg #[.int .i64 0, .int .i64 0, .int .i64 0]) 3 24 Tryd.underlying24 hi hz0 hz1 hz2 rfl (by decide) _ _ _ rfl (OD.out.fresh K4.out) ⟨wd.heap.size, 0, none⟩ 1 1 [.int .i64 (x0 : Int), .int .i64 (Y : Int), .int .i64 0] rfl rfl (block_news B4.out) (block_one _ _ _) (by rw [LB.out]; unfold maxLen; omega) (by rw [LB.out]; omega) (Nat.le_trans FD.out.size K4.out.size) ?_; intro v6 w6 hown hgrow _; have O6 := hide (PU.out _ _ hown); have K6 := hide (show Fresh w w6 from (OD.out.fresh K4.out).grown (Nat.le_refl _) (FD.out.trans K4.out) hgrow); have HS' := hide (HB.out _ K6.out); clear HS hown hgrow; have HS := HS'; clear HS'
      refine hK.out _ _ HS.out (fun _ => ?_)
      clear hK K
      refine held_take (i := 18) (d := 3) (v := ?_) rfl rfl (by kernel_rfl) (by kernel_rfl) (by kernel_rfl) (fun _ _ _ h => h) (by kernel_rfl) ?_ HS.out ?_
      rotate_left
      · intro wz hz
        obtain ⟨y0', y1', -⟩ := hz
        go_simp
        first | done | with_reducible rfl
      refine wpAnyH_done (by kernel_rfl) ?_ _
      try simp only [Act.put, List.setIfInBounds_toArray]
      go_wp2
      go_roundw
      case rel => exact ⟨j + 1, by omega, by go_num, O6.out, K6.out⟩
      case measure => simp [intOf]; omega
    · obtain rfl : len = j := by omega
      have O := hide ho
      have ZA := hide (show zs.take len = zs from List.take_of_length_le (by rw [HZ.out]; exact Nat.le_refl _))
      clear ho hf
      go_wp2
      go_ret
      exact ⟨_, rfl, by rw [← ZA.out]; exact O.out, F.out⟩
end Go.Proofs.YtckfmgopbfgdjaaDoor
