/- New of package slots, as a contract. -/
import Derived.Test.YtpkcihfldmgehaaSlotsA
import Derived.Test.YtpkcihfldmgehaaSlotsFill
import Derived.Test.YtpkcihfldmgehaaTreeN
namespace Go.Proofs.Ytpkcihfldmgehaa
open Go.RowKit

theorem cls_none : ∀ (k j : Nat), clsB (fun _ => false) k j = false
  | 0, _ => rfl
  | k + 1, j => by show (clsB _ k (2 * j) || clsB _ k (2 * j + 1)) = false; rw [cls_none k, cls_none k]; rfl
theorem tr_none (N k : Nat) : trW N (fun _ => false) k = noneV (N / 2 ^ k) := pack_congr fun i _ => cls_none k i
/-- a row's block, through the variable that holds it -/
def HeldV (W : World) (V g c : Nat) (w : World) : Prop := w.cell? ⟨V, 0, none⟩ = some (.slice (some ⟨g, 0, none⟩) c c) ∧ Fresh W w
theorem HeldV.fresh {W : World} {V g c : Nat} {w w' : World} (h : HeldV W V g c w) (k : Fresh w w') : HeldV W V g c w' := ⟨(k.cell (World.block_lt_of_cell? _ _ h.1)).trans h.1, h.2.trans k⟩
theorem tnew_cls (N k : Nat) (x : Int) (hx : x = ((N / 2 ^ k : Nat) : Int)) (w : World) (n1 : 1 ≤ N / 2 ^ k) (n2 : N / 2 ^ k ≤ 65536) : Calls Try.prog 32 #[.int .i64 x] w fun e w' => ∃ xa xl xc, e = .returned (.agg #[.int .i64 x, .slice xa xl xc]) ∧ TreeNew w.heap.size w' (.agg #[.int .i64 ((N / 2 ^ k : Nat) : Int), .slice xa xl xc]) (N / 2 ^ k) (trW N (fun _ => false) k) ∧ Fresh w w' := by
  subst hx
  refine (tnew_nat _ w n1 n2).mono ?_
  rintro e w' ⟨v, rfl, t, f⟩
  rw [← tr_none] at t
  obtain ⟨_, _, _, xa, xc, rfl, _⟩ := t.at
  exact ⟨xa, _, xc, rfl, t, f⟩

set_option maxHeartbeats 1000000 in
theorem snew_ok (N c : Nat) (hc : Cls N c) (w : World) :
    Calls Try.prog 15 #[.int .i64 (N : Int), .int .i64 (c : Int)] w fun e w' => ∃ u, e = .returned u ∧ SlotsNew w.heap.size w' u N c (fun _ => false) ∧ Fresh w w' := by
  obtain ⟨i0, hi, hz0, hz1, hz2⟩ := infoOf infoTree
  obtain ⟨R, hR⟩ : ∃ R, R = w.heap.size := ⟨_, rfl⟩
  obtain ⟨W1, hW1⟩ : ∃ W1, W1 = w.alloc (.cells #[.slice none 0 0] 26) := ⟨_, rfl⟩
  have FW := hide (show Fresh w W1 by rw [hW1]; exact fresh_box _ _ _)
  have BR := hide (show W1.heap[R]? = some (.cells #[.slice none 0 0] 26 (0, 0)) by rw [hR, hW1]; exact heap_alloc_new w _)
  have HC := hide hc
  have HR := hide hR
  have HW := hide hW1
  have c0 : (1 : Int) ≤ (c : Int) := by have := hc.1; omega
  have c1 : (c : Int) ≤ 17 := by have := hc.2.1; omega
  clear hR hW1 hc
  go_enter Try.func15, Try.ntmps15
  go_wp2_with fail
  rw [← HW.out, ← HR.out]
  refine (shape_yes N c _ HC.out).mono ?_
  rintro e w' ⟨rfl, rfl⟩
  go_wp2_with (at_make; refine wpList_make_full _ rfl _ _ 24 rfl w'.heap.size 45 i0 (.agg #[.int .i64 0, .slice none 0 0]) 2 Try.underlying24 hi hz0 hz1 _ _ _ _ c rfl rfl rfl rfl (by rw [hz2]; omega) (by unfold maxLen; omega) (Nat.le_refl _) ?_; intro w2 hown hgrow)
  have FI := hide (fill_start (ns := fun k => N / 2 ^ k) (f := trW N (fun _ => false)) (Fresh.refl w') hown hgrow)
  have f12 : Fresh w' w2 := (Below.refl _ _).grown hgrow (Nat.le_refl _) (fun k hk => by cases hk)
  obtain ⟨g, hg⟩ : ∃ g, g = w'.heap.size := ⟨_, rfl⟩
  obtain ⟨V, hV⟩ : ∃ V, V = w2.heap.size := ⟨_, rfl⟩
  have RG := hide (show R < w'.heap.size ∧ w.heap.size ≤ R by rw [HR.out]; exact ⟨by rw [← HR.out]; exact (Array.getElem?_eq_some_iff.1 BR.out).1, Nat.le_refl _⟩)
  have BW := hide (show (w2.alloc (.cells #[.slice (some ⟨w'.heap.size, 0, none⟩) c c] 26)).heap[R]? = some (.cells #[.slice none 0 0] 26 (0, 0)) by rw [(fresh_more f12 _ _).block R (Array.getElem?_eq_some_iff.1 BR.out).1]; exact BR.out)
  rw [← hg, ← hV]
  rw [← hg, ← hV] at FI
  rw [← hg] at BW
  generalize w2.alloc (.cells #[.slice (some ⟨g, 0, none⟩) c c] 26) = w3 at FI BW ⊢
  clear hown hgrow f12 hg hV BR
  go_loopw [18] (fun i wr => ∃ k : Nat, k ≤ c ∧ i = .int .i64 (k : Int) ∧ FillS w' V g c k (fun k => N / 2 ^ k) (trW N (fun _ => false)) wr ∧ wr.heap[R]? = some (.cells #[.slice none 0 0] 26 (0, 0))) (fun i _ => (c - intOf i).toNat)
  case atStart => exact ⟨0, Nat.zero_le _, rfl, FI.out, BW.out⟩
  case round =>
    obtain ⟨k, hk, rfl, hf, hr⟩ := hrel
    have k0 : (0 : Int) ≤ (k : Int) := by omega
    by_cases gk : k < c
    · have k1 : (k : Int) < (c : Int) := by omega
      have FK := hide (hf.fresh (Fresh.refl wr).drew)
      have RK := hide (show wr.drew.heap[R]? = some (.cells #[.slice none 0 0] 26 (0, 0)) from hr)
      have HS : Hid (HeldV w' V g c wr.drew) := ⟨FK.out.cell, FK.out.el⟩
      have GW := hide hf.lt.1
      have NP := hide (HC.out.pos gk)
      have GK := hide gk
      clear hf hr FI BW
      go_wp2_with fail
      refine wp_region_held (S := HeldV w' V g c) (by kernel_rfl) ?_
      change wpAnyH _ _ _ _ _ _ _ _ (World.drew _)
      generalize World.drew wr = wd at FK RK HS ⊢
      refine held_take (i := 0) (d := 21) (v := ?_) rfl rfl (by kernel_rfl) (by kernel_rfl) (by kernel_rfl) (fun _ _ _ h => h) (by kernel_rfl) ?_ HS.out ?_
      rotate_left
      · intro wz hz
        obtain ⟨z0, -⟩ := hz
        go_simp
        first | done | with_reducible rfl
      refine held_take (i := 1) (d := 22) (v := ?_) rfl rfl (by kernel_rfl) (by kernel_rfl) (by kernel_rfl) (fun _ _ _ h => h) (by kernel_rfl) ?_ HS.out ?_
      rotate_left
      · intro wz hz
        obtain ⟨z0, -⟩ := hz
        go_simp
        first | done | with_reducible rfl
      refine held_take (i := 2) (d := 23) (v := ?_) rfl rfl (by kernel_rfl) (by kernel_rfl) (by kernel_rfl) (fun _ _ _ h => h) (by kernel_rfl) ?_ HS.out ?_
      rotate_left
      · intro wz hz
        obtain ⟨z0, -⟩ := hz
        go_simp
        first | done | with_reducible rfl
      refine held_take (i := 3) (d := 24) (v := ?_) rfl rfl (by kernel_rfl) (by kernel_rfl) (by kernel_rfl) (fun _ _ _ h => h) (by kernel_rfl) ?_ HS.out ?_
      rotate_left
      · intro wz hz
        obtain ⟨z0, -⟩ := hz
        go_simp
        first | done | with_reducible rfl
      refine held_take (i := 4) (d := 25) (v := ?_) rfl rfl (by kernel_rfl) (by kernel_rfl) (by kernel_rfl) (fun _ _ _ h => h) (by kernel_rfl) ?_ HS.out ?_
      rotate_left
      · intro wz hz
        obtain ⟨z0, -⟩ := hz
        go_simp
        first | done | with_reducible rfl
      refine held_take (i := 5) (d := 26) (v := ?_) rfl rfl (by kernel_rfl) (by kernel_rfl) (by kernel_rfl) (fun _ _ _ h => h) (by kernel_rfl) ?_ HS.out ?_
      rotate_left
      · intro wz hz
        obtain ⟨z0, -⟩ := hz
        go_simp
        first | done | with_reducible rfl
      have HX := hide (show (N : Int) / 2 ^ k = ((N / 2 ^ k : Nat) : Int) by simp)
      generalize (N : Int) / 2 ^ k = nn at HX ⊢
      refine wpAnyH_ready (rs := [6]) (by kernel_rfl) (by simp) ?_
      refine AllReadyH.cons rfl (fun K hK => ?_) AllReadyH.nil
      go_simp
      go_wp2_with fail
      refine (tnew_cls N k nn HX.out _ NP.out.1 NP.out.2).mono ?_; rintro e w4 ⟨xa, xl, xc, rfl, t4, f4⟩; have F4 := hide (FK.out.put GK.out f4 t4); rw [← HX.out] at F4; have P4 := hide ((FK.out.fresh f4).place k GK.out); have R4 := hide (show w4.heap[R]? = some (.cells #[.slice none 0 0] 26 (0, 0)) by rw [f4.block R (Array.getElem?_eq_some_iff.1 RK.out).1]; exact RK.out); have HS' := hide (HS.out.fresh f4); clear HS t4 f4 FK RK; have HS := HS'; clear HS'
      refine hK.out _ _ HS.out (fun _ => ?_)
      clear hK K
      obtain ⟨⟨x0, x1, y0, y1⟩, yf⟩ := P4.out
      have yf0 := yf (k * 2)
      have yf1 := yf (k * 2 + 1)
      clear yf P4
      refine held_take (i := 7) (d := 28) (v := ?_) rfl rfl (by kernel_rfl) (by kernel_rfl) (by kernel_rfl) (fun _ _ _ h => h) (by kernel_rfl) ?_ HS.out ?_
      rotate_left
      · intro wz hz
        obtain ⟨z0, -⟩ := hz
        go_simp
        first | done | with_reducible rfl
      refine wpAnyH_ready (rs := [8]) (by kernel_rfl) (by simp) ?_
      refine AllReadyH.cons rfl (fun K hK => ?_) AllReadyH.nil
      go_simp
      have R5 := hide (heap_set_other (b' := g) (j := k * 2 + 1) (heap_set_other (b' := g) (j := k * 2) R4.out (by have := RG.out.1; have := GW.out; omega) (.int .i64 nn)) (by have := RG.out.1; have := GW.out; omega) (.slice xa xl xc)); have HS' := hide (show HeldV w' V g c ((w4.setCell ⟨g, k * 2, none⟩ (.int .i64 nn)).setCell ⟨g, k * 2 + 1, none⟩ (.slice xa xl xc)) from ⟨F4.out.cell, fresh_set (fresh_set HS.out.2 GW.out _ _) GW.out _ _⟩); clear HS y0 y1 yf0 yf1; generalize (w4.setCell ⟨g, k * 2, none⟩ (.int .i64 nn)).setCell ⟨g, k * 2 + 1, none⟩ (.slice xa xl xc) = w5 at F4 R5 HS' ⊢; have HS := HS'; clear HS'
      refine hK.out _ _ HS.out (fun _ => ?_)
      clear hK K
      refine wpAnyH_done (by kernel_rfl) ?_ _
      try simp only [Act.put, List.setIfInBounds_toArray, List.set_cons_succ, List.set_cons_zero]
      go_wp2
      go_roundw
      case rel => exact ⟨k + 1, by omega, by go_num, F4.out, R5.out⟩
      case measure => simp [intOf]; omega
    · obtain rfl : c = k := by omega
      have SL := hide ((hf.done HC.out).store (show R < w'.heap.size by have := RG.out; omega) (.slice (some ⟨g, 0, none⟩) c c))
      have FR := hide (show Fresh w (wr.setCell ⟨R, 0, none⟩ (.slice (some ⟨g, 0, none⟩) c c)) from fresh_set (FW.out.trans hf.el) RG.out.2 0 _)
      have BE := hide (show (wr.setCell ⟨R, 0, none⟩ (.slice (some ⟨g, 0, none⟩) c c)).heap[R]? = some (.cells #[.slice (some ⟨g, 0, none⟩) c c] 26 (0, 0)) from heap_set_same hr _)
      have v0 := hf.cell
      have r0 := cell_block hr 0 _ rfl
      have r1 := free_block hr 0
      clear hf hr FI BW
      go_wp2
      clear v0 r0 r1
      generalize wr.setCell ⟨R, 0, none⟩ (.slice (some ⟨g, 0, none⟩) c c) = W9 at SL FR BE ⊢
      have h0 : W9.cell? ⟨R, 0, none⟩ = some (.slice (some ⟨g, 0, none⟩) c c) := cell_block BE.out 0 _ rfl
      refine bodyPost_ret (by simp [results, Try.results15, go_sem, h0]; try rfl) rfl ?_
      exact ⟨_, rfl, SL.out.mono FW.out.size, FR.out⟩
theorem snew_no (x y : Int) (hno : ∀ N c : Nat, x = N → y = c → ¬ Cls N c) (w : World) :
    Calls Try.prog 15 #[.int .i64 x, .int .i64 y] w fun e w' => e = .returned noSlots ∧ Fresh w w' := by
  unfold noSlots
  have FB := hide (fresh_box w #[.slice none 0 0] 26)
  have SN := hide (shape_no x y hno)
  clear hno
  go_enter Try.func15, Try.ntmps15
  go_wp2_with fail
  refine (SN.out _).mono ?_
  rintro e w' ⟨rfl, rfl⟩
  go_wp2
  go_returns
  exact ⟨rfl, FB.out⟩
end Go.Proofs.Ytpkcihfldmgehaa
