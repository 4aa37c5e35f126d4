/- New of package tree, as a contract: none of so many bits set, those beyond set; the empty tree where there may be none. -/
import Derived.Test.YtpkcihfldmgehaaTreeGrow
import Derived.Test.YtpkcihfldmgehaaTreeB
namespace Go.Proofs.Ytpkcihfldmgehaa
open Go.RowKit

theorem tnew_none (s : Int) (w : World) (h : s < 1 ∨ 65536 < s) : Calls Try.prog 32 #[.int .i64 s] w fun e w' => e = .returned noTree ∧ Fresh w w' := by
  have FB := hide (fresh_box w #[.int .i64 0, .slice none 0 0] 45)
  have D := hide (show (decide (1 ≤ s) && decide (s ≤ 65536)) = false by rw [← Bool.not_eq_true]; simp; omega)
  go_enter Try.func32, Try.ntmps32
  go_wp2_with fail
  refine (sizeMay_to s false D.out _).mono ?_
  rintro e w' ⟨rfl, rfl⟩
  go_wp2
  go_returns
  exact ⟨rfl, FB.out⟩

/-- the start -/
theorem grows_start (w : World) (n : Nat) (f : Nat → List Nat) : Grows w w.heap.size (w.heap.size + 1) n 0 f (.slice none 0 0) ((w.alloc (.cells #[.int .i64 0, .slice none 0 0] 45)).alloc (.cells #[.int .i64 (n : Int), .slice none 0 0] 45)) := by
  have s1 : (w.alloc (.cells #[.int .i64 0, .slice none 0 0] 45)).heap.size = w.heap.size + 1 := by simp
  refine ⟨?_, ?_, ⟨[], rfl, World.ownsRow_nil _ _ _ _, fun i hi => by omega⟩, (((Below.refl _ w).alloc (Nat.le_refl _) _).alloc (by rw [s1]; omega) _)⟩
  · have := heap_alloc_new w (.cells #[.int .i64 0, .slice none 0 0] 45 (0, 0))
    have f2 := fresh_box (w.alloc (.cells #[.int .i64 0, .slice none 0 0] 45)) #[.int .i64 (n : Int), .slice none 0 0] 45
    rw [f2.block w.heap.size (by rw [s1]; omega)]
    exact this
  · have := heap_alloc_new (w.alloc (.cells #[.int .i64 0, .slice none 0 0] 45)) (.cells #[.int .i64 (n : Int), .slice none 0 0] 45 (0, 0))
    rw [s1] at this
    exact this

theorem news_at {w2 : World} {S : Nat} (hs : w2.heap.size = S) (v : Value) (e : TypeId) : ∀ j u, [v][j]? = some u → (w2.alloc (.cells #[v] e)).cell? ((⟨S, 0, none⟩ : Addr).add j) = some u := by
  subst hs
  intro j u hj
  match j, hj with
  | 0, hj => simp at hj; subst hj; simp [Addr.add]
theorem one_slice (a : Option Addr) (n c : Nat) : ∀ u ∈ [Value.slice a n c], u.oneCell' = true := by
  intro u hu; simp at hu; subst hu; rfl
/-- words that were made -/
theorem words_made {w0 wr w1 : World} {ln : Nat} {v : Value} (hown : w1.ownsRow w0.heap.size 67 1 v ln (madeCells (Value.int .u64 0).cells (ln * 1)).toList) (hgrow : wr.grownBy w1 none) : OwnW w1 w0.heap.size v (List.replicate ln 0) ∧ Fresh wr w1 := by
  refine ⟨?_, (Below.refl _ _).grown hgrow (Nat.le_refl _) (fun k hk => by cases hk)⟩
  rw [toList_zeros] at hown
  unfold OwnW
  rw [List.length_replicate]
  exact hown
theorem zero_row (ln : Nat) : W64 (List.replicate ln 0) := by intro u hu; rw [List.eq_of_mem_replicate hu]; decide
/-- a tree whose levels are all there, its value handed over in the result's block -/
theorem Grows.done {w0 : World} {R T n : Nat} {ws : List Nat} {lv : Value} {wr : World} (h : Grows w0 R T n (nLev n) (lvV ws) lv wr) (n1 : 1 ≤ n) (n2 : n ≤ 65536) (hl : Lev n ws) (hR : w0.heap.size ≤ R) (x y : Value) :
    TreeNew w0.heap.size ((wr.setCell ⟨R, 0, none⟩ x).setCell ⟨R, 1, none⟩ y) (.agg #[.int .i64 (n : Int), lv]) n ws ∧ Fresh w0 ((wr.setCell ⟨R, 0, none⟩ x).setCell ⟨R, 1, none⟩ y) := by
  refine ⟨?_, (h.bel.setCell hR _).setCell hR _⟩
  obtain ⟨us, h1, h2, h3⟩ := h.own
  have hs1 := heap_set_same (j := 0) h.res x
  have hs : Stays wr ((wr.setCell ⟨R, 0, none⟩ x).setCell ⟨R, 1, none⟩ y) := (Stays.setCell h.res (by decide) 0 x).trans (Stays.setCell hs1 (by decide) 1 y)
  have hb : lv.ownBlock ≠ some R := by
    intro e
    obtain ⟨c, hc⟩ := own_type h2 R e
    rw [h.res] at hc
    simp at hc
  have h2' := ownsRow_setCell_other (a := ⟨R, 1, none⟩) (ownsRow_setCell_other (a := ⟨R, 0, none⟩) h2 hb x) hb y
  have hh := nLev_in n
  obtain ⟨g, cap, rfl⟩ := own_shape h2 hh.1
  have hgb := World.ownsRow.lt h2' g rfl
  intro w' hw
  refine ⟨n1, n2, hl, _, cap, rfl, fun i hi => ⟨g, 0, us.getD i (.slice none 0 0), rfl, ?_, ?_⟩⟩
  · refine (World.cell?_of_block (hw g hgb.1 hgb.2)).trans ?_
    rw [Nat.zero_add, World.ownsRow.cellAt h2' i (by omega), List.getD_eq_getElem?_getD, List.getElem?_eq_getElem (by omega)]; rfl
  · have hb := nb_words n i n1 n2
    exact (((h3 i hi).stays hs).agree hw).at (lev_lv hl i).1 (by rw [lv_length hl i]; omega)

theorem result_cells {w0 : World} {R T n k : Nat} {f : Nat → List Nat} {lv : Value} {wr : World} (h : Grows w0 R T n k f lv wr) (x y : Value) :
    ((wr.setCell ⟨R, 0, none⟩ x).setCell ⟨R, 1, none⟩ y).cell? ⟨R, 0, none⟩ = some x ∧ ((wr.setCell ⟨R, 0, none⟩ x).setCell ⟨R, 1, none⟩ y).cell? ⟨R, 1, none⟩ = some y := by
  have h1 := heap_set_same (j := 1) (heap_set_same (j := 0) h.res x) y
  exact ⟨cell_block h1 0 x (by simp), cell_block h1 1 y (by simp)⟩

set_option maxHeartbeats 2000000 in
theorem tnew_nat (n : Nat) (w : World) (n1 : 1 ≤ n) (n2 : n ≤ 65536) : Calls Try.prog 32 #[.int .i64 (n : Int)] w fun e w' => ∃ v, e = .returned v ∧ TreeNew w.heap.size w' v n (noneV n) ∧ Fresh w w' := by
  obtain ⟨i0, hi, hz0, hz1, hz2⟩ := infoOf infoU64
  obtain ⟨i1, hi1, hy0, hy1, hy2⟩ := infoOf infoSL
  have q1 : (1 : Int) ≤ (n : Int) := by omega
  have q2 : (n : Int) ≤ 65536 := by omega
  have G0 := hide (grows_start w n (lvV (noneV n)))
  have BD := hide (fun k => nb_le n n2 k)
  have BP := hide (fun k => nb_pos n n1 k)
  have TOP := hide (fun k (hk : k < nLev n) => nb_top n k n1 n2 hk)
  have hh := nLev_in n
  go_enter Try.func32, Try.ntmps32
  go_wp2_with fail
  refine (sizeMay_to _ true (by rw [decide_eq_true q1, decide_eq_true q2]; rfl) _).mono ?_
  rintro e w' ⟨rfl, rfl⟩
  go_wp2
  go_loopw [4] (fun x wr => ∃ (k : Nat) (lv : Value), k < nLev n ∧ x = .int .i64 ((nb n k : Nat) : Int) ∧ Grows w w.heap.size (w.heap.size + 1) n k (lvV (noneV n)) lv wr) (fun x _ => (intOf x).toNat)
  case atStart => exact ⟨0, _, by omega, rfl, G0.out⟩
  case round =>
    obtain ⟨k, lv, hk, rfl, hG⟩ := hrel
    have b1 := BP.out k
    have b2 := BD.out k
    have NR := hide (none_row (nb n k) b1)
    have LK := hide (none_lv n k)
    have TP := hide (TOP.out k hk)
    have WF := hide (fun w => wordsFor_nat (nb n k) b1 b2 w)
    have RE := hide (fun w => rest_nat (nb n k) b1 b2 w)
    have hnb : nb n (k + 1) = (nb n k + 63) / 64 := rfl
    have hln : (nb n k + 63) / 64 = (nb n k - 1) / 64 + 1 := by omega
    have GG := hide hG
    have T1 : w.heap.size + 1 < wr.heap.size := hG.ltT
    obtain ⟨us, hus, hlv, hrows⟩ := hG.own
    have US := hide hus
    have LVO := hide hlv
    have ROWS := hide hrows
    have j3 : (((nb n k + 63) / 64 : Nat) : Int) - 1 = (((nb n k - 1) / 64 : Nat) : Int) := by omega
    have j4 : (((nb n k - 1) / 64 : Nat) : Int) < (((nb n k + 63) / 64 : Nat) : Int) := by omega
    have j5 : (((nb n k + 63) / 64 : Nat) : Int) ≤ 1024 := by omega
    have hb8 : i0.bytes * ((nb n k + 63) / 64) ≤ 281474976710656 := by rw [hz2]; omega
    have hmx : (nb n k + 63) / 64 ≤ maxLen := by unfold maxLen; omega
    have hbase : w.heap.size ≤ wr.heap.size := hG.bel.size
    have m1 : k + 1 ≤ maxLen := by unfold maxLen; omega
    have m2 : (k + 1) * 24 ≤ 140737488355328 := by omega
    have MEAS := hide (show nb n (k + 1) ≠ 1 → nb n (k + 1) < nb n k by omega)
    have LT2 := hide (show (nb n k - 1) / 64 < (nb n k + 63) / 64 by omega)
    have R64 := hide (maskN_lt ((nb n k - 1) % 64 + 1) 64)
    clear hG hus hlv hrows
    generalize hR : maskN ((nb n k - 1) % 64 + 1) 64 = R at *
    generalize hQ : (nb n k - 1) / 64 = q at *
    generalize hL : (nb n k + 63) / 64 = ln at *
    clear hR hQ hL hln
    have hnb' := hide hnb
    clear hnb
    obtain ⟨S, hS⟩ : ∃ S, S = wr.heap.size := ⟨_, rfl⟩
    have HS := hide hS
    rw [← hS] at T1 hbase
    have T2 : w.heap.size + 1 ≠ S := by omega
    have T3 : w.heap.size ≠ S := by omega
    have MK := hide (fun w1 hown hgrow => words_made (w0 := w) (wr := wr) (w1 := w1) (ln := ln) (v := .slice (some ⟨wr.heap.size, 0, none⟩) ln ln) hown hgrow)
    -- what the store of the rest leaves
    have ST := hide (show ∀ w1, (OwnW w1 w.heap.size (.slice (some ⟨wr.heap.size, 0, none⟩) ln ln) (List.replicate ln 0) ∧ Fresh wr w1) → Grows w w.heap.size (w.heap.size + 1) n k (lvV (noneV n)) lv (w1.setCell ⟨S, q, none⟩ (.int .u64 (R : Int))) ∧ OwnW (w1.setCell ⟨S, q, none⟩ (.int .u64 (R : Int))) w.heap.size (.slice (some ⟨S, 0, none⟩) ln ln) (lvV (noneV n) k) ∧ (w1.setCell ⟨S, q, none⟩ (.int .u64 (R : Int))).ownsRow w.heap.size 59 1 lv k us ∧ (∀ i, i < k → OwnW (w1.setCell ⟨S, q, none⟩ (.int .u64 (R : Int))) w.heap.size (us.getD i (.slice none 0 0)) (lvV (noneV n) i)) from fun w1 h => by
      have hf : Fresh wr (w1.setCell ⟨S, q, none⟩ (.int .u64 (R : Int))) := by subst hS; exact h.2.setCell (Nat.le_refl _) _
      refine ⟨GG.out.fresh hf, ?_, ownsRow_fresh LVO.out hf, fun i hi => (ROWS.out i hi).fresh hf⟩
      rw [LK.out, ← NR.out]
      subst hS
      exact h.1.put (by rw [List.length_replicate]) q R)
    have C1 := hide (show ∀ w1, (OwnW w1 w.heap.size (.slice (some ⟨wr.heap.size, 0, none⟩) ln ln) (List.replicate ln 0) ∧ Fresh wr w1) → w1.cell? ⟨S, q, none⟩ = some (.int .u64 0) ∧ w1.frozen? ⟨S, q, none⟩ = false ∧ w1.cell? ⟨w.heap.size + 1, 1, none⟩ = some lv from fun w1 h => by
      have ho : OwnW w1 w.heap.size (.slice (some ⟨wr.heap.size, 0, none⟩) (List.replicate ln 0).length ln) (List.replicate ln 0) := by rw [List.length_replicate]; exact h.1
      have c := ho.cell q (by rw [List.length_replicate]; exact LT2.out)
      rw [List.getD_eq_getElem?_getD, List.getElem?_eq_getElem (by rw [List.length_replicate]; exact LT2.out), List.getElem_replicate] at c
      subst hS
      exact ⟨c, ho.free q, (GG.out.fresh h.2).cellT⟩)
    clear hS
    go_wp2_with fail
    refine (WF.out _).mono ?_
    rintro e w' ⟨rfl, rfl⟩
    go_wp2_with (at_make; refine wpList_make_full _ rfl _ _ 59 rfl w.heap.size 67 i0 (.int .u64 0) 1 Try.underlying59 hi hz0 hz1 _ _ _ _ ln rfl rfl rfl rfl hb8 hmx (by rw [← HS.out]; exact hbase) ?_; intro w1 hown hgrow; have MM := hide (MK.out w1 hown hgrow); clear hown hgrow)
    refine (RE.out _).mono ?_
    rintro e w2 ⟨rfl, rfl⟩
    rw [← HS.out]
    obtain ⟨c1, c2, c3⟩ := C1.out _ MM.out
    obtain ⟨G2, O2, LV2, RW2⟩ := ST.out _ MM.out
    have G3 := hide G2
    have O3 := hide O2
    have LV3 := hide LV2
    have RW3 := hide RW2
    clear G2 O2 LV2 RW2 C1 ST MM MK
    have c4 : (w2.setCell ⟨S, q, none⟩ (.int .u64 (R : Int))).cell? ⟨w.heap.size + 1, 1, none⟩ = some lv := G3.out.cellT
    have sz : (w2.setCell ⟨S, q, none⟩ (.int .u64 (R : Int))).heap.size = w2.heap.size := by simp [World.setCell]
    have SZ := hide sz
    have m3 : ∀ o, w.heap.size ≤ ((w2.setCell ⟨S, q, none⟩ (.int .u64 (R : Int))).alloc o).heap.size := fun o => by have := G3.out.bel.size; simp; simp at this; omega
    have AP := hide (show ∀ v1 w3, w3.ownsRow w.heap.size 59 1 v1 (k + 1) (us ++ [.slice (some ⟨S, 0, none⟩) ln ln]) → ((w2.setCell ⟨S, q, none⟩ (.int .u64 (R : Int))).alloc (.cells #[.slice (some ⟨S, 0, none⟩) ln ln] 59)).grownBy w3 lv.ownBlock → _ from fun v1 w3 ho hg => Grows.append (lv' := v1) (G3.out.fresh (fresh_box _ _ _)) US.out (fun i hi => (RW3.out i hi).fresh (fresh_box _ _ _)) (ownsRow_fresh LV3.out (fresh_box _ _ _)) (O3.out.fresh (fresh_box _ _ _)) ho hg)
    by_cases hone : ln = 1
    · have HK := hide (TP.out.1 (by rw [hnb'.out, hone]))
      have z : ((ln : Int) == 1) = true := by rw [hone]; rfl
      clear hone
      go_wp2_with (at_builtin; refine wpList_append_own _ rfl _ _ 43 rfl w.heap.size 59 i1 (.slice none 0 0) 1 24 Try.underlying43 hi1 hy0 hy1 hy2 rfl (by decide) _ _ _ rfl (World.ownsRow.alloc LV3.out _) ⟨w2.heap.size, 0, none⟩ 1 1 [.slice (some ⟨S, 0, none⟩) ln ln] rfl rfl (news_at SZ.out _ _) (one_slice _ _ _) m1 m2 (m3 _) ?_; intro v1 w3 hown hgrow _; obtain ⟨g3, cap3, rfl⟩ := own_shape hown (Nat.le_add_left 1 k); have A := hide (AP.out _ w3 hown hgrow); have OW := hide hown; clear hown hgrow; have d1 := cell_block A.out.2.1 1 _ rfl; have d0 := cell_block A.out.2.1 0 _ rfl; have e1 := free_block A.out.2.1 1; have r0 := cell_block A.out.1 0 _ rfl; have r1 := cell_block A.out.1 1 _ rfl; have f0 := free_block A.out.1 0; have f1 := free_block A.out.1 1)
      have GS := hide (Grows.store (f := lvV (noneV n)) (by omega) (by omega) (show (us ++ [Value.slice (some ⟨S, 0, none⟩) ln ln]).length = k + 1 by rw [List.length_append, US.out]; rfl) A.out.1 A.out.2.1 OW.out A.out.2.2.1 A.out.2.2.2)
      have DN := hide (fun x y => Grows.done (by have := GS.out; rw [HK.out] at this; exact this) n1 n2 (lev_pack n _) (Nat.le_refl _) x y)
      have RS := hide (fun x y => result_cells GS.out x y)
      rw [HK.out] at RS ⊢
      obtain ⟨h0, h1⟩ := RS.out (.int .i64 (n : Int)) (.slice (some ⟨g3, 0, none⟩) (nLev n) cap3)
      have DN1 := hide (DN.out (.int .i64 (n : Int)) (.slice (some ⟨g3, 0, none⟩) (nLev n) cap3))
      clear DN RS d0 d1 e1 r0 r1 f0 f1
      generalize World.setCell _ ⟨w.heap.size, 1, none⟩ _ = W at h0 h1 DN1 ⊢
      refine bodyPost_ret (by simp [results, Try.results32, go_sem, h0, h1]; try rfl) rfl ?_
      exact ⟨_, rfl, DN1.out⟩
    · have z : ((ln : Int) == 1) = false := by rw [beq_eq_false_iff_ne]; omega
      go_wp2_with (at_builtin; refine wpList_append_own _ rfl _ _ 43 rfl w.heap.size 59 i1 (.slice none 0 0) 1 24 Try.underlying43 hi1 hy0 hy1 hy2 rfl (by decide) _ _ _ rfl (World.ownsRow.alloc LV3.out _) ⟨w2.heap.size, 0, none⟩ 1 1 [.slice (some ⟨S, 0, none⟩) ln ln] rfl rfl (news_at SZ.out _ _) (one_slice _ _ _) m1 m2 (m3 _) ?_; intro v1 w3 hown hgrow _; obtain ⟨g3, cap3, rfl⟩ := own_shape hown (Nat.le_add_left 1 k); have A := hide (AP.out _ w3 hown hgrow); have OW := hide hown; clear hown hgrow; have d1 := cell_block A.out.2.1 1 _ rfl; have d0 := cell_block A.out.2.1 0 _ rfl; have e1 := free_block A.out.2.1 1; have r0 := cell_block A.out.1 0 _ rfl; have r1 := cell_block A.out.1 1 _ rfl; have f0 := free_block A.out.1 0; have f1 := free_block A.out.1 1)
      have GS := hide (Grows.store (f := lvV (noneV n)) (by omega) (by omega) (show (us ++ [Value.slice (some ⟨S, 0, none⟩) ln ln]).length = k + 1 by rw [List.length_append, US.out]; rfl) A.out.1 A.out.2.1 OW.out A.out.2.2.1 A.out.2.2.2)
      refine (WF.out _).mono ?_
      rintro e w5 ⟨rfl, rfl⟩
      have HNE := hide (show nb n (k + 1) ≠ 1 by rw [hnb'.out]; exact hone)
      go_wp2
      go_roundw
      case rel => exact ⟨k + 1, _, by have h1 := HNE.out; have h2 := TP.out; omega, by rw [hnb'.out], GS.out⟩
      case measure =>
        have h1 := MEAS.out HNE.out
        have h2 := hnb'.out
        simp [intOf]; omega
end Go.Proofs.Ytpkcihfldmgehaa
