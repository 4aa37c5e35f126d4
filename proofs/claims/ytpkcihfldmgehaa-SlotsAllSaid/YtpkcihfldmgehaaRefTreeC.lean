/- The document's own tree of a row of bits (hodmanref3's Made), as a contract: the walk. -/
import Derived.Test.YtpkcihfldmgehaaRefTreeB
namespace Go.Proofs.Ytpkcihfldmgehaa
open Go.RowKit

theorem newW_nat (b : Nat) : newW (b : Int) = List.replicate ((b + 63) / 64) 0 := by
  unfold newW
  congr 1
theorem ofIs {row : List Nat} {ln : Nat} {bs : List Bool} (h : Tells row ln ln bs) (hr : row.length = ln) : packV ln (fun i => bs.getD i false) = upV row := by
  unfold upV
  rw [hr]
  exact pack_congr fun i hi => h.2 i hi

set_option maxHeartbeats 8000000 in
theorem made_nat (n : Nat) (v : Value) (bs : List Bool) (w : World) (hb : BoolsAt w v bs) (hbl : bs.length = n) (n1 : 1 ≤ n) (n2 : n ≤ 65536) :
    Calls Try.prog 41 #[.int .i64 (n : Int), v] w fun e w' => ∃ v', e = .returned v' ∧ TreeNew w.heap.size w' v' n (packV n (fun i => bs.getD i false)) ∧ Fresh w w' := by
  obtain ⟨i0, hi, hz0, hz1, hz2⟩ := infoOf infoBool
  obtain ⟨i1, hi1, hy0, hy1, hy2⟩ := infoOf infoSL
  have q1 : (1 : Int) ≤ (n : Int) := by omega
  have q2 : (n : Int) ≤ 65536 := by omega
  have G0 := hide (grows_start w n (lvV (packV n (fun i => bs.getD i false))))
  have B0 := hide (hb.fresh G0.out.bel)
  have BL := hide hbl
  have BD := hide (fun k => nb_le n n2 k)
  have BP := hide (fun k => nb_pos n n1 k)
  have TOP := hide (fun k (hk : k < nLev n) => nb_top n k n1 n2 hk)
  have LEV := hide (lev_pack n (fun i => bs.getD i false))
  have hh := nLev_in n
  obtain ⟨a0, cap0, rfl, -⟩ := hb
  have LV0 := hide (show packV (nb n 0) (fun i => bs.getD i false) = lvV (packV n (fun i => bs.getD i false)) 0 from rfl)
  generalize hPW : packV n (fun i => bs.getD i false) = PW at *
  clear hPW hbl
  go_enter Try.func41, Try.ntmps41
  go_wp2
  go_loopw [1] (fun bv wr => ∃ (k : Nat) (lv : Value) (cs : List Bool), k < nLev n ∧ BoolsAt wr bv cs ∧ cs.length = nb n k ∧ packV (nb n k) (fun i => cs.getD i false) = lvV PW k ∧ Grows w w.heap.size (w.heap.size + 1) n k (lvV PW) lv wr) (fun bv _ => lenOf bv)
  case atStart => exact ⟨0, _, bs, by omega, B0.out, BL.out, LV0.out, G0.out⟩
  case round =>
    obtain ⟨k, lv, cs, hk, hC, hcl, hpk, hG⟩ := hrel
    have CS := hide hC
    obtain ⟨a, cap, rfl, hcc⟩ := hC
    have HCC := hide hcc
    have PK := hide hpk
    have CLN := hide hcl
    have GG := hide hG
    have b1 := BP.out k
    have b2 := BD.out k
    have TP := hide (TOP.out k hk)
    have hnb : nb n (k + 1) = (nb n k + 63) / 64 := rfl
    have HNB := hide hnb
    have NW := hide (rnew_any ((nb n k : Nat) : Int) wr (by omega) (by omega))
    clear hcc hpk hG G0 B0 LV0
    rw [hcl]
    clear hcl hnb
    generalize hB : nb n k = b at *
    have B1 : (b : Int) ≤ 65536 := by omega
    have B2 : (1 : Int) ≤ (b : Int) := by omega
    obtain ⟨WO, rfl⟩ : ∃ WO, WO = wr := ⟨_, rfl⟩
    go_wp2_with fail
    refine NW.out.mono ?_
    rintro e w1 ⟨v1, rfl, ho, hf⟩
    rw [newW_nat] at ho
    obtain ⟨g, cp, hv1, hg1, _⟩ := ho.lies (by rw [List.length_replicate]; omega)
    rw [List.length_replicate] at hv1
    subst hv1
    have S0 := hide (sets_start b ((b + 63) / 64) (fun i => cs.getD i false))
    have O1 := hide ho
    have F1 := hide (show Fresh WO w1 from hf)
    have G1 := hide hg1
    have ln1 : (b + 63) / 64 ≤ 1024 := by omega
    have ln0 : 1 ≤ (b + 63) / 64 := by omega
    have lnb : b ≤ 64 * ((b + 63) / 64) := by omega
    have MEAS := hide (show (b + 63) / 64 ≠ 1 → (b + 63) / 64 < b by omega)
    have SE := hide (fun xs (h : Sets b ((b + 63) / 64) (fun i => cs.getD i false) (64 * ((b + 63) / 64)) xs) => (sets_end h).trans PK.out)
    clear ho hf hg1 NW
    generalize hLN : (b + 63) / 64 = ln at *
    have L1 : (ln : Int) ≤ 1024 := by omega
    have L0 : (1 : Int) ≤ (ln : Int) := by omega
    clear hLN
    go_wp2
    go_loopw [7] (fun i w2 => ∃ (j : Nat) (xs : List Nat), j ≤ 64 * ln ∧ i = .int .i64 (j : Int) ∧ OwnW w2 WO.heap.size (.slice (some ⟨g, 0, none⟩) ln cp) xs ∧ Sets b ln (fun i => cs.getD i false) j xs ∧ Fresh WO w2) (fun i _ => (64 * ln - intOf i).toNat)
    case atStart => exact ⟨0, _, Nat.zero_le _, rfl, O1.out, S0.out, F1.out⟩
    case round =>
      obtain ⟨j, xs, hj, rfl, hO, hS, hF⟩ := hrel
      have SS := hide hS
      have FF := hide hF
      have OO := hide hO
      have xl := hS.2.1
      have xl2 := hide xl
      clear hF
      rcases Nat.lt_or_ge j (64 * ln) with hjl | hjl
      · have j1 : (j : Int) < 64 * (ln : Int) := by omega
        have gb := G1.out
        have U := hide (hS.1.getD (j / 64))
        have hO' : OwnW wr WO.heap.size (.slice (some ⟨g, 0, none⟩) xs.length cp) xs := by rw [xl]; exact hO
        have cl := hO'.cell (j / 64) (by omega)
        have fz := hO'.free (j / 64)
        have jl : (j : Int) / 64 < (ln : Int) := by omega
        have hor := or_bit_spelt (xs.getD (j / 64) 0) (j % 64) U.out (by omega)
        have ON := hide (fun (h : (decide (b ≤ j) || cs.getD j false) = true) => sets_on SS.out hjl h)
        have PUT := hide (fun x => OO.out.put xl2.out.symm (j / 64) x)
        have FP := hide (fun x => (FF.out.setCell (p := ⟨g, j / 64, none⟩) gb (.int .u64 ((x : Nat) : Int))).drew)
        clear hO hO' hS
        by_cases hjb : b ≤ j
        · have j2 : (b : Int) ≤ (j : Int) := by omega
          have NX := hide (ON.out (by rw [decide_eq_true hjb]; rfl))
          clear hjb ON xl
          generalize xs.getD (j / 64) 0 = u at *
          go_wp2_with fail
          go_region
          go_wp2
          go_roundw
          case rel => exact ⟨j + 1, _, by omega, by go_num, PUT.out _, NX.out, FP.out _⟩
          case measure => simp [intOf]; omega
        · have j2 : (j : Int) < (b : Int) := by omega
          obtain ⟨ab, ao, rfl, hcb⟩ := HCC.out j (by rw [CLN.out]; omega)
          have hcb2 : wr.cell? ⟨ab, ao + j, none⟩ = some (.bool (cs.getD j false)) := (FF.out.cell (World.block_lt_of_cell? _ _ hcb)).trans hcb
          clear hcb
          cases hcj : cs.getD j false with
          | true =>
            have NX := hide (ON.out (by rw [hcj, Bool.or_true]))
            rw [hcj] at hcb2
            clear hcj ON xl hjb
            generalize xs.getD (j / 64) 0 = u at *
            go_wp2_with fail
            go_region
            go_wp2
            go_roundw
            case rel => exact ⟨j + 1, _, by omega, by go_num, PUT.out _, NX.out, FP.out _⟩
            case measure => simp [intOf]; omega
          | false =>
            have NX := hide (sets_off SS.out (show (decide (b ≤ j) || cs.getD j false) = false by rw [hcj, decide_eq_false hjb]; rfl))
            rw [hcj] at hcb2
            clear hcj ON xl hjb
            go_wp2
            go_roundw
            case rel => exact ⟨j + 1, xs, by omega, by go_num, OO.out, NX.out, FF.out⟩
            case measure => simp [intOf]; omega
      · have hj64 : 64 * (ln : Int) ≤ (j : Int) := by omega
        have EX := hide (show xs = lvV PW k by
          obtain rfl : j = 64 * ln := by omega
          exact SE.out xs SS.out)
        have G3 := hide (GG.out.fresh FF.out)
        have O3 := hide (show OwnW wr w.heap.size (.slice (some ⟨g, 0, none⟩) ln cp) (lvV PW k) by rw [← EX.out]; exact OO.out.mono GG.out.bel.size)
        obtain ⟨us, hus, hlv, hrows⟩ := G3.out.own
        have US := hide hus
        have LV3 := hide hlv
        have RW3 := hide hrows
        have c4 := G3.out.cellT
        have T1 : w.heap.size + 1 < wr.heap.size := G3.out.ltT
        have m1 : k + 1 ≤ maxLen := by unfold maxLen; omega
        have m2 : (k + 1) * 24 ≤ 140737488355328 := by omega
        have m3 : ∀ o, w.heap.size ≤ (wr.alloc o).heap.size := fun o => by simp; omega
        have AP := hide (show ∀ v1 w3, w3.ownsRow w.heap.size 59 1 v1 (k + 1) (us ++ [.slice (some ⟨g, 0, none⟩) ln cp]) → (wr.alloc (.cells #[.slice (some ⟨g, 0, none⟩) ln cp] 59)).grownBy w3 lv.ownBlock → _ from fun v1 w3 ho hg => Grows.append (lv' := v1) (G3.out.fresh (fresh_box _ _ _)) US.out (fun i hi => (RW3.out i hi).fresh (fresh_box _ _ _)) (ownsRow_fresh LV3.out (fresh_box _ _ _)) (O3.out.fresh (fresh_box _ _ _)) ho hg)
        have XK := hide xl
        clear hus hlv hrows hO hS xl hj64 SE S0 O1 F1 CS HCC PK CLN SS OO FF
        have hj64 : 64 * (ln : Int) ≤ (j : Int) := by omega
        by_cases hone : ln = 1
        · have HK := hide (TP.out.1 (by rw [HNB.out, hone]))
          have z : ((ln : Int) == 1) = true := by rw [hone]; rfl
          clear hone
          go_wp2_with (at_builtin; refine wpList_append_own _ rfl _ _ 43 rfl w.heap.size 59 i1 (.slice none 0 0) 1 24 Try.underlying43 hi1 hy0 hy1 hy2 rfl (by decide) _ _ _ rfl (World.ownsRow.alloc LV3.out _) ⟨wr.heap.size, 0, none⟩ 1 1 [.slice (some ⟨g, 0, none⟩) ln cp] rfl rfl (news_one' _ _ _) (one_slice _ _ _) m1 m2 (m3 _) ?_; intro v1 w3 hown hgrow _; obtain ⟨g3, cap3, rfl⟩ := own_shape hown (Nat.le_add_left 1 k); have A := hide (AP.out _ w3 hown hgrow); have OW := hide hown; clear hown hgrow; have d1 := cell_block A.out.2.1 1 _ rfl; have d0 := cell_block A.out.2.1 0 _ rfl; have e1 := free_block A.out.2.1 1; have r0 := cell_block A.out.1 0 _ rfl; have r1 := cell_block A.out.1 1 _ rfl; have f0 := free_block A.out.1 0; have f1 := free_block A.out.1 1)
          have GS := hide (Grows.store (f := lvV PW) (by omega) (by omega) (show (us ++ [Value.slice (some ⟨g, 0, none⟩) ln cp]).length = k + 1 by rw [List.length_append, US.out]; rfl) A.out.1 A.out.2.1 OW.out A.out.2.2.1 A.out.2.2.2)
          have DN := hide (fun x y => Grows.done (by have := GS.out; rw [HK.out] at this; exact this) n1 n2 LEV.out (Nat.le_refl _) x y)
          have RS := hide (fun x y => result_cells GS.out x y)
          rw [HK.out] at RS ⊢
          obtain ⟨h0, h1⟩ := RS.out (.int .i64 (n : Int)) (.slice (some ⟨g3, 0, none⟩) (nLev n) cap3)
          have DN1 := hide (DN.out (.int .i64 (n : Int)) (.slice (some ⟨g3, 0, none⟩) (nLev n) cap3))
          clear DN RS d0 d1 e1 r0 r1 f0 f1
          generalize World.setCell _ ⟨w.heap.size, 1, none⟩ _ = W at h0 h1 DN1 ⊢
          refine bodyPost_ret (by simp [results, Try.results41, go_sem, h0, h1]; try rfl) rfl ?_
          exact ⟨_, rfl, DN1.out⟩
        · have z : ((ln : Int) == 1) = false := by rw [beq_eq_false_iff_ne]; omega
          have hb1 : i0.bytes * ln ≤ 281474976710656 := by rw [hz2]; omega
          have hmx : ln ≤ maxLen := by unfold maxLen; omega
          have SZ3 := hide (fun (w3 : World) (hf : Fresh w w3) => show w.heap.size ≤ w3.heap.size from hf.size)
          have MK := hide (fun (W4 w5 : World) hown hgrow => bools_made (w0 := w) (wr := W4) (w1 := w5) (ln := ln) (v := .slice (some ⟨W4.heap.size, 0, none⟩) ln ln) hown hgrow)
          go_wp2_with (first | (at_builtin; refine wpList_append_own _ rfl _ _ 43 rfl w.heap.size 59 i1 (.slice none 0 0) 1 24 Try.underlying43 hi1 hy0 hy1 hy2 rfl (by decide) _ _ _ rfl (World.ownsRow.alloc LV3.out _) ⟨wr.heap.size, 0, none⟩ 1 1 [.slice (some ⟨g, 0, none⟩) ln cp] rfl rfl (news_one' _ _ _) (one_slice _ _ _) m1 m2 (m3 _) ?_; intro v1 w3 hown hgrow _; obtain ⟨g3, cap3, rfl⟩ := own_shape hown (Nat.le_add_left 1 k); have A := hide (AP.out _ w3 hown hgrow); have OW := hide hown; clear hown hgrow; have d1 := cell_block A.out.2.1 1 _ rfl; have d0 := cell_block A.out.2.1 0 _ rfl; have e1 := free_block A.out.2.1 1; have r0 := cell_block A.out.1 0 _ rfl; have r1 := cell_block A.out.1 1 _ rfl; have f0 := free_block A.out.1 0; have f1 := free_block A.out.1 1) | (at_make; refine wpList_make_full _ rfl _ _ 52 rfl w.heap.size 4 i0 (.bool false) 1 Try.underlying52 hi hz0 hz1 _ _ _ _ ln rfl rfl rfl rfl hb1 hmx (by simp; exact SZ3.out _ A.out.2.2.2) ?_; intro w5 hown5 hgrow5; have MM := hide (MK.out _ w5 hown5 hgrow5); clear hown5 hgrow5))
          have GS := hide (Grows.store (f := lvV PW) (by omega) (by omega) (show (us ++ [Value.slice (some ⟨g, 0, none⟩) ln cp]).length = k + 1 by rw [List.length_append, US.out]; rfl) A.out.1 A.out.2.1 OW.out A.out.2.2.1 A.out.2.2.2)
          have RK := hide (show OwnW (w3.setCell ⟨w.heap.size + 1, 1, none⟩ (.slice (some ⟨g3, 0, none⟩) (k + 1) cap3)) w.heap.size (.slice (some ⟨g, 0, none⟩) ln cp) (lvV PW k) by
            have h1 := A.out.2.2.1 k (by omega)
            have e : (us ++ [Value.slice (some ⟨g, 0, none⟩) ln cp]).getD k (.slice none 0 0) = .slice (some ⟨g, 0, none⟩) ln cp := by
              rw [List.getD_eq_getElem?_getD, List.getElem?_append_right (by rw [US.out]; omega), US.out, Nat.sub_self]; rfl
            rw [e] at h1
            exact h1.stays (Stays.setCell A.out.2.1 (by decide) 1 _))
          have sz : (w3.setCell ⟨w.heap.size + 1, 1, none⟩ (.slice (some ⟨g3, 0, none⟩) (k + 1) cap3)).heap.size = w3.heap.size := by simp [World.setCell]
          have MM2 := MM.out
          rw [sz] at MM2
          have LK := hide (show (lvV PW k).length = ln by rw [lv_length LEV.out k, HNB.out])
          have SZ := hide sz
          have KLT := hide (show nb n (k + 1) ≠ 1 by rw [HNB.out]; exact hone)
          have ME := hide (MEAS.out hone)
          clear sz MM d0 d1 e1 r0 r1 f0 f1 A OW AP LV3 RW3 O3 G3 US c4 T1 m1 m2 m3 MK SZ3 z hone MEAS
          obtain ⟨W4, hW4⟩ : ∃ W4, W4 = w3.setCell ⟨w.heap.size + 1, 1, none⟩ (.slice (some ⟨g3, 0, none⟩) (k + 1) cap3) := ⟨_, rfl⟩
          rw [← hW4] at GS RK SZ MM2
          clear hW4
          have OB := hide MM2.1
          have FB := hide MM2.2
          have T0 := hide (show Tells (lvV PW k) ln 0 (List.replicate ln false) from ⟨List.length_replicate, fun t ht => by omega⟩)
          clear MM2
          go_loopw [8] (fun i w6 => ∃ (j : Nat) (ds : List Bool), j ≤ ln ∧ i = .int .i64 (j : Int) ∧ OwnB w6 w.heap.size (.slice (some ⟨w3.heap.size, 0, none⟩) ln ln) ds ∧ Tells (lvV PW k) ln j ds ∧ Fresh W4 w6) (fun i _ => (ln - intOf i).toNat)
          case atStart => exact ⟨0, _, Nat.zero_le _, rfl, OB.out, T0.out, FB.out⟩
          case round =>
            obtain ⟨j2, ds, hj2, rfl, hO2, hT2, hF2⟩ := hrel
            have TT := hide hT2
            have FF2 := hide hF2
            have OO2 := hide hO2
            clear hO2 hF2 OB FB T0
            rcases Nat.lt_or_ge j2 ln with hjl | hjl
            · have j3 : (j2 : Int) < (ln : Int) := by omega
              have rk : OwnW wr w.heap.size (.slice (some ⟨g, 0, none⟩) (lvV PW k).length cp) (lvV PW k) := by rw [LK.out]; exact RK.out.fresh FF2.out
              have cw := rk.cell j2 (by rw [LK.out]; exact hjl)
              have cb := OO2.out.cell TT.out.1.symm j2 hjl
              have fb := OO2.out.free TT.out.1.symm j2
              have PB := hide (fun b => OO2.out.put TT.out.1.symm j2 b)
              have FP := hide (fun b => FF2.out.setCell (p := ⟨w3.heap.size, j2, none⟩) (by rw [SZ.out]; exact Nat.le_refl _) (.bool b))
              have NX := hide (tells_step TT.out hjl)
              have FULL := hide (show isFull (lvV PW k) j2 = decide ((lvV PW k).getD j2 0 = 18446744073709551615) from rfl)
              clear rk hT2
              generalize (lvV PW k).getD j2 0 = u at *
              obtain ⟨bb, z⟩ : ∃ bb, ((u : Int) == 18446744073709551615) = bb := ⟨_, rfl⟩
              have FBB := hide (show isFull (lvV PW k) j2 = bb by
                rw [FULL.out, ← z]
                by_cases hu : u = 18446744073709551615
                · rw [decide_eq_true hu, hu]; rfl
                · rw [decide_eq_false hu]; exact (beq_eq_false_iff_ne.2 (by omega)).symm)
              go_wp2
              go_roundw
              case rel => exact ⟨j2 + 1, ds.set j2 bb, by omega, by go_num, PB.out _, by have := NX.out; rw [FBB.out] at this; exact this, FP.out _⟩
              case measure => simp [intOf]; omega
            · obtain rfl : j2 = ln := by omega
              have PKN := hide (ofIs TT.out LK.out)
              have BN := hide OO2.out.at
              have GN := hide (GS.out.fresh FF2.out)
              have LTN := hide (show k + 1 < nLev n by have h1 := KLT.out; have h2 := TP.out; omega)
              have TL1 := hide TT.out.1
              clear hT2
              go_wp2
              go_roundw
              case rel => exact ⟨k + 1, _, ds, LTN.out, BN.out, by rw [TL1.out, HNB.out], by rw [HNB.out]; exact PKN.out, GN.out⟩
              case measure =>
                have := ME.out
                simp [lenOf]; omega
end Go.Proofs.Ytpkcihfldmgehaa
