/- Proved here: hodmanlaw12.PinBytes, called with a byte and any slice of pairs of bytes, in any memory in which the library's table math/bits.deBruijn64tab lies as its initialiser lays it, returns true: a page is met just if a byte of it is a block's is what follows from promise P12.1. No condition besides. -/
import Derived.Test.YtckfmgopbfgdjaaDoorPinLaw
import Derived.Test.YtckfmgopbfgdjaaDoorPlayBlocks
import Derived.Test.YtckfmgopbfgdjaaDoorOpen2
import Derived.Test.YtckfmgopbfgdjaaDoorCards
import Derived.Test.YtckfmgopbfgdjaaDoorTie
namespace Go.Proofs.YtckfmgopbfgdjaaDoor
open Go.ChangeShapes Go.WideShapes Go.ChangeAt Go.RowKit

set_option maxRecDepth 100000 in
set_option maxHeartbeats 2000000 in
theorem pinBytes_walk0 (x : Int) (x0 : 0 ≤ x) (_x1 : x ≤ 255) (a : Option Addr) (len cap : Nat) (w : World) (hR : IsDuo w a len ∧ len ≤ maxLen) (hT : Tab w) :
    Calls Tryd.prog 3 #[.int .u8 x, .slice a len cap] w fun e w' => e = .returned (.bool true) ∧ Fresh w w' := by
  have HT := hide hT
  obtain ⟨zs, hz, hd⟩ := duo_list hR.1
  have HD := hide hd
  have ZL := hide hz
  have l0 : (0 : Int) ≤ (len : Int) := by omega
  have lm : (len : Int) ≤ 9223372036854775807 := by have := hR.2; unfold maxLen at this; omega
  clear hT hR hd hz
  by_cases g : 10 < len
  · have g' : (10 : Int) < (len : Int) := by omega
    go_enter Tryd.func3, Tryd.ntmps3
    go_wp2_with fail
    refine (begun12_true _ HT.out).mono ?_
    rintro e w1 ⟨rfl, k1⟩
    have K1 := hide k1
    clear k1
    go_wp2
    go_ret
    exact ⟨rfl, K1.out⟩
  · have g' : (len : Int) ≤ 10 := by omega
    have SM := hide (blL_small HD.out)
    have LB := hide (show (blL zs).length = len by rw [blL_length, ZL.out])
    obtain ⟨T, hTT⟩ : ∃ T : Nat, x.tmod 40 = (T : Int) ∧ T ≤ 39 := ⟨(x.tmod 40).toNat, by rw [Int.tmod_eq_emod_of_nonneg x0]; omega, by rw [Int.tmod_eq_emod_of_nonneg x0]; omega⟩
    obtain ⟨t1, t2⟩ := hTT
    obtain ⟨P, hP⟩ : ∃ P : Nat, P = 1 + T := ⟨_, rfl⟩
    have t3 : (0 : Int) ≤ (T : Int) := by omega
    have t4 : (T : Int) ≤ 39 := by omega
    have t5 : 1 + (T : Int) = (P : Int) := by omega
    have t6 : IntKind.i64.wrap (T : Int) = (T : Int) := by rw [IntKind.wrap_i64]; omega
    have t7 : IntKind.i64.wrap (1 + (T : Int)) = (P : Int) := by rw [IntKind.wrap_i64]; omega
    have p1 : (1 : Int) ≤ (P : Int) := by omega
    have p2 : (P : Int) ≤ 40 := by omega
    have P1 := hide (show 1 ≤ P by omega)
    have P2 := hide (show P ≤ 40 by omega)
    obtain ⟨L, hL⟩ : ∃ L : Nat, 320 / P = L := ⟨_, rfl⟩
    have HL := hide hL
    have q1 : (320 : Int) / (P : Int) = (L : Int) := by rw [← hL]; rfl
    have q2 : (0 : Int) ≤ (L : Int) := by omega
    have q3 : (L : Int) ≤ 320 := by have : 320 / P ≤ 320 := Nat.div_le_self _ _; omega
    have L3 := hide (show L ≤ 320 by omega)
    have hmk := fun w => bools_run L (by omega) w
    clear hP t2 hL
    generalize hbl : blL zs = bl at *
    have HB := hide hbl
    clear hbl
    go_enter Tryd.func3, Tryd.ntmps3
    go_wp2_with fail
    refine (begun12_true _ HT.out).mono ?_
    rintro e w1 ⟨rfl, k1⟩
    have K1 := hide k1
    clear k1
    go_wp2_with fail
    refine (blocks_any a zs len cap w1 (HD.out.fresh K1.out) ZL.out (by omega)).mono ?_
    rintro e w2 ⟨u, rfl, o2, f2⟩
    rw [HB.out] at o2
    have B2 := hide (o2.at (by have := LB.out; omega) (fun p hp => (SM.out p hp).1))
    obtain ⟨oa, oc, rfl⟩ := o2.shape
    have K2 := hide (K1.out.trans f2)
    clear o2 f2 K1
    go_wp2_with fail
    refine (met_nat P 320 L (L * P) _ bl w2 B2.out P1.out (by have := P2.out; omega) (by decide) HL.out rfl (HT.out.below K2.out)).mono ?_
    rintro e w3 ⟨gm, cm, rfl, o3, f3⟩
    have O3 := hide o3
    have B3 := hide (B2.out.fresh f3)
    have K3 := hide (K2.out.trans f3)
    clear o3 f3 K2 B2
    go_wp2
    obtain ⟨w4, hw4⟩ : ∃ w4, w4 = w3.alloc (.cells (madeCells #[.bool false] L) 4) := ⟨_, rfl⟩
    obtain ⟨G, hG⟩ : ∃ G, G = w3.heap.size := ⟨_, rfl⟩
    have O4 := hide (show OwnB w4 G (.slice (some ⟨G, 0, none⟩) L L) (metL L P (bl.take 0)) by rw [List.take_zero, metL_nil, hw4, hG]; exact bools_made L (by have := L3.out; omega) w3)
    have F4 := hide (show Fresh w3 w4 from hw4 ▸ fresh_box _ _ _)
    have GG := hide (show w3.heap.size ≤ G by omega)
    rw [← hw4, ← hG, q1]
    clear q1 hw4 hG hmk t1 t3 t4 t5 t6 t7 x0
    have b0 : (0 : Int) ≤ (bl.length : Int) := by omega
    have b1 : (bl.length : Int) ≤ 10 := by have := LB.out; omega
    have TA := hide (show bl.take bl.length = bl from List.take_length)
    go_loopw [10] (fun i wr => ∃ j : Nat, j ≤ bl.length ∧ i = .int .i64 (j : Int) ∧ OwnB wr G (.slice (some ⟨G, 0, none⟩) L L) (metL L P (bl.take j)) ∧ Fresh w3 wr) (fun i _ => (bl.length - intOf i).toNat)
    case atStart => exact ⟨0, Nat.zero_le _, rfl, O4.out, F4.out⟩
    case round =>
      obtain ⟨j, hj, rfl, ho, hf⟩ := hrel
      have j0 : (0 : Int) ≤ (j : Int) := by omega
      by_cases gj : j < bl.length
      · have gj' : (j : Int) < (bl.length : Int) := by omega
        obtain ⟨b, o, rfl, c0, c1, -⟩ := (B3.out.fresh hf).cell j gj
        have HX := hide (fun w' (k : Fresh w3 w') => show w'.cell? ⟨b, o + j * 3, none⟩ = some (.int .i64 ((bk bl j).1 : Int)) ∧ w'.cell? ⟨b, o + j * 3 + 1, none⟩ = some (.int .i64 ((bk bl j).2.1 : Int)) from by
          obtain ⟨b', o', e, k0, k1, -⟩ := (B3.out.fresh k).cell j gj
          cases e
          exact ⟨k0, k1⟩)
        have SB := SM.out (bk bl j) (bk_mem gj)
        have NX := hide (show bl.take (j + 1) = bl.take j ++ [bk bl j] from getD_last gj)
        generalize bk bl j = B at *
        obtain ⟨X, Y, Z⟩ := B
        obtain ⟨-, s1, s2, s3⟩ := SB
        simp only at c0 c1 s1 s2 s3 HX
        have CX := hide c0
        have CY := hide c1
        have x0 : (0 : Int) ≤ (X : Int) := by omega
        have x1 : (X : Int) ≤ 255 := by omega
        have y0 : (1 : Int) ≤ (Y : Int) := by omega
        have y1 : (Y : Int) ≤ 40 := by omega
        have Y1 := hide s2
        have Y2 := hide s3
        have X2 := hide s1
        obtain ⟨f, hf1⟩ : ∃ f : Nat, X / P = f := ⟨_, rfl⟩
        obtain ⟨q, hq1⟩ : ∃ q : Nat, (X + Y - 1) / P = q := ⟨_, rfl⟩
        have d1 : (X : Int) / (P : Int) = (f : Int) := by rw [← hf1]; exact (Int.natCast_ediv _ _).symm
        have d2 : ((X : Int) + (Y : Int) - 1) / (P : Int) = (q : Int) := by
          rw [← hq1, show (X : Int) + (Y : Int) - 1 = ((X + Y - 1 : Nat) : Int) by omega]; exact (Int.natCast_ediv _ _).symm
        have f0 : (0 : Int) ≤ (f : Int) := by omega
        have f1 : (f : Int) ≤ 255 := by have : X / P ≤ X := Nat.div_le_self _ _; omega
        have e0 : (0 : Int) ≤ (q : Int) := by omega
        have e1 : (q : Int) ≤ 300 := by have : (X + Y - 1) / P ≤ X + Y - 1 := Nat.div_le_self _ _; omega
        have PG := hide (fun w hT => (pages_to P X Y f (q + 1) hf1 (by unfold pB; rw [if_neg (by omega), hq1]) w P1.out (by have := P2.out; omega) (by omega) hT))
        have TD := hide (fun n => HT.out.below ((K3.out.trans hf).trans (Fresh.drewN wr n)))
        have HO := hide ho
        have HF := hide hf
        clear ho hf hf1 hq1 s1 s2 s3
        rw [show (((q + 1 : Nat)) : Int) = (q : Int) + 1 from rfl] at PG
        go_wp2_with fail
        go_quiet ((go_at_call 9; exact Calls.quiet_of_same (PG.out _ (TD.out _))))
        generalize hwa : World.drewN wr _ = wa
        have FA := hide (show Fresh wr wa from hwa ▸ Fresh.drewN wr _)
        clear hwa TD PG c0 c1
        have c0 : wa.cell? ⟨b, o + j * 3, none⟩ = some (.int .i64 (X : Int)) := (FA.out.cell (World.block_lt_of_cell? _ _ CX.out)).trans CX.out
        have c1 : wa.cell? ⟨b, o + j * 3 + 1, none⟩ = some (.int .i64 (Y : Int)) := (FA.out.cell (World.block_lt_of_cell? _ _ CY.out)).trans CY.out
        go_wp2_with fail
        go_quiet (fail)
        generalize hwb : World.drewN wa _ = wb
        have FB := hide (show Fresh wr wb from FA.out.trans (hwb ▸ Fresh.drewN wa _))
        clear hwb c0 c1 FA d1 d2 f0 f1 e0 e1
        have c0 : wb.cell? ⟨b, o + j * 3, none⟩ = some (.int .i64 (X : Int)) := (FB.out.cell (World.block_lt_of_cell? _ _ CX.out)).trans CX.out
        have W3 := hide (HF.out.trans FB.out)
        have OW := hide (HO.out.fresh FB.out)
        have N0 := hide (metL_none (L := L) (p := P) (at' := X) (a := Z) (bl.take j))
        have NM := hide (fun t => metL_more (L := L) (p := P) (at' := X) (t := t) P1.out (bl.take j) Z)
        clear HO HF FB CX CY
        go_wp2
        go_loopw [13] (fun bv ws => ∃ t : Nat, t ≤ Y ∧ bv = .int .i64 ((X : Int) + (t : Int)) ∧ OwnB ws G (.slice (some ⟨G, 0, none⟩) L L) (metL L P (bl.take j ++ [(X, t, Z)])) ∧ Fresh w3 ws) (fun bv _ => (X + Y - intOf bv).toNat)
        case atStart => exact ⟨0, Nat.zero_le _, by simp, by rw [N0.out]; exact OW.out, W3.out⟩
        case round =>
          obtain ⟨t, ht, rfl, ho, hf⟩ := hrel
          have t0 : (0 : Int) ≤ (t : Int) := by omega
          have t1 : (t : Int) ≤ (Y : Int) := by omega
          obtain ⟨c0, c1⟩ := HX.out wr hf
          have C0 := hide c0
          have NT := hide (NM.out t)
          obtain ⟨Q, hQ⟩ : ∃ Q : Nat, (X + t) / P = Q := ⟨_, rfl⟩
          have d1 : ((X : Int) + (t : Int)) / (P : Int) = (Q : Int) := by rw [← hQ, show (X : Int) + (t : Int) = ((X + t : Nat) : Int) by omega]; exact (Int.natCast_ediv _ _).symm
          have u0 : (0 : Int) ≤ (Q : Int) := by omega
          have u1 : (Q : Int) ≤ 300 := by have : (X + t) / P ≤ X + t := Nat.div_le_self _ _; omega
          rw [hQ] at NT
          have HO := hide ho
          have HF := hide hf
          clear ho hf hQ
          by_cases gt : t < Y
          · have gt' : (X : Int) + (t : Int) < (X : Int) + (Y : Int) := by omega
            go_wp2_with fail
            go_quiet (fail)
            generalize hwc : World.drewN wr _ = wc
            have FC := hide (show Fresh wr wc from hwc ▸ Fresh.drewN wr _)
            clear hwc c0 c1
            have OC := hide (HO.out.fresh FC.out)
            have F3 := hide (HF.out.trans FC.out)
            generalize hms : metL L P (bl.take j ++ [(X, t, Z)]) = ms at *
            have ML := hide (show L = ms.length by rw [← hms, metL_length])
            clear hms
            by_cases gq : Q < L
            · have gq' : (Q : Int) < (L : Int) := by omega
              have z1 := OC.out.cell ML.out Q gq
              have z2 := OC.out.free ML.out Q
              have O5 := hide (OC.out.put ML.out Q true)
              have F5 := hide (fresh_set F3.out (show w3.heap.size ≤ G from GG.out) Q (.bool true))
              clear OC F3
              generalize ms.getD Q false = cb at *
              go_wp2
              go_roundw
              case rel => exact ⟨t + 1, by omega, by go_num, by rw [NT.out]; exact O5.out, F5.out⟩
              case measure => simp [intOf]; omega
            · have gq' : (L : Int) ≤ (Q : Int) := by omega
              have NS := hide (show ms.set Q true = ms from List.set_eq_of_length_le (by have := ML.out; omega))
              go_wp2
              go_roundw
              case rel => exact ⟨t + 1, by omega, by go_num, by rw [NT.out, NS.out]; exact OC.out, F3.out⟩
              case measure => simp [intOf]; omega
          · obtain rfl : Y = t := by omega
            go_wp2_with fail
            go_quiet (fail)
            generalize hwc : World.drewN wr _ = wc
            have FC := hide (show Fresh wr wc from hwc ▸ Fresh.drewN wr _)
            clear hwc c0 c1
            have OC := hide (HO.out.fresh FC.out)
            have F3 := hide (HF.out.trans FC.out)
            go_wp2
            go_roundw
            case rel => exact ⟨j + 1, by omega, by go_num, by rw [NX.out]; exact OC.out, F3.out⟩
            case measure => simp [intOf]; omega
      · obtain rfl : j = bl.length := by omega
        obtain ⟨wo, hwo⟩ : ∃ wo, wo = wr := ⟨_, rfl⟩
        subst hwo
        rw [TA.out] at ho
        have OM := hide (O3.out.fresh hf)
        have OW := hide ho
        have F3 := hide hf
        have ML := hide (metL_length L P bl)
        generalize metL L P bl = ms at *
        have TS := hide (cntL_take_succ ms)
        have LE := hide (fun j => show cntL (ms.take j) ≤ L from Nat.le_trans (cntL_le _) (by rw [List.length_take, ML.out]; omega))
        clear ho hf O3
        go_wp2
        go_loopw [9, 14] (fun nv i ws => ∃ k : Nat, k ≤ L ∧ i = .int .i64 (k : Int) ∧ nv = .int .i64 ((cntL (ms.take k) : Nat) : Int) ∧ Fresh wo ws) (fun _ i _ => (L - intOf i).toNat)
        case atStart => exact ⟨0, Nat.zero_le _, rfl, rfl, Fresh.refl _⟩
        case round =>
          obtain ⟨k, hk, rfl, rfl, hws⟩ := hrel
          have FD := hide hws
          have k0 : (0 : Int) ≤ (k : Int) := by omega
          clear hws
          by_cases gk : k < L
          · have gk' : (k : Int) < (L : Int) := by omega
            have LK := LE.out k
            have SK := hide (TS.out k (by rw [ML.out]; exact gk))
            have Z2 := hide ((OW.out.fresh FD.out).cell ML.out.symm k gk)
            have z1 := (OM.out.fresh FD.out).cell ML.out.symm k gk
            have z2 := Z2.out
            have v0 : (0 : Int) ≤ ((cntL (ms.take k) : Nat) : Int) := by omega
            have v1 : ((cntL (ms.take k) : Nat) : Int) ≤ 320 := by omega
            clear LK
            generalize cntL (ms.take k) = cn at *
            cases hb : ms.getD k false with
            | true =>
              rw [hb] at z1 z2 SK Z2
              clear hb
              go_wp2_with fail
              go_quiet (fail)
              generalize hwc : World.drewN wr _ = wc
              have FC := hide (show Fresh wr wc from hwc ▸ Fresh.drewN wr _)
              clear hwc z1 z2
              have z2 : wc.cell? ⟨G, k, none⟩ = some (.bool true) := (FC.out.cell (World.block_lt_of_cell? _ _ Z2.out)).trans Z2.out
              go_wp2
              go_roundw
              case rel => exact ⟨k + 1, by omega, by go_num, by rw [SK.out]; go_num, FD.out.trans FC.out⟩
              case measure => simp [intOf]; omega
            | false =>
              rw [hb] at z1 z2 SK Z2
              clear hb
              go_wp2_with fail
              go_quiet (fail)
              generalize hwc : World.drewN wr _ = wc
              have FC := hide (show Fresh wr wc from hwc ▸ Fresh.drewN wr _)
              clear hwc z1 z2
              have z2 : wc.cell? ⟨G, k, none⟩ = some (.bool false) := (FC.out.cell (World.block_lt_of_cell? _ _ Z2.out)).trans Z2.out
              go_wp2
              go_roundw
              case rel => exact ⟨k + 1, by omega, by go_num, by rw [SK.out]; go_num, FD.out.trans FC.out⟩
              case measure => simp [intOf]; omega
          · obtain rfl : k = L := by omega
            have TL := hide (show ms.take k = ms from by rw [← ML.out]; exact List.take_length)
            have C := hide (count_to _ ms (cntL ms) rfl wr (OM.out.fresh FD.out).at (by rw [ML.out]; have := L3.out; omega))
            have FE := hide ((K3.out.trans F3.out).trans FD.out)
            rw [TL.out]
            generalize cntL ms = cn at *
            go_wp2_with fail
            refine (C.out).mono ?_
            rintro e w' ⟨rfl, rfl⟩
            go_wp2
            go_ret
            exact ⟨rfl, FE.out⟩

set_option linter.unusedVariables false
set_option maxRecDepth 100000 in
theorem pinBytes_lifted (os : Os) (started : os.Started) (H : Type) (enc : TypeId × Value → H) :
    ReturnsInHanded {} Tryd.checked os 3 .any (fun w args => (Rows.pinBytesSpec.pre enc Tryd.prog Tryd.f3 [] false w args ∧ laidMetH Tryd.prog laid1 w) ∧ sizedMet enc Tryd.prog Tryd.f3 (OpenSpec.ofChange Rows.pinBytesSpec) false w args)
      (Rows.pinBytesSpec.post enc Tryd.prog Tryd.f3 false true false false) := by
  refine returnsInHanded_of_change_and (C := Tryd.checked) (X := fun w _ => laidMetH Tryd.prog laid1 w) (fun _ _ _ hh h => h.of_heap hh) own started (by kernel_rfl) Tryd.func3
    (ChangeSpec.witness_shaped (enc := enc) (C := Tryd.checked) (os := os) (X := fun w _ => laidMetH Tryd.prog laid1 w) false (World.doorLaid Tryd.prog 400 os) #[.int .u8 0, .slice none 0 0] 8 rfl (World.shaped_of_RefB (by kernel_rfl) (by kernel_rfl)) (by kernel_rfl) (by kernel_rfl) (by kernel_rfl) (door_met os _)) ?_
  intro W base args ds gs before hval0 hW _ _ hL _
  have hval : ∀ (j : Nat) t v, Tryd.f3.params[j]? = some t → args[j]? = some v → Value.okWide Tryd.prog W .any base t v := hval0
  have hW' := hW
  obtain ⟨p, q, hA0, hV, rfl, hfz, hnd⟩ := hW
  have hA : DataW.TrodAll enc Tryd.prog W 0 (fun _ => true) true Tryd.f3.params.toList args.toList ds p := hA0
  rw [Tryd.params3] at hA hval
  obtain ⟨v0, vs0, d0, ds0, p0, q0, hargs, rfl, rfl, h0, r0⟩ := trodAll_cons hA
  obtain ⟨v1, vs1, d1, ds1, p1, q1, rfl, rfl, rfl, h1, r1⟩ := trodAll_cons r0
  obtain ⟨rfl, rfl, rfl⟩ := trodAll_nil r1
  obtain rfl : args = #[v0, v1] := by cases args; simp_all
  obtain ⟨rfl, rfl⟩ := trodVars_none hV
  have lt0 : ∀ x ∈ p0, x.block < W.heap.size := by obtain ⟨m, hm⟩ := h0; exact DataW.trod_lt m _ _ _ hm
  have lt1 : ∀ x ∈ p1, x.block < W.heap.size := by obtain ⟨m, hm⟩ := h1; exact DataW.trod_lt m _ _ _ hm
  obtain ⟨a0, rfl, rfl, rfl, w0⟩ := open_int Tryd.underlying5 (hval 0 5 v0 rfl rfl) h0
  obtain ⟨a1, len1, cap1, rfl⟩ := okWide_slice Tryd.underlying22 (hval 1 22 v1 rfl rfl)
  have w1 := isDuo_of Tryd.underlying22 Tryd.underlying36 Tryd.underlying5 (by kernel_rfl) (by kernel_rfl) h1
  clear hA0 hval0
  have hT := tab_of_laid hL
  refine (pinBytes_walk0 a0 (bounds_u8 w0).1 (bounds_u8 w0).2 a1 len1 cap1 W w1 hT).mono fun e W' ⟨he, hg⟩ => ?_
  subst he
  exact ⟨_, rfl, _, _, _, [], _, [], hW', trodAll_mk1 (shut_bool Tryd.underlying4 _), (trodAll_cons_mk (Below.trod laidOut (by kernel_rfl) (of_decide_eq_true (by kernel_rfl)) h0 hg lt0) (trodAll_cons_mk (Below.trod laidOut (by kernel_rfl) (of_decide_eq_true (by kernel_rfl)) h1 hg lt1) trodAll_mk0)), rfl, hg.frame _, fun h => by cases h⟩

theorem pinBytes_row : Rows.PinBytesSaid :=
  OpenClaim.holds_of_wide 3 Tryd.f3 rfl rfl rfl rfl rfl rfl rfl ⟨rfl, rfl, rfl, rfl, rfl⟩ rfl rfl rfl rfl rfl (by kernel_rfl) Tryd.func3 (by kernel_rfl)
    (of_decide_eq_true (by kernel_rfl)) (by unfold Func.isWrapper; first | (rw [if_pos (by decide +kernel)]; kernel_rfl) | (rw [if_neg (by decide +kernel)]; exact ⟨rfl, rfl⟩))
    (fun os started H enc _ => pinBytes_lifted os started H enc)

theorem pinBytes_holds : Rows.PinBytesCardSaid :=
  Claim7.holds_tied_plain_at .later [] [.data, .data] true (true, "0a6b00d0c58ec77104e853ed9c5c259ea66773a459a279d839fdfac7b11e0755") false
    pinBytes_row (fun _ h => by cases h) (by kernel_rfl) (fun _ h => by cases h) pinBytes_row_tie rfl ⟨rfl, rfl⟩ (by kernel_rfl) rfl
    (fun f fn hf hfn => by
      obtain rfl : f = 3 := Option.some.inj ((show Tryd.prog.funcNamed "hodman/hodmanlaw12.PinBytes" = some 3 by kernel_rfl).symm.trans hf) |>.symm
      obtain rfl : fn = Tryd.f3 := (Option.some.inj (Tryd.func3.symm.trans hfn)).symm
      exact ⟨by kernel_rfl, fun j t ht => by
        rw [Tryd.params3] at ht
        have hm : t ∈ [5, 22] := by simpa using Array.mem_of_getElem? ht
        have hall : ([5, 22].all fun u => !Tryd.prog.wantsStandIn u) = true := by kernel_rfl
        exact (show Tryd.prog.wantsStandIn t = false by simpa using List.all_eq_true.1 hall t hm)⟩)
    (by kernel_rfl)
#print axioms pinBytes_holds
end Go.Proofs.YtckfmgopbfgdjaaDoor
