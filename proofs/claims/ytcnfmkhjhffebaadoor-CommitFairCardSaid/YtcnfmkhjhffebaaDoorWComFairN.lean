/- hodmanlaw13.CommitFair, walked where somebody is refused (of the claim's law: LComFair). Condition: the library's table lies in its variable. -/
import Derived.Test.YtcnfmkhjhffebaaDoorComLaw
import Derived.Test.YtcnfmkhjhffebaaDoorComMore
import Derived.Test.YtcnfmkhjhffebaaDoorPlayRows
import Derived.Deep.CutRange
import Derived.BigGuard
namespace Go.Proofs.YtcnfmkhjhffebaaDoor
open Go.RowKit

theorem cntR_lim (p : Nat → Bool) : ∀ n, cntR n p ≤ n
  | 0 => Nat.le_refl _
  | n + 1 => by have := cntR_lim p n; rw [cntR_succ]; split <;> omega

set_option maxRecDepth 100000 in
set_option maxHeartbeats 8000000 in
theorem commitFair_no (a : Option Addr) (len cap : Nat) (zs : List Int) (x : Int) (x0 : 0 ≤ x) (_x1 : x ≤ 255) (y : Int) (y0 : 0 ≤ y) (_y1 : y ≤ 255) (m : Int) (m0 : 0 ≤ m) (_m1 : m ≤ 255) (w : World) (hd : BytesAt w a zs) (hz : zs.length = len) (hl : len ≤ 20) (hT : Tab w)
    (gc : comB (onL zs) (metR zs) (min (x.tmod ((len : Int) + 1)) (y.tmod ((len : Int) + 1))) (max (x.tmod ((len : Int) + 1)) (y.tmod ((len : Int) + 1))) (m.tmod 22) = false) :
    Calls Tryd.prog 4 #[.slice a len cap, .int .u8 x, .int .u8 y, .int .u8 m] w fun e w' => e = .returned (.bool true) ∧ Fresh w w' := by
  have HT := hide hT
  have HD := hide hd
  have ZL := hide hz
  have GC := hide gc
  have l0 : (0 : Int) ≤ (len : Int) := by omega
  have lm : (len : Int) ≤ 9223372036854775807 := by omega
  have g' : (len : Int) ≤ 20 := by omega
  have NL := hide (show len ≤ 20 by omega)
  have OL := hide (show (onL zs).length = len by rw [onL_length, ZL.out])
  have ML := hide (show (metR zs).length = len by rw [metR_length, ZL.out])
  clear hT hd hz hl gc
  generalize hon : onL zs = on at *
  generalize hmet : metR zs = met at *
  have HON := hide hon
  have HMET := hide hmet
  clear hon hmet
  obtain ⟨F, hF, F1⟩ := rem_of x (len + 1) x0 (by omega)
  obtain ⟨E, hE, E1⟩ := rem_of y (len + 1) y0 (by omega)
  obtain ⟨M, hM, M1⟩ := rem_of m 22 m0 (by omega)
  rw [show (((len + 1 : Nat)) : Int) = (len : Int) + 1 from rfl] at hF hE
  rw [show (((22 : Nat)) : Int) = 22 from rfl] at hM
  have wx : IntKind.i64.wrap x = x := by rw [IntKind.wrap_i64]; omega
  have wy : IntKind.i64.wrap y = y := by rw [IntKind.wrap_i64]; omega
  have wM : IntKind.i64.wrap (M : Int) = (M : Int) := by rw [IntKind.wrap_i64]; omega
  have z1 : (0 : Int) ≤ (F : Int) := by omega
  have z2 : (F : Int) ≤ 20 := by omega
  have z3 : (0 : Int) ≤ (E : Int) := by omega
  have z4 : (E : Int) ≤ 20 := by omega
  have FE := hide (show F ≤ len ∧ E ≤ len by omega)
  have MB := hide (show M ≤ 22 by omega)
  rw [hF, hE, hM] at GC
  clear F1 E1 M1
  go_enter Tryd.func4, Tryd.ntmps4
  go_wp2_with fail
  refine (begun13_true _ HT.out).mono ?_
  rintro e w1 ⟨rfl, k1⟩
  have K1 := hide k1
  clear k1
  go_wp2_with fail
  refine (rows_any a zs len cap w1 (HD.out.fresh K1.out) ZL.out (by have := NL.out; omega)).mono ?_
  rintro e w2 ⟨u, v, rfl, two⟩
  have O2 := hide (show OwnB w2 w1.heap.size u on by rw [← HON.out]; exact two.a)
  have M2 := hide (show OwnB w2 w1.heap.size v met by rw [← HMET.out]; exact two.b)
  have K2 := hide (K1.out.trans two.f)
  clear two K1
  obtain ⟨oa, oc, rfl⟩ := O2.out.shape OL.out
  obtain ⟨ma, mc, rfl⟩ := M2.out.shape ML.out
  go_wp2_with fail
  go_quiet (fail)
  generalize hwa : World.drewN w2 _ = wa
  have FA := hide (show Fresh w2 wa from hwa ▸ Fresh.drewN w2 _)
  clear hwa
  obtain ⟨f, hf⟩ : ∃ f : Nat, min F E = f := ⟨_, rfl⟩
  obtain ⟨t, ht⟩ : ∃ t : Nat, max F E = t := ⟨_, rfl⟩
  have FT := hide (show f ≤ t ∧ t ≤ len by have := FE.out; omega)
  rw [show min (F : Int) (E : Int) = (f : Int) by omega, show max (F : Int) (E : Int) = (t : Int) by omega] at GC
  go_upto_if 50 with fail
  go_cut [11, 12] from 48 to 52 (fun s u wx => s = .int .i64 (f : Int) ∧ u = .int .i64 (t : Int) ∧ wx = wa)
  case first =>
    by_cases gg : E < F
    · have gi : (E : Int) < (F : Int) := by omega
      obtain rfl : E = f := by omega
      obtain rfl : F = t := by omega
      go_wp2_with fail
      go_meet
      case rel => exact ⟨rfl, rfl, rfl⟩
    · have gi : ¬ ((E : Int) < (F : Int)) := by omega
      obtain rfl : F = f := by omega
      obtain rfl : E = t := by omega
      go_wp2_with fail
      go_meet
      case rel => exact ⟨rfl, rfl, rfl⟩
  case rest =>
  obtain ⟨rfl, rfl, hwc⟩ := hcut
  have hwc' := hwc.symm
  subst hwc'
  clear hwc hf ht FE hF hE hM wx wy wM z1 z2 z3 z4 x0 y0 m0
  have ON := hide (O2.out.fresh FA.out)
  have MN := hide (M2.out.fresh FA.out)
  have KA := hide (K2.out.trans FA.out)
  clear O2 M2 K2 FA
  have e1 : (0 : Int) ≤ (f : Int) := by omega
  have e2 : (f : Int) ≤ (t : Int) := by have := FT.out; omega
  have e3 : (t : Int) ≤ (len : Int) := by have := FT.out; omega
  have e4 : (0 : Int) ≤ (M : Int) := by omega
  have e5 : (M : Int) ≤ 22 := by have := MB.out; omega
  have OI := hide (ON.out.inn (by have := OL.out; have := NL.out; omega))
  have MI := hide (MN.out.inn (by have := ML.out; have := NL.out; omega))
  have C1 := hide (cntN_row met f t len ML.out)
  go_wp2_with fail
  have gc := GC.out
  clear GC
  have NEED : (M : Int) < ((cntR len fun i => met.getD i false || amB f t i : Nat) : Int) := by
    unfold comB at gc
    rw [decide_eq_false_iff_not] at gc
    have h1 := OL.out
    have h2 := ML.out
    have h3 := FT.out
    have h4 := C1.out
    simp only [Int.toNat_natCast] at gc
    rw [h4] at gc
    omega
  have CN := hide (commit_no _ _ on met (f : Int) (t : Int) (M : Int) wa OI.out MI.out (by omega) (by omega) (by omega) (by omega) gc)
  have S1a := hide (fun j => cntR_succ j (fun i => met.getD i false || amB f t i))
  have S3a := hide (fun j => cntR_succ j (fun i => on.getD i false))
  have U1 := hide (fun j => cntR_lim (fun i => met.getD i false || amB f t i) j)
  have U3 := hide (fun j => cntR_lim (fun i => on.getD i false) j)
  have AMB := hide (fun j => show amB f t j = (decide (f ≤ j) && decide (j < t)) from rfl)
  generalize amB f t = AM at *
  obtain ⟨P, hP⟩ : ∃ P : Nat → Nat, (fun j => cntR j (fun i => met.getD i false || AM i)) = P := ⟨_, rfl⟩
  obtain ⟨H, hH⟩ : ∃ H : Nat → Nat, (fun j => cntR j (fun i => on.getD i false)) = H := ⟨_, rfl⟩
  have P0 : P 0 = 0 := by rw [← hP]; rfl
  have H0 : H 0 = 0 := by rw [← hH]; rfl
  have S1b := hide (fun j => show P (j + 1) = P j + (if (met.getD j false || AM j) = true then 1 else 0) by rw [← hP]; exact S1a.out j)
  have S3b := hide (fun j => show H (j + 1) = H j + (if on.getD j false = true then 1 else 0) by rw [← hH]; exact S3a.out j)
  have V1 := hide (fun j => show P j ≤ j by rw [← hP]; exact U1.out j)
  have V3 := hide (fun j => show H j ≤ j by rw [← hH]; exact U3.out j)
  have NEED' : (M : Int) < (P len : Int) := by rw [← hP]; exact NEED
  have HP0 := hide P0
  have HH0 := hide H0
  have NEEDH := hide NEED'
  clear gc NEED S1a S3a U1 U3 hP hH P0 H0 NEED' C1
  refine CN.out.mono ?_
  rintro e w3 ⟨rfl, k3⟩
  have O3 := hide (ON.out.fresh k3)
  have M3 := hide (MN.out.fresh k3)
  have K3 := hide (KA.out.trans k3)
  clear k3 CN OI MI ON MN KA
  unfold noE
  go_wp2
  go_loop [17, 19, 20] (fun mu ha i => ∃ j : Nat, j ≤ len ∧ i = .int .i64 (j : Int) ∧ mu = .int .i64 ((P j : Nat) : Int) ∧ ha = .int .i64 ((H j : Nat) : Int)) (fun _ _ i => (len - intOf i).toNat)
  case atStart => exact ⟨0, Nat.zero_le _, rfl, by rw [HP0.out]; rfl, by rw [HH0.out]; rfl⟩
  case round =>
    obtain ⟨j, hj, rfl, rfl, rfl⟩ := hrel
    have j0 : (0 : Int) ≤ (j : Int) := by omega
    by_cases gj : j < len
    · have gj' : (j : Int) < (len : Int) := by omega
      obtain ⟨bo, rfl, c1⟩ := O3.out.cellOf j (by rw [OL.out]; exact gj)
      obtain ⟨bm, rfl, c2⟩ := M3.out.cellOf j (by rw [ML.out]; exact gj)
      have S1 := S1b.out j
      have S3 := S3b.out j
      have AJ := AMB.out j
      have p1 : ((P j : Nat) : Int) ≤ 20 := by have := V1.out j; omega
      have p0 : (0 : Int) ≤ ((P j : Nat) : Int) := by omega
      have h1' : ((H j : Nat) : Int) ≤ 20 := by have := V3.out j; omega
      have h0 : (0 : Int) ≤ ((H j : Nat) : Int) := by omega
      generalize on.getD j false = x at c1 S3
      generalize met.getD j false = y at c2 S1
      generalize AM j = am at S1 AJ
      generalize hpj : P j = pj at *
      generalize hhj : H j = hj' at *
      have S1 := hide S1
      have S3 := hide S3
      clear hpj hhj
      clear HT HD ZL lm NL OL ML HON HMET MB O3 M3 S1b S3b V1 V3 HP0 HH0 NEEDH AMB K3 FT
      by_cases h1 : f ≤ j
      · have h1i : (f : Int) ≤ (j : Int) := by omega
        by_cases h2 : j < t
        · have h2i : (j : Int) < (t : Int) := by omega
          rw [decide_eq_true h1, decide_eq_true h2] at AJ
          subst AJ
          cases x <;> cases y <;>
          · go_upto_region 19 with fail
            dsimp only [List.append]
            go_wp2
            go_round
            case rel => exact ⟨j + 1, by omega, by go_num, by rw [S1.out]; go_num, by rw [S3.out]; go_num⟩
            case measure => simp [intOf]; omega
        · have h2i : ¬ ((j : Int) < (t : Int)) := by omega
          rw [decide_eq_true h1, decide_eq_false h2] at AJ
          subst AJ
          cases x <;> cases y <;>
          · go_upto_region 19 with fail
            dsimp only [List.append]
            go_wp2
            go_round
            case rel => exact ⟨j + 1, by omega, by go_num, by rw [S1.out]; go_num, by rw [S3.out]; go_num⟩
            case measure => simp [intOf]; omega
      · have h1i : ¬ ((f : Int) ≤ (j : Int)) := by omega
        rw [decide_eq_false h1] at AJ
        subst AJ
        cases x <;> cases y <;>
        · go_upto_region 19 with fail
          dsimp only [List.append]
          go_wp2
          go_round
          case rel => exact ⟨j + 1, by omega, by go_num, by rw [S1.out]; go_num, by rw [S3.out]; go_num⟩
          case measure => simp [intOf]; omega
    · obtain rfl : len = j := by omega
      have p1 : (M : Int) < ((P len : Nat) : Int) := NEEDH.out
      have p2 : ¬ (((P len : Nat) : Int) ≤ (M : Int)) := by omega
      have p3 : decide (((P len : Nat) : Int) ≤ (M : Int)) = false := decide_eq_false p2
      have p0 : (0 : Int) ≤ ((P len : Nat) : Int) := by omega
      have p4 : ¬ (P len ≤ M) := by omega
      have p5 : decide (P len ≤ M) = false := decide_eq_false p4
      generalize P len = pl at *
      generalize H len = hl' at *
      clear V1 V3 S1b S3b HP0 HH0 AMB NEEDH
      go_wp2
      go_ret
      exact ⟨rfl, K3.out⟩
end Go.Proofs.YtcnfmkhjhffebaaDoor
