/- hodmanlaw13.CommitFair, walked where nobody is refused (of the claim's law: LComFair). Condition: the library's table lies in its variable. -/
import Derived.Test.YtcnfmkhjhffebaaDoorComLaw
import Derived.Test.YtcnfmkhjhffebaaDoorComMore
import Derived.Test.YtcnfmkhjhffebaaDoorPlayRows
import Derived.Deep.CutRange
import Derived.BigGuard
namespace Go.Proofs.YtcnfmkhjhffebaaDoor
open Go.RowKit

theorem cntR_upto (p : Nat → Bool) : ∀ n, cntR n p ≤ n
  | 0 => Nat.le_refl _
  | n + 1 => by have := cntR_upto p n; rw [cntR_succ]; split <;> omega

set_option maxRecDepth 100000 in
set_option maxHeartbeats 8000000 in
theorem commitFair_yes (a : Option Addr) (len cap : Nat) (zs : List Int) (x : Int) (x0 : 0 ≤ x) (_x1 : x ≤ 255) (y : Int) (y0 : 0 ≤ y) (_y1 : y ≤ 255) (m : Int) (m0 : 0 ≤ m) (_m1 : m ≤ 255) (w : World) (hd : BytesAt w a zs) (hz : zs.length = len) (hl : len ≤ 20) (hT : Tab w)
    (gc : comB (onL zs) (metR zs) (min (x.tmod ((len : Int) + 1)) (y.tmod ((len : Int) + 1))) (max (x.tmod ((len : Int) + 1)) (y.tmod ((len : Int) + 1))) (m.tmod 22) = true) :
    Calls Tryd.prog 4 #[.slice a len cap, .int .u8 x, .int .u8 y, .int .u8 m] w fun e w' => e = .returned (.bool true) ∧ Fresh w w' := by
  have HT := hide hT
  have HD := hide hd
  have ZL := hide hz
  have GC := hide gc
  have l0 : (0 : Int) ≤ (len : Int) := by omega
  have lm : (len : Int) ≤ 9223372036854775807 := by omega
  have g' : (len : Int) ≤ 20 := by omega
  have NL := hide (show len ≤ 20 by omega)
  have OL := hide (show (onL zs).length = len by rw [onL_length, ZL.out])
  have ML := hide (show (metR zs).length = len by rw [metR_length, ZL.out])
  clear hT hd hz hl gc
  generalize hon : onL zs = on at *
  generalize hmet : metR zs = met at *
  have HON := hide hon
  have HMET := hide hmet
  clear hon hmet
  obtain ⟨F, hF, F1⟩ := rem_of x (len + 1) x0 (by omega)
  obtain ⟨E, hE, E1⟩ := rem_of y (len + 1) y0 (by omega)
  obtain ⟨M, hM, M1⟩ := rem_of m 22 m0 (by omega)
  rw [show (((len + 1 : Nat)) : Int) = (len : Int) + 1 from rfl] at hF hE
  rw [show (((22 : Nat)) : Int) = 22 from rfl] at hM
  have wx : IntKind.i64.wrap x = x := by rw [IntKind.wrap_i64]; omega
  have wy : IntKind.i64.wrap y = y := by rw [IntKind.wrap_i64]; omega
  have wM : IntKind.i64.wrap (M : Int) = (M : Int) := by rw [IntKind.wrap_i64]; omega
  have z1 : (0 : Int) ≤ (F : Int) := by omega
  have z2 : (F : Int) ≤ 20 := by omega
  have z3 : (0 : Int) ≤ (E : Int) := by omega
  have z4 : (E : Int) ≤ 20 := by omega
  have FE := hide (show F ≤ len ∧ E ≤ len by omega)
  have MB := hide (show M ≤ 22 by omega)
  rw [hF, hE, hM] at GC
  clear F1 E1 M1
  go_enter Tryd.func4, Tryd.ntmps4
  go_wp2_with fail
  refine (begun13_true _ HT.out).mono ?_
  rintro e w1 ⟨rfl, k1⟩
  have K1 := hide k1
  clear k1
  go_wp2_with fail
  refine (rows_any a zs len cap w1 (HD.out.fresh K1.out) ZL.out (by have := NL.out; omega)).mono ?_
  rintro e w2 ⟨u, v, rfl, two⟩
  have O2 := hide (show OwnB w2 w1.heap.size u on by rw [← HON.out]; exact two.a)
  have M2 := hide (show OwnB w2 w1.heap.size v met by rw [← HMET.out]; exact two.b)
  have K2 := hide (K1.out.trans two.f)
  clear two K1
  obtain ⟨oa, oc, rfl⟩ := O2.out.shape OL.out
  obtain ⟨ma, mc, rfl⟩ := M2.out.shape ML.out
  go_wp2_with fail
  go_quiet (fail)
  generalize hwa : World.drewN w2 _ = wa
  have FA := hide (show Fresh w2 wa from hwa ▸ Fresh.drewN w2 _)
  clear hwa
  obtain ⟨f, hf⟩ : ∃ f : Nat, min F E = f := ⟨_, rfl⟩
  obtain ⟨t, ht⟩ : ∃ t : Nat, max F E = t := ⟨_, rfl⟩
  have FT := hide (show f ≤ t ∧ t ≤ len by have := FE.out; omega)
  rw [show min (F : Int) (E : Int) = (f : Int) by omega, show max (F : Int) (E : Int) = (t : Int) by omega] at GC
  go_upto_if 50 with fail
  go_cut [11, 12] from 48 to 52 (fun s u wx => s = .int .i64 (f : Int) ∧ u = .int .i64 (t : Int) ∧ wx = wa)
  case first =>
    by_cases gg : E < F
    · have gi : (E : Int) < (F : Int) := by omega
      obtain rfl : E = f := by omega
      obtain rfl : F = t := by omega
      go_wp2_with fail
      go_meet
      case rel => exact ⟨rfl, rfl, rfl⟩
    · have gi : ¬ ((E : Int) < (F : Int)) := by omega
      obtain rfl : F = f := by omega
      obtain rfl : E = t := by omega
      go_wp2_with fail
      go_meet
      case rel => exact ⟨rfl, rfl, rfl⟩
  case rest =>
  obtain ⟨rfl, rfl, hwc⟩ := hcut
  have hwc' := hwc.symm
  subst hwc'
  clear hwc hf ht FE hF hE hM wx wy wM z1 z2 z3 z4 x0 y0 m0
  have ON := hide (O2.out.fresh FA.out)
  have MN := hide (M2.out.fresh FA.out)
  have KA := hide (K2.out.trans FA.out)
  clear O2 M2 K2 FA
  have e1 : (0 : Int) ≤ (f : Int) := by omega
  have e2 : (f : Int) ≤ (t : Int) := by have := FT.out; omega
  have e3 : (t : Int) ≤ (len : Int) := by have := FT.out; omega
  have e4 : (0 : Int) ≤ (M : Int) := by omega
  have e5 : (M : Int) ≤ 22 := by have := MB.out; omega
  have OI := hide (ON.out.inn (by have := OL.out; have := NL.out; omega))
  have MI := hide (MN.out.inn (by have := ML.out; have := NL.out; omega))
  have C1 := hide (cntN_row met f t len ML.out)
  go_wp2_with fail
  have gc := GC.out
  clear GC
  obtain ⟨n, hn⟩ : ∃ n, (frL on f t).length = n := ⟨_, rfl⟩
  have CY := hide (commit_to _ _ on met (f : Int) (t : Int) (M : Int) f t len n _ _ wa OI.out MI.out (HT.out.below KA.out) rfl rfl OL.out (by have := NL.out; omega) gc rfl rfl hn)
  have NEED : ((cntR len fun i => met.getD i false || amB f t i : Nat) : Int) ≤ (M : Int) := by
    unfold comB at gc
    simp only [decide_eq_true_eq, Int.toNat_natCast] at gc
    rw [← C1.out]; exact gc.2.2.2.2
  have THERE := there_le (on := on) (met := met) (f := f) (t := t) (most := (M : Int)) (by rw [OL.out, ML.out]) (by rw [C1.out]; exact NEED)
  rw [OL.out] at THERE
  have FEW := fr_few on f t
  have MEM := hide (fun i => @fr_mem on f t i)
  have RISE := hide (fun i => @fr_rise on f t i)
  have XG := hide (fun j (hj : j < len) => show (comX on met f t (M : Int)).getD j false = isB on met f t (M : Int) j from comX_get (by rw [OL.out]; exact hj))
  have XB := hide (fun j => show isB on met f t (M : Int) j = ((on.getD j false && (!decide ((M : Int) < (cntN on f t : Int)) || met.getD j false)) || amB f t j) from rfl)
  have XL := hide (comX_length on met f t (M : Int))
  have S1a := hide (fun j => cntR_succ j (fun i => met.getD i false || amB f t i))
  have S2a := hide (fun j => cntR_succ j (isB on met f t (M : Int)))
  have S3a := hide (fun j => cntR_succ j (fun i => on.getD i false))
  have U1 := hide (fun j => cntR_upto (fun i => met.getD i false || amB f t i) j)
  have U2 := hide (fun j => cntR_upto (isB on met f t (M : Int)) j)
  have U3 := hide (fun j => cntR_upto (fun i => on.getD i false) j)
  rw [hn] at FEW MEM RISE
  generalize comX on met f t (M : Int) = X at *
  generalize isB on met f t (M : Int) = XF at *
  generalize frL on f t = R at *
  have AMB := hide (fun j => show amB f t j = (decide (f ≤ j) && decide (j < t)) from rfl)
  generalize amB f t = AM at *
  generalize decide ((M : Int) < (cntN on f t : Int)) = cr at *
  obtain ⟨P, hP⟩ : ∃ P : Nat → Nat, (fun j => cntR j (fun i => met.getD i false || AM i)) = P := ⟨_, rfl⟩
  obtain ⟨T, hTT⟩ : ∃ T : Nat → Nat, (fun j => cntR j XF) = T := ⟨_, rfl⟩
  obtain ⟨H, hH⟩ : ∃ H : Nat → Nat, (fun j => cntR j (fun i => on.getD i false)) = H := ⟨_, rfl⟩
  have P0 : P 0 = 0 := by rw [← hP]; rfl
  have T0 : T 0 = 0 := by rw [← hTT]; rfl
  have H0 : H 0 = 0 := by rw [← hH]; rfl
  have S1b := hide (fun j => show P (j + 1) = P j + (if (met.getD j false || AM j) = true then 1 else 0) by rw [← hP]; exact S1a.out j)
  have S2b := hide (fun j => show T (j + 1) = T j + (if XF j = true then 1 else 0) by rw [← hTT]; exact S2a.out j)
  have S3b := hide (fun j => show H (j + 1) = H j + (if on.getD j false = true then 1 else 0) by rw [← hH]; exact S3a.out j)
  have V1 := hide (fun j => show P j ≤ j by rw [← hP]; exact U1.out j)
  have V2 := hide (fun j => show T j ≤ j by rw [← hTT]; exact U2.out j)
  have V3 := hide (fun j => show H j ≤ j by rw [← hH]; exact U3.out j)
  have NEED' : (P len : Int) ≤ (M : Int) := by rw [← hP]; exact NEED
  have THERE' : (T len : Int) ≤ (M : Int) := by rw [← hTT]; exact THERE
  have HP0 := hide P0
  have HT0 := hide T0
  have HH0 := hide H0
  have NEEDH := hide NEED'
  have THEREH := hide THERE'
  have FEWH := hide FEW
  have HNL := hide hn
  clear gc hn NEED THERE S1a S2a S3a U1 U2 U3 hP hTT hH P0 T0 H0 NEED' THERE' FEW C1
  refine CY.out.mono ?_
  rintro e w3 ⟨g3, a3, c3, rfl, o3, r3, k3⟩
  have X3 := hide o3
  have R3 := hide r3
  have O3 := hide (ON.out.fresh k3)
  have M3 := hide (MN.out.fresh k3)
  have K3 := hide (KA.out.trans k3)
  have XLL := hide (show X.length = len by rw [XL.out, OL.out])
  clear o3 r3 k3 CY OI MI ON MN KA XL
  go_wp2
  go_loop [17, 18, 19, 20] (fun mu th ha i => ∃ j : Nat, j ≤ len ∧ i = .int .i64 (j : Int) ∧ mu = .int .i64 ((P j : Nat) : Int) ∧ th = .int .i64 ((T j : Nat) : Int) ∧ ha = .int .i64 ((H j : Nat) : Int)) (fun _ _ _ i => (len - intOf i).toNat)
  case atStart => exact ⟨0, Nat.zero_le _, rfl, by rw [HP0.out]; rfl, by rw [HT0.out]; rfl, by rw [HH0.out]; rfl⟩
  case round =>
    obtain ⟨j, hj, rfl, rfl, rfl, rfl⟩ := hrel
    have j0 : (0 : Int) ≤ (j : Int) := by omega
    by_cases gj : j < len
    · have gj' : (j : Int) < (len : Int) := by omega
      obtain ⟨bo, rfl, c1⟩ := O3.out.cellOf j (by rw [OL.out]; exact gj)
      obtain ⟨bm, rfl, c2⟩ := M3.out.cellOf j (by rw [ML.out]; exact gj)
      have c3' := X3.out.cell XLL.out.symm j gj
      rw [XG.out j gj] at c3'
      have S1 := S1b.out j
      have S2 := S2b.out j
      have S3 := S3b.out j
      have XC := XB.out j
      have AJ := AMB.out j
      have p1 : ((P j : Nat) : Int) ≤ 20 := by have := V1.out j; omega
      have p0 : (0 : Int) ≤ ((P j : Nat) : Int) := by omega
      have t1 : ((T j : Nat) : Int) ≤ 20 := by have := V2.out j; omega
      have t0 : (0 : Int) ≤ ((T j : Nat) : Int) := by omega
      have h1' : ((H j : Nat) : Int) ≤ 20 := by have := V3.out j; omega
      have h0 : (0 : Int) ≤ ((H j : Nat) : Int) := by omega
      generalize on.getD j false = x at c1 S3 XC
      generalize met.getD j false = y at c2 S1 XC
      generalize XF j = xx at c3' S2 XC
      generalize AM j = am at S1 XC AJ
      generalize hpj : P j = pj at *
      generalize htj : T j = tj at *
      generalize hhj : H j = hj' at *
      have S1 := hide S1
      have S2 := hide S2
      have S3 := hide S3
      clear hpj htj hhj
      clear HT HD ZL lm NL OL ML HON HMET MB O3 M3 X3 R3 XG XB S1b S2b S3b V1 V2 V3 HP0 HT0 HH0 NEEDH THEREH FEWH HNL MEM RISE AMB K3 XLL FT
      by_cases h1 : f ≤ j
      · have h1i : (f : Int) ≤ (j : Int) := by omega
        by_cases h2 : j < t
        · have h2i : (j : Int) < (t : Int) := by omega
          rw [decide_eq_true h1, decide_eq_true h2] at AJ
          subst AJ
          cases x <;> cases y <;> cases xx <;> first
            | (exfalso; simp at XC; done)
            | (clear XC
               go_upto_region 19 with fail
               dsimp only [List.append]
               go_wp2
               go_round
               case rel => exact ⟨j + 1, by omega, by go_num, by rw [S1.out]; go_num, by rw [S2.out]; go_num, by rw [S3.out]; go_num⟩
               case measure => simp [intOf]; omega)
        · have h2i : ¬ ((j : Int) < (t : Int)) := by omega
          rw [decide_eq_true h1, decide_eq_false h2] at AJ
          subst AJ
          cases x <;> cases y <;> cases xx <;> first
            | (exfalso; simp at XC; done)
            | (clear XC
               go_upto_region 19 with fail
               dsimp only [List.append]
               go_wp2
               go_round
               case rel => exact ⟨j + 1, by omega, by go_num, by rw [S1.out]; go_num, by rw [S2.out]; go_num, by rw [S3.out]; go_num⟩
               case measure => simp [intOf]; omega)
      · have h1i : ¬ ((f : Int) ≤ (j : Int)) := by omega
        rw [decide_eq_false h1] at AJ
        subst AJ
        cases x <;> cases y <;> cases xx <;> first
          | (exfalso; simp at XC; done)
          | (clear XC
             go_upto_region 19 with fail
             dsimp only [List.append]
             go_wp2
             go_round
             case rel => exact ⟨j + 1, by omega, by go_num, by rw [S1.out]; go_num, by rw [S2.out]; go_num, by rw [S3.out]; go_num⟩
             case measure => simp [intOf]; omega)
    · obtain rfl : len = j := by omega
      have p1 : ((P len : Nat) : Int) ≤ (M : Int) := NEEDH.out
      have p0 : (0 : Int) ≤ ((P len : Nat) : Int) := by omega
      have t1 : ((T len : Nat) : Int) ≤ (M : Int) := THEREH.out
      have dt : decide (((T len : Nat) : Int) ≤ (M : Int)) = true := decide_eq_true t1
      generalize P len = pl at *
      generalize T len = tl at *
      generalize H len = hl' at *
      have FW : (n : Int) ≤ (t : Int) - (f : Int) := by have := FEWH.out; omega
      have dw : decide ((n : Int) ≤ (t : Int) - (f : Int)) = true := decide_eq_true FW
      have n0 : (0 : Int) ≤ (n : Int) := by omega
      have n1 : (n : Int) ≤ 20 := by omega
      clear V1 V2 V3 S1b S2b S3b HP0 HT0 HH0 XG XB AMB NEEDH THEREH FEWH
      go_wp2
      go_loopw [22] (fun i wr => ∃ k : Nat, k ≤ n ∧ i = .int .i64 (k : Int) ∧ Fresh w3 wr) (fun i _ => (n - intOf i).toNat)
      case atStart => exact ⟨0, Nat.zero_le _, rfl, Fresh.refl _⟩
      case round =>
        obtain ⟨k, hk, rfl, hws⟩ := hrel
        have FD := hide hws
        have k0 : (0 : Int) ≤ (k : Int) := by omega
        by_cases gk : k < n
        · have gk' : (k : Int) < (n : Int) := by omega
          obtain ⟨m1, m2, m3, m4⟩ := MEM.out k gk
          obtain ⟨br, rfl, c1⟩ := (R3.out.fresh hws).cell k (by rw [HNL.out]; exact gk)
          obtain ⟨bo, rfl, c2⟩ := (O3.out.fresh hws).cellOf (R.getD k 0) m1
          rw [m4] at c2
          have RS := hide (RISE.out (k - 1))
          have R3w := hide (R3.out.fresh hws)
          have FN := hide (fun n => fresh_drewN FD.out n)
          generalize hr : R.getD k 0 = r at *
          rw [OL.out] at m1
          have r0 : (0 : Int) ≤ (r : Int) := by omega
          have r1 : (r : Int) < (len : Int) := by omega
          have r2 : decide (r < f) = false := decide_eq_false (by omega)
          have r3 : decide (t ≤ r) = false := decide_eq_false (by omega)
          clear hws
          by_cases k1 : k = 0
          · have q1 : decide (0 < k) = false := decide_eq_false (by omega)
            have q1' : decide ((0 : Int) < (k : Int)) = false := decide_eq_false (by omega)
            clear RS hr m1 m2 m3 m4 k1
            go_wp2_with fail
            go_quiet (fail)
            go_wp2
            go_roundw
            case rel => exact ⟨k + 1, by omega, by go_num, FN.out _⟩
            case measure => simp [intOf]; omega
          · obtain ⟨q, hq⟩ : ∃ q, k = q + 1 := ⟨k - 1, by omega⟩
            obtain ⟨br', e', c3⟩ := R3w.out.cell q (by rw [HNL.out]; omega)
            cases e'
            have rs := RS.out (by rw [show k - 1 + 1 = k by omega]; exact gk)
            rw [show k - 1 = q by omega, show q + 1 = k by omega] at rs
            rw [hr] at rs
            generalize R.getD q 0 = r' at *
            have r4 : decide (r ≤ r') = false := decide_eq_false (by omega)
            have q0 : (0 : Int) ≤ (q : Int) := by omega
            have q1 : decide (0 < k) = true := decide_eq_true (by omega)
            have q1' : decide ((0 : Int) < (k : Int)) = true := decide_eq_true (by omega)
            have q2 : (k : Int) - 1 = (q : Int) := by omega
            have q3 : (q : Int) < (n : Int) := by omega
            clear RS hr m1 m2 m3 m4 rs hq k1
            go_wp2_with fail
            go_quiet (fail)
            go_wp2
            go_roundw
            case rel => exact ⟨k + 1, by omega, by go_num, FN.out _⟩
            case measure => simp [intOf]; omega
        · obtain rfl : n = k := by omega
          clear hws
          have KK := hide (K3.out.trans FD.out)
          go_wp2
          go_ret
          exact ⟨rfl, KK.out⟩
end Go.Proofs.YtcnfmkhjhffebaaDoor
