/- What the program's package commit answers (Commit), as contracts. Condition: the library's table lies in its variable. -/
import Derived.Test.YtcnfmkhjhffebaaDoorComA
import Derived.Test.YtcnfmkhjhffebaaDoorComB
import Derived.Test.YtcnfmkhjhffebaaDoorComC
namespace Go.Proofs.YtcnfmkhjhffebaaDoor
open Go.RowKit

theorem OwnB.mono {w : World} {base base' : Nat} {v : Value} {bs : List Bool} (h : OwnB w base v bs) (hb : base' ≤ base) : OwnB w base' v bs := ownsRow_mono h hb
/-- pages stay when numbers are added behind others -/
theorem pages_stay {w w1 : World} {b1 b2 : Nat} {xv fv : Value} {xs : List Bool} {fs : List Nat} (hx : OwnB w b1 xv xs) (hf : OwnI w b2 fv fs) (hg : w.grownBy w1 fv.ownBlock) : OwnB w1 b1 xv xs :=
  ownsRow_off hx hg (own_apart hx hf (by decide))
/-- numbers stay when pages are turned -/
theorem nums_stay {w w1 : World} {b1 b2 : Nat} {xv fv : Value} {xs : List Bool} {fs : List Nat} (hx : OwnB w b1 xv xs) (hf : OwnI w b2 fv fs) (hg : w.grownBy w1 xv.ownBlock) : OwnI w1 b2 fv fs :=
  ownsRow_off hf hg (own_apart hf hx (by decide))
/-- beside a no -/
def noE : Ending := .returned (.tuple #[.slice none 0 0, .slice none 0 0, .bool false])

set_option maxRecDepth 100000 in
set_option maxHeartbeats 1000000 in
theorem commit_no (v1 v2 : Value) (on met : List Bool) (f t most : Int) (w : World) (h1 : BoolsIn w v1 on) (h2 : BoolsIn w v2 met) (f1 : -9223372036854775808 ≤ f) (f2 : f ≤ 9223372036854775807) (t1 : -9223372036854775808 ≤ t) (t2 : t ≤ 9223372036854775807) (hno : comB on met f t most = false) :
    Calls Tryd.prog 10 #[v1, v2, .int .i64 f, .int .i64 t, .int .i64 most] w fun e w' => e = noE ∧ Fresh w w' := by
  have H2 := hide h2
  have l1 := h1.1
  have l2 := h2.1
  obtain ⟨a1, c1, rfl, -, -⟩ := h1.shape
  obtain ⟨a2, c2, rfl, -, -⟩ := h2.shape
  have p0 : (0 : Int) ≤ (on.length : Int) := by omega
  have p1 : (on.length : Int) ≤ 1048576 := by omega
  have q0 : (0 : Int) ≤ (met.length : Int) := by omega
  have q1 : (met.length : Int) ≤ 1048576 := by omega
  unfold comB at hno
  rw [decide_eq_false_iff_not] at hno
  have HN := hide hno
  clear hno h1 h2 l1 l2
  by_cases g0 : on.length = met.length
  · by_cases g1 : f < 0
    · clear HN H2
      rw [g0] at p0 p1 ⊢
      go_enter Tryd.func10, Tryd.ntmps10
      go_wp2
      go_ret3
      exact ⟨rfl, Fresh.refl _⟩
    · by_cases g2 : t < f
      · clear HN H2
        rw [g0] at p0 p1 ⊢
        go_enter Tryd.func10, Tryd.ntmps10
        go_wp2
        go_ret3
        exact ⟨rfl, Fresh.refl _⟩
      · by_cases g3 : (met.length : Int) < t
        · clear HN H2
          rw [g0] at p0 p1 ⊢
          go_enter Tryd.func10, Tryd.ntmps10
          go_wp2
          go_ret3
          exact ⟨rfl, Fresh.refl _⟩
        · obtain ⟨F, rfl⟩ := Int.eq_ofNat_of_zero_le (show 0 ≤ f by omega)
          obtain ⟨T, rfl⟩ := Int.eq_ofNat_of_zero_le (show 0 ≤ t by omega)
          have C1 := hide (cw_any _ met F T w H2.out (by omega) (by omega))
          have HC : most < (cntN met F T : Int) := by
            have := HN.out
            simp only [Int.toNat_natCast] at this
            omega
          generalize cntN met F T = c at *
          have cl : (0 : Int) ≤ (c : Int) := by omega
          clear HN H2
          rw [g0] at p0 p1 ⊢
          go_enter Tryd.func10, Tryd.ntmps10
          go_wp2_with fail
          refine C1.out.mono ?_
          rintro e w1 ⟨rfl, n, rfl⟩
          go_wp2
          go_ret3
          exact ⟨rfl, Fresh.drewN _ _⟩
  · have g0' : ((on.length : Int) == (met.length : Int)) = false := by rw [beq_eq_false_iff_ne]; omega
    clear HN H2
    go_enter Tryd.func10, Tryd.ntmps10
    go_wp2
    go_ret3
    exact ⟨rfl, Fresh.refl _⟩
set_option maxRecDepth 100000 in
set_option maxHeartbeats 2000000 in
theorem commit_yes (v1 v2 : Value) (on met : List Bool) (f t : Nat) (most : Int) (w : World) (h1 : BoolsIn w v1 on) (h2 : BoolsIn w v2 met) (hT : Tab w) (hl : on.length ≤ 65536) (hyes : comB on met (f : Int) (t : Int) most = true) :
    Calls Tryd.prog 10 #[v1, v2, .int .i64 (f : Int), .int .i64 (t : Int), .int .i64 most] w fun e w' => ∃ g v, e = .returned (.tuple #[.slice (some ⟨g, 0, none⟩) on.length on.length, v, .bool true]) ∧ OwnB w' w.heap.size (.slice (some ⟨g, 0, none⟩) on.length on.length) (comX on met f t most) ∧ OwnI w' w.heap.size v (frL on f t) ∧ Fresh w w' := by
  have HT := hide hT
  have H1 := hide h1
  have H2 := hide h2
  obtain ⟨a1, c1, rfl, -, -⟩ := h1.shape
  obtain ⟨a2, c2, rfl, -, -⟩ := h2.shape
  unfold comB at hyes
  simp only [decide_eq_true_eq, Int.toNat_natCast] at hyes
  obtain ⟨y0, -, y2, y3, y4⟩ := hyes
  have p1 : (on.length : Int) ≤ 65536 := by omega
  have g1 : (f : Int) ≤ (t : Int) := y2
  have f0 : (0 : Int) ≤ (f : Int) := by omega
  have C1 := hide (cw_any _ met f t w h2 (by omega) (by omega))
  have C2 := hide (fun w' (k : Fresh w w') => cw_any _ on f t w' (h1.fresh k) (by omega) (by omega))
  have BND := hide (cntN_le on f t)
  have ML := hide y0.symm
  rw [← y0] at C1 H2 ⊢
  obtain ⟨X, hX⟩ : ∃ X, isB on met f t most = X := ⟨_, rfl⟩
  have CX := hide (show comX on met f t most = rowB on.length X by rw [← hX]; rfl)
  rw [CX.out]
  clear CX
  obtain ⟨cr, hcr⟩ : ∃ cr : Bool, decide (most < (cntN on f t : Int)) = cr := ⟨_, rfl⟩
  have XB := hide (fun i => show X i = ((on.getD i false && (!cr || met.getD i false)) || amB f t i) by rw [← hX, ← hcr]; rfl)
  have FO := hide (fun i (hi : on.length ≤ i) => frB_out (f := f) (show t ≤ on.length by omega) hi)
  have FA := hide (fun a (ha : on.length ≤ a) => fresh_all (frB on f t) on.length a ha FO.out)
  have FD := hide (show frL on f t = (List.range on.length).filter (frB on f t) from rfl)
  have FE := hide (fun i => show frB on f t i = (amB f t i && !on.getD i false) from rfl)
  rw [FD.out]
  clear hX FD FO h1 h2 hT
  generalize hN : on.length = N at *
  have HN := hide hN
  have n0 : (0 : Int) ≤ (N : Int) := by omega
  have T3 := hide y3
  have hmk := fun w => bools_run N hl w
  have NL := hide hl
  generalize cntN met f t = cm at *
  generalize cntN on f t = co at *
  have d0 : (0 : Int) ≤ (co : Int) := by omega
  clear hl y0 BND hN y2
  go_enter Tryd.func10, Tryd.ntmps10
  go_wp2_with fail
  refine C1.out.mono ?_
  rintro e w1 ⟨rfl, n, hn⟩
  have K1 := hide (show Fresh w w1 from hn ▸ Fresh.drewN w n)
  clear hn
  go_wp2_with fail
  refine (C2.out w1 K1.out).mono ?_
  rintro e w2 ⟨rfl, n2, hn2⟩
  have K2 := hide (show Fresh w w2 from K1.out.trans (hn2 ▸ Fresh.drewN w1 n2))
  clear hn2 K1
  go_wp2
  obtain ⟨w3, hw3⟩ : ∃ w3, w3 = w2.alloc (.cells (madeCells #[.bool false] N) 4) := ⟨_, rfl⟩
  have O3 := hide (show OwnB w3 w2.heap.size (.slice (some ⟨w2.heap.size, 0, none⟩) N N) (List.replicate N false) from hw3 ▸ bools_made N NL.out w2)
  have K3 := hide (show Fresh w w3 from hw3 ▸ fresh_more K2.out _ _)
  have GB := hide (show w.heap.size ≤ w2.heap.size from K2.out.size)
  rw [← hw3]
  clear hw3 hmk
  generalize w2.heap.size = G at *
  clear hcr
  go_loopw [11, 14] (fun fv av wr => ∃ A : Nat, A ≤ N + 63 ∧ av = .int .i64 (A : Int) ∧ OwnB wr w.heap.size (.slice (some ⟨G, 0, none⟩) N N) (rowB N fun i => decide (i < A) && X i) ∧ OwnI wr w.heap.size fv ((List.range A).filter (frB on f t)) ∧ Fresh w wr) (fun _ av _ => ((N : Int) + 63 - intOf av).toNat)
  case atStart => exact ⟨0, by omega, rfl, by rw [show (rowB N fun i => decide (i < 0) && X i) = List.replicate N false from rowB_none N]; exact O3.out.mono GB.out, OwnI.nil _ _, K3.out⟩
  case round =>
    obtain ⟨A, hA, rfl, hx, hf, hk⟩ := hrel
    have XO := hide hx
    have NO := hide hf
    have K := hide hk
    have a0 : (0 : Int) ≤ (A : Int) := by omega
    have a1 : (A : Int) ≤ 65600 := by omega
    clear hx hf hk
    by_cases g : A < N
    · have g' : (A : Int) < (N : Int) := by omega
      have WO := hide (word_any _ on A wr (H1.out.fresh K.out).at (by have := HN.out; have := NL.out; omega) (by omega))
      have BT := hide (between_any ((f : Int) - (A : Int)) ((t : Int) - (A : Int)) _ (between_eq f t A) wr (by have := T3.out; omega) (by have := T3.out; omega) (by omega) (by have := T3.out; omega))
      have WM := hide (fun w' (k : Fresh w w') => word_any _ met A w' (H2.out.fresh k).at (by have := ML.out; have := NL.out; omega) (by omega))
      have EF := hide (fresh_more' (frB on f t) A)
      have ER : (fun j => amB f t (A + j) && !on.getD (A + j) false) = fun j => frB on f t (A + j) := funext fun j => (FE.out _).symm
      have E1 := wordB_andNot (fun j => amB f t (A + j)) (fun j => on.getD (A + j) false)
      rw [ER] at E1
      have OD := hide (ones_wordB (fun j => frB on f t (A + j)))
      have E2 := hide (wordB_and (fun j => on.getD (A + j) false) (fun j => met.getD (A + j) false) 64)
      have E3 := hide (fun p => wordB_or p (fun j => amB f t (A + j)) 64)
      have L1 := wordB_64 (fun j => on.getD (A + j) false)
      have L2 := wordB_64 (fun j => amB f t (A + j))
      have L3 := hide (wordB_64 (fun j => met.getD (A + j) false))
      have L4 := hide (wordB_64 (fun j => on.getD (A + j) false && met.getD (A + j) false))
      have LD := hide (wordB_64 (fun j => frB on f t (A + j)))
      have E3n := E3.out (fun j => on.getD (A + j) false)
      have E3y := E3.out (fun j => on.getD (A + j) false && met.getD (A + j) false)
      have SPR := hide (spr_on N X (fun j => X (A + j)) A (fun _ _ => rfl))
      have FLEN := hide (show ((List.range A).filter (frB on f t)).length ≤ 1048576 from Nat.le_trans (List.length_filter_le _ _) (by rw [List.length_range]; omega))
      clear ER E3
      generalize wordB (fun j => on.getD (A + j) false) 64 = TH at WO E1 E2 L1 E3n
      generalize wordB (fun j => amB f t (A + j)) 64 = BE at BT E1 L2 E3n E3y
      generalize wordB (fun j => frB on f t (A + j)) 64 = D at E1 OD LD
      have AN : bits .andNot .u64 (BE : Int) (TH : Int) = (D : Int) := by rw [andNot_spelt _ _ L2 L1, E1]
      have NXT := hide (show ((List.range A).filter (frB on f t)) ++ (onesL D).map (fun j => A + j) = (List.range (A + 64)).filter (frB on f t) by rw [EF.out, OD.out])
      generalize (List.range A).filter (frB on f t) = fl at NO NXT FLEN
      have AD := hide (add_any _ fl A D w.heap.size w wr NO.out LD.out (by omega) FLEN.out (Nat.le_refl _) K.out.size K.out HT.out)
      have FB := hide (fun i hi => NO.out.block i hi)
      go_wp2_with fail
      refine WO.out.mono ?_
      rintro e w4 ⟨rfl, rfl⟩
      go_wp2_with fail
      refine BT.out.mono ?_
      rintro e w5 ⟨rfl, rfl⟩
      go_wp2_with fail
      refine AD.out.mono ?_
      rintro e w6 ⟨fv, rfl, o6, gr6, k6⟩
      have X6 := hide (pages_stay XO.out NO.out gr6)
      have N6 := hide o6
      have K6 := hide k6
      rw [NXT.out] at N6
      clear o6 gr6 k6 AN E1
      cases cr with
      | false =>
        have EQ := hide (show wordB (fun j => X (A + j)) 64 = wordB (fun j => on.getD (A + j) false || amB f t (A + j)) 64 from wordB_congr fun j _ => by rw [XB.out]; simp)
        rw [← E3n] at EQ
        have OR : bits .or .u64 (TH : Int) (BE : Int) = ((TH ||| BE : Nat) : Int) := or_spelt _ _ L1 L2
        generalize TH ||| BE = U at OR EQ
        clear E3y E3n L1 L2
        have SP := hide (spread_any G N N w.heap.size A U (fun i => decide (i < A) && X i) (fun j => X (A + j)) w6 X6.out EQ.out (by have := NL.out; omega) (by omega))
        rw [SPR.out] at SP
        go_wp2_with fail
        refine SP.out.mono ?_
        rintro e w7 ⟨rfl, o7, g7⟩
        have O7 := hide o7
        have N7 := hide (nums_stay X6.out N6.out g7)
        have K7 := hide (show Fresh w w7 from K6.out.grown g7 K6.out.size fun i hi => by cases hi; exact GB.out)
        clear o7 g7
        go_wp2
        go_roundw
        case rel => exact ⟨A + 64, by omega, by go_num, O7.out, N7.out, K7.out⟩
        case measure => simp [intOf]; omega
      | true =>
        have EQ := hide (show wordB (fun j => X (A + j)) 64 = wordB (fun j => (on.getD (A + j) false && met.getD (A + j) false) || amB f t (A + j)) 64 from wordB_congr fun j _ => by rw [XB.out]; simp)
        rw [← E3y] at EQ
        have WMM := hide (WM.out w6 K6.out)
        generalize wordB (fun j => met.getD (A + j) false) 64 = ME at WMM E2 L3
        generalize wordB (fun j => on.getD (A + j) false && met.getD (A + j) false) 64 = TM at E2 L4 EQ E3y
        have AD2 : bits .and .u64 (TH : Int) (ME : Int) = (TM : Int) := by rw [and_spelt _ _ L1 L3.out, E2.out]
        have OR : bits .or .u64 (TM : Int) (BE : Int) = ((TM ||| BE : Nat) : Int) := or_spelt _ _ L4.out L2
        generalize TM ||| BE = U at OR EQ
        clear E3y E3n L1 L2
        have SP := hide (spread_any G N N w.heap.size A U (fun i => decide (i < A) && X i) (fun j => X (A + j)) w6 X6.out EQ.out (by have := NL.out; omega) (by omega))
        rw [SPR.out] at SP
        go_wp2_with fail
        refine WMM.out.mono ?_
        rintro e w66 ⟨rfl, rfl⟩
        go_wp2_with fail
        refine SP.out.mono ?_
        rintro e w7 ⟨rfl, o7, g7⟩
        have O7 := hide o7
        have N7 := hide (nums_stay X6.out N6.out g7)
        have K7 := hide (show Fresh w w7 from K6.out.grown g7 K6.out.size fun i hi => by cases hi; exact GB.out)
        clear o7 g7
        go_wp2
        go_roundw
        case rel => exact ⟨A + 64, by omega, by go_num, O7.out, N7.out, K7.out⟩
        case measure => simp [intOf]; omega
    · have FIN := hide (FA.out A (by omega))
      have XF := hide (show (rowB N fun i => decide (i < A) && X i) = rowB N X from rowB_congr fun i hi => by rw [decide_eq_true (show i < A by omega)]; rfl)
      clear hA
      go_wp2
      go_ret3
      exact ⟨G, _, rfl, by rw [← XF.out]; exact XO.out, by rw [← FIN.out]; exact NO.out, K.out⟩
end Go.Proofs.YtcnfmkhjhffebaaDoor
