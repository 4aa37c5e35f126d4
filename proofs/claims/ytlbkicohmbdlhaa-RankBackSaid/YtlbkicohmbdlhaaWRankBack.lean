/- The walk of hodmanlaw6.RankBack: Below and Nth undo one another, and zeros are what is left. -/
import Derived.Test.YtlbkicohmbdlhaaRankLaw
import Derived.Deep.RegionHeld3
namespace Go.Proofs.Ytlbkicohmbdlhaa
open Go.ChangeShapes Go.WideShapes Go.ChangeAt Go.RowKit

theorem heldT_last {W w1 : World} {p q r : Addr} {u v x l : Value} {n : Nat} {ws : List Nat} (s : w1.cell? p = some u ∧ w1.cell? q = some v ∧ w1.cell? r = some x ∧ TreeAt w1 l n ws ∧ Fresh W w1) : Fresh W w1 := s.2.2.2.2

set_option maxRecDepth 100000 in
set_option maxHeartbeats 4000000 in
theorem rankBack_walk0 (a : Option Addr) (len cap : Nat) (zs : List Int) (n : Int) (hn : 0 ≤ n) (hn' : n ≤ 65535) (at_ : Int) (hat : 0 ≤ at_) (hat' : at_ ≤ 65535) (w : World) (hrow : IsRow .u8 w a len cap zs) :
    Calls Try.prog 4 #[.slice a len cap, .int .u16 n, .int .u16 at_] w fun e w' => e = .returned (.bool true) ∧ Fresh w w' := by
  by_cases h20 : len ≤ 20
  · have l0 : (len : Int) ≤ 20 := by omega
    have RW := hide hrow
    obtain ⟨s, hs⟩ : ∃ s : Nat, 1 + n % 5000 = (s : Int) := ⟨(1 + n % 5000).toNat, by omega⟩
    have s1 : 1 ≤ s := by omega
    have s2 : s ≤ 5000 := by omega
    clear hrow h20
    go_enter Try.func4, Try.ntmps4
    go_wp2_with fail
    refine (begun6_true _).mono ?_
    rintro e w1 ⟨rfl, k1⟩
    have K1 := hide k1
    clear k1
    go_wp2_with fail
    refine (made_any a len cap _).mono ?_
    rintro e w2 ⟨rfl, rfl⟩
    have PK := hide (picks_fresh RW.out K1.out 45)
    have F3 := hide (K1.out.trans (fresh_box w1 #[.slice a len cap, .int .i64 0] 45))
    have B1 := hide K1.out.size
    clear K1
    go_wp2_with fail
    refine (ptree_any _ _ s _ PK.out s1 (by omega)).mono ?_
    rintro e w4 ⟨v4, ws, rfl, t4, e4⟩
    have F4 := hide (Elb.below F3.out B1.out e4)
    obtain ⟨b, o, cp, rfl, _⟩ := t4.shape
    obtain ⟨L, hL⟩ : ∃ L, nLev s = L := ⟨_, rfl⟩
    have l1 := nLev_in s
    rw [hL] at t4 l1 ⊢
    have VT := hide (var_new hL t4)
    clear hL t4 e4 F3 PK
    obtain ⟨w5, hw5⟩ : ∃ w5, w5 = w4.alloc (.cells #[.int .i64 (s : Int), .slice (some ⟨b, o, none⟩) L cp] 27) := ⟨_, rfl⟩
    have F5 := hide (show Fresh w w5 by subst hw5; exact fresh_more F4.out _ _)
    rw [← hw5] at VT
    have HW5 := hide hw5
    clear hw5 F4 hs
    have c0 := VT.out.c0 w5 (Fresh.refl _)
    have c1 := VT.out.c1 w5 (Fresh.refl _)
    obtain ⟨rx, rc, hrc, hrw⟩ := (VT.out.lv w5 (Fresh.refl _)).row 0 (by omega)
    rw [Nat.add_zero] at hrc
    have RC := hide (fun (w' : World) (k : Fresh w5 w') => show w'.cell? ⟨b, o, none⟩ = some (.slice rx ws.length rc) from (k.cell (World.block_lt_of_cell? _ _ hrc)).trans hrc)
    have RWD := hide (fun (w' : World) (k : Fresh w5 w') => show WordsAt w' (.slice rx ws.length rc) ws from hrw.fresh k)
    clear hrc hrw
    generalize hTT : w4.heap.size = T at *
    have q1 : (1 : Int) ≤ (s : Int) := by omega
    have q2 : (s : Int) ≤ 5000 := by omega
    obtain ⟨I, hI⟩ : ∃ I : Nat, at_ % (s : Int) = I := ⟨(at_ % (s : Int)).toNat, by have := Int.emod_nonneg at_ (show (s : Int) ≠ 0 by omega); omega⟩
    have hI2 : I < s := by have := Int.emod_lt_of_pos at_ (show 0 < (s : Int) by omega); omega
    have i1 : (I : Int) < (s : Int) := by omega
    obtain ⟨C, hC⟩ : ∃ C, cnt (bitV ws) 0 I = C := ⟨_, rfl⟩
    obtain ⟨A, hA⟩ : ∃ A, cnt (bitV ws) 0 s = A := ⟨_, rfl⟩
    obtain ⟨Z, hZ⟩ : ∃ Z : Int, ((s - cnt (bitV ws) 0 s : Nat) : Int) = Z := ⟨_, rfl⟩
    have C1 : C ≤ I := by have := cnt_le (bitV ws) 0 I; omega
    have CA : C ≤ A := by have := cnt_mono (bitV ws) 0 I s (by omega); omega
    have A1 : A ≤ s := by have := cnt_le (bitV ws) 0 s; omega
    have BC := hide (show ((belowV s ws (I : Int) : Nat) : Int) = (C : Int) by rw [below_nat s ws I (by omega), hC])
    have BA := hide (show ((belowV s ws (s : Int) : Nat) : Int) = (A : Int) by rw [below_nat s ws s (by omega), hA])
    have NA := hide (show nthT s ws (A : Int) = none from nthT_none (by omega))
    have ZZ := hide hZ
    have ZA := hide (show Z + (A : Int) = (s : Int) by omega)
    have HC := hide hC
    clear hC hA hZ
    go_wp2_with fail
    rw [← HW5.out, hI]
    refine (below_to _ s ws (I : Int) (C : Int) BC.out _ (VT.out.tr _ (Fresh.refl _)) (by omega) (by omega)).mono ?_
    rintro e w6 ⟨rfl, k6⟩
    have K := hide k6
    clear c0 c1 k6 hI
    have c0 := VT.out.c0 _ K.out
    have c1 := VT.out.c1 _ K.out
    rcases nthT_cases s ws C with ⟨X, h1, h2, h3, h4⟩ | ⟨h1, h2⟩
    · have N1 := hide h1
      have BX := hide (show ((belowV s ws (X : Int) : Nat) : Int) = (C : Int) by rw [below_nat s ws X (by omega), h4])
      have NB := hide (nth_back (n := s) (ws := ws) (i := I) (x := X) (by rw [HC.out]; exact h1))
      have x1 : (I : Int) ≤ (X : Int) := by have := NB.out.1; omega
      have x2 : (X : Int) < (s : Int) := by omega
      have H3 := hide h3
      clear h1 h4 h2 h3
      go_wp2_with fail
      refine (nth_is _ s ws (C : Int) (X : Int) X N1.out rfl _ (VT.out.tr _ K.out) (by omega)).mono ?_
      rintro e w7 ⟨rfl, k4⟩
      have K4 := hide (K.out.trans k4)
      clear c0 c1 k4 K
      have K := K4
      clear K4
      have c0 := VT.out.c0 _ K.out
      have c1 := VT.out.c1 _ K.out
      have dd1 : decide (X < I) = false := decide_eq_false (by omega)
      go_wp2_with fail
      refine (below_to _ s ws (X : Int) (C : Int) BX.out _ (VT.out.tr _ K.out) (by omega) (by omega)).mono ?_
      rintro e w8 ⟨rfl, k4⟩
      have K4 := hide (K.out.trans k4)
      clear c0 c1 k4 K
      have K := K4
      clear K4
      have c0 := VT.out.c0 _ K.out
      have c1 := VT.out.c1 _ K.out
      have r0 := RC.out _ K.out
      go_wp2_with fail
      refine (rhas_bit _ ws X true H3.out _ (RWD.out _ K.out) (by omega)).mono ?_
      rintro e w9 ⟨rfl, k4⟩
      have K4 := hide (K.out.trans k4)
      clear c0 c1 r0 k4 K
      have K := K4
      clear K4
      have c0 := VT.out.c0 _ K.out
      have c1 := VT.out.c1 _ K.out
      have r0 := RC.out _ K.out
      by_cases hXI : X = I
      · have hIX := hXI.symm
        subst hIX
        go_wp2_with fail
        refine (rhas_bit _ ws I true H3.out _ (RWD.out _ K.out) (by omega)).mono ?_
        rintro e wa ⟨rfl, k4⟩
        have K4 := hide (K.out.trans k4)
        clear c0 c1 r0 k4 K
        have K := K4
        clear K4 dd1 hXI
        have c0 := VT.out.c0 _ K.out
        have c1 := VT.out.c1 _ K.out
        go_wp2_with fail
        refine (below_to _ s ws (s : Int) (A : Int) BA.out _ (VT.out.tr _ K.out) (by omega) (by omega)).mono ?_
        rintro e wk ⟨rfl, k4⟩
        have K4 := hide (K.out.trans k4)
        clear c0 c1 k4 K
        have K := K4
        clear K4
        have c0 := VT.out.c0 _ K.out
        have c1 := VT.out.c1 _ K.out
        go_wp2_with fail
        refine (nth_no _ s ws (A : Int) NA.out _ (VT.out.tr _ K.out) (by omega)).mono ?_
        rintro e wk2 ⟨rfl, k4⟩
        have K4 := hide (K.out.trans k4)
        clear c0 c1 k4 K
        have K := K4
        clear K4
        have c0 := VT.out.c0 _ K.out
        have c1 := VT.out.c1 _ K.out
        have TT := VT.out.tr _ K.out
        have FR := Fresh.refl wk2
        have z1 : wrap64 (Z + (A : Int)) = (s : Int) := by rw [ZA.out]; unfold wrap64; omega
        have z2 : IntKind.i64.wrap (Z + (A : Int)) = (s : Int) := by rw [ZA.out, IntKind.wrap_i64]; omega
        have d1 : decide ((C : Int) ≤ (A : Int)) = true := decide_eq_true (by omega)
        have d2 : decide (C ≤ A) = true := decide_eq_true (by omega)
        have d3 : decide ((C : Int) ≤ (I : Int)) = true := decide_eq_true (by omega)
        have d4 : decide (C ≤ I) = true := decide_eq_true (by omega)
        go_wp2_with fail
        go_region_held3 (fun w' => w'.cell? ⟨T, 0, none⟩ = some (.int .i64 (s : Int)) ∧ w'.cell? ⟨T, 1, none⟩ = some (.slice (some ⟨b, o, none⟩) L cp) ∧ w'.cell? ⟨T, 0, none⟩ = some (.int .i64 (s : Int)) ∧ TreeAt w' (.agg #[.int .i64 (s : Int), .slice (some ⟨b, o, none⟩) L cp]) s ws ∧ Fresh wk2 w') (first | (exact heldT_drew (by assumption) (by assumption) (by assumption) (by assumption) (by assumption)) | (exact heldT_fresh (by assumption) (by assumption)) | go_keep) ((go_at_call 14; refine (zeros_to _ s ws Z ZZ.out _ (heldT_tree (by assumption))).mono ?_; rintro e w9 ⟨rfl, k9⟩))
        all_goals
          have hS : Fresh wk2 w9 := heldT_last (by assumption)
          have K9 := hide (F5.out.trans (K.out.trans hS))
          clear hS
          go_wp2
          go_ret
          exact ⟨rfl, K9.out⟩
      · have HI := hide (show bitV ws I = false by
          cases hb : bitV ws I with
          | false => rfl
          | true =>
            have e1 := nth_at hI2 hb
            rw [HC.out, N1.out] at e1
            exact absurd (Option.some.inj e1) hXI)
        have dd2 : decide (X = I) = false := decide_eq_false hXI
        have dd3 : ((X : Int) == (I : Int)) = false := by rw [beq_eq_false_iff_ne]; omega
        go_wp2_with fail
        refine (rhas_bit _ ws I false HI.out _ (RWD.out _ K.out) (by omega)).mono ?_
        rintro e wa ⟨rfl, k4⟩
        have K4 := hide (K.out.trans k4)
        clear c0 c1 r0 k4 K
        have K := K4
        clear K4 dd1
        have c0 := VT.out.c0 _ K.out
        have c1 := VT.out.c1 _ K.out
        go_wp2_with fail
        refine (below_to _ s ws (s : Int) (A : Int) BA.out _ (VT.out.tr _ K.out) (by omega) (by omega)).mono ?_
        rintro e wk ⟨rfl, k4⟩
        have K4 := hide (K.out.trans k4)
        clear c0 c1 k4 K
        have K := K4
        clear K4
        have c0 := VT.out.c0 _ K.out
        have c1 := VT.out.c1 _ K.out
        go_wp2_with fail
        refine (nth_no _ s ws (A : Int) NA.out _ (VT.out.tr _ K.out) (by omega)).mono ?_
        rintro e wk2 ⟨rfl, k4⟩
        have K4 := hide (K.out.trans k4)
        clear c0 c1 k4 K
        have K := K4
        clear K4
        have c0 := VT.out.c0 _ K.out
        have c1 := VT.out.c1 _ K.out
        have TT := VT.out.tr _ K.out
        have FR := Fresh.refl wk2
        have z1 : wrap64 (Z + (A : Int)) = (s : Int) := by rw [ZA.out]; unfold wrap64; omega
        have z2 : IntKind.i64.wrap (Z + (A : Int)) = (s : Int) := by rw [ZA.out, IntKind.wrap_i64]; omega
        have d1 : decide ((C : Int) ≤ (A : Int)) = true := decide_eq_true (by omega)
        have d2 : decide (C ≤ A) = true := decide_eq_true (by omega)
        have d3 : decide ((C : Int) ≤ (I : Int)) = true := decide_eq_true (by omega)
        have d4 : decide (C ≤ I) = true := decide_eq_true (by omega)
        go_wp2_with fail
        go_region_held3 (fun w' => w'.cell? ⟨T, 0, none⟩ = some (.int .i64 (s : Int)) ∧ w'.cell? ⟨T, 1, none⟩ = some (.slice (some ⟨b, o, none⟩) L cp) ∧ w'.cell? ⟨T, 0, none⟩ = some (.int .i64 (s : Int)) ∧ TreeAt w' (.agg #[.int .i64 (s : Int), .slice (some ⟨b, o, none⟩) L cp]) s ws ∧ Fresh wk2 w') (first | (exact heldT_drew (by assumption) (by assumption) (by assumption) (by assumption) (by assumption)) | (exact heldT_fresh (by assumption) (by assumption)) | go_keep) ((go_at_call 14; refine (zeros_to _ s ws Z ZZ.out _ (heldT_tree (by assumption))).mono ?_; rintro e w9 ⟨rfl, k9⟩))
        all_goals
          have hS : Fresh wk2 w9 := heldT_last (by assumption)
          have K9 := hide (F5.out.trans (K.out.trans hS))
          clear hS
          go_wp2
          go_ret
          exact ⟨rfl, K9.out⟩
    · have N1 := hide h1
      have HI := hide (show bitV ws I = false by
        cases hb : bitV ws I with
        | false => rfl
        | true =>
          have e1 := nth_at hI2 hb
          rw [HC.out, h1] at e1
          cases e1)
      clear h1 h2
      go_wp2_with fail
      refine (nth_no _ s ws (C : Int) N1.out _ (VT.out.tr _ K.out) (by omega)).mono ?_
      rintro e w7 ⟨rfl, k4⟩
      have K4 := hide (K.out.trans k4)
      clear c0 c1 k4 K
      have K := K4
      clear K4
      have c0 := VT.out.c0 _ K.out
      have c1 := VT.out.c1 _ K.out
      have r0 := RC.out _ K.out
      go_wp2_with fail
      refine (rhas_bit _ ws I false HI.out _ (RWD.out _ K.out) (by omega)).mono ?_
      rintro e wa ⟨rfl, k4⟩
      have K4 := hide (K.out.trans k4)
      clear c0 c1 r0 k4 K
      have K := K4
      clear K4
      have c0 := VT.out.c0 _ K.out
      have c1 := VT.out.c1 _ K.out
      go_wp2_with fail
      refine (below_to _ s ws (s : Int) (A : Int) BA.out _ (VT.out.tr _ K.out) (by omega) (by omega)).mono ?_
      rintro e wk ⟨rfl, k4⟩
      have K4 := hide (K.out.trans k4)
      clear c0 c1 k4 K
      have K := K4
      clear K4
      have c0 := VT.out.c0 _ K.out
      have c1 := VT.out.c1 _ K.out
      go_wp2_with fail
      refine (nth_no _ s ws (A : Int) NA.out _ (VT.out.tr _ K.out) (by omega)).mono ?_
      rintro e wk2 ⟨rfl, k4⟩
      have K4 := hide (K.out.trans k4)
      clear c0 c1 k4 K
      have K := K4
      clear K4
      have c0 := VT.out.c0 _ K.out
      have c1 := VT.out.c1 _ K.out
      have TT := VT.out.tr _ K.out
      have FR := Fresh.refl wk2
      have z1 : wrap64 (Z + (A : Int)) = (s : Int) := by rw [ZA.out]; unfold wrap64; omega
      have z2 : IntKind.i64.wrap (Z + (A : Int)) = (s : Int) := by rw [ZA.out, IntKind.wrap_i64]; omega
      have d1 : decide ((C : Int) ≤ (A : Int)) = true := decide_eq_true (by omega)
      have d2 : decide (C ≤ A) = true := decide_eq_true (by omega)
      have d3 : decide ((C : Int) ≤ (I : Int)) = true := decide_eq_true (by omega)
      have d4 : decide (C ≤ I) = true := decide_eq_true (by omega)
      go_wp2_with fail
      go_region_held3 (fun w' => w'.cell? ⟨T, 0, none⟩ = some (.int .i64 (s : Int)) ∧ w'.cell? ⟨T, 1, none⟩ = some (.slice (some ⟨b, o, none⟩) L cp) ∧ w'.cell? ⟨T, 0, none⟩ = some (.int .i64 (s : Int)) ∧ TreeAt w' (.agg #[.int .i64 (s : Int), .slice (some ⟨b, o, none⟩) L cp]) s ws ∧ Fresh wk2 w') (first | (exact heldT_drew (by assumption) (by assumption) (by assumption) (by assumption) (by assumption)) | (exact heldT_fresh (by assumption) (by assumption)) | go_keep) ((go_at_call 14; refine (zeros_to _ s ws Z ZZ.out _ (heldT_tree (by assumption))).mono ?_; rintro e w9 ⟨rfl, k9⟩))
      all_goals
        have hS : Fresh wk2 w9 := heldT_last (by assumption)
        have K9 := hide (F5.out.trans (K.out.trans hS))
        clear hS
        go_wp2
        go_ret
        exact ⟨rfl, K9.out⟩
  · have l0 : (20 : Int) < (len : Int) := by omega
    go_enter Try.func4, Try.ntmps4
    go_wp2_with fail
    refine (begun6_true _).mono ?_
    rintro e w1 ⟨rfl, k1⟩
    have K1 := hide k1
    clear k1
    go_wp2
    go_ret
    exact ⟨rfl, K1.out⟩
end Go.Proofs.Ytlbkicohmbdlhaa
