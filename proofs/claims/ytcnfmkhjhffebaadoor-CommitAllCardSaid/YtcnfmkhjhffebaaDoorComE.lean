/- What the program's package commit answers (Trim), as a contract. -/
import Derived.Test.YtcnfmkhjhffebaaDoorComD
namespace Go.Proofs.YtcnfmkhjhffebaaDoor
open Go.RowKit

set_option maxRecDepth 100000 in
set_option maxHeartbeats 2000000 in
theorem trim_any (v1 v2 : Value) (on met : List Bool) (w : World) (h1 : BoolsIn w v1 on) (h2 : BoolsIn w v2 met) (hl : on.length ≤ 65536) :
    Calls Tryd.prog 14 #[v1, v2] w fun e w' => ∃ g, e = .returned (.tuple #[.slice (some ⟨g, 0, none⟩) on.length on.length, .int .i64 ((cntL on - cntL (trL on met) : Nat) : Int)]) ∧ OwnB w' w.heap.size (.slice (some ⟨g, 0, none⟩) on.length on.length) (trL on met) ∧ Fresh w w' := by
  have H1 := hide h1
  have H2 := hide h2
  obtain ⟨a1, c1, rfl, -, -⟩ := h1.shape
  have LE := hide (trL_le on met)
  have CL := hide (cntL_le on)
  obtain ⟨X, hX⟩ : ∃ X : Nat → Bool, (fun i => on.getD i false && met.getD i false) = X := ⟨_, rfl⟩
  have XB := hide (fun i => show X i = (on.getD i false && met.getD i false) by rw [← hX])
  have XR := hide (show trL on met = rowB on.length X by rw [← hX]; rfl)
  have XL := hide (trL_length on met)
  clear hX h1 h2
  generalize trL on met = tr at *
  generalize hN : on.length = N at *
  have HN := hide hN
  obtain ⟨D, hD⟩ : ∃ D : Int, ((cntL on - cntL tr : Nat) : Int) = D := ⟨_, rfl⟩
  have HD := hide (show (cntL on : Int) - (cntL tr : Int) = D by have := LE.out; omega)
  rw [hD]
  clear hD
  have n0 : (0 : Int) ≤ (N : Int) := by omega
  have n1 : (N : Int) ≤ 65536 := by omega
  have hmk := fun w => bools_run N hl w
  have NL := hide hl
  clear hl hN
  go_enter Tryd.func14, Tryd.ntmps14
  go_wp2
  obtain ⟨w3, hw3⟩ : ∃ w3, w3 = w.alloc (.cells (madeCells #[.bool false] N) 4) := ⟨_, rfl⟩
  obtain ⟨G, hG⟩ : ∃ G, G = w.heap.size := ⟨_, rfl⟩
  have O3 := hide (show OwnB w3 w.heap.size (.slice (some ⟨G, 0, none⟩) N N) (List.replicate N false) by rw [hw3, hG]; exact bools_made N NL.out w)
  have K3 := hide (show Fresh w w3 from hw3 ▸ fresh_box _ _ _)
  have GB := hide (show w.heap.size ≤ G by omega)
  rw [← hw3, ← hG]
  clear hw3 hmk hG
  go_loopw [6] (fun av wr => ∃ A : Nat, A ≤ N + 63 ∧ av = .int .i64 (A : Int) ∧ OwnB wr w.heap.size (.slice (some ⟨G, 0, none⟩) N N) (rowB N fun i => decide (i < A) && X i) ∧ Fresh w wr) (fun av _ => ((N : Int) + 63 - intOf av).toNat)
  case atStart => exact ⟨0, by omega, rfl, by rw [show (rowB N fun i => decide (i < 0) && X i) = List.replicate N false from rowB_none N]; exact O3.out, K3.out⟩
  case round =>
    obtain ⟨A, hA, rfl, hx, hk⟩ := hrel
    have XO := hide hx
    have K := hide hk
    have a0 : (0 : Int) ≤ (A : Int) := by omega
    have a1 : (A : Int) ≤ 65600 := by omega
    clear hx hk
    by_cases g : A < N
    · have g' : (A : Int) < (N : Int) := by omega
      have WO := hide (word_any _ on A wr (H1.out.fresh K.out).at (by have := HN.out; have := NL.out; omega) (by omega))
      have WM := hide (word_any _ met A wr (H2.out.fresh K.out).at H2.out.1 (by omega))
      have E2 := wordB_and (fun j => on.getD (A + j) false) (fun j => met.getD (A + j) false) 64
      have L1 := wordB_64 (fun j => on.getD (A + j) false)
      have L3 := wordB_64 (fun j => met.getD (A + j) false)
      have SPR := hide (spr_on N X (fun j => X (A + j)) A (fun _ _ => rfl))
      have EQ := hide (show wordB (fun j => X (A + j)) 64 = wordB (fun j => (on.getD (A + j) false && met.getD (A + j) false)) 64 from wordB_congr fun j _ => XB.out _)
      generalize wordB (fun j => on.getD (A + j) false) 64 = TH at WO E2 L1
      generalize wordB (fun j => met.getD (A + j) false) 64 = ME at WM E2 L3
      generalize wordB (fun j => on.getD (A + j) false && met.getD (A + j) false) 64 = TM at E2 EQ
      have AD2 : bits .and .u64 (TH : Int) (ME : Int) = (TM : Int) := by rw [and_spelt _ _ L1 L3, E2]
      clear E2 L1 L3
      have SP := hide (spread_any G N N w.heap.size A TM (fun i => decide (i < A) && X i) (fun j => X (A + j)) wr XO.out EQ.out (by have := NL.out; omega) (by omega))
      rw [SPR.out] at SP
      go_wp2_with fail
      refine WO.out.mono ?_
      rintro e w4 ⟨rfl, rfl⟩
      go_wp2_with fail
      refine WM.out.mono ?_
      rintro e w5 ⟨rfl, rfl⟩
      go_wp2_with fail
      refine SP.out.mono ?_
      rintro e w7 ⟨rfl, o7, g7⟩
      have O7 := hide o7
      have K7 := hide (show Fresh w w7 from K.out.grown g7 K.out.size fun i hi => by cases hi; exact GB.out)
      clear o7 g7
      go_wp2
      go_roundw
      case rel => exact ⟨A + 64, by omega, by go_num, O7.out, K7.out⟩
      case measure => simp [intOf]; omega
    · have XF := hide (show (rowB N fun i => decide (i < A) && X i) = tr by rw [XR.out]; exact rowB_congr fun i hi => by rw [decide_eq_true (show i < A by omega)]; rfl)
      rw [XF.out] at XO
      have C1 := hide (count_to _ on (cntL on) rfl wr (H1.out.fresh K.out).at (by have := HN.out; have := NL.out; omega))
      have C2 := hide (count_to _ tr (cntL tr) rfl wr XO.out.at (by have := XL.out; have := NL.out; omega))
      have le := LE.out
      have cl := CL.out
      have SUB := hide HD.out
      generalize cntL on = x at C1 SUB le cl
      generalize cntL tr = y at C2 SUB le
      have x0 : (0 : Int) ≤ (y : Int) := by omega
      have x1 : (y : Int) ≤ (x : Int) := by omega
      have x2 : (x : Int) ≤ 65536 := by omega
      clear hA XF le cl
      go_wp2_with fail
      refine C1.out.mono ?_
      rintro e w4 ⟨rfl, rfl⟩
      go_wp2_with fail
      refine C2.out.mono ?_
      rintro e w5 ⟨rfl, rfl⟩
      go_wp2
      go_ret2
      exact ⟨G, by rw [← SUB.out]; rfl, XO.out, K.out⟩
end Go.Proofs.YtcnfmkhjhffebaaDoor
