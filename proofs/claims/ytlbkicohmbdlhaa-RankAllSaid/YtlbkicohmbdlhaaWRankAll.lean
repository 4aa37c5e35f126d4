/- The walk of hodmanlaw6.RankAll: how many are set, and which. -/
import Derived.Test.YtlbkicohmbdlhaaRankLaw
import Derived.Deep.RegionHeld3
namespace Go.Proofs.Ytlbkicohmbdlhaa
open Go.ChangeShapes Go.WideShapes Go.ChangeAt Go.RowKit

def lsR (x s : Int) : Nat → Int
  | 0 => x
  | 1 => 0
  | 2 => 64
  | 3 => 100
  | 4 => 4096
  | 5 => -1
  | _ => s
theorem lsR_in (x s : Int) (k : Nat) (h : -9223372036854775808 ≤ x) (h' : x ≤ 9223372036854775807) (hs : 1 ≤ s) (hs' : s ≤ 5000) : -9223372036854775808 ≤ lsR x s k ∧ lsR x s k ≤ 9223372036854775807 := by
  unfold lsR; split <;> omega
theorem lsR_cell (w : World) (x s : Int) (k : Nat) (hk : k < 7) : (w.alloc (.cells #[.int .i64 x, .int .i64 0, .int .i64 64, .int .i64 100, .int .i64 4096, .int .i64 (-1), .int .i64 s] 3)).cell? ⟨w.heap.size, k, none⟩ = some (.int .i64 (lsR x s k)) := by
  match k, hk with
  | 0, _ => simp [lsR]
  | 1, _ => simp [lsR]
  | 2, _ => simp [lsR]
  | 3, _ => simp [lsR]
  | 4, _ => simp [lsR]
  | 5, _ => simp [lsR]
  | 6, _ => simp [lsR]
theorem heldT_at {W w1 : World} {p q r : Addr} {u v x l : Value} {n : Nat} {ws : List Nat} (s : w1.cell? p = some u ∧ w1.cell? q = some v ∧ w1.cell? r = some x ∧ TreeAt w1 l n ws ∧ Fresh W w1) : Fresh W w1 := s.2.2.2.2

set_option maxRecDepth 100000 in
set_option maxHeartbeats 8000000 in
theorem rankAll_walk0 (a : Option Addr) (len cap : Nat) (zs : List Int) (n : Int) (hn : 0 ≤ n) (hn' : n ≤ 65535) (x : Int) (hx : -9223372036854775808 ≤ x) (hx' : x ≤ 9223372036854775807) (w : World) (hrow : IsRow .u8 w a len cap zs) :
    Calls Try.prog 3 #[.slice a len cap, .int .u16 n, .int .i64 x] w fun e w' => e = .returned (.bool true) ∧ Fresh w w' := by
  by_cases h20 : len ≤ 20
  · have l0 : (len : Int) ≤ 20 := by omega
    have RW := hide hrow
    obtain ⟨s, hs⟩ : ∃ s : Nat, 1 + n % 5000 = (s : Int) := ⟨(1 + n % 5000).toNat, by omega⟩
    have s1 : 1 ≤ s := by omega
    have s2 : s ≤ 5000 := by omega
    clear hrow h20
    go_enter Try.func3, Try.ntmps3
    go_wp2_with fail
    refine (begun6_true _).mono ?_
    rintro e w1 ⟨rfl, k1⟩
    have K1 := hide k1
    clear k1
    go_wp2_with fail
    refine (made_any a len cap _).mono ?_
    rintro e w2 ⟨rfl, rfl⟩
    have PK := hide (picks_fresh RW.out K1.out 45)
    have F3 := hide (K1.out.trans (fresh_box w1 #[.slice a len cap, .int .i64 0] 45))
    have B1 := hide K1.out.size
    clear K1
    go_wp2_with fail
    refine (ptree_any _ _ s _ PK.out s1 (by omega)).mono ?_
    rintro e w4 ⟨v4, ws, rfl, t4, e4⟩
    have F4 := hide (Elb.below F3.out B1.out e4)
    obtain ⟨b, o, cp, rfl, _⟩ := t4.shape
    obtain ⟨L, hL⟩ : ∃ L, nLev s = L := ⟨_, rfl⟩
    rw [hL] at t4 ⊢
    have VT := hide (var_new hL t4)
    clear hL t4 e4 F3 PK
    obtain ⟨w5, hw5⟩ : ∃ w5, w5 = w4.alloc (.cells #[.int .i64 (s : Int), .slice (some ⟨b, o, none⟩) L cp] 27) := ⟨_, rfl⟩
    have F5 := hide (show Fresh w w5 by subst hw5; exact fresh_more F4.out _ _)
    rw [← hw5] at VT
    have HW5 := hide hw5
    have SZ5 := hide (show w5.heap.size = w4.heap.size + 1 by subst hw5; simp)
    clear hw5 F4 hs
    have q1 : (1 : Int) ≤ (s : Int) := by omega
    have q2 : (s : Int) ≤ 5000 := by omega
    go_wp2
    rw [← HW5.out]
    generalize hW : World.alloc w5 _ = W
    have CA : Hid (∀ k, k < 7 → W.cell? ⟨w5.heap.size, k, none⟩ = some (.int .i64 (lsR x (s : Int) k))) := by subst hW; exact lsR_cell w5 x (s : Int)
    have kW : Fresh w5 W := by subst hW; exact fresh_box w5 _ _
    have VW := hide (VT.out.mono kW)
    have FW := hide (F5.out.trans kW)
    clear hW kW VT F5 HW5
    rw [SZ5.out] at CA
    generalize w4.heap.size = T at *
    go_loopw [9] (fun i wr => ∃ k : Nat, k ≤ 7 ∧ i = .int .i64 (k : Int) ∧ Fresh W wr) (fun i _ => (7 - intOf i).toNat)
    case atStart => exact ⟨0, by omega, rfl, Fresh.refl _⟩
    case round =>
      obtain ⟨k, hk, rfl, hF⟩ := hrel
      have KF := hide hF
      clear hF
      by_cases hk7 : k < 7
      · obtain ⟨A1, A2⟩ := lsR_in x (s : Int) k hx hx' q1 q2
        have HB0 := hide (show wr.cell? ⟨T, 0, none⟩ = some (.int .i64 (s : Int)) ∧ wr.cell? ⟨T, 1, none⟩ = some (.slice (some ⟨b, o, none⟩) L cp) ∧ wr.cell? ⟨T + 1, k, none⟩ = some (.int .i64 (lsR x (s : Int) k)) ∧ TreeAt wr (.agg #[.int .i64 (s : Int), .slice (some ⟨b, o, none⟩) L cp]) s ws ∧ Fresh W wr from
          ⟨VW.out.c0 _ KF.out, VW.out.c1 _ KF.out, (KF.out.cell (World.block_lt_of_cell? _ _ (CA.out k hk7))).trans (CA.out k hk7), VW.out.tr _ KF.out, KF.out⟩)
        generalize lsR x (s : Int) k = A at *
        have k0 : (0 : Int) ≤ (k : Int) := by omega
        have k7 : (k : Int) < 7 := by omega
        obtain ⟨X, hX⟩ : ∃ X : Int, (((nthT s ws A).getD 0 : Nat) : Int) = X := ⟨_, rfl⟩
        obtain ⟨P, hP⟩ : ∃ P : Bool, (nthT s ws A).isSome = P := ⟨_, rfl⟩
        obtain ⟨B, hB⟩ : ∃ B : Int, ((belowV s ws A : Nat) : Int) = B := ⟨_, rfl⟩
        have HX := hide hX
        have HP := hide hP
        have BE := hide hB
        clear hX hP hB CA VW KF
        go_wp2_with fail
        go_region_held3 (fun w' => w'.cell? ⟨T, 0, none⟩ = some (.int .i64 (s : Int)) ∧ w'.cell? ⟨T, 1, none⟩ = some (.slice (some ⟨b, o, none⟩) L cp) ∧ w'.cell? ⟨T + 1, k, none⟩ = some (.int .i64 A) ∧ TreeAt w' (.agg #[.int .i64 (s : Int), .slice (some ⟨b, o, none⟩) L cp]) s ws ∧ Fresh W w') (first | (exact heldT_fresh (Fresh.drewN _ 1) HB0.out) | (exact heldT_fresh (by assumption) (by assumption)) | go_keep) ((go_at_call 10; refine (nth_to _ s ws A X P HX.out HP.out _ (heldT_tree (by assumption)) A2).mono ?_; rintro e w6 ⟨rfl, k6⟩))
        have HB1 := hide (heldT_fresh ((Fresh.drewN _ 1).trans k6) HB0.out)
        clear k6 HB0
        go_wp2_with fail
        go_region_held3 (fun w' => w'.cell? ⟨T, 0, none⟩ = some (.int .i64 (s : Int)) ∧ w'.cell? ⟨T, 1, none⟩ = some (.slice (some ⟨b, o, none⟩) L cp) ∧ w'.cell? ⟨T + 1, k, none⟩ = some (.int .i64 A) ∧ TreeAt w' (.agg #[.int .i64 (s : Int), .slice (some ⟨b, o, none⟩) L cp]) s ws ∧ Fresh W w') (first | (exact heldT_fresh (Fresh.drewN _ 1) HB1.out) | (exact heldT_fresh (by assumption) (by assumption)) | go_keep) ((go_at_call 11; refine (rnth_to _ s ws A X P HX.out HP.out _ (heldT_tree (by assumption)) A1 A2).mono ?_; rintro e w7 ⟨rfl, k7'⟩))
        have HB2 := hide (heldT_fresh ((Fresh.drewN _ 1).trans k7') HB1.out)
        clear k7' HB1
        go_wp2_with fail
        go_region_held3 (fun w' => w'.cell? ⟨T, 0, none⟩ = some (.int .i64 (s : Int)) ∧ w'.cell? ⟨T, 1, none⟩ = some (.slice (some ⟨b, o, none⟩) L cp) ∧ w'.cell? ⟨T + 1, k, none⟩ = some (.int .i64 A) ∧ TreeAt w' (.agg #[.int .i64 (s : Int), .slice (some ⟨b, o, none⟩) L cp]) s ws ∧ Fresh W w') (first | (exact heldT_fresh (Fresh.drewN _ 1) HB2.out) | (exact heldT_fresh (by assumption) (by assumption)) | go_keep) (first | (go_at_call 12; refine (below_to _ s ws A B BE.out _ (heldT_tree (by assumption)) A1 A2).mono ?_; rintro e w8 ⟨rfl, k8⟩) | (go_at_call 13; refine (rbelow_to _ s ws A B BE.out _ (heldT_tree (by assumption))).mono ?_; rintro e w9 ⟨rfl, k9⟩))
        have FE := hide (heldT_at (by assumption))
        go_wp2
        go_roundw
        case rel => first | exact ⟨k + 1, by omega, by go_num, FE.out⟩ | ((repeat apply Exists.intro); refine ⟨?_, rfl⟩; exact ⟨k + 1, by omega, by go_num, FE.out⟩)
        case measure => simp [intOf]; omega
      · obtain rfl : k = 7 := by omega
        have c0 := VW.out.c0 _ KF.out
        have c1 := VW.out.c1 _ KF.out
        have TT := VW.out.tr _ KF.out
        have FR := Fresh.refl wr
        obtain ⟨B, hB⟩ : ∃ B : Nat, cnt (bitV ws) 0 s = B := ⟨_, rfl⟩
        obtain ⟨Z, hZ⟩ : ∃ Z : Int, ((s - cnt (bitV ws) 0 s : Nat) : Int) = Z := ⟨_, rfl⟩
        have B1 : B ≤ s := by have := cnt_le (bitV ws) 0 s; omega
        have BE := hide (show ((belowV s ws (s : Int) : Nat) : Int) = (B : Int) by rw [below_nat s ws s (by omega), hB])
        have ZZ := hide hZ
        have z1 : IntKind.i64.wrap ((s : Int) - (B : Int)) = Z := by rw [IntKind.wrap_i64]; omega
        clear hB hZ CA VW
        go_wp2_with fail
        go_region_held3 (fun w' => w'.cell? ⟨T, 0, none⟩ = some (.int .i64 (s : Int)) ∧ w'.cell? ⟨T, 1, none⟩ = some (.slice (some ⟨b, o, none⟩) L cp) ∧ w'.cell? ⟨T, 0, none⟩ = some (.int .i64 (s : Int)) ∧ TreeAt w' (.agg #[.int .i64 (s : Int), .slice (some ⟨b, o, none⟩) L cp]) s ws ∧ Fresh wr w') (first | (exact heldT_drew (by assumption) (by assumption) (by assumption) (by assumption) (by assumption)) | (exact heldT_fresh (by assumption) (by assumption)) | go_keep) (first | (go_at_call 14; refine (zeros_to _ s ws Z ZZ.out _ (heldT_tree (by assumption))).mono ?_; rintro e w6 ⟨rfl, k6⟩) | (go_at_call 13; refine (rbelow_to _ s ws (s : Int) (B : Int) BE.out _ (heldT_tree (by assumption))).mono ?_; rintro e w7 ⟨rfl, k7⟩))
        all_goals
          have hS := hide (heldT_at (by assumption))
          have K9 := hide (FW.out.trans (KF.out.trans hS.out))
          clear hS
          go_wp2
          go_ret
          exact ⟨rfl, K9.out⟩
  · have l0 : (20 : Int) < (len : Int) := by omega
    go_enter Try.func3, Try.ntmps3
    go_wp2_with fail
    refine (begun6_true _).mono ?_
    rintro e w1 ⟨rfl, k1⟩
    have K1 := hide k1
    clear k1
    go_wp2
    go_ret
    exact ⟨rfl, K1.out⟩
end Go.Proofs.Ytlbkicohmbdlhaa
