/- What the document's own answers to conf are (hodmanref1's Of, Ceil, Size, Shift), as contracts: the same plain functions as the program's package conf has. Each makes new memory alone. -/
import Derived.Test.YtoopeihnmlfneaaDoorConfMath
import Derived.Handy
import Derived.Test.YtoopeihnmlfneaaDoorRef1Calc
import Derived.Test.YtoopeihnmlfneaaDoorHas
namespace Go.Proofs.YtoopeihnmlfneaaDoor
open Go.RowKit

theorem rup_to (v s : Int) (c : Bool) (hs : upV v = s) (hc : upB v = c) (w : World) (ha : -9223372036854775808 ≤ v) (ha' : v ≤ 9223372036854775807) :
    Calls Tryd.prog 21 #[.int .i64 v] w fun e w' => e = .returned (.tuple #[.int .i64 s, .bool c]) ∧ w' = w := by
  subst hs; subst hc; exact rup_any v w ha ha'
theorem rlog_to (v s : Int) (c : Bool) (hs : logV v = s) (hc : logB v = c) (w : World) (ha' : v ≤ 9223372036854775807) :
    Calls Tryd.prog 23 #[.int .i64 v] w fun e w' => e = .returned (.tuple #[.int .i64 s, .bool c]) ∧ w' = w := by
  subst hs; subst hc; exact rlog_any v w ha'
theorem rround_to (v to s : Int) (c : Bool) (hs : roundV v to = s) (hc : roundB v to = c) (w : World) (ha' : v ≤ 9223372036854775807) (hb' : to ≤ 9223372036854775807) :
    Calls Tryd.prog 22 #[.int .i64 v, .int .i64 to] w fun e w' => e = .returned (.tuple #[.int .i64 s, .bool c]) ∧ w' = w := by
  subst hs; subst hc; exact rround_any v to w ha' hb'

set_option maxRecDepth 100000 in
set_option maxHeartbeats 2000000 in
theorem rof_any (r : Rw) (w : World) :
    Calls Tryd.prog 15 #[r.val] w fun e w' => e = .returned (.tuple #[(ofC r).val, .int .i64 (ofE r)]) ∧ Kept w w' := by
  have NB := hide (show bdd r = false → ofC r = ⟨0, 0, 0, 0, 0, 0, 0, 0⟩ ∧ ofE r = 1 from fun hb => by
    have h1 : fits r = false := by simp [fits, hb]
    exact ⟨by unfold ofC; rw [h1]; rfl, by unfold ofE; rw [h1]; rfl⟩)
  have BI := hide (bdd_iff r)
  have YB := hide (show bdd r = true → ∃ G N M P L : Int, (wkG r = G ∧ wkN r = N ∧ wkM r = M ∧ wkP r = P ∧ wkL r = L) ∧ (upV r.g = G ∧ upV (max r.la G) = N ∧ upV (max r.pg G) = P ∧ roundV r.li (2 * max N P) = M ∧ logV (N / G) = L) ∧ (1 ≤ G ∧ G ≤ 65536 ∧ 1 ≤ N ∧ N ≤ 65536 ∧ 1 ≤ P ∧ P ≤ 65536 ∧ 0 ≤ L ∧ L ≤ 16 ∧ 0 ≤ M ∧ M ≤ 200000) ∧ wrap64 (N.tdiv G) = N / G ∧ 0 ≤ N / G ∧ N / G ≤ N from fun hb => by
    obtain ⟨g1, g2, n1, n2, p1, p2, l1, l2, m1, m2, gn, gp⟩ := wk_nums hb
    have b5 := ((bdd_iff r).1 hb).2.2.1.1
    refine ⟨_, _, _, _, _, ⟨rfl, rfl, rfl, rfl, rfl⟩, ⟨rfl, rfl, rfl, by rw [Int.mul_comm]; rfl, rfl⟩, ⟨g1, g2, n1, n2, p1, p2, l1, l2, by omega, m2⟩, tdiv_pos g1 (by omega) n2, Int.ediv_nonneg (by omega) (by omega), Int.ediv_le_self _ (by omega)⟩)
  have EC := hide (show wk r = ⟨wkG r, wkN r, wkM r, wkL r, wkP r, r.bu, ceilV (wkM r) (wkL r), r.se⟩ from rfl)
  have FI := hide (show ∀ H : Int, bdd r = true → (wk r).h = H → (H ≤ 65536 → ofC r = wk r ∧ ofE r = 0) ∧ (65536 < H → ofC r = ⟨0, 0, 0, 0, 0, 0, 0, 0⟩ ∧ ofE r = 1) from fun H hb hH => by
    subst hH
    refine ⟨fun h => ?_, fun h => ?_⟩
    · have h1 : fits r = true := by simp [fits, hb, h]
      exact ⟨by unfold ofC; rw [h1]; rfl, by unfold ofE; rw [h1]; rfl⟩
    · have h1 : fits r = false := by simp [fits]; intro _; omega
      exact ⟨by unfold ofC; rw [h1]; rfl, by unfold ofE; rw [h1]; rfl⟩)
  generalize ofC r = C at *
  generalize ofE r = E at *
  obtain ⟨g, la, li, pg, bu, se⟩ := r
  show Calls Tryd.prog 15 #[.agg #[.int .i64 g, .int .i64 la, .int .i64 li, .int .i64 pg, .int .i64 bu, .int .i64 se]] w _
  have KK : Hid (∀ a b c, Kept w (((w.alloc (.cells a 28)).alloc (.cells b 26)).alloc (.cells c 3))) := fun a b c => (((Kept.refl w).alloc _ _).alloc _ _).alloc _ _
  have bad := hide (show ¬ ((1 ≤ g ∧ g ≤ 65536) ∧ (1 ≤ la ∧ la ≤ 65536) ∧ (1 ≤ li ∧ li ≤ 65536) ∧ (1 ≤ pg ∧ pg ≤ 65536) ∧ (0 ≤ bu ∧ bu ≤ 65536) ∧ 0 ≤ se ∧ se ≤ 255) → C = ⟨0, 0, 0, 0, 0, 0, 0, 0⟩ ∧ E = 1 from fun h => NB.out (by rw [← Bool.not_eq_true]; exact fun hb => h (BI.out.1 hb)))
  go_enter Tryd.func15, Tryd.ntmps15
  go_wp2
  go_loop [5] (fun i => ∃ k : Nat, k ≤ 4 ∧ i = .int .i64 k ∧ (1 ≤ k → 1 ≤ g ∧ g ≤ 65536) ∧ (2 ≤ k → 1 ≤ la ∧ la ≤ 65536) ∧ (3 ≤ k → 1 ≤ li ∧ li ≤ 65536) ∧ (4 ≤ k → 1 ≤ pg ∧ pg ≤ 65536)) (fun i => (4 - intOf i).toNat)
  case atStart => exact ⟨0, Nat.zero_le _, rfl, by omega, by omega, by omega, by omega⟩
  case round =>
    obtain ⟨k, hk, rfl, q0, q1, q2, q3⟩ := hrel
    by_cases hlt : k < 4
    · rcases (show k = 0 ∨ k = 1 ∨ k = 2 ∨ k = 3 by omega) with rfl | rfl | rfl | rfl
      · rcases (show g < 1 ∨ 65536 < g ∨ (1 ≤ g ∧ g ≤ 65536) by omega) with h1 | h1 | ⟨h1, h2⟩
        · have Bd := hide (bad.out (by omega))
          clear q0 q1 q2 q3
          go_wp2
          go_returns
          rw [Bd.out.1, Bd.out.2]
          exact ⟨rfl, KK.out _ _ _⟩
        · have Bd := hide (bad.out (by omega))
          have h0 : 1 ≤ g := by omega
          clear q0 q1 q2 q3
          go_wp2
          go_returns
          rw [Bd.out.1, Bd.out.2]
          exact ⟨rfl, KK.out _ _ _⟩
        · have Q0 := hide q0; have Q1 := hide q1; have Q2 := hide q2; have Q3 := hide q3
          clear q0 q1 q2 q3
          go_wp2
          go_round
          case rel => exact ⟨1, by omega, by go_num, fun _ => ⟨h1, h2⟩, by omega, by omega, by omega⟩
          case measure => simp [intOf]
      · rcases (show la < 1 ∨ 65536 < la ∨ (1 ≤ la ∧ la ≤ 65536) by omega) with h1 | h1 | ⟨h1, h2⟩
        · have Bd := hide (bad.out (by omega))
          clear q0 q1 q2 q3
          go_wp2
          go_returns
          rw [Bd.out.1, Bd.out.2]
          exact ⟨rfl, KK.out _ _ _⟩
        · have Bd := hide (bad.out (by omega))
          have h0 : 1 ≤ la := by omega
          clear q0 q1 q2 q3
          go_wp2
          go_returns
          rw [Bd.out.1, Bd.out.2]
          exact ⟨rfl, KK.out _ _ _⟩
        · have Q0 := hide q0; have Q1 := hide q1; have Q2 := hide q2; have Q3 := hide q3
          clear q0 q1 q2 q3
          go_wp2
          go_round
          case rel => exact ⟨2, by omega, by go_num, fun _ => Q0.out (by omega), fun _ => ⟨h1, h2⟩, by omega, by omega⟩
          case measure => simp [intOf]
      · rcases (show li < 1 ∨ 65536 < li ∨ (1 ≤ li ∧ li ≤ 65536) by omega) with h1 | h1 | ⟨h1, h2⟩
        · have Bd := hide (bad.out (by omega))
          clear q0 q1 q2 q3
          go_wp2
          go_returns
          rw [Bd.out.1, Bd.out.2]
          exact ⟨rfl, KK.out _ _ _⟩
        · have Bd := hide (bad.out (by omega))
          have h0 : 1 ≤ li := by omega
          clear q0 q1 q2 q3
          go_wp2
          go_returns
          rw [Bd.out.1, Bd.out.2]
          exact ⟨rfl, KK.out _ _ _⟩
        · have Q0 := hide q0; have Q1 := hide q1; have Q2 := hide q2; have Q3 := hide q3
          clear q0 q1 q2 q3
          go_wp2
          go_round
          case rel => exact ⟨3, by omega, by go_num, fun _ => Q0.out (by omega), fun _ => Q1.out (by omega), fun _ => ⟨h1, h2⟩, by omega⟩
          case measure => simp [intOf]
      · rcases (show pg < 1 ∨ 65536 < pg ∨ (1 ≤ pg ∧ pg ≤ 65536) by omega) with h1 | h1 | ⟨h1, h2⟩
        · have Bd := hide (bad.out (by omega))
          clear q0 q1 q2 q3
          go_wp2
          go_returns
          rw [Bd.out.1, Bd.out.2]
          exact ⟨rfl, KK.out _ _ _⟩
        · have Bd := hide (bad.out (by omega))
          have h0 : 1 ≤ pg := by omega
          clear q0 q1 q2 q3
          go_wp2
          go_returns
          rw [Bd.out.1, Bd.out.2]
          exact ⟨rfl, KK.out _ _ _⟩
        · have Q0 := hide q0; have Q1 := hide q1; have Q2 := hide q2; have Q3 := hide q3
          clear q0 q1 q2 q3
          go_wp2
          go_round
          case rel => exact ⟨4, by omega, by go_num, fun _ => Q0.out (by omega), fun _ => Q1.out (by omega), fun _ => Q2.out (by omega), fun _ => ⟨h1, h2⟩⟩
          case measure => simp [intOf]
    · obtain rfl : k = 4 := by omega
      obtain ⟨a1, a2⟩ := q0 (by omega)
      obtain ⟨a3, a4⟩ := q1 (by omega)
      obtain ⟨a5, a6⟩ := q2 (by omega)
      obtain ⟨a7, a8⟩ := q3 (by omega)
      clear q0 q1 q2 q3
      rcases (show bu < 0 ∨ 65536 < bu ∨ (0 ≤ bu ∧ bu ≤ 65536) by omega) with h1 | h1 | ⟨h1, h2⟩
      · have Bd := hide (bad.out (by omega))
        go_wp2
        go_returns
        rw [Bd.out.1, Bd.out.2]
        exact ⟨rfl, KK.out _ _ _⟩
      · have Bd := hide (bad.out (by omega))
        have h0 : 0 ≤ bu := by omega
        go_wp2
        go_returns
        rw [Bd.out.1, Bd.out.2]
        exact ⟨rfl, KK.out _ _ _⟩
      · rcases (show se < 0 ∨ 255 < se ∨ (0 ≤ se ∧ se ≤ 255) by omega) with h3 | h3 | ⟨h3, h4⟩
        · have Bd := hide (bad.out (by omega))
          go_wp2
          go_returns
          rw [Bd.out.1, Bd.out.2]
          exact ⟨rfl, KK.out _ _ _⟩
        · have Bd := hide (bad.out (by omega))
          have h0 : 0 ≤ se := by omega
          go_wp2
          go_returns
          rw [Bd.out.1, Bd.out.2]
          exact ⟨rfl, KK.out _ _ _⟩
        · have hb : bdd ⟨g, la, li, pg, bu, se⟩ = true := BI.out.2 ⟨⟨a1, a2⟩, ⟨a3, a4⟩, ⟨a5, a6⟩, ⟨a7, a8⟩, ⟨h1, h2⟩, h3, h4⟩
          obtain ⟨G, N, M, P, L, ⟨e1, e2, e3, e4, e5⟩, ⟨f1, f2, f3, f4, f5⟩, ⟨c1, c2, c3, c4, c5, c6, c7, c8, c9, c10⟩, t1, t2, t3⟩ := YB.out hb
          have ec := EC.out
          rw [e1, e2, e3, e4, e5] at ec
          have FH := FI.out (M + L * (M / 2)) hb (by rw [ec]; rfl)
          rw [ec] at FH
          have ci := ceil_in c9 c10 c7 c8
          have CE : Hid (ceilV M L = M + L * (M / 2)) := rfl
          rw [CE.out] at FH
          have FH := hide FH
          clear e1 e2 e3 e4 e5 ec hb NB BI YB EC FI CE
          have KF : Hid (∀ a b c d, Kept w ((((w.alloc (.cells a 28)).alloc (.cells b 26)).alloc (.cells c 3)).alloc (.cells d 26))) := fun a b c d => ((((Kept.refl w).alloc _ _).alloc _ _).alloc _ _).alloc _ _
          by_cases hH : M + L * (M / 2) ≤ 65536
          · have F := hide (FH.out.1 hH)
            go_wp2_with fail
            refine (rup_to g G _ f1 rfl _ (by omega) (by omega)).mono ?_
            rintro e w' ⟨rfl, rfl⟩
            go_wp2_with fail
            refine (rup_to (max la G) N _ f2 rfl _ (by omega) (by omega)).mono ?_
            rintro e w' ⟨rfl, rfl⟩
            go_wp2_with fail
            refine (rup_to (max pg G) P _ f3 rfl _ (by omega) (by omega)).mono ?_
            rintro e w' ⟨rfl, rfl⟩
            go_wp2_with fail
            refine (rround_to li (2 * max N P) M _ f4 rfl _ (by omega) (by omega)).mono ?_
            rintro e w' ⟨rfl, rfl⟩
            go_wp2_with fail
            refine (rlog_to (N / G) L _ f5 rfl _ (by omega)).mono ?_
            rintro e w' ⟨rfl, rfl⟩
            go_wp2
            go_returns
            rw [F.out.1, F.out.2]
            exact ⟨rfl, KF.out _ _ _ _⟩
          · have F := hide (FH.out.2 (by omega))
            have hH' : 65536 < M + L * (M / 2) := by omega
            clear hH
            go_wp2_with fail
            refine (rup_to g G _ f1 rfl _ (by omega) (by omega)).mono ?_
            rintro e w' ⟨rfl, rfl⟩
            go_wp2_with fail
            refine (rup_to (max la G) N _ f2 rfl _ (by omega) (by omega)).mono ?_
            rintro e w' ⟨rfl, rfl⟩
            go_wp2_with fail
            refine (rup_to (max pg G) P _ f3 rfl _ (by omega) (by omega)).mono ?_
            rintro e w' ⟨rfl, rfl⟩
            go_wp2_with fail
            refine (rround_to li (2 * max N P) M _ f4 rfl _ (by omega) (by omega)).mono ?_
            rintro e w' ⟨rfl, rfl⟩
            go_wp2_with fail
            refine (rlog_to (N / G) L _ f5 rfl _ (by omega)).mono ?_
            rintro e w' ⟨rfl, rfl⟩
            go_wp2
            go_returns
            rw [F.out.1, F.out.2]
            exact ⟨rfl, KF.out _ _ _ _⟩
end Go.Proofs.YtoopeihnmlfneaaDoor
