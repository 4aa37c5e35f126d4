/- What the program's package conf answers (Of, Ceil, Shift), as contracts in plain functions. Each makes new memory alone. -/
import Derived.Test.YtekffikkbiohnaaDoorConfMath
import Derived.Deep.RegionWith
import Derived.Handy
namespace Go.Proofs.YtekffikkbiohnaaDoor
open Go.RowKit

theorem among_any (v lo hi : Int) (w : World) :
    Calls Tryd.prog 24 #[.int .i64 v, .int .i64 lo, .int .i64 hi] w fun e w' => e = .returned (.bool (am v lo hi)) ∧ w' = w := by
  by_cases h1 : lo ≤ v <;> by_cases h2 : v ≤ hi
  · have H := hide (show am v lo hi = true by simp [am, h1, h2])
    go_enter Tryd.func24, Tryd.ntmps24
    go_wp2
    go_ret
    exact ⟨by rw [H.out]; rfl, rfl⟩
  · have H := hide (show am v lo hi = false by simp [am, h2])
    go_enter Tryd.func24, Tryd.ntmps24
    go_wp2
    go_ret
    exact ⟨by rw [H.out]; rfl, rfl⟩
  · have H := hide (show am v lo hi = false by simp [am, h1])
    go_enter Tryd.func24, Tryd.ntmps24
    go_wp2
    go_ret
    exact ⟨by rw [H.out]; rfl, rfl⟩
  · have H := hide (show am v lo hi = false by simp [am, h1])
    go_enter Tryd.func24, Tryd.ntmps24
    go_wp2
    go_ret
    exact ⟨by rw [H.out]; rfl, rfl⟩

theorem height_any (m k : Int) (w : World) (h1 : 0 ≤ m) (h2 : m ≤ 200000) (h3 : 0 ≤ k) (h4 : k ≤ 16) :
    Calls Tryd.prog 25 #[.int .i64 m, .int .i64 k] w fun e w' => e = .returned (.int .i64 (ceilV m k)) ∧ w' = w := by
  have h5 := ceil_in h1 h2 h3 h4
  go_enter Tryd.func25, Tryd.ntmps25
  go_wp2
  go_ret
  exact ⟨rfl, rfl⟩

set_option maxRecDepth 100000 in
theorem bounded_any (r : Rw) (w : World) :
    Calls Tryd.prog 17 #[r.val] w fun e w' => e = .returned (.bool (bdd r)) ∧ w' = w.alloc (r.obj 23) := by
  obtain ⟨g, la, li, pg, bu, se⟩ := r
  have i0 : ∀ w, (Instr.index 51 (.agg #[.int .i64 g, .int .i64 la, .int .i64 li, .int .i64 pg]) (.int .i64 0)).run Tryd.prog w = .ok (.int .i64 g) w := fun _ => by kernel_rfl
  have i1 : ∀ w, (Instr.index 51 (.agg #[.int .i64 g, .int .i64 la, .int .i64 li, .int .i64 pg]) (.int .i64 1)).run Tryd.prog w = .ok (.int .i64 la) w := fun _ => by kernel_rfl
  have i2 : ∀ w, (Instr.index 51 (.agg #[.int .i64 g, .int .i64 la, .int .i64 li, .int .i64 pg]) (.int .i64 2)).run Tryd.prog w = .ok (.int .i64 li) w := fun _ => by kernel_rfl
  have i3 : ∀ w, (Instr.index 51 (.agg #[.int .i64 g, .int .i64 la, .int .i64 li, .int .i64 pg]) (.int .i64 3)).run Tryd.prog w = .ok (.int .i64 pg) w := fun _ => by kernel_rfl
  show Calls Tryd.prog 17 #[.agg #[.int .i64 g, .int .i64 la, .int .i64 li, .int .i64 pg, .int .i64 bu, .int .i64 se]] w _
  have hb : Hid (bdd ⟨g, la, li, pg, bu, se⟩ = (am g 1 65536 && am la 1 65536 && am li 1 65536 && am pg 1 65536 && am bu 0 65536 && am se 0 255)) := rfl
  go_enter Tryd.func17, Tryd.ntmps17
  go_wp2
  go_loop [14] (fun i => ∃ k : Nat, k ≤ 4 ∧ i = .int .i64 k ∧ (1 ≤ k → am g 1 65536 = true) ∧ (2 ≤ k → am la 1 65536 = true) ∧ (3 ≤ k → am li 1 65536 = true) ∧ (4 ≤ k → am pg 1 65536 = true)) (fun i => (4 - intOf i).toNat)
  case atStart => exact ⟨0, Nat.zero_le _, rfl, by omega, by omega, by omega, by omega⟩
  case round =>
    obtain ⟨k, hk, rfl, q0, q1, q2, q3⟩ := hrel
    by_cases hlt : k < 4
    · rcases (show k = 0 ∨ k = 1 ∨ k = 2 ∨ k = 3 by omega) with rfl | rfl | rfl | rfl
      · by_cases hv : am g 1 65536 = true
        · go_wp2_with fail
          refine (among_any g 1 65536 _).mono ?_
          rintro e w' ⟨rfl, rfl⟩
          go_wp2
          go_round
          case rel => exact ⟨1, by omega, by go_num, fun _ => hv, by omega, by omega, by omega⟩
          case measure => simp [intOf]
        · have hv' : am g 1 65536 = false := by simpa using hv
          clear hv
          have B := hide (show bdd ⟨g, la, li, pg, bu, se⟩ = false by rw [hb.out, hv']; simp)
          go_wp2_with fail
          refine (among_any g 1 65536 _).mono ?_
          rintro e w' ⟨rfl, rfl⟩
          go_wp2
          go_ret
          exact ⟨by rw [B.out]; rfl, rfl⟩
      · by_cases hv : am la 1 65536 = true
        · go_wp2_with fail
          refine (among_any la 1 65536 _).mono ?_
          rintro e w' ⟨rfl, rfl⟩
          go_wp2
          go_round
          case rel => exact ⟨2, by omega, by go_num, fun _ => q0 (by omega), fun _ => hv, by omega, by omega⟩
          case measure => simp [intOf]
        · have hv' : am la 1 65536 = false := by simpa using hv
          clear hv
          have B := hide (show bdd ⟨g, la, li, pg, bu, se⟩ = false by rw [hb.out, hv']; simp)
          go_wp2_with fail
          refine (among_any la 1 65536 _).mono ?_
          rintro e w' ⟨rfl, rfl⟩
          go_wp2
          go_ret
          exact ⟨by rw [B.out]; rfl, rfl⟩
      · by_cases hv : am li 1 65536 = true
        · go_wp2_with fail
          refine (among_any li 1 65536 _).mono ?_
          rintro e w' ⟨rfl, rfl⟩
          go_wp2
          go_round
          case rel => exact ⟨3, by omega, by go_num, fun _ => q0 (by omega), fun _ => q1 (by omega), fun _ => hv, by omega⟩
          case measure => simp [intOf]
        · have hv' : am li 1 65536 = false := by simpa using hv
          clear hv
          have B := hide (show bdd ⟨g, la, li, pg, bu, se⟩ = false by rw [hb.out, hv']; simp)
          go_wp2_with fail
          refine (among_any li 1 65536 _).mono ?_
          rintro e w' ⟨rfl, rfl⟩
          go_wp2
          go_ret
          exact ⟨by rw [B.out]; rfl, rfl⟩
      · by_cases hv : am pg 1 65536 = true
        · go_wp2_with fail
          refine (among_any pg 1 65536 _).mono ?_
          rintro e w' ⟨rfl, rfl⟩
          go_wp2
          go_round
          case rel => exact ⟨4, by omega, by go_num, fun _ => q0 (by omega), fun _ => q1 (by omega), fun _ => q2 (by omega), fun _ => hv⟩
          case measure => simp [intOf]
        · have hv' : am pg 1 65536 = false := by simpa using hv
          clear hv
          have B := hide (show bdd ⟨g, la, li, pg, bu, se⟩ = false by rw [hb.out, hv']; simp)
          go_wp2_with fail
          refine (among_any pg 1 65536 _).mono ?_
          rintro e w' ⟨rfl, rfl⟩
          go_wp2
          go_ret
          exact ⟨by rw [B.out]; rfl, rfl⟩
    · obtain rfl : k = 4 := by omega
      have B := hide (show bdd ⟨g, la, li, pg, bu, se⟩ = (am bu 0 65536 && am se 0 255) by rw [hb.out, q0 (by omega), q1 (by omega), q2 (by omega), q3 (by omega)]; simp)
      clear q0 q1 q2 q3
      by_cases hv : am bu 0 65536 = true
      · go_wp2_with fail
        refine (among_any bu 0 65536 _).mono ?_
        rintro e w' ⟨rfl, rfl⟩
        go_wp2_with fail
        refine (among_any se 0 255 _).mono ?_
        rintro e w' ⟨rfl, rfl⟩
        go_wp2
        go_ret
        exact ⟨by rw [B.out, hv]; rfl, rfl⟩
      · have hv' : am bu 0 65536 = false := by simpa using hv
        clear hv
        go_wp2_with fail
        refine (among_any bu 0 65536 _).mono ?_
        rintro e w' ⟨rfl, rfl⟩
        go_wp2
        go_ret
        exact ⟨by rw [B.out, hv']; rfl, rfl⟩

theorem tdiv_pos {n g : Int} (h1 : 1 ≤ g) (h2 : 0 ≤ n) (h3 : n ≤ 65536) : wrap64 (n.tdiv g) = n / g := by
  rw [Int.tdiv_eq_ediv_of_nonneg h2]
  have := Int.ediv_nonneg h2 (show 0 ≤ g by omega)
  have := Int.ediv_le_self g h2
  unfold wrap64; omega

set_option maxRecDepth 100000 in
set_option maxHeartbeats 2000000 in
theorem worked_any (r : Rw) (w : World) (h : bdd r = true) (hT : Tab w) :
    Calls Tryd.prog 18 #[r.val] w fun e w' => e = .returned (wk r).val ∧ w' = ((w.alloc (r.obj 23)).alloc ((wk r).obj 31)).drew := by
  obtain ⟨g1, g2, n1, n2, p1, p2, l1, l2, m1, m2, gn, gp⟩ := wk_nums h
  obtain ⟨⟨b1, b2⟩, ⟨b3, b4⟩, ⟨b5, b6⟩, ⟨b7, b8⟩, ⟨b9, b10⟩, b11, b12⟩ := (bdd_iff r).1 h
  have hd := tdiv_pos g1 (show 0 ≤ wkN r by omega) n2
  have eg : upV r.g = wkG r := rfl
  have en : upV (max r.la (wkG r)) = wkN r := rfl
  have ep : upV (max r.pg (wkG r)) = wkP r := rfl
  have em : roundV r.li (max (wkN r) (wkP r) * 2) = wkM r := rfl
  have el : logV (wkN r / wkG r) = wkL r := rfl
  have hlog := Int.ediv_nonneg (show 0 ≤ wkN r by omega) (show 0 ≤ wkG r by omega)
  have hlog' := Int.ediv_le_self (wkG r) (show 0 ≤ wkN r by omega)
  have eW : Hid (wk r = ⟨wkG r, wkN r, wkM r, wkL r, wkP r, r.bu, ceilV (wkM r) (wkL r), r.se⟩) := rfl
  have hm : 0 ≤ wkM r := by omega
  have hT' : Hid (∀ o1 o2, Tab ((w.alloc (.cells o1 23)).alloc (.cells o2 31))) := fun o1 o2 => hT.kept (((Kept.refl w).alloc _ _).alloc _ _)
  generalize wk r = W at *
  generalize wkG r = G at *
  generalize wkN r = N at *
  generalize wkP r = P at *
  generalize wkM r = M at *
  generalize wkL r = L at *
  obtain ⟨g, la, li, pg, bu, se⟩ := r
  show Calls Tryd.prog 18 #[.agg #[.int .i64 g, .int .i64 la, .int .i64 li, .int .i64 pg, .int .i64 bu, .int .i64 se]] w _
  clear h
  go_enter Tryd.func18, Tryd.ntmps18
  go_wp2_with fail
  refine (up_to g G _ eg rfl _ (by omega) (by omega)).mono ?_
  rintro e w' ⟨rfl, rfl⟩
  go_wp2_with fail
  refine (up_to (max la G) N _ en rfl _ (by omega) (by omega)).mono ?_
  rintro e w' ⟨rfl, rfl⟩
  go_wp2_with fail
  refine (up_to (max pg G) P _ ep rfl _ (by omega) (by omega)).mono ?_
  rintro e w' ⟨rfl, rfl⟩
  go_wp2_with fail
  refine (round_to li (max N P * 2) M _ em rfl _ (by omega) (by omega)).mono ?_
  rintro e w' ⟨rfl, rfl⟩
  go_wp2_with fail
  refine (log_to (N / G) L _ el rfl _ (by omega) (by omega) (hT'.out _ _)).mono ?_
  rintro e w' ⟨rfl, rfl⟩
  go_wp2_with fail
  go_region_with (go_at_call 25; refine (height_any M L _ hm m2 l1 l2).mono ?_; rintro e w' ⟨rfl, rfl⟩)
  all_goals
    go_wp2
    go_returns
    rw [eW.out]
    exact ⟨rfl, rfl⟩
end Go.Proofs.YtekffikkbiohnaaDoor
