/- hodmanlaw1's own helper begun, as a contract: it answers true, and changes nothing. Condition: the library's table lies in its variable. -/
import Derived.Test.YtmjnnccfigbkmabDoorTab
namespace Go.Proofs.YtmjnnccfigbkmabDoor
open Go.RowKit

theorem least5 : Least 5 3 := by unfold Least; decide

theorem begun_true (w : World) (hT : Tab w) : Calls Tryd.prog 4 #[] w fun e w' => e = .returned (.bool true) ∧ w' = w := by
  have a1 := add_fits (a := 2) (b := 3) (by decide) (by decide)
  have a2 := mul_fits (a := 2) (b := 3) (by decide) (by decide)
  have a3 := up_fits (v := 5) (k := 3) (by decide) (by decide) least5
  have a4 := log_fits (v := 8) (k := 3) (by decide) (by decide)
  have a5 := round_fits (v := 5) (to := 4) (by decide) (by decide) (by decide)
  have a6 := add_not (a := 4611686018427387904) (b := 4611686018427387904) (by decide)
  have e5 : upTo 5 4 = 8 := by decide
  rw [e5] at a5
  obtain ⟨b1, c1⟩ := a1
  obtain ⟨b2, c2⟩ := a2
  obtain ⟨b3, c3⟩ := a3
  obtain ⟨b4, c4⟩ := a4
  obtain ⟨b5, c5⟩ := a5
  obtain ⟨b6, c6⟩ := a6
  clear e5
  go_enter Tryd.func4, Tryd.ntmps4
  go_wp2_with fail
  refine (add_any 2 3 _ (by decide) (by decide) (by decide) (by decide)).mono ?_
  rintro e w' ⟨rfl, rfl⟩
  go_wp2_with fail
  refine (mul_any 2 3 _ (by decide) (by decide) (by decide) (by decide)).mono ?_
  rintro e w' ⟨rfl, rfl⟩
  go_wp2_with fail
  refine (up_any 5 _ (by decide) (by decide)).mono ?_
  rintro e w' ⟨rfl, rfl⟩
  go_wp2_with fail
  refine (log_any 8 _ (by decide) (by decide) hT).mono ?_
  rintro e w' ⟨rfl, rfl⟩
  go_wp2_with fail
  refine (round_any 5 4 _ (by decide) (by decide)).mono ?_
  rintro e w' ⟨rfl, rfl⟩
  go_wp2_with fail
  refine (add_any 4611686018427387904 4611686018427387904 _ (by decide) (by decide) (by decide) (by decide)).mono ?_
  rintro e w' ⟨rfl, rfl⟩
  go_wp2
  go_ret
  exact ⟨rfl, rfl⟩
end Go.Proofs.YtmjnnccfigbkmabDoor
