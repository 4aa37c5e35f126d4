/- hodmanlaw3's own helper begun, as a contract: it answers true, and changes nothing. -/
import Derived.Test.YtoobocaeceokeaaWord
namespace Go.Proofs.Ytoobocaeceokeaa
open Go.RowKit

set_option maxRecDepth 100000 in
theorem begun3_true (w : World) : Calls Try.prog 8 #[] w fun e w' => e = .returned (.bool true) ∧ w' = w := by
  go_enter Try.func8, Try.ntmps8
  go_wp2_with fail
  refine (low_to 8 8 3 rfl (by decide) (by decide +kernel) _).mono ?_
  rintro e w' ⟨rfl, rfl⟩
  go_wp2_with fail
  refine (lowz_to 7 7 3 rfl (by decide) (by decide +kernel) _).mono ?_
  rintro e w' ⟨rfl, rfl⟩
  go_wp2_with fail
  refine (ones_to 7 7 3 rfl (by decide) (by decide +kernel) _).mono ?_
  rintro e w' ⟨rfl, rfl⟩
  go_wp2_with fail
  refine (mask_to 1 2 6 (by decide +kernel) _ (by decide) (by decide) (by decide) (by decide)).mono ?_
  rintro e w' ⟨rfl, rfl⟩
  go_wp2_with fail
  refine (nthw_to 10 10 1 3 rfl (by decide) (by decide +kernel) (by decide) (by decide) _).mono ?_
  rintro e w' ⟨rfl, rfl⟩
  go_wp2
  go_ret
  exact ⟨rfl, rfl⟩
end Go.Proofs.Ytoobocaeceokeaa
