/- What the document's own SameSlots and Use answer of slots that are none (hodmanref8), as contracts. -/
import Derived.Test.YtpkcihfldmgehaaRefSlotsF
namespace Go.Proofs.Ytpkcihfldmgehaa
open Go.RowKit

theorem ssame_none (w : World) : Calls Try.prog 11 #[noSlots, noSlots] w fun e w' => e = .returned (.bool true) ∧ Fresh w w' := by
  unfold noSlots
  have F := hide (fresh_more (fresh_box w #[.slice none 0 0] 26) #[.slice none 0 0] 26)
  go_enter Try.func11, Try.ntmps11
  go_wp2
  refine wp_loop_rounds 1 ?_
  rw [rounds_succ]
  go_wp2
  go_ret
  exact ⟨rfl, F.out⟩
end Go.Proofs.Ytpkcihfldmgehaa
