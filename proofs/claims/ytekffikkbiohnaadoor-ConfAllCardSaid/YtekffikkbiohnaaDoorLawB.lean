/- hodmanlaw2's own helper begun, as a contract: it answers true, and makes new memory alone. Condition: the library's table lies in its variable. -/
import Derived.Test.YtekffikkbiohnaaDoorConfB
import Derived.Test.YtekffikkbiohnaaDoorHas
import Derived.Test.YtekffikkbiohnaaDoorTab
namespace Go.Proofs.YtekffikkbiohnaaDoor
open Go.RowKit

set_option maxRecDepth 100000 in
theorem begun_true (w : World) (hT : Tab w) : Calls Tryd.prog 7 #[] w fun e w' => e = .returned (.bool true) ∧ Kept w w' := by
  have o1 := hide (fun w hT => of_to ⟨1, 4, 8, 4, 6, 0⟩ ⟨1, 4, 8, 2, 4, 6, 16, 0⟩ 0 (by kernel_rfl) (by kernel_rfl) w hT)
  have o2 := hide (fun w hT => of_to ⟨0, 0, 0, 0, 0, 0⟩ ⟨0, 0, 0, 0, 0, 0, 0, 0⟩ 1 (by kernel_rfl) (by kernel_rfl) w hT)
  have s1 := hide (fun w hT => shift_yes ⟨1, 4, 8, 2, 4, 6, 16, 0⟩ 0 2 2 w (by decide) (by decide) (by decide) rfl rfl hT)
  have c1 := hide (fun w => ceil_to ⟨1, 4, 8, 2, 4, 6, 16, 0⟩ 1 12 (by decide) w (by decide) (by decide) (by decide))
  go_enter Tryd.func7, Tryd.ntmps7
  go_wp2_with fail
  refine (o1.out _ hT).mono ?_
  rintro e w1 ⟨rfl, k1⟩
  have H1 := HasC.made w1 ⟨1, 4, 8, 2, 4, 6, 16, 0⟩ 31
  go_wp2_with fail
  refine (o2.out _ (hT.kept (k1.alloc _ _))).mono ?_
  rintro e w2 ⟨rfl, k2⟩
  have hn : w1.heap.size < w2.heap.size := by have := k2.1.size; simp at this; omega
  have H2 := H1.kept k2
  have K2 := hide (k1.trans (((Kept.refl w1).alloc _ _).trans k2))
  clear H1 k2
  generalize w1.heap.size = n at *
  obtain ⟨f0, f1, f2, f3, f4, f5, f6, f7⟩ := H2
  dsimp only at f0 f1 f2 f3 f4 f5 f6 f7
  go_wp2_with fail
  refine (s1.out _ (hT.kept (K2.out.alloc _ _))).mono ?_
  rintro e w3 ⟨rfl, rfl⟩
  go_wp2_with fail
  refine (c1.out _).mono ?_
  rintro e w3 ⟨rfl, rfl⟩
  go_wp2
  go_ret
  exact ⟨rfl, ((K2.out.alloc _ _).alloc _ _).alloc _ _⟩
end Go.Proofs.YtekffikkbiohnaaDoor
