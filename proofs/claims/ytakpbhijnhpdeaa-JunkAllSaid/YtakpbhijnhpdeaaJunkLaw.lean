/- junk as the laws use it: contracts with their answers written out, and that it has begun (hodmanlaw14.begun). -/
import Derived.Test.YtakpbhijnhpdeaaJunk
import Derived.Test.YtakpbhijnhpdeaaByteMade
import Derived.Test.YtakpbhijnhpdeaaHeld
namespace Go.Proofs.Ytakpbhijnhpdeaa
open Go.RowKit

theorem byte_to (s p i z : Int) (w : World) (hz : byteV s p i = z) : Calls Try.prog 9 #[.int .i64 s, .int .i64 p, .int .i64 i] w fun e w' => e = .returned (.int .u8 z) ∧ w' = w := hz ▸ byte_any s p i w
theorem fill_to (v : Value) (l X : List Int) (s p n : Int) (w : World) (h : BytesIn w v l) (p0 : -9223372036854775808 ≤ p) (p1 : p ≤ 9223372036854775807) (n0 : -9223372036854775808 ≤ n) (n1 : n ≤ 9223372036854775807) (hX : fillV l s p n = X) :
    Calls Try.prog 7 #[v, .int .i64 s, .int .i64 p, .int .i64 n] w fun e w' => ∃ u, e = .returned u ∧ BytesIn w' u X ∧ Fresh w w' := by
  refine (fill_any v l s p n w h p0 p1 n0 n1).mono ?_
  rintro e w' ⟨u, rfl, o, f⟩
  subst hX
  exact ⟨u, rfl, o.inn (by rw [fillV_length]; exact h.1), f⟩
section
variable {P : Program} {ops : Array Oper} {Q : Exit → Act → World → Prop} {md : Region.Mode}
/-- a drawn region by hand: from here on more is known of the world -/
theorem held_more {S T : World → Prop} (hST : ∀ w, T w → S w) : ∀ (fuel : Nat) (listed : Array Bool) (a : Act) (w : World), wpAnyH P md ops Q T fuel listed a w → wpAnyH P md ops Q S fuel listed a w
  | 0, _, _, _, h => h
  | fuel + 1, _, _, _, h => ⟨h.1, fun i hi => wpOp_mono (fun a' w' h' => ⟨hST w' h'.1, held_more hST fuel _ a' w' h'.2⟩) (h.2 i hi)⟩
end

set_option maxHeartbeats 1000000 in
theorem begun14_true (w : World) : Calls Try.prog 6 #[] w fun e w' => e = .returned (.bool true) ∧ Fresh w w' := by
  have MK := fun w => zeros_run 8 (by decide) w
  rw [show ((8 : Nat) : Int) = 8 from rfl] at MK
  have O0 := hide (zeros_made 8 (by decide) w)
  go_enter Try.func6, Try.ntmps6
  go_wp2_with fail
  obtain ⟨w1, hw1⟩ : ∃ w1, w1 = w.alloc (.cells (madeCells #[.int .u8 0] 8) 5) := ⟨_, rfl⟩
  rw [← hw1]
  have O1 := hide (hw1 ▸ O0.out)
  have F1 := hide (show Fresh w w1 from hw1 ▸ fresh_box _ _ _)
  clear O0 MK hw1
  refine (fill_to _ _ [0, 0, 0, 0, 35, 42, 49, 56] 3 1 4 _ (O1.out.inn (by decide)) (by decide) (by decide) (by decide) (by decide) (by decide +kernel)).mono ?_
  rintro e w2 ⟨u, rfl, b, f⟩
  obtain ⟨a, c, rfl, -, -⟩ := b.shape
  obtain ⟨g, o, rfl, c0⟩ := b.cell 0 (by decide)
  obtain ⟨g', o', e, c4⟩ := b.cell 4 (by decide)
  cases e
  have F2 := hide (F1.out.trans f)
  simp only [Nat.add_zero, List.getD_cons_zero, List.getD_cons_succ, List.length_cons, List.length_nil] at c0 c4 ⊢
  clear b f O1 F1
  have B1 := hide (fun w => byte_to 0 0 0 1 w (by decide))
  have B2 := hide (fun w => byte_to 3 1 0 35 w (by decide))
  go_wp2_with fail
  go_quiet ((first | (go_at_call 9; with_reducible exact Calls.quiet_of_same (B1.out _)) | (go_at_call 9; with_reducible exact Calls.quiet_of_same (B2.out _))))
  go_wp2
  go_ret
  exact ⟨rfl, fresh_drewN F2.out _⟩
end Go.Proofs.Ytakpbhijnhpdeaa
