/- Proved here: hodmanlaw12.PinForms, called in any memory in which the library's table math/bits.deBruijn64tab lies as its initialiser lays it, returns true: which pages some blocks meet is what promise P12.1 asks. No condition besides. -/
import Derived.Test.YtckfmgopbfgdjaaDoorPinLaw
import Derived.Test.YtckfmgopbfgdjaaDoorOpen
import Derived.Test.YtckfmgopbfgdjaaDoorInts
import Derived.Test.YtckfmgopbfgdjaaDoorCards
import Derived.Test.YtckfmgopbfgdjaaDoorTie
namespace Go.Proofs.YtckfmgopbfgdjaaDoor
open Go.ChangeShapes Go.WideShapes Go.ChangeAt Go.RowKit

def pgL : List Int := [4, 4, 4, 4, 4, 0, 4, 4, 1]
def atL : List Int := [0, 0, 3, 4, 9, 1, -1, 1, 5]
def nL : List Int := [4, 5, 1, 0, 0, 1, 1, -1, 3]
def fiL : List Int := [0, 0, 0, 1, 2, 0, 0, 0, 5]
def beL : List Int := [1, 2, 1, 1, 2, 0, 0, 0, 8]
theorem paged : ∀ k, k < 9 → pgF (pgL.getD k 0) (atL.getD k 0) (nL.getD k 0) = fiL.getD k 0 ∧ pgB (pgL.getD k 0) (atL.getD k 0) (nL.getD k 0) = beL.getD k 0 ∧ -1000 ≤ pgL.getD k 0 ∧ pgL.getD k 0 ≤ 1000 ∧ -1000 ≤ atL.getD k 0 ∧ atL.getD k 0 ≤ 1000 ∧ -1000 ≤ nL.getD k 0 ∧ nL.getD k 0 ≤ 1000 := by decide +kernel

abbrev pO : Obj := .cells #[.int .i64 4, .int .i64 4, .int .i64 4, .int .i64 4, .int .i64 4, .int .i64 0, .int .i64 4, .int .i64 4, .int .i64 1] 3
abbrev aO : Obj := .cells #[.int .i64 0, .int .i64 0, .int .i64 3, .int .i64 4, .int .i64 9, .int .i64 1, .int .i64 (-1), .int .i64 1, .int .i64 5] 3
abbrev nO : Obj := .cells #[.int .i64 4, .int .i64 5, .int .i64 1, .int .i64 0, .int .i64 0, .int .i64 1, .int .i64 1, .int .i64 (-1), .int .i64 3] 3
abbrev fO : Obj := .cells #[.int .i64 0, .int .i64 0, .int .i64 0, .int .i64 1, .int .i64 2, .int .i64 0, .int .i64 0, .int .i64 0, .int .i64 5] 3
abbrev bO : Obj := .cells #[.int .i64 1, .int .i64 2, .int .i64 1, .int .i64 1, .int .i64 2, .int .i64 0, .int .i64 0, .int .i64 0, .int .i64 8] 3
theorem HasI.fr {w w' : World} {n : Nat} {L : List Int} (h : HasI w n L) (k : Fresh w w') : HasI w' n L := fun i hi => (k.cell (World.block_lt_of_cell? _ _ (h i hi))).trans (h i hi)
/-- what lies in the call's own blocks -/
structure Five (w : World) (n : Nat) : Prop where
  p : HasI w n pgL
  a : HasI w (n + 1) atL
  m : HasI w (n + 1 + 1) nL
  f : HasI w (n + 1 + 1 + 1) fiL
  b : HasI w (n + 1 + 1 + 1 + 1) beL
theorem Five.fresh {w w' : World} {n : Nat} (h : Five w n) (k : Fresh w w') : Five w' n := ⟨h.p.fr k, h.a.fr k, h.m.fr k, h.f.fr k, h.b.fr k⟩
theorem five_made (w : World) : Five (((((w.alloc pO).alloc aO).alloc nO).alloc fO).alloc bO) w.heap.size := by
  have z : ∀ (w : World) o, (w.alloc o).heap.size = w.heap.size + 1 := fun w o => by simp
  refine ⟨?_, ?_, ?_, ?_, ?_⟩
  · exact (HasI.made w pgL 3).fr (fresh_more (fresh_more (fresh_more (fresh_box _ _ _) _ _) _ _) _ _)
  · rw [← z w pO]
    exact (HasI.made (w.alloc pO) atL 3).fr (fresh_more (fresh_more (fresh_box _ _ _) _ _) _ _)
  · rw [← z w pO, ← z (w.alloc pO) aO]
    exact (HasI.made ((w.alloc pO).alloc aO) nL 3).fr (fresh_more (fresh_box _ _ _) _ _)
  · rw [← z w pO, ← z (w.alloc pO) aO, ← z ((w.alloc pO).alloc aO) nO]
    exact (HasI.made (((w.alloc pO).alloc aO).alloc nO) fiL 3).fr (fresh_box _ _ _)
  · rw [← z w pO, ← z (w.alloc pO) aO, ← z ((w.alloc pO).alloc aO) nO, ← z (((w.alloc pO).alloc aO).alloc nO) fO]
    exact HasI.made ((((w.alloc pO).alloc aO).alloc nO).alloc fO) beL 3

set_option maxRecDepth 100000 in
set_option maxHeartbeats 2000000 in
theorem pinForms_walk0 (w : World) (hT : Tab w) : Calls Tryd.prog 4 #[] w fun e w' => e = .returned (.bool true) ∧ Fresh w w' := by
  have HT := hide hT
  clear hT
  go_enter Tryd.func4, Tryd.ntmps4
  go_wp2_with fail
  refine (begun12_true _ HT.out).mono ?_
  rintro e w1 ⟨rfl, k1⟩
  have K1 := hide k1
  clear k1
  go_wp2
  have F5 := hide (five_made w1)
  have K2 : Hid (Fresh w (((((w1.alloc pO).alloc aO).alloc nO).alloc fO).alloc bO)) := fresh_more (fresh_more (fresh_more (fresh_more (fresh_more K1.out _ _) _ _) _ _) _ _) _ _
  generalize ((((w1.alloc pO).alloc aO).alloc nO).alloc fO).alloc bO = W at *
  generalize w1.heap.size = n at *
  clear K1
  go_loopw [6] (fun i w2 => ∃ k : Nat, k ≤ 9 ∧ i = .int .i64 k ∧ Fresh W w2) (fun i _ => (9 - intOf i).toNat)
  case atStart => exact ⟨0, Nat.zero_le _, rfl, Fresh.refl _⟩
  case round =>
    obtain ⟨k, hk, rfl, hK⟩ := hrel
    have F6 := hide (F5.out.fresh hK)
    have HK := hide hK
    have TK := hide (HT.out.below (K2.out.trans hK))
    clear hK
    by_cases hlt : k < 9
    · obtain ⟨q1, q2, q3, q4, q5, q6, q7, q8⟩ := paged k hlt
      have PG := hide (fun w hT => pages_int _ _ _ _ _ q1 q2 w q3 q4 q5 q6 q7 q8 hT)
      have f1 := F6.out.p k hlt
      have f2 := F6.out.a k hlt
      have f3 := F6.out.m k hlt
      have f4 := F6.out.f k hlt
      have f5 := F6.out.b k hlt
      have TD := hide (fun n => TK.out.below (Fresh.drewN wr n))
      have FD := hide (fun n => HK.out.trans (Fresh.drewN wr n))
      clear q1 q2 q3 q4 q5 q6 q7 q8
      generalize pgL.getD k 0 = p at *
      generalize atL.getD k 0 = a at *
      generalize nL.getD k 0 = m at *
      generalize fiL.getD k 0 = f at *
      generalize beL.getD k 0 = b at *
      have k0 : (0 : Int) ≤ (k : Int) := by omega
      have k1 : (k : Int) < 9 := by omega
      go_wp2_with fail
      go_quiet ((go_at_call 9; exact Calls.quiet_of_same (PG.out _ (TD.out _))))
      go_wp2
      go_roundw
      case rel => exact ⟨k + 1, by omega, by go_num, FD.out _⟩
      case measure => simp [intOf]; omega
    · obtain rfl : k = 9 := by omega
      have FK := hide (K2.out.trans HK.out)
      clear F5 F6
      go_wp2_with fail
      obtain ⟨w2, hw2⟩ : ∃ w2, w2 = wr.alloc (.cells #[.int .i64 7, .int .i64 2, .int .i64 0, .int .i64 24, .int .i64 16, .int .i64 0] 31) := ⟨_, rfl⟩
      have F2 := hide (show Fresh wr w2 from hw2 ▸ fresh_box _ _ _)
      have B2 := hide (show w2.heap[wr.heap.size]? = some (.cells #[.int .i64 7, .int .i64 2, .int .i64 0, .int .i64 24, .int .i64 16, .int .i64 0] 31 (0, 0)) from hw2 ▸ heap_alloc_new wr _)
      rw [← hw2]
      clear hw2
      refine (met_to 8 35 4 32 _ [(7, 2, 0), (24, 16, 0)] [true, true, false, true] (by decide +kernel) w2 (blocksAt_lit B2.out rfl rfl (by decide) (by intro p hp; simp at hp; rcases hp with rfl | rfl <;> (unfold Small; decide))) (by decide) (by decide) (by decide) (by decide) (by decide) (TK.out.below F2.out)).mono ?_
      rintro e w3 ⟨g, cap, rfl, o3, f3⟩
      have F3 := hide (F2.out.trans f3)
      have T3 := hide (TK.out.below F3.out)
      have c0 := o3.bit rfl 0 true rfl (by decide)
      have c1 := o3.bit rfl 1 true rfl (by decide)
      have c2 := o3.bit rfl 2 false rfl (by decide)
      have c3 := o3.bit rfl 3 true rfl (by decide)
      have C3 := hide (count_to _ _ 3 rfl w3 o3.at (by decide))
      have M1 := hide (met_none 0 8 (.slice none 0 0) w3 (.inl (by decide)) (by decide) (by decide) (by decide) (by decide))
      have M2 := hide (met_none 8 (-1) (.slice none 0 0) w3 (.inr (.inl (by decide))) (by decide) (by decide) (by decide) (by decide))
      have M3 := hide (met_none 8 65537 (.slice none 0 0) w3 (.inr (.inr (by decide))) (by decide) (by decide) (by decide) (by decide))
      have M4 := hide (met_to 8 65536 8192 65536 (.slice none 0 0) [] _ rfl w3 (blocksAt_nil w3) (by decide) (by decide) (by decide) (by decide) (by decide) T3.out)
      have F4 := hide (FK.out.trans F3.out)
      clear o3 f3 F2 B2
      go_wp2_with fail
      refine (C3.out).mono ?_
      rintro e w' ⟨rfl, rfl⟩
      go_wp2_with fail
      refine (M1.out).mono ?_
      rintro e w' ⟨rfl, rfl⟩
      go_wp2_with fail
      refine (M2.out).mono ?_
      rintro e w' ⟨rfl, rfl⟩
      go_wp2_with fail
      refine (M3.out).mono ?_
      rintro e w' ⟨rfl, rfl⟩
      go_wp2_with fail
      refine M4.out.mono ?_
      rintro e w4 ⟨g4, cap4, rfl, o4, f4⟩
      have C4 := hide (count_to (.slice none 0 0) [] 0 rfl w4 ⟨none, 0, rfl, fun i hi => absurd hi (Nat.not_lt_zero _)⟩ (by decide))
      have F5 := hide (F4.out.trans f4)
      clear o4 f4
      go_wp2_with fail
      refine (C4.out).mono ?_
      rintro e w' ⟨rfl, rfl⟩
      go_wp2
      go_ret
      exact ⟨rfl, F5.out⟩

set_option linter.unusedVariables false
set_option maxRecDepth 100000 in
theorem pinForms_lifted (os : Os) (started : os.Started) (H : Type) (enc : TypeId × Value → H) :
    ReturnsInHanded {} Tryd.checked os 4 .any (fun w args => (Rows.pinFormsSpec.pre enc Tryd.prog Tryd.f4 [] false w args ∧ laidMetH Tryd.prog laid1 w) ∧ sizedMet enc Tryd.prog Tryd.f4 (OpenSpec.ofChange Rows.pinFormsSpec) false w args)
      (Rows.pinFormsSpec.post enc Tryd.prog Tryd.f4 false true false false) := by
  refine returnsInHanded_of_change_and (C := Tryd.checked) (X := fun w _ => laidMetH Tryd.prog laid1 w) (fun _ _ _ hh h => h.of_heap hh) own started (by kernel_rfl) Tryd.func4
    (ChangeSpec.witness_shaped (enc := enc) (C := Tryd.checked) (os := os) (X := fun w _ => laidMetH Tryd.prog laid1 w) false (World.doorLaid Tryd.prog 400 os) #[] 8 rfl (World.shaped_of_RefB (by kernel_rfl) (by kernel_rfl)) (by kernel_rfl) (by kernel_rfl) (by kernel_rfl) (door_met os _)) ?_
  intro W base args ds gs before hval0 hW _ _ hL _
  have hval : ∀ (j : Nat) t v, Tryd.f4.params[j]? = some t → args[j]? = some v → Value.okWide Tryd.prog W .any base t v := hval0
  have hW' := hW
  obtain ⟨p, q, hA0, hV, rfl, hfz, hnd⟩ := hW
  have hA : DataW.TrodAll enc Tryd.prog W 0 (fun _ => true) true Tryd.f4.params.toList args.toList ds p := hA0
  rw [Tryd.params4] at hA hval
  obtain ⟨rfl, rfl, rfl⟩ := trodAll_none hA
  obtain ⟨rfl, rfl⟩ := trodVars_none hV
  clear hA0 hval0
  have hT := tab_of_laid hL
  refine (pinForms_walk0  W hT).mono fun e W' ⟨he, hg⟩ => ?_
  subst he
  exact ⟨_, rfl, _, _, _, [], _, [], hW', trodAll_mk1 (shut_bool Tryd.underlying4 _), trodAll_mk0, rfl, hg.frame _, fun h => by cases h⟩

theorem pinForms_row : Rows.PinFormsSaid :=
  OpenClaim.holds_of_wide 4 Tryd.f4 rfl rfl rfl rfl rfl rfl rfl ⟨rfl, rfl, rfl, rfl, rfl⟩ rfl rfl rfl rfl rfl (by kernel_rfl) Tryd.func4 (by kernel_rfl)
    (of_decide_eq_true (by kernel_rfl)) (by unfold Func.isWrapper; first | (rw [if_pos (by decide +kernel)]; kernel_rfl) | (rw [if_neg (by decide +kernel)]; exact ⟨rfl, rfl⟩))
    (fun os started H enc _ => pinForms_lifted os started H enc)

theorem pinForms_holds : Rows.PinFormsCardSaid :=
  Claim7.holds_tied_plain_at .later [] [.data, .data] true (true, "0a6b00d0c58ec77104e853ed9c5c259ea66773a459a279d839fdfac7b11e0755") false
    pinForms_row (fun _ h => by cases h) (by kernel_rfl) (fun _ h => by cases h) pinForms_row_tie rfl ⟨rfl, rfl⟩ (by kernel_rfl) rfl
    (fun f fn hf hfn => by
      obtain rfl : f = 4 := Option.some.inj ((show Tryd.prog.funcNamed "hodman/hodmanlaw12.PinForms" = some 4 by kernel_rfl).symm.trans hf) |>.symm
      obtain rfl : fn = Tryd.f4 := (Option.some.inj (Tryd.func4.symm.trans hfn)).symm
      exact ⟨by kernel_rfl, fun j t ht => by
        rw [Tryd.params4] at ht
        simp at ht⟩)
    (by kernel_rfl)
#print axioms pinForms_holds
end Go.Proofs.YtckfmgopbfgdjaaDoor
