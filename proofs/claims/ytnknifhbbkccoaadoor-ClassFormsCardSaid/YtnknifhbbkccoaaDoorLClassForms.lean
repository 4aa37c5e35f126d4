/- Proved here: hodmanlaw7.ClassForms, called in any memory in which the library's table math/bits.deBruijn64tab lies as its initialiser lays it, returns true: what the program's class tells (Charge, Product, Class) of the inputs that the statement names is what promise P7.1 asks. No condition besides. -/
import Derived.Test.YtnknifhbbkccoaaDoorClassLaw
import Derived.Test.YtnknifhbbkccoaaDoorOpen
import Derived.Test.YtnknifhbbkccoaaDoorInts
import Derived.Test.YtnknifhbbkccoaaDoorCards
import Derived.Test.YtnknifhbbkccoaaDoorTie
import Derived.Deep.RegionHeld3
namespace Go.Proofs.YtnknifhbbkccoaaDoor
open Go.ChangeShapes Go.WideShapes Go.ChangeAt Go.RowKit

def sL : List Int := [0, 1, 4, 5, 8, 9, 32, 33, -1, 1, 1, 1, 1, 1, 33]
def aL : List Int := [1, 1, 1, 1, 1, 2, 1, 1, 1, 16, 32, 64, 3, 0, 3]
def vL : List Int := [4, 4, 4, 8, 8, 16, 32, 0, 0, 16, 32, 0, 0, 0, 0]
def eL : List Int := [0, 0, 0, 0, 0, 0, 0, 4, 4, 0, 0, 3, 3, 3, 3]
theorem charged : ∀ k, k < 15 → chV 4 32 (sL.getD k 0) (aL.getD k 0) = vL.getD k 0 ∧ chE 32 (sL.getD k 0) (aL.getD k 0) = eL.getD k 0 ∧ -9223372036854775808 ≤ aL.getD k 0 ∧ aL.getD k 0 ≤ 9223372036854775807 := by decide +kernel

abbrev cO : Obj := .cells #[.int .i64 4, .int .i64 32, .int .i64 64, .int .i64 3, .int .i64 8, .int .i64 0, .int .i64 160, .int .i64 0] 25
abbrev sO : Obj := .cells #[.int .i64 0, .int .i64 1, .int .i64 4, .int .i64 5, .int .i64 8, .int .i64 9, .int .i64 32, .int .i64 33, .int .i64 (-1), .int .i64 1, .int .i64 1, .int .i64 1, .int .i64 1, .int .i64 1, .int .i64 33] 3
abbrev aO : Obj := .cells #[.int .i64 1, .int .i64 1, .int .i64 1, .int .i64 1, .int .i64 1, .int .i64 2, .int .i64 1, .int .i64 1, .int .i64 1, .int .i64 16, .int .i64 32, .int .i64 64, .int .i64 3, .int .i64 0, .int .i64 3] 3
abbrev vO : Obj := .cells #[.int .i64 4, .int .i64 4, .int .i64 4, .int .i64 8, .int .i64 8, .int .i64 16, .int .i64 32, .int .i64 0, .int .i64 0, .int .i64 16, .int .i64 32, .int .i64 0, .int .i64 0, .int .i64 0, .int .i64 0] 3
abbrev eO : Obj := .cells #[.int .i64 0, .int .i64 0, .int .i64 0, .int .i64 0, .int .i64 0, .int .i64 0, .int .i64 0, .int .i64 4, .int .i64 4, .int .i64 0, .int .i64 0, .int .i64 3, .int .i64 3, .int .i64 3, .int .i64 3] 33
/-- what lies in the call's own blocks -/
structure Five (w : World) (n : Nat) : Prop where
  c : HasC w n 0 ⟨4, 32, 64, 3, 8, 0, 160, 0⟩
  s : HasI w (n + 1) sL
  a : HasI w (n + 1 + 1) aL
  v : HasI w (n + 1 + 1 + 1) vL
  e : HasI w (n + 1 + 1 + 1 + 1) eL
  lt : n + 1 + 1 + 1 + 1 < w.heap.size
theorem Five.kept {w w' : World} {n : Nat} (h : Five w n) (k : Kept w w') : Five w' n :=
  ⟨h.c.kept k, h.s.kept k, h.a.kept k, h.v.kept k, h.e.kept k, Nat.lt_of_lt_of_le h.lt k.1.size⟩
theorem five_made (w : World) : Five (((((w.alloc cO).alloc sO).alloc aO).alloc vO).alloc eO) w.heap.size := by
  have z : ∀ (w : World) o, (w.alloc o).heap.size = w.heap.size + 1 := fun w o => by simp
  refine ⟨(HasC.made w ⟨4, 32, 64, 3, 8, 0, 160, 0⟩ 25).kept (((((Kept.refl _).alloc _ _).alloc _ _).alloc _ _).alloc _ _), ?_, ?_, ?_, ?_, ?_⟩
  · rw [← z w cO]
    exact (HasI.made (w.alloc cO) sL 3).kept ((((Kept.refl _).alloc _ _).alloc _ _).alloc _ _)
  · rw [← z w cO, ← z (w.alloc cO) sO]
    exact (HasI.made ((w.alloc cO).alloc sO) aL 3).kept (((Kept.refl _).alloc _ _).alloc _ _)
  · rw [← z w cO, ← z (w.alloc cO) sO, ← z ((w.alloc cO).alloc sO) aO]
    exact (HasI.made (((w.alloc cO).alloc sO).alloc aO) vL 3).kept ((Kept.refl _).alloc _ _)
  · rw [← z w cO, ← z (w.alloc cO) sO, ← z ((w.alloc cO).alloc sO) aO, ← z (((w.alloc cO).alloc sO).alloc aO) vO]
    exact HasI.made ((((w.alloc cO).alloc sO).alloc aO).alloc vO) eL 33
  · simp

set_option maxRecDepth 100000 in
set_option maxHeartbeats 2000000 in
theorem classForms_walk (w : World) (hT : Tab w) : Calls Tryd.prog 5 #[] w fun e w' => e = .returned (.bool true) ∧ Grown w w' := by
  have o1 := hide (fun w => rof_to ⟨4, 32, 64, 8, 0, 0⟩ ⟨4, 32, 64, 3, 8, 0, 160, 0⟩ 0 (by kernel_rfl) (by kernel_rfl) w)
  go_enter Tryd.func5, Tryd.ntmps5
  go_wp2_with fail
  refine (begun7_true _ hT).mono ?_
  rintro e w1 ⟨rfl, k1⟩
  have K1 := hide k1
  clear k1
  go_wp2_with fail
  refine (o1.out _).mono ?_
  rintro e w2 ⟨rfl, k2⟩
  have K2 := hide (K1.out.trans k2)
  clear k2
  go_wp2
  have F5 := hide (five_made w2)
  have K3 : Hid (Kept w (((((w2.alloc cO).alloc sO).alloc aO).alloc vO).alloc eO)) := ((((K2.out.alloc _ _).alloc _ _).alloc _ _).alloc _ _).alloc _ _
  generalize ((((w2.alloc cO).alloc sO).alloc aO).alloc vO).alloc eO = W at *
  generalize w2.heap.size = n at *
  clear K1 K2 o1
  go_loopw [7] (fun i w2 => ∃ k : Nat, k ≤ 15 ∧ i = .int .i64 k ∧ Kept W w2) (fun i _ => (15 - intOf i).toNat)
  case atStart => exact ⟨0, Nat.zero_le _, rfl, Kept.refl _⟩
  case round =>
    obtain ⟨k, hk, rfl, hK⟩ := hrel
    have F6 := hide (F5.out.kept hK)
    have HK := hide hK
    have HT := hide (hT.kept (K3.out.trans hK))
    clear hK
    by_cases hlt : k < 15
    · obtain ⟨q1, q2, q3, q4⟩ := charged k hlt
      have CH := hide (fun w hT => charge_to ⟨4, 32, 64, 3, 8, 0, 160, 0⟩ _ _ _ _ q1 q2 w (by decide) (by decide) (by decide) q3 q4 hT)
      have f2 := F6.out.s k hlt
      have f3 := F6.out.a k hlt
      have f4 := F6.out.v k hlt
      have f5 := F6.out.e k hlt
      obtain ⟨x0, x1, x2, x3, x4, x5, x6, x7⟩ := F6.out.c
      simp only [Nat.zero_add] at x0 x1 x2 x3 x4 x5 x6 x7
      have hn := F6.out.lt
      have hn3 : n + 1 + 1 + 1 < wr.heap.size := by omega
      have hne3 : n + 1 + 1 + 1 ≠ wr.heap.size := by omega
      have hne4 : n + 1 + 1 + 1 + 1 ≠ wr.heap.size := by omega
      clear q1 q2 q3 q4
      generalize sL.getD k 0 = s at *
      generalize aL.getD k 0 = a at *
      generalize vL.getD k 0 = v at *
      generalize eL.getD k 0 = er at *
      have k0 : (0 : Int) ≤ (k : Int) := by omega
      have k1 : (k : Int) < 15 := by omega
      have TD : Hid (Tab wr.drew) := HT.out
      go_wp2_with fail
      go_region_held3 (fun w' => w'.cell? ⟨n, 0, none⟩ = some (.int .i64 4) ∧ w'.cell? ⟨n, 1, none⟩ = some (.int .i64 32) ∧ w'.cell? ⟨n, 2, none⟩ = some (.int .i64 64) ∧ w'.cell? ⟨n, 3, none⟩ = some (.int .i64 3) ∧ w'.cell? ⟨n, 4, none⟩ = some (.int .i64 8) ∧ w'.cell? ⟨n, 5, none⟩ = some (.int .i64 0) ∧ w'.cell? ⟨n, 6, none⟩ = some (.int .i64 160) ∧ w'.cell? ⟨n, 7, none⟩ = some (.int .i64 0) ∧ w'.cell? ⟨n + 1, k, none⟩ = some (.int .i64 s) ∧ w'.cell? ⟨n + 1 + 1, k, none⟩ = some (.int .i64 a)) (go_keep) (first | (go_at_call 10; refine (CH.out _ TD.out).mono ?_; rintro e w' ⟨rfl, rfl⟩))
      go_wp2
      go_roundw
      case rel => exact ⟨k + 1, by omega, by go_num, HK.out.drew.alloc _ _⟩
      case measure => simp [intOf]; omega
    · obtain rfl : k = 15 := by omega
      have p1 := hide (fun w => product_to ⟨4, 32, 64, 3, 8, 0, 160, 0⟩ 4 8 32 0 (by kernel_rfl) (by kernel_rfl) w (by decide) (by decide) (by decide) (by decide))
      have p2 := hide (fun w => product_to ⟨4, 32, 64, 3, 8, 0, 160, 0⟩ 4 9 0 4 (by kernel_rfl) (by kernel_rfl) w (by decide) (by decide) (by decide) (by decide))
      have p3 := hide (fun w => product_to ⟨4, 32, 64, 3, 8, 0, 160, 0⟩ (-1) 0 0 2 (by kernel_rfl) (by kernel_rfl) w (by decide) (by decide) (by decide) (by decide))
      have p4 := hide (fun w => product_to ⟨4, 32, 64, 3, 8, 0, 160, 0⟩ 0 (-1) 0 2 (by kernel_rfl) (by kernel_rfl) w (by decide) (by decide) (by decide) (by decide))
      have p5 := hide (fun w => product_to ⟨4, 32, 64, 3, 8, 0, 160, 0⟩ 0 4611686018427387904 0 0 (by kernel_rfl) (by kernel_rfl) w (by decide) (by decide) (by decide) (by decide))
      have p6 := hide (fun w => product_to ⟨4, 32, 64, 3, 8, 0, 160, 0⟩ 4294967296 4294967296 0 4 (by kernel_rfl) (by kernel_rfl) w (by decide) (by decide) (by decide) (by decide))
      have s1 := hide (fun w hT => class_to ⟨4, 32, 64, 3, 8, 0, 160, 0⟩ 2 3 3 0 false (by kernel_rfl) (by kernel_rfl) w (by decide) (by decide) rfl rfl hT)
      have s2 := hide (fun w hT => class_to ⟨4, 32, 64, 3, 8, 0, 160, 0⟩ 2 3 64 0 false (by kernel_rfl) (by kernel_rfl) w (by decide) (by decide) rfl rfl hT)
      obtain ⟨x0, x1, x2, x3, x4, x5, x6, x7⟩ := F6.out.c
      simp only [Nat.zero_add] at x0 x1 x2 x3 x4 x5 x6 x7
      have hn : n < wr.heap.size := by have := F6.out.lt; omega
      have hn1 : n < wr.heap.size + 1 := by omega
      have hn2 : n < wr.heap.size + 1 + 1 := by omega
      have hn3 : n < wr.heap.size + 1 + 1 + 1 := by omega
      have hn4 : n < wr.heap.size + 1 + 1 + 1 + 1 := by omega
      have hn5 : n < wr.heap.size + 1 + 1 + 1 + 1 + 1 := by omega
      have hn6 : n < wr.heap.size + 1 + 1 + 1 + 1 + 1 + 1 := by omega
      have KE := hide (K3.out.trans HK.out)
      go_wp2_with fail
      refine (p1.out _).mono ?_
      rintro e w' ⟨rfl, rfl⟩
      go_wp2_with fail
      refine (p2.out _).mono ?_
      rintro e w' ⟨rfl, rfl⟩
      go_wp2_with fail
      refine (p3.out _).mono ?_
      rintro e w' ⟨rfl, rfl⟩
      go_wp2_with fail
      refine (p4.out _).mono ?_
      rintro e w' ⟨rfl, rfl⟩
      go_wp2_with fail
      refine (p5.out _).mono ?_
      rintro e w' ⟨rfl, rfl⟩
      go_wp2_with fail
      refine (p6.out _).mono ?_
      rintro e w' ⟨rfl, rfl⟩
      go_wp2_with fail
      refine (s1.out _ (hT.kept ((((((KE.out.alloc _ _).alloc _ _).alloc _ _).alloc _ _).alloc _ _).alloc _ _))).mono ?_
      rintro e w' ⟨rfl, rfl⟩
      go_wp2_with fail
      refine (s2.out _ (hT.kept (((((((KE.out.alloc _ _).alloc _ _).alloc _ _).alloc _ _).alloc _ _).alloc _ _).alloc _ _))).mono ?_
      rintro e w' ⟨rfl, rfl⟩
      go_wp2
      go_ret
      exact ⟨rfl, Kept.grown ((((((((KE.out.alloc _ _).alloc _ _).alloc _ _).alloc _ _).alloc _ _).alloc _ _).alloc _ _).alloc _ _)⟩

set_option linter.unusedVariables false
set_option maxRecDepth 100000 in
theorem classForms_lifted (os : Os) (started : os.Started) (H : Type) (enc : TypeId × Value → H) :
    ReturnsInHanded {} Tryd.checked os 5 .any (fun w args => (Rows.classFormsSpec.pre enc Tryd.prog Tryd.f5 [] false w args ∧ laidMetH Tryd.prog laid1 w) ∧ sizedMet enc Tryd.prog Tryd.f5 (OpenSpec.ofChange Rows.classFormsSpec) false w args)
      (Rows.classFormsSpec.post enc Tryd.prog Tryd.f5 false true false false) := by
  refine returnsInHanded_of_change_and (C := Tryd.checked) (X := fun w _ => laidMetH Tryd.prog laid1 w) (fun _ _ _ hh h => h.of_heap hh) own started (by kernel_rfl) Tryd.func5
    (ChangeSpec.witness_shaped (enc := enc) (C := Tryd.checked) (os := os) (X := fun w _ => laidMetH Tryd.prog laid1 w) false (World.doorLaid Tryd.prog 400 os) #[] 8 rfl (World.shaped_of_RefB (by kernel_rfl) (by kernel_rfl)) (by kernel_rfl) (by kernel_rfl) (by kernel_rfl) (door_met os _)) ?_
  intro W base args ds gs before hval0 hW _ _ hL _
  have hval : ∀ (j : Nat) t v, Tryd.f5.params[j]? = some t → args[j]? = some v → Value.okWide Tryd.prog W .any base t v := hval0
  have hW' := hW
  obtain ⟨p, q, hA0, hV, rfl, hfz, hnd⟩ := hW
  have hA : DataW.TrodAll enc Tryd.prog W 0 (fun _ => true) true Tryd.f5.params.toList args.toList ds p := hA0
  rw [Tryd.params5] at hA hval
  obtain ⟨rfl, rfl, rfl⟩ := trodAll_none hA
  obtain ⟨rfl, rfl⟩ := trodVars_none hV
  clear hA0 hval0
  simp only [List.append_nil] at hW'
  have hT := tab_of_laid hL
  refine (classForms_walk  W hT).mono fun e W' ⟨he, hg⟩ => ?_
  subst he
  exact ⟨_, rfl, post_of_same (pa := []) (pv := []) hW' (fun _ _ _ => (trodAll_cons_mk (shut_bool Tryd.underlying4 _) trodAll_mk0)) (fun sp _ => trodAll_mk0) (fun _ _ => rfl) rfl
    (hg.frame _) hg.2.1 (ok_one (by kernel_rfl) rfl (okWide_bool_mk Tryd.underlying4 _))⟩

theorem classForms_row : Rows.ClassFormsSaid :=
  OpenClaim.holds_of_wide 5 Tryd.f5 rfl rfl rfl rfl rfl rfl rfl ⟨rfl, rfl, rfl, rfl, rfl⟩ rfl rfl rfl rfl rfl (by kernel_rfl) Tryd.func5 (by kernel_rfl)
    (of_decide_eq_true (by kernel_rfl)) (by unfold Func.isWrapper; first | (rw [if_pos (by decide +kernel)]; kernel_rfl) | (rw [if_neg (by decide +kernel)]; exact ⟨rfl, rfl⟩))
    (fun os started H enc _ => classForms_lifted os started H enc)

theorem classForms_holds : Rows.ClassFormsCardSaid :=
  Claim7.holds_tied_plain_at .later [] [.data] true (true, "3ecdaab91720fd547ac3dbeea450085eaae0f8c18354cb460ea0ea16e3ad9c32") false
    classForms_row (fun _ h => by cases h) (by kernel_rfl) (fun _ h => by cases h) classForms_row_tie rfl ⟨rfl, rfl⟩ (by kernel_rfl) rfl
    (fun f fn hf hfn => by
      obtain rfl : f = 5 := Option.some.inj ((show Tryd.prog.funcNamed "hodman/hodmanlaw7.ClassForms" = some 5 by kernel_rfl).symm.trans hf) |>.symm
      obtain rfl : fn = Tryd.f5 := (Option.some.inj (Tryd.func5.symm.trans hfn)).symm
      exact ⟨by kernel_rfl, fun j t ht => by
        rw [Tryd.params5] at ht
        simp at ht⟩)
    (by kernel_rfl)
#print axioms classForms_holds
end Go.Proofs.YtnknifhbbkccoaaDoor
