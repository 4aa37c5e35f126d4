/- The walk of hodmanlaw16.AdmitForms: who is let in, of some. -/
import Derived.Test.YtoopeihnmlfneaaDoorAdmitLaw
import Derived.Test.YtoopeihnmlfneaaDoorInts
import Derived.Test.YtoopeihnmlfneaaDoorHeld
namespace Go.Proofs.YtoopeihnmlfneaaDoor
open Go.ChangeShapes Go.WideShapes Go.ChangeAt Go.RowKit

def fL : List Int := [0, 8, 9, 16, 15, 14, 0, 0, 0, 16]
def fS : List Int := [8, 8, 8, 0, 1, 2, 9, 1, -1, 9]
def fA : List Int := [1, 1, 1, 1, 1, 1, 1, 3, 1, 16]
def fW : List Int := [8, 8, 0, 0, 0, 2, 0, 0, 0, 0]
def fE : List Int := [0, 0, 5, 5, 5, 0, 4, 3, 4, 3]
theorem letIn : ∀ k, k < 10 → adV 2 8 16 (fL.getD k 0) (fS.getD k 0) (fA.getD k 0) = fW.getD k 0 ∧ adE 2 8 16 (fL.getD k 0) (fS.getD k 0) (fA.getD k 0) = fE.getD k 0 ∧ 0 ≤ fL.getD k 0 ∧ fL.getD k 0 ≤ 4611686018427387904 ∧ -9223372036854775808 ≤ fS.getD k 0 ∧ fS.getD k 0 ≤ 9223372036854775807 ∧ -9223372036854775808 ≤ fA.getD k 0 ∧ fA.getD k 0 ≤ 9223372036854775807 := by decide +kernel

abbrev fOc : Obj := .cells #[.int .i64 2, .int .i64 8, .int .i64 16, .int .i64 2, .int .i64 2, .int .i64 0, .int .i64 32, .int .i64 0] 26
abbrev fO1 : Obj := .cells #[.int .i64 0, .int .i64 8, .int .i64 9, .int .i64 16, .int .i64 15, .int .i64 14, .int .i64 0, .int .i64 0, .int .i64 0, .int .i64 16] 3
abbrev fO2 : Obj := .cells #[.int .i64 8, .int .i64 8, .int .i64 8, .int .i64 0, .int .i64 1, .int .i64 2, .int .i64 9, .int .i64 1, .int .i64 (-1), .int .i64 9] 3
abbrev fO3 : Obj := .cells #[.int .i64 1, .int .i64 1, .int .i64 1, .int .i64 1, .int .i64 1, .int .i64 1, .int .i64 1, .int .i64 3, .int .i64 1, .int .i64 16] 3
abbrev fO4 : Obj := .cells #[.int .i64 8, .int .i64 8, .int .i64 0, .int .i64 0, .int .i64 0, .int .i64 2, .int .i64 0, .int .i64 0, .int .i64 0, .int .i64 0] 3
abbrev fO5 : Obj := .cells #[.int .i64 0, .int .i64 0, .int .i64 5, .int .i64 5, .int .i64 5, .int .i64 0, .int .i64 4, .int .i64 3, .int .i64 4, .int .i64 3] 34
/-- what lies in the call's own blocks -/
structure SixA (w : World) (n p1 p2 p3 p4 p5 : Nat) : Prop where
  c : C8 w n 2 8 16 2 2 0 32 0
  l : HasI w p1 fL
  s : HasI w p2 fS
  a : HasI w p3 fA
  v : HasI w p4 fW
  e : HasI w p5 fE
theorem SixA.kept {w w' : World} {n p1 p2 p3 p4 p5 : Nat} (h : SixA w n p1 p2 p3 p4 p5) (k : Kept w w') : SixA w' n p1 p2 p3 p4 p5 :=
  ⟨h.c.kept k, h.l.kept k, h.s.kept k, h.a.kept k, h.v.kept k, h.e.kept k⟩
theorem sixA_made (w : World) : SixA ((((((w.alloc fOc).alloc fO1).alloc fO2).alloc fO3).alloc fO4).alloc fO5) w.heap.size (w.heap.size + 1) (w.heap.size + 1 + 1) (w.heap.size + 1 + 1 + 1) (w.heap.size + 1 + 1 + 1 + 1) (w.heap.size + 1 + 1 + 1 + 1 + 1) := by
  have z : ∀ (w : World) o, (w.alloc o).heap.size = w.heap.size + 1 := fun w o => by simp
  refine ⟨((HasC.made w ⟨2, 8, 16, 2, 2, 0, 32, 0⟩ 26).kept ((((((Kept.refl _).alloc _ _).alloc _ _).alloc _ _).alloc _ _).alloc _ _)).c8, ?_, ?_, ?_, ?_, ?_⟩
  · rw [← z w fOc]
    exact (HasI.made (w.alloc fOc) fL 3).kept (((((Kept.refl _).alloc _ _).alloc _ _).alloc _ _).alloc _ _)
  · rw [← z w fOc, ← z (w.alloc fOc) fO1]
    exact (HasI.made ((w.alloc fOc).alloc fO1) fS 3).kept ((((Kept.refl _).alloc _ _).alloc _ _).alloc _ _)
  · rw [← z w fOc, ← z (w.alloc fOc) fO1, ← z ((w.alloc fOc).alloc fO1) fO2]
    exact (HasI.made (((w.alloc fOc).alloc fO1).alloc fO2) fA 3).kept (((Kept.refl _).alloc _ _).alloc _ _)
  · rw [← z w fOc, ← z (w.alloc fOc) fO1, ← z ((w.alloc fOc).alloc fO1) fO2, ← z (((w.alloc fOc).alloc fO1).alloc fO2) fO3]
    exact (HasI.made ((((w.alloc fOc).alloc fO1).alloc fO2).alloc fO3) fW 3).kept ((Kept.refl _).alloc _ _)
  · rw [← z w fOc, ← z (w.alloc fOc) fO1, ← z ((w.alloc fOc).alloc fO1) fO2, ← z (((w.alloc fOc).alloc fO1).alloc fO2) fO3, ← z ((((w.alloc fOc).alloc fO1).alloc fO2).alloc fO3) fO4]
    exact HasI.made (((((w.alloc fOc).alloc fO1).alloc fO2).alloc fO3).alloc fO4) fE 34

set_option maxRecDepth 100000 in
set_option maxHeartbeats 2000000 in
theorem admitForms_walk0 (AS : AdmitSays) (w : World) (hT : Tab w) : Calls Tryd.prog 5 #[] w fun e w' => e = .returned (.bool true) ∧ Kept w w' := by
  have o1 := hide (fun w => rof_c ⟨2, 8, 16, 1, 0, 0⟩ ⟨2, 8, 16, 2, 2, 0, 32, 0⟩ 0 (by kernel_rfl) (by kernel_rfl) w)
  have TK := hide (show ∀ w', Kept w w' → Tab w' from fun w' k => hT.kept k)
  go_enter Tryd.func5, Tryd.ntmps5
  go_wp2_with fail
  refine (begun16_true AS _ hT).mono ?_
  rintro e w1 ⟨rfl, k1⟩
  have K1 := hide k1
  clear k1 hT
  go_wp2_with fail
  refine (o1.out _).mono ?_
  rintro e w2 ⟨rfl, k2⟩
  have K2 := hide (K1.out.trans k2)
  clear k2
  go_wp2
  have F5 := hide (sixA_made w2)
  have K3 : Hid (Kept w ((((((w2.alloc fOc).alloc fO1).alloc fO2).alloc fO3).alloc fO4).alloc fO5)) := (((((K2.out.alloc _ _).alloc _ _).alloc _ _).alloc _ _).alloc _ _).alloc _ _
  generalize (((((w2.alloc fOc).alloc fO1).alloc fO2).alloc fO3).alloc fO4).alloc fO5 = W at *
  generalize w2.heap.size + 1 + 1 + 1 + 1 + 1 = p5 at *
  generalize w2.heap.size + 1 + 1 + 1 + 1 = p4 at *
  generalize w2.heap.size + 1 + 1 + 1 = p3 at *
  generalize w2.heap.size + 1 + 1 = p2 at *
  generalize w2.heap.size + 1 = p1 at *
  generalize w2.heap.size = n at *
  clear K1 K2 o1
  go_loopw [8] (fun i w2 => ∃ k : Nat, k ≤ 10 ∧ i = .int .i64 k ∧ Kept W w2) (fun i _ => (10 - intOf i).toNat)
  case atStart => exact ⟨0, Nat.zero_le _, rfl, Kept.refl _⟩
  case round =>
    obtain ⟨k, hk, rfl, hK⟩ := hrel
    have F6 := hide (F5.out.kept hK)
    have HK := hide hK
    clear hK
    by_cases hlt : k < 10
    · obtain ⟨q1, q2, q3, q4, q5, q6, q7, q8⟩ := letIn k hlt
      have CH := hide (fun w hT => anew_c AS ⟨2, 8, 16, 2, 2, 0, 32, 0⟩ _ _ _ _ _ w q1 q2 (by decide) (by decide) (by decide) (by decide) (by decide) q3 q4 q5 q6 q7 q8 hT)
      have HS0 := hide (show C8 wr n 2 8 16 2 2 0 32 0 ∧ wr.cell? ⟨p1, k, none⟩ = some (.int .i64 (fL.getD k 0)) ∧ wr.cell? ⟨p2, k, none⟩ = some (.int .i64 (fS.getD k 0)) ∧ wr.cell? ⟨p3, k, none⟩ = some (.int .i64 (fA.getD k 0)) ∧ wr.cell? ⟨p4, k, none⟩ = some (.int .i64 (fW.getD k 0)) ∧ wr.cell? ⟨p5, k, none⟩ = some (.int .i64 (fE.getD k 0)) from ⟨F6.out.c, F6.out.l k hlt, F6.out.s k hlt, F6.out.a k hlt, F6.out.v k hlt, F6.out.e k hlt⟩)
      clear q1 q2 q3 q4 q5 q6 q7 q8 F6
      generalize fL.getD k 0 = lv at *
      generalize fS.getD k 0 = s at *
      generalize fA.getD k 0 = a at *
      generalize fW.getD k 0 = v at *
      generalize fE.getD k 0 = er at *
      have k0 : (0 : Int) ≤ (k : Int) := by omega
      have k1 : (k : Int) < 10 := by omega
      have GK := hide (show k + 1 ≤ 10 by omega)
      clear hk hlt
      go_wp2_with fail
      have KD := hide ((Kept.refl wr).drew)
      have HS := hide (show C8 wr.drew n 2 8 16 2 2 0 32 0 ∧ wr.drew.cell? ⟨p1, k, none⟩ = some (.int .i64 lv) ∧ wr.drew.cell? ⟨p2, k, none⟩ = some (.int .i64 s) ∧ wr.drew.cell? ⟨p3, k, none⟩ = some (.int .i64 a) ∧ wr.drew.cell? ⟨p4, k, none⟩ = some (.int .i64 v) ∧ wr.drew.cell? ⟨p5, k, none⟩ = some (.int .i64 er) from ⟨HS0.out.1.kept KD.out, KD.out.cell HS0.out.2.1, KD.out.cell HS0.out.2.2.1, KD.out.cell HS0.out.2.2.2.1, KD.out.cell HS0.out.2.2.2.2.1, KD.out.cell HS0.out.2.2.2.2.2⟩)
      clear HS0
      refine wp_region_held (S := (fun wz => C8 wz n 2 8 16 2 2 0 32 0 ∧ wz.cell? ⟨p1, k, none⟩ = some (.int .i64 lv) ∧ wz.cell? ⟨p2, k, none⟩ = some (.int .i64 s) ∧ wz.cell? ⟨p3, k, none⟩ = some (.int .i64 a) ∧ wz.cell? ⟨p4, k, none⟩ = some (.int .i64 v) ∧ wz.cell? ⟨p5, k, none⟩ = some (.int .i64 er))) (by kernel_rfl) ?_
      change wpAnyH _ _ _ _ _ _ _ _ (World.drew _)
      refine held_take (i := 0) (d := 40) (v := ?_) rfl rfl (by kernel_rfl) (by kernel_rfl) (by kernel_rfl) (fun _ _ _ h => h) (by kernel_rfl) ?_ HS.out ?_
      rotate_left
      · intro wz hz
        obtain ⟨⟨y0, y1, y2, y3, y4, y5, y6, y7⟩, e1, e2, e3, -, -⟩ := hz
        go_simp
        first | done | with_reducible rfl
      refine held_take (i := 1) (d := 41) (v := ?_) rfl rfl (by kernel_rfl) (by kernel_rfl) (by kernel_rfl) (fun _ _ _ h => h) (by kernel_rfl) ?_ HS.out ?_
      rotate_left
      · intro wz hz
        obtain ⟨⟨y0, y1, y2, y3, y4, y5, y6, y7⟩, e1, e2, e3, -, -⟩ := hz
        go_simp
        first | done | with_reducible rfl
      refine held_take (i := 2) (d := 42) (v := ?_) rfl rfl (by kernel_rfl) (by kernel_rfl) (by kernel_rfl) (fun _ _ _ h => h) (by kernel_rfl) ?_ HS.out ?_
      rotate_left
      · intro wz hz
        obtain ⟨⟨y0, y1, y2, y3, y4, y5, y6, y7⟩, e1, e2, e3, -, -⟩ := hz
        go_simp
        first | done | with_reducible rfl
      refine held_take (i := 3) (d := 43) (v := ?_) rfl rfl (by kernel_rfl) (by kernel_rfl) (by kernel_rfl) (fun _ _ _ h => h) (by kernel_rfl) ?_ HS.out ?_
      rotate_left
      · intro wz hz
        obtain ⟨⟨y0, y1, y2, y3, y4, y5, y6, y7⟩, e1, e2, e3, -, -⟩ := hz
        go_simp
        first | done | with_reducible rfl
      refine held_take (i := 4) (d := 44) (v := ?_) rfl rfl (by kernel_rfl) (by kernel_rfl) (by kernel_rfl) (fun _ _ _ h => h) (by kernel_rfl) ?_ HS.out ?_
      rotate_left
      · intro wz hz
        obtain ⟨⟨y0, y1, y2, y3, y4, y5, y6, y7⟩, e1, e2, e3, -, -⟩ := hz
        go_simp
        first | done | with_reducible rfl
      refine held_take (i := 5) (d := 45) (v := ?_) rfl rfl (by kernel_rfl) (by kernel_rfl) (by kernel_rfl) (fun _ _ _ h => h) (by kernel_rfl) ?_ HS.out ?_
      rotate_left
      · intro wz hz
        obtain ⟨⟨y0, y1, y2, y3, y4, y5, y6, y7⟩, e1, e2, e3, -, -⟩ := hz
        go_simp
        first | done | with_reducible rfl
      refine held_take (i := 6) (d := 46) (v := ?_) rfl rfl (by kernel_rfl) (by kernel_rfl) (by kernel_rfl) (fun _ _ _ h => h) (by kernel_rfl) ?_ HS.out ?_
      rotate_left
      · intro wz hz
        obtain ⟨⟨y0, y1, y2, y3, y4, y5, y6, y7⟩, e1, e2, e3, -, -⟩ := hz
        go_simp
        first | done | with_reducible rfl
      refine held_take (i := 7) (d := 47) (v := ?_) rfl rfl (by kernel_rfl) (by kernel_rfl) (by kernel_rfl) (fun _ _ _ h => h) (by kernel_rfl) ?_ HS.out ?_
      rotate_left
      · intro wz hz
        obtain ⟨⟨y0, y1, y2, y3, y4, y5, y6, y7⟩, e1, e2, e3, -, -⟩ := hz
        go_simp
        first | done | with_reducible rfl
      refine held_take (i := 8) (d := 48) (v := ?_) rfl rfl (by kernel_rfl) (by kernel_rfl) (by kernel_rfl) (fun _ _ _ h => h) (by kernel_rfl) ?_ HS.out ?_
      rotate_left
      · intro wz hz
        obtain ⟨⟨y0, y1, y2, y3, y4, y5, y6, y7⟩, e1, e2, e3, -, -⟩ := hz
        go_simp
        first | done | with_reducible rfl
      refine held_take (i := 9) (d := 49) (v := ?_) rfl rfl (by kernel_rfl) (by kernel_rfl) (by kernel_rfl) (fun _ _ _ h => h) (by kernel_rfl) ?_ HS.out ?_
      rotate_left
      · intro wz hz
        obtain ⟨⟨y0, y1, y2, y3, y4, y5, y6, y7⟩, e1, e2, e3, -, -⟩ := hz
        go_simp
        first | done | with_reducible rfl
      refine held_take (i := 10) (d := 50) (v := ?_) rfl rfl (by kernel_rfl) (by kernel_rfl) (by kernel_rfl) (fun _ _ _ h => h) (by kernel_rfl) ?_ HS.out ?_
      rotate_left
      · intro wz hz
        obtain ⟨⟨y0, y1, y2, y3, y4, y5, y6, y7⟩, e1, e2, e3, -, -⟩ := hz
        go_simp
        first | done | with_reducible rfl
      refine held_take (i := 11) (d := 51) (v := ?_) rfl rfl (by kernel_rfl) (by kernel_rfl) (by kernel_rfl) (fun _ _ _ h => h) (by kernel_rfl) ?_ HS.out ?_
      rotate_left
      · intro wz hz
        obtain ⟨⟨y0, y1, y2, y3, y4, y5, y6, y7⟩, e1, e2, e3, -, -⟩ := hz
        go_simp
        first | done | with_reducible rfl
      refine held_take (i := 12) (d := 52) (v := ?_) rfl rfl (by kernel_rfl) (by kernel_rfl) (by kernel_rfl) (fun _ _ _ h => h) (by kernel_rfl) ?_ HS.out ?_
      rotate_left
      · intro wz hz
        obtain ⟨⟨y0, y1, y2, y3, y4, y5, y6, y7⟩, e1, e2, e3, -, -⟩ := hz
        go_simp
        first | done | with_reducible rfl
      refine wpAnyH_ready (rs := [13]) (by kernel_rfl) (by simp) ?_
      refine AllReadyH.cons rfl (fun K hK => ?_) AllReadyH.nil
      go_simp
      go_wp2_with fail
      refine (CH.out _ (TK.out _ (K3.out.trans (HK.out.trans KD.out)))).mono ?_; rintro e w4 ⟨rfl, kk⟩; have K4 := hide (HK.out.trans (KD.out.trans kk)); have HT := hide (show C8 w4 n 2 8 16 2 2 0 32 0 ∧ w4.cell? ⟨p1, k, none⟩ = some (.int .i64 lv) ∧ w4.cell? ⟨p2, k, none⟩ = some (.int .i64 s) ∧ w4.cell? ⟨p3, k, none⟩ = some (.int .i64 a) ∧ w4.cell? ⟨p4, k, none⟩ = some (.int .i64 v) ∧ w4.cell? ⟨p5, k, none⟩ = some (.int .i64 er) from ⟨HS.out.1.kept kk, kk.cell HS.out.2.1, kk.cell HS.out.2.2.1, kk.cell HS.out.2.2.2.1, kk.cell HS.out.2.2.2.2.1, kk.cell HS.out.2.2.2.2.2⟩); clear HS kk; have HS := HT; clear HT
      refine hK.out _ _ HS.out (fun _ => ?_)
      clear hK K
      refine held_take (i := 14) (d := 39) (v := ?_) rfl rfl (by kernel_rfl) (by kernel_rfl) (by kernel_rfl) (fun _ _ _ h => h) (by kernel_rfl) ?_ HS.out ?_
      rotate_left
      · intro wz hz
        obtain ⟨⟨y0, y1, y2, y3, y4, y5, y6, y7⟩, e1, e2, e3, -, -⟩ := hz
        go_simp
        first | done | with_reducible rfl
      refine held_take (i := 15) (d := 54) (v := ?_) rfl rfl (by kernel_rfl) (by kernel_rfl) (by kernel_rfl) (fun _ _ _ h => h) (by kernel_rfl) ?_ HS.out ?_
      rotate_left
      · intro wz hz
        obtain ⟨⟨y0, y1, y2, y3, y4, y5, y6, y7⟩, e1, e2, e3, -, -⟩ := hz
        go_simp
        first | done | with_reducible rfl
      refine held_take (i := 16) (d := 55) (v := ?_) rfl rfl (by kernel_rfl) (by kernel_rfl) (by kernel_rfl) (fun _ _ _ h => h) (by kernel_rfl) ?_ HS.out ?_
      rotate_left
      · intro wz hz
        obtain ⟨⟨y0, y1, y2, y3, y4, y5, y6, y7⟩, e1, e2, e3, -, -⟩ := hz
        go_simp
        first | done | with_reducible rfl
      refine held_take (i := 17) (d := 9) (v := ?_) rfl rfl (by kernel_rfl) (by kernel_rfl) (by kernel_rfl) (fun _ _ _ h => h) (by kernel_rfl) ?_ HS.out ?_
      rotate_left
      · intro wz hz
        obtain ⟨⟨y0, y1, y2, y3, y4, y5, y6, y7⟩, e1, e2, e3, -, -⟩ := hz
        go_simp
        first | done | with_reducible rfl
      refine held_take (i := 18) (d := 10) (v := ?_) rfl rfl (by kernel_rfl) (by kernel_rfl) (by kernel_rfl) (fun _ _ _ h => h) (by kernel_rfl) ?_ HS.out ?_
      rotate_left
      · intro wz hz
        obtain ⟨⟨y0, y1, y2, y3, y4, y5, y6, y7⟩, e1, e2, e3, -, -⟩ := hz
        go_simp
        first | done | with_reducible rfl
      refine wpAnyH_done (by kernel_rfl) ?_ _
      try simp only [Act.put, List.setIfInBounds_toArray, List.set_cons_succ, List.set_cons_zero]
      have f4 := HS.out.2.2.2.2.1
      have f5 := HS.out.2.2.2.2.2
      clear HS
      go_wp2
      go_roundw
      case rel => exact ⟨k + 1, GK.out, by go_num, K4.out⟩
      case measure => simp [intOf]; omega
    · obtain rfl : k = 10 := by omega
      have p1' := hide (fun w hT => amany_c AS ⟨2, 8, 16, 2, 2, 0, 32, 0⟩ 16 (-1) 9 0 2 w (by kernel_rfl) (by kernel_rfl) (by decide) (by decide) (by decide) (by decide) (by decide) (by decide) (by decide) (by decide) (by decide) (by decide) (by decide) hT)
      have p2' := hide (fun w hT => amany_c AS ⟨2, 8, 16, 2, 2, 0, 32, 0⟩ 16 9 1 0 4 w (by kernel_rfl) (by kernel_rfl) (by decide) (by decide) (by decide) (by decide) (by decide) (by decide) (by decide) (by decide) (by decide) (by decide) (by decide) hT)
      have p3' := hide (fun w hT => amany_c AS ⟨2, 8, 16, 2, 2, 0, 32, 0⟩ 16 2 2 0 5 w (by kernel_rfl) (by kernel_rfl) (by decide) (by decide) (by decide) (by decide) (by decide) (by decide) (by decide) (by decide) (by decide) (by decide) (by decide) hT)
      have p4' := hide (fun w hT => aanew_c AS ⟨2, 8, 16, 2, 2, 0, 32, 0⟩ 16 4 3 12 4 0 w (by decide) (by kernel_rfl) (by kernel_rfl) (by decide) (by decide) (by decide) (by decide) (by decide) (by decide) (by decide) (by decide) (by decide) (by decide) hT)
      have p5' := hide (fun w hT => aanew_c AS ⟨2, 8, 16, 2, 2, 0, 32, 0⟩ 16 4 5 12 0 5 w (by decide) (by kernel_rfl) (by kernel_rfl) (by decide) (by decide) (by decide) (by decide) (by decide) (by decide) (by decide) (by decide) (by decide) (by decide) hT)
      have D := hide F6.out.c
      have KA := hide (K3.out.trans HK.out)
      clear F6 HK F5 K3
      have C := D.out
      obtain ⟨y0, y1, y2, y3, y4, y5, y6, y7⟩ := C
      go_wp2_with fail
      clear y0 y1 y2 y3 y4 y5 y6 y7
      refine (p1'.out _ (TK.out _ KA.out)).mono ?_
      rintro e v1 ⟨rfl, kk⟩
      have D := hide (D.out.kept kk)
      have KA := hide (KA.out.trans kk)
      clear kk
      have C := D.out
      obtain ⟨y0, y1, y2, y3, y4, y5, y6, y7⟩ := C
      go_wp2_with fail
      clear y0 y1 y2 y3 y4 y5 y6 y7
      refine (p2'.out _ (TK.out _ KA.out)).mono ?_
      rintro e v2 ⟨rfl, kk⟩
      have D := hide (D.out.kept kk)
      have KA := hide (KA.out.trans kk)
      clear kk
      have C := D.out
      obtain ⟨y0, y1, y2, y3, y4, y5, y6, y7⟩ := C
      go_wp2_with fail
      clear y0 y1 y2 y3 y4 y5 y6 y7
      refine (p3'.out _ (TK.out _ KA.out)).mono ?_
      rintro e v3 ⟨rfl, kk⟩
      have D := hide (D.out.kept kk)
      have KA := hide (KA.out.trans kk)
      clear kk
      have C := D.out
      obtain ⟨y0, y1, y2, y3, y4, y5, y6, y7⟩ := C
      go_wp2_with fail
      clear y0 y1 y2 y3 y4 y5 y6 y7
      refine (p4'.out _ (TK.out _ KA.out)).mono ?_
      rintro e v4 ⟨rfl, kk⟩
      have D := hide (D.out.kept kk)
      have KA := hide (KA.out.trans kk)
      clear kk
      have C := D.out
      obtain ⟨y0, y1, y2, y3, y4, y5, y6, y7⟩ := C
      go_wp2_with fail
      clear y0 y1 y2 y3 y4 y5 y6 y7
      refine (p5'.out _ (TK.out _ KA.out)).mono ?_
      rintro e v5 ⟨rfl, kk⟩
      have D := hide (D.out.kept kk)
      have KA := hide (KA.out.trans kk)
      clear kk
      have y2 := D.out.2.2.1
      go_wp2
      go_ret
      exact ⟨rfl, KA.out⟩
end Go.Proofs.YtoopeihnmlfneaaDoor
