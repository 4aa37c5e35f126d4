/- The walk of hodmanlaw11.PlaceForms, given what is asked of package place. -/
import Derived.Test.YtegolecdmpikhaaPackG
import Derived.Test.YtegolecdmpikhaaPackJ
import Derived.Deep.CutRange
namespace Go.Proofs.Ytegolecdmpikhaa
open Go.RowKit

def clsL : List Int := [0, 2, 1, 0, 0, 1]
def atsF : List Int := [0, 4, 2, 1, -1, -1]
def fE0 : Eng := Eng.none (2 ^ 0) 8 3
def fE : Nat → Eng
  | 0 => fE0
  | 1 => fE0.put 0 0
  | 2 => (fE0.put 0 0).put 2 1
  | 3 => ((fE0.put 0 0).put 2 1).put 1 1
  | _ => (((fE0.put 0 0).put 2 1).put 1 1).put 0 1
theorem cls83 : Cls 8 3 := by unfold Cls; decide
theorem fE_yes : ∀ i, i < 4 → ∃ k j : Nat, clsL.getD i 0 = (k : Int) ∧ k < (fE i).c ∧ lowS (fE i).N (fE i).c (fE i).p (k : Int) = some j ∧ ((j * 2 ^ k * (fE i).G : Nat) : Int) = atsF.getD i 0 ∧ (fE i).put k j = fE (i + 1) ∧ 0 ≤ atsF.getD i 0
  | 0, _ => ⟨0, 0, rfl, by decide, by decide +kernel, by decide, rfl, by decide⟩
  | 1, _ => ⟨2, 1, rfl, by decide, by decide +kernel, by decide, rfl, by decide⟩
  | 2, _ => ⟨1, 1, rfl, by decide, by decide +kernel, by decide, rfl, by decide⟩
  | 3, _ => ⟨0, 1, rfl, by decide, by decide +kernel, by decide, rfl, by decide⟩
  | i + 4, h => by omega
theorem fE_no : ∀ i, 4 ≤ i → i < 6 → lowS (fE i).N (fE i).c (fE i).p (clsL.getD i 0) = none ∧ fE (i + 1) = fE i ∧ atsF.getD i 0 = -1
  | 4, _, _ => ⟨by decide +kernel, rfl, rfl⟩
  | 5, _, _ => ⟨by decide +kernel, rfl, rfl⟩
  | 0, h, _ => by omega
  | 1, h, _ => by omega
  | 2, h, _ => by omega
  | 3, h, _ => by omega
  | i + 6, _, h => by omega
theorem fE_step {i k j : Nat} (h : (fE i).Ok) (h1 : k < (fE i).c) (h2 : lowS (fE i).N (fE i).c (fE i).p (k : Int) = some j) (h3 : (fE i).put k j = fE (i + 1)) (hl : (fE i).ps.length < 1000) : (fE (i + 1)).Ok := by
  rw [← h3]
  exact h.put h1 (low_place h1 h2).1 (low_place h1 h2).2 hl
theorem fE_few : ∀ i, i < 4 → (fE i).ps.length < 1000
  | 0, _ => by decide
  | 1, _ => by decide +kernel
  | 2, _ => by decide +kernel
  | 3, _ => by decide +kernel
  | i + 4, h => by omega
theorem fE_ok : ∀ i, i ≤ 4 → (fE i).Ok
  | 0, _ => Eng.Ok.none (by decide) (by decide) cls83
  | i + 1, h => by
    obtain ⟨k, j, _, h1, h2, _, h3, _⟩ := fE_yes i (by omega)
    exact fE_step (fE_ok i (by omega)) h1 h2 h3 (fE_few i (by omega))
theorem fE_all (i : Nat) : (fE i).Ok := by
  rcases Nat.lt_or_ge i 4 with h | h
  · exact fE_ok i (by omega)
  · have : fE i = fE 4 := by
      match i, h with
      | i + 4, _ => rfl
    rw [this]
    exact fE_ok 4 (by decide)
theorem clsL_in : ∀ i, i < 6 → In64 (clsL.getD i 0, clsL.getD i 0)
  | 0, _ | 1, _ | 2, _ | 3, _ | 4, _ | 5, _ => by unfold In64; decide
  | i + 6, h => by omega
theorem not_zero (n m : Int) (K N c : Nat) : ¬ EngOk 0 n m K N c := by
  rintro ⟨h, _⟩
  have : 1 ≤ 2 ^ K := Nat.pow_pos (by decide)
  omega
theorem not_wide (g n m : Int) (K N c : Nat) (h0 : g * n > 65536) : ¬ EngOk g n m K N c := by
  rintro ⟨h, h2, h3, _⟩
  subst h h3
  have : ((2 ^ K * N : Nat) : Int) > 65536 := by simpa using h0
  omega
theorem not_six (g : Int) (K N c : Nat) : ¬ EngOk g 6 3 K N c := by
  rintro ⟨_, _, h3, h4, h5⟩
  have e1 : N = 6 := by omega
  have e2 : c = 3 := by omega
  subst e1 e2
  unfold Cls at h5
  revert h5
  decide
/-- an engine's cells and a row's, over a region -/
def HeldF (W : World) (b A k : Nat) (g : Int) (s t : Value) (x : Int) (w : World) : Prop := w.cell? ⟨b, 0, none⟩ = some (.int .i64 g) ∧ w.cell? ⟨b, 1, none⟩ = some s ∧ w.cell? ⟨b, 2, none⟩ = some t ∧ w.cell? ⟨A, k, none⟩ = some (.int .i64 x) ∧ Fresh W w
theorem HeldF.fresh {W : World} {b A k : Nat} {g : Int} {s t : Value} {x : Int} {w w' : World} (h : HeldF W b A k g s t x w) (f : Fresh w w') : HeldF W b A k g s t x w' := by
  obtain ⟨a, b, c, d, e⟩ := h
  exact ⟨(f.cell (World.block_lt_of_cell? _ _ a)).trans a, (f.cell (World.block_lt_of_cell? _ _ b)).trans b, (f.cell (World.block_lt_of_cell? _ _ c)).trans c, (f.cell (World.block_lt_of_cell? _ _ d)).trans d, e.trans f⟩
/-- what is known at a round -/
structure Fm (w : World) (b A C : Nat) (E : Eng) (wr : World) : Prop where
  ev : ∃ g sa c sc ma n mc, EV (· = b) wr b g sa c sc ma n mc E
  a : HasI wr A clsL
  c : HasI wr C atsF
  el : Fresh w wr
  ge : w.heap.size ≤ b
  ne : A ≠ b ∧ C ≠ b
theorem ints_fresh {w w' : World} {n : Nat} {l : List Int} (h : HasI w n l) (k : Fresh w w') : HasI w' n l := fun i hi => (k.cell (World.block_lt_of_cell? _ _ (h i hi))).trans (h i hi)
theorem ints_sto {w : World} {A b : Nat} {l : List Int} (h : HasI w A l) (hne : A ≠ b) {g : Int} {sa : Option Addr} {c sc : Nat} {ma : Option Addr} {n mc : Nat} : HasI (sto w b g sa c sc ma n mc) A l := fun i hi => by
  rw [cell_turn (sto_other hne)]; exact h i hi

set_option maxRecDepth 100000 in
set_option maxHeartbeats 1000000 in
theorem placeForms_walk0 (S : PlaceSays) (w : World) : Calls Try.prog 6 #[] w fun e w' => e = .returned (.bool true) ∧ Fresh w w' := by
  have BG := hide (begun11_true S)
  have SS := hide S
  have EK := hide (show EngOk 1 8 3 0 8 3 from ⟨rfl, by decide, rfl, rfl, cls83⟩)
  have E0 := hide (show Eng.none (2 ^ 0) 8 3 = fE 0 from rfl)
  clear S
  go_enter Try.func6, Try.ntmps6
  go_wp2_with fail
  refine (BG.out _).mono ?_
  rintro e w0 ⟨rfl, f0⟩
  have F0 := hide f0
  clear f0
  go_wp2_with fail
  refine (pnew_to SS.out 1 8 3 0 8 3 (fE 0) _ EK.out E0.out).mono ?_
  rintro e w1 ⟨g1, sa1, c1, sc1, ma1, n1, mc1, rfl, s1, f1⟩
  obtain ⟨w2, b, hw2, hb, v2, f2⟩ := ev_first s1
  obtain ⟨w3, A, hw3, hA, fa⟩ : ∃ w3 A, w3 = w2.alloc (intsO clsL 3) ∧ A = w2.heap.size ∧ Fresh w2 w3 := ⟨_, _, rfl, rfl, fresh_box _ _ _⟩
  obtain ⟨w4, C, hw4, hC, fc⟩ : ∃ w4 C, w4 = w3.alloc (intsO atsF 3) ∧ C = w3.heap.size ∧ Fresh w3 w4 := ⟨_, _, rfl, rfl, fresh_box _ _ _⟩
  have b1 := v2.lt
  have b2 := fa.size
  have FM := hide (show Fm w b A C (fE 0) w4 from ⟨⟨g1, sa1, c1, sc1, ma1, n1, mc1, v2.fresh (fa.trans fc)⟩, by rw [hA, hw3] at *; exact ints_fresh (HasI.made _ _ _) fc, by rw [hC, hw4] at *; exact HasI.made _ _ _, F0.out.trans (f1.trans (f2.trans (fa.trans fc))), by have := (F0.out.trans f1).size; omega, by omega, by omega⟩)
  have HW2 := hide hw2
  have HB := hide hb
  have HW3 := hide (show w3 = w2.alloc (.cells #[.int .i64 0, .int .i64 2, .int .i64 1, .int .i64 0, .int .i64 0, .int .i64 1] 3) from hw3)
  have HA := hide (show b + 1 = A by rw [hA, hw2, hb]; simp)
  have HW4 := hide (show w4 = w3.alloc (.cells #[.int .i64 0, .int .i64 4, .int .i64 2, .int .i64 1, .int .i64 (-1), .int .i64 (-1)] 3) from hw4)
  have HC := hide (show A + 1 = C by rw [hC, hw3, hA]; simp)
  clear s1 f1 v2 f2 hw2 hb hw3 hA fa hw4 hC fc b1 b2 F0 BG
  go_wp2
  rw [← HW2.out, ← HW3.out, ← HW4.out, ← HB.out, HA.out, HC.out]
  clear HW2 HW3 HW4 HB HA HC
  go_loopw [5] (fun i wr => ∃ k : Nat, k ≤ 6 ∧ i = .int .i64 (k : Int) ∧ Fm w b A C (fE k) wr) (fun i _ => (6 - intOf i).toNat)
  case atStart => exact ⟨0, Nat.zero_le _, rfl, FM.out⟩
  case round =>
    obtain ⟨k, hk, rfl, hh⟩ := hrel
    clear FM
    have HK := hide hh
    clear hh
    obtain ⟨g, sa, c, sc, ma, n, mc, ev⟩ := HK.out.ev
    have EV0 := hide ev
    clear ev
    by_cases hk6 : k < 6
    · have k6' : (k : Int) < 6 := by omega
      have k0 : (0 : Int) ≤ (k : Int) := by omega
      have CA := hide (HK.out.a k hk6)
      have CC := hide (HK.out.c k hk6)
      have OK := hide (fE_all k)
      have IX := hide (clsL_in k hk6)
      by_cases h4 : k < 4
      · obtain ⟨kk, j, q1, q2, q3, q4, q5, q6⟩ := fE_yes k h4
        have PC := hide (fun v w X h hX => pplace_yes SS.out v (fE k) (fE (k + 1)) X _ _ kk j w h hX OK.out q1 q2 q3 q4 q5)
        generalize clsL.getD k 0 = cx at *
        generalize atsF.getD k 0 = ax at *
        have AX := hide q6
        clear q1 q2 q3 q4 q5 q6
        go_wp2_with fail
        go_cut [6, 7, 8] from 40 to 74 (fun p u q wx => ∃ B g' sa' c' sc' ma' n' mc', p = .pointer (some ⟨B, 0, none⟩) ∧ u = .int .i64 ax ∧ q = .bool true ∧ EV (· = b) wx B g' sa' c' sc' ma' n' mc' (fE (k + 1)) ∧ B ≠ b ∧ Fresh wr wx)
        case first =>
          have H00 := hide (show HeldF wr b A k g (.slice sa c sc) (.slice ma n mc) cx wr from ⟨EV0.out.cells.1, EV0.out.cells.2.1, EV0.out.cells.2.2, CA.out, Fresh.refl _⟩)
          have HS : Hid (HeldF wr b A k g (.slice sa c sc) (.slice ma n mc) cx wr.drew) := H00.out.fresh (Fresh.refl wr).drew
          refine wp_region_held (S := HeldF wr b A k g (.slice sa c sc) (.slice ma n mc) cx) (by kernel_rfl) ?_
          change wpAnyH _ _ _ _ _ _ _ _ (World.drew _)
          generalize World.drew wr = wd at HS ⊢
          refine held_take (i := 0) (d := 47) (v := ?_) rfl rfl (by kernel_rfl) (by kernel_rfl) (by kernel_rfl) (fun _ _ _ h => h) (by kernel_rfl) ?_ HS.out ?_
          rotate_left
          · intro wz hz
            obtain ⟨y0, y1, y2, y3, -⟩ := hz
            go_simp
            first | done | with_reducible rfl
          refine held_take (i := 1) (d := 48) (v := ?_) rfl rfl (by kernel_rfl) (by kernel_rfl) (by kernel_rfl) (fun _ _ _ h => h) (by kernel_rfl) ?_ HS.out ?_
          rotate_left
          · intro wz hz
            obtain ⟨y0, y1, y2, y3, -⟩ := hz
            go_simp
            first | done | with_reducible rfl
          refine held_take (i := 2) (d := 49) (v := ?_) rfl rfl (by kernel_rfl) (by kernel_rfl) (by kernel_rfl) (fun _ _ _ h => h) (by kernel_rfl) ?_ HS.out ?_
          rotate_left
          · intro wz hz
            obtain ⟨y0, y1, y2, y3, -⟩ := hz
            go_simp
            first | done | with_reducible rfl
          refine held_take (i := 3) (d := 50) (v := ?_) rfl rfl (by kernel_rfl) (by kernel_rfl) (by kernel_rfl) (fun _ _ _ h => h) (by kernel_rfl) ?_ HS.out ?_
          rotate_left
          · intro wz hz
            obtain ⟨y0, y1, y2, y3, -⟩ := hz
            go_simp
            first | done | with_reducible rfl
          refine held_take (i := 4) (d := 51) (v := ?_) rfl rfl (by kernel_rfl) (by kernel_rfl) (by kernel_rfl) (fun _ _ _ h => h) (by kernel_rfl) ?_ HS.out ?_
          rotate_left
          · intro wz hz
            obtain ⟨y0, y1, y2, y3, -⟩ := hz
            go_simp
            first | done | with_reducible rfl
          refine wpAnyH_ready (rs := [5, 10]) (by kernel_rfl) (by simp) ?_
          refine AllReadyH.cons rfl (fun K hK => ?_) (AllReadyH.cons rfl (fun K hK => ?_) AllReadyH.nil)
          · go_simp
            go_wp2_with fail
            refine (PC.out _ _ (· = b) (EV0.out.off.fresh HS.out.2.2.2.2) (fun q hq => by have e : q = b := hq; rw [e]; exact Nat.lt_of_lt_of_le EV0.out.lt HS.out.2.2.2.2.size)).mono ?_
            rintro e w5 ⟨g', sa', c', sc', ma', n', mc', rfl, s5, f5⟩
            have S5 := hide s5
            have HS' := hide (HS.out.fresh f5)
            have F5S := hide HS'.out.2.2.2.2.size
            clear HS s5 f5
            have HS := HS'
            clear HS'
            refine hK.out _ _ HS.out (fun _ => ?_)
            clear hK K
            refine held_take (i := 6) (d := 46) (v := ?_) rfl rfl (by kernel_rfl) (by kernel_rfl) (by kernel_rfl) (fun _ _ _ h => h) (by kernel_rfl) ?_ HS.out ?_
            rotate_left
            · intro wz hz
              obtain ⟨y0, y1, y2, y3, -⟩ := hz
              go_simp
              first | done | with_reducible rfl
            refine held_take (i := 7) (d := 53) (v := ?_) rfl rfl (by kernel_rfl) (by kernel_rfl) (by kernel_rfl) (fun _ _ _ h => h) (by kernel_rfl) ?_ HS.out ?_
            rotate_left
            · intro wz hz
              obtain ⟨y0, y1, y2, y3, -⟩ := hz
              go_simp
              first | done | with_reducible rfl
            refine held_take (i := 8) (d := 54) (v := ?_) rfl rfl (by kernel_rfl) (by kernel_rfl) (by kernel_rfl) (fun _ _ _ h => h) (by kernel_rfl) ?_ HS.out ?_
            rotate_left
            · intro wz hz
              obtain ⟨y0, y1, y2, y3, -⟩ := hz
              go_simp
              first | done | with_reducible rfl
            refine held_take (i := 9) (d := 55) (v := ?_) rfl rfl (by kernel_rfl) (by kernel_rfl) (by kernel_rfl) (fun _ _ _ h => h) (by kernel_rfl) ?_ HS.out ?_
            rotate_left
            · intro wz hz
              obtain ⟨y0, y1, y2, y3, -⟩ := hz
              go_simp
              first | done | with_reducible rfl
            refine wpAnyH_ready (rs := [10]) (by kernel_rfl) (by simp) ?_
            refine AllReadyH.cons rfl (fun K hK => ?_) AllReadyH.nil
            go_simp
            refine zero_block _ ?_; intro w6 hb6 f6 z6; have S6 := hide (S5.out.more f6 (Nat.le_refl _)); have Z6 := hide hb6; have N6 := hide (show w5.heap.size ≠ b by have := Nat.lt_of_lt_of_le EV0.out.lt HS.out.2.2.2.2.size; omega); have HS' := hide (HS.out.fresh f6); clear HS S5 hb6 f6 z6; have HS := HS'; clear HS'
            refine hK.out _ _ HS.out (fun _ => ?_)
            clear hK K
            have FB := hide (show wr.heap.size ≤ w5.heap.size from F5S.out)
            generalize w5.heap.size = B at *
            obtain ⟨r0, r1, r2, q0, q1, q2⟩ := zero_cells Z6.out
            refine wpAnyH_ready (rs := [11]) (by kernel_rfl) (by simp) ?_
            refine AllReadyH.cons rfl (fun K hK => ?_) AllReadyH.nil
            go_simp
            have EN := hide (show EV (· = b) _ B g' sa' c' sc' ma' n' mc' _ from ⟨sto_blk Z6.out, (S6.out.sto (.inr rfl)).less (fun q hq _ => .inl hq)⟩); have FS := hide (sto_fresh (g := g') (sa := sa') (c := c') (sc := sc') (ma := ma') (n := n') (mc := mc') HS.out.2.2.2.2 FB.out); have HS' := hide (H00.out.fresh FS.out); clear r0 r1 r2 q0 q1 q2 HS Z6 S6; unfold sto at EN FS HS'; generalize World.setCell _ ⟨B, 2, none⟩ _ = W9 at EN FS HS' ⊢; have HS := HS'; clear HS'
            refine hK.out _ _ HS.out (fun _ => ?_)
            clear hK K
            refine held_take (i := 12) (d := 7) (v := ?_) rfl rfl (by kernel_rfl) (by kernel_rfl) (by kernel_rfl) (fun _ _ _ h => h) (by kernel_rfl) ?_ HS.out ?_
            rotate_left
            · intro wz hz
              obtain ⟨y0, y1, y2, y3, -⟩ := hz
              go_simp
              first | done | with_reducible rfl
            refine held_take (i := 13) (d := 8) (v := ?_) rfl rfl (by kernel_rfl) (by kernel_rfl) (by kernel_rfl) (fun _ _ _ h => h) (by kernel_rfl) ?_ HS.out ?_
            rotate_left
            · intro wz hz
              obtain ⟨y0, y1, y2, y3, -⟩ := hz
              go_simp
              first | done | with_reducible rfl
            refine wpAnyH_done (by kernel_rfl) ?_ _
            try simp only [Act.put, List.setIfInBounds_toArray, List.set_cons_succ, List.set_cons_zero]
            go_wp2_with fail
            go_meet
            case rel => exact ⟨B, g', sa', c', sc', ma', n', mc', rfl, rfl, rfl, EN.out, N6.out, FS.out⟩
          · go_simp
            refine zero_block _ ?_
            intro w6 hb6 f6 z6
            have S6 := hide (EngOff.more (EV0.out.off.fresh HS.out.2.2.2.2) f6 (Nat.le_refl _))
            have N6 := hide (show wd.heap.size ≠ b by have := Nat.lt_of_lt_of_le EV0.out.lt HS.out.2.2.2.2.size; omega)
            have LB := hide (show wd.heap.size < w6.heap.size by omega)
            have FB := hide (show wr.heap.size ≤ wd.heap.size from HS.out.2.2.2.2.size)
            have Z6 := hide hb6
            have HS' := hide (HS.out.fresh f6)
            clear HS hb6 f6 z6
            have HS := HS'
            clear HS'
            generalize wd.heap.size = B at *
            refine hK.out _ _ HS.out (fun _ => ?_)
            clear hK K
            refine wpAnyH_ready (rs := [5]) (by kernel_rfl) (by simp) ?_
            refine AllReadyH.cons rfl (fun K hK => ?_) AllReadyH.nil
            go_simp
            go_wp2_with fail
            refine (PC.out _ _ (fun q => q = b ∨ q = B) S6.out (fun q hq => by rcases hq with e | e; rw [e]; exact Nat.lt_of_lt_of_le EV0.out.lt HS.out.2.2.2.2.size; rw [e]; exact LB.out)).mono ?_; rintro e w7 ⟨g', sa', c', sc', ma', n', mc', rfl, s7, f7⟩; have S7 := hide s7; have Z7 := hide ((f7.block B LB.out).trans Z6.out); have HS' := hide (HS.out.fresh f7); clear HS s7 f7 S6 Z6; have HS := HS'; clear HS'; have Z6 := Z7; have S6 := S7; clear Z7 S7
            refine hK.out _ _ HS.out (fun _ => ?_)
            clear hK K
            refine held_take (i := 6) (d := 46) (v := ?_) rfl rfl (by kernel_rfl) (by kernel_rfl) (by kernel_rfl) (fun _ _ _ h => h) (by kernel_rfl) ?_ HS.out ?_
            rotate_left
            · intro wz hz
              obtain ⟨y0, y1, y2, y3, -⟩ := hz
              go_simp
              first | done | with_reducible rfl
            refine held_take (i := 7) (d := 53) (v := ?_) rfl rfl (by kernel_rfl) (by kernel_rfl) (by kernel_rfl) (fun _ _ _ h => h) (by kernel_rfl) ?_ HS.out ?_
            rotate_left
            · intro wz hz
              obtain ⟨y0, y1, y2, y3, -⟩ := hz
              go_simp
              first | done | with_reducible rfl
            refine held_take (i := 8) (d := 54) (v := ?_) rfl rfl (by kernel_rfl) (by kernel_rfl) (by kernel_rfl) (fun _ _ _ h => h) (by kernel_rfl) ?_ HS.out ?_
            rotate_left
            · intro wz hz
              obtain ⟨y0, y1, y2, y3, -⟩ := hz
              go_simp
              first | done | with_reducible rfl
            refine held_take (i := 9) (d := 55) (v := ?_) rfl rfl (by kernel_rfl) (by kernel_rfl) (by kernel_rfl) (fun _ _ _ h => h) (by kernel_rfl) ?_ HS.out ?_
            rotate_left
            · intro wz hz
              obtain ⟨y0, y1, y2, y3, -⟩ := hz
              go_simp
              first | done | with_reducible rfl
            obtain ⟨r0, r1, r2, q0, q1, q2⟩ := zero_cells Z6.out
            refine wpAnyH_ready (rs := [11]) (by kernel_rfl) (by simp) ?_
            refine AllReadyH.cons rfl (fun K hK => ?_) AllReadyH.nil
            go_simp
            have EN := hide (show EV (· = b) _ B g' sa' c' sc' ma' n' mc' _ from ⟨sto_blk Z6.out, (S6.out.sto (.inr rfl)).less (fun q hq _ => .inl hq)⟩); have FS := hide (sto_fresh (g := g') (sa := sa') (c := c') (sc := sc') (ma := ma') (n := n') (mc := mc') HS.out.2.2.2.2 FB.out); have HS' := hide (H00.out.fresh FS.out); clear r0 r1 r2 q0 q1 q2 HS Z6 S6; unfold sto at EN FS HS'; generalize World.setCell _ ⟨B, 2, none⟩ _ = W9 at EN FS HS' ⊢; have HS := HS'; clear HS'
            refine hK.out _ _ HS.out (fun _ => ?_)
            clear hK K
            refine held_take (i := 12) (d := 7) (v := ?_) rfl rfl (by kernel_rfl) (by kernel_rfl) (by kernel_rfl) (fun _ _ _ h => h) (by kernel_rfl) ?_ HS.out ?_
            rotate_left
            · intro wz hz
              obtain ⟨y0, y1, y2, y3, -⟩ := hz
              go_simp
              first | done | with_reducible rfl
            refine held_take (i := 13) (d := 8) (v := ?_) rfl rfl (by kernel_rfl) (by kernel_rfl) (by kernel_rfl) (fun _ _ _ h => h) (by kernel_rfl) ?_ HS.out ?_
            rotate_left
            · intro wz hz
              obtain ⟨y0, y1, y2, y3, -⟩ := hz
              go_simp
              first | done | with_reducible rfl
            refine wpAnyH_done (by kernel_rfl) ?_ _
            try simp only [Act.put, List.setIfInBounds_toArray, List.set_cons_succ, List.set_cons_zero]
            go_wp2_with fail
            go_meet
            case rel => exact ⟨B, g', sa', c', sc', ma', n', mc', rfl, rfl, rfl, EN.out, N6.out, FS.out⟩
        case rest =>
          obtain ⟨B, g', sa', c', sc', ma', n', mc', rfl, rfl, rfl, hv, hx, hf⟩ := hcut
          have ax0 := AX.out
          have CC1 := (hf.cell (World.block_lt_of_cell? _ _ CC.out)).trans CC.out
          have V1 := hide hv
          have V0 := hide (EV0.out.fresh hf)
          have F1 := hide (HK.out.el.trans hf)
          have A1 := hide (ints_fresh HK.out.a hf)
          have C1 := hide (ints_fresh HK.out.c hf)
          have NX := hide hx
          clear hv hf hx
          obtain ⟨x0, x1, x2⟩ := V1.out.cells
          obtain ⟨e0, e1, e2⟩ := V0.out.cells
          obtain ⟨p0, p1, p2⟩ := V0.out.free
          have VP := hide (V0.out.put (F := fE (k + 1)) rfl V1.out.off)
          have A2 := hide (ints_sto (g := g') (sa := sa') (c := c') (sc := sc') (ma := ma') (n := n') (mc := mc') A1.out HK.out.ne.1)
          have C2 := hide (ints_sto (g := g') (sa := sa') (c := c') (sc := sc') (ma := ma') (n := n') (mc := mc') C1.out HK.out.ne.2)
          have F2 := hide (sto_fresh (g := g') (sa := sa') (c := c') (sc := sc') (ma := ma') (n := n') (mc := mc') F1.out HK.out.ge)
          unfold sto at VP A2 C2 F2
          go_wp2
          clear x0 x1 x2 e0 e1 e2 p0 p1 p2 CC1
          go_roundw
          case rel => exact ⟨k + 1, by omega, by go_num, ⟨_, _, _, _, _, _, _, VP.out⟩, A2.out, C2.out, F2.out, HK.out.ge, HK.out.ne⟩
          case measure => simp [intOf]; omega
      · obtain ⟨q1, q2, q3⟩ := fE_no k (by omega) hk6
        have PC := hide (fun v w X h hX => pplace_no SS.out v (fE k) X _ w h hX OK.out IX.out q1)
        generalize clsL.getD k 0 = cx at *
        generalize atsF.getD k 0 = ax at *
        subst q3
        have Q2 := hide q2
        clear q1 q2
        go_wp2_with fail
        go_cut [6, 7, 8] from 40 to 74 (fun p u q wx => ∃ B g' sa' c' sc' ma' n' mc', p = .pointer (some ⟨B, 0, none⟩) ∧ u = .int .i64 0 ∧ q = .bool false ∧ EV (· = b) wx B g' sa' c' sc' ma' n' mc' (fE k) ∧ B ≠ b ∧ Fresh wr wx)
        case first =>
          have H00 := hide (show HeldF wr b A k g (.slice sa c sc) (.slice ma n mc) cx wr from ⟨EV0.out.cells.1, EV0.out.cells.2.1, EV0.out.cells.2.2, CA.out, Fresh.refl _⟩)
          have HS : Hid (HeldF wr b A k g (.slice sa c sc) (.slice ma n mc) cx wr.drew) := H00.out.fresh (Fresh.refl wr).drew
          refine wp_region_held (S := HeldF wr b A k g (.slice sa c sc) (.slice ma n mc) cx) (by kernel_rfl) ?_
          change wpAnyH _ _ _ _ _ _ _ _ (World.drew _)
          generalize World.drew wr = wd at HS ⊢
          refine held_take (i := 0) (d := 47) (v := ?_) rfl rfl (by kernel_rfl) (by kernel_rfl) (by kernel_rfl) (fun _ _ _ h => h) (by kernel_rfl) ?_ HS.out ?_
          rotate_left
          · intro wz hz
            obtain ⟨y0, y1, y2, y3, -⟩ := hz
            go_simp
            first | done | with_reducible rfl
          refine held_take (i := 1) (d := 48) (v := ?_) rfl rfl (by kernel_rfl) (by kernel_rfl) (by kernel_rfl) (fun _ _ _ h => h) (by kernel_rfl) ?_ HS.out ?_
          rotate_left
          · intro wz hz
            obtain ⟨y0, y1, y2, y3, -⟩ := hz
            go_simp
            first | done | with_reducible rfl
          refine held_take (i := 2) (d := 49) (v := ?_) rfl rfl (by kernel_rfl) (by kernel_rfl) (by kernel_rfl) (fun _ _ _ h => h) (by kernel_rfl) ?_ HS.out ?_
          rotate_left
          · intro wz hz
            obtain ⟨y0, y1, y2, y3, -⟩ := hz
            go_simp
            first | done | with_reducible rfl
          refine held_take (i := 3) (d := 50) (v := ?_) rfl rfl (by kernel_rfl) (by kernel_rfl) (by kernel_rfl) (fun _ _ _ h => h) (by kernel_rfl) ?_ HS.out ?_
          rotate_left
          · intro wz hz
            obtain ⟨y0, y1, y2, y3, -⟩ := hz
            go_simp
            first | done | with_reducible rfl
          refine held_take (i := 4) (d := 51) (v := ?_) rfl rfl (by kernel_rfl) (by kernel_rfl) (by kernel_rfl) (fun _ _ _ h => h) (by kernel_rfl) ?_ HS.out ?_
          rotate_left
          · intro wz hz
            obtain ⟨y0, y1, y2, y3, -⟩ := hz
            go_simp
            first | done | with_reducible rfl
          refine wpAnyH_ready (rs := [5, 10]) (by kernel_rfl) (by simp) ?_
          refine AllReadyH.cons rfl (fun K hK => ?_) (AllReadyH.cons rfl (fun K hK => ?_) AllReadyH.nil)
          · go_simp
            go_wp2_with fail
            refine (PC.out _ _ (· = b) (EV0.out.off.fresh HS.out.2.2.2.2) (fun q hq => by have e : q = b := hq; rw [e]; exact Nat.lt_of_lt_of_le EV0.out.lt HS.out.2.2.2.2.size)).mono ?_
            rintro e w5 ⟨g', sa', c', sc', ma', n', mc', rfl, s5, f5⟩
            have S5 := hide s5
            have HS' := hide (HS.out.fresh f5)
            have F5S := hide HS'.out.2.2.2.2.size
            clear HS s5 f5
            have HS := HS'
            clear HS'
            refine hK.out _ _ HS.out (fun _ => ?_)
            clear hK K
            refine held_take (i := 6) (d := 46) (v := ?_) rfl rfl (by kernel_rfl) (by kernel_rfl) (by kernel_rfl) (fun _ _ _ h => h) (by kernel_rfl) ?_ HS.out ?_
            rotate_left
            · intro wz hz
              obtain ⟨y0, y1, y2, y3, -⟩ := hz
              go_simp
              first | done | with_reducible rfl
            refine held_take (i := 7) (d := 53) (v := ?_) rfl rfl (by kernel_rfl) (by kernel_rfl) (by kernel_rfl) (fun _ _ _ h => h) (by kernel_rfl) ?_ HS.out ?_
            rotate_left
            · intro wz hz
              obtain ⟨y0, y1, y2, y3, -⟩ := hz
              go_simp
              first | done | with_reducible rfl
            refine held_take (i := 8) (d := 54) (v := ?_) rfl rfl (by kernel_rfl) (by kernel_rfl) (by kernel_rfl) (fun _ _ _ h => h) (by kernel_rfl) ?_ HS.out ?_
            rotate_left
            · intro wz hz
              obtain ⟨y0, y1, y2, y3, -⟩ := hz
              go_simp
              first | done | with_reducible rfl
            refine held_take (i := 9) (d := 55) (v := ?_) rfl rfl (by kernel_rfl) (by kernel_rfl) (by kernel_rfl) (fun _ _ _ h => h) (by kernel_rfl) ?_ HS.out ?_
            rotate_left
            · intro wz hz
              obtain ⟨y0, y1, y2, y3, -⟩ := hz
              go_simp
              first | done | with_reducible rfl
            refine wpAnyH_ready (rs := [10]) (by kernel_rfl) (by simp) ?_
            refine AllReadyH.cons rfl (fun K hK => ?_) AllReadyH.nil
            go_simp
            refine zero_block _ ?_; intro w6 hb6 f6 z6; have S6 := hide (S5.out.more f6 (Nat.le_refl _)); have Z6 := hide hb6; have N6 := hide (show w5.heap.size ≠ b by have := Nat.lt_of_lt_of_le EV0.out.lt HS.out.2.2.2.2.size; omega); have HS' := hide (HS.out.fresh f6); clear HS S5 hb6 f6 z6; have HS := HS'; clear HS'
            refine hK.out _ _ HS.out (fun _ => ?_)
            clear hK K
            have FB := hide (show wr.heap.size ≤ w5.heap.size from F5S.out)
            generalize w5.heap.size = B at *
            obtain ⟨r0, r1, r2, q0, q1, q2⟩ := zero_cells Z6.out
            refine wpAnyH_ready (rs := [11]) (by kernel_rfl) (by simp) ?_
            refine AllReadyH.cons rfl (fun K hK => ?_) AllReadyH.nil
            go_simp
            have EN := hide (show EV (· = b) _ B g' sa' c' sc' ma' n' mc' _ from ⟨sto_blk Z6.out, (S6.out.sto (.inr rfl)).less (fun q hq _ => .inl hq)⟩); have FS := hide (sto_fresh (g := g') (sa := sa') (c := c') (sc := sc') (ma := ma') (n := n') (mc := mc') HS.out.2.2.2.2 FB.out); have HS' := hide (H00.out.fresh FS.out); clear r0 r1 r2 q0 q1 q2 HS Z6 S6; unfold sto at EN FS HS'; generalize World.setCell _ ⟨B, 2, none⟩ _ = W9 at EN FS HS' ⊢; have HS := HS'; clear HS'
            refine hK.out _ _ HS.out (fun _ => ?_)
            clear hK K
            refine held_take (i := 12) (d := 7) (v := ?_) rfl rfl (by kernel_rfl) (by kernel_rfl) (by kernel_rfl) (fun _ _ _ h => h) (by kernel_rfl) ?_ HS.out ?_
            rotate_left
            · intro wz hz
              obtain ⟨y0, y1, y2, y3, -⟩ := hz
              go_simp
              first | done | with_reducible rfl
            refine held_take (i := 13) (d := 8) (v := ?_) rfl rfl (by kernel_rfl) (by kernel_rfl) (by kernel_rfl) (fun _ _ _ h => h) (by kernel_rfl) ?_ HS.out ?_
            rotate_left
            · intro wz hz
              obtain ⟨y0, y1, y2, y3, -⟩ := hz
              go_simp
              first | done | with_reducible rfl
            refine wpAnyH_done (by kernel_rfl) ?_ _
            try simp only [Act.put, List.setIfInBounds_toArray, List.set_cons_succ, List.set_cons_zero]
            go_wp2_with fail
            go_meet
            case rel => exact ⟨B, g', sa', c', sc', ma', n', mc', rfl, rfl, rfl, EN.out, N6.out, FS.out⟩
          · go_simp
            refine zero_block _ ?_
            intro w6 hb6 f6 z6
            have S6 := hide (EngOff.more (EV0.out.off.fresh HS.out.2.2.2.2) f6 (Nat.le_refl _))
            have N6 := hide (show wd.heap.size ≠ b by have := Nat.lt_of_lt_of_le EV0.out.lt HS.out.2.2.2.2.size; omega)
            have LB := hide (show wd.heap.size < w6.heap.size by omega)
            have FB := hide (show wr.heap.size ≤ wd.heap.size from HS.out.2.2.2.2.size)
            have Z6 := hide hb6
            have HS' := hide (HS.out.fresh f6)
            clear HS hb6 f6 z6
            have HS := HS'
            clear HS'
            generalize wd.heap.size = B at *
            refine hK.out _ _ HS.out (fun _ => ?_)
            clear hK K
            refine wpAnyH_ready (rs := [5]) (by kernel_rfl) (by simp) ?_
            refine AllReadyH.cons rfl (fun K hK => ?_) AllReadyH.nil
            go_simp
            go_wp2_with fail
            refine (PC.out _ _ (fun q => q = b ∨ q = B) S6.out (fun q hq => by rcases hq with e | e; rw [e]; exact Nat.lt_of_lt_of_le EV0.out.lt HS.out.2.2.2.2.size; rw [e]; exact LB.out)).mono ?_; rintro e w7 ⟨g', sa', c', sc', ma', n', mc', rfl, s7, f7⟩; have S7 := hide s7; have Z7 := hide ((f7.block B LB.out).trans Z6.out); have HS' := hide (HS.out.fresh f7); clear HS s7 f7 S6 Z6; have HS := HS'; clear HS'; have Z6 := Z7; have S6 := S7; clear Z7 S7
            refine hK.out _ _ HS.out (fun _ => ?_)
            clear hK K
            refine held_take (i := 6) (d := 46) (v := ?_) rfl rfl (by kernel_rfl) (by kernel_rfl) (by kernel_rfl) (fun _ _ _ h => h) (by kernel_rfl) ?_ HS.out ?_
            rotate_left
            · intro wz hz
              obtain ⟨y0, y1, y2, y3, -⟩ := hz
              go_simp
              first | done | with_reducible rfl
            refine held_take (i := 7) (d := 53) (v := ?_) rfl rfl (by kernel_rfl) (by kernel_rfl) (by kernel_rfl) (fun _ _ _ h => h) (by kernel_rfl) ?_ HS.out ?_
            rotate_left
            · intro wz hz
              obtain ⟨y0, y1, y2, y3, -⟩ := hz
              go_simp
              first | done | with_reducible rfl
            refine held_take (i := 8) (d := 54) (v := ?_) rfl rfl (by kernel_rfl) (by kernel_rfl) (by kernel_rfl) (fun _ _ _ h => h) (by kernel_rfl) ?_ HS.out ?_
            rotate_left
            · intro wz hz
              obtain ⟨y0, y1, y2, y3, -⟩ := hz
              go_simp
              first | done | with_reducible rfl
            refine held_take (i := 9) (d := 55) (v := ?_) rfl rfl (by kernel_rfl) (by kernel_rfl) (by kernel_rfl) (fun _ _ _ h => h) (by kernel_rfl) ?_ HS.out ?_
            rotate_left
            · intro wz hz
              obtain ⟨y0, y1, y2, y3, -⟩ := hz
              go_simp
              first | done | with_reducible rfl
            obtain ⟨r0, r1, r2, q0, q1, q2⟩ := zero_cells Z6.out
            refine wpAnyH_ready (rs := [11]) (by kernel_rfl) (by simp) ?_
            refine AllReadyH.cons rfl (fun K hK => ?_) AllReadyH.nil
            go_simp
            have EN := hide (show EV (· = b) _ B g' sa' c' sc' ma' n' mc' _ from ⟨sto_blk Z6.out, (S6.out.sto (.inr rfl)).less (fun q hq _ => .inl hq)⟩); have FS := hide (sto_fresh (g := g') (sa := sa') (c := c') (sc := sc') (ma := ma') (n := n') (mc := mc') HS.out.2.2.2.2 FB.out); have HS' := hide (H00.out.fresh FS.out); clear r0 r1 r2 q0 q1 q2 HS Z6 S6; unfold sto at EN FS HS'; generalize World.setCell _ ⟨B, 2, none⟩ _ = W9 at EN FS HS' ⊢; have HS := HS'; clear HS'
            refine hK.out _ _ HS.out (fun _ => ?_)
            clear hK K
            refine held_take (i := 12) (d := 7) (v := ?_) rfl rfl (by kernel_rfl) (by kernel_rfl) (by kernel_rfl) (fun _ _ _ h => h) (by kernel_rfl) ?_ HS.out ?_
            rotate_left
            · intro wz hz
              obtain ⟨y0, y1, y2, y3, -⟩ := hz
              go_simp
              first | done | with_reducible rfl
            refine held_take (i := 13) (d := 8) (v := ?_) rfl rfl (by kernel_rfl) (by kernel_rfl) (by kernel_rfl) (fun _ _ _ h => h) (by kernel_rfl) ?_ HS.out ?_
            rotate_left
            · intro wz hz
              obtain ⟨y0, y1, y2, y3, -⟩ := hz
              go_simp
              first | done | with_reducible rfl
            refine wpAnyH_done (by kernel_rfl) ?_ _
            try simp only [Act.put, List.setIfInBounds_toArray, List.set_cons_succ, List.set_cons_zero]
            go_wp2_with fail
            go_meet
            case rel => exact ⟨B, g', sa', c', sc', ma', n', mc', rfl, rfl, rfl, EN.out, N6.out, FS.out⟩
        case rest =>
          obtain ⟨B, g', sa', c', sc', ma', n', mc', rfl, rfl, rfl, hv, hx, hf⟩ := hcut
          rw [← Q2.out] at hv
          have CC1 := (hf.cell (World.block_lt_of_cell? _ _ CC.out)).trans CC.out
          have V1 := hide hv
          have V0 := hide (EV0.out.fresh hf)
          have F1 := hide (HK.out.el.trans hf)
          have A1 := hide (ints_fresh HK.out.a hf)
          have C1 := hide (ints_fresh HK.out.c hf)
          have NX := hide hx
          clear hv hf hx
          obtain ⟨x0, x1, x2⟩ := V1.out.cells
          obtain ⟨e0, e1, e2⟩ := V0.out.cells
          obtain ⟨p0, p1, p2⟩ := V0.out.free
          have VP := hide (V0.out.put (F := fE (k + 1)) rfl V1.out.off)
          have A2 := hide (ints_sto (g := g') (sa := sa') (c := c') (sc := sc') (ma := ma') (n := n') (mc := mc') A1.out HK.out.ne.1)
          have C2 := hide (ints_sto (g := g') (sa := sa') (c := c') (sc := sc') (ma := ma') (n := n') (mc := mc') C1.out HK.out.ne.2)
          have F2 := hide (sto_fresh (g := g') (sa := sa') (c := c') (sc := sc') (ma := ma') (n := n') (mc := mc') F1.out HK.out.ge)
          unfold sto at VP A2 C2 F2
          go_wp2
          clear x0 x1 x2 e0 e1 e2 p0 p1 p2 CC1
          go_roundw
          case rel => exact ⟨k + 1, by omega, by go_num, ⟨_, _, _, _, _, _, _, VP.out⟩, A2.out, C2.out, F2.out, HK.out.ge, HK.out.ne⟩
          case measure => simp [intOf]; omega
    · obtain rfl : k = 6 := by omega
      have VE := hide (show EV (· = b) wr b g sa c sc ma n mc (fE 6) from EV0.out)
      have FW := hide HK.out.el
      clear EV0 HK
      obtain ⟨E, hE⟩ : ∃ E, E = fE 6 := ⟨_, rfl⟩
      obtain ⟨F, hF⟩ : ∃ F, E.tak 2 1 = F := ⟨_, rfl⟩
      obtain ⟨G, hG⟩ : ∃ G, F.put 1 2 = G := ⟨_, rfl⟩
      rw [← hE] at VE
      have OE := hide (show E.Ok by rw [hE]; exact fE_all 6)
      have ME := hide (show ((((1 * 2 ^ 2 * E.G : Nat) : Int), ((2 : Nat) : Int)) : Pc) ∈ E.ps by rw [hE]; decide +kernel)
      have XE := hide (show (4 : Int) = ((1 * 2 ^ 2 * E.G : Nat) : Int) by rw [hE]; decide +kernel)
      have KE := hide (show 2 < E.c ∧ (1 + 1) * 2 ^ 2 ≤ E.N by rw [hE]; decide +kernel)
      have OF := hide (show F.Ok by rw [← hF]; exact OE.out.tak ME.out)
      have LF := hide (show lowS F.N F.c F.p ((1 : Nat) : Int) = some 2 by rw [← hF, hE]; decide +kernel)
      have KF := hide (show 1 < F.c by rw [← hF, hE]; decide +kernel)
      have RF := hide (show ((2 * 2 ^ 1 * F.G : Nat) : Int) = 4 by rw [← hF, hE]; decide +kernel)
      have OG := hide (show G.Ok by rw [← hG]; exact OF.out.put KF.out (low_place KF.out LF.out).1 (low_place KF.out LF.out).2 (by rw [← hF, hE]; decide +kernel))
      have NG := hide (show G.ps.length = 4 by rw [← hG, ← hF, hE]; decide +kernel)
      have L3 := hide (show lowS G.N G.c G.p 3 = none by rw [← hG, ← hF, hE]; decide +kernel)
      have L4 := hide (show lowS G.N G.c G.p (-1) = none by rw [← hG, ← hF, hE]; decide +kernel)
      have H5 := hide (show hitM G.ps 5 = false by rw [← hG, ← hF, hE]; decide +kernel)
      have HF := hide hF
      have HG := hide hG
      clear hE hF hG
      obtain ⟨e0, e1, e2⟩ := VE.out.cells
      go_wp2_with fail
      refine (prel_yes SS.out _ E F noX 4 2 2 1 _ (VE.out.off.less (fun _ h => h.elim)) (low_noX _) OE.out XE.out rfl ME.out KE.out.1 KE.out.2 HF.out).mono ?_
      rintro e w1 ⟨g1, sa1, c1, sc1, ma1, n1, mc1, rfl, s1, f1⟩
      obtain ⟨w2, B2, hw2, hB2, v2, f2⟩ := ev_new s1
      have VF := hide v2
      have F2 := hide (FW.out.trans (f1.trans f2))
      have HW2 := hide hw2
      have HB2 := hide hB2
      clear s1 f1 v2 f2 hw2 hB2 e0 e1 e2 FW VE
      go_wp2_with fail
      rw [← HW2.out, ← HB2.out]
      refine (pplace_yes SS.out _ F G noX 1 4 1 2 _ VF.out.off (low_noX _) OF.out rfl KF.out LF.out RF.out HG.out).mono ?_
      rintro e w3 ⟨g3, sa3, c3, sc3, ma3, n3, mc3, rfl, s3, f3⟩
      obtain ⟨w4, B4, hw4, hB4, v4, f4⟩ := ev_new s3
      have VG := hide v4
      have F4 := hide (F2.out.trans (f3.trans f4))
      have HW4 := hide hw4
      have HB4 := hide hB4
      clear s3 f3 v4 f4 hw4 hB4 VF F2 HW2 HB2
      go_wp2_with fail
      rw [← HW4.out, ← HB4.out]
      refine (pplace_no SS.out _ G noX 3 _ VG.out.off (low_noX _) OG.out (by unfold In64; decide) L3.out).mono ?_
      rintro e w5 ⟨g5, sa5, c5, sc5, ma5, n5, mc5, rfl, _, f5⟩
      obtain ⟨w6, hw6⟩ : ∃ w6, w6 = w5.alloc (.cells #[.int .i64 g5, .slice sa5 c5 sc5, .slice ma5 n5 mc5] 29) := ⟨_, rfl⟩
      have f6 : Fresh w5 w6 := by rw [hw6]; exact fresh_box _ _ _
      have VG' := hide (VG.out.fresh (f5.trans f6))
      have F6 := hide (F4.out.trans (f5.trans f6))
      have HW6 := hide hw6
      clear f5 f6 hw6 VG F4 HW4
      have VG := VG'
      clear VG'
      obtain ⟨y0, y1, y2⟩ := VG.out.cells
      rw [HW6.out] at y0 y1 y2
      go_wp2_with fail
      rw [← HW6.out]
      clear y0 y1 y2
      refine (pplace_no SS.out _ G noX (-1) _ VG.out.off (low_noX _) OG.out (by unfold In64; decide) L4.out).mono ?_
      rintro e w7 ⟨g7, sa7, c7, sc7, ma7, n7, mc7, rfl, _, f7⟩
      obtain ⟨w8, hw8⟩ : ∃ w8, w8 = w7.alloc (.cells #[.int .i64 g7, .slice sa7 c7 sc7, .slice ma7 n7 mc7] 29) := ⟨_, rfl⟩
      have f8 : Fresh w7 w8 := by rw [hw8]; exact fresh_box _ _ _
      have VG' := hide (VG.out.fresh (f7.trans f8))
      have F8 := hide (F6.out.trans (f7.trans f8))
      have HW8 := hide hw8
      clear f7 f8 hw8 VG F6 HW6
      have VG := VG'
      clear VG'
      obtain ⟨y0, y1, y2⟩ := VG.out.cells
      rw [HW8.out] at y0 y1 y2
      go_wp2_with fail
      rw [← HW8.out]
      clear y0 y1 y2
      refine (prel_no SS.out _ G noX 5 _ VG.out.off (low_noX _) OG.out (by unfold In64; decide) H5.out).mono ?_
      rintro e w9 ⟨g9, sa9, c9, sc9, ma9, n9, mc9, rfl, _, f9⟩
      obtain ⟨w10, hw10⟩ : ∃ w10, w10 = w9.alloc (.cells #[.int .i64 g9, .slice sa9 c9 sc9, .slice ma9 n9 mc9] 29) := ⟨_, rfl⟩
      have f10 : Fresh w9 w10 := by rw [hw10]; exact fresh_box _ _ _
      have VG' := hide (VG.out.fresh (f9.trans f10))
      have F10 := hide (F8.out.trans (f9.trans f10))
      have HW10 := hide hw10
      clear f9 f10 hw10 VG F8 HW8
      have VG := VG'
      clear VG'
      go_wp2_with fail
      rw [← HW10.out]
      refine (SS.out.new_no 0 8 3 _ (by unfold In64; decide) (by unfold In64; decide) (not_zero 8 3)).mono ?_
      rintro e w11 ⟨rfl, f11⟩
      unfold noEng
      obtain ⟨w12, hw12⟩ : ∃ w12, w12 = w11.alloc (.cells #[.int .i64 0, .slice none 0 0, .slice none 0 0] 29) := ⟨_, rfl⟩
      have f12 : Fresh w11 w12 := by rw [hw12]; exact fresh_box _ _ _
      have VG' := hide (VG.out.fresh (f11.trans f12))
      have F12 := hide (F10.out.trans (f11.trans f12))
      have HW12 := hide hw12
      clear f11 f12 hw12 VG F10 HW10
      have VG := VG'
      clear VG'
      go_wp2_with fail
      rw [← HW12.out]
      refine (SS.out.new_no 131072 8 3 _ (by unfold In64; decide) (by unfold In64; decide) (fun K N c => not_wide 131072 8 3 K N c (by decide))).mono ?_
      rintro e w13 ⟨rfl, f13⟩
      unfold noEng
      obtain ⟨w14, hw14⟩ : ∃ w14, w14 = w13.alloc (.cells #[.int .i64 0, .slice none 0 0, .slice none 0 0] 29) := ⟨_, rfl⟩
      have f14 : Fresh w13 w14 := by rw [hw14]; exact fresh_box _ _ _
      have VG' := hide (VG.out.fresh (f13.trans f14))
      have F14 := hide (F12.out.trans (f13.trans f14))
      have HW14 := hide hw14
      clear f13 f14 hw14 VG F12 HW12
      have VG := VG'
      clear VG'
      go_wp2_with fail
      rw [← HW14.out]
      refine (SS.out.new_no 65536 2 1 _ (by unfold In64; decide) (by unfold In64; decide) (fun K N c => not_wide 65536 2 1 K N c (by decide))).mono ?_
      rintro e w15 ⟨rfl, f15⟩
      unfold noEng
      obtain ⟨w16, hw16⟩ : ∃ w16, w16 = w15.alloc (.cells #[.int .i64 0, .slice none 0 0, .slice none 0 0] 29) := ⟨_, rfl⟩
      have f16 : Fresh w15 w16 := by rw [hw16]; exact fresh_box _ _ _
      have VG' := hide (VG.out.fresh (f15.trans f16))
      have F16 := hide (F14.out.trans (f15.trans f16))
      have HW16 := hide hw16
      clear f15 f16 hw16 VG F14 HW14
      have VG := VG'
      clear VG'
      go_wp2_with fail
      rw [← HW16.out]
      refine (SS.out.new_no 1 6 3 _ (by unfold In64; decide) (by unfold In64; decide) (not_six 1)).mono ?_
      rintro e w17 ⟨rfl, f17⟩
      unfold noEng
      obtain ⟨w18, hw18⟩ : ∃ w18, w18 = w17.alloc (.cells #[.int .i64 0, .slice none 0 0, .slice none 0 0] 29) := ⟨_, rfl⟩
      have f18 : Fresh w17 w18 := by rw [hw18]; exact fresh_box _ _ _
      have VG' := hide (VG.out.fresh (f17.trans f18))
      have F18 := hide (F16.out.trans (f17.trans f18))
      have HW18 := hide hw18
      clear f17 f18 hw18 VG F16 HW16
      have VG := VG'
      clear VG'
      obtain ⟨y0, y1, y2⟩ := VG.out.cells
      have yn : n3 = 4 := by rw [VG.out.off.at.len]; exact NG.out
      subst yn
      rw [HW18.out] at y0 y1 y2
      go_wp2
      rw [← HW18.out]
      clear y0 y1 y2
      go_ret
      exact ⟨rfl, F18.out⟩
end Go.Proofs.Ytegolecdmpikhaa
