/- The walk of hodmanlaw11.PlaceBack, given what is asked of package place. -/
import Derived.Test.YtegolecdmpikhaaPackG
import Derived.Test.YtegolecdmpikhaaPackJ
namespace Go.Proofs.Ytegolecdmpikhaa
open Go.RowKit

/-- where the law stands behind j deeds -/
structure Bk (W w : World) (b : Nat) (E : Eng) (j : Nat) : Prop where
  ev : ∃ g sa c sc ma n mc, EV (· = b) w b g sa c sc ma n mc E
  ok : E.Ok
  is : E.G = 2 ∧ E.N = 64 ∧ E.c = 4 ∧ E.ps.length ≤ j
  el : Fresh W w
  ge : W.heap.size ≤ b
/-- an engine's cells and a byte, over a region -/
def HeldD (W : World) (b : Nat) (g : Int) (s t : Value) (q r : Nat) (z : Int) (w : World) : Prop := w.cell? ⟨b, 0, none⟩ = some (.int .i64 g) ∧ w.cell? ⟨b, 1, none⟩ = some s ∧ w.cell? ⟨b, 2, none⟩ = some t ∧ w.cell? ⟨q, r, none⟩ = some (.int .u8 z) ∧ Fresh W w
theorem HeldD.fresh {W : World} {b : Nat} {g : Int} {s t : Value} {q r : Nat} {z : Int} {w w' : World} (h : HeldD W b g s t q r z w) (f : Fresh w w') : HeldD W b g s t q r z w' := by
  obtain ⟨a, b, c, d, e⟩ := h
  exact ⟨(f.cell (World.block_lt_of_cell? _ _ a)).trans a, (f.cell (World.block_lt_of_cell? _ _ b)).trans b, (f.cell (World.block_lt_of_cell? _ _ c)).trans c, (f.cell (World.block_lt_of_cell? _ _ d)).trans d, e.trans f⟩
/-- .. and a mark's beginning -/
def HeldM (W : World) (b : Nat) (g : Int) (s t : Value) (q r : Nat) (z : Int) (m k : Nat) (x : Int) (w : World) : Prop := w.cell? ⟨b, 0, none⟩ = some (.int .i64 g) ∧ w.cell? ⟨b, 1, none⟩ = some s ∧ w.cell? ⟨b, 2, none⟩ = some t ∧ w.cell? ⟨q, r, none⟩ = some (.int .u8 z) ∧ w.cell? ⟨m, k, none⟩ = some (.int .i64 x) ∧ Fresh W w
theorem HeldM.fresh {W : World} {b : Nat} {g : Int} {s t : Value} {q r : Nat} {z : Int} {m k : Nat} {x : Int} {w w' : World} (h : HeldM W b g s t q r z m k x w) (f : Fresh w w') : HeldM W b g s t q r z m k x w' := by
  obtain ⟨a, b, c, d, d', e⟩ := h
  exact ⟨(f.cell (World.block_lt_of_cell? _ _ a)).trans a, (f.cell (World.block_lt_of_cell? _ _ b)).trans b, (f.cell (World.block_lt_of_cell? _ _ c)).trans c, (f.cell (World.block_lt_of_cell? _ _ d)).trans d, (f.cell (World.block_lt_of_cell? _ _ d')).trans d', e.trans f⟩
theorem low_eq {b : Nat} {w : World} (h : b < w.heap.size) : Low (· = b) w := fun k hk => by have e : k = b := hk; rw [e]; exact h

set_option maxRecDepth 100000 in
set_option maxHeartbeats 2000000 in
theorem placeBack_walk0 (S : PlaceSays) (a : Option Addr) (len cap : Nat) (z : Int) (hz1 : 0 ≤ z) (hz2 : z ≤ 255) (w : World) (hrow : IsDuo w a len ∧ len ≤ maxLen) :
    Calls Try.prog 5 #[.slice a len cap, .int .u8 z] w fun e w' => e = .returned (.bool true) ∧ Fresh w w' := by
  have BG := hide (begun11_true S)
  have SS := hide S
  have CC : Cls 64 4 := by unfold Cls; decide
  have EK := hide (show EngOk 2 64 4 1 64 4 from ⟨rfl, by decide, rfl, rfl, CC⟩)
  have OE := hide (Eng.Ok.none (G := 2 ^ 1) (by decide) (by decide) CC)
  clear CC S
  by_cases h30 : len ≤ 30
  · have l0 : (len : Int) ≤ 30 := by omega
    have DU := hide hrow.1
    have L30 := hide h30
    clear hrow h30
    go_enter Try.func5, Try.ntmps5
    go_wp2_with fail
    refine (BG.out _).mono ?_
    rintro e w0 ⟨rfl, f0⟩
    have F0 := hide f0
    clear f0
    go_wp2_with fail
    refine (pnew_to SS.out 2 64 4 1 64 4 _ _ EK.out rfl).mono ?_
    rintro e w1 ⟨g1, sa1, c1, sc1, ma1, n1, mc1, rfl, s1, f1⟩
    obtain ⟨w2, b, hw2, hb, v2, f2⟩ := ev_first s1
    have BK0 := hide (show Bk w w2 b (Eng.none (2 ^ 1) 64 4) 0 from ⟨⟨_, _, _, _, _, _, _, v2⟩, OE.out, ⟨rfl, rfl, rfl, Nat.le_refl _⟩, F0.out.trans (f1.trans f2), by rw [hb]; exact (F0.out.trans f1).size⟩)
    have HW2 := hide hw2
    have HB := hide hb
    clear s1 f1 v2 f2 hw2 hb F0
    go_wp2
    rw [← HW2.out, ← HB.out]
    clear HW2 HB
    go_loopw [7] (fun i wr => ∃ (j : Nat) (E : Eng), j ≤ len ∧ i = .int .i64 (j : Int) ∧ Bk w wr b E j) (fun i _ => (len - intOf i).toNat)
    case atStart => exact ⟨0, _, Nat.zero_le _, rfl, BK0.out⟩
    case round =>
      obtain ⟨j, E, hj, rfl, hbk⟩ := hrel
      have BK := hide hbk
      have j0 : (0 : Int) ≤ (j : Int) := by omega
      obtain ⟨g, sa, c, sc, ma, n, mc, ev⟩ := hbk.ev
      have EV0 := hide ev
      clear hbk ev BK0 OE EK
      by_cases gj : j < len
      · have g' : (j : Int) < (len : Int) := by omega
        obtain ⟨q, o, z0, z1, rfl, ⟨h0, b0, b0'⟩, ⟨h1, b1, b1'⟩⟩ := duo_fresh DU.out BK.out.el j gj
        have LT := hide EV0.out.lt
        by_cases hz : 0 < z0 % 3
        · have hzd : decide (0 < z0 % 3) = true := decide_eq_true hz
          obtain ⟨X, hX⟩ : ∃ X, z1 % 4 = X := ⟨_, rfl⟩
          obtain ⟨kk, hkk⟩ : ∃ kk : Nat, X = (kk : Int) := ⟨X.toNat, by omega⟩
          have K4 : kk < 4 := by omega
          have e1 : IntKind.i64.wrap (z1.tmod 4) = X := by rw [Int.tmod_eq_emod_of_nonneg b1, IntKind.wrap_i64]; omega
          have HS : Hid (HeldD wr b g (.slice sa c sc) (.slice ma n mc) q (o + j * 2 + 1) z1 wr.drew) := HeldD.fresh ⟨EV0.out.cells.1, EV0.out.cells.2.1, EV0.out.cells.2.2, h1, Fresh.refl _⟩ (Fresh.refl wr).drew
          have KC := hide (show kk < E.c by rw [BK.out.is.2.2.1]; exact K4)
          have KX := hide hkk
          clear hX hz
          rcases low_cases (N := E.N) E.p KC.out with ⟨i, hi, _, hf, _⟩ | ⟨hl, _⟩
          · obtain ⟨F, hF⟩ : ∃ F, E.put kk i = F := ⟨_, rfl⟩
            have FO := hide (show F.Ok by rw [← hF]; exact BK.out.ok.put KC.out (low_place KC.out hi).1 hf (by have := BK.out.is.2.2.2; have := L30.out; omega))
            have FN := hide (show F.G = 2 ∧ F.N = 64 ∧ F.c = 4 ∧ F.ps.length ≤ j + 1 by rw [← hF]; exact ⟨BK.out.is.1, BK.out.is.2.1, BK.out.is.2.2.1, Nat.le_trans (put_len E kk i) (by have := BK.out.is.2.2.2; omega)⟩)
            have PC := hide (fun w' (k : Fresh wr w') => pplace_yes SS.out (ev3 g sa c sc ma n mc) E F (· = b) X _ kk i w' (EV0.out.off.fresh k) (low_eq (Nat.lt_of_lt_of_le LT.out k.size)) BK.out.ok KX.out KC.out hi rfl hF)
            generalize ((i * 2 ^ kk * E.G : Nat) : Int) = at0 at PC
            clear hi hf hF hkk K4
            go_wp2_with fail
            refine wp_region_z (z := 13) (S := HeldD wr b g (.slice sa c sc) (.slice ma n mc) q (o + j * 2 + 1) z1) (by kernel_rfl) ?_
            change wpAnyZ _ _ _ _ _ _ _ _ _ (World.drew _)
            generalize World.drew wr = wd at HS ⊢
            refine holdz_take (i := 0) (d := 43) (v := ?_) rfl rfl (by kernel_rfl) (by kernel_rfl) (by kernel_rfl) (by kernel_rfl) (by kernel_rfl) (fun _ _ _ h => h) (by kernel_rfl) ?_ HS.out ?_
            rotate_left
            · intro wz hz
              obtain ⟨y0, y1, y2, y3, -⟩ := hz
              go_simp
              first | done | with_reducible rfl
            refine holdz_take (i := 1) (d := 44) (v := ?_) rfl rfl (by kernel_rfl) (by kernel_rfl) (by kernel_rfl) (by kernel_rfl) (by kernel_rfl) (fun _ _ _ h => h) (by kernel_rfl) ?_ HS.out ?_
            rotate_left
            · intro wz hz
              obtain ⟨y0, y1, y2, y3, -⟩ := hz
              go_simp
              first | done | with_reducible rfl
            refine holdz_take (i := 2) (d := 45) (v := ?_) rfl rfl (by kernel_rfl) (by kernel_rfl) (by kernel_rfl) (by kernel_rfl) (by kernel_rfl) (fun _ _ _ h => h) (by kernel_rfl) ?_ HS.out ?_
            rotate_left
            · intro wz hz
              obtain ⟨y0, y1, y2, y3, -⟩ := hz
              go_simp
              first | done | with_reducible rfl
            refine holdz_take (i := 3) (d := 46) (v := ?_) rfl rfl (by kernel_rfl) (by kernel_rfl) (by kernel_rfl) (by kernel_rfl) (by kernel_rfl) (fun _ _ _ h => h) (by kernel_rfl) ?_ HS.out ?_
            rotate_left
            · intro wz hz
              obtain ⟨y0, y1, y2, y3, -⟩ := hz
              go_simp
              first | done | with_reducible rfl
            refine holdz_take (i := 4) (d := 47) (v := ?_) rfl rfl (by kernel_rfl) (by kernel_rfl) (by kernel_rfl) (by kernel_rfl) (by kernel_rfl) (fun _ _ _ h => h) (by kernel_rfl) ?_ HS.out ?_
            rotate_left
            · intro wz hz
              obtain ⟨y0, y1, y2, y3, -⟩ := hz
              go_simp
              first | done | with_reducible rfl
            refine holdz_take (i := 5) (d := 48) (v := ?_) rfl rfl (by kernel_rfl) (by kernel_rfl) (by kernel_rfl) (by kernel_rfl) (by kernel_rfl) (fun _ _ _ h => h) (by kernel_rfl) ?_ HS.out ?_
            rotate_left
            · intro wz hz
              obtain ⟨y0, y1, y2, y3, -⟩ := hz
              go_simp
              first | done | with_reducible rfl
            refine holdz_take (i := 6) (d := 49) (v := ?_) rfl rfl (by kernel_rfl) (by kernel_rfl) (by kernel_rfl) (by kernel_rfl) (by kernel_rfl) (fun _ _ _ h => h) (by kernel_rfl) ?_ HS.out ?_
            rotate_left
            · intro wz hz
              obtain ⟨y0, y1, y2, y3, -⟩ := hz
              go_simp
              first | done | with_reducible rfl
            refine holdz_take (i := 7) (d := 50) (v := ?_) rfl rfl (by kernel_rfl) (by kernel_rfl) (by kernel_rfl) (by kernel_rfl) (by kernel_rfl) (fun _ _ _ h => h) (by kernel_rfl) ?_ HS.out ?_
            rotate_left
            · intro wz hz
              obtain ⟨y0, y1, y2, y3, -⟩ := hz
              go_simp
              first | done | with_reducible rfl
            refine wpAnyZ_ready (rs := [8]) (by kernel_rfl) (by simp) ?_
            refine AllReadyZ.cons rfl (fun K hK => ?_) AllReadyZ.nil
            go_simp
            go_wp2_with fail
            refine (PC.out _ HS.out.2.2.2.2).mono ?_; rintro e w5 ⟨g', sa', c', sc', ma', n', mc', rfl, s5, f5⟩; have S5 := hide s5; have HS' := hide (HS.out.fresh f5); clear HS s5 f5; have HS := HS'; clear HS'
            refine hK.out _ _ (.inr HS.out) ?_
            clear hK K
            refine holdz_take (i := 9) (d := 42) (v := ?_) rfl rfl (by kernel_rfl) (by kernel_rfl) (by kernel_rfl) (by kernel_rfl) (by kernel_rfl) (fun _ _ _ h => h) (by kernel_rfl) ?_ HS.out ?_
            rotate_left
            · intro wz hz
              obtain ⟨y0, y1, y2, y3, -⟩ := hz
              go_simp
              first | done | with_reducible rfl
            refine holdz_take (i := 10) (d := 52) (v := ?_) rfl rfl (by kernel_rfl) (by kernel_rfl) (by kernel_rfl) (by kernel_rfl) (by kernel_rfl) (fun _ _ _ h => h) (by kernel_rfl) ?_ HS.out ?_
            rotate_left
            · intro wz hz
              obtain ⟨y0, y1, y2, y3, -⟩ := hz
              go_simp
              first | done | with_reducible rfl
            refine holdz_any (i := 11) (d := 53) (v := ?_) rfl rfl (by kernel_rfl) (by kernel_rfl) (by kernel_rfl) (by kernel_rfl) (fun _ _ _ h => h) (by kernel_rfl) ?_ HS.out ?_
            rotate_left
            · intro wz
              go_simp
              first | done | with_reducible rfl
            refine holdz_any (i := 12) (d := 54) (v := ?_) rfl rfl (by kernel_rfl) (by kernel_rfl) (by kernel_rfl) (by kernel_rfl) (fun _ _ _ h => h) (by kernel_rfl) ?_ HS.out ?_
            rotate_left
            · intro wz
              go_simp
              first | done | with_reducible rfl
            have EC := hide (EV0.out.fresh HS.out.2.2.2.2)
            obtain ⟨r0, r1, r2⟩ := EC.out.cells
            obtain ⟨p0, p1, p2⟩ := EC.out.free
            have NX := hide (show Bk w (sto w5 b g' sa' c' sc' ma' n' mc') b F (j + 1) from ⟨⟨_, _, _, _, _, _, _, EC.out.put rfl S5.out⟩, FO.out, FN.out, sto_fresh (BK.out.el.trans HS.out.2.2.2.2) BK.out.ge, BK.out.ge⟩)
            refine wpAnyZ_ready (rs := [13]) (by kernel_rfl) (by simp) ?_
            refine AllReadyZ.cons rfl (fun K hK => ?_) AllReadyZ.nil
            go_simp
            clear r0 r1 r2 p0 p1 p2 HS S5 EC; unfold sto at NX; generalize World.setCell _ ⟨b, 2, none⟩ _ = W9 at NX ⊢
            refine hK.out _ _ (.inl (by kernel_rfl)) ?_
            clear hK K
            refine wpAnyZ_of_any _ _ _ _ (by kernel_rfl) ?_
            refine wpAny_done (by kernel_rfl) ?_ _
            try simp only [Act.put, List.setIfInBounds_toArray, List.set_cons_succ, List.set_cons_zero]
            go_wp2
            go_roundw
            case rel => exact ⟨j + 1, F, by omega, by go_num, NX.out⟩
            case measure => simp [intOf]; omega
          · obtain ⟨F, hF⟩ : ∃ F, E = F := ⟨_, rfl⟩
            have FO := hide (show F.Ok by rw [← hF]; exact BK.out.ok)
            have FN := hide (show F.G = 2 ∧ F.N = 64 ∧ F.c = 4 ∧ F.ps.length ≤ j + 1 by rw [← hF]; exact ⟨BK.out.is.1, BK.out.is.2.1, BK.out.is.2.2.1, Nat.le_trans BK.out.is.2.2.2 (Nat.le_succ _)⟩)
            have PC := hide (fun w' (k : Fresh wr w') => pplace_no SS.out (ev3 g sa c sc ma n mc) E (· = b) X w' (EV0.out.off.fresh k) (low_eq (Nat.lt_of_lt_of_le LT.out k.size)) BK.out.ok (by unfold In64; simp only; omega) (by rw [KX.out]; exact hl))
            rw [hF] at PC
            clear hl hF hkk K4
            go_wp2_with fail
            refine wp_region_z (z := 13) (S := HeldD wr b g (.slice sa c sc) (.slice ma n mc) q (o + j * 2 + 1) z1) (by kernel_rfl) ?_
            change wpAnyZ _ _ _ _ _ _ _ _ _ (World.drew _)
            generalize World.drew wr = wd at HS ⊢
            refine holdz_take (i := 0) (d := 43) (v := ?_) rfl rfl (by kernel_rfl) (by kernel_rfl) (by kernel_rfl) (by kernel_rfl) (by kernel_rfl) (fun _ _ _ h => h) (by kernel_rfl) ?_ HS.out ?_
            rotate_left
            · intro wz hz
              obtain ⟨y0, y1, y2, y3, -⟩ := hz
              go_simp
              first | done | with_reducible rfl
            refine holdz_take (i := 1) (d := 44) (v := ?_) rfl rfl (by kernel_rfl) (by kernel_rfl) (by kernel_rfl) (by kernel_rfl) (by kernel_rfl) (fun _ _ _ h => h) (by kernel_rfl) ?_ HS.out ?_
            rotate_left
            · intro wz hz
              obtain ⟨y0, y1, y2, y3, -⟩ := hz
              go_simp
              first | done | with_reducible rfl
            refine holdz_take (i := 2) (d := 45) (v := ?_) rfl rfl (by kernel_rfl) (by kernel_rfl) (by kernel_rfl) (by kernel_rfl) (by kernel_rfl) (fun _ _ _ h => h) (by kernel_rfl) ?_ HS.out ?_
            rotate_left
            · intro wz hz
              obtain ⟨y0, y1, y2, y3, -⟩ := hz
              go_simp
              first | done | with_reducible rfl
            refine holdz_take (i := 3) (d := 46) (v := ?_) rfl rfl (by kernel_rfl) (by kernel_rfl) (by kernel_rfl) (by kernel_rfl) (by kernel_rfl) (fun _ _ _ h => h) (by kernel_rfl) ?_ HS.out ?_
            rotate_left
            · intro wz hz
              obtain ⟨y0, y1, y2, y3, -⟩ := hz
              go_simp
              first | done | with_reducible rfl
            refine holdz_take (i := 4) (d := 47) (v := ?_) rfl rfl (by kernel_rfl) (by kernel_rfl) (by kernel_rfl) (by kernel_rfl) (by kernel_rfl) (fun _ _ _ h => h) (by kernel_rfl) ?_ HS.out ?_
            rotate_left
            · intro wz hz
              obtain ⟨y0, y1, y2, y3, -⟩ := hz
              go_simp
              first | done | with_reducible rfl
            refine holdz_take (i := 5) (d := 48) (v := ?_) rfl rfl (by kernel_rfl) (by kernel_rfl) (by kernel_rfl) (by kernel_rfl) (by kernel_rfl) (fun _ _ _ h => h) (by kernel_rfl) ?_ HS.out ?_
            rotate_left
            · intro wz hz
              obtain ⟨y0, y1, y2, y3, -⟩ := hz
              go_simp
              first | done | with_reducible rfl
            refine holdz_take (i := 6) (d := 49) (v := ?_) rfl rfl (by kernel_rfl) (by kernel_rfl) (by kernel_rfl) (by kernel_rfl) (by kernel_rfl) (fun _ _ _ h => h) (by kernel_rfl) ?_ HS.out ?_
            rotate_left
            · intro wz hz
              obtain ⟨y0, y1, y2, y3, -⟩ := hz
              go_simp
              first | done | with_reducible rfl
            refine holdz_take (i := 7) (d := 50) (v := ?_) rfl rfl (by kernel_rfl) (by kernel_rfl) (by kernel_rfl) (by kernel_rfl) (by kernel_rfl) (fun _ _ _ h => h) (by kernel_rfl) ?_ HS.out ?_
            rotate_left
            · intro wz hz
              obtain ⟨y0, y1, y2, y3, -⟩ := hz
              go_simp
              first | done | with_reducible rfl
            refine wpAnyZ_ready (rs := [8]) (by kernel_rfl) (by simp) ?_
            refine AllReadyZ.cons rfl (fun K hK => ?_) AllReadyZ.nil
            go_simp
            go_wp2_with fail
            refine (PC.out _ HS.out.2.2.2.2).mono ?_; rintro e w5 ⟨g', sa', c', sc', ma', n', mc', rfl, s5, f5⟩; have S5 := hide s5; have HS' := hide (HS.out.fresh f5); clear HS s5 f5; have HS := HS'; clear HS'
            refine hK.out _ _ (.inr HS.out) ?_
            clear hK K
            refine holdz_take (i := 9) (d := 42) (v := ?_) rfl rfl (by kernel_rfl) (by kernel_rfl) (by kernel_rfl) (by kernel_rfl) (by kernel_rfl) (fun _ _ _ h => h) (by kernel_rfl) ?_ HS.out ?_
            rotate_left
            · intro wz hz
              obtain ⟨y0, y1, y2, y3, -⟩ := hz
              go_simp
              first | done | with_reducible rfl
            refine holdz_take (i := 10) (d := 52) (v := ?_) rfl rfl (by kernel_rfl) (by kernel_rfl) (by kernel_rfl) (by kernel_rfl) (by kernel_rfl) (fun _ _ _ h => h) (by kernel_rfl) ?_ HS.out ?_
            rotate_left
            · intro wz hz
              obtain ⟨y0, y1, y2, y3, -⟩ := hz
              go_simp
              first | done | with_reducible rfl
            refine holdz_any (i := 11) (d := 53) (v := ?_) rfl rfl (by kernel_rfl) (by kernel_rfl) (by kernel_rfl) (by kernel_rfl) (fun _ _ _ h => h) (by kernel_rfl) ?_ HS.out ?_
            rotate_left
            · intro wz
              go_simp
              first | done | with_reducible rfl
            refine holdz_any (i := 12) (d := 54) (v := ?_) rfl rfl (by kernel_rfl) (by kernel_rfl) (by kernel_rfl) (by kernel_rfl) (fun _ _ _ h => h) (by kernel_rfl) ?_ HS.out ?_
            rotate_left
            · intro wz
              go_simp
              first | done | with_reducible rfl
            have EC := hide (EV0.out.fresh HS.out.2.2.2.2)
            obtain ⟨r0, r1, r2⟩ := EC.out.cells
            obtain ⟨p0, p1, p2⟩ := EC.out.free
            have NX := hide (show Bk w (sto w5 b g' sa' c' sc' ma' n' mc') b F (j + 1) from ⟨⟨_, _, _, _, _, _, _, EC.out.put rfl S5.out⟩, FO.out, FN.out, sto_fresh (BK.out.el.trans HS.out.2.2.2.2) BK.out.ge, BK.out.ge⟩)
            refine wpAnyZ_ready (rs := [13]) (by kernel_rfl) (by simp) ?_
            refine AllReadyZ.cons rfl (fun K hK => ?_) AllReadyZ.nil
            go_simp
            clear r0 r1 r2 p0 p1 p2 HS S5 EC; unfold sto at NX; generalize World.setCell _ ⟨b, 2, none⟩ _ = W9 at NX ⊢
            refine hK.out _ _ (.inl (by kernel_rfl)) ?_
            clear hK K
            refine wpAnyZ_of_any _ _ _ _ (by kernel_rfl) ?_
            refine wpAny_done (by kernel_rfl) ?_ _
            try simp only [Act.put, List.setIfInBounds_toArray, List.set_cons_succ, List.set_cons_zero]
            go_wp2
            go_roundw
            case rel => exact ⟨j + 1, F, by omega, by go_num, NX.out⟩
            case measure => simp [intOf]; omega
        · have hzd : decide (0 < z0 % 3) = false := decide_eq_false hz
          obtain ⟨c0, c1, c2⟩ := EV0.out.cells
          have NL := hide EV0.out.off.at.len
          have n30 : (n : Int) ≤ 30 := by have := BK.out.is.2.2.2; have := L30.out; have := NL.out; omega
          have n00 : (0 : Int) ≤ (n : Int) := by omega
          clear hz
          by_cases hn : 0 < n
          · have n1 : (1 : Int) ≤ (n : Int) := by omega
            have n2 : ((n : Int) == 0) = false := by rw [beq_eq_false_iff_ne]; omega
            have n3 : ¬ ((n : Int) = 0) := by omega
            have n4 : ¬ (n = 0) := by omega
            have gz : decide (0 < (n : Int)) = true := decide_eq_true (by omega)
            obtain ⟨ix, hix⟩ : ∃ ix : Nat, z1 % (n : Int) = (ix : Int) := ⟨(z1 % (n : Int)).toNat, by have := Int.emod_nonneg z1 n3; omega⟩
            have ixn : ix < n := by have := Int.emod_lt_of_pos z1 (show 0 < (n : Int) by omega); omega
            have x0 : (0 : Int) ≤ (ix : Int) := by omega
            have x1 : (ix : Int) < (n : Int) := by omega
            have ez : IntKind.i64.wrap z1 = z1 := by rw [IntKind.wrap_i64]; omega
            have er : IntKind.i64.wrap (z1.tmod (n : Int)) = (ix : Int) := by rw [Int.tmod_eq_emod_of_nonneg b1, hix, IntKind.wrap_i64]; omega
            have er2 : z1.tmod (n : Int) = (ix : Int) := by rw [Int.tmod_eq_emod_of_nonneg b1, hix]
            have hpl : ix < E.ps.length := by have := NL.out; omega
            obtain ⟨mb, mo, hma, hm0, _⟩ := EV0.out.off.at.marks.cell ix hpl
            obtain ⟨kk, i, hq, hk, hi⟩ := BK.out.ok.inv.marks _ (nth_mem hpl)
            have hx0 : (nth E.ps ix).1 = ((i * 2 ^ kk * E.G : Nat) : Int) := congrArg Prod.fst hq
            have hmem : ((((i * 2 ^ kk * E.G : Nat) : Int), (kk : Int)) : Pc) ∈ E.ps := by rw [← hq]; exact nth_mem hpl
            obtain ⟨F, hF⟩ : ∃ F, E.tak kk i = F := ⟨_, rfl⟩
            have FO := hide (show F.Ok by rw [← hF]; exact BK.out.ok.tak hmem)
            have FN := hide (show F.G = 2 ∧ F.N = 64 ∧ F.c = 4 ∧ F.ps.length ≤ j + 1 by rw [← hF]; exact ⟨BK.out.is.1, BK.out.is.2.1, BK.out.is.2.2.1, Nat.le_trans (tak_len E kk i) (Nat.le_trans BK.out.is.2.2.2 (Nat.le_succ _))⟩)
            generalize (nth E.ps ix).1 = x at hm0 hx0
            have RC := hide (fun w' (k : Fresh wr w') => prel_yes SS.out (ev3 g sa c sc ma n mc) E F (· = b) x _ kk i w' (EV0.out.off.fresh k) (low_eq (Nat.lt_of_lt_of_le LT.out k.size)) BK.out.ok hx0 rfl hmem hk hi hF)
            have HS : Hid (HeldM wr b g (.slice sa c sc) (.slice ma n mc) q (o + j * 2 + 1) z1 mb (mo + ix * 2) x wr.drew) := HeldM.fresh ⟨EV0.out.cells.1, EV0.out.cells.2.1, EV0.out.cells.2.2, h1, hm0, Fresh.refl _⟩ (Fresh.refl wr).drew
            subst hma
            clear hq hx0 hmem hF hk hi hpl hm0 hix
            go_wp2_with fail
            clear c0 c1 c2
            refine wp_region_z (z := 21) (S := HeldM wr b g (.slice sa c sc) (.slice (some ⟨mb, mo, none⟩) n mc) q (o + j * 2 + 1) z1 mb (mo + ix * 2) x) (by kernel_rfl) ?_
            change wpAnyZ _ _ _ _ _ _ _ _ _ (World.drew _)
            generalize World.drew wr = wd at HS ⊢
            refine holdz_take (i := 0) (d := 60) (v := ?_) rfl rfl (by kernel_rfl) (by kernel_rfl) (by kernel_rfl) (by kernel_rfl) (by kernel_rfl) (fun _ _ _ h => h) (by kernel_rfl) ?_ HS.out ?_
            rotate_left
            · intro wz hz
              obtain ⟨y0, y1, y2, y3, y4, -⟩ := hz
              go_simp
              first | done | with_reducible rfl
            refine holdz_take (i := 1) (d := 61) (v := ?_) rfl rfl (by kernel_rfl) (by kernel_rfl) (by kernel_rfl) (by kernel_rfl) (by kernel_rfl) (fun _ _ _ h => h) (by kernel_rfl) ?_ HS.out ?_
            rotate_left
            · intro wz hz
              obtain ⟨y0, y1, y2, y3, y4, -⟩ := hz
              go_simp
              first | done | with_reducible rfl
            refine holdz_take (i := 2) (d := 62) (v := ?_) rfl rfl (by kernel_rfl) (by kernel_rfl) (by kernel_rfl) (by kernel_rfl) (by kernel_rfl) (fun _ _ _ h => h) (by kernel_rfl) ?_ HS.out ?_
            rotate_left
            · intro wz hz
              obtain ⟨y0, y1, y2, y3, y4, -⟩ := hz
              go_simp
              first | done | with_reducible rfl
            refine holdz_take (i := 3) (d := 63) (v := ?_) rfl rfl (by kernel_rfl) (by kernel_rfl) (by kernel_rfl) (by kernel_rfl) (by kernel_rfl) (fun _ _ _ h => h) (by kernel_rfl) ?_ HS.out ?_
            rotate_left
            · intro wz hz
              obtain ⟨y0, y1, y2, y3, y4, -⟩ := hz
              go_simp
              first | done | with_reducible rfl
            refine holdz_take (i := 4) (d := 64) (v := ?_) rfl rfl (by kernel_rfl) (by kernel_rfl) (by kernel_rfl) (by kernel_rfl) (by kernel_rfl) (fun _ _ _ h => h) (by kernel_rfl) ?_ HS.out ?_
            rotate_left
            · intro wz hz
              obtain ⟨y0, y1, y2, y3, y4, -⟩ := hz
              go_simp
              first | done | with_reducible rfl
            refine holdz_take (i := 5) (d := 65) (v := ?_) rfl rfl (by kernel_rfl) (by kernel_rfl) (by kernel_rfl) (by kernel_rfl) (by kernel_rfl) (fun _ _ _ h => h) (by kernel_rfl) ?_ HS.out ?_
            rotate_left
            · intro wz hz
              obtain ⟨y0, y1, y2, y3, y4, -⟩ := hz
              go_simp
              first | done | with_reducible rfl
            refine holdz_take (i := 6) (d := 66) (v := ?_) rfl rfl (by kernel_rfl) (by kernel_rfl) (by kernel_rfl) (by kernel_rfl) (by kernel_rfl) (fun _ _ _ h => h) (by kernel_rfl) ?_ HS.out ?_
            rotate_left
            · intro wz hz
              obtain ⟨y0, y1, y2, y3, y4, -⟩ := hz
              go_simp
              first | done | with_reducible rfl
            refine holdz_take (i := 7) (d := 67) (v := ?_) rfl rfl (by kernel_rfl) (by kernel_rfl) (by kernel_rfl) (by kernel_rfl) (by kernel_rfl) (fun _ _ _ h => h) (by kernel_rfl) ?_ HS.out ?_
            rotate_left
            · intro wz hz
              obtain ⟨y0, y1, y2, y3, y4, -⟩ := hz
              go_simp
              first | done | with_reducible rfl
            refine holdz_take (i := 8) (d := 68) (v := ?_) rfl rfl (by kernel_rfl) (by kernel_rfl) (by kernel_rfl) (by kernel_rfl) (by kernel_rfl) (fun _ _ _ h => h) (by kernel_rfl) ?_ HS.out ?_
            rotate_left
            · intro wz hz
              obtain ⟨y0, y1, y2, y3, y4, -⟩ := hz
              go_simp
              first | done | with_reducible rfl
            refine holdz_take (i := 9) (d := 69) (v := ?_) rfl rfl (by kernel_rfl) (by kernel_rfl) (by kernel_rfl) (by kernel_rfl) (by kernel_rfl) (fun _ _ _ h => h) (by kernel_rfl) ?_ HS.out ?_
            rotate_left
            · intro wz hz
              obtain ⟨y0, y1, y2, y3, y4, -⟩ := hz
              go_simp
              first | done | with_reducible rfl
            refine holdz_take (i := 10) (d := 70) (v := ?_) rfl rfl (by kernel_rfl) (by kernel_rfl) (by kernel_rfl) (by kernel_rfl) (by kernel_rfl) (fun _ _ _ h => h) (by kernel_rfl) ?_ HS.out ?_
            rotate_left
            · intro wz hz
              obtain ⟨y0, y1, y2, y3, y4, -⟩ := hz
              go_simp
              first | done | with_reducible rfl
            refine holdz_take (i := 11) (d := 71) (v := ?_) rfl rfl (by kernel_rfl) (by kernel_rfl) (by kernel_rfl) (by kernel_rfl) (by kernel_rfl) (fun _ _ _ h => h) (by kernel_rfl) ?_ HS.out ?_
            rotate_left
            · intro wz hz
              obtain ⟨y0, y1, y2, y3, y4, -⟩ := hz
              go_simp
              first | done | with_reducible rfl
            refine holdz_take (i := 12) (d := 72) (v := ?_) rfl rfl (by kernel_rfl) (by kernel_rfl) (by kernel_rfl) (by kernel_rfl) (by kernel_rfl) (fun _ _ _ h => h) (by kernel_rfl) ?_ HS.out ?_
            rotate_left
            · intro wz hz
              obtain ⟨y0, y1, y2, y3, y4, -⟩ := hz
              go_simp
              first | done | with_reducible rfl
            refine holdz_take (i := 13) (d := 73) (v := ?_) rfl rfl (by kernel_rfl) (by kernel_rfl) (by kernel_rfl) (by kernel_rfl) (by kernel_rfl) (fun _ _ _ h => h) (by kernel_rfl) ?_ HS.out ?_
            rotate_left
            · intro wz hz
              obtain ⟨y0, y1, y2, y3, y4, -⟩ := hz
              go_simp
              first | done | with_reducible rfl
            refine holdz_take (i := 14) (d := 74) (v := ?_) rfl rfl (by kernel_rfl) (by kernel_rfl) (by kernel_rfl) (by kernel_rfl) (by kernel_rfl) (fun _ _ _ h => h) (by kernel_rfl) ?_ HS.out ?_
            rotate_left
            · intro wz hz
              obtain ⟨y0, y1, y2, y3, y4, -⟩ := hz
              go_simp
              first | done | with_reducible rfl
            refine holdz_take (i := 15) (d := 75) (v := ?_) rfl rfl (by kernel_rfl) (by kernel_rfl) (by kernel_rfl) (by kernel_rfl) (by kernel_rfl) (fun _ _ _ h => h) (by kernel_rfl) ?_ HS.out ?_
            rotate_left
            · intro wz hz
              obtain ⟨y0, y1, y2, y3, y4, -⟩ := hz
              go_simp
              first | done | with_reducible rfl
            refine wpAnyZ_ready (rs := [16]) (by kernel_rfl) (by simp) ?_
            refine AllReadyZ.cons rfl (fun K hK => ?_) AllReadyZ.nil
            go_simp
            go_wp2_with fail
            refine (RC.out _ HS.out.2.2.2.2.2).mono ?_; rintro e w5 ⟨g', sa', c', sc', ma', n', mc', rfl, s5, f5⟩; have S5 := hide s5; have HS' := hide (HS.out.fresh f5); clear HS s5 f5; have HS := HS'; clear HS'
            refine hK.out _ _ (.inr HS.out) ?_
            clear hK K
            refine holdz_take (i := 17) (d := 59) (v := ?_) rfl rfl (by kernel_rfl) (by kernel_rfl) (by kernel_rfl) (by kernel_rfl) (by kernel_rfl) (fun _ _ _ h => h) (by kernel_rfl) ?_ HS.out ?_
            rotate_left
            · intro wz hz
              obtain ⟨y0, y1, y2, y3, y4, -⟩ := hz
              go_simp
              first | done | with_reducible rfl
            refine holdz_take (i := 18) (d := 77) (v := ?_) rfl rfl (by kernel_rfl) (by kernel_rfl) (by kernel_rfl) (by kernel_rfl) (by kernel_rfl) (fun _ _ _ h => h) (by kernel_rfl) ?_ HS.out ?_
            rotate_left
            · intro wz hz
              obtain ⟨y0, y1, y2, y3, y4, -⟩ := hz
              go_simp
              first | done | with_reducible rfl
            refine holdz_any (i := 19) (d := 78) (v := ?_) rfl rfl (by kernel_rfl) (by kernel_rfl) (by kernel_rfl) (by kernel_rfl) (fun _ _ _ h => h) (by kernel_rfl) ?_ HS.out ?_
            rotate_left
            · intro wz
              go_simp
              first | done | with_reducible rfl
            refine holdz_any (i := 20) (d := 79) (v := ?_) rfl rfl (by kernel_rfl) (by kernel_rfl) (by kernel_rfl) (by kernel_rfl) (fun _ _ _ h => h) (by kernel_rfl) ?_ HS.out ?_
            rotate_left
            · intro wz
              go_simp
              first | done | with_reducible rfl
            have EC := hide (EV0.out.fresh HS.out.2.2.2.2.2)
            obtain ⟨r0, r1, r2⟩ := EC.out.cells
            obtain ⟨p0, p1, p2⟩ := EC.out.free
            have NX := hide (show Bk w (sto w5 b g' sa' c' sc' ma' n' mc') b F (j + 1) from ⟨⟨_, _, _, _, _, _, _, EC.out.put rfl S5.out⟩, FO.out, FN.out, sto_fresh (BK.out.el.trans HS.out.2.2.2.2.2) BK.out.ge, BK.out.ge⟩)
            refine wpAnyZ_ready (rs := [21]) (by kernel_rfl) (by simp) ?_
            refine AllReadyZ.cons rfl (fun K hK => ?_) AllReadyZ.nil
            go_simp
            clear r0 r1 r2 p0 p1 p2 HS S5 EC; unfold sto at NX; generalize World.setCell _ ⟨b, 2, none⟩ _ = W9 at NX ⊢
            refine hK.out _ _ (.inl (by kernel_rfl)) ?_
            clear hK K
            refine wpAnyZ_of_any _ _ _ _ (by kernel_rfl) ?_
            refine wpAny_done (by kernel_rfl) ?_ _
            try simp only [Act.put, List.setIfInBounds_toArray, List.set_cons_succ, List.set_cons_zero]
            go_wp2
            go_roundw
            case rel => exact ⟨j + 1, F, by omega, by go_num, NX.out⟩
            case measure => simp [intOf]; omega
          · obtain rfl : n = 0 := by omega
            obtain ⟨F, hF⟩ : ∃ F, E = F := ⟨_, rfl⟩
            have NX := hide (show Bk w wr b F (j + 1) by rw [← hF]; exact ⟨BK.out.ev, BK.out.ok, ⟨BK.out.is.1, BK.out.is.2.1, BK.out.is.2.2.1, Nat.le_trans BK.out.is.2.2.2 (Nat.le_succ _)⟩, BK.out.el, BK.out.ge⟩)
            clear hF
            go_wp2
            go_roundw
            case rel => exact ⟨j + 1, F, by omega, by go_num, NX.out⟩
            case measure => simp [intOf]; omega
      · obtain rfl : j = len := by omega
        obtain ⟨X, hX⟩ : ∃ X, z % 4 = X := ⟨_, rfl⟩
        obtain ⟨kk, hkk⟩ : ∃ kk : Nat, X = (kk : Int) := ⟨X.toNat, by omega⟩
        have K4 : kk < 4 := by omega
        have X0 : 0 ≤ X := by omega
        have X3 : X ≤ 3 := by omega
        have KC := hide (show kk < E.c by rw [BK.out.is.2.2.1]; exact K4)
        have KX := hide hkk
        have FW := hide BK.out.el
        obtain ⟨c0, c1, c2⟩ := EV0.out.cells
        clear gj
        rcases low_cases (N := E.N) E.p KC.out with ⟨i, hi, _, hf, _⟩ | ⟨hl, _⟩
        · obtain ⟨hiN, _⟩ := low_place KC.out hi
          obtain ⟨F, hF⟩ : ∃ F, E.put kk i = F := ⟨_, rfl⟩
          obtain ⟨Y, hY⟩ : ∃ Y, F.tak kk i = Y := ⟨_, rfl⟩
          obtain ⟨at0, hat⟩ : ∃ at0, ((i * 2 ^ kk * E.G : Nat) : Int) = at0 := ⟨_, rfl⟩
          have LY := hide (show Y.Like E by rw [← hY, ← hF]; exact put_tak BK.out.ok hiN hf)
          have OF := hide (show F.Ok by rw [← hF]; exact BK.out.ok.put KC.out hiN hf (by have := BK.out.is.2.2.2; have := L30.out; omega))
          have MF := hide (show ((((i * 2 ^ kk * F.G : Nat) : Int), (kk : Int)) : Pc) ∈ F.ps by rw [← hF]; exact (mem_put BK.out.ok.inv.rise).2 (.inl rfl))
          have XF := hide (show at0 = ((i * 2 ^ kk * F.G : Nat) : Int) by rw [← hF]; exact hat.symm)
          have KF := hide (show kk < F.c ∧ (i + 1) * 2 ^ kk ≤ F.N by rw [← hF]; exact ⟨KC.out, hiN⟩)
          have OY := hide (show Y.Ok by rw [← hY]; exact OF.out.tak MF.out)
          have KY := hide (show kk < Y.c by rw [LY.out.c]; exact KC.out)
          have LowY := hide (show lowS Y.N Y.c Y.p (kk : Int) = some i by rw [low_like LY.out]; exact hi)
          have RY := hide (show ((i * 2 ^ kk * Y.G : Nat) : Int) = at0 by rw [LY.out.g]; exact hat)
          have LZ := hide (show (Y.put kk i).Like F by rw [← hF]; exact LY.out.put kk i)
          have P1 := hide (pplace_yes SS.out (ev3 g sa c sc ma n mc) E F noX X at0 kk i wr (EV0.out.off.less (fun _ h => h.elim)) (low_noX _) BK.out.ok KX.out KC.out hi hat hF)
          have A0 : 0 ≤ at0 ∧ at0 ≤ 65536 := by have := BK.out.ok.inv.low hiN; omega
          have a0 := A0.1
          have a1 := A0.2
          have AM := hide (show ∃ t : Int, at0 = t * (2 ^ kk * 2) from ⟨(i : Int), by rw [← hat, BK.out.is.1]; simp [Int.mul_assoc]⟩)
          have HY := hide hY
          clear hi hf hF hY hat hkk A0 hiN
          go_wp2_with fail
          refine P1.out.mono ?_
          rintro e w1 ⟨g1, sa1, c1', sc1, ma1, n1, mc1, rfl, s1, f1⟩
          obtain ⟨w2, B2, hw2, hB2, v2, f2⟩ := ev_new s1
          have VX := hide v2
          have VE := hide (EV0.out.fresh (f1.trans f2))
          have F2 := hide (FW.out.trans (f1.trans f2))
          have HW2 := hide hw2
          have HB2 := hide hB2
          clear s1 f1 v2 f2 hw2 hB2 c0 c1 c2 FW P1
          go_wp2_with fail
          rw [← HW2.out, ← HB2.out]
          refine (prel_yes SS.out _ F Y noX at0 X kk i _ VX.out.off (low_noX _) OF.out XF.out KX.out.symm MF.out KF.out.1 KF.out.2 HY.out).mono ?_
          rintro e w3 ⟨g3, sa3, c3, sc3, ma3, n3, mc3, rfl, s3, f3⟩
          obtain ⟨w4, B4, hw4, hB4, v4, f4⟩ := ev_new s3
          have VY := hide v4
          have VX4 := hide (VX.out.fresh (f3.trans f4))
          have VE4 := hide (VE.out.fresh (f3.trans f4))
          have F4 := hide (F2.out.trans (f3.trans f4))
          have HW4 := hide hw4
          have HB4 := hide hB4
          clear s3 f3 v4 f4 hw4 hB4 VX VE F2 HW2 HB2
          go_wp2_with fail
          rw [← HW4.out, ← HB4.out]
          refine (pplace_yes SS.out _ Y _ noX X at0 kk i _ VY.out.off (low_noX _) OY.out KX.out KY.out LowY.out RY.out rfl).mono ?_
          rintro e w5 ⟨g5, sa5, c5, sc5, ma5, n5, mc5, rfl, s5, f5⟩
          obtain ⟨w6, B6, hw6, hB6, v6, f6⟩ := ev_new s5
          have VZ := hide v6
          have VY6 := hide (VY.out.fresh (f5.trans f6))
          have VX6 := hide (VX4.out.fresh (f5.trans f6))
          have VE6 := hide (VE4.out.fresh (f5.trans f6))
          have F6 := hide (F4.out.trans (f5.trans f6))
          have HW6 := hide hw6
          have HB6 := hide hB6
          clear s5 f5 v6 f6 hw6 hB6 VY VX4 VE4 F4 HW4 HB4
          obtain ⟨c0, c1, c2⟩ := VE6.out.cells
          obtain ⟨y0, y1, y2⟩ := VY6.out.cells
          rw [HW6.out] at c0 c1 c2 y0 y1 y2
          go_wp2_with fail
          rw [← HW6.out, ← HB6.out]
          clear c0 c1 c2 y0 y1 y2
          refine (same_like VY6.out.off.at VE6.out.off.at LY.out).mono ?_
          rintro e w7 ⟨rfl, f7⟩
          have VZ7 := hide (VZ.out.fresh f7)
          have VX7 := hide (VX6.out.fresh f7)
          have F7 := hide (F6.out.trans f7)
          clear f7 VZ VY6 VX6 VE6 F6 HW6 HB6
          obtain ⟨c0, c1, c2⟩ := VX7.out.cells
          obtain ⟨y0, y1, y2⟩ := VZ7.out.cells
          go_wp2_with fail
          clear c0 c1 c2 y0 y1 y2
          refine (same_like VZ7.out.off.at VX7.out.off.at LZ.out).mono ?_
          rintro e w8 ⟨rfl, f8⟩
          have F8 := hide (F7.out.trans f8)
          obtain ⟨t, ht⟩ := AM.out
          clear f8 VZ7 VX7 F7
          have hk4 : kk = 0 ∨ kk = 1 ∨ kk = 2 ∨ kk = 3 := by omega
          have e0 := KX.out
          rcases hk4 with rfl | rfl | rfl | rfl
          · have hx : X = 0 := e0
            subst hx
            have hm : at0 % 2 = 0 := by
              have : (2 : Int) ^ 0 * 2 = 2 := by decide
              rw [this] at ht
              omega
            clear ht e0 AM
            go_wp2
            go_ret
            exact ⟨rfl, F8.out⟩
          · have hx : X = 1 := e0
            subst hx
            have hm : at0 % 4 = 0 := by
              have : (2 : Int) ^ 1 * 2 = 4 := by decide
              rw [this] at ht
              omega
            clear ht e0 AM
            go_wp2
            go_ret
            exact ⟨rfl, F8.out⟩
          · have hx : X = 2 := e0
            subst hx
            have hm : at0 % 8 = 0 := by
              have : (2 : Int) ^ 2 * 2 = 8 := by decide
              rw [this] at ht
              omega
            clear ht e0 AM
            go_wp2
            go_ret
            exact ⟨rfl, F8.out⟩
          · have hx : X = 3 := e0
            subst hx
            have hm : at0 % 16 = 0 := by
              have : (2 : Int) ^ 3 * 2 = 16 := by decide
              rw [this] at ht
              omega
            clear ht e0 AM
            go_wp2
            go_ret
            exact ⟨rfl, F8.out⟩
        · have P1 := hide (pplace_no SS.out (ev3 g sa c sc ma n mc) E noX X wr (EV0.out.off.less (fun _ h => h.elim)) (low_noX _) BK.out.ok (by unfold In64; simp only; omega) (by rw [KX.out]; exact hl))
          clear hl hkk
          go_wp2_with fail
          refine P1.out.mono ?_
          rintro e w1 ⟨g1, sa1, c1', sc1, ma1, n1, mc1, rfl, s1, f1⟩
          obtain ⟨w2, B2, hw2, hB2, v2, f2⟩ := ev_new s1
          have VX := hide v2
          have VE := hide (EV0.out.fresh (f1.trans f2))
          have F2 := hide (FW.out.trans (f1.trans f2))
          have HW2 := hide hw2
          have HB2 := hide hB2
          clear s1 f1 v2 f2 hw2 hB2 c0 c1 c2 FW P1
          obtain ⟨c0, c1, c2⟩ := VE.out.cells
          rw [HW2.out] at c0 c1 c2
          go_wp2_with fail
          rw [← HW2.out, ← HB2.out]
          clear c0 c1 c2
          refine (same_like VX.out.off.at VE.out.off.at (Eng.Like.rfl' E)).mono ?_
          rintro e w3 ⟨rfl, f3⟩
          have F3 := hide (F2.out.trans f3)
          clear f3
          go_wp2
          go_ret
          exact ⟨rfl, F3.out⟩
  · have l0 : (30 : Int) < (len : Int) := by omega
    clear hrow h30
    go_enter Try.func5, Try.ntmps5
    go_wp2_with fail
    refine (BG.out _).mono ?_
    rintro e w1 ⟨rfl, f1⟩
    have F1 := hide f1
    clear f1
    go_wp2
    go_ret
    exact ⟨rfl, F1.out⟩
end Go.Proofs.Ytegolecdmpikhaa
