/- The walk of hodmanlaw11.PlaceAll, given what is asked of package place. -/
import Derived.Test.YtegolecdmpikhaaPackG
import Derived.Test.YtegolecdmpikhaaPackJ
import Derived.Test.YtegolecdmpikhaaPackE
import Derived.Deep.CutRange
namespace Go.Proofs.Ytegolecdmpikhaa
open Go.RowKit

/-- where the law stands behind j deeds -/
structure Pa (W w : World) (ba bb : Nat) (E : Eng) (j : Nat) : Prop where
  a : ∃ g sa c sc ma n mc, EV (Two ba bb) w ba g sa c sc ma n mc E
  b : ∃ g sa c sc ma n mc, EV (Two ba bb) w bb g sa c sc ma n mc E
  ok : E.Ok
  few : E.ps.length ≤ j
  el : Fresh W w
  ge : W.heap.size ≤ ba ∧ W.heap.size ≤ bb
  ne : ba ≠ bb
/-- two engines' cells -/
def HeldXY (x y : Nat) (g : Int) (s t : Value) (g' : Int) (s' t' : Value) (w : World) : Prop := w.cell? ⟨x, 0, none⟩ = some (.int .i64 g) ∧ w.cell? ⟨x, 1, none⟩ = some s ∧ w.cell? ⟨x, 2, none⟩ = some t ∧ w.cell? ⟨y, 0, none⟩ = some (.int .i64 g') ∧ w.cell? ⟨y, 1, none⟩ = some s' ∧ w.cell? ⟨y, 2, none⟩ = some t'
theorem HeldXY.sto {x y : Nat} {g : Int} {s t : Value} {h : Int} {s' t' : Value} {w : World} (k : HeldXY x y g s t h s' t' w) {b : Nat} {g' : Int} {sa' : Option Addr} {c' sc' : Nat} {ma' : Option Addr} {n' mc' : Nat} (h1 : x ≠ b) (h2 : y ≠ b) : HeldXY x y g s t h s' t' (sto w b g' sa' c' sc' ma' n' mc') := by
  obtain ⟨a, b, c, d, e, f⟩ := k
  exact ⟨(cell_turn (sto_other h1)).trans a, (cell_turn (sto_other h1)).trans b, (cell_turn (sto_other h1)).trans c, (cell_turn (sto_other h2)).trans d, (cell_turn (sto_other h2)).trans e, (cell_turn (sto_other h2)).trans f⟩
/-- an engine's cells and a mark's beginning, over a region -/
def HeldN (b : Nat) (g : Int) (s t : Value) (m k : Nat) (x : Int) (w : World) : Prop := w.cell? ⟨b, 0, none⟩ = some (.int .i64 g) ∧ w.cell? ⟨b, 1, none⟩ = some s ∧ w.cell? ⟨b, 2, none⟩ = some t ∧ w.cell? ⟨m, k, none⟩ = some (.int .i64 x)

set_option maxRecDepth 100000 in
set_option maxHeartbeats 3000000 in
theorem placeAll_walk0 (S : PlaceSays) (a : Option Addr) (len cap : Nat) (g : Int) (g1 : -9223372036854775808 ≤ g) (g2 : g ≤ 9223372036854775807) (n : Int) (n1 : -9223372036854775808 ≤ n) (n2 : n ≤ 9223372036854775807) (m : Int) (m1 : -9223372036854775808 ≤ m) (m2 : m ≤ 9223372036854775807) (x : Int) (x1 : -9223372036854775808 ≤ x) (x2 : x ≤ 9223372036854775807) (w : World) (hrow : IsDuo w a len ∧ len ≤ maxLen) :
    Calls Try.prog 3 #[.slice a len cap, .int .i64 g, .int .i64 n, .int .i64 m, .int .i64 x] w fun e w' => e = .returned (.bool true) ∧ Fresh w w' := by
  have BG := hide (begun11_true S)
  have SS := hide S
  have CC : Cls 48 5 := by unfold Cls; decide
  have EK := hide (show AskIs true (Eng.none (2 ^ 2) 48 5) 4 48 5 from .inl ⟨rfl, 2, 48, 5, ⟨rfl, by decide, rfl, rfl, CC⟩, rfl⟩)
  have OE := hide (Eng.Ok.none (G := 2 ^ 2) (by decide) (by decide) CC)
  obtain ⟨ok, E1, hask⟩ := ask_is g n m
  have AK := hide hask
  have oo : (!(ok == ok)) = false := by cases ok <;> rfl
  clear CC S hask
  by_cases hout : len ≤ 60 ∧ ¬ (3000 < n ∧ n ≤ 65536)
  · have l0 : (len : Int) ≤ 60 := by omega
    have DU := hide hrow.1
    have L60 := hide hout.1
    have GN := hide (show In64 (g, n) from ⟨g1, g2, n1, n2⟩)
    have GM := hide (show In64 (m, m) from ⟨m1, m2, m1, m2⟩)
    have GX := hide (show In64 (x, x) from ⟨x1, x2, x1, x2⟩)
    have NO := hide hout.2
    clear hrow hout
    go_enter Try.func3, Try.ntmps3
    go_wp2_with fail
    refine (BG.out _).mono ?_
    rintro e w0 ⟨rfl, f0⟩
    have F0 := hide f0
    clear f0
    go_upto_region 3 with fail
    go_cut [43] from 31 (fun s wx => s = .bool false ∧ wx = w0)
    case first =>
      by_cases h3 : 3000 < n
      · have h4 : 65536 < n := by have := NO.out; omega
        go_wp2_with fail
        go_meet
        case rel => exact ⟨congrArg Value.bool (by simp only [Bool.or_eq_false_iff, decide_eq_false_iff_not]; omega), rfl⟩
      · have h4 : n ≤ 3000 := by omega
        clear h3
        go_wp2_with fail
        go_meet
        case rel => exact ⟨congrArg Value.bool (by simp only [decide_eq_false_iff_not]; omega), rfl⟩
    case rest =>
    obtain ⟨rfl, rfl⟩ := hcut
    go_wp2_with fail
    refine (new_any SS.out AK.out GN.out GM.out _).mono ?_
    rintro e w1 ⟨g1, sa1, c1, sc1, ma1, n1, mc1, rfl, s1, f1⟩
    obtain ⟨w2, ba, hw2, hba, bl2, f2⟩ : ∃ w2 ba, w2 = w1.alloc (.cells #[.int .i64 g1, .slice sa1 c1 sc1, .slice ma1 n1 mc1] 29) ∧ ba = w1.heap.size ∧ w2.heap[ba]? = some (.cells #[.int .i64 g1, .slice sa1 c1 sc1, .slice ma1 n1 mc1] 29 (0, 0)) ∧ Fresh w1 w2 := ⟨_, _, rfl, rfl, heap_alloc_new w1 _, fresh_box _ _ _⟩
    have N1 := hide s1
    have K1 := hide f2
    have BA := hide bl2
    have F2 := hide (F0.out.trans (f1.trans f2))
    have GA := hide (show w.heap.size ≤ ba by rw [hba]; exact (F0.out.trans f1).size)
    have HW2 := hide hw2
    have HBA := hide hba
    clear s1 f1 f2 hw2 hba bl2 F0
    go_wp2_with fail
    rw [← HW2.out, ← HBA.out]
    refine (rnew_anyE AK.out GN.out.2.1 _).mono ?_
    rintro e w3 ⟨g3, sa3, c3, sc3, ma3, n3, mc3, rfl, s3, f3⟩
    obtain ⟨w4, bb, hw4, hbb, bl4, f4⟩ : ∃ w4 bb, w4 = w3.alloc (.cells #[.int .i64 g3, .slice sa3 c3 sc3, .slice ma3 n3 mc3] 29) ∧ bb = w3.heap.size ∧ w4.heap[bb]? = some (.cells #[.int .i64 g3, .slice sa3 c3 sc3, .slice ma3 n3 mc3] 29 (0, 0)) ∧ Fresh w3 w4 := ⟨_, _, rfl, rfl, heap_alloc_new w3 _, fresh_box _ _ _⟩
    have N3 := hide s3
    have K3 := hide f4
    have K13 := hide (K1.out.trans (f3.trans f4))
    have BA4 := hide (show w4.heap[ba]? = _ from ((f3.trans f4).block ba (Array.getElem?_eq_some_iff.1 BA.out).1).trans BA.out)
    have BB4 := hide bl4
    have F4 := hide (F2.out.trans (f3.trans f4))
    have GB := hide (show w.heap.size ≤ bb by rw [hbb]; exact (F2.out.trans f3).size)
    have NE := hide (show ba ≠ bb by have := Nat.lt_of_lt_of_le (Array.getElem?_eq_some_iff.1 BA.out).1 f3.size; omega)
    have HW4 := hide hw4
    have HBB := hide hbb
    clear s3 f3 f4 hw4 hbb bl4 F2 BA HW2 HBA
    obtain ⟨r0, r1, r2, -⟩ := zero_cells BA4.out
    rw [HW4.out] at r0 r1 r2
    go_wp2_with fail
    rw [← HW4.out, ← HBB.out]
    clear r0 r1 r2
    refine (same_new N1.out N3.out K13.out K3.out).mono ?_
    rintro e w5 ⟨rfl, f5⟩
    have BA5 := hide ((f5.block ba (Array.getElem?_eq_some_iff.1 BA4.out).1).trans BA4.out)
    have BB5 := hide ((f5.block bb (Array.getElem?_eq_some_iff.1 BB4.out).1).trans BB4.out)
    have F5 := hide (F4.out.trans f5)
    clear f5 N1 N3 K13 K3 K1 BA4 BB4 F4 HW4 HBB
    go_wp2_with fail
    refine (new_any SS.out EK.out (by unfold In64; decide) (by unfold In64; decide) _).mono ?_
    rintro e w6 ⟨g6, sa6, c6, sc6, ma6, n6, mc6, rfl, s6, f6⟩
    have X6 := hide (show EngOff (Two ba bb) w6 (ev3 g6 sa6 c6 sc6 ma6 n6 mc6) (Eng.none (2 ^ 2) 48 5) by
      rcases s6 with ⟨_, s⟩ | ⟨h, _⟩
      · exact s.off (Fresh.refl _) (fun q hq => .inl (low_two (Array.getElem?_eq_some_iff.1 BA5.out).1 (Array.getElem?_eq_some_iff.1 BB5.out).1 q hq))
      · cases h)
    have BA6 := hide ((f6.block ba (Array.getElem?_eq_some_iff.1 BA5.out).1).trans BA5.out)
    have BB6 := hide ((f6.block bb (Array.getElem?_eq_some_iff.1 BB5.out).1).trans BB5.out)
    have F6 := hide (F5.out.trans f6)
    clear s6 f6 BA5 BB5 F5
    obtain ⟨r0, r1, r2, p0, p1, p2⟩ := zero_cells BA6.out
    have VA7 := hide (show EV (Two ba bb) (sto w6 ba g6 sa6 c6 sc6 ma6 n6 mc6) ba g6 sa6 c6 sc6 ma6 n6 mc6 (Eng.none (2 ^ 2) 48 5) from ⟨sto_blk BA6.out, X6.out.sto (.inl rfl)⟩)
    have BB7 := hide ((sto_other (w := w6) (b := ba) (g := g6) (sa := sa6) (c := c6) (sc := sc6) (ma := ma6) (n := n6) (mc := mc6) (Ne.symm NE.out)).trans BB6.out)
    have F7 := hide (sto_fresh (g := g6) (sa := sa6) (c := c6) (sc := sc6) (ma := ma6) (n := n6) (mc := mc6) F6.out GA.out)
    unfold sto at VA7 BB7 F7
    go_wp2_with fail
    clear r0 r1 r2 p0 p1 p2 X6 BA6 BB6 F6
    generalize World.setCell _ ⟨ba, 2, none⟩ _ = w7 at VA7 BB7 F7 ⊢
    refine (rnew_anyE EK.out (by decide) _).mono ?_
    rintro e w8 ⟨g8, sa8, c8, sc8, ma8, n8, mc8, rfl, s8, f8⟩
    have X8 := hide (show EngOff (Two ba bb) w8 (ev3 g8 sa8 c8 sc8 ma8 n8 mc8) (Eng.none (2 ^ 2) 48 5) by
      rcases s8 with ⟨_, s⟩ | ⟨h, _⟩
      · exact s.off (Fresh.refl _) (fun q hq => .inl (low_two VA7.out.lt (Array.getElem?_eq_some_iff.1 BB7.out).1 q hq))
      · cases h)
    have BB8 := hide ((f8.block bb (Array.getElem?_eq_some_iff.1 BB7.out).1).trans BB7.out)
    have VA8 := hide (VA7.out.fresh f8)
    have F8 := hide (F7.out.trans f8)
    clear s8 f8 BB7 VA7 F7
    obtain ⟨r0, r1, r2, p0, p1, p2⟩ := zero_cells BB8.out
    obtain ⟨q0, q1, q2⟩ := VA8.out.cells
    have VB9 := hide (show EV (Two ba bb) (sto w8 bb g8 sa8 c8 sc8 ma8 n8 mc8) bb g8 sa8 c8 sc8 ma8 n8 mc8 (Eng.none (2 ^ 2) 48 5) from ⟨sto_blk BB8.out, X8.out.sto (.inr rfl)⟩)
    have VA9 := hide (VA8.out.other (b' := bb) (g' := g8) (sa' := sa8) (c' := c8) (sc' := sc8) (ma' := ma8) (n' := n8) (mc' := mc8) (.inr rfl) NE.out)
    have F9 := hide (sto_fresh (g := g8) (sa := sa8) (c := c8) (sc := sc8) (ma := ma8) (n := n8) (mc := mc8) F8.out GB.out)
    unfold sto at VB9 VA9 F9
    have bne : ba ≠ bb := NE.out
    have bne' : ¬ (bb = ba) := fun e => NE.out e.symm
    go_wp2_with fail
    clear r0 r1 r2 p0 p1 p2 q0 q1 q2 X8 BB8 F8 VA8 bne bne'
    generalize World.setCell _ ⟨bb, 2, none⟩ _ = w9 at VA9 VB9 F9 ⊢
    refine (same_like VA9.out.off.at VB9.out.off.at (Eng.Like.rfl' _)).mono ?_
    rintro e wa ⟨rfl, fa⟩
    have PA0 := hide (show Pa w wa ba bb (Eng.none (2 ^ 2) 48 5) 0 from ⟨⟨_, _, _, _, _, _, _, VA9.out.fresh fa⟩, ⟨_, _, _, _, _, _, _, VB9.out.fresh fa⟩, OE.out, Nat.zero_le _, F9.out.trans fa, ⟨GA.out, GB.out⟩, NE.out⟩)
    clear fa VA9 VB9 F9 GA GB NE OE EK AK
    go_wp2
    go_loopw [15] (fun i wr => ∃ (j : Nat) (E : Eng), j ≤ len ∧ i = .int .i64 (j : Int) ∧ Pa w wr ba bb E j) (fun i _ => (len - intOf i).toNat)
    case atStart => exact ⟨0, _, Nat.zero_le _, rfl, PA0.out⟩
    case round =>
      obtain ⟨j, E, hj, rfl, hpa⟩ := hrel
      have PA := hide hpa
      have j0 : (0 : Int) ≤ (j : Int) := by omega
      obtain ⟨ga, saa, ca, sca, maa, na, mca, va⟩ := hpa.a
      obtain ⟨gb, sab, cb, scb, mab, nb, mcb, vb⟩ := hpa.b
      have VA := hide va
      have VB := hide vb
      clear hpa va vb PA0
      by_cases gj : j < len
      · have g' : (j : Int) < (len : Int) := by omega
        obtain ⟨q, o, z0, z1, rfl, ⟨h0, b0, b0'⟩, ⟨h1, b1, b1'⟩⟩ := duo_fresh DU.out PA.out.el j gj
        obtain ⟨c0, c1, c2⟩ := VA.out.cells
        have zw : wrap64 z1 = z1 := by unfold wrap64; omega
        by_cases hz : 0 < z0 % 3
        · have hzd : decide (0 < z0 % 3) = true := decide_eq_true hz
          clear hz
          by_cases h9 : (j : Int) % 9 = 8
          · have IX := GX
            obtain ⟨X, hX⟩ : ∃ X, X = x := ⟨_, rfl⟩
            subst hX
            obtain ⟨F, r, t, hP⟩ := place_is E X
            have FO := hide (show F.Ok ∧ F.ps.length ≤ j + 1 by have := hP.ok PA.out.ok (by have := PA.out.few; have := L60.out; omega); exact ⟨this.1, Nat.le_trans this.2 (by have := PA.out.few; omega)⟩)
            have C1 := hide (fun w' (k : Fresh wr w') => place_any SS.out hP PA.out.ok IX.out (VA.out.off.fresh k) (low_two (Nat.lt_of_lt_of_le VA.out.lt k.size) (Nat.lt_of_lt_of_le VB.out.lt k.size)))
            have C2 := hide (fun w' (k : Fresh wr w') => rplace_any hP PA.out.ok (VB.out.off.fresh k) (low_two (Nat.lt_of_lt_of_le VA.out.lt k.size) (Nat.lt_of_lt_of_le VB.out.lt k.size)))
            have tt : (!(t == t)) = false := by cases t <;> rfl
            clear hP
            go_wp2_with fail
            clear c0 c1 c2
            refine (C1.out wr (Fresh.refl _)).mono ?_
            rintro e w3 ⟨g4, sa4, c4, sc4, ma4, n4, mc4, rfl, s3, f3⟩
            obtain ⟨w4, bx, hw4, hbx, v4, f4⟩ := ev_new s3
            have VX := hide v4
            have VA4 := hide (VA.out.fresh (f3.trans f4))
            have VB4 := hide (VB.out.fresh (f3.trans f4))
            have K4 := hide (f3.trans f4)
            have F4 := hide (PA.out.el.trans (f3.trans f4))
            have NX := hide (show bx ≠ ba ∧ bx ≠ bb from ⟨by have := Nat.lt_of_lt_of_le VA.out.lt f3.size; omega, by have := Nat.lt_of_lt_of_le VB.out.lt f3.size; omega⟩)
            have HW4 := hide hw4
            have HBX := hide hbx
            clear s3 f3 v4 f4 hw4 hbx
            obtain ⟨r0, r1, r2⟩ := VB4.out.cells
            rw [HW4.out] at r0 r1 r2
            go_wp2_with fail
            rw [← HW4.out, ← HBX.out]
            clear r0 r1 r2
            refine (C2.out w4 K4.out).mono ?_
            rintro e w5 ⟨g5, sa5, c5, sc5, ma5, n5, mc5, rfl, s5, f5⟩
            obtain ⟨w6, by', hw6, hby, v6, f6⟩ := ev_new s5
            have VY := hide v6
            have VX6 := hide (VX.out.fresh (f5.trans f6))
            have VA6 := hide (VA4.out.fresh (f5.trans f6))
            have VB6 := hide (VB4.out.fresh (f5.trans f6))
            have F6 := hide (F4.out.trans (f5.trans f6))
            have NB := hide (show bx ≠ ba ∧ bx ≠ bb ∧ by' ≠ ba ∧ by' ≠ bb from ⟨NX.out.1, NX.out.2, by have := Nat.lt_of_lt_of_le VA4.out.lt f5.size; omega, by have := Nat.lt_of_lt_of_le VB4.out.lt f5.size; omega⟩)
            have HW6 := hide hw6
            have HBY := hide hby
            clear s5 f5 v6 f6 hw6 hby VX VA4 VB4 F4 HW4 HBX NX
            go_wp2_with fail
            rw [← HW6.out, ← HBY.out]
            have HS : Hid (HeldXY bx by' g4 (.slice sa4 c4 sc4) (.slice ma4 n4 mc4) g5 (.slice sa5 c5 sc5) (.slice ma5 n5 mc5) w6.drew) := ⟨VX6.out.cells.1, VX6.out.cells.2.1, VX6.out.cells.2.2, VY.out.cells.1, VY.out.cells.2.1, VY.out.cells.2.2⟩
            have GX := hide (VX6.out.off.fresh (Fresh.refl _).drew)
            have GY := hide (VY.out.off.fresh (Fresh.refl _).drew)
            have VAD := hide (VA6.out.fresh (Fresh.refl _).drew)
            have VBD := hide (VB6.out.fresh (Fresh.refl _).drew)
            have FD := hide (F6.out.trans (Fresh.refl _).drew)
            refine wp_region_held (S := HeldXY bx by' g4 (.slice sa4 c4 sc4) (.slice ma4 n4 mc4) g5 (.slice sa5 c5 sc5) (.slice ma5 n5 mc5)) (by kernel_rfl) ?_
            change wpAnyH _ _ _ _ _ _ _ _ (World.drew _)
            generalize World.drew w6 = wd at HS GX GY VAD VBD FD ⊢
            clear VX6 VY VA6 VB6 F6 HW6 HBY
            refine held_take (i := 0) (d := 139) (v := ?_) rfl rfl (by kernel_rfl) (by kernel_rfl) (by kernel_rfl) (fun _ _ _ h => h) (by kernel_rfl) ?_ HS.out ?_
            rotate_left
            · intro wz hz
              obtain ⟨y0, y1, y2, y3, y4, y5⟩ := hz
              go_simp
              first | done | with_reducible rfl
            refine held_take (i := 1) (d := 140) (v := ?_) rfl rfl (by kernel_rfl) (by kernel_rfl) (by kernel_rfl) (fun _ _ _ h => h) (by kernel_rfl) ?_ HS.out ?_
            rotate_left
            · intro wz hz
              obtain ⟨y0, y1, y2, y3, y4, y5⟩ := hz
              go_simp
              first | done | with_reducible rfl
            obtain ⟨r0, r1, r2⟩ := VAD.out.cells
            obtain ⟨p0, p1, p2⟩ := VAD.out.free
            have VA7 := hide (VAD.out.put (.inl rfl) GX.out)
            have VB7 := hide (VBD.out.other (b' := ba) (g' := g4) (sa' := sa4) (c' := c4) (sc' := sc4) (ma' := ma4) (n' := n4) (mc' := mc4) (.inl rfl) (Ne.symm PA.out.ne))
            have GY7 := hide (GY.out.sto (b := ba) (g := g4) (sa := sa4) (c := c4) (sc := sc4) (ma := ma4) (n := n4) (mc := mc4) (.inl rfl))
            have F7 := hide (sto_fresh (g := g4) (sa := sa4) (c := c4) (sc := sc4) (ma := ma4) (n := n4) (mc := mc4) FD.out PA.out.ge.1)
            refine wpAnyH_ready (rs := [2]) (by kernel_rfl) (by simp) ?_
            refine AllReadyH.cons rfl (fun K hK => ?_) AllReadyH.nil
            go_simp
            have HS' := hide (HS.out.sto (b := ba) (g' := g4) (sa' := sa4) (c' := c4) (sc' := sc4) (ma' := ma4) (n' := n4) (mc' := mc4) NB.out.1 NB.out.2.2.1); clear r0 r1 r2 p0 p1 p2 HS VAD VBD GX GY FD; unfold sto at VA7 VB7 GY7 F7 HS'; generalize World.setCell _ ⟨ba, 2, none⟩ _ = we at VA7 VB7 GY7 F7 HS' ⊢; have HS := HS'; clear HS'
            refine hK.out _ _ HS.out (fun _ => ?_)
            clear hK K
            obtain ⟨r0, r1, r2⟩ := VB7.out.cells
            obtain ⟨p0, p1, p2⟩ := VB7.out.free
            have VB8 := hide (VB7.out.put (.inr rfl) GY7.out)
            have VA8 := hide (VA7.out.other (b' := bb) (g' := g5) (sa' := sa5) (c' := c5) (sc' := sc5) (ma' := ma5) (n' := n5) (mc' := mc5) (.inr rfl) PA.out.ne)
            have F8 := hide (sto_fresh (g := g5) (sa := sa5) (c := c5) (sc := sc5) (ma := ma5) (n := n5) (mc := mc5) F7.out PA.out.ge.2)
            refine wpAnyH_ready (rs := [3]) (by kernel_rfl) (by simp) ?_
            refine AllReadyH.cons rfl (fun K hK => ?_) AllReadyH.nil
            go_simp
            have HS' := hide (HS.out.sto (b := bb) (g' := g5) (sa' := sa5) (c' := c5) (sc' := sc5) (ma' := ma5) (n' := n5) (mc' := mc5) NB.out.2.1 NB.out.2.2.2); clear r0 r1 r2 p0 p1 p2 HS VA7 VB7 GY7 F7; unfold sto at VA8 VB8 F8 HS'; generalize World.setCell _ ⟨bb, 2, none⟩ _ = wf at VA8 VB8 F8 HS' ⊢; have HS := HS'; clear HS'
            refine hK.out _ _ HS.out (fun _ => ?_)
            clear hK K
            refine wpAnyH_done (by kernel_rfl) ?_ _
            try simp only [Act.put, List.setIfInBounds_toArray, List.set_cons_succ, List.set_cons_zero]
            clear HS
            obtain ⟨r0, r1, r2⟩ := VA8.out.cells
            obtain ⟨p0, p1, p2⟩ := VB8.out.cells
            go_wp2_with fail
            clear r0 r1 r2 p0 p1 p2
            refine (same_like VA8.out.off.at VB8.out.off.at (Eng.Like.rfl' F)).mono ?_
            rintro e w9 ⟨rfl, f9⟩
            have PN := hide (show Pa w w9 ba bb F (j + 1) from ⟨⟨_, _, _, _, _, _, _, VA8.out.fresh f9⟩, ⟨_, _, _, _, _, _, _, VB8.out.fresh f9⟩, FO.out.1, FO.out.2, F8.out.trans f9, PA.out.ge, PA.out.ne⟩)
            clear f9 VA8 VB8 F8
            go_wp2
            go_roundw
            case rel => exact ⟨j + 1, F, by omega, by go_num, PN.out⟩
            case measure => simp [intOf]; omega
          · obtain ⟨X, hX⟩ : ∃ X, z1 % 7 = X := ⟨_, rfl⟩
            have IX := hide (show In64 (X, X) by unfold In64; simp only; omega)
            obtain ⟨F, r, t, hP⟩ := place_is E X
            have FO := hide (show F.Ok ∧ F.ps.length ≤ j + 1 by have := hP.ok PA.out.ok (by have := PA.out.few; have := L60.out; omega); exact ⟨this.1, Nat.le_trans this.2 (by have := PA.out.few; omega)⟩)
            have C1 := hide (fun w' (k : Fresh wr w') => place_any SS.out hP PA.out.ok IX.out (VA.out.off.fresh k) (low_two (Nat.lt_of_lt_of_le VA.out.lt k.size) (Nat.lt_of_lt_of_le VB.out.lt k.size)))
            have C2 := hide (fun w' (k : Fresh wr w') => rplace_any hP PA.out.ok (VB.out.off.fresh k) (low_two (Nat.lt_of_lt_of_le VA.out.lt k.size) (Nat.lt_of_lt_of_le VB.out.lt k.size)))
            have tt : (!(t == t)) = false := by cases t <;> rfl
            clear hP
            go_wp2_with fail
            clear c0 c1 c2
            refine (C1.out wr (Fresh.refl _)).mono ?_
            rintro e w3 ⟨g4, sa4, c4, sc4, ma4, n4, mc4, rfl, s3, f3⟩
            obtain ⟨w4, bx, hw4, hbx, v4, f4⟩ := ev_new s3
            have VX := hide v4
            have VA4 := hide (VA.out.fresh (f3.trans f4))
            have VB4 := hide (VB.out.fresh (f3.trans f4))
            have K4 := hide (f3.trans f4)
            have F4 := hide (PA.out.el.trans (f3.trans f4))
            have NX := hide (show bx ≠ ba ∧ bx ≠ bb from ⟨by have := Nat.lt_of_lt_of_le VA.out.lt f3.size; omega, by have := Nat.lt_of_lt_of_le VB.out.lt f3.size; omega⟩)
            have HW4 := hide hw4
            have HBX := hide hbx
            clear s3 f3 v4 f4 hw4 hbx
            obtain ⟨r0, r1, r2⟩ := VB4.out.cells
            rw [HW4.out] at r0 r1 r2
            go_wp2_with fail
            rw [← HW4.out, ← HBX.out]
            clear r0 r1 r2
            refine (C2.out w4 K4.out).mono ?_
            rintro e w5 ⟨g5, sa5, c5, sc5, ma5, n5, mc5, rfl, s5, f5⟩
            obtain ⟨w6, by', hw6, hby, v6, f6⟩ := ev_new s5
            have VY := hide v6
            have VX6 := hide (VX.out.fresh (f5.trans f6))
            have VA6 := hide (VA4.out.fresh (f5.trans f6))
            have VB6 := hide (VB4.out.fresh (f5.trans f6))
            have F6 := hide (F4.out.trans (f5.trans f6))
            have NB := hide (show bx ≠ ba ∧ bx ≠ bb ∧ by' ≠ ba ∧ by' ≠ bb from ⟨NX.out.1, NX.out.2, by have := Nat.lt_of_lt_of_le VA4.out.lt f5.size; omega, by have := Nat.lt_of_lt_of_le VB4.out.lt f5.size; omega⟩)
            have HW6 := hide hw6
            have HBY := hide hby
            clear s5 f5 v6 f6 hw6 hby VX VA4 VB4 F4 HW4 HBX NX
            go_wp2_with fail
            rw [← HW6.out, ← HBY.out]
            have HS : Hid (HeldXY bx by' g4 (.slice sa4 c4 sc4) (.slice ma4 n4 mc4) g5 (.slice sa5 c5 sc5) (.slice ma5 n5 mc5) w6.drew) := ⟨VX6.out.cells.1, VX6.out.cells.2.1, VX6.out.cells.2.2, VY.out.cells.1, VY.out.cells.2.1, VY.out.cells.2.2⟩
            have GX := hide (VX6.out.off.fresh (Fresh.refl _).drew)
            have GY := hide (VY.out.off.fresh (Fresh.refl _).drew)
            have VAD := hide (VA6.out.fresh (Fresh.refl _).drew)
            have VBD := hide (VB6.out.fresh (Fresh.refl _).drew)
            have FD := hide (F6.out.trans (Fresh.refl _).drew)
            refine wp_region_held (S := HeldXY bx by' g4 (.slice sa4 c4 sc4) (.slice ma4 n4 mc4) g5 (.slice sa5 c5 sc5) (.slice ma5 n5 mc5)) (by kernel_rfl) ?_
            change wpAnyH _ _ _ _ _ _ _ _ (World.drew _)
            generalize World.drew w6 = wd at HS GX GY VAD VBD FD ⊢
            clear VX6 VY VA6 VB6 F6 HW6 HBY
            refine held_take (i := 0) (d := 139) (v := ?_) rfl rfl (by kernel_rfl) (by kernel_rfl) (by kernel_rfl) (fun _ _ _ h => h) (by kernel_rfl) ?_ HS.out ?_
            rotate_left
            · intro wz hz
              obtain ⟨y0, y1, y2, y3, y4, y5⟩ := hz
              go_simp
              first | done | with_reducible rfl
            refine held_take (i := 1) (d := 140) (v := ?_) rfl rfl (by kernel_rfl) (by kernel_rfl) (by kernel_rfl) (fun _ _ _ h => h) (by kernel_rfl) ?_ HS.out ?_
            rotate_left
            · intro wz hz
              obtain ⟨y0, y1, y2, y3, y4, y5⟩ := hz
              go_simp
              first | done | with_reducible rfl
            obtain ⟨r0, r1, r2⟩ := VAD.out.cells
            obtain ⟨p0, p1, p2⟩ := VAD.out.free
            have VA7 := hide (VAD.out.put (.inl rfl) GX.out)
            have VB7 := hide (VBD.out.other (b' := ba) (g' := g4) (sa' := sa4) (c' := c4) (sc' := sc4) (ma' := ma4) (n' := n4) (mc' := mc4) (.inl rfl) (Ne.symm PA.out.ne))
            have GY7 := hide (GY.out.sto (b := ba) (g := g4) (sa := sa4) (c := c4) (sc := sc4) (ma := ma4) (n := n4) (mc := mc4) (.inl rfl))
            have F7 := hide (sto_fresh (g := g4) (sa := sa4) (c := c4) (sc := sc4) (ma := ma4) (n := n4) (mc := mc4) FD.out PA.out.ge.1)
            refine wpAnyH_ready (rs := [2]) (by kernel_rfl) (by simp) ?_
            refine AllReadyH.cons rfl (fun K hK => ?_) AllReadyH.nil
            go_simp
            have HS' := hide (HS.out.sto (b := ba) (g' := g4) (sa' := sa4) (c' := c4) (sc' := sc4) (ma' := ma4) (n' := n4) (mc' := mc4) NB.out.1 NB.out.2.2.1); clear r0 r1 r2 p0 p1 p2 HS VAD VBD GX GY FD; unfold sto at VA7 VB7 GY7 F7 HS'; generalize World.setCell _ ⟨ba, 2, none⟩ _ = we at VA7 VB7 GY7 F7 HS' ⊢; have HS := HS'; clear HS'
            refine hK.out _ _ HS.out (fun _ => ?_)
            clear hK K
            obtain ⟨r0, r1, r2⟩ := VB7.out.cells
            obtain ⟨p0, p1, p2⟩ := VB7.out.free
            have VB8 := hide (VB7.out.put (.inr rfl) GY7.out)
            have VA8 := hide (VA7.out.other (b' := bb) (g' := g5) (sa' := sa5) (c' := c5) (sc' := sc5) (ma' := ma5) (n' := n5) (mc' := mc5) (.inr rfl) PA.out.ne)
            have F8 := hide (sto_fresh (g := g5) (sa := sa5) (c := c5) (sc := sc5) (ma := ma5) (n := n5) (mc := mc5) F7.out PA.out.ge.2)
            refine wpAnyH_ready (rs := [3]) (by kernel_rfl) (by simp) ?_
            refine AllReadyH.cons rfl (fun K hK => ?_) AllReadyH.nil
            go_simp
            have HS' := hide (HS.out.sto (b := bb) (g' := g5) (sa' := sa5) (c' := c5) (sc' := sc5) (ma' := ma5) (n' := n5) (mc' := mc5) NB.out.2.1 NB.out.2.2.2); clear r0 r1 r2 p0 p1 p2 HS VA7 VB7 GY7 F7; unfold sto at VA8 VB8 F8 HS'; generalize World.setCell _ ⟨bb, 2, none⟩ _ = wf at VA8 VB8 F8 HS' ⊢; have HS := HS'; clear HS'
            refine hK.out _ _ HS.out (fun _ => ?_)
            clear hK K
            refine wpAnyH_done (by kernel_rfl) ?_ _
            try simp only [Act.put, List.setIfInBounds_toArray, List.set_cons_succ, List.set_cons_zero]
            clear HS
            obtain ⟨r0, r1, r2⟩ := VA8.out.cells
            obtain ⟨p0, p1, p2⟩ := VB8.out.cells
            go_wp2_with fail
            clear r0 r1 r2 p0 p1 p2
            refine (same_like VA8.out.off.at VB8.out.off.at (Eng.Like.rfl' F)).mono ?_
            rintro e w9 ⟨rfl, f9⟩
            have PN := hide (show Pa w w9 ba bb F (j + 1) from ⟨⟨_, _, _, _, _, _, _, VA8.out.fresh f9⟩, ⟨_, _, _, _, _, _, _, VB8.out.fresh f9⟩, FO.out.1, FO.out.2, F8.out.trans f9, PA.out.ge, PA.out.ne⟩)
            clear f9 VA8 VB8 F8
            go_wp2
            go_roundw
            case rel => exact ⟨j + 1, F, by omega, by go_num, PN.out⟩
            case measure => simp [intOf]; omega
        · have hzd : decide (0 < z0 % 3) = false := decide_eq_false hz
          obtain ⟨d0, d1, d2⟩ := VB.out.cells
          have NL := hide VB.out.off.at.len
          have nb60 : (nb : Int) ≤ 60 := by have := PA.out.few; have := L60.out; have := NL.out; omega
          have nb00 : (0 : Int) ≤ (nb : Int) := by omega
          clear hz
          by_cases h9 : (j : Int) % 9 = 8
          · go_upto_region 29 with fail
            go_cut [159] from 88 to 197 (fun s wx => s = .bool false ∧ wx = wr)
            case first =>
              rcases Nat.eq_zero_or_pos nb with hnb | hnb
              · subst hnb
                go_wp2_with fail
                go_meet
                case rel => exact ⟨rfl, rfl⟩
              · have hb1 : (0 : Int) < (nb : Int) := by omega
                by_cases h2 : z0 % 2 = 0
                · go_wp2_with fail
                  go_meet
                  case rel => exact ⟨rfl, rfl⟩
                · go_wp2_with fail
                  go_meet
                  case rel => exact ⟨rfl, rfl⟩
            case rest =>
            obtain ⟨rfl, hwc⟩ := hcut
            have hwc' := hwc.symm
            subst hwc'
            clear hwc
            have IX := GX
            obtain ⟨X, hX⟩ : ∃ X, X = x := ⟨_, rfl⟩
            subst hX
            clear d0 d1 d2
            obtain ⟨F, r, t, hP⟩ := rel_is PA.out.ok X
            have FO := hide (show F.Ok ∧ F.ps.length ≤ j + 1 by have := hP.ok PA.out.ok; exact ⟨this.1, Nat.le_trans this.2 (by have := PA.out.few; omega)⟩)
            have C1 := hide (fun w' (k : Fresh wr w') => rel_any SS.out hP PA.out.ok IX.out (VA.out.off.fresh k) (low_two (Nat.lt_of_lt_of_le VA.out.lt k.size) (Nat.lt_of_lt_of_le VB.out.lt k.size)))
            have C2 := hide (fun w' (k : Fresh wr w') => rrel_any hP PA.out.ok (VB.out.off.fresh k) (low_two (Nat.lt_of_lt_of_le VA.out.lt k.size) (Nat.lt_of_lt_of_le VB.out.lt k.size)))
            have tt : (!(t == t)) = false := by cases t <;> rfl
            clear hP
            go_wp2_with fail
            clear c0 c1 c2
            refine (C1.out wr (Fresh.refl _)).mono ?_
            rintro e w3 ⟨g4, sa4, c4, sc4, ma4, n4, mc4, rfl, s3, f3⟩
            obtain ⟨w4, bx, hw4, hbx, v4, f4⟩ := ev_new s3
            have VX := hide v4
            have VA4 := hide (VA.out.fresh (f3.trans f4))
            have VB4 := hide (VB.out.fresh (f3.trans f4))
            have K4 := hide (f3.trans f4)
            have F4 := hide (PA.out.el.trans (f3.trans f4))
            have NX := hide (show bx ≠ ba ∧ bx ≠ bb from ⟨by have := Nat.lt_of_lt_of_le VA.out.lt f3.size; omega, by have := Nat.lt_of_lt_of_le VB.out.lt f3.size; omega⟩)
            have HW4 := hide hw4
            have HBX := hide hbx
            clear s3 f3 v4 f4 hw4 hbx
            obtain ⟨r0, r1, r2⟩ := VB4.out.cells
            rw [HW4.out] at r0 r1 r2
            go_wp2_with fail
            rw [← HW4.out, ← HBX.out]
            clear r0 r1 r2
            refine (C2.out w4 K4.out).mono ?_
            rintro e w5 ⟨g5, sa5, c5, sc5, ma5, n5, mc5, rfl, s5, f5⟩
            obtain ⟨w6, by', hw6, hby, v6, f6⟩ := ev_new s5
            have VY := hide v6
            have VX6 := hide (VX.out.fresh (f5.trans f6))
            have VA6 := hide (VA4.out.fresh (f5.trans f6))
            have VB6 := hide (VB4.out.fresh (f5.trans f6))
            have F6 := hide (F4.out.trans (f5.trans f6))
            have NB := hide (show bx ≠ ba ∧ bx ≠ bb ∧ by' ≠ ba ∧ by' ≠ bb from ⟨NX.out.1, NX.out.2, by have := Nat.lt_of_lt_of_le VA4.out.lt f5.size; omega, by have := Nat.lt_of_lt_of_le VB4.out.lt f5.size; omega⟩)
            have HW6 := hide hw6
            have HBY := hide hby
            clear s5 f5 v6 f6 hw6 hby VX VA4 VB4 F4 HW4 HBX NX
            go_wp2_with fail
            rw [← HW6.out, ← HBY.out]
            have HS : Hid (HeldXY bx by' g4 (.slice sa4 c4 sc4) (.slice ma4 n4 mc4) g5 (.slice sa5 c5 sc5) (.slice ma5 n5 mc5) w6.drew) := ⟨VX6.out.cells.1, VX6.out.cells.2.1, VX6.out.cells.2.2, VY.out.cells.1, VY.out.cells.2.1, VY.out.cells.2.2⟩
            have GX := hide (VX6.out.off.fresh (Fresh.refl _).drew)
            have GY := hide (VY.out.off.fresh (Fresh.refl _).drew)
            have VAD := hide (VA6.out.fresh (Fresh.refl _).drew)
            have VBD := hide (VB6.out.fresh (Fresh.refl _).drew)
            have FD := hide (F6.out.trans (Fresh.refl _).drew)
            refine wp_region_held (S := HeldXY bx by' g4 (.slice sa4 c4 sc4) (.slice ma4 n4 mc4) g5 (.slice sa5 c5 sc5) (.slice ma5 n5 mc5)) (by kernel_rfl) ?_
            change wpAnyH _ _ _ _ _ _ _ _ (World.drew _)
            generalize World.drew w6 = wd at HS GX GY VAD VBD FD ⊢
            clear VX6 VY VA6 VB6 F6 HW6 HBY
            refine held_take (i := 0) (d := 192) (v := ?_) rfl rfl (by kernel_rfl) (by kernel_rfl) (by kernel_rfl) (fun _ _ _ h => h) (by kernel_rfl) ?_ HS.out ?_
            rotate_left
            · intro wz hz
              obtain ⟨y0, y1, y2, y3, y4, y5⟩ := hz
              go_simp
              first | done | with_reducible rfl
            refine held_take (i := 1) (d := 193) (v := ?_) rfl rfl (by kernel_rfl) (by kernel_rfl) (by kernel_rfl) (fun _ _ _ h => h) (by kernel_rfl) ?_ HS.out ?_
            rotate_left
            · intro wz hz
              obtain ⟨y0, y1, y2, y3, y4, y5⟩ := hz
              go_simp
              first | done | with_reducible rfl
            obtain ⟨r0, r1, r2⟩ := VAD.out.cells
            obtain ⟨p0, p1, p2⟩ := VAD.out.free
            have VA7 := hide (VAD.out.put (.inl rfl) GX.out)
            have VB7 := hide (VBD.out.other (b' := ba) (g' := g4) (sa' := sa4) (c' := c4) (sc' := sc4) (ma' := ma4) (n' := n4) (mc' := mc4) (.inl rfl) (Ne.symm PA.out.ne))
            have GY7 := hide (GY.out.sto (b := ba) (g := g4) (sa := sa4) (c := c4) (sc := sc4) (ma := ma4) (n := n4) (mc := mc4) (.inl rfl))
            have F7 := hide (sto_fresh (g := g4) (sa := sa4) (c := c4) (sc := sc4) (ma := ma4) (n := n4) (mc := mc4) FD.out PA.out.ge.1)
            refine wpAnyH_ready (rs := [2]) (by kernel_rfl) (by simp) ?_
            refine AllReadyH.cons rfl (fun K hK => ?_) AllReadyH.nil
            go_simp
            have HS' := hide (HS.out.sto (b := ba) (g' := g4) (sa' := sa4) (c' := c4) (sc' := sc4) (ma' := ma4) (n' := n4) (mc' := mc4) NB.out.1 NB.out.2.2.1); clear r0 r1 r2 p0 p1 p2 HS VAD VBD GX GY FD; unfold sto at VA7 VB7 GY7 F7 HS'; generalize World.setCell _ ⟨ba, 2, none⟩ _ = we at VA7 VB7 GY7 F7 HS' ⊢; have HS := HS'; clear HS'
            refine hK.out _ _ HS.out (fun _ => ?_)
            clear hK K
            obtain ⟨r0, r1, r2⟩ := VB7.out.cells
            obtain ⟨p0, p1, p2⟩ := VB7.out.free
            have VB8 := hide (VB7.out.put (.inr rfl) GY7.out)
            have VA8 := hide (VA7.out.other (b' := bb) (g' := g5) (sa' := sa5) (c' := c5) (sc' := sc5) (ma' := ma5) (n' := n5) (mc' := mc5) (.inr rfl) PA.out.ne)
            have F8 := hide (sto_fresh (g := g5) (sa := sa5) (c := c5) (sc := sc5) (ma := ma5) (n := n5) (mc := mc5) F7.out PA.out.ge.2)
            refine wpAnyH_ready (rs := [3]) (by kernel_rfl) (by simp) ?_
            refine AllReadyH.cons rfl (fun K hK => ?_) AllReadyH.nil
            go_simp
            have HS' := hide (HS.out.sto (b := bb) (g' := g5) (sa' := sa5) (c' := c5) (sc' := sc5) (ma' := ma5) (n' := n5) (mc' := mc5) NB.out.2.1 NB.out.2.2.2); clear r0 r1 r2 p0 p1 p2 HS VA7 VB7 GY7 F7; unfold sto at VA8 VB8 F8 HS'; generalize World.setCell _ ⟨bb, 2, none⟩ _ = wf at VA8 VB8 F8 HS' ⊢; have HS := HS'; clear HS'
            refine hK.out _ _ HS.out (fun _ => ?_)
            clear hK K
            refine wpAnyH_done (by kernel_rfl) ?_ _
            try simp only [Act.put, List.setIfInBounds_toArray, List.set_cons_succ, List.set_cons_zero]
            clear HS
            obtain ⟨r0, r1, r2⟩ := VA8.out.cells
            obtain ⟨p0, p1, p2⟩ := VB8.out.cells
            go_wp2_with fail
            clear r0 r1 r2 p0 p1 p2
            refine (same_like VA8.out.off.at VB8.out.off.at (Eng.Like.rfl' F)).mono ?_
            rintro e w9 ⟨rfl, f9⟩
            have PN := hide (show Pa w w9 ba bb F (j + 1) from ⟨⟨_, _, _, _, _, _, _, VA8.out.fresh f9⟩, ⟨_, _, _, _, _, _, _, VB8.out.fresh f9⟩, FO.out.1, FO.out.2, F8.out.trans f9, PA.out.ge, PA.out.ne⟩)
            clear f9 VA8 VB8 F8
            go_wp2
            go_roundw
            case rel => exact ⟨j + 1, F, by omega, by go_num, PN.out⟩
            case measure => simp [intOf]; omega
          · go_upto_region 29 with fail
            go_cut [159] from 88 to 197 (fun s wx => ∃ T : Bool, s = .bool T ∧ (T = true → 0 < nb) ∧ wx = wr)
            case first =>
              rcases Nat.eq_zero_or_pos nb with hnb | hnb
              · subst hnb
                go_wp2_with fail
                go_meet
                case rel => exact ⟨false, rfl, (fun h => by cases h), rfl⟩
              · have hb1 : (0 : Int) < (nb : Int) := by omega
                by_cases h2 : z0 % 2 = 0
                · go_wp2_with fail
                  go_meet
                  case rel => exact ⟨_, rfl, fun _ => hnb, rfl⟩
                · go_wp2_with fail
                  go_meet
                  case rel => exact ⟨_, rfl, fun _ => hnb, rfl⟩
            case rest =>
            obtain ⟨T, rfl, hT, hwc⟩ := hcut
            have hwc' := hwc.symm
            subst hwc'
            clear hwc
            cases T with
            | false =>
              obtain ⟨X, hX⟩ : ∃ X, X = z1 := ⟨_, rfl⟩
              subst hX
              have IX := hide (show In64 (X, X) by unfold In64; simp only; omega)
              clear d0 d1 d2 hT
              obtain ⟨F, r, t, hP⟩ := rel_is PA.out.ok X
              have FO := hide (show F.Ok ∧ F.ps.length ≤ j + 1 by have := hP.ok PA.out.ok; exact ⟨this.1, Nat.le_trans this.2 (by have := PA.out.few; omega)⟩)
              have C1 := hide (fun w' (k : Fresh wr w') => rel_any SS.out hP PA.out.ok IX.out (VA.out.off.fresh k) (low_two (Nat.lt_of_lt_of_le VA.out.lt k.size) (Nat.lt_of_lt_of_le VB.out.lt k.size)))
              have C2 := hide (fun w' (k : Fresh wr w') => rrel_any hP PA.out.ok (VB.out.off.fresh k) (low_two (Nat.lt_of_lt_of_le VA.out.lt k.size) (Nat.lt_of_lt_of_le VB.out.lt k.size)))
              have tt : (!(t == t)) = false := by cases t <;> rfl
              clear hP
              go_wp2_with fail
              clear c0 c1 c2
              refine (C1.out wr (Fresh.refl _)).mono ?_
              rintro e w3 ⟨g4, sa4, c4, sc4, ma4, n4, mc4, rfl, s3, f3⟩
              obtain ⟨w4, bx, hw4, hbx, v4, f4⟩ := ev_new s3
              have VX := hide v4
              have VA4 := hide (VA.out.fresh (f3.trans f4))
              have VB4 := hide (VB.out.fresh (f3.trans f4))
              have K4 := hide (f3.trans f4)
              have F4 := hide (PA.out.el.trans (f3.trans f4))
              have NX := hide (show bx ≠ ba ∧ bx ≠ bb from ⟨by have := Nat.lt_of_lt_of_le VA.out.lt f3.size; omega, by have := Nat.lt_of_lt_of_le VB.out.lt f3.size; omega⟩)
              have HW4 := hide hw4
              have HBX := hide hbx
              clear s3 f3 v4 f4 hw4 hbx
              obtain ⟨r0, r1, r2⟩ := VB4.out.cells
              rw [HW4.out] at r0 r1 r2
              go_wp2_with fail
              rw [← HW4.out, ← HBX.out]
              clear r0 r1 r2
              refine (C2.out w4 K4.out).mono ?_
              rintro e w5 ⟨g5, sa5, c5, sc5, ma5, n5, mc5, rfl, s5, f5⟩
              obtain ⟨w6, by', hw6, hby, v6, f6⟩ := ev_new s5
              have VY := hide v6
              have VX6 := hide (VX.out.fresh (f5.trans f6))
              have VA6 := hide (VA4.out.fresh (f5.trans f6))
              have VB6 := hide (VB4.out.fresh (f5.trans f6))
              have F6 := hide (F4.out.trans (f5.trans f6))
              have NB := hide (show bx ≠ ba ∧ bx ≠ bb ∧ by' ≠ ba ∧ by' ≠ bb from ⟨NX.out.1, NX.out.2, by have := Nat.lt_of_lt_of_le VA4.out.lt f5.size; omega, by have := Nat.lt_of_lt_of_le VB4.out.lt f5.size; omega⟩)
              have HW6 := hide hw6
              have HBY := hide hby
              clear s5 f5 v6 f6 hw6 hby VX VA4 VB4 F4 HW4 HBX NX
              go_wp2_with fail
              rw [← HW6.out, ← HBY.out]
              have HS : Hid (HeldXY bx by' g4 (.slice sa4 c4 sc4) (.slice ma4 n4 mc4) g5 (.slice sa5 c5 sc5) (.slice ma5 n5 mc5) w6.drew) := ⟨VX6.out.cells.1, VX6.out.cells.2.1, VX6.out.cells.2.2, VY.out.cells.1, VY.out.cells.2.1, VY.out.cells.2.2⟩
              have GX := hide (VX6.out.off.fresh (Fresh.refl _).drew)
              have GY := hide (VY.out.off.fresh (Fresh.refl _).drew)
              have VAD := hide (VA6.out.fresh (Fresh.refl _).drew)
              have VBD := hide (VB6.out.fresh (Fresh.refl _).drew)
              have FD := hide (F6.out.trans (Fresh.refl _).drew)
              refine wp_region_held (S := HeldXY bx by' g4 (.slice sa4 c4 sc4) (.slice ma4 n4 mc4) g5 (.slice sa5 c5 sc5) (.slice ma5 n5 mc5)) (by kernel_rfl) ?_
              change wpAnyH _ _ _ _ _ _ _ _ (World.drew _)
              generalize World.drew w6 = wd at HS GX GY VAD VBD FD ⊢
              clear VX6 VY VA6 VB6 F6 HW6 HBY
              refine held_take (i := 0) (d := 192) (v := ?_) rfl rfl (by kernel_rfl) (by kernel_rfl) (by kernel_rfl) (fun _ _ _ h => h) (by kernel_rfl) ?_ HS.out ?_
              rotate_left
              · intro wz hz
                obtain ⟨y0, y1, y2, y3, y4, y5⟩ := hz
                go_simp
                first | done | with_reducible rfl
              refine held_take (i := 1) (d := 193) (v := ?_) rfl rfl (by kernel_rfl) (by kernel_rfl) (by kernel_rfl) (fun _ _ _ h => h) (by kernel_rfl) ?_ HS.out ?_
              rotate_left
              · intro wz hz
                obtain ⟨y0, y1, y2, y3, y4, y5⟩ := hz
                go_simp
                first | done | with_reducible rfl
              obtain ⟨r0, r1, r2⟩ := VAD.out.cells
              obtain ⟨p0, p1, p2⟩ := VAD.out.free
              have VA7 := hide (VAD.out.put (.inl rfl) GX.out)
              have VB7 := hide (VBD.out.other (b' := ba) (g' := g4) (sa' := sa4) (c' := c4) (sc' := sc4) (ma' := ma4) (n' := n4) (mc' := mc4) (.inl rfl) (Ne.symm PA.out.ne))
              have GY7 := hide (GY.out.sto (b := ba) (g := g4) (sa := sa4) (c := c4) (sc := sc4) (ma := ma4) (n := n4) (mc := mc4) (.inl rfl))
              have F7 := hide (sto_fresh (g := g4) (sa := sa4) (c := c4) (sc := sc4) (ma := ma4) (n := n4) (mc := mc4) FD.out PA.out.ge.1)
              refine wpAnyH_ready (rs := [2]) (by kernel_rfl) (by simp) ?_
              refine AllReadyH.cons rfl (fun K hK => ?_) AllReadyH.nil
              go_simp
              have HS' := hide (HS.out.sto (b := ba) (g' := g4) (sa' := sa4) (c' := c4) (sc' := sc4) (ma' := ma4) (n' := n4) (mc' := mc4) NB.out.1 NB.out.2.2.1); clear r0 r1 r2 p0 p1 p2 HS VAD VBD GX GY FD; unfold sto at VA7 VB7 GY7 F7 HS'; generalize World.setCell _ ⟨ba, 2, none⟩ _ = we at VA7 VB7 GY7 F7 HS' ⊢; have HS := HS'; clear HS'
              refine hK.out _ _ HS.out (fun _ => ?_)
              clear hK K
              obtain ⟨r0, r1, r2⟩ := VB7.out.cells
              obtain ⟨p0, p1, p2⟩ := VB7.out.free
              have VB8 := hide (VB7.out.put (.inr rfl) GY7.out)
              have VA8 := hide (VA7.out.other (b' := bb) (g' := g5) (sa' := sa5) (c' := c5) (sc' := sc5) (ma' := ma5) (n' := n5) (mc' := mc5) (.inr rfl) PA.out.ne)
              have F8 := hide (sto_fresh (g := g5) (sa := sa5) (c := c5) (sc := sc5) (ma := ma5) (n := n5) (mc := mc5) F7.out PA.out.ge.2)
              refine wpAnyH_ready (rs := [3]) (by kernel_rfl) (by simp) ?_
              refine AllReadyH.cons rfl (fun K hK => ?_) AllReadyH.nil
              go_simp
              have HS' := hide (HS.out.sto (b := bb) (g' := g5) (sa' := sa5) (c' := c5) (sc' := sc5) (ma' := ma5) (n' := n5) (mc' := mc5) NB.out.2.1 NB.out.2.2.2); clear r0 r1 r2 p0 p1 p2 HS VA7 VB7 GY7 F7; unfold sto at VA8 VB8 F8 HS'; generalize World.setCell _ ⟨bb, 2, none⟩ _ = wf at VA8 VB8 F8 HS' ⊢; have HS := HS'; clear HS'
              refine hK.out _ _ HS.out (fun _ => ?_)
              clear hK K
              refine wpAnyH_done (by kernel_rfl) ?_ _
              try simp only [Act.put, List.setIfInBounds_toArray, List.set_cons_succ, List.set_cons_zero]
              clear HS
              obtain ⟨r0, r1, r2⟩ := VA8.out.cells
              obtain ⟨p0, p1, p2⟩ := VB8.out.cells
              go_wp2_with fail
              clear r0 r1 r2 p0 p1 p2
              refine (same_like VA8.out.off.at VB8.out.off.at (Eng.Like.rfl' F)).mono ?_
              rintro e w9 ⟨rfl, f9⟩
              have PN := hide (show Pa w w9 ba bb F (j + 1) from ⟨⟨_, _, _, _, _, _, _, VA8.out.fresh f9⟩, ⟨_, _, _, _, _, _, _, VB8.out.fresh f9⟩, FO.out.1, FO.out.2, F8.out.trans f9, PA.out.ge, PA.out.ne⟩)
              clear f9 VA8 VB8 F8
              go_wp2
              go_roundw
              case rel => exact ⟨j + 1, F, by omega, by go_num, PN.out⟩
              case measure => simp [intOf]; omega
            | true =>
              have hnb := hT rfl
              have n1' : (1 : Int) ≤ (nb : Int) := by omega
              have n2' : ((nb : Int) == 0) = false := by rw [beq_eq_false_iff_ne]; omega
              have n3' : ¬ ((nb : Int) = 0) := by omega
              have n4' : ¬ (nb = 0) := by omega
              obtain ⟨ix, hix⟩ : ∃ ix : Nat, z1 % (nb : Int) = (ix : Int) := ⟨(z1 % (nb : Int)).toNat, by have := Int.emod_nonneg z1 n3'; omega⟩
              have ixn : ix < nb := by have := Int.emod_lt_of_pos z1 (show 0 < (nb : Int) by omega); omega
              have x0 : (0 : Int) ≤ (ix : Int) := by omega
              have x3 : (ix : Int) < (nb : Int) := by omega
              have ez : IntKind.i64.wrap z1 = z1 := by rw [IntKind.wrap_i64]; omega
              have er2 : z1.tmod (nb : Int) = (ix : Int) := by rw [Int.tmod_eq_emod_of_nonneg b1, hix]
              have er : IntKind.i64.wrap (z1.tmod (nb : Int)) = (ix : Int) := by rw [er2, IntKind.wrap_i64]; omega
              have hpl : ix < E.ps.length := by have := NL.out; omega
              obtain ⟨mb, mo, hma, hm0, _⟩ := VB.out.off.at.marks.cell ix hpl
              have hin := in64_nth PA.out.ok.inv.in64 ix
              obtain ⟨X, hX⟩ : ∃ X, (nth E.ps ix).1 = X := ⟨_, rfl⟩
              rw [hX] at hm0
              have IX := hide (show In64 (X, X) by rw [← hX]; exact ⟨hin.1, hin.2.1, hin.1, hin.2.1⟩)
              subst hma
              have HS : Hid (HeldN bb gb (.slice sab cb scb) (.slice (some ⟨mb, mo, none⟩) nb mcb) mb (mo + ix * 2) X wr.drew) := ⟨VB.out.cells.1, VB.out.cells.2.1, VB.out.cells.2.2, hm0⟩
              clear hT hX hin hm0 hpl hix d0 d1 d2
              go_wp2_with fail
              refine wp_region_held (S := HeldN bb gb (.slice sab cb scb) (.slice (some ⟨mb, mo, none⟩) nb mcb) mb (mo + ix * 2) X) (by kernel_rfl) ?_
              change wpAnyH _ _ _ _ _ _ _ _ (World.drew _)
              refine held_take (i := 0) (d := 160) (v := ?_) rfl rfl (by kernel_rfl) (by kernel_rfl) (by kernel_rfl) (fun _ _ _ h => h) (by kernel_rfl) ?_ HS.out ?_
              rotate_left
              · intro wz hz
                obtain ⟨y0, y1, y2, y3⟩ := hz
                go_simp
                first | done | with_reducible rfl
              refine held_take (i := 1) (d := 161) (v := ?_) rfl rfl (by kernel_rfl) (by kernel_rfl) (by kernel_rfl) (fun _ _ _ h => h) (by kernel_rfl) ?_ HS.out ?_
              rotate_left
              · intro wz hz
                obtain ⟨y0, y1, y2, y3⟩ := hz
                go_simp
                first | done | with_reducible rfl
              refine held_take (i := 2) (d := 162) (v := ?_) rfl rfl (by kernel_rfl) (by kernel_rfl) (by kernel_rfl) (fun _ _ _ h => h) (by kernel_rfl) ?_ HS.out ?_
              rotate_left
              · intro wz hz
                obtain ⟨y0, y1, y2, y3⟩ := hz
                go_simp
                first | done | with_reducible rfl
              refine held_take (i := 3) (d := 163) (v := ?_) rfl rfl (by kernel_rfl) (by kernel_rfl) (by kernel_rfl) (fun _ _ _ h => h) (by kernel_rfl) ?_ HS.out ?_
              rotate_left
              · intro wz hz
                obtain ⟨y0, y1, y2, y3⟩ := hz
                go_simp
                first | done | with_reducible rfl
              refine held_take (i := 4) (d := 164) (v := ?_) rfl rfl (by kernel_rfl) (by kernel_rfl) (by kernel_rfl) (fun _ _ _ h => h) (by kernel_rfl) ?_ HS.out ?_
              rotate_left
              · intro wz hz
                obtain ⟨y0, y1, y2, y3⟩ := hz
                go_simp
                first | done | with_reducible rfl
              refine held_take (i := 5) (d := 165) (v := ?_) rfl rfl (by kernel_rfl) (by kernel_rfl) (by kernel_rfl) (fun _ _ _ h => h) (by kernel_rfl) ?_ HS.out ?_
              rotate_left
              · intro wz hz
                obtain ⟨y0, y1, y2, y3⟩ := hz
                go_simp
                first | done | with_reducible rfl
              refine held_take (i := 6) (d := 166) (v := ?_) rfl rfl (by kernel_rfl) (by kernel_rfl) (by kernel_rfl) (fun _ _ _ h => h) (by kernel_rfl) ?_ HS.out ?_
              rotate_left
              · intro wz hz
                obtain ⟨y0, y1, y2, y3⟩ := hz
                go_simp
                first | done | with_reducible rfl
              refine held_take (i := 7) (d := 167) (v := ?_) rfl rfl (by kernel_rfl) (by kernel_rfl) (by kernel_rfl) (fun _ _ _ h => h) (by kernel_rfl) ?_ HS.out ?_
              rotate_left
              · intro wz hz
                obtain ⟨y0, y1, y2, y3⟩ := hz
                go_simp
                first | done | with_reducible rfl
              refine held_take (i := 8) (d := 168) (v := ?_) rfl rfl (by kernel_rfl) (by kernel_rfl) (by kernel_rfl) (fun _ _ _ h => h) (by kernel_rfl) ?_ HS.out ?_
              rotate_left
              · intro wz hz
                obtain ⟨y0, y1, y2, y3⟩ := hz
                go_simp
                first | done | with_reducible rfl
              refine held_take (i := 9) (d := 169) (v := ?_) rfl rfl (by kernel_rfl) (by kernel_rfl) (by kernel_rfl) (fun _ _ _ h => h) (by kernel_rfl) ?_ HS.out ?_
              rotate_left
              · intro wz hz
                obtain ⟨y0, y1, y2, y3⟩ := hz
                go_simp
                first | done | with_reducible rfl
              refine held_take (i := 10) (d := 24) (v := ?_) rfl rfl (by kernel_rfl) (by kernel_rfl) (by kernel_rfl) (fun _ _ _ h => h) (by kernel_rfl) ?_ HS.out ?_
              rotate_left
              · intro wz hz
                obtain ⟨y0, y1, y2, y3⟩ := hz
                go_simp
                first | done | with_reducible rfl
              refine wpAnyH_done (by kernel_rfl) ?_ _
              try simp only [Act.put, List.setIfInBounds_toArray, List.set_cons_succ, List.set_cons_zero]
              clear HS
              have PA' := hide (show Pa w wr.drew ba bb E j from ⟨⟨_, _, _, _, _, _, _, VA.out.fresh (Fresh.refl _).drew⟩, ⟨_, _, _, _, _, _, _, VB.out.fresh (Fresh.refl _).drew⟩, PA.out.ok, PA.out.few, PA.out.el.trans (Fresh.refl _).drew, PA.out.ge, PA.out.ne⟩)
              have VA' := hide (VA.out.fresh (Fresh.refl _).drew)
              have VB' := hide (VB.out.fresh (Fresh.refl _).drew)
              clear PA VA VB c0 c1 c2
              have PA := PA'
              have VA := VA'
              have VB := VB'
              clear PA' VA' VB' h0 h1
              generalize World.drew wr = wr at PA VA VB ⊢
              obtain ⟨c0, c1, c2⟩ := VA.out.cells
              obtain ⟨F, r, t, hP⟩ := rel_is PA.out.ok X
              have FO := hide (show F.Ok ∧ F.ps.length ≤ j + 1 by have := hP.ok PA.out.ok; exact ⟨this.1, Nat.le_trans this.2 (by have := PA.out.few; omega)⟩)
              have C1 := hide (fun w' (k : Fresh wr w') => rel_any SS.out hP PA.out.ok IX.out (VA.out.off.fresh k) (low_two (Nat.lt_of_lt_of_le VA.out.lt k.size) (Nat.lt_of_lt_of_le VB.out.lt k.size)))
              have C2 := hide (fun w' (k : Fresh wr w') => rrel_any hP PA.out.ok (VB.out.off.fresh k) (low_two (Nat.lt_of_lt_of_le VA.out.lt k.size) (Nat.lt_of_lt_of_le VB.out.lt k.size)))
              have tt : (!(t == t)) = false := by cases t <;> rfl
              clear hP
              go_wp2_with fail
              clear c0 c1 c2
              refine (C1.out wr (Fresh.refl _)).mono ?_
              rintro e w3 ⟨g4, sa4, c4, sc4, ma4, n4, mc4, rfl, s3, f3⟩
              obtain ⟨w4, bx, hw4, hbx, v4, f4⟩ := ev_new s3
              have VX := hide v4
              have VA4 := hide (VA.out.fresh (f3.trans f4))
              have VB4 := hide (VB.out.fresh (f3.trans f4))
              have K4 := hide (f3.trans f4)
              have F4 := hide (PA.out.el.trans (f3.trans f4))
              have NX := hide (show bx ≠ ba ∧ bx ≠ bb from ⟨by have := Nat.lt_of_lt_of_le VA.out.lt f3.size; omega, by have := Nat.lt_of_lt_of_le VB.out.lt f3.size; omega⟩)
              have HW4 := hide hw4
              have HBX := hide hbx
              clear s3 f3 v4 f4 hw4 hbx
              obtain ⟨r0, r1, r2⟩ := VB4.out.cells
              rw [HW4.out] at r0 r1 r2
              go_wp2_with fail
              rw [← HW4.out, ← HBX.out]
              clear r0 r1 r2
              refine (C2.out w4 K4.out).mono ?_
              rintro e w5 ⟨g5, sa5, c5, sc5, ma5, n5, mc5, rfl, s5, f5⟩
              obtain ⟨w6, by', hw6, hby, v6, f6⟩ := ev_new s5
              have VY := hide v6
              have VX6 := hide (VX.out.fresh (f5.trans f6))
              have VA6 := hide (VA4.out.fresh (f5.trans f6))
              have VB6 := hide (VB4.out.fresh (f5.trans f6))
              have F6 := hide (F4.out.trans (f5.trans f6))
              have NB := hide (show bx ≠ ba ∧ bx ≠ bb ∧ by' ≠ ba ∧ by' ≠ bb from ⟨NX.out.1, NX.out.2, by have := Nat.lt_of_lt_of_le VA4.out.lt f5.size; omega, by have := Nat.lt_of_lt_of_le VB4.out.lt f5.size; omega⟩)
              have HW6 := hide hw6
              have HBY := hide hby
              clear s5 f5 v6 f6 hw6 hby VX VA4 VB4 F4 HW4 HBX NX
              go_wp2_with fail
              rw [← HW6.out, ← HBY.out]
              have HS : Hid (HeldXY bx by' g4 (.slice sa4 c4 sc4) (.slice ma4 n4 mc4) g5 (.slice sa5 c5 sc5) (.slice ma5 n5 mc5) w6.drew) := ⟨VX6.out.cells.1, VX6.out.cells.2.1, VX6.out.cells.2.2, VY.out.cells.1, VY.out.cells.2.1, VY.out.cells.2.2⟩
              have GX := hide (VX6.out.off.fresh (Fresh.refl _).drew)
              have GY := hide (VY.out.off.fresh (Fresh.refl _).drew)
              have VAD := hide (VA6.out.fresh (Fresh.refl _).drew)
              have VBD := hide (VB6.out.fresh (Fresh.refl _).drew)
              have FD := hide (F6.out.trans (Fresh.refl _).drew)
              refine wp_region_held (S := HeldXY bx by' g4 (.slice sa4 c4 sc4) (.slice ma4 n4 mc4) g5 (.slice sa5 c5 sc5) (.slice ma5 n5 mc5)) (by kernel_rfl) ?_
              change wpAnyH _ _ _ _ _ _ _ _ (World.drew _)
              generalize World.drew w6 = wd at HS GX GY VAD VBD FD ⊢
              clear VX6 VY VA6 VB6 F6 HW6 HBY
              refine held_take (i := 0) (d := 192) (v := ?_) rfl rfl (by kernel_rfl) (by kernel_rfl) (by kernel_rfl) (fun _ _ _ h => h) (by kernel_rfl) ?_ HS.out ?_
              rotate_left
              · intro wz hz
                obtain ⟨y0, y1, y2, y3, y4, y5⟩ := hz
                go_simp
                first | done | with_reducible rfl
              refine held_take (i := 1) (d := 193) (v := ?_) rfl rfl (by kernel_rfl) (by kernel_rfl) (by kernel_rfl) (fun _ _ _ h => h) (by kernel_rfl) ?_ HS.out ?_
              rotate_left
              · intro wz hz
                obtain ⟨y0, y1, y2, y3, y4, y5⟩ := hz
                go_simp
                first | done | with_reducible rfl
              obtain ⟨r0, r1, r2⟩ := VAD.out.cells
              obtain ⟨p0, p1, p2⟩ := VAD.out.free
              have VA7 := hide (VAD.out.put (.inl rfl) GX.out)
              have VB7 := hide (VBD.out.other (b' := ba) (g' := g4) (sa' := sa4) (c' := c4) (sc' := sc4) (ma' := ma4) (n' := n4) (mc' := mc4) (.inl rfl) (Ne.symm PA.out.ne))
              have GY7 := hide (GY.out.sto (b := ba) (g := g4) (sa := sa4) (c := c4) (sc := sc4) (ma := ma4) (n := n4) (mc := mc4) (.inl rfl))
              have F7 := hide (sto_fresh (g := g4) (sa := sa4) (c := c4) (sc := sc4) (ma := ma4) (n := n4) (mc := mc4) FD.out PA.out.ge.1)
              refine wpAnyH_ready (rs := [2]) (by kernel_rfl) (by simp) ?_
              refine AllReadyH.cons rfl (fun K hK => ?_) AllReadyH.nil
              go_simp
              have HS' := hide (HS.out.sto (b := ba) (g' := g4) (sa' := sa4) (c' := c4) (sc' := sc4) (ma' := ma4) (n' := n4) (mc' := mc4) NB.out.1 NB.out.2.2.1); clear r0 r1 r2 p0 p1 p2 HS VAD VBD GX GY FD; unfold sto at VA7 VB7 GY7 F7 HS'; generalize World.setCell _ ⟨ba, 2, none⟩ _ = we at VA7 VB7 GY7 F7 HS' ⊢; have HS := HS'; clear HS'
              refine hK.out _ _ HS.out (fun _ => ?_)
              clear hK K
              obtain ⟨r0, r1, r2⟩ := VB7.out.cells
              obtain ⟨p0, p1, p2⟩ := VB7.out.free
              have VB8 := hide (VB7.out.put (.inr rfl) GY7.out)
              have VA8 := hide (VA7.out.other (b' := bb) (g' := g5) (sa' := sa5) (c' := c5) (sc' := sc5) (ma' := ma5) (n' := n5) (mc' := mc5) (.inr rfl) PA.out.ne)
              have F8 := hide (sto_fresh (g := g5) (sa := sa5) (c := c5) (sc := sc5) (ma := ma5) (n := n5) (mc := mc5) F7.out PA.out.ge.2)
              refine wpAnyH_ready (rs := [3]) (by kernel_rfl) (by simp) ?_
              refine AllReadyH.cons rfl (fun K hK => ?_) AllReadyH.nil
              go_simp
              have HS' := hide (HS.out.sto (b := bb) (g' := g5) (sa' := sa5) (c' := c5) (sc' := sc5) (ma' := ma5) (n' := n5) (mc' := mc5) NB.out.2.1 NB.out.2.2.2); clear r0 r1 r2 p0 p1 p2 HS VA7 VB7 GY7 F7; unfold sto at VA8 VB8 F8 HS'; generalize World.setCell _ ⟨bb, 2, none⟩ _ = wf at VA8 VB8 F8 HS' ⊢; have HS := HS'; clear HS'
              refine hK.out _ _ HS.out (fun _ => ?_)
              clear hK K
              refine wpAnyH_done (by kernel_rfl) ?_ _
              try simp only [Act.put, List.setIfInBounds_toArray, List.set_cons_succ, List.set_cons_zero]
              clear HS
              obtain ⟨r0, r1, r2⟩ := VA8.out.cells
              obtain ⟨p0, p1, p2⟩ := VB8.out.cells
              go_wp2_with fail
              clear r0 r1 r2 p0 p1 p2
              refine (same_like VA8.out.off.at VB8.out.off.at (Eng.Like.rfl' F)).mono ?_
              rintro e w9 ⟨rfl, f9⟩
              have PN := hide (show Pa w w9 ba bb F (j + 1) from ⟨⟨_, _, _, _, _, _, _, VA8.out.fresh f9⟩, ⟨_, _, _, _, _, _, _, VB8.out.fresh f9⟩, FO.out.1, FO.out.2, F8.out.trans f9, PA.out.ge, PA.out.ne⟩)
              clear f9 VA8 VB8 F8
              go_wp2
              go_roundw
              case rel => exact ⟨j + 1, F, by omega, by go_num, PN.out⟩
              case measure => simp [intOf]; omega
      · obtain rfl : j = len := by omega
        have FE := hide PA.out.el
        go_wp2
        go_ret
        exact ⟨rfl, FE.out⟩
  · have F0 := hide hout
    clear hrow hout
    by_cases h60 : len ≤ 60
    · have l0 : (len : Int) ≤ 60 := by omega
      have h3 : 3000 < n ∧ n ≤ 65536 := by
        rcases Classical.em (3000 < n ∧ n ≤ 65536) with h | h
        · exact h
        · exact absurd ⟨h60, h⟩ F0.out
      obtain ⟨h3, h4⟩ := h3
      go_enter Try.func3, Try.ntmps3
      go_wp2_with fail
      refine (BG.out _).mono ?_
      rintro e w1 ⟨rfl, f1⟩
      have F1 := hide f1
      clear f1
      go_wp2
      go_ret
      exact ⟨rfl, F1.out⟩
    · have l0 : (60 : Int) < (len : Int) := by omega
      go_enter Try.func3, Try.ntmps3
      go_wp2_with fail
      refine (BG.out _).mono ?_
      rintro e w1 ⟨rfl, f1⟩
      have F1 := hide f1
      clear f1
      go_wp2
      go_ret
      exact ⟨rfl, F1.out⟩
end Go.Proofs.Ytegolecdmpikhaa
