/- The walk of hodmanlaw11.PlaceLowest, given what is asked of package place. -/
import Derived.Test.YtegolecdmpikhaaPackJ
import Derived.Deep.CutRange
namespace Go.Proofs.Ytegolecdmpikhaa
open Go.RowKit Go.Maps

theorem zeros64 (k : Nat) (hk : k < 64) : (Array.replicate 64 (Value.int .i64 0))[k]? = some (.int .i64 0) := by simp [hk]
theorem wrapV (x : Int) (h1 : 0 ≤ x) (h2 : x ≤ 65536) : wrap64 x = x := by unfold wrap64; omega
set_option maxRecDepth 100000 in
set_option maxHeartbeats 3000000 in
theorem placeLowest_walk0 (S : PlaceSays) (a : Option Addr) (len cap : Nat) (w : World) (hrow : IsDuo w a len ∧ len ≤ maxLen) :
    Calls Try.prog 4 #[.slice a len cap] w fun e w' => e = .returned (.bool true) ∧ Fresh w w' := by
  have BG := hide (begun11_true S)
  have SS := hide S
  have CC : Cls 64 5 := by unfold Cls; decide
  have EK := hide (show EngOk 1 64 5 0 64 5 from ⟨rfl, by decide, rfl, rfl, CC⟩)
  have OE := hide (Eng.Ok.none (G := 2 ^ 0) (by decide) (by decide) CC)
  clear CC S
  by_cases h50 : len ≤ 50
  · have l0 : (len : Int) ≤ 50 := by omega
    have DU := hide hrow.1
    have L50 := hide h50
    obtain ⟨Z, hZ, hZs, hZk⟩ : ∃ Z : Array Value, (∀ w : World, (zeroValue 39).run Try.prog w = .ok (.agg Z) w) ∧ Z.size = 64 ∧ ∀ k, k < 64 → Z[k]? = some (.int .i64 0) := ⟨Array.replicate 64 (.int .i64 0), fun _ => by kernel_rfl, by simp, zeros64⟩
    have ZS := hide hZs
    have ZK := hide hZk
    have hmm := makeMap_none
    clear hrow h50 hZs hZk
    go_enter Try.func4, Try.ntmps4
    go_wp2_with fail
    refine (BG.out _).mono ?_
    rintro e w0 ⟨rfl, f0⟩
    have F0 := hide f0
    clear f0
    go_wp2_with fail
    refine (pnew_to SS.out 1 64 5 0 64 5 _ _ EK.out rfl).mono ?_
    rintro e w1 ⟨g1, sa1, c1, sc1, ma1, n1, mc1, rfl, s1, f1⟩
    obtain ⟨w2, be, hw2, hbe, f2⟩ : ∃ w2 be, w2 = w1.alloc (.cells #[.int .i64 g1, .slice sa1 c1 sc1, .slice ma1 n1 mc1] 29) ∧ be = w1.heap.size ∧ Fresh w1 w2 := ⟨_, _, rfl, rfl, fresh_box _ _ _⟩
    obtain ⟨w3, bo, hw3, hbo, f3⟩ : ∃ w3 bo, w3 = w2.alloc (.cells Z 39) ∧ bo = w2.heap.size ∧ Fresh w2 w3 := ⟨_, _, rfl, rfl, fresh_box _ _ _⟩
    obtain ⟨w4, bm, hw4, hbm, f4⟩ : ∃ w4 bm, w4 = w3.alloc (.map #[] 0) ∧ bm = w3.heap.size ∧ Fresh w3 w4 := ⟨_, _, rfl, rfl, (Below.refl _ _).alloc (Nat.le_refl _) _⟩
    have z2 : w2.heap.size = w1.heap.size + 1 := by rw [hw2]; simp
    have z3 : w3.heap.size = w2.heap.size + 1 := by rw [hw3]; simp
    have z1 := (F0.out.trans f1).size
    have LW0 := hide (show Lw w be bo bm (Eng.none (2 ^ 0) 64 5) 0 (.map []) (fun _ => 0) w4 from
      ⟨⟨g1, sa1, c1, sc1, ma1, n1, mc1, by rw [(f3.trans f4).block be (by omega), hbe, hw2]; exact heap_alloc_new w1 _, s1.off (f2.trans (f3.trans f4)) (fun k hk => by rcases hk with e | e | e <;> omega)⟩, OE.out, ⟨rfl, rfl, rfl, Nat.le_refl _⟩,
       ⟨Z, 39, by rw [f4.block bo (by omega), hbo, hw3]; exact heap_alloc_new w2 _, ZS.out, ZK.out⟩, fun _ _ => ⟨fun _ => rfl, fun _ => rfl⟩, by rw [hbm, hw4]; exact World.ownsMap_made w3 _ _ _, rel_nil, F0.out.trans (f1.trans (f2.trans (f3.trans f4))), ⟨by omega, by omega, by omega⟩, ⟨by omega, by omega, by omega⟩⟩)
    have HW2 := hide hw2
    have HW3 := hide hw3
    have HW4 := hide hw4
    have HBE := hide hbe
    have HBO := hide (show be + 1 = bo by omega)
    have HBM := hide (show bo + 1 = bm by omega)
    clear s1 f1 f2 f3 f4 hw2 hw3 hw4 hbe hbo hbm z2 z3 z1 F0 BG
    go_wp2
    rw [← HW2.out, ← HW3.out, ← HW4.out, ← HBE.out, HBO.out, HBM.out]
    clear HW2 HW3 HW4 HBE HBO HBM hmm ZS ZK
    clear hZ
    go_loopw [7] (fun i wr => ∃ (j : Nat) (E : Eng) (D : DataW Unit) (os : Nat → Int), j ≤ len ∧ i = .int .i64 (j : Int) ∧ Lw w be bo bm E j D os wr) (fun i _ => (len - intOf i).toNat)
    case atStart => exact ⟨0, _, _, _, Nat.zero_le _, rfl, LW0.out⟩
    case round =>
      obtain ⟨j, E, D, os, hj, rfl, hlw⟩ := hrel
      have LW := hide hlw
      have j0 : (0 : Int) ≤ (j : Int) := by omega
      obtain ⟨g, sa, c, sc, ma, n, mc, ev⟩ := hlw.ev
      have EV0 := hide ev
      clear hlw ev LW0 OE EK
      by_cases gj : j < len
      · have g' : (j : Int) < (len : Int) := by omega
        obtain ⟨q, o, z0, z1, rfl, ⟨h0, b0, b0'⟩, ⟨h1, b1, b1'⟩⟩ := duo_fresh DU.out LW.out.el j gj
        have LX := hide (show Low (Three be bo bm) wr from fun k hk => by rcases hk with e | e | e <;> rw [e]; exact EV0.out.lt; exact LW.out.arr.lt; exact ownsMap_lt LW.out.mp)
        obtain ⟨c0, c1, c2⟩ := EV0.out.cells
        obtain ⟨kk, hkk⟩ : ∃ kk : Nat, z1 % 5 = (kk : Int) := ⟨(z1 % 5).toNat, by omega⟩
        have K5 := hide (show kk < 5 by omega)
        have k50 : (0 : Int) ≤ (kk : Int) := by omega
        have k55 : (kk : Int) ≤ 4 := by omega
        by_cases hz : 0 < z0 % 4
        · have hzd : decide (0 < z0 % 4) = true := decide_eq_true hz
          clear hz
          have KC := hide (show kk < E.c by rw [LW.out.is.2.2.1]; exact K5.out)
          obtain ⟨M, hM⟩ : ∃ M, 2 ^ kk = M := ⟨_, rfl⟩
          have HM := hide hM
          have M1 : 1 ≤ M := by rw [← hM]; exact Nat.pow_pos (by decide)
          have M16 : M ≤ 16 := by rw [← hM]; exact Nat.pow_le_pow_right (n := 2) (by decide) (show kk ≤ 4 by omega)
          have WK := hide (show wrap64 (2 ^ kk) = (M : Int) by
            have e : (2 : Int) ^ kk = ((M : Nat) : Int) := by rw [← hM]; simp
            rw [e]; exact wrapV _ (by omega) (by omega))
          clear hM
          go_wp2_with fail
          rcases low_cases (N := E.N) E.p KC.out with ⟨i0, hi, _, hf, hbel⟩ | ⟨hl, hall⟩
          · obtain ⟨hiN, _⟩ := low_place KC.out hi
            obtain ⟨F, hF⟩ : ∃ F, E.put kk i0 = F := ⟨_, rfl⟩
            obtain ⟨at0, hat⟩ : ∃ at0 : Nat, i0 * M = at0 := ⟨_, rfl⟩
            have AT := hide (show i0 * M = at0 from hat)
            have A64' : at0 + M ≤ 64 := by rw [LW.out.is.2.1, HM.out, Nat.succ_mul, hat] at hiN; exact hiN
            have a64 : (at0 : Int) + (M : Int) ≤ 64 := by omega
            have m0 : (1 : Int) ≤ (M : Int) := by omega
            have FO := hide (show F.Ok by rw [← hF]; exact LW.out.ok.put KC.out hiN hf (by have := LW.out.is.2.2.2; have := L50.out; omega))
            have FN := hide (show F.G = 1 ∧ F.N = 64 ∧ F.c = 5 ∧ F.ps.length ≤ j + 1 by rw [← hF]; exact ⟨LW.out.is.1, LW.out.is.2.1, LW.out.is.2.2.1, Nat.le_trans (put_len E kk i0) (by have := LW.out.is.2.2.2; omega)⟩)
            have P1 := hide (pplace_yes SS.out (ev3 g sa c sc ma n mc) E F (Three be bo bm) (kk : Int) (at0 : Int) kk i0 wr EV0.out.off LX.out LW.out.ok rfl KC.out hi (by rw [LW.out.is.1, Nat.mul_one, HM.out, hat]) hF)
            have BEL := hide hbel
            have FRE := hide hf
            have HF := hide hF
            clear hi hf hbel hF hiN hat
            refine P1.out.mono ?_
            rintro e w3 ⟨g3, sa3, c3, sc3, ma3, n3, mc3, rfl, s3, f3⟩
            obtain ⟨w4, bx, hw4, hbx, v4, f4⟩ := ev_new s3
            have VX := hide v4
            have VE := hide (EV0.out.fresh (f3.trans f4))
            have AR := hide (LW.out.arr.block ((f3.trans f4).block bo LW.out.arr.lt))
            have MP := hide (ownsMap_fresh LW.out.mp (f3.trans f4))
            have F4 := hide (LW.out.el.trans (f3.trans f4))
            have NX := hide (show bx ≠ be ∧ bx ≠ bo ∧ bx ≠ bm from ⟨by have := Nat.lt_of_lt_of_le EV0.out.lt f3.size; omega, by have := Nat.lt_of_lt_of_le LW.out.arr.lt f3.size; omega, by have := Nat.lt_of_lt_of_le (ownsMap_lt LW.out.mp) f3.size; omega⟩)
            have HW4 := hide hw4
            have HBX := hide hbx
            clear s3 f3 v4 f4 hw4 hbx P1 c0 c1 c2
            go_wp2
            rw [← HW4.out, ← HBX.out, WK.out]
            clear HW4 HBX
            go_loopw [13, 14] (fun wa p wq => ∃ P : Nat, P ≤ i0 + 1 ∧ p = .int .i64 ((P * M : Nat) : Int) ∧ wa = .int .i64 (if P ≤ i0 then -1 else (at0 : Int)) ∧ wq = w4) (fun _ p _ => (128 - intOf p).toNat)
            case atStart => exact ⟨0, Nat.zero_le _, by simp, by simp, rfl⟩
            case round =>
              obtain ⟨P, P1, rfl, rfl, rfl⟩ := hrel
              by_cases hP : P ≤ i0
              · rw [if_pos hP]
                have hB0 : (P + 1) * M ≤ at0 + M := by rw [Nat.succ_mul, ← AT.out]; exact Nat.add_le_add_right (Nat.mul_le_mul_right M hP) M
                obtain ⟨B, hB⟩ : ∃ B, B = P * M := ⟨_, rfl⟩
                have B48 : B + M ≤ 64 := by rw [Nat.succ_mul, ← hB] at hB0; omega
                have AC := hide (show anyV E.p B M = clsB E.p kk P by rw [hB, ← HM.out]; exact any_cls E.p kk P)
                have AE := hide (show ∀ G, B ≤ G → anyV E.p B (G + 1 - B) = (anyV E.p B (G - B) || E.p G) from fun G hG => by
                  rw [show G + 1 - B = (G - B) + 1 by omega, any_succ, show B + (G - B) = G by omega])
                have PB := hide (show (P + 1) * M = B + M by rw [Nat.succ_mul, hB])
                have HB := hide hB
                rw [← hB]
                have b1' : (0 : Int) ≤ (B : Int) := by omega
                have b2' : (B : Int) + (M : Int) ≤ 64 := by omega
                have b3' : (B : Int) < 64 := by omega
                clear hB hB0
                go_wp2
                go_loopw [15, 16] (fun sv x wq => ∃ G : Nat, B ≤ G ∧ G ≤ B + M ∧ sv = .bool (!anyV E.p B (G - B)) ∧ x = .int .i64 (G : Int) ∧ wq = wr) (fun _ x _ => (B + M - intOf x).toNat)
                case atStart => exact ⟨B, Nat.le_refl _, Nat.le_add_right _ _, by rw [Nat.sub_self]; rfl, rfl, rfl⟩
                case round =>
                  obtain ⟨G, G1, G2, rfl, rfl, rfl⟩ := hrel
                  have G0 : (0 : Int) ≤ (G : Int) := by omega
                  by_cases hg : G < B + M
                  · have hg' : (G : Int) < (B : Int) + (M : Int) := by omega
                    have G64 : G < 64 := by omega
                    have G64' : (G : Int) < 64 := by omega
                    have cg := (AR.out.cell G G64).1
                    have AG := hide (AE.out G G1)
                    have OW := hide (LW.out.own G G64)
                    cases hs : anyV E.p B (G - B) with
                    | true =>
                      rw [hs, Bool.true_or] at AG
                      clear hs
                      go_wp2
                      go_roundw
                      case rel => exact ⟨G + 1, by omega, by omega, by rw [AG.out]; rfl, by go_num, trivial⟩
                      case measure => simp [intOf]; omega
                    | false =>
                      rw [hs, Bool.false_or] at AG
                      clear hs
                      cases hp : E.p G with
                      | true =>
                        have ho : ¬ (os G = 0) := fun e => by have := OW.out.1 e; rw [hp] at this; cases this
                        rw [hp] at AG
                        generalize os G = og at cg ho
                        clear hp OW
                        go_wp2
                        go_roundw
                        case rel => exact ⟨G + 1, by omega, by omega, by rw [AG.out]; exact congrArg Value.bool (by simpa using ho), by go_num, trivial⟩
                        case measure => simp [intOf]; omega
                      | false =>
                        have ho : os G = 0 := OW.out.2 hp
                        rw [hp] at AG
                        rw [ho] at cg
                        clear hp OW ho
                        go_wp2
                        go_roundw
                        case rel => exact ⟨G + 1, by omega, by omega, by rw [AG.out]; rfl, by go_num, trivial⟩
                        case measure => simp [intOf]; omega
                  · have hg' : (B : Int) + (M : Int) ≤ (G : Int) := by omega
                    have eg : G - B = M := by omega
                    rw [eg, AC.out]
                    clear eg
                    rcases Nat.lt_or_ge P i0 with hlt | hge
                    · rw [BEL.out P hlt]
                      go_wp2
                      go_roundw
                      case rel => exact ⟨P + 1, by omega, by rw [PB.out]; go_num, by rw [if_pos (show P + 1 ≤ i0 by omega)], trivial⟩
                      case measure => simp [intOf]; omega
                    · obtain rfl : P = i0 := by omega
                      rw [FRE.out]
                      go_wp2
                      go_roundw
                      case rel => exact ⟨P + 1, by omega, by rw [PB.out]; go_num, by rw [if_neg (show ¬ P + 1 ≤ P by omega), ← AT.out, ← HB.out], trivial⟩
                      case measure => simp [intOf]; omega
              · rw [if_neg hP]
                obtain ⟨B, hB⟩ : ∃ B, B = P * M := ⟨_, rfl⟩
                rw [← hB]
                clear hB
                have b1' : (0 : Int) ≤ (B : Int) := by omega
                have a00 : (0 : Int) ≤ (at0 : Int) := by omega
                go_upto_region 19 with fail
                go_cut [71] from 66 to 91 (fun s wx => s = .bool false ∧ wx = wr)
                case first =>
                  by_cases hlt : (B : Int) < 64
                  · go_wp2_with fail
                    go_meet
                    case rel => first | exact ⟨rfl, rfl⟩ | exact ⟨congrArg Value.bool (decide_eq_false (by omega)), rfl⟩
                  · go_wp2_with fail
                    go_meet
                    case rel => first | exact ⟨rfl, rfl⟩ | exact ⟨congrArg Value.bool (decide_eq_false (by omega)), rfl⟩
                case rest =>
                obtain ⟨rfl, hwc⟩ := hcut
                have hwc' := hwc.symm
                subst hwc'
                clear hwc
                have MD0 := hide (show MidL w be bo bm bx g sa c sc ma n mc g3 sa3 c3 sc3 ma3 n3 mc3 E F j D os wr from ⟨VE.out, VX.out, AR.out, MP.out, F4.out, LW.out.ge, LW.out.ne, NX.out⟩)
                have RL := hide (show Rel (sz F.ps) (D.put (kI (at0 : Int)) (.lit (.int .i64 (M : Int)))) by
                  have hr := LW.out.rel.put (sz_rise LW.out.ok.inv.rise) (x := (at0 : Int)) (c := (M : Int)) (by omega) (by omega)
                  have e : sz F.ps = putM (sz E.ps) ((at0 : Int), (M : Int)) := by
                    rw [← HF.out]
                    show sz (putM E.ps (((i0 * 2 ^ kk * E.G : Nat) : Int), (kk : Int))) = _
                    rw [← sz_put, LW.out.is.1, Nat.mul_one, HM.out, AT.out]
                    show putM (sz E.ps) ((at0 : Int), (2 : Int) ^ ((kk : Int)).toNat) = _
                    rw [Int.toNat_natCast, ← HM.out]; simp
                  rw [e]; exact hr)
                have OWN := hide (show ∀ k, k < 64 → ((if at0 ≤ k ∧ k < at0 + M then (j : Int) + 1 else os k) = 0 ↔ F.p k = false) from fun k hk => by
                  rw [← HF.out]
                  show _ ↔ useB E.p ((i0 * 2 ^ kk : Nat) : Int) ((2 ^ kk : Nat) : Int) true k = false
                  rw [HM.out, AT.out, use_in]
                  by_cases h : at0 ≤ k ∧ k < at0 + M
                  · rw [if_pos h, if_pos h]
                    exact ⟨fun e => by omega, fun e => by cases e⟩
                  · rw [if_neg h, if_neg h]; exact LW.out.own k hk)
                clear VE VX AR MP F4 NX BEL FRE
                have m64 : (M : Int) ≤ 64 := by omega
                go_wp2
                go_loopw [17] (fun x wq => ∃ t : Nat, t ≤ M ∧ x = .int .i64 (t : Int) ∧ MidL w be bo bm bx g sa c sc ma n mc g3 sa3 c3 sc3 ma3 n3 mc3 E F j D (fun k => if at0 ≤ k ∧ k < at0 + t then (j : Int) + 1 else os k) wq) (fun x _ => (M - intOf x).toNat)
                case atStart => exact ⟨0, Nat.zero_le _, rfl, MD0.out.congr (fun k _ => by rw [if_neg (by omega)])⟩
                case round =>
                  obtain ⟨t, ht, rfl, hmd⟩ := hrel
                  have MD := hide hmd
                  have t0 : (0 : Int) ≤ (t : Int) := by omega
                  clear hmd
                  by_cases htM : t < M
                  · have htM' : (t : Int) < (M : Int) := by omega
                    have cf := MD.out.arr.cell (at0 + t) (by omega)
                    obtain ⟨cf1, cf2⟩ := cf
                    have at1 : (at0 : Int) + (t : Int) < 64 := by omega
                    have NXM := hide ((MD.out.set (at0 + t) (by omega) ((j : Int) + 1)).congr (ot := fun k => if at0 ≤ k ∧ k < at0 + (t + 1) then (j : Int) + 1 else os k) (fun k _ => by
                      by_cases e : k = at0 + t
                      · rw [if_pos e, if_pos (by omega)]
                      · rw [if_neg e]
                        by_cases e2 : at0 ≤ k ∧ k < at0 + t
                        · rw [if_pos e2, if_pos (by omega)]
                        · rw [if_neg e2, if_neg (by omega)]))
                    go_wp2
                    clear cf1 cf2
                    go_roundw
                    case rel => exact ⟨t + 1, by omega, by go_num, NXM.out⟩
                    case measure => simp [intOf]; omega
                  · obtain rfl : t = M := by omega
                    have htM' : ¬ ((t : Int) < (t : Int)) := by omega
                    have KX := hide (kI_of (a := (at0 : Int)) (by omega) (by omega))
                    have HV := hide (plainElem_int (H := Unit) Try.underlying3 (WalkArith.wf_i64 (n := (t : Int)) (by omega)))
                    have DN := hide (fun w5 ho hg => MidL.done (MD.out.map (w1 := w5) (D1 := D.put (kI (at0 : Int)) (.lit (.int .i64 (t : Int)))) (j1 := j + 1) ho hg) FO.out FN.out OWN.out RL.out)
                    unfold sto at DN
                    go_wp2_with (first | (at_mapUpdate; refine wpList_mapUpdate_own _ rfl _ _ _ 40 rfl 3 3 intLaw Try.underlying40 _ bm j D rfl MD.out.mp (by unfold maxLen; omega) _ _ _ rfl rfl KX.out _ [] HV.out ?_; intro w5 hown hgrow; have M5 := hide (MD.out.map hown hgrow); have D5 := hide (DN.out w5 hown hgrow); clear hown hgrow DN; obtain ⟨x0, x1, x2⟩ := M5.out.vx.cells; obtain ⟨e0, e1, e2⟩ := M5.out.ve.cells; obtain ⟨p0, p1, p2⟩ := M5.out.ve.free) | go_in)
                    clear x0 x1 x2 e0 e1 e2 p0 p1 p2
                    go_roundw
                    case rel => exact ⟨j + 1, F, _, _, by omega, by go_num, D5.out⟩
                    case measure => simp [intOf]; omega
          · obtain ⟨Q, hQ⟩ : ∃ Q, 64 / M = Q := ⟨_, rfl⟩
            have QM : Q * M = 64 := by
              have hd : M ∣ 64 := by rw [← HM.out]; exact Nat.pow_dvd_pow (m := kk) (n := 6) 2 (by omega)
              rw [← hQ, Nat.mul_comm]; exact Nat.mul_div_cancel' hd
            have ALL := hide (show ∀ P, P < Q → clsB E.p kk P = true from fun P hP => hall P (by rw [LW.out.is.2.1, HM.out, hQ]; exact hP))
            have m0 : (1 : Int) ≤ (M : Int) := by omega
            have HQM := hide QM
            have P1 := hide (pplace_no SS.out (ev3 g sa c sc ma n mc) E (Three be bo bm) (kk : Int) wr EV0.out.off LX.out LW.out.ok (by unfold In64; simp only; omega) hl)
            clear hl hall hQ QM
            refine P1.out.mono ?_
            rintro e w3 ⟨g3, sa3, c3, sc3, ma3, n3, mc3, rfl, s3, f3⟩
            obtain ⟨w4, bx, hw4, hbx, v4, f4⟩ := ev_new s3
            have VX := hide v4
            have VE := hide (EV0.out.fresh (f3.trans f4))
            have AR := hide (LW.out.arr.block ((f3.trans f4).block bo LW.out.arr.lt))
            have MP := hide (ownsMap_fresh LW.out.mp (f3.trans f4))
            have F4 := hide (LW.out.el.trans (f3.trans f4))
            have NX := hide (show bx ≠ be ∧ bx ≠ bo ∧ bx ≠ bm from ⟨by have := Nat.lt_of_lt_of_le EV0.out.lt f3.size; omega, by have := Nat.lt_of_lt_of_le LW.out.arr.lt f3.size; omega, by have := Nat.lt_of_lt_of_le (ownsMap_lt LW.out.mp) f3.size; omega⟩)
            have HW4 := hide hw4
            have HBX := hide hbx
            clear s3 f3 v4 f4 hw4 hbx P1 c0 c1 c2
            go_wp2
            rw [← HW4.out, ← HBX.out, WK.out]
            clear HW4 HBX
            go_loopw [13, 14] (fun wa p wq => ∃ P : Nat, P ≤ Q ∧ p = .int .i64 ((P * M : Nat) : Int) ∧ wa = .int .i64 (-1) ∧ wq = w4) (fun _ p _ => (128 - intOf p).toNat)
            case atStart => exact ⟨0, Nat.zero_le _, by simp, rfl, rfl⟩
            case round =>
              obtain ⟨P, P1, rfl, rfl, rfl⟩ := hrel
              by_cases hP : P < Q
              · have hB0 : (P + 1) * M ≤ Q * M := Nat.mul_le_mul_right M hP
                obtain ⟨B, hB⟩ : ∃ B, B = P * M := ⟨_, rfl⟩
                have B48 : B + M ≤ 64 := by rw [HQM.out, Nat.succ_mul, ← hB] at hB0; omega
                have AC := hide (show anyV E.p B M = clsB E.p kk P by rw [hB, ← HM.out]; exact any_cls E.p kk P)
                have AE := hide (show ∀ G, B ≤ G → anyV E.p B (G + 1 - B) = (anyV E.p B (G - B) || E.p G) from fun G hG => by
                  rw [show G + 1 - B = (G - B) + 1 by omega, any_succ, show B + (G - B) = G by omega])
                have PB := hide (show (P + 1) * M = B + M by rw [Nat.succ_mul, hB])
                have HB := hide hB
                rw [← hB]
                have b1' : (0 : Int) ≤ (B : Int) := by omega
                have b2' : (B : Int) + (M : Int) ≤ 64 := by omega
                have b3' : (B : Int) < 64 := by omega
                clear hB hB0
                go_wp2
                go_loopw [15, 16] (fun sv x wq => ∃ G : Nat, B ≤ G ∧ G ≤ B + M ∧ sv = .bool (!anyV E.p B (G - B)) ∧ x = .int .i64 (G : Int) ∧ wq = wr) (fun _ x _ => (B + M - intOf x).toNat)
                case atStart => exact ⟨B, Nat.le_refl _, Nat.le_add_right _ _, by rw [Nat.sub_self]; rfl, rfl, rfl⟩
                case round =>
                  obtain ⟨G, G1, G2, rfl, rfl, rfl⟩ := hrel
                  have G0 : (0 : Int) ≤ (G : Int) := by omega
                  by_cases hg : G < B + M
                  · have hg' : (G : Int) < (B : Int) + (M : Int) := by omega
                    have G64 : G < 64 := by omega
                    have G64' : (G : Int) < 64 := by omega
                    have cg := (AR.out.cell G G64).1
                    have AG := hide (AE.out G G1)
                    have OW := hide (LW.out.own G G64)
                    cases hs : anyV E.p B (G - B) with
                    | true =>
                      rw [hs, Bool.true_or] at AG
                      clear hs
                      go_wp2
                      go_roundw
                      case rel => exact ⟨G + 1, by omega, by omega, by rw [AG.out]; rfl, by go_num, trivial⟩
                      case measure => simp [intOf]; omega
                    | false =>
                      rw [hs, Bool.false_or] at AG
                      clear hs
                      cases hp : E.p G with
                      | true =>
                        have ho : ¬ (os G = 0) := fun e => by have := OW.out.1 e; rw [hp] at this; cases this
                        rw [hp] at AG
                        generalize os G = og at cg ho
                        clear hp OW
                        go_wp2
                        go_roundw
                        case rel => exact ⟨G + 1, by omega, by omega, by rw [AG.out]; exact congrArg Value.bool (by simpa using ho), by go_num, trivial⟩
                        case measure => simp [intOf]; omega
                      | false =>
                        have ho : os G = 0 := OW.out.2 hp
                        rw [hp] at AG
                        rw [ho] at cg
                        clear hp OW ho
                        go_wp2
                        go_roundw
                        case rel => exact ⟨G + 1, by omega, by omega, by rw [AG.out]; rfl, by go_num, trivial⟩
                        case measure => simp [intOf]; omega
                  · have hg' : (B : Int) + (M : Int) ≤ (G : Int) := by omega
                    have eg : G - B = M := by omega
                    rw [eg, AC.out]
                    clear eg
                    rw [ALL.out P hP]
                    go_wp2
                    go_roundw
                    case rel => exact ⟨P + 1, by omega, by rw [PB.out]; go_num, rfl, trivial⟩
                    case measure => simp [intOf]; omega
              · obtain rfl : P = Q := by omega
                rw [HQM.out]
                have b64 : ((64 : Nat) : Int) = 64 := rfl
                rw [b64]
                have MD0 := hide (show MidL w be bo bm bx g sa c sc ma n mc g3 sa3 c3 sc3 ma3 n3 mc3 E E j D os wr from ⟨VE.out, VX.out, AR.out, MP.out, F4.out, LW.out.ge, LW.out.ne, NX.out⟩)
                have MD1 := hide (show MidL w be bo bm bx g sa c sc ma n mc g3 sa3 c3 sc3 ma3 n3 mc3 E E (j + 1) D os wr from ⟨VE.out, VX.out, AR.out, MP.out.mono (Nat.le_succ _), F4.out, LW.out.ge, LW.out.ne, NX.out⟩)
                have DN := hide (MD1.out.done LW.out.ok ⟨LW.out.is.1, LW.out.is.2.1, LW.out.is.2.2.1, Nat.le_trans LW.out.is.2.2.2 (Nat.le_succ _)⟩ LW.out.own LW.out.rel)
                unfold sto at DN
                clear VE VX AR MP F4 NX ALL MD1
                go_wp2
                go_loopw [17] (fun x wq => x = .int .i64 0 ∧ wq = wr) (fun x _ => (M - intOf x).toNat)
                case atStart => exact ⟨rfl, rfl⟩
                case round =>
                  obtain ⟨rfl, rfl⟩ := hrel
                  obtain ⟨x0, x1, x2⟩ := MD0.out.vx.cells
                  obtain ⟨e0, e1, e2⟩ := MD0.out.ve.cells
                  obtain ⟨p0, p1, p2⟩ := MD0.out.ve.free
                  have mm : (0 : Int) < (M : Int) := by omega
                  go_wp2
                  clear x0 x1 x2 e0 e1 e2 p0 p1 p2
                  go_roundw
                  case rel => exact ⟨j + 1, E, _, _, by omega, by go_num, DN.out⟩
                  case measure => simp [intOf]; omega
        · have hzd : decide (0 < z0 % 4) = false := decide_eq_false hz
          clear hz
          obtain ⟨at0, hat⟩ : ∃ at0 : Nat, z1 % 64 = (at0 : Int) := ⟨(z1 % 64).toNat, by omega⟩
          have A63 : at0 < 64 := by omega
          have a0' : (0 : Int) ≤ (at0 : Int) := by omega
          have a63' : (at0 : Int) < 64 := by omega
          have KX := hide (kI_of (a := (at0 : Int)) (by omega) (by omega))
          have RLD := hide (LW.out.rel.del (sz_rise LW.out.ok.inv.rise) (x := (at0 : Int)) (by omega) (by omega))
          cases hh : hitM E.ps (at0 : Int) with
          | true =>
            obtain ⟨k, i, hx, hk, hi, hcl, hmem⟩ := hit_is LW.out.ok.inv hh
            obtain ⟨M, hM⟩ : ∃ M, 2 ^ k = M := ⟨_, rfl⟩
            have HM := hide hM
            have hiM : i * M = at0 := by
              rw [LW.out.is.1, Nat.mul_one, hM] at hx
              exact_mod_cast hx.symm
            have A64' : at0 + M ≤ 64 := by rw [LW.out.is.2.1, hM, Nat.succ_mul, hiM] at hi; exact hi
            have M1 : 1 ≤ M := by rw [← hM]; exact Nat.pow_pos (by decide)
            have HX := hide ((look_hS LW.out.rel (k := (at0 : Int)) (by omega) (by omega)).trans ((sz_hit _ _).trans hh))
            have AX := hide ((look_cS LW.out.rel (k := (at0 : Int)) (by omega) (by omega)).trans (by rw [sz_cls hh, hcl, Int.toNat_natCast, show (2 : Int) ^ k = ((M : Nat) : Int) by rw [← hM]; simp]))
            have k5 : k < 5 := by rw [LW.out.is.2.2.1] at hk; exact hk
            obtain ⟨F, hF⟩ : ∃ F, E.tak k i = F := ⟨_, rfl⟩
            have FO := hide (show F.Ok by rw [← hF]; exact LW.out.ok.tak hmem)
            have FN := hide (show F.G = 1 ∧ F.N = 64 ∧ F.c = 5 ∧ F.ps.length ≤ j + 1 by rw [← hF]; exact ⟨LW.out.is.1, LW.out.is.2.1, LW.out.is.2.2.1, Nat.le_trans (tak_len E k i) (Nat.le_trans LW.out.is.2.2.2 (Nat.le_succ _))⟩)
            have RL := hide (show Rel (sz F.ps) (D.del (kI (at0 : Int))) by
              have e : sz F.ps = takM (sz E.ps) (at0 : Int) := by
                rw [← hF]
                show sz (takM E.ps ((i * 2 ^ k * E.G : Nat) : Int)) = _
                rw [← sz_tak, ← hx]
              rw [e]; exact RLD.out)
            have OWN := hide (show ∀ q, q < 64 → ((if at0 ≤ q ∧ q < at0 + M then (0 : Int) else os q) = 0 ↔ F.p q = false) from fun q hq => by
              rw [← hF]
              show _ ↔ useB E.p ((i * 2 ^ k : Nat) : Int) ((2 ^ k : Nat) : Int) false q = false
              rw [hM, hiM, use_in]
              by_cases h : at0 ≤ q ∧ q < at0 + M
              · rw [if_pos h, if_pos h]
                exact ⟨fun _ => rfl, fun _ => rfl⟩
              · rw [if_neg h, if_neg h]; exact LW.out.own q hq)
            have R1 := hide (prel_yes SS.out (ev3 g sa c sc ma n mc) E F (Three be bo bm) (at0 : Int) (k : Int) k i wr EV0.out.off LX.out LW.out.ok hx rfl hmem hk hi hF)
            have kk0 : (0 : Int) ≤ (k : Int) := by omega
            have kk4 : (k : Int) ≤ 4 := by omega
            have m0 : (1 : Int) ≤ (M : Int) := by omega
            have m64 : (at0 : Int) + (M : Int) ≤ 64 := by omega
            have wk : wrap64 (2 ^ k) = (M : Int) := by
              have e : (2 : Int) ^ k = ((M : Nat) : Int) := by rw [← hM]; simp
              rw [e]; exact wrapV _ (by omega) (by omega)
            clear hh hx hk hi hcl hmem hM hiM hF RLD
            go_wp2_with (first | (at_lookup; refine wpList_lookup_own_ok_int _ rfl _ _ 40 rfl 3 3 .i64 intLaw Try.underlying40 Try.underlying3 (zeroI _) bm j D rfl LW.out.mp _ _ rfl KX.out ?_; intro c hat2 hwc; rw [HX.out]; have hc : (M : Int) = c := (by rw [AX.out] at hat2; simpa using hat2); clear hat2 hwc; subst hc) | fail)
            refine R1.out.mono ?_
            rintro e w3 ⟨g3, sa3, c3, sc3, ma3, n3, mc3, rfl, s3, f3⟩
            obtain ⟨w4, bx, hw4, hbx, v4, f4⟩ := ev_new s3
            have VX := hide v4
            have VE := hide (EV0.out.fresh (f3.trans f4))
            have AR := hide (LW.out.arr.block ((f3.trans f4).block bo LW.out.arr.lt))
            have MP := hide (ownsMap_fresh LW.out.mp (f3.trans f4))
            have F4 := hide (LW.out.el.trans (f3.trans f4))
            have NX := hide (show bx ≠ be ∧ bx ≠ bo ∧ bx ≠ bm from ⟨by have := Nat.lt_of_lt_of_le EV0.out.lt f3.size; omega, by have := Nat.lt_of_lt_of_le LW.out.arr.lt f3.size; omega, by have := Nat.lt_of_lt_of_le (ownsMap_lt LW.out.mp) f3.size; omega⟩)
            have HW4 := hide hw4
            have HBX := hide hbx
            clear s3 f3 v4 f4 hw4 hbx c0 c1 c2
            have MD0 := hide (show MidL w be bo bm bx g sa c sc ma n mc g3 sa3 c3 sc3 ma3 n3 mc3 E F j D os w4 from ⟨VE.out, VX.out, AR.out, MP.out, F4.out, LW.out.ge, LW.out.ne, NX.out⟩)
            clear VE VX AR MP F4 NX
            go_wp2
            rw [← HW4.out, ← HBX.out]
            clear HW4 HBX wk
            go_loopw [24] (fun x wq => ∃ t : Nat, t ≤ M ∧ x = .int .i64 (t : Int) ∧ MidL w be bo bm bx g sa c sc ma n mc g3 sa3 c3 sc3 ma3 n3 mc3 E F j D (fun q => if at0 ≤ q ∧ q < at0 + t then (0 : Int) else os q) wq) (fun x _ => (M - intOf x).toNat)
            case atStart => exact ⟨0, Nat.zero_le _, rfl, MD0.out.congr (fun q _ => by rw [if_neg (by omega)])⟩
            case round =>
              obtain ⟨t, ht, rfl, hmd⟩ := hrel
              have MD := hide hmd
              have t0 : (0 : Int) ≤ (t : Int) := by omega
              clear hmd
              by_cases htM : t < M
              · have htM' : (t : Int) < (M : Int) := by omega
                have cf := MD.out.arr.cell (at0 + t) (by omega)
                obtain ⟨cf1, cf2⟩ := cf
                have at1 : (at0 : Int) + (t : Int) < 64 := by omega
                have NXM := hide ((MD.out.set (at0 + t) (by omega) 0).congr (ot := fun q => if at0 ≤ q ∧ q < at0 + (t + 1) then (0 : Int) else os q) (fun q _ => by
                  by_cases e : q = at0 + t
                  · rw [if_pos e, if_pos (by omega)]
                  · rw [if_neg e]
                    by_cases e2 : at0 ≤ q ∧ q < at0 + t
                    · rw [if_pos e2, if_pos (by omega)]
                    · rw [if_neg e2, if_neg (by omega)]))
                go_wp2
                clear cf1 cf2
                go_roundw
                case rel => exact ⟨t + 1, by omega, by go_num, NXM.out⟩
                case measure => simp [intOf]; omega
              · obtain rfl : t = M := by omega
                have htM' : ¬ ((t : Int) < (t : Int)) := by omega
                have DN := hide (fun w5 ho hg => MidL.done (MD.out.map (w1 := w5) (D1 := D.del (kI (at0 : Int))) (j1 := j + 1) ho hg) FO.out FN.out OWN.out RL.out)
                unfold sto at DN
                go_wp2_with (first | (at_delete; refine wpList_delete_own _ rfl _ _ 40 3 rfl 3 intLaw Try.underlying40 _ bm j D rfl MD.out.mp _ _ rfl KX.out ?_; intro w5 hown hturn; have M5 := hide (MD.out.map (hown.mono (Nat.le_succ _)) hturn.grown); have D5 := hide (DN.out w5 (hown.mono (Nat.le_succ _)) hturn.grown); clear hown hturn DN; obtain ⟨x0, x1, x2⟩ := M5.out.vx.cells; obtain ⟨e0, e1, e2⟩ := M5.out.ve.cells; obtain ⟨p0, p1, p2⟩ := M5.out.ve.free) | go_in)
                clear x0 x1 x2 e0 e1 e2 p0 p1 p2
                go_roundw
                case rel => exact ⟨j + 1, F, _, _, by omega, by go_num, D5.out⟩
                case measure => simp [intOf]; omega
          | false =>
            have HX := hide ((look_hS LW.out.rel (k := (at0 : Int)) (by omega) (by omega)).trans ((sz_hit _ _).trans hh))
            have hs : hitM (sz E.ps) (at0 : Int) = false := (sz_hit _ _).trans hh
            have AX := hide ((look_cS LW.out.rel (k := (at0 : Int)) (by omega) (by omega)).trans (show (DataW.lit (.int .i64 (clsM (sz E.ps) (at0 : Int))) : DataW Unit) = .lit (.int .i64 0) by unfold clsM; rw [hs]; rfl))
            have RL := hide (show Rel (sz E.ps) (D.del (kI (at0 : Int))) by
              have e : takM (sz E.ps) (at0 : Int) = sz E.ps := by
                unfold takM nxM
                rw [hs]
                exact List.take_append_drop _ _
              have h := RLD.out
              rw [e] at h; exact h)
            have R1 := hide (prel_no SS.out (ev3 g sa c sc ma n mc) E (Three be bo bm) (at0 : Int) wr EV0.out.off LX.out LW.out.ok (by unfold In64; simp only; omega) hh)
            clear hh hs RLD
            go_wp2_with (first | (at_lookup; refine wpList_lookup_own_ok_int _ rfl _ _ 40 rfl 3 3 .i64 intLaw Try.underlying40 Try.underlying3 (zeroI _) bm j D rfl LW.out.mp _ _ rfl KX.out ?_; intro c hat2 hwc; rw [HX.out]; have hc : (0 : Int) = c := (by rw [AX.out] at hat2; simpa using hat2); clear hat2 hwc; subst hc) | fail)
            refine R1.out.mono ?_
            rintro e w3 ⟨g3, sa3, c3, sc3, ma3, n3, mc3, rfl, s3, f3⟩
            obtain ⟨w4, bx, hw4, hbx, v4, f4⟩ := ev_new s3
            have VX := hide v4
            have VE := hide (EV0.out.fresh (f3.trans f4))
            have AR := hide (LW.out.arr.block ((f3.trans f4).block bo LW.out.arr.lt))
            have MP := hide (ownsMap_fresh LW.out.mp (f3.trans f4))
            have F4 := hide (LW.out.el.trans (f3.trans f4))
            have NX := hide (show bx ≠ be ∧ bx ≠ bo ∧ bx ≠ bm from ⟨by have := Nat.lt_of_lt_of_le EV0.out.lt f3.size; omega, by have := Nat.lt_of_lt_of_le LW.out.arr.lt f3.size; omega, by have := Nat.lt_of_lt_of_le (ownsMap_lt LW.out.mp) f3.size; omega⟩)
            have HW4 := hide hw4
            have HBX := hide hbx
            clear s3 f3 v4 f4 hw4 hbx c0 c1 c2
            have MD := hide (show MidL w be bo bm bx g sa c sc ma n mc g3 sa3 c3 sc3 ma3 n3 mc3 E E j D os w4 from ⟨VE.out, VX.out, AR.out, MP.out, F4.out, LW.out.ge, LW.out.ne, NX.out⟩)
            clear VE VX AR MP F4 NX
            go_wp2
            rw [← HW4.out, ← HBX.out]
            clear HW4 HBX
            go_loopw [24] (fun x wq => x = .int .i64 0 ∧ wq = w4) (fun x _ => (0 - intOf x).toNat)
            case atStart => exact ⟨rfl, rfl⟩
            case round =>
              obtain ⟨rfl, rfl⟩ := hrel
              have DN := hide (fun w5 ho hg => MidL.done (MD.out.map (w1 := w5) (D1 := D.del (kI (at0 : Int))) (j1 := j + 1) ho hg) LW.out.ok ⟨LW.out.is.1, LW.out.is.2.1, LW.out.is.2.2.1, Nat.le_trans LW.out.is.2.2.2 (Nat.le_succ _)⟩ LW.out.own RL.out)
              unfold sto at DN
              go_wp2_with (first | (at_delete; refine wpList_delete_own _ rfl _ _ 40 3 rfl 3 intLaw Try.underlying40 _ bm j D rfl MD.out.mp _ _ rfl KX.out ?_; intro w5 hown hturn; have M5 := hide (MD.out.map (hown.mono (Nat.le_succ _)) hturn.grown); have D5 := hide (DN.out w5 (hown.mono (Nat.le_succ _)) hturn.grown); clear hown hturn DN; obtain ⟨x0, x1, x2⟩ := M5.out.vx.cells; obtain ⟨e0, e1, e2⟩ := M5.out.ve.cells; obtain ⟨p0, p1, p2⟩ := M5.out.ve.free) | go_in)
              clear x0 x1 x2 e0 e1 e2 p0 p1 p2
              go_roundw
              case rel => exact ⟨j + 1, E, _, _, by omega, by go_num, D5.out⟩
              case measure => simp [intOf]; omega
      · obtain rfl : j = len := by omega
        obtain ⟨c0, c1, c2⟩ := EV0.out.cells
        have NL := hide EV0.out.off.at.len
        have FE := hide LW.out.el
        have SZ := hide (show Maps.size D = n by rw [LW.out.rel.size, sz_length, NL.out])
        go_wp2_with (first | (at_len; refine wpList_len_own _ rfl _ 40 rfl 3 3 Try.underlying40 _ bm j D rfl LW.out.mp ?_; rw [SZ.out]) | go_in)
        go_ret
        exact ⟨rfl, FE.out⟩
  · have l0 : (50 : Int) < (len : Int) := by omega
    clear hrow h50
    go_enter Try.func4, Try.ntmps4
    go_wp2_with fail
    refine (BG.out _).mono ?_
    rintro e w1 ⟨rfl, f1⟩
    have F1 := hide f1
    clear f1
    go_wp2
    go_ret
    exact ⟨rfl, F1.out⟩
end Go.Proofs.Ytegolecdmpikhaa
