/- Proved here: hodmanlaw2.ConfAll returns true at every request, every slice of bytes and every two numbers, in any memory in which the library's table math/bits.deBruijn64tab lies as its initialiser lays it: what the program's conf answers (Of, Ceil, Shift) is what the document's own answers are (P2.1, P2.2). No condition besides. -/
import Derived.Test.YtekffikkbiohnaaDoorLawB
import Derived.Test.YtekffikkbiohnaaDoorRef1Conf
import Derived.Test.YtekffikkbiohnaaDoorPlayIn
import Derived.Test.YtekffikkbiohnaaDoorWhole
import Derived.Test.YtekffikkbiohnaaDoorCards
import Derived.Test.YtekffikkbiohnaaDoorTie
import Derived.Deep.CutRange
import Derived.Deep.RegionHeld
namespace Go.Proofs.YtekffikkbiohnaaDoor
open Go.ChangeShapes Go.WideShapes Go.ChangeAt Go.RowKit

abbrev two (r s : Rw) (t : TypeId) : Obj := .cells #[.int .i64 r.g, .int .i64 r.la, .int .i64 r.li, .int .i64 r.pg, .int .i64 r.bu, .int .i64 r.se, .int .i64 s.g, .int .i64 s.la, .int .i64 s.li, .int .i64 s.pg, .int .i64 s.bu, .int .i64 s.se] t
theorem two_has (w : World) (r s : Rw) (t : TypeId) : HasR (w.alloc (two r s t)) w.heap.size 0 r ∧ HasR (w.alloc (two r s t)) w.heap.size 6 s := by
  unfold HasR
  simp [two]

set_option maxRecDepth 100000 in
set_option maxHeartbeats 4000000 in
theorem confAll_walk (g : Int) (_ : -9223372036854775808 ≤ g) (_ : g ≤ 9223372036854775807) (la : Int) (_ : -9223372036854775808 ≤ la) (_ : la ≤ 9223372036854775807) (li : Int) (_ : -9223372036854775808 ≤ li) (_ : li ≤ 9223372036854775807) (pg : Int) (_ : -9223372036854775808 ≤ pg) (_ : pg ≤ 9223372036854775807) (bu : Int) (_ : -9223372036854775808 ≤ bu) (_ : bu ≤ 9223372036854775807) (se : Int) (_ : -9223372036854775808 ≤ se) (_ : se ≤ 9223372036854775807)
    (a : Option Addr) (len cap : Nat) (zs : List Int) (cls : Int) (_ : -9223372036854775808 ≤ cls) (_ : cls ≤ 9223372036854775807) (chg : Int) (_ : -9223372036854775808 ≤ chg) (_ : chg ≤ 9223372036854775807) (w : World) (hrow : IsRow .u8 w a len cap zs) (hT : Tab w) :
    Calls Tryd.prog 3 #[.agg #[.int .i64 g, .int .i64 la, .int .i64 li, .int .i64 pg, .int .i64 bu, .int .i64 se], .slice a len cap, .int .i64 cls, .int .i64 chg] w fun e w' => e = .returned (.bool true) ∧ Kept w w' := by
  have hR := hide hrow
  clear hrow
  have k0 : Hid (Kept w (w.alloc (Rw.obj ⟨g, la, li, pg, bu, se⟩ 23))) := (Kept.refl w).alloc _ _
  have r0 := hide (HasR.made w ⟨g, la, li, pg, bu, se⟩ 23)
  by_cases hlen : 6 < len
  · have hl : (6 : Int) < (len : Int) := by omega
    go_enter Tryd.func3, Tryd.ntmps3
    go_wp2_with fail
    refine (begun_true _ (hT.kept k0.out)).mono ?_
    rintro e w1 ⟨rfl, k1⟩
    have K1 := hide (k0.out.trans k1); clear k1
    go_wp2
    go_ret
    exact ⟨rfl, K1.out⟩
  · have hl : (len : Int) ≤ 6 := by omega
    go_enter Tryd.func3, Tryd.ntmps3
    go_wp2_with fail
    refine (begun_true _ (hT.kept k0.out)).mono ?_
    rintro e w1 ⟨rfl, k1⟩
    have K1 := hide (k0.out.trans k1)
    have R1 := hide (r0.out.kept k1)
    clear k1
    obtain ⟨x0, x1, x2, x3, x4, x5⟩ := R1.out
    dsimp only [Nat.zero_add] at x0 x1 x2 x3 x4 x5
    have hn1 := World.block_lt_of_cell? _ _ x0
    dsimp only at hn1
    have P1 := hide ((picks_made hR.out K1.out).drew)
    have RAW1 : Hid (Calls Tryd.prog 9 #[.pointer (some ⟨w1.heap.size, 0, none⟩), .bool false] (w1.alloc (.cells #[.slice a len cap, .int .i64 0] 43)).drew fun e w' => e = .returned (rawOf (zs.take len) 0 false).val ∧ Kept w1 w') :=
      (raw_any w1.heap.size (zs.take len) 0 false _ (by rw [Nat.zero_min]; exact P1.out)).mono fun e w' h => ⟨h.1, Else.kept (((Kept.refl w1).alloc _ _).drew) (Nat.le_refl _) h.2.2⟩
    generalize rawOf (zs.take len) 0 false = r2 at *
    obtain ⟨g2, la2, li2, pg2, bu2, se2⟩ := r2
    go_wp2_with fail
    go_cut [9] from 25 (fun s wx => ∃ nl : Nat, s = .slice (some ⟨nl, 0, none⟩) 2 2 ∧ HasR wx nl 0 ⟨g, la, li, pg, bu, se⟩ ∧ HasR wx nl 6 ⟨g2, la2, li2, pg2, bu2, se2⟩ ∧ Kept w wx)
    case first =>
      go_region_with (first
        | (go_at_call 8; refine (made_any a len cap _).mono ?_; rintro e w' ⟨rfl, rfl⟩)
        | (go_at_call 9; refine RAW1.out.mono ?_; rintro e w3 ⟨rfl, k3⟩; obtain ⟨y0, y1, y2, y3, y4, y5⟩ := R1.out.kept k3; dsimp only [Nat.zero_add] at y0 y1 y2 y3 y4 y5; have K3 := hide (K1.out.trans k3); clear k3))
      all_goals
        go_wp2_with fail
        go_meet
      case rel => exact ⟨_, rfl, (two_has w3 ⟨g, la, li, pg, bu, se⟩ ⟨g2, la2, li2, pg2, bu2, se2⟩ 23).1, (two_has w3 ⟨g, la, li, pg, bu, se⟩ ⟨g2, la2, li2, pg2, bu2, se2⟩ 23).2, K3.out.alloc _ _⟩
      case rel => exact ⟨_, rfl, (two_has w3 ⟨g, la, li, pg, bu, se⟩ ⟨g2, la2, li2, pg2, bu2, se2⟩ 23).1, (two_has w3 ⟨g, la, li, pg, bu, se⟩ ⟨g2, la2, li2, pg2, bu2, se2⟩ 23).2, K3.out.alloc _ _⟩
      case rel => exact ⟨_, rfl, (two_has w3 ⟨g, la, li, pg, bu, se⟩ ⟨g2, la2, li2, pg2, bu2, se2⟩ 23).1, (two_has w3 ⟨g, la, li, pg, bu, se⟩ ⟨g2, la2, li2, pg2, bu2, se2⟩ 23).2, K3.out.alloc _ _⟩
    case rest =>
      obtain ⟨nl, rfl, H1, H2, K2⟩ := hcut
      have HH : Hid (∀ k : Nat, k < 2 → ∃ r : Rw, HasR wc nl (k * 6) r) := fun k hk => by
        rcases (show k = 0 ∨ k = 1 by omega) with rfl | rfl
        · exact ⟨_, H1⟩
        · exact ⟨_, H2⟩
      have HK2 := hide K2
      clear H1 H2 K2 x0 x1 x2 x3 x4 x5 hn1 P1 RAW1 R1 K1 r0 k0 hR
      go_wp2
      go_loopw [10] (fun i w2 => ∃ k : Nat, k ≤ 2 ∧ i = .int .i64 k ∧ Kept wc w2) (fun i _ => (2 - intOf i).toNat)
      case atStart => exact ⟨0, Nat.zero_le _, rfl, Kept.refl _⟩
      case round =>
        obtain ⟨k, hk, rfl, hK⟩ := hrel
        by_cases hlt : k < 2
        · obtain ⟨r, hr⟩ := HH.out k hlt
          have R := hide (hr.kept hK)
          have KW := hide hK
          have TW := hide (hT.kept (HK2.out.trans hK))
          clear hr hK
          have ofr := hide (fun w hT => of_any r w hT)
          have rofr := hide (fun w => rof_any r w)
          have hkl : (k : Int) < 2 := by omega
          obtain ⟨y0, y1, y2, y3, y4, y5⟩ := R.out
          by_cases hf : fits r = true
          · have hb : bdd r = true := by
              have := hf
              simp only [fits, Bool.and_eq_true] at this
              exact this.1
            obtain ⟨G, N, M, P, l, W⟩ := whole_of hb
            have ec : wk r = ⟨G, N, M, l, P, r.bu, ceilV M l, r.se⟩ := by unfold wk; rw [W.g, W.n, W.m, W.el, W.p]
            have e1 : ofC r = ⟨G, N, M, l, P, r.bu, ceilV M l, r.se⟩ := by unfold ofC; rw [hf]; exact ec
            have e2 : ofE r = 0 := by unfold ofE; rw [hf]; rfl
            rw [e1, e2] at ofr rofr
            obtain ⟨pa, pa16, hGa⟩ := W.pow
            have b5 := ((bdd_iff _).1 hb).2.2.1.1
            have m0 : 0 ≤ M := by have := W.ml; omega
            have SH := hide (fun x w hT => shift_any ⟨G, N, M, l, P, r.bu, ceilV M l, r.se⟩ pa l x w pa16 W.l16 hGa rfl hT)
            have RSH := hide (fun x w => rshift_any ⟨G, N, M, l, P, r.bu, ceilV M l, r.se⟩ pa l x w pa16 W.l16 hGa rfl)
            have CE := hide (fun x w => ceil_any ⟨G, N, M, l, P, r.bu, ceilV M l, r.se⟩ x w m0 W.m16 (by have := W.l16; show (l : Int) ≤ 16; omega))
            have RCE := hide (fun x w => rceil_any ⟨G, N, M, l, P, r.bu, ceilV M l, r.se⟩ x w m0 W.m16 (by have := W.l16; show (l : Int) ≤ 16; omega))
            clear hf hb ec e1 e2 W hGa b5 m0
            generalize hcc : (⟨G, N, M, l, P, r.bu, ceilV M l, r.se⟩ : Cf) = c at *
            clear hcc
            obtain ⟨cg, cn, cm, cl, cp, cb, ch, cs⟩ := c
            go_wp2_with fail
            refine (ofr.out _ TW.out).mono ?_
            rintro e w4 ⟨rfl, k4⟩
            have K4 := hide (KW.out.trans k4)
            have C4 := hide (HasC.made w4 ⟨cg, cn, cm, cl, cp, cb, ch, cs⟩ 31)
            clear y0 y1 y2 y3 y4 y5
            obtain ⟨y0, y1, y2, y3, y4, y5⟩ := R.out.kept k4
            clear k4
            have hn4 := World.block_lt_of_cell? _ _ y0
            dsimp only at hn4
            go_wp2_with fail
            refine (rofr.out _).mono ?_
            rintro e w5 ⟨rfl, k5⟩
            have K5 := hide ((K4.out.alloc #[.int .i64 cg, .int .i64 cn, .int .i64 cm, .int .i64 cl, .int .i64 cp, .int .i64 cb, .int .i64 ch, .int .i64 cs] 31).trans k5)
            have A5 := C4.out.kept k5
            have B5 := hide (HasC.made w5 ⟨cg, cn, cm, cl, cp, cb, ch, cs⟩ 31)
            clear y0 y1 y2 y3 y4 y5 hn4 k5 C4 K4
            generalize w4.heap.size = na at *
            obtain ⟨a0, a1, a2, a3, a4, a5, a6, a7⟩ := A5
            dsimp only [Nat.zero_add] at a0 a1 a2 a3 a4 a5 a6 a7
            have hna := World.block_lt_of_cell? _ _ a0
            dsimp only at hna
            go_wp2
            have K7 := hide (K5.out.alloc #[.int .i64 cg, .int .i64 cn, .int .i64 cm, .int .i64 cl, .int .i64 cp, .int .i64 cb, .int .i64 ch, .int .i64 cs] 31)
            clear a0 a1 a2 a3 a4 a5 a6 a7 hna K5 ofr rofr
            generalize w5.alloc (.cells #[.int .i64 cg, .int .i64 cn, .int .i64 cm, .int .i64 cl, .int .i64 cp, .int .i64 cb, .int .i64 ch, .int .i64 cs] 31) = W at *
            have BW : Hid (HasC W w5.heap.size 0 ⟨cg, cn, cm, cl, cp, cb, ch, cs⟩) := B5.out
            clear B5
            generalize w5.heap.size = nb at *
            go_loopw [15] (fun i w2 => ∃ j : Nat, j ≤ 21 ∧ i = .int .i64 ((j : Int) - 1) ∧ Kept W w2) (fun i _ => (20 - intOf i).toNat)
            case atStart => exact ⟨0, Nat.zero_le _, rfl, Kept.refl _⟩
            case round =>
              obtain ⟨j, hj, rfl, hKI⟩ := hrel
              have HKI := hide hKI
              have TR := hide (hT.kept (HK2.out.trans (K7.out.trans hKI)))
              have B6 := hide (BW.out.kept hKI)
              clear hKI
              obtain ⟨y0, y1, y2, y3, y4, y5, y6, y7⟩ := B6.out
              dsimp only [Nat.zero_add] at y0 y1 y2 y3 y4 y5 y6 y7
              have hnr := World.block_lt_of_cell? _ _ y0
              dsimp only at hnr
              by_cases hj20 : j ≤ 20
              · have hj20' : (j : Int) - 1 < 20 := by omega
                go_upto_if 71 with fail
                go_cut [16] from 65 to 101 (fun s wx => ∃ n : Int, s = .int .i64 n ∧ wx = wr)
                case first =>
                  by_cases hj0 : j = 0
                  · subst hj0
                    go_wp2_with fail
                    go_meet
                    case rel => exact ⟨_, rfl, rfl⟩
                  · have hj1 : 0 ≤ (j : Int) - 1 := by omega
                    go_wp2_with fail
                    go_meet
                    case rel => exact ⟨_, rfl, rfl⟩
                case rest =>
                  obtain ⟨nn, rfl, rfl⟩ := hcut
                  have CEN := hide (fun w => CE.out nn w)
                  have RCEN := hide (fun w => RCE.out nn w)
                  go_wp2_with fail
                  refine (SH.out nn _ TR.out).mono ?_
                  rintro e w6 ⟨rfl, rfl⟩
                  go_wp2_with fail
                  refine (RSH.out nn _).mono ?_
                  rintro e w6 ⟨rfl, k6⟩
                  have K6 := hide ((HKI.out.alloc #[.int .i64 cg, .int .i64 cn, .int .i64 cm, .int .i64 cl, .int .i64 cp, .int .i64 cb, .int .i64 ch, .int .i64 cs] 31).trans k6)
                  clear y0 y1 y2 y3 y4 y5 y6 y7 hnr
                  obtain ⟨y0, y1, y2, y3, y4, y5, y6, y7⟩ := B6.out.kept (((Kept.refl _).alloc _ _).trans k6)
                  simp only [Nat.zero_add] at y0 y1 y2 y3 y4 y5 y6 y7
                  have hnr := World.block_lt_of_cell? _ _ y0
                  dsimp only at hnr
                  clear k6
                  generalize shV pa l nn = sv at *
                  generalize shB pa l nn = sb at *
                  generalize cV ⟨cg, cn, cm, cl, cp, cb, ch, cs⟩ nn = cv at *
                  go_wp2_with fail
                  go_region_held (fun w' => w'.cell? ⟨nb, 0, none⟩ = some (.int .i64 cg) ∧ w'.cell? ⟨nb, 1, none⟩ = some (.int .i64 cn) ∧ w'.cell? ⟨nb, 2, none⟩ = some (.int .i64 cm) ∧ w'.cell? ⟨nb, 3, none⟩ = some (.int .i64 cl) ∧ w'.cell? ⟨nb, 4, none⟩ = some (.int .i64 cp) ∧ w'.cell? ⟨nb, 5, none⟩ = some (.int .i64 cb) ∧ w'.cell? ⟨nb, 6, none⟩ = some (.int .i64 ch) ∧ w'.cell? ⟨nb, 7, none⟩ = some (.int .i64 cs)) (go_keep) (first | (go_at_call 14; refine (CEN.out _).mono ?_; rintro e w' ⟨rfl, rfl⟩) | (go_at_call 15; refine (RCEN.out _).mono ?_; rintro e w' ⟨rfl, rfl⟩))
                  go_wp2
                  go_roundw
                  case rel => first | exact ⟨j + 1, by omega, congrArg (Value.int IntKind.i64) (by omega), ((K6.out.alloc _ _).alloc _ _).drew⟩ | ((repeat apply Exists.intro); refine ⟨?_, rfl⟩; exact ⟨j + 1, by omega, congrArg (Value.int IntKind.i64) (by omega), ((K6.out.alloc _ _).alloc _ _).drew⟩)
                  case measure => simp [intOf]; omega
              · obtain rfl : j = 21 := by omega
                go_wp2_with fail
                refine (SH.out chg _ TR.out).mono ?_
                rintro e w6 ⟨rfl, rfl⟩
                go_wp2_with fail
                refine (RSH.out chg _).mono ?_
                rintro e w6 ⟨rfl, k6⟩
                have K6 := hide (K7.out.trans ((HKI.out.alloc #[.int .i64 cg, .int .i64 cn, .int .i64 cm, .int .i64 cl, .int .i64 cp, .int .i64 cb, .int .i64 ch, .int .i64 cs] 31).trans k6))
                clear y0 y1 y2 y3 y4 y5 y6 y7 hnr k6
                generalize shV pa l chg = sv at *
                generalize shB pa l chg = sb at *
                go_wp2
                go_roundw
                case rel => exact ⟨k + 1, by omega, by go_num, K6.out⟩
                case measure => simp [intOf]; omega
          · have hf' : fits r = false := by simpa using hf
            have e1 : ofC r = ⟨0, 0, 0, 0, 0, 0, 0, 0⟩ := by unfold ofC; rw [hf']; rfl
            have e2 : ofE r = 1 := by unfold ofE; rw [hf']; rfl
            rw [e1, e2] at ofr rofr
            clear hf hf' e1 e2
            go_wp2_with fail
            refine (ofr.out _ TW.out).mono ?_
            rintro e w4 ⟨rfl, k4⟩
            have K4 := hide (KW.out.trans k4)
            have C4 := hide (HasC.made w4 ⟨0, 0, 0, 0, 0, 0, 0, 0⟩ 31)
            clear y0 y1 y2 y3 y4 y5
            obtain ⟨y0, y1, y2, y3, y4, y5⟩ := R.out.kept k4
            clear k4
            have hn4 := World.block_lt_of_cell? _ _ y0
            dsimp only at hn4
            go_wp2_with fail
            refine (rofr.out _).mono ?_
            rintro e w5 ⟨rfl, k5⟩
            have K5 := hide ((K4.out.alloc #[.int .i64 0, .int .i64 0, .int .i64 0, .int .i64 0, .int .i64 0, .int .i64 0, .int .i64 0, .int .i64 0] 31).trans k5)
            have A5 := C4.out.kept k5
            clear y0 y1 y2 y3 y4 y5 hn4 k5 C4 K4
            generalize w4.heap.size = na at *
            obtain ⟨a0, a1, a2, a3, a4, a5, a6, a7⟩ := A5
            dsimp only [Nat.zero_add] at a0 a1 a2 a3 a4 a5 a6 a7
            have hna := World.block_lt_of_cell? _ _ a0
            dsimp only at hna
            go_wp2
            go_roundw
            case rel => exact ⟨k + 1, by omega, by go_num, K5.out.alloc _ _⟩
            case measure => simp [intOf]; omega
        · have HK := hide (HK2.out.trans hK)
          clear hK
          go_wp2
          go_ret
          exact ⟨rfl, HK.out⟩

set_option linter.unusedVariables false
set_option maxRecDepth 100000 in
theorem confAll_lifted (os : Os) (started : os.Started) (H : Type) (enc : TypeId × Value → H) :
    ReturnsInHanded {} Tryd.checked os 3 .any (fun w args => (Rows.confAllSpec.pre enc Tryd.prog Tryd.f3 [] false w args ∧ laidMetH Tryd.prog laid1 w) ∧ sizedMet enc Tryd.prog Tryd.f3 (OpenSpec.ofChange Rows.confAllSpec) false w args)
      (Rows.confAllSpec.post enc Tryd.prog Tryd.f3 false true false false) := by
  refine returnsInHanded_of_change_and (C := Tryd.checked) (X := fun w _ => laidMetH Tryd.prog laid1 w) (fun _ _ _ hh h => h.of_heap hh) own started (by kernel_rfl) Tryd.func3
    (ChangeSpec.witness_shaped (enc := enc) (C := Tryd.checked) (os := os) (X := fun w _ => laidMetH Tryd.prog laid1 w) false (World.doorLaid Tryd.prog 400 os) #[.agg #[.int .i64 0, .int .i64 0, .int .i64 0, .int .i64 0, .int .i64 0, .int .i64 0], .slice none 0 0, .int .i64 0, .int .i64 0] 8 rfl (World.shaped_of_RefB (by kernel_rfl) (by kernel_rfl)) (by kernel_rfl) (by kernel_rfl) (by kernel_rfl) (door_met os _)) ?_
  intro W base args ds gs before hval0 hW _ _ hL _
  have hval : ∀ (j : Nat) t v, Tryd.f3.params[j]? = some t → args[j]? = some v → Value.okWide Tryd.prog W .any base t v := hval0
  have hW' := hW
  obtain ⟨p, q, hA0, hV, rfl, hfz, hnd⟩ := hW
  have hA : DataW.TrodAll enc Tryd.prog W 0 (fun _ => true) true Tryd.f3.params.toList args.toList ds p := hA0
  rw [Tryd.params3] at hA hval
  obtain ⟨v0, vs0, d0, ds0, p0, q0, hargs, rfl, rfl, h0, r0⟩ := trodAll_cons hA
  obtain ⟨v1, vs1, d1, ds1, p1, q1, rfl, rfl, rfl, h1, r1⟩ := trodAll_cons r0
  obtain ⟨v2, vs2, d2, ds2, p2, q2, rfl, rfl, rfl, h2, r2⟩ := trodAll_cons r1
  obtain ⟨v3, vs3, d3, ds3, p3, q3, rfl, rfl, rfl, h3, r3⟩ := trodAll_cons r2
  obtain ⟨rfl, rfl, rfl⟩ := trodAll_nil r3
  obtain rfl : args = #[v0, v1, v2, v3] := by cases args; simp_all
  obtain ⟨rfl, rfl⟩ := trodVars_none hV
  have lt0 : ∀ x ∈ p0, x.block < W.heap.size := by obtain ⟨m, hm⟩ := h0; exact DataW.trod_lt m _ _ _ hm
  have lt1 : ∀ x ∈ p1, x.block < W.heap.size := by obtain ⟨m, hm⟩ := h1; exact DataW.trod_lt m _ _ _ hm
  have lt2 : ∀ x ∈ p2, x.block < W.heap.size := by obtain ⟨m, hm⟩ := h2; exact DataW.trod_lt m _ _ _ hm
  have lt3 : ∀ x ∈ p3, x.block < W.heap.size := by obtain ⟨m, hm⟩ := h3; exact DataW.trod_lt m _ _ _ hm
  obtain ⟨xs0, len0, rfl, w0⟩ := open_structInts Tryd.underlying23 (by kernel_rfl) (by kernel_rfl) (by kernel_rfl) 6 (by kernel_rfl) (hval 0 23 v0 rfl rfl) h0
  obtain ⟨x0_0, x0_1, x0_2, x0_3, x0_4, x0_5, rfl⟩ := list6 len0
  have b0_0 := bounds_i64 (w0 x0_0 (by simp))
  have b0_1 := bounds_i64 (w0 x0_1 (by simp))
  have b0_2 := bounds_i64 (w0 x0_2 (by simp))
  have b0_3 := bounds_i64 (w0 x0_3 (by simp))
  have b0_4 := bounds_i64 (w0 x0_4 (by simp))
  have b0_5 := bounds_i64 (w0 x0_5 (by simp))
  obtain ⟨a1, len1, cap1, rfl⟩ := okWide_slice Tryd.underlying24 (hval 1 24 v1 rfl rfl)
  obtain ⟨z1, w1⟩ := isRow_of Tryd.underlying24 Tryd.underlying5 (by kernel_rfl) h1
  obtain ⟨a2, rfl, rfl, rfl, w2⟩ := open_int Tryd.underlying3 (hval 2 3 v2 rfl rfl) h2
  obtain ⟨a3, rfl, rfl, rfl, w3⟩ := open_int Tryd.underlying3 (hval 3 3 v3 rfl rfl) h3
  clear hA0 hval0
  have hT := tab_of_laid hL
  refine (confAll_walk x0_0 b0_0.1 b0_0.2 x0_1 b0_1.1 b0_1.2 x0_2 b0_2.1 b0_2.2 x0_3 b0_3.1 b0_3.2 x0_4 b0_4.1 b0_4.2 x0_5 b0_5.1 b0_5.2 a1 len1 cap1 z1 a2 (bounds_i64 w2).1 (bounds_i64 w2).2 a3 (bounds_i64 w3).1 (bounds_i64 w3).2 W w1 hT).mono fun e W' ⟨he, hg⟩ => ?_
  subst he
  exact ⟨_, rfl, _, _, _, [], _, [], hW', trodAll_mk1 (shut_bool Tryd.underlying4 _), (trodAll_cons_mk (Below.trod laidOut (by kernel_rfl) (of_decide_eq_true (by kernel_rfl)) h0 hg.1 lt0) (trodAll_cons_mk (Below.trod laidOut (by kernel_rfl) (of_decide_eq_true (by kernel_rfl)) h1 hg.1 lt1) (trodAll_cons_mk (Below.trod laidOut (by kernel_rfl) (of_decide_eq_true (by kernel_rfl)) h2 hg.1 lt2) (trodAll_cons_mk (Below.trod laidOut (by kernel_rfl) (of_decide_eq_true (by kernel_rfl)) h3 hg.1 lt3) trodAll_mk0)))), rfl, hg.1.frame _, fun h => by cases h⟩

theorem confAll_row : Rows.ConfAllSaid :=
  OpenClaim.holds_of_wide 3 Tryd.f3 rfl rfl rfl rfl rfl rfl rfl ⟨rfl, rfl, rfl, rfl, rfl⟩ rfl rfl rfl rfl rfl (by kernel_rfl) Tryd.func3 (by kernel_rfl)
    (of_decide_eq_true (by kernel_rfl)) (by unfold Func.isWrapper; first | (rw [if_pos (by decide +kernel)]; kernel_rfl) | (rw [if_neg (by decide +kernel)]; exact ⟨rfl, rfl⟩))
    (fun os started H enc _ => confAll_lifted os started H enc)

theorem confAll_holds : Rows.ConfAllCardSaid :=
  Claim7.holds_tied_plain_at .later [] [.data] true (true, "5d179eec2e484eb2795ae111637b29105e9fc6925278dbcef82113e027d39594") false
    confAll_row (fun _ h => by cases h) (by kernel_rfl) (fun _ h => by cases h) confAll_row_tie rfl ⟨rfl, rfl⟩ (by kernel_rfl) rfl
    (fun f fn hf hfn => by
      obtain rfl : f = 3 := Option.some.inj ((show Tryd.prog.funcNamed "hodman/hodmanlaw2.ConfAll" = some 3 by kernel_rfl).symm.trans hf) |>.symm
      obtain rfl : fn = Tryd.f3 := (Option.some.inj (Tryd.func3.symm.trans hfn)).symm
      exact ⟨by kernel_rfl, fun j t ht => by
        rw [Tryd.params3] at ht
        have hm : t ∈ [23, 24, 3, 3] := by simpa using Array.mem_of_getElem? ht
        have hall : ([23, 24, 3, 3].all fun u => !Tryd.prog.wantsStandIn u) = true := by kernel_rfl
        exact (show Tryd.prog.wantsStandIn t = false by simpa using List.all_eq_true.1 hall t hm)⟩)
    (by kernel_rfl)
#print axioms confAll_holds
end Go.Proofs.YtekffikkbiohnaaDoor
