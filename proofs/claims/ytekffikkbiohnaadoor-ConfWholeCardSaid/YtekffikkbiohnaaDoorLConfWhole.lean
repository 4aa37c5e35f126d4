/- Proved here: hodmanlaw2.ConfWhole returns true at every request (six numbers), in any memory in which the library's table math/bits.deBruijn64tab lies as its initialiser lays it: the sizes that conf.Of tells are powers of two, each ceiling is a whole number of pages and of blocks, and what may be live is not below what was asked for. No condition besides. -/
import Derived.Test.YtekffikkbiohnaaDoorLawB
import Derived.Test.YtekffikkbiohnaaDoorOpen
import Derived.Test.YtekffikkbiohnaaDoorLexWhole
import Derived.Test.YtekffikkbiohnaaDoorWhole
import Derived.Test.YtekffikkbiohnaaDoorCards
import Derived.Test.YtekffikkbiohnaaDoorTie
namespace Go.Proofs.YtekffikkbiohnaaDoor
open Go.ChangeShapes Go.WideShapes Go.ChangeAt Go.RowKit

set_option maxRecDepth 100000 in
set_option maxHeartbeats 4000000 in
theorem confWhole_walk (g : Int) (_ : -9223372036854775808 ≤ g) (_ : g ≤ 9223372036854775807) (la : Int) (_ : -9223372036854775808 ≤ la) (_ : la ≤ 9223372036854775807) (li : Int) (_ : -9223372036854775808 ≤ li) (_ : li ≤ 9223372036854775807) (pg : Int) (_ : -9223372036854775808 ≤ pg) (_ : pg ≤ 9223372036854775807) (bu : Int) (_ : -9223372036854775808 ≤ bu) (_ : bu ≤ 9223372036854775807) (se : Int) (_ : -9223372036854775808 ≤ se) (_ : se ≤ 9223372036854775807) (w : World) (hT : Tab w) :
    Calls Tryd.prog 4 #[.agg #[.int .i64 g, .int .i64 la, .int .i64 li, .int .i64 pg, .int .i64 bu, .int .i64 se]] w fun e w' => e = .returned (.bool true) ∧ Kept w w' := by
  have k0 : Hid (Kept w (w.alloc (Rw.obj ⟨g, la, li, pg, bu, se⟩ 23))) := (Kept.refl w).alloc _ _
  have r0 := hide (HasR.made w ⟨g, la, li, pg, bu, se⟩ 23)
  have ofc := hide (of_any ⟨g, la, li, pg, bu, se⟩)
  by_cases hf : fits ⟨g, la, li, pg, bu, se⟩ = true
  · have hb : bdd ⟨g, la, li, pg, bu, se⟩ = true := by
      have := hf
      simp only [fits, Bool.and_eq_true] at this
      exact this.1
    obtain ⟨G, N, M, P, l, W⟩ := whole_of hb
    have ec : wk ⟨g, la, li, pg, bu, se⟩ = ⟨G, N, M, l, P, bu, ceilV M l, se⟩ := by unfold wk; rw [W.g, W.n, W.m, W.el, W.p]
    have hH : ceilV M l ≤ 65536 := by
      have := hf
      simp only [fits, Bool.and_eq_true, ec] at this
      exact of_decide_eq_true this.2
    have e1 : ofC ⟨g, la, li, pg, bu, se⟩ = ⟨G, N, M, l, P, bu, ceilV M l, se⟩ := by unfold ofC; rw [hf]; exact ec
    have e2 : ofE ⟨g, la, li, pg, bu, se⟩ = 0 := by unfold ofE; rw [hf]; rfl
    rw [e1, e2] at ofc
    obtain ⟨⟨b1, b2⟩, ⟨b3, b4⟩, ⟨b5, b6⟩, ⟨b7, b8⟩, ⟨b9, b10⟩, b11, b12⟩ := (bdd_iff _).1 hb
    have w1 := W.g1; have w2 := W.gg; have w3 := W.gt; have w4 := W.nl; have w5 := W.gn; have w6 := W.nt; have w7 := W.pl
    have w8 := W.gp; have w9 := W.pt; have w10 := W.ml; have w11 := W.mt; have w12 := W.l16; have w13 := W.n16; have w14 := W.p16; have w15 := W.m16
    have w16 := W.ga; have w17 := W.na; have w18 := W.pa
    have hs : wrap64 (G * 2 ^ l) = N := by rw [W.sh]; unfold wrap64; omega
    have d1 : decide (G < g) = false := decide_eq_false (by dsimp only at w2; omega)
    have d2 : decide (N < la) = false := decide_eq_false (by dsimp only at w4; omega)
    have d3 : decide (N < G) = false := decide_eq_false (by omega)
    have d4 : decide (P < G) = false := decide_eq_false (by omega)
    have d5 : decide (P < pg) = false := decide_eq_false (by dsimp only at w7; omega)
    have d6 : decide (M < li) = false := decide_eq_false (by dsimp only at w10; omega)
    have d7 : decide (2 * g ≤ G) = false := decide_eq_false (by dsimp only at w3; omega)
    have d8 : decide (2 * max la G ≤ N) = false := decide_eq_false (by dsimp only at w6; omega)
    have d9 : decide (2 * max pg G ≤ P) = false := decide_eq_false (by dsimp only at w9; omega)
    have d10 : decide (2 * max N P ≤ M - li) = false := decide_eq_false (by dsimp only at w11; omega)
    have hM2 := hide W.m2
    have hmp := hide W.mp
    have hmn := hide W.mn
    have hpow := hide W.pow
    have hsh := hide W.sh
    dsimp only at b1 b2 b3 b4 b5 b6 b7 b8 b9 b10 b11 b12 w2 w3 w4 w6 w7 w9 w10 w11
    clear hf hb ec e1 e2 W
    have hC := hide (show ∀ k : Nat, k ≤ l → cV ⟨G, N, M, l, P, bu, ceilV M l, se⟩ k = M + (k : Int) * (M / 2) from fun k hk => by
      have : am (k : Int) 0 (l : Int) = true := by simp [am]; omega
      unfold cV; rw [this]; rfl)
    have hL := hide (show ceilV M l = M + (l : Int) * (M / 2) from rfl)
    generalize ceilV M l = hh at *
    go_enter Tryd.func4, Tryd.ntmps4
    go_wp2_with fail
    refine (begun_true _ (hT.kept k0.out)).mono ?_
    rintro e w1 ⟨rfl, k1⟩
    have R1 := hide (r0.out.kept k1)
    obtain ⟨x0, x1, x2, x3, x4, x5⟩ := r0.out.kept k1
    dsimp only [Nat.zero_add] at x0 x1 x2 x3 x4 x5
    have hn1 : w.heap.size < w1.heap.size := by have := k1.1.size; simp at this; omega
    have K1 := hide (k0.out.trans k1)
    clear k1 r0
    go_wp2_with fail
    refine (ofc.out _ (hT.kept K1.out)).mono ?_
    rintro e w2 ⟨rfl, k2⟩
    obtain ⟨y0, y1, y2, y3, y4, y5⟩ := R1.out.kept k2
    dsimp only [Nat.zero_add] at y0 y1 y2 y3 y4 y5
    have hn2 : w.heap.size < w2.heap.size := by have := k2.1.size; omega
    have K2 := hide (K1.out.trans k2)
    clear k2 x0 x1 x2 x3 x4 x5
    go_wp2_with fail
    dsimp only [List.append]
    refine wp_region_quiet_lit (by kernel_rfl) (lexB_as (by kernel_rfl) whole6_lex) ?_
    repeat (go_big_quiet_step (fail))
    refine wpQuiet_nil ?_
    intro _ hw'
    obtain ⟨nq, hw''⟩ := hw'
    subst hw''
    have K3 : Hid (Kept w ((w2.alloc (Cf.obj ⟨G, N, M, l, P, bu, hh, se⟩ 31)).drewN nq)) := (K2.out.alloc _ _).drewN nq
    have C3 : Hid (HasC ((w2.alloc (Cf.obj ⟨G, N, M, l, P, bu, hh, se⟩ 31)).drewN nq) w2.heap.size 0 ⟨G, N, M, l, P, bu, hh, se⟩) := (HasC.made w2 _ 31).kept ((Kept.refl _).drewN nq)
    clear y0 y1 y2 y3 y4 y5 d1 d2 d3 d4 d5 d6 d7 d8 d9 d10 K2 K1 R1 ofc k0
    go_wp2
    rw [hs]
    generalize (w2.alloc (Cf.obj ⟨G, N, M, l, P, bu, hh, se⟩ 31)).drewN nq = W at *
    generalize w2.heap.size = n at *
    go_loopw [5] (fun i w2 => ∃ k : Nat, k ≤ l + 1 ∧ i = .int .i64 k ∧ Kept W w2) (fun i _ => (l + 1 - intOf i).toNat)
    case atStart => exact ⟨0, Nat.zero_le _, rfl, Kept.refl _⟩
    case round =>
      obtain ⟨k, hk, rfl, hK⟩ := hrel
      have hTr := hide (hT.kept (K3.out.trans hK))
      obtain ⟨y0, y1, y2, y3, y4, y5, y6, y7⟩ := C3.out.kept hK
      dsimp only [Nat.zero_add] at y0 y1 y2 y3 y4 y5 y6 y7
      have hnr : n < wr.heap.size := World.block_lt_of_cell? _ _ y0
      by_cases hlt : k ≤ l
      · have hkl : (k : Int) ≤ (l : Int) := by omega
        have ci := ceil_in (m := M) (k := (k : Int)) (by omega) (by omega) (by omega) (by omega)
        have hx1 := hmp.out (k : Int)
        have hx2 := hmn.out (k : Int)
        have hx3 : wrap64 ((k : Int) * M) = 2 * (M + (k : Int) * (M / 2) - M) := by
          have e : (k : Int) * M = 2 * ((k : Int) * (M / 2)) := by rw [Int.mul_left_comm, ← hM2.out]
          rw [e]; unfold wrap64; omega
        have hc := hide (fun w => ceil_to ⟨G, N, M, l, P, bu, hh, se⟩ k _ (hC.out k hlt) w (by show (0 : Int) ≤ M; omega) (by show M ≤ 200000; omega) (by show (l : Int) ≤ 16; omega))
        have hX : Hid (0 ≤ M + (k : Int) * (M / 2) ∧ M + (k : Int) * (M / 2) ≤ 2000000) := by show _ ∧ _; omega
        generalize M + (k : Int) * (M / 2) = X at *
        obtain ⟨X0, X1⟩ := hX.out
        clear ci
        go_wp2_with fail
        refine (hc.out _).mono ?_
        rintro e w3 ⟨rfl, rfl⟩
        obtain ⟨a, ha, hGa⟩ := hpow.out
        have pa := pow16 ha
        have pk := pow16 (show k ≤ 16 by omega)
        have pm : 2 ^ a * 2 ^ k ≤ 65536 * 65536 := Nat.mul_le_mul pa.2 pk.2
        have hsk : wrap64 (G * 2 ^ k) = ((2 ^ a * 2 ^ k : Nat) : Int) := by
          rw [hGa, ← pow_cast, ← Int.natCast_mul]; unfold wrap64; omega
        have hsk2 : IntKind.i64.wrap (G * 2 ^ k) = ((2 ^ a * 2 ^ k : Nat) : Int) := by rw [IntKind.wrap_i64]; unfold wrap64 at hsk; exact hsk
        have hsf := hide (fun w hT => shift_yes ⟨G, N, M, l, P, bu, hh, se⟩ a k l w ha w12 hlt hGa rfl hT)
        have hk63 : (k : Int) < 64 := by omega
        have hS : Hid (0 ≤ ((2 ^ a * 2 ^ k : Nat) : Int)) := by show _ ≤ _; omega
        clear hGa pa pk pm
        generalize ((2 ^ a * 2 ^ k : Nat) : Int) = S at *
        go_wp2_with fail
        go_region_with (go_at_call 12; refine (hsf.out _ (hTr.out.kept ((Kept.refl wr).alloc _ _).drew)).mono ?_; rintro e w' ⟨rfl, rfl⟩)
        all_goals
          go_wp2
          go_roundw
          case rel => exact ⟨k + 1, by omega, by go_num, ((hK.alloc _ _).alloc _ _).drew⟩
          case measure => simp [intOf]; omega
      · obtain rfl : k = l + 1 := by omega
        have hcl := hide (fun w => ceil_to ⟨G, N, M, l, P, bu, hh, se⟩ l hh ((hC.out l (Nat.le_refl _)).trans hL.out.symm) w (by show (0 : Int) ≤ M; omega) (by show M ≤ 200000; omega) (by show (l : Int) ≤ 16; omega))
        have hgt : (l : Int) < ((l + 1 : Nat) : Int) := by omega
        go_wp2_with fail
        go_region_with (go_at_call 14; refine (hcl.out _).mono ?_; rintro e w' ⟨rfl, rfl⟩)
        all_goals
          go_wp2
          go_ret
          exact ⟨rfl, K3.out.trans ((hK.alloc _ _).drew)⟩
  · have hf' : fits ⟨g, la, li, pg, bu, se⟩ = false := by simpa using hf
    have e1 : ofC ⟨g, la, li, pg, bu, se⟩ = ⟨0, 0, 0, 0, 0, 0, 0, 0⟩ := by unfold ofC; rw [hf']; rfl
    have e2 : ofE ⟨g, la, li, pg, bu, se⟩ = 1 := by unfold ofE; rw [hf']; rfl
    rw [e1, e2] at ofc
    clear hf hf' e1 e2
    go_enter Tryd.func4, Tryd.ntmps4
    go_wp2_with fail
    refine (begun_true _ (hT.kept k0.out)).mono ?_
    rintro e w1 ⟨rfl, k1⟩
    obtain ⟨x0, x1, x2, x3, x4, x5⟩ := r0.out.kept k1
    dsimp only [Nat.zero_add] at x0 x1 x2 x3 x4 x5
    have K1 := hide (k0.out.trans k1)
    clear k1 r0
    go_wp2_with fail
    refine (ofc.out _ (hT.kept K1.out)).mono ?_
    rintro e w2 ⟨rfl, k2⟩
    have K2 := hide (K1.out.trans k2)
    clear k2 x0 x1 x2 x3 x4 x5
    go_wp2
    go_ret
    exact ⟨rfl, K2.out.alloc _ _⟩

set_option linter.unusedVariables false
set_option maxRecDepth 100000 in
theorem confWhole_lifted (os : Os) (started : os.Started) (H : Type) (enc : TypeId × Value → H) :
    ReturnsInHanded {} Tryd.checked os 4 .any (fun w args => (Rows.confWholeSpec.pre enc Tryd.prog Tryd.f4 [] false w args ∧ laidMetH Tryd.prog laid1 w) ∧ sizedMet enc Tryd.prog Tryd.f4 (OpenSpec.ofChange Rows.confWholeSpec) false w args)
      (Rows.confWholeSpec.post enc Tryd.prog Tryd.f4 false true false false) := by
  refine returnsInHanded_of_change_and (C := Tryd.checked) (X := fun w _ => laidMetH Tryd.prog laid1 w) (fun _ _ _ hh h => h.of_heap hh) own started (by kernel_rfl) Tryd.func4
    (ChangeSpec.witness_shaped (enc := enc) (C := Tryd.checked) (os := os) (X := fun w _ => laidMetH Tryd.prog laid1 w) false (World.doorLaid Tryd.prog 400 os) #[.agg #[.int .i64 0, .int .i64 0, .int .i64 0, .int .i64 0, .int .i64 0, .int .i64 0]] 8 rfl (World.shaped_of_RefB (by kernel_rfl) (by kernel_rfl)) (by kernel_rfl) (by kernel_rfl) (by kernel_rfl) (door_met os _)) ?_
  intro W base args ds gs before hval0 hW _ _ hL _
  have hval : ∀ (j : Nat) t v, Tryd.f4.params[j]? = some t → args[j]? = some v → Value.okWide Tryd.prog W .any base t v := hval0
  have hW' := hW
  obtain ⟨p, q, hA0, hV, rfl, hfz, hnd⟩ := hW
  have hA : DataW.TrodAll enc Tryd.prog W 0 (fun _ => true) true Tryd.f4.params.toList args.toList ds p := hA0
  rw [Tryd.params4] at hA hval
  obtain ⟨v0, vs0, d0, ds0, p0, q0, hargs, rfl, rfl, h0, r0⟩ := trodAll_cons hA
  obtain ⟨rfl, rfl, rfl⟩ := trodAll_nil r0
  obtain rfl : args = #[v0] := by cases args; simp_all
  obtain ⟨rfl, rfl⟩ := trodVars_none hV
  have lt0 : ∀ x ∈ p0, x.block < W.heap.size := by obtain ⟨m, hm⟩ := h0; exact DataW.trod_lt m _ _ _ hm
  obtain ⟨xs0, len0, rfl, w0⟩ := open_structInts Tryd.underlying23 (by kernel_rfl) (by kernel_rfl) (by kernel_rfl) 6 (by kernel_rfl) (hval 0 23 v0 rfl rfl) h0
  obtain ⟨x0_0, x0_1, x0_2, x0_3, x0_4, x0_5, rfl⟩ := list6 len0
  have b0_0 := bounds_i64 (w0 x0_0 (by simp))
  have b0_1 := bounds_i64 (w0 x0_1 (by simp))
  have b0_2 := bounds_i64 (w0 x0_2 (by simp))
  have b0_3 := bounds_i64 (w0 x0_3 (by simp))
  have b0_4 := bounds_i64 (w0 x0_4 (by simp))
  have b0_5 := bounds_i64 (w0 x0_5 (by simp))
  clear hA0 hval0
  have hT := tab_of_laid hL
  refine (confWhole_walk x0_0 b0_0.1 b0_0.2 x0_1 b0_1.1 b0_1.2 x0_2 b0_2.1 b0_2.2 x0_3 b0_3.1 b0_3.2 x0_4 b0_4.1 b0_4.2 x0_5 b0_5.1 b0_5.2 W hT).mono fun e W' ⟨he, hg⟩ => ?_
  subst he
  exact ⟨_, rfl, _, _, _, [], _, [], hW', trodAll_mk1 (shut_bool Tryd.underlying4 _), (trodAll_cons_mk (Below.trod laidOut (by kernel_rfl) (of_decide_eq_true (by kernel_rfl)) h0 hg.1 lt0) trodAll_mk0), rfl, hg.1.frame _, fun h => by cases h⟩

theorem confWhole_row : Rows.ConfWholeSaid :=
  OpenClaim.holds_of_wide 4 Tryd.f4 rfl rfl rfl rfl rfl rfl rfl ⟨rfl, rfl, rfl, rfl, rfl⟩ rfl rfl rfl rfl rfl (by kernel_rfl) Tryd.func4 (by kernel_rfl)
    (of_decide_eq_true (by kernel_rfl)) (by unfold Func.isWrapper; first | (rw [if_pos (by decide +kernel)]; kernel_rfl) | (rw [if_neg (by decide +kernel)]; exact ⟨rfl, rfl⟩))
    (fun os started H enc _ => confWhole_lifted os started H enc)

theorem confWhole_holds : Rows.ConfWholeCardSaid :=
  Claim7.holds_tied_plain_at .later [] [.data] true (true, "5d179eec2e484eb2795ae111637b29105e9fc6925278dbcef82113e027d39594") false
    confWhole_row (fun _ h => by cases h) (by kernel_rfl) (fun _ h => by cases h) confWhole_row_tie rfl ⟨rfl, rfl⟩ (by kernel_rfl) rfl
    (fun f fn hf hfn => by
      obtain rfl : f = 4 := Option.some.inj ((show Tryd.prog.funcNamed "hodman/hodmanlaw2.ConfWhole" = some 4 by kernel_rfl).symm.trans hf) |>.symm
      obtain rfl : fn = Tryd.f4 := (Option.some.inj (Tryd.func4.symm.trans hfn)).symm
      exact ⟨by kernel_rfl, fun j t ht => by
        rw [Tryd.params4] at ht
        have hm : t ∈ [23] := by simpa using Array.mem_of_getElem? ht
        have hall : ([23].all fun u => !Tryd.prog.wantsStandIn u) = true := by kernel_rfl
        exact (show Tryd.prog.wantsStandIn t = false by simpa using List.all_eq_true.1 hall t hm)⟩)
    (by kernel_rfl)
#print axioms confWhole_holds
end Go.Proofs.YtekffikkbiohnaaDoor
