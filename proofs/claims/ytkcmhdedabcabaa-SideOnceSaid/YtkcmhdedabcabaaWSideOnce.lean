/- The walk of hodmanlaw10.SideOnce, given what is asked of package side. -/
import Derived.Test.YtkcmhdedabcabaaSideLaw
import Derived.Test.YtkcmhdedabcabaaSideMap
import Derived.Test.YtkcmhdedabcabaaPlayMarks
import Derived.Test.YtkcmhdedabcabaaOpen3
namespace Go.Proofs.Ytkcmhdedabcabaa
open Go.RowKit Go.Maps

theorem Made.tak {n : Nat} {ps : List Pc} (h : Made n ps) (x : Int) : Made (n + 1) (takM ps x) :=
  ⟨rise_tak h.rise x, by have := takM_length ps x; have := h.len; omega, fun p hp => h.low p ((mem_tak h.rise).1 hp).1⟩
theorem tri_grown {w w' : World} {a : Option Addr} {len : Nat} (h : IsTri w a len) (k : Fresh w w') : IsTri w' a len := by
  intro i hi
  obtain ⟨b, o, z0, z1, z2, e, ⟨h0, b0⟩, ⟨h1, b1⟩, ⟨h2, b2⟩⟩ := h i hi
  exact ⟨b, o, z0, z1, z2, e, ⟨(k.cell (World.block_lt_of_cell? _ _ h0)).trans h0, b0⟩, ⟨(k.cell (World.block_lt_of_cell? _ _ h1)).trans h1, b1⟩, ⟨(k.cell (World.block_lt_of_cell? _ _ h2)).trans h2, b2⟩⟩
/-- where the law stands behind j deeds -/
structure On (W : World) (B j : Nat) (v : Value) (ps : List Pc) (D : DataW Unit) (w : World) : Prop where
  l : SpansIn w v ps
  mp : w.ownsMap Try.prog 3 (plainElem Try.prog 3) B j D
  rel : Rel ps D
  made : Made j ps
  el : Fresh W w
  ge : W.heap.size ≤ B
theorem On.fresh {W : World} {B j : Nat} {v : Value} {ps : List Pc} {D : DataW Unit} {w w' : World} (h : On W B j v ps D w) (k : Fresh w w') : On W B j v ps D w' := ⟨h.l.fresh k, ownsMap_fresh h.mp k, h.rel, h.made, h.el.trans k, h.ge⟩
theorem look_c {ps : List Pc} {D : DataW Unit} (h : Rel ps D) {k : Int} (h1 : 0 ≤ k) (h2 : k ≤ 65535) : D.atKey (kI k) (.lit (.int .i64 0)) = .lit (.int .i64 (clsM ps k)) := by
  rw [h.look k h1 h2, cls_find]
  cases findM ps k <;> rfl
theorem look_h {ps : List Pc} {D : DataW Unit} (h : Rel ps D) {k : Int} (h1 : 0 ≤ k) (h2 : k ≤ 65535) : Maps.has D (kI k) = hitM ps k := by
  rw [h.has k h1 h2, hit_find]

set_option maxRecDepth 100000 in
set_option maxHeartbeats 3000000 in
theorem sideOnce_walk0 (S : SideSays) (a : Option Addr) (len cap : Nat) (w : World) (hrow : IsTri w a len ∧ len ≤ maxLen) :
    Calls Try.prog 4 #[.slice a len cap] w fun e w' => e = .returned (.bool true) ∧ Fresh w w' := by
  have BG := hide (begun10_true S)
  have SS := hide S
  by_cases h40 : len ≤ 40
  · have l0 : (len : Int) ≤ 40 := by omega
    have TR := hide hrow.1
    have L40 := hide h40
    have hmm := makeMap_none
    clear hrow h40
    go_enter Try.func4, Try.ntmps4
    go_wp2_with fail
    refine (BG.out _).mono ?_
    rintro e w1 ⟨rfl, f1⟩
    have F1 := hide f1
    obtain ⟨B, hB⟩ : ∃ B, B = w1.heap.size := ⟨_, rfl⟩
    have O0 := hide (show On w B 0 (.slice none 0 0) [] (.map []) (w1.alloc (.map #[] 0)) from ⟨spansIn_nil _, by rw [hB]; exact World.ownsMap_made w1 _ _ _, rel_nil, made_nil, f1.alloc f1.size _, by rw [hB]; exact f1.size⟩)
    have HB := hide hB
    clear f1 hB
    go_wp2
    rw [← HB.out]
    clear hmm
    go_loopw [3, 5] (fun v i wr => ∃ (j : Nat) (ps : List Pc) (D : DataW Unit), j ≤ len ∧ i = .int .i64 (j : Int) ∧ On w B j v ps D wr) (fun _ i _ => (len - intOf i).toNat)
    case atStart => exact ⟨0, _, _, Nat.zero_le _, rfl, O0.out⟩
    case round =>
      obtain ⟨j, ps, D, hj, rfl, ho⟩ := hrel
      have ON := hide ho
      have j0 : (0 : Int) ≤ (j : Int) := by omega
      clear O0
      by_cases g : j < len
      · have g' : (j : Int) < (len : Int) := by omega
        obtain ⟨b, o, z0, z1, z2, rfl, ⟨h0, b0, b0'⟩, ⟨h1, b1, b1'⟩, ⟨h2, b2, b2'⟩⟩ := tri_grown TR.out ho.el j g
        obtain ⟨xa, xc, rfl⟩ := ho.l.shape
        obtain ⟨X, hX⟩ : ∃ X, z1 % 16 = X := ⟨_, rfl⟩
        have X0 : 0 ≤ X := by omega
        have X1 : X ≤ 15 := by omega
        have MP := hide ho.mp
        have KX := hide (kI_of X0 (by omega))
        obtain ⟨H, hH⟩ : ∃ H, hitM ps X = H := ⟨_, rfl⟩
        obtain ⟨C, hC⟩ : ∃ C, clsM ps X = C := ⟨_, rfl⟩
        have HX := hide ((look_h ho.rel X0 (by omega)).trans hH)
        have AX := hide ((look_c ho.rel X0 (by omega)).trans (by rw [hC]))
        have LP := hide (show ps.length ≤ 1000 by have := ho.made.len; have := L40.out; omega)
        have HH := hide hH
        have HC := hide hC
        have w2' : wrap64 z2 = z2 := by unfold wrap64; omega
        clear ho hH hC
        by_cases hz : 0 < z0 % 3
        · have hzd : decide (0 < z0 % 3) = true := decide_eq_true hz
          have PT := hide (SS.out.put _ ps X z2 _ ON.out.l ON.out.made.rise LP.out ⟨by simp only; omega, by simp only; omega, by simp only; omega, by simp only; omega⟩)
          have RL := hide (ON.out.rel.put (c := z2) ON.out.made.rise X0 (by omega))
          have MD := hide (ON.out.made.put (X, z2) (by simp only; omega))
          have HV := hide (plainElem_int (H := Unit) Try.underlying3 (WalkArith.wf_i64 (n := z2) (by omega)))
          generalize hP : putM ps (X, z2) = P at *
          generalize hE : D.put (kI X) (.lit (.int .i64 z2)) = E at *
          have HEE := hide hE
          clear hP hE hz
          go_wp2_with (first | (at_lookup; refine wpList_lookup_own_ok_int _ rfl _ _ 37 rfl 3 3 .i64 intLaw Try.underlying37 Try.underlying3 (zeroI _) B j D rfl MP.out _ _ rfl KX.out ?_; intro c hat hwc; rw [HX.out]; have hc : C = c := (by rw [AX.out] at hat; simpa using hat); clear hat hwc; subst hc) | fail)
          refine PT.out.mono ?_
          rintro e w2 ⟨u, rfl, s2, f2⟩
          obtain ⟨ya, yc, rfl⟩ := s2.shape
          have S2 := hide s2
          have F2 := hide f2
          have M2 := hide (ownsMap_fresh MP.out f2)
          have EL := hide (ON.out.el.trans f2)
          have GE := hide ON.out.ge
          obtain ⟨yn, hy⟩ : ∃ yn, P.length = yn := ⟨_, rfl⟩
          have SZ := hide (RL.out.size.trans hy)
          have h2' := (f2.cell (World.block_lt_of_cell? _ _ h2)).trans h2
          rw [hy]
          rw [hy] at S2
          clear s2 f2 h0 h1 h2 PT
          have NX := hide (show ∀ w3, w3.ownsMap Try.prog 3 (plainElem Try.prog 3) B (j + 1) (D.put (kI X) (.lit (.int .i64 z2))) → w2.grownBy w3 (some B) → On w B (j + 1) (.slice ya yn yc) P E w3 from fun w3 ho hg =>
            ⟨S2.out.turned M2.out hg, by rw [← HEE.out]; exact ho, RL.out, MD.out, EL.out.grown hg EL.out.size (fun q hq => by cases hq; exact GE.out), GE.out⟩)
          go_wp2_with (first | (at_mapUpdate; refine wpList_mapUpdate_own _ rfl _ _ _ 37 rfl 3 3 intLaw Try.underlying37 _ B j D rfl M2.out (by unfold maxLen; omega) _ _ _ rfl rfl KX.out _ [] HV.out ?_; intro w3 hown hgrow; have ON3 := hide (NX.out w3 hown hgrow); clear hown hgrow) | (at_len; refine wpList_len_own _ rfl _ 37 rfl 3 3 Try.underlying37 _ B (j + 1) E rfl ON3.out.mp ?_; rw [SZ.out]) | go_in)
          clear h2' NX SZ
          have LQ := hide (show P.length ≤ 1000 by have := ON3.out.made.len; have := L40.out; omega)
          have LY := hide hy
          have yl : (yn : Int) ≤ 1000 := by have := LQ.out; omega
          have y0 : (0 : Int) ≤ (yn : Int) := by omega
          clear hy
          go_loopw [12] (fun i wq => ∃ k : Nat, k ≤ 16 ∧ i = .int .i64 (k : Int) ∧ Fresh w3 wq) (fun i _ => (16 - intOf i).toNat)
          case atStart => exact ⟨0, Nat.zero_le _, rfl, Fresh.refl _⟩
          case round =>
            obtain ⟨k, hk, rfl, hq⟩ := hrel
            have OQ := hide (ON3.out.fresh hq)
            have FQ := hide hq
            have k0 : (0 : Int) ≤ (k : Int) := by omega
            clear hq
            by_cases gk : k < 16
            · have gk' : (k : Int) < 16 := by omega
              have MPQ := hide OQ.out.mp
              have KK := hide (kI_of k0 (by omega))
              obtain ⟨H2, hH2⟩ : ∃ H2, hitM P (k : Int) = H2 := ⟨_, rfl⟩
              obtain ⟨C2, hC2⟩ : ∃ C2, clsM P (k : Int) = C2 := ⟨_, rfl⟩
              have HXQ := hide ((look_h OQ.out.rel k0 (by omega)).trans hH2)
              have AXQ := hide ((look_c OQ.out.rel k0 (by omega)).trans (by rw [hC2]))
              have CLS := hide (SS.out.cls _ P (k : Int) _ OQ.out.l OQ.out.made.rise LQ.out (by omega) (by omega))
              rw [hH2, hC2] at CLS
              clear hH2 hC2
              go_wp2_with (first | (at_lookup; refine wpList_lookup_own_ok_int _ rfl _ _ 37 rfl 3 3 .i64 intLaw Try.underlying37 Try.underlying3 (zeroI _) B (j + 1) E rfl MPQ.out _ _ rfl KK.out ?_; intro c hat hwc; rw [HXQ.out]; have hc : C2 = c := (by rw [AXQ.out] at hat; simpa using hat); clear hat hwc; subst hc) | fail)
              refine CLS.out.mono ?_
              rintro e w5 ⟨rfl, f5⟩
              have F5 := hide (FQ.out.trans f5)
              clear f5 CLS HXQ AXQ MPQ
              cases H2 with
              | true =>
                go_wp2
                go_roundw
                case rel => exact ⟨k + 1, by omega, by go_num, F5.out⟩
                case measure => simp [intOf]; omega
              | false =>
                go_wp2
                go_roundw
                case rel => exact ⟨k + 1, by omega, by go_num, F5.out⟩
                case measure => simp [intOf]; omega
            · obtain rfl : k = 16 := by omega
              go_wp2
              go_loopw [17] (fun i wq2 => ∃ k : Nat, 1 ≤ k ∧ (k ≤ yn ∨ k = 1) ∧ i = .int .i64 (k : Int) ∧ Fresh w3 wq2) (fun i _ => (yn - intOf i).toNat)
              case atStart => exact ⟨1, Nat.le_refl _, .inr rfl, rfl, FQ.out⟩
              case round =>
                obtain ⟨k, hk1, hk2, rfl, hq2⟩ := hrel
                have FR := hide hq2
                have k1 : (1 : Int) ≤ (k : Int) := by omega
                by_cases gk : k < yn
                · have gk' : (k : Int) < (yn : Int) := by omega
                  obtain ⟨i, hi⟩ : ∃ i, k = i + 1 := ⟨k - 1, by omega⟩
                  have hil : i < P.length := by have := LY.out; omega
                  have hkl : k < P.length := by have := LY.out; omega
                  obtain ⟨bb, oo, ey, c0, c1⟩ := (ON3.out.l.fresh hq2).cell i hil
                  obtain ⟨bb', oo', ey2, c2, c3⟩ := (ON3.out.l.fresh hq2).cell k hkl
                  rw [ey] at ey2
                  cases ey2
                  have lt := rise_nth ON3.out.made.rise (show i < k by omega) hkl
                  have i1 : (k : Int) - 1 = (i : Int) := by omega
                  have i2 : (0 : Int) ≤ (i : Int) := by omega
                  have i3 : (i : Int) < (yn : Int) := by omega
                  have i4 : IntKind.i64.wrap (i : Int) = (i : Int) := by rw [IntKind.wrap_i64]; omega
                  generalize (nth P i).1 = q1 at c0 lt
                  generalize (nth P k).1 = q2 at c2 lt
                  have dl : decide (q2 ≤ q1) = false := decide_eq_false (by omega)
                  subst ey
                  clear hi c1 c3 hq2
                  go_wp2_with fail
                  go_quiet (fail)
                  go_wp2
                  go_roundw
                  case rel => exact ⟨k + 1, by omega, .inl (by omega), by go_num, FR.out.trans (Fresh.drewN _ _)⟩
                  case measure => simp [intOf]; omega
                · have gk' : (yn : Int) ≤ (k : Int) := by omega
                  have OE := hide (ON3.out.fresh FR.out)
                  clear hq2
                  go_wp2
                  go_roundw
                  case rel => exact ⟨j + 1, P, E, by omega, by go_num, OE.out⟩
                  case measure => simp [intOf]; omega
        · have hzd : decide (0 < z0 % 3) = false := decide_eq_false hz
          have TK := hide (SS.out.take _ ps X _ ON.out.l ON.out.made.rise LP.out (by omega) (by omega))
          rw [HC.out, HH.out] at TK
          have RL := hide (ON.out.rel.del ON.out.made.rise X0 (by omega))
          have MD := hide (ON.out.made.tak X)
          generalize hP : takM ps X = P at *
          generalize hE : D.del (kI X) = E at *
          have HEE := hide hE
          clear hP hE hz
          go_wp2_with (first | (at_lookup; refine wpList_lookup_own_ok_int _ rfl _ _ 37 rfl 3 3 .i64 intLaw Try.underlying37 Try.underlying3 (zeroI _) B j D rfl MP.out _ _ rfl KX.out ?_; intro c hat hwc; rw [HX.out]; have hc : C = c := (by rw [AX.out] at hat; simpa using hat); clear hat hwc; subst hc) | fail)
          refine TK.out.mono ?_
          rintro e w2 ⟨u, rfl, s2, f2⟩
          obtain ⟨ya, yc, rfl⟩ := s2.shape
          have S2 := hide s2
          have F2 := hide f2
          have M2 := hide (ownsMap_fresh MP.out f2)
          have EL := hide (ON.out.el.trans f2)
          have GE := hide ON.out.ge
          obtain ⟨yn, hy⟩ : ∃ yn, P.length = yn := ⟨_, rfl⟩
          have SZ := hide (RL.out.size.trans hy)
          rw [hy]
          rw [hy] at S2
          clear s2 f2 h0 h1 h2 TK
          have NX := hide (show ∀ w3, w3.ownsMap Try.prog 3 (plainElem Try.prog 3) B j (D.del (kI X)) → w2.mapTurned w3 B → On w B (j + 1) (.slice ya yn yc) P E w3 from fun w3 ho hg =>
            ⟨S2.out.turned M2.out hg.grown, by rw [← HEE.out]; exact ho.mono (Nat.le_succ _), RL.out, MD.out, EL.out.grown hg.grown EL.out.size (fun q hq => by cases hq; exact GE.out), GE.out⟩)
          cases H with
          | true =>
            go_wp2_with (first | (at_delete; refine wpList_delete_own _ rfl _ _ 37 3 rfl 3 intLaw Try.underlying37 _ B j D rfl M2.out _ _ rfl KX.out ?_; intro w3 hown hgrow; have ON3 := hide (NX.out w3 hown hgrow); clear hown hgrow) | (at_len; refine wpList_len_own _ rfl _ 37 rfl 3 3 Try.underlying37 _ B (j + 1) E rfl ON3.out.mp ?_; rw [SZ.out]) | go_in)
            clear NX SZ
            have LQ := hide (show P.length ≤ 1000 by have := ON3.out.made.len; have := L40.out; omega)
            have LY := hide hy
            have yl : (yn : Int) ≤ 1000 := by have := LQ.out; omega
            have y0 : (0 : Int) ≤ (yn : Int) := by omega
            clear hy
            go_loopw [12] (fun i wq => ∃ k : Nat, k ≤ 16 ∧ i = .int .i64 (k : Int) ∧ Fresh w3 wq) (fun i _ => (16 - intOf i).toNat)
            case atStart => exact ⟨0, Nat.zero_le _, rfl, Fresh.refl _⟩
            case round =>
              obtain ⟨k, hk, rfl, hq⟩ := hrel
              have OQ := hide (ON3.out.fresh hq)
              have FQ := hide hq
              have k0 : (0 : Int) ≤ (k : Int) := by omega
              clear hq
              by_cases gk : k < 16
              · have gk' : (k : Int) < 16 := by omega
                have MPQ := hide OQ.out.mp
                have KK := hide (kI_of k0 (by omega))
                obtain ⟨H2, hH2⟩ : ∃ H2, hitM P (k : Int) = H2 := ⟨_, rfl⟩
                obtain ⟨C2, hC2⟩ : ∃ C2, clsM P (k : Int) = C2 := ⟨_, rfl⟩
                have HXQ := hide ((look_h OQ.out.rel k0 (by omega)).trans hH2)
                have AXQ := hide ((look_c OQ.out.rel k0 (by omega)).trans (by rw [hC2]))
                have CLS := hide (SS.out.cls _ P (k : Int) _ OQ.out.l OQ.out.made.rise LQ.out (by omega) (by omega))
                rw [hH2, hC2] at CLS
                clear hH2 hC2
                go_wp2_with (first | (at_lookup; refine wpList_lookup_own_ok_int _ rfl _ _ 37 rfl 3 3 .i64 intLaw Try.underlying37 Try.underlying3 (zeroI _) B (j + 1) E rfl MPQ.out _ _ rfl KK.out ?_; intro c hat hwc; rw [HXQ.out]; have hc : C2 = c := (by rw [AXQ.out] at hat; simpa using hat); clear hat hwc; subst hc) | fail)
                refine CLS.out.mono ?_
                rintro e w5 ⟨rfl, f5⟩
                have F5 := hide (FQ.out.trans f5)
                clear f5 CLS HXQ AXQ MPQ
                cases H2 with
                | true =>
                  go_wp2
                  go_roundw
                  case rel => exact ⟨k + 1, by omega, by go_num, F5.out⟩
                  case measure => simp [intOf]; omega
                | false =>
                  go_wp2
                  go_roundw
                  case rel => exact ⟨k + 1, by omega, by go_num, F5.out⟩
                  case measure => simp [intOf]; omega
              · obtain rfl : k = 16 := by omega
                go_wp2
                go_loopw [17] (fun i wq2 => ∃ k : Nat, 1 ≤ k ∧ (k ≤ yn ∨ k = 1) ∧ i = .int .i64 (k : Int) ∧ Fresh w3 wq2) (fun i _ => (yn - intOf i).toNat)
                case atStart => exact ⟨1, Nat.le_refl _, .inr rfl, rfl, FQ.out⟩
                case round =>
                  obtain ⟨k, hk1, hk2, rfl, hq2⟩ := hrel
                  have FR := hide hq2
                  have k1 : (1 : Int) ≤ (k : Int) := by omega
                  by_cases gk : k < yn
                  · have gk' : (k : Int) < (yn : Int) := by omega
                    obtain ⟨i, hi⟩ : ∃ i, k = i + 1 := ⟨k - 1, by omega⟩
                    have hil : i < P.length := by have := LY.out; omega
                    have hkl : k < P.length := by have := LY.out; omega
                    obtain ⟨bb, oo, ey, c0, c1⟩ := (ON3.out.l.fresh hq2).cell i hil
                    obtain ⟨bb', oo', ey2, c2, c3⟩ := (ON3.out.l.fresh hq2).cell k hkl
                    rw [ey] at ey2
                    cases ey2
                    have lt := rise_nth ON3.out.made.rise (show i < k by omega) hkl
                    have i1 : (k : Int) - 1 = (i : Int) := by omega
                    have i2 : (0 : Int) ≤ (i : Int) := by omega
                    have i3 : (i : Int) < (yn : Int) := by omega
                    have i4 : IntKind.i64.wrap (i : Int) = (i : Int) := by rw [IntKind.wrap_i64]; omega
                    generalize (nth P i).1 = q1 at c0 lt
                    generalize (nth P k).1 = q2 at c2 lt
                    have dl : decide (q2 ≤ q1) = false := decide_eq_false (by omega)
                    subst ey
                    clear hi c1 c3 hq2
                    go_wp2_with fail
                    go_quiet (fail)
                    go_wp2
                    go_roundw
                    case rel => exact ⟨k + 1, by omega, .inl (by omega), by go_num, FR.out.trans (Fresh.drewN _ _)⟩
                    case measure => simp [intOf]; omega
                  · have gk' : (yn : Int) ≤ (k : Int) := by omega
                    have OE := hide (ON3.out.fresh FR.out)
                    clear hq2
                    go_wp2
                    go_roundw
                    case rel => exact ⟨j + 1, P, E, by omega, by go_num, OE.out⟩
                    case measure => simp [intOf]; omega
          | false =>
            go_wp2_with (first | (at_delete; refine wpList_delete_own _ rfl _ _ 37 3 rfl 3 intLaw Try.underlying37 _ B j D rfl M2.out _ _ rfl KX.out ?_; intro w3 hown hgrow; have ON3 := hide (NX.out w3 hown hgrow); clear hown hgrow) | (at_len; refine wpList_len_own _ rfl _ 37 rfl 3 3 Try.underlying37 _ B (j + 1) E rfl ON3.out.mp ?_; rw [SZ.out]) | go_in)
            clear NX SZ
            have LQ := hide (show P.length ≤ 1000 by have := ON3.out.made.len; have := L40.out; omega)
            have LY := hide hy
            have yl : (yn : Int) ≤ 1000 := by have := LQ.out; omega
            have y0 : (0 : Int) ≤ (yn : Int) := by omega
            clear hy
            go_loopw [12] (fun i wq => ∃ k : Nat, k ≤ 16 ∧ i = .int .i64 (k : Int) ∧ Fresh w3 wq) (fun i _ => (16 - intOf i).toNat)
            case atStart => exact ⟨0, Nat.zero_le _, rfl, Fresh.refl _⟩
            case round =>
              obtain ⟨k, hk, rfl, hq⟩ := hrel
              have OQ := hide (ON3.out.fresh hq)
              have FQ := hide hq
              have k0 : (0 : Int) ≤ (k : Int) := by omega
              clear hq
              by_cases gk : k < 16
              · have gk' : (k : Int) < 16 := by omega
                have MPQ := hide OQ.out.mp
                have KK := hide (kI_of k0 (by omega))
                obtain ⟨H2, hH2⟩ : ∃ H2, hitM P (k : Int) = H2 := ⟨_, rfl⟩
                obtain ⟨C2, hC2⟩ : ∃ C2, clsM P (k : Int) = C2 := ⟨_, rfl⟩
                have HXQ := hide ((look_h OQ.out.rel k0 (by omega)).trans hH2)
                have AXQ := hide ((look_c OQ.out.rel k0 (by omega)).trans (by rw [hC2]))
                have CLS := hide (SS.out.cls _ P (k : Int) _ OQ.out.l OQ.out.made.rise LQ.out (by omega) (by omega))
                rw [hH2, hC2] at CLS
                clear hH2 hC2
                go_wp2_with (first | (at_lookup; refine wpList_lookup_own_ok_int _ rfl _ _ 37 rfl 3 3 .i64 intLaw Try.underlying37 Try.underlying3 (zeroI _) B (j + 1) E rfl MPQ.out _ _ rfl KK.out ?_; intro c hat hwc; rw [HXQ.out]; have hc : C2 = c := (by rw [AXQ.out] at hat; simpa using hat); clear hat hwc; subst hc) | fail)
                refine CLS.out.mono ?_
                rintro e w5 ⟨rfl, f5⟩
                have F5 := hide (FQ.out.trans f5)
                clear f5 CLS HXQ AXQ MPQ
                cases H2 with
                | true =>
                  go_wp2
                  go_roundw
                  case rel => exact ⟨k + 1, by omega, by go_num, F5.out⟩
                  case measure => simp [intOf]; omega
                | false =>
                  go_wp2
                  go_roundw
                  case rel => exact ⟨k + 1, by omega, by go_num, F5.out⟩
                  case measure => simp [intOf]; omega
              · obtain rfl : k = 16 := by omega
                go_wp2
                go_loopw [17] (fun i wq2 => ∃ k : Nat, 1 ≤ k ∧ (k ≤ yn ∨ k = 1) ∧ i = .int .i64 (k : Int) ∧ Fresh w3 wq2) (fun i _ => (yn - intOf i).toNat)
                case atStart => exact ⟨1, Nat.le_refl _, .inr rfl, rfl, FQ.out⟩
                case round =>
                  obtain ⟨k, hk1, hk2, rfl, hq2⟩ := hrel
                  have FR := hide hq2
                  have k1 : (1 : Int) ≤ (k : Int) := by omega
                  by_cases gk : k < yn
                  · have gk' : (k : Int) < (yn : Int) := by omega
                    obtain ⟨i, hi⟩ : ∃ i, k = i + 1 := ⟨k - 1, by omega⟩
                    have hil : i < P.length := by have := LY.out; omega
                    have hkl : k < P.length := by have := LY.out; omega
                    obtain ⟨bb, oo, ey, c0, c1⟩ := (ON3.out.l.fresh hq2).cell i hil
                    obtain ⟨bb', oo', ey2, c2, c3⟩ := (ON3.out.l.fresh hq2).cell k hkl
                    rw [ey] at ey2
                    cases ey2
                    have lt := rise_nth ON3.out.made.rise (show i < k by omega) hkl
                    have i1 : (k : Int) - 1 = (i : Int) := by omega
                    have i2 : (0 : Int) ≤ (i : Int) := by omega
                    have i3 : (i : Int) < (yn : Int) := by omega
                    have i4 : IntKind.i64.wrap (i : Int) = (i : Int) := by rw [IntKind.wrap_i64]; omega
                    generalize (nth P i).1 = q1 at c0 lt
                    generalize (nth P k).1 = q2 at c2 lt
                    have dl : decide (q2 ≤ q1) = false := decide_eq_false (by omega)
                    subst ey
                    clear hi c1 c3 hq2
                    go_wp2_with fail
                    go_quiet (fail)
                    go_wp2
                    go_roundw
                    case rel => exact ⟨k + 1, by omega, .inl (by omega), by go_num, FR.out.trans (Fresh.drewN _ _)⟩
                    case measure => simp [intOf]; omega
                  · have gk' : (yn : Int) ≤ (k : Int) := by omega
                    have OE := hide (ON3.out.fresh FR.out)
                    clear hq2
                    go_wp2
                    go_roundw
                    case rel => exact ⟨j + 1, P, E, by omega, by go_num, OE.out⟩
                    case measure => simp [intOf]; omega
      · have g' : (len : Int) ≤ (j : Int) := by omega
        have FE := hide ho.el
        clear ho
        go_wp2
        go_ret
        exact ⟨rfl, FE.out⟩
  · have l0 : (40 : Int) < (len : Int) := by omega
    clear hrow h40
    go_enter Try.func4, Try.ntmps4
    go_wp2_with fail
    refine (BG.out _).mono ?_
    rintro e w1 ⟨rfl, f1⟩
    have F1 := hide f1
    clear f1
    go_wp2
    go_ret
    exact ⟨rfl, F1.out⟩
end Go.Proofs.Ytkcmhdedabcabaa
