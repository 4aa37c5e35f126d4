/- The walk of hodmanlaw10.SideAll, given what is asked of package side. -/
import Derived.Test.YtkcmhdedabcabaaSideLaw
import Derived.Test.YtkcmhdedabcabaaRefMarkA
import Derived.Test.YtkcmhdedabcabaaRefMarkB
import Derived.Test.YtkcmhdedabcabaaRefMarkC
import Derived.Test.YtkcmhdedabcabaaPlayMarks
import Derived.Test.YtkcmhdedabcabaaInts
namespace Go.Proofs.Ytkcmhdedabcabaa
open Go.RowKit

def atsL (x : Int) : List Int := [x, 0, 5, 20]
theorem atsL_in (x : Int) (h1 : -9223372036854775808 ≤ x) (h2 : x ≤ 9223372036854775807) (k : Nat) (hk : k < 4) : -9223372036854775808 ≤ (atsL x).getD k 0 ∧ (atsL x).getD k 0 ≤ 9223372036854775807 := by
  match k, hk with
  | 0, _ => exact ⟨h1, h2⟩
  | 1, _ => show _ ≤ (0 : Int) ∧ (0 : Int) ≤ _; decide
  | 2, _ => show _ ≤ (5 : Int) ∧ (5 : Int) ≤ _; decide
  | 3, _ => show _ ≤ (20 : Int) ∧ (20 : Int) ≤ _; decide
/-- what lives on in the law -/
structure Hs (W : World) (n A : Nat) (x y : Int) (v : Value) (ps : List Pc) (w : World) : Prop where
  m : w.heap[n]? = some (.cells #[.int .i64 x, .int .i64 y] 24 (0, 0))
  a : HasI w A (atsL x)
  l : SpansIn w v ps
  el : Fresh W w
theorem Hs.fresh {W : World} {n A : Nat} {x y : Int} {v : Value} {ps : List Pc} {w w' : World} (h : Hs W n A x y v ps w) (k : Fresh w w') : Hs W n A x y v ps w' :=
  ⟨by rw [k.block n (Array.getElem?_eq_some_iff.1 h.m).1]; exact h.m, fun i hi => (k.cell (World.block_lt_of_cell? _ _ (h.a i hi))).trans (h.a i hi), h.l.fresh k, h.el.trans k⟩
/-- the mark that is put -/
def HeldZ (W : World) (n : Nat) (x y : Int) (w : World) : Prop := w.cell? ⟨n, 0, none⟩ = some (.int .i64 x) ∧ w.cell? ⟨n, 1, none⟩ = some (.int .i64 y) ∧ Fresh W w
theorem HeldZ.fresh {W : World} {n : Nat} {x y : Int} {w w' : World} (h : HeldZ W n x y w) (k : Fresh w w') : HeldZ W n x y w' :=
  ⟨(k.cell (World.block_lt_of_cell? _ _ h.1)).trans h.1, (k.cell (World.block_lt_of_cell? _ _ h.2.1)).trans h.2.1, h.2.2.trans k⟩

set_option maxRecDepth 100000 in
set_option maxHeartbeats 2000000 in
theorem sideAll_walk0 (S : SideSays) (a : Option Addr) (len cap : Nat) (x : Int) (x1 : -9223372036854775808 ≤ x) (x2 : x ≤ 9223372036854775807) (y : Int) (y1 : -9223372036854775808 ≤ y) (y2 : y ≤ 9223372036854775807) (w : World) (hrow : IsDuo w a len ∧ len ≤ maxLen) :
    Calls Try.prog 3 #[.slice a len cap, .agg #[.int .i64 x, .int .i64 y]] w fun e w' => e = .returned (.bool true) ∧ Fresh w w' := by
  obtain ⟨n, hn⟩ : ∃ n, n = w.heap.size := ⟨_, rfl⟩
  obtain ⟨W1, hW1⟩ : ∃ W1, W1 = w.alloc (.cells #[.int .i64 x, .int .i64 y] 24) := ⟨_, rfl⟩
  have FW := hide (show Fresh w W1 by subst hW1; exact fresh_box _ _ _)
  have BB := hide (show W1.heap[n]? = some (.cells #[.int .i64 x, .int .i64 y] 24 (0, 0)) by subst hW1; rw [hn]; exact heap_alloc_new w _)
  have HN := hide hn
  have HW := hide hW1
  have BG := hide (begun10_true S)
  have SS := hide S
  clear hn hW1
  by_cases h20 : len ≤ 20
  · have l0 : (len : Int) ≤ 20 := by omega
    have DU := hide hrow.1
    have L20 := hide h20
    clear hrow h20
    go_enter Try.func3, Try.ntmps3
    go_wp2_with fail
    rw [← HW.out, ← HN.out]
    refine (BG.out _).mono ?_
    rintro e w1 ⟨rfl, f1⟩
    have F1 := hide (FW.out.trans f1)
    have B1 := hide (show w1.heap[n]? = some (.cells #[.int .i64 x, .int .i64 y] 24 (0, 0)) by rw [f1.block n (Array.getElem?_eq_some_iff.1 BB.out).1]; exact BB.out)
    clear f1
    go_wp2_with fail
    refine (marks_any a len cap _ (duo_fresh DU.out F1.out) (by have := L20.out; omega)).mono ?_
    rintro e w2 ⟨u, ps, rfl, o2, m2, f2⟩
    have MD := hide m2
    have SI := hide (o2.at (by have := m2.len; have := L20.out; omega) m2.in64)
    obtain ⟨ua, uc, rfl⟩ := o2.shape
    have F2 := hide (F1.out.trans f2)
    have B2 := hide (show w2.heap[n]? = some (.cells #[.int .i64 x, .int .i64 y] 24 (0, 0)) by rw [f2.block n (Array.getElem?_eq_some_iff.1 B1.out).1]; exact B1.out)
    have LP := hide (show ps.length ≤ 20 by have := m2.len; have := L20.out; omega)
    have n0 := cell_block B2.out 0 _ rfl
    change w2.cell? ⟨n, 0, none⟩ = some (.int .i64 x) at n0
    obtain ⟨A, hA⟩ : ∃ A, A = w2.heap.size := ⟨_, rfl⟩
    obtain ⟨w3, hw3⟩ : ∃ w3, w3 = w2.alloc (intsO (atsL x) 3) := ⟨_, rfl⟩
    have f3 : Fresh w2 w3 := by rw [hw3]; exact fresh_box _ _ _
    have H3 := hide (show Hs w n A x y (.slice ua ps.length uc) ps w3 from ⟨by rw [f3.block n (Array.getElem?_eq_some_iff.1 B2.out).1]; exact B2.out, by rw [hA, hw3]; exact HasI.made _ _ _, SI.out.fresh f3, F2.out.trans f3⟩)
    have HW3 := hide (show w3 = w2.alloc (.cells #[.int .i64 x, .int .i64 0, .int .i64 5, .int .i64 20] 3) by rw [hw3]; rfl)
    have HA := hide hA
    clear o2 m2 f2 hA hw3 f3 F1 B1
    generalize hpl : ps.length = pl at *
    have HPL := hide hpl
    clear hpl
    go_wp2
    rw [← HW3.out, ← HA.out]
    clear n0
    go_loopw [7] (fun i wr => ∃ k : Nat, k ≤ 4 ∧ i = .int .i64 (k : Int) ∧ Hs w n A x y (.slice ua pl uc) ps wr) (fun i _ => (4 - intOf i).toNat)
    case atStart => exact ⟨0, Nat.zero_le _, rfl, H3.out⟩
    case round =>
      obtain ⟨k, hk, rfl, hh⟩ := hrel
      have HK := hide hh
      have k0 : (0 : Int) ≤ (k : Int) := by omega
      clear hh H3
      by_cases g : k < 4
      · have g' : (k : Int) < 4 := by omega
        have ca := HK.out.a k g
        obtain ⟨f1, f2⟩ := atsL_in x x1 x2 k g
        generalize (atsL x).getD k 0 = f at ca f1 f2
        have CA := hide ca
        have AB := World.block_lt_of_cell? _ _ ca
        have LX := hide HK.out.l
        have T1 := hide (fun w' (j : Fresh wr w') => SS.out.take _ ps f w' (LX.out.fresh j) MD.out.rise (by have := LP.out; have := HPL.out; omega) f1 f2)
        have T2 := hide (fun w' (j : Fresh wr w') => rtake_any _ ps f w' (LX.out.fresh j) MD.out.rise (by have := LP.out; have := HPL.out; omega))
        have C1 := hide (fun w' (j : Fresh wr w') => SS.out.cls _ ps f w' (LX.out.fresh j) MD.out.rise (by have := LP.out; have := HPL.out; omega) f1 f2)
        have C2 := hide (fun w' (j : Fresh wr w') => rclass_any _ ps f w' (LX.out.fresh j) MD.out.rise (by have := LP.out; have := HPL.out; omega))
        generalize clsM ps f = C at *
        generalize hitM ps f = H at *
        go_wp2_with fail
        refine (T1.out _ (Fresh.refl _)).mono ?_
        rintro e w4 ⟨u4, rfl, s4, f4⟩
        have S4 := hide s4
        have K4 := hide f4
        clear s4 f4 ca
        have ca := (K4.out.cell AB).trans CA.out
        go_wp2_with fail
        refine (T2.out _ K4.out).mono ?_
        rintro e w5 ⟨u5, rfl, s5, f5, _⟩
        have S5 := hide s5
        have R5 := hide (S4.out.fresh f5)
        have K5 := hide (K4.out.trans f5)
        clear s5 f5 ca S4 K4
        have ca := (K5.out.cell AB).trans CA.out
        go_wp2_with fail
        refine (C1.out _ K5.out).mono ?_
        rintro e w6 ⟨rfl, f6⟩
        have S6 := hide (S5.out.fresh f6)
        have R6 := hide (R5.out.fresh f6)
        have K6 := hide (K5.out.trans f6)
        clear f6 ca S5 R5 K5
        have ca := (K6.out.cell AB).trans CA.out
        go_wp2_with fail
        refine (C2.out _ K6.out).mono ?_
        rintro e w7 ⟨rfl, f7⟩
        have S7 := hide (S6.out.fresh f7)
        have R7 := hide (R6.out.fresh f7)
        have K7 := hide (K6.out.trans f7)
        clear f7 ca S6 R6 K6
        go_wp2_with fail
        refine (msame_to _ _ (takM ps f) (takM ps f) true (by simp) _ R7.out.1 S7.out.1).mono ?_
        rintro e w8 ⟨rfl, nn, rfl⟩
        have K8 := hide (K7.out.trans (Fresh.drewN w7 nn))
        clear S7 R7 K7
        go_wp2
        go_roundw
        case rel => exact ⟨k + 1, by omega, by go_num, HK.out.fresh K8.out⟩
        case measure => simp [intOf]; omega
      · obtain rfl : k = 4 := by omega
        have LX := hide HK.out.l
        have PI := hide (show ∀ z1 z2, In64 (z1, z2) → ∀ p ∈ putM ps (z1, z2), In64 p from fun z1 z2 hz p hp => by
          rcases (mem_put MD.out.rise).1 hp with rfl | ⟨hp, _⟩
          · exact hz
          · exact MD.out.in64 p hp)
        have PL := hide (show ∀ z1 z2, (putM ps (z1, z2)).length ≤ 1048576 from fun z1 z2 => by
          have := putM_length ps (z1, z2); have := LP.out; have := HPL.out; split at * <;> omega)
        have P1 := hide (fun w' (j : Fresh wr w') (z1 z2 : Int) (hz : In64 (z1, z2)) => SS.out.put _ ps z1 z2 w' (LX.out.fresh j) MD.out.rise (by have := LP.out; have := HPL.out; omega) hz)
        have P2 := hide (fun w' (j : Fresh wr w') (z1 z2 : Int) => rputm_any _ ps z1 z2 w' (LX.out.fresh j) MD.out.rise (by have := LP.out; have := HPL.out; omega))
        have ZI := hide (show In64 (x, y) from ⟨x1, x2, y1, y2⟩)
        have HS : Hid (HeldZ wr n x y wr.drew) := HeldZ.fresh ⟨cell_block HK.out.m 0 _ rfl, cell_block HK.out.m 1 _ rfl, Fresh.refl _⟩ (Fresh.refl wr).drew
        go_wp2_with fail
        refine wp_region_held (S := HeldZ wr n x y) (by kernel_rfl) ?_
        change wpAnyH _ _ _ _ _ _ _ _ (World.drew _)
        generalize World.drew wr = wd at HS ⊢
        refine held_take (i := 0) (d := 94) (v := ?_) rfl rfl (by kernel_rfl) (by kernel_rfl) (by kernel_rfl) (fun _ _ _ h => h) (by kernel_rfl) ?_ HS.out ?_
        rotate_left
        · intro wz hz
          obtain ⟨z0, z1, -⟩ := hz
          go_simp
          first | done | with_reducible rfl
        refine held_take (i := 1) (d := 95) (v := ?_) rfl rfl (by kernel_rfl) (by kernel_rfl) (by kernel_rfl) (fun _ _ _ h => h) (by kernel_rfl) ?_ HS.out ?_
        rotate_left
        · intro wz hz
          obtain ⟨z0, z1, -⟩ := hz
          go_simp
          first | done | with_reducible rfl
        refine held_take (i := 3) (d := 97) (v := ?_) rfl rfl (by kernel_rfl) (by kernel_rfl) (by kernel_rfl) (fun _ _ _ h => h) (by kernel_rfl) ?_ HS.out ?_
        rotate_left
        · intro wz hz
          obtain ⟨z0, z1, -⟩ := hz
          go_simp
          first | done | with_reducible rfl
        refine held_take (i := 4) (d := 98) (v := ?_) rfl rfl (by kernel_rfl) (by kernel_rfl) (by kernel_rfl) (fun _ _ _ h => h) (by kernel_rfl) ?_ HS.out ?_
        rotate_left
        · intro wz hz
          obtain ⟨z0, z1, -⟩ := hz
          go_simp
          first | done | with_reducible rfl
        refine wpAnyH_ready (rs := [2]) (by kernel_rfl) (by simp) ?_
        refine AllReadyH.cons rfl (fun K hK => ?_) AllReadyH.nil
        go_simp
        go_wp2_with fail
        refine (P1.out _ HS.out.2.2 x y ZI.out).mono ?_; rintro e w4 ⟨u4, rfl, s4, f4⟩; have S4 := hide s4; have HS' := hide (HS.out.fresh f4); clear HS s4 f4; have HS := HS'; clear HS'
        refine hK.out _ _ HS.out (fun _ => ?_)
        clear hK K
        refine wpAnyH_ready (rs := [5]) (by kernel_rfl) (by simp) ?_
        refine AllReadyH.cons rfl (fun K hK => ?_) AllReadyH.nil
        go_simp
        go_wp2_with fail
        refine (P2.out _ HS.out.2.2 x y).mono ?_; rintro e w5 ⟨u5, rfl, o5, f5⟩; have O5 := hide (o5.at (PL.out x y) (PI.out x y ZI.out)); have S5 := hide (S4.out.fresh f5); have HS' := hide (HS.out.fresh f5); clear HS o5 f5; have HS := HS'; clear HS'
        refine hK.out _ _ HS.out (fun _ => ?_)
        clear hK K
        refine wpAnyH_ready (rs := [6]) (by kernel_rfl) (by simp) ?_
        refine AllReadyH.cons rfl (fun K hK => ?_) AllReadyH.nil
        go_simp
        go_wp2_with fail
        refine (msame_to _ _ _ _ true (decide_eq_true rfl) _ S5.out.1 O5.out.1).mono ?_; rintro e w6 ⟨rfl, nn, hw6⟩; have f6 : Fresh w5 w6 := (by rw [hw6]; exact Fresh.drewN _ _); have HS' := hide (HS.out.fresh f6); clear HS f6 hw6; have HS := HS'; clear HS'
        refine hK.out _ _ HS.out (fun _ => ?_)
        clear hK K
        refine held_take (i := 7) (d := 101) (v := ?_) rfl rfl (by kernel_rfl) (by kernel_rfl) (by kernel_rfl) (fun _ _ _ h => h) (by kernel_rfl) ?_ HS.out ?_
        rotate_left
        · intro wz hz
          obtain ⟨z0, z1, -⟩ := hz
          go_simp
          first | done | with_reducible rfl
        refine held_take (i := 8) (d := 102) (v := ?_) rfl rfl (by kernel_rfl) (by kernel_rfl) (by kernel_rfl) (fun _ _ _ h => h) (by kernel_rfl) ?_ HS.out ?_
        rotate_left
        · intro wz hz
          obtain ⟨z0, z1, -⟩ := hz
          go_simp
          first | done | with_reducible rfl
        refine held_take (i := 9) (d := 103) (v := ?_) rfl rfl (by kernel_rfl) (by kernel_rfl) (by kernel_rfl) (fun _ _ _ h => h) (by kernel_rfl) ?_ HS.out ?_
        rotate_left
        · intro wz hz
          obtain ⟨z0, z1, -⟩ := hz
          go_simp
          first | done | with_reducible rfl
        refine held_take (i := 11) (d := 105) (v := ?_) rfl rfl (by kernel_rfl) (by kernel_rfl) (by kernel_rfl) (fun _ _ _ h => h) (by kernel_rfl) ?_ HS.out ?_
        rotate_left
        · intro wz hz
          obtain ⟨z0, z1, -⟩ := hz
          go_simp
          first | done | with_reducible rfl
        refine held_take (i := 12) (d := 106) (v := ?_) rfl rfl (by kernel_rfl) (by kernel_rfl) (by kernel_rfl) (fun _ _ _ h => h) (by kernel_rfl) ?_ HS.out ?_
        rotate_left
        · intro wz hz
          obtain ⟨z0, z1, -⟩ := hz
          go_simp
          first | done | with_reducible rfl
        refine wpAnyH_ready (rs := [10]) (by kernel_rfl) (by simp) ?_
        refine AllReadyH.cons rfl (fun K hK => ?_) AllReadyH.nil
        go_simp
        go_wp2_with fail
        refine (P1.out _ HS.out.2.2 5 3 (by unfold In64; decide)).mono ?_; rintro e w7 ⟨u7, rfl, s7, f7⟩; have S7 := hide s7; have HS' := hide (HS.out.fresh f7); clear HS s7 f7; have HS := HS'; clear HS'
        refine hK.out _ _ HS.out (fun _ => ?_)
        clear hK K
        refine wpAnyH_ready (rs := [13]) (by kernel_rfl) (by simp) ?_
        refine AllReadyH.cons rfl (fun K hK => ?_) AllReadyH.nil
        go_simp
        go_wp2_with fail
        refine (P2.out _ HS.out.2.2 5 3).mono ?_; rintro e w8 ⟨u8, rfl, o8, f8⟩; have O8 := hide (o8.at (PL.out 5 3) (PI.out 5 3 (by unfold In64; decide))); have S8 := hide (S7.out.fresh f8); have HS' := hide (HS.out.fresh f8); clear HS o8 f8; have HS := HS'; clear HS'
        refine hK.out _ _ HS.out (fun _ => ?_)
        clear hK K
        refine wpAnyH_ready (rs := [14]) (by kernel_rfl) (by simp) ?_
        refine AllReadyH.cons rfl (fun K hK => ?_) AllReadyH.nil
        go_simp
        go_wp2_with fail
        refine (msame_to _ _ _ _ true (decide_eq_true rfl) _ S8.out.1 O8.out.1).mono ?_; rintro e w9 ⟨rfl, nn, hw9⟩; have f9 : Fresh w8 w9 := (by rw [hw9]; exact Fresh.drewN _ _); have HS' := hide (HS.out.fresh f9); clear HS f9 hw9; have HS := HS'; clear HS'
        refine hK.out _ _ HS.out (fun _ => ?_)
        clear hK K
        refine held_take (i := 15) (d := 109) (v := ?_) rfl rfl (by kernel_rfl) (by kernel_rfl) (by kernel_rfl) (fun _ _ _ h => h) (by kernel_rfl) ?_ HS.out ?_
        rotate_left
        · intro wz hz
          obtain ⟨z0, z1, -⟩ := hz
          go_simp
          first | done | with_reducible rfl
        refine held_take (i := 16) (d := 4) (v := ?_) rfl rfl (by kernel_rfl) (by kernel_rfl) (by kernel_rfl) (fun _ _ _ h => h) (by kernel_rfl) ?_ HS.out ?_
        rotate_left
        · intro wz hz
          obtain ⟨z0, z1, -⟩ := hz
          go_simp
          first | done | with_reducible rfl
        refine wpAnyH_done (by kernel_rfl) ?_ _
        try simp only [Act.put, List.setIfInBounds_toArray, List.set_cons_succ, List.set_cons_zero]
        have FE := hide (HK.out.el.trans HS.out.2.2)
        go_wp2
        go_ret
        exact ⟨rfl, FE.out⟩
  · have l0 : (20 : Int) < (len : Int) := by omega
    clear hrow h20
    go_enter Try.func3, Try.ntmps3
    go_wp2_with fail
    rw [← HW.out, ← HN.out]
    refine (BG.out _).mono ?_
    rintro e w1 ⟨rfl, f1⟩
    have F1 := hide (FW.out.trans f1)
    clear f1
    go_wp2
    go_ret
    exact ⟨rfl, F1.out⟩
end Go.Proofs.Ytkcmhdedabcabaa
