/- The walk of hodmanlaw6.RankSet: a bit that is set is one more above it, and none below. -/
import Derived.Test.YtlbkicohmbdlhaaRankLaw
import Derived.Deep.RegionHeld3
import Derived.Deep.CutRange
namespace Go.Proofs.Ytlbkicohmbdlhaa
open Go.ChangeShapes Go.WideShapes Go.ChangeAt Go.RowKit

/-- what is held over a region: two trees in variables, new memory alone -/
theorem held2_fresh {W w1 w2 : World} {p q r t : Addr} {u v x y l m : Value} {n : Nat} {ws us : List Nat} (h : Fresh w1 w2) (s : w1.cell? p = some u ∧ w1.cell? q = some v ∧ w1.cell? r = some x ∧ w1.cell? t = some y ∧ TreeAt w1 l n ws ∧ TreeAt w1 m n us ∧ Fresh W w1) : w2.cell? p = some u ∧ w2.cell? q = some v ∧ w2.cell? r = some x ∧ w2.cell? t = some y ∧ TreeAt w2 l n ws ∧ TreeAt w2 m n us ∧ Fresh W w2 := by
  obtain ⟨a1, a2, a3, a4, a5, a6, a7⟩ := s
  have c : ∀ {p : Addr} {u : Value}, w1.cell? p = some u → w2.cell? p = some u := fun hc => (h.cell (World.block_lt_of_cell? _ _ hc)).trans hc
  exact ⟨c a1, c a2, c a3, c a4, a5.fresh h, a6.fresh h, a7.trans h⟩
theorem held2_drew {W w1 : World} {p q r t : Addr} {u v x y l m : Value} {n : Nat} {ws us : List Nat} (a1 : w1.cell? p = some u) (a2 : w1.cell? q = some v) (a3 : w1.cell? r = some x) (a4 : w1.cell? t = some y) (a5 : TreeAt w1 l n ws) (a6 : TreeAt w1 m n us) (a7 : Fresh W w1) : w1.drew.cell? p = some u ∧ w1.drew.cell? q = some v ∧ w1.drew.cell? r = some x ∧ w1.drew.cell? t = some y ∧ TreeAt w1.drew l n ws ∧ TreeAt w1.drew m n us ∧ Fresh W w1.drew := ⟨a1, a2, a3, a4, a5.drew, a6.drew, Below.drew a7⟩
theorem held2_one {W w1 : World} {p q r t : Addr} {u v x y l m : Value} {n : Nat} {ws us : List Nat} (s : w1.cell? p = some u ∧ w1.cell? q = some v ∧ w1.cell? r = some x ∧ w1.cell? t = some y ∧ TreeAt w1 l n ws ∧ TreeAt w1 m n us ∧ Fresh W w1) : TreeAt w1 l n ws := s.2.2.2.2.1
theorem held2_two {W w1 : World} {p q r t : Addr} {u v x y l m : Value} {n : Nat} {ws us : List Nat} (s : w1.cell? p = some u ∧ w1.cell? q = some v ∧ w1.cell? r = some x ∧ w1.cell? t = some y ∧ TreeAt w1 l n ws ∧ TreeAt w1 m n us ∧ Fresh W w1) : TreeAt w1 m n us := s.2.2.2.2.2.1
theorem held2_last {W w1 : World} {p q r t : Addr} {u v x y l m : Value} {n : Nat} {ws us : List Nat} (s : w1.cell? p = some u ∧ w1.cell? q = some v ∧ w1.cell? r = some x ∧ w1.cell? t = some y ∧ TreeAt w1 l n ws ∧ TreeAt w1 m n us ∧ Fresh W w1) : Fresh W w1 := s.2.2.2.2.2.2

theorem wrap_small (x : Int) (h0 : 0 ≤ x) (h1 : x ≤ 100000) : IntKind.i64.wrap x = x := by rw [IntKind.wrap_i64]; omega


set_option maxRecDepth 100000 in
set_option maxHeartbeats 4000000 in
theorem rankSet_walk0 (a : Option Addr) (len cap : Nat) (zs : List Int) (n : Int) (hn : 0 ≤ n) (hn' : n ≤ 65535) (x1 : Int) (hx : 0 ≤ x1) (hx' : x1 ≤ 65535) (y1 : Int) (hy : 0 ≤ y1) (hy' : y1 ≤ 65535) (w : World) (hrow : IsRow .u8 w a len cap zs) :
    Calls Try.prog 5 #[.slice a len cap, .int .u16 n, .int .u16 x1, .int .u16 y1] w fun e w' => e = .returned (.bool true) ∧ Fresh w w' := by
  by_cases h20 : len ≤ 20
  · have l0 : (len : Int) ≤ 20 := by omega
    have RW := hide hrow
    obtain ⟨s, hs⟩ : ∃ s : Nat, 1 + n % 5000 = (s : Int) := ⟨(1 + n % 5000).toNat, by omega⟩
    have s1 : 1 ≤ s := by omega
    have s2 : s ≤ 5000 := by omega
    clear hrow h20
    go_enter Try.func5, Try.ntmps5
    go_wp2_with fail
    refine (begun6_true _).mono ?_
    rintro e w1 ⟨rfl, k1⟩
    have K1 := hide k1
    clear k1
    go_wp2_with fail
    refine (made_any a len cap _).mono ?_
    rintro e w2 ⟨rfl, rfl⟩
    have PK := hide (picks_fresh RW.out K1.out 45)
    have F3 := hide (K1.out.trans (fresh_box w1 #[.slice a len cap, .int .i64 0] 45))
    have B1 := hide K1.out.size
    clear K1
    go_wp2_with fail
    refine (ptree_any _ _ s _ PK.out s1 (by omega)).mono ?_
    rintro e w4 ⟨v4, ws, rfl, t4, e4⟩
    have F4 := hide (Elb.below F3.out B1.out e4)
    obtain ⟨b, o, cp, rfl, _⟩ := t4.shape
    have LE := hide t4.lev
    obtain ⟨L, hL⟩ : ∃ L, nLev s = L := ⟨_, rfl⟩
    have l1 := nLev_in s
    rw [hL] at t4 l1 ⊢
    have VT0 := hide (var_new hL t4)
    have HL := hide hL
    clear hL t4 e4 F3 PK
    obtain ⟨w5, hw5⟩ : ∃ w5, w5 = w4.alloc (.cells #[.int .i64 (s : Int), .slice (some ⟨b, o, none⟩) L cp] 27) := ⟨_, rfl⟩
    have F5 := hide (show Fresh w w5 by subst hw5; exact fresh_more F4.out _ _)
    rw [← hw5] at VT0
    have HW5 := hide hw5
    clear hw5 F4 hs
    have c0 := VT0.out.c0 w5 (Fresh.refl _)
    have c1 := VT0.out.c1 w5 (Fresh.refl _)
    have q1 : (1 : Int) ≤ (s : Int) := by omega
    have q2 : (s : Int) ≤ 5000 := by omega
    obtain ⟨I, hI⟩ : ∃ I : Nat, x1 % (s : Int) = I := ⟨(x1 % (s : Int)).toNat, by have := Int.emod_nonneg x1 (show (s : Int) ≠ 0 by omega); omega⟩
    have hI2 : I < s := by have := Int.emod_lt_of_pos x1 (show 0 < (s : Int) by omega); omega
    obtain ⟨Q, hQ⟩ : ∃ Q : Nat, y1 % (s : Int) = Q := ⟨(y1 % (s : Int)).toNat, by have := Int.emod_nonneg y1 (show (s : Int) ≠ 0 by omega); omega⟩
    have hQ2 : Q < s := by have := Int.emod_lt_of_pos y1 (show 0 < (s : Int) by omega); omega
    go_wp2_with fail
    rw [← HW5.out]
    go_quiet (fail)
    rw [hI, hQ]
    have T5 := hide (fun m => VT0.out.tr (w5.drewN m) (Fresh.drewN w5 m))
    obtain ⟨us, hus⟩ : ∃ us, setT s ws (I : Int) 1 true = us := ⟨_, rfl⟩
    have US := hide hus
    have f1 : (I : Int) < (s : Int) := by omega
    have g1 : (Q : Int) < (s : Int) := by omega
    obtain ⟨C, hC⟩ : ∃ C, cnt (bitV ws) 0 Q = C := ⟨_, rfl⟩
    obtain ⟨D, hD⟩ : ∃ D, cnt (bitV us) 0 Q = D := ⟨_, rfl⟩
    have DC := hide (show D = C + (if bitV ws I = false ∧ I < Q then 1 else 0) by rw [← hD, ← hC, ← hus]; exact below_set LE.out I Q hI2 hQ2)
    have C1 : (C : Int) ≤ 5000 := by have := cnt_le (bitV ws) 0 Q; omega
    have BT := hide (show ((belowV s ws (Q : Int) : Nat) : Int) = (C : Int) by rw [below_nat s ws Q (by omega), hC])
    have BU := hide (show ((belowV s us (Q : Int) : Nat) : Int) = (D : Int) by rw [below_nat s us Q (by omega), hD])
    have QB := hide (show -9223372036854775808 ≤ (Q : Int) ∧ (Q : Int) ≤ 9223372036854775807 by omega)
    clear hus hI hQ hC hD
    go_wp2_with fail
    refine (tset_to _ s ws (I : Int) 1 true us US.out _ (T5.out _) (by decide)).mono ?_
    rintro e w6 ⟨v6, rfl, t6, k6⟩
    have k56 : Fresh w5 w6 := (Fresh.drewN w5 _).trans k6
    obtain ⟨b6, o6, cp6, rfl, _⟩ := t6.at.lit (s : Int) L rfl HL.out
    have VU := hide (var_new HL.out t6.at)
    obtain ⟨w7, hw7⟩ : ∃ w7, w7 = w6.alloc (.cells #[.int .i64 (s : Int), .slice (some ⟨b6, o6, none⟩) L cp6] 27) := ⟨_, rfl⟩
    have f57 : Fresh w5 w7 := by subst hw7; exact fresh_more k56 _ _
    rw [← hw7] at VU
    have F7 := hide (F5.out.trans f57)
    have VT := hide (VT0.out.mono f57)
    have HW7 := hide hw7
    clear hw7 f57 k56 k6 t6 c0 c1 VT0 T5 HW5 F5 LE
    have c0 := VT.out.c0 w7 (Fresh.refl _)
    have c1 := VT.out.c1 w7 (Fresh.refl _)
    obtain ⟨rx, rc, hrc, hrw⟩ := (VT.out.lv w7 (Fresh.refl _)).row 0 (by omega)
    rw [Nat.add_zero] at hrc
    change w7.cell? ⟨b, o, none⟩ = some (.slice rx ws.length rc) at hrc
    have RWD := hide (show WordsAt w7 (.slice rx ws.length rc) ws from hrw)
    clear hrw
    generalize w4.heap.size = T at *
    rw [HW7.out] at c0 c1 hrc
    go_wp2_with fail
    rw [← HW7.out]
    generalize w6.heap.size = V at *
    cases hb : bitV ws I with
    | true =>
      have HB := hide hb
      have e1 : D = C := by rw [DC.out, if_neg (fun h => by rw [hb] at h; cases h.1)]; rfl
      clear hb DC
      subst e1
      refine (rhas_bit _ ws I true HB.out _ RWD.out (by omega)).mono ?_
      rintro e wk ⟨rfl, k4⟩
      have K := hide k4
      clear c0 c1 hrc k4
      have z3 := wrap_small (D : Int) (by omega) (by omega)
      have c0 := VT.out.c0 _ K.out
      have c1 := VT.out.c1 _ K.out
      have d0 := VU.out.c0 _ K.out
      have d1 := VU.out.c1 _ K.out
      have TT := VT.out.tr _ K.out
      have TU := VU.out.tr _ K.out
      have FR := Fresh.refl wk
      go_wp2_with fail
      go_region_held3 (fun w' => w'.cell? ⟨T, 0, none⟩ = some (.int .i64 (s : Int)) ∧ w'.cell? ⟨T, 1, none⟩ = some (.slice (some ⟨b, o, none⟩) L cp) ∧ w'.cell? ⟨V, 0, none⟩ = some (.int .i64 (s : Int)) ∧ w'.cell? ⟨V, 1, none⟩ = some (.slice (some ⟨b6, o6, none⟩) L cp6) ∧ TreeAt w' (.agg #[.int .i64 (s : Int), .slice (some ⟨b, o, none⟩) L cp]) s ws ∧ TreeAt w' (.agg #[.int .i64 (s : Int), .slice (some ⟨b6, o6, none⟩) L cp6]) s us ∧ Fresh wk w') (first | (exact held2_drew (by assumption) (by assumption) (by assumption) (by assumption) (by assumption) (by assumption) (by assumption)) | (exact held2_fresh (by assumption) (by assumption)) | go_keep) (first | (go_at_call 12; refine (below_to _ s us (Q : Int) _ BU.out _ (held2_two (by assumption)) QB.out.1 QB.out.2).mono ?_; rintro e w8 ⟨rfl, k8⟩) | (go_at_call 12; refine (below_to _ s ws (Q : Int) _ BT.out _ (held2_one (by assumption)) QB.out.1 QB.out.2).mono ?_; rintro e w9 ⟨rfl, k9⟩))
      all_goals
        have hS : Fresh wk w9 := held2_last (by assumption)
        have K9 := hide (F7.out.trans (K.out.trans hS))
        clear hS
        go_wp2
        go_ret
        exact ⟨rfl, K9.out⟩
    | false =>
      have HB := hide hb
      refine (rhas_bit _ ws I false HB.out _ RWD.out (by omega)).mono ?_
      rintro e wk ⟨rfl, k4⟩
      have K := hide k4
      clear c0 c1 hrc k4
      by_cases hIQ : I < Q
      · have e1 : D = C + 1 := by rw [DC.out, if_pos ⟨hb, hIQ⟩]
        have h1 : (I : Int) < (Q : Int) := by omega
        clear hb DC hIQ
        have z2 : IntKind.i64.wrap ((C : Int) + 1) = (D : Int) := by rw [wrap_small ((C : Int) + 1) (by omega) (by omega)]; omega
        clear e1
        have c0 := VT.out.c0 _ K.out
        have c1 := VT.out.c1 _ K.out
        have d0 := VU.out.c0 _ K.out
        have d1 := VU.out.c1 _ K.out
        have TT := VT.out.tr _ K.out
        have TU := VU.out.tr _ K.out
        have FR := Fresh.refl wk
        go_wp2_with fail
        go_region_held3 (fun w' => w'.cell? ⟨T, 0, none⟩ = some (.int .i64 (s : Int)) ∧ w'.cell? ⟨T, 1, none⟩ = some (.slice (some ⟨b, o, none⟩) L cp) ∧ w'.cell? ⟨V, 0, none⟩ = some (.int .i64 (s : Int)) ∧ w'.cell? ⟨V, 1, none⟩ = some (.slice (some ⟨b6, o6, none⟩) L cp6) ∧ TreeAt w' (.agg #[.int .i64 (s : Int), .slice (some ⟨b, o, none⟩) L cp]) s ws ∧ TreeAt w' (.agg #[.int .i64 (s : Int), .slice (some ⟨b6, o6, none⟩) L cp6]) s us ∧ Fresh wk w') (first | (exact held2_drew (by assumption) (by assumption) (by assumption) (by assumption) (by assumption) (by assumption) (by assumption)) | (exact held2_fresh (by assumption) (by assumption)) | go_keep) (first | (go_at_call 12; refine (below_to _ s us (Q : Int) _ BU.out _ (held2_two (by assumption)) QB.out.1 QB.out.2).mono ?_; rintro e w8 ⟨rfl, k8⟩) | (go_at_call 12; refine (below_to _ s ws (Q : Int) _ BT.out _ (held2_one (by assumption)) QB.out.1 QB.out.2).mono ?_; rintro e w9 ⟨rfl, k9⟩))
        all_goals
          have hS : Fresh wk w9 := held2_last (by assumption)
          have K9 := hide (F7.out.trans (K.out.trans hS))
          clear hS
          go_wp2
          go_ret
          exact ⟨rfl, K9.out⟩
      · have e1 : D = C := by rw [DC.out, if_neg (fun h => hIQ h.2)]; rfl
        have h1 : (Q : Int) ≤ (I : Int) := by omega
        clear hb DC hIQ
        subst e1
        have z3 := wrap_small (D : Int) (by omega) (by omega)
        have c0 := VT.out.c0 _ K.out
        have c1 := VT.out.c1 _ K.out
        have d0 := VU.out.c0 _ K.out
        have d1 := VU.out.c1 _ K.out
        have TT := VT.out.tr _ K.out
        have TU := VU.out.tr _ K.out
        have FR := Fresh.refl wk
        go_wp2_with fail
        go_region_held3 (fun w' => w'.cell? ⟨T, 0, none⟩ = some (.int .i64 (s : Int)) ∧ w'.cell? ⟨T, 1, none⟩ = some (.slice (some ⟨b, o, none⟩) L cp) ∧ w'.cell? ⟨V, 0, none⟩ = some (.int .i64 (s : Int)) ∧ w'.cell? ⟨V, 1, none⟩ = some (.slice (some ⟨b6, o6, none⟩) L cp6) ∧ TreeAt w' (.agg #[.int .i64 (s : Int), .slice (some ⟨b, o, none⟩) L cp]) s ws ∧ TreeAt w' (.agg #[.int .i64 (s : Int), .slice (some ⟨b6, o6, none⟩) L cp6]) s us ∧ Fresh wk w') (first | (exact held2_drew (by assumption) (by assumption) (by assumption) (by assumption) (by assumption) (by assumption) (by assumption)) | (exact held2_fresh (by assumption) (by assumption)) | go_keep) (first | (go_at_call 12; refine (below_to _ s us (Q : Int) _ BU.out _ (held2_two (by assumption)) QB.out.1 QB.out.2).mono ?_; rintro e w8 ⟨rfl, k8⟩) | (go_at_call 12; refine (below_to _ s ws (Q : Int) _ BT.out _ (held2_one (by assumption)) QB.out.1 QB.out.2).mono ?_; rintro e w9 ⟨rfl, k9⟩))
        all_goals
          have hS : Fresh wk w9 := held2_last (by assumption)
          have K9 := hide (F7.out.trans (K.out.trans hS))
          clear hS
          go_wp2
          go_ret
          exact ⟨rfl, K9.out⟩
  · have l0 : (20 : Int) < (len : Int) := by omega
    go_enter Try.func5, Try.ntmps5
    go_wp2_with fail
    refine (begun6_true _).mono ?_
    rintro e w1 ⟨rfl, k1⟩
    have K1 := hide k1
    clear k1
    go_wp2
    go_ret
    exact ⟨rfl, K1.out⟩
end Go.Proofs.Ytlbkicohmbdlhaa
