/- What package rank and the document answer, the answers spelt by the caller; hodmanlaw6's own helper begun answers true. -/
import Derived.Test.YtlbkicohmbdlhaaRankB
import Derived.Test.YtlbkicohmbdlhaaRefRank
import Derived.Test.YtlbkicohmbdlhaaPlayMade
import Derived.Deep.OwnRows
namespace Go.Proofs.Ytlbkicohmbdlhaa
open Go.RowKit

theorem below_to (v : Value) (n : Nat) (ws : List Nat) (i r : Int) (hr : ((belowV n ws i : Nat) : Int) = r) (w : World) (h : TreeAt w v n ws) (hi : -9223372036854775808 ≤ i) (hi' : i ≤ 9223372036854775807) :
    Calls Try.prog 12 #[v, .int .i64 i] w fun e w' => e = .returned (.int .i64 r) ∧ Fresh w w' := by
  subst hr; exact below_any v n ws i w h hi hi'
theorem rbelow_to (v : Value) (n : Nat) (ws : List Nat) (i r : Int) (hr : ((belowV n ws i : Nat) : Int) = r) (w : World) (h : TreeAt w v n ws) :
    Calls Try.prog 13 #[v, .int .i64 i] w fun e w' => e = .returned (.int .i64 r) ∧ Fresh w w' := by
  subst hr; exact rbelow_any v n ws i w h
theorem nth_to (v : Value) (n : Nat) (ws : List Nat) (k X : Int) (P : Bool) (hX : (((nthT n ws k).getD 0 : Nat) : Int) = X) (hP : (nthT n ws k).isSome = P) (w : World) (h : TreeAt w v n ws) (hk' : k ≤ 9223372036854775807) :
    Calls Try.prog 10 #[v, .int .i64 k] w fun e w' => e = .returned (.tuple #[.int .i64 X, .bool P]) ∧ Fresh w w' := by
  have := nth_any v n ws k w h hk'
  unfold foundE at this
  rwa [hX, hP] at this
theorem rnth_to (v : Value) (n : Nat) (ws : List Nat) (k X : Int) (P : Bool) (hX : (((nthT n ws k).getD 0 : Nat) : Int) = X) (hP : (nthT n ws k).isSome = P) (w : World) (h : TreeAt w v n ws) (hk : -9223372036854775808 ≤ k) (hk' : k ≤ 9223372036854775807) :
    Calls Try.prog 11 #[v, .int .i64 k] w fun e w' => e = .returned (.tuple #[.int .i64 X, .bool P]) ∧ Fresh w w' := by
  have := rnth_any v n ws k w h hk hk'
  unfold foundE at this
  rwa [hX, hP] at this
theorem nth_is (v : Value) (n : Nat) (ws : List Nat) (k X : Int) (j : Nat) (hj : nthT n ws k = some j) (hX : (j : Int) = X) (w : World) (h : TreeAt w v n ws) (hk' : k ≤ 9223372036854775807) :
    Calls Try.prog 10 #[v, .int .i64 k] w fun e w' => e = .returned (.tuple #[.int .i64 X, .bool true]) ∧ Fresh w w' := nth_to v n ws k X true (by rw [hj]; exact hX) (by rw [hj]; rfl) w h hk'
theorem nth_no (v : Value) (n : Nat) (ws : List Nat) (k : Int) (hj : nthT n ws k = none) (w : World) (h : TreeAt w v n ws) (hk' : k ≤ 9223372036854775807) :
    Calls Try.prog 10 #[v, .int .i64 k] w fun e w' => e = .returned (.tuple #[.int .i64 0, .bool false]) ∧ Fresh w w' := nth_to v n ws k 0 false (by rw [hj]; rfl) (by rw [hj]; rfl) w h hk'
theorem zeros_to (v : Value) (n : Nat) (ws : List Nat) (r : Int) (hr : ((n - cnt (bitV ws) 0 n : Nat) : Int) = r) (w : World) (h : TreeAt w v n ws) :
    Calls Try.prog 14 #[v] w fun e w' => e = .returned (.int .i64 r) ∧ Fresh w w' := by
  subst hr; exact zeros_any v n ws w h
theorem rtset_to (v : Value) (n : Nat) (ws : List Nat) (f m : Int) (on : Bool) (us : List Nat) (hu : setT n ws f m on = us) (w : World) (h : TreeAt w v n ws) (h1 : f ≤ 9223372036854775807) (h2 : m ≤ 9223372036854775807) :
    Calls Try.prog 17 #[v, .int .i64 f, .int .i64 m, .bool on] w fun e w' => ∃ v', e = .returned v' ∧ TreeNew w.heap.size w' v' n us ∧ Fresh w w' := by
  subst hu; exact rtset_any v n ws f m on w h h1 h2
theorem rhas_bit (v : Value) (ws : List Nat) (i : Nat) (b : Bool) (hb : bitV ws i = b) (w : World) (h : WordsAt w v ws) (hi : (i : Int) ≤ 9223372036854775807) :
    Calls Try.prog 15 #[v, .int .i64 (i : Int)] w fun e w' => e = .returned (.bool b) ∧ Fresh w w' := by
  subst hb
  exact (rhas_nat v ws i w h hi).mono fun e w' ⟨he, hw⟩ => ⟨he, by rw [hw]; exact Fresh.refl _⟩
/-- where bools were made -/
theorem boolsA (w : World) (q : Nat) : BoolsAt (w.alloc (.cells (madeCells #[.bool false] q) 4)) (.slice (some ⟨w.heap.size, 0, none⟩) q q) (List.replicate q false) := by
  have hl := heap_alloc_new w (.cells (madeCells #[.bool false] q) 4 (0, 0))
  refine ⟨some ⟨w.heap.size, 0, none⟩, q, by rw [List.length_replicate], fun i hi => ⟨w.heap.size, 0, rfl, ?_⟩⟩
  rw [List.length_replicate] at hi
  rw [Nat.zero_add]
  refine cell_block hl i _ ?_
  have e : (madeCells #[Value.bool false] q).toList = List.replicate q (.bool false) := toList_madeCells_one _ _
  rw [← Array.getElem?_toList, e, List.getElem?_replicate, if_pos hi, List.getD_eq_getElem?_getD, List.getElem?_replicate, if_pos hi]; rfl
theorem bools_run (x : Int) (q : Nat) (hx : x = q) (h : q ≤ 65536) (w : World) : (Instr.makeSlice 43 (.int .i64 x) (.int .i64 x)).run Try.prog w = .ok (.slice (some ⟨w.heap.size, 0, none⟩) q q) (w.alloc (.cells (madeCells #[.bool false] q) 4)) := by
  subst hx
  exact run_make_row' (P := Try.prog) 43 4 (.bool false) 1 Try.underlying43 infoBool rfl .i64 .i64 q (by omega) (by omega) w
theorem made_zeros (x : Int) (s : Nat) (hx : x = s) (v : Value) (w : World) (hb : BoolsAt w v (List.replicate s false)) (n1 : 1 ≤ s) (n2 : s ≤ 65536) :
    Calls Try.prog 18 #[.int .i64 x, v] w fun e w' => ∃ v', e = .returned v' ∧ TreeNew w.heap.size w' v' s (noneV s) ∧ Fresh w w' := by
  subst hx
  have := made_nat s v _ w hb List.length_replicate n1 n2
  rwa [zeros_none] at this

set_option maxRecDepth 100000 in
set_option maxHeartbeats 1000000 in
theorem begun6_true (w : World) : Calls Try.prog 7 #[] w fun e w' => e = .returned (.bool true) ∧ Fresh w w' := by
  obtain ⟨s, hs⟩ : ∃ s : Nat, s = 100 := ⟨_, rfl⟩
  have U := hide (show setT s (noneV s) 10 5 true = [31744, 18446744004990074880] by subst hs; decide +kernel)
  have N2 := hide (show nthT s [31744, 18446744004990074880] 2 = some 12 by subst hs; decide +kernel)
  have N5 := hide (show nthT s [31744, 18446744004990074880] 5 = none by subst hs; decide +kernel)
  have B2 := hide (show ((belowV s [31744, 18446744004990074880] 12 : Nat) : Int) = 2 by subst hs; decide +kernel)
  have Z5 := hide (show ((s - cnt (bitV [31744, 18446744004990074880]) 0 s : Nat) : Int) = 95 by subst hs; decide +kernel)
  have hmk := fun w => bools_run 100 s (by omega) (by omega) w
  have HS := hide hs
  obtain ⟨L, hL⟩ : ∃ L, nLev s = L := ⟨_, rfl⟩
  have HL := hide hL
  clear hs hL
  go_enter Try.func7, Try.ntmps7
  go_wp2_with fail
  refine (made_zeros 100 s (by rw [HS.out]; rfl) _ _ (boolsA _ _) (by rw [HS.out]; decide) (by rw [HS.out]; decide)).mono ?_
  rintro e w1 ⟨v1, rfl, t1, k1⟩
  have T1 := hide t1.at
  have F1 := hide ((fresh_box w _ _).trans k1)
  clear t1 k1
  go_wp2_with fail
  refine (rtset_to v1 s _ 10 5 true _ U.out _ T1.out (by decide) (by decide)).mono ?_
  rintro e w2 ⟨v2, rfl, t2, k2⟩
  obtain ⟨b, o, cap, rfl, _⟩ := t2.at.lit (s : Int) L rfl HL.out
  have VT := hide (var_new HL.out t2.at)
  obtain ⟨w3, hw3⟩ : ∃ w3, w3 = w2.alloc (.cells #[.int .i64 (s : Int), .slice (some ⟨b, o, none⟩) L cap] 27) := ⟨_, rfl⟩
  rw [← hw3] at VT
  have F3 := hide (show Fresh w w3 by subst hw3; exact fresh_more (F1.out.trans k2) _ _)
  have HW3 := hide hw3
  clear hw3 t2 k2 F1 T1
  have c0 := VT.out.c0 w3 (Fresh.refl _)
  have c1 := VT.out.c1 w3 (Fresh.refl _)
  go_wp2_with fail
  rw [← HW3.out]
  refine (nth_is _ s _ 2 12 12 N2.out rfl _ (VT.out.tr _ (Fresh.refl _)) (by decide)).mono ?_
  rintro e w4 ⟨rfl, k4⟩
  have K4 := hide k4
  clear c0 c1 k4
  have c0 := VT.out.c0 w4 K4.out
  have c1 := VT.out.c1 w4 K4.out
  go_wp2_with fail
  refine (nth_no _ s _ 5 N5.out _ (VT.out.tr _ K4.out) (by decide)).mono ?_
  rintro e w5 ⟨rfl, k5⟩
  have K5 := hide (K4.out.trans k5)
  clear c0 c1 k5 K4
  have c0 := VT.out.c0 w5 K5.out
  have c1 := VT.out.c1 w5 K5.out
  go_wp2_with fail
  refine (below_to _ s _ 12 2 B2.out _ (VT.out.tr _ K5.out) (by decide) (by decide)).mono ?_
  rintro e w6 ⟨rfl, k6⟩
  have K6 := hide (K5.out.trans k6)
  clear c0 c1 k6 K5
  have c0 := VT.out.c0 w6 K6.out
  have c1 := VT.out.c1 w6 K6.out
  go_wp2_with fail
  refine (zeros_to _ s _ 95 Z5.out _ (VT.out.tr _ K6.out)).mono ?_
  rintro e w7 ⟨rfl, k7⟩
  have K7 := hide (F3.out.trans (K6.out.trans k7))
  clear c0 c1 k7 K6
  go_wp2
  go_ret
  exact ⟨rfl, K7.out⟩
end Go.Proofs.Ytlbkicohmbdlhaa
