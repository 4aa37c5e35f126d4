/- What package tree answers, the answers spelt by the caller; hodmanlaw5's own helper begun answers true. -/
import Derived.Test.YthhflgecmbhjhaaTreeS
import Derived.Test.YthhflgecmbhjhaaTreeN
namespace Go.Proofs.Ythhflgecmbhjhaa
open Go.RowKit

theorem tnew_to (x : Int) (n : Nat) (hx : x = n) (w : World) (n1 : 1 ≤ n) (n2 : n ≤ 65536) : Calls Try.prog 19 #[.int .i64 x] w fun e w' => ∃ v, e = .returned v ∧ TreeNew w.heap.size w' v n (noneV n) ∧ Fresh w w' := by
  subst hx; exact tnew_nat n w n1 n2
theorem thas_to (v : Value) (n : Nat) (ws : List Nat) (i : Int) (b : Bool) (hb : hasT n ws i = b) (w : World) (h : TreeAt w v n ws) (hi : -9223372036854775808 ≤ i) (hi' : i ≤ 9223372036854775807) :
    Calls Try.prog 14 #[v, .int .i64 i] w fun e w' => e = .returned (.bool b) ∧ Fresh w w' := by
  subst hb; exact thas_any v n ws i w h hi hi'
theorem tset_to (v : Value) (n : Nat) (ws : List Nat) (f m : Int) (on : Bool) (us : List Nat) (hu : setT n ws f m on = us) (w : World) (h : TreeAt w v n ws) (hm : m ≤ 9223372036854775807) :
    Calls Try.prog 16 #[v, .int .i64 f, .int .i64 m, .bool on] w fun e w' => ∃ v', e = .returned v' ∧ TreeNew w.heap.size w' v' n us ∧ Fresh w w' := by
  subst hu; exact tset_any v n ws f m on w h hm
theorem tfirst_to (v : Value) (n : Nat) (ws : List Nat) (f i : Int) (b : Bool) (hr : firstT n ws f = if b then some i.toNat else none) (hi : 0 ≤ i) (hb : b = false → i = 0) (w : World) (h : TreeAt w v n ws) (hf : -9223372036854775808 ≤ f) (hf' : f ≤ 9223372036854775807) :
    Calls Try.prog 11 #[v, .int .i64 f] w fun e w' => e = .returned (.tuple #[.int .i64 i, .bool b]) ∧ Fresh w w' := by
  have := tfirst_any v n ws f w h hf hf'
  rw [hr] at this
  cases b with
  | true =>
    have e : foundE (if true = true then some i.toNat else none) = .returned (.tuple #[.int .i64 i, .bool true]) := by
      have : ((i.toNat : Nat) : Int) = i := by omega
      show Ending.returned (.tuple #[.int .i64 ((i.toNat : Nat) : Int), .bool true]) = _
      rw [this]
    rwa [e] at this
  | false =>
    have e : foundE (if false = true then some i.toNat else none) = .returned (.tuple #[.int .i64 i, .bool false]) := by rw [hb rfl]; rfl
    rwa [e] at this
/-- a tree's value, and its first level's cell -/
theorem TreeAt.shape {w : World} {v : Value} {n : Nat} {ws : List Nat} (h : TreeAt w v n ws) : ∃ b o cap, v = .agg #[.int .i64 (n : Int), .slice (some ⟨b, o, none⟩) (nLev n) cap] ∧ LvAt w (some ⟨b, o, none⟩) (nLev n) (lvV ws) := by
  obtain ⟨_, _, _, a, cap, rfl, hlv⟩ := h
  obtain ⟨b, o, rfl⟩ := hlv.len (nLev_in n).1
  exact ⟨b, o, cap, rfl, hlv⟩
theorem TreeAt.lit {w : World} {v : Value} {n : Nat} {ws : List Nat} (h : TreeAt w v n ws) (N : Int) (L : Nat) (hN : (n : Int) = N) (hL : nLev n = L) : ∃ b o cap, v = .agg #[.int .i64 N, .slice (some ⟨b, o, none⟩) L cap] ∧ LvAt w (some ⟨b, o, none⟩) L (lvV ws) := by
  subst hN; subst hL; exact h.shape
/-- a tree's value is laid in a variable of its own -/
theorem TreeAt.boxed {w : World} {v : Value} {n : Nat} {ws : List Nat} (h : TreeAt w v n ws) (c : Array Value) (t : TypeId) : TreeAt (w.alloc (.cells c t)) v n ws := h.fresh (fresh_box w c t)

set_option maxRecDepth 100000 in
set_option maxHeartbeats 1000000 in
theorem begun5_true (w : World) : Calls Try.prog 7 #[] w fun e w' => e = .returned (.bool true) ∧ Fresh w w' := by
  have U := hide (show setT 100 (noneV 100) 0 64 true = [18446744073709551615, 18446744004990074880] by decide +kernel)
  have FZ := hide (show firstT 100 [18446744073709551615, 18446744004990074880] 0 = some 64 by decide +kernel)
  have H1 := hide (show hasT 100 [18446744073709551615, 18446744004990074880] 63 = true by decide +kernel)
  have H2 := hide (show hasT 100 [18446744073709551615, 18446744004990074880] 64 = false by decide +kernel)
  have L0 := hide (show (lvV (noneV 100) 0).length = 2 by decide +kernel)
  go_enter Try.func7, Try.ntmps7
  go_wp2_with fail
  refine (tnew_to 100 100 rfl _ (by decide) (by decide)).mono ?_
  rintro e w1 ⟨v1, rfl, t1, k1⟩
  obtain ⟨b, o, cap, rfl, hlv⟩ := t1.at.lit 100 2 rfl (by decide)
  obtain ⟨x, c, hx, _⟩ := hlv.row 0 (by decide)
  rw [Nat.add_zero, L0.out] at hx
  have hxb : b < w1.heap.size := World.block_lt_of_cell? _ _ hx
  obtain ⟨w2, hw2⟩ : ∃ w2, w2 = w1.alloc (.cells #[.int .i64 100, .slice (some ⟨b, o, none⟩) 2 cap] 27) := ⟨_, rfl⟩
  have f12 : Fresh w1 w2 := by subst hw2; exact fresh_box w1 _ _
  have T2 := hide (t1.at.fresh f12)
  have F2 := hide (k1.trans f12)
  have BX : w2.heap[w1.heap.size]? = some (.cells #[.int .i64 100, .slice (some ⟨b, o, none⟩) 2 cap] 27 (0, 0)) := by subst hw2; exact heap_alloc_new w1 _
  have hx2 : w2.cell? ⟨b, o, none⟩ = some (.slice x 2 c) := (f12.cell hxb).trans hx
  have BXH := hide BX
  have HX2 := hide hx2
  have HW2 := hide hw2
  clear t1 k1 hlv hx BX hx2 hw2 f12
  go_wp2_with fail
  rw [← HW2.out]
  refine (tset_to _ 100 _ 0 64 true _ U.out _ T2.out (by decide)).mono ?_
  rintro e w3 ⟨v3, rfl, t3, k3⟩
  obtain ⟨b3, o3, cap3, rfl, _⟩ := t3.at.lit 100 2 rfl (by decide)
  obtain ⟨w4, hw4⟩ : ∃ w4, w4 = w3.alloc (.cells #[.int .i64 100, .slice (some ⟨b3, o3, none⟩) 2 cap3] 27) := ⟨_, rfl⟩
  have f34 : Fresh w3 w4 := by subst hw4; exact fresh_box w3 _ _
  have T4 := hide (t3.at.fresh f34)
  have F4 := hide ((F2.out.trans k3).trans f34)
  have BU : w4.heap[w3.heap.size]? = some (.cells #[.int .i64 100, .slice (some ⟨b3, o3, none⟩) 2 cap3] 27 (0, 0)) := by subst hw4; exact heap_alloc_new w3 _
  have BX4 : w4.heap[w1.heap.size]? = some (.cells #[.int .i64 100, .slice (some ⟨b, o, none⟩) 2 cap] 27 (0, 0)) := by rw [(k3.trans f34).block w1.heap.size (Array.getElem?_eq_some_iff.1 BXH.out).1]; exact BXH.out
  have hx4 : w4.cell? ⟨b, o, none⟩ = some (.slice x 2 c) := ((k3.trans f34).cell (World.block_lt_of_cell? _ _ HX2.out)).trans HX2.out
  have ALL := hide (show ∀ w', Fresh w4 w' → (w'.cell? ⟨w3.heap.size, 0, none⟩ = some (.int .i64 100) ∧ w'.cell? ⟨w3.heap.size, 1, none⟩ = some (.slice (some ⟨b3, o3, none⟩) 2 cap3) ∧ w'.cell? ⟨w1.heap.size, 0, none⟩ = some (.int .i64 100) ∧ w'.cell? ⟨w1.heap.size, 1, none⟩ = some (.slice (some ⟨b, o, none⟩) 2 cap) ∧ w'.cell? ⟨b, o, none⟩ = some (.slice x 2 c)) ∧ TreeAt w' (.agg #[.int .i64 100, .slice (some ⟨b3, o3, none⟩) 2 cap3]) 100 [18446744073709551615, 18446744004990074880] from fun w' hf => by
    have h1 : ∀ (p : Addr) (v : Value), w4.cell? p = some v → w'.cell? p = some v := fun p v hc => (hf.cell (World.block_lt_of_cell? _ _ hc)).trans hc
    exact ⟨⟨h1 _ _ (cell_block BU 0 _ rfl), h1 _ _ (cell_block BU 1 _ rfl), h1 _ _ (cell_block BX4 0 _ rfl), h1 _ _ (cell_block BX4 1 _ rfl), h1 _ _ hx4⟩, T4.out.fresh hf⟩)
  have HW4 := hide hw4
  clear t3 k3 f34 BU BX4 hx4 hw4 T2 BXH HX2 HW2 T4
  go_wp2_with fail
  rw [← HW4.out]
  refine (tfirst_to _ 100 _ 0 64 true FZ.out (by decide) (by decide) _ (ALL.out _ (Fresh.refl _)).2 (by decide) (by decide)).mono ?_
  rintro e w5 ⟨rfl, k5⟩
  obtain ⟨⟨c0, c1, c2, c3, c4⟩, T5⟩ := ALL.out _ k5
  have T5 := hide T5
  have K5 := hide k5
  clear k5
  go_wp2_with fail
  refine (thas_to _ 100 _ 63 true H1.out _ T5.out (by decide) (by decide)).mono ?_
  rintro e w6 ⟨rfl, k6⟩
  have K6 := hide (K5.out.trans k6)
  clear c0 c1 c2 c3 c4 T5 K5 k6
  obtain ⟨⟨c0, c1, c2, c3, c4⟩, T6⟩ := ALL.out _ K6.out
  have T6 := hide T6
  go_wp2_with fail
  refine (thas_to _ 100 _ 64 false H2.out _ T6.out (by decide) (by decide)).mono ?_
  rintro e w7 ⟨rfl, k7⟩
  have K7 := hide (K6.out.trans k7)
  clear c0 c1 c2 c3 c4 T6 K6 k7
  obtain ⟨⟨c0, c1, c2, c3, c4⟩, T7⟩ := ALL.out _ K7.out
  have T7 := hide T7
  go_wp2_with fail
  refine (may_true _ 100 _ _ T7.out).mono ?_
  rintro e w8 ⟨rfl, k8⟩
  have K8 := hide (K7.out.trans k8)
  clear c0 c1 c2 c3 c4 T7 K7 k8
  go_wp2_with fail
  refine (may_empty _).mono ?_
  rintro e w9 ⟨rfl, k9⟩
  have K9 := hide (K8.out.trans k9)
  clear k9 K8
  go_wp2
  go_ret
  exact ⟨rfl, F4.out.trans K9.out⟩
end Go.Proofs.Ythhflgecmbhjhaa
