/- pin as the laws use it: contracts with their answers written out, and that it has begun (hodmanlaw12.begun). Condition: the library's table lies in its variable. -/
import Derived.Test.YtckfmgopbfgdjaaDoorPinMet
namespace Go.Proofs.YtckfmgopbfgdjaaDoor
open Go.RowKit

theorem met_to (P N L E : Nat) (v : Value) (bl : List Bk) (ms : List Bool) (hms : metL L P bl = ms) (w : World) (h : BlocksAt w v bl) (p1 : 1 ≤ P) (p2 : P ≤ 9223372036854775807) (s2 : N ≤ 65536) (hL : N / P = L) (hE : L * P = E) (hT : Tab w) :
    Calls Tryd.prog 8 #[.int .i64 (P : Int), .int .i64 (N : Int), v] w fun e w' => ∃ g cap, e = .returned (.slice (some ⟨g, 0, none⟩) L cap) ∧ OwnB w' w.heap.size (.slice (some ⟨g, 0, none⟩) L cap) ms ∧ Fresh w w' := by
  subst hms
  exact met_nat P N L E v bl w h p1 p2 s2 hL hE hT
theorem pages_to (p a n f t : Nat) (hf : pF p a = f) (ht : pB p a n = t) (w : World) (h1 : 1 ≤ p) (h2 : p ≤ 9223372036854775807) (h3 : a + n ≤ 1099511627776) (hT : Tab w) :
    Calls Tryd.prog 9 #[.int .i64 (p : Int), .int .i64 (a : Int), .int .i64 (n : Int)] w fun e w' => e = .returned (.tuple #[.int .i64 (f : Int), .int .i64 (t : Int)]) ∧ w' = w := by
  subst hf ht
  have : (a + n - 1) / p ≤ a + n - 1 := Nat.div_le_self _ _
  exact pages_nat p a n w h1 h2 (by omega) (by omega) hT
theorem pages_int (p a n f t : Int) (hf : pgF p a n = f) (ht : pgB p a n = t) (w : World) (p1 : -1000 ≤ p) (p2 : p ≤ 1000) (a1 : -1000 ≤ a) (a2 : a ≤ 1000) (n1 : -1000 ≤ n) (n2 : n ≤ 1000) (hT : Tab w) :
    Calls Tryd.prog 9 #[.int .i64 p, .int .i64 a, .int .i64 n] w fun e w' => e = .returned (.tuple #[.int .i64 f, .int .i64 t]) ∧ w' = w := by
  by_cases h : 1 ≤ p ∧ 0 ≤ a ∧ 0 ≤ n
  · obtain ⟨h1, h2, h3⟩ := h
    obtain ⟨P, rfl⟩ := Int.eq_ofNat_of_zero_le (show 0 ≤ p by omega)
    obtain ⟨A, rfl⟩ := Int.eq_ofNat_of_zero_le h2
    obtain ⟨N, rfl⟩ := Int.eq_ofNat_of_zero_le h3
    rw [pgF_nat (by omega)] at hf
    rw [pgB_nat (by omega)] at ht
    subst hf ht
    exact pages_to P A N _ _ rfl rfl w (by omega) (by omega) (by omega) hT
  · unfold pgF at hf
    unfold pgB at ht
    rw [if_neg h] at hf ht
    subst hf ht
    exact pages_none p a n w (by omega) (by omega) (by omega) (by omega) (by omega) (by omega) (by omega)
theorem count_to (v : Value) (bs : List Bool) (n : Nat) (hn : cntL bs = n) (w : World) (h : BoolsAt w v bs) (hl : bs.length ≤ 1048576) :
    Calls Tryd.prog 10 #[v] w fun e w' => e = .returned (.int .i64 (n : Int)) ∧ w' = w := by
  subst hn
  exact count_any v bs w h hl
theorem OwnB.bit {w : World} {base g cap N : Nat} {bs : List Bool} (h : OwnB w base (.slice (some ⟨g, 0, none⟩) N cap) bs) (hN : N = bs.length) (k : Nat) (b : Bool) (hb : bs.getD k false = b) (hk : k < N) : w.cell? ⟨g, k, none⟩ = some (.bool b) := by
  subst hb
  exact h.cell hN k hk

set_option maxRecDepth 100000 in
set_option maxHeartbeats 1000000 in
theorem begun12_true (w : World) (hT : Tab w) : Calls Tryd.prog 6 #[] w fun e w' => e = .returned (.bool true) ∧ Fresh w w' := by
  have HT := hide hT
  have C1 := hide (pages_to 4 3 2 0 2 (by decide) (by decide) w (by decide) (by decide) (by decide) hT)
  clear hT
  go_enter Tryd.func6, Tryd.ntmps6
  go_wp2_with fail
  refine (C1.out).mono ?_
  rintro e w' ⟨rfl, rfl⟩
  go_wp2_with fail
  obtain ⟨w2, hw2⟩ : ∃ w2, w2 = w'.alloc (.cells #[.int .i64 4, .int .i64 4, .int .i64 0] 31) := ⟨_, rfl⟩
  have F2 := hide (show Fresh w' w2 from hw2 ▸ fresh_box _ _ _)
  have B2 := hide (show w2.heap[w'.heap.size]? = some (.cells #[.int .i64 4, .int .i64 4, .int .i64 0] 31 (0, 0)) from hw2 ▸ heap_alloc_new w' _)
  rw [← hw2]
  clear hw2
  refine (met_to 4 16 4 16 _ [(4, 4, 0)] [false, true, false, false] (by decide +kernel) w2 (blocksAt_lit B2.out rfl rfl (by decide) (by intro p hp; simp at hp; subst hp; unfold Small; decide)) (by decide) (by decide) (by decide) (by decide) (by decide) (HT.out.below F2.out)).mono ?_
  rintro e w3 ⟨g, cap, rfl, o3, f3⟩
  have O3 := hide o3
  have F3 := hide (F2.out.trans f3)
  have c0 := o3.bit rfl 0 false rfl (by decide)
  have c1 := o3.bit rfl 1 true rfl (by decide)
  have C3 := hide (count_to _ _ 1 rfl w3 o3.at (by decide))
  clear o3 f3 F2 B2
  go_wp2_with fail
  refine (C3.out).mono ?_
  rintro e w' ⟨rfl, rfl⟩
  go_wp2
  go_ret
  exact ⟨rfl, F3.out⟩
end Go.Proofs.YtckfmgopbfgdjaaDoor
