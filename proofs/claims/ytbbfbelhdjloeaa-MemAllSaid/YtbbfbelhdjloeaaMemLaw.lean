/- mem as the laws use it: contracts with their answers written out, and that it has begun (hodmanlaw15.begun). -/
import Derived.Test.YtbbfbelhdjloeaaMemB
import Derived.Test.YtbbfbelhdjloeaaMemC
namespace Go.Proofs.Ytbbfbelhdjloeaa
open Go.RowKit

theorem yget_to (v : Value) (l : List Int) (i y : Int) (b : Bool) (w : World) (h : BytesIn w v l) (i0 : -9223372036854775808 ≤ i) (i1 : i ≤ 9223372036854775807) (hy : getV l i = y) (hb : hasY l.length i = b) :
    Calls Try.prog 13 #[v, .int .i64 i] w fun e w' => e = .returned (.tuple #[.int .u8 y, .bool b]) ∧ w' = w := hy ▸ hb ▸ get_any v l i w h i0 i1
theorem yput_to (v : Value) (l X : List Int) (i z : Int) (b : Bool) (w : World) (h : BytesIn w v l) (i0 : -9223372036854775808 ≤ i) (i1 : i ≤ 9223372036854775807) (hX : putV l i z = X) (hb : hasY l.length i = b) :
    Calls Try.prog 14 #[v, .int .i64 i, .int .u8 z] w fun e w' => ∃ u, e = .returned (.tuple #[u, .bool b]) ∧ BytesIn w' u X ∧ Fresh w w' := by
  refine (put_any v l i z w h i0 i1).mono ?_
  rintro e w' ⟨u, rfl, o, f⟩
  subst hX
  subst hb
  exact ⟨u, rfl, o.inn (by rw [putV_length]; exact h.1), f⟩
theorem yzero_to (v : Value) (l X : List Int) (i n : Int) (b : Bool) (w : World) (h : BytesIn w v l) (i0 : -9223372036854775808 ≤ i) (i1 : i ≤ 9223372036854775807) (n0 : -9223372036854775808 ≤ n) (n1 : n ≤ 9223372036854775807) (hX : zeroV l i n = X) (hb : hasN l.length i n = b) :
    Calls Try.prog 9 #[v, .int .i64 i, .int .i64 n] w fun e w' => ∃ u, e = .returned (.tuple #[u, .bool b]) ∧ BytesIn w' u X ∧ Fresh w w' := by
  refine (zero_any v l i n w h i0 i1 n0 n1).mono ?_
  rintro e w' ⟨u, rfl, o, f⟩
  subst hX
  subst hb
  exact ⟨u, rfl, o.inn (by rw [zeroV_length]; exact h.1), f⟩
theorem ymove_to (v : Value) (l X : List Int) (x y n : Int) (b : Bool) (w : World) (h : BytesIn w v l) (x0 : -9223372036854775808 ≤ x) (x1 : x ≤ 9223372036854775807) (y0 : -9223372036854775808 ≤ y) (y1 : y ≤ 9223372036854775807) (n0 : -9223372036854775808 ≤ n) (n1 : n ≤ 9223372036854775807)
    (hX : moveV l x y n = X) (hb : mayMove l.length x y n = b) :
    Calls Try.prog 11 #[v, .int .i64 x, .int .i64 y, .int .i64 n] w fun e w' => ∃ u, e = .returned (.tuple #[u, .bool b]) ∧ BytesIn w' u X ∧ Fresh w w' := by
  refine (move_any v l x y n w h x0 x1 y0 y1 n0 n1).mono ?_
  rintro e w' ⟨u, rfl, o, f⟩
  subst hX
  subst hb
  exact ⟨u, rfl, o.inn (by rw [moveV_length]; exact h.1), f⟩
/-- a block of bytes, written out -/
theorem lit_bytes (w : World) (cs : Array Value) (l : List Int) (n : Nat) (hcs : cs.toList = yvals l) (hn : l.length = n) (hl : l.length ≤ 1048576) : BytesIn (w.alloc (.cells cs 5)) (.slice (some ⟨w.heap.size, 0, none⟩) n n) l :=
  bytesIn_lit (heap_alloc_new w _) hcs hn hl

set_option maxHeartbeats 1000000 in
theorem begun15_true (w : World) : Calls Try.prog 8 #[] w fun e w' => e = .returned (.bool true) ∧ Fresh w w' := by
  have L1 := hide (lit_bytes w #[.int .u8 1, .int .u8 2, .int .u8 3] [1, 2, 3] 3 rfl rfl (by decide))
  go_enter Try.func8, Try.ntmps8
  go_wp2_with fail
  refine (yput_to _ _ [1, 9, 3] 1 9 true _ L1.out (by decide) (by decide) (by decide +kernel) (by decide +kernel)).mono ?_
  rintro e w1 ⟨u1, rfl, b1, f⟩
  have B1 := hide b1
  have K1 := hide ((fresh_box _ _ _).trans f)
  clear b1 f L1
  go_wp2_with fail
  refine (ymove_to _ _ [1, 1, 9] 0 1 2 true _ B1.out (by decide) (by decide) (by decide) (by decide) (by decide) (by decide) (by decide +kernel) (by decide +kernel)).mono ?_
  rintro e w2 ⟨u2, rfl, b2, f⟩
  have B2 := hide b2
  have C1 := hide (B1.out.fresh f)
  have K2 := hide (K1.out.trans f)
  clear b2 f K1 B1
  go_wp2_with fail
  refine (yzero_to _ _ [0, 9, 3] 0 1 true _ C1.out (by decide) (by decide) (by decide) (by decide) (by decide +kernel) (by decide +kernel)).mono ?_
  rintro e w3 ⟨u3, rfl, b3, f⟩
  obtain ⟨a3, c3, rfl, -, -⟩ := b3.shape
  obtain ⟨g, o, rfl, h0⟩ := b3.cell 0 (by decide)
  have B3 := hide b3
  have D1 := hide (C1.out.fresh f)
  have D2 := hide (B2.out.fresh f)
  have K3 := hide (K2.out.trans f)
  clear b3 f K2 C1 B2
  simp only [Nat.add_zero, List.getD_cons_zero, List.length_cons, List.length_nil] at h0 ⊢
  go_wp2_with fail
  refine (yget_to _ _ 1 9 true _ D1.out (by decide) (by decide) (by decide +kernel) (by decide +kernel)).mono ?_
  rintro e w4 ⟨rfl, rfl⟩
  go_wp2_with fail
  refine (yget_to _ _ 3 0 false _ D1.out (by decide) (by decide) (by decide +kernel) (by decide +kernel)).mono ?_
  rintro e w5 ⟨rfl, rfl⟩
  have s2 := bytes_str D2.out
  have q2 : (strOfNums [1, 1, 9]).toList = [1, 1, 9] := by decide +kernel
  go_wp2
  go_ret
  exact ⟨rfl, K3.out⟩
end Go.Proofs.Ytbbfbelhdjloeaa
