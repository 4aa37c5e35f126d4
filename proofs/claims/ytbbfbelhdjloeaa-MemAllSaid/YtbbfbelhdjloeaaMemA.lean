/- What the program's package mem answers: is there a byte, are there so many, Get; a copy in new memory. As contracts. -/
import Derived.Test.YtbbfbelhdjloeaaByteIn
import Derived.Test.YtbbfbelhdjloeaaByteLay
import Derived.Test.YtbbfbelhdjloeaaIntMem
namespace Go.Proofs.Ytbbfbelhdjloeaa
open Go.RowKit

theorem u64_pos {i : Int} (h0 : 0 ≤ i) (h1 : i ≤ 9223372036854775807) : IntKind.u64.wrap i = i := by rw [IntKind.wrap_u64]; omega
theorem u64_neg {i : Int} (h0 : i < 0) (h1 : -9223372036854775808 ≤ i) : 4611686018427387904 ≤ IntKind.u64.wrap i := by rw [IntKind.wrap_u64]; omega
theorem has_spelt {len : Nat} {i : Int} (hl : len ≤ 1048576) (i0 : -9223372036854775808 ≤ i) (i1 : i ≤ 9223372036854775807) : decide (IntKind.u64.wrap i < (len : Int)) = hasY len i := by
  unfold hasY
  refine decide_eq_decide.2 ?_
  by_cases h : 0 ≤ i
  · rw [u64_pos h i1]; omega
  · have := u64_neg (show i < 0 by omega) i0
    omega
theorem hasN_far {len : Nat} {i n : Int} (i0 : -9223372036854775808 ≤ i) (i1 : i ≤ 9223372036854775807) (h : (len : Int) < IntKind.u64.wrap i) : hasN len i n = false := by
  refine hasN_not.2 ?_
  by_cases g : 0 ≤ i
  · rw [u64_pos g i1] at h; omega
  · omega
theorem hasN_near {len : Nat} {i n : Int} (hl : len ≤ 1048576) (i0 : -9223372036854775808 ≤ i) (i1 : i ≤ 9223372036854775807) (n0 : -9223372036854775808 ≤ n) (n1 : n ≤ 9223372036854775807) (h : IntKind.u64.wrap i ≤ (len : Int)) :
    decide (IntKind.u64.wrap n ≤ IntKind.u64.wrap (wrap64 ((len : Int) - i))) = hasN len i n := by
  have g : 0 ≤ i := by
    rcases Int.lt_or_le i 0 with g | g
    · have := u64_neg g i0; omega
    · exact g
  rw [u64_pos g i1] at h
  have e : wrap64 ((len : Int) - i) = (len : Int) - i := by unfold wrap64; omega
  rw [e, u64_pos (show 0 ≤ (len : Int) - i by omega) (by omega)]
  unfold hasN
  refine decide_eq_decide.2 ?_
  by_cases k : 0 ≤ n
  · rw [u64_pos k n1]; omega
  · have := u64_neg (show n < 0 by omega) n0
    omega

theorem has_any (a : Option Addr) (len cap : Nat) (i : Int) (hl : len ≤ 1048576) (i0 : -9223372036854775808 ≤ i) (i1 : i ≤ 9223372036854775807) (w : World) :
    Calls Try.prog 18 #[.slice a len cap, .int .i64 i] w fun e w' => e = .returned (.bool (hasY len i)) ∧ w' = w := by
  have l0 : (0 : Int) ≤ (len : Int) := by omega
  have l1 : (len : Int) ≤ 1048576 := by omega
  go_enter Try.func18, Try.ntmps18
  go_wp2
  go_ret
  exact ⟨retB (has_spelt hl i0 i1), rfl⟩

theorem hasAll_any (a : Option Addr) (len cap : Nat) (i n : Int) (hl : len ≤ 1048576) (i0 : -9223372036854775808 ≤ i) (i1 : i ≤ 9223372036854775807) (n0 : -9223372036854775808 ≤ n) (n1 : n ≤ 9223372036854775807) (w : World) :
    Calls Try.prog 16 #[.slice a len cap, .int .i64 i, .int .i64 n] w fun e w' => e = .returned (.bool (hasN len i n)) ∧ w' = w := by
  have l0 : (0 : Int) ≤ (len : Int) := by omega
  have l1 : (len : Int) ≤ 1048576 := by omega
  by_cases h : IntKind.u64.wrap i ≤ (len : Int)
  · go_enter Try.func16, Try.ntmps16
    go_wp2
    go_ret
    exact ⟨retB (hasN_near hl i0 i1 n0 n1 h), rfl⟩
  · have h' : (len : Int) < IntKind.u64.wrap i := by omega
    clear h
    go_enter Try.func16, Try.ntmps16
    go_wp2
    go_ret
    exact ⟨retB (hasN_far i0 i1 h').symm, rfl⟩

/-- a row that was made anew, of a slice that was nil -/
theorem grown_nil {w w1 : World} (h : w.grownBy w1 (Value.slice none 0 0).ownBlock) : Fresh w w1 := (Fresh.refl w).grown h (Nat.le_refl _) fun k hk => by cases hk

theorem copied_any (v : Value) (l : List Int) (w : World) (h : BytesIn w v l) : Calls Try.prog 15 #[v] w fun e w' => ∃ u, e = .returned u ∧ OwnY w' w.heap.size u l ∧ Fresh w w' := by
  have H := hide h
  have L := hide h.1
  clear h
  go_enter Try.func15, Try.ntmps15
  go_wp2_with (at_builtin; refine wpList_app_bytes rfl _ _ rfl w.heap.size _ _ [] l rfl (OwnY.nil _ _) rfl H.out (by have := L.out; simp; omega) (Nat.le_refl _) ?_; intro v1 w1 hown hgrow hloc; clear hloc)
  have O := hide hown
  have F := hide (grown_nil hgrow)
  clear hown hgrow
  go_ret
  exact ⟨_, rfl, O.out, F.out⟩

theorem get_any (v : Value) (l : List Int) (i : Int) (w : World) (h : BytesIn w v l) (i0 : -9223372036854775808 ≤ i) (i1 : i ≤ 9223372036854775807) :
    Calls Try.prog 13 #[v, .int .i64 i] w fun e w' => e = .returned (.tuple #[.int .u8 (getV l i), .bool (hasY l.length i)]) ∧ w' = w := by
  have l1 := h.1
  obtain ⟨a, cap, rfl, -, -⟩ := h.shape
  by_cases g : hasY l.length i = true
  · have e : getV l i = l.getD i.toNat 0 := by unfold getV; rw [if_pos g]
    rw [e, g]
    have H := hide (has_any a l.length cap i l1 i0 i1 w)
    rw [g] at H
    unfold hasY at g
    obtain ⟨k0, k1⟩ := of_decide_eq_true g
    obtain ⟨k, rfl⟩ := Int.eq_ofNat_of_zero_le k0
    obtain ⟨b, o, rfl, hc⟩ := h.cell k (by omega)
    rw [Int.toNat_natCast]
    generalize l.getD k 0 = y at hc
    clear g h e
    go_enter Try.func13, Try.ntmps13
    go_wp2_with fail
    refine (H.out).mono ?_
    rintro e w' ⟨rfl, rfl⟩
    go_wp2
    go_ret2
    exact ⟨rfl, rfl⟩
  · have g' : hasY l.length i = false := by simpa using g
    have e : getV l i = 0 := by unfold getV; rw [if_neg g]
    rw [e, g']
    have H := hide (has_any a l.length cap i l1 i0 i1 w)
    rw [g'] at H
    clear g h e g'
    go_enter Try.func13, Try.ntmps13
    go_wp2_with fail
    refine (H.out).mono ?_
    rintro e w' ⟨rfl, rfl⟩
    go_wp2
    go_ret2
    exact ⟨rfl, rfl⟩
end Go.Proofs.Ytbbfbelhdjloeaa
