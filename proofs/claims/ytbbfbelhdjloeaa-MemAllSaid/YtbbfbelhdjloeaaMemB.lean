/- What the program's package mem answers: Put and Zero. As contracts. -/
import Derived.Test.YtbbfbelhdjloeaaMemA
import Derived.Test.YtbbfbelhdjloeaaByteCopy
namespace Go.Proofs.Ytbbfbelhdjloeaa
open Go.RowKit

/-- a slice of a slice: where it begins -/
def cutA (g t cap : Nat) : Option Addr := if cap = t then some ⟨g, 0, none⟩ else some ⟨g, t, none⟩
theorem cutA_of {g t cap : Nat} (h : cap ≠ t) : cutA g t cap = some ⟨g, t, none⟩ := if_neg h

theorem put_any (v : Value) (l : List Int) (i z : Int) (w : World) (h : BytesIn w v l) (i0 : -9223372036854775808 ≤ i) (i1 : i ≤ 9223372036854775807) :
    Calls Try.prog 14 #[v, .int .i64 i, .int .u8 z] w fun e w' => ∃ u, e = .returned (.tuple #[u, .bool (hasY l.length i)]) ∧ OwnY w' w.heap.size u (putV l i z) ∧ Fresh w w' := by
  have l1 := h.1
  have H := hide h
  obtain ⟨a, cap, rfl, -, -⟩ := h.shape
  have C := hide (copied_any _ l w h)
  have A := hide (fun w => has_any a l.length cap i l1 i0 i1 w)
  clear h
  by_cases g : hasY l.length i = true
  · have e : putV l i z = l.set i.toNat z := by unfold putV; rw [if_pos g]
    rw [e, g]
    rw [g] at A
    unfold hasY at g
    obtain ⟨k0, k1⟩ := of_decide_eq_true g
    obtain ⟨k, rfl⟩ := Int.eq_ofNat_of_zero_le k0
    rw [Int.toNat_natCast]
    have kl : k < l.length := by omega
    clear e g
    go_enter Try.func14, Try.ntmps14
    go_wp2_with fail
    refine (C.out).mono ?_
    rintro e w1 ⟨u, rfl, o, f⟩
    rcases o.shape with ⟨rfl, rfl⟩ | ⟨g, cap1, rfl, hb, -, -, -⟩
    · simp at kl
    have FR := o.free rfl k
    have CE := o.cell rfl k kl
    have PU := hide (o.put rfl k z)
    have FU := hide (fresh_set f hb k (.int .u8 z))
    generalize l.getD k 0 = old at CE
    clear o f hb kl
    go_wp2_with fail
    refine (A.out _).mono ?_
    rintro e w2 ⟨rfl, rfl⟩
    go_wp2
    go_ret2
    exact ⟨_, rfl, PU.out, FU.out⟩
  · have g' : hasY l.length i = false := by simpa using g
    have e : putV l i z = l := by unfold putV; rw [if_neg g]
    rw [e, g']
    rw [g'] at A
    clear g e g'
    go_enter Try.func14, Try.ntmps14
    go_wp2_with fail
    refine (C.out).mono ?_
    rintro e w1 ⟨u, rfl, o, f⟩
    have O := hide o
    have F := hide f
    clear o f
    go_wp2_with fail
    refine (A.out _).mono ?_
    rintro e w2 ⟨rfl, rfl⟩
    go_wp2
    go_ret2
    exact ⟨_, rfl, O.out, F.out⟩

theorem zero_any (v : Value) (l : List Int) (i n : Int) (w : World) (h : BytesIn w v l) (i0 : -9223372036854775808 ≤ i) (i1 : i ≤ 9223372036854775807) (n0 : -9223372036854775808 ≤ n) (n1 : n ≤ 9223372036854775807) :
    Calls Try.prog 9 #[v, .int .i64 i, .int .i64 n] w fun e w' => ∃ u, e = .returned (.tuple #[u, .bool (hasN l.length i n)]) ∧ OwnY w' w.heap.size u (zeroV l i n) ∧ Fresh w w' := by
  have l1 := h.1
  have H := hide h
  obtain ⟨a, cap, rfl, -, -⟩ := h.shape
  have C := hide (copied_any _ l w h)
  have A := hide (fun w => hasAll_any a l.length cap i n l1 i0 i1 n0 n1 w)
  clear h
  by_cases g : hasN l.length i n = true
  · have e : zeroV l i n = layV l i.toNat (List.replicate n.toNat 0) := by unfold zeroV; rw [if_pos g]
    rw [e, g]
    rw [g] at A
    obtain ⟨k0, k1, k2, k3⟩ := hasN_iff.1 g
    obtain ⟨T, rfl⟩ := Int.eq_ofNat_of_zero_le k0
    obtain ⟨M, rfl⟩ := Int.eq_ofNat_of_zero_le k2
    rw [Int.toNat_natCast, Int.toNat_natCast]
    have FI := hide (show T + M ≤ l.length by omega)
    have s1 : wrap64 ((T : Int) + (M : Int)) = ((T + M : Nat) : Int) := by unfold wrap64; omega
    clear e g
    go_enter Try.func9, Try.ntmps9
    go_wp2_with fail
    refine (C.out).mono ?_
    rintro e w1 ⟨u, rfl, o, f⟩
    go_wp2_with fail
    refine (A.out _).mono ?_
    rintro e w2 ⟨rfl, rfl⟩
    rcases o.shape with ⟨rfl, rfl⟩ | ⟨g, cap1, rfl, hb, -, hc, hcm⟩
    · have O := hide o
      have F := hide f
      obtain rfl : T = 0 := by have := FI.out; simp at this; omega
      obtain rfl : M = 0 := by have := FI.out; simp at this; omega
      clear o f s1 i0 i1 k0 k1 n0 n1 k2 k3 FI
      go_wp2_with (refine wpList_clear_nothing rfl _ rfl _ _ rfl ?_)
      go_ret2
      exact ⟨_, rfl, O.out, F.out⟩
    have O := hide o
    have F := hide f
    have HB := hide hb
    clear o f hb
    unfold maxLen at hcm
    by_cases gc : cap1 = T
    · subst gc
      obtain rfl : M = 0 := by have := FI.out; omega
      clear FI
      simp only [Nat.add_zero] at s1
      go_wp2_with (refine wpList_clear_nothing rfl _ rfl _ _ rfl ?_)
      go_ret2
      exact ⟨_, rfl, by simp only [List.replicate_zero, layV_none]; exact O.out, F.out⟩
    · go_wp2_with (refine wpList_clear_bytes rfl _ rfl _ _ M _ rfl (by omega) g T w.heap.size l.length cap1 l O.out rfl (fun _ => rfl) FI.out w F.out HB.out ?_; intro w3 h3 f3; have O3 := hide h3; have F3 := hide f3; clear h3 f3)
      go_ret2
      exact ⟨_, rfl, O3.out, F3.out⟩
  · have g' : hasN l.length i n = false := by simpa using g
    have e : zeroV l i n = l := by unfold zeroV; rw [if_neg g]
    rw [e, g']
    rw [g'] at A
    clear g e g'
    go_enter Try.func9, Try.ntmps9
    go_wp2_with fail
    refine (C.out).mono ?_
    rintro e w1 ⟨u, rfl, o, f⟩
    have O := hide o
    have F := hide f
    clear o f
    go_wp2_with fail
    refine (A.out _).mono ?_
    rintro e w2 ⟨rfl, rfl⟩
    go_wp2
    go_ret2
    exact ⟨_, rfl, O.out, F.out⟩
end Go.Proofs.Ytbbfbelhdjloeaa
