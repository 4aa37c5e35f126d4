/- What the program's package junk answers (Byte, Fill), as contracts. -/
import Derived.Test.YtakpbhijnhpdeaaJunkMath
import Derived.Test.YtakpbhijnhpdeaaByteIn
import Derived.Test.YtakpbhijnhpdeaaIntMem
namespace Go.Proofs.Ytakpbhijnhpdeaa
open Go.RowKit

theorem byte_any (s p i : Int) (w : World) : Calls Try.prog 9 #[.int .i64 s, .int .i64 p, .int .i64 i] w fun e w' => e = .returned (.int .u8 (byteV s p i)) ∧ w' = w := by
  go_enter Try.func9, Try.ntmps9
  go_wp2
  go_ret
  exact ⟨ret_int (by unfold byteV; omega), rfl⟩

/-- a row that was made anew, of a slice that was nil -/
theorem grown_new {w w1 : World} (h : w.grownBy w1 (Value.slice none 0 0).ownBlock) : Fresh w w1 := (Fresh.refl w).grown h (Nat.le_refl _) fun k hk => by cases hk

set_option maxHeartbeats 1000000 in
theorem fill_any (v : Value) (l : List Int) (s p n : Int) (w : World) (h : BytesIn w v l) (p0 : -9223372036854775808 ≤ p) (p1 : p ≤ 9223372036854775807) (n0 : -9223372036854775808 ≤ n) (n1 : n ≤ 9223372036854775807) :
    Calls Try.prog 7 #[v, .int .i64 s, .int .i64 p, .int .i64 n] w fun e w' => ∃ u, e = .returned u ∧ OwnY w' w.heap.size u (fillV l s p n) ∧ Fresh w w' := by
  have H := hide h
  have L := hide h.1
  have l0 : (0 : Int) ≤ (l.length : Int) := by omega
  have l1 : (l.length : Int) ≤ 1048576 := by have := h.1; omega
  clear h
  by_cases g1 : p < 0
  · have N := hide (fillV_not (l := l) (s := s) (p := p) (n := n) fun i _ h => by have := h.1; omega)
    go_enter Try.func7, Try.ntmps7
    go_wp2_with (at_builtin; refine wpList_app_bytes rfl _ _ rfl w.heap.size _ _ [] l rfl (OwnY.nil _ _) rfl H.out (by have := L.out; simp; omega) (Nat.le_refl _) ?_; intro v1 w1 hown hgrow hloc; clear hloc)
    have O := hide hown
    have F := hide (grown_new hgrow)
    clear hown hgrow
    go_wp2
    go_ret
    exact ⟨_, rfl, by rw [N.out]; exact O.out, F.out⟩
  by_cases g2 : n < 1
  · have N := hide (fillV_not (l := l) (s := s) (p := p) (n := n) fun i _ h => by have := h.2.1; omega)
    go_enter Try.func7, Try.ntmps7
    go_wp2_with (at_builtin; refine wpList_app_bytes rfl _ _ rfl w.heap.size _ _ [] l rfl (OwnY.nil _ _) rfl H.out (by have := L.out; simp; omega) (Nat.le_refl _) ?_; intro v1 w1 hown hgrow hloc; clear hloc)
    have O := hide hown
    have F := hide (grown_new hgrow)
    clear hown hgrow
    go_wp2
    go_ret
    exact ⟨_, rfl, by rw [N.out]; exact O.out, F.out⟩
  obtain ⟨q, hq⟩ : ∃ q, (l.length : Int) / n = q := ⟨_, rfl⟩
  have hd : wrap64 ((l.length : Int) / n) = q := by
    have := Int.ediv_le_self n l0
    have := Int.ediv_nonneg l0 (show 0 ≤ n by omega)
    rw [hq] at *
    unfold wrap64; omega
  have n2 : n ≠ 0 := by omega
  have n3 : n ≠ -1 := by omega
  by_cases g3 : q < p
  · have N := hide (fillV_not (l := l) (s := s) (p := p) (n := n) fun i hi h => by
      have h2 := h.2.2
      have := Int.ediv_le_ediv (show 0 < n by omega) (show (i : Int) ≤ (l.length : Int) by omega)
      rw [hq] at this
      omega)
    clear hq
    go_enter Try.func7, Try.ntmps7
    go_wp2_with (at_builtin; refine wpList_app_bytes rfl _ _ rfl w.heap.size _ _ [] l rfl (OwnY.nil _ _) rfl H.out (by have := L.out; simp; omega) (Nat.le_refl _) ?_; intro v1 w1 hown hgrow hloc; clear hloc)
    rw [List.nil_append] at hown
    obtain ⟨ao, co, rfl⟩ := hown.slice
    have O := hide hown
    have F := hide (grown_new hgrow)
    clear hown hgrow
    go_wp2
    go_simp
    go_wp2
    go_ret
    exact ⟨_, rfl, by rw [N.out]; exact O.out, F.out⟩
  obtain ⟨P, rfl⟩ := Int.eq_ofNat_of_zero_le (show 0 ≤ p by omega)
  obtain ⟨N, rfl⟩ := Int.eq_ofNat_of_zero_le (show 0 ≤ n by omega)
  have hPN : P * N ≤ l.length := by
    have h1 : P ≤ l.length / N := by
      have : ((l.length / N : Nat) : Int) = (l.length : Int) / (N : Int) := Int.natCast_ediv _ _
      rw [hq] at this
      omega
    exact (Nat.le_div_iff_mul_le (by omega)).1 h1
  obtain ⟨T, hT⟩ : ∃ T, P * N = T := ⟨_, rfl⟩
  have hm : (P : Int) * (N : Int) = (T : Int) := by rw [← hT]; simp
  rw [hT] at hPN
  have t0 : (0 : Int) ≤ (T : Int) := by omega
  have t1 : (T : Int) ≤ (l.length : Int) := by omega
  have FA := hide (fun k => fillK_all l s P N k (by omega))
  rw [hT] at FA
  have TL := hide hPN
  have NN := hide (show 1 ≤ N by omega)
  have gd : decide (q < (P : Int)) = false := decide_eq_false g3
  clear hq
  go_enter Try.func7, Try.ntmps7
  go_wp2_with (at_builtin; refine wpList_app_bytes rfl _ _ rfl w.heap.size _ _ [] l rfl (OwnY.nil _ _) rfl H.out (by have := L.out; simp; omega) (Nat.le_refl _) ?_; intro v1 w1 hown hgrow hloc; clear hloc)
  rw [List.nil_append] at hown
  have F := hide (grown_new hgrow)
  rcases hown.shape with ⟨rfl, rfl⟩ | ⟨g, cap, rfl, hb, -, hc, hcm⟩
  · have O := hide hown
    obtain rfl : T = 0 := by have := TL.out; simp at this; omega
    obtain rfl : P = 0 := by
      have := NN.out
      rcases Nat.mul_eq_zero.1 hT with h | h
      · exact h
      · omega
    have FN := hide (FA.out 0 (by omega) (.inr (by simp)))
    rw [fillK_none] at FN
    have n9 : (0 : Int) ≤ (N : Int) := by omega
    have hM : min (N : Int) 0 = 0 := by omega
    clear hown hgrow hm hT FA TL
    go_wp2
    go_simp
    go_wp2
    go_loopw [38] (fun i wr => i = .int .i64 0 ∧ wr = w1) (fun _ _ => 0)
    case atStart => exact ⟨rfl, rfl⟩
    case round =>
      obtain ⟨rfl, rfl⟩ := hrel
      go_wp2
      go_ret
      exact ⟨_, rfl, by rw [← FN.out]; exact O.out, F.out⟩
  · have O := hide hown
    have HB := hide hb
    have tc : T ≤ cap := by omega
    have cm : cap ≤ 9223372036854775807 := by unfold maxLen at hcm; omega
    obtain ⟨A, hA⟩ : ∃ A, (if cap = T then (some ⟨g, 0, none⟩ : Option Addr) else some ⟨g, T, none⟩) = A := ⟨_, rfl⟩
    have AI := hide (show cap ≠ T → A = some ⟨g, T, none⟩ from fun h => by rw [← hA, if_neg h])
    obtain ⟨M, hM⟩ : ∃ M : Nat, min (N : Int) ((l.length - T : Nat) : Int) = (M : Int) := ⟨min N (l.length - T), by omega⟩
    have FN := hide (FA.out M (by omega) (by omega))
    have ML := hide (show T + M ≤ l.length by omega)
    have CL := hide hc
    have m0 : (0 : Int) ≤ (M : Int) := by omega
    have m1 : (M : Int) ≤ 1048576 := by omega
    clear hown hgrow hb hT FA TL NN
    go_wp2
    go_simp
    go_wp2
    simp only [hd]
    go_loopw [38] (fun i wr => ∃ k : Nat, k ≤ M ∧ i = .int .i64 (k : Int) ∧ OwnY wr w.heap.size (.slice (some ⟨g, 0, none⟩) l.length cap) (fillK l s P T k) ∧ Fresh w wr) (fun i _ => (M - intOf i).toNat)
    case atStart => exact ⟨0, Nat.zero_le _, rfl, by rw [fillK_none]; exact O.out, F.out⟩
    case round =>
      obtain ⟨k, hk, rfl, ho, hf⟩ := hrel
      have k0 : (0 : Int) ≤ (k : Int) := by omega
      by_cases gk : k < M
      · have gk' : (k : Int) < (M : Int) := by omega
        have hcT : cap ≠ T := by have := ML.out; have := CL.out; omega
        have hA' := AI.out hcT
        subst hA'
        have kl : (k : Int) < ((l.length - T : Nat) : Int) := by have := ML.out; omega
        have FR := ho.free (fillK_length _ _ _ _ _).symm (T + k)
        have CE := ho.cell (fillK_length _ _ _ _ _).symm (T + k) (by have := ML.out; omega)
        have PU := hide (ho.put (fillK_length _ _ _ _ _).symm (T + k) (byteV s P k))
        have FU := hide (fresh_set hf HB.out (T + k) (.int .u8 (byteV s P k)))
        have ST := hide (fillK_step l s P T k)
        have GK := hide (show k + 1 ≤ M by omega)
        generalize (fillK l s P T k).getD (T + k) 0 = old at CE
        clear ho hf hA gk hk
        go_wp2_with fail
        refine (byte_any s P k _).mono ?_
        rintro e w2 ⟨rfl, rfl⟩
        go_wp2
        go_roundw
        case rel => exact ⟨k + 1, GK.out, by go_num, by rw [← ST.out]; exact PU.out, FU.out⟩
        case measure => simp [intOf]; omega
      · obtain rfl : k = M := by omega
        have O2 := hide ho
        have F2 := hide hf
        clear ho hf
        go_wp2
        go_ret
        exact ⟨_, rfl, by rw [← FN.out]; exact O2.out, F2.out⟩
end Go.Proofs.Ytakpbhijnhpdeaa
