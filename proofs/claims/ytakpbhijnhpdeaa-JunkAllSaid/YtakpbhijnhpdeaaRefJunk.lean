/- What the document's own Byte and Fill answer (hodmanref8), as contracts. -/
import Derived.Test.YtakpbhijnhpdeaaJunk
namespace Go.Proofs.Ytakpbhijnhpdeaa
open Go.RowKit

theorem rbyte_any (s p i : Int) (w : World) (s0 : 0 ≤ s) (s1 : s ≤ 9223372036854775807) (p0 : 0 ≤ p) (p1 : p ≤ 9223372036854775807) (i0 : 0 ≤ i) (i1 : i ≤ 9223372036854775807) :
    Calls Try.prog 10 #[.int .i64 s, .int .i64 p, .int .i64 i] w fun e w' => e = .returned (.int .u8 (byteV s p i)) ∧ w' = w := by
  go_enter Try.func10, Try.ntmps10
  go_wp2
  go_ret
  exact ⟨ret_int (by unfold byteV; omega), rfl⟩

/-- an empty slice that is made -/
theorem ownY_empty (w : World) : OwnY (w.alloc (.cells #[] 5)) w.heap.size (.slice (some ⟨w.heap.size, 0, none⟩) 0 0) [] := World.ownsRow_lit w #[] 0 (Nat.le_refl _) (Nat.zero_le _) rfl

set_option maxHeartbeats 1000000 in
theorem rfill_any (v : Value) (l : List Int) (s p n : Int) (w : World) (h : BytesIn w v l) (s0 : 0 ≤ s) (s1 : s ≤ 9223372036854775807) (p0 : -9223372036854775808 ≤ p) (p1 : p ≤ 9223372036854775807) (n0 : -9223372036854775808 ≤ n) (n1 : n ≤ 9223372036854775807) :
    Calls Try.prog 8 #[v, .int .i64 s, .int .i64 p, .int .i64 n] w fun e w' => ∃ u, e = .returned u ∧ OwnY w' w.heap.size u (fillV l s p n) ∧ Fresh w w' := by
  have O0 := hide (ownY_empty w)
  have H := hide (h.fresh (fresh_box w #[] 5))
  have L := hide h.1
  have l0 : (0 : Int) ≤ (l.length : Int) := by omega
  have l1 : (l.length : Int) ≤ 1048576 := by have := h.1; omega
  have FN := hide (show ∀ w1, (w.alloc (.cells #[] 5)).grownBy w1 (some w.heap.size) → Fresh w w1 from fun w1 hg => (fresh_box w _ _).grown hg (by simp) fun k hk => by cases hk; exact Nat.le_refl _)
  have HBS := hide (show w.heap.size ≤ (w.alloc (.cells #[] 5)).heap.size by simp)
  clear h
  by_cases g1 : p < 0
  · have N := hide (fillV_not (l := l) (s := s) (p := p) (n := n) fun i _ h => by have := h.1; omega)
    go_enter Try.func8, Try.ntmps8
    go_wp2_with (at_builtin; refine wpList_app_bytes rfl _ _ rfl w.heap.size (.slice (some ⟨w.heap.size, 0, none⟩) 0 0) _ [] l rfl O0.out rfl H.out (by have := L.out; simp; omega) HBS.out ?_; intro v1 w1 hown hgrow hloc; clear hloc)
    have O := hide hown
    have F := hide (FN.out _ hgrow)
    clear hown hgrow
    go_wp2
    go_ret
    exact ⟨_, rfl, by rw [N.out]; exact O.out, F.out⟩
  by_cases g2 : n < 0
  · have N := hide (fillV_not (l := l) (s := s) (p := p) (n := n) fun i _ h => by have := h.2.1; omega)
    go_enter Try.func8, Try.ntmps8
    go_wp2_with (at_builtin; refine wpList_app_bytes rfl _ _ rfl w.heap.size (.slice (some ⟨w.heap.size, 0, none⟩) 0 0) _ [] l rfl O0.out rfl H.out (by have := L.out; simp; omega) HBS.out ?_; intro v1 w1 hown hgrow hloc; clear hloc)
    have O := hide hown
    have F := hide (FN.out _ hgrow)
    clear hown hgrow
    go_wp2
    go_ret
    exact ⟨_, rfl, by rw [N.out]; exact O.out, F.out⟩
  go_enter Try.func8, Try.ntmps8
  go_wp2_with (at_builtin; refine wpList_app_bytes rfl _ _ rfl w.heap.size (.slice (some ⟨w.heap.size, 0, none⟩) 0 0) _ [] l rfl O0.out rfl H.out (by have := L.out; simp; omega) HBS.out ?_; intro v1 w1 hown hgrow hloc; clear hloc)
  rw [List.nil_append] at hown
  obtain ⟨ao, co, rfl⟩ := hown.slice
  have O := hide hown
  have F := hide (FN.out _ hgrow)
  clear hown hgrow O0 H FN HBS
  go_wp2
  go_loopw [10] (fun i wr => ∃ k : Nat, k ≤ l.length ∧ i = .int .i64 (k : Int) ∧ OwnY wr w.heap.size (.slice ao l.length co) (fillD l s p n k) ∧ Fresh w wr) (fun i _ => (l.length - intOf i).toNat)
  case atStart => exact ⟨0, Nat.zero_le _, rfl, by rw [fillD_none]; exact O.out, F.out⟩
  case round =>
    obtain ⟨k, hk, rfl, ho, hf⟩ := hrel
    have k0 : (0 : Int) ≤ (k : Int) := by omega
    by_cases gk : k < l.length
    · have gk' : (k : Int) < (l.length : Int) := by omega
      have GK := hide (show k + 1 ≤ l.length by omega)
      by_cases gn : n = 0
      · subst gn
        have NX := hide (fillD_no (l := l) (s := s) (p := p) (n := 0) (k := k) fun h => by have := h.2.1; omega)
        have O2 := hide ho
        have F2 := hide hf
        clear ho hf gk hk
        go_wp2
        go_roundw
        case rel => exact ⟨k + 1, GK.out, by go_num, by rw [← NX.out]; exact O2.out, F2.out⟩
        case measure => simp [intOf]; omega
      · have gn' : 0 < n := by omega
        have n3 : n ≠ -1 := by omega
        obtain ⟨q, hq⟩ : ∃ q, (k : Int) / n = q := ⟨_, rfl⟩
        have hd : wrap64 ((k : Int) / n) = q := by
          have := Int.ediv_le_self n k0
          have := Int.ediv_nonneg k0 (show 0 ≤ n by omega)
          rw [hq] at *
          unfold wrap64; omega
        by_cases gq : q = p
        · have IN := hide (show inPage p n k from ⟨by omega, by omega, by rw [hq, gq]⟩)
          obtain ⟨r, hr⟩ : ∃ r, (k : Int) % n = r := ⟨_, rfl⟩
          have r0 : 0 ≤ r := by rw [← hr]; exact Int.emod_nonneg _ (by omega)
          have r1 : r ≤ 9223372036854775807 := by
            have := Int.emod_lt_of_pos (k : Int) gn'
            omega
          have NX := hide (fillD_yes (l := l) (s := s) IN.out)
          rw [hr] at NX
          rcases ho.shape with ⟨e, e2⟩ | ⟨g, cap, e, hb, -, -, -⟩
          · exfalso; have := congrArg List.length e2; rw [fillD_length] at this; simp at this; simp [this] at gk
          rw [fillD_length] at e
          cases e
          have FR := ho.free (fillD_length _ _ _ _ _).symm k
          have CE := ho.cell (fillD_length _ _ _ _ _).symm k gk
          have PU := hide (ho.put (fillD_length _ _ _ _ _).symm k (byteV s p r))
          have FU := hide (fresh_set hf hb k (.int .u8 (byteV s p r)))
          generalize (fillD l s p n k).getD k 0 = old at CE
          clear ho hf gk hk hq hb IN
          subst gq
          go_wp2_with fail
          simp only [hr]
          refine (rbyte_any s q r _ s0 s1 (by omega) p1 r0 (by omega)).mono ?_
          rintro e w2 ⟨rfl, rfl⟩
          go_wp2
          go_roundw
          case rel => exact ⟨k + 1, GK.out, by go_num, by rw [← NX.out]; exact PU.out, FU.out⟩
          case measure => simp [intOf]; omega
        · have NX := hide (fillD_no (l := l) (s := s) (p := p) (n := n) (k := k) fun h => gq (by rw [← hq]; exact h.2.2))
          have gq' : (q == p) = false := by rw [beq_eq_false_iff_ne]; exact gq
          have O2 := hide ho
          have F2 := hide hf
          clear ho hf gk hk hq gq
          go_wp2
          go_roundw
          case rel => exact ⟨k + 1, GK.out, by go_num, by rw [← NX.out]; exact O2.out, F2.out⟩
          case measure => simp [intOf]; omega
    · obtain rfl : k = l.length := by omega
      have AL := hide (fillD_all l s p n _ (Nat.le_refl _))
      have O2 := hide ho
      have F2 := hide hf
      clear ho hf
      go_wp2
      go_ret
      exact ⟨_, rfl, by rw [← AL.out]; exact O2.out, F2.out⟩
end Go.Proofs.Ytakpbhijnhpdeaa
