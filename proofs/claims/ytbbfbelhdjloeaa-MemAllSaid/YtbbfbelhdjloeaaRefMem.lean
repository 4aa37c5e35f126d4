/- What the document's own Zero and Move answer (hodmanref8), as contracts. -/
import Derived.Test.YtbbfbelhdjloeaaMemBackM
import Derived.Test.YtbbfbelhdjloeaaByteZeros
namespace Go.Proofs.Ytbbfbelhdjloeaa
open Go.RowKit

theorem there_any (a : Option Addr) (len cap : Nat) (i n : Int) (hl : len ≤ 1048576) (i0 : -9223372036854775808 ≤ i) (i1 : i ≤ 9223372036854775807) (n0 : -9223372036854775808 ≤ n) (n1 : n ≤ 9223372036854775807) (w : World) :
    Calls Try.prog 17 #[.slice a len cap, .int .i64 i, .int .i64 n] w fun e w' => e = .returned (.bool (hasN len i n)) ∧ w' = w := by
  have l0 : (0 : Int) ≤ (len : Int) := by omega
  have l1 : (len : Int) ≤ 1048576 := by omega
  by_cases g1 : 0 ≤ i
  case neg =>
    have e : hasN len i n = false := hasN_not.2 (by omega)
    have g1' : decide (0 ≤ i) = false := decide_eq_false g1
    rw [e]
    clear e g1
    go_enter Try.func17, Try.ntmps17
    go_wp2
    go_ret
    exact ⟨rfl, rfl⟩
  by_cases g2 : 0 ≤ n
  case neg =>
    have e : hasN len i n = false := hasN_not.2 (by omega)
    have g2' : decide (0 ≤ n) = false := decide_eq_false g2
    rw [e]
    clear e g2
    go_enter Try.func17, Try.ntmps17
    go_wp2
    go_ret
    exact ⟨rfl, rfl⟩
  by_cases g3 : i ≤ (len : Int)
  case neg =>
    have e : hasN len i n = false := hasN_not.2 (by omega)
    have g3' : decide (i ≤ (len : Int)) = false := decide_eq_false g3
    rw [e]
    clear e g3
    go_enter Try.func17, Try.ntmps17
    go_wp2
    go_ret
    exact ⟨rfl, rfl⟩
  by_cases g4 : n ≤ (len : Int) - i
  case neg =>
    have e : hasN len i n = false := hasN_not.2 (by omega)
    have g4' : decide (n ≤ (len : Int) - i) = false := decide_eq_false g4
    rw [e]
    clear e g4
    go_enter Try.func17, Try.ntmps17
    go_wp2
    go_ret
    exact ⟨rfl, rfl⟩
  have e : hasN len i n = true := hasN_iff.2 ⟨g1, g3, g2, g4⟩
  rw [e]
  clear e
  go_enter Try.func17, Try.ntmps17
  go_wp2
  go_ret
  exact ⟨rfl, rfl⟩

/-- what is made by appending to an empty slice that is written out -/
theorem grown_empty (w w1 : World) (hg : (w.alloc (.cells #[] 5)).grownBy w1 (some w.heap.size)) : Fresh w w1 := (fresh_box w _ _).grown hg (by simp) fun k hk => by cases hk; exact Nat.le_refl _

set_option maxHeartbeats 1000000 in
theorem rzero_any (v : Value) (l : List Int) (i n : Int) (w : World) (h : BytesIn w v l) (i0 : -9223372036854775808 ≤ i) (i1 : i ≤ 9223372036854775807) (n0 : -9223372036854775808 ≤ n) (n1 : n ≤ 9223372036854775807) :
    Calls Try.prog 10 #[v, .int .i64 i, .int .i64 n] w fun e w' => ∃ u, e = .returned (.tuple #[u, .bool (hasN l.length i n)]) ∧ BytesIn w' u (zeroV l i n) ∧ Fresh w w' := by
  have l1 := h.1
  have H := hide h
  obtain ⟨a, cap, rfl, -, -⟩ := h.shape
  have A := hide (fun w => there_any a l.length cap i n l1 i0 i1 n0 n1 w)
  by_cases g : hasN l.length i n = true
  case neg =>
    have g' : hasN l.length i n = false := by simpa using g
    have e : zeroV l i n = l := by unfold zeroV; rw [if_neg g]
    rw [e, g']
    rw [g'] at A
    clear g e g' h
    go_enter Try.func10, Try.ntmps10
    go_wp2_with fail
    refine (A.out _).mono ?_
    rintro e w2 ⟨rfl, rfl⟩
    go_wp2
    go_ret2
    exact ⟨_, rfl, H.out, Fresh.refl _⟩
  obtain ⟨k0, k1, k2, k3⟩ := hasN_iff.1 g
  obtain ⟨T, rfl⟩ := Int.eq_ofNat_of_zero_le k0
  obtain ⟨M, rfl⟩ := Int.eq_ofNat_of_zero_le k2
  have FI := hide (show T + M ≤ l.length by omega)
  have e : zeroV l T M = layV l T (List.replicate M 0) := zeroV_nat FI.out
  rw [e, g]
  rw [g] at A
  have t1 : (T : Int) ≤ 1048576 := by omega
  have m1 : (M : Int) ≤ 1048576 := by omega
  have H1 := hide (h.fresh (fresh_box w #[] 5))
  clear e g h i0 i1 n0 n1 k1 k3
  go_enter Try.func10, Try.ntmps10
  go_wp2_with fail
  refine (A.out _).mono ?_
  rintro e w2 ⟨rfl, rfl⟩
  go_wp2_with (at_builtin; refine wpList_app_bytes rfl _ _ rfl w2.heap.size (.slice (some ⟨w2.heap.size, 0, none⟩) 0 0) _ [] l rfl (ownY_lit0 _) rfl H1.out (by simp; omega) (by simp) ?_; intro v3 w3 hown hgrow hloc; clear hloc; have O3 := hide hown; have F3 := hide (grown_empty _ _ hgrow); clear hown hgrow)
  rw [List.nil_append] at O3
  obtain ⟨av, cv, rfl⟩ := O3.out.slice
  go_loopw [9] (fun i wr => ∃ j : Nat, j ≤ M ∧ i = .int .i64 (j : Int) ∧ OwnY wr w2.heap.size (.slice av l.length cv) (layV l T ((List.replicate M 0).take j)) ∧ Fresh w2 wr) (fun i _ => (M - intOf i).toNat)
  case atStart => exact ⟨0, Nat.zero_le _, rfl, by rw [List.take_zero, layV_none]; exact O3.out, F3.out⟩
  case round =>
    obtain ⟨j, hj, rfl, ho, hf⟩ := hrel
    have j0 : (0 : Int) ≤ (j : Int) := by omega
    by_cases gj : j < M
    · have gj' : (j : Int) < (M : Int) := by omega
      have GJ := hide (show j + 1 ≤ M by omega)
      obtain ⟨D, hD⟩ : ∃ D, T + j = D := ⟨_, rfl⟩
      have hd : (T : Int) + (j : Int) = (D : Int) := by omega
      have dl : (D : Int) < (l.length : Int) := by have := FI.out; omega
      have d0 : (0 : Int) ≤ (D : Int) := by omega
      have dl' : D < l.length := by omega
      rcases ho.shape with ⟨e, e2⟩ | ⟨g, cap2, e, hb, -, -, -⟩
      · exfalso; have := congrArg List.length e2; rw [layV_length] at this; simp at this; simp [this] at dl'
      rw [layV_length] at e
      cases e
      have FR := ho.free (layV_length _ _ _).symm D
      have CE := ho.cell (layV_length _ _ _).symm D dl'
      have PU := hide (ho.put (layV_length _ _ _).symm D 0)
      have FU := hide (fresh_set hf hb D (.int .u8 0))
      have ST := hide (show (layV l T ((List.replicate M 0).take j)).set D 0 = layV l T ((List.replicate M 0).take (j + 1)) by
        have := layV_step l T (List.replicate M 0) j (by simpa using gj) (by omega)
        rw [hD, show (List.replicate M (0 : Int)).getD j 0 = 0 by simp [List.getD_eq_getElem?_getD, gj]] at this
        exact this)
      generalize (layV l T ((List.replicate M 0).take j)).getD D 0 = old at CE
      clear ho hf hD gj hj hb dl'
      go_wp2
      go_roundw
      case rel => exact ⟨j + 1, GJ.out, by go_num, by rw [← ST.out]; exact PU.out, FU.out⟩
      case measure => simp [intOf]; omega
    · obtain rfl : j = M := by omega
      have Y := hide (show layV l T ((List.replicate j 0).take j) = layV l T (List.replicate j 0) by rw [List.take_of_length_le (by simp)])
      rw [Y.out] at ho
      have O2 := hide (ho.inn (by rw [layV_length]; omega))
      have F2 := hide hf
      clear ho hf
      go_wp2
      go_ret2
      exact ⟨_, rfl, O2.out, F2.out⟩

set_option maxHeartbeats 1000000 in
theorem rmove_any (v : Value) (l : List Int) (x y n : Int) (w : World) (h : BytesIn w v l) (x0 : -9223372036854775808 ≤ x) (x1 : x ≤ 9223372036854775807) (y0 : -9223372036854775808 ≤ y) (y1 : y ≤ 9223372036854775807) (n0 : -9223372036854775808 ≤ n) (n1 : n ≤ 9223372036854775807) :
    Calls Try.prog 12 #[v, .int .i64 x, .int .i64 y, .int .i64 n] w fun e w' => ∃ u, e = .returned (.tuple #[u, .bool (mayMove l.length x y n)]) ∧ BytesIn w' u (moveV l x y n) ∧ Fresh w w' := by
  have l1 := h.1
  have H := hide h
  obtain ⟨a, cap, rfl, -, -⟩ := h.shape
  have A := hide (fun w => there_any a l.length cap x n l1 x0 x1 n0 n1 w)
  have B := hide (fun w => there_any a l.length cap y n l1 y0 y1 n0 n1 w)
  by_cases gx : hasN l.length x n = true
  case neg =>
    have gx' : hasN l.length x n = false := by simpa using gx
    have g' : mayMove l.length x y n = false := by unfold mayMove; rw [gx']; rfl
    have e : moveV l x y n = l := by unfold moveV; rw [g']; rfl
    rw [e, g']
    rw [gx'] at A
    clear gx e g' gx' h
    go_enter Try.func12, Try.ntmps12
    go_wp2_with fail
    refine (A.out _).mono ?_
    rintro e w2 ⟨rfl, rfl⟩
    go_wp2
    go_ret2
    exact ⟨_, rfl, H.out, Fresh.refl _⟩
  rw [gx] at A
  by_cases gy : hasN l.length y n = true
  case neg =>
    have gy' : hasN l.length y n = false := by simpa using gy
    have g' : mayMove l.length x y n = false := by unfold mayMove; rw [gx, gy']; rfl
    have e : moveV l x y n = l := by unfold moveV; rw [g']; rfl
    rw [e, g']
    rw [gy'] at B
    clear gx gy e g' gy' h
    go_enter Try.func12, Try.ntmps12
    go_wp2_with fail
    refine (A.out _).mono ?_
    rintro e w2 ⟨rfl, rfl⟩
    go_wp2_with fail
    refine (B.out _).mono ?_
    rintro e w3 ⟨rfl, rfl⟩
    go_wp2
    go_ret2
    exact ⟨_, rfl, H.out, Fresh.refl _⟩
  rw [gy] at B
  have g' : mayMove l.length x y n = true := by unfold mayMove; rw [gx, gy]; rfl
  obtain ⟨k0, k1, k2, k3⟩ := hasN_iff.1 gx
  obtain ⟨m0, m1, -, m3⟩ := hasN_iff.1 gy
  obtain ⟨X, rfl⟩ := Int.eq_ofNat_of_zero_le k0
  obtain ⟨T, rfl⟩ := Int.eq_ofNat_of_zero_le m0
  obtain ⟨M, rfl⟩ := Int.eq_ofNat_of_zero_le k2
  have FX := hide (show X + M ≤ l.length by omega)
  have FI := hide (show T + M ≤ l.length by omega)
  have e : moveV l X T M = layV l T (partV l X M) := moveV_nat FX.out FI.out
  have PL := hide (partV_length l X M)
  have PG := hide (fun j (hj : j < M) => show (partV l X M).getD j 0 = l.getD (X + j) 0 from partV_get hj)
  rw [e, g']
  have q1 : (X : Int) ≤ 1048576 := by omega
  have q2 : (T : Int) ≤ 1048576 := by omega
  have q3 : (M : Int) ≤ 1048576 := by omega
  have H1 := hide (h.fresh (fresh_box w #[] 5))
  generalize partV l X M = cs at PL PG
  clear e gx gy g' h x0 x1 y0 y1 n0 n1 k1 k3 m1 m3
  go_enter Try.func12, Try.ntmps12
  go_wp2_with fail
  refine (A.out _).mono ?_
  rintro e w2 ⟨rfl, rfl⟩
  go_wp2_with fail
  refine (B.out _).mono ?_
  rintro e w2 ⟨rfl, rfl⟩
  go_wp2_with (at_builtin; refine wpList_app_bytes rfl _ _ rfl w2.heap.size (.slice (some ⟨w2.heap.size, 0, none⟩) 0 0) _ [] l rfl (ownY_lit0 _) rfl H1.out (by simp; omega) (by simp) ?_; intro v3 w3 hown hgrow hloc; clear hloc; have O3 := hide hown; have F3 := hide (grown_empty _ _ hgrow); clear hown hgrow)
  rw [List.nil_append] at O3
  obtain ⟨av, cv, rfl⟩ := O3.out.slice
  go_loopw [11] (fun i wr => ∃ j : Nat, j ≤ M ∧ i = .int .i64 (j : Int) ∧ OwnY wr w2.heap.size (.slice av l.length cv) (layV l T (cs.take j)) ∧ Fresh w2 wr) (fun i _ => (M - intOf i).toNat)
  case atStart => exact ⟨0, Nat.zero_le _, rfl, by rw [List.take_zero, layV_none]; exact O3.out, F3.out⟩
  case round =>
    obtain ⟨j, hj, rfl, ho, hf⟩ := hrel
    have j0 : (0 : Int) ≤ (j : Int) := by omega
    by_cases gj : j < M
    · have gj' : (j : Int) < (M : Int) := by omega
      have GJ := hide (show j + 1 ≤ M by omega)
      obtain ⟨D, hD⟩ : ∃ D, T + j = D := ⟨_, rfl⟩
      obtain ⟨E, hE⟩ : ∃ E, X + j = E := ⟨_, rfl⟩
      have hd : (T : Int) + (j : Int) = (D : Int) := by omega
      have he : (X : Int) + (j : Int) = (E : Int) := by omega
      have dl : (D : Int) < (l.length : Int) := by have := FI.out; omega
      have el : (E : Int) < (l.length : Int) := by have := FX.out; omega
      have d0 : (0 : Int) ≤ (D : Int) := by omega
      have e0 : (0 : Int) ≤ (E : Int) := by omega
      have dl' : D < l.length := by omega
      obtain ⟨b, o, rfl, hc⟩ := (H.out.fresh hf).cell E (by omega)
      rcases ho.shape with ⟨e, e2⟩ | ⟨g, cap2, e, hb, -, -, -⟩
      · exfalso; have := congrArg List.length e2; rw [layV_length] at this; simp at this; simp [this] at dl'
      rw [layV_length] at e
      cases e
      have FR := ho.free (layV_length _ _ _).symm D
      have CE := ho.cell (layV_length _ _ _).symm D dl'
      have pe := PG.out j gj
      rw [hE] at pe
      rw [← pe] at hc
      have PU := hide (ho.put (layV_length _ _ _).symm D (cs.getD j 0))
      have FU := hide (fresh_set hf hb D (.int .u8 (cs.getD j 0)))
      have ST := hide (show (layV l T (cs.take j)).set D (cs.getD j 0) = layV l T (cs.take (j + 1)) by
        have := layV_step l T cs j (by rw [PL.out]; exact gj) (by omega)
        rw [hD] at this
        exact this)
      generalize (layV l T (cs.take j)).getD D 0 = old at CE
      generalize cs.getD j 0 = z at hc PU FU ST
      clear ho hf hD hE gj hj hb dl' pe
      go_wp2
      go_roundw
      case rel => exact ⟨j + 1, GJ.out, by go_num, by rw [← ST.out]; exact PU.out, FU.out⟩
      case measure => simp [intOf]; omega
    · obtain rfl : j = M := by omega
      have Y := hide (show cs.take j = cs from List.take_of_length_le (by rw [PL.out]; exact Nat.le_refl _))
      rw [Y.out] at ho
      have O2 := hide (ho.inn (by rw [layV_length]; omega))
      have F2 := hide hf
      clear ho hf
      go_wp2
      go_ret2
      exact ⟨_, rfl, O2.out, F2.out⟩
end Go.Proofs.Ytbbfbelhdjloeaa
