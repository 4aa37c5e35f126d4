/- What the program's package mem answers: Move. As a contract. -/
import Derived.Test.YtbbfbelhdjloeaaMemA
import Derived.Test.YtbbfbelhdjloeaaByteCopy
namespace Go.Proofs.Ytbbfbelhdjloeaa
open Go.RowKit

set_option maxHeartbeats 400000 in
theorem move_any (v : Value) (l : List Int) (x y n : Int) (w : World) (h : BytesIn w v l) (x0 : -9223372036854775808 ≤ x) (x1 : x ≤ 9223372036854775807) (y0 : -9223372036854775808 ≤ y) (y1 : y ≤ 9223372036854775807) (n0 : -9223372036854775808 ≤ n) (n1 : n ≤ 9223372036854775807) :
    Calls Try.prog 11 #[v, .int .i64 x, .int .i64 y, .int .i64 n] w fun e w' => ∃ u, e = .returned (.tuple #[u, .bool (mayMove l.length x y n)]) ∧ OwnY w' w.heap.size u (moveV l x y n) ∧ Fresh w w' := by
  have l1 := h.1
  have H := hide h
  obtain ⟨a, cap, rfl, hlc, hcm⟩ := h.shape
  have C := hide (copied_any _ l w h)
  have A := hide (fun w => hasAll_any a l.length cap x n l1 x0 x1 n0 n1 w)
  have B := hide (fun w => hasAll_any a l.length cap y n l1 y0 y1 n0 n1 w)
  by_cases gx : hasN l.length x n = true
  case neg =>
    have gx' : hasN l.length x n = false := by simpa using gx
    have g' : mayMove l.length x y n = false := by unfold mayMove; rw [gx']; rfl
    have e : moveV l x y n = l := by unfold moveV; rw [g']; rfl
    rw [e, g']
    rw [gx'] at A
    clear gx e g' gx' h hlc hcm
    go_enter Try.func11, Try.ntmps11
    go_wp2_with fail
    refine (C.out).mono ?_
    rintro e w1 ⟨u, rfl, o, f⟩
    have O := hide o
    have F := hide f
    clear o f
    go_wp2_with fail
    refine (A.out _).mono ?_
    rintro e w2 ⟨rfl, rfl⟩
    go_wp2
    go_ret2
    exact ⟨_, rfl, O.out, F.out⟩
  rw [gx] at A
  by_cases gy : hasN l.length y n = true
  case neg =>
    have gy' : hasN l.length y n = false := by simpa using gy
    have g' : mayMove l.length x y n = false := by unfold mayMove; rw [gx, gy']; rfl
    have e : moveV l x y n = l := by unfold moveV; rw [g']; rfl
    rw [e, g']
    rw [gy'] at B
    clear gx gy e g' gy' h hlc hcm
    go_enter Try.func11, Try.ntmps11
    go_wp2_with fail
    refine (C.out).mono ?_
    rintro e w1 ⟨u, rfl, o, f⟩
    have O := hide o
    have F := hide f
    clear o f
    go_wp2_with fail
    refine (A.out _).mono ?_
    rintro e w2 ⟨rfl, rfl⟩
    go_wp2_with fail
    refine (B.out _).mono ?_
    rintro e w3 ⟨rfl, rfl⟩
    go_wp2
    go_ret2
    exact ⟨_, rfl, O.out, F.out⟩
  rw [gy] at B
  have g' : mayMove l.length x y n = true := by unfold mayMove; rw [gx, gy]; rfl
  have e : moveV l x y n = layV l y.toNat (partV l x.toNat n.toNat) := by unfold moveV; rw [g']; rfl
  rw [e, g']
  obtain ⟨k0, k1, k2, k3⟩ := hasN_iff.1 gx
  obtain ⟨m0, m1, -, m3⟩ := hasN_iff.1 gy
  obtain ⟨X, rfl⟩ := Int.eq_ofNat_of_zero_le k0
  obtain ⟨Y, rfl⟩ := Int.eq_ofNat_of_zero_le m0
  obtain ⟨M, rfl⟩ := Int.eq_ofNat_of_zero_le k2
  simp only [Int.toNat_natCast]
  have FX := hide (show X + M ≤ l.length by omega)
  have FY := hide (show Y + M ≤ l.length by omega)
  have PL := hide (partV_length l X M)
  by_cases gm : M = 0
  · subst gm
    have P0 := hide (show layV l Y (partV l X 0) = l from by rw [show partV l X 0 = [] from List.eq_nil_of_length_eq_zero (partV_length _ _ _), layV_none])
    rw [P0.out]
    have s1 : IntKind.i64.wrap (X : Int) = (X : Int) := by rw [IntKind.wrap_i64]; omega
    have s2 : IntKind.i64.wrap (Y : Int) = (Y : Int) := by rw [IntKind.wrap_i64]; omega
    clear gx gy e g' h P0 PL FX FY
    go_enter Try.func11, Try.ntmps11
    go_wp2_with fail
    refine (C.out).mono ?_
    rintro e w1 ⟨u, rfl, o, f⟩
    obtain ⟨au, cu, rfl⟩ := o.slice
    have cm : l.length ≤ cu ∧ cu ≤ 9223372036854775807 := by
      rcases o.shape with ⟨e, e2⟩ | ⟨g, c, e, -, -, q1, q2⟩
      · simp only [Value.slice.injEq] at e
        rw [e.2.2, e2]; simp
      · cases e; unfold maxLen at q2; exact ⟨q1, by omega⟩
    obtain ⟨cm0, cm1⟩ := cm
    have O := hide o
    have F := hide f
    clear o f
    go_wp2_with fail
    refine (A.out _).mono ?_
    rintro e w2 ⟨rfl, rfl⟩
    go_wp2_with fail
    refine (B.out _).mono ?_
    rintro e w3 ⟨rfl, rfl⟩
    go_wp2_with fail
    have xc : X ≤ cap := by omega
    have yc : Y ≤ cu := by omega
    go_region_law (rw [if_pos (by rfl)]; simp only [List.getElem_toArray, List.getElem_cons_succ, List.getElem_cons_zero, Act.put, List.setIfInBounds_toArray, List.set_cons_succ, List.set_cons_zero]; refine step_copy_nothing _ _ rfl _ _ _ _ _ _ rfl rfl (by omega) (by omega) ?_)
    all_goals go_wp2
    all_goals
      go_ret2
      refine ⟨_, rfl, ?_, F.out.trans (Fresh.refl _).drew⟩
      have O5 := O.out.fresh (Fresh.refl w3).drew
      first | exact O5 | (rw [show cu = Y by assumption] at O5; exact O5)
  · have ge : partV l X M ≠ [] := fun e => gm (by rw [← partV_length l X M, e]; rfl)
    obtain ⟨E, he⟩ : ∃ E, X + M = E := ⟨_, rfl⟩
    obtain ⟨D, hd⟩ : ∃ D, Y + M = D := ⟨_, rfl⟩
    have s1 : IntKind.i64.wrap ((X : Int) + (M : Int)) = (E : Int) := by rw [IntKind.wrap_i64]; omega
    have s2 : IntKind.i64.wrap ((Y : Int) + (M : Int)) = (D : Int) := by rw [IntKind.wrap_i64]; omega
    have HE := hide he
    have HD := hide hd
    have xe : X ≤ E := by omega
    have yd : Y ≤ D := by omega
    have ec : E ≤ cap := by omega
    obtain ⟨b, f, rfl, -⟩ := h.cell 0 (by omega)
    have HC := hide (show ∀ w1, Fresh w w1 → ∀ i, i < M → w1.cell? ⟨b, f + X + i, none⟩ = some (.int .u8 ((partV l X M).getD i 0)) from fun w1 hf i hi => by
      obtain ⟨b', f', e, hc⟩ := (h.fresh hf).cell (X + i) (by omega)
      cases e
      rw [partV_get hi, Nat.add_assoc]
      exact hc)
    have gc : ¬ cap = X := by omega
    generalize hq : partV l X M = cs at PL HC
    clear gx gy e g' h hq ge he hd
    go_enter Try.func11, Try.ntmps11
    go_wp2_with fail
    refine (C.out).mono ?_
    rintro e w1 ⟨u, rfl, o, f1⟩
    rcases o.shape with ⟨e, e2⟩ | ⟨g, cu, rfl, hb, -, q1, q2⟩
    · exact absurd FX.out (by rw [e2]; simp; omega)
    have gd : ¬ cu = Y := by omega
    have dc : D ≤ cu := by have := HD.out; omega
    unfold maxLen at q2
    have O := hide o
    have F := hide f1
    have HB := hide hb
    clear o f1 hb
    go_wp2_with fail
    refine (A.out _).mono ?_
    rintro e w2 ⟨rfl, rfl⟩
    go_wp2_with fail
    refine (B.out _).mono ?_
    rintro e w3 ⟨rfl, rfl⟩
    go_wp2_with fail
    go_region_law (rw [if_pos (by rfl)]; simp only [List.getElem_toArray, List.getElem_cons_succ, List.getElem_cons_zero, Act.put, List.setIfInBounds_toArray, List.set_cons_succ, List.set_cons_zero]; refine step_copy_bytes _ _ rfl _ _ _ _ M _ _ rfl rfl (by have := HD.out; omega) (by have := HE.out; omega) g Y w.heap.size l.length cu l cs PL.out (O.out.fresh (Fresh.refl _).drew) rfl (fun _ => ⟨rfl, b, f + X, rfl, HC.out _ (F.out.trans (Fresh.refl _).drew)⟩) FY.out w (F.out.trans (Fresh.refl _).drew) HB.out ?_; intro w4 h4 f4; have O4 := hide h4; have F4 := hide f4; clear h4 f4)
    all_goals
      go_wp2
      go_ret2
      exact ⟨_, rfl, O4.out, F4.out⟩
end Go.Proofs.Ytbbfbelhdjloeaa
