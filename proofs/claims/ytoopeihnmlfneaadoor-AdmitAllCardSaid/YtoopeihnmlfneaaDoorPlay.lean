/- What hodmanplay makes of numbers (Made, Num, Raw), as contracts: the numbers that are read, and that nothing but the reader's own count turns. -/
import Derived.Test.YtoopeihnmlfneaaDoorHas
import Derived.Test.YtoopeihnmlfneaaDoorPlayNum
import Derived.Test.YtoopeihnmlfneaaDoorOpen
import Derived.Deep.RegionWith
import Derived.Handy
import Derived.Deep.CutRange
namespace Go.Proofs.YtoopeihnmlfneaaDoor
open Go.RowKit

/-- what is asked for, of numbers from the j-th on -/
def rawG (zs : List Int) (j : Nat) : Int := 1 + pk zs j 9
def rawOf (zs : List Int) (j : Nat) (budget : Bool) : Rw := ⟨rawG zs j, rawG zs j * (1 + pk zs (j + 1) 12), 1 + pk zs (j + 2) 150, 1 + pk zs (j + 3) 30, if budget then 5000 else 1 + pk zs (j + 5) 20, pk zs (j + 4) 200⟩

set_option maxRecDepth 100000 in
set_option maxHeartbeats 1000000 in
theorem raw_any (b : Nat) (zs : List Int) (j : Nat) (bud : Bool) (w : World) (h : PicksAt w b zs (min j zs.length)) :
    Calls Tryd.prog 16 #[.pointer (some ⟨b, 0, none⟩), .bool bud] w fun e w' => e = .returned (rawOf zs j bud).val ∧ PicksAt w' b zs (min (j + 6) zs.length) ∧ Else b w w' := by
  have hbw := hide (World.block_lt_of_cell? _ _ h.pos)
  have i0 := pk_in zs j 9 (by decide)
  have i1 := pk_in zs (j + 1) 12 (by decide)
  have i2 := pk_in zs (j + 2) 150 (by decide)
  have i3 := pk_in zs (j + 3) 30 (by decide)
  have i4 := pk_in zs (j + 4) 200 (by decide)
  have i5 := pk_in zs (j + 5) 20 (by decide)
  have hprod : wrap64 ((1 + pk zs j 9) * (1 + pk zs (j + 1) 12)) = (1 + pk zs j 9) * (1 + pk zs (j + 1) 12) := by
    have m1 := Int.mul_le_mul (show 1 + pk zs j 9 ≤ 9 by omega) (show 1 + pk zs (j + 1) 12 ≤ 12 by omega) (by omega) (by decide)
    have m2 := Int.mul_nonneg (show 0 ≤ 1 + pk zs j 9 by omega) (show 0 ≤ 1 + pk zs (j + 1) 12 by omega)
    generalize (1 + pk zs j 9) * (1 + pk zs (j + 1) 12) = y at *
    unfold wrap64; omega
  have hR := hide (show rawOf zs j bud = ⟨1 + pk zs j 9, (1 + pk zs j 9) * (1 + pk zs (j + 1) 12), 1 + pk zs (j + 2) 150, 1 + pk zs (j + 3) 30, if bud then 5000 else 1 + pk zs (j + 5) 20, pk zs (j + 4) 200⟩ from rfl)
  have P0 := hide h
  clear h
  have e0 : ∀ o, w.alloc o = (w.alloc o).drewN 0 := fun _ => rfl
  have E := hide e0
  clear e0
  go_enter Tryd.func16, Tryd.ntmps16
  go_wp2_with fail
  rw [E.out]
  refine (num_in b zs j 9 w _ _ _ P0.out (by decide) (by decide)).mono ?_
  rintro e w' ⟨rfl, u1, n1, rfl, P1, E1, s1⟩
  have P1 := hide P1; have E1 := hide E1
  go_wp2_with fail
  refine (num_in b zs (j + 1) 12 u1 _ _ _ P1.out (by decide) (by decide)).mono ?_
  rintro e w' ⟨rfl, u2, n2, rfl, P2, E2, s2⟩
  have P2 := hide P2; have E2 := hide (E1.out.trans E2)
  rw [s1] at s2
  go_wp2_with fail
  refine (num_in b zs (j + 2) 150 u2 _ _ _ P2.out (by decide) (by decide)).mono ?_
  rintro e w' ⟨rfl, u3, n3, rfl, P3, E3, s3⟩
  have P3 := hide P3; have E3 := hide (E2.out.trans E3)
  rw [s2] at s3
  go_wp2_with fail
  refine (num_in b zs (j + 3) 30 u3 _ _ _ P3.out (by decide) (by decide)).mono ?_
  rintro e w' ⟨rfl, u4, n4, rfl, P4, E4, s4⟩
  have P4 := hide P4; have E4 := hide (E3.out.trans E4)
  rw [s3] at s4
  go_wp2_with fail
  refine (num_in b zs (j + 4) 200 u4 _ _ _ P4.out (by decide) (by decide)).mono ?_
  rintro e w' ⟨rfl, u5, n5, rfl, P5, E5, s5⟩
  have P5 := hide P5; have E5 := hide (E4.out.trans E5)
  rw [s4] at s5
  go_wp2_with fail
  refine (num_in b zs (j + 5) 20 u5 _ _ _ P5.out (by decide) (by decide)).mono ?_
  rintro e w' ⟨rfl, u6, n6, rfl, P6, E6, s6⟩
  have P6 := hide P6; have E6 := hide (E5.out.trans E6)
  rw [s5] at s6
  have hsz : u6.heap.size = w.heap.size := s6
  have hsz' := hide hsz
  clear P0 P1 P2 P3 P4 P5 E1 E2 E3 E4 E5 s1 s2 s3 s4 s5 s6 E
  generalize (1 + pk zs j 9) * (1 + pk zs (j + 1) 12) = y at *
  clear i0 i1 i2 i3 i4 hprod
  generalize 1 + pk zs j 9 = q0 at *
  generalize 1 + pk zs (j + 1) 12 = q1 at *
  generalize 1 + pk zs (j + 2) 150 = q2 at *
  generalize 1 + pk zs (j + 3) 30 = q3 at *
  generalize pk zs (j + 4) 200 = q4 at *
  generalize pk zs j 9 = p0 at *
  generalize pk zs (j + 1) 12 = p1 at *
  generalize pk zs (j + 2) 150 = p2 at *
  generalize pk zs (j + 3) 30 = p3 at *
  generalize pk zs (j + 5) 20 = p5 at *
  have hd1 : ∀ (w : World) n o, (w.drewN n).alloc o = (w.alloc o).drewN n := fun _ _ _ => rfl
  have hd2 : ∀ (w : World) n a v, (w.drewN n).setCell a v = (w.setCell a v).drewN n := fun _ _ _ _ => rfl
  have FIN := hide (show ∀ (o1 o2 : Array Value) m, PicksAt (((u6.alloc (.cells o1 28)).alloc (.cells o2 28)).drewN m) b zs (min (j + 6) zs.length) ∧ Else b w (((u6.alloc (.cells o1 28)).alloc (.cells o2 28)).drewN m) from fun o1 o2 m =>
    ⟨(P6.out.kept (((Kept.refl u6).alloc _ _).alloc _ _)).drewN m, ((E6.out.alloc _ _).alloc _ _).drewN m⟩)
  cases bud
  · go_wp2
    rw [← hsz'.out]
    go_returns
    rw [hR.out]
    exact ⟨rfl, FIN.out _ _ _⟩
  · go_wp2
    rw [← hsz'.out]
    go_returns
    rw [hR.out]
    exact ⟨rfl, FIN.out _ _ _⟩
end Go.Proofs.YtoopeihnmlfneaaDoor
