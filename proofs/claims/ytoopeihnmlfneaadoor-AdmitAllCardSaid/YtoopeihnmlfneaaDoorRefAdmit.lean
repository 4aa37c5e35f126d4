/- What the document's own answers to admit are (hodmanref1's New, Many, Anew), as contracts. -/
import Derived.Test.YtoopeihnmlfneaaDoorRefClass
import Derived.Test.YtoopeihnmlfneaaDoorAdmitMath
namespace Go.Proofs.YtoopeihnmlfneaaDoor
open Go.RowKit

theorem rnew_any (c : Cf) (live s a : Int) (w : World) (hg1 : 1 ≤ c.g) (hg : c.g ≤ 65536) (hn : c.n ≤ 65536) (m0 : 0 ≤ c.m) (m1 : c.m ≤ 4611686018427387904) (ha : -9223372036854775808 ≤ a) (ha' : a ≤ 9223372036854775807) :
    Calls Tryd.prog 10 #[c.val, .int .i64 live, .int .i64 s, .int .i64 a] w fun e w' => e = .returned (.tuple #[.int .i64 (adV c.g c.n c.m live s a), .int .i64 (adE c.g c.n c.m live s a)]) ∧ Kept w w' := by
  have RC := hide (fun w => rcharge_any c s a w hg1 hg hn ha ha')
  have R := hide (fun h => ch_range hg1 hg hn (show chE c.n s a = 0 from h))
  have KK := hide (show ∀ o1 o2, Kept w ((w.alloc (.cells o1 26)).alloc (.cells o2 26)) from fun o1 o2 => ((Kept.refl w).alloc _ _).alloc _ _)
  have AC := ad_cases c.g c.n c.m live s a
  obtain ⟨cg, cn, cm, cl, cp, cb, ch, cs⟩ := c
  dsimp only at *
  show Calls Tryd.prog 10 #[.agg #[.int .i64 cg, .int .i64 cn, .int .i64 cm, .int .i64 cl, .int .i64 cp, .int .i64 cb, .int .i64 ch, .int .i64 cs], .int .i64 live, .int .i64 s, .int .i64 a] w _
  rcases AC with ⟨h, e1, e2⟩ | ⟨h, h2, e1, e2⟩ | ⟨h, h2, e1, e2⟩
  · rw [e1, e2]
    clear e1 e2 R
    generalize chV cg cn s a = V at *
    generalize chE cn s a = E at *
    have hb : (E == 0) = false := by rw [beq_eq_false_iff_ne]; exact h
    clear h
    go_enter Tryd.func10, Tryd.ntmps10
    go_wp2_with fail
    refine (RC.out _).mono ?_
    rintro e w' ⟨rfl, rfl⟩
    go_wp2
    go_ret2
    exact ⟨rfl, KK.out _ _⟩
  · have r := R.out h
    rw [e1, e2]
    rw [h] at RC
    clear e1 e2 R h
    generalize chV cg cn s a = V at *
    have h3 : cm - V < live := by omega
    clear h2
    go_enter Tryd.func10, Tryd.ntmps10
    go_wp2_with fail
    refine (RC.out _).mono ?_
    rintro e w' ⟨rfl, rfl⟩
    go_wp2
    go_ret2
    exact ⟨rfl, KK.out _ _⟩
  · have r := R.out h
    rw [e1, e2]
    rw [h] at RC
    clear e1 e2 R h
    generalize chV cg cn s a = V at *
    have h3 : live ≤ cm - V := by omega
    clear h2
    go_enter Tryd.func10, Tryd.ntmps10
    go_wp2_with fail
    refine (RC.out _).mono ?_
    rintro e w' ⟨rfl, rfl⟩
    go_wp2
    go_ret2
    exact ⟨rfl, KK.out _ _⟩

theorem rmany_any (c : Cf) (live x s : Int) (w : World) (hg1 : 1 ≤ c.g) (hg : c.g ≤ 65536) (hn : c.n ≤ 65536) (m0 : 0 ≤ c.m) (m1 : c.m ≤ 4611686018427387904) (hx : -9223372036854775808 ≤ x) (hx' : x ≤ 9223372036854775807) (hs : -9223372036854775808 ≤ s) (hs' : s ≤ 9223372036854775807) :
    Calls Tryd.prog 12 #[c.val, .int .i64 live, .int .i64 x, .int .i64 s] w fun e w' => e = .returned (.tuple #[.int .i64 (maV c.g c.n c.m live x s), .int .i64 (maE c.g c.n c.m live x s)]) ∧ Kept w w' := by
  have RP := hide (fun w => rproduct_any c x s w hx hx' hs hs')
  have RN := hide (fun w v => rnew_any c live v 1 w hg1 hg hn m0 m1 (by decide) (by decide))
  have YES := hide (fun h => ma_yes (g := c.g) (n := c.n) (m := c.m) (live := live) (x := x) (s := s) h)
  have NO := hide (fun h => ma_no (g := c.g) (n := c.n) (m := c.m) (live := live) (x := x) (s := s) h)
  have PV := hide (show prE c.n x s = 0 → prV c.n x s = x * s from fun h => by unfold prV; rw [if_pos h])
  have KK := hide (show ∀ o1 o2, Kept w ((w.alloc (.cells o1 26)).alloc (.cells o2 26)) from fun o1 o2 => ((Kept.refl w).alloc _ _).alloc _ _)
  obtain ⟨cg, cn, cm, cl, cp, cb, ch, cs⟩ := c
  dsimp only at *
  show Calls Tryd.prog 12 #[.agg #[.int .i64 cg, .int .i64 cn, .int .i64 cm, .int .i64 cl, .int .i64 cp, .int .i64 cb, .int .i64 ch, .int .i64 cs], .int .i64 live, .int .i64 x, .int .i64 s] w _
  by_cases h : prE cn x s = 0
  · have e := YES.out h
    have pv := PV.out h
    rw [e.1, e.2]
    rw [h, pv] at RP
    have RQ := hide (fun w => RN.out w (x * s))
    clear e pv h YES NO PV RN
    generalize x * s = v at *
    generalize adV cg cn cm live v 1 = A at *
    generalize adE cg cn cm live v 1 = B at *
    go_enter Tryd.func12, Tryd.ntmps12
    go_wp2_with fail
    refine (RP.out _).mono ?_
    rintro e w' ⟨rfl, rfl⟩
    go_wp2_with fail
    refine (RQ.out _).mono ?_
    rintro e w' ⟨rfl, k⟩
    have K := hide ((KK.out _ _).trans k)
    clear k
    go_wp2
    first | go_ret2 | go_returns
    exact ⟨rfl, K.out⟩
  · have e := NO.out h
    rw [e.1, e.2]
    clear e YES NO PV RN
    generalize prV cn x s = V at *
    generalize prE cn x s = E at *
    have hb : (E == 0) = false := by rw [beq_eq_false_iff_ne]; exact h
    clear h
    go_enter Tryd.func12, Tryd.ntmps12
    go_wp2_with fail
    refine (RP.out _).mono ?_
    rintro e w' ⟨rfl, rfl⟩
    go_wp2
    go_ret2
    exact ⟨rfl, KK.out _ _⟩

theorem ranew_any (c : Cf) (live old s : Int) (w : World) (hg1 : 1 ≤ c.g) (hg : c.g ≤ 65536) (hn : c.n ≤ 65536) (m0 : 0 ≤ c.m) (m1 : c.m ≤ 4611686018427387904) (l0 : old ≤ live) (l1 : live ≤ 4611686018427387904) (o0 : 0 ≤ old) :
    Calls Tryd.prog 14 #[c.val, .int .i64 live, .int .i64 old, .int .i64 s] w fun e w' => e = .returned (.tuple #[.int .i64 (adV c.g c.n c.m (live - old) s 1), .int .i64 (adE c.g c.n c.m (live - old) s 1)]) ∧ Kept w w' := by
  have RQ := hide (fun w => rnew_any c (live - old) s 1 w hg1 hg hn m0 m1 (by decide) (by decide))
  have KK := hide (show ∀ o1, Kept w (w.alloc (.cells o1 26)) from fun o1 => (Kept.refl w).alloc _ _)
  obtain ⟨cg, cn, cm, cl, cp, cb, ch, cs⟩ := c
  dsimp only at *
  show Calls Tryd.prog 14 #[.agg #[.int .i64 cg, .int .i64 cn, .int .i64 cm, .int .i64 cl, .int .i64 cp, .int .i64 cb, .int .i64 ch, .int .i64 cs], .int .i64 live, .int .i64 old, .int .i64 s] w _
  generalize adV cg cn cm (live - old) s 1 = A at *
  generalize adE cg cn cm (live - old) s 1 = B at *
  go_enter Tryd.func14, Tryd.ntmps14
  go_wp2_with fail
  refine (RQ.out _).mono ?_
  rintro e w' ⟨rfl, k⟩
  have K := hide ((KK.out _).trans k)
  clear k
  go_wp2
  first | go_ret2 | go_returns
  exact ⟨rfl, K.out⟩
end Go.Proofs.YtoopeihnmlfneaaDoor
