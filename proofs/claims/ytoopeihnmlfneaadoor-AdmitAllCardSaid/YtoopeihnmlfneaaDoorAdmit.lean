/- What the program's package admit answers (New, Many, Anew): all that is asked of it. -/
import Derived.Test.YtoopeihnmlfneaaDoorAdmitLaw
import Derived.Test.YtoopeihnmlfneaaDoorClass
namespace Go.Proofs.YtoopeihnmlfneaaDoor
open Go.RowKit

theorem and_low32 (n : Int) : bits .and .i64 n 4294967295 = n % 4294967296 := by
  have h : (BitVec.ofInt 64 4294967295).toNat = 2 ^ 32 - 1 := by decide
  have key : (BitVec.ofInt 64 n &&& BitVec.ofInt 64 4294967295).toNat = (n % ((2 ^ 64 : Nat) : Int)).toNat % 2 ^ 32 := by
    rw [BitVec.toNat_and, BitVec.toNat_ofInt, h, Nat.and_two_pow_sub_one_eq_mod]
  show IntKind.i64.wrap ((BitVec.ofInt 64 n &&& BitVec.ofInt 64 4294967295).toNat : Nat) = n % 4294967296
  rw [key, IntKind.wrap_i64]
  omega
theorem lower_any (v : Int) (w : World) : Calls Tryd.prog 32 #[.int .i64 v] w fun e w' => e = .returned (.int .i64 (v % 4294967296)) ∧ w' = w := by
  have hb := and_low32 v
  go_enter Tryd.func32, Tryd.ntmps32
  go_wp2
  go_ret
  exact ⟨rfl, rfl⟩
theorem lower_to (v r : Int) (hr : v % 4294967296 = r) (w : World) : Calls Tryd.prog 32 #[.int .i64 v] w fun e w' => e = .returned (.int .i64 r) ∧ w' = w := hr ▸ lower_any v w
set_option maxHeartbeats 1000000 in
theorem above_any (live old charge most : Int) (w : World) (l0 : -9223372036854775808 ≤ live) (l1 : live ≤ 9223372036854775807) (o0 : -9223372036854775808 ≤ old) (o1 : old ≤ 9223372036854775807) (c0 : -9223372036854775808 ≤ charge) (c1 : charge ≤ 9223372036854775807) (m0 : -9223372036854775808 ≤ most) (m1 : most ≤ 9223372036854775807) :
    Calls Tryd.prog 26 #[.int .i64 live, .int .i64 old, .int .i64 charge, .int .i64 most] w fun e w' => e = .returned (.bool (decide (most < live - old + charge))) ∧ w' = w := by
  obtain ⟨a, ha⟩ : ∃ a, a = live % 4294967296 := ⟨_, rfl⟩
  obtain ⟨b, hb⟩ : ∃ b, b = old % 4294967296 := ⟨_, rfl⟩
  obtain ⟨c, hc⟩ : ∃ c, c = charge % 4294967296 := ⟨_, rfl⟩
  obtain ⟨d, hd⟩ : ∃ d, d = most % 4294967296 := ⟨_, rfl⟩
  obtain ⟨A, hA⟩ : ∃ A, A = live / 4294967296 := ⟨_, rfl⟩
  obtain ⟨B, hB⟩ : ∃ B, B = old / 4294967296 := ⟨_, rfl⟩
  obtain ⟨C, hC⟩ : ∃ C, C = charge / 4294967296 := ⟨_, rfl⟩
  obtain ⟨D, hD⟩ : ∃ D, D = most / 4294967296 := ⟨_, rfl⟩
  obtain ⟨x, hx⟩ : ∃ x, x = a - b + c - d := ⟨_, rfl⟩
  obtain ⟨y, hy⟩ : ∃ y, y = x % 4294967296 := ⟨_, rfl⟩
  obtain ⟨z, hz⟩ : ∃ z, z = x / 4294967296 := ⟨_, rfl⟩
  have la := hide (fun w => lower_to live a ha.symm w)
  have lb := hide (fun w => lower_to old b hb.symm w)
  have lc := hide (fun w => lower_to charge c hc.symm w)
  have ld := hide (fun w => lower_to most d hd.symm w)
  have lx := hide (fun w => lower_to x y hy.symm w)
  have key : decide (most < live - old + charge) = (decide (0 < A - B + C - D + z) || (decide (A - B + C - D + z = 0) && decide (0 < y))) := by
    by_cases h1 : 0 < A - B + C - D + z
    · rw [decide_eq_true h1, Bool.true_or]; exact decide_eq_true (by omega)
    · rw [decide_eq_false h1, Bool.false_or]
      by_cases h2 : A - B + C - D + z = 0
      · rw [decide_eq_true h2, Bool.true_and]
        by_cases h3 : 0 < y
        · rw [decide_eq_true h3]; exact decide_eq_true (by omega)
        · rw [decide_eq_false h3]; exact decide_eq_false (by omega)
      · rw [decide_eq_false h2, Bool.false_and]; exact decide_eq_false (by omega)
  have a0 : 0 ≤ a ∧ a < 4294967296 := by omega
  have b0 : 0 ≤ b ∧ b < 4294967296 := by omega
  have c2 : 0 ≤ c ∧ c < 4294967296 := by omega
  have d0 : 0 ≤ d ∧ d < 4294967296 := by omega
  have A0 : -2147483648 ≤ A ∧ A < 2147483648 := by omega
  have B0 : -2147483648 ≤ B ∧ B < 2147483648 := by omega
  have C0 : -2147483648 ≤ C ∧ C < 2147483648 := by omega
  have D0 : -2147483648 ≤ D ∧ D < 2147483648 := by omega
  have z0 : -3 ≤ z ∧ z < 3 := by omega
  have hx' := hx.symm
  have hz' := hz.symm
  have hA' := hA.symm
  have hB' := hB.symm
  have hC' := hC.symm
  have hD' := hD.symm
  rw [key]
  obtain ⟨U, hU⟩ : ∃ U, A - B + C - D + z = U := ⟨_, rfl⟩
  rw [hU]
  clear key ha hb hc hd hA hB hC hD hx hy hz
  rcases Int.lt_trichotomy 0 U with h | h | h
  · have n0 : decide (U = 0) = false := decide_eq_false (by omega)
    have n1 : decide (0 < U) = true := decide_eq_true h
    have n2 : (U == 0) = false := by rw [beq_eq_false_iff_ne]; omega
    rw [n1, Bool.true_or]
    go_enter Tryd.func26, Tryd.ntmps26
    go_wp2_with fail
    refine (la.out _).mono ?_
    rintro e w' ⟨rfl, rfl⟩
    go_wp2_with fail
    refine (lb.out _).mono ?_
    rintro e w' ⟨rfl, rfl⟩
    go_wp2_with fail
    refine (lc.out _).mono ?_
    rintro e w' ⟨rfl, rfl⟩
    go_wp2_with fail
    refine (ld.out _).mono ?_
    rintro e w' ⟨rfl, rfl⟩
    go_wp2
    go_ret
    exact ⟨rfl, rfl⟩
  · obtain rfl := h
    rw [show decide ((0 : Int) < 0) = false by decide, show decide ((0 : Int) = 0) = true by decide, Bool.false_or, Bool.true_and]
    go_enter Tryd.func26, Tryd.ntmps26
    go_wp2_with fail
    refine (la.out _).mono ?_
    rintro e w' ⟨rfl, rfl⟩
    go_wp2_with fail
    refine (lb.out _).mono ?_
    rintro e w' ⟨rfl, rfl⟩
    go_wp2_with fail
    refine (lc.out _).mono ?_
    rintro e w' ⟨rfl, rfl⟩
    go_wp2_with fail
    refine (ld.out _).mono ?_
    rintro e w' ⟨rfl, rfl⟩
    go_wp2_with fail
    refine (lx.out _).mono ?_
    rintro e w' ⟨rfl, rfl⟩
    go_wp2
    go_ret
    exact ⟨rfl, rfl⟩
  · have n0 : decide (U = 0) = false := decide_eq_false (by omega)
    have n1 : decide (0 < U) = false := decide_eq_false (by omega)
    have n2 : (U == 0) = false := by rw [beq_eq_false_iff_ne]; omega
    rw [n1, n0, Bool.false_or, Bool.false_and]
    go_enter Tryd.func26, Tryd.ntmps26
    go_wp2_with fail
    refine (la.out _).mono ?_
    rintro e w' ⟨rfl, rfl⟩
    go_wp2_with fail
    refine (lb.out _).mono ?_
    rintro e w' ⟨rfl, rfl⟩
    go_wp2_with fail
    refine (lc.out _).mono ?_
    rintro e w' ⟨rfl, rfl⟩
    go_wp2_with fail
    refine (ld.out _).mono ?_
    rintro e w' ⟨rfl, rfl⟩
    go_wp2
    go_ret
    exact ⟨rfl, rfl⟩

set_option maxHeartbeats 1000000 in
theorem let_any (c : Cf) (live old s a : Int) (w : World) (g1 : 1 ≤ c.g) (gn : c.g ≤ c.n) (hn : c.n ≤ 65536) (m0 : 0 ≤ c.m) (m1 : c.m ≤ 4611686018427387904) (l0 : -9223372036854775808 ≤ live) (l1 : live ≤ 9223372036854775807) (o0 : -9223372036854775808 ≤ old) (o1 : old ≤ 9223372036854775807) (ha : -9223372036854775808 ≤ a) (ha' : a ≤ 9223372036854775807) (hT : Tab w) :
    Calls Tryd.prog 17 #[c.val, .int .i64 live, .int .i64 old, .int .i64 s, .int .i64 a] w fun e w' => e = .returned (.tuple #[.int .i64 (adV c.g c.n c.m (live - old) s a), .int .i64 (adE c.g c.n c.m (live - old) s a)]) ∧ Kept w w' := by
  have g2 : c.g ≤ 65536 := by omega
  have TT := hide (show ∀ o1, Tab (w.alloc (.cells o1 26)) from fun o1 => hT.kept ((Kept.refl w).alloc _ _))
  have RC := hide (fun w hT => charge_any c s a w g1 g2 hn ha ha' hT)
  have R := hide (fun h => ch_range g1 g2 hn (show chE c.n s a = 0 from h))
  have KK := hide (show ∀ o1 o2, Kept w ((w.alloc (.cells o1 26)).alloc (.cells o2 26)) from fun o1 o2 => ((Kept.refl w).alloc _ _).alloc _ _)
  have K0 := hide (show ∀ o1 o2, Kept w ((w.alloc (.cells o1 26)).alloc (.cells o2 26)) from fun o1 o2 => ((Kept.refl w).alloc _ _).alloc _ _)
  have AC := ad_cases c.g c.n c.m (live - old) s a
  obtain ⟨cg, cn, cm, cl, cp, cb, ch, cs⟩ := c
  dsimp only at *
  show Calls Tryd.prog 17 #[.agg #[.int .i64 cg, .int .i64 cn, .int .i64 cm, .int .i64 cl, .int .i64 cp, .int .i64 cb, .int .i64 ch, .int .i64 cs], .int .i64 live, .int .i64 old, .int .i64 s, .int .i64 a] w _
  by_cases h : chE cn s a = 0
  · have r := R.out h
    rw [h] at RC
    generalize hV : chV cg cn s a = V at *
    have AB := hide (fun w => above_any live old V cm w l0 l1 o0 o1 (by omega) (by omega) (by omega) (by omega))
    rcases AC with ⟨h', e1, e2⟩ | ⟨_, h2, e1, e2⟩ | ⟨_, h2, e1, e2⟩
    · exact absurd h h'
    · rw [e1, e2]
      rw [decide_eq_true (show cm < live - old + V from h2)] at AB
      clear e1 e2 R h h2 hV
      go_enter Tryd.func17, Tryd.ntmps17
      go_wp2_with fail
      refine (RC.out _ (TT.out _)).mono ?_
      rintro e w' ⟨rfl, rfl⟩
      go_wp2_with fail
      refine (AB.out _).mono ?_
      rintro e w' ⟨rfl, rfl⟩
      go_wp2
      go_ret2
      exact ⟨rfl, KK.out _ _⟩
    · rw [e1, e2]
      rw [decide_eq_false (show ¬ cm < live - old + V by omega)] at AB
      clear e1 e2 R h h2 hV
      go_enter Tryd.func17, Tryd.ntmps17
      go_wp2_with fail
      refine (RC.out _ (TT.out _)).mono ?_
      rintro e w' ⟨rfl, rfl⟩
      go_wp2_with fail
      refine (AB.out _).mono ?_
      rintro e w' ⟨rfl, rfl⟩
      go_wp2
      go_ret2
      exact ⟨rfl, KK.out _ _⟩
  · rcases AC with ⟨_, e1, e2⟩ | ⟨h', _⟩ | ⟨h', _⟩
    · rw [e1, e2]
      clear e1 e2 R
      generalize chV cg cn s a = V at *
      generalize chE cn s a = E at *
      have hb : (E == 0) = false := by rw [beq_eq_false_iff_ne]; exact h
      clear h
      go_enter Tryd.func17, Tryd.ntmps17
      go_wp2_with fail
      refine (RC.out _ (TT.out _)).mono ?_
      rintro e w' ⟨rfl, rfl⟩
      go_wp2
      go_ret2
      exact ⟨rfl, K0.out _ _⟩
    · exact absurd h' h
    · exact absurd h' h

theorem let_to (c : Cf) (live old s a k : Int) (w : World) (hk : live - old = k) (g1 : 1 ≤ c.g) (gn : c.g ≤ c.n) (hn : c.n ≤ 65536) (m0 : 0 ≤ c.m) (m1 : c.m ≤ 4611686018427387904) (l0 : -9223372036854775808 ≤ live) (l1 : live ≤ 9223372036854775807) (o0 : -9223372036854775808 ≤ old) (o1 : old ≤ 9223372036854775807) (ha : -9223372036854775808 ≤ a) (ha' : a ≤ 9223372036854775807) (hT : Tab w) :
    Calls Tryd.prog 17 #[c.val, .int .i64 live, .int .i64 old, .int .i64 s, .int .i64 a] w fun e w' => e = .returned (.tuple #[.int .i64 (adV c.g c.n c.m k s a), .int .i64 (adE c.g c.n c.m k s a)]) ∧ Kept w w' :=
  hk ▸ let_any c live old s a w g1 gn hn m0 m1 l0 l1 o0 o1 ha ha' hT

theorem new_any (c : Cf) (live s a : Int) (w : World) (g1 : 1 ≤ c.g) (gn : c.g ≤ c.n) (hn : c.n ≤ 65536) (m0 : 0 ≤ c.m) (m1 : c.m ≤ 4611686018427387904) (l0 : -9223372036854775808 ≤ live) (l1 : live ≤ 9223372036854775807) (ha : -9223372036854775808 ≤ a) (ha' : a ≤ 9223372036854775807) (hT : Tab w) :
    Calls Tryd.prog 9 #[c.val, .int .i64 live, .int .i64 s, .int .i64 a] w fun e w' => e = .returned (.tuple #[.int .i64 (adV c.g c.n c.m live s a), .int .i64 (adE c.g c.n c.m live s a)]) ∧ Kept w w' := by
  have RQ := hide (fun w hT => let_to c live 0 s a live w (by omega) g1 gn hn m0 m1 l0 l1 (by omega) (by omega) ha ha' hT)
  have KK := hide (show ∀ o1, Kept w (w.alloc (.cells o1 26)) from fun o1 => (Kept.refl w).alloc _ _)
  have TT := hide (show ∀ o1, Tab (w.alloc (.cells o1 26)) from fun o1 => hT.kept (KK.out o1))
  obtain ⟨cg, cn, cm, cl, cp, cb, ch, cs⟩ := c
  dsimp only at *
  show Calls Tryd.prog 9 #[.agg #[.int .i64 cg, .int .i64 cn, .int .i64 cm, .int .i64 cl, .int .i64 cp, .int .i64 cb, .int .i64 ch, .int .i64 cs], .int .i64 live, .int .i64 s, .int .i64 a] w _
  generalize adV cg cn cm live s a = A at *
  generalize adE cg cn cm live s a = B at *
  go_enter Tryd.func9, Tryd.ntmps9
  go_wp2_with fail
  refine (RQ.out _ (TT.out _)).mono ?_
  rintro e w' ⟨rfl, k⟩
  have K := hide ((KK.out _).trans k)
  clear k
  go_wp2
  first | go_ret2 | go_returns
  exact ⟨rfl, K.out⟩

theorem many_any (c : Cf) (live x s : Int) (w : World) (g1 : 1 ≤ c.g) (gn : c.g ≤ c.n) (hn : c.n ≤ 65536) (m0 : 0 ≤ c.m) (m1 : c.m ≤ 4611686018427387904) (l0 : -9223372036854775808 ≤ live) (l1 : live ≤ 9223372036854775807) (hx : -9223372036854775808 ≤ x) (hx' : x ≤ 9223372036854775807) (hs : -9223372036854775808 ≤ s) (hs' : s ≤ 9223372036854775807) (hT : Tab w) :
    Calls Tryd.prog 11 #[c.val, .int .i64 live, .int .i64 x, .int .i64 s] w fun e w' => e = .returned (.tuple #[.int .i64 (maV c.g c.n c.m live x s), .int .i64 (maE c.g c.n c.m live x s)]) ∧ Kept w w' := by
  have RP := hide (fun w => product_any c x s w hx hx' hs hs')
  have RN := hide (fun w v hT => let_to c live 0 v 1 live w (by omega) g1 gn hn m0 m1 l0 l1 (by omega) (by omega) (by decide) (by decide) hT)
  have YES := hide (fun h => ma_yes (g := c.g) (n := c.n) (m := c.m) (live := live) (x := x) (s := s) h)
  have NO := hide (fun h => ma_no (g := c.g) (n := c.n) (m := c.m) (live := live) (x := x) (s := s) h)
  have PV := hide (show prE c.n x s = 0 → prV c.n x s = x * s from fun h => by unfold prV; rw [if_pos h])
  have KK := hide (show ∀ o1 o2, Kept w ((w.alloc (.cells o1 26)).alloc (.cells o2 26)) from fun o1 o2 => ((Kept.refl w).alloc _ _).alloc _ _)
  have TT := hide (show ∀ o1 o2, Tab ((w.alloc (.cells o1 26)).alloc (.cells o2 26)) from fun o1 o2 => hT.kept (KK.out o1 o2))
  obtain ⟨cg, cn, cm, cl, cp, cb, ch, cs⟩ := c
  dsimp only at *
  show Calls Tryd.prog 11 #[.agg #[.int .i64 cg, .int .i64 cn, .int .i64 cm, .int .i64 cl, .int .i64 cp, .int .i64 cb, .int .i64 ch, .int .i64 cs], .int .i64 live, .int .i64 x, .int .i64 s] w _
  by_cases h : prE cn x s = 0
  · have e := YES.out h
    have pv := PV.out h
    rw [e.1, e.2]
    rw [h, pv] at RP
    have RQ := hide (fun w hT => RN.out w (x * s) hT)
    clear e pv h YES NO PV RN
    generalize x * s = v at *
    generalize adV cg cn cm live v 1 = A at *
    generalize adE cg cn cm live v 1 = B at *
    go_enter Tryd.func11, Tryd.ntmps11
    go_wp2_with fail
    refine (RP.out _).mono ?_
    rintro e w' ⟨rfl, rfl⟩
    go_wp2_with fail
    refine (RQ.out _ (TT.out _ _)).mono ?_
    rintro e w' ⟨rfl, k⟩
    have K := hide ((KK.out _ _).trans k)
    clear k
    go_wp2
    first | go_ret2 | go_returns
    exact ⟨rfl, K.out⟩
  · have e := NO.out h
    rw [e.1, e.2]
    clear e YES NO PV RN
    generalize prV cn x s = V at *
    generalize prE cn x s = E at *
    have hb : (E == 0) = false := by rw [beq_eq_false_iff_ne]; exact h
    clear h
    go_enter Tryd.func11, Tryd.ntmps11
    go_wp2_with fail
    refine (RP.out _).mono ?_
    rintro e w' ⟨rfl, rfl⟩
    go_wp2
    go_ret2
    exact ⟨rfl, KK.out _ _⟩

theorem anew_any (c : Cf) (live old s : Int) (w : World) (g1 : 1 ≤ c.g) (gn : c.g ≤ c.n) (hn : c.n ≤ 65536) (m0 : 0 ≤ c.m) (m1 : c.m ≤ 4611686018427387904) (l0 : -9223372036854775808 ≤ live) (l1 : live ≤ 9223372036854775807) (o0 : -9223372036854775808 ≤ old) (o1 : old ≤ 9223372036854775807) (hT : Tab w) :
    Calls Tryd.prog 13 #[c.val, .int .i64 live, .int .i64 old, .int .i64 s] w fun e w' => e = .returned (.tuple #[.int .i64 (adV c.g c.n c.m (live - old) s 1), .int .i64 (adE c.g c.n c.m (live - old) s 1)]) ∧ Kept w w' := by
  have RQ := hide (fun w hT => let_any c live old s 1 w g1 gn hn m0 m1 l0 l1 o0 o1 (by decide) (by decide) hT)
  have KK := hide (show ∀ o1, Kept w (w.alloc (.cells o1 26)) from fun o1 => (Kept.refl w).alloc _ _)
  have TT := hide (show ∀ o1, Tab (w.alloc (.cells o1 26)) from fun o1 => hT.kept (KK.out o1))
  obtain ⟨cg, cn, cm, cl, cp, cb, ch, cs⟩ := c
  dsimp only at *
  show Calls Tryd.prog 13 #[.agg #[.int .i64 cg, .int .i64 cn, .int .i64 cm, .int .i64 cl, .int .i64 cp, .int .i64 cb, .int .i64 ch, .int .i64 cs], .int .i64 live, .int .i64 old, .int .i64 s] w _
  generalize adV cg cn cm (live - old) s 1 = A at *
  generalize adE cg cn cm (live - old) s 1 = B at *
  go_enter Tryd.func13, Tryd.ntmps13
  go_wp2_with fail
  refine (RQ.out _ (TT.out _)).mono ?_
  rintro e w' ⟨rfl, k⟩
  have K := hide ((KK.out _).trans k)
  clear k
  go_wp2
  first | go_ret2 | go_returns
  exact ⟨rfl, K.out⟩

/-- all that is asked of package admit -/
theorem admit_says : AdmitSays where
  new c live s a w h1 h2 h3 h4 h5 h6 h7 _ _ ha ha' hT := new_any c live s a w h1 h2 h3 h4 h5 (by omega) (by omega) ha ha' hT
  many c live x s w h1 h2 h3 h4 h5 h6 h7 hx hx' h8 h9 hT := many_any c live x s w h1 h2 h3 h4 h5 (by omega) (by omega) hx hx' h8 h9 hT
  anew c live old s w h1 h2 h3 h4 h5 h6 h7 h8 _ _ hT := anew_any c live old s w h1 h2 h3 h4 h5 (by omega) (by omega) (by omega) (by omega) hT
end Go.Proofs.YtoopeihnmlfneaaDoor
