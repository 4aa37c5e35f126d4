/- What the program's package class answers (Charge, Class, Product), as contracts in plain functions. Each makes one block of new memory, the configuration that it was handed. Conditions: G is a power of two up to 65536, N and L at most 65536 and 16; of Charge and Class: the library's table lies in its variable. -/
import Derived.Test.YtoopeihnmlfneaaDoorClassMath
import Derived.Test.YtoopeihnmlfneaaDoorCalc
import Derived.Handy
namespace Go.Proofs.YtoopeihnmlfneaaDoor
open Go.RowKit

theorem run_max3 (P : Program) (w : World) (ts : Array TypeId) (t : TypeId) (x y z : Int) : (Builtin.max_ ts t #[.int .i64 x, .int .i64 y, .int .i64 z]).run P w = .ok (.int .i64 (max (max x y) z)) w := by
  have e : (if x < y then y else x) = max x y := by
    rw [Int.max_def]
    split <;> split <;> omega
  have e2 : ∀ m : Int, (if m < z then z else m) = max m z := fun m => by
    rw [Int.max_def]
    split <;> split <;> omega
  simp [Builtin.max_, Builtin.max2, e, e2]

theorem charge_any (c : Cf) (s a : Int) (w : World) (hg1 : 1 ≤ c.g) (hg : c.g ≤ 65536) (hn : c.n ≤ 65536) (ha : -9223372036854775808 ≤ a) (ha' : a ≤ 9223372036854775807) (hT : Tab w) :
    Calls Tryd.prog 25 #[c.val, .int .i64 s, .int .i64 a] w fun e w' => e = .returned (.tuple #[.int .i64 (chV c.g c.n s a), .int .i64 (chE c.n s a)]) ∧ w' = w.alloc (c.obj 26) := by
  have hT' : Hid (∀ o1, Tab (w.alloc (.cells o1 26))) := fun o1 => hT.kept ((Kept.refl w).alloc _ _)
  have hlog := hide (fun w hT => log_any a w ha ha' hT)
  rcases ch_cases c.g c.n s a with ⟨e1, e2, h⟩ | ⟨e1, e2, h1, h2, h3⟩ | ⟨e1, e2, h1, h2, h3, h4⟩
  · rw [e1, e2]
    clear e1 e2
    obtain ⟨cg, cn, cm, cl, cp, cb, ch, cs⟩ := c
    dsimp only at h hg1 hg hn
    show Calls Tryd.prog 25 #[.agg #[.int .i64 cg, .int .i64 cn, .int .i64 cm, .int .i64 cl, .int .i64 cp, .int .i64 cb, .int .i64 ch, .int .i64 cs], .int .i64 s, .int .i64 a] w _
    generalize logV a = lv at *
    cases hb : logB a with
    | false =>
      rw [hb] at hlog
      clear h hb
      go_enter Tryd.func25, Tryd.ntmps25
      go_wp2_with fail
      refine (hlog.out _ (hT'.out _)).mono ?_
      rintro e w' ⟨rfl, rfl⟩
      go_wp2
      go_ret2
      exact ⟨rfl, rfl⟩
    | true =>
      have h1 : cn < a := by rw [hb] at h; rcases h with h | h; cases h; exact h
      rw [hb] at hlog
      clear h hb
      go_enter Tryd.func25, Tryd.ntmps25
      go_wp2_with fail
      refine (hlog.out _ (hT'.out _)).mono ?_
      rintro e w' ⟨rfl, rfl⟩
      go_wp2
      go_ret2
      exact ⟨rfl, rfl⟩
  · rw [e1, e2]
    clear e1 e2
    rw [h1] at hlog
    clear h1
    obtain ⟨cg, cn, cm, cl, cp, cb, ch, cs⟩ := c
    dsimp only at h2 h3 hg1 hg hn
    show Calls Tryd.prog 25 #[.agg #[.int .i64 cg, .int .i64 cn, .int .i64 cm, .int .i64 cl, .int .i64 cp, .int .i64 cb, .int .i64 ch, .int .i64 cs], .int .i64 s, .int .i64 a] w _
    generalize logV a = lv at *
    by_cases h4 : s < 0
    · clear h3
      go_enter Tryd.func25, Tryd.ntmps25
      go_wp2_with fail
      refine (hlog.out _ (hT'.out _)).mono ?_
      rintro e w' ⟨rfl, rfl⟩
      go_wp2
      go_ret2
      exact ⟨rfl, rfl⟩
    · have h5 : cn < s := by omega
      clear h3
      go_enter Tryd.func25, Tryd.ntmps25
      go_wp2_with fail
      refine (hlog.out _ (hT'.out _)).mono ?_
      rintro e w' ⟨rfl, rfl⟩
      go_wp2
      go_ret2
      exact ⟨rfl, rfl⟩
  · rw [e1, e2]
    clear e1 e2
    rw [h1] at hlog
    clear h1
    obtain ⟨cg, cn, cm, cl, cp, cb, ch, cs⟩ := c
    dsimp only at h2 h3 h4 hg1 hg hn
    show Calls Tryd.prog 25 #[.agg #[.int .i64 cg, .int .i64 cn, .int .i64 cm, .int .i64 cl, .int .i64 cp, .int .i64 cb, .int .i64 ch, .int .i64 cs], .int .i64 s, .int .i64 a] w _
    generalize logV a = lv at *
    have hup := hide (fun w => up_to (max s (max a cg)) (upV (max s (max a cg))) true rfl (decide_eq_true ⟨by omega, by omega⟩) w (by omega) (by omega))
    have hm3 := fun (w : World) (ts : Array TypeId) (t : TypeId) => run_max3 Tryd.prog w ts t s a cg
    generalize upV (max s (max a cg)) = V at *
    go_enter Tryd.func25, Tryd.ntmps25
    go_wp2_with fail
    refine (hlog.out _ (hT'.out _)).mono ?_
    rintro e w' ⟨rfl, rfl⟩
    go_wp2_with fail
    refine (hup.out _).mono ?_
    rintro e w' ⟨rfl, rfl⟩
    go_wp2
    go_ret2
    exact ⟨rfl, rfl⟩


theorem product_any (c : Cf) (x y : Int) (w : World) (hx : -9223372036854775808 ≤ x) (hx' : x ≤ 9223372036854775807) (hy : -9223372036854775808 ≤ y) (hy' : y ≤ 9223372036854775807) :
    Calls Tryd.prog 19 #[c.val, .int .i64 x, .int .i64 y] w fun e w' => e = .returned (.tuple #[.int .i64 (prV c.n x y), .int .i64 (prE c.n x y)]) ∧ w' = w.alloc (c.obj 26) := by
  have hmul := hide (fun w => mul_any x y w hx hx' hy hy')
  obtain ⟨cg, cn, cm, cl, cp, cb, ch, cs⟩ := c
  show Calls Tryd.prog 19 #[.agg #[.int .i64 cg, .int .i64 cn, .int .i64 cm, .int .i64 cl, .int .i64 cp, .int .i64 cb, .int .i64 ch, .int .i64 cs], .int .i64 x, .int .i64 y] w _
  rcases pr_cases cn x y with ⟨e1, e2, h⟩ | ⟨e1, e2, h1, h2, h3⟩ | ⟨e1, e2, h1, h2, h3, h4, h5⟩
  · dsimp only
    rw [e1, e2]
    clear e1 e2 hmul
    by_cases h4 : x < 0
    · clear h
      go_enter Tryd.func19, Tryd.ntmps19
      go_wp2
      go_ret2
      exact ⟨rfl, rfl⟩
    · have h5 : y < 0 := by omega
      clear h
      go_enter Tryd.func19, Tryd.ntmps19
      go_wp2
      go_ret2
      exact ⟨rfl, rfl⟩
  · dsimp only
    rw [e1, e2]
    clear e1 e2
    rcases h3 with h3 | ⟨h3, h4, h5⟩
    · rw [h3] at hmul
      clear h3
      generalize mulV x y = m at *
      go_enter Tryd.func19, Tryd.ntmps19
      go_wp2_with fail
      refine (hmul.out _).mono ?_
      rintro e w' ⟨rfl, rfl⟩
      go_wp2
      go_ret2
      exact ⟨rfl, rfl⟩
    · rw [h3, h4] at hmul
      clear h3 h4
      generalize x * y = m at *
      go_enter Tryd.func19, Tryd.ntmps19
      go_wp2_with fail
      refine (hmul.out _).mono ?_
      rintro e w' ⟨rfl, rfl⟩
      go_wp2
      go_ret2
      exact ⟨rfl, rfl⟩
  · dsimp only
    rw [e1, e2]
    clear e1 e2
    rw [h3, h4] at hmul
    clear h3 h4
    generalize x * y = m at *
    go_enter Tryd.func19, Tryd.ntmps19
    go_wp2_with fail
    refine (hmul.out _).mono ?_
    rintro e w' ⟨rfl, rfl⟩
    go_wp2
    go_ret2
    exact ⟨rfl, rfl⟩
end Go.Proofs.YtoopeihnmlfneaaDoor
