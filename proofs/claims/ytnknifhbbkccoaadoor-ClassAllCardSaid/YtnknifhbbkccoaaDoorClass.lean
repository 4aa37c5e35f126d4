/- What the program's package class answers (Charge, Class, Product), as contracts in plain functions. Each makes one block of new memory, the configuration that it was handed. Conditions: G is a power of two up to 65536, N and L at most 65536 and 16; of Charge and Class: the library's table lies in its variable. -/
import Derived.Test.YtnknifhbbkccoaaDoorClassMath
import Derived.Test.YtnknifhbbkccoaaDoorCalc
import Derived.Handy
namespace Go.Proofs.YtnknifhbbkccoaaDoor
open Go.RowKit

theorem run_max3 (P : Program) (w : World) (ts : Array TypeId) (t : TypeId) (x y z : Int) : (Builtin.max_ ts t #[.int .i64 x, .int .i64 y, .int .i64 z]).run P w = .ok (.int .i64 (max (max x y) z)) w := by
  have e : (if x < y then y else x) = max x y := by
    rw [Int.max_def]
    split <;> split <;> omega
  have e2 : ∀ m : Int, (if m < z then z else m) = max m z := fun m => by
    rw [Int.max_def]
    split <;> split <;> omega
  simp [Builtin.max_, Builtin.max2, e, e2]

theorem charge_any (c : Cf) (s a : Int) (w : World) (hg1 : 1 ≤ c.g) (hg : c.g ≤ 65536) (hn : c.n ≤ 65536) (ha : -9223372036854775808 ≤ a) (ha' : a ≤ 9223372036854775807) (hT : Tab w) :
    Calls Tryd.prog 10 #[c.val, .int .i64 s, .int .i64 a] w fun e w' => e = .returned (.tuple #[.int .i64 (chV c.g c.n s a), .int .i64 (chE c.n s a)]) ∧ w' = w.alloc (c.obj 25) := by
  have hT' : Hid (∀ o1, Tab (w.alloc (.cells o1 25))) := fun o1 => hT.kept ((Kept.refl w).alloc _ _)
  have hlog := hide (fun w hT => log_any a w ha ha' hT)
  rcases ch_cases c.g c.n s a with ⟨e1, e2, h⟩ | ⟨e1, e2, h1, h2, h3⟩ | ⟨e1, e2, h1, h2, h3, h4⟩
  · rw [e1, e2]
    clear e1 e2
    obtain ⟨cg, cn, cm, cl, cp, cb, ch, cs⟩ := c
    dsimp only at h hg1 hg hn
    show Calls Tryd.prog 10 #[.agg #[.int .i64 cg, .int .i64 cn, .int .i64 cm, .int .i64 cl, .int .i64 cp, .int .i64 cb, .int .i64 ch, .int .i64 cs], .int .i64 s, .int .i64 a] w _
    generalize logV a = lv at *
    cases hb : logB a with
    | false =>
      rw [hb] at hlog
      clear h hb
      go_enter Tryd.func10, Tryd.ntmps10
      go_wp2_with fail
      refine (hlog.out _ (hT'.out _)).mono ?_
      rintro e w' ⟨rfl, rfl⟩
      go_wp2
      go_ret2
      exact ⟨rfl, rfl⟩
    | true =>
      have h1 : cn < a := by rw [hb] at h; rcases h with h | h; cases h; exact h
      rw [hb] at hlog
      clear h hb
      go_enter Tryd.func10, Tryd.ntmps10
      go_wp2_with fail
      refine (hlog.out _ (hT'.out _)).mono ?_
      rintro e w' ⟨rfl, rfl⟩
      go_wp2
      go_ret2
      exact ⟨rfl, rfl⟩
  · rw [e1, e2]
    clear e1 e2
    rw [h1] at hlog
    clear h1
    obtain ⟨cg, cn, cm, cl, cp, cb, ch, cs⟩ := c
    dsimp only at h2 h3 hg1 hg hn
    show Calls Tryd.prog 10 #[.agg #[.int .i64 cg, .int .i64 cn, .int .i64 cm, .int .i64 cl, .int .i64 cp, .int .i64 cb, .int .i64 ch, .int .i64 cs], .int .i64 s, .int .i64 a] w _
    generalize logV a = lv at *
    by_cases h4 : s < 0
    · clear h3
      go_enter Tryd.func10, Tryd.ntmps10
      go_wp2_with fail
      refine (hlog.out _ (hT'.out _)).mono ?_
      rintro e w' ⟨rfl, rfl⟩
      go_wp2
      go_ret2
      exact ⟨rfl, rfl⟩
    · have h5 : cn < s := by omega
      clear h3
      go_enter Tryd.func10, Tryd.ntmps10
      go_wp2_with fail
      refine (hlog.out _ (hT'.out _)).mono ?_
      rintro e w' ⟨rfl, rfl⟩
      go_wp2
      go_ret2
      exact ⟨rfl, rfl⟩
  · rw [e1, e2]
    clear e1 e2
    rw [h1] at hlog
    clear h1
    obtain ⟨cg, cn, cm, cl, cp, cb, ch, cs⟩ := c
    dsimp only at h2 h3 h4 hg1 hg hn
    show Calls Tryd.prog 10 #[.agg #[.int .i64 cg, .int .i64 cn, .int .i64 cm, .int .i64 cl, .int .i64 cp, .int .i64 cb, .int .i64 ch, .int .i64 cs], .int .i64 s, .int .i64 a] w _
    generalize logV a = lv at *
    have hup := hide (fun w => up_to (max s (max a cg)) (upV (max s (max a cg))) true rfl (decide_eq_true ⟨by omega, by omega⟩) w (by omega) (by omega))
    have hm3 := fun (w : World) (ts : Array TypeId) (t : TypeId) => run_max3 Tryd.prog w ts t s a cg
    generalize upV (max s (max a cg)) = V at *
    go_enter Tryd.func10, Tryd.ntmps10
    go_wp2_with fail
    refine (hlog.out _ (hT'.out _)).mono ?_
    rintro e w' ⟨rfl, rfl⟩
    go_wp2_with fail
    refine (hup.out _).mono ?_
    rintro e w' ⟨rfl, rfl⟩
    go_wp2
    go_ret2
    exact ⟨rfl, rfl⟩

theorem class_yes (c : Cf) (a k l : Nat) (w : World) (ha : a ≤ 16) (hl : l ≤ 16) (hk : k ≤ l) (hg : c.g = ((2 ^ a : Nat) : Int)) (hc : c.l = l) (hT : Tab w) :
    Calls Tryd.prog 14 #[c.val, .int .i64 ((2 ^ a * 2 ^ k : Nat) : Int)] w fun e w' => e = .returned (.tuple #[.int .i64 k, .bool true]) ∧ w' = w.alloc (c.obj 25) := by
  have g1 := pow16 ha
  have k1 := pow16 (show k ≤ 16 by omega)
  have p1 : 2 ^ a * 2 ^ k ≤ 65536 * 65536 := Nat.mul_le_mul g1.2 k1.2
  have hd : wrap64 ((((2 ^ a * 2 ^ k : Nat) : Int)).tdiv c.g) = ((2 ^ k : Nat) : Int) := by
    rw [hg, Int.tdiv_eq_ediv_of_nonneg (by omega), ← Int.natCast_ediv, Nat.mul_div_cancel_left _ (by omega)]
    unfold wrap64; omega
  have hlog := hide (fun w hT => log_yes k w (by omega) hT)
  have hT' : Hid (∀ o1, Tab (w.alloc (.cells o1 25))) := fun o1 => hT.kept ((Kept.refl w).alloc _ _)
  have hkl : (k : Int) ≤ c.l := by omega
  have hg1 : 1 ≤ c.g := by omega
  have hp : wrap64 (c.g * 2 ^ k) = ((2 ^ a * 2 ^ k : Nat) : Int) := by
    rw [hg, ← pow_cast, ← Int.natCast_mul]; unfold wrap64; omega
  clear hc hg g1 k1 p1
  generalize ((2 ^ a * 2 ^ k : Nat) : Int) = x at *
  obtain ⟨cg, cn, cm, cl, cp, cb, ch, cs⟩ := c
  dsimp only at hd hkl hg1 hp
  show Calls Tryd.prog 14 #[.agg #[.int .i64 cg, .int .i64 cn, .int .i64 cm, .int .i64 cl, .int .i64 cp, .int .i64 cb, .int .i64 ch, .int .i64 cs], .int .i64 x] w _
  go_enter Tryd.func14, Tryd.ntmps14
  go_wp2_with fail
  refine (hlog.out _ (hT'.out _)).mono ?_
  rintro e w' ⟨rfl, rfl⟩
  go_wp2
  go_ret2
  exact ⟨rfl, rfl⟩

theorem class_no (c : Cf) (a l : Nat) (x : Int) (w : World) (ha : a ≤ 16) (hl : l ≤ 16) (hx : ∀ k : Nat, k ≤ l → x ≠ ((2 ^ a * 2 ^ k : Nat) : Int)) (hg : c.g = ((2 ^ a : Nat) : Int)) (hc : c.l = l) (hT : Tab w) :
    Calls Tryd.prog 14 #[c.val, .int .i64 x] w fun e w' => e = .returned (.tuple #[.int .i64 0, .bool false]) ∧ w' = w.alloc (c.obj 25) := by
  have g1 := pow16 ha
  have hg1 : 1 ≤ c.g := by omega
  have hT' : Hid (∀ o1, Tab (w.alloc (.cells o1 25))) := fun o1 => hT.kept ((Kept.refl w).alloc _ _)
  have hq := wrap64_in (x.tdiv c.g)
  generalize hQ : wrap64 (x.tdiv c.g) = q at *
  rcases log_cases q hq.2 with ⟨j, hj, e1, _, _⟩ | ⟨_, _, hno⟩
  · have hlog := hide (fun w hT => log_yes j w hj hT)
    rw [← e1] at hlog
    by_cases hjl : j ≤ l
    · have j1 := pow16 (show j ≤ 16 by omega)
      have p1 : 2 ^ a * 2 ^ j ≤ 65536 * 65536 := Nat.mul_le_mul g1.2 j1.2
      have hs : (wrap64 (c.g * 2 ^ j) != x) = true := by
        rw [bne_iff_ne, hg, ← pow_cast, ← Int.natCast_mul]
        have : wrap64 ((2 ^ a * 2 ^ j : Nat) : Int) = ((2 ^ a * 2 ^ j : Nat) : Int) := by unfold wrap64; omega
        rw [this]
        exact fun h => hx j hjl h.symm
      have hkl : (j : Int) ≤ c.l := by omega
      have hj0 : (j : Int) < 63 := by omega
      clear hc hg g1 j1 p1 hx e1
      obtain ⟨cg, cn, cm, cl, cp, cb, ch, cs⟩ := c
      dsimp only at hQ hkl hg1 hs
      show Calls Tryd.prog 14 #[.agg #[.int .i64 cg, .int .i64 cn, .int .i64 cm, .int .i64 cl, .int .i64 cp, .int .i64 cb, .int .i64 ch, .int .i64 cs], .int .i64 x] w _
      go_enter Tryd.func14, Tryd.ntmps14
      go_wp2_with fail
      refine (hlog.out _ (hT'.out _)).mono ?_
      rintro e w' ⟨rfl, rfl⟩
      go_wp2
      go_ret2
      exact ⟨rfl, rfl⟩
    · have hkl : c.l < (j : Int) := by omega
      clear hc hg g1 hx e1
      obtain ⟨cg, cn, cm, cl, cp, cb, ch, cs⟩ := c
      dsimp only at hQ hkl hg1
      show Calls Tryd.prog 14 #[.agg #[.int .i64 cg, .int .i64 cn, .int .i64 cm, .int .i64 cl, .int .i64 cp, .int .i64 cb, .int .i64 ch, .int .i64 cs], .int .i64 x] w _
      go_enter Tryd.func14, Tryd.ntmps14
      go_wp2_with fail
      refine (hlog.out _ (hT'.out _)).mono ?_
      rintro e w' ⟨rfl, rfl⟩
      go_wp2
      go_ret2
      exact ⟨rfl, rfl⟩
  · have hlog := hide (fun w => log_no q w hq.1 hq.2 hno)
    clear hc hg g1 hx hno
    obtain ⟨cg, cn, cm, cl, cp, cb, ch, cs⟩ := c
    dsimp only at hQ hg1
    show Calls Tryd.prog 14 #[.agg #[.int .i64 cg, .int .i64 cn, .int .i64 cm, .int .i64 cl, .int .i64 cp, .int .i64 cb, .int .i64 ch, .int .i64 cs], .int .i64 x] w _
    go_enter Tryd.func14, Tryd.ntmps14
    go_wp2_with fail
    refine (hlog.out _).mono ?_
    rintro e w' ⟨rfl, rfl⟩
    go_wp2
    go_ret2
    exact ⟨rfl, rfl⟩

theorem class_any (c : Cf) (a l : Nat) (x : Int) (w : World) (ha : a ≤ 16) (hl : l ≤ 16) (hg : c.g = ((2 ^ a : Nat) : Int)) (hc : c.l = l) (hT : Tab w) :
    Calls Tryd.prog 14 #[c.val, .int .i64 x] w fun e w' => e = .returned (.tuple #[.int .i64 (shV a l x), .bool (shB a l x)]) ∧ w' = w.alloc (c.obj 25) := by
  by_cases h : ∃ k : Nat, k ≤ l ∧ x = ((2 ^ a * 2 ^ k : Nat) : Int)
  · obtain ⟨k, hk, rfl⟩ := h
    rw [(sh_fits a l k hk).1, (sh_fits a l k hk).2]
    exact class_yes c a k l w ha hl hk hg hc hT
  · have h' : ∀ k : Nat, k ≤ l → x ≠ ((2 ^ a * 2 ^ k : Nat) : Int) := fun k hk e => h ⟨k, hk, e⟩
    rw [(sh_not h').1, (sh_not h').2]
    exact class_no c a l x w ha hl h' hg hc hT

theorem product_any (c : Cf) (x y : Int) (w : World) (hx : -9223372036854775808 ≤ x) (hx' : x ≤ 9223372036854775807) (hy : -9223372036854775808 ≤ y) (hy' : y ≤ 9223372036854775807) :
    Calls Tryd.prog 12 #[c.val, .int .i64 x, .int .i64 y] w fun e w' => e = .returned (.tuple #[.int .i64 (prV c.n x y), .int .i64 (prE c.n x y)]) ∧ w' = w.alloc (c.obj 25) := by
  have hmul := hide (fun w => mul_any x y w hx hx' hy hy')
  obtain ⟨cg, cn, cm, cl, cp, cb, ch, cs⟩ := c
  show Calls Tryd.prog 12 #[.agg #[.int .i64 cg, .int .i64 cn, .int .i64 cm, .int .i64 cl, .int .i64 cp, .int .i64 cb, .int .i64 ch, .int .i64 cs], .int .i64 x, .int .i64 y] w _
  rcases pr_cases cn x y with ⟨e1, e2, h⟩ | ⟨e1, e2, h1, h2, h3⟩ | ⟨e1, e2, h1, h2, h3, h4, h5⟩
  · dsimp only
    rw [e1, e2]
    clear e1 e2 hmul
    by_cases h4 : x < 0
    · clear h
      go_enter Tryd.func12, Tryd.ntmps12
      go_wp2
      go_ret2
      exact ⟨rfl, rfl⟩
    · have h5 : y < 0 := by omega
      clear h
      go_enter Tryd.func12, Tryd.ntmps12
      go_wp2
      go_ret2
      exact ⟨rfl, rfl⟩
  · dsimp only
    rw [e1, e2]
    clear e1 e2
    rcases h3 with h3 | ⟨h3, h4, h5⟩
    · rw [h3] at hmul
      clear h3
      generalize mulV x y = m at *
      go_enter Tryd.func12, Tryd.ntmps12
      go_wp2_with fail
      refine (hmul.out _).mono ?_
      rintro e w' ⟨rfl, rfl⟩
      go_wp2
      go_ret2
      exact ⟨rfl, rfl⟩
    · rw [h3, h4] at hmul
      clear h3 h4
      generalize x * y = m at *
      go_enter Tryd.func12, Tryd.ntmps12
      go_wp2_with fail
      refine (hmul.out _).mono ?_
      rintro e w' ⟨rfl, rfl⟩
      go_wp2
      go_ret2
      exact ⟨rfl, rfl⟩
  · dsimp only
    rw [e1, e2]
    clear e1 e2
    rw [h3, h4] at hmul
    clear h3 h4
    generalize x * y = m at *
    go_enter Tryd.func12, Tryd.ntmps12
    go_wp2_with fail
    refine (hmul.out _).mono ?_
    rintro e w' ⟨rfl, rfl⟩
    go_wp2
    go_ret2
    exact ⟨rfl, rfl⟩
end Go.Proofs.YtnknifhbbkccoaaDoor
