/- Proved here: hodmanlaw1.CalcBack returns true at every two numbers, in any memory in which the library's table math/bits.deBruijn64tab lies as its initialiser lays it: what calc.Add and calc.Mul tell fits: what was added can be taken away, what was multiplied divided, and what does not fit is beyond. No condition besides. -/
import Derived.Test.YtmjnnccfigbkmaaDoorLawA
import Derived.Test.YtmjnnccfigbkmaaDoorCards
import Derived.Test.YtmjnnccfigbkmaaDoorTie
import Derived.RowKit3
namespace Go.Proofs.YtmjnnccfigbkmaaDoor
open Go.ChangeShapes Go.WideShapes Go.ChangeAt Go.RowKit

theorem addB_comm (a b : Int) : addB b a = addB a b := by unfold addB; rw [Int.add_comm]
theorem addV_comm (a b : Int) : addV b a = addV a b := by unfold addV; rw [addB_comm, Int.add_comm]
theorem mulB_comm (a b : Int) : mulB b a = mulB a b := by unfold mulB; rw [Int.mul_comm]
theorem mulV_comm (a b : Int) : mulV b a = mulV a b := by unfold mulV; rw [mulB_comm, Int.mul_comm]
theorem mulAbs (a b A B : Int) (hA : 0 ≤ A) (ha : -A ≤ a) (ha' : a ≤ A) (hb : -B ≤ b) (hb' : b ≤ B) : -(A * B) ≤ a * b ∧ a * b ≤ A * B := by
  have h := Int.natAbs_mul a b
  have h1 : a.natAbs * b.natAbs ≤ A.natAbs * B.natAbs := Nat.mul_le_mul (by omega) (by omega)
  have h2 := Int.natAbs_mul A B
  have h3 : 0 ≤ A * B := Int.mul_nonneg hA (by omega)
  omega

theorem ret_bool {x : Bool} (h : x = true) : Ending.returned (.bool x) = .returned (.bool true) := by rw [h]


set_option maxRecDepth 100000 in
set_option maxHeartbeats 4000000 in
theorem back_yy_lt (a : Int) (ha : -9223372036854775808 ≤ a) (ha' : a ≤ 9223372036854775807) (b : Int) (hb : -9223372036854775808 ≤ b) (hb' : b ≤ 9223372036854775807) (w : World) (hT : Tab w) (f1 : -9223372036854775808 ≤ a + b) (f2 : a + b ≤ 9223372036854775807) (g1 : -9223372036854775808 ≤ a * b) (g2 : a * b ≤ 9223372036854775807) (h : b < 0) :
    Calls Tryd.prog 4 #[.int .i64 a, .int .i64 b] w fun e w' => e = .returned (.bool true) ∧ Grown w w' := by
  have P := hide (add_fits f1 f2)
  have Q := hide (mul_fits g1 g2)
  have hm : (a * b).tmod b = 0 := Int.mul_tmod_left a b
  have hd : wrap64 ((a * b).tdiv b) = a := by rw [Int.mul_tdiv_cancel a (by omega)]; unfold wrap64; omega
  generalize a * b = y at *
  generalize hx : a + b = x at *
  have X := hide hx
  have x1 : x < a := by omega
  have x2 : x - b ≤ a := by omega
  have x3 : a ≤ x - b := by omega
  clear hx
  go_enter Tryd.func4, Tryd.ntmps4
  go_wp2_with fail
  refine (begun_true _ hT).mono ?_
  rintro e w' ⟨rfl, rfl⟩
  go_wp2_with fail
  refine (add_to a b _ _ P.out.2 P.out.1 _ (by omega) (by omega) (by omega) (by omega)).mono ?_
  rintro e w' ⟨rfl, rfl⟩
  go_wp2_with fail
  refine (mul_to a b _ _ Q.out.2 Q.out.1 _ (by omega) (by omega) (by omega) (by omega)).mono ?_
  rintro e w' ⟨rfl, rfl⟩
  go_wp2_with fail
  refine (add_to b a _ _ ((addV_comm a b).trans P.out.2) ((addB_comm a b).trans P.out.1) _ (by omega) (by omega) (by omega) (by omega)).mono ?_
  rintro e w' ⟨rfl, rfl⟩
  go_wp2_with fail
  refine (mul_to b a _ _ ((mulV_comm a b).trans Q.out.2) ((mulB_comm a b).trans Q.out.1) _ (by omega) (by omega) (by omega) (by omega)).mono ?_
  rintro e w' ⟨rfl, rfl⟩
  go_wp2
  go_ret
  exact ⟨rfl, Grown.refl _⟩

set_option maxRecDepth 100000 in
set_option maxHeartbeats 4000000 in
theorem back_yy_gt (a : Int) (ha : -9223372036854775808 ≤ a) (ha' : a ≤ 9223372036854775807) (b : Int) (hb : -9223372036854775808 ≤ b) (hb' : b ≤ 9223372036854775807) (w : World) (hT : Tab w) (f1 : -9223372036854775808 ≤ a + b) (f2 : a + b ≤ 9223372036854775807) (g1 : -9223372036854775808 ≤ a * b) (g2 : a * b ≤ 9223372036854775807) (h : 0 < b) :
    Calls Tryd.prog 4 #[.int .i64 a, .int .i64 b] w fun e w' => e = .returned (.bool true) ∧ Grown w w' := by
  have P := hide (add_fits f1 f2)
  have Q := hide (mul_fits g1 g2)
  have hm : (a * b).tmod b = 0 := Int.mul_tmod_left a b
  have hd : (a * b).tdiv b = a := Int.mul_tdiv_cancel a (by omega)
  generalize a * b = y at *
  generalize hx : a + b = x at *
  have X := hide hx
  have x1 : a < x := by omega
  have x2 : x - b ≤ a := by omega
  have x3 : a ≤ x - b := by omega
  clear hx
  go_enter Tryd.func4, Tryd.ntmps4
  go_wp2_with fail
  refine (begun_true _ hT).mono ?_
  rintro e w' ⟨rfl, rfl⟩
  go_wp2_with fail
  refine (add_to a b _ _ P.out.2 P.out.1 _ (by omega) (by omega) (by omega) (by omega)).mono ?_
  rintro e w' ⟨rfl, rfl⟩
  go_wp2_with fail
  refine (mul_to a b _ _ Q.out.2 Q.out.1 _ (by omega) (by omega) (by omega) (by omega)).mono ?_
  rintro e w' ⟨rfl, rfl⟩
  go_wp2_with fail
  refine (add_to b a _ _ ((addV_comm a b).trans P.out.2) ((addB_comm a b).trans P.out.1) _ (by omega) (by omega) (by omega) (by omega)).mono ?_
  rintro e w' ⟨rfl, rfl⟩
  go_wp2_with fail
  refine (mul_to b a _ _ ((mulV_comm a b).trans Q.out.2) ((mulB_comm a b).trans Q.out.1) _ (by omega) (by omega) (by omega) (by omega)).mono ?_
  rintro e w' ⟨rfl, rfl⟩
  go_wp2
  go_ret
  exact ⟨rfl, Grown.refl _⟩

set_option maxRecDepth 100000 in
set_option maxHeartbeats 4000000 in
theorem back_zero (a : Int) (ha : -9223372036854775808 ≤ a) (ha' : a ≤ 9223372036854775807) (w : World) (hT : Tab w) :
    Calls Tryd.prog 4 #[.int .i64 a, .int .i64 0] w fun e w' => e = .returned (.bool true) ∧ Grown w w' := by
  have P0 := add_fits (a := a) (b := 0) (by omega) (by omega)
  have Q0 := mul_fits (a := a) (b := 0) (by rw [Int.mul_zero]; omega) (by rw [Int.mul_zero]; omega)
  rw [Int.mul_zero] at Q0
  rw [Int.add_zero] at P0
  have P := hide P0
  have Q := hide Q0
  clear P0 Q0
  go_enter Tryd.func4, Tryd.ntmps4
  go_wp2_with fail
  refine (begun_true _ hT).mono ?_
  rintro e w' ⟨rfl, rfl⟩
  go_wp2_with fail
  refine (add_to a 0 _ _ P.out.2 P.out.1 _ (by omega) (by omega) (by omega) (by omega)).mono ?_
  rintro e w' ⟨rfl, rfl⟩
  go_wp2_with fail
  refine (mul_to a 0 _ _ Q.out.2 Q.out.1 _ (by omega) (by omega) (by omega) (by omega)).mono ?_
  rintro e w' ⟨rfl, rfl⟩
  go_wp2_with fail
  refine (add_to 0 a _ _ ((addV_comm a 0).trans P.out.2) ((addB_comm a 0).trans P.out.1) _ (by omega) (by omega) (by omega) (by omega)).mono ?_
  rintro e w' ⟨rfl, rfl⟩
  go_wp2_with fail
  refine (mul_to 0 a _ _ ((mulV_comm a 0).trans Q.out.2) ((mulB_comm a 0).trans Q.out.1) _ (by omega) (by omega) (by omega) (by omega)).mono ?_
  rintro e w' ⟨rfl, rfl⟩
  go_wp2
  go_ret
  exact ⟨rfl, Grown.refl _⟩

set_option maxRecDepth 100000 in
set_option maxHeartbeats 4000000 in
theorem back_yn_lt (a : Int) (ha : -9223372036854775808 ≤ a) (ha' : a ≤ 9223372036854775807) (b : Int) (hb : -9223372036854775808 ≤ b) (hb' : b ≤ 9223372036854775807) (w : World) (hT : Tab w) (f1 : -9223372036854775808 ≤ a + b) (f2 : a + b ≤ 9223372036854775807) (g : a * b < -9223372036854775808 ∨ 9223372036854775807 < a * b) (h : b < 0) :
    Calls Tryd.prog 4 #[.int .i64 a, .int .i64 b] w fun e w' => e = .returned (.bool true) ∧ Grown w w' := by
  have P := hide (add_fits f1 f2)
  have Q := hide (mul_not g)
  have hz : ¬ (-2147483648 < a ∧ a < 2147483648 ∧ -2147483648 < b ∧ b < 2147483648) := fun hc => by
    have := mulAbs a b 2147483648 2147483648 (by omega) (by omega) (by omega) (by omega) (by omega); omega
  have B := hide hz
  have ha0 : (a == 0) = false := by
    rw [beq_eq_false_iff_ne]; rintro rfl; rw [Int.zero_mul] at g; omega
  have hb0 : (b == 0) = false := by
    rw [beq_eq_false_iff_ne]; rintro rfl; rw [Int.mul_zero] at g; omega
  clear g hz
  generalize hx : a + b = x at *
  have X := hide hx
  have x1 : x < a := by omega
  have x2 : x - b ≤ a := by omega
  have x3 : a ≤ x - b := by omega
  clear hx
  go_enter Tryd.func4, Tryd.ntmps4
  go_wp2_with fail
  refine (begun_true _ hT).mono ?_
  rintro e w' ⟨rfl, rfl⟩
  go_wp2_with fail
  refine (add_to a b _ _ P.out.2 P.out.1 _ (by omega) (by omega) (by omega) (by omega)).mono ?_
  rintro e w' ⟨rfl, rfl⟩
  go_wp2_with fail
  refine (mul_to a b _ _ Q.out.2 Q.out.1 _ (by omega) (by omega) (by omega) (by omega)).mono ?_
  rintro e w' ⟨rfl, rfl⟩
  go_wp2_with fail
  refine (add_to b a _ _ ((addV_comm a b).trans P.out.2) ((addB_comm a b).trans P.out.1) _ (by omega) (by omega) (by omega) (by omega)).mono ?_
  rintro e w' ⟨rfl, rfl⟩
  go_wp2_with fail
  refine (mul_to b a _ _ ((mulV_comm a b).trans Q.out.2) ((mulB_comm a b).trans Q.out.1) _ (by omega) (by omega) (by omega) (by omega)).mono ?_
  rintro e w' ⟨rfl, rfl⟩
  go_wp2
  all_goals first
    | (go_ret; exact ⟨rfl, Grown.refl _⟩)
    | (go_ret; refine ⟨ret_bool ?_, Grown.refl _⟩; have := B.out; simp; omega)

set_option maxRecDepth 100000 in
set_option maxHeartbeats 4000000 in
theorem back_yn_gt (a : Int) (ha : -9223372036854775808 ≤ a) (ha' : a ≤ 9223372036854775807) (b : Int) (hb : -9223372036854775808 ≤ b) (hb' : b ≤ 9223372036854775807) (w : World) (hT : Tab w) (f1 : -9223372036854775808 ≤ a + b) (f2 : a + b ≤ 9223372036854775807) (g : a * b < -9223372036854775808 ∨ 9223372036854775807 < a * b) (h : 0 < b) :
    Calls Tryd.prog 4 #[.int .i64 a, .int .i64 b] w fun e w' => e = .returned (.bool true) ∧ Grown w w' := by
  have P := hide (add_fits f1 f2)
  have Q := hide (mul_not g)
  have hz : ¬ (-2147483648 < a ∧ a < 2147483648 ∧ -2147483648 < b ∧ b < 2147483648) := fun hc => by
    have := mulAbs a b 2147483648 2147483648 (by omega) (by omega) (by omega) (by omega) (by omega); omega
  have B := hide hz
  have ha0 : (a == 0) = false := by
    rw [beq_eq_false_iff_ne]; rintro rfl; rw [Int.zero_mul] at g; omega
  have hb0 : (b == 0) = false := by
    rw [beq_eq_false_iff_ne]; rintro rfl; rw [Int.mul_zero] at g; omega
  clear g hz
  generalize hx : a + b = x at *
  have X := hide hx
  have x1 : a < x := by omega
  have x2 : x - b ≤ a := by omega
  have x3 : a ≤ x - b := by omega
  clear hx
  go_enter Tryd.func4, Tryd.ntmps4
  go_wp2_with fail
  refine (begun_true _ hT).mono ?_
  rintro e w' ⟨rfl, rfl⟩
  go_wp2_with fail
  refine (add_to a b _ _ P.out.2 P.out.1 _ (by omega) (by omega) (by omega) (by omega)).mono ?_
  rintro e w' ⟨rfl, rfl⟩
  go_wp2_with fail
  refine (mul_to a b _ _ Q.out.2 Q.out.1 _ (by omega) (by omega) (by omega) (by omega)).mono ?_
  rintro e w' ⟨rfl, rfl⟩
  go_wp2_with fail
  refine (add_to b a _ _ ((addV_comm a b).trans P.out.2) ((addB_comm a b).trans P.out.1) _ (by omega) (by omega) (by omega) (by omega)).mono ?_
  rintro e w' ⟨rfl, rfl⟩
  go_wp2_with fail
  refine (mul_to b a _ _ ((mulV_comm a b).trans Q.out.2) ((mulB_comm a b).trans Q.out.1) _ (by omega) (by omega) (by omega) (by omega)).mono ?_
  rintro e w' ⟨rfl, rfl⟩
  go_wp2
  all_goals first
    | (go_ret; exact ⟨rfl, Grown.refl _⟩)
    | (go_ret; refine ⟨ret_bool ?_, Grown.refl _⟩; have := B.out; simp; omega)

set_option maxRecDepth 100000 in
set_option maxHeartbeats 4000000 in
theorem back_ny_lt (a : Int) (ha : -9223372036854775808 ≤ a) (ha' : a ≤ 9223372036854775807) (b : Int) (hb : -9223372036854775808 ≤ b) (hb' : b ≤ 9223372036854775807) (w : World) (hT : Tab w) (f : a + b < -9223372036854775808 ∨ 9223372036854775807 < a + b) (g1 : -9223372036854775808 ≤ a * b) (g2 : a * b ≤ 9223372036854775807) (h : b < 0) :
    Calls Tryd.prog 4 #[.int .i64 a, .int .i64 b] w fun e w' => e = .returned (.bool true) ∧ Grown w w' := by
  have P := hide (add_not f)
  have Q := hide (mul_fits g1 g2)
  have hm : (a * b).tmod b = 0 := Int.mul_tmod_left a b
  have hd : wrap64 ((a * b).tdiv b) = a := by rw [Int.mul_tdiv_cancel a (by omega)]; unfold wrap64; omega
  generalize a * b = y at *
  have ha0 : a < 0 := by omega
  have hs : (!(decide (0 ≤ a) == decide (0 ≤ b))) = false := by
    have s1 : decide (0 ≤ a) = false := by simp; omega
    have s2 : decide (0 ≤ b) = false := by simp; omega
    rw [s1, s2]; rfl
  clear f
  go_enter Tryd.func4, Tryd.ntmps4
  go_wp2_with fail
  refine (begun_true _ hT).mono ?_
  rintro e w' ⟨rfl, rfl⟩
  go_wp2_with fail
  refine (add_to a b _ _ P.out.2 P.out.1 _ (by omega) (by omega) (by omega) (by omega)).mono ?_
  rintro e w' ⟨rfl, rfl⟩
  go_wp2_with fail
  refine (mul_to a b _ _ Q.out.2 Q.out.1 _ (by omega) (by omega) (by omega) (by omega)).mono ?_
  rintro e w' ⟨rfl, rfl⟩
  go_wp2_with fail
  refine (add_to b a _ _ ((addV_comm a b).trans P.out.2) ((addB_comm a b).trans P.out.1) _ (by omega) (by omega) (by omega) (by omega)).mono ?_
  rintro e w' ⟨rfl, rfl⟩
  go_wp2_with fail
  refine (mul_to b a _ _ ((mulV_comm a b).trans Q.out.2) ((mulB_comm a b).trans Q.out.1) _ (by omega) (by omega) (by omega) (by omega)).mono ?_
  rintro e w' ⟨rfl, rfl⟩
  go_wp2
  go_ret
  exact ⟨rfl, Grown.refl _⟩

set_option maxRecDepth 100000 in
set_option maxHeartbeats 4000000 in
theorem back_ny_gt (a : Int) (ha : -9223372036854775808 ≤ a) (ha' : a ≤ 9223372036854775807) (b : Int) (hb : -9223372036854775808 ≤ b) (hb' : b ≤ 9223372036854775807) (w : World) (hT : Tab w) (f : a + b < -9223372036854775808 ∨ 9223372036854775807 < a + b) (g1 : -9223372036854775808 ≤ a * b) (g2 : a * b ≤ 9223372036854775807) (h : 0 < b) :
    Calls Tryd.prog 4 #[.int .i64 a, .int .i64 b] w fun e w' => e = .returned (.bool true) ∧ Grown w w' := by
  have P := hide (add_not f)
  have Q := hide (mul_fits g1 g2)
  have hm : (a * b).tmod b = 0 := Int.mul_tmod_left a b
  have hd : (a * b).tdiv b = a := Int.mul_tdiv_cancel a (by omega)
  generalize a * b = y at *
  have ha0 : 0 ≤ a := by omega
  have hs : (!(decide (0 ≤ a) == decide (0 ≤ b))) = false := by
    have s1 : decide (0 ≤ a) = true := by simp; omega
    have s2 : decide (0 ≤ b) = true := by simp; omega
    rw [s1, s2]; rfl
  have hbz : 0 ≤ b := by omega
  clear f
  go_enter Tryd.func4, Tryd.ntmps4
  go_wp2_with fail
  refine (begun_true _ hT).mono ?_
  rintro e w' ⟨rfl, rfl⟩
  go_wp2_with fail
  refine (add_to a b _ _ P.out.2 P.out.1 _ (by omega) (by omega) (by omega) (by omega)).mono ?_
  rintro e w' ⟨rfl, rfl⟩
  go_wp2_with fail
  refine (mul_to a b _ _ Q.out.2 Q.out.1 _ (by omega) (by omega) (by omega) (by omega)).mono ?_
  rintro e w' ⟨rfl, rfl⟩
  go_wp2_with fail
  refine (add_to b a _ _ ((addV_comm a b).trans P.out.2) ((addB_comm a b).trans P.out.1) _ (by omega) (by omega) (by omega) (by omega)).mono ?_
  rintro e w' ⟨rfl, rfl⟩
  go_wp2_with fail
  refine (mul_to b a _ _ ((mulV_comm a b).trans Q.out.2) ((mulB_comm a b).trans Q.out.1) _ (by omega) (by omega) (by omega) (by omega)).mono ?_
  rintro e w' ⟨rfl, rfl⟩
  go_wp2
  go_ret
  exact ⟨rfl, Grown.refl _⟩

set_option maxRecDepth 100000 in
set_option maxHeartbeats 4000000 in
theorem back_nn_lt (a : Int) (ha : -9223372036854775808 ≤ a) (ha' : a ≤ 9223372036854775807) (b : Int) (hb : -9223372036854775808 ≤ b) (hb' : b ≤ 9223372036854775807) (w : World) (hT : Tab w) (f : a + b < -9223372036854775808 ∨ 9223372036854775807 < a + b) (g : a * b < -9223372036854775808 ∨ 9223372036854775807 < a * b) (h : b < 0) :
    Calls Tryd.prog 4 #[.int .i64 a, .int .i64 b] w fun e w' => e = .returned (.bool true) ∧ Grown w w' := by
  have P := hide (add_not f)
  have Q := hide (mul_not g)
  have hz : ¬ (-2147483648 < a ∧ a < 2147483648 ∧ -2147483648 < b ∧ b < 2147483648) := fun hc => by
    have := mulAbs a b 2147483648 2147483648 (by omega) (by omega) (by omega) (by omega) (by omega); omega
  have B := hide hz
  have ha0 : (a == 0) = false := by
    rw [beq_eq_false_iff_ne]; rintro rfl; rw [Int.zero_mul] at g; omega
  have hb0 : (b == 0) = false := by
    rw [beq_eq_false_iff_ne]; rintro rfl; rw [Int.mul_zero] at g; omega
  clear g hz
  have ha1 : a < 0 := by omega
  have hs : (!(decide (0 ≤ a) == decide (0 ≤ b))) = false := by
    have s1 : decide (0 ≤ a) = false := by simp; omega
    have s2 : decide (0 ≤ b) = false := by simp; omega
    rw [s1, s2]; rfl
  clear f
  go_enter Tryd.func4, Tryd.ntmps4
  go_wp2_with fail
  refine (begun_true _ hT).mono ?_
  rintro e w' ⟨rfl, rfl⟩
  go_wp2_with fail
  refine (add_to a b _ _ P.out.2 P.out.1 _ (by omega) (by omega) (by omega) (by omega)).mono ?_
  rintro e w' ⟨rfl, rfl⟩
  go_wp2_with fail
  refine (mul_to a b _ _ Q.out.2 Q.out.1 _ (by omega) (by omega) (by omega) (by omega)).mono ?_
  rintro e w' ⟨rfl, rfl⟩
  go_wp2_with fail
  refine (add_to b a _ _ ((addV_comm a b).trans P.out.2) ((addB_comm a b).trans P.out.1) _ (by omega) (by omega) (by omega) (by omega)).mono ?_
  rintro e w' ⟨rfl, rfl⟩
  go_wp2_with fail
  refine (mul_to b a _ _ ((mulV_comm a b).trans Q.out.2) ((mulB_comm a b).trans Q.out.1) _ (by omega) (by omega) (by omega) (by omega)).mono ?_
  rintro e w' ⟨rfl, rfl⟩
  go_wp2
  all_goals first
    | (go_ret; exact ⟨rfl, Grown.refl _⟩)
    | (go_ret; refine ⟨ret_bool ?_, Grown.refl _⟩; have := B.out; simp; omega)

set_option maxRecDepth 100000 in
set_option maxHeartbeats 4000000 in
theorem back_nn_gt (a : Int) (ha : -9223372036854775808 ≤ a) (ha' : a ≤ 9223372036854775807) (b : Int) (hb : -9223372036854775808 ≤ b) (hb' : b ≤ 9223372036854775807) (w : World) (hT : Tab w) (f : a + b < -9223372036854775808 ∨ 9223372036854775807 < a + b) (g : a * b < -9223372036854775808 ∨ 9223372036854775807 < a * b) (h : 0 < b) :
    Calls Tryd.prog 4 #[.int .i64 a, .int .i64 b] w fun e w' => e = .returned (.bool true) ∧ Grown w w' := by
  have P := hide (add_not f)
  have Q := hide (mul_not g)
  have hz : ¬ (-2147483648 < a ∧ a < 2147483648 ∧ -2147483648 < b ∧ b < 2147483648) := fun hc => by
    have := mulAbs a b 2147483648 2147483648 (by omega) (by omega) (by omega) (by omega) (by omega); omega
  have B := hide hz
  have ha0 : (a == 0) = false := by
    rw [beq_eq_false_iff_ne]; rintro rfl; rw [Int.zero_mul] at g; omega
  have hb0 : (b == 0) = false := by
    rw [beq_eq_false_iff_ne]; rintro rfl; rw [Int.mul_zero] at g; omega
  clear g hz
  have ha1 : 0 ≤ a := by omega
  have hs : (!(decide (0 ≤ a) == decide (0 ≤ b))) = false := by
    have s1 : decide (0 ≤ a) = true := by simp; omega
    have s2 : decide (0 ≤ b) = true := by simp; omega
    rw [s1, s2]; rfl
  have hbz : 0 ≤ b := by omega
  clear f
  go_enter Tryd.func4, Tryd.ntmps4
  go_wp2_with fail
  refine (begun_true _ hT).mono ?_
  rintro e w' ⟨rfl, rfl⟩
  go_wp2_with fail
  refine (add_to a b _ _ P.out.2 P.out.1 _ (by omega) (by omega) (by omega) (by omega)).mono ?_
  rintro e w' ⟨rfl, rfl⟩
  go_wp2_with fail
  refine (mul_to a b _ _ Q.out.2 Q.out.1 _ (by omega) (by omega) (by omega) (by omega)).mono ?_
  rintro e w' ⟨rfl, rfl⟩
  go_wp2_with fail
  refine (add_to b a _ _ ((addV_comm a b).trans P.out.2) ((addB_comm a b).trans P.out.1) _ (by omega) (by omega) (by omega) (by omega)).mono ?_
  rintro e w' ⟨rfl, rfl⟩
  go_wp2_with fail
  refine (mul_to b a _ _ ((mulV_comm a b).trans Q.out.2) ((mulB_comm a b).trans Q.out.1) _ (by omega) (by omega) (by omega) (by omega)).mono ?_
  rintro e w' ⟨rfl, rfl⟩
  go_wp2
  all_goals first
    | (go_ret; exact ⟨rfl, Grown.refl _⟩)
    | (go_ret; refine ⟨ret_bool ?_, Grown.refl _⟩; have := B.out; simp; omega)

theorem calcBack_walk (a : Int) (ha : -9223372036854775808 ≤ a) (ha' : a ≤ 9223372036854775807) (b : Int) (hb : -9223372036854775808 ≤ b) (hb' : b ≤ 9223372036854775807) (w : World) (hT : Tab w) :
    Calls Tryd.prog 4 #[.int .i64 a, .int .i64 b] w fun e w' => e = .returned (.bool true) ∧ Grown w w' := by
  rcases Int.lt_trichotomy b 0 with h | h | h
  · rcases add_cases a b with ⟨_, _, f1, f2⟩ | ⟨_, _, f⟩ <;> rcases mul_cases a b with ⟨_, _, g1, g2⟩ | ⟨_, _, g⟩
    · exact back_yy_lt a ha ha' b hb hb' w hT f1 f2 g1 g2 h
    · exact back_yn_lt a ha ha' b hb hb' w hT f1 f2 g h
    · exact back_ny_lt a ha ha' b hb hb' w hT f g1 g2 h
    · exact back_nn_lt a ha ha' b hb hb' w hT f g h
  · subst h
    exact back_zero a ha ha' w hT
  · rcases add_cases a b with ⟨_, _, f1, f2⟩ | ⟨_, _, f⟩ <;> rcases mul_cases a b with ⟨_, _, g1, g2⟩ | ⟨_, _, g⟩
    · exact back_yy_gt a ha ha' b hb hb' w hT f1 f2 g1 g2 h
    · exact back_yn_gt a ha ha' b hb hb' w hT f1 f2 g h
    · exact back_ny_gt a ha ha' b hb hb' w hT f g1 g2 h
    · exact back_nn_gt a ha ha' b hb hb' w hT f g h

set_option linter.unusedVariables false
set_option maxRecDepth 100000 in
theorem calcBack_lifted (os : Os) (started : os.Started) (H : Type) (enc : TypeId × Value → H) :
    ReturnsInHanded {} Tryd.checked os 4 .any (fun w args => (Rows.calcBackSpec.pre enc Tryd.prog Tryd.f4 [] false w args ∧ laidMetH Tryd.prog laid1 w) ∧ sizedMet enc Tryd.prog Tryd.f4 (OpenSpec.ofChange Rows.calcBackSpec) false w args)
      (Rows.calcBackSpec.post enc Tryd.prog Tryd.f4 false true false false) := by
  refine returnsInHanded_of_change_and (C := Tryd.checked) (X := fun w _ => laidMetH Tryd.prog laid1 w) (fun _ _ _ hh h => h.of_heap hh) own started (by kernel_rfl) Tryd.func4
    (ChangeSpec.witness_shaped (enc := enc) (C := Tryd.checked) (os := os) (X := fun w _ => laidMetH Tryd.prog laid1 w) false (World.doorLaid Tryd.prog 400 os) #[.int .i64 0, .int .i64 0] 8 rfl (World.shaped_of_RefB (by kernel_rfl) (by kernel_rfl)) (by kernel_rfl) (by kernel_rfl) (by kernel_rfl) (door_met os _)) ?_
  intro W base args ds gs before hval0 hW _ _ hL _
  have hval : ∀ (j : Nat) t v, Tryd.f4.params[j]? = some t → args[j]? = some v → Value.okWide Tryd.prog W .any base t v := hval0
  have hW' := hW
  obtain ⟨p, q, hA0, hV, rfl, hfz, hnd⟩ := hW
  have hA : DataW.TrodAll enc Tryd.prog W 0 (fun _ => true) true Tryd.f4.params.toList args.toList ds p := hA0
  rw [Tryd.params4] at hA hval
  obtain ⟨v0, vs0, d0, ds0, p0, q0, hargs, rfl, rfl, h0, r0⟩ := trodAll_cons hA
  obtain ⟨v1, vs1, d1, ds1, p1, q1, rfl, rfl, rfl, h1, r1⟩ := trodAll_cons r0
  obtain ⟨rfl, rfl, rfl⟩ := trodAll_nil r1
  obtain rfl : args = #[v0, v1] := by cases args; simp_all
  obtain ⟨rfl, rfl⟩ := trodVars_none hV
  obtain ⟨a0, rfl, rfl, rfl, w0⟩ := open_int Tryd.underlying3 (hval 0 3 v0 rfl rfl) h0
  obtain ⟨a1, rfl, rfl, rfl, w1⟩ := open_int Tryd.underlying3 (hval 1 3 v1 rfl rfl) h1
  clear hA0 hval0
  simp only [List.append_nil] at hW'
  have hT := tab_of_laid hL
  refine (calcBack_walk a0 (bounds_i64 w0).1 (bounds_i64 w0).2 a1 (bounds_i64 w1).1 (bounds_i64 w1).2 W hT).mono fun e W' ⟨he, hg⟩ => ?_
  subst he
  exact ⟨_, rfl, post_of_same (pa := []) (pv := []) hW' (fun _ _ _ => (trodAll_cons_mk (shut_bool Tryd.underlying4 _) trodAll_mk0)) (fun sp _ => (trodAll_cons_mk (shut_int Tryd.underlying3 w0) (trodAll_cons_mk (shut_int Tryd.underlying3 w1) trodAll_mk0))) (fun _ _ => rfl) rfl
    (hg.frame _) hg.2.1 (ok_one (by kernel_rfl) rfl (okWide_bool_mk Tryd.underlying4 _))⟩

theorem calcBack_row : Rows.CalcBackSaid :=
  OpenClaim.holds_of_wide 4 Tryd.f4 rfl rfl rfl rfl rfl rfl rfl ⟨rfl, rfl, rfl, rfl, rfl⟩ rfl rfl rfl rfl rfl (by kernel_rfl) Tryd.func4 (by kernel_rfl)
    (of_decide_eq_true (by kernel_rfl)) (by unfold Func.isWrapper; first | (rw [if_pos (by decide +kernel)]; kernel_rfl) | (rw [if_neg (by decide +kernel)]; exact ⟨rfl, rfl⟩))
    (fun os started H enc _ => calcBack_lifted os started H enc)

theorem calcBack_holds : Rows.CalcBackCardSaid :=
  Claim7.holds_tied_plain_at .later [] [.data] true (true, "acffdefef437e78adee8462911a6cd1cffdc6a3285f915a7e64319b1f8b6fc81") false
    calcBack_row (fun _ h => by cases h) (by kernel_rfl) (fun _ h => by cases h) calcBack_row_tie rfl ⟨rfl, rfl⟩ (by kernel_rfl) rfl
    (fun f fn hf hfn => by
      obtain rfl : f = 4 := Option.some.inj ((show Tryd.prog.funcNamed "hodman/hodmanlaw1.CalcBack" = some 4 by kernel_rfl).symm.trans hf) |>.symm
      obtain rfl : fn = Tryd.f4 := (Option.some.inj (Tryd.func4.symm.trans hfn)).symm
      exact ⟨by kernel_rfl, fun j t ht => by
        rw [Tryd.params4] at ht
        have hm : t ∈ [3, 3] := by simpa using Array.mem_of_getElem? ht
        have hall : ([3, 3].all fun u => !Tryd.prog.wantsStandIn u) = true := by kernel_rfl
        exact (show Tryd.prog.wantsStandIn t = false by simpa using List.all_eq_true.1 hall t hm)⟩)
    (by kernel_rfl)
#print axioms calcBack_holds
end Go.Proofs.YtmjnnccfigbkmaaDoor
