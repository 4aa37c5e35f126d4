/- hodmanlaw7's own helper begun, as a contract: it answers true, and makes new memory alone; and the contracts of class with the answer written out. Condition: the library's table lies in its variable. -/
import Derived.Test.YtnknifhbbkccoaaDoorClass
import Derived.Test.YtnknifhbbkccoaaDoorRef1Conf
import Derived.Test.YtnknifhbbkccoaaDoorHas
import Derived.Test.YtnknifhbbkccoaaDoorTab
namespace Go.Proofs.YtnknifhbbkccoaaDoor
open Go.RowKit

theorem rof_to (r : Rw) (c : Cf) (e0 : Int) (hc : ofC r = c) (he : ofE r = e0) (w : World) :
    Calls Tryd.prog 16 #[r.val] w fun e w' => e = .returned (.tuple #[c.val, .int .i64 e0]) ∧ Kept w w' := by
  subst hc; subst he; exact rof_any r w
theorem charge_to (c : Cf) (s a v e0 : Int) (hv : chV c.g c.n s a = v) (he : chE c.n s a = e0) (w : World) (hg1 : 1 ≤ c.g) (hg : c.g ≤ 65536) (hn : c.n ≤ 65536) (ha : -9223372036854775808 ≤ a) (ha' : a ≤ 9223372036854775807) (hT : Tab w) :
    Calls Tryd.prog 10 #[c.val, .int .i64 s, .int .i64 a] w fun e w' => e = .returned (.tuple #[.int .i64 v, .int .i64 e0]) ∧ w' = w.alloc (c.obj 25) := by
  subst hv; subst he; exact charge_any c s a w hg1 hg hn ha ha' hT
theorem class_to (c : Cf) (a l : Nat) (x v : Int) (b : Bool) (hv : shV a l x = v) (hb : shB a l x = b) (w : World) (ha : a ≤ 16) (hl : l ≤ 16) (hg : c.g = ((2 ^ a : Nat) : Int)) (hc : c.l = l) (hT : Tab w) :
    Calls Tryd.prog 14 #[c.val, .int .i64 x] w fun e w' => e = .returned (.tuple #[.int .i64 v, .bool b]) ∧ w' = w.alloc (c.obj 25) := by
  subst hv; subst hb; exact class_any c a l x w ha hl hg hc hT
theorem product_to (c : Cf) (x y v e0 : Int) (hv : prV c.n x y = v) (he : prE c.n x y = e0) (w : World) (hx : -9223372036854775808 ≤ x) (hx' : x ≤ 9223372036854775807) (hy : -9223372036854775808 ≤ y) (hy' : y ≤ 9223372036854775807) :
    Calls Tryd.prog 12 #[c.val, .int .i64 x, .int .i64 y] w fun e w' => e = .returned (.tuple #[.int .i64 v, .int .i64 e0]) ∧ w' = w.alloc (c.obj 25) := by
  subst hv; subst he; exact product_any c x y w hx hx' hy hy'

set_option maxRecDepth 100000 in
theorem begun7_true (w : World) (hT : Tab w) : Calls Tryd.prog 7 #[] w fun e w' => e = .returned (.bool true) ∧ Kept w w' := by
  have o1 := hide (fun w => rof_to ⟨1, 8, 8, 1, 0, 0⟩ ⟨1, 8, 16, 3, 1, 0, 40, 0⟩ 0 (by kernel_rfl) (by kernel_rfl) w)
  have c1 := hide (fun w hT => charge_to ⟨1, 8, 16, 3, 1, 0, 40, 0⟩ 5 1 8 0 (by kernel_rfl) (by kernel_rfl) w (by decide) (by decide) (by decide) (by decide) (by decide) hT)
  have c2 := hide (fun w hT => charge_to ⟨1, 8, 16, 3, 1, 0, 40, 0⟩ 9 1 0 4 (by kernel_rfl) (by kernel_rfl) w (by decide) (by decide) (by decide) (by decide) (by decide) hT)
  have s1 := hide (fun w hT => class_to ⟨1, 8, 16, 3, 1, 0, 40, 0⟩ 0 3 4 2 true (by kernel_rfl) (by kernel_rfl) w (by decide) (by decide) rfl rfl hT)
  have p1 := hide (fun w => product_to ⟨1, 8, 16, 3, 1, 0, 40, 0⟩ 2 3 6 0 (by kernel_rfl) (by kernel_rfl) w (by decide) (by decide) (by decide) (by decide))
  go_enter Tryd.func7, Tryd.ntmps7
  go_wp2_with fail
  refine (o1.out _).mono ?_
  rintro e w1 ⟨rfl, k1⟩
  have K1 := hide k1
  clear k1
  go_wp2_with fail
  refine (c1.out _ (hT.kept (K1.out.alloc _ _))).mono ?_
  rintro e w2 ⟨rfl, rfl⟩
  go_wp2_with fail
  refine (c2.out _ (hT.kept ((K1.out.alloc _ _).alloc _ _))).mono ?_
  rintro e w2 ⟨rfl, rfl⟩
  go_wp2_with fail
  refine (s1.out _ (hT.kept (((K1.out.alloc _ _).alloc _ _).alloc _ _))).mono ?_
  rintro e w2 ⟨rfl, rfl⟩
  go_wp2_with fail
  refine (p1.out _).mono ?_
  rintro e w2 ⟨rfl, rfl⟩
  go_wp2
  go_ret
  exact ⟨rfl, ((((K1.out.alloc _ _).alloc _ _).alloc _ _).alloc _ _).alloc _ _⟩
end Go.Proofs.YtnknifhbbkccoaaDoor
