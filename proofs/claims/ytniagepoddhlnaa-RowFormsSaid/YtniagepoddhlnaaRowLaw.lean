/- What is asked of package row, as contracts (Set, Count and the others as plain functions of what they are handed; new memory alone is turned), and what follows of them: hodmanlaw4's own helper begun answers true. -/
import Derived.Test.YtniagepoddhlnaaRowMem
namespace Go.Proofs.Ytniagepoddhlnaa
open Go.RowKit

/-- new memory alone -/
abbrev Fresh (w w' : World) : Prop := Below w.heap.size w w'
theorem Fresh.refl (w : World) : Fresh w w := Below.refl _ _
theorem Fresh.trans {a b c : World} (h : Fresh a b) (k : Fresh b c) : Fresh a c := Below.trans h (k.mono h.size)
theorem Fresh.drewN (w : World) (n : Nat) : Fresh w (w.drewN n) := ⟨rfl, rfl, rfl, Nat.le_refl _, fun _ _ => rfl⟩
theorem WordsAt.fresh {w w' : World} {v : Value} {ws : List Nat} (h : WordsAt w v ws) (k : Fresh w w') : WordsAt w' v ws := h.below k (Nat.le_refl _)
def foundE (o : Option Nat) : Ending := .returned (.tuple #[.int .i64 ((o.getD 0 : Nat) : Int), .bool o.isSome])

structure RowSays : Prop where
  new : ∀ (size : Int) (w : World), -9223372036854775808 ≤ size → size ≤ 1073741824 → Calls Try.prog 19 #[.int .i64 size] w fun e w' => ∃ v, e = .returned v ∧ WordsAt w' v (newW size) ∧ Fresh w w'
  has : ∀ (v : Value) (ws : List Nat) (i : Int) (w : World), WordsAt w v ws → -9223372036854775808 ≤ i → i ≤ 9223372036854775807 → Calls Try.prog 12 #[v, .int .i64 i] w fun e w' => e = .returned (.bool (hasW ws i)) ∧ Fresh w w'
  set : ∀ (v : Value) (ws : List Nat) (f n : Int) (on : Bool) (w : World), WordsAt w v ws → -9223372036854775808 ≤ f → f ≤ 9223372036854775807 → -9223372036854775808 ≤ n → n ≤ 9223372036854775807 → Calls Try.prog 15 #[v, .int .i64 f, .int .i64 n, .bool on] w fun e w' => ∃ v', e = .returned v' ∧ WordsAt w' v' (setW ws f n on) ∧ Fresh w w'
  count : ∀ (v : Value) (ws : List Nat) (f n : Int) (w : World), WordsAt w v ws → -9223372036854775808 ≤ f → f ≤ 9223372036854775807 → -9223372036854775808 ≤ n → n ≤ 9223372036854775807 → Calls Try.prog 17 #[v, .int .i64 f, .int .i64 n] w fun e w' => e = .returned (.int .i64 (cntW ws f n : Nat)) ∧ Fresh w w'
  first : ∀ (v : Value) (ws : List Nat) (s f : Int) (w : World), WordsAt w v ws → -9223372036854775808 ≤ s → s ≤ 9223372036854775807 → -9223372036854775808 ≤ f → f ≤ 9223372036854775807 → Calls Try.prog 10 #[v, .int .i64 s, .int .i64 f] w fun e w' => e = foundE (firstW ws s f) ∧ Fresh w w'

/-- the same, the answer spelt by the caller -/
theorem RowSays.new_to (R : RowSays) (size : Int) (ws : List Nat) (hr : newW size = ws) (w : World) (h1 : -9223372036854775808 ≤ size) (h2 : size ≤ 1073741824) :
    Calls Try.prog 19 #[.int .i64 size] w fun e w' => ∃ v, e = .returned v ∧ WordsAt w' v ws ∧ Fresh w w' := by subst hr; exact R.new size w h1 h2
theorem RowSays.has_to (R : RowSays) (v : Value) (ws : List Nat) (i : Int) (b : Bool) (hr : hasW ws i = b) (w : World) (h : WordsAt w v ws) (h1 : -9223372036854775808 ≤ i) (h2 : i ≤ 9223372036854775807) :
    Calls Try.prog 12 #[v, .int .i64 i] w fun e w' => e = .returned (.bool b) ∧ Fresh w w' := by subst hr; exact R.has v ws i w h h1 h2
theorem RowSays.set_to (R : RowSays) (v : Value) (ws : List Nat) (f n : Int) (on : Bool) (us : List Nat) (hr : setW ws f n on = us) (w : World) (h : WordsAt w v ws) (h1 : -9223372036854775808 ≤ f) (h2 : f ≤ 9223372036854775807) (h3 : -9223372036854775808 ≤ n) (h4 : n ≤ 9223372036854775807) :
    Calls Try.prog 15 #[v, .int .i64 f, .int .i64 n, .bool on] w fun e w' => ∃ v', e = .returned v' ∧ WordsAt w' v' us ∧ Fresh w w' := by subst hr; exact R.set v ws f n on w h h1 h2 h3 h4
theorem RowSays.count_to (R : RowSays) (v : Value) (ws : List Nat) (f n c : Int) (hr : (cntW ws f n : Int) = c) (w : World) (h : WordsAt w v ws) (h1 : -9223372036854775808 ≤ f) (h2 : f ≤ 9223372036854775807) (h3 : -9223372036854775808 ≤ n) (h4 : n ≤ 9223372036854775807) :
    Calls Try.prog 17 #[v, .int .i64 f, .int .i64 n] w fun e w' => e = .returned (.int .i64 c) ∧ Fresh w w' := by subst hr; exact R.count v ws f n w h h1 h2 h3 h4
theorem RowSays.first_to (R : RowSays) (v : Value) (ws : List Nat) (s f i : Int) (b : Bool) (hr : firstW ws s f = if b then some i.toNat else none) (hi : 0 ≤ i) (hb : b = false → i = 0) (w : World) (h : WordsAt w v ws) (h1 : -9223372036854775808 ≤ s) (h2 : s ≤ 9223372036854775807) (h3 : -9223372036854775808 ≤ f) (h4 : f ≤ 9223372036854775807) :
    Calls Try.prog 10 #[v, .int .i64 s, .int .i64 f] w fun e w' => e = .returned (.tuple #[.int .i64 i, .bool b]) ∧ Fresh w w' := by
  have := R.first v ws s f w h h1 h2 h3 h4
  rw [hr] at this
  cases b with
  | true =>
    have e : foundE (if true = true then some i.toNat else none) = .returned (.tuple #[.int .i64 i, .bool true]) := by
      have : ((i.toNat : Nat) : Int) = i := by omega
      show Ending.returned (.tuple #[.int .i64 ((i.toNat : Nat) : Int), .bool true]) = _
      rw [this]
    rwa [e] at this
  | false =>
    have e : foundE (if false = true then some i.toNat else none) = .returned (.tuple #[.int .i64 i, .bool false]) := by rw [hb rfl]; rfl
    rwa [e] at this

set_option maxRecDepth 100000 in
theorem begun4_true (R : RowSays) (w : World) : Calls Try.prog 8 #[] w fun e w' => e = .returned (.bool true) ∧ Fresh w w' := by
  have RR := hide R
  clear R
  go_enter Try.func8, Try.ntmps8
  go_wp2_with fail
  refine (RR.out.new_to 100 [0, 0] (by decide +kernel) _ (by decide) (by decide)).mono ?_
  rintro e w1 ⟨v, rfl, h1, k1⟩
  have K1 := hide k1
  have H1 := hide h1
  clear h1 k1
  go_wp2_with fail
  refine (RR.out.set_to v [0, 0] 0 64 true [18446744073709551615, 0] (by decide +kernel) _ H1.out (by decide) (by decide) (by decide) (by decide)).mono ?_
  rintro e w2 ⟨v2, rfl, h2, k2⟩
  have K2 := hide (K1.out.trans k2)
  have H2 := hide h2
  obtain ⟨a2, c2, rfl, -⟩ := h2
  clear k2 H1 K1
  go_wp2_with fail
  refine (RR.out.first_to _ _ 100 0 64 true (by decide +kernel) (by decide) (by decide) _ H2.out (by decide) (by decide) (by decide) (by decide)).mono ?_
  rintro e w3 ⟨rfl, k3⟩
  have K3 := hide (K2.out.trans k3)
  have H3 := hide (H2.out.fresh k3)
  clear k3 H2 K2
  go_wp2_with fail
  refine (RR.out.has_to _ _ 5 true (by decide +kernel) _ H3.out (by decide) (by decide)).mono ?_
  rintro e w4 ⟨rfl, k4⟩
  have K4 := hide (K3.out.trans k4)
  have H4 := hide (H3.out.fresh k4)
  clear k4 H3 K3
  go_wp2_with fail
  refine (RR.out.has_to _ _ 64 false (by decide +kernel) _ H4.out (by decide) (by decide)).mono ?_
  rintro e w5 ⟨rfl, k5⟩
  have K5 := hide (K4.out.trans k5)
  have H5 := hide (H4.out.fresh k5)
  clear k5 H4 K4
  go_wp2_with fail
  refine (RR.out.count_to _ _ 60 10 4 (by decide +kernel) _ H5.out (by decide) (by decide) (by decide) (by decide)).mono ?_
  rintro e w6 ⟨rfl, k6⟩
  have K6 := hide (K5.out.trans k6)
  clear k6 H5 K5
  go_wp2
  go_ret
  exact ⟨rfl, K6.out⟩
end Go.Proofs.Ytniagepoddhlnaa
