/- Plain arithmetic of conf, of no program: what there is of what is asked for (P2.1, P2.2), as plain functions. Beside it: 'Kept', that a world is another one with new memory alone. -/
import Derived.Test.YtekffikkbiohnaaDoorCalc
import Derived.RowKit3
import Derived.Below
import Derived.Deep.QuietTactic
import Derived.KernelRfl
import Derived.BigQuiet
namespace Go.Proofs.YtekffikkbiohnaaDoor
open Go.RowKit

/-- new memory alone -/
def Kept (w w' : World) : Prop := Below w.heap.size w w' ∧ ∀ a, w'.frozen? a = w.frozen? a
theorem Kept.refl (w : World) : Kept w w := ⟨Below.refl _ _, fun _ => rfl⟩
theorem Kept.trans {a b c : World} (h : Kept a b) (k : Kept b c) : Kept a c := ⟨h.1.trans (k.1.mono h.1.size), fun x => (k.2 x).trans (h.2 x)⟩
theorem Kept.alloc {a w : World} (h : Kept a w) (c : Array Value) (t : TypeId) : Kept a (w.alloc (.cells c t)) := ⟨h.1.alloc h.1.size _, fun x => (frozen?_alloc_cells _ _ _ x).trans (h.2 x)⟩
theorem Kept.setCell {a w : World} (h : Kept a w) {p : Addr} (hp : a.heap.size ≤ p.block) (v : Value) : Kept a (w.setCell p v) := ⟨h.1.setCell hp v, fun x => (World.frozen?_setCell _ _ _ _).trans (h.2 x)⟩
theorem Kept.drew {a w : World} (h : Kept a w) : Kept a w.drew := ⟨h.1.drew, h.2⟩
theorem Kept.drewN {a w : World} (h : Kept a w) (n : Nat) : Kept a (w.drewN n) := ⟨⟨h.1.os, h.1.tape, h.1.output, h.1.size, h.1.block⟩, h.2⟩
theorem Kept.grown {a w : World} (h : Kept a w) : Grown a w := ⟨h.1.frame _, h.2, h.1.size⟩
theorem Kept.cell {a w : World} (h : Kept a w) {p : Addr} {v : Value} (hc : a.cell? p = some v) : w.cell? p = some v := (h.1.cell (World.block_lt_of_cell? _ _ hc)).trans hc
theorem Tab.kept {w w' : World} (h : Tab w) (k : Kept w w') : Tab w' := fun j hj => k.cell (h j hj)

/-- what is asked for -/
structure Rw where
  (g la li pg bu se : Int)
/-- what there is -/
structure Cf where
  (g n m l pg p h se : Int)
def i64 (x : Int) : Prop := -9223372036854775808 ≤ x ∧ x ≤ 9223372036854775807
abbrev Rw.val (r : Rw) : Value := .agg #[.int .i64 r.g, .int .i64 r.la, .int .i64 r.li, .int .i64 r.pg, .int .i64 r.bu, .int .i64 r.se]
abbrev Rw.obj (r : Rw) (t : TypeId) : Obj := .cells #[.int .i64 r.g, .int .i64 r.la, .int .i64 r.li, .int .i64 r.pg, .int .i64 r.bu, .int .i64 r.se] t
abbrev Cf.val (c : Cf) : Value := .agg #[.int .i64 c.g, .int .i64 c.n, .int .i64 c.m, .int .i64 c.l, .int .i64 c.pg, .int .i64 c.p, .int .i64 c.h, .int .i64 c.se]
abbrev Cf.obj (c : Cf) (t : TypeId) : Obj := .cells #[.int .i64 c.g, .int .i64 c.n, .int .i64 c.m, .int .i64 c.l, .int .i64 c.pg, .int .i64 c.p, .int .i64 c.h, .int .i64 c.se] t
def Rw.ok (r : Rw) : Prop := i64 r.g ∧ i64 r.la ∧ i64 r.li ∧ i64 r.pg ∧ i64 r.bu ∧ i64 r.se
def Cf.ok (c : Cf) : Prop := i64 c.g ∧ i64 c.n ∧ i64 c.m ∧ i64 c.l ∧ i64 c.pg ∧ i64 c.p ∧ i64 c.h ∧ i64 c.se

def am (v lo hi : Int) : Bool := decide (lo ≤ v) && decide (v ≤ hi)
def ceilV (m k : Int) : Int := m + k * (m / 2)
def bdd (r : Rw) : Bool := am r.g 1 65536 && am r.la 1 65536 && am r.li 1 65536 && am r.pg 1 65536 && am r.bu 0 65536 && am r.se 0 255
def wkG (r : Rw) : Int := upV r.g
def wkN (r : Rw) : Int := upV (max r.la (wkG r))
def wkP (r : Rw) : Int := upV (max r.pg (wkG r))
def wkM (r : Rw) : Int := roundV r.li (max (wkN r) (wkP r) * 2)
def wkL (r : Rw) : Int := logV (wkN r / wkG r)
def wk (r : Rw) : Cf := ⟨wkG r, wkN r, wkM r, wkL r, wkP r, r.bu, ceilV (wkM r) (wkL r), r.se⟩
def fits (r : Rw) : Bool := bdd r && decide ((wk r).h ≤ 65536)
def ofC (r : Rw) : Cf := if fits r then wk r else ⟨0, 0, 0, 0, 0, 0, 0, 0⟩
def ofE (r : Rw) : Int := if fits r then 0 else 1

theorem upV_pow {v : Int} (h1 : 1 ≤ v) (h2 : v ≤ 65536) : ∃ k : Nat, k ≤ 16 ∧ Least v.toNat k ∧ upB v = true ∧ upV v = ((2 ^ k : Nat) : Int) := by
  rcases up_cases v with ⟨k, hk, _, _, hl, e1, e2⟩ | ⟨_, _, h⟩
  · refine ⟨k, ?_, hl, e1, e2⟩
    refine Nat.le_of_not_lt fun hc => ?_
    have := hl.2 16 hc
    omega
  · exfalso; omega

/-- what follows of numbers that are within their bounds -/
structure Wk (r : Rw) (a b c : Nat) : Prop where
  a16 : a ≤ b
  ac : a ≤ c
  b16 : b ≤ 16
  c16 : c ≤ 16
  g : wkG r = ((2 ^ a : Nat) : Int)
  n : wkN r = ((2 ^ b : Nat) : Int)
  p : wkP r = ((2 ^ c : Nat) : Int)
  l : wkL r = ((b - a : Nat) : Int)
  m : wkM r = upTo r.li (((2 ^ (max b c + 1) : Nat) : Int))
  mb : roundB r.li (max (wkN r) (wkP r) * 2) = true
  gl : Least r.g.toNat a
  nl : Least (max r.la (wkG r)).toNat b
  pl : Least (max r.pg (wkG r)).toNat c
  ub1 : upB r.g = true
  ub2 : upB (max r.la (wkG r)) = true
  ub3 : upB (max r.pg (wkG r)) = true

theorem pow16 {k : Nat} (h : k ≤ 16) : 1 ≤ 2 ^ k ∧ 2 ^ k ≤ 65536 := ⟨Nat.one_le_two_pow, by have := pow_le_pow h; omega⟩
theorem max_pow (b c : Nat) : max (((2 ^ b : Nat)) : Int) ((2 ^ c : Nat) : Int) * 2 = ((2 ^ (max b c + 1) : Nat) : Int) := by
  rcases Nat.le_total b c with h | h
  · have := pow_le_pow h
    rw [Nat.max_eq_right h, Nat.pow_succ]; omega
  · have := pow_le_pow h
    rw [Nat.max_eq_left h, Nat.pow_succ]; omega
theorem bdd_iff (r : Rw) : bdd r = true ↔ (1 ≤ r.g ∧ r.g ≤ 65536) ∧ (1 ≤ r.la ∧ r.la ≤ 65536) ∧ (1 ≤ r.li ∧ r.li ≤ 65536) ∧ (1 ≤ r.pg ∧ r.pg ≤ 65536) ∧ (0 ≤ r.bu ∧ r.bu ≤ 65536) ∧ 0 ≤ r.se ∧ r.se ≤ 255 := by
  simp [bdd, am, Bool.and_eq_true, and_assoc]

theorem div_pow {a b : Nat} (h : a ≤ b) : ((2 ^ b : Nat) : Int) / ((2 ^ a : Nat) : Int) = ((2 ^ (b - a) : Nat) : Int) := by
  rw [← Int.natCast_ediv]
  congr 1
  rw [show b = (b - a) + a by omega, Nat.pow_add, Nat.mul_div_cancel _ (Nat.two_pow_pos a)]
  congr 1; omega

theorem wk_of {r : Rw} (h : bdd r = true) : ∃ a b c, Wk r a b c := by
  obtain ⟨⟨g1, g2⟩, ⟨l1, l2⟩, ⟨m1, m2⟩, ⟨p1, p2⟩, ⟨b1, b2⟩, s1, s2⟩ := (bdd_iff r).1 h
  obtain ⟨a, ha, gl, ub1, ga⟩ := upV_pow g1 g2
  have gp := pow16 ha
  have eg : wkG r = ((2 ^ a : Nat) : Int) := ga
  obtain ⟨b, hb, nl, ub2, nb⟩ := upV_pow (v := max r.la (wkG r)) (by omega) (by omega)
  obtain ⟨c, hc, pl, ub3, pc⟩ := upV_pow (v := max r.pg (wkG r)) (by omega) (by omega)
  have hab : a ≤ b := pow_le_of (by have := nl.1; omega)
  have hac : a ≤ c := pow_le_of (by have := pl.1; omega)
  have en : wkN r = ((2 ^ b : Nat) : Int) := nb
  have ep : wkP r = ((2 ^ c : Nat) : Int) := pc
  have el : wkL r = ((b - a : Nat) : Int) := by
    have := log_fits (v := wkN r / wkG r) (k := b - a) (by omega) (by rw [en, eg]; exact div_pow hab)
    exact this.2
  have hm : max (wkN r) (wkP r) * 2 = ((2 ^ (max b c + 1) : Nat) : Int) := by rw [en, ep]; exact max_pow b c
  have hp : 2 ^ (max b c + 1) ≤ 131072 := by have := pow_le_pow (show max b c + 1 ≤ 17 by omega); omega
  have hp1 : 1 ≤ 2 ^ (max b c + 1) := Nat.one_le_two_pow
  have hu := upTo_spec r.li ((2 ^ (max b c + 1) : Nat) : Int) (by omega)
  have rf := round_fits (v := r.li) (to := ((2 ^ (max b c + 1) : Nat) : Int)) (by omega) (by omega) (by omega)
  exact ⟨a, b, c, hab, hac, hb, hc, eg, en, ep, el, by unfold wkM; rw [hm]; exact rf.2, by rw [hm]; exact rf.1, gl, nl, pl, ub1, ub2, ub3⟩

theorem wk_nums {r : Rw} (h : bdd r = true) : 1 ≤ wkG r ∧ wkG r ≤ 65536 ∧ 1 ≤ wkN r ∧ wkN r ≤ 65536 ∧ 1 ≤ wkP r ∧ wkP r ≤ 65536 ∧ 0 ≤ wkL r ∧ wkL r ≤ 16 ∧ r.li ≤ wkM r ∧ wkM r ≤ 200000 ∧ wkG r ≤ wkN r ∧ wkG r ≤ wkP r := by
  obtain ⟨a, b, c, k⟩ := wk_of h
  obtain ⟨⟨g1, g2⟩, ⟨l1, l2⟩, ⟨m1, m2⟩, ⟨p1, p2⟩, ⟨b1, b2⟩, s1, s2⟩ := (bdd_iff r).1 h
  have h1 := pow16 (show a ≤ 16 by have := k.a16; have := k.b16; omega)
  have h2 := pow16 k.b16
  have h3 := pow16 k.c16
  have h4 := pow_le_pow k.a16
  have h5 := pow_le_pow k.ac
  have hp : 2 ^ (max b c + 1) ≤ 131072 := by have := pow_le_pow (show max b c + 1 ≤ 17 by have := k.b16; have := k.c16; omega); omega
  have hp1 : 1 ≤ 2 ^ (max b c + 1) := Nat.one_le_two_pow
  have hu := upTo_spec r.li ((2 ^ (max b c + 1) : Nat) : Int) (by omega)
  rw [k.g, k.n, k.p, k.l, k.m]
  have := k.b16
  refine ⟨by omega, by omega, by omega, by omega, by omega, by omega, by omega, by omega, by omega, by omega, by omega, by omega⟩

theorem ceil_in {m k : Int} (h1 : 0 ≤ m) (h2 : m ≤ 200000) (h3 : 0 ≤ k) (h4 : k ≤ 16) : 0 ≤ k * (m / 2) ∧ k * (m / 2) ≤ 1600000 := by
  have h5 : 0 ≤ m / 2 := by omega
  have h6 : m / 2 ≤ 100000 := by omega
  have h7 := Int.mul_nonneg h3 h5
  have h8 := Int.mul_le_mul h4 h6 h5 (by omega)
  omega
end Go.Proofs.YtekffikkbiohnaaDoor
