/- Plain arithmetic of conf, of no program: what there is of what is asked for (P2.1, P2.2), as plain functions. -/
import Derived.Test.YtoopeihnmlfneaaDoorBase
import Derived.Test.YtoopeihnmlfneaaDoorCalcMath
import Derived.Deep.QuietTactic
import Derived.BigQuiet
namespace Go.Proofs.YtoopeihnmlfneaaDoor
open Go.RowKit


/-- what is asked for -/
structure Rw where
  (g la li pg bu se : Int)
/-- what there is -/
structure Cf where
  (g n m l pg p h se : Int)
def i64 (x : Int) : Prop := -9223372036854775808 ≤ x ∧ x ≤ 9223372036854775807
abbrev Rw.val (r : Rw) : Value := .agg #[.int .i64 r.g, .int .i64 r.la, .int .i64 r.li, .int .i64 r.pg, .int .i64 r.bu, .int .i64 r.se]
abbrev Rw.obj (r : Rw) (t : TypeId) : Obj := .cells #[.int .i64 r.g, .int .i64 r.la, .int .i64 r.li, .int .i64 r.pg, .int .i64 r.bu, .int .i64 r.se] t
abbrev Cf.val (c : Cf) : Value := .agg #[.int .i64 c.g, .int .i64 c.n, .int .i64 c.m, .int .i64 c.l, .int .i64 c.pg, .int .i64 c.p, .int .i64 c.h, .int .i64 c.se]
abbrev Cf.obj (c : Cf) (t : TypeId) : Obj := .cells #[.int .i64 c.g, .int .i64 c.n, .int .i64 c.m, .int .i64 c.l, .int .i64 c.pg, .int .i64 c.p, .int .i64 c.h, .int .i64 c.se] t
def Rw.ok (r : Rw) : Prop := i64 r.g ∧ i64 r.la ∧ i64 r.li ∧ i64 r.pg ∧ i64 r.bu ∧ i64 r.se
def Cf.ok (c : Cf) : Prop := i64 c.g ∧ i64 c.n ∧ i64 c.m ∧ i64 c.l ∧ i64 c.pg ∧ i64 c.p ∧ i64 c.h ∧ i64 c.se

def am (v lo hi : Int) : Bool := decide (lo ≤ v) && decide (v ≤ hi)
def ceilV (m k : Int) : Int := m + k * (m / 2)
def bdd (r : Rw) : Bool := am r.g 1 65536 && am r.la 1 65536 && am r.li 1 65536 && am r.pg 1 65536 && am r.bu 0 65536 && am r.se 0 255
def wkG (r : Rw) : Int := upV r.g
def wkN (r : Rw) : Int := upV (max r.la (wkG r))
def wkP (r : Rw) : Int := upV (max r.pg (wkG r))
def wkM (r : Rw) : Int := roundV r.li (max (wkN r) (wkP r) * 2)
def wkL (r : Rw) : Int := logV (wkN r / wkG r)
def wk (r : Rw) : Cf := ⟨wkG r, wkN r, wkM r, wkL r, wkP r, r.bu, ceilV (wkM r) (wkL r), r.se⟩
def fits (r : Rw) : Bool := bdd r && decide ((wk r).h ≤ 65536)
def ofC (r : Rw) : Cf := if fits r then wk r else ⟨0, 0, 0, 0, 0, 0, 0, 0⟩
def ofE (r : Rw) : Int := if fits r then 0 else 1

theorem upV_pow {v : Int} (h1 : 1 ≤ v) (h2 : v ≤ 65536) : ∃ k : Nat, k ≤ 16 ∧ Least v.toNat k ∧ upB v = true ∧ upV v = ((2 ^ k : Nat) : Int) := by
  rcases up_cases v with ⟨k, hk, _, _, hl, e1, e2⟩ | ⟨_, _, h⟩
  · refine ⟨k, ?_, hl, e1, e2⟩
    refine Nat.le_of_not_lt fun hc => ?_
    have := hl.2 16 hc
    omega
  · exfalso; omega

/-- what follows of numbers that are within their bounds -/
structure Wk (r : Rw) (a b c : Nat) : Prop where
  a16 : a ≤ b
  ac : a ≤ c
  b16 : b ≤ 16
  c16 : c ≤ 16
  g : wkG r = ((2 ^ a : Nat) : Int)
  n : wkN r = ((2 ^ b : Nat) : Int)
  p : wkP r = ((2 ^ c : Nat) : Int)
  l : wkL r = ((b - a : Nat) : Int)
  m : wkM r = upTo r.li (((2 ^ (max b c + 1) : Nat) : Int))
  mb : roundB r.li (max (wkN r) (wkP r) * 2) = true
  gl : Least r.g.toNat a
  nl : Least (max r.la (wkG r)).toNat b
  pl : Least (max r.pg (wkG r)).toNat c
  ub1 : upB r.g = true
  ub2 : upB (max r.la (wkG r)) = true
  ub3 : upB (max r.pg (wkG r)) = true

theorem pow16 {k : Nat} (h : k ≤ 16) : 1 ≤ 2 ^ k ∧ 2 ^ k ≤ 65536 := ⟨Nat.one_le_two_pow, by have := pow_le_pow h; omega⟩
theorem max_pow (b c : Nat) : max (((2 ^ b : Nat)) : Int) ((2 ^ c : Nat) : Int) * 2 = ((2 ^ (max b c + 1) : Nat) : Int) := by
  rcases Nat.le_total b c with h | h
  · have := pow_le_pow h
    rw [Nat.max_eq_right h, Nat.pow_succ]; omega
  · have := pow_le_pow h
    rw [Nat.max_eq_left h, Nat.pow_succ]; omega
theorem bdd_iff (r : Rw) : bdd r = true ↔ (1 ≤ r.g ∧ r.g ≤ 65536) ∧ (1 ≤ r.la ∧ r.la ≤ 65536) ∧ (1 ≤ r.li ∧ r.li ≤ 65536) ∧ (1 ≤ r.pg ∧ r.pg ≤ 65536) ∧ (0 ≤ r.bu ∧ r.bu ≤ 65536) ∧ 0 ≤ r.se ∧ r.se ≤ 255 := by
  simp [bdd, am, Bool.and_eq_true, and_assoc]

theorem div_pow {a b : Nat} (h : a ≤ b) : ((2 ^ b : Nat) : Int) / ((2 ^ a : Nat) : Int) = ((2 ^ (b - a) : Nat) : Int) := by
  rw [← Int.natCast_ediv]
  congr 1
  rw [show b = (b - a) + a by omega, Nat.pow_add, Nat.mul_div_cancel _ (Nat.two_pow_pos a)]
  congr 1; omega

theorem wk_of {r : Rw} (h : bdd r = true) : ∃ a b c, Wk r a b c := by
  obtain ⟨⟨g1, g2⟩, ⟨l1, l2⟩, ⟨m1, m2⟩, ⟨p1, p2⟩, ⟨b1, b2⟩, s1, s2⟩ := (bdd_iff r).1 h
  obtain ⟨a, ha, gl, ub1, ga⟩ := upV_pow g1 g2
  have gp := pow16 ha
  have eg : wkG r = ((2 ^ a : Nat) : Int) := ga
  obtain ⟨b, hb, nl, ub2, nb⟩ := upV_pow (v := max r.la (wkG r)) (by omega) (by omega)
  obtain ⟨c, hc, pl, ub3, pc⟩ := upV_pow (v := max r.pg (wkG r)) (by omega) (by omega)
  have hab : a ≤ b := pow_le_of (by have := nl.1; omega)
  have hac : a ≤ c := pow_le_of (by have := pl.1; omega)
  have en : wkN r = ((2 ^ b : Nat) : Int) := nb
  have ep : wkP r = ((2 ^ c : Nat) : Int) := pc
  have el : wkL r = ((b - a : Nat) : Int) := by
    have := log_fits (v := wkN r / wkG r) (k := b - a) (by omega) (by rw [en, eg]; exact div_pow hab)
    exact this.2
  have hm : max (wkN r) (wkP r) * 2 = ((2 ^ (max b c + 1) : Nat) : Int) := by rw [en, ep]; exact max_pow b c
  have hp : 2 ^ (max b c + 1) ≤ 131072 := by have := pow_le_pow (show max b c + 1 ≤ 17 by omega); omega
  have hp1 : 1 ≤ 2 ^ (max b c + 1) := Nat.one_le_two_pow
  have hu := upTo_spec r.li ((2 ^ (max b c + 1) : Nat) : Int) (by omega)
  have rf := round_fits (v := r.li) (to := ((2 ^ (max b c + 1) : Nat) : Int)) (by omega) (by omega) (by omega)
  exact ⟨a, b, c, hab, hac, hb, hc, eg, en, ep, el, by unfold wkM; rw [hm]; exact rf.2, by rw [hm]; exact rf.1, gl, nl, pl, ub1, ub2, ub3⟩

theorem wk_nums {r : Rw} (h : bdd r = true) : 1 ≤ wkG r ∧ wkG r ≤ 65536 ∧ 1 ≤ wkN r ∧ wkN r ≤ 65536 ∧ 1 ≤ wkP r ∧ wkP r ≤ 65536 ∧ 0 ≤ wkL r ∧ wkL r ≤ 16 ∧ r.li ≤ wkM r ∧ wkM r ≤ 200000 ∧ wkG r ≤ wkN r ∧ wkG r ≤ wkP r := by
  obtain ⟨a, b, c, k⟩ := wk_of h
  obtain ⟨⟨g1, g2⟩, ⟨l1, l2⟩, ⟨m1, m2⟩, ⟨p1, p2⟩, ⟨b1, b2⟩, s1, s2⟩ := (bdd_iff r).1 h
  have h1 := pow16 (show a ≤ 16 by have := k.a16; have := k.b16; omega)
  have h2 := pow16 k.b16
  have h3 := pow16 k.c16
  have h4 := pow_le_pow k.a16
  have h5 := pow_le_pow k.ac
  have hp : 2 ^ (max b c + 1) ≤ 131072 := by have := pow_le_pow (show max b c + 1 ≤ 17 by have := k.b16; have := k.c16; omega); omega
  have hp1 : 1 ≤ 2 ^ (max b c + 1) := Nat.one_le_two_pow
  have hu := upTo_spec r.li ((2 ^ (max b c + 1) : Nat) : Int) (by omega)
  rw [k.g, k.n, k.p, k.l, k.m]
  have := k.b16
  refine ⟨by omega, by omega, by omega, by omega, by omega, by omega, by omega, by omega, by omega, by omega, by omega, by omega⟩

theorem ceil_in {m k : Int} (h1 : 0 ≤ m) (h2 : m ≤ 200000) (h3 : 0 ≤ k) (h4 : k ≤ 16) : 0 ≤ k * (m / 2) ∧ k * (m / 2) ≤ 1600000 := by
  have h5 : 0 ≤ m / 2 := by omega
  have h6 : m / 2 ≤ 100000 := by omega
  have h7 := Int.mul_nonneg h3 h5
  have h8 := Int.mul_le_mul h4 h6 h5 (by omega)
  omega

def cV (c : Cf) (k : Int) : Int := if am k 0 c.l then ceilV c.m k else 0

/-- which class has that charge -/
theorem class_unique {a j k : Nat} (h : 2 ^ a * 2 ^ j = 2 ^ a * 2 ^ k) : j = k := pow_inj (Nat.eq_of_mul_eq_mul_left (Nat.two_pow_pos a) h)
def shP (a : Nat) (x : Int) (k : Nat) : Bool := decide (x = ((2 ^ a * 2 ^ k : Nat) : Int))
def shB (a l : Nat) (x : Int) : Bool := (List.range (l + 1)).any (shP a x)
def shV (a l : Nat) (x : Int) : Int := (((List.range (l + 1)).find? (shP a x)).getD 0 : Nat)
theorem sh_fits (a l k : Nat) (hk : k ≤ l) : shB a l ((2 ^ a * 2 ^ k : Nat) : Int) = true ∧ shV a l ((2 ^ a * 2 ^ k : Nat) : Int) = k := by
  have hp : shP a ((2 ^ a * 2 ^ k : Nat) : Int) k = true := by simp [shP]
  have hm : k ∈ List.range (l + 1) := List.mem_range.2 (by omega)
  refine ⟨List.any_eq_true.2 ⟨k, hm, hp⟩, ?_⟩
  unfold shV
  cases h : (List.range (l + 1)).find? (shP a ((2 ^ a * 2 ^ k : Nat) : Int)) with
  | none => exact absurd hp (List.find?_eq_none.1 h k hm)
  | some j =>
    have e0 : shP a ((2 ^ a * 2 ^ k : Nat) : Int) j = true := List.find?_some h
    have e := of_decide_eq_true e0
    have e2 : k = j := class_unique (Int.ofNat.inj e)
    rw [Option.getD_some, ← e2]
theorem sh_not {a l : Nat} {x : Int} (h : ∀ k : Nat, k ≤ l → x ≠ ((2 ^ a * 2 ^ k : Nat) : Int)) : shB a l x = false ∧ shV a l x = 0 := by
  have h' : ∀ k ∈ List.range (l + 1), ¬ shP a x k = true := fun k hk e => h k (by have := List.mem_range.1 hk; omega) (of_decide_eq_true e)
  refine ⟨?_, ?_⟩
  · rw [← Bool.not_eq_true]
    intro e
    obtain ⟨k, hk, e⟩ := List.any_eq_true.1 e
    exact h' k hk e
  · unfold shV
    rw [List.find?_eq_none.2 h']
    rfl
theorem wrap64_in (n : Int) : -9223372036854775808 ≤ wrap64 n ∧ wrap64 n ≤ 9223372036854775807 := by unfold wrap64; omega

theorem tdiv_pos {n g : Int} (h1 : 1 ≤ g) (h2 : 0 ≤ n) (h3 : n ≤ 65536) : wrap64 (n.tdiv g) = n / g := by
  rw [Int.tdiv_eq_ediv_of_nonneg h2]
  have := Int.ediv_nonneg h2 (show 0 ≤ g by omega)
  have := Int.ediv_le_self g h2
  unfold wrap64; omega
end Go.Proofs.YtoopeihnmlfneaaDoor
