/- Several texts as one: Base, CalcMath, Ref1Calc, WordMath, Swar, Word, Ref3, RowMath, Mem, RowMem, Fresh, And63, RowStep, RefRow. -/
import Derived.Test.YtegolecdmpikhaaChecked
import Derived.Test.YtegolecdmpikhaaRows
import Derived.WalkKit
import Derived.WalkSpells
import Derived.Lib.MinMax
import Derived.ProofKit
import Derived.OpenShut
import Derived.RowKit3
import Derived.Below
import Derived.Deep.Quiet
import Derived.KernelRfl
import Derived.Lib.BitFns
import Derived.Lib.TrailingZeros
import Derived.Laws.Bits64b
import Derived.RowKit
import Derived.OwnWalk
import Derived.Laws.OwnMore
import Derived.Laws.AppendOwnNone
import Derived.Deep.QuietTactic
import Derived.BigQuiet
import Derived.Laws.CopyOwn
/- What all texts of this seat lean on: facts under a veil, returned values, worlds that have new memory alone; two closed facts of the program. -/
namespace Go.Proofs.Ytegolecdmpikhaa
open Go.RowKit

theorem own : ownKnob Try.prog.godebug = none := by kernel_rfl
theorem laidOut : laidOutB Try.prog = true := by kernel_rfl

/-- a fact that the walk's simp does not see -/
def Hid (p : Prop) : Prop := p
theorem hide {p : Prop} (h : p) : Hid p := h
theorem Hid.out {p : Prop} (h : Hid p) : p := h

theorem ret_int {k : IntKind} {a b : Int} (h : a = b) : Ending.returned (.int k a) = .returned (.int k b) := by rw [h]
theorem ret_int_bool {k : IntKind} {a b : Int} {c : Bool} (h : a = b) : Ending.returned (.tuple #[.int k a, .bool c]) = .returned (.tuple #[.int k b, .bool c]) := by rw [h]
theorem ret_pair {k : IntKind} {a b : Int} {c d : Bool} (h : a = b) (g : c = d) : Ending.returned (.tuple #[.int k a, .bool c]) = .returned (.tuple #[.int k b, .bool d]) := by rw [h, g]

/-- new memory alone -/
def Kept (w w' : World) : Prop := Below w.heap.size w w' ∧ ∀ a, w'.frozen? a = w.frozen? a
theorem Kept.refl (w : World) : Kept w w := ⟨Below.refl _ _, fun _ => rfl⟩
theorem Kept.trans {a b c : World} (h : Kept a b) (k : Kept b c) : Kept a c := ⟨h.1.trans (k.1.mono h.1.size), fun x => (k.2 x).trans (h.2 x)⟩
theorem Kept.alloc {a w : World} (h : Kept a w) (c : Array Value) (t : TypeId) : Kept a (w.alloc (.cells c t)) := ⟨h.1.alloc h.1.size _, fun x => (frozen?_alloc_cells _ _ _ x).trans (h.2 x)⟩
theorem Kept.setCell {a w : World} (h : Kept a w) {p : Addr} (hp : a.heap.size ≤ p.block) (v : Value) : Kept a (w.setCell p v) := ⟨h.1.setCell hp v, fun x => (World.frozen?_setCell _ _ _ _).trans (h.2 x)⟩
theorem Kept.drew {a w : World} (h : Kept a w) : Kept a w.drew := ⟨h.1.drew, h.2⟩
theorem Kept.drewN {a w : World} (h : Kept a w) (n : Nat) : Kept a (w.drewN n) := ⟨⟨h.1.os, h.1.tape, h.1.output, h.1.size, h.1.block⟩, h.2⟩
theorem Kept.grown {a w : World} (h : Kept a w) : Grown a w := ⟨h.1.frame _, h.2, h.1.size⟩
theorem Kept.cell {a w : World} (h : Kept a w) {p : Addr} {v : Value} (hc : a.cell? p = some v) : w.cell? p = some v := (h.1.cell (World.block_lt_of_cell? _ _ hc)).trans hc
end Go.Proofs.Ytegolecdmpikhaa
/- Plain arithmetic, of no program: how many bits a number has, which numbers are powers of two, and 'x and x less one' on signed numbers. -/
namespace Go.Proofs.Ytegolecdmpikhaa
open Go.RowKit

theorem bitLenAux_spec : ∀ (f x : Nat), x < 2 ^ f → x < 2 ^ Lib.bitLenAux f x ∧ (x ≠ 0 → 2 ^ Lib.bitLenAux f x ≤ 2 * x) ∧ Lib.bitLenAux f x ≤ f
  | 0, x, h => by
    have : x = 0 := by simpa using h
    subst this
    simp [Lib.bitLenAux]
  | f + 1, x, h => by
    by_cases h0 : x = 0
    · subst h0
      simp [Lib.bitLenAux]
    · have hh : x / 2 < 2 ^ f := by rw [Nat.pow_succ] at h; omega
      obtain ⟨a, b, c⟩ := bitLenAux_spec f (x / 2) hh
      have e : Lib.bitLenAux (f + 1) x = Lib.bitLenAux f (x / 2) + 1 := by simp [Lib.bitLenAux, h0]; omega
      rw [e, Nat.pow_succ]
      refine ⟨by omega, fun _ => ?_, by omega⟩
      by_cases h1 : x / 2 = 0
      · rw [h1] at a ⊢
        have : Lib.bitLenAux f 0 = 0 := by cases f <;> simp [Lib.bitLenAux]
        rw [this]
        omega
      · have := b h1
        omega

theorem bitLen_spec (x : Nat) (h : x < 18446744073709551616) : x < 2 ^ Lib.bitLen x ∧ (x ≠ 0 → 2 ^ Lib.bitLen x ≤ 2 * x) ∧ Lib.bitLen x ≤ 64 :=
  bitLenAux_spec 64 x h

theorem pow_lt_of {a b : Nat} (h : 2 ^ a < 2 ^ b) : a < b := (Nat.pow_lt_pow_iff_right (by decide)).1 h
theorem pow_le_of {a b : Nat} (h : 2 ^ a ≤ 2 ^ b) : a ≤ b := (Nat.pow_le_pow_iff_right (by decide)).1 h
theorem pow_le_pow {a b : Nat} (h : a ≤ b) : 2 ^ a ≤ 2 ^ b := Nat.pow_le_pow_right (by decide) h
theorem pow_inj {a b : Nat} (h : 2 ^ a = 2 ^ b) : a = b := Nat.le_antisymm (pow_le_of (Nat.le_of_eq h)) (pow_le_of (Nat.le_of_eq h.symm))

/-- 'k' is the least power's exponent that is not below v. -/
def Least (v k : Nat) : Prop := v ≤ 2 ^ k ∧ ∀ j, j < k → 2 ^ j < v

theorem least_unique {v a b : Nat} (ha : Least v a) (hb : Least v b) : a = b := by
  rcases Nat.lt_trichotomy a b with h | h | h
  · have := hb.2 a h; have := ha.1; omega
  · exact h
  · have := ha.2 b h; have := hb.1; omega

theorem least_bitLen (v : Nat) (h1 : 1 ≤ v) (h : v ≤ 18446744073709551616) : Least v (Lib.bitLen (v - 1)) := by
  obtain ⟨a, b, _⟩ := bitLen_spec (v - 1) (by omega)
  refine ⟨by omega, fun j hj => ?_⟩
  have h2 : 2 ^ (j + 1) ≤ 2 ^ Lib.bitLen (v - 1) := pow_le_pow hj
  rw [Nat.pow_succ] at h2
  by_cases h0 : v - 1 = 0
  · rw [h0] at hj
    simp [Lib.bitLen, Lib.bitLenAux] at hj
  · have := b h0
    omega

theorem least_exists (v : Nat) (h1 : 1 ≤ v) (h : v ≤ 4611686018427387904) : ∃ k, k ≤ 62 ∧ Least v k := by
  refine ⟨_, ?_, least_bitLen v h1 (by omega)⟩
  have := least_bitLen v h1 (by omega)
  have h3 := this.2 62
  refine Nat.le_of_not_lt fun hc => ?_
  have := h3 hc
  omega

theorem least_self (k : Nat) : Least (2 ^ k) k := ⟨Nat.le_refl _, fun j hj => by have := (Nat.pow_lt_pow_iff_right (a := 2) (by decide)).2 hj; exact this⟩

theorem pow_62 {k : Nat} (h : k ≤ 62) : 1 ≤ 2 ^ k ∧ 2 ^ k ≤ 4611686018427387904 := ⟨Nat.one_le_two_pow, by have := pow_le_pow h; omega⟩

theorem ctz_pow : ∀ k, k < 64 → Lib.ctz 64 (2 ^ k) = k := by decide +kernel

theorem bits_and_i64_nat (a b : Nat) (ha : a < 9223372036854775808) (hb : b < 9223372036854775808) :
    bits .and .i64 (a : Int) (b : Int) = ((a &&& b : Nat) : Int) := by
  have hx : a &&& b < 2 ^ 63 := Nat.and_lt_two_pow _ (by omega)
  have h1 : (BitVec.ofInt 64 (a : Int)).toNat = a := by
    rw [BitVec.ofInt_natCast, BitVec.toNat_ofNat]; exact Nat.mod_eq_of_lt (by omega)
  have h2 : (BitVec.ofInt 64 (b : Int)).toNat = b := by
    rw [BitVec.ofInt_natCast, BitVec.toNat_ofNat]; exact Nat.mod_eq_of_lt (by omega)
  have e : bits .and .i64 (a : Int) (b : Int) = IntKind.i64.wrap ((BitVec.ofInt 64 (a : Int) &&& BitVec.ofInt 64 (b : Int)).toNat : Int) := rfl
  rw [e, BitVec.toNat_and, h1, h2]
  simp only [IntKind.wrap, IntKind.bits, IntKind.signed]
  simp
  omega

theorem and_pred_zero (n : Nat) (h : n ≠ 0) : n &&& (n - 1) = 0 ↔ ∃ k, n = 2 ^ k := Nat.and_sub_one_eq_zero_iff_isPowerOfTwo h

/-- of a number from 1 on: 'v and v less one' is nought just if it is a power of two. -/
theorem andPred (v : Int) (h1 : 1 ≤ v) (h2 : v ≤ 9223372036854775807) : bits .and .i64 v (v - 1) = ((v.toNat &&& (v.toNat - 1) : Nat) : Int) := by
  have h := bits_and_i64_nat v.toNat (v.toNat - 1) (by omega) (by omega)
  rw [show ((v.toNat : Nat) : Int) = v by omega, show ((v.toNat - 1 : Nat) : Int) = v - 1 by omega] at h
  exact h

/-! What the document says of calc, as plain functions: the answer, and whether there is one. -/
def addB (a b : Int) : Bool := decide (-9223372036854775808 ≤ a + b ∧ a + b ≤ 9223372036854775807)
def addV (a b : Int) : Int := if addB a b then a + b else 0
def mulB (a b : Int) : Bool := decide (-9223372036854775808 ≤ a * b ∧ a * b ≤ 9223372036854775807)
def mulV (a b : Int) : Int := if mulB a b then a * b else 0
def upB (v : Int) : Bool := decide (1 ≤ v ∧ v ≤ 4611686018427387904)
def upV (v : Int) : Int := if upB v then ((2 ^ Lib.bitLen (v.toNat - 1) : Nat) : Int) else 0
def logB (v : Int) : Bool := decide (1 ≤ v) && (v.toNat &&& (v.toNat - 1) == 0)
def logV (v : Int) : Int := if logB v then (Lib.ctz 64 v.toNat : Int) else 0
def upTo (v to : Int) : Int := if v % to = 0 then v else v + (to - v % to)
def roundB (v to : Int) : Bool := decide (0 ≤ v ∧ 1 ≤ to ∧ upTo v to ≤ 9223372036854775807)
def roundV (v to : Int) : Int := if roundB v to then upTo v to else 0

theorem add_fits {a b : Int} (h : -9223372036854775808 ≤ a + b) (h' : a + b ≤ 9223372036854775807) : addB a b = true ∧ addV a b = a + b := by
  have : addB a b = true := decide_eq_true ⟨h, h'⟩
  exact ⟨this, by simp [addV, this]⟩
theorem add_not {a b : Int} (h : a + b < -9223372036854775808 ∨ 9223372036854775807 < a + b) : addB a b = false ∧ addV a b = 0 := by
  have : addB a b = false := decide_eq_false (by omega)
  exact ⟨this, by simp [addV, this]⟩
theorem add_cases (a b : Int) : (addB a b = true ∧ addV a b = a + b ∧ -9223372036854775808 ≤ a + b ∧ a + b ≤ 9223372036854775807) ∨ (addB a b = false ∧ addV a b = 0 ∧ (a + b < -9223372036854775808 ∨ 9223372036854775807 < a + b)) := by
  by_cases h : -9223372036854775808 ≤ a + b ∧ a + b ≤ 9223372036854775807
  · exact .inl ⟨(add_fits h.1 h.2).1, (add_fits h.1 h.2).2, h⟩
  · exact .inr ⟨(add_not (by omega)).1, (add_not (by omega)).2, by omega⟩
theorem mul_fits {a b : Int} (h : -9223372036854775808 ≤ a * b) (h' : a * b ≤ 9223372036854775807) : mulB a b = true ∧ mulV a b = a * b := by
  have : mulB a b = true := decide_eq_true ⟨h, h'⟩
  exact ⟨this, by simp [mulV, this]⟩
theorem mul_not {a b : Int} (h : a * b < -9223372036854775808 ∨ 9223372036854775807 < a * b) : mulB a b = false ∧ mulV a b = 0 := by
  have : mulB a b = false := decide_eq_false (by omega)
  exact ⟨this, by simp [mulV, this]⟩
theorem mul_cases (a b : Int) : (mulB a b = true ∧ mulV a b = a * b ∧ -9223372036854775808 ≤ a * b ∧ a * b ≤ 9223372036854775807) ∨ (mulB a b = false ∧ mulV a b = 0 ∧ (a * b < -9223372036854775808 ∨ 9223372036854775807 < a * b)) := by
  by_cases h : -9223372036854775808 ≤ a * b ∧ a * b ≤ 9223372036854775807
  · exact .inl ⟨(mul_fits h.1 h.2).1, (mul_fits h.1 h.2).2, h⟩
  · exact .inr ⟨(mul_not (by omega)).1, (mul_not (by omega)).2, by omega⟩
theorem up_not {v : Int} (h : v < 1 ∨ 4611686018427387904 < v) : upB v = false ∧ upV v = 0 := by
  have : upB v = false := decide_eq_false (by omega)
  exact ⟨this, by simp [upV, this]⟩
theorem up_fits {v : Int} {k : Nat} (h1 : 1 ≤ v) (h2 : v ≤ 4611686018427387904) (hl : Least v.toNat k) : upB v = true ∧ upV v = ((2 ^ k : Nat) : Int) := by
  have : upB v = true := decide_eq_true ⟨h1, h2⟩
  refine ⟨this, ?_⟩
  rw [upV, this, if_pos rfl, least_unique (least_bitLen v.toNat (by omega) (by omega)) hl]
/-- what Up tells: a power of two -/
theorem up_cases (v : Int) : (∃ k : Nat, k ≤ 62 ∧ 1 ≤ v ∧ v ≤ 4611686018427387904 ∧ Least v.toNat k ∧ upB v = true ∧ upV v = ((2 ^ k : Nat) : Int)) ∨ (upB v = false ∧ upV v = 0 ∧ (v < 1 ∨ 4611686018427387904 < v)) := by
  by_cases h : 1 ≤ v ∧ v ≤ 4611686018427387904
  · obtain ⟨k, hk, hl⟩ := least_exists v.toNat (by omega) (by omega)
    exact .inl ⟨k, hk, h.1, h.2, hl, up_fits h.1 h.2 hl⟩
  · exact .inr ⟨(up_not (by omega)).1, (up_not (by omega)).2, by omega⟩
theorem log_fits {v : Int} {k : Nat} (hk : k ≤ 62) (hv : v = ((2 ^ k : Nat) : Int)) : logB v = true ∧ logV v = k := by
  have hp := pow_62 hk
  subst hv
  have hb : logB ((2 ^ k : Nat) : Int) = true := by
    unfold logB
    have h1 : (1 : Int) ≤ ((2 ^ k : Nat) : Int) := by omega
    rw [Int.toNat_natCast, (and_pred_zero _ (by omega)).2 ⟨k, rfl⟩, decide_eq_true h1]
    rfl
  exact ⟨hb, by rw [logV, hb, if_pos rfl, Int.toNat_natCast, ctz_pow k (by omega)]⟩
theorem log_not {v : Int} (hv' : v ≤ 9223372036854775807) (h : ∀ k : Nat, k ≤ 62 → v ≠ ((2 ^ k : Nat) : Int)) : logB v = false ∧ logV v = 0 := by
  have hb : logB v = false := by
    rw [← Bool.not_eq_true]
    intro hc
    simp only [logB, Bool.and_eq_true, decide_eq_true_eq, beq_iff_eq] at hc
    obtain ⟨k, hk⟩ := (and_pred_zero v.toNat (by omega)).1 hc.2
    have : k < 63 := pow_lt_of (by omega)
    exact h k (by omega) (by omega)
  exact ⟨hb, by simp [logV, hb]⟩
theorem log_cases (v : Int) (hv' : v ≤ 9223372036854775807) : (∃ k : Nat, k ≤ 62 ∧ v = ((2 ^ k : Nat) : Int) ∧ logB v = true ∧ logV v = k) ∨ (logB v = false ∧ logV v = 0 ∧ ∀ k : Nat, k ≤ 62 → v ≠ ((2 ^ k : Nat) : Int)) := by
  by_cases h : ∃ k : Nat, k ≤ 62 ∧ v = ((2 ^ k : Nat) : Int)
  · obtain ⟨k, hk, hv⟩ := h
    exact .inl ⟨k, hk, hv, log_fits hk hv⟩
  · have h' : ∀ k : Nat, k ≤ 62 → v ≠ ((2 ^ k : Nat) : Int) := fun k hk he => h ⟨k, hk, he⟩
    exact .inr ⟨(log_not hv' h').1, (log_not hv' h').2, h'⟩
theorem upTo_spec (v to : Int) (h : 1 ≤ to) : v ≤ upTo v to ∧ upTo v to < v + to ∧ upTo v to % to = 0 := by
  have h6 := Int.emod_nonneg v (show to ≠ 0 by omega)
  have h7 := Int.emod_lt_of_pos v (show 0 < to by omega)
  unfold upTo
  split
  · rename_i h0
    exact ⟨by omega, by omega, h0⟩
  · refine ⟨by omega, by omega, ?_⟩
    have : v + (to - v % to) = to * (v / to + 1) := by
      have := Int.emod_add_mul_ediv v to
      rw [Int.mul_add]; omega
    rw [this]
    exact Int.mul_emod_right _ _
theorem round_not {v to : Int} (h : v < 0 ∨ to < 1 ∨ 9223372036854775807 < upTo v to) : roundB v to = false ∧ roundV v to = 0 := by
  have : roundB v to = false := decide_eq_false (by omega)
  exact ⟨this, by simp [roundV, this]⟩
theorem round_fits {v to : Int} (h1 : 0 ≤ v) (h2 : 1 ≤ to) (h3 : upTo v to ≤ 9223372036854775807) : roundB v to = true ∧ roundV v to = upTo v to := by
  have : roundB v to = true := decide_eq_true ⟨h1, h2, h3⟩
  exact ⟨this, by simp [roundV, this]⟩

theorem pow_cast (k : Nat) : (((2 ^ k : Nat)) : Int) = (2 : Int) ^ k := by rw [Int.natCast_pow]; rfl
end Go.Proofs.Ytegolecdmpikhaa
/- What the document's own answers to calc are (hodmanref1's Add, Mul, Up, Log, Round), as contracts: the same plain functions as the program's package calc has. -/
namespace Go.Proofs.Ytegolecdmpikhaa
open Go.RowKit

theorem least_or {v j k : Nat} (hl : Least v k) (hj : j ≤ k) : (2 ^ j < v ∧ j < k) ∨ (v ≤ 2 ^ j ∧ j = k) := by
  rcases Nat.lt_or_ge j k with h | h
  · exact .inl ⟨hl.2 j h, h⟩
  · obtain rfl : j = k := by omega
    exact .inr ⟨hl.1, rfl⟩

theorem rlog_any (v : Int) (w : World) (ha' : v ≤ 9223372036854775807) :
    Calls Try.prog 17 #[.int .i64 v] w fun e w' => e = .returned (.tuple #[.int .i64 (logV v), .bool (logB v)]) ∧ w' = w := by
  go_enter Try.func17, Try.ntmps17
  go_wp2
  go_loop [4, 5] (fun p n => ∃ j : Nat, j ≤ 63 ∧ n = .int .i64 j ∧ p = .int .i64 ((2 ^ min j 62 : Nat) : Int) ∧ ∀ i : Nat, i < j → v ≠ ((2 ^ i : Nat) : Int)) (fun _ n => (63 - intOf n).toNat)
  case atStart => exact ⟨0, Nat.zero_le _, rfl, rfl, fun i hi => absurd hi (Nat.not_lt_zero i)⟩
  case round =>
    obtain ⟨j, hj, rfl, rfl, hno⟩ := hrel
    have NO := hide hno
    clear hno
    by_cases h63 : j < 63
    · have em : min j 62 = j := by omega
      rw [em]
      clear em
      have hp := pow_62 (show j ≤ 62 by omega)
      have S := hide (show ((2 ^ (j + 1) : Nat) : Int) = ((2 ^ j : Nat) : Int) * 2 by rw [Nat.pow_succ]; omega)
      have hp1 : 1 ≤ ((2 ^ j : Nat) : Int) := by omega
      have hp2 : ((2 ^ j : Nat) : Int) ≤ 4611686018427387904 := by omega
      by_cases hv : v = ((2 ^ j : Nat) : Int)
      · have F := hide (log_fits (v := v) (k := j) (by omega) hv)
        have hv' : (((2 ^ j : Nat) : Int) == v) = true := by simpa using hv.symm
        clear hv hp
        generalize ((2 ^ j : Nat) : Int) = p at *
        go_wp2
        go_ret2
        exact ⟨ret_pair F.out.2.symm F.out.1.symm, rfl⟩
      · have NE := hide hv
        have hv' : (((2 ^ j : Nat) : Int) == v) = false := by rw [beq_eq_false_iff_ne]; exact fun h => hv h.symm
        clear hp hv
        by_cases h62 : j < 62
        · have hp3 : ((2 ^ j : Nat) : Int) ≤ 2305843009213693952 := by have := pow_le_pow (show j ≤ 61 by omega); omega
          generalize hP : ((2 ^ j : Nat) : Int) = p at *
          have P := hide hP
          clear hP
          go_wp2
          go_round
          case rel =>
            refine ⟨j + 1, by omega, by go_num, ?_, fun i hi => ?_⟩
            · rw [show min (j + 1) 62 = j + 1 by omega, S.out]
            · rcases Nat.lt_or_ge i j with h | h
              · exact NO.out i h
              · rw [show i = j by omega, P.out]; exact NE.out
          case measure => simp [intOf]; omega
        · generalize hP : ((2 ^ j : Nat) : Int) = p at *
          have P := hide hP
          clear hP
          go_wp2
          go_round
          case rel =>
            refine ⟨j + 1, by omega, by go_num, ?_, fun i hi => ?_⟩
            · rw [show min (j + 1) 62 = j by omega, P.out]
            · rcases Nat.lt_or_ge i j with h | h
              · exact NO.out i h
              · rw [show i = j by omega, P.out]; exact NE.out
          case measure => simp [intOf]; omega
    · have F := hide (log_not (v := v) ha' (fun k hk => NO.out k (by omega)))
      go_wp2
      go_ret2
      exact ⟨ret_pair F.out.2.symm F.out.1.symm, rfl⟩
end Go.Proofs.Ytegolecdmpikhaa
/- Plain arithmetic of word, of no program: which bits of 64 are set, as a rising list; the lowest, how many, the n-th, masks (P3.1), and what follows of them. -/
namespace Go.Proofs.Ytegolecdmpikhaa
open Go.RowKit

/-- the bits that are set, rising -/
def onesL (u : Nat) : List Nat := (List.range 64).filter fun i => u.testBit i
def lowOneV (u : Nat) : Nat := ((onesL u)[0]?).getD 64
def onesV (u : Nat) : Nat := (onesL u).length
def nthV (u : Nat) (n : Int) : Nat := if n < 0 then 64 else ((onesL u)[n.toNat]?).getD 64
/-- all bits turned -/
def notV (u : Nat) : Nat := 18446744073709551615 - u
/-- bits from i on, n of them, below 64 -/
def maskN (i n : Nat) : Nat := ((2 ^ n - 1) <<< i) % 18446744073709551616
def maskV (i n : Int) : Nat := if i < 0 ∨ n < 0 then 0 else maskN i.toNat n.toNat

theorem mem_onesL {u i : Nat} : i ∈ onesL u ↔ i < 64 ∧ u.testBit i = true := by
  unfold onesL; rw [List.mem_filter, List.mem_range]
theorem onesL_rising (u : Nat) : (onesL u).Pairwise (· < ·) := List.pairwise_lt_range.filter _
theorem onesL_lt {u k i : Nat} (h : (onesL u)[k]? = some i) : i < 64 ∧ u.testBit i = true := mem_onesL.1 (List.mem_of_getElem? h)
theorem ones_le (u : Nat) : onesV u ≤ 64 := by
  unfold onesV onesL
  have := List.length_filter_le (fun i => u.testBit i) (List.range 64)
  simpa using this

theorem testBit_maskN (i n k : Nat) : (maskN i n).testBit k = decide (i ≤ k ∧ k < i + n ∧ k < 64) := by
  unfold maskN
  rw [show (18446744073709551616 : Nat) = 2 ^ 64 by decide, Nat.testBit_mod_two_pow, Nat.testBit_shiftLeft, Nat.testBit_two_pow_sub_one]
  by_cases h1 : k < 64 <;> by_cases h2 : i ≤ k <;> by_cases h3 : k - i < n
  all_goals first
    | (have h4 : k < i + n := by omega
       simp [h1, h2, h3, h4])
    | (have h4 : ¬ k < i + n := by omega
       simp [h1, h2, h3, h4])
    | simp [h1, h2, h3]
theorem maskN_lt (i n : Nat) : maskN i n < 18446744073709551616 := Nat.mod_lt _ (by decide)
theorem testBit_high {u k : Nat} (hu : u < 18446744073709551616) (hk : 64 ≤ k) : u.testBit k = false :=
  Nat.testBit_lt_two_pow (Nat.lt_of_lt_of_le hu (by have := Nat.pow_le_pow_right (show 0 < 2 by decide) hk; omega))
theorem eq_of_bits {u v : Nat} (hu : u < 18446744073709551616) (hv : v < 18446744073709551616) (h : ∀ k, k < 64 → u.testBit k = v.testBit k) : u = v := by
  apply Nat.eq_of_testBit_eq
  intro k
  rcases Nat.lt_or_ge k 64 with hk | hk
  · exact h k hk
  · rw [testBit_high hu hk, testBit_high hv hk]
theorem testBit_notV {u : Nat} (hu : u < 18446744073709551616) (k : Nat) (hk : k < 64) : (notV u).testBit k = !u.testBit k := by
  unfold notV
  have := Nat.testBit_two_pow_sub_succ (n := 64) (x := u) (by simpa using hu) k
  rw [show (18446744073709551615 - u) = 2 ^ 64 - (u + 1) by omega, this]
  simp [hk]

theorem onesL_congr {u v : Nat} (h : ∀ k, k < 64 → u.testBit k = v.testBit k) : onesL u = onesL v := by
  unfold onesL
  exact List.filter_congr fun k hk => h k (List.mem_range.1 hk)
theorem onesL_filter (u v : Nat) (p : Nat → Bool) (h : ∀ k, k < 64 → v.testBit k = (u.testBit k && p k)) : onesL v = (onesL u).filter p := by
  unfold onesL
  rw [List.filter_filter]
  exact List.filter_congr fun k hk => by rw [h k (List.mem_range.1 hk), Bool.and_comm]

/-- of a rising list: as many are below its k-th as k -/
theorem rising_below : ∀ {l : List Nat} {k i : Nat}, l.Pairwise (· < ·) → l[k]? = some i → (l.filter fun j => decide (j < i)).length = k
  | [], _, _, _, h => by simp at h
  | a :: l, 0, i, hp, h => by
    obtain rfl : a = i := by simpa using h
    rw [List.pairwise_cons] at hp
    have : (a :: l).filter (fun j => decide (j < a)) = [] := by
      refine List.filter_eq_nil_iff.2 fun j hj => ?_
      rcases List.mem_cons.1 hj with rfl | hj
      · simp
      · have := hp.1 j hj; simp; omega
    rw [this]; rfl
  | a :: l, k + 1, i, hp, h => by
    rw [List.pairwise_cons] at hp
    have h' : l[k]? = some i := by simpa using h
    have ha := hp.1 i (List.mem_of_getElem? h')
    rw [List.filter_cons_of_pos (by simpa using ha), List.length_cons, rising_below hp.2 h']

theorem split_length (p : Nat → Bool) : ∀ l : List Nat, (l.filter p).length + (l.filter fun j => !p j).length = l.length
  | [] => rfl
  | a :: l => by
    have ih := split_length p l
    by_cases h : p a = true
    · rw [List.filter_cons_of_pos h, List.filter_cons_of_neg (by simp [h])]; simp; omega
    · have h' : p a = false := by simpa using h
      rw [List.filter_cons_of_neg (by simp [h']), List.filter_cons_of_pos (by simp [h'])]; simp; omega

/-! What follows: WordCounts. -/
theorem nth_le (u : Nat) (n : Int) : nthV u n ≤ 64 := by
  unfold nthV
  split
  · exact Nat.le_refl _
  · cases h : (onesL u)[n.toNat]? with
    | none => simp
    | some i => have := (onesL_lt h).1; simp; omega
theorem nth_none (u k : Nat) : nthV u k = 64 ↔ onesV u ≤ k := by
  unfold nthV onesV
  rw [if_neg (by omega), Int.toNat_natCast]
  cases h : (onesL u)[k]? with
  | none => simp; exact List.getElem?_eq_none_iff.1 h
  | some i =>
    have h1 := (onesL_lt h).1
    have h2 := (List.getElem?_eq_some_iff.1 h).1
    simp; omega
theorem nth_some {u k : Nat} (h : nthV u k < 64) : u.testBit (nthV u k) = true ∧ onesV (u &&& maskN 0 (nthV u k)) = k := by
  unfold nthV at h ⊢
  rw [if_neg (by omega), Int.toNat_natCast] at h ⊢
  cases e : (onesL u)[k]? with
  | none => rw [e] at h; simp at h
  | some i =>
    rw [Option.getD_some]
    refine ⟨(onesL_lt e).2, ?_⟩
    unfold onesV
    rw [onesL_filter u (u &&& maskN 0 i) (fun j => decide (j < i)) (fun j hj => by rw [Nat.testBit_and, testBit_maskN]; simp [hj])]
    exact rising_below (onesL_rising u) e
theorem nth_zero (u : Nat) : nthV u 0 = lowOneV u := by unfold nthV lowOneV; rfl
theorem ones_not {u : Nat} (hu : u < 18446744073709551616) : onesV u + onesV (notV u) = 64 := by
  unfold onesV onesL
  have e : (List.range 64).filter (fun i => (notV u).testBit i) = (List.range 64).filter (fun i => !u.testBit i) := List.filter_congr fun k hk => testBit_notV hu k (List.mem_range.1 hk)
  rw [e]
  have := split_length (fun i => u.testBit i) (List.range 64)
  rw [List.length_range] at this
  exact this

/-! What follows: WordMasks. -/
theorem masks_apart (x y z : Nat) : maskN x y &&& maskN (x + y) z = 0 := by
  apply Nat.eq_of_testBit_eq
  intro k
  rw [Nat.testBit_and, testBit_maskN, testBit_maskN, Nat.zero_testBit]
  by_cases h : k < x + y
  · rw [decide_eq_false (p := x + y ≤ k ∧ _) (by omega), Bool.and_false]
  · rw [decide_eq_false (by omega), Bool.false_and]
theorem masks_join (x y z : Nat) : maskN x y ||| maskN (x + y) z = maskN x (y + z) := by
  apply Nat.eq_of_testBit_eq
  intro k
  rw [Nat.testBit_or, testBit_maskN, testBit_maskN, testBit_maskN]
  rw [Bool.eq_iff_iff]
  simp only [Bool.or_eq_true, decide_eq_true_eq]
  omega
theorem range_part (a b : Nat) : ∀ n, ((List.range n).filter fun k => decide (a ≤ k ∧ k < b)).length = min b n - min a n
  | 0 => by simp
  | n + 1 => by
    rw [List.range_succ, List.filter_append, List.length_append, range_part a b n]
    by_cases h : a ≤ n ∧ n < b
    · rw [List.filter_cons_of_pos (by simpa using h)]; simp; omega
    · rw [List.filter_cons_of_neg (by simpa using h)]; simp; omega
theorem ones_mask (x y : Nat) : onesV (maskN x y) = min (x + y) 64 - min x 64 := by
  unfold onesV onesL
  rw [← range_part x (x + y) 64]
  congr 1
  exact List.filter_congr fun k hk => by
    rw [testBit_maskN]
    have := List.mem_range.1 hk
    simp [this]
theorem rising_head : ∀ {l : List Nat} {a : Nat}, l.Pairwise (· < ·) → a ∈ l → (∀ b ∈ l, a ≤ b) → l[0]? = some a
  | [], _, _, h, _ => by simp at h
  | c :: l, a, hp, h, hle => by
    rw [List.pairwise_cons] at hp
    rcases List.mem_cons.1 h with rfl | h
    · rfl
    · have h1 := hp.1 a h
      have h2 := hle c List.mem_cons_self
      omega
theorem low_mask (x y : Nat) : maskN x y = 0 ∨ lowOneV (maskN x y) = x := by
  by_cases h : x < 64 ∧ 0 < y
  · right
    have : (onesL (maskN x y))[0]? = some x := rising_head (onesL_rising _) (mem_onesL.2 ⟨h.1, by rw [testBit_maskN]; simp; omega⟩) fun b hb => by
      have := (mem_onesL.1 hb).2
      rw [testBit_maskN] at this
      exact (of_decide_eq_true this).1
    unfold lowOneV
    rw [this]; rfl
  · left
    apply Nat.eq_of_testBit_eq
    intro k
    rw [testBit_maskN, Nat.zero_testBit]
    exact decide_eq_false (by omega)

/-! What follows: WordShift. -/
def shlV (u n : Nat) : Nat := (u <<< n) % 18446744073709551616
theorem testBit_shlV (u n k : Nat) (hk : k < 64) : (shlV u n).testBit k = (decide (n ≤ k) && u.testBit (k - n)) := by
  unfold shlV
  rw [show (18446744073709551616 : Nat) = 2 ^ 64 by decide, Nat.testBit_mod_two_pow, Nat.testBit_shiftLeft]
  simp [hk]
theorem onesL_shl (u n : Nat) (hn : n ≤ 64) : onesL (shlV u n) = ((onesL u).filter fun j => decide (j < 64 - n)).map (fun j => n + j) := by
  have e1 : onesL (shlV u n) = (List.range 64).filter (fun k => decide (n ≤ k) && u.testBit (k - n)) := List.filter_congr fun k hk => testBit_shlV u n k (List.mem_range.1 hk)
  have e2 : (onesL u).filter (fun j => decide (j < 64 - n)) = (List.range (64 - n)).filter (fun i => u.testBit i) := by
    unfold onesL
    rw [List.filter_filter]
    have r : List.range 64 = List.range (64 - n) ++ (List.range n).map (fun x => 64 - n + x) := by
      rw [← List.range_add, show 64 - n + n = 64 by omega]
    rw [r, List.filter_append]
    have a : (List.range (64 - n)).filter (fun i => decide (i < 64 - n) && u.testBit i) = (List.range (64 - n)).filter (fun i => u.testBit i) := List.filter_congr fun k hk => by simp [List.mem_range.1 hk]
    have b : ((List.range n).map (fun x => 64 - n + x)).filter (fun i => decide (i < 64 - n) && u.testBit i) = [] := List.filter_eq_nil_iff.2 fun k hk => by
      obtain ⟨x, _, rfl⟩ := List.mem_map.1 hk
      simp; intro h; omega
    rw [a, b, List.append_nil]
  rw [e1, e2]
  have r : List.range 64 = List.range n ++ (List.range (64 - n)).map (fun x => n + x) := by
    rw [← List.range_add, show n + (64 - n) = 64 by omega]
  rw [r, List.filter_append]
  have a : (List.range n).filter (fun k => decide (n ≤ k) && u.testBit (k - n)) = [] := List.filter_eq_nil_iff.2 fun k hk => by
    have := List.mem_range.1 hk
    simp; omega
  rw [a, List.nil_append, List.filter_map]
  congr 1
  exact List.filter_congr fun k _ => by simp
theorem low_none {u : Nat} : lowOneV u = 64 ↔ onesL u = [] := by
  unfold lowOneV
  cases h : onesL u with
  | nil => simp
  | cons a l =>
    have := (mem_onesL.1 (show a ∈ onesL u by rw [h]; exact List.mem_cons_self)).1
    simp; omega
theorem low_le (u : Nat) : lowOneV u ≤ 64 := by rw [← nth_zero]; exact nth_le u 0
theorem low_least {u j : Nat} (h : j ∈ onesL u) : lowOneV u ≤ j := by
  unfold lowOneV
  have hp := onesL_rising u
  cases e : onesL u with
  | nil => rw [e] at h; simp at h
  | cons a l =>
    rw [e] at h hp
    rw [List.pairwise_cons] at hp
    rcases List.mem_cons.1 h with rfl | h
    · simp
    · have := hp.1 j h; simp; omega
/-- how many fall out -/
theorem ones_out (u v n : Nat) (hv : ∀ k, k < 64 → v.testBit k = (u.testBit k && !decide (k < 64 - n))) : onesV v = ((onesL u).filter fun j => !decide (j < 64 - n)).length := by
  unfold onesV
  rw [onesL_filter u v (fun j => !decide (j < 64 - n)) hv]
theorem shift_counts (u v n : Nat) (hn : n ≤ 64) (hv : ∀ k, k < 64 → v.testBit k = (u.testBit k && !decide (k < 64 - n))) :
    onesV (shlV u n) + onesV v = onesV u ∧ ((64 ≤ lowOneV u + n ∧ lowOneV (shlV u n) = 64 ∧ onesV v = onesV u) ∨ (lowOneV u + n < 64 ∧ lowOneV (shlV u n) = lowOneV u + n)) := by
  have h1 : onesV (shlV u n) + onesV v = onesV u := by
    rw [ones_out u v n hv]
    unfold onesV
    rw [onesL_shl u n hn, List.length_map]
    exact split_length (fun j => decide (j < 64 - n)) (onesL u)
  refine ⟨h1, ?_⟩
  by_cases h : 64 ≤ lowOneV u + n
  · left
    have e : onesL (shlV u n) = [] := by
      rw [onesL_shl u n hn, List.map_eq_nil_iff]
      refine List.filter_eq_nil_iff.2 fun j hj => ?_
      have := low_least hj
      simp; omega
    have : onesV (shlV u n) = 0 := by unfold onesV; rw [e]; rfl
    exact ⟨h, low_none.2 e, by omega⟩
  · right
    refine ⟨by omega, ?_⟩
    have hm : lowOneV u ∈ onesL u := by
      cases e : onesL u with
      | nil => have := low_none.2 e; omega
      | cons a l => unfold lowOneV; rw [e]; simp
    have : (onesL (shlV u n))[0]? = some (n + lowOneV u) := rising_head (onesL_rising _) (by
        rw [onesL_shl u n hn]
        exact List.mem_map.2 ⟨_, List.mem_filter.2 ⟨hm, by simp; omega⟩, rfl⟩) fun b hb => by
      rw [onesL_shl u n hn] at hb
      obtain ⟨j, hj, rfl⟩ := List.mem_map.1 hb
      have := low_least (List.mem_filter.1 hj).1
      omega
    show ((onesL (shlV u n))[0]?).getD 64 = _
    rw [this, Option.getD_some]; omega
end Go.Proofs.Ytegolecdmpikhaa
/- Plain arithmetic, of no program: how many bits are set, added up field by field, first of two bits, then of four, then of eight, then all bytes by one product; and how the set bits of a word part at a bit. -/
namespace Go.Proofs.Ytegolecdmpikhaa
open Go.RowKit

/-- every second field of k bits, n of them -/
def pat (k : Nat) : Nat → Nat
  | 0 => 0
  | n + 1 => 2 ^ (2 * k) * pat k n + (2 ^ k - 1)
/-- each two neighbours of k bits added, n pairs -/
def pairs (k : Nat) : Nat → Nat → Nat
  | 0, _ => 0
  | n + 1, u => 2 ^ (2 * k) * pairs k n (u / 2 ^ (2 * k)) + (u % 2 ^ k + u / 2 ^ k % 2 ^ k)
/-- the sum of n fields of k bits -/
def dsum (k : Nat) : Nat → Nat → Nat
  | 0, _ => 0
  | n + 1, u => u % 2 ^ k + dsum k n (u / 2 ^ k)

theorem half_lt (k : Nat) : 2 ^ k - 1 < 2 ^ (2 * k) := by
  have h := Nat.pow_le_pow_right (show 0 < 2 by decide) (show k ≤ 2 * k by omega)
  have := Nat.two_pow_pos k
  omega
theorem and_pat (k n u : Nat) : u &&& pat k (n + 1) = 2 ^ (2 * k) * (u / 2 ^ (2 * k) &&& pat k n) + u % 2 ^ k := by
  have hm : u % 2 ^ k < 2 ^ (2 * k) := by
    have := Nat.mod_lt u (Nat.two_pow_pos k)
    have := half_lt k
    omega
  apply Nat.eq_of_testBit_eq
  intro j
  show (u &&& (2 ^ (2 * k) * pat k n + (2 ^ k - 1))).testBit j = _
  rw [Nat.testBit_and, Nat.testBit_two_pow_mul_add _ (half_lt k), Nat.testBit_two_pow_mul_add _ hm]
  by_cases h : j < 2 * k
  · rw [if_pos h, if_pos h, Nat.testBit_two_pow_sub_one, Nat.testBit_mod_two_pow, Bool.and_comm]
  · rw [if_neg h, if_neg h, Nat.testBit_and, Nat.testBit_div_two_pow, show j - 2 * k + 2 * k = j by omega]
theorem pairs_eq (k : Nat) : ∀ n u, (u &&& pat k n) + (u / 2 ^ k &&& pat k n) = pairs k n u
  | 0, u => by simp [pat, pairs]
  | n + 1, u => by
    rw [and_pat, and_pat]
    have ih := pairs_eq k n (u / 2 ^ (2 * k))
    rw [Nat.div_div_eq_div_mul, Nat.mul_comm (2 ^ (2 * k)) (2 ^ k), ← Nat.div_div_eq_div_mul] at ih
    show _ = 2 ^ (2 * k) * pairs k n (u / 2 ^ (2 * k)) + (u % 2 ^ k + u / 2 ^ k % 2 ^ k)
    rw [← ih, Nat.mul_add]
    omega
theorem digit_lt (k u : Nat) (hk : 1 ≤ k) : u % 2 ^ k + u / 2 ^ k % 2 ^ k < 2 ^ (2 * k) := by
  have h1 := Nat.mod_lt u (Nat.two_pow_pos k)
  have h2 := Nat.mod_lt (u / 2 ^ k) (Nat.two_pow_pos k)
  have h3 : 2 ^ (2 * k) = 2 ^ k * 2 ^ k := by rw [show 2 * k = k + k by omega, Nat.pow_add]
  have h4 : 2 ≤ 2 ^ k := by have := Nat.pow_le_pow_right (show 0 < 2 by decide) hk; omega
  have h5 := Nat.mul_le_mul_right (2 ^ k) h4
  omega
theorem dsum_pairs (k : Nat) (hk : 1 ≤ k) : ∀ n u, dsum (2 * k) n (pairs k n u) = dsum k (2 * n) u
  | 0, _ => rfl
  | n + 1, u => by
    have h := digit_lt k u hk
    have hp := Nat.two_pow_pos (2 * k)
    show (2 ^ (2 * k) * pairs k n (u / 2 ^ (2 * k)) + (u % 2 ^ k + u / 2 ^ k % 2 ^ k)) % 2 ^ (2 * k) + dsum (2 * k) n ((2 ^ (2 * k) * pairs k n (u / 2 ^ (2 * k)) + (u % 2 ^ k + u / 2 ^ k % 2 ^ k)) / 2 ^ (2 * k)) = u % 2 ^ k + (u / 2 ^ k % 2 ^ k + dsum k (2 * n) (u / 2 ^ k / 2 ^ k))
    rw [Nat.mul_add_mod, Nat.mod_eq_of_lt h, Nat.mul_add_div hp, Nat.div_eq_of_lt h, Nat.add_zero, dsum_pairs k hk n, Nat.div_div_eq_div_mul, ← Nat.pow_add, show k + k = 2 * k by omega]
    omega
theorem pairs_lt (k : Nat) (hk : 1 ≤ k) : ∀ n u, pairs k n u < 2 ^ (2 * k * n)
  | 0, _ => by simp [pairs]
  | n + 1, u => by
    have h := digit_lt k u hk
    have ih := pairs_lt k hk n (u / 2 ^ (2 * k))
    show 2 ^ (2 * k) * pairs k n (u / 2 ^ (2 * k)) + (u % 2 ^ k + u / 2 ^ k % 2 ^ k) < _
    have e : 2 ^ (2 * k * (n + 1)) = 2 ^ (2 * k) * 2 ^ (2 * k * n) := by rw [← Nat.pow_add]; congr 1; rw [Nat.mul_add]; omega
    rw [e]
    have := Nat.mul_le_mul_left (2 ^ (2 * k)) ih
    rw [Nat.mul_succ] at this
    omega
theorem dsum_ones : ∀ n u, dsum 1 n u = ((List.range n).filter fun i => u.testBit i).length
  | 0, _ => rfl
  | n + 1, u => by
    rw [List.range_succ_eq_map, List.filter_cons, List.filter_map]
    have e : ((fun i => u.testBit i) ∘ Nat.succ) = fun i => (u / 2).testBit i := by funext i; simp [Nat.testBit_succ]
    rw [e]
    have ih := dsum_ones n (u / 2)
    show u % 2 ^ 1 + dsum 1 n (u / 2 ^ 1) = _
    rw [Nat.pow_one, ih, Nat.testBit_zero]
    by_cases h : u % 2 = 1
    · simp [h]; omega
    · simp [h]; omega
theorem top_byte (A T R : Nat) (hA : A < 72057594037927936) (hT : T < 256) : (A + 72057594037927936 * T + 18446744073709551616 * R) % 18446744073709551616 / 72057594037927936 = T := by omega
theorem bytes_prod (e0 e1 e2 e3 e4 e5 e6 e7 : Nat) (h : e0 + e1 + e2 + e3 + e4 + e5 + e6 + e7 < 256) :
    (e0 + 256 * (e1 + 256 * (e2 + 256 * (e3 + 256 * (e4 + 256 * (e5 + 256 * (e6 + 256 * e7))))))) * 72340172838076673 % 18446744073709551616 / 72057594037927936 = e0 + e1 + e2 + e3 + e4 + e5 + e6 + e7 := by
  have hA : e0 + 256 * (e0 + e1) + 65536 * (e0 + e1 + e2) + 16777216 * (e0 + e1 + e2 + e3) + 4294967296 * (e0 + e1 + e2 + e3 + e4) + 1099511627776 * (e0 + e1 + e2 + e3 + e4 + e5) + 281474976710656 * (e0 + e1 + e2 + e3 + e4 + e5 + e6) < 72057594037927936 := by
    have s0 : e0 ≤ 255 := by omega
    have s1 : e0 + e1 ≤ 255 := by omega
    have s2 : e0 + e1 + e2 ≤ 255 := by omega
    have s3 : e0 + e1 + e2 + e3 ≤ 255 := by omega
    have s4 : e0 + e1 + e2 + e3 + e4 ≤ 255 := by omega
    have s5 : e0 + e1 + e2 + e3 + e4 + e5 ≤ 255 := by omega
    have s6 : e0 + e1 + e2 + e3 + e4 + e5 + e6 ≤ 255 := by omega
    generalize e0 + e1 + e2 + e3 + e4 + e5 + e6 = x6 at *
    generalize e0 + e1 + e2 + e3 + e4 + e5 = x5 at *
    generalize e0 + e1 + e2 + e3 + e4 = x4 at *
    generalize e0 + e1 + e2 + e3 = x3 at *
    generalize e0 + e1 + e2 = x2 at *
    generalize e0 + e1 = x1 at *
    omega
  have key := top_byte _ _ ((e1 + e2 + e3 + e4 + e5 + e6 + e7) + 256 * (e2 + e3 + e4 + e5 + e6 + e7) + 65536 * (e3 + e4 + e5 + e6 + e7) + 16777216 * (e4 + e5 + e6 + e7) + 4294967296 * (e5 + e6 + e7) + 1099511627776 * (e6 + e7) + 281474976710656 * e7) hA h
  refine Eq.trans ?_ key
  congr 2
  omega
theorem bytes_sum (v : Nat) (h : dsum 8 8 v < 256) (hv : v < 18446744073709551616) : v * 72340172838076673 % 18446744073709551616 / 72057594037927936 = dsum 8 8 v := by
  have hd : ∀ x : Nat, x = x % 2 ^ 8 + 256 * (x / 2 ^ 8) := fun x => by have := Nat.mod_add_div x (2 ^ 8); omega
  have e : dsum 8 8 v = v % 2 ^ 8 + (v / 2 ^ 8 % 2 ^ 8 + (v / 2 ^ 8 / 2 ^ 8 % 2 ^ 8 + (v / 2 ^ 8 / 2 ^ 8 / 2 ^ 8 % 2 ^ 8 + (v / 2 ^ 8 / 2 ^ 8 / 2 ^ 8 / 2 ^ 8 % 2 ^ 8 + (v / 2 ^ 8 / 2 ^ 8 / 2 ^ 8 / 2 ^ 8 / 2 ^ 8 % 2 ^ 8 + (v / 2 ^ 8 / 2 ^ 8 / 2 ^ 8 / 2 ^ 8 / 2 ^ 8 / 2 ^ 8 % 2 ^ 8 + (v / 2 ^ 8 / 2 ^ 8 / 2 ^ 8 / 2 ^ 8 / 2 ^ 8 / 2 ^ 8 / 2 ^ 8 % 2 ^ 8 + 0))))))) := rfl
  have h7 : v / 2 ^ 8 / 2 ^ 8 / 2 ^ 8 / 2 ^ 8 / 2 ^ 8 / 2 ^ 8 / 2 ^ 8 < 256 := by
    simp only [Nat.div_div_eq_div_mul]
    exact Nat.div_lt_of_lt_mul (by simpa using hv)
  rw [e] at h ⊢
  clear e
  have d0 := hd v
  have d1 := hd (v / 2 ^ 8)
  have d2 := hd (v / 2 ^ 8 / 2 ^ 8)
  have d3 := hd (v / 2 ^ 8 / 2 ^ 8 / 2 ^ 8)
  have d4 := hd (v / 2 ^ 8 / 2 ^ 8 / 2 ^ 8 / 2 ^ 8)
  have d5 := hd (v / 2 ^ 8 / 2 ^ 8 / 2 ^ 8 / 2 ^ 8 / 2 ^ 8)
  have d6 := hd (v / 2 ^ 8 / 2 ^ 8 / 2 ^ 8 / 2 ^ 8 / 2 ^ 8 / 2 ^ 8)
  have d7 : v / 2 ^ 8 / 2 ^ 8 / 2 ^ 8 / 2 ^ 8 / 2 ^ 8 / 2 ^ 8 / 2 ^ 8 % 2 ^ 8 = v / 2 ^ 8 / 2 ^ 8 / 2 ^ 8 / 2 ^ 8 / 2 ^ 8 / 2 ^ 8 / 2 ^ 8 := Nat.mod_eq_of_lt h7
  rw [d7] at h ⊢
  clear h7 d7 hd hv
  generalize v / 2 ^ 8 / 2 ^ 8 / 2 ^ 8 / 2 ^ 8 / 2 ^ 8 / 2 ^ 8 / 2 ^ 8 = v7 at *
  generalize v / 2 ^ 8 / 2 ^ 8 / 2 ^ 8 / 2 ^ 8 / 2 ^ 8 / 2 ^ 8 = v6 at *
  generalize v / 2 ^ 8 / 2 ^ 8 / 2 ^ 8 / 2 ^ 8 / 2 ^ 8 = v5 at *
  generalize v / 2 ^ 8 / 2 ^ 8 / 2 ^ 8 / 2 ^ 8 = v4 at *
  generalize v / 2 ^ 8 / 2 ^ 8 / 2 ^ 8 = v3 at *
  generalize v / 2 ^ 8 / 2 ^ 8 = v2 at *
  generalize v / 2 ^ 8 = v1 at *
  generalize v % 2 ^ 8 = e0 at *
  generalize v1 % 2 ^ 8 = e1 at *
  generalize v2 % 2 ^ 8 = e2 at *
  generalize v3 % 2 ^ 8 = e3 at *
  generalize v4 % 2 ^ 8 = e4 at *
  generalize v5 % 2 ^ 8 = e5 at *
  generalize v6 % 2 ^ 8 = e6 at *
  subst d6 d5 d4 d3 d2 d1 d0
  rw [bytes_prod e0 e1 e2 e3 e4 e5 e6 v7 (by omega)]
  omega
/-- all of it: what the three sums and the product come to -/
theorem swar (u : Nat) : pairs 4 8 (pairs 2 16 (pairs 1 32 u)) * 72340172838076673 % 18446744073709551616 / 72057594037927936 = onesV u := by
  have e : dsum 8 8 (pairs 4 8 (pairs 2 16 (pairs 1 32 u))) = onesV u := by
    have e1 := dsum_pairs 4 (by decide) 8 (pairs 2 16 (pairs 1 32 u))
    have e2 := dsum_pairs 2 (by decide) 16 (pairs 1 32 u)
    have e3 := dsum_pairs 1 (by decide) 32 u
    have e4 := dsum_ones 64 u
    exact e1.trans (e2.trans (e3.trans e4))
  have hl := pairs_lt 4 (by decide) 8 (pairs 2 16 (pairs 1 32 u))
  have h64 := ones_le u
  rw [bytes_sum _ (by omega) (by simpa using hl), e]

/-- the bits that are set, below a bit and from it on -/
theorem onesL_split (u h : Nat) (hu : u < 18446744073709551616) (hh : h ≤ 64) : onesL u = onesL (u &&& maskN 0 h) ++ (onesL (u / 2 ^ h)).map (h + ·) := by
  have r : List.range 64 = List.range h ++ (List.range (64 - h)).map (fun x => h + x) := by
    rw [← List.range_add, show h + (64 - h) = 64 by omega]
  have e1 : onesL (u &&& maskN 0 h) = (List.range h).filter (fun i => u.testBit i) := by
    unfold onesL
    have e : (List.range 64).filter (fun i => (u &&& maskN 0 h).testBit i) = (List.range 64).filter (fun i => u.testBit i && decide (i < h)) := List.filter_congr fun k hk => by
      rw [Nat.testBit_and, testBit_maskN]; have := List.mem_range.1 hk; simp [this]
    rw [e, r, List.filter_append]
    have a : (List.range h).filter (fun i => u.testBit i && decide (i < h)) = (List.range h).filter (fun i => u.testBit i) := List.filter_congr fun k hk => by simp [List.mem_range.1 hk]
    have b : ((List.range (64 - h)).map (fun x => h + x)).filter (fun i => u.testBit i && decide (i < h)) = [] := List.filter_eq_nil_iff.2 fun k hk => by
      obtain ⟨x, _, rfl⟩ := List.mem_map.1 hk
      simp
    rw [a, b, List.append_nil]
  have e2 : onesL (u / 2 ^ h) = (List.range (64 - h)).filter (fun i => u.testBit (h + i)) := by
    unfold onesL
    have q : List.range 64 = List.range (64 - h) ++ (List.range h).map (fun x => 64 - h + x) := by
      rw [← List.range_add, show 64 - h + h = 64 by omega]
    rw [q, List.filter_append]
    have a : (List.range (64 - h)).filter (fun i => (u / 2 ^ h).testBit i) = (List.range (64 - h)).filter (fun i => u.testBit (h + i)) := List.filter_congr fun k _ => by rw [Nat.testBit_div_two_pow, Nat.add_comm]
    have b : ((List.range h).map (fun x => 64 - h + x)).filter (fun i => (u / 2 ^ h).testBit i) = [] := List.filter_eq_nil_iff.2 fun k hk => by
      obtain ⟨x, _, rfl⟩ := List.mem_map.1 hk
      rw [Nat.testBit_div_two_pow, testBit_high hu (by omega)]
      simp
    rw [a, b, List.append_nil]
  rw [e1, e2]
  show (List.range 64).filter _ = _
  rw [r, List.filter_append, List.filter_map]
  rfl

/-- the n-th lies below h: it is one of those below -/
theorem nth_below (u h n : Nat) (hu : u < 18446744073709551616) (hh : h ≤ 64) (hn : n < onesV (u &&& maskN 0 h)) : nthV u n < h := by
  unfold nthV
  rw [if_neg (by omega), Int.toNat_natCast, onesL_split u h hu hh, List.getElem?_append_left hn]
  obtain ⟨i, hi⟩ : ∃ i, (onesL (u &&& maskN 0 h))[n]? = some i := ⟨_, List.getElem?_eq_getElem hn⟩
  rw [hi]
  have := (onesL_lt hi).2
  rw [Nat.testBit_and, testBit_maskN] at this
  simp at this
  simp; omega
/-- the n-th lies above: it is one of those above -/
theorem nth_above (u h n : Nat) (hu : u < 18446744073709551616) (hh : h ≤ 64) (hn : onesV (u &&& maskN 0 h) ≤ n) (hs : n < onesV u) : nthV u n = h + nthV (u / 2 ^ h) ((n - onesV (u &&& maskN 0 h) : Nat) : Int) ∧ n - onesV (u &&& maskN 0 h) < onesV (u / 2 ^ h) := by
  have hl : onesV u = onesV (u &&& maskN 0 h) + onesV (u / 2 ^ h) := by
    unfold onesV
    conv => lhs; rw [onesL_split u h hu hh]
    simp
  refine ⟨?_, by omega⟩
  unfold nthV
  rw [if_neg (by omega), if_neg (by omega), Int.toNat_natCast, Int.toNat_natCast, onesL_split u h hu hh, List.getElem?_append_right hn, List.getElem?_map]
  have hb : n - onesV (u &&& maskN 0 h) < (onesL (u / 2 ^ h)).length := by show _ < onesV _; omega
  show (Option.map _ (onesL (u / 2 ^ h))[n - onesV (u &&& maskN 0 h)]?).getD 64 = _
  rw [List.getElem?_eq_getElem hb]
  rfl
end Go.Proofs.Ytegolecdmpikhaa
/- What package word answers, as contracts: of any word and number each function returns these plain functions of what it is handed, and changes nothing. -/
namespace Go.Proofs.Ytegolecdmpikhaa
open Go.RowKit

/-! Mask -/
theorem maskN_min (i n : Nat) : maskN (min i 64) (min n 64) = maskN i n :=
  eq_of_bits (maskN_lt _ _) (maskN_lt _ _) fun k hk => by
    rw [testBit_maskN, testBit_maskN]
    apply decide_eq_decide.2
    omega
theorem cast_pow2 (k : Nat) : (2 : Int) ^ k = ((2 ^ k : Nat) : Int) := by rw [Int.natCast_pow]; rfl
theorem mask_spelt (i n : Nat) : IntKind.u64.wrap (IntKind.u64.wrap (IntKind.u64.wrap (2 ^ min n 64) - 1) * 2 ^ min i 64) = ((maskN i n : Nat) : Int) := by
  rw [← maskN_min i n]
  have hi : min i 64 ≤ 64 := Nat.min_le_right _ _
  have hn : min n 64 ≤ 64 := Nat.min_le_right _ _
  generalize min i 64 = I at *
  generalize min n 64 = N at *
  rw [cast_pow2, cast_pow2]
  have e : IntKind.u64.wrap (IntKind.u64.wrap ((2 ^ N : Nat) : Int) - 1) = ((2 ^ N - 1 : Nat) : Int) := by
    rcases Nat.lt_or_ge N 64 with h | h
    · have h1 : 2 ^ N ≤ 2 ^ 63 := Nat.pow_le_pow_right (by decide) (by omega)
      have h2 := Nat.two_pow_pos N
      rw [IntKind.wrap_u64, IntKind.wrap_u64]
      omega
    · obtain rfl : N = 64 := by omega
      rw [IntKind.wrap_u64, IntKind.wrap_u64]
      decide
  rw [e, IntKind.wrap_u64, ← Int.natCast_mul]
  unfold maskN
  rw [Nat.shiftLeft_eq]
  omega
theorem mask_any (i n : Int) (w : World) (hi : -9223372036854775808 ≤ i) (hi' : i ≤ 9223372036854775807) (hn : -9223372036854775808 ≤ n) (hn' : n ≤ 9223372036854775807) :
    Calls Try.prog 58 #[.int .i64 i, .int .i64 n] w fun e w' => e = .returned (.int .u64 (maskV i n)) ∧ w' = w := by
  by_cases h1 : i < 0
  · have e : maskV i n = 0 := by unfold maskV; rw [if_pos (Or.inl h1)]
    rw [e]
    clear e
    go_enter Try.func58, Try.ntmps58
    go_wp2
    go_ret
    exact ⟨rfl, rfl⟩
  by_cases h2 : n < 0
  · have e : maskV i n = 0 := by unfold maskV; rw [if_pos (Or.inr h2)]
    rw [e]
    clear e
    go_enter Try.func58, Try.ntmps58
    go_wp2
    go_ret
    exact ⟨rfl, rfl⟩
  have h3 : 0 ≤ i := by omega
  have h4 : 0 ≤ n := by omega
  have e : maskV i n = maskN i.toNat n.toNat := by unfold maskV; rw [if_neg (by omega)]
  rw [e]
  clear e
  go_enter Try.func58, Try.ntmps58
  go_wp2
  go_ret
  exact ⟨ret_int (mask_spelt i.toNat n.toNat), rfl⟩
theorem mask_to (i n : Int) (r : Nat) (hr : maskV i n = r) (w : World) (hi : -9223372036854775808 ≤ i) (hi' : i ≤ 9223372036854775807) (hn : -9223372036854775808 ≤ n) (hn' : n ≤ 9223372036854775807) :
    Calls Try.prog 58 #[.int .i64 i, .int .i64 n] w fun e w' => e = .returned (.int .u64 r) ∧ w' = w := by
  subst hr; exact mask_any i n w hi hi' hn hn'
theorem maskV_nat (i n : Nat) : maskV i n = maskN i n := by
  unfold maskV; rw [if_neg (by omega), Int.toNat_natCast, Int.toNat_natCast]

/-! Ones -/
def step1 (u : Int) : Int := IntKind.u64.wrap (bits .and .u64 u 6148914691236517205 + bits .and .u64 (u / 2) 6148914691236517205)
def step2 (u : Int) : Int := IntKind.u64.wrap (bits .and .u64 u 3689348814741910323 + bits .and .u64 (u / 4) 3689348814741910323)
def step3 (u : Int) : Int := IntKind.u64.wrap (bits .and .u64 u 1085102592571150095 + bits .and .u64 (u / 16) 1085102592571150095)
theorem and_spelt (a b : Nat) (ha : a < 18446744073709551616) (hb : b < 18446744073709551616) : bits .and .u64 (a : Int) (b : Int) = ((a &&& b : Nat) : Int) := u64_and_nat a b ha hb
theorem step1_eq (u : Nat) (hu : u < 18446744073709551616) : step1 u = (pairs 1 32 u : Nat) := by
  have h := pairs_eq 1 32 u
  have hl := pairs_lt 1 (by decide) 32 u
  rw [show pat 1 32 = 6148914691236517205 by decide +kernel] at h
  unfold step1
  rw [show ((u : Int) / 2) = ((u / 2 : Nat) : Int) by omega]
  have e1 := and_spelt u 6148914691236517205 hu (by decide)
  have e2 := and_spelt (u / 2) 6148914691236517205 (by omega) (by decide)
  rw [show (((6148914691236517205 : Nat)) : Int) = 6148914691236517205 by rfl] at e1 e2
  rw [e1, e2, ← Int.natCast_add, IntKind.wrap_u64]
  rw [show (2 : Nat) ^ 1 = 2 by decide] at h
  rw [h]
  have : (2 : Nat) ^ (2 * 1 * 32) = 18446744073709551616 := by decide
  omega
theorem step2_eq (u : Nat) (hu : u < 18446744073709551616) : step2 u = (pairs 2 16 u : Nat) := by
  have h := pairs_eq 2 16 u
  have hl := pairs_lt 2 (by decide) 16 u
  rw [show pat 2 16 = 3689348814741910323 by decide +kernel] at h
  unfold step2
  rw [show ((u : Int) / 4) = ((u / 4 : Nat) : Int) by omega]
  have e1 := and_spelt u 3689348814741910323 hu (by decide)
  have e2 := and_spelt (u / 4) 3689348814741910323 (by omega) (by decide)
  rw [show (((3689348814741910323 : Nat)) : Int) = 3689348814741910323 by rfl] at e1 e2
  rw [e1, e2, ← Int.natCast_add, IntKind.wrap_u64]
  rw [show (2 : Nat) ^ 2 = 4 by decide] at h
  rw [h]
  have : (2 : Nat) ^ (2 * 2 * 16) = 18446744073709551616 := by decide
  omega
theorem step3_eq (u : Nat) (hu : u < 18446744073709551616) : step3 u = (pairs 4 8 u : Nat) := by
  have h := pairs_eq 4 8 u
  have hl := pairs_lt 4 (by decide) 8 u
  rw [show pat 4 8 = 1085102592571150095 by decide +kernel] at h
  unfold step3
  rw [show ((u : Int) / 16) = ((u / 16 : Nat) : Int) by omega]
  have e1 := and_spelt u 1085102592571150095 hu (by decide)
  have e2 := and_spelt (u / 16) 1085102592571150095 (by omega) (by decide)
  rw [show (((1085102592571150095 : Nat)) : Int) = 1085102592571150095 by rfl] at e1 e2
  rw [e1, e2, ← Int.natCast_add, IntKind.wrap_u64]
  rw [show (2 : Nat) ^ 4 = 16 by decide] at h
  rw [h]
  have : (2 : Nat) ^ (2 * 4 * 8) = 18446744073709551616 := by decide
  omega
theorem ones_spelt (u : Nat) (hu : u < 18446744073709551616) : wrap64 (IntKind.u64.wrap (step3 (step2 (step1 u)) * 72340172838076673) / 72057594037927936) = (onesV u : Nat) := by
  have h1 : pairs 1 32 u < 18446744073709551616 := by have := pairs_lt 1 (by decide) 32 u; simpa using this
  have h2 : pairs 2 16 (pairs 1 32 u) < 18446744073709551616 := by have := pairs_lt 2 (by decide) 16 (pairs 1 32 u); simpa using this
  rw [step1_eq u hu, step2_eq _ h1, step3_eq _ h2]
  have h := swar u
  have hl := ones_le u
  generalize pairs 4 8 (pairs 2 16 (pairs 1 32 u)) = v at *
  rw [IntKind.wrap_u64, show (v : Int) * 72340172838076673 = ((v * 72340172838076673 : Nat) : Int) by omega]
  generalize v * 72340172838076673 = x at *
  rw [show ((x : Nat) : Int) % 18446744073709551616 / 72057594037927936 = ((x % 18446744073709551616 / 72057594037927936 : Nat) : Int) by omega, h]
  unfold wrap64
  omega
/-! LowOne -/
theorem ones_zero {u : Nat} (hu : u < 18446744073709551616) : onesV u = 0 ↔ u = 0 := by
  constructor
  · intro h
    refine eq_of_bits hu (by decide) fun k hk => ?_
    rw [Nat.zero_testBit]
    cases hb : u.testBit k with
    | false => rfl
    | true =>
      have hm := mem_onesL.2 ⟨hk, hb⟩
      have : onesL u = [] := List.eq_nil_of_length_eq_zero h
      rw [this] at hm
      simp at hm
  · rintro rfl; decide
theorem pow_div_two (m : Nat) : 2 ^ (m + 1) / 2 = 2 ^ m := by rw [Nat.pow_succ]; omega
theorem pow_le_32 {m : Nat} (h : m ≤ 5) : 1 ≤ 2 ^ m ∧ 2 ^ m ≤ 32 := by
  have := Nat.two_pow_pos m
  have := Nat.pow_le_pow_right (show 0 < 2 by decide) h
  omega
theorem shr_nat (v h : Nat) : ((v : Int) / 2 ^ h) = ((v / 2 ^ h : Nat) : Int) := by rw [cast_pow2]; exact (Int.natCast_ediv _ _).symm

theorem bit_spelt (u k : Nat) (hu : u < 18446744073709551616) : bits .and .u64 ((u : Int) / 2 ^ k) 1 = (if u.testBit k then 1 else 0 : Int) := by
  rw [shr_nat]
  have h := and_spelt (u / 2 ^ k) 1 (Nat.lt_of_le_of_lt (Nat.div_le_self _ _) hu) (by decide)
  rw [show ((1 : Nat) : Int) = 1 by rfl] at h
  rw [h, Nat.and_one_is_mod]
  have e : u.testBit k = decide (u / 2 ^ k % 2 = 1) := Nat.testBit_eq_decide_div_mod_eq
  rw [e]
  rcases Nat.mod_two_eq_zero_or_one (u / 2 ^ k) with h | h <;> rw [h] <;> rfl

theorem low_nat (u : Nat) (hu : u < 18446744073709551616) (w : World) :
    Calls Try.prog 69 #[.int .u64 (u : Int)] w fun e w' => e = .returned (.int .i64 (lowOneV u : Nat)) ∧ w' = w := by
  by_cases h0 : u = 0
  · subst h0
    have e : lowOneV 0 = 64 := by decide
    rw [e]
    clear e
    go_enter Try.func69, Try.ntmps69
    go_wp2
    go_ret
    exact ⟨rfl, rfl⟩
  have z : ((u : Int) == 0) = false := by rw [beq_eq_false_iff_ne]; omega
  have O0 := hide (show 0 < onesV u from Nat.pos_of_ne_zero fun h => h0 ((ones_zero hu).1 h))
  have U := hide hu
  clear hu h0
  go_enter Try.func69, Try.ntmps69
  go_wp2
  clear z
  go_loop [0, 3, 4] (fun x y z => ∃ j v a : Nat, j ≤ 6 ∧ x = .int .u64 (v : Int) ∧ y = .int .i64 (a : Int) ∧ z = .int .i64 ((2 ^ j / 2 : Nat) : Int) ∧ v < 18446744073709551616 ∧ 0 < onesV v ∧ nthV v 0 < 2 ^ j ∧ lowOneV u = a + nthV v 0) (fun _ _ z => (intOf z).toNat)
  case atStart =>
    refine ⟨6, u, 0, Nat.le_refl _, rfl, rfl, rfl, U.out, O0.out, ?_, by rw [nth_zero, Nat.zero_add]⟩
    have := nth_none u 0
    have := nth_le u 0
    have := O0.out
    show nthV u 0 < 64
    have e : nthV u ((0 : Nat) : Int) = nthV u 0 := rfl
    omega
  case round =>
    obtain ⟨j, v, a, hj, rfl, rfl, rfl, hv, ho, hn, hl⟩ := hrel
    have ha : a ≤ 64 := by have := low_le u; omega
    have N := hide hn
    have L := hide hl
    have O := hide ho
    have V := hide hv
    clear hn hl ho hv
    cases j with
    | zero =>
      go_wp2
      go_ret
      have := N.out
      have := L.out
      exact ⟨ret_int (by omega), rfl⟩
    | succ m =>
      rw [pow_div_two]
      obtain ⟨p1, p2⟩ := pow_le_32 (show m ≤ 5 by omega)
      have q1 : (1 : Int) ≤ ((2 ^ m : Nat) : Int) := by omega
      have q2 : ((2 ^ m : Nat) : Int) ≤ 32 := by omega
      have M := hide (maskV_nat 0 (2 ^ m))
      have A := hide (and_spelt v (maskN 0 (2 ^ m)) V.out (maskN_lt _ _))
      have hand : v &&& maskN 0 (2 ^ m) < 18446744073709551616 := Nat.lt_of_le_of_lt Nat.and_le_left V.out
      have P := hide (show 2 ^ m ≤ 64 by omega)
      have H2 := hide (show ((2 ^ m / 2 : Nat) : Int) = ((2 ^ m : Nat) : Int) / 2 by omega)
      have HP := hide (show 2 ^ (m + 1) = 2 ^ m + 2 ^ m by rw [Nat.pow_succ]; omega)
      have HT := hide (show (((2 ^ m : Nat) : Int)).toNat = 2 ^ m by omega)
      clear p1 p2
      by_cases hz : v &&& maskN 0 (2 ^ m) = 0
      · have zz : (bits .and .u64 (v : Int) (maskN 0 (2 ^ m) : Nat) == 0) = true := by rw [A.out, hz]; rfl
        have HZ := hide hz
        clear hz
        generalize ((2 ^ m : Nat) : Int) = p at *
        go_wp2_with fail
        refine (mask_to 0 p _ (by exact M.out) _ (by omega) (by omega) (by omega) (by omega)).mono ?_
        rintro e w' ⟨rfl, rfl⟩
        go_wp2
        go_round
        case rel =>
          have e0 : onesV (v &&& maskN 0 (2 ^ m)) = 0 := by rw [HZ.out]; decide
          obtain ⟨f1, f2⟩ := nth_above v (2 ^ m) 0 V.out P.out (by omega) O.out
          rw [e0] at f1 f2
          have f3 : nthV v 0 = 2 ^ m + nthV (v / 2 ^ 2 ^ m) 0 := f1
          have := N.out
          have := HP.out
          have := L.out
          refine ⟨m, v / 2 ^ 2 ^ m, a + 2 ^ m, by omega, by rw [HT.out, shr_nat], by rw [← HT.out]; congr 1; omega, by rw [H2.out], Nat.lt_of_le_of_lt (Nat.div_le_self _ _) V.out, by omega, by omega, by omega⟩
        case measure => simp [intOf]; omega
      · have zz : (bits .and .u64 (v : Int) (maskN 0 (2 ^ m) : Nat) == 0) = false := by rw [A.out, beq_eq_false_iff_ne]; omega
        have HZ := hide hz
        have HA := hide hand
        clear hz hand
        generalize ((2 ^ m : Nat) : Int) = p at *
        go_wp2_with fail
        refine (mask_to 0 p _ (by exact M.out) _ (by omega) (by omega) (by omega) (by omega)).mono ?_
        rintro e w' ⟨rfl, rfl⟩
        go_wp2
        go_round
        case rel =>
          have e0 : 0 < onesV (v &&& maskN 0 (2 ^ m)) := Nat.pos_of_ne_zero fun h => HZ.out ((ones_zero HA.out).1 h)
          refine ⟨m, v, a, by omega, rfl, rfl, by rw [H2.out], V.out, O.out, nth_below v (2 ^ m) 0 V.out P.out e0, L.out⟩
        case measure => simp [intOf]; omega
theorem low_to (x : Int) (u : Nat) (r : Int) (hx : x = u) (hu : u < 18446744073709551616) (hr : (lowOneV u : Int) = r) (w : World) :
    Calls Try.prog 69 #[.int .u64 x] w fun e w' => e = .returned (.int .i64 r) ∧ w' = w := by
  subst hx; subst hr; exact low_nat u hu w

/-! LowZero -/
theorem xor_spelt (u : Nat) (hu : u < 18446744073709551616) : bits .xor .u64 IntKind.u64.max (u : Int) = (notV u : Nat) := by
  have e : IntKind.u64.max = ((18446744073709551615 : Nat) : Int) := by decide
  rw [e, u64_xor_nat _ _ (by decide) hu]
  congr 1
  refine eq_of_bits (Nat.xor_lt_two_pow (n := 64) (by decide) (by simpa using hu)) (by unfold notV; omega) fun k hk => ?_
  rw [Nat.testBit_xor, testBit_notV hu k hk, show (18446744073709551615 : Nat) = 2 ^ 64 - 1 by decide, Nat.testBit_two_pow_sub_one]
  simp [hk]
theorem notV_lt (u : Nat) : notV u < 18446744073709551616 := by unfold notV; omega
theorem lowz_nat (u : Nat) (hu : u < 18446744073709551616) (w : World) :
    Calls Try.prog 63 #[.int .u64 (u : Int)] w fun e w' => e = .returned (.int .i64 (lowOneV (notV u) : Nat)) ∧ w' = w := by
  have hs : IntKind.u64.signed = false := rfl
  have hx : bits .xor .u64 IntKind.u64.max (u : Int) = (notV u : Nat) := xor_spelt u hu
  have U := hide hu
  clear hu
  go_enter Try.func63, Try.ntmps63
  go_wp2_with fail
  refine (low_to _ (notV u) _ rfl (notV_lt u) rfl _).mono ?_
  rintro e w' ⟨rfl, rfl⟩
  go_wp2
  go_ret
  exact ⟨rfl, rfl⟩

theorem lowz_to (x : Int) (u : Nat) (r : Int) (hx : x = u) (hu : u < 18446744073709551616) (hr : (lowOneV (notV u) : Int) = r) (w : World) :
    Calls Try.prog 63 #[.int .u64 x] w fun e w' => e = .returned (.int .i64 r) ∧ w' = w := by
  subst hx; subst hr; exact lowz_nat u hu w
theorem mask_great : maskV 1 4611686018427387904 = 18446744073709551614 := by
  have e : maskV 1 4611686018427387904 = maskN 1 4611686018427387904 := maskV_nat 1 4611686018427387904
  rw [e, ← maskN_min]
  decide +kernel

/-! Nth -/
end Go.Proofs.Ytegolecdmpikhaa
/- What the document's own answers to word are (hodmanref3's Bit, LowOne, LowZero, Ones, Mask, Nth), as contracts: the same plain functions as the program's package word has. -/
namespace Go.Proofs.Ytegolecdmpikhaa
open Go.RowKit

/-! Bit -/
theorem bit_nat (u k : Nat) (hu : u < 18446744073709551616) (hk : k < 64) (w : World) :
    Calls Try.prog 68 #[.int .u64 (u : Int), .int .i64 (k : Int)] w fun e w' => e = .returned (.bool (u.testBit k)) ∧ w' = w := by
  have S := hide (bit_spelt u k hu)
  have T := hide (show ((k : Int)).toNat = k by omega)
  have U := hide (show (0 : Int) ≤ u ∧ (u : Int) ≤ 18446744073709551615 by omega)
  have h0 : (0 : Int) ≤ k := by omega
  have h1 : (k : Int) < 64 := by omega
  cases hb : u.testBit k with
  | false =>
    have z : (bits .and .u64 ((u : Int) / 2 ^ ((k : Int)).toNat) 1 == 1) = false := by rw [T.out, S.out, hb]; rfl
    obtain ⟨u0, u1⟩ := U.out
    clear hb hk hu
    generalize (u : Int) = x at *
    generalize (k : Int) = y at *
    go_enter Try.func68, Try.ntmps68
    go_wp2
    go_ret
    exact ⟨rfl, rfl⟩
  | true =>
    have z : (bits .and .u64 ((u : Int) / 2 ^ ((k : Int)).toNat) 1 == 1) = true := by rw [T.out, S.out, hb]; rfl
    obtain ⟨u0, u1⟩ := U.out
    clear hb hk hu
    generalize (u : Int) = x at *
    generalize (k : Int) = y at *
    go_enter Try.func68, Try.ntmps68
    go_wp2
    go_ret
    exact ⟨rfl, rfl⟩

theorem bit_to (x y : Int) (u k : Nat) (hx : x = u) (hy : y = k) (hu : u < 18446744073709551616) (hk : k < 64) (w : World) :
    Calls Try.prog 68 #[.int .u64 x, .int .i64 y] w fun e w' => e = .returned (.bool (u.testBit k)) ∧ w' = w := by
  subst hx; subst hy; exact bit_nat u k hu hk w
/-! LowOne, Nth: the lowest of those that are left -/
/-- the bits set from k on -/
def fromL (u k : Nat) : List Nat := ((List.range (64 - k)).map (k + ·)).filter fun i => u.testBit i
theorem fromL_zero (u : Nat) : fromL u 0 = onesL u := by unfold fromL onesL; simp
theorem fromL_end (u : Nat) : fromL u 64 = [] := rfl
theorem fromL_step (u k : Nat) (hk : k < 64) : fromL u k = if u.testBit k then k :: fromL u (k + 1) else fromL u (k + 1) := by
  unfold fromL
  rw [show 64 - k = (64 - (k + 1)) + 1 by omega, List.range_succ_eq_map, List.map_cons, List.filter_cons, Nat.add_zero, List.map_map]
  have e : ((k + ·) ∘ Nat.succ) = (k + 1 + ·) := by funext x; simp; omega
  rw [e]

/-! Ones -/
/-! Nth -/
theorem nth_from (u : Nat) (n : Int) : nthV u n = if n < 0 then 64 else ((fromL u 0)[n.toNat]?).getD 64 := by rw [fromL_zero]; rfl
theorem from_cons (u k : Nat) (hk : k < 64) (hb : u.testBit k = true) (m : Nat) : (fromL u k)[m + 1]? = (fromL u (k + 1))[m]? := by rw [fromL_step u k hk, if_pos hb]; rfl
theorem from_head (u k : Nat) (hk : k < 64) (hb : u.testBit k = true) : (fromL u k)[0]? = some k := by rw [fromL_step u k hk, if_pos hb]; rfl
theorem from_skip (u k : Nat) (hk : k < 64) (hb : u.testBit k = false) : fromL u k = fromL u (k + 1) := by rw [fromL_step u k hk, hb]; rfl
/-! Mask -/
theorem mod_on (M k : Nat) (hb : M.testBit k = true) : M % 2 ^ k ||| 2 ^ k = M % 2 ^ (k + 1) := by
  apply Nat.eq_of_testBit_eq
  intro j
  rw [Nat.testBit_or, Nat.testBit_mod_two_pow, Nat.testBit_mod_two_pow, Nat.testBit_two_pow]
  rcases Nat.lt_trichotomy j k with h | rfl | h
  · simp [h, show j < k + 1 by omega, show k ≠ j by omega]
  · simp [hb]
  · simp [show ¬ j < k by omega, show ¬ j < k + 1 by omega, show k ≠ j by omega]
theorem mod_off (M k : Nat) (hb : M.testBit k = false) : M % 2 ^ k = M % 2 ^ (k + 1) := by
  apply Nat.eq_of_testBit_eq
  intro j
  rw [Nat.testBit_mod_two_pow, Nat.testBit_mod_two_pow]
  rcases Nat.lt_trichotomy j k with h | rfl | h
  · simp [h, show j < k + 1 by omega]
  · simp [hb]
  · simp [show ¬ j < k by omega, show ¬ j < k + 1 by omega]
end Go.Proofs.Ytegolecdmpikhaa
/- Plain arithmetic of row, of no program: many bits as words of 64; a piece set, counted, the first that is not set (P4.1), and what follows of them. -/
namespace Go.Proofs.Ytegolecdmpikhaa
open Go.RowKit

/-- all are words of 64 bits -/
def W64 (ws : List Nat) : Prop := ∀ u ∈ ws, u < 18446744073709551616
/-- bit i of many -/
def bitV (ws : List Nat) (i : Nat) : Bool := (ws.getD (i / 64) 0).testBit (i % 64)

theorem W64.getD {ws : List Nat} (h : W64 ws) (k : Nat) : ws.getD k 0 < 18446744073709551616 := by
  rw [List.getD_eq_getElem?_getD]
  rcases Nat.lt_or_ge k ws.length with hk | hk
  · rw [List.getElem?_eq_getElem hk]; exact h _ (List.getElem_mem hk)
  · rw [List.getElem?_eq_none hk]; decide
theorem bitV_word (ws : List Nat) (k j : Nat) (hj : j < 64) : bitV ws (64 * k + j) = (ws.getD k 0).testBit j := by
  unfold bitV
  rw [show (64 * k + j) / 64 = k by omega, show (64 * k + j) % 64 = j by omega]
theorem bitV_beyond (ws : List Nat) (i : Nat) (h : 64 * ws.length ≤ i) : bitV ws i = false := by
  unfold bitV
  rw [List.getD_eq_getElem?_getD, List.getElem?_eq_none (by omega)]
  exact Nat.zero_testBit _
theorem row_ext {a b : List Nat} (ha : W64 a) (hb : W64 b) (hl : a.length = b.length) (h : ∀ i, i < 64 * a.length → bitV a i = bitV b i) : a = b := by
  apply List.ext_getElem hl
  intro k h1 h2
  have e1 : a.getD k 0 = a[k] := by rw [List.getD_eq_getElem?_getD, List.getElem?_eq_getElem h1]; rfl
  have e2 : b.getD k 0 = b[k] := by rw [List.getD_eq_getElem?_getD, List.getElem?_eq_getElem h2]; rfl
  rw [← e1, ← e2]
  refine eq_of_bits (ha.getD k) (hb.getD k) fun j hj => ?_
  have := h (64 * k + j) (by omega)
  rwa [bitV_word _ _ _ hj, bitV_word _ _ _ hj] at this

/-- the bits of word k that lie from f on, n of them -/
def partN (k f n : Nat) : Nat := maskN (f - 64 * k) (f + n - 64 * k - (f - 64 * k))
theorem partN_lt (k f n : Nat) : partN k f n < 18446744073709551616 := maskN_lt _ _
theorem testBit_partN (k f n j : Nat) (hj : j < 64) : (partN k f n).testBit j = decide (f ≤ 64 * k + j ∧ 64 * k + j < f + n) := by
  unfold partN
  rw [testBit_maskN]
  apply decide_eq_decide.2
  omega
/-- a piece set, or not -/
def setV (ws : List Nat) (f n : Nat) (on : Bool) : List Nat := ws.mapIdx fun k u => if on then u ||| partN k f n else u &&& notV (partN k f n)
theorem setV_length (ws : List Nat) (f n : Nat) (on : Bool) : (setV ws f n on).length = ws.length := by unfold setV; rw [List.length_mapIdx]
theorem setV_getD (ws : List Nat) (f n : Nat) (on : Bool) (k : Nat) (hk : k < ws.length) : (setV ws f n on).getD k 0 = if on then ws.getD k 0 ||| partN k f n else ws.getD k 0 &&& notV (partN k f n) := by
  unfold setV
  simp [List.getD_eq_getElem?_getD, List.getElem?_mapIdx, List.getElem?_eq_getElem hk]
theorem setV_64 {ws : List Nat} (h : W64 ws) (f n : Nat) (on : Bool) : W64 (setV ws f n on) := by
  intro u hu
  obtain ⟨k, hk, rfl⟩ := List.getElem_of_mem hu
  have hk' : k < ws.length := by rw [setV_length] at hk; exact hk
  have e : (setV ws f n on)[k] = (setV ws f n on).getD k 0 := by rw [List.getD_eq_getElem?_getD, List.getElem?_eq_getElem hk]; rfl
  rw [e, setV_getD _ _ _ _ _ hk']
  split
  · exact Nat.or_lt_two_pow (n := 64) (h.getD k) (partN_lt k f n)
  · exact Nat.lt_of_le_of_lt Nat.and_le_left (h.getD k)
theorem bitV_setV (ws : List Nat) (f n : Nat) (on : Bool) (i : Nat) : bitV (setV ws f n on) i = if f ≤ i ∧ i < f + n ∧ i < 64 * ws.length then on else bitV ws i := by
  rcases Nat.lt_or_ge i (64 * ws.length) with hi | hi
  · unfold bitV
    rw [setV_getD _ _ _ _ _ (show i / 64 < ws.length by omega)]
    have hj : i % 64 < 64 := by omega
    have hb := testBit_partN (i / 64) f n (i % 64) hj
    have e : 64 * (i / 64) + i % 64 = i := by omega
    rw [e] at hb
    have hn := testBit_notV (partN_lt (i / 64) f n) _ hj
    by_cases hin : f ≤ i ∧ i < f + n
    · have hc : f ≤ i ∧ i < f + n ∧ i < 64 * ws.length := ⟨hin.1, hin.2, hi⟩
      rw [decide_eq_true hin] at hb
      cases on
      · simp [hc, Nat.testBit_and, hn, hb]
      · simp [hc, Nat.testBit_or, hb]
    · have hc : ¬ (f ≤ i ∧ i < f + n ∧ i < 64 * ws.length) := fun h => hin ⟨h.1, h.2.1⟩
      rw [decide_eq_false hin] at hb
      cases on
      · simp [hc, Nat.testBit_and, hn, hb]
      · simp [hc, Nat.testBit_or, hb]
  · rw [bitV_beyond _ _ (by rw [setV_length]; exact hi), if_neg (by omega), bitV_beyond _ _ hi]

/-- how many from a on, below b -/
def cnt (p : Nat → Bool) (a b : Nat) : Nat := (List.range b).countP fun j => decide (a ≤ j) && p j
theorem cnt_self (p : Nat → Bool) (a b : Nat) (h : b ≤ a) : cnt p a b = 0 := by
  unfold cnt
  rw [List.countP_eq_zero]
  intro j hj
  have := List.mem_range.1 hj
  simp; omega
theorem cnt_succ (p : Nat → Bool) (a b : Nat) (h : a ≤ b) : cnt p a (b + 1) = cnt p a b + (if p b then 1 else 0) := by
  unfold cnt
  rw [List.range_succ, List.countP_append]
  congr 1
  simp [List.countP_cons, h]
theorem cnt_add (p : Nat → Bool) (a b c : Nat) (h : a ≤ b) (hc : b ≤ c) : cnt p a c = cnt p a b + cnt p b c := by
  induction c with
  | zero =>
    obtain rfl : b = 0 := by omega
    obtain rfl : a = 0 := by omega
    simp [cnt]
  | succ c ih =>
    rcases Nat.lt_or_ge b (c + 1) with hb | hb
    · rw [cnt_succ p a c (by omega), cnt_succ p b c (by omega), ih (by omega)]; omega
    · obtain rfl : b = c + 1 := by omega
      rw [cnt_self p (c + 1) (c + 1) (Nat.le_refl _)]; omega
theorem cnt_congr (p q : Nat → Bool) (a b : Nat) (h : ∀ j, a ≤ j → j < b → p j = q j) : cnt p a b = cnt q a b := by
  induction b with
  | zero => rfl
  | succ b ih =>
    rcases Nat.lt_or_ge b a with hb | hb
    · rw [cnt_self p _ _ (by omega), cnt_self q _ _ (by omega)]
    · rw [cnt_succ p a b hb, cnt_succ q a b hb, ih (fun j h1 h2 => h j h1 (by omega)), h b hb (by omega)]
theorem cnt_all (p : Nat → Bool) (a b : Nat) (h : ∀ j, a ≤ j → j < b → p j = true) : cnt p a b = b - a := by
  induction b with
  | zero => rw [cnt_self p _ _ (by omega)]; omega
  | succ b ih =>
    rcases Nat.lt_or_ge b a with hb | hb
    · rw [cnt_self p _ _ (by omega)]; omega
    · rw [cnt_succ p a b hb, ih (fun j h1 h2 => h j h1 (by omega)), h b hb (by omega), if_pos rfl]; omega
theorem cnt_none (p : Nat → Bool) (a b : Nat) (h : ∀ j, a ≤ j → j < b → p j = false) : cnt p a b = 0 := by
  induction b with
  | zero => rfl
  | succ b ih =>
    rcases Nat.lt_or_ge b a with hb | hb
    · exact cnt_self p _ _ (by omega)
    · rw [cnt_succ p a b hb, ih (fun j h1 h2 => h j h1 (by omega)), h b hb (by omega)]; rfl
theorem cnt_le (p : Nat → Bool) (a b : Nat) : cnt p a b ≤ b - a := by
  induction b with
  | zero => rw [cnt_self p _ _ (by omega)]; omega
  | succ b ih =>
    rcases Nat.lt_or_ge b a with hb | hb
    · rw [cnt_self p _ _ (by omega)]; omega
    · rw [cnt_succ p a b hb]; split <;> omega

/-- how many of a piece are set -/
def cntV (ws : List Nat) (f n : Nat) : Nat := cnt (bitV ws) f (min (f + n) (64 * ws.length))
theorem cntV_le (ws : List Nat) (f n : Nat) : cntV ws f n ≤ 64 * ws.length := by
  have := cnt_le (bitV ws) f (min (f + n) (64 * ws.length))
  unfold cntV; omega

/-- the first from a on, below b, that is not -/
def first (p : Nat → Bool) (a b : Nat) : Option Nat := (List.range b).find? fun j => decide (a ≤ j) && !p j
theorem first_some {p : Nat → Bool} {a b i : Nat} (h1 : a ≤ i) (h2 : i < b) (h3 : p i = false) (h4 : ∀ j, a ≤ j → j < i → p j = true) : first p a b = some i := by
  unfold first
  rw [List.find?_range_eq_some]
  refine ⟨by simp [h1, h3], List.mem_range.2 h2, fun j hj => ?_⟩
  rcases Nat.lt_or_ge j a with h | h
  · have : ¬ a ≤ j := by omega
    simp [this]
  · simp [h4 j h hj]
theorem first_none {p : Nat → Bool} {a b : Nat} (h : ∀ j, a ≤ j → j < b → p j = true) : first p a b = none := by
  unfold first
  rw [List.find?_eq_none]
  intro j hj
  have hj' := List.mem_range.1 hj
  rcases Nat.lt_or_ge j a with h1 | h1
  · have : ¬ a ≤ j := by omega
    simp [this]
  · simp [h j h1 hj']
theorem first_cases (p : Nat → Bool) (a b : Nat) : (∃ i, first p a b = some i ∧ a ≤ i ∧ i < b ∧ p i = false ∧ ∀ j, a ≤ j → j < i → p j = true) ∨ (first p a b = none ∧ ∀ j, a ≤ j → j < b → p j = true) := by
  cases e : first p a b with
  | none =>
    right
    refine ⟨rfl, fun j h1 h2 => ?_⟩
    unfold first at e
    rw [List.find?_eq_none] at e
    have := e j (List.mem_range.2 h2)
    simpa [h1] using this
  | some i =>
    left
    unfold first at e
    rw [List.find?_range_eq_some] at e
    obtain ⟨h1, h2, h3⟩ := e
    simp at h1
    refine ⟨i, rfl, h1.1, List.mem_range.1 h2, h1.2, fun j hj hji => ?_⟩
    have := h3 j hji
    simpa [hj] using this

/-! What follows: RowSet. -/
theorem set_same_count {ws : List Nat} (f k : Nat) (on : Bool) : cntV (setV ws f k on) f k = if on then min (f + k) (64 * ws.length) - f else 0 := by
  unfold cntV
  rw [setV_length]
  cases on
  · exact cnt_none _ _ _ fun j h1 h2 => by rw [bitV_setV, if_pos (by omega)]
  · exact cnt_all _ _ _ fun j h1 h2 => by rw [bitV_setV, if_pos (by omega)]
theorem set_all_count {ws : List Nat} (f k : Nat) (on : Bool) : cntV (setV ws f k on) 0 (64 * ws.length) + cntV ws f k = cntV ws 0 (64 * ws.length) + cntV (setV ws f k on) f k := by
  unfold cntV
  rw [setV_length, Nat.zero_add, Nat.min_self]
  rcases Nat.lt_or_ge f (64 * ws.length) with hf | hf
  · have hb : f ≤ min (f + k) (64 * ws.length) := by omega
    have hs : min (f + k) (64 * ws.length) ≤ 64 * ws.length := Nat.min_le_right _ _
    have a1 := cnt_add (bitV (setV ws f k on)) 0 f (64 * ws.length) (Nat.zero_le _) (by omega)
    have a2 := cnt_add (bitV (setV ws f k on)) f _ (64 * ws.length) hb hs
    have b1 := cnt_add (bitV ws) 0 f (64 * ws.length) (Nat.zero_le _) (by omega)
    have b2 := cnt_add (bitV ws) f _ (64 * ws.length) hb hs
    have c1 : cnt (bitV (setV ws f k on)) 0 f = cnt (bitV ws) 0 f := cnt_congr _ _ _ _ fun j h1 h2 => by rw [bitV_setV, if_neg (by omega)]
    have c2 : cnt (bitV (setV ws f k on)) (min (f + k) (64 * ws.length)) (64 * ws.length) = cnt (bitV ws) (min (f + k) (64 * ws.length)) (64 * ws.length) := cnt_congr _ _ _ _ fun j h1 h2 => by rw [bitV_setV, if_neg (by omega)]
    omega
  · rw [cnt_self (bitV ws) f _ (by omega), cnt_self (bitV (setV ws f k on)) f _ (by omega)]
    congr 1
    exact cnt_congr _ _ _ _ fun j h1 h2 => by rw [bitV_setV, if_neg (by omega)]
/-! What follows: RowJoins. -/
theorem set_joins {ws : List Nat} (h : W64 ws) (f x y : Nat) (on : Bool) : setV (setV ws f x on) (f + x) y on = setV ws f (x + y) on := by
  refine row_ext (setV_64 (setV_64 h _ _ _) _ _ _) (setV_64 h _ _ _) (by simp only [setV_length]) fun i hi => ?_
  rw [bitV_setV, bitV_setV, bitV_setV]
  simp only [setV_length] at hi ⊢
  by_cases h1 : f ≤ i ∧ i < f + x
  · rw [if_neg (by omega), if_pos (by omega), if_pos (by omega)]
  · by_cases h2 : f + x ≤ i ∧ i < f + x + y
    · rw [if_pos (by omega), if_pos (by omega)]
    · rw [if_neg (by omega), if_neg (by omega), if_neg (by omega)]
theorem count_joins (ws : List Nat) (f x y : Nat) : cntV ws f (x + y) = cntV ws f x + cntV ws (f + x) y := by
  unfold cntV
  rcases Nat.lt_or_ge (f + x) (64 * ws.length) with h | h
  · rw [Nat.min_eq_left (show f + x ≤ 64 * ws.length by omega), show f + (x + y) = f + x + y by omega]
    exact cnt_add _ _ _ _ (by omega) (by omega)
  · rw [Nat.min_eq_right (show 64 * ws.length ≤ f + x by omega), Nat.min_eq_right (show 64 * ws.length ≤ f + (x + y) by omega), cnt_self _ (f + x) _ (by omega)]
    omega
/-! What follows: RowFirst. -/
theorem first_count (ws : List Nat) (s f : Nat) : (∃ i, first (bitV ws) f (min s (64 * ws.length)) = some i ∧ f ≤ i ∧ i < min s (64 * ws.length) ∧ bitV ws i = false ∧ cntV ws f (i - f) = i - f) ∨
    (first (bitV ws) f (min s (64 * ws.length)) = none ∧ (min s (64 * ws.length) ≤ f ∨ (f < min s (64 * ws.length) ∧ cntV ws f (min s (64 * ws.length) - f) = min s (64 * ws.length) - f))) := by
  rcases first_cases (bitV ws) f (min s (64 * ws.length)) with ⟨i, e, h1, h2, h3, h4⟩ | ⟨e, h⟩
  · left
    refine ⟨i, e, h1, h2, h3, ?_⟩
    unfold cntV
    rw [show f + (i - f) = i by omega, Nat.min_eq_left (by omega)]
    exact cnt_all _ _ _ h4
  · right
    refine ⟨e, ?_⟩
    rcases Nat.lt_or_ge f (min s (64 * ws.length)) with hf | hf
    · right
      refine ⟨hf, ?_⟩
      unfold cntV
      rw [show f + (min s (64 * ws.length) - f) = min s (64 * ws.length) by omega, Nat.min_eq_left (Nat.min_le_right _ _)]
      exact cnt_all _ _ _ h
    · exact .inl hf
end Go.Proofs.Ytegolecdmpikhaa
/- Worlds that have new memory alone (Fresh); cells of blocks; rows of cells that a call owns; what callees that only read leave. Of no types of a program. -/
namespace Go.Proofs.Ytegolecdmpikhaa
open Go.RowKit

theorem retB {a b : Bool} (h : a = b) : Ending.returned (.bool a) = .returned (.bool b) := by rw [h]
/-- new memory alone -/
abbrev Fresh (w w' : World) : Prop := Below w.heap.size w w'
theorem Fresh.refl (w : World) : Fresh w w := Below.refl _ _
theorem Fresh.trans {a b c : World} (h : Fresh a b) (k : Fresh b c) : Fresh a c := Below.trans h (k.mono h.size)
theorem Fresh.drewN (w : World) (n : Nat) : Fresh w (w.drewN n) := ⟨rfl, rfl, rfl, Nat.le_refl _, fun _ _ => rfl⟩
/-- a tree that is handed over lies in a block of the call's own -/
theorem fresh_box (w : World) (c : Array Value) (t : TypeId) : Fresh w (w.alloc (.cells c t)) := (Below.refl _ _).alloc (Nat.le_refl _) _
theorem fresh_more {w w1 : World} (h : Fresh w w1) (c : Array Value) (t : TypeId) : Fresh w (w1.alloc (.cells c t)) := h.alloc h.size _
theorem fresh_set {w w1 : World} (h : Fresh w w1) {b : Nat} (hb : w.heap.size ≤ b) (j : Nat) (v : Value) : Fresh w (w1.setCell ⟨b, j, none⟩ v) := h.setCell hb v
theorem fresh_drewN {w w1 : World} (h : Fresh w w1) (m : Nat) : Fresh w (w1.drewN m) := h.trans (Fresh.drewN w1 m)
/-- a cell of a block -/
theorem cell_block {w : World} {b : Nat} {c : Array Value} {t : TypeId} (h : w.heap[b]? = some (.cells c t (0, 0))) (j : Nat) (v : Value) (hv : c[j]? = some v) : w.cell? ⟨b, j, none⟩ = some v := by
  rw [cell_of_row w b j c t (0, 0) h]; exact hv
theorem free_block {w : World} {b : Nat} {c : Array Value} {t : TypeId} (h : w.heap[b]? = some (.cells c t (0, 0))) (j : Nat) : w.frozen? ⟨b, j, none⟩ = false := frozen_of_row w b j c t h
theorem ownsRow_fresh {w w' : World} {base : Nat} {e : TypeId} {size : Nat} {v : Value} {n : Nat} {xs : List Value} (h : w.ownsRow base e size v n xs) (k : Fresh w w') : w'.ownsRow base e size v n xs := by
  refine ⟨h.1, ?_⟩
  rcases h.2 with hn' | ⟨g, cap, cur, rfl, hb, hg, rest⟩
  · exact .inl hn'
  · refine .inr ⟨g, cap, cur, rfl, hb, ?_, rest⟩
    rw [k.block g (Array.getElem?_eq_some_iff.1 hg).1]
    exact hg
/-- the shape of a row that is not empty -/
theorem own_shape {w : World} {base : Nat} {e : TypeId} {size : Nat} {v : Value} {n : Nat} {xs : List Value} (h : w.ownsRow base e size v n xs) (hn : 1 ≤ n) : ∃ g cap, v = .slice (some ⟨g, 0, none⟩) n cap := by
  rcases h.2 with ⟨_, hn'⟩ | ⟨g, cap, cur, rfl, _⟩
  · omega
  · exact ⟨g, cap, rfl⟩
/-- the block of an owned row has its type -/
theorem own_type {w : World} {base : Nat} {e : TypeId} {size : Nat} {v : Value} {n : Nat} {xs : List Value} (h : w.ownsRow base e size v n xs) (k : Nat) (hk : v.ownBlock = some k) : ∃ c, w.heap[k]? = some (.cells c e (0, 0)) := by
  rcases h.2 with ⟨rfl, _⟩ | ⟨g, cap, cur, rfl, hb, hg, rest⟩
  · cases hk
  · have : g = k := by simpa [Value.ownBlock] using hk
    subst this
    exact ⟨cur, hg⟩
theorem heap_set_same {w : World} {b j : Nat} {c : Array Value} {t : TypeId} (h : w.heap[b]? = some (.cells c t (0, 0))) (v : Value) : (w.setCell ⟨b, j, none⟩ v).heap[b]? = some (.cells (c.setIfInBounds j v) t (0, 0)) := heap_setCell_same w b j c t v h
theorem heap_set_other {w : World} {b b' j : Nat} {o : Obj} (h : w.heap[b]? = some o) (hne : b ≠ b') (v : Value) : (w.setCell ⟨b', j, none⟩ v).heap[b]? = some o := by
  rw [heap_setCell_other w ⟨b', j, none⟩ b v (fun e => hne e)]; exact h
theorem ownsRow_mono {w : World} {base base' : Nat} {e : TypeId} {size : Nat} {v : Value} {n : Nat} {xs : List Value} (h : w.ownsRow base e size v n xs) (hb : base' ≤ base) : w.ownsRow base' e size v n xs := by
  refine ⟨h.1, ?_⟩
  rcases h.2 with hn | ⟨g, cap, cur, rfl, hb', rest⟩
  · exact .inl hn
  · exact .inr ⟨g, cap, cur, rfl, Nat.le_trans hb hb', rest⟩
theorem quiet_more {P : Program} {f : FuncId} {args : Array Value} {w : World} {m n : Nat} {v : Value}
    (h : Calls P f args (w.drewN (m + n)) fun e w' => e = .returned v ∧ ∃ k, w' = (w.drewN (m + n)).drewN k) : Calls P f args (w.drewN (m + n)) fun e w'' => e = .returned v ∧ ∃ n, w'' = w.drewN (m + n) :=
  h.mono fun _ _ ⟨he, k, hk⟩ => ⟨he, n + k, by rw [hk, World.drewN_drewN, Nat.add_assoc]⟩
/-- a callee that draws nothing, behind draws -/
theorem quiet_same {P : Program} {f : FuncId} {args : Array Value} {w : World} {m n : Nat} {v : Value}
    (h : Calls P f args (w.drewN (m + n)) fun e w' => e = .returned v ∧ w' = w.drewN (m + n)) : Calls P f args (w.drewN (m + n)) fun e w'' => e = .returned v ∧ ∃ n, w'' = w.drewN (m + n) :=
  h.mono fun _ _ ⟨he, hm⟩ => ⟨he, n, hm⟩
theorem infoOf {t : TypeId} {z : Value} {s b : Nat} (h : (Try.prog.info? t).map (fun i => (i.zero, i.size, i.bytes)) = some (some z, s, b)) : ∃ i, Try.prog.info? t = some i ∧ i.zero = some z ∧ i.size = s ∧ i.bytes = b := by
  cases e : Try.prog.info? t with
  | none => rw [e] at h; cases h
  | some i => rw [e] at h; simp at h; exact ⟨i, rfl, h.1, h.2.1, h.2.2⟩
/-- the two cells of a struct's block, behind a store of both -/
theorem two_cells {w : World} {R : Nat} {u0 u1 : Value} {t : TypeId} (h : w.heap[R]? = some (.cells #[u0, u1] t (0, 0))) (x y : Value) :
    ((w.setCell ⟨R, 0, none⟩ x).setCell ⟨R, 1, none⟩ y).heap[R]? = some (.cells #[x, y] t (0, 0)) := by
  have := heap_set_same (j := 1) (heap_set_same (j := 0) h x) y
  exact this
end Go.Proofs.Ytegolecdmpikhaa
/- Rows of words in memory, and what rows are told: a slice of words that is read; bits, pieces, counts at any ints. -/
namespace Go.Proofs.Ytegolecdmpikhaa
open Go.RowKit


/-- a slice of words: where they lie -/
def WordsAt (w : World) (v : Value) (ws : List Nat) : Prop :=
  ∃ a cap, v = .slice a ws.length cap ∧ ws.length ≤ 1099511627776 ∧ W64 ws ∧ (a = none → cap = 0) ∧ ∀ i, i < ws.length → ∃ b o, a = some ⟨b, o, none⟩ ∧ w.cell? ⟨b, o + i, none⟩ = some (.int .u64 ((ws.getD i 0 : Nat) : Int))
theorem WordsAt.below {w w' : World} {v : Value} {ws : List Nat} (h : WordsAt w v ws) {n : Nat} (k : Below n w w') (hn : w.heap.size ≤ n) : WordsAt w' v ws := by
  obtain ⟨a, cap, rfl, hl, h64, hn0, hc⟩ := h
  refine ⟨a, cap, rfl, hl, h64, hn0, fun i hi => ?_⟩
  obtain ⟨b, o, e, hcell⟩ := hc i hi
  exact ⟨b, o, e, (k.cell (Nat.lt_of_lt_of_le (World.block_lt_of_cell? _ _ hcell) hn)).trans hcell⟩

theorem WordsAt.drewN {w : World} {v : Value} {ws : List Nat} (h : WordsAt w v ws) (n : Nat) : WordsAt (w.drewN n) v ws := h

/-- words as values -/
def wvals (ws : List Nat) : List Value := ws.map fun u => .int .u64 ((u : Nat) : Int)
theorem wvals_length (ws : List Nat) : (wvals ws).length = ws.length := by unfold wvals; rw [List.length_map]
theorem wvals_get (ws : List Nat) (i : Nat) (hi : i < ws.length) : (wvals ws)[i]? = some (.int .u64 ((ws.getD i 0 : Nat) : Int)) := by
  unfold wvals
  simp [List.getElem?_eq_getElem hi, List.getD_eq_getElem?_getD]
theorem wvals_one (ws : List Nat) : ∀ u ∈ wvals ws, u.oneCell' = true := by
  intro u hu
  unfold wvals at hu
  obtain ⟨x, _, rfl⟩ := List.mem_map.1 hu
  rfl
/-- words in new memory of a call -/
def OwnW (w : World) (base : Nat) (v : Value) (ws : List Nat) : Prop := w.ownsRow base 80 1 v ws.length (wvals ws)
theorem OwnW.at {w : World} {base : Nat} {v : Value} {ws : List Nat} (h : OwnW w base v ws) (h64 : W64 ws) (hl : ws.length ≤ 1099511627776) : WordsAt w v ws := by
  have h0 := h
  rcases h.2 with ⟨rfl, hn⟩ | ⟨g, cap, cur, rfl, hb, hg, hc⟩
  · have : ws = [] := List.eq_nil_of_length_eq_zero hn
    subst this
    exact ⟨none, 0, rfl, hl, h64, fun _ => rfl, fun i hi => by simp at hi⟩
  · refine ⟨_, cap, rfl, hl, h64, fun h => by simp at h, fun i hi => ⟨g, 0, rfl, ?_⟩⟩
    have := World.ownsRow.cellAt h0 i (by omega)
    rw [Nat.zero_add, this, wvals_get ws i hi]
theorem OwnW.lt {w : World} {base : Nat} {v : Value} {ws : List Nat} (h : OwnW w base v ws) {w' : World} {n : Nat} (k : Below n w w') (hn : w.heap.size ≤ n) : OwnW w' base v ws := by
  refine ⟨h.1, ?_⟩
  rcases h.2 with hn' | ⟨g, cap, cur, rfl, hb, hg, rest⟩
  · exact .inl hn'
  · refine .inr ⟨g, cap, cur, rfl, hb, ?_, rest⟩
    rw [k.block g (Nat.lt_of_lt_of_le (Array.getElem?_eq_some_iff.1 hg).1 hn)]
    exact hg

theorem infoU64 : (Try.prog.info? 80).map (fun i => (i.zero, i.size, i.bytes)) = some (some (.int .u64 0), 1, 8) := by kernel_rfl

theorem bitV_set (ws : List Nat) (k x i : Nat) (hk : k < ws.length) : bitV (ws.set k x) i = if i / 64 = k then x.testBit (i % 64) else bitV ws i := by
  unfold bitV
  by_cases h : i / 64 = k
  · rw [if_pos h, h]
    simp [List.getD_eq_getElem?_getD, hk]
  · rw [if_neg h]
    simp [List.getD_eq_getElem?_getD, List.getElem?_set_ne (fun e => h e.symm)]
theorem set_64 {ws : List Nat} (h : W64 ws) (k x : Nat) (hx : x < 18446744073709551616) : W64 (ws.set k x) := by
  intro u hu
  rcases List.mem_or_eq_of_mem_set hu with h' | rfl
  · exact h u h'
  · exact hx
theorem wvals_set (ws : List Nat) (k x : Nat) : (wvals ws).set k (.int .u64 ((x : Nat) : Int)) = wvals (ws.set k x) := by
  unfold wvals; rw [List.map_set]
/-- a bit that is turned -/
theorem flip_bit (u k j : Nat) (hk : k < 64) : (u ^^^ 2 ^ k).testBit j = if j = k then !u.testBit j else u.testBit j := by
  rw [Nat.testBit_xor, Nat.testBit_two_pow]
  by_cases h : j = k
  · subst h; simp
  · have : ¬ k = j := fun e => h e.symm
    simp [h, this]
/-- one bit more of a piece, bit by bit -/
theorem set_step {ws : List Nat} (h : W64 ws) (f j : Nat) (on : Bool) (hf : f ≤ j) (hj : j < 64 * ws.length) (hb : bitV (setV ws f (j - f) on) j = !on) :
    (setV ws f (j - f) on).set (j / 64) ((setV ws f (j - f) on).getD (j / 64) 0 ^^^ 2 ^ (j % 64)) = setV ws f (j + 1 - f) on := by
  have hl : (setV ws f (j - f) on).length = ws.length := setV_length _ _ _ _
  have hx : (setV ws f (j - f) on).getD (j / 64) 0 ^^^ 2 ^ (j % 64) < 18446744073709551616 :=
    Nat.xor_lt_two_pow (n := 64) ((setV_64 h f _ on).getD _) (Nat.pow_lt_pow_right (by decide) (by omega))
  refine row_ext (set_64 (setV_64 h _ _ _) _ _ hx) (setV_64 h _ _ _) (by rw [List.length_set, hl, setV_length]) fun i hi => ?_
  rw [List.length_set, hl] at hi
  rw [bitV_set _ _ _ _ (by rw [hl]; omega), flip_bit _ _ _ (by omega)]
  by_cases hij : i = j
  · subst hij
    rw [if_pos rfl, if_pos rfl, bitV_setV, if_pos (by omega)]
    have e : ((setV ws f (i - f) on).getD (i / 64) 0).testBit (i % 64) = !on := hb
    rw [e, Bool.not_not]
  · have e : ∀ c : Bool, (if i / 64 = j / 64 then (if i % 64 = j % 64 then c else bitV (setV ws f (j - f) on) i) else bitV (setV ws f (j - f) on) i) = bitV (setV ws f (j - f) on) i := by
      intro c
      by_cases h1 : i / 64 = j / 64
      · rw [if_pos h1, if_neg (by omega)]
      · rw [if_neg h1]
    have e2 : ((setV ws f (j - f) on).getD (j / 64) 0).testBit (i % 64) = if i / 64 = j / 64 then bitV (setV ws f (j - f) on) i else ((setV ws f (j - f) on).getD (j / 64) 0).testBit (i % 64) := by
      by_cases h1 : i / 64 = j / 64
      · rw [if_pos h1]; unfold bitV; rw [h1]
      · rw [if_neg h1]
    have goal1 : (if i / 64 = j / 64 then (if i % 64 = j % 64 then !((setV ws f (j - f) on).getD (j / 64) 0).testBit (i % 64) else ((setV ws f (j - f) on).getD (j / 64) 0).testBit (i % 64)) else bitV (setV ws f (j - f) on) i) = bitV (setV ws f (j - f) on) i := by
      by_cases h1 : i / 64 = j / 64
      · rw [if_pos h1, if_neg (by omega), e2, if_pos h1]
      · rw [if_neg h1]
    rw [goal1, bitV_setV, bitV_setV]
    by_cases h2 : f ≤ i ∧ i < f + (j - f) ∧ i < 64 * ws.length
    · rw [if_pos h2, if_pos (by omega)]
    · rw [if_neg h2, if_neg (by omega)]
theorem set_skip {ws : List Nat} (h : W64 ws) (f j : Nat) (on : Bool) (hf : f ≤ j) (hb : bitV (setV ws f (j - f) on) j = on) : setV ws f (j - f) on = setV ws f (j + 1 - f) on := by
  refine row_ext (setV_64 h _ _ _) (setV_64 h _ _ _) (by rw [setV_length, setV_length]) fun i hi => ?_
  by_cases hij : i = j
  · subst hij
    rw [setV_length] at hi
    rw [hb, bitV_setV, if_pos (by omega)]
  · rw [bitV_setV, bitV_setV]
    by_cases h2 : f ≤ i ∧ i < f + (j - f) ∧ i < 64 * ws.length
    · rw [if_pos h2, if_pos (by omega)]
    · rw [if_neg h2, if_neg (by omega)]
theorem set_end {ws : List Nat} (h : W64 ws) (f n j : Nat) (on : Bool) (h1 : j = f ∨ j ≤ min (f + n) (64 * ws.length)) (hf : f ≤ j) (h2 : ¬ (j < 64 * ws.length ∧ j - f < n)) : setV ws f (j - f) on = setV ws f n on := by
  refine row_ext (setV_64 h _ _ _) (setV_64 h _ _ _) (by rw [setV_length, setV_length]) fun i hi => ?_
  rw [setV_length] at hi
  rw [bitV_setV, bitV_setV]
  by_cases h3 : f ≤ i ∧ i < f + (j - f) ∧ i < 64 * ws.length
  · rw [if_pos h3, if_pos (by omega)]
  · rw [if_neg h3, if_neg (by omega)]
theorem set_none {ws : List Nat} (h : W64 ws) (f : Nat) (on : Bool) : setV ws f 0 on = ws := by
  refine row_ext (setV_64 h _ _ _) h (by rw [setV_length]) fun i hi => ?_
  rw [bitV_setV, if_neg (by omega)]

theorem setV_cap {ws : List Nat} (h : W64 ws) (f n m : Nat) (on : Bool) (hm : 64 * ws.length ≤ f + m) (hn : m ≤ n) : setV ws f n on = setV ws f m on := by
  refine row_ext (setV_64 h _ _ _) (setV_64 h _ _ _) (by rw [setV_length, setV_length]) fun i hi => ?_
  rw [setV_length] at hi
  rw [bitV_setV, bitV_setV]
  by_cases h3 : f ≤ i ∧ i < f + m ∧ i < 64 * ws.length
  · rw [if_pos (by omega), if_pos h3]
  · rw [if_neg (by omega), if_neg h3]

def hasW (ws : List Nat) (i : Int) : Bool := decide (0 ≤ i) && bitV ws i.toNat
def setW (ws : List Nat) (f n : Int) (on : Bool) : List Nat := if f < 0 ∨ n < 0 then ws else setV ws f.toNat n.toNat on
def cntW (ws : List Nat) (f n : Int) : Nat := if f < 0 ∨ n < 0 then 0 else cntV ws f.toNat n.toNat
def firstW (ws : List Nat) (size f : Int) : Option Nat := if f < 0 then none else first (bitV ws) f.toNat (min size.toNat (64 * ws.length))
def newW (size : Int) : List Nat := List.replicate ((size + 63) / 64).toNat 0
theorem setW_64 {ws : List Nat} (h : W64 ws) (f n : Int) (on : Bool) : W64 (setW ws f n on) := by
  unfold setW; split
  · exact h
  · exact setV_64 h _ _ _
theorem setW_length (ws : List Nat) (f n : Int) (on : Bool) : (setW ws f n on).length = ws.length := by
  unfold setW; split
  · rfl
  · exact setV_length _ _ _ _
theorem setW_pos (ws : List Nat) (f n : Nat) (on : Bool) : setW ws f n on = setV ws f n on := by unfold setW; rw [if_neg (by omega), Int.toNat_natCast, Int.toNat_natCast]
theorem cntW_pos (ws : List Nat) (f n : Nat) : cntW ws f n = cntV ws f n := by unfold cntW; rw [if_neg (by omega), Int.toNat_natCast, Int.toNat_natCast]
theorem hasW_pos (ws : List Nat) (i : Nat) : hasW ws i = bitV ws i := by unfold hasW; rw [decide_eq_true (by omega), Int.toNat_natCast]; rfl
theorem firstW_pos (ws : List Nat) (s f : Nat) : firstW ws s f = first (bitV ws) f (min s (64 * ws.length)) := by unfold firstW; rw [if_neg (by omega), Int.toNat_natCast, Int.toNat_natCast]
end Go.Proofs.Ytegolecdmpikhaa
/- Worlds that have new memory alone (Fresh), and rows of words carried into them; what a search answers. -/
namespace Go.Proofs.Ytegolecdmpikhaa
open Go.RowKit

theorem WordsAt.fresh {w w' : World} {v : Value} {ws : List Nat} (h : WordsAt w v ws) (k : Fresh w w') : WordsAt w' v ws := h.below k (Nat.le_refl _)
def foundE (o : Option Nat) : Ending := .returned (.tuple #[.int .i64 ((o.getD 0 : Nat) : Int), .bool o.isSome])
end Go.Proofs.Ytegolecdmpikhaa
/- How the walk spells bits of an int (x & 63, x &^ 63) and of words; rows of new memory as blocks; a callee that draws nothing. -/
namespace Go.Proofs.Ytegolecdmpikhaa
open Go.RowKit

theorem and63 (n : Int) : bits .and .i64 n 63 = n % 64 := by
  have h : (BitVec.ofInt 64 63).toNat = 2 ^ 6 - 1 := by decide
  have key : (BitVec.ofInt 64 n &&& BitVec.ofInt 64 63).toNat = (n % ((2 ^ 64 : Nat) : Int)).toNat % 2 ^ 6 := by
    rw [BitVec.toNat_and, BitVec.toNat_ofInt, h, Nat.and_two_pow_sub_one_eq_mod]
  show IntKind.i64.wrap ((BitVec.ofInt 64 n &&& BitVec.ofInt 64 63).toNat : Nat) = n % 64
  rw [key, IntKind.wrap_i64]
  omega
theorem and63_nat (j : Nat) : bits .and .i64 (j : Int) 63 = ((j % 64 : Nat) : Int) := by rw [and63]; omega
theorem hi64_6 (a : Nat) (h : a < 18446744073709551616) : a &&& (2 ^ 64 - 1 - 63) = 64 * (a / 64) := by
  refine eq_of_bits (Nat.lt_of_le_of_lt Nat.and_le_left h) (by omega) fun k hk => ?_
  have e : (2 ^ 64 - 1 - 63 : Nat) = maskN 6 58 := by decide
  rw [Nat.testBit_and, e, testBit_maskN]
  have e2 : 64 * (a / 64) = 2 ^ 6 * (a / 2 ^ 6) := by rw [show (2 : Nat) ^ 6 = 64 by decide]
  rw [e2, Nat.testBit_two_pow_mul]
  by_cases h6 : 6 ≤ k
  · rw [decide_eq_true h6, decide_eq_true (by omega), Bool.and_true, Bool.true_and, Nat.testBit_div_two_pow, show k - 6 + 6 = k by omega]
  · rw [decide_eq_false h6, decide_eq_false (by omega), Bool.and_false, Bool.false_and]
theorem andNot63 (j : Nat) (h : j < 9223372036854775807) : bits .andNot .i64 (j : Int) 63 = ((64 * (j / 64) : Nat) : Int) := by
  show IntKind.i64.wrap ((BitVec.ofInt 64 (j : Int) &&& ~~~BitVec.ofInt 64 ((63 : Nat) : Int)).toNat : Int) = _
  rw [BitVec.toNat_and, BitVec.toNat_not, ofInt_u64 j (by omega), ofInt_u64 63 (by omega), hi64_6 j (by omega), IntKind.wrap_i64]
  omega


theorem or_spelt (a b : Nat) (ha : a < 18446744073709551616) (hb : b < 18446744073709551616) : bits .or .u64 (a : Int) (b : Int) = ((a ||| b : Nat) : Int) := u64_or_nat a b ha hb

theorem zeros_vals (n : Nat) : wvals (List.replicate n 0) = List.replicate n (.int .u64 0) := by unfold wvals; rw [List.map_replicate]; rfl
theorem toList_zeros (n : Nat) : (madeCells (Value.int .u64 0).cells (n * 1)).toList = wvals (List.replicate n 0) := by
  rw [Nat.mul_one, zeros_vals]
  exact toList_madeCells_one _ _

/-- a block's cells as a row of new memory -/
theorem ownW_of_block {w : World} {base g n : Nat} {ws : List Nat} (hb : base ≤ g) (hg : w.heap[g]? = some (.cells (wvals ws).toArray 80 (0, 0))) (hn : ws.length = n) (hn1 : n ≤ maxLen) : OwnW w base (.slice (some ⟨g, 0, none⟩) n n) ws := by
  subst hn
  refine ⟨by rw [wvals_length, Nat.mul_one], .inr ⟨g, ws.length, (wvals ws).toArray, rfl, hb, hg, Nat.le_refl _, hn1, by simp [wvals_length], ?_⟩⟩
  show List.take (ws.length * 1) (wvals ws) = _
  exact List.take_of_length_le (by rw [wvals_length, Nat.mul_one]; exact Nat.le_refl _)
theorem block_of_own {w : World} {base g n : Nat} {xs : List Value} (h : w.ownsRow base 80 1 (.slice (some ⟨g, 0, none⟩) n n) n xs) : base ≤ g ∧ w.heap[g]? = some (.cells xs.toArray 80 (0, 0)) := by
  rcases h.2 with ⟨h', _⟩ | ⟨g', cap', cur, h', hb, hg, hnc, hcm, hcs, htake⟩
  · simp at h'
  · simp only [Value.slice.injEq, Option.some.injEq, Addr.mk.injEq, and_true, true_and] at h'
    obtain ⟨rfl, rfl⟩ := h'
    refine ⟨hb, ?_⟩
    rw [hg]
    have e : cur.toList = xs := by rw [← htake]; exact (List.take_of_length_le (by rw [Array.length_toList, hcs]; exact Nat.le_refl _)).symm
    rw [← e]
theorem splice_whole (xs ys : List Value) (h : ys.length = xs.length) : splice xs 0 ys = ys := by
  unfold splice
  rw [List.take_zero, List.nil_append, Nat.zero_add, h, List.drop_length, List.append_nil]
theorem OwnW.put {w : World} {base g cap : Nat} {ws : List Nat} {N : Nat} (h : OwnW w base (.slice (some ⟨g, 0, none⟩) N cap) ws) (hN : N = ws.length) (k x : Nat) :
    OwnW (w.setCell ⟨g, k, none⟩ (.int .u64 ((x : Nat) : Int))) base (.slice (some ⟨g, 0, none⟩) N cap) (ws.set k x) := by
  subst hN
  have := (World.ownsRow.stored h k (.int .u64 ((x : Nat) : Int))).1
  rw [wvals_set] at this
  unfold OwnW
  rw [List.length_set]
  exact this
theorem andNot_spelt (a b : Nat) (ha : a < 18446744073709551616) (hb : b < 18446744073709551616) : bits .andNot .u64 (a : Int) (b : Int) = ((a &&& notV b : Nat) : Int) := u64_andNot_nat a b ha hb
end Go.Proofs.Ytegolecdmpikhaa
/- Plain arithmetic of rows that are gone through a word at a time: what one word adds to a count, to a piece that is set, to the search for the first one that is not set. Of no program. -/
namespace Go.Proofs.Ytegolecdmpikhaa
open Go.RowKit

/-- how many of a word's bits are set, as a count -/
theorem ones_cnt (u : Nat) : onesV u = cnt (fun b => u.testBit b) 0 64 := by
  unfold onesV onesL cnt
  rw [List.countP_eq_length_filter]
  congr 1
theorem ones_part (u i n : Nat) : onesV (u &&& maskN i n) = cnt (fun b => u.testBit b) i (min (i + n) 64) := by
  rw [ones_cnt]
  rcases Nat.lt_or_ge i 64 with hi | hi
  · rw [cnt_add _ 0 i 64 (Nat.zero_le _) (by omega), cnt_add _ i (min (i + n) 64) 64 (by omega) (by omega)]
    rw [cnt_none _ 0 i fun j _ h2 => by rw [Nat.testBit_and, testBit_maskN, decide_eq_false (by omega), Bool.and_false]]
    rw [cnt_none _ (min (i + n) 64) 64 fun j h1 h2 => by rw [Nat.testBit_and, testBit_maskN, decide_eq_false (by omega), Bool.and_false]]
    rw [cnt_congr _ (fun b => u.testBit b) i _ fun j h1 h2 => by rw [Nat.testBit_and, testBit_maskN, decide_eq_true (by omega), Bool.and_true]]
    omega
  · rw [cnt_self (fun b => u.testBit b) i _ (by omega)]
    exact cnt_none _ _ _ fun j h1 h2 => by rw [Nat.testBit_and, testBit_maskN, decide_eq_false (by omega), Bool.and_false]
theorem cnt_shift (p q : Nat → Bool) (c a : Nat) : ∀ b, (∀ j, j < b → p (c + j) = q j) → cnt p (c + a) (c + b) = cnt q a b
  | 0, _ => by rw [cnt_self _ _ _ (by omega), cnt_self _ _ _ (by omega)]
  | b + 1, h => by
    rcases Nat.lt_or_ge b a with hb | hb
    · rw [cnt_self _ _ _ (by omega), cnt_self _ _ _ (by omega)]
    · rw [show c + (b + 1) = c + b + 1 by omega, cnt_succ p (c + a) (c + b) (by omega), cnt_succ q a b hb, cnt_shift p q c a b (fun j hj => h j (by omega)), h b (by omega)]
/-- the word behind -/
def nextV (j : Nat) : Nat := 64 * (j / 64 + 1)
theorem next_gt (j : Nat) : j < nextV j := by unfold nextV; omega
/-- one word more is counted -/
theorem cnt_step (ws : List Nat) (f j e : Nat) (hf : f ≤ j) (he : j < e) : cnt (bitV ws) f (min (nextV j) e) = cnt (bitV ws) f j + onesV (ws.getD (j / 64) 0 &&& maskN (j % 64) (e - j)) := by
  have hn := next_gt j
  rw [cnt_add _ f j _ hf (by omega), ones_part]
  congr 1
  have h := cnt_shift (bitV ws) (fun b => (ws.getD (j / 64) 0).testBit b) (64 * (j / 64)) (j % 64) (min (j % 64 + (e - j)) 64) (fun b hb => bitV_word ws (j / 64) b (by omega))
  rw [← h]
  congr 1
  · omega
  · unfold nextV; omega
theorem ones_part_le (u i n : Nat) : onesV (u &&& maskN i n) ≤ 64 := ones_le _

/-- one word more is set -/
theorem setV_word {ws : List Nat} (h : W64 ws) (f j e : Nat) (on : Bool) (hf : f ≤ j) (he : j < e) (hw : e ≤ 64 * ws.length) :
    (setV ws f (j - f) on).set (j / 64) (if on then (setV ws f (j - f) on).getD (j / 64) 0 ||| maskN (j % 64) (e - j) else (setV ws f (j - f) on).getD (j / 64) 0 &&& notV (maskN (j % 64) (e - j))) = setV ws f (min (nextV j) e - f) on := by
  have hn := next_gt j
  have hl : (setV ws f (j - f) on).length = ws.length := setV_length _ _ _ _
  have hk : j / 64 < ws.length := by omega
  have hu := (setV_64 h f (j - f) on).getD (j / 64)
  have hx : (if on then (setV ws f (j - f) on).getD (j / 64) 0 ||| maskN (j % 64) (e - j) else (setV ws f (j - f) on).getD (j / 64) 0 &&& notV (maskN (j % 64) (e - j))) < 18446744073709551616 := by
    split
    · exact Nat.or_lt_two_pow (n := 64) hu (maskN_lt _ _)
    · exact Nat.lt_of_le_of_lt Nat.and_le_left hu
  refine row_ext (set_64 (setV_64 h _ _ _) _ _ hx) (setV_64 h _ _ _) (by rw [List.length_set, hl, setV_length]) fun i hi => ?_
  rw [List.length_set, hl] at hi
  rw [bitV_set _ _ _ _ (by rw [hl]; exact hk), bitV_setV ws f (min (nextV j) e - f)]
  by_cases h1 : i / 64 = j / 64
  · rw [if_pos h1]
    have hb : ((setV ws f (j - f) on).getD (j / 64) 0).testBit (i % 64) = bitV (setV ws f (j - f) on) i := by unfold bitV; rw [h1]
    have hm := testBit_maskN (j % 64) (e - j) (i % 64)
    have hnb := testBit_notV (maskN_lt (j % 64) (e - j)) (i % 64) (by omega)
    rw [bitV_setV] at hb
    by_cases h2 : j ≤ i ∧ i < e
    · rw [decide_eq_true (by omega)] at hm
      have hin : f ≤ i ∧ i < f + (min (nextV j) e - f) ∧ i < 64 * ws.length := by unfold nextV; omega
      rw [if_pos hin]
      cases on
      · simp only [Bool.false_eq_true, if_false]; rw [Nat.testBit_and, hnb, hm]; simp
      · simp only [if_true]; rw [Nat.testBit_or, hm]; simp
    · rw [decide_eq_false (by omega)] at hm
      have e1 : (if f ≤ i ∧ i < f + (j - f) ∧ i < 64 * ws.length then on else bitV ws i) = (if f ≤ i ∧ i < f + (min (nextV j) e - f) ∧ i < 64 * ws.length then on else bitV ws i) := by
        by_cases h3 : f ≤ i ∧ i < f + (j - f) ∧ i < 64 * ws.length
        · rw [if_pos h3, if_pos (by omega)]
        · rw [if_neg h3, if_neg (by omega)]
      rw [e1] at hb
      rw [← hb]
      cases on
      · simp only [Bool.false_eq_true, if_false]; rw [Nat.testBit_and, hnb, hm]; simp
      · simp only [if_true]; rw [Nat.testBit_or, hm]; simp
  · rw [if_neg h1, bitV_setV]
    have hq : i < j ∨ nextV j ≤ i := by unfold nextV; omega
    by_cases h3 : f ≤ i ∧ i < f + (j - f) ∧ i < 64 * ws.length
    · rw [if_pos h3, if_pos (by omega)]
    · rw [if_neg h3, if_neg (by omega)]

/-- the lowest bit that is not set, of a word whose first bits are taken as set -/
theorem low_zero_part (u i : Nat) (hu : u < 18446744073709551616) (hi : i < 64) :
    i ≤ lowOneV (notV (u ||| maskN 0 i)) ∧ (∀ b, i ≤ b → b < lowOneV (notV (u ||| maskN 0 i)) → u.testBit b = true) ∧ (lowOneV (notV (u ||| maskN 0 i)) < 64 → u.testBit (lowOneV (notV (u ||| maskN 0 i))) = false) := by
  have hv : u ||| maskN 0 i < 18446744073709551616 := Nat.or_lt_two_pow (n := 64) hu (maskN_lt _ _)
  have hb : ∀ b, b < 64 → (notV (u ||| maskN 0 i)).testBit b = !(u.testBit b || decide (b < i)) := by
    intro b hb
    rw [testBit_notV hv b hb, Nat.testBit_or, testBit_maskN]
    congr 2
    apply decide_eq_decide.2
    omega
  have hle := low_le (notV (u ||| maskN 0 i))
  have least : ∀ b, b < lowOneV (notV (u ||| maskN 0 i)) → (u.testBit b || decide (b < i)) = true := by
    intro b hb'
    cases hc : (u.testBit b || decide (b < i)) with
    | true => rfl
    | false =>
      have hm : b ∈ onesL (notV (u ||| maskN 0 i)) := mem_onesL.2 ⟨by omega, by rw [hb b (by omega), hc]; rfl⟩
      have := low_least hm
      omega
  have at' : lowOneV (notV (u ||| maskN 0 i)) < 64 → (u.testBit (lowOneV (notV (u ||| maskN 0 i))) || decide (lowOneV (notV (u ||| maskN 0 i)) < i)) = false := by
    intro h
    have e : lowOneV (notV (u ||| maskN 0 i)) = nthV (notV (u ||| maskN 0 i)) ((0 : Nat) : Int) := (nth_zero _).symm
    have := nth_some (u := notV (u ||| maskN 0 i)) (k := 0) (by rw [← e]; exact h)
    rw [← e] at this
    have h2 := this.1
    rw [hb _ h] at h2
    simpa using h2
  refine ⟨?_, ?_, ?_⟩
  · rcases Nat.lt_or_ge (lowOneV (notV (u ||| maskN 0 i))) 64 with h | h
    · have := at' h
      simp at this
      exact this.2
    · omega
  · intro b h1 h2
    have := least b h2
    rw [decide_eq_false (by omega), Bool.or_false] at this
    exact this
  · intro h
    have := at' h
    simp at this
    exact this.1
/-- where the first one of a word is looked for -/
def foundAt (ws : List Nat) (j : Nat) : Nat := 64 * (j / 64) + lowOneV (notV (ws.getD (j / 64) 0 ||| maskN 0 (j % 64)))
theorem found_le (ws : List Nat) (j : Nat) : foundAt ws j ≤ nextV j := by
  have := low_le (notV (ws.getD (j / 64) 0 ||| maskN 0 (j % 64)))
  unfold foundAt nextV; omega
theorem found_ge {ws : List Nat} (h : W64 ws) (j : Nat) : j ≤ foundAt ws j := by
  have := (low_zero_part (ws.getD (j / 64) 0) (j % 64) (h.getD _) (by omega)).1
  unfold foundAt; omega
theorem found_all {ws : List Nat} (h : W64 ws) (j t : Nat) (h1 : j ≤ t) (h2 : t < foundAt ws j) : bitV ws t = true := by
  have hle := found_le ws j
  have hk : t / 64 = j / 64 := by unfold nextV at hle; omega
  have := (low_zero_part (ws.getD (j / 64) 0) (j % 64) (h.getD _) (by omega)).2.1 (t % 64) (by omega) (by unfold foundAt at h2; omega)
  unfold bitV
  rw [hk]; exact this
theorem found_not {ws : List Nat} (h : W64 ws) (j : Nat) (h2 : foundAt ws j < nextV j) : bitV ws (foundAt ws j) = false := by
  have hl : lowOneV (notV (ws.getD (j / 64) 0 ||| maskN 0 (j % 64))) < 64 := by unfold foundAt nextV at h2; omega
  have := (low_zero_part (ws.getD (j / 64) 0) (j % 64) (h.getD _) (by omega)).2.2 hl
  unfold foundAt
  rw [bitV_word ws _ _ hl]; exact this
end Go.Proofs.Ytegolecdmpikhaa
/- What the document's own answers to row are (hodmanref3's NewRow, Has, SetRow, Count, FirstZero, SameRow), as contracts. -/
namespace Go.Proofs.Ytegolecdmpikhaa
open Go.RowKit

theorem rhas_any (v : Value) (ws : List Nat) (i : Int) (w : World) (h : WordsAt w v ws) (hi : -9223372036854775808 ≤ i) (hi' : i ≤ 9223372036854775807) :
    Calls Try.prog 61 #[v, .int .i64 i] w fun e w' => e = .returned (.bool (hasW ws i)) ∧ w' = w := by
  obtain ⟨a, cap, rfl, hl, h64, hn0, hc⟩ := h
  by_cases h0 : i < 0
  · have e : hasW ws i = false := by unfold hasW; rw [decide_eq_false (by omega)]; rfl
    rw [e]
    clear e hc hn0
    go_enter Try.func61, Try.ntmps61
    go_wp2
    go_ret
    exact ⟨rfl, rfl⟩
  obtain ⟨k, rfl⟩ : ∃ k : Nat, i = k := ⟨i.toNat, by omega⟩
  have e : hasW ws k = bitV ws k := by unfold hasW; rw [decide_eq_true (by omega), Int.toNat_natCast]; rfl
  rw [e]
  clear e
  have hl0 : (0 : Int) ≤ (ws.length : Int) := by omega
  have hl1 : (ws.length : Int) ≤ 1099511627776 := by omega
  by_cases h1 : 64 * ws.length ≤ k
  · rw [bitV_beyond ws k h1]
    have h2 : 64 * (ws.length : Int) ≤ (k : Int) := by omega
    clear hc h1 h0 hl h64 hn0
    generalize hL : (ws.length : Int) = L at *
    generalize hN : ws.length = N at *
    go_enter Try.func61, Try.ntmps61
    go_wp2
    go_ret
    exact ⟨rfl, rfl⟩
  · have h2 : (k : Int) < 64 * (ws.length : Int) := by omega
    obtain ⟨b, o, rfl, hcell⟩ := hc (k / 64) (by omega)
    clear hn0
    have U := hide (h64.getD (k / 64))
    have e : bitV ws k = (ws.getD (k / 64) 0).testBit (k % 64) := rfl
    rw [e]
    clear e hc h0
    generalize ws.getD (k / 64) 0 = u at *
    go_enter Try.func61, Try.ntmps61
    go_wp2_with fail
    refine (bit_to _ _ u (k % 64) rfl (by omega) U.out (by omega) _).mono ?_
    rintro e w' ⟨rfl, rfl⟩
    go_wp2
    go_ret
    exact ⟨rfl, rfl⟩
theorem rhas_nat (v : Value) (ws : List Nat) (k : Nat) (w : World) (h : WordsAt w v ws) (hi' : (k : Int) ≤ 9223372036854775807) :
    Calls Try.prog 61 #[v, .int .i64 (k : Int)] w fun e w' => e = .returned (.bool (bitV ws k)) ∧ w' = w := by
  have := rhas_any v ws k w h (by omega) hi'
  have e : hasW ws k = bitV ws k := by unfold hasW; rw [decide_eq_true (by omega), Int.toNat_natCast]; rfl
  rwa [e] at this

/-! Count -/
theorem cnt_end (ws : List Nat) (f n j : Nat) (h1 : j = f ∨ j ≤ min (f + n) (64 * ws.length)) (hf : f ≤ j) (h2 : ¬ (j < 64 * ws.length ∧ j - f < n)) : cnt (bitV ws) f j = cntV ws f n := by
  unfold cntV
  by_cases h : j = min (f + n) (64 * ws.length)
  · rw [h]
  · have e : j = f := by omega
    rw [cnt_self _ _ _ (by omega), cnt_self _ _ _ (by omega)]

/-! FirstZero -/
def foundV (o : Option Nat) : Ending := .returned (.tuple #[.int .i64 ((o.getD 0 : Nat) : Int), .bool o.isSome])

/-! SameRow -/
theorem differ_at {xs ys : List Nat} {k : Nat} (h : xs.getD k 0 ≠ ys.getD k 0) : xs ≠ ys := fun e => h (by rw [e])
theorem same_all {xs ys : List Nat} (hl : xs.length = ys.length) (h : ∀ k, k < xs.length → xs.getD k 0 = ys.getD k 0) : xs = ys := by
  apply List.ext_getElem hl
  intro k h1 h2
  have := h k h1
  rw [List.getD_eq_getElem?_getD, List.getElem?_eq_getElem h1, List.getD_eq_getElem?_getD, List.getElem?_eq_getElem h2] at this
  exact this
theorem rsame_any (v u : Value) (xs ys : List Nat) (w : World) (h : WordsAt w v xs) (k : WordsAt w u ys) :
    Calls Try.prog 51 #[v, u] w fun e w' => e = .returned (.bool (decide (xs = ys))) ∧ ∃ n, w' = w.drewN n := by
  obtain ⟨a, cap, rfl, hl, h64, hn0, hc⟩ := h
  obtain ⟨b, cap2, rfl, kl, k64, kn0, kc⟩ := k
  have HC := hide hc
  have KC := hide kc
  clear hc kc hn0 kn0
  by_cases hlen : xs.length = ys.length
  · have hl0 : (0 : Int) ≤ (xs.length : Int) := by omega
    have hl1 : (xs.length : Int) ≤ 1099511627776 := by omega
    have L := hide hlen
    rw [← hlen]
    clear hlen kl
    go_enter Try.func51, Try.ntmps51
    go_wp2
    go_loopw [5] (fun i w2 => ∃ (j m : Nat), j ≤ xs.length ∧ i = .int .i64 (j : Int) ∧ w2 = w.drewN m ∧ ∀ t, t < j → xs.getD t 0 = ys.getD t 0) (fun i _ => (xs.length - intOf i).toNat)
    case atStart => exact ⟨0, 0, Nat.zero_le _, rfl, rfl, fun t ht => by omega⟩
    case round =>
      obtain ⟨j, m, hj, rfl, rfl, hall⟩ := hrel
      have A := hide hall
      clear hall
      by_cases g : j < xs.length
      · obtain ⟨x, o, rfl, hx⟩ := HC.out j g
        obtain ⟨y, p, rfl, hy⟩ := KC.out j (by have := L.out; omega)
        have g' : (j : Int) < (xs.length : Int) := by omega
        have j0 : (0 : Int) ≤ (j : Int) := by omega
        have D := hide (show xs.getD j 0 ≠ ys.getD j 0 → xs ≠ ys from differ_at)
        by_cases he : xs.getD j 0 = ys.getD j 0
        · have E := hide (show ∀ t, t < j + 1 → xs.getD t 0 = ys.getD t 0 from fun t ht => by
            rcases Nat.lt_or_ge t j with h | h
            · exact A.out t h
            · rw [show t = j by omega]; exact he)
          have z : (((xs.getD j 0 : Nat) : Int) == ((ys.getD j 0 : Nat) : Int)) = true := by rw [he]; simp
          rw [he] at hx
          clear he z D A
          generalize ys.getD j 0 = c at hx hy
          go_wp2_with fail
          go_quiet (fail)
          go_wp2
          go_roundw
          case rel => exact ⟨j + 1, _, by omega, by go_num, rfl, E.out⟩
          case measure => simp [intOf]; omega
        · have z : (((xs.getD j 0 : Nat) : Int) == ((ys.getD j 0 : Nat) : Int)) = false := by rw [beq_eq_false_iff_ne]; omega
          have D2 := hide (D.out he)
          clear he D
          generalize xs.getD j 0 = d at *
          generalize ys.getD j 0 = c at *
          go_wp2_with fail
          go_quiet (fail)
          go_wp2
          go_ret
          exact ⟨retB (decide_eq_false D2.out).symm, _, World.drewN_drewN w _ _⟩
      · obtain rfl : j = xs.length := by omega
        have E := hide (same_all L.out A.out)
        go_wp2
        go_ret
        exact ⟨retB (decide_eq_true E.out).symm, _, rfl⟩
  · have D := hide (show xs ≠ ys from fun e => hlen (by rw [e]))
    have z : ((xs.length : Int) == (ys.length : Int)) = false := by rw [beq_eq_false_iff_ne]; omega
    clear hlen
    go_enter Try.func51, Try.ntmps51
    go_wp2
    go_ret
    exact ⟨retB (decide_eq_false D.out).symm, 0, rfl⟩
theorem rsame_to (v u : Value) (xs ys : List Nat) (b : Bool) (hb : decide (xs = ys) = b) (w : World) (h : WordsAt w v xs) (k : WordsAt w u ys) :
    Calls Try.prog 51 #[v, u] w fun e w' => e = .returned (.bool b) ∧ ∃ n, w' = w.drewN n := by
  subst hb; exact rsame_any v u xs ys w h k

/-! NewRow -/
theorem newW_vals (n : Nat) : wvals (List.replicate n 0) = List.replicate n (.int .u64 0) := by unfold wvals; rw [List.map_replicate]; rfl
theorem rnew_any (size : Int) (w : World) (hs : -9223372036854775808 ≤ size) (hs' : size ≤ 70368744177664) :
    Calls Try.prog 62 #[.int .i64 size] w fun e w' => ∃ v, e = .returned v ∧ OwnW w' w.heap.size v (newW size) ∧ Below w.heap.size w w' := by
  by_cases h : size < 1
  · have e : newW size = [] := by unfold newW; rw [show ((size + 63) / 64).toNat = 0 by omega]; rfl
    rw [e]
    clear e
    go_enter Try.func62, Try.ntmps62
    go_wp2
    go_ret
    exact ⟨_, rfl, World.ownsRow_nil _ _ _ _, Below.refl _ _⟩
  · obtain ⟨i0, hi, hz0, hz1, hz2⟩ := info_parts infoU64
    have h1 : 1 ≤ size := by omega
    have hb : i0.bytes * ((size + 63) / 64).toNat ≤ 281474976710656 := by rw [hz2]; omega
    have hm : ((size + 63) / 64).toNat ≤ maxLen := by unfold maxLen; omega
    have fin : ∀ (v : Value) (w1 : World), w1.ownsRow w.heap.size 80 1 v ((size + 63) / 64).toNat (madeCells (Value.int .u64 0).cells (((size + 63) / 64).toNat * 1)).toList → w.grownBy w1 none → OwnW w1 w.heap.size v (newW size) ∧ Below w.heap.size w w1 := by
      intro v w1 hown hg
      refine ⟨?_, (Below.refl _ _).grown hg (Nat.le_refl _) (fun k hk => by cases hk)⟩
      have e : (madeCells (Value.int .u64 0).cells (((size + 63) / 64).toNat * 1)).toList = wvals (newW size) := by
        unfold newW
        rw [Nat.mul_one, newW_vals]
        exact toList_madeCells_one _ _
      rw [e] at hown
      have e2 : (newW size).length = ((size + 63) / 64).toNat := by unfold newW; rw [List.length_replicate]
      unfold OwnW
      rw [e2]
      exact hown
    have FIN := hide fin
    clear fin
    by_cases hr : size % 64 = 0
    · have e : size / 64 = (((size + 63) / 64).toNat : Int) := by omega
      have E := hide e
      clear e
      go_enter Try.func62, Try.ntmps62
      go_wp2_with (at_make; refine wpList_make_full _ rfl _ _ 79 rfl w.heap.size 80 i0 (.int .u64 0) 1 Try.underlying79 hi hz0 hz1 _ _ _ _ ((size + 63) / 64).toNat rfl rfl E.out E.out hb hm (Nat.le_refl _) ?_; intro w1 hown hgrow)
      go_ret
      exact ⟨_, rfl, FIN.out _ _ hown hgrow⟩
    · have e : size / 64 + 1 = (((size + 63) / 64).toNat : Int) := by omega
      have hr' : 0 < size % 64 := by omega
      have E := hide e
      clear e hr
      go_enter Try.func62, Try.ntmps62
      go_wp2_with (at_make; refine wpList_make_full _ rfl _ _ 79 rfl w.heap.size 80 i0 (.int .u64 0) 1 Try.underlying79 hi hz0 hz1 _ _ _ _ ((size + 63) / 64).toNat rfl rfl E.out E.out hb hm (Nat.le_refl _) ?_; intro w1 hown hgrow)
      go_ret
      exact ⟨_, rfl, FIN.out _ _ hown hgrow⟩
end Go.Proofs.Ytegolecdmpikhaa
