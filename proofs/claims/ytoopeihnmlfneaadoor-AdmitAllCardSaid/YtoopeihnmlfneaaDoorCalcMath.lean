/- Plain arithmetic, of no program: how many bits a number has, which numbers are powers of two, and 'x and x less one' on signed numbers. -/
import Derived.Lib.BitFns
import Derived.Lib.TrailingZeros
import Derived.Laws.Bits64b
import Derived.RowKit
namespace Go.Proofs.YtoopeihnmlfneaaDoor
open Go.RowKit

theorem bitLenAux_spec : ∀ (f x : Nat), x < 2 ^ f → x < 2 ^ Lib.bitLenAux f x ∧ (x ≠ 0 → 2 ^ Lib.bitLenAux f x ≤ 2 * x) ∧ Lib.bitLenAux f x ≤ f
  | 0, x, h => by
    have : x = 0 := by simpa using h
    subst this
    simp [Lib.bitLenAux]
  | f + 1, x, h => by
    by_cases h0 : x = 0
    · subst h0
      simp [Lib.bitLenAux]
    · have hh : x / 2 < 2 ^ f := by rw [Nat.pow_succ] at h; omega
      obtain ⟨a, b, c⟩ := bitLenAux_spec f (x / 2) hh
      have e : Lib.bitLenAux (f + 1) x = Lib.bitLenAux f (x / 2) + 1 := by simp [Lib.bitLenAux, h0]; omega
      rw [e, Nat.pow_succ]
      refine ⟨by omega, fun _ => ?_, by omega⟩
      by_cases h1 : x / 2 = 0
      · rw [h1] at a ⊢
        have : Lib.bitLenAux f 0 = 0 := by cases f <;> simp [Lib.bitLenAux]
        rw [this]
        omega
      · have := b h1
        omega

theorem bitLen_spec (x : Nat) (h : x < 18446744073709551616) : x < 2 ^ Lib.bitLen x ∧ (x ≠ 0 → 2 ^ Lib.bitLen x ≤ 2 * x) ∧ Lib.bitLen x ≤ 64 :=
  bitLenAux_spec 64 x h

theorem pow_lt_of {a b : Nat} (h : 2 ^ a < 2 ^ b) : a < b := (Nat.pow_lt_pow_iff_right (by decide)).1 h
theorem pow_le_of {a b : Nat} (h : 2 ^ a ≤ 2 ^ b) : a ≤ b := (Nat.pow_le_pow_iff_right (by decide)).1 h
theorem pow_le_pow {a b : Nat} (h : a ≤ b) : 2 ^ a ≤ 2 ^ b := Nat.pow_le_pow_right (by decide) h
theorem pow_inj {a b : Nat} (h : 2 ^ a = 2 ^ b) : a = b := Nat.le_antisymm (pow_le_of (Nat.le_of_eq h)) (pow_le_of (Nat.le_of_eq h.symm))

/-- 'k' is the least power's exponent that is not below v. -/
def Least (v k : Nat) : Prop := v ≤ 2 ^ k ∧ ∀ j, j < k → 2 ^ j < v

theorem least_unique {v a b : Nat} (ha : Least v a) (hb : Least v b) : a = b := by
  rcases Nat.lt_trichotomy a b with h | h | h
  · have := hb.2 a h; have := ha.1; omega
  · exact h
  · have := ha.2 b h; have := hb.1; omega

theorem least_bitLen (v : Nat) (h1 : 1 ≤ v) (h : v ≤ 18446744073709551616) : Least v (Lib.bitLen (v - 1)) := by
  obtain ⟨a, b, _⟩ := bitLen_spec (v - 1) (by omega)
  refine ⟨by omega, fun j hj => ?_⟩
  have h2 : 2 ^ (j + 1) ≤ 2 ^ Lib.bitLen (v - 1) := pow_le_pow hj
  rw [Nat.pow_succ] at h2
  by_cases h0 : v - 1 = 0
  · rw [h0] at hj
    simp [Lib.bitLen, Lib.bitLenAux] at hj
  · have := b h0
    omega

theorem least_exists (v : Nat) (h1 : 1 ≤ v) (h : v ≤ 4611686018427387904) : ∃ k, k ≤ 62 ∧ Least v k := by
  refine ⟨_, ?_, least_bitLen v h1 (by omega)⟩
  have := least_bitLen v h1 (by omega)
  have h3 := this.2 62
  refine Nat.le_of_not_lt fun hc => ?_
  have := h3 hc
  omega

theorem least_self (k : Nat) : Least (2 ^ k) k := ⟨Nat.le_refl _, fun j hj => by have := (Nat.pow_lt_pow_iff_right (a := 2) (by decide)).2 hj; exact this⟩

theorem pow_62 {k : Nat} (h : k ≤ 62) : 1 ≤ 2 ^ k ∧ 2 ^ k ≤ 4611686018427387904 := ⟨Nat.one_le_two_pow, by have := pow_le_pow h; omega⟩

theorem ctz_pow : ∀ k, k < 64 → Lib.ctz 64 (2 ^ k) = k := by decide +kernel

theorem bits_and_i64_nat (a b : Nat) (ha : a < 9223372036854775808) (hb : b < 9223372036854775808) :
    bits .and .i64 (a : Int) (b : Int) = ((a &&& b : Nat) : Int) := by
  have hx : a &&& b < 2 ^ 63 := Nat.and_lt_two_pow _ (by omega)
  have h1 : (BitVec.ofInt 64 (a : Int)).toNat = a := by
    rw [BitVec.ofInt_natCast, BitVec.toNat_ofNat]; exact Nat.mod_eq_of_lt (by omega)
  have h2 : (BitVec.ofInt 64 (b : Int)).toNat = b := by
    rw [BitVec.ofInt_natCast, BitVec.toNat_ofNat]; exact Nat.mod_eq_of_lt (by omega)
  have e : bits .and .i64 (a : Int) (b : Int) = IntKind.i64.wrap ((BitVec.ofInt 64 (a : Int) &&& BitVec.ofInt 64 (b : Int)).toNat : Int) := rfl
  rw [e, BitVec.toNat_and, h1, h2]
  simp only [IntKind.wrap, IntKind.bits, IntKind.signed]
  simp
  omega

theorem and_pred_zero (n : Nat) (h : n ≠ 0) : n &&& (n - 1) = 0 ↔ ∃ k, n = 2 ^ k := Nat.and_sub_one_eq_zero_iff_isPowerOfTwo h

/-- of a number from 1 on: 'v and v less one' is nought just if it is a power of two. -/
theorem andPred (v : Int) (h1 : 1 ≤ v) (h2 : v ≤ 9223372036854775807) : bits .and .i64 v (v - 1) = ((v.toNat &&& (v.toNat - 1) : Nat) : Int) := by
  have h := bits_and_i64_nat v.toNat (v.toNat - 1) (by omega) (by omega)
  rw [show ((v.toNat : Nat) : Int) = v by omega, show ((v.toNat - 1 : Nat) : Int) = v - 1 by omega] at h
  exact h

/-! What the document says of calc, as plain functions: the answer, and whether there is one. -/
def addB (a b : Int) : Bool := decide (-9223372036854775808 ≤ a + b ∧ a + b ≤ 9223372036854775807)
def addV (a b : Int) : Int := if addB a b then a + b else 0
def mulB (a b : Int) : Bool := decide (-9223372036854775808 ≤ a * b ∧ a * b ≤ 9223372036854775807)
def mulV (a b : Int) : Int := if mulB a b then a * b else 0
def upB (v : Int) : Bool := decide (1 ≤ v ∧ v ≤ 4611686018427387904)
def upV (v : Int) : Int := if upB v then ((2 ^ Lib.bitLen (v.toNat - 1) : Nat) : Int) else 0
def logB (v : Int) : Bool := decide (1 ≤ v) && (v.toNat &&& (v.toNat - 1) == 0)
def logV (v : Int) : Int := if logB v then (Lib.ctz 64 v.toNat : Int) else 0
def upTo (v to : Int) : Int := if v % to = 0 then v else v + (to - v % to)
def roundB (v to : Int) : Bool := decide (0 ≤ v ∧ 1 ≤ to ∧ upTo v to ≤ 9223372036854775807)
def roundV (v to : Int) : Int := if roundB v to then upTo v to else 0

theorem add_fits {a b : Int} (h : -9223372036854775808 ≤ a + b) (h' : a + b ≤ 9223372036854775807) : addB a b = true ∧ addV a b = a + b := by
  have : addB a b = true := decide_eq_true ⟨h, h'⟩
  exact ⟨this, by simp [addV, this]⟩
theorem add_not {a b : Int} (h : a + b < -9223372036854775808 ∨ 9223372036854775807 < a + b) : addB a b = false ∧ addV a b = 0 := by
  have : addB a b = false := decide_eq_false (by omega)
  exact ⟨this, by simp [addV, this]⟩
theorem add_cases (a b : Int) : (addB a b = true ∧ addV a b = a + b ∧ -9223372036854775808 ≤ a + b ∧ a + b ≤ 9223372036854775807) ∨ (addB a b = false ∧ addV a b = 0 ∧ (a + b < -9223372036854775808 ∨ 9223372036854775807 < a + b)) := by
  by_cases h : -9223372036854775808 ≤ a + b ∧ a + b ≤ 9223372036854775807
  · exact .inl ⟨(add_fits h.1 h.2).1, (add_fits h.1 h.2).2, h⟩
  · exact .inr ⟨(add_not (by omega)).1, (add_not (by omega)).2, by omega⟩
theorem mul_fits {a b : Int} (h : -9223372036854775808 ≤ a * b) (h' : a * b ≤ 9223372036854775807) : mulB a b = true ∧ mulV a b = a * b := by
  have : mulB a b = true := decide_eq_true ⟨h, h'⟩
  exact ⟨this, by simp [mulV, this]⟩
theorem mul_not {a b : Int} (h : a * b < -9223372036854775808 ∨ 9223372036854775807 < a * b) : mulB a b = false ∧ mulV a b = 0 := by
  have : mulB a b = false := decide_eq_false (by omega)
  exact ⟨this, by simp [mulV, this]⟩
theorem mul_cases (a b : Int) : (mulB a b = true ∧ mulV a b = a * b ∧ -9223372036854775808 ≤ a * b ∧ a * b ≤ 9223372036854775807) ∨ (mulB a b = false ∧ mulV a b = 0 ∧ (a * b < -9223372036854775808 ∨ 9223372036854775807 < a * b)) := by
  by_cases h : -9223372036854775808 ≤ a * b ∧ a * b ≤ 9223372036854775807
  · exact .inl ⟨(mul_fits h.1 h.2).1, (mul_fits h.1 h.2).2, h⟩
  · exact .inr ⟨(mul_not (by omega)).1, (mul_not (by omega)).2, by omega⟩
theorem up_not {v : Int} (h : v < 1 ∨ 4611686018427387904 < v) : upB v = false ∧ upV v = 0 := by
  have : upB v = false := decide_eq_false (by omega)
  exact ⟨this, by simp [upV, this]⟩
theorem up_fits {v : Int} {k : Nat} (h1 : 1 ≤ v) (h2 : v ≤ 4611686018427387904) (hl : Least v.toNat k) : upB v = true ∧ upV v = ((2 ^ k : Nat) : Int) := by
  have : upB v = true := decide_eq_true ⟨h1, h2⟩
  refine ⟨this, ?_⟩
  rw [upV, this, if_pos rfl, least_unique (least_bitLen v.toNat (by omega) (by omega)) hl]
/-- what Up tells: a power of two -/
theorem up_cases (v : Int) : (∃ k : Nat, k ≤ 62 ∧ 1 ≤ v ∧ v ≤ 4611686018427387904 ∧ Least v.toNat k ∧ upB v = true ∧ upV v = ((2 ^ k : Nat) : Int)) ∨ (upB v = false ∧ upV v = 0 ∧ (v < 1 ∨ 4611686018427387904 < v)) := by
  by_cases h : 1 ≤ v ∧ v ≤ 4611686018427387904
  · obtain ⟨k, hk, hl⟩ := least_exists v.toNat (by omega) (by omega)
    exact .inl ⟨k, hk, h.1, h.2, hl, up_fits h.1 h.2 hl⟩
  · exact .inr ⟨(up_not (by omega)).1, (up_not (by omega)).2, by omega⟩
theorem log_fits {v : Int} {k : Nat} (hk : k ≤ 62) (hv : v = ((2 ^ k : Nat) : Int)) : logB v = true ∧ logV v = k := by
  have hp := pow_62 hk
  subst hv
  have hb : logB ((2 ^ k : Nat) : Int) = true := by
    unfold logB
    have h1 : (1 : Int) ≤ ((2 ^ k : Nat) : Int) := by omega
    rw [Int.toNat_natCast, (and_pred_zero _ (by omega)).2 ⟨k, rfl⟩, decide_eq_true h1]
    rfl
  exact ⟨hb, by rw [logV, hb, if_pos rfl, Int.toNat_natCast, ctz_pow k (by omega)]⟩
theorem log_not {v : Int} (hv' : v ≤ 9223372036854775807) (h : ∀ k : Nat, k ≤ 62 → v ≠ ((2 ^ k : Nat) : Int)) : logB v = false ∧ logV v = 0 := by
  have hb : logB v = false := by
    rw [← Bool.not_eq_true]
    intro hc
    simp only [logB, Bool.and_eq_true, decide_eq_true_eq, beq_iff_eq] at hc
    obtain ⟨k, hk⟩ := (and_pred_zero v.toNat (by omega)).1 hc.2
    have : k < 63 := pow_lt_of (by omega)
    exact h k (by omega) (by omega)
  exact ⟨hb, by simp [logV, hb]⟩
theorem log_cases (v : Int) (hv' : v ≤ 9223372036854775807) : (∃ k : Nat, k ≤ 62 ∧ v = ((2 ^ k : Nat) : Int) ∧ logB v = true ∧ logV v = k) ∨ (logB v = false ∧ logV v = 0 ∧ ∀ k : Nat, k ≤ 62 → v ≠ ((2 ^ k : Nat) : Int)) := by
  by_cases h : ∃ k : Nat, k ≤ 62 ∧ v = ((2 ^ k : Nat) : Int)
  · obtain ⟨k, hk, hv⟩ := h
    exact .inl ⟨k, hk, hv, log_fits hk hv⟩
  · have h' : ∀ k : Nat, k ≤ 62 → v ≠ ((2 ^ k : Nat) : Int) := fun k hk he => h ⟨k, hk, he⟩
    exact .inr ⟨(log_not hv' h').1, (log_not hv' h').2, h'⟩
theorem upTo_spec (v to : Int) (h : 1 ≤ to) : v ≤ upTo v to ∧ upTo v to < v + to ∧ upTo v to % to = 0 := by
  have h6 := Int.emod_nonneg v (show to ≠ 0 by omega)
  have h7 := Int.emod_lt_of_pos v (show 0 < to by omega)
  unfold upTo
  split
  · rename_i h0
    exact ⟨by omega, by omega, h0⟩
  · refine ⟨by omega, by omega, ?_⟩
    have : v + (to - v % to) = to * (v / to + 1) := by
      have := Int.emod_add_mul_ediv v to
      rw [Int.mul_add]; omega
    rw [this]
    exact Int.mul_emod_right _ _
theorem round_not {v to : Int} (h : v < 0 ∨ to < 1 ∨ 9223372036854775807 < upTo v to) : roundB v to = false ∧ roundV v to = 0 := by
  have : roundB v to = false := decide_eq_false (by omega)
  exact ⟨this, by simp [roundV, this]⟩
theorem round_fits {v to : Int} (h1 : 0 ≤ v) (h2 : 1 ≤ to) (h3 : upTo v to ≤ 9223372036854775807) : roundB v to = true ∧ roundV v to = upTo v to := by
  have : roundB v to = true := decide_eq_true ⟨h1, h2, h3⟩
  exact ⟨this, by simp [roundV, this]⟩

theorem pow_cast (k : Nat) : (((2 ^ k : Nat)) : Int) = (2 : Int) ^ k := by rw [Int.natCast_pow]; rfl
end Go.Proofs.YtoopeihnmlfneaaDoor
