/- Which pages are there, plainly: lists of bools, words of 64 of them, the bits of a word in their order. Of no program. -/
import Derived.Test.YtcnfmkhjhffebaaDoorPinMath
import Derived.Test.YtcnfmkhjhffebaaDoorWordMath
import Derived.Test.YtcnfmkhjhffebaaDoorWordB
import Derived.Test.YtcnfmkhjhffebaaDoorSpell
import Derived.Lib.BitFns
import Derived.Lib.TrailingZeros
namespace Go.Proofs.YtcnfmkhjhffebaaDoor
open Go.RowKit

/-- n pages, of what is said of each -/
def rowB (n : Nat) (p : Nat → Bool) : List Bool := (List.range n).map p
theorem rowB_length (n : Nat) (p : Nat → Bool) : (rowB n p).length = n := by unfold rowB; simp
theorem rowB_get {n : Nat} {p : Nat → Bool} {i : Nat} (h : i < n) : (rowB n p).getD i false = p i := by
  unfold rowB; simp [List.getD_eq_getElem?_getD, h]
theorem rowB_same (l : List Bool) : rowB l.length (fun i => l.getD i false) = l := by
  refine bools_ext (rowB_length _ _) fun i hi => ?_
  rw [rowB_length] at hi
  rw [rowB_get hi]
theorem rowB_congr {n : Nat} {p q : Nat → Bool} (h : ∀ i, i < n → p i = q i) : rowB n p = rowB n q := by
  unfold rowB
  exact List.map_congr_left fun i hi => h i (List.mem_range.1 hi)
theorem rowB_none (n : Nat) : rowB n (fun _ => false) = List.replicate n false := by
  refine bools_ext (by rw [rowB_length]; simp) fun i hi => ?_
  rw [rowB_length] at hi
  rw [rowB_get hi]
  simp [List.getD_eq_getElem?_getD, hi]
theorem rowB_set {n : Nat} (p : Nat → Bool) (k : Nat) (b : Bool) (hk : k < n) : (rowB n p).set k b = rowB n (fun i => if i = k then b else p i) := by
  refine bools_ext (by simp [rowB_length]) fun i hi => ?_
  rw [List.length_set, rowB_length] at hi
  rw [rowB_get hi, List.getD_eq_getElem?_getD, List.getElem?_set]
  by_cases e : k = i
  · subst e
    rw [if_pos rfl, if_pos (by rw [rowB_length]; exact hk), if_pos rfl]; rfl
  · rw [if_neg e, if_neg (fun h => e h.symm), ← List.getD_eq_getElem?_getD, rowB_get hi]
/-- is page i from f to ahead of t? -/
def amB (f t i : Nat) : Bool := decide (f ≤ i) && decide (i < t)
/-- how many are set, or among these -/
def cntN (l : List Bool) (f t : Nat) : Nat := cntL (rowB l.length fun i => l.getD i false || amB f t i)
theorem cnt_upto (l : List Bool) (f t : Nat) (hf : f ≤ t) (ht : t ≤ l.length) : ∀ n, n ≤ l.length → cntR n (fun i => l.getD i false || amB f t i) = cntL (l.take (min n f)) + (min n t - f) + cntL ((l.drop t).take (n - t))
  | 0, _ => by simp [cntR, cntL]
  | n + 1, h => by
    rw [cntR_succ, cnt_upto l f t hf ht n (by omega)]
    unfold amB
    by_cases h1 : n < f
    · rw [show min (n + 1) f = n + 1 by omega, show min n f = n by omega, cntL_take_succ l n (by omega), decide_eq_false (show ¬ f ≤ n by omega), show n + 1 - t = 0 by omega, show n - t = 0 by omega, show min (n + 1) t - f = 0 by omega, show min n t - f = 0 by omega]
      simp; omega
    · by_cases h2 : n < t
      · rw [show min (n + 1) f = f by omega, show min n f = f by omega, decide_eq_true (show f ≤ n by omega), decide_eq_true h2, show n + 1 - t = 0 by omega, show n - t = 0 by omega, show min (n + 1) t - f = min n t - f + 1 by omega]
        simp; omega
      · have e : n + 1 - t = n - t + 1 := by omega
        have e2 : (l.drop t).getD (n - t) false = l.getD n false := by
          rw [List.getD_eq_getElem?_getD, List.getD_eq_getElem?_getD, List.getElem?_drop, show t + (n - t) = n by omega]
        rw [show min (n + 1) f = f by omega, show min n f = f by omega, decide_eq_false h2, e, cntL_take_succ _ _ (by rw [List.length_drop]; omega), e2, show min (n + 1) t - f = min n t - f by omega]
        simp; omega
/-- counted ahead of these, these, and behind these -/
theorem cntN_parts (l : List Bool) (f t : Nat) (hf : f ≤ t) (ht : t ≤ l.length) : cntL (l.take f) + (t - f) + cntL (l.drop t) = cntN l f t := by
  have h := cnt_upto l f t hf ht l.length (Nat.le_refl _)
  have e : (l.drop t).take (l.length - t) = l.drop t := List.take_of_length_le (by rw [List.length_drop]; exact Nat.le_refl _)
  rw [show min l.length f = f by omega, show min l.length t = t by omega, e] at h
  exact h.symm
theorem cntN_le (l : List Bool) (f t : Nat) : cntN l f t ≤ l.length := by
  unfold cntN
  exact Nat.le_trans (cntL_le _) (by rw [rowB_length]; exact Nat.le_refl _)
/-- is page i there behind it? -/
def isB (on met : List Bool) (f t : Nat) (most : Int) (i : Nat) : Bool := (on.getD i false && (!decide (most < (cntN on f t : Int)) || met.getD i false)) || amB f t i
def comX (on met : List Bool) (f t : Nat) (most : Int) : List Bool := rowB on.length (isB on met f t most)
/-- is it fresh? -/
def frB (on : List Bool) (f t i : Nat) : Bool := amB f t i && !on.getD i false
def frL (on : List Bool) (f t : Nat) : List Nat := (List.range on.length).filter (frB on f t)
theorem comX_length (on met : List Bool) (f t : Nat) (most : Int) : (comX on met f t most).length = on.length := rowB_length _ _
/-- may it be? -/
def comB (on met : List Bool) (f t most : Int) : Bool := decide (on.length = met.length ∧ 0 ≤ f ∧ f ≤ t ∧ t ≤ (on.length : Int) ∧ (cntN met f.toNat t.toNat : Int) ≤ most)
/-- of those there, those met -/
def trL (on met : List Bool) : List Bool := rowB on.length fun i => on.getD i false && met.getD i false
theorem trL_length (on met : List Bool) : (trL on met).length = on.length := rowB_length _ _
theorem trL_le (on met : List Bool) : cntL (trL on met) ≤ cntL on := by
  have h := cntR_le (f := fun i => on.getD i false && met.getD i false) (g := fun i => on.getD i false) on.length fun i h => by simp only [Bool.and_eq_true] at h; exact h.1
  have e : cntL on = cntR on.length (fun i => on.getD i false) := by
    have := congrArg cntL (rowB_same on)
    exact this.symm
  rw [e]; exact h

/-! Words. -/
theorem wordB_64 (q : Nat → Bool) : wordB q 64 < 18446744073709551616 := wordB_lt q 64
theorem wordB_more {q : Nat → Bool} {m n : Nat} (hmn : m ≤ n) (h : ∀ j, m ≤ j → j < n → q j = false) : wordB q m = wordB q n := by
  apply Nat.eq_of_testBit_eq
  intro k
  rw [wordB_bit, wordB_bit]
  by_cases h1 : k < m
  · rw [decide_eq_true h1, decide_eq_true (by omega)]
  · rw [decide_eq_false h1, Bool.false_and]
    by_cases h2 : k < n
    · rw [decide_eq_true h2, h k (by omega) h2]; rfl
    · rw [decide_eq_false h2, Bool.false_and]
theorem wordB_succ (q : Nat → Bool) (m : Nat) : wordB q (m + 1) = wordB q m ||| (if q m then 2 ^ m else 0) := rfl
theorem wordB_congr {p q : Nat → Bool} {n : Nat} (h : ∀ j, j < n → p j = q j) : wordB p n = wordB q n := by
  apply Nat.eq_of_testBit_eq
  intro k
  rw [wordB_bit, wordB_bit]
  by_cases h1 : k < n
  · rw [h k h1]
  · rw [decide_eq_false h1, Bool.false_and, Bool.false_and]
theorem wordB_and (p q : Nat → Bool) (n : Nat) : wordB p n &&& wordB q n = wordB (fun j => p j && q j) n := by
  apply Nat.eq_of_testBit_eq
  intro k
  rw [Nat.testBit_and, wordB_bit, wordB_bit, wordB_bit]
  cases decide (k < n) <;> simp
theorem wordB_or (p q : Nat → Bool) (n : Nat) : wordB p n ||| wordB q n = wordB (fun j => p j || q j) n := by
  apply Nat.eq_of_testBit_eq
  intro k
  rw [Nat.testBit_or, wordB_bit, wordB_bit, wordB_bit]
  cases decide (k < n) <;> simp
theorem wordB_andNot (p q : Nat → Bool) : wordB p 64 &&& notV (wordB q 64) = wordB (fun j => p j && !q j) 64 := by
  apply Nat.eq_of_testBit_eq
  intro k
  rw [Nat.testBit_and, wordB_bit, wordB_bit]
  by_cases h : k < 64
  · rw [testBit_notV (wordB_64 q) k h, wordB_bit, decide_eq_true h]; simp
  · rw [decide_eq_false h]; simp
/-- all bits below i -/
def belowI (i : Int) : Nat := wordB (fun j => decide ((j : Int) < i)) 64
theorem below_eq (n : Nat) (h : n ≤ 64) : wordB (fun j => decide ((j : Int) < (n : Int))) 64 = 2 ^ n - 1 := by
  apply Nat.eq_of_testBit_eq
  intro k
  rw [wordB_bit, Nat.testBit_two_pow_sub_one, ← Bool.decide_and]
  apply decide_eq_decide.2
  omega
theorem below_spelt (i : Int) : IntKind.u64.wrap (IntKind.u64.wrap (2 ^ min (max i 0).toNat 64) - 1) = ((belowI i : Nat) : Int) := by
  obtain ⟨n, hn⟩ : ∃ n : Nat, min (max i 0).toNat 64 = n := ⟨_, rfl⟩
  have h64 : n ≤ 64 := by omega
  have e : belowI i = 2 ^ n - 1 := by
    rw [← below_eq n h64]
    unfold belowI
    refine wordB_congr fun j hj => decide_eq_decide.2 ?_
    omega
  rw [hn, e, cast_pow2]
  clear e hn
  have h0 := Nat.two_pow_pos n
  rcases Nat.lt_or_ge n 64 with h | h
  · have h1 : 2 ^ n ≤ 2 ^ 63 := Nat.pow_le_pow_right (by decide) (by omega)
    rw [IntKind.wrap_u64, IntKind.wrap_u64]
    omega
  · obtain rfl : n = 64 := by omega
    rw [IntKind.wrap_u64, IntKind.wrap_u64]
    decide
/-- these, 64 of them from a on -/
theorem between_eq (f t a : Nat) : belowI ((t : Int) - (a : Int)) &&& notV (belowI ((f : Int) - (a : Int))) = wordB (fun j => amB f t (a + j)) 64 := by
  unfold belowI
  rw [wordB_andNot]
  refine wordB_congr fun j _ => ?_
  unfold amB
  by_cases h1 : f ≤ a + j <;> by_cases h2 : a + j < t
  · rw [decide_eq_true h1, decide_eq_true h2, decide_eq_true (by omega), decide_eq_false (by omega)]; rfl
  · rw [decide_eq_true h1, decide_eq_false h2, decide_eq_false (by omega)]; rfl
  · rw [decide_eq_false h1, decide_eq_true h2, decide_eq_true (by omega), decide_eq_true (by omega)]; rfl
  · rw [decide_eq_false h1, decide_eq_false h2, decide_eq_false (by omega)]; rfl

/-! The bits of a word, the lowest first. -/
theorem ones_wordB (q : Nat → Bool) : onesL (wordB q 64) = (List.range 64).filter q := by
  unfold onesL
  refine List.filter_congr fun k hk => ?_
  rw [wordB_bit, decide_eq_true (List.mem_range.1 hk), Bool.true_and]
theorem range_at (k r : Nat) : List.range (k + (1 + r)) = List.range k ++ k :: (List.range r).map (fun j => k + 1 + j) := by
  rw [List.range_add, List.range_add]
  simp [Nat.add_assoc]
theorem filter_low {p : Nat → Bool} {n k : Nat} (hk : k < n) (hp : p k = true) (hl : ∀ j, j < k → p j = false) : (List.range n).filter p = k :: (List.range n).filter (fun j => p j && !decide (j = k)) := by
  obtain ⟨r, rfl⟩ : ∃ r, n = k + (1 + r) := ⟨n - k - 1, by omega⟩
  rw [range_at, List.filter_append, List.filter_append, List.filter_cons_of_pos hp, List.filter_cons_of_neg (by simp)]
  have e1 : (List.range k).filter p = [] := List.filter_eq_nil_iff.2 fun j hj => by rw [hl j (List.mem_range.1 hj)]; simp
  have e2 : (List.range k).filter (fun j => p j && !decide (j = k)) = [] := List.filter_eq_nil_iff.2 fun j hj => by rw [hl j (List.mem_range.1 hj)]; simp
  rw [e1, e2, List.nil_append, List.nil_append]
  congr 1
  refine List.filter_congr fun j hj => ?_
  obtain ⟨x, _, rfl⟩ := List.mem_map.1 hj
  rw [decide_eq_false (by omega)]; simp
theorem low_bits {u k : Nat} (m : Nat) (h : u = 2 ^ k * (2 * m + 1)) : u.testBit k = true ∧ (∀ j, j < k → u.testBit j = false) ∧ ∀ j, (u &&& (u - 1)).testBit j = (u.testBit j && !decide (j = k)) := by
  have h0 := Nat.two_pow_pos k
  have e1 : u - 1 = 2 ^ k * (2 * m) + (2 ^ k - 1) := by rw [h, Nat.mul_add]; omega
  refine ⟨?_, ?_, ?_⟩
  · rw [h, Nat.mul_comm, Nat.testBit_mul_two_pow]; simp
  · intro j hj
    rw [h, Nat.mul_comm, Nat.testBit_mul_two_pow, decide_eq_false (by omega)]; rfl
  · intro j
    rw [Nat.testBit_and, e1, Nat.testBit_two_pow_mul_add _ (show 2 ^ k - 1 < 2 ^ k by omega)]
    rw [h, Nat.mul_comm, Nat.testBit_mul_two_pow]
    by_cases h1 : j < k
    · rw [if_pos h1, decide_eq_false (show ¬ k ≤ j by omega)]; simp
    · rw [if_neg h1, decide_eq_true (show k ≤ j by omega)]
      by_cases h2 : j = k
      · subst h2; simp
      · obtain ⟨d, rfl⟩ : ∃ d, j = k + (d + 1) := ⟨j - k - 1, by omega⟩
        rw [decide_eq_false h2, show k + (d + 1) - k = d + 1 by omega, Nat.testBit_succ, Nat.testBit_succ, show (2 * m + 1) / 2 = m by omega, show 2 * m / 2 = m by omega]
        simp
theorem ones_low {u : Nat} (h0 : u ≠ 0) (hu : u < 18446744073709551616) : onesL u = Lib.ctz 64 u :: onesL (u &&& (u - 1)) ∧ Lib.ctz 64 u < 64 := by
  obtain ⟨m, hm, hk⟩ := Lib.ctzFrom_spec 64 u (by omega) hu
  have e : Lib.ctz 64 u = Lib.ctzFrom 64 u := by unfold Lib.ctz; rw [if_neg h0]
  rw [e]
  generalize Lib.ctzFrom 64 u = k at *
  obtain ⟨a, b, c⟩ := low_bits m hm
  refine ⟨?_, hk⟩
  unfold onesL
  rw [filter_low hk a b]
  congr 1
  exact List.filter_congr fun j _ => (c j).symm
theorem ones_none : onesL 0 = [] := by decide
/-- fresh ones of 64 pages more -/
theorem fresh_more' (p : Nat → Bool) (a : Nat) : (List.range (a + 64)).filter p = (List.range a).filter p ++ ((List.range 64).filter (fun j => p (a + j))).map (fun j => a + j) := by
  rw [List.range_add, List.filter_append, List.filter_map]
  rfl
theorem fresh_all (p : Nat → Bool) (n a : Nat) (hn : n ≤ a) (h : ∀ i, n ≤ i → p i = false) : (List.range a).filter p = (List.range n).filter p := by
  obtain ⟨d, rfl⟩ : ∃ d, a = n + d := ⟨a - n, by omega⟩
  rw [List.range_add, List.filter_append]
  have : ((List.range d).map (fun j => n + j)).filter p = [] := List.filter_eq_nil_iff.2 fun j hj => by
    obtain ⟨x, _, rfl⟩ := List.mem_map.1 hj
    rw [h _ (by omega)]; simp
  rw [this, List.append_nil]
theorem frB_out {on : List Bool} {f t i : Nat} (ht : t ≤ on.length) (h : on.length ≤ i) : frB on f t i = false := by
  unfold frB amB
  rw [decide_eq_false (show ¬ i < t by omega)]; simp
/-- bits of a word spread from a on, k of them -/
def sprB (p q : Nat → Bool) (a k i : Nat) : Bool := if a ≤ i ∧ i < a + k then q (i - a) else p i
theorem sprB_none (p q : Nat → Bool) (a : Nat) : sprB p q a 0 = p := by
  funext i; unfold sprB; rw [if_neg (by omega)]
theorem spr_step {n : Nat} (p q : Nat → Bool) (a k : Nat) (h : a + k < n) : (rowB n (sprB p q a k)).set (a + k) (q k) = rowB n (sprB p q a (k + 1)) := by
  rw [rowB_set _ _ _ h]
  refine rowB_congr fun i _ => ?_
  unfold sprB
  by_cases h1 : i = a + k
  · rw [if_pos h1, if_pos (by omega), h1, show a + k - a = k by omega]
  · rw [if_neg h1]
    by_cases h2 : a ≤ i ∧ i < a + k
    · rw [if_pos h2, if_pos (by omega)]
    · rw [if_neg h2, if_neg (by omega)]
theorem spr_end {n : Nat} (p q : Nat → Bool) (a k : Nat) (hk : k ≤ 64) (h : k = 64 ∨ n ≤ a + k) : rowB n (sprB p q a k) = rowB n (sprB p q a 64) := by
  refine rowB_congr fun i hi => ?_
  unfold sprB
  by_cases h2 : a ≤ i ∧ i < a + k
  · rw [if_pos h2, if_pos (by omega)]
  · rw [if_neg h2, if_neg (by omega)]
/-- 64 pages more are told -/
theorem spr_on (n : Nat) (X q : Nat → Bool) (a : Nat) (h : ∀ j, j < 64 → q j = X (a + j)) : rowB n (sprB (fun i => decide (i < a) && X i) q a 64) = rowB n (fun i => decide (i < a + 64) && X i) := by
  refine rowB_congr fun i _ => ?_
  unfold sprB
  by_cases h1 : a ≤ i ∧ i < a + 64
  · rw [if_pos h1, h (i - a) (by omega), show a + (i - a) = i by omega, decide_eq_true h1.2]; rfl
  · rw [if_neg h1]
    show (decide (i < a) && X i) = (decide (i < a + 64) && X i)
    rw [show decide (i < a + 64) = decide (i < a) from decide_eq_decide.2 (by omega)]
end Go.Proofs.YtcnfmkhjhffebaaDoor
