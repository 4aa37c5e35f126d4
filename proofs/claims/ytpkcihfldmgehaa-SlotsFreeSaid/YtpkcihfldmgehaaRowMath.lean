/- Plain arithmetic of row, of no program: many bits as words of 64; a piece set, counted, the first that is not set (P4.1), and what follows of them. -/
import Derived.Test.YtpkcihfldmgehaaWordMath
namespace Go.Proofs.Ytpkcihfldmgehaa
open Go.RowKit

/-- all are words of 64 bits -/
def W64 (ws : List Nat) : Prop := ∀ u ∈ ws, u < 18446744073709551616
/-- bit i of many -/
def bitV (ws : List Nat) (i : Nat) : Bool := (ws.getD (i / 64) 0).testBit (i % 64)

theorem W64.getD {ws : List Nat} (h : W64 ws) (k : Nat) : ws.getD k 0 < 18446744073709551616 := by
  rw [List.getD_eq_getElem?_getD]
  rcases Nat.lt_or_ge k ws.length with hk | hk
  · rw [List.getElem?_eq_getElem hk]; exact h _ (List.getElem_mem hk)
  · rw [List.getElem?_eq_none hk]; decide
theorem bitV_word (ws : List Nat) (k j : Nat) (hj : j < 64) : bitV ws (64 * k + j) = (ws.getD k 0).testBit j := by
  unfold bitV
  rw [show (64 * k + j) / 64 = k by omega, show (64 * k + j) % 64 = j by omega]
theorem bitV_beyond (ws : List Nat) (i : Nat) (h : 64 * ws.length ≤ i) : bitV ws i = false := by
  unfold bitV
  rw [List.getD_eq_getElem?_getD, List.getElem?_eq_none (by omega)]
  exact Nat.zero_testBit _
theorem row_ext {a b : List Nat} (ha : W64 a) (hb : W64 b) (hl : a.length = b.length) (h : ∀ i, i < 64 * a.length → bitV a i = bitV b i) : a = b := by
  apply List.ext_getElem hl
  intro k h1 h2
  have e1 : a.getD k 0 = a[k] := by rw [List.getD_eq_getElem?_getD, List.getElem?_eq_getElem h1]; rfl
  have e2 : b.getD k 0 = b[k] := by rw [List.getD_eq_getElem?_getD, List.getElem?_eq_getElem h2]; rfl
  rw [← e1, ← e2]
  refine eq_of_bits (ha.getD k) (hb.getD k) fun j hj => ?_
  have := h (64 * k + j) (by omega)
  rwa [bitV_word _ _ _ hj, bitV_word _ _ _ hj] at this

/-- the bits of word k that lie from f on, n of them -/
def partN (k f n : Nat) : Nat := maskN (f - 64 * k) (f + n - 64 * k - (f - 64 * k))
theorem partN_lt (k f n : Nat) : partN k f n < 18446744073709551616 := maskN_lt _ _
theorem testBit_partN (k f n j : Nat) (hj : j < 64) : (partN k f n).testBit j = decide (f ≤ 64 * k + j ∧ 64 * k + j < f + n) := by
  unfold partN
  rw [testBit_maskN]
  apply decide_eq_decide.2
  omega
/-- a piece set, or not -/
def setV (ws : List Nat) (f n : Nat) (on : Bool) : List Nat := ws.mapIdx fun k u => if on then u ||| partN k f n else u &&& notV (partN k f n)
theorem setV_length (ws : List Nat) (f n : Nat) (on : Bool) : (setV ws f n on).length = ws.length := by unfold setV; rw [List.length_mapIdx]
theorem setV_getD (ws : List Nat) (f n : Nat) (on : Bool) (k : Nat) (hk : k < ws.length) : (setV ws f n on).getD k 0 = if on then ws.getD k 0 ||| partN k f n else ws.getD k 0 &&& notV (partN k f n) := by
  unfold setV
  simp [List.getD_eq_getElem?_getD, List.getElem?_mapIdx, List.getElem?_eq_getElem hk]
theorem setV_64 {ws : List Nat} (h : W64 ws) (f n : Nat) (on : Bool) : W64 (setV ws f n on) := by
  intro u hu
  obtain ⟨k, hk, rfl⟩ := List.getElem_of_mem hu
  have hk' : k < ws.length := by rw [setV_length] at hk; exact hk
  have e : (setV ws f n on)[k] = (setV ws f n on).getD k 0 := by rw [List.getD_eq_getElem?_getD, List.getElem?_eq_getElem hk]; rfl
  rw [e, setV_getD _ _ _ _ _ hk']
  split
  · exact Nat.or_lt_two_pow (n := 64) (h.getD k) (partN_lt k f n)
  · exact Nat.lt_of_le_of_lt Nat.and_le_left (h.getD k)
theorem bitV_setV (ws : List Nat) (f n : Nat) (on : Bool) (i : Nat) : bitV (setV ws f n on) i = if f ≤ i ∧ i < f + n ∧ i < 64 * ws.length then on else bitV ws i := by
  rcases Nat.lt_or_ge i (64 * ws.length) with hi | hi
  · unfold bitV
    rw [setV_getD _ _ _ _ _ (show i / 64 < ws.length by omega)]
    have hj : i % 64 < 64 := by omega
    have hb := testBit_partN (i / 64) f n (i % 64) hj
    have e : 64 * (i / 64) + i % 64 = i := by omega
    rw [e] at hb
    have hn := testBit_notV (partN_lt (i / 64) f n) _ hj
    by_cases hin : f ≤ i ∧ i < f + n
    · have hc : f ≤ i ∧ i < f + n ∧ i < 64 * ws.length := ⟨hin.1, hin.2, hi⟩
      rw [decide_eq_true hin] at hb
      cases on
      · simp [hc, Nat.testBit_and, hn, hb]
      · simp [hc, Nat.testBit_or, hb]
    · have hc : ¬ (f ≤ i ∧ i < f + n ∧ i < 64 * ws.length) := fun h => hin ⟨h.1, h.2.1⟩
      rw [decide_eq_false hin] at hb
      cases on
      · simp [hc, Nat.testBit_and, hn, hb]
      · simp [hc, Nat.testBit_or, hb]
  · rw [bitV_beyond _ _ (by rw [setV_length]; exact hi), if_neg (by omega), bitV_beyond _ _ hi]

/-- how many from a on, below b -/
def cnt (p : Nat → Bool) (a b : Nat) : Nat := (List.range b).countP fun j => decide (a ≤ j) && p j
theorem cnt_self (p : Nat → Bool) (a b : Nat) (h : b ≤ a) : cnt p a b = 0 := by
  unfold cnt
  rw [List.countP_eq_zero]
  intro j hj
  have := List.mem_range.1 hj
  simp; omega
theorem cnt_succ (p : Nat → Bool) (a b : Nat) (h : a ≤ b) : cnt p a (b + 1) = cnt p a b + (if p b then 1 else 0) := by
  unfold cnt
  rw [List.range_succ, List.countP_append]
  congr 1
  simp [List.countP_cons, h]
theorem cnt_add (p : Nat → Bool) (a b c : Nat) (h : a ≤ b) (hc : b ≤ c) : cnt p a c = cnt p a b + cnt p b c := by
  induction c with
  | zero =>
    obtain rfl : b = 0 := by omega
    obtain rfl : a = 0 := by omega
    simp [cnt]
  | succ c ih =>
    rcases Nat.lt_or_ge b (c + 1) with hb | hb
    · rw [cnt_succ p a c (by omega), cnt_succ p b c (by omega), ih (by omega)]; omega
    · obtain rfl : b = c + 1 := by omega
      rw [cnt_self p (c + 1) (c + 1) (Nat.le_refl _)]; omega
theorem cnt_congr (p q : Nat → Bool) (a b : Nat) (h : ∀ j, a ≤ j → j < b → p j = q j) : cnt p a b = cnt q a b := by
  induction b with
  | zero => rfl
  | succ b ih =>
    rcases Nat.lt_or_ge b a with hb | hb
    · rw [cnt_self p _ _ (by omega), cnt_self q _ _ (by omega)]
    · rw [cnt_succ p a b hb, cnt_succ q a b hb, ih (fun j h1 h2 => h j h1 (by omega)), h b hb (by omega)]
theorem cnt_all (p : Nat → Bool) (a b : Nat) (h : ∀ j, a ≤ j → j < b → p j = true) : cnt p a b = b - a := by
  induction b with
  | zero => rw [cnt_self p _ _ (by omega)]; omega
  | succ b ih =>
    rcases Nat.lt_or_ge b a with hb | hb
    · rw [cnt_self p _ _ (by omega)]; omega
    · rw [cnt_succ p a b hb, ih (fun j h1 h2 => h j h1 (by omega)), h b hb (by omega), if_pos rfl]; omega
theorem cnt_none (p : Nat → Bool) (a b : Nat) (h : ∀ j, a ≤ j → j < b → p j = false) : cnt p a b = 0 := by
  induction b with
  | zero => rfl
  | succ b ih =>
    rcases Nat.lt_or_ge b a with hb | hb
    · exact cnt_self p _ _ (by omega)
    · rw [cnt_succ p a b hb, ih (fun j h1 h2 => h j h1 (by omega)), h b hb (by omega)]; rfl
theorem cnt_le (p : Nat → Bool) (a b : Nat) : cnt p a b ≤ b - a := by
  induction b with
  | zero => rw [cnt_self p _ _ (by omega)]; omega
  | succ b ih =>
    rcases Nat.lt_or_ge b a with hb | hb
    · rw [cnt_self p _ _ (by omega)]; omega
    · rw [cnt_succ p a b hb]; split <;> omega

/-- how many of a piece are set -/
def cntV (ws : List Nat) (f n : Nat) : Nat := cnt (bitV ws) f (min (f + n) (64 * ws.length))
theorem cntV_le (ws : List Nat) (f n : Nat) : cntV ws f n ≤ 64 * ws.length := by
  have := cnt_le (bitV ws) f (min (f + n) (64 * ws.length))
  unfold cntV; omega

/-- the first from a on, below b, that is not -/
def first (p : Nat → Bool) (a b : Nat) : Option Nat := (List.range b).find? fun j => decide (a ≤ j) && !p j
theorem first_some {p : Nat → Bool} {a b i : Nat} (h1 : a ≤ i) (h2 : i < b) (h3 : p i = false) (h4 : ∀ j, a ≤ j → j < i → p j = true) : first p a b = some i := by
  unfold first
  rw [List.find?_range_eq_some]
  refine ⟨by simp [h1, h3], List.mem_range.2 h2, fun j hj => ?_⟩
  rcases Nat.lt_or_ge j a with h | h
  · have : ¬ a ≤ j := by omega
    simp [this]
  · simp [h4 j h hj]
theorem first_none {p : Nat → Bool} {a b : Nat} (h : ∀ j, a ≤ j → j < b → p j = true) : first p a b = none := by
  unfold first
  rw [List.find?_eq_none]
  intro j hj
  have hj' := List.mem_range.1 hj
  rcases Nat.lt_or_ge j a with h1 | h1
  · have : ¬ a ≤ j := by omega
    simp [this]
  · simp [h j h1 hj']
theorem first_cases (p : Nat → Bool) (a b : Nat) : (∃ i, first p a b = some i ∧ a ≤ i ∧ i < b ∧ p i = false ∧ ∀ j, a ≤ j → j < i → p j = true) ∨ (first p a b = none ∧ ∀ j, a ≤ j → j < b → p j = true) := by
  cases e : first p a b with
  | none =>
    right
    refine ⟨rfl, fun j h1 h2 => ?_⟩
    unfold first at e
    rw [List.find?_eq_none] at e
    have := e j (List.mem_range.2 h2)
    simpa [h1] using this
  | some i =>
    left
    unfold first at e
    rw [List.find?_range_eq_some] at e
    obtain ⟨h1, h2, h3⟩ := e
    simp at h1
    refine ⟨i, rfl, h1.1, List.mem_range.1 h2, h1.2, fun j hj hji => ?_⟩
    have := h3 j hji
    simpa [hj] using this

/-! What follows: RowSet. -/
theorem set_same_count {ws : List Nat} (f k : Nat) (on : Bool) : cntV (setV ws f k on) f k = if on then min (f + k) (64 * ws.length) - f else 0 := by
  unfold cntV
  rw [setV_length]
  cases on
  · exact cnt_none _ _ _ fun j h1 h2 => by rw [bitV_setV, if_pos (by omega)]
  · exact cnt_all _ _ _ fun j h1 h2 => by rw [bitV_setV, if_pos (by omega)]
theorem set_all_count {ws : List Nat} (f k : Nat) (on : Bool) : cntV (setV ws f k on) 0 (64 * ws.length) + cntV ws f k = cntV ws 0 (64 * ws.length) + cntV (setV ws f k on) f k := by
  unfold cntV
  rw [setV_length, Nat.zero_add, Nat.min_self]
  rcases Nat.lt_or_ge f (64 * ws.length) with hf | hf
  · have hb : f ≤ min (f + k) (64 * ws.length) := by omega
    have hs : min (f + k) (64 * ws.length) ≤ 64 * ws.length := Nat.min_le_right _ _
    have a1 := cnt_add (bitV (setV ws f k on)) 0 f (64 * ws.length) (Nat.zero_le _) (by omega)
    have a2 := cnt_add (bitV (setV ws f k on)) f _ (64 * ws.length) hb hs
    have b1 := cnt_add (bitV ws) 0 f (64 * ws.length) (Nat.zero_le _) (by omega)
    have b2 := cnt_add (bitV ws) f _ (64 * ws.length) hb hs
    have c1 : cnt (bitV (setV ws f k on)) 0 f = cnt (bitV ws) 0 f := cnt_congr _ _ _ _ fun j h1 h2 => by rw [bitV_setV, if_neg (by omega)]
    have c2 : cnt (bitV (setV ws f k on)) (min (f + k) (64 * ws.length)) (64 * ws.length) = cnt (bitV ws) (min (f + k) (64 * ws.length)) (64 * ws.length) := cnt_congr _ _ _ _ fun j h1 h2 => by rw [bitV_setV, if_neg (by omega)]
    omega
  · rw [cnt_self (bitV ws) f _ (by omega), cnt_self (bitV (setV ws f k on)) f _ (by omega)]
    congr 1
    exact cnt_congr _ _ _ _ fun j h1 h2 => by rw [bitV_setV, if_neg (by omega)]
/-! What follows: RowJoins. -/
theorem set_joins {ws : List Nat} (h : W64 ws) (f x y : Nat) (on : Bool) : setV (setV ws f x on) (f + x) y on = setV ws f (x + y) on := by
  refine row_ext (setV_64 (setV_64 h _ _ _) _ _ _) (setV_64 h _ _ _) (by simp only [setV_length]) fun i hi => ?_
  rw [bitV_setV, bitV_setV, bitV_setV]
  simp only [setV_length] at hi ⊢
  by_cases h1 : f ≤ i ∧ i < f + x
  · rw [if_neg (by omega), if_pos (by omega), if_pos (by omega)]
  · by_cases h2 : f + x ≤ i ∧ i < f + x + y
    · rw [if_pos (by omega), if_pos (by omega)]
    · rw [if_neg (by omega), if_neg (by omega), if_neg (by omega)]
theorem count_joins (ws : List Nat) (f x y : Nat) : cntV ws f (x + y) = cntV ws f x + cntV ws (f + x) y := by
  unfold cntV
  rcases Nat.lt_or_ge (f + x) (64 * ws.length) with h | h
  · rw [Nat.min_eq_left (show f + x ≤ 64 * ws.length by omega), show f + (x + y) = f + x + y by omega]
    exact cnt_add _ _ _ _ (by omega) (by omega)
  · rw [Nat.min_eq_right (show 64 * ws.length ≤ f + x by omega), Nat.min_eq_right (show 64 * ws.length ≤ f + (x + y) by omega), cnt_self _ (f + x) _ (by omega)]
    omega
/-! What follows: RowFirst. -/
theorem first_count (ws : List Nat) (s f : Nat) : (∃ i, first (bitV ws) f (min s (64 * ws.length)) = some i ∧ f ≤ i ∧ i < min s (64 * ws.length) ∧ bitV ws i = false ∧ cntV ws f (i - f) = i - f) ∨
    (first (bitV ws) f (min s (64 * ws.length)) = none ∧ (min s (64 * ws.length) ≤ f ∨ (f < min s (64 * ws.length) ∧ cntV ws f (min s (64 * ws.length) - f) = min s (64 * ws.length) - f))) := by
  rcases first_cases (bitV ws) f (min s (64 * ws.length)) with ⟨i, e, h1, h2, h3, h4⟩ | ⟨e, h⟩
  · left
    refine ⟨i, e, h1, h2, h3, ?_⟩
    unfold cntV
    rw [show f + (i - f) = i by omega, Nat.min_eq_left (by omega)]
    exact cnt_all _ _ _ h4
  · right
    refine ⟨e, ?_⟩
    rcases Nat.lt_or_ge f (min s (64 * ws.length)) with hf | hf
    · right
      refine ⟨hf, ?_⟩
      unfold cntV
      rw [show f + (min s (64 * ws.length) - f) = min s (64 * ws.length) by omega, Nat.min_eq_left (Nat.min_le_right _ _)]
      exact cnt_all _ _ _ h
    · exact .inl hf
end Go.Proofs.Ytpkcihfldmgehaa
