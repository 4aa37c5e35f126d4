/- Plain arithmetic of rows that are gone through a word at a time: what one word adds to a count, to a piece that is set, to the search for the first one that is not set. Of no program. -/
import Derived.Test.YtpkcihfldmgehaaRowMem
namespace Go.Proofs.Ytpkcihfldmgehaa
open Go.RowKit

/-- how many of a word's bits are set, as a count -/
theorem ones_cnt (u : Nat) : onesV u = cnt (fun b => u.testBit b) 0 64 := by
  unfold onesV onesL cnt
  rw [List.countP_eq_length_filter]
  congr 1
theorem ones_part (u i n : Nat) : onesV (u &&& maskN i n) = cnt (fun b => u.testBit b) i (min (i + n) 64) := by
  rw [ones_cnt]
  rcases Nat.lt_or_ge i 64 with hi | hi
  · rw [cnt_add _ 0 i 64 (Nat.zero_le _) (by omega), cnt_add _ i (min (i + n) 64) 64 (by omega) (by omega)]
    rw [cnt_none _ 0 i fun j _ h2 => by rw [Nat.testBit_and, testBit_maskN, decide_eq_false (by omega), Bool.and_false]]
    rw [cnt_none _ (min (i + n) 64) 64 fun j h1 h2 => by rw [Nat.testBit_and, testBit_maskN, decide_eq_false (by omega), Bool.and_false]]
    rw [cnt_congr _ (fun b => u.testBit b) i _ fun j h1 h2 => by rw [Nat.testBit_and, testBit_maskN, decide_eq_true (by omega), Bool.and_true]]
    omega
  · rw [cnt_self (fun b => u.testBit b) i _ (by omega)]
    exact cnt_none _ _ _ fun j h1 h2 => by rw [Nat.testBit_and, testBit_maskN, decide_eq_false (by omega), Bool.and_false]
theorem cnt_shift (p q : Nat → Bool) (c a : Nat) : ∀ b, (∀ j, j < b → p (c + j) = q j) → cnt p (c + a) (c + b) = cnt q a b
  | 0, _ => by rw [cnt_self _ _ _ (by omega), cnt_self _ _ _ (by omega)]
  | b + 1, h => by
    rcases Nat.lt_or_ge b a with hb | hb
    · rw [cnt_self _ _ _ (by omega), cnt_self _ _ _ (by omega)]
    · rw [show c + (b + 1) = c + b + 1 by omega, cnt_succ p (c + a) (c + b) (by omega), cnt_succ q a b hb, cnt_shift p q c a b (fun j hj => h j (by omega)), h b (by omega)]
/-- the word behind -/
def nextV (j : Nat) : Nat := 64 * (j / 64 + 1)
theorem next_gt (j : Nat) : j < nextV j := by unfold nextV; omega
/-- one word more is counted -/
theorem cnt_step (ws : List Nat) (f j e : Nat) (hf : f ≤ j) (he : j < e) : cnt (bitV ws) f (min (nextV j) e) = cnt (bitV ws) f j + onesV (ws.getD (j / 64) 0 &&& maskN (j % 64) (e - j)) := by
  have hn := next_gt j
  rw [cnt_add _ f j _ hf (by omega), ones_part]
  congr 1
  have h := cnt_shift (bitV ws) (fun b => (ws.getD (j / 64) 0).testBit b) (64 * (j / 64)) (j % 64) (min (j % 64 + (e - j)) 64) (fun b hb => bitV_word ws (j / 64) b (by omega))
  rw [← h]
  congr 1
  · omega
  · unfold nextV; omega
theorem ones_part_le (u i n : Nat) : onesV (u &&& maskN i n) ≤ 64 := ones_le _

/-- one word more is set -/
theorem setV_word {ws : List Nat} (h : W64 ws) (f j e : Nat) (on : Bool) (hf : f ≤ j) (he : j < e) (hw : e ≤ 64 * ws.length) :
    (setV ws f (j - f) on).set (j / 64) (if on then (setV ws f (j - f) on).getD (j / 64) 0 ||| maskN (j % 64) (e - j) else (setV ws f (j - f) on).getD (j / 64) 0 &&& notV (maskN (j % 64) (e - j))) = setV ws f (min (nextV j) e - f) on := by
  have hn := next_gt j
  have hl : (setV ws f (j - f) on).length = ws.length := setV_length _ _ _ _
  have hk : j / 64 < ws.length := by omega
  have hu := (setV_64 h f (j - f) on).getD (j / 64)
  have hx : (if on then (setV ws f (j - f) on).getD (j / 64) 0 ||| maskN (j % 64) (e - j) else (setV ws f (j - f) on).getD (j / 64) 0 &&& notV (maskN (j % 64) (e - j))) < 18446744073709551616 := by
    split
    · exact Nat.or_lt_two_pow (n := 64) hu (maskN_lt _ _)
    · exact Nat.lt_of_le_of_lt Nat.and_le_left hu
  refine row_ext (set_64 (setV_64 h _ _ _) _ _ hx) (setV_64 h _ _ _) (by rw [List.length_set, hl, setV_length]) fun i hi => ?_
  rw [List.length_set, hl] at hi
  rw [bitV_set _ _ _ _ (by rw [hl]; exact hk), bitV_setV ws f (min (nextV j) e - f)]
  by_cases h1 : i / 64 = j / 64
  · rw [if_pos h1]
    have hb : ((setV ws f (j - f) on).getD (j / 64) 0).testBit (i % 64) = bitV (setV ws f (j - f) on) i := by unfold bitV; rw [h1]
    have hm := testBit_maskN (j % 64) (e - j) (i % 64)
    have hnb := testBit_notV (maskN_lt (j % 64) (e - j)) (i % 64) (by omega)
    rw [bitV_setV] at hb
    by_cases h2 : j ≤ i ∧ i < e
    · rw [decide_eq_true (by omega)] at hm
      have hin : f ≤ i ∧ i < f + (min (nextV j) e - f) ∧ i < 64 * ws.length := by unfold nextV; omega
      rw [if_pos hin]
      cases on
      · simp only [Bool.false_eq_true, if_false]; rw [Nat.testBit_and, hnb, hm]; simp
      · simp only [if_true]; rw [Nat.testBit_or, hm]; simp
    · rw [decide_eq_false (by omega)] at hm
      have e1 : (if f ≤ i ∧ i < f + (j - f) ∧ i < 64 * ws.length then on else bitV ws i) = (if f ≤ i ∧ i < f + (min (nextV j) e - f) ∧ i < 64 * ws.length then on else bitV ws i) := by
        by_cases h3 : f ≤ i ∧ i < f + (j - f) ∧ i < 64 * ws.length
        · rw [if_pos h3, if_pos (by omega)]
        · rw [if_neg h3, if_neg (by omega)]
      rw [e1] at hb
      rw [← hb]
      cases on
      · simp only [Bool.false_eq_true, if_false]; rw [Nat.testBit_and, hnb, hm]; simp
      · simp only [if_true]; rw [Nat.testBit_or, hm]; simp
  · rw [if_neg h1, bitV_setV]
    have hq : i < j ∨ nextV j ≤ i := by unfold nextV; omega
    by_cases h3 : f ≤ i ∧ i < f + (j - f) ∧ i < 64 * ws.length
    · rw [if_pos h3, if_pos (by omega)]
    · rw [if_neg h3, if_neg (by omega)]

/-- the lowest bit that is not set, of a word whose first bits are taken as set -/
theorem low_zero_part (u i : Nat) (hu : u < 18446744073709551616) (hi : i < 64) :
    i ≤ lowOneV (notV (u ||| maskN 0 i)) ∧ (∀ b, i ≤ b → b < lowOneV (notV (u ||| maskN 0 i)) → u.testBit b = true) ∧ (lowOneV (notV (u ||| maskN 0 i)) < 64 → u.testBit (lowOneV (notV (u ||| maskN 0 i))) = false) := by
  have hv : u ||| maskN 0 i < 18446744073709551616 := Nat.or_lt_two_pow (n := 64) hu (maskN_lt _ _)
  have hb : ∀ b, b < 64 → (notV (u ||| maskN 0 i)).testBit b = !(u.testBit b || decide (b < i)) := by
    intro b hb
    rw [testBit_notV hv b hb, Nat.testBit_or, testBit_maskN]
    congr 2
    apply decide_eq_decide.2
    omega
  have hle := low_le (notV (u ||| maskN 0 i))
  have least : ∀ b, b < lowOneV (notV (u ||| maskN 0 i)) → (u.testBit b || decide (b < i)) = true := by
    intro b hb'
    cases hc : (u.testBit b || decide (b < i)) with
    | true => rfl
    | false =>
      have hm : b ∈ onesL (notV (u ||| maskN 0 i)) := mem_onesL.2 ⟨by omega, by rw [hb b (by omega), hc]; rfl⟩
      have := low_least hm
      omega
  have at' : lowOneV (notV (u ||| maskN 0 i)) < 64 → (u.testBit (lowOneV (notV (u ||| maskN 0 i))) || decide (lowOneV (notV (u ||| maskN 0 i)) < i)) = false := by
    intro h
    have e : lowOneV (notV (u ||| maskN 0 i)) = nthV (notV (u ||| maskN 0 i)) ((0 : Nat) : Int) := (nth_zero _).symm
    have := nth_some (u := notV (u ||| maskN 0 i)) (k := 0) (by rw [← e]; exact h)
    rw [← e] at this
    have h2 := this.1
    rw [hb _ h] at h2
    simpa using h2
  refine ⟨?_, ?_, ?_⟩
  · rcases Nat.lt_or_ge (lowOneV (notV (u ||| maskN 0 i))) 64 with h | h
    · have := at' h
      simp at this
      exact this.2
    · omega
  · intro b h1 h2
    have := least b h2
    rw [decide_eq_false (by omega), Bool.or_false] at this
    exact this
  · intro h
    have := at' h
    simp at this
    exact this.1
/-- where the first one of a word is looked for -/
def foundAt (ws : List Nat) (j : Nat) : Nat := 64 * (j / 64) + lowOneV (notV (ws.getD (j / 64) 0 ||| maskN 0 (j % 64)))
theorem found_le (ws : List Nat) (j : Nat) : foundAt ws j ≤ nextV j := by
  have := low_le (notV (ws.getD (j / 64) 0 ||| maskN 0 (j % 64)))
  unfold foundAt nextV; omega
theorem found_ge {ws : List Nat} (h : W64 ws) (j : Nat) : j ≤ foundAt ws j := by
  have := (low_zero_part (ws.getD (j / 64) 0) (j % 64) (h.getD _) (by omega)).1
  unfold foundAt; omega
theorem found_all {ws : List Nat} (h : W64 ws) (j t : Nat) (h1 : j ≤ t) (h2 : t < foundAt ws j) : bitV ws t = true := by
  have hle := found_le ws j
  have hk : t / 64 = j / 64 := by unfold nextV at hle; omega
  have := (low_zero_part (ws.getD (j / 64) 0) (j % 64) (h.getD _) (by omega)).2.1 (t % 64) (by omega) (by unfold foundAt at h2; omega)
  unfold bitV
  rw [hk]; exact this
theorem found_not {ws : List Nat} (h : W64 ws) (j : Nat) (h2 : foundAt ws j < nextV j) : bitV ws (foundAt ws j) = false := by
  have hl : lowOneV (notV (ws.getD (j / 64) 0 ||| maskN 0 (j % 64))) < 64 := by unfold foundAt nextV at h2; omega
  have := (low_zero_part (ws.getD (j / 64) 0) (j % 64) (h.getD _) (by omega)).2.2 hl
  unfold foundAt
  rw [bitV_word ws _ _ hl]; exact this
end Go.Proofs.Ytpkcihfldmgehaa
