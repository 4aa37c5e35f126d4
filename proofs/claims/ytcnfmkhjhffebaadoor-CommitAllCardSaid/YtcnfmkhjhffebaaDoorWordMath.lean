/- Plain arithmetic of word, of no program: which bits of 64 are set, as a rising list; the lowest, how many, the n-th, masks (P3.1), and what follows of them. -/
import Derived.RowKit
namespace Go.Proofs.YtcnfmkhjhffebaaDoor
open Go.RowKit

/-- the bits that are set, rising -/
def onesL (u : Nat) : List Nat := (List.range 64).filter fun i => u.testBit i
def lowOneV (u : Nat) : Nat := ((onesL u)[0]?).getD 64
def onesV (u : Nat) : Nat := (onesL u).length
def nthV (u : Nat) (n : Int) : Nat := if n < 0 then 64 else ((onesL u)[n.toNat]?).getD 64
/-- all bits turned -/
def notV (u : Nat) : Nat := 18446744073709551615 - u
/-- bits from i on, n of them, below 64 -/
def maskN (i n : Nat) : Nat := ((2 ^ n - 1) <<< i) % 18446744073709551616
def maskV (i n : Int) : Nat := if i < 0 ∨ n < 0 then 0 else maskN i.toNat n.toNat

theorem mem_onesL {u i : Nat} : i ∈ onesL u ↔ i < 64 ∧ u.testBit i = true := by
  unfold onesL; rw [List.mem_filter, List.mem_range]
theorem onesL_rising (u : Nat) : (onesL u).Pairwise (· < ·) := List.pairwise_lt_range.filter _
theorem onesL_lt {u k i : Nat} (h : (onesL u)[k]? = some i) : i < 64 ∧ u.testBit i = true := mem_onesL.1 (List.mem_of_getElem? h)
theorem ones_le (u : Nat) : onesV u ≤ 64 := by
  unfold onesV onesL
  have := List.length_filter_le (fun i => u.testBit i) (List.range 64)
  simpa using this

theorem testBit_maskN (i n k : Nat) : (maskN i n).testBit k = decide (i ≤ k ∧ k < i + n ∧ k < 64) := by
  unfold maskN
  rw [show (18446744073709551616 : Nat) = 2 ^ 64 by decide, Nat.testBit_mod_two_pow, Nat.testBit_shiftLeft, Nat.testBit_two_pow_sub_one]
  by_cases h1 : k < 64 <;> by_cases h2 : i ≤ k <;> by_cases h3 : k - i < n
  all_goals first
    | (have h4 : k < i + n := by omega
       simp [h1, h2, h3, h4])
    | (have h4 : ¬ k < i + n := by omega
       simp [h1, h2, h3, h4])
    | simp [h1, h2, h3]
theorem maskN_lt (i n : Nat) : maskN i n < 18446744073709551616 := Nat.mod_lt _ (by decide)
theorem testBit_high {u k : Nat} (hu : u < 18446744073709551616) (hk : 64 ≤ k) : u.testBit k = false :=
  Nat.testBit_lt_two_pow (Nat.lt_of_lt_of_le hu (by have := Nat.pow_le_pow_right (show 0 < 2 by decide) hk; omega))
theorem eq_of_bits {u v : Nat} (hu : u < 18446744073709551616) (hv : v < 18446744073709551616) (h : ∀ k, k < 64 → u.testBit k = v.testBit k) : u = v := by
  apply Nat.eq_of_testBit_eq
  intro k
  rcases Nat.lt_or_ge k 64 with hk | hk
  · exact h k hk
  · rw [testBit_high hu hk, testBit_high hv hk]
theorem testBit_notV {u : Nat} (hu : u < 18446744073709551616) (k : Nat) (hk : k < 64) : (notV u).testBit k = !u.testBit k := by
  unfold notV
  have := Nat.testBit_two_pow_sub_succ (n := 64) (x := u) (by simpa using hu) k
  rw [show (18446744073709551615 - u) = 2 ^ 64 - (u + 1) by omega, this]
  simp [hk]

theorem onesL_congr {u v : Nat} (h : ∀ k, k < 64 → u.testBit k = v.testBit k) : onesL u = onesL v := by
  unfold onesL
  exact List.filter_congr fun k hk => h k (List.mem_range.1 hk)
theorem onesL_filter (u v : Nat) (p : Nat → Bool) (h : ∀ k, k < 64 → v.testBit k = (u.testBit k && p k)) : onesL v = (onesL u).filter p := by
  unfold onesL
  rw [List.filter_filter]
  exact List.filter_congr fun k hk => by rw [h k (List.mem_range.1 hk), Bool.and_comm]

/-- of a rising list: as many are below its k-th as k -/
theorem rising_below : ∀ {l : List Nat} {k i : Nat}, l.Pairwise (· < ·) → l[k]? = some i → (l.filter fun j => decide (j < i)).length = k
  | [], _, _, _, h => by simp at h
  | a :: l, 0, i, hp, h => by
    obtain rfl : a = i := by simpa using h
    rw [List.pairwise_cons] at hp
    have : (a :: l).filter (fun j => decide (j < a)) = [] := by
      refine List.filter_eq_nil_iff.2 fun j hj => ?_
      rcases List.mem_cons.1 hj with rfl | hj
      · simp
      · have := hp.1 j hj; simp; omega
    rw [this]; rfl
  | a :: l, k + 1, i, hp, h => by
    rw [List.pairwise_cons] at hp
    have h' : l[k]? = some i := by simpa using h
    have ha := hp.1 i (List.mem_of_getElem? h')
    rw [List.filter_cons_of_pos (by simpa using ha), List.length_cons, rising_below hp.2 h']

theorem split_length (p : Nat → Bool) : ∀ l : List Nat, (l.filter p).length + (l.filter fun j => !p j).length = l.length
  | [] => rfl
  | a :: l => by
    have ih := split_length p l
    by_cases h : p a = true
    · rw [List.filter_cons_of_pos h, List.filter_cons_of_neg (by simp [h])]; simp; omega
    · have h' : p a = false := by simpa using h
      rw [List.filter_cons_of_neg (by simp [h']), List.filter_cons_of_pos (by simp [h'])]; simp; omega

/-! What follows: WordCounts. -/
theorem nth_le (u : Nat) (n : Int) : nthV u n ≤ 64 := by
  unfold nthV
  split
  · exact Nat.le_refl _
  · cases h : (onesL u)[n.toNat]? with
    | none => simp
    | some i => have := (onesL_lt h).1; simp; omega
theorem nth_none (u k : Nat) : nthV u k = 64 ↔ onesV u ≤ k := by
  unfold nthV onesV
  rw [if_neg (by omega), Int.toNat_natCast]
  cases h : (onesL u)[k]? with
  | none => simp; exact List.getElem?_eq_none_iff.1 h
  | some i =>
    have h1 := (onesL_lt h).1
    have h2 := (List.getElem?_eq_some_iff.1 h).1
    simp; omega
theorem nth_some {u k : Nat} (h : nthV u k < 64) : u.testBit (nthV u k) = true ∧ onesV (u &&& maskN 0 (nthV u k)) = k := by
  unfold nthV at h ⊢
  rw [if_neg (by omega), Int.toNat_natCast] at h ⊢
  cases e : (onesL u)[k]? with
  | none => rw [e] at h; simp at h
  | some i =>
    rw [Option.getD_some]
    refine ⟨(onesL_lt e).2, ?_⟩
    unfold onesV
    rw [onesL_filter u (u &&& maskN 0 i) (fun j => decide (j < i)) (fun j hj => by rw [Nat.testBit_and, testBit_maskN]; simp [hj])]
    exact rising_below (onesL_rising u) e
theorem nth_zero (u : Nat) : nthV u 0 = lowOneV u := by unfold nthV lowOneV; rfl
theorem ones_not {u : Nat} (hu : u < 18446744073709551616) : onesV u + onesV (notV u) = 64 := by
  unfold onesV onesL
  have e : (List.range 64).filter (fun i => (notV u).testBit i) = (List.range 64).filter (fun i => !u.testBit i) := List.filter_congr fun k hk => testBit_notV hu k (List.mem_range.1 hk)
  rw [e]
  have := split_length (fun i => u.testBit i) (List.range 64)
  rw [List.length_range] at this
  exact this

/-! What follows: WordMasks. -/
theorem masks_apart (x y z : Nat) : maskN x y &&& maskN (x + y) z = 0 := by
  apply Nat.eq_of_testBit_eq
  intro k
  rw [Nat.testBit_and, testBit_maskN, testBit_maskN, Nat.zero_testBit]
  by_cases h : k < x + y
  · rw [decide_eq_false (p := x + y ≤ k ∧ _) (by omega), Bool.and_false]
  · rw [decide_eq_false (by omega), Bool.false_and]
theorem masks_join (x y z : Nat) : maskN x y ||| maskN (x + y) z = maskN x (y + z) := by
  apply Nat.eq_of_testBit_eq
  intro k
  rw [Nat.testBit_or, testBit_maskN, testBit_maskN, testBit_maskN]
  rw [Bool.eq_iff_iff]
  simp only [Bool.or_eq_true, decide_eq_true_eq]
  omega
theorem range_part (a b : Nat) : ∀ n, ((List.range n).filter fun k => decide (a ≤ k ∧ k < b)).length = min b n - min a n
  | 0 => by simp
  | n + 1 => by
    rw [List.range_succ, List.filter_append, List.length_append, range_part a b n]
    by_cases h : a ≤ n ∧ n < b
    · rw [List.filter_cons_of_pos (by simpa using h)]; simp; omega
    · rw [List.filter_cons_of_neg (by simpa using h)]; simp; omega
theorem ones_mask (x y : Nat) : onesV (maskN x y) = min (x + y) 64 - min x 64 := by
  unfold onesV onesL
  rw [← range_part x (x + y) 64]
  congr 1
  exact List.filter_congr fun k hk => by
    rw [testBit_maskN]
    have := List.mem_range.1 hk
    simp [this]
theorem rising_head : ∀ {l : List Nat} {a : Nat}, l.Pairwise (· < ·) → a ∈ l → (∀ b ∈ l, a ≤ b) → l[0]? = some a
  | [], _, _, h, _ => by simp at h
  | c :: l, a, hp, h, hle => by
    rw [List.pairwise_cons] at hp
    rcases List.mem_cons.1 h with rfl | h
    · rfl
    · have h1 := hp.1 a h
      have h2 := hle c List.mem_cons_self
      omega
theorem low_mask (x y : Nat) : maskN x y = 0 ∨ lowOneV (maskN x y) = x := by
  by_cases h : x < 64 ∧ 0 < y
  · right
    have : (onesL (maskN x y))[0]? = some x := rising_head (onesL_rising _) (mem_onesL.2 ⟨h.1, by rw [testBit_maskN]; simp; omega⟩) fun b hb => by
      have := (mem_onesL.1 hb).2
      rw [testBit_maskN] at this
      exact (of_decide_eq_true this).1
    unfold lowOneV
    rw [this]; rfl
  · left
    apply Nat.eq_of_testBit_eq
    intro k
    rw [testBit_maskN, Nat.zero_testBit]
    exact decide_eq_false (by omega)

/-! What follows: WordShift. -/
def shlV (u n : Nat) : Nat := (u <<< n) % 18446744073709551616
theorem testBit_shlV (u n k : Nat) (hk : k < 64) : (shlV u n).testBit k = (decide (n ≤ k) && u.testBit (k - n)) := by
  unfold shlV
  rw [show (18446744073709551616 : Nat) = 2 ^ 64 by decide, Nat.testBit_mod_two_pow, Nat.testBit_shiftLeft]
  simp [hk]
theorem onesL_shl (u n : Nat) (hn : n ≤ 64) : onesL (shlV u n) = ((onesL u).filter fun j => decide (j < 64 - n)).map (fun j => n + j) := by
  have e1 : onesL (shlV u n) = (List.range 64).filter (fun k => decide (n ≤ k) && u.testBit (k - n)) := List.filter_congr fun k hk => testBit_shlV u n k (List.mem_range.1 hk)
  have e2 : (onesL u).filter (fun j => decide (j < 64 - n)) = (List.range (64 - n)).filter (fun i => u.testBit i) := by
    unfold onesL
    rw [List.filter_filter]
    have r : List.range 64 = List.range (64 - n) ++ (List.range n).map (fun x => 64 - n + x) := by
      rw [← List.range_add, show 64 - n + n = 64 by omega]
    rw [r, List.filter_append]
    have a : (List.range (64 - n)).filter (fun i => decide (i < 64 - n) && u.testBit i) = (List.range (64 - n)).filter (fun i => u.testBit i) := List.filter_congr fun k hk => by simp [List.mem_range.1 hk]
    have b : ((List.range n).map (fun x => 64 - n + x)).filter (fun i => decide (i < 64 - n) && u.testBit i) = [] := List.filter_eq_nil_iff.2 fun k hk => by
      obtain ⟨x, _, rfl⟩ := List.mem_map.1 hk
      simp; intro h; omega
    rw [a, b, List.append_nil]
  rw [e1, e2]
  have r : List.range 64 = List.range n ++ (List.range (64 - n)).map (fun x => n + x) := by
    rw [← List.range_add, show n + (64 - n) = 64 by omega]
  rw [r, List.filter_append]
  have a : (List.range n).filter (fun k => decide (n ≤ k) && u.testBit (k - n)) = [] := List.filter_eq_nil_iff.2 fun k hk => by
    have := List.mem_range.1 hk
    simp; omega
  rw [a, List.nil_append, List.filter_map]
  congr 1
  exact List.filter_congr fun k _ => by simp
theorem low_none {u : Nat} : lowOneV u = 64 ↔ onesL u = [] := by
  unfold lowOneV
  cases h : onesL u with
  | nil => simp
  | cons a l =>
    have := (mem_onesL.1 (show a ∈ onesL u by rw [h]; exact List.mem_cons_self)).1
    simp; omega
theorem low_le (u : Nat) : lowOneV u ≤ 64 := by rw [← nth_zero]; exact nth_le u 0
theorem low_least {u j : Nat} (h : j ∈ onesL u) : lowOneV u ≤ j := by
  unfold lowOneV
  have hp := onesL_rising u
  cases e : onesL u with
  | nil => rw [e] at h; simp at h
  | cons a l =>
    rw [e] at h hp
    rw [List.pairwise_cons] at hp
    rcases List.mem_cons.1 h with rfl | h
    · simp
    · have := hp.1 j h; simp; omega
/-- how many fall out -/
theorem ones_out (u v n : Nat) (hv : ∀ k, k < 64 → v.testBit k = (u.testBit k && !decide (k < 64 - n))) : onesV v = ((onesL u).filter fun j => !decide (j < 64 - n)).length := by
  unfold onesV
  rw [onesL_filter u v (fun j => !decide (j < 64 - n)) hv]
theorem shift_counts (u v n : Nat) (hn : n ≤ 64) (hv : ∀ k, k < 64 → v.testBit k = (u.testBit k && !decide (k < 64 - n))) :
    onesV (shlV u n) + onesV v = onesV u ∧ ((64 ≤ lowOneV u + n ∧ lowOneV (shlV u n) = 64 ∧ onesV v = onesV u) ∨ (lowOneV u + n < 64 ∧ lowOneV (shlV u n) = lowOneV u + n)) := by
  have h1 : onesV (shlV u n) + onesV v = onesV u := by
    rw [ones_out u v n hv]
    unfold onesV
    rw [onesL_shl u n hn, List.length_map]
    exact split_length (fun j => decide (j < 64 - n)) (onesL u)
  refine ⟨h1, ?_⟩
  by_cases h : 64 ≤ lowOneV u + n
  · left
    have e : onesL (shlV u n) = [] := by
      rw [onesL_shl u n hn, List.map_eq_nil_iff]
      refine List.filter_eq_nil_iff.2 fun j hj => ?_
      have := low_least hj
      simp; omega
    have : onesV (shlV u n) = 0 := by unfold onesV; rw [e]; rfl
    exact ⟨h, low_none.2 e, by omega⟩
  · right
    refine ⟨by omega, ?_⟩
    have hm : lowOneV u ∈ onesL u := by
      cases e : onesL u with
      | nil => have := low_none.2 e; omega
      | cons a l => unfold lowOneV; rw [e]; simp
    have : (onesL (shlV u n))[0]? = some (n + lowOneV u) := rising_head (onesL_rising _) (by
        rw [onesL_shl u n hn]
        exact List.mem_map.2 ⟨_, List.mem_filter.2 ⟨hm, by simp; omega⟩, rfl⟩) fun b hb => by
      rw [onesL_shl u n hn] at hb
      obtain ⟨j, hj, rfl⟩ := List.mem_map.1 hb
      have := low_least (List.mem_filter.1 hj).1
      omega
    show ((onesL (shlV u n))[0]?).getD 64 = _
    rw [this, Option.getD_some]; omega
end Go.Proofs.YtcnfmkhjhffebaaDoor
