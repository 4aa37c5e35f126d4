/- Plain arithmetic of rank, of no program: how many below, the how-many-th (P6.1), one word more of each, and what follows of them. -/
import Derived.Test.YtlbkicohmbdlhaaTreeMath
import Derived.Test.YtlbkicohmbdlhaaSwar
namespace Go.Proofs.Ytlbkicohmbdlhaa
open Go.RowKit

/-- how many below i, and below n, are set -/
def belowV (n : Nat) (ws : List Nat) (i : Int) : Nat := cnt (bitV ws) 0 (min i.toNat n)
/-- the one that is set and has k set ones below it -/
def nthT (n : Nat) (ws : List Nat) (k : Int) : Option Nat := if k < 0 then none else (List.range n).find? fun j => bitV ws j && decide (cnt (bitV ws) 0 j = k.toNat)

theorem cnt_mono (p : Nat → Bool) (a b c : Nat) (h : b ≤ c) : cnt p a b ≤ cnt p a c := by
  rcases Nat.lt_or_ge b a with hb | hb
  · rw [cnt_self p a b (by omega)]; omega
  · rw [cnt_add p a b c hb h]; omega
theorem below_le (n : Nat) (ws : List Nat) (i : Int) : belowV n ws i ≤ n := by
  have := cnt_le (bitV ws) 0 (min i.toNat n)
  unfold belowV; omega
theorem below_nat (n : Nat) (ws : List Nat) (i : Nat) (hi : i ≤ n) : belowV n ws (i : Int) = cnt (bitV ws) 0 i := by
  unfold belowV
  rw [Int.toNat_natCast, Nat.min_eq_left hi]
theorem nthT_some {n : Nat} {ws : List Nat} {k j : Nat} (hj : j < n) (hb : bitV ws j = true) (hc : cnt (bitV ws) 0 j = k) : nthT n ws (k : Int) = some j := by
  unfold nthT
  rw [if_neg (by omega), Int.toNat_natCast, List.find?_range_eq_some]
  refine ⟨by simp [hb, hc], List.mem_range.2 hj, fun t ht => ?_⟩
  cases hbt : bitV ws t with
  | false => rfl
  | true =>
    have h1 := cnt_succ (bitV ws) 0 t (Nat.zero_le _)
    rw [hbt, if_pos rfl] at h1
    have h2 := cnt_mono (bitV ws) 0 (t + 1) j (by omega)
    have : ¬ cnt (bitV ws) 0 t = k := by omega
    simp [this]
theorem nthT_none {n : Nat} {ws : List Nat} {k : Nat} (h : cnt (bitV ws) 0 n ≤ k) : nthT n ws (k : Int) = none := by
  unfold nthT
  rw [if_neg (by omega), Int.toNat_natCast, List.find?_eq_none]
  intro j hj
  have hj' := List.mem_range.1 hj
  cases hbt : bitV ws j with
  | false => simp
  | true =>
    have h1 := cnt_succ (bitV ws) 0 j (Nat.zero_le _)
    rw [hbt, if_pos rfl] at h1
    have h2 := cnt_mono (bitV ws) 0 (j + 1) n (by omega)
    have : ¬ cnt (bitV ws) 0 j = k := by omega
    simp [this]
theorem nthT_neg {n : Nat} {ws : List Nat} {k : Int} (h : k < 0) : nthT n ws k = none := by unfold nthT; rw [if_pos h]
theorem nth_exists (p : Nat → Bool) (k : Nat) : ∀ n, k < cnt p 0 n → ∃ j, j < n ∧ p j = true ∧ cnt p 0 j = k
  | 0, h => by rw [cnt_self p 0 0 (Nat.le_refl _)] at h; omega
  | n + 1, h => by
    rw [cnt_succ p 0 n (Nat.zero_le _)] at h
    rcases Nat.lt_or_ge k (cnt p 0 n) with hk | hk
    · obtain ⟨j, h1, h2, h3⟩ := nth_exists p k n hk
      exact ⟨j, by omega, h2, h3⟩
    · cases hb : p n with
      | false => rw [hb] at h; simp at h; omega
      | true => rw [hb, if_pos rfl] at h; exact ⟨n, by omega, hb, by omega⟩
theorem nthT_cases (n : Nat) (ws : List Nat) (k : Nat) : (∃ j, nthT n ws (k : Int) = some j ∧ j < n ∧ bitV ws j = true ∧ cnt (bitV ws) 0 j = k) ∨ (nthT n ws (k : Int) = none ∧ cnt (bitV ws) 0 n ≤ k) := by
  rcases Nat.lt_or_ge k (cnt (bitV ws) 0 n) with h | h
  · obtain ⟨j, h1, h2, h3⟩ := nth_exists (bitV ws) k n h
    exact .inl ⟨j, nthT_some h1 h2 h3, h1, h2, h3⟩
  · exact .inr ⟨nthT_none h, h⟩

/-- one word more is counted -/
theorem word_step (ws : List Nat) (K e : Nat) (h : 64 * K < e) : cnt (bitV ws) 0 (min (64 * (K + 1)) e) = cnt (bitV ws) 0 (64 * K) + onesV (ws.getD K 0 &&& maskN 0 (e - 64 * K)) := by
  have s := cnt_step ws 0 (64 * K) e (Nat.zero_le _) h
  rw [show nextV (64 * K) = 64 * (K + 1) by unfold nextV; omega, show 64 * K / 64 = K by omega, show 64 * K % 64 = 0 by omega] at s
  exact s
/-- the word that has the how-many-th -/
theorem word_nth (n : Nat) (ws : List Nat) (K e N : Nat) (h : 64 * K < e) (he : e ≤ n) (hN : cnt (bitV ws) 0 (64 * K) ≤ N) (hr : N - cnt (bitV ws) 0 (64 * K) < onesV (ws.getD K 0 &&& maskN 0 (e - 64 * K))) :
    nthT n ws (N : Int) = some (64 * K + nthV (ws.getD K 0 &&& maskN 0 (e - 64 * K)) ((N - cnt (bitV ws) 0 (64 * K) : Nat) : Int)) := by
  generalize hR : N - cnt (bitV ws) 0 (64 * K) = R at hr
  have hlt : nthV (ws.getD K 0 &&& maskN 0 (e - 64 * K)) (R : Int) < 64 := by
    have h1 := nth_le (ws.getD K 0 &&& maskN 0 (e - 64 * K)) (R : Int)
    have h2 := nth_none (ws.getD K 0 &&& maskN 0 (e - 64 * K)) R
    have : nthV (ws.getD K 0 &&& maskN 0 (e - 64 * K)) (R : Int) ≠ 64 := fun hh => by have := h2.1 hh; omega
    omega
  obtain ⟨hb, hc⟩ := nth_some hlt
  rw [ones_part] at hc
  generalize nthV (ws.getD K 0 &&& maskN 0 (e - 64 * K)) (R : Int) = x at *
  rw [Nat.testBit_and, testBit_maskN, Bool.and_eq_true, decide_eq_true_eq] at hb
  obtain ⟨hb1, _, hb2, _⟩ := hb
  refine nthT_some (by omega) ?_ ?_
  · rw [bitV_word _ _ _ hlt]; exact hb1
  · rw [cnt_add (bitV ws) 0 (64 * K) (64 * K + x) (Nat.zero_le _) (by omega)]
    have hs := cnt_shift (bitV ws) (fun b => (ws.getD K 0).testBit b) (64 * K) 0 x (fun b hb => bitV_word ws K b (by omega))
    rw [Nat.add_zero] at hs
    rw [hs]
    have hc2 : cnt (fun b => (ws.getD K 0 &&& maskN 0 (e - 64 * K)).testBit b) 0 (min (0 + x) 64) = cnt (fun b => (ws.getD K 0).testBit b) 0 x := by
      rw [show min (0 + x) 64 = x by omega]
      refine cnt_congr _ _ _ _ fun j _ h2 => ?_
      show (ws.getD K 0 &&& maskN 0 (e - 64 * K)).testBit j = _
      rw [Nat.testBit_and, testBit_maskN, decide_eq_true (by omega), Bool.and_true]
    rw [hc2] at hc
    omega

/-! What follows: Below and Nth undo one another. -/
theorem nth_back {n : Nat} {ws : List Nat} {i x : Nat} (h : nthT n ws ((cnt (bitV ws) 0 i : Nat) : Int) = some x) : i ≤ x ∧ x < n ∧ bitV ws x = true ∧ cnt (bitV ws) 0 x = cnt (bitV ws) 0 i := by
  rcases nthT_cases n ws (cnt (bitV ws) 0 i) with ⟨j, h1, h2, h3, h4⟩ | ⟨h1, _⟩
  · rw [h1] at h; cases h
    refine ⟨?_, h2, h3, h4⟩
    rcases Nat.lt_or_ge x i with hx | hx
    · have s := cnt_succ (bitV ws) 0 x (Nat.zero_le _)
      rw [h3, if_pos rfl] at s
      have := cnt_mono (bitV ws) 0 (x + 1) i (by omega)
      omega
    · exact hx
  · rw [h1] at h; cases h
theorem nth_at {n : Nat} {ws : List Nat} {i : Nat} (hi : i < n) (hb : bitV ws i = true) : nthT n ws ((cnt (bitV ws) 0 i : Nat) : Int) = some i := nthT_some hi hb rfl
/-- a bit that is set is one more above it, and none below -/
theorem below_set {n : Nat} {ws : List Nat} (h : Lev n ws) (i k : Nat) (hi : i < n) (hk : k < n) : cnt (bitV (setT n ws (i : Int) 1 true)) 0 k = cnt (bitV ws) 0 k + (if bitV ws i = false ∧ i < k then 1 else 0) := by
  have hb : ∀ j, j < n → bitV (setT n ws (i : Int) 1 true) j = if i ≤ j ∧ j < i + 1 then true else bitV ws j := fun j hj => bit_setT h i 1 true j hj
  rcases Nat.lt_or_ge i k with hik | hik
  · rw [cnt_add _ 0 i k (Nat.zero_le _) (by omega), cnt_add _ i (i + 1) k (by omega) (by omega), cnt_add (bitV ws) 0 i k (Nat.zero_le _) (by omega), cnt_add (bitV ws) i (i + 1) k (by omega) (by omega)]
    rw [cnt_succ _ i i (Nat.le_refl _), cnt_succ (bitV ws) i i (Nat.le_refl _), cnt_self _ i i (Nat.le_refl _), cnt_self (bitV ws) i i (Nat.le_refl _)]
    rw [show bitV (setT n ws (i : Int) 1 true) i = true by rw [hb i hi, if_pos ⟨Nat.le_refl _, Nat.lt_succ_self _⟩]]
    rw [cnt_congr (bitV (setT n ws (i : Int) 1 true)) (bitV ws) 0 i fun j _ h2 => by rw [hb j (by omega), if_neg (by omega)]]
    rw [cnt_congr (bitV (setT n ws (i : Int) 1 true)) (bitV ws) (i + 1) k fun j h1 h2 => by rw [hb j (by omega), if_neg (by omega)]]
    cases hbi : bitV ws i
    · simp [hik]; omega
    · simp
  · rw [if_neg (by omega), cnt_congr (bitV (setT n ws (i : Int) 1 true)) (bitV ws) 0 k fun j _ h2 => by rw [hb j (by omega), if_neg (by omega)], Nat.add_zero]
end Go.Proofs.Ytlbkicohmbdlhaa
