/- Plain arithmetic of trees of bits, of no program: rows of words whose bits beyond the last one are set (Lev), the row above a row (upV), the levels (lvV), how many there are (nLev); a piece set, the first bit that is not set, found level by level (P5.1). -/
import Derived.Test.YtpkcihfldmgehaaRowStep
namespace Go.Proofs.Ytpkcihfldmgehaa
open Go.RowKit

/-- a word of bits, those below m -/
def wordB (q : Nat → Bool) : Nat → Nat
  | 0 => 0
  | m + 1 => wordB q m ||| (if q m then 2 ^ m else 0)
theorem wordB_lt (q : Nat → Bool) : ∀ m, wordB q m < 2 ^ m
  | 0 => Nat.one_pos
  | m + 1 => by
    have h := wordB_lt q m
    have h2 : 2 ^ m < 2 ^ (m + 1) := Nat.pow_lt_pow_right (by decide) (by omega)
    refine Nat.or_lt_two_pow (Nat.lt_trans h h2) ?_
    split
    · exact h2
    · exact Nat.two_pow_pos _
theorem wordB_bit (q : Nat → Bool) (k : Nat) : ∀ m, (wordB q m).testBit k = (decide (k < m) && q k)
  | 0 => by simp [wordB]
  | m + 1 => by
    show (wordB q m ||| _).testBit k = _
    rw [Nat.testBit_or, wordB_bit q k m]
    by_cases hk : k = m
    · subst hk
      cases hq : q k <;> simp
    · have hz : (if q m = true then 2 ^ m else 0).testBit k = false := by
        split
        · rw [Nat.testBit_two_pow]; exact decide_eq_false (fun e => hk e.symm)
        · exact Nat.zero_testBit _
      rw [hz, Bool.or_false]
      congr 1
      apply decide_eq_decide.2
      omega

/-- words of n bits, those beyond set -/
def packV (n : Nat) (p : Nat → Bool) : List Nat := (List.range ((n + 63) / 64)).map fun k => wordB (fun j => decide (n ≤ 64 * k + j) || p (64 * k + j)) 64
theorem packV_length (n : Nat) (p : Nat → Bool) : (packV n p).length = (n + 63) / 64 := by unfold packV; simp
theorem packV_64 (n : Nat) (p : Nat → Bool) : W64 (packV n p) := by
  intro u hu
  unfold packV at hu
  obtain ⟨k, _, rfl⟩ := List.mem_map.1 hu
  exact wordB_lt _ 64
theorem packV_getD (n : Nat) (p : Nat → Bool) (k : Nat) (hk : k < (n + 63) / 64) : (packV n p).getD k 0 = wordB (fun j => decide (n ≤ 64 * k + j) || p (64 * k + j)) 64 := by
  unfold packV
  simp [List.getD_eq_getElem?_getD, hk]
theorem bitV_packV (n : Nat) (p : Nat → Bool) (i : Nat) (hi : i < 64 * ((n + 63) / 64)) : bitV (packV n p) i = (decide (n ≤ i) || p i) := by
  unfold bitV
  rw [packV_getD n p (i / 64) (by omega), wordB_bit, decide_eq_true (by omega), Bool.true_and, show 64 * (i / 64) + i % 64 = i by omega]

/-- a row of n bits, those beyond set -/
def Lev (n : Nat) (ws : List Nat) : Prop := W64 ws ∧ ws.length = (n + 63) / 64 ∧ ∀ i, n ≤ i → i < 64 * ws.length → bitV ws i = true
theorem lev_pack (n : Nat) (p : Nat → Bool) : Lev n (packV n p) := by
  refine ⟨packV_64 n p, packV_length n p, fun i h1 h2 => ?_⟩
  rw [packV_length] at h2
  rw [bitV_packV n p i h2, decide_eq_true h1]; rfl
theorem lev_ext {n : Nat} {a b : List Nat} (ha : Lev n a) (hb : Lev n b) (h : ∀ i, i < n → bitV a i = bitV b i) : a = b := by
  refine row_ext ha.1 hb.1 (ha.2.1.trans hb.2.1.symm) fun i hi => ?_
  rcases Nat.lt_or_ge i n with h1 | h1
  · exact h i h1
  · rw [ha.2.2 i h1 hi, hb.2.2 i h1 (by rw [hb.2.1, ← ha.2.1]; exact hi)]
theorem lev_pack_eq {n : Nat} {ws : List Nat} (h : Lev n ws) {p : Nat → Bool} (hp : ∀ i, i < n → p i = bitV ws i) : packV n p = ws :=
  lev_ext (lev_pack n p) h fun i hi => by rw [bitV_packV n p i (by omega), decide_eq_false (by omega), Bool.false_or, hp i hi]
theorem lev_lt {n : Nat} {ws : List Nat} (h : Lev n ws) {i : Nat} (hi : i < 64 * ws.length) (hz : bitV ws i = false) : i < n := by
  rcases Nat.lt_or_ge i n with h1 | h1
  · exact h1
  · rw [h.2.2 i h1 hi] at hz; cases hz
theorem pack_congr {n : Nat} {p q : Nat → Bool} (h : ∀ i, i < n → p i = q i) : packV n p = packV n q :=
  lev_pack_eq (lev_pack n q) fun i hi => by rw [bitV_packV n q i (by omega), decide_eq_false (by omega), Bool.false_or, h i hi]

/-- is word i full? -/
def isFull (ws : List Nat) (i : Nat) : Bool := decide (ws.getD i 0 = 18446744073709551615)
theorem testBit_ones (j : Nat) (hj : j < 64) : (18446744073709551615 : Nat).testBit j = true := by
  have : (18446744073709551615 : Nat) = 2 ^ 64 - 1 := by decide
  rw [this, Nat.testBit_two_pow_sub_one, decide_eq_true hj]
theorem full_iff {ws : List Nat} (h : W64 ws) (k : Nat) : isFull ws k = true ↔ ∀ j, j < 64 → bitV ws (64 * k + j) = true := by
  unfold isFull
  rw [decide_eq_true_iff]
  constructor
  · intro e j hj
    rw [bitV_word ws k j hj, e, testBit_ones j hj]
  · intro e
    refine eq_of_bits (h.getD k) (by decide) fun j hj => ?_
    rw [testBit_ones j hj, ← bitV_word ws k j hj, e j hj]
theorem not_full {ws : List Nat} (h : W64 ws) (k : Nat) (hf : isFull ws k = false) : ∃ j, j < 64 ∧ bitV ws (64 * k + j) = false := by
  apply Classical.byContradiction
  intro hn
  have : isFull ws k = true := (full_iff h k).2 fun j hj => by
    cases hb : bitV ws (64 * k + j)
    · exact absurd ⟨j, hj, hb⟩ hn
    · rfl
  rw [this] at hf; cases hf

/-- the row above -/
def upV (ws : List Nat) : List Nat := packV ws.length (isFull ws)
theorem up_bit (ws : List Nat) (i : Nat) (hi : i < ws.length) : bitV (upV ws) i = isFull ws i := by
  unfold upV
  rw [bitV_packV _ _ i (by omega), decide_eq_false (by omega), Bool.false_or]
/-- the levels -/
def lvV (ws : List Nat) : Nat → List Nat
  | 0 => ws
  | k + 1 => upV (lvV ws k)
/-- how many bits a level has -/
def nb (n : Nat) : Nat → Nat
  | 0 => n
  | k + 1 => (nb n k + 63) / 64
theorem lev_lv {n : Nat} {ws : List Nat} (h : Lev n ws) : ∀ k, Lev (nb n k) (lvV ws k)
  | 0 => h
  | k + 1 => by
    have := lev_pack (lvV ws k).length (isFull (lvV ws k))
    rw [(lev_lv h k).2.1] at this
    show Lev ((nb n k + 63) / 64) (upV (lvV ws k))
    unfold upV
    rw [(lev_lv h k).2.1]
    exact this
theorem lv_length {n : Nat} {ws : List Nat} (h : Lev n ws) (k : Nat) : (lvV ws k).length = nb n (k + 1) := (lev_lv h k).2.1
/-- how many levels -/
def nLev (n : Nat) : Nat := if n ≤ 64 then 1 else if n ≤ 4096 then 2 else 3
theorem nLev_in (n : Nat) : 1 ≤ nLev n ∧ nLev n ≤ 3 := by unfold nLev; split <;> (try split) <;> omega
theorem nb_le (n : Nat) (hn : n ≤ 65536) : ∀ k, nb n k ≤ 65536
  | 0 => hn
  | k + 1 => by have := nb_le n hn k; show (nb n k + 63) / 64 ≤ _; omega
theorem nb_pos (n : Nat) (hn : 1 ≤ n) : ∀ k, 1 ≤ nb n k
  | 0 => hn
  | k + 1 => by have := nb_pos n hn k; show 1 ≤ (nb n k + 63) / 64; omega
theorem nb_words (n k : Nat) (hn : 1 ≤ n) (hn' : n ≤ 65536) : 1 ≤ nb n (k + 1) ∧ nb n (k + 1) ≤ 1024 := by
  have := nb_le n hn' k
  have := nb_pos n hn k
  show 1 ≤ (nb n k + 63) / 64 ∧ (nb n k + 63) / 64 ≤ 1024
  omega
/-- the top level has one word, those below have more -/
theorem nb_top (n k : Nat) (hn : 1 ≤ n) (hn' : n ≤ 65536) (hk : k < nLev n) : nb n (k + 1) = 1 ↔ k + 1 = nLev n := by
  unfold nLev at *
  have e1 : nb n 1 = (n + 63) / 64 := rfl
  have e2 : nb n 2 = ((n + 63) / 64 + 63) / 64 := rfl
  have e3 : nb n 3 = (((n + 63) / 64 + 63) / 64 + 63) / 64 := rfl
  by_cases h1 : n ≤ 64
  · rw [if_pos h1] at *
    obtain rfl : k = 0 := by omega
    rw [e1]; omega
  · rw [if_neg h1] at *
    by_cases h2 : n ≤ 4096
    · rw [if_pos h2] at *
      rcases (show k = 0 ∨ k = 1 by omega) with rfl | rfl
      · rw [e1]; omega
      · rw [e2]; omega
    · rw [if_neg h2] at *
      rcases (show k = 0 ∨ k = 1 ∨ k = 2 by omega) with rfl | rfl | rfl
      · rw [e1]; omega
      · rw [e2]; omega
      · rw [e3]; omega
theorem nb_end (n : Nat) (hn : 1 ≤ n) (hn' : n ≤ 65536) : nb n (nLev n) = 1 := by
  have h := nLev_in n
  obtain ⟨k, hk⟩ : ∃ k, nLev n = k + 1 := ⟨nLev n - 1, by omega⟩
  rw [hk]
  exact (nb_top n k hn hn' (by omega)).2 hk.symm

/-! what is beyond: the rest of the last word -/
theorem rest_and {n : Nat} {ws : List Nat} (h : Lev n ws) (hn : 1 ≤ n) : ws.getD ((n - 1) / 64) 0 &&& maskN ((n - 1) % 64 + 1) 64 = maskN ((n - 1) % 64 + 1) 64 := by
  refine eq_of_bits (Nat.lt_of_le_of_lt Nat.and_le_right (maskN_lt _ _)) (maskN_lt _ _) fun j hj => ?_
  rw [Nat.testBit_and, testBit_maskN]
  by_cases hc : (n - 1) % 64 + 1 ≤ j ∧ j < (n - 1) % 64 + 1 + 64 ∧ j < 64
  · rw [decide_eq_true hc, Bool.and_true]
    have hl := h.2.1
    have := h.2.2 (64 * ((n - 1) / 64) + j) (by omega) (by omega)
    rwa [bitV_word _ _ _ hj] at this
  · rw [decide_eq_false hc, Bool.and_false]
/-- none set, those beyond are -/
def noneV (n : Nat) : List Nat := packV n fun _ => false
theorem none_row (n : Nat) (hn : 1 ≤ n) : (List.replicate ((n + 63) / 64) 0).set ((n - 1) / 64) (maskN ((n - 1) % 64 + 1) 64) = noneV n := by
  have h0 : W64 (List.replicate ((n + 63) / 64) 0) := by intro u hu; rw [List.eq_of_mem_replicate hu]; decide
  refine row_ext (set_64 h0 _ _ (maskN_lt _ _)) (packV_64 _ _) (by rw [List.length_set, List.length_replicate]; exact (packV_length _ _).symm) fun i hi => ?_
  rw [List.length_set, List.length_replicate] at hi
  unfold noneV
  rw [bitV_set _ _ _ _ (by rw [List.length_replicate]; omega), bitV_packV n _ i hi, Bool.or_false]
  by_cases hk : i / 64 = (n - 1) / 64
  · rw [if_pos hk, testBit_maskN]
    apply decide_eq_decide.2
    omega
  · rw [if_neg hk, decide_eq_false (by omega)]
    unfold bitV
    rw [List.getD_eq_getElem?_getD, List.getElem?_eq_getElem (by rw [List.length_replicate]; omega), List.getElem_replicate]
    exact Nat.zero_testBit _
theorem none_up (n : Nat) : upV (noneV n) = noneV ((n + 63) / 64) := by
  unfold upV
  have e : (noneV n).length = (n + 63) / 64 := packV_length _ _
  rw [e]
  refine pack_congr fun i hi => ?_
  cases hf : isFull (noneV n) i
  · rfl
  · have := (full_iff (packV_64 n fun _ => false) i).1 hf 0 (by decide)
    rw [bitV_packV n _ _ (by omega), decide_eq_false (by omega)] at this
    cases this
theorem none_lv (n : Nat) : ∀ k, lvV (noneV n) k = noneV (nb n k)
  | 0 => rfl
  | k + 1 => by
    show upV (lvV (noneV n) k) = noneV ((nb n k + 63) / 64)
    rw [none_lv n k, none_up _]

/-! a piece set -/
/-- what Set tells: the row of bits, f and m any -/
def setT (n : Nat) (ws : List Nat) (f m : Int) (on : Bool) : List Nat := if f < 0 ∨ m < 0 then ws else setV ws f.toNat (min m.toNat (n - f.toNat)) on
theorem bit_setT {n : Nat} {ws : List Nat} (h : Lev n ws) (f m : Nat) (on : Bool) (i : Nat) (hi : i < n) : bitV (setT n ws f m on) i = if f ≤ i ∧ i < f + m then on else bitV ws i := by
  have hl := h.2.1
  unfold setT
  rw [if_neg (by omega), Int.toNat_natCast, Int.toNat_natCast, bitV_setV]
  by_cases hc : f ≤ i ∧ i < f + m
  · rw [if_pos hc, if_pos (by omega)]
  · rw [if_neg hc, if_neg (by omega)]
theorem lev_setV {n : Nat} {ws : List Nat} (h : Lev n ws) (f m : Nat) (on : Bool) (hm : f + m ≤ n ∨ m = 0) : Lev n (setV ws f m on) := by
  refine ⟨setV_64 h.1 _ _ _, by rw [setV_length]; exact h.2.1, fun i h1 h2 => ?_⟩
  rw [setV_length] at h2
  rw [bitV_setV, if_neg (by omega)]
  exact h.2.2 i h1 h2
theorem lev_setT {n : Nat} {ws : List Nat} (h : Lev n ws) (f m : Int) (on : Bool) : Lev n (setT n ws f m on) := by
  unfold setT
  split
  · exact h
  · exact lev_setV h _ _ _ (by omega)
theorem setT_none {n : Nat} {ws : List Nat} (h : Lev n ws) (f m : Int) (on : Bool) (hc : f < 0 ∨ m < 1 ∨ (n : Int) ≤ f) : setT n ws f m on = ws := by
  unfold setT
  split
  · rfl
  · rw [show min m.toNat (n - f.toNat) = 0 by omega, set_none h.1]
/-- one bit -/
theorem set_one {ws : List Nat} (h : W64 ws) (j : Nat) (on : Bool) (hj : j < 64 * ws.length) :
    ws.set (j / 64) (if on then ws.getD (j / 64) 0 ||| maskN (j % 64) 1 else ws.getD (j / 64) 0 &&& notV (maskN (j % 64) 1)) = setV ws j 1 on := by
  have := setV_word h j j (j + 1) on (Nat.le_refl _) (by omega) (by omega)
  rw [Nat.sub_self, set_none h, show j + 1 - j = 1 by omega, show min (nextV j) (j + 1) - j = 1 by have := next_gt j; omega] at this
  exact this

/-- the two rows are alike but for the words from a to b -/
def Alike (xs ys : List Nat) (a b : Nat) : Prop := ∀ k, k < a ∨ b < k → xs.getD k 0 = ys.getD k 0
theorem alike_set {n : Nat} {ws : List Nat} (h : Lev n ws) (f m : Nat) (on : Bool) (hm : 1 ≤ m) : Alike ws (setV ws f m on) (f / 64) ((f + m - 1) / 64) := by
  intro k hk
  rcases Nat.lt_or_ge k ws.length with hl | hl
  · refine eq_of_bits (h.1.getD k) ((setV_64 h.1 f m on).getD k) fun j hj => ?_
    rw [← bitV_word ws k j hj, ← bitV_word _ k j hj, bitV_setV, if_neg (by omega)]
  · rw [List.getD_eq_getElem?_getD, List.getD_eq_getElem?_getD, List.getElem?_eq_none hl, List.getElem?_eq_none (by rw [setV_length]; exact hl)]
theorem alike_full {xs ys : List Nat} {a b : Nat} (h : Alike xs ys a b) (k : Nat) (hk : k < a ∨ b < k) : isFull xs k = isFull ys k := by
  unfold isFull; rw [h k hk]
theorem alike_up {xs ys : List Nat} {a b : Nat} (h : Alike xs ys a b) (hl : xs.length = ys.length) : Alike (upV xs) (upV ys) (a / 64) (b / 64) := by
  intro k hk
  have l1 : (upV xs).length = (xs.length + 63) / 64 := packV_length _ _
  have l2 : (upV ys).length = (xs.length + 63) / 64 := by unfold upV; rw [packV_length, hl]
  rcases Nat.lt_or_ge k ((xs.length + 63) / 64) with h1 | h1
  · refine eq_of_bits ((packV_64 _ _).getD k) ((packV_64 _ _).getD k) fun j hj => ?_
    rw [← bitV_word _ k j hj, ← bitV_word _ k j hj]
    unfold upV
    rw [bitV_packV _ _ _ (by omega), bitV_packV _ _ _ (by omega), hl, alike_full h _ (by omega)]
  · rw [List.getD_eq_getElem?_getD, List.getD_eq_getElem?_getD, List.getElem?_eq_none (by rw [l1]; exact h1), List.getElem?_eq_none (by rw [l2]; exact h1)]
/-- the row above, mended as far as bit t -/
def Mid (old new : List Nat) (a t : Nat) (xs : List Nat) : Prop := W64 xs ∧ xs.length = (upV old).length ∧ ∀ i, i < 64 * xs.length → bitV xs i = if a ≤ i ∧ i < t then isFull new i else bitV (upV old) i
theorem mid_start (old new : List Nat) (a : Nat) : Mid old new a a (upV old) :=
  ⟨packV_64 _ _, rfl, fun i _ => by rw [if_neg (by omega)]⟩
theorem mid_step {old new : List Nat} {a t : Nat} {xs : List Nat} (h : Mid old new a t xs) (ha : a ≤ t) (ht : t < 64 * xs.length) : Mid old new a (t + 1) (setV xs t 1 (isFull new t)) := by
  refine ⟨setV_64 h.1 _ _ _, by rw [setV_length]; exact h.2.1, fun i hi => ?_⟩
  rw [setV_length] at hi
  rw [bitV_setV]
  by_cases hc : i = t
  · subst hc
    rw [if_pos (by omega), if_pos (by omega)]
  · rw [if_neg (by omega), h.2.2 i hi]
    by_cases h2 : a ≤ i ∧ i < t
    · rw [if_pos h2, if_pos (by omega)]
    · rw [if_neg h2, if_neg (by omega)]
theorem mid_end {old new : List Nat} {a b : Nat} {xs : List Nat} (h : Mid old new a (b + 1) xs) (hl : old.length = new.length) (hk : Alike old new a b) (hb : b < old.length) : xs = upV new := by
  have l1 : (upV old).length = (old.length + 63) / 64 := packV_length _ _
  have l2 : (upV new).length = (old.length + 63) / 64 := by unfold upV; rw [packV_length, hl]
  refine row_ext h.1 (packV_64 _ _) (by rw [h.2.1, l1, l2]) fun i hi => ?_
  rw [h.2.2 i hi]
  have hi' : i < 64 * ((old.length + 63) / 64) := by rw [h.2.1, l1] at hi; exact hi
  unfold upV
  by_cases hc : a ≤ i ∧ i < b + 1
  · rw [if_pos hc, bitV_packV _ _ _ (by rw [← hl]; exact hi'), decide_eq_false (by omega), Bool.false_or]
  · rw [if_neg hc, bitV_packV _ _ _ hi', bitV_packV _ _ _ (by rw [← hl]; exact hi'), hl, alike_full hk i (by omega)]

/-! the first bit that is not set, level by level -/
/-- bit t of level k is not set -/
def Z (n : Nat) (ws : List Nat) (k t : Nat) : Prop := t < nb n k ∧ bitV (lvV ws k) t = false
theorem zero_up {n : Nat} {ws : List Nat} (h : Lev n ws) {k t : Nat} (hz : Z n ws k t) : Z n ws (k + 1) (t / 64) := by
  have hl := lv_length h k
  have e : nb n (k + 1) = (nb n k + 63) / 64 := rfl
  have h1 := hz.1
  have hlt : t / 64 < (lvV ws k).length := by rw [hl, e]; omega
  refine ⟨by rw [e]; omega, ?_⟩
  show bitV (upV (lvV ws k)) (t / 64) = false
  rw [up_bit _ _ hlt]
  cases hf : isFull (lvV ws k) (t / 64)
  · rfl
  · have := (full_iff (lev_lv h k).1 (t / 64)).1 hf (t % 64) (by omega)
    rw [show 64 * (t / 64) + t % 64 = t by omega, hz.2] at this
    cases this
theorem zero_ups {n : Nat} {ws : List Nat} (h : Lev n ws) {i : Nat} (hz : Z n ws 0 i) : ∀ k, Z n ws k (i / 64 ^ k)
  | 0 => by rw [Nat.pow_zero, Nat.div_one]; exact hz
  | k + 1 => by
    have := zero_up h (zero_ups h hz k)
    rwa [Nat.div_div_eq_div_mul, ← Nat.pow_succ] at this
/-- what is found below a bit that is not set -/
theorem zero_down {n : Nat} {ws : List Nat} (h : Lev n ws) {k t : Nat} (hz : Z n ws (k + 1) t) :
    foundAt (lvV ws k) (64 * t) < nextV (64 * t) ∧ Z n ws k (foundAt (lvV ws k) (64 * t)) ∧ foundAt (lvV ws k) (64 * t) / 64 = t ∧ ∀ i, Z n ws k i → i / 64 = t → foundAt (lvV ws k) (64 * t) ≤ i := by
  have h64 := (lev_lv h k).1
  have hl := lv_length h k
  have e : nb n (k + 1) = (nb n k + 63) / 64 := rfl
  have h1 := hz.1
  have hlt : t < (lvV ws k).length := by rw [hl]; exact h1
  have hnx : nextV (64 * t) = 64 * (t + 1) := by unfold nextV; omega
  have hge := found_ge h64 (64 * t)
  have hle := found_le (lvV ws k) (64 * t)
  have hb : isFull (lvV ws k) t = false := by
    have := hz.2
    change bitV (upV (lvV ws k)) t = false at this
    rwa [up_bit _ _ hlt] at this
  obtain ⟨j, hj, hjz⟩ := not_full h64 t hb
  have hlt2 : foundAt (lvV ws k) (64 * t) < nextV (64 * t) := by
    rcases Nat.lt_or_ge (foundAt (lvV ws k) (64 * t)) (nextV (64 * t)) with h2 | h2
    · exact h2
    · have := found_all h64 (64 * t) (64 * t + j) (by omega) (by omega)
      rw [hjz] at this; cases this
  have hnz := found_not h64 (64 * t) hlt2
  refine ⟨hlt2, ⟨lev_lt (lev_lv h k) (by omega) hnz, hnz⟩, by omega, fun i hi hit => ?_⟩
  rcases Nat.lt_or_ge i (foundAt (lvV ws k) (64 * t)) with h2 | h2
  · have := found_all h64 (64 * t) i (by omega) h2
    rw [hi.2] at this; cases this
  · exact h2
/-- how far the way down has come: level l, at; from (L, A) -/
def Down (n : Nat) (ws : List Nat) (L A l x : Nat) : Prop := Z n ws l x ∧ x / 64 ^ (L - l) = A ∧ ∀ i, Z n ws l i → i / 64 ^ (L - l) = A → x ≤ i
theorem down_start {n : Nat} {ws : List Nat} {L A : Nat} (hz : Z n ws L A) : Down n ws L A L A := by
  refine ⟨hz, by rw [Nat.sub_self, Nat.pow_zero, Nat.div_one], fun i _ hi => ?_⟩
  rw [Nat.sub_self, Nat.pow_zero, Nat.div_one] at hi
  omega
theorem down_step {n : Nat} {ws : List Nat} (h : Lev n ws) {L A l x : Nat} (hl : l + 1 ≤ L) (hd : Down n ws L A (l + 1) x) : Down n ws L A l (foundAt (lvV ws l) (64 * x)) := by
  obtain ⟨h1, h2, h3, h4⟩ := zero_down h hd.1
  have e : ∀ i, i / 64 ^ (L - l) = i / 64 / 64 ^ (L - (l + 1)) := by
    intro i
    rw [Nat.div_div_eq_div_mul, ← Nat.pow_succ', show (L - (l + 1)).succ = L - l by omega]
  refine ⟨h2, by rw [e, h3, hd.2.1], fun i hi hA => ?_⟩
  rw [e] at hA
  have := hd.2.2 (i / 64) (zero_up h hi) hA
  rcases Nat.lt_or_ge x (i / 64) with h5 | h5
  · have hnx : nextV (64 * x) = 64 * (x + 1) := by unfold nextV; omega
    omega
  · exact h4 i hi (by omega)
/-- how far the way up has come -/
def Up (n : Nat) (ws : List Nat) (f k x : Nat) : Prop := (∀ i, f ≤ i → Z n ws 0 i → x ≤ i / 64 ^ k) ∧ f ≤ x * 64 ^ k
theorem up_start (n : Nat) (ws : List Nat) (f : Nat) : Up n ws f 0 f := ⟨fun i hi _ => by rw [Nat.pow_zero, Nat.div_one]; exact hi, by rw [Nat.pow_zero, Nat.mul_one]; exact Nat.le_refl _⟩
theorem up_step {n : Nat} {ws : List Nat} (h : Lev n ws) {f k x : Nat} (hu : Up n ws f k x) (hno : (lvV ws k).length ≤ x / 64 ∨ nextV x ≤ foundAt (lvV ws k) x) : Up n ws f (k + 1) (x / 64 + 1) := by
  have h64 := (lev_lv h k).1
  constructor
  · intro i hf hz
    have h1 := hu.1 i hf hz
    have hzk := zero_ups h hz k
    rw [Nat.pow_succ, ← Nat.div_div_eq_div_mul]
    rcases hno with h2 | h2
    · have := hzk.1
      have hl := lv_length h k
      have e : nb n (k + 1) = (nb n k + 63) / 64 := rfl
      omega
    · have hnx : nextV x = 64 * (x / 64 + 1) := rfl
      rcases Nat.lt_or_ge (i / 64 ^ k) (nextV x) with h3 | h3
      · have := found_all h64 x (i / 64 ^ k) h1 (by omega)
        rw [hzk.2] at this; cases this
      · omega
  · have e : (x / 64 + 1) * 64 ^ (k + 1) = (64 * (x / 64 + 1)) * 64 ^ k := by rw [Nat.pow_succ, Nat.mul_comm 64 (x / 64 + 1), Nat.mul_assoc, Nat.mul_comm (64 ^ k) 64]
    rw [e]
    exact Nat.le_trans hu.2 (Nat.mul_le_mul_right _ (by omega))
theorem up_found {n : Nat} {ws : List Nat} (h : Lev n ws) {k x : Nat} (hx : x / 64 < (lvV ws k).length) (hF : foundAt (lvV ws k) x < nextV x) : Z n ws k (foundAt (lvV ws k) x) := by
  have h64 := (lev_lv h k).1
  have hnz := found_not h64 x hF
  have hnx : nextV x = 64 * (x / 64 + 1) := rfl
  exact ⟨lev_lt (lev_lv h k) (by omega) hnz, hnz⟩
theorem up_down {n : Nat} {ws : List Nat} (h : Lev n ws) {f k x r : Nat} (hu : Up n ws f k x) (hd : Down n ws k (foundAt (lvV ws k) x) 0 r) : first (bitV ws) f n = some r := by
  have h64 := (lev_lv h k).1
  obtain ⟨hz, hA, hmin⟩ := hd
  rw [Nat.sub_zero] at hA hmin
  have hge := found_ge h64 x
  have hfr : f ≤ r := by
    have h1 : x ≤ r / 64 ^ k := by omega
    exact Nat.le_trans hu.2 (Nat.le_trans (Nat.mul_le_mul_right _ h1) (Nat.div_mul_le_self _ _))
  refine first_some hfr hz.1 hz.2 fun j hj hjr => ?_
  cases hb : bitV ws j with
  | true => rfl
  | false =>
    have hzj : Z n ws 0 j := ⟨Nat.lt_trans hjr hz.1, hb⟩
    have h1 := hu.1 j hj hzj
    have h2 := zero_ups h hzj k
    have h3 : j / 64 ^ k ≤ r / 64 ^ k := Nat.div_le_div_right (by omega)
    rcases Nat.lt_or_ge (j / 64 ^ k) (foundAt (lvV ws k) x) with h4 | h4
    · have := found_all h64 x _ h1 h4
      rw [h2.2] at this; cases this
    · have := hmin j hzj (by omega)
      omega
theorem up_none {n : Nat} {ws : List Nat} (h : Lev n ws) (hn : 1 ≤ n) (hn' : n ≤ 65536) {f x : Nat} (hu : Up n ws f (nLev n) x) (hx : 1 ≤ x) : first (bitV ws) f n = none := by
  refine first_none fun j hj hjn => ?_
  cases hb : bitV ws j with
  | true => rfl
  | false =>
    have hzj : Z n ws 0 j := ⟨hjn, hb⟩
    have h1 := hu.1 j hj hzj
    have h2 := (zero_ups h hzj (nLev n)).1
    rw [nb_end n hn hn'] at h2
    omega
def firstT (n : Nat) (ws : List Nat) (f : Int) : Option Nat := if f < 0 then none else first (bitV ws) f.toNat n
def hasT (n : Nat) (ws : List Nat) (i : Int) : Bool := decide (0 ≤ i) && (decide (i < (n : Int)) && bitV ws i.toNat)
theorem firstT_none (n : Nat) (ws : List Nat) (f : Int) (h : f < 0 ∨ (n : Int) ≤ f) : firstT n ws f = none := by
  unfold firstT
  split
  · rfl
  · exact first_none fun j h1 h2 => by omega
end Go.Proofs.Ytpkcihfldmgehaa
