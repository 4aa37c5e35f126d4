/- Several texts as one: TreeMath, TreeMem, TreeA, TreeB, TreeM, TreeGrow, TreeN, TreeC, TreeD. -/
import Derived.Test.YtegolecdmpikhaaPackA
import Derived.Deep.QuietTactic
import Derived.BigQuiet
import Derived.Handy
import Derived.Lib.SliceRun
/- Plain arithmetic of trees of bits, of no program: rows of words whose bits beyond the last one are set (Lev), the row above a row (upLv), the levels (lvV), how many there are (nLev); a piece set, the first bit that is not set, found level by level (P5.1). -/
namespace Go.Proofs.Ytegolecdmpikhaa
open Go.RowKit

/-- a word of bits, those below m -/
def wordB (q : Nat → Bool) : Nat → Nat
  | 0 => 0
  | m + 1 => wordB q m ||| (if q m then 2 ^ m else 0)
theorem wordB_lt (q : Nat → Bool) : ∀ m, wordB q m < 2 ^ m
  | 0 => Nat.one_pos
  | m + 1 => by
    have h := wordB_lt q m
    have h2 : 2 ^ m < 2 ^ (m + 1) := Nat.pow_lt_pow_right (by decide) (by omega)
    refine Nat.or_lt_two_pow (Nat.lt_trans h h2) ?_
    split
    · exact h2
    · exact Nat.two_pow_pos _
theorem wordB_bit (q : Nat → Bool) (k : Nat) : ∀ m, (wordB q m).testBit k = (decide (k < m) && q k)
  | 0 => by simp [wordB]
  | m + 1 => by
    show (wordB q m ||| _).testBit k = _
    rw [Nat.testBit_or, wordB_bit q k m]
    by_cases hk : k = m
    · subst hk
      cases hq : q k <;> simp
    · have hz : (if q m = true then 2 ^ m else 0).testBit k = false := by
        split
        · rw [Nat.testBit_two_pow]; exact decide_eq_false (fun e => hk e.symm)
        · exact Nat.zero_testBit _
      rw [hz, Bool.or_false]
      congr 1
      apply decide_eq_decide.2
      omega

/-- words of n bits, those beyond set -/
def packV (n : Nat) (p : Nat → Bool) : List Nat := (List.range ((n + 63) / 64)).map fun k => wordB (fun j => decide (n ≤ 64 * k + j) || p (64 * k + j)) 64
theorem packV_length (n : Nat) (p : Nat → Bool) : (packV n p).length = (n + 63) / 64 := by unfold packV; simp
theorem packV_64 (n : Nat) (p : Nat → Bool) : W64 (packV n p) := by
  intro u hu
  unfold packV at hu
  obtain ⟨k, _, rfl⟩ := List.mem_map.1 hu
  exact wordB_lt _ 64
theorem packV_getD (n : Nat) (p : Nat → Bool) (k : Nat) (hk : k < (n + 63) / 64) : (packV n p).getD k 0 = wordB (fun j => decide (n ≤ 64 * k + j) || p (64 * k + j)) 64 := by
  unfold packV
  simp [List.getD_eq_getElem?_getD, hk]
theorem bitV_packV (n : Nat) (p : Nat → Bool) (i : Nat) (hi : i < 64 * ((n + 63) / 64)) : bitV (packV n p) i = (decide (n ≤ i) || p i) := by
  unfold bitV
  rw [packV_getD n p (i / 64) (by omega), wordB_bit, decide_eq_true (by omega), Bool.true_and, show 64 * (i / 64) + i % 64 = i by omega]

/-- a row of n bits, those beyond set -/
def Lev (n : Nat) (ws : List Nat) : Prop := W64 ws ∧ ws.length = (n + 63) / 64 ∧ ∀ i, n ≤ i → i < 64 * ws.length → bitV ws i = true
theorem lev_pack (n : Nat) (p : Nat → Bool) : Lev n (packV n p) := by
  refine ⟨packV_64 n p, packV_length n p, fun i h1 h2 => ?_⟩
  rw [packV_length] at h2
  rw [bitV_packV n p i h2, decide_eq_true h1]; rfl
theorem lev_ext {n : Nat} {a b : List Nat} (ha : Lev n a) (hb : Lev n b) (h : ∀ i, i < n → bitV a i = bitV b i) : a = b := by
  refine row_ext ha.1 hb.1 (ha.2.1.trans hb.2.1.symm) fun i hi => ?_
  rcases Nat.lt_or_ge i n with h1 | h1
  · exact h i h1
  · rw [ha.2.2 i h1 hi, hb.2.2 i h1 (by rw [hb.2.1, ← ha.2.1]; exact hi)]
theorem lev_pack_eq {n : Nat} {ws : List Nat} (h : Lev n ws) {p : Nat → Bool} (hp : ∀ i, i < n → p i = bitV ws i) : packV n p = ws :=
  lev_ext (lev_pack n p) h fun i hi => by rw [bitV_packV n p i (by omega), decide_eq_false (by omega), Bool.false_or, hp i hi]
theorem lev_lt {n : Nat} {ws : List Nat} (h : Lev n ws) {i : Nat} (hi : i < 64 * ws.length) (hz : bitV ws i = false) : i < n := by
  rcases Nat.lt_or_ge i n with h1 | h1
  · exact h1
  · rw [h.2.2 i h1 hi] at hz; cases hz
theorem pack_congr {n : Nat} {p q : Nat → Bool} (h : ∀ i, i < n → p i = q i) : packV n p = packV n q :=
  lev_pack_eq (lev_pack n q) fun i hi => by rw [bitV_packV n q i (by omega), decide_eq_false (by omega), Bool.false_or, h i hi]

/-- is word i full? -/
def isFull (ws : List Nat) (i : Nat) : Bool := decide (ws.getD i 0 = 18446744073709551615)
theorem testBit_ones (j : Nat) (hj : j < 64) : (18446744073709551615 : Nat).testBit j = true := by
  have : (18446744073709551615 : Nat) = 2 ^ 64 - 1 := by decide
  rw [this, Nat.testBit_two_pow_sub_one, decide_eq_true hj]
theorem full_iff {ws : List Nat} (h : W64 ws) (k : Nat) : isFull ws k = true ↔ ∀ j, j < 64 → bitV ws (64 * k + j) = true := by
  unfold isFull
  rw [decide_eq_true_iff]
  constructor
  · intro e j hj
    rw [bitV_word ws k j hj, e, testBit_ones j hj]
  · intro e
    refine eq_of_bits (h.getD k) (by decide) fun j hj => ?_
    rw [testBit_ones j hj, ← bitV_word ws k j hj, e j hj]
theorem not_full {ws : List Nat} (h : W64 ws) (k : Nat) (hf : isFull ws k = false) : ∃ j, j < 64 ∧ bitV ws (64 * k + j) = false := by
  apply Classical.byContradiction
  intro hn
  have : isFull ws k = true := (full_iff h k).2 fun j hj => by
    cases hb : bitV ws (64 * k + j)
    · exact absurd ⟨j, hj, hb⟩ hn
    · rfl
  rw [this] at hf; cases hf

/-- the row above -/
def upLv (ws : List Nat) : List Nat := packV ws.length (isFull ws)
theorem up_bit (ws : List Nat) (i : Nat) (hi : i < ws.length) : bitV (upLv ws) i = isFull ws i := by
  unfold upLv
  rw [bitV_packV _ _ i (by omega), decide_eq_false (by omega), Bool.false_or]
/-- the levels -/
def lvV (ws : List Nat) : Nat → List Nat
  | 0 => ws
  | k + 1 => upLv (lvV ws k)
/-- how many bits a level has -/
def nb (n : Nat) : Nat → Nat
  | 0 => n
  | k + 1 => (nb n k + 63) / 64
theorem lev_lv {n : Nat} {ws : List Nat} (h : Lev n ws) : ∀ k, Lev (nb n k) (lvV ws k)
  | 0 => h
  | k + 1 => by
    have := lev_pack (lvV ws k).length (isFull (lvV ws k))
    rw [(lev_lv h k).2.1] at this
    show Lev ((nb n k + 63) / 64) (upLv (lvV ws k))
    unfold upLv
    rw [(lev_lv h k).2.1]
    exact this
theorem lv_length {n : Nat} {ws : List Nat} (h : Lev n ws) (k : Nat) : (lvV ws k).length = nb n (k + 1) := (lev_lv h k).2.1
/-- how many levels -/
def nLev (n : Nat) : Nat := if n ≤ 64 then 1 else if n ≤ 4096 then 2 else 3
theorem nLev_in (n : Nat) : 1 ≤ nLev n ∧ nLev n ≤ 3 := by unfold nLev; split <;> (try split) <;> omega
theorem nb_le (n : Nat) (hn : n ≤ 65536) : ∀ k, nb n k ≤ 65536
  | 0 => hn
  | k + 1 => by have := nb_le n hn k; show (nb n k + 63) / 64 ≤ _; omega
theorem nb_pos (n : Nat) (hn : 1 ≤ n) : ∀ k, 1 ≤ nb n k
  | 0 => hn
  | k + 1 => by have := nb_pos n hn k; show 1 ≤ (nb n k + 63) / 64; omega
theorem nb_words (n k : Nat) (hn : 1 ≤ n) (hn' : n ≤ 65536) : 1 ≤ nb n (k + 1) ∧ nb n (k + 1) ≤ 1024 := by
  have := nb_le n hn' k
  have := nb_pos n hn k
  show 1 ≤ (nb n k + 63) / 64 ∧ (nb n k + 63) / 64 ≤ 1024
  omega
/-- the top level has one word, those below have more -/
theorem nb_top (n k : Nat) (hn : 1 ≤ n) (hn' : n ≤ 65536) (hk : k < nLev n) : nb n (k + 1) = 1 ↔ k + 1 = nLev n := by
  unfold nLev at *
  have e1 : nb n 1 = (n + 63) / 64 := rfl
  have e2 : nb n 2 = ((n + 63) / 64 + 63) / 64 := rfl
  have e3 : nb n 3 = (((n + 63) / 64 + 63) / 64 + 63) / 64 := rfl
  by_cases h1 : n ≤ 64
  · rw [if_pos h1] at *
    obtain rfl : k = 0 := by omega
    rw [e1]; omega
  · rw [if_neg h1] at *
    by_cases h2 : n ≤ 4096
    · rw [if_pos h2] at *
      rcases (show k = 0 ∨ k = 1 by omega) with rfl | rfl
      · rw [e1]; omega
      · rw [e2]; omega
    · rw [if_neg h2] at *
      rcases (show k = 0 ∨ k = 1 ∨ k = 2 by omega) with rfl | rfl | rfl
      · rw [e1]; omega
      · rw [e2]; omega
      · rw [e3]; omega
theorem nb_end (n : Nat) (hn : 1 ≤ n) (hn' : n ≤ 65536) : nb n (nLev n) = 1 := by
  have h := nLev_in n
  obtain ⟨k, hk⟩ : ∃ k, nLev n = k + 1 := ⟨nLev n - 1, by omega⟩
  rw [hk]
  exact (nb_top n k hn hn' (by omega)).2 hk.symm

/-! what is beyond: the rest of the last word -/
theorem rest_and {n : Nat} {ws : List Nat} (h : Lev n ws) (hn : 1 ≤ n) : ws.getD ((n - 1) / 64) 0 &&& maskN ((n - 1) % 64 + 1) 64 = maskN ((n - 1) % 64 + 1) 64 := by
  refine eq_of_bits (Nat.lt_of_le_of_lt Nat.and_le_right (maskN_lt _ _)) (maskN_lt _ _) fun j hj => ?_
  rw [Nat.testBit_and, testBit_maskN]
  by_cases hc : (n - 1) % 64 + 1 ≤ j ∧ j < (n - 1) % 64 + 1 + 64 ∧ j < 64
  · rw [decide_eq_true hc, Bool.and_true]
    have hl := h.2.1
    have := h.2.2 (64 * ((n - 1) / 64) + j) (by omega) (by omega)
    rwa [bitV_word _ _ _ hj] at this
  · rw [decide_eq_false hc, Bool.and_false]
/-- none set, those beyond are -/
def noneV (n : Nat) : List Nat := packV n fun _ => false
theorem none_row (n : Nat) (hn : 1 ≤ n) : (List.replicate ((n + 63) / 64) 0).set ((n - 1) / 64) (maskN ((n - 1) % 64 + 1) 64) = noneV n := by
  have h0 : W64 (List.replicate ((n + 63) / 64) 0) := by intro u hu; rw [List.eq_of_mem_replicate hu]; decide
  refine row_ext (set_64 h0 _ _ (maskN_lt _ _)) (packV_64 _ _) (by rw [List.length_set, List.length_replicate]; exact (packV_length _ _).symm) fun i hi => ?_
  rw [List.length_set, List.length_replicate] at hi
  unfold noneV
  rw [bitV_set _ _ _ _ (by rw [List.length_replicate]; omega), bitV_packV n _ i hi, Bool.or_false]
  by_cases hk : i / 64 = (n - 1) / 64
  · rw [if_pos hk, testBit_maskN]
    apply decide_eq_decide.2
    omega
  · rw [if_neg hk, decide_eq_false (by omega)]
    unfold bitV
    rw [List.getD_eq_getElem?_getD, List.getElem?_eq_getElem (by rw [List.length_replicate]; omega), List.getElem_replicate]
    exact Nat.zero_testBit _
theorem none_up (n : Nat) : upLv (noneV n) = noneV ((n + 63) / 64) := by
  unfold upLv
  have e : (noneV n).length = (n + 63) / 64 := packV_length _ _
  rw [e]
  refine pack_congr fun i hi => ?_
  cases hf : isFull (noneV n) i
  · rfl
  · have := (full_iff (packV_64 n fun _ => false) i).1 hf 0 (by decide)
    rw [bitV_packV n _ _ (by omega), decide_eq_false (by omega)] at this
    cases this
theorem none_lv (n : Nat) : ∀ k, lvV (noneV n) k = noneV (nb n k)
  | 0 => rfl
  | k + 1 => by
    show upLv (lvV (noneV n) k) = noneV ((nb n k + 63) / 64)
    rw [none_lv n k, none_up _]

/-! a piece set -/
/-- what Set tells: the row of bits, f and m any -/
def setT (n : Nat) (ws : List Nat) (f m : Int) (on : Bool) : List Nat := if f < 0 ∨ m < 0 then ws else setV ws f.toNat (min m.toNat (n - f.toNat)) on
theorem bit_setT {n : Nat} {ws : List Nat} (h : Lev n ws) (f m : Nat) (on : Bool) (i : Nat) (hi : i < n) : bitV (setT n ws f m on) i = if f ≤ i ∧ i < f + m then on else bitV ws i := by
  have hl := h.2.1
  unfold setT
  rw [if_neg (by omega), Int.toNat_natCast, Int.toNat_natCast, bitV_setV]
  by_cases hc : f ≤ i ∧ i < f + m
  · rw [if_pos hc, if_pos (by omega)]
  · rw [if_neg hc, if_neg (by omega)]
theorem lev_setV {n : Nat} {ws : List Nat} (h : Lev n ws) (f m : Nat) (on : Bool) (hm : f + m ≤ n ∨ m = 0) : Lev n (setV ws f m on) := by
  refine ⟨setV_64 h.1 _ _ _, by rw [setV_length]; exact h.2.1, fun i h1 h2 => ?_⟩
  rw [setV_length] at h2
  rw [bitV_setV, if_neg (by omega)]
  exact h.2.2 i h1 h2
theorem lev_setT {n : Nat} {ws : List Nat} (h : Lev n ws) (f m : Int) (on : Bool) : Lev n (setT n ws f m on) := by
  unfold setT
  split
  · exact h
  · exact lev_setV h _ _ _ (by omega)
theorem setT_none {n : Nat} {ws : List Nat} (h : Lev n ws) (f m : Int) (on : Bool) (hc : f < 0 ∨ m < 1 ∨ (n : Int) ≤ f) : setT n ws f m on = ws := by
  unfold setT
  split
  · rfl
  · rw [show min m.toNat (n - f.toNat) = 0 by omega, set_none h.1]
/-- one bit -/
theorem set_one {ws : List Nat} (h : W64 ws) (j : Nat) (on : Bool) (hj : j < 64 * ws.length) :
    ws.set (j / 64) (if on then ws.getD (j / 64) 0 ||| maskN (j % 64) 1 else ws.getD (j / 64) 0 &&& notV (maskN (j % 64) 1)) = setV ws j 1 on := by
  have := setV_word h j j (j + 1) on (Nat.le_refl _) (by omega) (by omega)
  rw [Nat.sub_self, set_none h, show j + 1 - j = 1 by omega, show min (nextV j) (j + 1) - j = 1 by have := next_gt j; omega] at this
  exact this

/-- the two rows are alike but for the words from a to b -/
def Alike (xs ys : List Nat) (a b : Nat) : Prop := ∀ k, k < a ∨ b < k → xs.getD k 0 = ys.getD k 0
theorem alike_set {n : Nat} {ws : List Nat} (h : Lev n ws) (f m : Nat) (on : Bool) (hm : 1 ≤ m) : Alike ws (setV ws f m on) (f / 64) ((f + m - 1) / 64) := by
  intro k hk
  rcases Nat.lt_or_ge k ws.length with hl | hl
  · refine eq_of_bits (h.1.getD k) ((setV_64 h.1 f m on).getD k) fun j hj => ?_
    rw [← bitV_word ws k j hj, ← bitV_word _ k j hj, bitV_setV, if_neg (by omega)]
  · rw [List.getD_eq_getElem?_getD, List.getD_eq_getElem?_getD, List.getElem?_eq_none hl, List.getElem?_eq_none (by rw [setV_length]; exact hl)]
theorem alike_full {xs ys : List Nat} {a b : Nat} (h : Alike xs ys a b) (k : Nat) (hk : k < a ∨ b < k) : isFull xs k = isFull ys k := by
  unfold isFull; rw [h k hk]
theorem alike_up {xs ys : List Nat} {a b : Nat} (h : Alike xs ys a b) (hl : xs.length = ys.length) : Alike (upLv xs) (upLv ys) (a / 64) (b / 64) := by
  intro k hk
  have l1 : (upLv xs).length = (xs.length + 63) / 64 := packV_length _ _
  have l2 : (upLv ys).length = (xs.length + 63) / 64 := by unfold upLv; rw [packV_length, hl]
  rcases Nat.lt_or_ge k ((xs.length + 63) / 64) with h1 | h1
  · refine eq_of_bits ((packV_64 _ _).getD k) ((packV_64 _ _).getD k) fun j hj => ?_
    rw [← bitV_word _ k j hj, ← bitV_word _ k j hj]
    unfold upLv
    rw [bitV_packV _ _ _ (by omega), bitV_packV _ _ _ (by omega), hl, alike_full h _ (by omega)]
  · rw [List.getD_eq_getElem?_getD, List.getD_eq_getElem?_getD, List.getElem?_eq_none (by rw [l1]; exact h1), List.getElem?_eq_none (by rw [l2]; exact h1)]
/-- the row above, mended as far as bit t -/
def Mid (old new : List Nat) (a t : Nat) (xs : List Nat) : Prop := W64 xs ∧ xs.length = (upLv old).length ∧ ∀ i, i < 64 * xs.length → bitV xs i = if a ≤ i ∧ i < t then isFull new i else bitV (upLv old) i
theorem mid_start (old new : List Nat) (a : Nat) : Mid old new a a (upLv old) :=
  ⟨packV_64 _ _, rfl, fun i _ => by rw [if_neg (by omega)]⟩
theorem mid_step {old new : List Nat} {a t : Nat} {xs : List Nat} (h : Mid old new a t xs) (ha : a ≤ t) (ht : t < 64 * xs.length) : Mid old new a (t + 1) (setV xs t 1 (isFull new t)) := by
  refine ⟨setV_64 h.1 _ _ _, by rw [setV_length]; exact h.2.1, fun i hi => ?_⟩
  rw [setV_length] at hi
  rw [bitV_setV]
  by_cases hc : i = t
  · subst hc
    rw [if_pos (by omega), if_pos (by omega)]
  · rw [if_neg (by omega), h.2.2 i hi]
    by_cases h2 : a ≤ i ∧ i < t
    · rw [if_pos h2, if_pos (by omega)]
    · rw [if_neg h2, if_neg (by omega)]
theorem mid_end {old new : List Nat} {a b : Nat} {xs : List Nat} (h : Mid old new a (b + 1) xs) (hl : old.length = new.length) (hk : Alike old new a b) (hb : b < old.length) : xs = upLv new := by
  have l1 : (upLv old).length = (old.length + 63) / 64 := packV_length _ _
  have l2 : (upLv new).length = (old.length + 63) / 64 := by unfold upLv; rw [packV_length, hl]
  refine row_ext h.1 (packV_64 _ _) (by rw [h.2.1, l1, l2]) fun i hi => ?_
  rw [h.2.2 i hi]
  have hi' : i < 64 * ((old.length + 63) / 64) := by rw [h.2.1, l1] at hi; exact hi
  unfold upLv
  by_cases hc : a ≤ i ∧ i < b + 1
  · rw [if_pos hc, bitV_packV _ _ _ (by rw [← hl]; exact hi'), decide_eq_false (by omega), Bool.false_or]
  · rw [if_neg hc, bitV_packV _ _ _ hi', bitV_packV _ _ _ (by rw [← hl]; exact hi'), hl, alike_full hk i (by omega)]

/-! the first bit that is not set, level by level -/
/-- bit t of level k is not set -/
def Z (n : Nat) (ws : List Nat) (k t : Nat) : Prop := t < nb n k ∧ bitV (lvV ws k) t = false
theorem zero_up {n : Nat} {ws : List Nat} (h : Lev n ws) {k t : Nat} (hz : Z n ws k t) : Z n ws (k + 1) (t / 64) := by
  have hl := lv_length h k
  have e : nb n (k + 1) = (nb n k + 63) / 64 := rfl
  have h1 := hz.1
  have hlt : t / 64 < (lvV ws k).length := by rw [hl, e]; omega
  refine ⟨by rw [e]; omega, ?_⟩
  show bitV (upLv (lvV ws k)) (t / 64) = false
  rw [up_bit _ _ hlt]
  cases hf : isFull (lvV ws k) (t / 64)
  · rfl
  · have := (full_iff (lev_lv h k).1 (t / 64)).1 hf (t % 64) (by omega)
    rw [show 64 * (t / 64) + t % 64 = t by omega, hz.2] at this
    cases this
theorem zero_ups {n : Nat} {ws : List Nat} (h : Lev n ws) {i : Nat} (hz : Z n ws 0 i) : ∀ k, Z n ws k (i / 64 ^ k)
  | 0 => by rw [Nat.pow_zero, Nat.div_one]; exact hz
  | k + 1 => by
    have := zero_up h (zero_ups h hz k)
    rwa [Nat.div_div_eq_div_mul, ← Nat.pow_succ] at this
/-- what is found below a bit that is not set -/
theorem zero_down {n : Nat} {ws : List Nat} (h : Lev n ws) {k t : Nat} (hz : Z n ws (k + 1) t) :
    foundAt (lvV ws k) (64 * t) < nextV (64 * t) ∧ Z n ws k (foundAt (lvV ws k) (64 * t)) ∧ foundAt (lvV ws k) (64 * t) / 64 = t ∧ ∀ i, Z n ws k i → i / 64 = t → foundAt (lvV ws k) (64 * t) ≤ i := by
  have h64 := (lev_lv h k).1
  have hl := lv_length h k
  have e : nb n (k + 1) = (nb n k + 63) / 64 := rfl
  have h1 := hz.1
  have hlt : t < (lvV ws k).length := by rw [hl]; exact h1
  have hnx : nextV (64 * t) = 64 * (t + 1) := by unfold nextV; omega
  have hge := found_ge h64 (64 * t)
  have hle := found_le (lvV ws k) (64 * t)
  have hb : isFull (lvV ws k) t = false := by
    have := hz.2
    change bitV (upLv (lvV ws k)) t = false at this
    rwa [up_bit _ _ hlt] at this
  obtain ⟨j, hj, hjz⟩ := not_full h64 t hb
  have hlt2 : foundAt (lvV ws k) (64 * t) < nextV (64 * t) := by
    rcases Nat.lt_or_ge (foundAt (lvV ws k) (64 * t)) (nextV (64 * t)) with h2 | h2
    · exact h2
    · have := found_all h64 (64 * t) (64 * t + j) (by omega) (by omega)
      rw [hjz] at this; cases this
  have hnz := found_not h64 (64 * t) hlt2
  refine ⟨hlt2, ⟨lev_lt (lev_lv h k) (by omega) hnz, hnz⟩, by omega, fun i hi hit => ?_⟩
  rcases Nat.lt_or_ge i (foundAt (lvV ws k) (64 * t)) with h2 | h2
  · have := found_all h64 (64 * t) i (by omega) h2
    rw [hi.2] at this; cases this
  · exact h2
/-- how far the way down has come: level l, at; from (L, A) -/
def Down (n : Nat) (ws : List Nat) (L A l x : Nat) : Prop := Z n ws l x ∧ x / 64 ^ (L - l) = A ∧ ∀ i, Z n ws l i → i / 64 ^ (L - l) = A → x ≤ i
theorem down_start {n : Nat} {ws : List Nat} {L A : Nat} (hz : Z n ws L A) : Down n ws L A L A := by
  refine ⟨hz, by rw [Nat.sub_self, Nat.pow_zero, Nat.div_one], fun i _ hi => ?_⟩
  rw [Nat.sub_self, Nat.pow_zero, Nat.div_one] at hi
  omega
theorem down_step {n : Nat} {ws : List Nat} (h : Lev n ws) {L A l x : Nat} (hl : l + 1 ≤ L) (hd : Down n ws L A (l + 1) x) : Down n ws L A l (foundAt (lvV ws l) (64 * x)) := by
  obtain ⟨h1, h2, h3, h4⟩ := zero_down h hd.1
  have e : ∀ i, i / 64 ^ (L - l) = i / 64 / 64 ^ (L - (l + 1)) := by
    intro i
    rw [Nat.div_div_eq_div_mul, ← Nat.pow_succ', show (L - (l + 1)).succ = L - l by omega]
  refine ⟨h2, by rw [e, h3, hd.2.1], fun i hi hA => ?_⟩
  rw [e] at hA
  have := hd.2.2 (i / 64) (zero_up h hi) hA
  rcases Nat.lt_or_ge x (i / 64) with h5 | h5
  · have hnx : nextV (64 * x) = 64 * (x + 1) := by unfold nextV; omega
    omega
  · exact h4 i hi (by omega)
/-- how far the way up has come -/
def Up (n : Nat) (ws : List Nat) (f k x : Nat) : Prop := (∀ i, f ≤ i → Z n ws 0 i → x ≤ i / 64 ^ k) ∧ f ≤ x * 64 ^ k
theorem up_start (n : Nat) (ws : List Nat) (f : Nat) : Up n ws f 0 f := ⟨fun i hi _ => by rw [Nat.pow_zero, Nat.div_one]; exact hi, by rw [Nat.pow_zero, Nat.mul_one]; exact Nat.le_refl _⟩
theorem up_step {n : Nat} {ws : List Nat} (h : Lev n ws) {f k x : Nat} (hu : Up n ws f k x) (hno : (lvV ws k).length ≤ x / 64 ∨ nextV x ≤ foundAt (lvV ws k) x) : Up n ws f (k + 1) (x / 64 + 1) := by
  have h64 := (lev_lv h k).1
  constructor
  · intro i hf hz
    have h1 := hu.1 i hf hz
    have hzk := zero_ups h hz k
    rw [Nat.pow_succ, ← Nat.div_div_eq_div_mul]
    rcases hno with h2 | h2
    · have := hzk.1
      have hl := lv_length h k
      have e : nb n (k + 1) = (nb n k + 63) / 64 := rfl
      omega
    · have hnx : nextV x = 64 * (x / 64 + 1) := rfl
      rcases Nat.lt_or_ge (i / 64 ^ k) (nextV x) with h3 | h3
      · have := found_all h64 x (i / 64 ^ k) h1 (by omega)
        rw [hzk.2] at this; cases this
      · omega
  · have e : (x / 64 + 1) * 64 ^ (k + 1) = (64 * (x / 64 + 1)) * 64 ^ k := by rw [Nat.pow_succ, Nat.mul_comm 64 (x / 64 + 1), Nat.mul_assoc, Nat.mul_comm (64 ^ k) 64]
    rw [e]
    exact Nat.le_trans hu.2 (Nat.mul_le_mul_right _ (by omega))
theorem up_found {n : Nat} {ws : List Nat} (h : Lev n ws) {k x : Nat} (hx : x / 64 < (lvV ws k).length) (hF : foundAt (lvV ws k) x < nextV x) : Z n ws k (foundAt (lvV ws k) x) := by
  have h64 := (lev_lv h k).1
  have hnz := found_not h64 x hF
  have hnx : nextV x = 64 * (x / 64 + 1) := rfl
  exact ⟨lev_lt (lev_lv h k) (by omega) hnz, hnz⟩
theorem up_down {n : Nat} {ws : List Nat} (h : Lev n ws) {f k x r : Nat} (hu : Up n ws f k x) (hd : Down n ws k (foundAt (lvV ws k) x) 0 r) : first (bitV ws) f n = some r := by
  have h64 := (lev_lv h k).1
  obtain ⟨hz, hA, hmin⟩ := hd
  rw [Nat.sub_zero] at hA hmin
  have hge := found_ge h64 x
  have hfr : f ≤ r := by
    have h1 : x ≤ r / 64 ^ k := by omega
    exact Nat.le_trans hu.2 (Nat.le_trans (Nat.mul_le_mul_right _ h1) (Nat.div_mul_le_self _ _))
  refine first_some hfr hz.1 hz.2 fun j hj hjr => ?_
  cases hb : bitV ws j with
  | true => rfl
  | false =>
    have hzj : Z n ws 0 j := ⟨Nat.lt_trans hjr hz.1, hb⟩
    have h1 := hu.1 j hj hzj
    have h2 := zero_ups h hzj k
    have h3 : j / 64 ^ k ≤ r / 64 ^ k := Nat.div_le_div_right (by omega)
    rcases Nat.lt_or_ge (j / 64 ^ k) (foundAt (lvV ws k) x) with h4 | h4
    · have := found_all h64 x _ h1 h4
      rw [h2.2] at this; cases this
    · have := hmin j hzj (by omega)
      omega
theorem up_none {n : Nat} {ws : List Nat} (h : Lev n ws) (hn : 1 ≤ n) (hn' : n ≤ 65536) {f x : Nat} (hu : Up n ws f (nLev n) x) (hx : 1 ≤ x) : first (bitV ws) f n = none := by
  refine first_none fun j hj hjn => ?_
  cases hb : bitV ws j with
  | true => rfl
  | false =>
    have hzj : Z n ws 0 j := ⟨hjn, hb⟩
    have h1 := hu.1 j hj hzj
    have h2 := (zero_ups h hzj (nLev n)).1
    rw [nb_end n hn hn'] at h2
    omega
def firstT (n : Nat) (ws : List Nat) (f : Int) : Option Nat := if f < 0 then none else first (bitV ws) f.toNat n
def hasT (n : Nat) (ws : List Nat) (i : Int) : Bool := decide (0 ≤ i) && (decide (i < (n : Int)) && bitV ws i.toNat)
theorem firstT_none (n : Nat) (ws : List Nat) (f : Int) (h : f < 0 ∨ (n : Int) ≤ f) : firstT n ws f = none := by
  unfold firstT
  split
  · rfl
  · exact first_none fun j h1 h2 => by omega
end Go.Proofs.Ytegolecdmpikhaa
/- Trees of bits in memory: a value of type api.Tree whose levels are rows of words that are read (TreeAt); rows of words in new memory, and what leaves them as they are (Stays). -/
namespace Go.Proofs.Ytegolecdmpikhaa
open Go.RowKit

/-- where the levels lie -/
def LvAt (w : World) (a : Option Addr) (h : Nat) (f : Nat → List Nat) : Prop :=
  ∀ i, i < h → ∃ b o u, a = some ⟨b, o, none⟩ ∧ w.cell? ⟨b, o + i, none⟩ = some u ∧ WordsAt w u (f i)
theorem LvAt.fresh {w w' : World} {a : Option Addr} {h : Nat} {f : Nat → List Nat} (hl : LvAt w a h f) (k : Fresh w w') : LvAt w' a h f := by
  intro i hi
  obtain ⟨b, o, u, e, hc, hw⟩ := hl i hi
  exact ⟨b, o, u, e, (k.cell (World.block_lt_of_cell? _ _ hc)).trans hc, hw.fresh k⟩
/-- a value of type api.Tree -/
def TreeV (w : World) (v : Value) (n h : Nat) (f : Nat → List Nat) : Prop :=
  ∃ a cap, v = .agg #[.int .i64 (n : Int), .slice a h cap] ∧ LvAt w a h f
theorem TreeV.fresh {w w' : World} {v : Value} {n h : Nat} {f : Nat → List Nat} (hv : TreeV w v n h f) (k : Fresh w w') : TreeV w' v n h f := by
  obtain ⟨a, cap, e, hl⟩ := hv
  exact ⟨a, cap, e, hl.fresh k⟩
/-- a tree that may be: its size, its row of bits -/
def TreeAt (w : World) (v : Value) (n : Nat) (ws : List Nat) : Prop := 1 ≤ n ∧ n ≤ 65536 ∧ Lev n ws ∧ TreeV w v n (nLev n) (lvV ws)
theorem TreeAt.fresh {w w' : World} {v : Value} {n : Nat} {ws : List Nat} (h : TreeAt w v n ws) (k : Fresh w w') : TreeAt w' v n ws := ⟨h.1, h.2.1, h.2.2.1, h.2.2.2.fresh k⟩
theorem TreeAt.drewN {w : World} {v : Value} {n : Nat} {ws : List Nat} (h : TreeAt w v n ws) (m : Nat) : TreeAt (w.drewN m) v n ws := h.fresh (Fresh.drewN w m)
theorem TreeAt.drew {w : World} {v : Value} {n : Nat} {ws : List Nat} (h : TreeAt w v n ws) : TreeAt w.drew v n ws := h.drewN 1
theorem TreeAt.lev {w : World} {v : Value} {n : Nat} {ws : List Nat} (h : TreeAt w v n ws) : Lev n ws := h.2.2.1
/-- a tree that lies in blocks from base on: it is there in each world that has these blocks -/
def TreeNew (base : Nat) (w : World) (v : Value) (n : Nat) (ws : List Nat) : Prop := ∀ w' : World, (∀ k, base ≤ k → k < w.heap.size → w'.heap[k]? = w.heap[k]?) → TreeAt w' v n ws
theorem TreeNew.at {base : Nat} {w : World} {v : Value} {n : Nat} {ws : List Nat} (h : TreeNew base w v n ws) : TreeAt w v n ws := h w fun _ _ _ => rfl
theorem TreeNew.mono {base base' : Nat} {w : World} {v : Value} {n : Nat} {ws : List Nat} (h : TreeNew base w v n ws) (hb : base' ≤ base) : TreeNew base' w v n ws := fun w' hw => h w' fun k hk => hw k (Nat.le_trans hb hk)
theorem TreeNew.fresh {base : Nat} {w w1 : World} {v : Value} {n : Nat} {ws : List Nat} (h : TreeNew base w v n ws) (k : Fresh w w1) : TreeNew base w1 v n ws :=
  fun w' hw => h w' fun i hi hl => (hw i hi (Nat.lt_of_lt_of_le hl k.size)).trans (k.block i hl)
/-- a block beside is written -/
theorem TreeNew.beside {base : Nat} {w w1 : World} {v : Value} {n : Nat} {ws : List Nat} (h : TreeNew base w v n ws) (hs : w.heap.size ≤ w1.heap.size) (hk : ∀ k, base ≤ k → k < w.heap.size → w1.heap[k]? = w.heap[k]?) : TreeNew base w1 v n ws :=
  fun w' hw => h w' fun i hi hl => (hw i hi (Nat.lt_of_lt_of_le hl hs)).trans (hk i hi hl)
/-- two cells of an elder block are written -/
theorem TreeNew.store {base : Nat} {w : World} {v : Value} {n : Nat} {ws : List Nat} (h : TreeNew base w v n ws) {T : Nat} (hT : T < base) (x y : Value) : TreeNew base ((w.setCell ⟨T, 0, none⟩ x).setCell ⟨T, 1, none⟩ y) v n ws := by
  refine h.beside (by simp [World.setCell]) fun k hk _ => ?_
  rw [heap_setCell_other _ ⟨T, 1, none⟩ k y (fun e => by simp at e; omega), heap_setCell_other _ ⟨T, 0, none⟩ k x (fun e => by simp at e; omega)]
theorem LvAt.len {w : World} {a : Option Addr} {h : Nat} {f : Nat → List Nat} (hl : LvAt w a h f) (hh : 1 ≤ h) : ∃ b o, a = some ⟨b, o, none⟩ := by
  obtain ⟨b, o, u, e, _⟩ := hl 0 (by omega)
  exact ⟨b, o, e⟩
theorem LvAt.row {w : World} {b o : Nat} {h : Nat} {f : Nat → List Nat} (hl : LvAt w (some ⟨b, o, none⟩) h f) (i : Nat) (hi : i < h) : ∃ x c, w.cell? ⟨b, o + i, none⟩ = some (.slice x (f i).length c) ∧ WordsAt w (.slice x (f i).length c) (f i) := by
  obtain ⟨b', o', u, e, hc, hw⟩ := hl i hi
  cases e
  have hw' := hw
  obtain ⟨x, c, rfl, _⟩ := hw
  exact ⟨x, c, hc, hw'⟩
/-- the empty one -/
def noTree : Value := .agg #[.int .i64 0, .slice none 0 0]
theorem noTree_at (w : World) (f : Nat → List Nat) : TreeV w noTree 0 0 f := ⟨none, 0, rfl, fun i hi => by omega⟩


/-- rows of words stay -/
def Stays (w w' : World) : Prop := ∀ (g : Nat) (cur : Array Value), w.heap[g]? = some (.cells cur 80 (0, 0)) → w'.heap[g]? = some (.cells cur 80 (0, 0))
theorem Stays.refl (w : World) : Stays w w := fun _ _ h => h
theorem Stays.trans {a b c : World} (h : Stays a b) (k : Stays b c) : Stays a c := fun g cur hg => k g cur (h g cur hg)
theorem Stays.fresh {w w' : World} (k : Fresh w w') : Stays w w' := fun g cur hg => by rw [k.block g (Array.getElem?_eq_some_iff.1 hg).1]; exact hg
theorem Stays.setCell {w : World} {b : Nat} {c : Array Value} {t : TypeId} {fr : Nat × Nat} (hb : w.heap[b]? = some (.cells c t fr)) (ht : t ≠ 80) (j : Nat) (v : Value) : Stays w (w.setCell ⟨b, j, none⟩ v) := by
  intro g cur hg
  have : g ≠ b := by
    rintro rfl
    rw [hb] at hg
    simp at hg
    exact ht hg.2.1
  rw [heap_setCell_other w ⟨b, j, none⟩ g v (fun e => this e)]
  exact hg
theorem Stays.grown {w w' : World} {row : Option Nat} (h : w.grownBy w' row) (hr : ∀ k, row = some k → ∃ c t fr, w.heap[k]? = some (.cells c t fr) ∧ t ≠ 80) : Stays w w' := by
  intro g cur hg
  have hne : row ≠ some g := by
    rintro rfl
    obtain ⟨c, t, fr, hk, ht⟩ := hr g rfl
    rw [hk] at hg
    simp at hg
    exact ht hg.2.1
  have := h.block g (Array.getElem?_eq_some_iff.1 hg).1 (fun e => hne e.symm)
  rw [this]; exact hg
theorem OwnW.stays {w w' : World} {base : Nat} {v : Value} {ws : List Nat} (h : OwnW w base v ws) (k : Stays w w') : OwnW w' base v ws := by
  refine ⟨h.1, ?_⟩
  rcases h.2 with hn | ⟨g, cap, cur, rfl, hb, hg, rest⟩
  · exact .inl hn
  · exact .inr ⟨g, cap, cur, rfl, hb, k g cur hg, rest⟩
theorem OwnW.mono {w : World} {base base' : Nat} {v : Value} {ws : List Nat} (h : OwnW w base v ws) (hb : base' ≤ base) : OwnW w base' v ws := by
  refine ⟨h.1, ?_⟩
  rcases h.2 with hn | ⟨g, cap, cur, rfl, hb', rest⟩
  · exact .inl hn
  · exact .inr ⟨g, cap, cur, rfl, Nat.le_trans hb hb', rest⟩
theorem OwnW.agree {w w' : World} {base : Nat} {v : Value} {ws : List Nat} (h : OwnW w base v ws) (k : ∀ i, base ≤ i → i < w.heap.size → w'.heap[i]? = w.heap[i]?) : OwnW w' base v ws := by
  refine ⟨h.1, ?_⟩
  rcases h.2 with hn | ⟨g, cap, cur, rfl, hb, hg, rest⟩
  · exact .inl hn
  · exact .inr ⟨g, cap, cur, rfl, hb, (k g hb (Array.getElem?_eq_some_iff.1 hg).1).trans hg, rest⟩
/-- where a row that is not empty lies -/
theorem OwnW.lies {w : World} {base : Nat} {v : Value} {ws : List Nat} (h : OwnW w base v ws) (hn : 1 ≤ ws.length) : ∃ g cap, v = .slice (some ⟨g, 0, none⟩) ws.length cap ∧ base ≤ g ∧ g < w.heap.size := by
  rcases h.2 with ⟨_, hn'⟩ | ⟨g, cap, cur, rfl, hb, hg, rest⟩
  · omega
  · exact ⟨g, cap, rfl, hb, (Array.getElem?_eq_some_iff.1 hg).1⟩
theorem OwnW.cell {w : World} {base g cap : Nat} {ws : List Nat} (h : OwnW w base (.slice (some ⟨g, 0, none⟩) ws.length cap) ws) (k : Nat) (hk : k < ws.length) : w.cell? ⟨g, k, none⟩ = some (.int .u64 ((ws.getD k 0 : Nat) : Int)) := by
  rw [World.ownsRow.cellAt h k (by omega), wvals_get ws k hk]
theorem OwnW.free {w : World} {base g cap : Nat} {ws : List Nat} (h : OwnW w base (.slice (some ⟨g, 0, none⟩) ws.length cap) ws) (k : Nat) : w.frozen? ⟨g, k, none⟩ = false := World.ownsRow.frozenAt h k

theorem infoSL : (Try.prog.info? 79).map (fun i => (i.zero, i.size, i.bytes)) = some (some (.slice none 0 0), 1, 24) := by kernel_rfl
end Go.Proofs.Ytegolecdmpikhaa
/- The small helpers of package tree that hold no tree (sizeMay, wordsFor, rest, isSet, tellsOf, zeroInWord, put), as contracts. -/
namespace Go.Proofs.Ytegolecdmpikhaa
open Go.RowKit

theorem sizeMay_any (s : Int) (w : World) : Calls Try.prog 47 #[.int .i64 s] w fun e w' => e = .returned (.bool (decide (1 ≤ s) && decide (s ≤ 65536))) ∧ w' = w := by
  by_cases h1 : 1 ≤ s
  · by_cases h2 : s ≤ 65536
    · go_enter Try.func47, Try.ntmps47
      go_wp2
      go_ret
      exact ⟨retB (by rw [decide_eq_true h1, decide_eq_true h2]; rfl), rfl⟩
    · go_enter Try.func47, Try.ntmps47
      go_wp2
      go_ret
      exact ⟨retB (by simp; omega), rfl⟩
  · have h3 : s < 1 := by omega
    go_enter Try.func47, Try.ntmps47
    go_wp2
    go_ret
    exact ⟨retB (by rw [decide_eq_false (by omega)]; rfl), rfl⟩
theorem sizeMay_to (s : Int) (b : Bool) (hb : (decide (1 ≤ s) && decide (s ≤ 65536)) = b) (w : World) : Calls Try.prog 47 #[.int .i64 s] w fun e w' => e = .returned (.bool b) ∧ w' = w := by
  subst hb; exact sizeMay_any s w
theorem wordsFor_nat (n : Nat) (h1 : 1 ≤ n) (h2 : n ≤ 65536) (w : World) : Calls Try.prog 48 #[.int .i64 (n : Int)] w fun e w' => e = .returned (.int .i64 (((n + 63) / 64 : Nat) : Int)) ∧ w' = w := by
  have E := hide (show (((n + 63) / 64 : Nat) : Int) = ((n : Int) - 1) / 64 + 1 by omega)
  have g1 : (1 : Int) ≤ (n : Int) := by omega
  have g2 : (n : Int) ≤ 65536 := by omega
  clear h1 h2
  generalize (n : Int) = x at *
  go_enter Try.func48, Try.ntmps48
  go_wp2
  go_ret
  exact ⟨ret_int E.out.symm, rfl⟩
theorem wordsFor_to (x : Int) (n : Nat) (r : Int) (hx : x = n) (hr : (((n + 63) / 64 : Nat) : Int) = r) (h1 : 1 ≤ n) (h2 : n ≤ 65536) (w : World) : Calls Try.prog 48 #[.int .i64 x] w fun e w' => e = .returned (.int .i64 r) ∧ w' = w := by
  subst hx; subst hr; exact wordsFor_nat n h1 h2 w
theorem rest_nat (n : Nat) (h1 : 1 ≤ n) (h2 : n ≤ 65536) (w : World) : Calls Try.prog 49 #[.int .i64 (n : Int)] w fun e w' => e = .returned (.int .u64 ((maskN ((n - 1) % 64 + 1) 64 : Nat) : Int)) ∧ w' = w := by
  have g1 : (1 : Int) ≤ (n : Int) := by omega
  have g2 : (n : Int) ≤ 65536 := by omega
  have hm := and63 ((n : Int) - 1)
  have E := hide (show ((n : Int) - 1) % 64 + 1 = (((n - 1) % 64 + 1 : Nat) : Int) by omega)
  have m1 : 0 ≤ ((n : Int) - 1) % 64 := by omega
  have m2 : ((n : Int) - 1) % 64 ≤ 63 := by omega
  go_enter Try.func49, Try.ntmps49
  go_wp2_with fail
  refine (mask_to _ 64 (maskN ((n - 1) % 64 + 1) 64) (by rw [E.out]; exact maskV_nat _ 64) _ (by omega) (by omega) (by decide) (by decide)).mono ?_
  rintro e w' ⟨rfl, rfl⟩
  go_wp2
  go_ret
  exact ⟨rfl, rfl⟩
theorem rest_to (x : Int) (n : Nat) (hx : x = n) (h1 : 1 ≤ n) (h2 : n ≤ 65536) (w : World) : Calls Try.prog 49 #[.int .i64 x] w fun e w' => e = .returned (.int .u64 ((maskN ((n - 1) % 64 + 1) 64 : Nat) : Int)) ∧ w' = w := by
  subst hx; exact rest_nat n h1 h2 w

theorem isSet_nat (v : Value) (ws : List Nat) (k : Nat) (w : World) (h : WordsAt w v ws) (hk : (k : Int) ≤ 9223372036854775807) :
    Calls Try.prog 70 #[v, .int .i64 (k : Int)] w fun e w' => e = .returned (.bool (bitV ws k)) ∧ w' = w := by
  obtain ⟨a, cap, rfl, hl, h64, hn0, hc⟩ := h
  have hl0 : (0 : Int) ≤ (ws.length : Int) := by omega
  have hl1 : (ws.length : Int) ≤ 1099511627776 := by omega
  by_cases h1 : ws.length ≤ k / 64
  · rw [bitV_beyond ws k (by omega)]
    have h2 : (ws.length : Int) ≤ (k : Int) / 64 := by omega
    clear hc h1 hl h64 hn0
    generalize hL : (ws.length : Int) = L at *
    go_enter Try.func70, Try.ntmps70
    go_wp2
    go_ret
    exact ⟨rfl, rfl⟩
  · have h2 : (k : Int) / 64 < (ws.length : Int) := by omega
    obtain ⟨b, o, rfl, hcell⟩ := hc (k / 64) (by omega)
    clear hn0
    have hm := and63_nat k
    have e : bitV ws k = (ws.getD (k / 64) 0).testBit (k % 64) := rfl
    rw [e]
    have U := hide (h64.getD (k / 64))
    have hb := bit_spelt (ws.getD (k / 64) 0) (k % 64) U.out
    have hk : ((k % 64 : Nat) : Int).toNat = k % 64 := by omega
    clear e hc hl
    generalize ws.getD (k / 64) 0 = u at *
    go_enter Try.func70, Try.ntmps70
    go_wp2
    all_goals
      go_ret
      exact ⟨rfl, rfl⟩

/-- word i of a row is put: that bits are set, or taken away -/
theorem put_any (base g cap : Nat) (ws : List Nat) (k : Nat) (m : Nat) (on : Bool) (w : World) (h : OwnW w base (.slice (some ⟨g, 0, none⟩) ws.length cap) ws) (h64 : W64 ws) (hl : ws.length ≤ 65536) (hk : k < ws.length) (hm : m < 18446744073709551616) :
    Calls Try.prog 57 #[.slice (some ⟨g, 0, none⟩) ws.length cap, .int .i64 (k : Int), .int .u64 (m : Int), .bool on] w fun e w' => e = .returned (.tuple #[]) ∧ w' = w.setCell ⟨g, k, none⟩ (.int .u64 (((if on then ws.getD k 0 ||| m else ws.getD k 0 &&& notV m : Nat)) : Int)) := by
  have hc := h.cell k hk
  have hf := h.free k
  have hor := or_spelt (ws.getD k 0) m (h64.getD k) hm
  have han := andNot_spelt (ws.getD k 0) m (h64.getD k) hm
  have k1 : (k : Int) < (ws.length : Int) := by omega
  have k2 : (ws.length : Int) ≤ 65536 := by omega
  clear h
  generalize ws.getD k 0 = u at *
  cases on with
  | true =>
    clear han
    go_enter Try.func57, Try.ntmps57
    go_wp2
    go_returns
    exact ⟨rfl, rfl⟩
  | false =>
    clear hor
    go_enter Try.func57, Try.ntmps57
    go_wp2
    go_returns
    exact ⟨rfl, rfl⟩

theorem tells_true (v u : Value) (xs : List Nat) (w : World) (h : WordsAt w v (upLv xs)) (k : WordsAt w u xs) (hl : xs.length ≤ 65536) :
    Calls Try.prog 67 #[v, u] w fun e w' => e = .returned (.bool true) ∧ w' = w := by
  have H := hide h
  obtain ⟨a2, cap2, rfl, -⟩ := h
  obtain ⟨a, cap, rfl, -, h64, hn0, hc⟩ := k
  have HC := hide hc
  have l1 : (xs.length : Int) ≤ 65536 := by omega
  clear hc hn0 h64
  go_enter Try.func67, Try.ntmps67
  go_wp2
  go_loop [9] (fun i => ∃ j : Nat, j ≤ xs.length ∧ i = .int .i64 (j : Int)) (fun i => (xs.length - intOf i).toNat)
  case atStart => exact ⟨0, Nat.zero_le _, rfl⟩
  case round =>
    obtain ⟨j, hj, rfl⟩ := hrel
    by_cases g : j < xs.length
    · obtain ⟨b, o, rfl, hcell⟩ := HC.out j g
      have g' : (j : Int) < (xs.length : Int) := by omega
      have B := hide (up_bit xs j g)
      have I := hide (isSet_nat _ (upLv xs) j w H.out (by omega))
      by_cases hf : xs.getD j 0 = 18446744073709551615
      · have E := hide (show bitV (upLv xs) j = true by rw [B.out]; exact decide_eq_true hf)
        rw [hf] at hcell
        clear hf
        go_wp2_with fail
        refine I.out.mono ?_
        rintro e w' ⟨rfl, rfl⟩
        rw [E.out]
        go_wp2
        go_round
        case rel => exact ⟨j + 1, by omega, by go_num⟩
        case measure => simp [intOf]; omega
      · have E := hide (show bitV (upLv xs) j = false by rw [B.out]; exact decide_eq_false hf)
        have z : (((xs.getD j 0 : Nat) : Int) == 18446744073709551615) = false := by rw [beq_eq_false_iff_ne]; omega
        clear hf
        generalize xs.getD j 0 = c at *
        go_wp2_with fail
        refine I.out.mono ?_
        rintro e w' ⟨rfl, rfl⟩
        rw [E.out]
        go_wp2
        go_round
        case rel => exact ⟨j + 1, by omega, by go_num⟩
        case measure => simp [intOf]; omega
    · obtain rfl : j = xs.length := by omega
      go_wp2
      go_ret
      exact ⟨rfl, rfl⟩

theorem zero_far (v : Value) (ws : List Nat) (x : Nat) (w : World) (h : WordsAt w v ws) (hf : ws.length ≤ x / 64) :
    Calls Try.prog 52 #[v, .int .i64 (x : Int)] w fun e w' => e = .returned (.tuple #[.int .i64 0, .bool false]) ∧ ∃ m, w' = w.drewN m := by
  obtain ⟨a, cap, rfl, hl, h64, hn0, hc⟩ := h
  have h2 : (ws.length : Int) ≤ (x : Int) / 64 := by omega
  clear hc h64 hn0 hf hl
  generalize hL : (ws.length : Int) = L at *
  go_enter Try.func52, Try.ntmps52
  go_wp2
  go_ret2
  exact ⟨rfl, 0, rfl⟩
theorem zero_in (v : Value) (ws : List Nat) (x : Nat) (w : World) (h : WordsAt w v ws) (hx : (x : Int) ≤ 1099511627776) (hf : x / 64 < ws.length) :
    Calls Try.prog 52 #[v, .int .i64 (x : Int)] w fun e w' => e = .returned (.tuple #[.int .i64 ((foundAt ws x : Nat) : Int), .bool (decide (foundAt ws x < nextV x))]) ∧ ∃ m, w' = w.drewN m := by
  obtain ⟨a, cap, rfl, hl, h64, hn0, hc⟩ := h
  have h2 : (x : Int) / 64 < (ws.length : Int) := by omega
  have l1 : (ws.length : Int) ≤ 1099511627776 := by omega
  obtain ⟨b, o, rfl, hcell⟩ := hc (x / 64) hf
  have U := hide (h64.getD (x / 64))
  have hm := and63_nat x
  have hnm := andNot63 x (by omega)
  have hor := or_spelt (ws.getD (x / 64) 0) (maskN 0 (x % 64)) U.out (maskN_lt _ _)
  have V := hide (show ws.getD (x / 64) 0 ||| maskN 0 (x % 64) < 18446744073709551616 from Nat.or_lt_two_pow (n := 64) U.out (maskN_lt _ _))
  have M := hide (show maskV 0 ((x : Int) % 64) = maskN 0 (x % 64) from maskV_nat 0 (x % 64))
  have F := hide (show ((foundAt ws x : Nat) : Int) = ((64 * (x / 64) : Nat) : Int) + ((lowOneV (notV (ws.getD (x / 64) 0 ||| maskN 0 (x % 64))) : Nat) : Int) by unfold foundAt; omega)
  have D := hide (show decide (foundAt ws x < nextV x) = decide (((lowOneV (notV (ws.getD (x / 64) 0 ||| maskN 0 (x % 64))) : Nat) : Int) < 64) from decide_eq_decide.2 (by unfold foundAt nextV; omega))
  have L := low_le (notV (ws.getD (x / 64) 0 ||| maskN 0 (x % 64)))
  clear hc hn0 h64 hl hf
  generalize ws.getD (x / 64) 0 = u at *
  have P := hide (show ∀ w, Calls Try.prog 63 #[.int .u64 ((u ||| maskN 0 (x % 64) : Nat) : Int)] w fun e w' => e = .returned (.int .i64 ((lowOneV (notV (u ||| maskN 0 (x % 64))) : Nat) : Int)) ∧ w' = w from fun w => lowz_nat _ V.out w)
  have L2 : ((lowOneV (notV (u ||| maskN 0 (x % 64))) : Nat) : Int) ≤ 64 := by omega
  have L3 : (0 : Int) ≤ ((lowOneV (notV (u ||| maskN 0 (x % 64))) : Nat) : Int) := by omega
  clear L
  generalize ((lowOneV (notV (u ||| maskN 0 (x % 64))) : Nat) : Int) = q at *
  go_enter Try.func52, Try.ntmps52
  go_wp2_with fail
  go_quiet (first | (go_at_call 58; exact Calls.quiet_of_same (mask_to _ _ (maskN 0 (x % 64)) (by exact M.out) _ (by omega) (by omega) (by omega) (by omega))) | (go_at_call 63; exact Calls.quiet_of_same (P.out _)))
  go_wp2
  go_ret2
  exact ⟨ret_pair (by rw [F.out]; omega) D.out.symm, _, rfl⟩
theorem zero_hit (v : Value) (ws : List Nat) (x : Nat) (y : Int) (hy : y = x) (w : World) (h : WordsAt w v ws) (hx : (x : Int) ≤ 1099511627776) (hf : x / 64 < ws.length) (hF : foundAt ws x < nextV x) :
    Calls Try.prog 52 #[v, .int .i64 y] w fun e w' => e = .returned (.tuple #[.int .i64 ((foundAt ws x : Nat) : Int), .bool true]) ∧ ∃ m, w' = w.drewN m := by
  subst hy
  have := zero_in v ws x w h hx hf
  rwa [decide_eq_true hF] at this
theorem zero_miss (v : Value) (ws : List Nat) (x : Nat) (w : World) (h : WordsAt w v ws) (hx : (x : Int) ≤ 1099511627776) (hF : ws.length ≤ x / 64 ∨ nextV x ≤ foundAt ws x) :
    Calls Try.prog 52 #[v, .int .i64 (x : Int)] w fun e w' => (∃ r, e = .returned (.tuple #[.int .i64 r, .bool false])) ∧ ∃ m, w' = w.drewN m := by
  by_cases hf : ws.length ≤ x / 64
  · exact (zero_far v ws x w h hf).mono fun e w' ⟨he, hm⟩ => ⟨⟨_, he⟩, hm⟩
  · have := zero_in v ws x w h hx (by omega)
    rw [decide_eq_false (by omega)] at this
    exact this.mono fun e w' ⟨he, hm⟩ => ⟨⟨_, he⟩, hm⟩
end Go.Proofs.Ytegolecdmpikhaa
/- What package tree answers where it only reads (Has, FirstZero), as contracts. -/
namespace Go.Proofs.Ytegolecdmpikhaa
open Go.RowKit


theorem thas_any (v : Value) (n : Nat) (ws : List Nat) (i : Int) (w : World) (h : TreeAt w v n ws) (hi : -9223372036854775808 ≤ i) (hi' : i ≤ 9223372036854775807) :
    Calls Try.prog 64 #[v, .int .i64 i] w fun e w' => e = .returned (.bool (hasT n ws i)) ∧ Fresh w w' := by
  obtain ⟨n1, n2, hlev, a, cap, rfl, hlv⟩ := h
  have q1 : (1 : Int) ≤ (n : Int) := by omega
  have q2 : (n : Int) ≤ 65536 := by omega
  have FB := hide (fresh_box w #[.int .i64 (n : Int), .slice a (nLev n) cap] 61)
  by_cases h0 : i < 0
  · have E := hide (show hasT n ws i = false by unfold hasT; rw [decide_eq_false (by omega)]; rfl)
    clear hlv hlev
    go_enter Try.func64, Try.ntmps64
    go_wp2
    go_ret
    exact ⟨retB E.out.symm, FB.out⟩
  by_cases h1 : (n : Int) ≤ i
  · have E := hide (show hasT n ws i = false by unfold hasT; rw [decide_eq_true (by omega), decide_eq_false (by omega)]; rfl)
    have h0' : 0 ≤ i := by omega
    clear hlv hlev h0
    go_enter Try.func64, Try.ntmps64
    go_wp2
    go_ret
    exact ⟨retB E.out.symm, FB.out⟩
  · obtain ⟨k, rfl⟩ : ∃ k : Nat, i = k := ⟨i.toNat, by omega⟩
    have E := hide (show hasT n ws (k : Int) = bitV ws k by unfold hasT; rw [decide_eq_true (by omega), decide_eq_true (by omega), Int.toNat_natCast]; rfl)
    have hh := nLev_in n
    obtain ⟨b, o, rfl⟩ := hlv.len hh.1
    obtain ⟨x, c, hcell, hwd⟩ := hlv.row 0 (by omega)
    have hb : b < w.heap.size := World.block_lt_of_cell? _ _ hcell
    rw [Nat.add_zero] at hcell
    have h2 : (k : Int) < (n : Int) := by omega
    have hc2 : ∀ o', (w.alloc o').cell? ⟨b, o, none⟩ = some (.slice x (lvV ws 0).length c) := fun o' => (World.cell?_alloc_lt w _ _ hb).trans hcell
    have l1 : (1 : Int) ≤ (nLev n : Int) := by omega
    have l2 : (nLev n : Int) ≤ 3 := by omega
    have I := hide (fun w1 (hf : Fresh w w1) => isSet_nat _ ws k w1 (hwd.fresh hf) (by omega))
    clear hlv hlev hwd h0 h1 hcell
    generalize nLev n = L at *
    go_enter Try.func64, Try.ntmps64
    go_wp2_with fail
    refine (I.out _ FB.out).mono ?_
    rintro e w' ⟨rfl, rfl⟩
    go_wp2
    go_ret
    exact ⟨retB E.out.symm, FB.out⟩

theorem lowest_any (v : Value) (n : Nat) (ws : List Nat) (L A : Nat) (w : World) (h : TreeAt w v n ws) (hL : L < nLev n) (hz : Z n ws L A) :
    Calls Try.prog 53 #[v, .int .i64 (L : Int), .int .i64 (A : Int)] w fun e w' => (∃ r : Nat, e = .returned (.tuple #[.int .i64 (r : Int), .bool true]) ∧ Down n ws L A 0 r) ∧ Fresh w w' := by
  obtain ⟨n1, n2, hlev, a, cap, rfl, hlv⟩ := h
  have q2 : (n : Int) ≤ 65536 := by omega
  have hh := nLev_in n
  obtain ⟨b, o, rfl⟩ := hlv.len hh.1
  have FB := hide (fresh_box w #[.int .i64 (n : Int), .slice (some ⟨b, o, none⟩) (nLev n) cap] 61)
  have LV := hide hlv
  have LE := hide hlev
  have D0 := hide (down_start hz)
  have hb : b < w.heap.size := by obtain ⟨x, c, hcell, _⟩ := hlv.row 0 (by omega); exact World.block_lt_of_cell? _ _ hcell
  have BD := hide (fun k => nb_le n n2 k)
  have LN := hide (fun k => lv_length hlev k)
  clear hlv hlev hz
  have l2 : (nLev n : Int) ≤ 3 := by omega
  have hL' : (L : Int) < (nLev n : Int) := by omega
  generalize hN : nLev n = N at *
  go_enter Try.func53, Try.ntmps53
  go_wp2
  go_loopw [1, 2] (fun l x w2 => ∃ k y m : Nat, k ≤ L ∧ l = .int .i64 (k : Int) ∧ x = .int .i64 (y : Int) ∧ w2 = (w.alloc (.cells #[.int .i64 (n : Int), .slice (some ⟨b, o, none⟩) N cap] 61)).drewN m ∧ Down n ws L A k y) (fun l _ _ => (intOf l).toNat)
  case atStart => exact ⟨L, A, 0, Nat.le_refl _, rfl, rfl, rfl, D0.out⟩
  case round =>
    obtain ⟨k, y, m, hk, rfl, rfl, rfl, hd⟩ := hrel
    have D := hide hd
    have y1 : y < nb n k := hd.1.1
    have y2 : nb n k ≤ 65536 := BD.out k
    have y3 : (y : Int) ≤ 65535 := by omega
    have y4 : (0 : Int) ≤ (y : Int) := by omega
    clear hd D0
    rcases Nat.eq_zero_or_pos k with rfl | hk0
    · have yn : (y : Int) < (n : Int) := by have := D.out.1.1; change y < n at this; omega
      go_wp2
      go_ret2
      exact ⟨⟨y, rfl, D.out⟩, fresh_drewN FB.out _⟩
    · obtain ⟨j, rfl⟩ : ∃ j, k = j + 1 := ⟨k - 1, by omega⟩
      obtain ⟨x, c, hcell, hwd⟩ := LV.out.row j (by omega)
      have hc2 : (w.alloc (.cells #[.int .i64 (n : Int), .slice (some ⟨b, o, none⟩) N cap] 61)).cell? ⟨b, o + j, none⟩ = some (.slice x (lvV ws j).length c) := (World.cell?_alloc_lt w _ _ hb).trans hcell
      have hZ := D.out.1
      obtain ⟨z1, z2, z3, z4⟩ := zero_down LE.out hZ
      have W1 := hide (fun m => hwd.fresh (fresh_drewN FB.out m))
      have LL := hide (show (64 * y) / 64 < (lvV ws j).length by rw [LN.out j]; have := hZ.1; omega)
      have DS := hide (down_step LE.out (show j + 1 ≤ L by omega) D.out)
      have Z1 := hide z1
      have j1 : (1 : Int) ≤ ((j + 1 : Nat) : Int) := by omega
      have j2 : ((j + 1 : Nat) : Int) ≤ 3 := by omega
      have j3 : ((j + 1 : Nat) : Int) - 1 = (j : Int) := by omega
      have j4 : (j : Int) < (N : Int) := by omega
      have F1 := z2.1
      have F2 := BD.out j
      have F3 : ((foundAt (lvV ws j) (64 * y) : Nat) : Int) ≤ 65535 := by omega
      have J := hide j3
      clear hcell hwd hZ z1 z2 z3 z4 F1 F2
      go_wp2_with fail
      refine (zero_hit _ (lvV ws j) (64 * y) _ (by omega) _ (W1.out _) (by omega) LL.out Z1.out).mono ?_
      rintro e w' ⟨rfl, m2, rfl⟩
      clear LL Z1 W1
      generalize foundAt (lvV ws j) (64 * y) = F at *
      go_wp2
      go_roundw
      case rel => exact ⟨j, F, _, by omega, rfl, rfl, rfl, DS.out⟩
      case measure => simp [intOf]

theorem tfirst_nat (v : Value) (n : Nat) (ws : List Nat) (f : Nat) (w : World) (h : TreeAt w v n ws) (hf : f < n) :
    Calls Try.prog 36 #[v, .int .i64 (f : Int)] w fun e w' => e = foundE (first (bitV ws) f n) ∧ Fresh w w' := by
  have T := hide h
  obtain ⟨n1, n2, hlev, a, cap, rfl, hlv⟩ := h
  have q2 : (n : Int) ≤ 65536 := by omega
  have hh := nLev_in n
  obtain ⟨b, o, rfl⟩ := hlv.len hh.1
  have FB := hide (fresh_box w #[.int .i64 (n : Int), .slice (some ⟨b, o, none⟩) (nLev n) cap] 61)
  have LV := hide hlv
  have LE := hide hlev
  have hb : b < w.heap.size := by obtain ⟨x, c, hcell, _⟩ := hlv.row 0 (by omega); exact World.block_lt_of_cell? _ _ hcell
  have BD := hide (fun k => nb_le n n2 k)
  have EN := hide (fun (x : Nat) (hu : Up n ws f (nLev n) x) (hx : 1 ≤ x) => up_none hlev n1 n2 hu hx)
  clear hlv hlev
  have l2 : (nLev n : Int) ≤ 3 := by omega
  have l1 : (1 : Int) ≤ (nLev n : Int) := by omega
  have f1 : (f : Int) < (n : Int) := by omega
  have f0 : (0 : Int) ≤ (f : Int) := by omega
  have FI := hide (show ((f : Nat) : Int) = (f : Int) from rfl)
  generalize hN : nLev n = N at *
  generalize hfi : (f : Int) = fi at f1 f0 FI ⊢
  have HFI := hide hfi
  clear hfi
  go_enter Try.func36, Try.ntmps36
  go_wp2
  go_loopw [6, 23] (fun x i w2 => ∃ y k m : Nat, k ≤ N ∧ x = .int .i64 (y : Int) ∧ i = .int .i64 (k : Int) ∧ w2 = (w.alloc (.cells #[.int .i64 (n : Int), .slice (some ⟨b, o, none⟩) N cap] 61)).drewN m ∧ Up n ws f k y ∧ (1 ≤ k → 1 ≤ y) ∧ y ≤ 65536) (fun _ i _ => (N - intOf i).toNat)
  case atStart => exact ⟨f, 0, 0, Nat.zero_le _, by rw [HFI.out], rfl, rfl, up_start n ws f, fun h => by omega, by omega⟩
  case round =>
    obtain ⟨y, k, m, hk, rfl, rfl, rfl, hu, hy1, hy⟩ := hrel
    have U := hide hu
    have Y1 := hide hy1
    have y3 : (y : Int) ≤ 65536 := by omega
    clear hu hy1
    rcases Nat.lt_or_ge k N with hkN | hkN
    · obtain ⟨x, c, hcell, hwd⟩ := LV.out.row k (by omega)
      have hc2 : (w.alloc (.cells #[.int .i64 (n : Int), .slice (some ⟨b, o, none⟩) N cap] 61)).cell? ⟨b, o + k, none⟩ = some (.slice x (lvV ws k).length c) := (World.cell?_alloc_lt w _ _ hb).trans hcell
      have W1 := hide (fun m => hwd.fresh (fresh_drewN FB.out m))
      have k1 : (k : Int) < (N : Int) := by omega
      clear hcell hwd
      by_cases hc : y / 64 < (lvV ws k).length ∧ foundAt (lvV ws k) y < nextV y
      · obtain ⟨c1, c2⟩ := hc
        have C1 := hide c1
        have C2 := hide c2
        have ZZ := hide (up_found LE.out c1 c2)
        have FN := hide (fun r (hd : Down n ws k (foundAt (lvV ws k) y) 0 r) => up_down LE.out U.out hd)
        have F2 := BD.out k
        have F1 := ZZ.out.1
        have F3 : ((foundAt (lvV ws k) y : Nat) : Int) ≤ 65535 := by omega
        have TT := hide (fun m => T.out.fresh (fresh_drewN FB.out m))
        clear c1 c2 F1 F2
        go_wp2_with fail
        refine (zero_hit _ (lvV ws k) y _ rfl _ (W1.out _) (by omega) C1.out C2.out).mono ?_
        rintro e w' ⟨rfl, m2, rfl⟩
        go_wp2_with fail
        refine (lowest_any _ n ws k (foundAt (lvV ws k) y) _ (TT.out (m + m2)) (by omega) ZZ.out).mono ?_
        rintro e w3 ⟨⟨r, rfl, hd⟩, hf3⟩
        have E := hide (FN.out r hd)
        have F3 := hide ((fresh_drewN FB.out (m + m2)).trans hf3)
        clear hd hf3 FN ZZ C1 C2
        go_wp2
        go_ret2
        exact ⟨by rw [E.out]; rfl, F3.out⟩
      · have US := hide (up_step LE.out U.out (show (lvV ws k).length ≤ y / 64 ∨ nextV y ≤ foundAt (lvV ws k) y by omega))
        have HN := hide (show (lvV ws k).length ≤ y / 64 ∨ nextV y ≤ foundAt (lvV ws k) y by omega)
        clear hc
        go_wp2_with fail
        refine (zero_miss _ (lvV ws k) y _ (W1.out _) (by omega) HN.out).mono ?_
        rintro e w' ⟨⟨r, rfl⟩, m2, rfl⟩
        clear HN W1
        go_wp2
        go_roundw
        case rel => exact ⟨y / 64 + 1, k + 1, _, by omega, by go_num, by go_num, rfl, US.out, fun _ => by omega, by omega⟩
        case measure => simp [intOf]; omega
    · obtain rfl : k = N := by omega
      have E := hide (EN.out _ U.out (Y1.out (by omega)))
      go_wp2
      go_ret2
      exact ⟨by rw [E.out]; rfl, fresh_drewN FB.out _⟩
theorem tfirst_any (v : Value) (n : Nat) (ws : List Nat) (f : Int) (w : World) (h : TreeAt w v n ws) (hf : -9223372036854775808 ≤ f) (hf' : f ≤ 9223372036854775807) :
    Calls Try.prog 36 #[v, .int .i64 f] w fun e w' => e = foundE (firstT n ws f) ∧ Fresh w w' := by
  by_cases hc : f < 0 ∨ (n : Int) ≤ f
  · rw [firstT_none n ws f hc]
    obtain ⟨n1, n2, hlev, a, cap, rfl, hlv⟩ := h
    have FB := hide (fresh_box w #[.int .i64 (n : Int), .slice a (nLev n) cap] 61)
    clear hlev hlv
    generalize nLev n = N at *
    by_cases h0 : f < 0
    · clear hc
      go_enter Try.func36, Try.ntmps36
      go_wp2
      go_ret2
      exact ⟨rfl, FB.out⟩
    · have h1 : (n : Int) ≤ f := by omega
      have h2 : 0 ≤ f := by omega
      clear hc h0
      go_enter Try.func36, Try.ntmps36
      go_wp2
      go_ret2
      exact ⟨rfl, FB.out⟩
  · obtain ⟨k, rfl⟩ : ∃ k : Nat, f = k := ⟨f.toNat, by omega⟩
    have e : firstT n ws (k : Int) = first (bitV ws) k n := by unfold firstT; rw [if_neg (by omega), Int.toNat_natCast]
    rw [e]
    exact tfirst_nat v n ws k w h (by omega)
end Go.Proofs.Ytegolecdmpikhaa
/- May of package tree: true of each tree that may be, false of the empty one, as contracts. -/
namespace Go.Proofs.Ytegolecdmpikhaa
open Go.RowKit

theorem may_empty (w : World) : Calls Try.prog 56 #[noTree] w fun e w' => e = .returned (.bool false) ∧ Fresh w w' := by
  unfold noTree
  have FB := hide (fresh_box w #[.int .i64 0, .slice none 0 0] 61)
  go_enter Try.func56, Try.ntmps56
  go_wp2_with fail
  refine (sizeMay_to 0 false (by decide) _).mono ?_
  rintro e w' ⟨rfl, rfl⟩
  go_wp2
  go_ret
  exact ⟨rfl, FB.out⟩

set_option maxHeartbeats 1000000 in
theorem may_true (v : Value) (n : Nat) (ws : List Nat) (w : World) (h : TreeAt w v n ws) : Calls Try.prog 56 #[v] w fun e w' => e = .returned (.bool true) ∧ Fresh w w' := by
  obtain ⟨n1, n2, hlev, a, cap, rfl, hlv⟩ := h
  have q1 : (1 : Int) ≤ (n : Int) := by omega
  have q2 : (n : Int) ≤ 65536 := by omega
  have hh := nLev_in n
  obtain ⟨b, o, rfl⟩ := hlv.len hh.1
  have FB := hide (fresh_box w #[.int .i64 (n : Int), .slice (some ⟨b, o, none⟩) (nLev n) cap] 61)
  have LV := hide hlv
  have LE := hide hlev
  have hb : b < w.heap.size := by obtain ⟨x, c, hcell, _⟩ := hlv.row 0 (by omega); exact World.block_lt_of_cell? _ _ hcell
  have BD := hide (fun k => nb_le n n2 k)
  have BP := hide (fun k => nb_pos n n1 k)
  have TOP := hide (fun k (hk : k < nLev n) => nb_top n k n1 n2 hk)
  have LN := hide (fun k => lv_length hlev k)
  clear hlv hlev
  have l2 : (nLev n : Int) ≤ 3 := by omega
  have l1 : (1 : Int) ≤ (nLev n : Int) := by omega
  generalize hN : nLev n = N at *
  go_enter Try.func56, Try.ntmps56
  go_wp2_with fail
  refine (sizeMay_to _ true (by rw [decide_eq_true q1, decide_eq_true q2]; rfl) _).mono ?_
  rintro e w' ⟨rfl, rfl⟩
  go_wp2
  go_loopw [3, 15] (fun x i w2 => ∃ k m : Nat, k < N ∧ x = .int .i64 ((nb n k : Nat) : Int) ∧ i = .int .i64 (k : Int) ∧ w2 = (w.alloc (.cells #[.int .i64 (n : Int), .slice (some ⟨b, o, none⟩) N cap] 61)).drewN m) (fun _ i _ => (N - intOf i).toNat)
  case atStart => exact ⟨0, 0, by omega, rfl, rfl, rfl⟩
  case round =>
    obtain ⟨k, m, hkN, rfl, rfl, rfl⟩ := hrel
    obtain ⟨x, c, hcell, hwd⟩ := LV.out.row k hkN
    have hc2 : (w.alloc (.cells #[.int .i64 (n : Int), .slice (some ⟨b, o, none⟩) N cap] 61)).cell? ⟨b, o + k, none⟩ = some (.slice x (lvV ws k).length c) := (World.cell?_alloc_lt w _ _ hb).trans hcell
    have W1 := hide (fun m => hwd.fresh (fresh_drewN FB.out m))
    have k1 : (k : Int) < (N : Int) := by omega
    have b1 := BP.out k
    have b2 := BD.out k
    have b3 := LN.out k
    have b4 : nb n (k + 1) = (nb n k + 63) / 64 := rfl
    have RA := hide (rest_and (lev_lv LE.out k) b1)
    have WF := hide (fun w => wordsFor_to ((nb n k : Nat) : Int) (nb n k) (((lvV ws k).length : Nat) : Int) rfl (by rw [b3, b4]) b1 b2 w)
    have RE := hide (fun w => rest_nat (nb n k) b1 b2 w)
    have TP := hide (TOP.out k hkN)
    have hq : (lvV ws k).length = (nb n k - 1) / 64 + 1 := by omega
    obtain ⟨_, _, e0, hl0, h64, _, hcw⟩ := hwd
    cases e0
    obtain ⟨b', o', rfl, hcell'⟩ := hcw ((nb n k - 1) / 64) (by omega)
    have hw2 : (w.alloc (.cells #[.int .i64 (n : Int), .slice (some ⟨b, o, none⟩) N cap] 61)).cell? ⟨b', o' + (nb n k - 1) / 64, none⟩ = some (.int .u64 (((lvV ws k).getD ((nb n k - 1) / 64) 0 : Nat) : Int)) := (World.cell?_alloc_lt w _ _ (World.block_lt_of_cell? _ _ hcell')).trans hcell'
    have han : bits .and .u64 (((lvV ws k).getD ((nb n k - 1) / 64) 0 : Nat) : Int) ((maskN ((nb n k - 1) % 64 + 1) 64 : Nat) : Int) = ((maskN ((nb n k - 1) % 64 + 1) 64 : Nat) : Int) := by rw [and_spelt _ _ (h64.getD _) (maskN_lt _ _), RA.out]
    have j3 : (((lvV ws k).length : Nat) : Int) - 1 = (((nb n k - 1) / 64 : Nat) : Int) := by omega
    have j4 : (((nb n k - 1) / 64 : Nat) : Int) < (((lvV ws k).length : Nat) : Int) := by omega
    have j5 : (((lvV ws k).length : Nat) : Int) ≤ 1024 := by omega
    clear hcell hcell' hcw RA h64 hl0
    have j6 : IntKind.i64.wrap (((nb n k - 1) / 64 : Nat) : Int) = (((nb n k - 1) / 64 : Nat) : Int) := by rw [IntKind.wrap_i64]; omega
    have TL := hide (fun j (e : j + 1 = k) => (LV.out.row j (by omega)))
    have NX := hide (show ((nb n (k + 1) : Nat) : Int) = (((lvV ws k).length : Nat) : Int) by rw [b3])
    have TP2 := hide (show (lvV ws k).length = 1 ↔ k + 1 = N by rw [b3]; exact TP.out)
    have LK := hide (fun j (e : j + 1 = k) => show lvV ws k = upLv (lvV ws j) by subst e; rfl)
    have LJ := hide (fun j => show (lvV ws j).length ≤ 65536 by rw [LN.out]; exact BD.out (j + 1))
    clear hq b3 b4 TP
    generalize hR : maskN ((nb n k - 1) % 64 + 1) 64 = R at *
    generalize hQ : (nb n k - 1) / 64 = q at *
    generalize hU : (lvV ws k).getD q 0 = u at *
    clear hR hQ hU
    generalize hL : (lvV ws k).length = ln at *
    clear hL
    go_wp2_with fail
    go_quiet (first | (go_at_call 48; exact quiet_same (WF.out _)) | (go_at_call 49; exact quiet_same (RE.out _)))
    have CC := hide (show ∀ (j c' : Nat) (x' : Option Addr) m', WordsAt ((w.alloc (.cells #[.int .i64 (n : Int), .slice (some ⟨b, o, none⟩) N cap] 61)).drewN m') (.slice x' (lvV ws j).length c') (lvV ws j) → j + 1 = k → Calls Try.prog 67 #[.slice (some ⟨b', o', none⟩) ln c, .slice x' (lvV ws j).length c'] ((w.alloc (.cells #[.int .i64 (n : Int), .slice (some ⟨b, o, none⟩) N cap] 61)).drewN m') fun e w' => e = .returned (.bool true) ∧ w' = (w.alloc (.cells #[.int .i64 (n : Int), .slice (some ⟨b, o, none⟩) N cap] 61)).drewN m' from fun j c' x' m' hw e => tells_true _ _ (lvV ws j) _ (by have := W1.out m'; rwa [LK.out j e] at this) hw (LJ.out j))
    clear WF RE han hw2 j3 j4 j6 W1 LK
    rcases Nat.eq_zero_or_pos k with rfl | hk0
    · by_cases hone : ln = 1
      · have e1 := TP2.out.1 hone
        subst hone
        have e2 : (N : Int) - 1 = 0 := by omega
        go_wp2
        go_ret
        exact ⟨rfl, fresh_drewN FB.out _⟩
      · have z : ((ln : Int) == 1) = false := by rw [beq_eq_false_iff_ne]; omega
        have hlt : 0 + 1 < N := by
          rcases Nat.lt_or_ge (0 + 1) N with h | h
          · exact h
          · exact absurd (TP2.out.2 (by omega)) hone
        go_wp2
        go_roundw
        case rel => exact ⟨0 + 1, _, hlt, by rw [NX.out], by go_num, rfl⟩
        case measure => simp [intOf]; omega
    · obtain ⟨j, rfl⟩ : ∃ j, k = j + 1 := ⟨k - 1, by omega⟩
      obtain ⟨x', c', hcj, hwj⟩ := TL.out j rfl
      have hcj2 : (w.alloc (.cells #[.int .i64 (n : Int), .slice (some ⟨b, o, none⟩) N cap] 61)).cell? ⟨b, o + j, none⟩ = some (.slice x' (lvV ws j).length c') := (World.cell?_alloc_lt w _ _ hb).trans hcj
      have WJ := hide (fun m => hwj.fresh (fresh_drewN FB.out m))
      have i1 : (0 : Int) < ((j + 1 : Nat) : Int) := by omega
      have i3 : ((j + 1 : Nat) : Int) - 1 = (j : Int) := by omega
      have i4 : (j : Int) < (N : Int) := by omega
      clear hcj hwj
      go_wp2_with fail
      refine (CC.out j c' x' _ (WJ.out _) rfl).mono ?_
      rintro e w' ⟨rfl, rfl⟩
      by_cases hone : ln = 1
      · have e1 := TP2.out.1 hone
        subst hone
        have e2 : (N : Int) - 1 = ((j + 1 : Nat) : Int) := by omega
        go_wp2
        go_ret
        exact ⟨rfl, fresh_drewN FB.out _⟩
      · have z : ((ln : Int) == 1) = false := by rw [beq_eq_false_iff_ne]; omega
        have hlt : j + 1 + 1 < N := by
          rcases Nat.lt_or_ge (j + 1 + 1) N with h | h
          · exact h
          · exact absurd (TP2.out.2 (by omega)) hone
        go_wp2
        go_roundw
        case rel => exact ⟨j + 1 + 1, _, hlt, by rw [NX.out], by go_num, rfl⟩
        case measure => simp [intOf]; omega
end Go.Proofs.Ytegolecdmpikhaa
/- A tree that a call makes level by level: what is known of its memory (Grows), and what one more level does to it. -/
namespace Go.Proofs.Ytegolecdmpikhaa
open Go.RowKit

theorem OwnW.fresh {w w' : World} {base : Nat} {v : Value} {ws : List Nat} (h : OwnW w base v ws) (k : Fresh w w') : OwnW w' base v ws := ownsRow_fresh h k

/-- a tree in the making: k levels, as f tells them; R: the result's block, T: its own -/
structure Grows (w0 : World) (R T n k : Nat) (f : Nat → List Nat) (lv : Value) (wr : World) : Prop where
  res : wr.heap[R]? = some (.cells #[.int .i64 0, .slice none 0 0] 61 (0, 0))
  str : wr.heap[T]? = some (.cells #[.int .i64 (n : Int), lv] 61 (0, 0))
  own : ∃ us : List Value, us.length = k ∧ wr.ownsRow w0.heap.size 79 1 lv k us ∧ ∀ i, i < k → OwnW wr w0.heap.size (us.getD i (.slice none 0 0)) (f i)
  bel : Fresh w0 wr
theorem Grows.fresh {w0 : World} {R T n k : Nat} {f : Nat → List Nat} {lv : Value} {wr w' : World} (h : Grows w0 R T n k f lv wr) (hf : Fresh wr w') : Grows w0 R T n k f lv w' := by
  obtain ⟨us, h1, h2, h3⟩ := h.own
  exact ⟨by rw [hf.block R (Array.getElem?_eq_some_iff.1 h.res).1]; exact h.res, by rw [hf.block T (Array.getElem?_eq_some_iff.1 h.str).1]; exact h.str, ⟨us, h1, ownsRow_fresh h2 hf, fun i hi => (h3 i hi).fresh hf⟩, h.bel.trans hf⟩
theorem Grows.cellT {w0 : World} {R T n k : Nat} {f : Nat → List Nat} {lv : Value} {wr : World} (h : Grows w0 R T n k f lv wr) : wr.cell? ⟨T, 1, none⟩ = some lv := cell_block h.str 1 lv rfl
theorem Grows.cellN {w0 : World} {R T n k : Nat} {f : Nat → List Nat} {lv : Value} {wr : World} (h : Grows w0 R T n k f lv wr) : wr.cell? ⟨T, 0, none⟩ = some (.int .i64 (n : Int)) := cell_block h.str 0 _ rfl
theorem Grows.freeT {w0 : World} {R T n k : Nat} {f : Nat → List Nat} {lv : Value} {wr : World} (h : Grows w0 R T n k f lv wr) (j : Nat) : wr.frozen? ⟨T, j, none⟩ = false := free_block h.str j
theorem Grows.freeR {w0 : World} {R T n k : Nat} {f : Nat → List Nat} {lv : Value} {wr : World} (h : Grows w0 R T n k f lv wr) (j : Nat) : wr.frozen? ⟨R, j, none⟩ = false := free_block h.res j
theorem Grows.cellR0 {w0 : World} {R T n k : Nat} {f : Nat → List Nat} {lv : Value} {wr : World} (h : Grows w0 R T n k f lv wr) : wr.cell? ⟨R, 0, none⟩ = some (.int .i64 0) := cell_block h.res 0 _ rfl
theorem Grows.cellR1 {w0 : World} {R T n k : Nat} {f : Nat → List Nat} {lv : Value} {wr : World} (h : Grows w0 R T n k f lv wr) : wr.cell? ⟨R, 1, none⟩ = some (.slice none 0 0) := cell_block h.res 1 _ rfl
theorem Grows.ltT {w0 : World} {R T n k : Nat} {f : Nat → List Nat} {lv : Value} {wr : World} (h : Grows w0 R T n k f lv wr) : T < wr.heap.size := (Array.getElem?_eq_some_iff.1 h.str).1
theorem Grows.ltR {w0 : World} {R T n k : Nat} {f : Nat → List Nat} {lv : Value} {wr : World} (h : Grows w0 R T n k f lv wr) : R < wr.heap.size := (Array.getElem?_eq_some_iff.1 h.res).1
theorem block_grown {w w' : World} {row : Option Nat} {b : Nat} {c : Array Value} {t : TypeId} (hb : w.heap[b]? = some (.cells c t (0, 0))) (hg : w.grownBy w' row) (hr : ∀ k, row = some k → ∃ c' t', w.heap[k]? = some (.cells c' t' (0, 0)) ∧ t' ≠ t) : w'.heap[b]? = some (.cells c t (0, 0)) := by
  rw [hg.block b (Array.getElem?_eq_some_iff.1 hb).1, hb]
  rintro e
  obtain ⟨c', t', h1, h2⟩ := hr b e.symm
  rw [hb] at h1
  simp at h1
  exact h2 h1.2.symm
/-- what an append leaves: the levels, one more -/
theorem Grows.append {w0 : World} {R T n k : Nat} {f : Nat → List Nat} {lv lv' u : Value} {w2 w3 : World} {us : List Value} (h : Grows w0 R T n k f lv w2) (hus : us.length = k) (hrows : ∀ i, i < k → OwnW w2 w0.heap.size (us.getD i (.slice none 0 0)) (f i)) (hlv : w2.ownsRow w0.heap.size 79 1 lv k us)
    (hu : OwnW w2 w0.heap.size u (f k)) (hown : w3.ownsRow w0.heap.size 79 1 lv' (k + 1) (us ++ [u])) (hgrow : w2.grownBy w3 lv.ownBlock) :
    w3.heap[R]? = some (.cells #[.int .i64 0, .slice none 0 0] 61 (0, 0)) ∧ w3.heap[T]? = some (.cells #[.int .i64 (n : Int), lv] 61 (0, 0)) ∧ (∀ i, i < k + 1 → OwnW w3 w0.heap.size ((us ++ [u]).getD i (.slice none 0 0)) (f i)) ∧ Fresh w0 w3 := by
  have hr : ∀ j, lv.ownBlock = some j → ∃ c' t', w2.heap[j]? = some (.cells c' t' (0, 0)) ∧ t' ≠ 61 := fun j hj => by
    obtain ⟨c, hc⟩ := own_type hlv j hj
    exact ⟨c, _, hc, by decide⟩
  have hs : Stays w2 w3 := Stays.grown hgrow fun j hj => by
    obtain ⟨c, hc⟩ := own_type hlv j hj
    exact ⟨c, _, _, hc, by decide⟩
  refine ⟨block_grown h.res hgrow hr, block_grown h.str hgrow hr, fun i hi => ?_, h.bel.grown hgrow h.bel.size fun j hj => (World.ownsRow.lt hlv j hj).1⟩
  rcases Nat.lt_or_ge i k with hk | hk
  · have e : (us ++ [u]).getD i (.slice none 0 0) = us.getD i (.slice none 0 0) := by
      rw [List.getD_eq_getElem?_getD, List.getElem?_append_left (by omega), List.getD_eq_getElem?_getD]
    rw [e]
    exact (hrows i hk).stays hs
  · obtain rfl : i = k := by omega
    have e : (us ++ [u]).getD i (.slice none 0 0) = u := by
      rw [List.getD_eq_getElem?_getD, List.getElem?_append_right (by omega), hus, Nat.sub_self]; rfl
    rw [e]
    exact hu.stays hs
/-- and the field is written -/
theorem Grows.store {w0 : World} {R T n k : Nat} {f : Nat → List Nat} {lv lv' : Value} {w3 : World} {us : List Value} (hR : R ≠ T) (hT : w0.heap.size ≤ T) (hus : us.length = k)
    (h1 : w3.heap[R]? = some (.cells #[.int .i64 0, .slice none 0 0] 61 (0, 0))) (h2 : w3.heap[T]? = some (.cells #[.int .i64 (n : Int), lv] 61 (0, 0))) (h3 : w3.ownsRow w0.heap.size 79 1 lv' k us) (h4 : ∀ i, i < k → OwnW w3 w0.heap.size (us.getD i (.slice none 0 0)) (f i)) (h5 : Fresh w0 w3) :
    Grows w0 R T n k f lv' (w3.setCell ⟨T, 1, none⟩ lv') := by
  refine ⟨heap_set_other h1 hR _, heap_set_same h2 _, ⟨us, hus, ?_, fun i hi => ?_⟩, h5.setCell hT _⟩
  · refine ownsRow_setCell_other h3 ?_ _
    intro e
    obtain ⟨c, hc⟩ := own_type h3 T e
    rw [h2] at hc
    simp at hc
  · exact (h4 i hi).stays (Stays.setCell h2 (by decide) 1 lv')
/-- a tree whose levels are all there -/
theorem Grows.at {w0 : World} {R T n : Nat} {ws : List Nat} {lv : Value} {wr : World} (h : Grows w0 R T n (nLev n) (lvV ws) lv wr) (n1 : 1 ≤ n) (n2 : n ≤ 65536) (hl : Lev n ws) : TreeAt wr (.agg #[.int .i64 (n : Int), lv]) n ws := by
  obtain ⟨us, h1, h2, h3⟩ := h.own
  have hh := nLev_in n
  obtain ⟨g, cap, rfl⟩ := own_shape h2 hh.1
  refine ⟨n1, n2, hl, _, cap, rfl, fun i hi => ⟨g, 0, us.getD i (.slice none 0 0), rfl, ?_, ?_⟩⟩
  · rw [Nat.zero_add, World.ownsRow.cellAt h2 i (by omega), List.getD_eq_getElem?_getD, List.getElem?_eq_getElem (by omega)]; rfl
  · have hb := nb_words n i n1 n2
    exact (h3 i hi).at (lev_lv hl i).1 (by rw [lv_length hl i]; omega)
end Go.Proofs.Ytegolecdmpikhaa
/- New of package tree, as a contract: none of so many bits set, those beyond set; the empty tree where there may be none. -/
namespace Go.Proofs.Ytegolecdmpikhaa
open Go.RowKit

theorem tnew_none (s : Int) (w : World) (h : s < 1 ∨ 65536 < s) : Calls Try.prog 33 #[.int .i64 s] w fun e w' => e = .returned noTree ∧ Fresh w w' := by
  have FB := hide (fresh_box w #[.int .i64 0, .slice none 0 0] 61)
  have D := hide (show (decide (1 ≤ s) && decide (s ≤ 65536)) = false by rw [← Bool.not_eq_true]; simp; omega)
  go_enter Try.func33, Try.ntmps33
  go_wp2_with fail
  refine (sizeMay_to s false D.out _).mono ?_
  rintro e w' ⟨rfl, rfl⟩
  go_wp2
  go_returns
  exact ⟨rfl, FB.out⟩

/-- the start -/
theorem grows_start (w : World) (n : Nat) (f : Nat → List Nat) : Grows w w.heap.size (w.heap.size + 1) n 0 f (.slice none 0 0) ((w.alloc (.cells #[.int .i64 0, .slice none 0 0] 61)).alloc (.cells #[.int .i64 (n : Int), .slice none 0 0] 61)) := by
  have s1 : (w.alloc (.cells #[.int .i64 0, .slice none 0 0] 61)).heap.size = w.heap.size + 1 := by simp
  refine ⟨?_, ?_, ⟨[], rfl, World.ownsRow_nil _ _ _ _, fun i hi => by omega⟩, (((Below.refl _ w).alloc (Nat.le_refl _) _).alloc (by rw [s1]; omega) _)⟩
  · have := heap_alloc_new w (.cells #[.int .i64 0, .slice none 0 0] 61 (0, 0))
    have f2 := fresh_box (w.alloc (.cells #[.int .i64 0, .slice none 0 0] 61)) #[.int .i64 (n : Int), .slice none 0 0] 61
    rw [f2.block w.heap.size (by rw [s1]; omega)]
    exact this
  · have := heap_alloc_new (w.alloc (.cells #[.int .i64 0, .slice none 0 0] 61)) (.cells #[.int .i64 (n : Int), .slice none 0 0] 61 (0, 0))
    rw [s1] at this
    exact this

theorem news_at {w2 : World} {S : Nat} (hs : w2.heap.size = S) (v : Value) (e : TypeId) : ∀ j u, [v][j]? = some u → (w2.alloc (.cells #[v] e)).cell? ((⟨S, 0, none⟩ : Addr).add j) = some u := by
  subst hs
  intro j u hj
  match j, hj with
  | 0, hj => simp at hj; subst hj; simp [Addr.add]
theorem one_slice (a : Option Addr) (n c : Nat) : ∀ u ∈ [Value.slice a n c], u.oneCell' = true := by
  intro u hu; simp at hu; subst hu; rfl
/-- words that were made -/
theorem words_made {w0 wr w1 : World} {ln : Nat} {v : Value} (hown : w1.ownsRow w0.heap.size 80 1 v ln (madeCells (Value.int .u64 0).cells (ln * 1)).toList) (hgrow : wr.grownBy w1 none) : OwnW w1 w0.heap.size v (List.replicate ln 0) ∧ Fresh wr w1 := by
  refine ⟨?_, (Below.refl _ _).grown hgrow (Nat.le_refl _) (fun k hk => by cases hk)⟩
  rw [toList_zeros] at hown
  unfold OwnW
  rw [List.length_replicate]
  exact hown
theorem zero_row (ln : Nat) : W64 (List.replicate ln 0) := by intro u hu; rw [List.eq_of_mem_replicate hu]; decide
/-- a tree whose levels are all there, its value handed over in the result's block -/
theorem Grows.done {w0 : World} {R T n : Nat} {ws : List Nat} {lv : Value} {wr : World} (h : Grows w0 R T n (nLev n) (lvV ws) lv wr) (n1 : 1 ≤ n) (n2 : n ≤ 65536) (hl : Lev n ws) (hR : w0.heap.size ≤ R) (x y : Value) :
    TreeNew w0.heap.size ((wr.setCell ⟨R, 0, none⟩ x).setCell ⟨R, 1, none⟩ y) (.agg #[.int .i64 (n : Int), lv]) n ws ∧ Fresh w0 ((wr.setCell ⟨R, 0, none⟩ x).setCell ⟨R, 1, none⟩ y) := by
  refine ⟨?_, (h.bel.setCell hR _).setCell hR _⟩
  obtain ⟨us, h1, h2, h3⟩ := h.own
  have hs1 := heap_set_same (j := 0) h.res x
  have hs : Stays wr ((wr.setCell ⟨R, 0, none⟩ x).setCell ⟨R, 1, none⟩ y) := (Stays.setCell h.res (by decide) 0 x).trans (Stays.setCell hs1 (by decide) 1 y)
  have hb : lv.ownBlock ≠ some R := by
    intro e
    obtain ⟨c, hc⟩ := own_type h2 R e
    rw [h.res] at hc
    simp at hc
  have h2' := ownsRow_setCell_other (a := ⟨R, 1, none⟩) (ownsRow_setCell_other (a := ⟨R, 0, none⟩) h2 hb x) hb y
  have hh := nLev_in n
  obtain ⟨g, cap, rfl⟩ := own_shape h2 hh.1
  have hgb := World.ownsRow.lt h2' g rfl
  intro w' hw
  refine ⟨n1, n2, hl, _, cap, rfl, fun i hi => ⟨g, 0, us.getD i (.slice none 0 0), rfl, ?_, ?_⟩⟩
  · refine (World.cell?_of_block (hw g hgb.1 hgb.2)).trans ?_
    rw [Nat.zero_add, World.ownsRow.cellAt h2' i (by omega), List.getD_eq_getElem?_getD, List.getElem?_eq_getElem (by omega)]; rfl
  · have hb := nb_words n i n1 n2
    exact (((h3 i hi).stays hs).agree hw).at (lev_lv hl i).1 (by rw [lv_length hl i]; omega)

theorem result_cells {w0 : World} {R T n k : Nat} {f : Nat → List Nat} {lv : Value} {wr : World} (h : Grows w0 R T n k f lv wr) (x y : Value) :
    ((wr.setCell ⟨R, 0, none⟩ x).setCell ⟨R, 1, none⟩ y).cell? ⟨R, 0, none⟩ = some x ∧ ((wr.setCell ⟨R, 0, none⟩ x).setCell ⟨R, 1, none⟩ y).cell? ⟨R, 1, none⟩ = some y := by
  have h1 := heap_set_same (j := 1) (heap_set_same (j := 0) h.res x) y
  exact ⟨cell_block h1 0 x (by simp), cell_block h1 1 y (by simp)⟩

set_option maxHeartbeats 2000000 in
theorem tnew_nat (n : Nat) (w : World) (n1 : 1 ≤ n) (n2 : n ≤ 65536) : Calls Try.prog 33 #[.int .i64 (n : Int)] w fun e w' => ∃ v, e = .returned v ∧ TreeNew w.heap.size w' v n (noneV n) ∧ Fresh w w' := by
  obtain ⟨i0, hi, hz0, hz1, hz2⟩ := infoOf infoU64
  obtain ⟨i1, hi1, hy0, hy1, hy2⟩ := infoOf infoSL
  have q1 : (1 : Int) ≤ (n : Int) := by omega
  have q2 : (n : Int) ≤ 65536 := by omega
  have G0 := hide (grows_start w n (lvV (noneV n)))
  have BD := hide (fun k => nb_le n n2 k)
  have BP := hide (fun k => nb_pos n n1 k)
  have TOP := hide (fun k (hk : k < nLev n) => nb_top n k n1 n2 hk)
  have hh := nLev_in n
  go_enter Try.func33, Try.ntmps33
  go_wp2_with fail
  refine (sizeMay_to _ true (by rw [decide_eq_true q1, decide_eq_true q2]; rfl) _).mono ?_
  rintro e w' ⟨rfl, rfl⟩
  go_wp2
  go_loopw [4] (fun x wr => ∃ (k : Nat) (lv : Value), k < nLev n ∧ x = .int .i64 ((nb n k : Nat) : Int) ∧ Grows w w.heap.size (w.heap.size + 1) n k (lvV (noneV n)) lv wr) (fun x _ => (intOf x).toNat)
  case atStart => exact ⟨0, _, by omega, rfl, G0.out⟩
  case round =>
    obtain ⟨k, lv, hk, rfl, hG⟩ := hrel
    have b1 := BP.out k
    have b2 := BD.out k
    have NR := hide (none_row (nb n k) b1)
    have LK := hide (none_lv n k)
    have TP := hide (TOP.out k hk)
    have WF := hide (fun w => wordsFor_nat (nb n k) b1 b2 w)
    have RE := hide (fun w => rest_nat (nb n k) b1 b2 w)
    have hnb : nb n (k + 1) = (nb n k + 63) / 64 := rfl
    have hln : (nb n k + 63) / 64 = (nb n k - 1) / 64 + 1 := by omega
    have GG := hide hG
    have T1 : w.heap.size + 1 < wr.heap.size := hG.ltT
    obtain ⟨us, hus, hlv, hrows⟩ := hG.own
    have US := hide hus
    have LVO := hide hlv
    have ROWS := hide hrows
    have j3 : (((nb n k + 63) / 64 : Nat) : Int) - 1 = (((nb n k - 1) / 64 : Nat) : Int) := by omega
    have j4 : (((nb n k - 1) / 64 : Nat) : Int) < (((nb n k + 63) / 64 : Nat) : Int) := by omega
    have j5 : (((nb n k + 63) / 64 : Nat) : Int) ≤ 1024 := by omega
    have hb8 : i0.bytes * ((nb n k + 63) / 64) ≤ 281474976710656 := by rw [hz2]; omega
    have hmx : (nb n k + 63) / 64 ≤ maxLen := by unfold maxLen; omega
    have hbase : w.heap.size ≤ wr.heap.size := hG.bel.size
    have m1 : k + 1 ≤ maxLen := by unfold maxLen; omega
    have m2 : (k + 1) * 24 ≤ 140737488355328 := by omega
    have MEAS := hide (show nb n (k + 1) ≠ 1 → nb n (k + 1) < nb n k by omega)
    have LT2 := hide (show (nb n k - 1) / 64 < (nb n k + 63) / 64 by omega)
    have R64 := hide (maskN_lt ((nb n k - 1) % 64 + 1) 64)
    clear hG hus hlv hrows
    generalize hR : maskN ((nb n k - 1) % 64 + 1) 64 = R at *
    generalize hQ : (nb n k - 1) / 64 = q at *
    generalize hL : (nb n k + 63) / 64 = ln at *
    clear hR hQ hL hln
    have hnb' := hide hnb
    clear hnb
    obtain ⟨S, hS⟩ : ∃ S, S = wr.heap.size := ⟨_, rfl⟩
    have HS := hide hS
    rw [← hS] at T1 hbase
    have T2 : w.heap.size + 1 ≠ S := by omega
    have T3 : w.heap.size ≠ S := by omega
    have MK := hide (fun w1 hown hgrow => words_made (w0 := w) (wr := wr) (w1 := w1) (ln := ln) (v := .slice (some ⟨wr.heap.size, 0, none⟩) ln ln) hown hgrow)
    -- what the store of the rest leaves
    have ST := hide (show ∀ w1, (OwnW w1 w.heap.size (.slice (some ⟨wr.heap.size, 0, none⟩) ln ln) (List.replicate ln 0) ∧ Fresh wr w1) → Grows w w.heap.size (w.heap.size + 1) n k (lvV (noneV n)) lv (w1.setCell ⟨S, q, none⟩ (.int .u64 (R : Int))) ∧ OwnW (w1.setCell ⟨S, q, none⟩ (.int .u64 (R : Int))) w.heap.size (.slice (some ⟨S, 0, none⟩) ln ln) (lvV (noneV n) k) ∧ (w1.setCell ⟨S, q, none⟩ (.int .u64 (R : Int))).ownsRow w.heap.size 79 1 lv k us ∧ (∀ i, i < k → OwnW (w1.setCell ⟨S, q, none⟩ (.int .u64 (R : Int))) w.heap.size (us.getD i (.slice none 0 0)) (lvV (noneV n) i)) from fun w1 h => by
      have hf : Fresh wr (w1.setCell ⟨S, q, none⟩ (.int .u64 (R : Int))) := by subst hS; exact h.2.setCell (Nat.le_refl _) _
      refine ⟨GG.out.fresh hf, ?_, ownsRow_fresh LVO.out hf, fun i hi => (ROWS.out i hi).fresh hf⟩
      rw [LK.out, ← NR.out]
      subst hS
      exact h.1.put (by rw [List.length_replicate]) q R)
    have C1 := hide (show ∀ w1, (OwnW w1 w.heap.size (.slice (some ⟨wr.heap.size, 0, none⟩) ln ln) (List.replicate ln 0) ∧ Fresh wr w1) → w1.cell? ⟨S, q, none⟩ = some (.int .u64 0) ∧ w1.frozen? ⟨S, q, none⟩ = false ∧ w1.cell? ⟨w.heap.size + 1, 1, none⟩ = some lv from fun w1 h => by
      have ho : OwnW w1 w.heap.size (.slice (some ⟨wr.heap.size, 0, none⟩) (List.replicate ln 0).length ln) (List.replicate ln 0) := by rw [List.length_replicate]; exact h.1
      have c := ho.cell q (by rw [List.length_replicate]; exact LT2.out)
      rw [List.getD_eq_getElem?_getD, List.getElem?_eq_getElem (by rw [List.length_replicate]; exact LT2.out), List.getElem_replicate] at c
      subst hS
      exact ⟨c, ho.free q, (GG.out.fresh h.2).cellT⟩)
    clear hS
    go_wp2_with fail
    refine (WF.out _).mono ?_
    rintro e w' ⟨rfl, rfl⟩
    go_wp2_with (at_make; refine wpList_make_full _ rfl _ _ 79 rfl w.heap.size 80 i0 (.int .u64 0) 1 Try.underlying79 hi hz0 hz1 _ _ _ _ ln rfl rfl rfl rfl hb8 hmx (by rw [← HS.out]; exact hbase) ?_; intro w1 hown hgrow; have MM := hide (MK.out w1 hown hgrow); clear hown hgrow)
    refine (RE.out _).mono ?_
    rintro e w2 ⟨rfl, rfl⟩
    rw [← HS.out]
    obtain ⟨c1, c2, c3⟩ := C1.out _ MM.out
    obtain ⟨G2, O2, LV2, RW2⟩ := ST.out _ MM.out
    have G3 := hide G2
    have O3 := hide O2
    have LV3 := hide LV2
    have RW3 := hide RW2
    clear G2 O2 LV2 RW2 C1 ST MM MK
    have c4 : (w2.setCell ⟨S, q, none⟩ (.int .u64 (R : Int))).cell? ⟨w.heap.size + 1, 1, none⟩ = some lv := G3.out.cellT
    have sz : (w2.setCell ⟨S, q, none⟩ (.int .u64 (R : Int))).heap.size = w2.heap.size := by simp [World.setCell]
    have SZ := hide sz
    have m3 : ∀ o, w.heap.size ≤ ((w2.setCell ⟨S, q, none⟩ (.int .u64 (R : Int))).alloc o).heap.size := fun o => by have := G3.out.bel.size; simp; simp at this; omega
    have AP := hide (show ∀ v1 w3, w3.ownsRow w.heap.size 79 1 v1 (k + 1) (us ++ [.slice (some ⟨S, 0, none⟩) ln ln]) → ((w2.setCell ⟨S, q, none⟩ (.int .u64 (R : Int))).alloc (.cells #[.slice (some ⟨S, 0, none⟩) ln ln] 79)).grownBy w3 lv.ownBlock → _ from fun v1 w3 ho hg => Grows.append (lv' := v1) (G3.out.fresh (fresh_box _ _ _)) US.out (fun i hi => (RW3.out i hi).fresh (fresh_box _ _ _)) (ownsRow_fresh LV3.out (fresh_box _ _ _)) (O3.out.fresh (fresh_box _ _ _)) ho hg)
    by_cases hone : ln = 1
    · have HK := hide (TP.out.1 (by rw [hnb'.out, hone]))
      have z : ((ln : Int) == 1) = true := by rw [hone]; rfl
      clear hone
      go_wp2_with (at_builtin; refine wpList_append_own _ rfl _ _ 59 rfl w.heap.size 79 i1 (.slice none 0 0) 1 24 Try.underlying59 hi1 hy0 hy1 hy2 rfl (by decide) _ _ _ rfl (World.ownsRow.alloc LV3.out _) ⟨w2.heap.size, 0, none⟩ 1 1 [.slice (some ⟨S, 0, none⟩) ln ln] rfl rfl (news_at SZ.out _ _) (one_slice _ _ _) m1 m2 (m3 _) ?_; intro v1 w3 hown hgrow _; obtain ⟨g3, cap3, rfl⟩ := own_shape hown (Nat.le_add_left 1 k); have A := hide (AP.out _ w3 hown hgrow); have OW := hide hown; clear hown hgrow; have d1 := cell_block A.out.2.1 1 _ rfl; have d0 := cell_block A.out.2.1 0 _ rfl; have e1 := free_block A.out.2.1 1; have r0 := cell_block A.out.1 0 _ rfl; have r1 := cell_block A.out.1 1 _ rfl; have f0 := free_block A.out.1 0; have f1 := free_block A.out.1 1)
      have GS := hide (Grows.store (f := lvV (noneV n)) (by omega) (by omega) (show (us ++ [Value.slice (some ⟨S, 0, none⟩) ln ln]).length = k + 1 by rw [List.length_append, US.out]; rfl) A.out.1 A.out.2.1 OW.out A.out.2.2.1 A.out.2.2.2)
      have DN := hide (fun x y => Grows.done (by have := GS.out; rw [HK.out] at this; exact this) n1 n2 (lev_pack n _) (Nat.le_refl _) x y)
      have RS := hide (fun x y => result_cells GS.out x y)
      rw [HK.out] at RS ⊢
      obtain ⟨h0, h1⟩ := RS.out (.int .i64 (n : Int)) (.slice (some ⟨g3, 0, none⟩) (nLev n) cap3)
      have DN1 := hide (DN.out (.int .i64 (n : Int)) (.slice (some ⟨g3, 0, none⟩) (nLev n) cap3))
      clear DN RS d0 d1 e1 r0 r1 f0 f1
      generalize World.setCell _ ⟨w.heap.size, 1, none⟩ _ = W at h0 h1 DN1 ⊢
      refine bodyPost_ret (by simp [results, Try.results33, go_sem, h0, h1]; try rfl) rfl ?_
      exact ⟨_, rfl, DN1.out⟩
    · have z : ((ln : Int) == 1) = false := by rw [beq_eq_false_iff_ne]; omega
      go_wp2_with (at_builtin; refine wpList_append_own _ rfl _ _ 59 rfl w.heap.size 79 i1 (.slice none 0 0) 1 24 Try.underlying59 hi1 hy0 hy1 hy2 rfl (by decide) _ _ _ rfl (World.ownsRow.alloc LV3.out _) ⟨w2.heap.size, 0, none⟩ 1 1 [.slice (some ⟨S, 0, none⟩) ln ln] rfl rfl (news_at SZ.out _ _) (one_slice _ _ _) m1 m2 (m3 _) ?_; intro v1 w3 hown hgrow _; obtain ⟨g3, cap3, rfl⟩ := own_shape hown (Nat.le_add_left 1 k); have A := hide (AP.out _ w3 hown hgrow); have OW := hide hown; clear hown hgrow; have d1 := cell_block A.out.2.1 1 _ rfl; have d0 := cell_block A.out.2.1 0 _ rfl; have e1 := free_block A.out.2.1 1; have r0 := cell_block A.out.1 0 _ rfl; have r1 := cell_block A.out.1 1 _ rfl; have f0 := free_block A.out.1 0; have f1 := free_block A.out.1 1)
      have GS := hide (Grows.store (f := lvV (noneV n)) (by omega) (by omega) (show (us ++ [Value.slice (some ⟨S, 0, none⟩) ln ln]).length = k + 1 by rw [List.length_append, US.out]; rfl) A.out.1 A.out.2.1 OW.out A.out.2.2.1 A.out.2.2.2)
      refine (WF.out _).mono ?_
      rintro e w5 ⟨rfl, rfl⟩
      have HNE := hide (show nb n (k + 1) ≠ 1 by rw [hnb'.out]; exact hone)
      go_wp2
      go_roundw
      case rel => exact ⟨k + 1, _, by have h1 := HNE.out; have h2 := TP.out; omega, by rw [hnb'.out], GS.out⟩
      case measure =>
        have h1 := MEAS.out HNE.out
        have h2 := hnb'.out
        simp [intOf]; omega
end Go.Proofs.Ytegolecdmpikhaa
/- A tree in new memory: slices.Clone of a row of words, of a row of rows, and tree's clone, as contracts; what is known of such a tree (OwnT). -/
namespace Go.Proofs.Ytegolecdmpikhaa
open Go.RowKit

/-- an empty slice that is made -/
theorem own_empty (w : World) (e : TypeId) : (w.alloc (.cells #[] e)).ownsRow w.heap.size e 1 (.slice (some ⟨w.heap.size, 0, none⟩) 0 0) 0 [] := World.ownsRow_lit w #[] 0 (Nat.le_refl _) (Nat.zero_le _) rfl

theorem crow_any (v : Value) (ws : List Nat) (w : World) (h : WordsAt w v ws) (h1 : 1 ≤ ws.length) (h2 : ws.length ≤ 65536) :
    Calls Try.prog 66 #[v] w fun e w' => ∃ g cap, e = .returned (.slice (some ⟨g, 0, none⟩) ws.length cap) ∧ OwnW w' w.heap.size (.slice (some ⟨g, 0, none⟩) ws.length cap) ws ∧ Fresh w w' := by
  obtain ⟨a, cap, rfl, hl, h64, hn0, hc⟩ := h
  obtain ⟨i0, hi, hz0, hz1, hz2⟩ := infoOf infoU64
  obtain ⟨b, o, rfl, _⟩ := hc 0 h1
  have NW := hide (show ∀ j u, (wvals ws)[j]? = some u → (w.alloc (.cells #[] 80)).cell? ((⟨b, o, none⟩ : Addr).add j) = some u from fun j u hu => by
    have hj : j < ws.length := by
      rcases Nat.lt_or_ge j ws.length with h | h
      · exact h
      · rw [List.getElem?_eq_none (by rw [wvals_length]; exact h)] at hu; cases hu
    obtain ⟨b', o', e', hcell⟩ := hc j hj
    cases e'
    rw [wvals_get ws j hj] at hu
    rw [← Option.some.inj hu, Go.WideShapes.add_plain b o j]
    exact (World.cell?_alloc_lt w _ _ (World.block_lt_of_cell? _ _ hcell)).trans hcell)
  have m1 : 0 + ws.length ≤ maxLen := by unfold maxLen; omega
  have m2 : (0 + ws.length) * 8 ≤ 140737488355328 := by omega
  have m3 : w.heap.size ≤ (w.alloc (.cells #[] 80)).heap.size := by simp
  have WL := hide (wvals_length ws)
  have W1 := hide (wvals_one ws)
  have FIN := hide (show ∀ v1 w1, w1.ownsRow w.heap.size 80 1 v1 (0 + ws.length) ([] ++ wvals ws) → (w.alloc (.cells #[] 80)).grownBy w1 (some w.heap.size) → (∃ g cap, v1 = .slice (some ⟨g, 0, none⟩) ws.length cap) ∧ OwnW w1 w.heap.size v1 ws ∧ Fresh w w1 from fun v1 w1 ho hg => by
    rw [Nat.zero_add, List.nil_append] at ho
    exact ⟨own_shape ho h1, ho, (fresh_box w _ _).grown hg (by simp) fun k hk => by cases hk; exact Nat.le_refl _⟩)
  clear hc hn0 h64
  have heq := fun w => Go.Lib.run_eql_slice_nil (P := Try.prog) w 79 80 (some ⟨b, o, none⟩) ws.length cap 0 0 Try.underlying79
  go_enter Try.func66, Try.ntmps66
  go_wp2_with (at_builtin; refine wpList_append_own _ rfl _ _ 79 rfl w.heap.size 80 i0 (.int .u64 0) 1 8 Try.underlying79 hi hz0 hz1 hz2 rfl (by decide) _ _ _ rfl (own_empty w 80) ⟨b, o, none⟩ ws.length cap (wvals ws) rfl (by rw [WL.out, Nat.mul_one]) NW.out W1.out m1 m2 m3 ?_; intro v1 w1 hown hgrow _)
  obtain ⟨⟨g, c, rfl⟩, o1, f1⟩ := FIN.out _ _ hown hgrow
  have O1 := hide o1
  have F1 := hide f1
  clear hown hgrow o1 f1
  go_ret
  exact ⟨g, c, rfl, O1.out, F1.out⟩
/-- a row of slices -/
theorem crows_any (b o h cap : Nat) (us : List Value) (w : World) (hus : us.length = h) (h1 : 1 ≤ h) (h2 : h ≤ 64) (hone : ∀ u ∈ us, u.oneCell' = true) (hc : ∀ i, i < h → w.cell? ⟨b, o + i, none⟩ = some (us.getD i (.slice none 0 0))) :
    Calls Try.prog 65 #[.slice (some ⟨b, o, none⟩) h cap] w fun e w' => ∃ g c, e = .returned (.slice (some ⟨g, 0, none⟩) h c) ∧ w'.ownsRow w.heap.size 79 1 (.slice (some ⟨g, 0, none⟩) h c) h us ∧ Fresh w w' := by
  obtain ⟨i1, hi1, hy0, hy1, hy2⟩ := infoOf infoSL
  have NW := hide (show ∀ j u, us[j]? = some u → (w.alloc (.cells #[] 79)).cell? ((⟨b, o, none⟩ : Addr).add j) = some u from fun j u hu => by
    have hj : j < us.length := by
      rcases Nat.lt_or_ge j us.length with h | h
      · exact h
      · rw [List.getElem?_eq_none h] at hu; cases hu
    have hcell := hc j (by omega)
    rw [List.getD_eq_getElem?_getD, hu] at hcell
    rw [Go.WideShapes.add_plain b o j]
    exact (World.cell?_alloc_lt w _ _ (World.block_lt_of_cell? _ _ hcell)).trans hcell)
  have m1 : 0 + h ≤ maxLen := by unfold maxLen; omega
  have m2 : (0 + h) * 24 ≤ 140737488355328 := by omega
  have m3 : w.heap.size ≤ (w.alloc (.cells #[] 79)).heap.size := by simp
  have WL := hide hus
  have W1 := hide hone
  have FIN := hide (show ∀ v1 w1, w1.ownsRow w.heap.size 79 1 v1 (0 + h) ([] ++ us) → (w.alloc (.cells #[] 79)).grownBy w1 (some w.heap.size) → (∃ g c, v1 = .slice (some ⟨g, 0, none⟩) h c) ∧ w1.ownsRow w.heap.size 79 1 v1 h us ∧ Fresh w w1 from fun v1 w1 ho hg => by
    rw [Nat.zero_add, List.nil_append] at ho
    exact ⟨own_shape ho h1, ho, (fresh_box w _ _).grown hg (by simp) fun k hk => by cases hk; exact Nat.le_refl _⟩)
  clear hc hone hus
  have heq := fun w => Go.Lib.run_eql_slice_nil (P := Try.prog) w 59 79 (some ⟨b, o, none⟩) h cap 0 0 Try.underlying59
  go_enter Try.func65, Try.ntmps65
  go_wp2_with (at_builtin; refine wpList_append_own _ rfl _ _ 59 rfl w.heap.size 79 i1 (.slice none 0 0) 1 24 Try.underlying59 hi1 hy0 hy1 hy2 rfl (by decide) _ _ _ rfl (own_empty w 79) ⟨b, o, none⟩ h cap us rfl (by rw [WL.out, Nat.mul_one]) NW.out W1.out m1 m2 m3 ?_; intro v1 w1 hown hgrow _)
  obtain ⟨⟨g, c, rfl⟩, o1, f1⟩ := FIN.out _ _ hown hgrow
  have O1 := hide o1
  have F1 := hide f1
  clear hown hgrow o1 f1
  go_ret
  exact ⟨g, c, rfl, O1.out, F1.out⟩

/-- a tree's levels in new memory -/
structure OwnT (w : World) (base g h : Nat) (G C : Nat → Nat) (f : Nat → List Nat) : Prop where
  row : ∀ i, i < h → OwnW w base (.slice (some ⟨G i, 0, none⟩) (f i).length (C i)) (f i)
  apart : ∀ i j, i < h → j < h → i ≠ j → G i ≠ G j
  cell : ∀ i, i < h → w.cell? ⟨g, i, none⟩ = some (.slice (some ⟨G i, 0, none⟩) (f i).length (C i))
  blk : ∃ cur, w.heap[g]? = some (.cells cur 79 (0, 0))
  gb : base ≤ g
theorem OwnT.fresh {w w' : World} {base g h : Nat} {G C : Nat → Nat} {f : Nat → List Nat} (t : OwnT w base g h G C f) (k : Fresh w w') : OwnT w' base g h G C f := by
  obtain ⟨cur, hc⟩ := t.blk
  exact ⟨fun i hi => (t.row i hi).fresh k, t.apart, fun i hi => (k.cell (World.block_lt_of_cell? _ _ (t.cell i hi))).trans (t.cell i hi), ⟨cur, by rw [k.block g (Array.getElem?_eq_some_iff.1 hc).1]; exact hc⟩, t.gb⟩
theorem OwnT.drewN {w : World} {base g h : Nat} {G C : Nat → Nat} {f : Nat → List Nat} (t : OwnT w base g h G C f) (m : Nat) : OwnT (w.drewN m) base g h G C f := t.fresh (Fresh.drewN w m)
theorem OwnT.congr {w : World} {base g h : Nat} {G C : Nat → Nat} {f f' : Nat → List Nat} (t : OwnT w base g h G C f) (e : ∀ i, i < h → f i = f' i) : OwnT w base g h G C f' :=
  ⟨fun i hi => by rw [← e i hi]; exact t.row i hi, t.apart, fun i hi => by rw [← e i hi]; exact t.cell i hi, t.blk, t.gb⟩
theorem OwnT.ne {w : World} {base g h : Nat} {G C : Nat → Nat} {f : Nat → List Nat} (t : OwnT w base g h G C f) (i : Nat) (hi : i < h) : G i ≠ g := by
  intro e
  obtain ⟨cur, hc⟩ := t.blk
  obtain ⟨c, h2⟩ := own_type (t.row i hi) (G i) rfl
  rw [e, hc] at h2
  simp at h2
/-- one word of one level is put -/
theorem OwnT.put {w : World} {base g h : Nat} {G C : Nat → Nat} {f : Nat → List Nat} (t : OwnT w base g h G C f) (r : Nat) (hr : r < h) (k x : Nat) :
    OwnT (w.setCell ⟨G r, k, none⟩ (.int .u64 ((x : Nat) : Int))) base g h G C (fun i => if i = r then (f r).set k x else f i) := by
  obtain ⟨cur, hc⟩ := t.blk
  have hne := t.ne r hr
  refine ⟨fun i hi => ?_, t.apart, fun i hi => ?_, ⟨cur, heap_set_other hc (fun e => hne e.symm) _⟩, t.gb⟩
  · by_cases e : i = r
    · subst e
      simp only [if_pos]
      have := (t.row i hi).put rfl k x
      rw [List.length_set]
      exact this
    · simp only [if_neg e]
      exact ownsRow_setCell_other (t.row i hi) (by
        intro e2
        have : G i = G r := by simpa [Value.ownBlock] using e2
        exact t.apart i r hi hr e this) _
  · have h2 : (w.setCell ⟨G r, k, none⟩ (.int .u64 ((x : Nat) : Int))).cell? ⟨g, i, none⟩ = some (.slice (some ⟨G i, 0, none⟩) (f i).length (C i)) := by
      refine (World.cell?_of_block ?_).trans (t.cell i hi)
      exact heap_setCell_other w ⟨G r, k, none⟩ g _ (fun e => hne e.symm)
    rw [h2]
    by_cases e : i = r
    · subst e; simp only [if_pos, List.length_set]
    · simp only [if_neg e]
theorem OwnT.at {w : World} {base g cap n : Nat} {G C : Nat → Nat} {ws : List Nat} (t : OwnT w base g (nLev n) G C (lvV ws)) (n1 : 1 ≤ n) (n2 : n ≤ 65536) (hl : Lev n ws) : TreeAt w (.agg #[.int .i64 (n : Int), .slice (some ⟨g, 0, none⟩) (nLev n) cap]) n ws := by
  refine ⟨n1, n2, hl, _, cap, rfl, fun i hi => ⟨g, 0, .slice (some ⟨G i, 0, none⟩) (lvV ws i).length (C i), rfl, ?_, ?_⟩⟩
  · rw [Nat.zero_add]; exact t.cell i hi
  · have hb := nb_words n i n1 n2
    exact (t.row i hi).at (lev_lv hl i).1 (by rw [lv_length hl i]; omega)
theorem OwnT.agree {w w' : World} {base g h : Nat} {G C : Nat → Nat} {f : Nat → List Nat} (t : OwnT w base g h G C f) (k : ∀ i, base ≤ i → i < w.heap.size → w'.heap[i]? = w.heap[i]?) : OwnT w' base g h G C f := by
  obtain ⟨cur, hc⟩ := t.blk
  have hg := k g t.gb (Array.getElem?_eq_some_iff.1 hc).1
  exact ⟨fun i hi => (t.row i hi).agree k, t.apart, fun i hi => (World.cell?_of_block hg).trans (t.cell i hi), ⟨cur, hg.trans hc⟩, t.gb⟩
theorem OwnT.new {w : World} {base g cap n : Nat} {G C : Nat → Nat} {ws : List Nat} (t : OwnT w base g (nLev n) G C (lvV ws)) (n1 : 1 ≤ n) (n2 : n ≤ 65536) (hl : Lev n ws) : TreeNew base w (.agg #[.int .i64 (n : Int), .slice (some ⟨g, 0, none⟩) (nLev n) cap]) n ws :=
  fun _ hw => (t.agree hw).at n1 n2 hl
end Go.Proofs.Ytegolecdmpikhaa
/- clone of package tree, as a contract: the same tree in new memory, each level in a block of its own. -/
namespace Go.Proofs.Ytegolecdmpikhaa
open Go.RowKit

/-- the levels, as far as they were cloned -/
structure Clones (w0 : World) (base g cap h k : Nat) (olds xs : List Value) (f : Nat → List Nat) (wr : World) : Prop where
  len : xs.length = h
  own : wr.ownsRow base 79 1 (.slice (some ⟨g, 0, none⟩) h cap) h xs
  rows : ∀ i, i < k → OwnW wr base (xs.getD i (.slice none 0 0)) (f i)
  rest : ∀ i, k ≤ i → xs.getD i (.slice none 0 0) = olds.getD i (.slice none 0 0)
  apart : ∀ i j, i < j → j < k → (xs.getD i (.slice none 0 0)).ownBlock ≠ (xs.getD j (.slice none 0 0)).ownBlock
  bel : Below base w0 wr
theorem getD_set_self (xs : List Value) (k : Nat) (v : Value) (hk : k < xs.length) : (xs.set k v).getD k (.slice none 0 0) = v := by simp [List.getD_eq_getElem?_getD, hk]
theorem getD_set_other (xs : List Value) (k i : Nat) (v : Value) (h : i ≠ k) : (xs.set k v).getD i (.slice none 0 0) = xs.getD i (.slice none 0 0) := by
  simp [List.getD_eq_getElem?_getD, List.getElem?_set_ne (fun e => h e.symm)]
theorem Clones.step {w0 : World} {base g cap h k : Nat} {olds xs : List Value} {f : Nat → List Nat} {wr w1 : World} (c : Clones w0 base g cap h k olds xs f wr) (hk : k < h) (hf1 : ∀ i, i ≤ k → 1 ≤ (f i).length) (hbw : base ≤ wr.heap.size) {g' cap' : Nat}
    (ho : OwnW w1 wr.heap.size (.slice (some ⟨g', 0, none⟩) (f k).length cap') (f k)) (hf : Fresh wr w1) :
    Clones w0 base g cap h (k + 1) olds (xs.set k (.slice (some ⟨g', 0, none⟩) (f k).length cap')) f (w1.setCell ⟨g, k, none⟩ (.slice (some ⟨g', 0, none⟩) (f k).length cap')) := by
  have own1 := ownsRow_fresh c.own hf
  obtain ⟨cur, hg⟩ := own_type own1 g rfl
  have hst : Stays w1 (w1.setCell ⟨g, k, none⟩ (.slice (some ⟨g', 0, none⟩) (f k).length cap')) := Stays.setCell hg (by decide) k _
  refine ⟨by rw [List.length_set]; exact c.len, (World.ownsRow.stored own1 k _).1, fun i hi => ?_, fun i hi => ?_, fun i j hij hj => ?_, ?_⟩
  · by_cases e : i = k
    · subst e
      rw [getD_set_self _ _ _ (by rw [c.len]; exact hk)]
      exact (ho.stays hst).mono hbw
    · rw [getD_set_other _ _ _ _ e]
      exact ((c.rows i (by omega)).fresh hf).stays hst
  · rw [getD_set_other _ _ _ _ (by omega)]
    exact c.rest i (by omega)
  · by_cases e : j = k
    · subst e
      rw [getD_set_self _ _ _ (by rw [c.len]; exact hk), getD_set_other _ _ _ _ (by omega)]
      obtain ⟨gi, ci, ei, _, hlt⟩ := (c.rows i hij).lies (hf1 i (by omega))
      rw [ei]
      have hge := (World.ownsRow.lt ho g' rfl).1
      intro h2
      have : gi = g' := by simpa [Value.ownBlock] using h2
      omega
    · rw [getD_set_other _ _ _ _ e, getD_set_other _ _ _ _ (by omega)]
      exact c.apart i j hij (by omega)
  · have hb := (World.ownsRow.lt own1 g rfl).1
    exact (c.bel.trans (hf.mono hbw)).setCell hb _
/-- where a value's array lies, and its capacity -/
def blkOf : Value → Nat
  | .slice (some a) _ _ => a.block
  | _ => 0
def capOf : Value → Nat
  | .slice _ _ c => c
  | _ => 0
theorem Clones.done {w0 : World} {base g cap h : Nat} {olds xs : List Value} {f : Nat → List Nat} {wr : World} (c : Clones w0 base g cap h h olds xs f wr) (hf1 : ∀ i, i < h → 1 ≤ (f i).length) :
    OwnT wr base g h (fun i => blkOf (xs.getD i (.slice none 0 0))) (fun i => capOf (xs.getD i (.slice none 0 0))) f := by
  have sh : ∀ i, i < h → xs.getD i (.slice none 0 0) = .slice (some ⟨blkOf (xs.getD i (.slice none 0 0)), 0, none⟩) (f i).length (capOf (xs.getD i (.slice none 0 0))) := by
    intro i hi
    obtain ⟨gi, ci, ei, _⟩ := (c.rows i hi).lies (hf1 i hi)
    rw [ei]; rfl
  refine ⟨fun i hi => ?_, fun i j hi hj hij e => ?_, fun i hi => ?_, own_type c.own g rfl, (World.ownsRow.lt c.own g rfl).1⟩
  · rw [← sh i hi]; exact c.rows i hi
  · rcases Nat.lt_or_gt_of_ne hij with h1 | h1
    · refine c.apart i j h1 hj ?_
      rw [sh i hi, sh j hj]
      simp only [Value.ownBlock]
      simpa using e
    · refine c.apart j i h1 hi ?_
      rw [sh i hi, sh j hj]
      simp only [Value.ownBlock]
      simpa using e.symm
  · rw [← sh i hi, World.ownsRow.cellAt c.own i (by omega), List.getD_eq_getElem?_getD, List.getElem?_eq_getElem (by rw [c.len]; exact hi)]; rfl
theorem Clones.caps {w0 : World} {base g cap h k : Nat} {olds xs : List Value} {f : Nat → List Nat} {wr : World} (c : Clones w0 base g cap h k olds xs f wr) : h ≤ cap ∧ cap ≤ maxLen ∧ base ≤ g := by
  rcases c.own.2 with ⟨h', _⟩ | ⟨g', cap', cur, h', hb, hg, hnc, hcm, hcs, htake⟩
  · simp at h'
  · simp only [Value.slice.injEq, Option.some.injEq, Addr.mk.injEq, and_true, true_and] at h'
    obtain ⟨rfl, rfl⟩ := h'
    exact ⟨hnc, hcm, hb⟩

/-- the values that the levels' cells hold -/
theorem LvAt.vals {w : World} {b o : Nat} {f : Nat → List Nat} : ∀ {h : Nat}, LvAt w (some ⟨b, o, none⟩) h f → ∃ us : List Value, us.length = h ∧ (∀ u ∈ us, u.oneCell' = true) ∧ ∀ i, i < h → w.cell? ⟨b, o + i, none⟩ = some (us.getD i (.slice none 0 0)) ∧ WordsAt w (us.getD i (.slice none 0 0)) (f i)
  | 0, _ => ⟨[], rfl, fun u hu => by simp at hu, fun i hi => by omega⟩
  | h + 1, hl => by
    obtain ⟨us, h1, h2, h3⟩ := LvAt.vals (h := h) (f := f) (fun i hi => hl i (by omega))
    obtain ⟨x, c, hc, hw⟩ := hl.row h (by omega)
    refine ⟨us ++ [.slice x (f h).length c], by rw [List.length_append, h1]; rfl, fun u hu => ?_, fun i hi => ?_⟩
    · rcases List.mem_append.1 hu with h' | h'
      · exact h2 u h'
      · simp at h'; rw [h']; rfl
    · rcases Nat.lt_or_ge i h with hi' | hi'
      · have e : (us ++ [Value.slice x (f h).length c]).getD i (.slice none 0 0) = us.getD i (.slice none 0 0) := by
          rw [List.getD_eq_getElem?_getD, List.getElem?_append_left (by omega), List.getD_eq_getElem?_getD]
        rw [e]; exact h3 i hi'
      · obtain rfl : i = h := by omega
        have e : (us ++ [Value.slice x (f i).length c]).getD i (.slice none 0 0) = .slice x (f i).length c := by
          rw [List.getD_eq_getElem?_getD, List.getElem?_append_right (by omega), h1, Nat.sub_self]; rfl
        rw [e]; exact ⟨hc, hw⟩

/-- a cell of a block that holds a struct is written -/
theorem OwnT.store {w : World} {base g h : Nat} {G C : Nat → Nat} {f : Nat → List Nat} (t : OwnT w base g h G C f) {R : Nat} {c : Array Value} (hR : w.heap[R]? = some (.cells c 61 (0, 0))) (j : Nat) (v : Value) : OwnT (w.setCell ⟨R, j, none⟩ v) base g h G C f := by
  obtain ⟨cur, hc⟩ := t.blk
  have hne : g ≠ R := by
    rintro rfl
    rw [hc] at hR
    simp at hR
  refine ⟨fun i hi => (t.row i hi).stays (Stays.setCell hR (by decide) j v), t.apart, fun i hi => ?_, ⟨cur, heap_set_other hc hne v⟩, t.gb⟩
  refine (World.cell?_of_block ?_).trans (t.cell i hi)
  exact heap_setCell_other w ⟨R, j, none⟩ g v (fun e => hne e)
set_option maxHeartbeats 1000000 in
theorem clone_any (v : Value) (n : Nat) (ws : List Nat) (w : World) (h : TreeAt w v n ws) :
    Calls Try.prog 55 #[v] w fun e w' => ∃ g cap G C, e = .returned (.agg #[.int .i64 (n : Int), .slice (some ⟨g, 0, none⟩) (nLev n) cap]) ∧ OwnT w' w.heap.size g (nLev n) G C (lvV ws) ∧ Fresh w w' ∧ nLev n ≤ cap ∧ cap ≤ maxLen := by
  obtain ⟨n1, n2, hlev, a, cap, rfl, hlv⟩ := h
  have q2 : (n : Int) ≤ 65536 := by omega
  have hh := nLev_in n
  obtain ⟨b, o, rfl⟩ := hlv.len hh.1
  obtain ⟨us, hus, hone, hcells⟩ := hlv.vals
  have LNS := hide (fun i => show 1 ≤ (lvV ws i).length ∧ (lvV ws i).length ≤ 65536 by rw [lv_length hlev i]; have := nb_words n i n1 n2; omega)
  have l2 : (nLev n : Int) ≤ 3 := by omega
  have l1 : (1 : Int) ≤ (nLev n : Int) := by omega
  -- the world when the levels are cloned
  obtain ⟨W1, hW1⟩ : ∃ W1, W1 = (w.alloc (.cells #[.int .i64 (n : Int), .slice (some ⟨b, o, none⟩) (nLev n) cap] 61)).alloc (.cells #[.int .i64 0, .slice none 0 0] 61) := ⟨_, rfl⟩
  have FW : Fresh w W1 := by subst hW1; exact fresh_more (fresh_box w _ _) _ _
  have SW : W1.heap.size = w.heap.size + 2 := by subst hW1; simp
  have BX : W1.heap[w.heap.size]? = some (.cells #[.int .i64 (n : Int), .slice (some ⟨b, o, none⟩) (nLev n) cap] 61 (0, 0)) := by
    subst hW1
    rw [(fresh_box (w.alloc (.cells #[.int .i64 (n : Int), .slice (some ⟨b, o, none⟩) (nLev n) cap] 61)) #[.int .i64 0, .slice none 0 0] 61).block w.heap.size (by simp)]
    exact heap_alloc_new w _
  have RX : W1.heap[w.heap.size + 1]? = some (.cells #[.int .i64 0, .slice none 0 0] 61 (0, 0)) := by
    subst hW1
    have := heap_alloc_new (w.alloc (.cells #[.int .i64 (n : Int), .slice (some ⟨b, o, none⟩) (nLev n) cap] 61)) (.cells #[.int .i64 0, .slice none 0 0] 61 (0, 0))
    rw [show (w.alloc (.cells #[.int .i64 (n : Int), .slice (some ⟨b, o, none⟩) (nLev n) cap] 61)).heap.size = w.heap.size + 1 by simp] at this
    exact this
  have CR := hide (crows_any b o (nLev n) cap us W1 hus hh.1 (by omega) hone (fun i hi => (FW.cell (World.block_lt_of_cell? _ _ (hcells i hi).1)).trans (hcells i hi).1))
  have HC := hide (fun i hi => (hcells i hi).2.fresh FW)
  have US := hide hus
  have HW := hide hW1
  have FWH := hide FW
  have BXH := hide BX
  have RXH := hide RX
  have bx0 := cell_block BX 0 _ rfl
  have bx1 := cell_block BX 1 _ rfl
  clear hlv hlev hcells hone hus hW1 FW BX RX
  generalize hN : nLev n = N at *
  go_enter Try.func55, Try.ntmps55
  go_wp2_with fail
  rw [← HW.out]
  refine CR.out.mono ?_
  rintro e w1 ⟨g, c1, rfl, ho1, hf1⟩
  have CL0 := hide (show Clones W1 W1.heap.size g c1 N 0 us us (lvV ws) w1 from ⟨US.out, ho1, fun i hi => by omega, fun i hi => rfl, fun i j _ hj => by omega, hf1⟩)
  clear ho1 hf1 CR
  go_wp2
  go_loopw [11] (fun i wr => ∃ (k : Nat) (xs : List Value), k ≤ N ∧ i = .int .i64 (k : Int) ∧ Clones W1 W1.heap.size g c1 N k us xs (lvV ws) wr) (fun i _ => (N - intOf i).toNat)
  case atStart => exact ⟨0, us, Nat.zero_le _, rfl, CL0.out⟩
  case round =>
    obtain ⟨k, xs, hk, rfl, hC⟩ := hrel
    have CC := hide hC
    have k0 : (k : Int) ≤ (N : Int) := by omega
    have hbx : wr.heap[w.heap.size]? = some (.cells #[.int .i64 (n : Int), .slice (some ⟨b, o, none⟩) N cap] 61 (0, 0)) := by rw [hC.bel.block w.heap.size (by omega)]; exact BXH.out
    have hrx : wr.heap[w.heap.size + 1]? = some (.cells #[.int .i64 0, .slice none 0 0] 61 (0, 0)) := by rw [hC.bel.block (w.heap.size + 1) (by omega)]; exact RXH.out
    rcases Nat.lt_or_ge k N with hkN | hkN
    · have hcg : wr.cell? ⟨g, k, none⟩ = some (us.getD k (.slice none 0 0)) := by
        rw [World.ownsRow.cellAt hC.own k (by omega), ← hC.rest k (Nat.le_refl _), List.getD_eq_getElem?_getD, List.getElem?_eq_getElem (by rw [hC.len]; exact hkN)]; rfl
      have k1 : (k : Int) < (N : Int) := by omega
      have WD := hide ((HC.out k hkN).below hC.bel (Nat.le_refl _))
      have CR1 := hide (crow_any _ (lvV ws k) wr WD.out (LNS.out k).1 (LNS.out k).2)
      have ST := hide (fun (w2 : World) (g' cap' : Nat) ho hf => Clones.step (g' := g') (cap' := cap') (w1 := w2) hC hkN (fun i _ => (LNS.out i).1) hC.bel.size ho hf)
      have OWN := hide hC.own
      have GT := hide (fun (w2 : World) (hf : Fresh wr w2) => own_type (ownsRow_fresh hC.own hf) g rfl)
      clear hC hbx hrx
      go_wp2_with fail
      refine CR1.out.mono ?_
      rintro e w2 ⟨g', cap', rfl, ho, hf⟩
      have SC := hide (ST.out w2 g' cap' ho hf)
      obtain ⟨cur, hcur⟩ := GT.out w2 hf
      have fz := free_block hcur k
      have cl : w2.cell? ⟨g, k, none⟩ = some (us.getD k (.slice none 0 0)) := (hf.cell (World.block_lt_of_cell? _ _ hcg)).trans hcg
      clear ho hf hcur
      go_wp2
      go_roundw
      case rel => exact ⟨k + 1, _, by omega, by go_num, SC.out⟩
      case measure => simp [intOf]; omega
    · obtain rfl : k = N := by omega
      have FIN := hide (show OwnT wr w.heap.size g k (fun i => blkOf (xs.getD i (.slice none 0 0))) (fun i => capOf (xs.getD i (.slice none 0 0))) (lvV ws) from by
        have t := hC.done fun i hi => (LNS.out i).1
        exact ⟨fun i hi => (t.row i hi).mono FWH.out.size, t.apart, t.cell, t.blk, Nat.le_trans FWH.out.size t.gb⟩)
      have CP := hide hC.caps
      have FR := hide (show Fresh w wr from FWH.out.trans hC.bel)
      have c0 := cell_block hbx 0 _ rfl
      have c3 := cell_block hrx 0 _ rfl
      have c4 := cell_block hrx 1 _ rfl
      have f3 := free_block hrx 0
      have f4 := free_block hrx 1
      have HRX := hide hrx
      clear hC hbx hrx
      have W2 := hide (fun x y => two_cells HRX.out x y)
      have O2 := hide (fun x y => (FIN.out.store HRX.out 0 x).store (heap_set_same HRX.out x) 1 y)
      have F2 := hide (fun x y => (fresh_set FR.out (show w.heap.size ≤ w.heap.size + 1 by omega) 0 x).setCell (p := ⟨w.heap.size + 1, 1, none⟩) (show w.heap.size ≤ w.heap.size + 1 by omega) y)
      go_wp2
      have W3 := hide (W2.out (.int .i64 (n : Int)) (.slice (some ⟨g, 0, none⟩) k c1))
      have O3 := hide (O2.out (.int .i64 (n : Int)) (.slice (some ⟨g, 0, none⟩) k c1))
      have F3 := hide (F2.out (.int .i64 (n : Int)) (.slice (some ⟨g, 0, none⟩) k c1))
      clear W2 O2 F2 c3 c4 f3 f4
      generalize World.setCell _ ⟨w.heap.size + 1, 1, none⟩ _ = W at W3 O3 F3 ⊢
      have h0 := cell_block W3.out 0 _ rfl
      have h1 := cell_block W3.out 1 _ rfl
      refine bodyPost_ret (by simp [results, Try.results55, go_sem, h0, h1]; try rfl) rfl ?_
      exact ⟨g, c1, _, _, rfl, O3.out, F3.out, CP.out.1, CP.out.2.1⟩
end Go.Proofs.Ytegolecdmpikhaa
