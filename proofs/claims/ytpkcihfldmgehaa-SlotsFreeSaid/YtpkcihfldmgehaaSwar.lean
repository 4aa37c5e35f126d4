/- Plain arithmetic, of no program: how many bits are set, added up field by field, first of two bits, then of four, then of eight, then all bytes by one product; and how the set bits of a word part at a bit. -/
import Derived.Test.YtpkcihfldmgehaaWordMath
namespace Go.Proofs.Ytpkcihfldmgehaa
open Go.RowKit

/-- every second field of k bits, n of them -/
def pat (k : Nat) : Nat → Nat
  | 0 => 0
  | n + 1 => 2 ^ (2 * k) * pat k n + (2 ^ k - 1)
/-- each two neighbours of k bits added, n pairs -/
def pairs (k : Nat) : Nat → Nat → Nat
  | 0, _ => 0
  | n + 1, u => 2 ^ (2 * k) * pairs k n (u / 2 ^ (2 * k)) + (u % 2 ^ k + u / 2 ^ k % 2 ^ k)
/-- the sum of n fields of k bits -/
def dsum (k : Nat) : Nat → Nat → Nat
  | 0, _ => 0
  | n + 1, u => u % 2 ^ k + dsum k n (u / 2 ^ k)

theorem half_lt (k : Nat) : 2 ^ k - 1 < 2 ^ (2 * k) := by
  have h := Nat.pow_le_pow_right (show 0 < 2 by decide) (show k ≤ 2 * k by omega)
  have := Nat.two_pow_pos k
  omega
theorem and_pat (k n u : Nat) : u &&& pat k (n + 1) = 2 ^ (2 * k) * (u / 2 ^ (2 * k) &&& pat k n) + u % 2 ^ k := by
  have hm : u % 2 ^ k < 2 ^ (2 * k) := by
    have := Nat.mod_lt u (Nat.two_pow_pos k)
    have := half_lt k
    omega
  apply Nat.eq_of_testBit_eq
  intro j
  show (u &&& (2 ^ (2 * k) * pat k n + (2 ^ k - 1))).testBit j = _
  rw [Nat.testBit_and, Nat.testBit_two_pow_mul_add _ (half_lt k), Nat.testBit_two_pow_mul_add _ hm]
  by_cases h : j < 2 * k
  · rw [if_pos h, if_pos h, Nat.testBit_two_pow_sub_one, Nat.testBit_mod_two_pow, Bool.and_comm]
  · rw [if_neg h, if_neg h, Nat.testBit_and, Nat.testBit_div_two_pow, show j - 2 * k + 2 * k = j by omega]
theorem pairs_eq (k : Nat) : ∀ n u, (u &&& pat k n) + (u / 2 ^ k &&& pat k n) = pairs k n u
  | 0, u => by simp [pat, pairs]
  | n + 1, u => by
    rw [and_pat, and_pat]
    have ih := pairs_eq k n (u / 2 ^ (2 * k))
    rw [Nat.div_div_eq_div_mul, Nat.mul_comm (2 ^ (2 * k)) (2 ^ k), ← Nat.div_div_eq_div_mul] at ih
    show _ = 2 ^ (2 * k) * pairs k n (u / 2 ^ (2 * k)) + (u % 2 ^ k + u / 2 ^ k % 2 ^ k)
    rw [← ih, Nat.mul_add]
    omega
theorem digit_lt (k u : Nat) (hk : 1 ≤ k) : u % 2 ^ k + u / 2 ^ k % 2 ^ k < 2 ^ (2 * k) := by
  have h1 := Nat.mod_lt u (Nat.two_pow_pos k)
  have h2 := Nat.mod_lt (u / 2 ^ k) (Nat.two_pow_pos k)
  have h3 : 2 ^ (2 * k) = 2 ^ k * 2 ^ k := by rw [show 2 * k = k + k by omega, Nat.pow_add]
  have h4 : 2 ≤ 2 ^ k := by have := Nat.pow_le_pow_right (show 0 < 2 by decide) hk; omega
  have h5 := Nat.mul_le_mul_right (2 ^ k) h4
  omega
theorem dsum_pairs (k : Nat) (hk : 1 ≤ k) : ∀ n u, dsum (2 * k) n (pairs k n u) = dsum k (2 * n) u
  | 0, _ => rfl
  | n + 1, u => by
    have h := digit_lt k u hk
    have hp := Nat.two_pow_pos (2 * k)
    show (2 ^ (2 * k) * pairs k n (u / 2 ^ (2 * k)) + (u % 2 ^ k + u / 2 ^ k % 2 ^ k)) % 2 ^ (2 * k) + dsum (2 * k) n ((2 ^ (2 * k) * pairs k n (u / 2 ^ (2 * k)) + (u % 2 ^ k + u / 2 ^ k % 2 ^ k)) / 2 ^ (2 * k)) = u % 2 ^ k + (u / 2 ^ k % 2 ^ k + dsum k (2 * n) (u / 2 ^ k / 2 ^ k))
    rw [Nat.mul_add_mod, Nat.mod_eq_of_lt h, Nat.mul_add_div hp, Nat.div_eq_of_lt h, Nat.add_zero, dsum_pairs k hk n, Nat.div_div_eq_div_mul, ← Nat.pow_add, show k + k = 2 * k by omega]
    omega
theorem pairs_lt (k : Nat) (hk : 1 ≤ k) : ∀ n u, pairs k n u < 2 ^ (2 * k * n)
  | 0, _ => by simp [pairs]
  | n + 1, u => by
    have h := digit_lt k u hk
    have ih := pairs_lt k hk n (u / 2 ^ (2 * k))
    show 2 ^ (2 * k) * pairs k n (u / 2 ^ (2 * k)) + (u % 2 ^ k + u / 2 ^ k % 2 ^ k) < _
    have e : 2 ^ (2 * k * (n + 1)) = 2 ^ (2 * k) * 2 ^ (2 * k * n) := by rw [← Nat.pow_add]; congr 1; rw [Nat.mul_add]; omega
    rw [e]
    have := Nat.mul_le_mul_left (2 ^ (2 * k)) ih
    rw [Nat.mul_succ] at this
    omega
theorem dsum_ones : ∀ n u, dsum 1 n u = ((List.range n).filter fun i => u.testBit i).length
  | 0, _ => rfl
  | n + 1, u => by
    rw [List.range_succ_eq_map, List.filter_cons, List.filter_map]
    have e : ((fun i => u.testBit i) ∘ Nat.succ) = fun i => (u / 2).testBit i := by funext i; simp [Nat.testBit_succ]
    rw [e]
    have ih := dsum_ones n (u / 2)
    show u % 2 ^ 1 + dsum 1 n (u / 2 ^ 1) = _
    rw [Nat.pow_one, ih, Nat.testBit_zero]
    by_cases h : u % 2 = 1
    · simp [h]; omega
    · simp [h]; omega
theorem top_byte (A T R : Nat) (hA : A < 72057594037927936) (hT : T < 256) : (A + 72057594037927936 * T + 18446744073709551616 * R) % 18446744073709551616 / 72057594037927936 = T := by omega
theorem bytes_prod (e0 e1 e2 e3 e4 e5 e6 e7 : Nat) (h : e0 + e1 + e2 + e3 + e4 + e5 + e6 + e7 < 256) :
    (e0 + 256 * (e1 + 256 * (e2 + 256 * (e3 + 256 * (e4 + 256 * (e5 + 256 * (e6 + 256 * e7))))))) * 72340172838076673 % 18446744073709551616 / 72057594037927936 = e0 + e1 + e2 + e3 + e4 + e5 + e6 + e7 := by
  have hA : e0 + 256 * (e0 + e1) + 65536 * (e0 + e1 + e2) + 16777216 * (e0 + e1 + e2 + e3) + 4294967296 * (e0 + e1 + e2 + e3 + e4) + 1099511627776 * (e0 + e1 + e2 + e3 + e4 + e5) + 281474976710656 * (e0 + e1 + e2 + e3 + e4 + e5 + e6) < 72057594037927936 := by
    have s0 : e0 ≤ 255 := by omega
    have s1 : e0 + e1 ≤ 255 := by omega
    have s2 : e0 + e1 + e2 ≤ 255 := by omega
    have s3 : e0 + e1 + e2 + e3 ≤ 255 := by omega
    have s4 : e0 + e1 + e2 + e3 + e4 ≤ 255 := by omega
    have s5 : e0 + e1 + e2 + e3 + e4 + e5 ≤ 255 := by omega
    have s6 : e0 + e1 + e2 + e3 + e4 + e5 + e6 ≤ 255 := by omega
    generalize e0 + e1 + e2 + e3 + e4 + e5 + e6 = x6 at *
    generalize e0 + e1 + e2 + e3 + e4 + e5 = x5 at *
    generalize e0 + e1 + e2 + e3 + e4 = x4 at *
    generalize e0 + e1 + e2 + e3 = x3 at *
    generalize e0 + e1 + e2 = x2 at *
    generalize e0 + e1 = x1 at *
    omega
  have key := top_byte _ _ ((e1 + e2 + e3 + e4 + e5 + e6 + e7) + 256 * (e2 + e3 + e4 + e5 + e6 + e7) + 65536 * (e3 + e4 + e5 + e6 + e7) + 16777216 * (e4 + e5 + e6 + e7) + 4294967296 * (e5 + e6 + e7) + 1099511627776 * (e6 + e7) + 281474976710656 * e7) hA h
  refine Eq.trans ?_ key
  congr 2
  omega
theorem bytes_sum (v : Nat) (h : dsum 8 8 v < 256) (hv : v < 18446744073709551616) : v * 72340172838076673 % 18446744073709551616 / 72057594037927936 = dsum 8 8 v := by
  have hd : ∀ x : Nat, x = x % 2 ^ 8 + 256 * (x / 2 ^ 8) := fun x => by have := Nat.mod_add_div x (2 ^ 8); omega
  have e : dsum 8 8 v = v % 2 ^ 8 + (v / 2 ^ 8 % 2 ^ 8 + (v / 2 ^ 8 / 2 ^ 8 % 2 ^ 8 + (v / 2 ^ 8 / 2 ^ 8 / 2 ^ 8 % 2 ^ 8 + (v / 2 ^ 8 / 2 ^ 8 / 2 ^ 8 / 2 ^ 8 % 2 ^ 8 + (v / 2 ^ 8 / 2 ^ 8 / 2 ^ 8 / 2 ^ 8 / 2 ^ 8 % 2 ^ 8 + (v / 2 ^ 8 / 2 ^ 8 / 2 ^ 8 / 2 ^ 8 / 2 ^ 8 / 2 ^ 8 % 2 ^ 8 + (v / 2 ^ 8 / 2 ^ 8 / 2 ^ 8 / 2 ^ 8 / 2 ^ 8 / 2 ^ 8 / 2 ^ 8 % 2 ^ 8 + 0))))))) := rfl
  have h7 : v / 2 ^ 8 / 2 ^ 8 / 2 ^ 8 / 2 ^ 8 / 2 ^ 8 / 2 ^ 8 / 2 ^ 8 < 256 := by
    simp only [Nat.div_div_eq_div_mul]
    exact Nat.div_lt_of_lt_mul (by simpa using hv)
  rw [e] at h ⊢
  clear e
  have d0 := hd v
  have d1 := hd (v / 2 ^ 8)
  have d2 := hd (v / 2 ^ 8 / 2 ^ 8)
  have d3 := hd (v / 2 ^ 8 / 2 ^ 8 / 2 ^ 8)
  have d4 := hd (v / 2 ^ 8 / 2 ^ 8 / 2 ^ 8 / 2 ^ 8)
  have d5 := hd (v / 2 ^ 8 / 2 ^ 8 / 2 ^ 8 / 2 ^ 8 / 2 ^ 8)
  have d6 := hd (v / 2 ^ 8 / 2 ^ 8 / 2 ^ 8 / 2 ^ 8 / 2 ^ 8 / 2 ^ 8)
  have d7 : v / 2 ^ 8 / 2 ^ 8 / 2 ^ 8 / 2 ^ 8 / 2 ^ 8 / 2 ^ 8 / 2 ^ 8 % 2 ^ 8 = v / 2 ^ 8 / 2 ^ 8 / 2 ^ 8 / 2 ^ 8 / 2 ^ 8 / 2 ^ 8 / 2 ^ 8 := Nat.mod_eq_of_lt h7
  rw [d7] at h ⊢
  clear h7 d7 hd hv
  generalize v / 2 ^ 8 / 2 ^ 8 / 2 ^ 8 / 2 ^ 8 / 2 ^ 8 / 2 ^ 8 / 2 ^ 8 = v7 at *
  generalize v / 2 ^ 8 / 2 ^ 8 / 2 ^ 8 / 2 ^ 8 / 2 ^ 8 / 2 ^ 8 = v6 at *
  generalize v / 2 ^ 8 / 2 ^ 8 / 2 ^ 8 / 2 ^ 8 / 2 ^ 8 = v5 at *
  generalize v / 2 ^ 8 / 2 ^ 8 / 2 ^ 8 / 2 ^ 8 = v4 at *
  generalize v / 2 ^ 8 / 2 ^ 8 / 2 ^ 8 = v3 at *
  generalize v / 2 ^ 8 / 2 ^ 8 = v2 at *
  generalize v / 2 ^ 8 = v1 at *
  generalize v % 2 ^ 8 = e0 at *
  generalize v1 % 2 ^ 8 = e1 at *
  generalize v2 % 2 ^ 8 = e2 at *
  generalize v3 % 2 ^ 8 = e3 at *
  generalize v4 % 2 ^ 8 = e4 at *
  generalize v5 % 2 ^ 8 = e5 at *
  generalize v6 % 2 ^ 8 = e6 at *
  subst d6 d5 d4 d3 d2 d1 d0
  rw [bytes_prod e0 e1 e2 e3 e4 e5 e6 v7 (by omega)]
  omega
/-- all of it: what the three sums and the product come to -/
theorem swar (u : Nat) : pairs 4 8 (pairs 2 16 (pairs 1 32 u)) * 72340172838076673 % 18446744073709551616 / 72057594037927936 = onesV u := by
  have e : dsum 8 8 (pairs 4 8 (pairs 2 16 (pairs 1 32 u))) = onesV u := by
    have e1 := dsum_pairs 4 (by decide) 8 (pairs 2 16 (pairs 1 32 u))
    have e2 := dsum_pairs 2 (by decide) 16 (pairs 1 32 u)
    have e3 := dsum_pairs 1 (by decide) 32 u
    have e4 := dsum_ones 64 u
    exact e1.trans (e2.trans (e3.trans e4))
  have hl := pairs_lt 4 (by decide) 8 (pairs 2 16 (pairs 1 32 u))
  have h64 := ones_le u
  rw [bytes_sum _ (by omega) (by simpa using hl), e]

/-- the bits that are set, below a bit and from it on -/
theorem onesL_split (u h : Nat) (hu : u < 18446744073709551616) (hh : h ≤ 64) : onesL u = onesL (u &&& maskN 0 h) ++ (onesL (u / 2 ^ h)).map (h + ·) := by
  have r : List.range 64 = List.range h ++ (List.range (64 - h)).map (fun x => h + x) := by
    rw [← List.range_add, show h + (64 - h) = 64 by omega]
  have e1 : onesL (u &&& maskN 0 h) = (List.range h).filter (fun i => u.testBit i) := by
    unfold onesL
    have e : (List.range 64).filter (fun i => (u &&& maskN 0 h).testBit i) = (List.range 64).filter (fun i => u.testBit i && decide (i < h)) := List.filter_congr fun k hk => by
      rw [Nat.testBit_and, testBit_maskN]; have := List.mem_range.1 hk; simp [this]
    rw [e, r, List.filter_append]
    have a : (List.range h).filter (fun i => u.testBit i && decide (i < h)) = (List.range h).filter (fun i => u.testBit i) := List.filter_congr fun k hk => by simp [List.mem_range.1 hk]
    have b : ((List.range (64 - h)).map (fun x => h + x)).filter (fun i => u.testBit i && decide (i < h)) = [] := List.filter_eq_nil_iff.2 fun k hk => by
      obtain ⟨x, _, rfl⟩ := List.mem_map.1 hk
      simp
    rw [a, b, List.append_nil]
  have e2 : onesL (u / 2 ^ h) = (List.range (64 - h)).filter (fun i => u.testBit (h + i)) := by
    unfold onesL
    have q : List.range 64 = List.range (64 - h) ++ (List.range h).map (fun x => 64 - h + x) := by
      rw [← List.range_add, show 64 - h + h = 64 by omega]
    rw [q, List.filter_append]
    have a : (List.range (64 - h)).filter (fun i => (u / 2 ^ h).testBit i) = (List.range (64 - h)).filter (fun i => u.testBit (h + i)) := List.filter_congr fun k _ => by rw [Nat.testBit_div_two_pow, Nat.add_comm]
    have b : ((List.range h).map (fun x => 64 - h + x)).filter (fun i => (u / 2 ^ h).testBit i) = [] := List.filter_eq_nil_iff.2 fun k hk => by
      obtain ⟨x, _, rfl⟩ := List.mem_map.1 hk
      rw [Nat.testBit_div_two_pow, testBit_high hu (by omega)]
      simp
    rw [a, b, List.append_nil]
  rw [e1, e2]
  show (List.range 64).filter _ = _
  rw [r, List.filter_append, List.filter_map]
  rfl

/-- the n-th lies below h: it is one of those below -/
theorem nth_below (u h n : Nat) (hu : u < 18446744073709551616) (hh : h ≤ 64) (hn : n < onesV (u &&& maskN 0 h)) : nthV u n < h := by
  unfold nthV
  rw [if_neg (by omega), Int.toNat_natCast, onesL_split u h hu hh, List.getElem?_append_left hn]
  obtain ⟨i, hi⟩ : ∃ i, (onesL (u &&& maskN 0 h))[n]? = some i := ⟨_, List.getElem?_eq_getElem hn⟩
  rw [hi]
  have := (onesL_lt hi).2
  rw [Nat.testBit_and, testBit_maskN] at this
  simp at this
  simp; omega
/-- the n-th lies above: it is one of those above -/
theorem nth_above (u h n : Nat) (hu : u < 18446744073709551616) (hh : h ≤ 64) (hn : onesV (u &&& maskN 0 h) ≤ n) (hs : n < onesV u) : nthV u n = h + nthV (u / 2 ^ h) ((n - onesV (u &&& maskN 0 h) : Nat) : Int) ∧ n - onesV (u &&& maskN 0 h) < onesV (u / 2 ^ h) := by
  have hl : onesV u = onesV (u &&& maskN 0 h) + onesV (u / 2 ^ h) := by
    unfold onesV
    conv => lhs; rw [onesL_split u h hu hh]
    simp
  refine ⟨?_, by omega⟩
  unfold nthV
  rw [if_neg (by omega), if_neg (by omega), Int.toNat_natCast, Int.toNat_natCast, onesL_split u h hu hh, List.getElem?_append_right hn, List.getElem?_map]
  have hb : n - onesV (u &&& maskN 0 h) < (onesL (u / 2 ^ h)).length := by show _ < onesV _; omega
  show (Option.map _ (onesL (u / 2 ^ h))[n - onesV (u &&& maskN 0 h)]?).getD 64 = _
  rw [List.getElem?_eq_getElem hb]
  rfl
end Go.Proofs.Ytpkcihfldmgehaa
