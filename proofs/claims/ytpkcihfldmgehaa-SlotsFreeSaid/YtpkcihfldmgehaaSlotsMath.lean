/- Which places are free, of no program: a place of class k has something live in it (clsB); the words of its tree (trW). -/
import Derived.Test.YtpkcihfldmgehaaTreeMath
namespace Go.Proofs.Ytpkcihfldmgehaa

def halfB (p : Nat → Bool) (j : Nat) : Bool := p (2 * j) || p (2 * j + 1)
/-- has place j of class k something live in it? -/
def clsB (p : Nat → Bool) : Nat → Nat → Bool
  | 0 => p
  | k + 1 => halfB (clsB p k)
theorem cls_iff (p : Nat → Bool) : ∀ (k j : Nat), clsB p k j = true ↔ ∃ t, t < 2 ^ k ∧ p (j * 2 ^ k + t) = true
  | 0, j => by
    constructor
    · intro h; exact ⟨0, by decide, by simpa [clsB] using h⟩
    · rintro ⟨t, ht, h⟩
      have : t = 0 := by simpa using ht
      subst this
      simpa [clsB] using h
  | k + 1, j => by
    show (clsB p k (2 * j) || clsB p k (2 * j + 1)) = true ↔ _
    rw [Bool.or_eq_true, cls_iff p k, cls_iff p k]
    have e : 2 ^ (k + 1) = 2 * 2 ^ k := by rw [Nat.pow_succ, Nat.mul_comm]
    constructor
    · rintro (⟨t, ht, h⟩ | ⟨t, ht, h⟩)
      · refine ⟨t, by omega, ?_⟩
        rw [e, show j * (2 * 2 ^ k) = 2 * j * 2 ^ k by rw [Nat.mul_left_comm, Nat.mul_assoc]]
        exact h
      · refine ⟨2 ^ k + t, by omega, ?_⟩
        rw [e, show j * (2 * 2 ^ k) = 2 * j * 2 ^ k by rw [Nat.mul_left_comm, Nat.mul_assoc], ← Nat.add_assoc, ← Nat.succ_mul]
        exact h
    · rintro ⟨t, ht, h⟩
      rw [e, show j * (2 * 2 ^ k) = 2 * j * 2 ^ k by rw [Nat.mul_left_comm, Nat.mul_assoc]] at h
      rcases Nat.lt_or_ge t (2 ^ k) with h1 | h1
      · exact .inl ⟨t, h1, h⟩
      · refine .inr ⟨t - 2 ^ k, by omega, ?_⟩
        rw [Nat.succ_mul, Nat.add_assoc, Nat.add_sub_cancel' h1]
        exact h
theorem cls_congr {p q : Nat → Bool} {N : Nat} (h : ∀ i, i < N → p i = q i) : ∀ (k j : Nat), j < N / 2 ^ k → clsB p k j = clsB q k j
  | 0, j, hj => h j (by simpa using hj)
  | k + 1, j, hj => by
    have e : N / 2 ^ (k + 1) = N / 2 ^ k / 2 := by rw [Nat.pow_succ, Nat.div_div_eq_div_mul]
    rw [e] at hj
    show (clsB p k (2 * j) || clsB p k (2 * j + 1)) = (clsB q k (2 * j) || clsB q k (2 * j + 1))
    rw [cls_congr h k (2 * j) (by omega), cls_congr h k (2 * j + 1) (by omega)]
/-- the words of class k's tree -/
def trW (N : Nat) (p : Nat → Bool) (k : Nat) : List Nat := packV (N / 2 ^ k) (clsB p k)
theorem tr_lev (N : Nat) (p : Nat → Bool) (k : Nat) : Lev (N / 2 ^ k) (trW N p k) := lev_pack _ _
theorem tr_bit {N : Nat} {p : Nat → Bool} {k j : Nat} (h : j < N / 2 ^ k) : bitV (trW N p k) j = clsB p k j := by
  unfold trW
  rw [bitV_packV _ _ _ (by omega), decide_eq_false (by omega)]; rfl
theorem tr_congr {N : Nat} {p q : Nat → Bool} (h : ∀ i, i < N → p i = q i) (k : Nat) : trW N p k = trW N q k := pack_congr fun i hi => cls_congr h k i hi
/-- may there be so many classes? -/
def Cls (N c : Nat) : Prop := 1 ≤ c ∧ c ≤ 17 ∧ 1 ≤ N ∧ N ≤ 65536 ∧ N % 2 ^ (c - 1) = 0
theorem Cls.pos {N c : Nat} (h : Cls N c) {k : Nat} (hk : k < c) : 1 ≤ N / 2 ^ k ∧ N / 2 ^ k ≤ 65536 := by
  obtain ⟨h1, h2, h3, h4, h5⟩ := h
  have hd : 2 ^ k ∣ N := Nat.dvd_trans (Nat.pow_dvd_pow 2 (show k ≤ c - 1 by omega)) (Nat.dvd_of_mod_eq_zero h5)
  exact ⟨Nat.div_pos (Nat.le_of_dvd (by omega) hd) (Nat.pow_pos (by decide)), Nat.le_trans (Nat.div_le_self _ _) h4⟩
theorem Cls.half {N c : Nat} (h : Cls N c) {k : Nat} (hk : k + 1 < c) : 2 * (N / 2 ^ (k + 1)) = N / 2 ^ k := by
  obtain ⟨h1, h2, h3, h4, h5⟩ := h
  have hd : 2 ^ (k + 1) ∣ N := Nat.dvd_trans (Nat.pow_dvd_pow 2 (show k + 1 ≤ c - 1 by omega)) (Nat.dvd_of_mod_eq_zero h5)
  obtain ⟨m, rfl⟩ := hd
  rw [Nat.mul_div_cancel_left _ (Nat.pow_pos (by decide)), Nat.pow_succ, Nat.mul_assoc, Nat.mul_div_cancel_left _ (Nat.pow_pos (by decide))]
theorem half_div (N k : Nat) : N / 2 ^ (k + 1) = N / 2 ^ k / 2 := by rw [Nat.pow_succ, Nat.div_div_eq_div_mul]
/-- granules that are turned -/
def useB (p : Nat → Bool) (f m : Int) (on : Bool) (i : Nat) : Bool := if 0 ≤ f ∧ 0 ≤ m ∧ f ≤ (i : Int) ∧ (i : Int) - f < m then on else p i
/-- a great place that is free has small ones in it that are -/
theorem free_below {p : Nat → Bool} {k j : Nat} (h : clsB p (k + 1) j = false) : clsB p k (2 * j) = false ∧ clsB p k (2 * j + 1) = false := by
  have h' : (clsB p k (2 * j) || clsB p k (2 * j + 1)) = false := h
  rw [Bool.or_eq_false_iff] at h'
  exact h'
end Go.Proofs.Ytpkcihfldmgehaa
