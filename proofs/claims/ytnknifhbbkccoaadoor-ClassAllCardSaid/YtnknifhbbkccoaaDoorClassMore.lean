/- Plain arithmetic of what follows of class, of no program: what is charged is a size of a class, and the least that serves; more is never charged less. -/
import Derived.Test.YtnknifhbbkccoaaDoorClassMath
import Derived.Test.YtnknifhbbkccoaaDoorPlayRaw
namespace Go.Proofs.YtnknifhbbkccoaaDoor
open Go.RowKit

theorem up_mono {u v : Int} (h1 : 1 ≤ u) (h2 : u ≤ v) (h3 : v ≤ 65536) : upV u ≤ upV v := by
  obtain ⟨j, _, hj, _, e1⟩ := upV_pow h1 (by omega)
  obtain ⟨k, _, hk, _, e2⟩ := upV_pow (v := v) (by omega) h3
  rw [e1, e2]
  have : j ≤ k := by
    refine Nat.le_of_not_lt fun hc => ?_
    have := hj.2 k hc
    have := hk.1
    omega
  have := pow_le_pow this
  omega
theorem up_dbl {v : Int} (h1 : 1 ≤ v) (h3 : v ≤ 65536) : v ≤ upV v ∧ upV v < 2 * v := by
  obtain ⟨k, _, hk, _, e2⟩ := upV_pow h1 h3
  rw [e2]
  have := least_dbl hk (by omega)
  have := hk.1
  omega
theorem log_one : logB 1 = true := by decide
theorem pr_comm (n x y : Int) : prE n x y = prE n y x ∧ prV n x y = prV n y x := by
  have e : prE n x y = prE n y x := by
    unfold prE
    have h : mulB x y = mulB y x := by unfold mulB; rw [Int.mul_comm]
    rw [h, Int.mul_comm x y, Bool.and_comm (decide (0 ≤ x))]
  exact ⟨e, by unfold prV; rw [e, Int.mul_comm]⟩

/-- so many of so much, both small -/
theorem many_pr {N n s : Int} (n0 : 0 ≤ n) (n1 : n ≤ 255) (s0 : 0 ≤ s) (s1 : s ≤ 255) :
    ∃ p : Int, n * s = p ∧ 0 ≤ p ∧ p ≤ 65025 ∧ ((p ≤ N ∧ prE N n s = 0 ∧ prV N n s = p ∧ prE N s n = 0 ∧ prV N s n = p) ∨ (N < p ∧ prE N n s = 4 ∧ prV N n s = 0 ∧ prE N s n = 4 ∧ prV N s n = 0)) := by
  have h0 := Int.mul_nonneg n0 s0
  have h1 := Int.mul_le_mul n1 s1 s0 (by decide)
  refine ⟨n * s, rfl, h0, by omega, ?_⟩
  rw [← (pr_comm N n s).1, ← (pr_comm N n s).2]
  rcases pr_cases N n s with ⟨_, _, h⟩ | ⟨e1, e2, _, _, h⟩ | ⟨e1, e2, _, _, _, _, h⟩
  · exfalso; omega
  · refine .inr ⟨?_, e1, e2, e1, e2⟩
    rcases h with h | ⟨_, _, h⟩
    · have := (mul_fits (a := n) (b := s) (by omega) (by omega)).1
      rw [h] at this; cases this
    · exact h
  · exact .inl ⟨h, e1, e2, e1, e2⟩

/-- more is never charged less -/
theorem many_ch {c : Cf} {a l : Nat} (F : Fit c a l) {s d : Int} (s0 : 0 ≤ s) (d0 : 0 ≤ d) :
    (chE c.n (s + d) 1 = 4) ∨ (chE c.n (s + d) 1 = 0 ∧ chE c.n s 1 = 0 ∧ chV c.g c.n s 1 ≤ chV c.g c.n (s + d) 1 ∧ chV c.g c.n (s + d) 1 ≤ 2 * max (s + d) c.g ∧ s + d ≤ 65536) := by
  have g1 := F.g1; have n16 := F.n16; have gn := F.gn
  rcases ch_cases c.g c.n (s + d) 1 with ⟨_, _, h⟩ | ⟨e1, _⟩ | ⟨e1, e2, _, _, h3, h4⟩
  · exfalso
    rcases h with h | h
    · rw [log_one] at h; cases h
    · omega
  · exact .inl e1
  · refine .inr ⟨e1, ?_⟩
    rcases ch_cases c.g c.n s 1 with ⟨_, _, h⟩ | ⟨_, _, _, _, h⟩ | ⟨f1, f2, _, _, k3, k4⟩
    · exfalso
      rcases h with h | h
      · rw [log_one] at h; cases h
      · omega
    · exfalso; omega
    · have := up_dbl (v := max (s + d) (max 1 c.g)) (by omega) (by omega)
      refine ⟨f1, ?_, ?_, by omega⟩
      · rw [f2, e2]; exact up_mono (by omega) (by omega) (by omega)
      · rw [e2]; omega

/-- what is charged is the least size of a class that holds what is asked for, and its alignment -/
theorem least_ch {c : Cf} {a l : Nat} (F : Fit c a l) {n : Int} {j : Nat} (n0 : 0 ≤ n) (n1 : n ≤ c.n) (j1 : j ≤ 7) (h : ((2 ^ j : Nat) : Int) ≤ c.n) :
    ∃ (k : Nat) (X : Int), k ≤ l ∧ chE c.n n ((2 ^ j : Nat) : Int) = 0 ∧ chV c.g c.n n ((2 ^ j : Nat) : Int) = X ∧ shB a l X = true ∧ shV a l X = k ∧ n ≤ X ∧ ((2 ^ j : Nat) : Int) ≤ X ∧ c.g ≤ X ∧ X ≤ c.n ∧ X % ((2 ^ j : Nat) : Int) = 0 ∧ c.g * 2 ^ k = X ∧ (X = c.g ∨ X / 2 < n ∨ X / 2 < ((2 ^ j : Nat) : Int)) := by
  have g1 := F.g1; have n16 := F.n16; have gn := F.gn; have eg := F.g; have en := F.n
  have hp := pow16 (show j ≤ 16 by omega)
  have hlog := (log_fits (v := ((2 ^ j : Nat) : Int)) (k := j) (by omega) rfl).1
  rcases ch_cases c.g c.n n ((2 ^ j : Nat) : Int) with ⟨_, _, hh⟩ | ⟨_, _, _, _, hh⟩ | ⟨e1, e2, _, _, _, _⟩
  · exfalso
    rcases hh with hh | hh
    · rw [hlog] at hh; cases hh
    · omega
  · exfalso; omega
  obtain ⟨m, hm, hl, _, em⟩ := upV_pow (v := max n (max ((2 ^ j : Nat) : Int) c.g)) (by omega) (by omega)
  have l1 := hl.1
  have am : a ≤ m := pow_le_of (by omega)
  have jm : j ≤ m := pow_le_of (by omega)
  have ml : m ≤ a + l := by
    refine Nat.le_of_not_lt fun hc => ?_
    have := hl.2 _ hc
    rw [Nat.pow_add] at this
    omega
  have eX : 2 ^ m = 2 ^ a * 2 ^ (m - a) := by rw [← Nat.pow_add]; congr 1; omega
  have sf := sh_fits a l (m - a) (by omega)
  rw [← eX] at sf
  have le := pow_le_pow am
  have le2 := pow_le_pow ml
  rw [Nat.pow_add] at le2
  refine ⟨m - a, ((2 ^ m : Nat) : Int), by omega, e1, by rw [e2, em], sf.1, sf.2, by omega, by omega, by omega, by omega, Int.emod_eq_zero_of_dvd (pow_dvd jm), ?_, ?_⟩
  · rw [eg, ← pow_cast, ← Int.natCast_mul, ← eX]
  · rcases Nat.eq_or_lt_of_le am with ham | ham
    · left; rw [← ham]; exact eg.symm
    · right
      obtain ⟨q, rfl⟩ : ∃ q, m = q + 1 := ⟨m - 1, by omega⟩
      have h2 := hl.2 q (by omega)
      have h3 := pow_le_pow (show a ≤ q by omega)
      rw [Nat.pow_succ]
      omega
end Go.Proofs.YtnknifhbbkccoaaDoor
