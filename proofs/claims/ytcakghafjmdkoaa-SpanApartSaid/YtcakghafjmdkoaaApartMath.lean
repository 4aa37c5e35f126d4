/- Pieces and what they cover, byte by byte, of no program. -/
import Derived.Test.YtcakghafjmdkoaaSpanMath
namespace Go.Proofs.Ytcakghafjmdkoaa

def inB (p : Pc) (k : Nat) : Bool := decide (p.1 ≤ (k : Int)) && decide ((k : Int) < p.1 + p.2)
theorem in_iff (p : Pc) (k : Nat) : inB p k = true ↔ p.1 ≤ (k : Int) ∧ (k : Int) < p.1 + p.2 := by
  unfold inB
  simp only [Bool.and_eq_true, decide_eq_true_eq]
/-- is it covered? -/
def cov (ps : List Pc) (k : Nat) : Bool := ps.any fun p => inB p k
theorem cov_true {ps : List Pc} {k : Nat} : cov ps k = true ↔ ∃ p ∈ ps, p.1 ≤ (k : Int) ∧ (k : Int) < p.1 + p.2 := by
  unfold cov
  rw [List.any_eq_true]
  exact ⟨fun ⟨p, h1, h2⟩ => ⟨p, h1, (in_iff p k).1 h2⟩, fun ⟨p, h1, h2⟩ => ⟨p, h1, (in_iff p k).2 h2⟩⟩
theorem cov_nil (k : Nat) : cov [] k = false := rfl
theorem cov_false {ps : List Pc} {k : Nat} (h : ∀ p ∈ ps, ¬ (p.1 ≤ (k : Int) ∧ (k : Int) < p.1 + p.2)) : cov ps k = false := by
  rw [Bool.eq_false_iff]
  intro hc
  obtain ⟨p, hp, h1⟩ := cov_true.1 hc
  exact h p hp h1
theorem cov_ins (ps : List Pc) (s : Pc) (k : Nat) : cov (insV ps s) k = (cov ps k || inB s k) := by
  rw [Bool.eq_iff_iff, Bool.or_eq_true, cov_true, cov_true, in_iff]
  have hm : ∀ p, p ∈ insV ps s ↔ p ∈ ps ∨ p = s := by
    intro p
    unfold insV
    have e : ∀ q, q ∈ ps ↔ q ∈ ps.take (aheadN ps s.1) ∨ q ∈ ps.drop (aheadN ps s.1) := fun q => by
      rw [← List.mem_append, List.take_append_drop]
    rw [List.mem_append, List.mem_cons, e p]
    constructor
    · rintro (h | h | h)
      · exact .inl (.inl h)
      · exact .inr h
      · exact .inl (.inr h)
    · rintro ((h | h) | h)
      · exact .inl h
      · exact .inr (.inr h)
      · exact .inr (.inl h)
  constructor
  · rintro ⟨p, hp, h⟩
    rcases (hm p).1 hp with h' | rfl
    · exact .inl ⟨p, h', h⟩
    · exact .inr h
  · rintro (⟨p, hp, h⟩ | h)
    · exact ⟨p, (hm p).2 (.inl hp), h⟩
    · exact ⟨s, (hm s).2 (.inr rfl), h⟩

/-- are k of them, from X on, not set? -/
def freeN (f : Nat → Bool) (X : Nat) : Nat → Bool
  | 0 => true
  | k + 1 => freeN f X k && !f (X + k)
theorem free_iff (f : Nat → Bool) (X : Nat) : ∀ k, freeN f X k = true ↔ ∀ t, t < k → f (X + t) = false
  | 0 => by simp [freeN]
  | k + 1 => by
    unfold freeN
    rw [Bool.and_eq_true, free_iff f X k, Bool.not_eq_true']
    constructor
    · rintro ⟨h1, h2⟩ t ht
      rcases Nat.lt_or_ge t k with h | h
      · exact h1 t h
      · rw [show t = k by omega]; exact h2
    · intro h
      exact ⟨fun t ht => h t (by omega), h k (by omega)⟩
theorem put_free {ps : List Pc} (hg : Good ps) {X Y : Nat} (hs : aloneB ((X : Int), (Y : Int)) = true) : putB ps ((X : Int), (Y : Int)) = freeN (cov ps) X Y := by
  rw [Bool.eq_iff_iff, put_iff, free_iff]
  constructor
  · rintro ⟨_, h⟩ t ht
    refine cov_false fun p hp hc => ?_
    obtain ⟨i, hi, rfl⟩ := mem_nth hp
    have := (over_false _ _).1 (any_nth h hi)
    simp only at this
    omega
  · intro h
    refine ⟨hs, any_false fun t ht => (over_false _ _).2 ?_⟩
    have hp := hg.pos ht
    have hs' := (alone_iff _).1 hs
    simp only at hs' ⊢
    rcases Int.lt_or_le (nth ps t).1 ((X : Int) + Y) with h1 | h1
    · right
      rcases Int.lt_or_le (X : Int) ((nth ps t).1 + (nth ps t).2) with h2 | h2
      · exfalso
        rcases Int.lt_or_le (nth ps t).1 (X : Int) with h3 | h3
        · have := h 0 (by omega)
          rw [Bool.eq_false_iff] at this
          exact this (cov_true.2 ⟨_, nth_mem ht, by omega, by omega⟩)
        · have := h ((nth ps t).1 - X).toNat (by omega)
          rw [Bool.eq_false_iff] at this
          exact this (cov_true.2 ⟨_, nth_mem ht, by omega, by omega⟩)
      · exact h2
    · left; exact h1

/-! how many, and where the last one ends -/
def cntB (f : Nat → Bool) : Nat → Nat
  | 0 => 0
  | k + 1 => cntB f k + if f k then 1 else 0
def lastB (f : Nat → Bool) : Nat → Nat
  | 0 => 0
  | k + 1 => if f k then k + 1 else lastB f k
theorem cntB_le (f : Nat → Bool) : ∀ k, cntB f k ≤ k
  | 0 => Nat.le_refl _
  | k + 1 => by unfold cntB; have := cntB_le f k; split <;> omega
theorem lastB_le (f : Nat → Bool) : ∀ k, lastB f k ≤ k
  | 0 => Nat.le_refl _
  | k + 1 => by unfold lastB; have := lastB_le f k; split <;> omega
theorem cntB_congr {f g : Nat → Bool} : ∀ k, (∀ t, t < k → f t = g t) → cntB f k = cntB g k
  | 0, _ => rfl
  | k + 1, h => by unfold cntB; rw [cntB_congr k (fun t ht => h t (by omega)), h k (by omega)]
theorem lastB_congr {f g : Nat → Bool} : ∀ k, (∀ t, t < k → f t = g t) → lastB f k = lastB g k
  | 0, _ => rfl
  | k + 1, h => by unfold lastB; rw [lastB_congr k (fun t ht => h t (by omega)), h k (by omega)]
theorem cnt_piece (x y : Nat) : ∀ k, cntB (fun t => decide (x ≤ t ∧ t < x + y)) k = min (k - x) y
  | 0 => by unfold cntB; omega
  | k + 1 => by
    unfold cntB
    rw [cnt_piece x y k]
    by_cases h : x ≤ k ∧ k < x + y
    · rw [if_pos (by simpa using h)]; omega
    · rw [if_neg (by simpa using h)]; omega
theorem cnt_or {f g : Nat → Bool} : ∀ k, (∀ t, t < k → f t = true → g t = false) → cntB (fun t => f t || g t) k = cntB f k + cntB g k
  | 0, _ => rfl
  | k + 1, h => by
    unfold cntB
    rw [cnt_or k (fun t ht => h t (by omega))]
    cases hf : f k with
    | true => rw [h k (by omega) hf]; simp; omega
    | false => simp; omega
theorem cnt_none : ∀ k, cntB (fun _ => false) k = 0
  | 0 => rfl
  | k + 1 => by unfold cntB; rw [cnt_none k]; rfl
theorem cnt_cov : ∀ (ps : List Pc) (N : Nat), Val ps → (∀ p ∈ ps, p.1 + p.2 ≤ (N : Int)) → ((cntB (cov ps) N : Nat) : Int) = tot ps
  | [], N, _, _ => by
    have : cntB (cov []) N = 0 := cnt_none N
    rw [this]; rfl
  | p :: r, N, hv, hN => by
    obtain ⟨hg, hp⟩ := hv
    obtain ⟨h1, h2⟩ := List.pairwise_cons.1 hp
    have hpp := (alone_iff p).1 (hg p (by simp))
    have ih := cnt_cov r N ⟨fun q hq => hg q (by simp [hq]), h2⟩ (fun q hq => hN q (by simp [hq]))
    have e1 : cntB (cov (p :: r)) N = cntB (fun t => inB p t || cov r t) N := rfl
    rw [e1, cnt_or N (fun t _ ht => cov_false fun q hq hc => by
      have := (in_iff p t).1 ht
      have := h1 q hq
      omega)]
    have hN' := hN p (by simp)
    have e2 : cntB (fun t => inB p t) N = cntB (fun t => decide (p.1.toNat ≤ t ∧ t < p.1.toNat + p.2.toNat)) N := cntB_congr N fun t _ => by
      rw [Bool.eq_iff_iff, in_iff, decide_eq_true_eq]
      omega
    rw [e2, cnt_piece]
    have e3 : tot (p :: r) = p.2 + tot r := by unfold tot; simp
    have e4 : cntB (fun t => cov r t) N = cntB (cov r) N := rfl
    rw [e3, ← ih, e4]
    omega
theorem last_is {f : Nat → Bool} {e : Nat} : ∀ N, e ≤ N → (e = 0 ∨ f (e - 1) = true) → (∀ t, e ≤ t → t < N → f t = false) → lastB f N = e
  | 0, h, _, _ => by unfold lastB; omega
  | N + 1, h, h1, h2 => by
    unfold lastB
    by_cases hN : e = N + 1
    · subst hN
      rcases h1 with h1 | h1
      · omega
      · rw [if_pos (by simpa using h1)]
    · rw [if_neg (by rw [h2 N (by omega) (by omega)]; simp)]
      exact last_is N (by omega) h1 fun t ht ht' => h2 t ht (by omega)
theorem last_cov {ps : List Pc} {N : Nat} (hv : Val ps) (hN : ∀ p ∈ ps, p.1 + p.2 ≤ (N : Int)) : ((lastB (cov ps) N : Nat) : Int) = endV ps := by
  by_cases h0 : ps.length = 0
  · have : ps = [] := List.eq_nil_of_length_eq_zero h0
    subst this
    rw [last_is (f := cov []) N (e := 0) (Nat.zero_le _) (.inl rfl) (fun t _ _ => rfl)]
    rfl
  · obtain ⟨m, hm⟩ : ∃ m, ps.length = m + 1 := ⟨ps.length - 1, by omega⟩
    have hp := hv.pos (show m < ps.length by omega)
    have he : endV ps = (nth ps m).1 + (nth ps m).2 := by unfold endV; rw [if_neg h0, hm]; rfl
    have hN' := hN (nth ps m) (nth_mem (by omega))
    rw [he, last_is N (e := ((nth ps m).1 + (nth ps m).2).toNat) (by omega) (.inr (cov_true.2 ⟨nth ps m, nth_mem (by omega), by omega, by omega⟩)) (fun t ht ht' => cov_false fun p hp' hc => by
      obtain ⟨i, hi, rfl⟩ := mem_nth hp'
      rcases Nat.lt_or_ge i m with h | h
      · have := hv.lt h (show m < ps.length by omega); omega
      · rw [show i = m by omega] at hc; omega)]
    omega
end Go.Proofs.Ytcakghafjmdkoaa
