/- What follows of the lowest place of a class: of no program's text. -/
import Derived.Test.YtpkcihfldmgehaaSlotsMem
namespace Go.Proofs.Ytpkcihfldmgehaa

theorem low_cases {N c : Nat} (p : Nat → Bool) {k : Nat} (hk : k < c) :
    (∃ i, lowS N c p (k : Int) = some i ∧ i < N / 2 ^ k ∧ clsB p k i = false ∧ ∀ j, j < i → clsB p k j = true) ∨ (lowS N c p (k : Int) = none ∧ ∀ j, j < N / 2 ^ k → clsB p k j = true) := by
  have e : lowS N c p (k : Int) = first (bitV (trW N p k)) 0 (N / 2 ^ k) := by
    unfold lowS firstT
    rw [if_pos (by omega), Int.toNat_natCast, if_neg (by decide)]; rfl
  rw [e]
  rcases first_cases (bitV (trW N p k)) 0 (N / 2 ^ k) with ⟨i, e1, _, h2, h3, h4⟩ | ⟨e1, h⟩
  · refine .inl ⟨i, e1, h2, by rw [← tr_bit h2]; exact h3, fun j hj => ?_⟩
    rw [← tr_bit (show j < N / 2 ^ k by omega)]
    exact h4 j (Nat.zero_le _) hj
  · exact .inr ⟨e1, fun j hj => by rw [← tr_bit hj]; exact h j (Nat.zero_le _) hj⟩
/-- where a great place is free, a small one is, at or ahead of it -/
theorem low_less {N c : Nat} {p : Nat → Bool} {k i : Nat} (hc : Cls N c) (hk : k + 1 < c) (h : lowS N c p ((k + 1 : Nat) : Int) = some i) : ∃ j, lowS N c p (k : Int) = some j ∧ j ≤ 2 * i ∧ i ≤ 65536 := by
  have hh := hc.half hk
  have hp := (hc.pos (show k + 1 < c from hk)).2
  rcases low_cases (N := N) p hk with ⟨i', e1, h2, h3, _⟩ | ⟨e1, _⟩
  · rw [e1] at h
    cases h
    have hf := (free_below h3).1
    rcases low_cases (N := N) p (show k < c by omega) with ⟨j, e2, _, _, h6⟩ | ⟨e2, h6⟩
    · refine ⟨j, e2, ?_, by omega⟩
      rcases Nat.lt_or_ge (2 * i) j with g | g
      · have := h6 _ g; rw [hf] at this; cases this
      · exact g
    · have := h6 (2 * i) (by omega); rw [hf] at this; cases this
  · rw [e1] at h; cases h
end Go.Proofs.Ytpkcihfldmgehaa
