/- What is moved away and back, plainly. Of no program. -/
import Derived.Test.YtbbfbelhdjloeaaByteLay
namespace Go.Proofs.Ytbbfbelhdjloeaa
open Go.RowKit

/-- bytes, and as many noughts -/
def bothV (l : List Int) : List Int := l ++ List.replicate l.length 0
theorem bothV_length (l : List Int) : (bothV l).length = l.length + l.length := by unfold bothV; simp
theorem bothV_low {l : List Int} {i : Nat} (h : i < l.length) : (bothV l).getD i 0 = l.getD i 0 := by
  unfold bothV
  simp [List.getD_eq_getElem?_getD, List.getElem?_append_left h]
theorem hasN_nat {L f n : Nat} (h : f + n ≤ L) : hasN L (f : Int) (n : Int) = true := hasN_iff.2 ⟨by omega, by omega, by omega, by omega⟩
theorem moveV_nat {l : List Int} {f t n : Nat} (hf : f + n ≤ l.length) (ht : t + n ≤ l.length) : moveV l f t n = layV l t (partV l f n) := by
  have : mayMove l.length (f : Int) (t : Int) (n : Int) = true := by unfold mayMove; rw [hasN_nat hf, hasN_nat ht]; rfl
  unfold moveV
  rw [if_pos this]
  rfl
theorem zeroV_nat {l : List Int} {f n : Nat} (hf : f + n ≤ l.length) : zeroV l f n = layV l f (List.replicate n 0) := by
  unfold zeroV
  rw [if_pos (hasN_nat hf)]
  rfl
theorem move_get {l : List Int} {f t n i : Nat} (hf : f + n ≤ l.length) (ht : t + n ≤ l.length) (hi : i < l.length) : (moveV l f t n).getD i 0 = if t ≤ i ∧ i < t + n then l.getD (f + (i - t)) 0 else l.getD i 0 := by
  rw [moveV_nat hf ht, layV_get hi, partV_length]
  by_cases g : t ≤ i ∧ i < t + n
  · rw [if_pos g, if_pos g, partV_get (by omega)]
  · rw [if_neg g, if_neg g]
theorem zero_get {l : List Int} {f n i : Nat} (hf : f + n ≤ l.length) (hi : i < l.length) : (zeroV l f n).getD i 0 = if f ≤ i ∧ i < f + n then 0 else l.getD i 0 := by
  rw [zeroV_nat hf, layV_get hi, List.length_replicate]
  by_cases g : f ≤ i ∧ i < f + n
  · rw [if_pos g, if_pos g]
    simp [List.getD_eq_getElem?_getD, show i - f < n by omega]
  · rw [if_neg g, if_neg g]
/-- moved away, cleared, and moved back -/
def backV (l : List Int) (F K : Nat) : List Int := moveV (zeroV (moveV (bothV l) F ((l.length + F : Nat) : Int) K) F K) ((l.length + F : Nat) : Int) F K
theorem backV_length (l : List Int) (F K : Nat) : (backV l F K).length = l.length + l.length := by unfold backV; rw [moveV_length, zeroV_length, moveV_length, bothV_length]
theorem backV_get {l : List Int} {F K i : Nat} (h : F + K ≤ l.length) (hi : i < l.length + l.length) :
    (backV l F K).getD i 0 = if l.length + F ≤ i ∧ i < l.length + F + K then l.getD (i - l.length) 0 else (bothV l).getD i 0 := by
  have e1 : ∀ j, j < l.length + l.length → (moveV (bothV l) F ((l.length + F : Nat) : Int) K).getD j 0 = if l.length + F ≤ j ∧ j < l.length + F + K then (bothV l).getD (F + (j - (l.length + F))) 0 else (bothV l).getD j 0 := fun j hj => by
    have := @move_get (bothV l) F (l.length + F) K j (by rw [bothV_length]; omega) (by rw [bothV_length]; omega) (by rw [bothV_length]; omega)
    exact this
  have e2 : ∀ j, j < l.length + l.length → (zeroV (moveV (bothV l) F ((l.length + F : Nat) : Int) K) F K).getD j 0 = if F ≤ j ∧ j < F + K then 0 else (moveV (bothV l) F ((l.length + F : Nat) : Int) K).getD j 0 := fun j hj =>
    zero_get (by rw [moveV_length, bothV_length]; omega) (by rw [moveV_length, bothV_length]; omega)
  have e3 := @move_get (zeroV (moveV (bothV l) F ((l.length + F : Nat) : Int) K) F K) (l.length + F) F K i (by rw [zeroV_length, moveV_length, bothV_length]; omega) (by rw [zeroV_length, moveV_length, bothV_length]; omega) (by rw [zeroV_length, moveV_length, bothV_length]; omega)
  unfold backV
  rw [e3]
  by_cases g : F ≤ i ∧ i < F + K
  · rw [if_pos g, if_neg (by omega), e2 _ (by omega), if_neg (by omega), e1 _ (by omega), if_pos (by omega), show F + (l.length + F + (i - F) - (l.length + F)) = i by omega]
  · rw [if_neg g, e2 i hi, if_neg g, e1 i hi]
    by_cases k : l.length + F ≤ i ∧ i < l.length + F + K
    · rw [if_pos k, if_pos k, bothV_low (by omega), show F + (i - (l.length + F)) = i - l.length by omega]
    · rw [if_neg k, if_neg k]
theorem back_low {l : List Int} {F K : Nat} (h : F + K ≤ l.length) : partV (backV l F K) 0 l.length = l := by
  refine zs_ext (partV_length _ _ _) fun i hi => ?_
  rw [partV_length] at hi
  rw [partV_get hi, Nat.zero_add, backV_get h (by omega), if_neg (by omega), bothV_low hi]
theorem back_high {l : List Int} {F K : Nat} (h : F + K ≤ l.length) : partV (backV l F K) (l.length + F) K = partV l F K := by
  refine zs_ext (by rw [partV_length, partV_length]) fun i hi => ?_
  rw [partV_length] at hi
  rw [partV_get hi, partV_get hi, backV_get h (by omega), if_pos (by omega), show l.length + F + i - l.length = F + i by omega]
end Go.Proofs.Ytbbfbelhdjloeaa
