/- Slices of bytes that are read, cut: from a place on, to a place. -/
import Derived.Test.YtbbfbelhdjloeaaByteIn
import Derived.Test.YtbbfbelhdjloeaaByteLay
namespace Go.Proofs.Ytbbfbelhdjloeaa
open Go.RowKit

theorem partV_none (l : List Int) (i : Nat) : partV l i 0 = [] := List.eq_nil_of_length_eq_zero (partV_length _ _ _)
theorem bytesIn_cut {w : World} {a : Option Addr} {n cap : Nat} {l : List Int} (h : BytesIn w (.slice a n cap) l) (i j : Nat) (hij : i ≤ j) (hj : j ≤ l.length) :
    BytesIn w (.slice (if cap = i then a else Option.map (fun x => x.add i) a) (j - i) (cap - i)) (partV l i (j - i)) := by
  have h1 := h.1
  refine ⟨by rw [partV_length]; omega, ?_⟩
  rcases h.2 with ⟨a', e, rfl⟩ | ⟨b, o, c, e, hlc, hcm, hc⟩
  · simp only [Value.slice.injEq] at e
    obtain ⟨rfl, rfl, rfl⟩ := e
    simp at hj
    obtain rfl : j = 0 := hj
    obtain rfl : i = 0 := by omega
    exact .inl ⟨a, by simp, partV_none _ _⟩
  · simp only [Value.slice.injEq] at e
    obtain ⟨rfl, rfl, rfl⟩ := e
    by_cases g : cap = i
    · obtain rfl : j = i := by omega
      rw [if_pos g, Nat.sub_self, show cap - j = 0 by omega]
      exact .inl ⟨_, rfl, partV_none _ _⟩
    · rw [if_neg g]
      refine .inr ⟨b, o + i, cap - i, by rw [partV_length]; simp [Go.WideShapes.add_plain], by rw [partV_length]; omega, by omega, fun k hk => ?_⟩
      rw [partV_length] at hk
      rw [partV_get hk, Nat.add_assoc]
      exact hc (i + k) (by omega)
theorem bytesIn_front {w : World} {a : Option Addr} {n cap : Nat} {l : List Int} (h : BytesIn w (.slice a n cap) l) (j : Nat) (hj : j ≤ l.length) : BytesIn w (.slice a j cap) (partV l 0 j) := by
  have h1 := h.1
  refine ⟨by rw [partV_length]; omega, ?_⟩
  rcases h.2 with ⟨a', e, rfl⟩ | ⟨b, o, c, e, hlc, hcm, hc⟩
  · simp only [Value.slice.injEq] at e
    obtain ⟨rfl, rfl, rfl⟩ := e
    simp at hj
    obtain rfl : j = 0 := hj
    exact .inl ⟨_, rfl, partV_none _ _⟩
  · simp only [Value.slice.injEq] at e
    obtain ⟨rfl, rfl, rfl⟩ := e
    refine .inr ⟨b, o, cap, by rw [partV_length], by rw [partV_length]; omega, by omega, fun k hk => ?_⟩
    rw [partV_length] at hk
    rw [partV_get hk, Nat.zero_add]
    exact hc k (by omega)
end Go.Proofs.Ytbbfbelhdjloeaa
