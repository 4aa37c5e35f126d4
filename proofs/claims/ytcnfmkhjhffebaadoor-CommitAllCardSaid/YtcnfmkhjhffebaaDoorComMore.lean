/- What follows of P13.1, plainly: asked for again, no more than there may be, the fresh ones rise; a remainder. Of no program. -/
import Derived.Test.YtcnfmkhjhffebaaDoorComMath
namespace Go.Proofs.YtcnfmkhjhffebaaDoor
open Go.RowKit

theorem comX_get {on met : List Bool} {f t : Nat} {most : Int} {i : Nat} (h : i < on.length) : (comX on met f t most).getD i false = isB on met f t most i := rowB_get h
/-- asked for again -/
theorem again_same {on met : List Bool} {f t : Nat} {most : Int} : comX (comX on met f t most) met f t most = comX on met f t most := by
  refine bools_ext (by rw [comX_length]) fun i hi => ?_
  rw [comX_length, comX_length] at hi
  rw [comX_get (by rw [comX_length]; exact hi)]
  unfold isB
  rw [comX_get hi]
  by_cases g : most < (cntN on f t : Int)
  · unfold isB
    rw [decide_eq_true g]
    cases on.getD i false <;> cases met.getD i false <;> cases amB f t i <;> simp
  · have e : cntN (comX on met f t most) f t = cntN on f t := by
      unfold cntN
      rw [comX_length]
      congr 1
      refine rowB_congr fun k hk => ?_
      rw [comX_get hk]
      unfold isB
      rw [decide_eq_false g]
      cases on.getD k false <;> cases met.getD k false <;> cases amB f t k <;> simp
    rw [e]
    unfold isB
    rw [decide_eq_false g]
    cases on.getD i false <;> cases met.getD i false <;> cases amB f t i <;> simp
theorem again_none {on met : List Bool} {f t : Nat} {most : Int} : frL (comX on met f t most) f t = [] := by
  unfold frL
  refine List.filter_eq_nil_iff.2 fun i hi => ?_
  rw [List.mem_range, comX_length] at hi
  unfold frB
  rw [comX_get hi]
  unfold isB
  cases amB f t i <;> simp
theorem again_may {on met : List Bool} {f t most : Int} {F T : Nat} (h : comB on met f t most = true) : comB (comX on met F T most) met f t most = true := by
  unfold comB at h ⊢
  rw [comX_length]
  exact h
theorem rem_of (x : Int) (n : Nat) (h : 0 ≤ x) (hn : 1 ≤ n) : ∃ q : Nat, x.tmod (n : Int) = (q : Int) ∧ q < n :=
  ⟨(x % (n : Int)).toNat, by
    rw [Int.tmod_eq_emod_of_nonneg h]
    have := Int.emod_nonneg x (show (n : Int) ≠ 0 by omega)
    omega, by
    have := Int.emod_nonneg x (show (n : Int) ≠ 0 by omega)
    have := Int.emod_lt_of_pos x (show (0 : Int) < (n : Int) by omega)
    omega⟩
/-! Whoever is not refused has no more than there may be. -/
theorem cntN_row (l : List Bool) (f t n : Nat) (hn : l.length = n) : cntN l f t = cntR n fun i => l.getD i false || amB f t i := by subst hn; rfl
theorem there_le {on met : List Bool} {f t : Nat} {most : Int} (hl : on.length = met.length) (h : (cntN met f t : Int) ≤ most) : (cntR on.length (isB on met f t most) : Int) ≤ most := by
  by_cases g : most < (cntN on f t : Int)
  · have e := cntR_le (f := isB on met f t most) (g := fun i => met.getD i false || amB f t i) on.length fun i hi => by
      unfold isB at hi
      rw [decide_eq_true g] at hi
      revert hi
      cases on.getD i false <;> cases met.getD i false <;> cases amB f t i <;> simp
    rw [cntN_row met f t on.length hl.symm] at h
    omega
  · have e := cntR_le (f := isB on met f t most) (g := fun i => on.getD i false || amB f t i) on.length fun i hi => by
      unfold isB at hi
      revert hi
      cases on.getD i false <;> cases amB f t i <;> simp
    rw [cntN_row on f t on.length rfl] at g
    omega
theorem filter_cnt (p : Nat → Bool) : ∀ n, ((List.range n).filter p).length = cntR n p
  | 0 => rfl
  | n + 1 => by
    rw [List.range_succ, List.filter_append, List.length_append, filter_cnt p n, cntR_succ]
    cases h : p n <;> simp [h]
theorem fr_few (on : List Bool) (f t : Nat) : (frL on f t).length ≤ t - f := by
  unfold frL
  rw [filter_cnt]
  have h1 := cntR_le (f := frB on f t) (g := fun i => decide (f ≤ i) && decide (i < t)) on.length fun i hi => by
    unfold frB amB at hi
    simp only [Bool.and_eq_true] at hi ⊢
    exact hi.1
  have h2 := cntR_in on.length f t
  omega
theorem fr_mem {on : List Bool} {f t i : Nat} (h : i < (frL on f t).length) : (frL on f t).getD i 0 < on.length ∧ f ≤ (frL on f t).getD i 0 ∧ (frL on f t).getD i 0 < t ∧ on.getD ((frL on f t).getD i 0) false = false := by
  have hm : (frL on f t).getD i 0 ∈ frL on f t := by
    rw [List.getD_eq_getElem?_getD, List.getElem?_eq_getElem h]; exact List.getElem_mem h
  generalize (frL on f t).getD i 0 = r at *
  unfold frL at hm
  rw [List.mem_filter, List.mem_range] at hm
  obtain ⟨h1, h2⟩ := hm
  unfold frB amB at h2
  simp only [Bool.and_eq_true, decide_eq_true_eq] at h2
  exact ⟨h1, h2.1.1, h2.1.2, by simpa using h2.2⟩
theorem fr_rise {on : List Bool} {f t i : Nat} (h : i + 1 < (frL on f t).length) : (frL on f t).getD i 0 < (frL on f t).getD (i + 1) 0 := by
  have hp : (frL on f t).Pairwise (· < ·) := List.pairwise_lt_range.filter _
  have := List.pairwise_iff_getElem.1 hp i (i + 1) (by omega) h (by omega)
  rw [List.getD_eq_getElem?_getD, List.getD_eq_getElem?_getD, List.getElem?_eq_getElem h, List.getElem?_eq_getElem (show i < (frL on f t).length by omega)]
  exact this
end Go.Proofs.YtcnfmkhjhffebaaDoor
