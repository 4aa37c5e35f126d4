/- What stands in fresh pages, plainly. Of no program. -/
import Derived.Test.YtakpbhijnhpdeaaRowZ
namespace Go.Proofs.Ytakpbhijnhpdeaa
open Go.RowKit

/-- what stands at byte i of a fresh page -/
def byteV (s p i : Int) : Int := (s + 31 * p + 7 * i + 1) % 256
/-- is byte i one of that page? -/
def inPage (p n : Int) (i : Nat) : Prop := 0 ≤ p ∧ 1 ≤ n ∧ (i : Int) / n = p
instance (p n : Int) (i : Nat) : Decidable (inPage p n i) := by unfold inPage; infer_instance
/-- bytes with that page filled -/
def fillV (l : List Int) (s p n : Int) : List Int := rowZ l.length fun i => if inPage p n i then byteV s p ((i : Int) % n) else l.getD i 0
theorem fillV_length (l : List Int) (s p n : Int) : (fillV l s p n).length = l.length := rowZ_length _ _
theorem fillV_not {l : List Int} {s p n : Int} (h : ∀ i, i < l.length → ¬ inPage p n i) : fillV l s p n = l := by
  unfold fillV
  refine (rowZ_congr fun i hi => if_neg (h i hi)).trans (rowZ_same l)
theorem fillV_get {l : List Int} {s p n : Int} {i : Nat} (h : i < l.length) : (fillV l s p n).getD i 0 = if inPage p n i then byteV s p ((i : Int) % n) else l.getD i 0 := rowZ_get h
theorem fillV_twice (l : List Int) (s p n : Int) : fillV (fillV l s p n) s p n = fillV l s p n := by
  refine zs_ext (by simp [fillV_length]) fun i hi => ?_
  rw [fillV_length] at hi
  rw [fillV_get hi]
  split
  · rw [fillV_length] at hi; rw [fillV_get hi, if_pos ‹_›]
  · rfl
/-- ahead of byte k -/
def fillK (l : List Int) (s : Int) (P t k : Nat) : List Int := rowZ l.length fun i => if t ≤ i ∧ i < t + k then byteV s P ((i : Int) - t) else l.getD i 0
theorem fillK_none (l : List Int) (s : Int) (P t : Nat) : fillK l s P t 0 = l := by
  unfold fillK
  exact (rowZ_congr fun i _ => if_neg (by omega)).trans (rowZ_same l)
theorem fillK_length (l : List Int) (s : Int) (P t k : Nat) : (fillK l s P t k).length = l.length := rowZ_length _ _
theorem fillK_step (l : List Int) (s : Int) (P t k : Nat) : (fillK l s P t k).set (t + k) (byteV s P k) = fillK l s P t (k + 1) := by
  unfold fillK
  rw [rowZ_set]
  refine rowZ_congr fun i _ => ?_
  by_cases e : i = t + k
  · subst e
    rw [if_pos rfl, if_pos (by omega), show ((t + k : Nat) : Int) - (t : Int) = (k : Int) by omega]
  · rw [if_neg e]
    by_cases g : t ≤ i ∧ i < t + k
    · rw [if_pos g, if_pos (by omega)]
    · rw [if_neg g, if_neg (by omega)]
theorem page_iff {P n i : Nat} (hn : 1 ≤ n) : inPage P n i ↔ P * n ≤ i ∧ i < P * n + n := by
  unfold inPage
  have e : ((i : Int) / (n : Int) = (P : Int)) ↔ i / n = P := by
    rw [← Int.natCast_ediv]; omega
  rw [e, Nat.div_eq_iff (by omega)]
  omega
theorem page_at {P n i : Nat} (h : inPage P n i) : (i : Int) % (n : Int) = (i : Int) - (P * n : Nat) := by
  unfold inPage at h
  have h3 := Int.emod_def (i : Int) (n : Int)
  rw [h.2.2, Int.mul_comm] at h3
  rw [h3]
  simp
theorem fillK_all (l : List Int) (s : Int) (P n k : Nat) (hn : 1 ≤ n) (hk : k ≤ n) (he : k = n ∨ l.length ≤ P * n + k) : fillK l s P (P * n) k = fillV l s P n := by
  unfold fillK fillV
  refine rowZ_congr fun i hi => ?_
  by_cases g : inPage P n i
  · have h := (page_iff hn).1 g
    rw [if_pos g, if_pos (by omega), page_at g]
  · rw [if_neg g, if_neg (fun h => g ((page_iff hn).2 (by omega)))]
/-- what the document fills ahead of byte k -/
def fillD (l : List Int) (s p n : Int) (k : Nat) : List Int := rowZ l.length fun i => if i < k ∧ inPage p n i then byteV s p ((i : Int) % n) else l.getD i 0
theorem fillD_none (l : List Int) (s p n : Int) : fillD l s p n 0 = l := by
  unfold fillD
  exact (rowZ_congr fun i _ => if_neg (by omega)).trans (rowZ_same l)
theorem fillD_length (l : List Int) (s p n : Int) (k : Nat) : (fillD l s p n k).length = l.length := rowZ_length _ _
theorem fillD_yes {l : List Int} {s p n : Int} {k : Nat} (h : inPage p n k) : (fillD l s p n k).set k (byteV s p ((k : Int) % n)) = fillD l s p n (k + 1) := by
  unfold fillD
  rw [rowZ_set]
  refine rowZ_congr fun i _ => ?_
  by_cases e : i = k
  · subst e
    rw [if_pos rfl, if_pos ⟨by omega, h⟩]
  · rw [if_neg e]
    by_cases g : i < k ∧ inPage p n i
    · rw [if_pos g, if_pos ⟨by omega, g.2⟩]
    · rw [if_neg g, if_neg (fun h => g ⟨by omega, h.2⟩)]
theorem fillD_no {l : List Int} {s p n : Int} {k : Nat} (h : ¬ inPage p n k) : fillD l s p n k = fillD l s p n (k + 1) := by
  unfold fillD
  refine rowZ_congr fun i _ => ?_
  by_cases g : i < k ∧ inPage p n i
  · rw [if_pos g, if_pos ⟨by omega, g.2⟩]
  · rw [if_neg g, if_neg (fun ⟨h1, h2⟩ => g ⟨by
      rcases Nat.lt_or_ge i k with h3 | h3
      · exact h3
      · exact absurd (by rwa [show i = k by omega] at h2) h, h2⟩)]
theorem fillD_all (l : List Int) (s p n : Int) (k : Nat) (h : l.length ≤ k) : fillD l s p n k = fillV l s p n := by
  unfold fillD fillV
  refine rowZ_congr fun i hi => ?_
  by_cases g : inPage p n i
  · rw [if_pos g, if_pos ⟨by omega, g⟩]
  · rw [if_neg g, if_neg (fun h => g h.2)]
end Go.Proofs.Ytakpbhijnhpdeaa
