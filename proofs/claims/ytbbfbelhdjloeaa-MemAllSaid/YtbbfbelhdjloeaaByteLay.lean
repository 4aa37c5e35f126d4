/- Rows of whole numbers with others laid over them from a place on; what bytes are there. Of no program. -/
import Derived.Test.YtbbfbelhdjloeaaRowZ
namespace Go.Proofs.Ytbbfbelhdjloeaa
open Go.RowKit

/-- numbers laid over others, from place t on -/
def layV (l : List Int) (t : Nat) (cs : List Int) : List Int := rowZ l.length fun i => if t ≤ i ∧ i < t + cs.length then cs.getD (i - t) 0 else l.getD i 0
theorem layV_length (l : List Int) (t : Nat) (cs : List Int) : (layV l t cs).length = l.length := rowZ_length _ _
theorem layV_get {l : List Int} {t : Nat} {cs : List Int} {i : Nat} (h : i < l.length) : (layV l t cs).getD i 0 = if t ≤ i ∧ i < t + cs.length then cs.getD (i - t) 0 else l.getD i 0 := rowZ_get h
theorem layV_none (l : List Int) (t : Nat) : layV l t [] = l := by
  unfold layV
  exact (rowZ_congr fun i _ => if_neg (by simp)).trans (rowZ_same l)
theorem layV_cons (l : List Int) (t : Nat) (z : Int) (cs : List Int) (ht : t < l.length) : layV (l.set t z) (t + 1) cs = layV l t (z :: cs) := by
  refine zs_ext (by simp [layV_length]) fun i hi => ?_
  rw [layV_length, List.length_set] at hi
  rw [layV_get (by simpa using hi), layV_get hi, List.length_cons]
  by_cases e : i = t
  · subst e
    rw [if_neg (by omega), if_pos (by omega), Nat.sub_self, List.getD_cons_zero]
    simp [List.getD_eq_getElem?_getD, hi]
  · by_cases g : t ≤ i ∧ i < t + (cs.length + 1)
    · rw [if_pos (by omega), if_pos g, show i - t = (i - (t + 1)) + 1 by omega, List.getD_cons_succ]
    · rw [if_neg (by omega), if_neg g, List.getD_eq_getElem?_getD, List.getElem?_set, if_neg (by omega), ← List.getD_eq_getElem?_getD]
/-- one number alone -/
theorem layV_one (l : List Int) (t : Nat) (z : Int) (ht : t < l.length) : layV l t [z] = l.set t z := by
  rw [← layV_cons l t z [] ht, layV_none]
/-- are there n from at on, of so many? -/
def hasN (L : Nat) (at' n : Int) : Bool := decide (0 ≤ at' ∧ at' ≤ (L : Int) ∧ 0 ≤ n ∧ n ≤ (L : Int) - at')
theorem hasN_iff {L : Nat} {at' n : Int} : hasN L at' n = true ↔ (0 ≤ at' ∧ at' ≤ (L : Int) ∧ 0 ≤ n ∧ n ≤ (L : Int) - at') := decide_eq_true_iff
theorem hasN_not {L : Nat} {at' n : Int} : hasN L at' n = false ↔ ¬ (0 ≤ at' ∧ at' ≤ (L : Int) ∧ 0 ≤ n ∧ n ≤ (L : Int) - at') := decide_eq_false_iff_not
/-- n noughts from at on -/
def zeroV (l : List Int) (at' n : Int) : List Int := if hasN l.length at' n then layV l at'.toNat (List.replicate n.toNat 0) else l
/-- n of them, from at on -/
def partV (l : List Int) (f n : Nat) : List Int := rowZ n fun i => l.getD (f + i) 0
theorem partV_length (l : List Int) (f n : Nat) : (partV l f n).length = n := rowZ_length _ _
theorem partV_get {l : List Int} {f n i : Nat} (h : i < n) : (partV l f n).getD i 0 = l.getD (f + i) 0 := rowZ_get h
/-- may they be moved so? -/
def mayMove (L : Nat) (f t n : Int) : Bool := hasN L f n && hasN L t n
/-- n numbers from f on moved to t -/
def moveV (l : List Int) (f t n : Int) : List Int := if mayMove l.length f t n then layV l t.toNat (partV l f.toNat n.toNat) else l
/-- is there one at that place? -/
def hasY (L : Nat) (i : Int) : Bool := decide (0 ≤ i ∧ i < (L : Int))
/-- one number put -/
def putV (l : List Int) (i z : Int) : List Int := if hasY l.length i then l.set i.toNat z else l
theorem putV_length (l : List Int) (i z : Int) : (putV l i z).length = l.length := by unfold putV; split <;> simp
theorem zeroV_length (l : List Int) (i n : Int) : (zeroV l i n).length = l.length := by unfold zeroV; split <;> simp [layV_length]
theorem moveV_length (l : List Int) (f t n : Int) : (moveV l f t n).length = l.length := by unfold moveV; split <;> simp [layV_length]
/-- the one at that place, or nought -/
def getV (l : List Int) (i : Int) : Int := if hasY l.length i then l.getD i.toNat 0 else 0
/-- what the document's own loops have laid ahead of byte k -/
theorem layV_step (l : List Int) (t : Nat) (cs : List Int) (k : Nat) (hk : k < cs.length) (ht : t + k < l.length) :
    (layV l t (cs.take k)).set (t + k) (cs.getD k 0) = layV l t (cs.take (k + 1)) := by
  refine zs_ext (by simp [layV_length]) fun i hi => ?_
  rw [List.length_set, layV_length] at hi
  rw [layV_get hi, List.getD_eq_getElem?_getD, List.getElem?_set]
  have e1 : (cs.take k).length = k := by rw [List.length_take]; omega
  have e2 : (cs.take (k + 1)).length = k + 1 := by rw [List.length_take]; omega
  by_cases e : t + k = i
  · subst e
    rw [if_pos rfl, if_pos (by rw [layV_length]; exact ht), if_pos (by omega), show t + k - t = k by omega]
    simp [List.getD_eq_getElem?_getD, hk]
  · rw [if_neg e, ← List.getD_eq_getElem?_getD, layV_get hi, e1, e2]
    by_cases g : t ≤ i ∧ i < t + k
    · rw [if_pos g, if_pos (by omega)]
      simp [List.getD_eq_getElem?_getD, show i - t < k by omega, show i - t < k + 1 by omega]
    · rw [if_neg g, if_neg (by omega)]
end Go.Proofs.Ytbbfbelhdjloeaa
