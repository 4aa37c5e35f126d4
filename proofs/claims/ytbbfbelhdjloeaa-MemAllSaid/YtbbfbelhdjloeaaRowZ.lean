/- Rows of whole numbers, plainly: n of them, of what is said of each. Of no program. -/
import Derived.Test.YtbbfbelhdjloeaaBase
namespace Go.Proofs.Ytbbfbelhdjloeaa
open Go.RowKit

theorem zs_ext {a b : List Int} (h : a.length = b.length) (g : ∀ i, i < a.length → a.getD i 0 = b.getD i 0) : a = b := by
  refine List.ext_getElem h fun i h1 h2 => ?_
  have := g i h1
  rw [List.getD_eq_getElem?_getD, List.getD_eq_getElem?_getD, List.getElem?_eq_getElem h1, List.getElem?_eq_getElem h2] at this
  exact this
/-- n numbers, of what is said of each -/
def rowZ (n : Nat) (f : Nat → Int) : List Int := (List.range n).map f
theorem rowZ_length (n : Nat) (f : Nat → Int) : (rowZ n f).length = n := by unfold rowZ; simp
theorem rowZ_get {n : Nat} {f : Nat → Int} {i : Nat} (h : i < n) : (rowZ n f).getD i 0 = f i := by
  unfold rowZ; simp [List.getD_eq_getElem?_getD, h]
theorem rowZ_same (l : List Int) : rowZ l.length (fun i => l.getD i 0) = l := by
  refine zs_ext (rowZ_length _ _) fun i hi => ?_
  rw [rowZ_length] at hi
  rw [rowZ_get hi]
theorem rowZ_congr {n : Nat} {f g : Nat → Int} (h : ∀ i, i < n → f i = g i) : rowZ n f = rowZ n g := by
  unfold rowZ
  exact List.map_congr_left fun i hi => h i (List.mem_range.1 hi)
theorem rowZ_set {n : Nat} (f : Nat → Int) (k : Nat) (z : Int) : (rowZ n f).set k z = rowZ n (fun i => if i = k then z else f i) := by
  refine zs_ext (by simp [rowZ_length]) fun i hi => ?_
  rw [List.length_set, rowZ_length] at hi
  rw [rowZ_get hi, List.getD_eq_getElem?_getD, List.getElem?_set]
  by_cases e : k = i
  · subst e
    rw [if_pos rfl, if_pos (by rw [rowZ_length]; exact hi), if_pos rfl]; rfl
  · rw [if_neg e, if_neg (fun h => e h.symm), ← List.getD_eq_getElem?_getD, rowZ_get hi]
end Go.Proofs.Ytbbfbelhdjloeaa
