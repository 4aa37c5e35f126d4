/- Pages that blocks meet, plainly: numbers and lists. Of no program. -/
import Derived.Test.YtcnfmkhjhffebaaDoorBase
namespace Go.Proofs.YtcnfmkhjhffebaaDoor
open Go.RowKit

/-- a block: where, how much, how much was asked for -/
abbrev Bk := Nat × Nat × Nat
/-- the first page, the one behind the last -/
def pF (p at' : Nat) : Nat := at' / p
def pB (p at' n : Nat) : Nat := if n = 0 then at' / p else (at' + n - 1) / p + 1
def pgF (p at' n : Int) : Int := if 1 ≤ p ∧ 0 ≤ at' ∧ 0 ≤ n then (pF p.toNat at'.toNat : Int) else 0
def pgB (p at' n : Int) : Int := if 1 ≤ p ∧ 0 ≤ at' ∧ 0 ≤ n then (pB p.toNat at'.toNat n.toNat : Int) else 0
theorem pgF_nat {p at' n : Nat} (h : 1 ≤ p) : pgF (p : Int) (at' : Int) (n : Int) = (pF p at' : Int) := by
  unfold pgF; rw [if_pos (by omega)]; simp
theorem pgB_nat {p at' n : Nat} (h : 1 ≤ p) : pgB (p : Int) (at' : Int) (n : Int) = (pB p at' n : Int) := by
  unfold pgB; rw [if_pos (by omega)]; simp
/-- is page i met by a block? -/
def inB (p : Nat) (b : Bk) (i : Nat) : Bool := decide (pF p b.1 ≤ i) && decide (i < pB p b.1 b.2.1)
def metB (p : Nat) (bl : List Bk) (i : Nat) : Bool := bl.any fun b => inB p b i
def metL (L p : Nat) (bl : List Bk) : List Bool := (List.range L).map (metB p bl)
def metV (p size : Int) (bl : List Bk) : List Bool := if 1 ≤ p ∧ 0 ≤ size ∧ size ≤ 65536 then metL (size.toNat / p.toNat) p.toNat bl else []
def cntL : List Bool → Nat
  | [] => 0
  | b :: l => (if b then 1 else 0) + cntL l
theorem metL_length (L p : Nat) (bl : List Bk) : (metL L p bl).length = L := by unfold metL; simp
theorem metL_get {L p : Nat} {bl : List Bk} {i : Nat} (h : i < L) : (metL L p bl).getD i false = metB p bl i := by
  unfold metL; simp [List.getD_eq_getElem?_getD, h]
theorem metV_nat {p size : Nat} (h1 : 1 ≤ p) (h2 : size ≤ 65536) (bl : List Bk) : metV (p : Int) (size : Int) bl = metL (size / p) p bl := by
  unfold metV; rw [if_pos (by omega)]; simp
theorem metB_nil (p i : Nat) : metB p [] i = false := rfl
theorem metB_append (p : Nat) (a b : List Bk) (i : Nat) : metB p (a ++ b) i = (metB p a i || metB p b i) := by unfold metB; rw [List.any_append]
theorem metB_one (p : Nat) (b : Bk) (i : Nat) : metB p [b] i = inB p b i := by unfold metB; simp
theorem cntL_append (a b : List Bool) : cntL (a ++ b) = cntL a + cntL b := by
  induction a with
  | nil => simp [cntL]
  | cons x a ih => simp only [List.cons_append, cntL, ih]; omega
theorem cntL_le (l : List Bool) : cntL l ≤ l.length := by
  induction l with
  | nil => exact Nat.le_refl _
  | cons x a ih => simp only [cntL, List.length_cons]; split <;> omega
theorem cntL_take_succ (l : List Bool) (j : Nat) (h : j < l.length) : cntL (l.take (j + 1)) = cntL (l.take j) + (if l.getD j false then 1 else 0) := by
  rw [List.take_add_one, cntL_append]
  congr 1
  rw [List.getElem?_eq_getElem h, List.getD_eq_getElem?_getD, List.getElem?_eq_getElem h]
  simp [cntL]
/-- lists that say the same cell by cell -/
theorem bools_ext {a b : List Bool} (h : a.length = b.length) (hg : ∀ i, i < a.length → a.getD i false = b.getD i false) : a = b := by
  apply List.ext_getElem? ; intro i
  by_cases hi : i < a.length
  · have := hg i hi
    rw [List.getD_eq_getElem?_getD, List.getD_eq_getElem?_getD, List.getElem?_eq_getElem hi, List.getElem?_eq_getElem (by omega)] at this
    rw [List.getElem?_eq_getElem hi, List.getElem?_eq_getElem (by omega)]
    simpa using this
  · rw [List.getElem?_eq_none (by omega), List.getElem?_eq_none (by omega)]
theorem metL_nil (L p : Nat) : metL L p [] = List.replicate L false := by
  refine bools_ext (by rw [metL_length]; simp) fun i hi => ?_
  rw [metL_length] at hi
  rw [metL_get hi, metB_nil]
  simp [List.getD_eq_getElem?_getD, hi]
/-- a byte more: its page -/
theorem in_more {p at' t : Nat} (hp : 1 ≤ p) (i a : Nat) : inB p (at', t + 1, a) i = (inB p (at', t, a) i || decide (i = (at' + t) / p)) := by
  unfold inB pF pB
  simp only
  rw [if_neg (Nat.succ_ne_zero t), show at' + (t + 1) - 1 = at' + t by omega]
  have h0 : at' / p ≤ (at' + t) / p := Nat.div_le_div_right (by omega)
  by_cases ht : t = 0
  · subst ht
    simp only [Nat.add_zero, if_true]
    by_cases h : i = at' / p
    · subst h; simp
    · rw [decide_eq_false h]
      by_cases h1 : at' / p ≤ i
      · rw [decide_eq_true h1, decide_eq_false (show ¬ i < at' / p + 1 by omega), decide_eq_false (show ¬ i < at' / p by omega)]; rfl
      · rw [decide_eq_false h1]; rfl
  · rw [if_neg ht]
    have h1 : (at' + t - 1) / p ≤ (at' + t) / p := Nat.div_le_div_right (by omega)
    have h2 : (at' + t) / p ≤ (at' + t - 1) / p + 1 := by
      have : at' + t = (at' + t - 1) + 1 := by omega
      rw [Nat.div_le_iff_le_mul_add_pred (by omega)]
      have e := Nat.div_add_mod (at' + t - 1) p
      have l := Nat.mod_lt (at' + t - 1) (show 0 < p by omega)
      rw [Nat.mul_add]
      omega
    have h3 : at' / p ≤ (at' + t - 1) / p := Nat.div_le_div_right (by omega)
    rw [Bool.eq_iff_iff]
    simp only [Bool.and_eq_true, Bool.or_eq_true, decide_eq_true_eq]
    omega
theorem in_none {p at' : Nat} (i a : Nat) : inB p (at', 0, a) i = false := by
  unfold inB pF pB
  simp only
  rw [if_pos trivial]
  by_cases h : at' / p ≤ i
  · rw [decide_eq_true h, decide_eq_false (by omega)]; rfl
  · rw [decide_eq_false h]; rfl
/-- a byte more, of all pages -/
theorem metL_more {L p at' t : Nat} (hp : 1 ≤ p) (bl : List Bk) (a : Nat) : metL L p (bl ++ [(at', t + 1, a)]) = (metL L p (bl ++ [(at', t, a)])).set ((at' + t) / p) true := by
  refine bools_ext (by simp [metL_length]) fun i hi => ?_
  rw [metL_length] at hi
  rw [metL_get hi, metB_append, metB_one, in_more hp, List.getD_eq_getElem?_getD, List.getElem?_set]
  by_cases h : (at' + t) / p = i
  · rw [if_pos h, if_pos (by rw [metL_length, h]; exact hi), decide_eq_true h.symm]; simp
  · rw [if_neg h, decide_eq_false (fun e => h e.symm), Bool.or_false, ← List.getD_eq_getElem?_getD, metL_get hi, metB_append, metB_one]
theorem metL_none {L p at' a : Nat} (bl : List Bk) : metL L p (bl ++ [(at', 0, a)]) = metL L p bl := by
  refine bools_ext (by simp [metL_length]) fun i hi => ?_
  rw [metL_length] at hi
  rw [metL_get hi, metL_get hi, metB_append, metB_one, in_none, Bool.or_false]
/-- how many pages more there are at most -/
def cntR (L : Nat) (f : Nat → Bool) : Nat := cntL ((List.range L).map f)
theorem cntR_succ (L : Nat) (f : Nat → Bool) : cntR (L + 1) f = cntR L f + (if f L then 1 else 0) := by
  unfold cntR; rw [List.range_succ, List.map_append, cntL_append]; simp [cntL]
theorem cntR_le {f g : Nat → Bool} (L : Nat) (h : ∀ i, f i = true → g i = true) : cntR L f ≤ cntR L g := by
  induction L with
  | zero => exact Nat.le_refl _
  | succ L ih =>
    rw [cntR_succ, cntR_succ]
    cases hf : f L with
    | true => rw [h L hf]; omega
    | false => cases g L <;> simp <;> omega
theorem cntR_or (f g : Nat → Bool) (L : Nat) : cntR L (fun i => f i || g i) ≤ cntR L f + cntR L g := by
  induction L with
  | zero => exact Nat.le_refl _
  | succ L ih => rw [cntR_succ, cntR_succ, cntR_succ]; cases f L <;> cases g L <;> simp <;> omega
theorem cntR_in (L a b : Nat) : cntR L (fun i => decide (a ≤ i) && decide (i < b)) ≤ min L b - a := by
  induction L with
  | zero => exact Nat.zero_le _
  | succ L ih =>
    rw [cntR_succ]
    by_cases h1 : a ≤ L
    · by_cases h2 : L < b
      · rw [decide_eq_true h1, decide_eq_true h2]; simp; omega
      · rw [decide_eq_false h2]; simp; omega
    · rw [decide_eq_false h1]; simp; omega
theorem pF_le_pB (p at' n : Nat) : pF p at' ≤ pB p at' n := by
  unfold pF pB
  split
  · exact Nat.le_refl _
  · have : at' / p ≤ (at' + n - 1) / p := Nat.div_le_div_right (by omega)
    omega
/-- one block more: no page less, and as many more at most as it has -/
theorem cnt_more (L p : Nat) (bl : List Bk) (b : Bk) : cntL (metL L p bl) ≤ cntL (metL L p (bl ++ [b])) ∧ cntL (metL L p (bl ++ [b])) + pF p b.1 ≤ cntL (metL L p bl) + pB p b.1 b.2.1 := by
  have e : metL L p (bl ++ [b]) = (List.range L).map (fun i => metB p bl i || inB p b i) := by
    unfold metL; congr 1; funext i; rw [metB_append, metB_one]
  have h1 := cntR_le (f := metB p bl) (g := fun i => metB p bl i || inB p b i) L fun i h => by simp [h]
  have h2 := cntR_or (metB p bl) (inB p b) L
  have h3 := cntR_in L (pF p b.1) (pB p b.1 b.2.1)
  have h4 := pF_le_pB p b.1 b.2.1
  have e3 : cntR L (inB p b) = cntR L (fun i => decide (pF p b.1 ≤ i) && decide (i < pB p b.1 b.2.1)) := rfl
  rw [e]
  unfold cntR at h1 h2 h3 e3
  unfold metL
  omega
theorem getD_last {bl : List Bk} {j : Nat} (h : j < bl.length) : bl.take (j + 1) = bl.take j ++ [bl.getD j (0, 0, 0)] := by
  rw [List.take_add_one, List.getD_eq_getElem?_getD, List.getElem?_eq_getElem h]; rfl
end Go.Proofs.YtcnfmkhjhffebaaDoor
