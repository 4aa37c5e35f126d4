/- How Use goes from class to class: of the bits of a class those from F on, ahead of E, are turned, the others as they were (Rng). Of no program. -/
import Derived.Test.YtpkcihfldmgehaaSlotsMath
namespace Go.Proofs.Ytpkcihfldmgehaa

def Rng (M : Nat) (p q : Nat → Bool) (F E : Nat) (on : Bool) : Prop := F ≤ E ∧ E ≤ M ∧ ∀ j, j < M → q j = if F ≤ j ∧ j < E then on else p j
/-- where the turned bits of the next class begin, and end: x0, x1: what the outer places have live in them -/
def tF (x0 : Bool) (F : Nat) (on : Bool) : Nat := if !on && x0 then F / 2 + 1 else F / 2
def tE (x0 x1 : Bool) (F E : Nat) (on : Bool) : Nat := if !on && (decide (tF x0 F on < (E - 1) / 2 + 1) && x1) then (E - 1) / 2 else (E - 1) / 2 + 1
def turnF (x0 : Bool) (F E : Nat) (on : Bool) : Nat := if E ≤ F then 0 else tF x0 F on
def turnE (x0 x1 : Bool) (F E : Nat) (on : Bool) : Nat := if E ≤ F then 0 else tE x0 x1 F E on
theorem turn_rng {M M' : Nat} {p q : Nat → Bool} {F E : Nat} {on : Bool} (h : Rng M p q F E on) (hM : M = 2 * M') :
    Rng M' (halfB p) (halfB q) (turnF (halfB q (F / 2)) F E on) (turnE (halfB q (F / 2)) (halfB q ((E - 1) / 2)) F E on) on := by
  obtain ⟨h1, h2, h3⟩ := h
  unfold turnF turnE
  by_cases hE : E ≤ F
  · rw [if_pos hE, if_pos hE]
    refine ⟨Nat.le_refl _, Nat.zero_le _, fun j hj => ?_⟩
    rw [if_neg (by omega)]
    unfold halfB
    rw [h3 (2 * j) (by omega), h3 (2 * j + 1) (by omega), if_neg (by omega), if_neg (by omega)]
  · rw [if_neg hE, if_neg hE]
    cases on with
    | true =>
      have e1 : tF (halfB q (F / 2)) F true = F / 2 := rfl
      have e2 : tE (halfB q (F / 2)) (halfB q ((E - 1) / 2)) F E true = (E - 1) / 2 + 1 := rfl
      rw [e1, e2]
      refine ⟨by omega, by omega, fun j hj => ?_⟩
      unfold halfB
      rw [h3 (2 * j) (by omega), h3 (2 * j + 1) (by omega)]
      by_cases hin : F / 2 ≤ j ∧ j < (E - 1) / 2 + 1
      · rw [if_pos hin]
        by_cases g : F ≤ 2 * j
        · rw [if_pos ⟨g, by omega⟩]; rfl
        · rw [if_pos (⟨by omega, by omega⟩ : F ≤ 2 * j + 1 ∧ 2 * j + 1 < E), Bool.or_true]
      · rw [if_neg hin, if_neg (by omega), if_neg (by omega)]
    | false =>
      have out : ∀ j, j < M' → (j < F / 2 ∨ (E - 1) / 2 < j) → halfB q j = halfB p j := fun j hj ho => by
        unfold halfB
        rw [h3 (2 * j) (by omega), h3 (2 * j + 1) (by omega), if_neg (by omega), if_neg (by omega)]
      have ins : ∀ j, j < M' → F / 2 < j → j < (E - 1) / 2 → halfB q j = false := fun j hj a b => by
        unfold halfB
        rw [h3 (2 * j) (by omega), h3 (2 * j + 1) (by omega), if_pos (by omega), if_pos (by omega)]; rfl
      have up : ∀ j, j < M' → halfB q j = true → halfB q j = halfB p j := fun j hj ht => by
        rw [ht]
        unfold halfB at ht ⊢
        rw [h3 (2 * j) (by omega), h3 (2 * j + 1) (by omega)] at ht
        split at ht <;> split at ht <;> simp_all
      have q0 : F / 2 < M' := by omega
      have q1 : (E - 1) / 2 < M' := by omega
      have q2 : F / 2 ≤ (E - 1) / 2 := by omega
      have u0 := up (F / 2) q0
      have u1 := up ((E - 1) / 2) q1
      generalize hx0 : halfB q (F / 2) = x0 at *
      generalize hx1 : halfB q ((E - 1) / 2) = x1 at *
      generalize hL : (E - 1) / 2 = L at *
      generalize hK : F / 2 = K at *
      have key : ∀ j, j < M' → halfB q j = halfB p j ∨ (K ≤ j ∧ j ≤ L ∧ halfB q j = false) := fun j hj => by
        by_cases g : j < K ∨ L < j
        · exact .inl (out j hj g)
        · cases hq : halfB q j with
          | true => exact .inl (by rw [← up j hj hq]; exact hq.symm)
          | false => exact .inr ⟨by omega, by omega, rfl⟩
      have eF : tF x0 F false = if x0 then K + 1 else K := by unfold tF; rw [hK]; rfl
      have eE : tE x0 x1 F E false = if decide (tF x0 F false < L + 1) && x1 then L else L + 1 := by unfold tE; rw [hL]; rfl
      rw [eE, eF]
      have fin : ∀ F' E', F' ≤ E' → E' ≤ M' → K ≤ F' → E' ≤ L + 1 → (∀ j, j < M' → F' ≤ j → j < E' → halfB q j = false) → (∀ j, j < M' → K ≤ j → j ≤ L → (j < F' ∨ E' ≤ j) → halfB q j = true) → Rng M' (halfB p) (halfB q) F' E' false := fun F' E' a b ca cb d e => by
        refine ⟨a, b, fun j hj => ?_⟩
        by_cases g : F' ≤ j ∧ j < E'
        · rw [if_pos g]; exact d j hj g.1 g.2
        · rw [if_neg g]
          rcases key j hj with hk | ⟨k1, k2, k3⟩
          · exact hk
          · have := e j hj k1 k2 (by omega)
            rw [this] at k3; cases k3
      have inx : ∀ j, j < M' → K ≤ j → j ≤ L → (j = K → x0 = false) → (j = L → x1 = false) → halfB q j = false := fun j hj a b c d => by
        by_cases g0 : j = K
        · subst g0; rw [hx0]; exact c rfl
        · by_cases g1 : j = L
          · subst g1; rw [hx1]; exact d rfl
          · exact ins j hj (by omega) (by omega)
      cases x0 with
      | true =>
        by_cases hKL : K + 1 < L + 1
        · cases x1 with
          | true =>
            simp only [if_pos, decide_eq_true hKL, Bool.true_and]
            exact fin _ _ (by omega) (by omega) (by omega) (by omega) (fun j hj a b => inx j hj (by omega) (by omega) (by omega) (by omega)) (fun j hj a b c => by rcases (show j = K ∨ j = L by omega) with e | e <;> rw [e] <;> assumption)
          | false =>
            simp only [if_pos, Bool.and_false, Bool.false_eq_true, if_false]
            exact fin _ _ (by omega) (by omega) (by omega) (by omega) (fun j hj a b => inx j hj (by omega) (by omega) (by omega) (fun _ => rfl)) (fun j hj a b c => by rw [show j = K by omega]; assumption)
        · have e : L = K := by omega
          simp only [if_pos, decide_eq_false hKL, Bool.false_and, Bool.false_eq_true, if_false]
          exact fin _ _ (by omega) (by omega) (by omega) (by omega) (fun j hj a b => by omega) (fun j hj a b c => by rw [show j = K by omega]; assumption)
      | false =>
        cases x1 with
        | true =>
          have hlt : K < L + 1 := by omega
          simp only [Bool.false_eq_true, if_false, decide_eq_true hlt, Bool.true_and, if_pos]
          have hne : K ≠ L := by rintro rfl; rw [hx0] at hx1; cases hx1
          exact fin _ _ (by omega) (by omega) (by omega) (by omega) (fun j hj a b => inx j hj (by omega) (by omega) (fun _ => rfl) (by omega)) (fun j hj a b c => by rw [show j = L by omega]; assumption)
        | false =>
          simp only [Bool.and_false, Bool.false_eq_true, if_false]
          exact fin _ _ (by omega) (by omega) (by omega) (by omega) (fun j hj a b => inx j hj (by omega) (by omega) (fun _ => rfl) (fun _ => rfl)) (fun j hj a b c => by omega)
/-- the granules that are there -/
def thF (N : Nat) (f m : Int) : Nat := if f < 0 ∨ m < 1 ∨ (N : Int) ≤ f then 0 else f.toNat
def thE (N : Nat) (f m : Int) : Nat := if f < 0 ∨ m < 1 ∨ (N : Int) ≤ f then 0 else f.toNat + min m.toNat (N - f.toNat)
theorem there_rng (N : Nat) (p : Nat → Bool) (f m : Int) (on : Bool) : Rng N p (useB p f m on) (thF N f m) (thE N f m) on := by
  unfold thF thE useB
  by_cases h : f < 0 ∨ m < 1 ∨ (N : Int) ≤ f
  · rw [if_pos h, if_pos h]
    refine ⟨Nat.le_refl _, Nat.zero_le _, fun j hj => ?_⟩
    dsimp only
    rw [if_neg (by omega), if_neg (by omega)]
  · rw [if_neg h, if_neg h]
    refine ⟨by omega, by omega, fun j hj => ?_⟩
    dsimp only
    by_cases g : f.toNat ≤ j ∧ j < f.toNat + min m.toNat (N - f.toNat)
    · rw [if_pos (by omega), if_pos g]
    · rw [if_neg (by omega), if_neg g]
/-- a class's tree, turned -/
theorem set_rng {N k : Nat} {p q : Nat → Bool} {F E : Nat} {on : Bool} (h : Rng (N / 2 ^ k) (clsB p k) (clsB q k) F E on) : setT (N / 2 ^ k) (trW N p k) (F : Int) ((E : Int) - (F : Int)) on = trW N q k := by
  obtain ⟨h1, h2, h3⟩ := h
  have e : (E : Int) - (F : Int) = ((E - F : Nat) : Int) := by omega
  rw [e]
  refine lev_ext (lev_setT (tr_lev N p k) _ _ _) (tr_lev N q k) fun i hi => ?_
  rw [bit_setT (tr_lev N p k) F (E - F) on i hi, tr_bit hi, tr_bit hi, h3 i hi]
  by_cases g : F ≤ i ∧ i < E
  · rw [if_pos (by omega), if_pos g]
  · rw [if_neg (by omega), if_neg g]
end Go.Proofs.Ytpkcihfldmgehaa
