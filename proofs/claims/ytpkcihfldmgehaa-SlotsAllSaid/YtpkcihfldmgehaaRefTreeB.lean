/- The document's own tree of a row of bits (hodmanref3's Made), as a contract. -/
import Derived.Test.YtpkcihfldmgehaaRefTreeA
import Derived.Test.YtpkcihfldmgehaaTreeN
namespace Go.Proofs.Ytpkcihfldmgehaa
open Go.RowKit

theorem or_bit_spelt (u k : Nat) (hu : u < 18446744073709551616) (hk : k < 64) : bits .or .u64 (u : Int) (IntKind.u64.wrap (2 ^ k)) = ((u ||| 2 ^ k : Nat) : Int) := by
  have hp : (2 : Nat) ^ k < 18446744073709551616 := by
    have := Nat.pow_le_pow_right (show 0 < 2 by decide) (show k ≤ 63 by omega)
    omega
  have e : IntKind.u64.wrap (2 ^ k) = ((2 ^ k : Nat) : Int) := by
    rw [cast_pow2, IntKind.wrap_u64]; exact Int.emod_eq_of_lt (Int.natCast_nonneg _) (by omega)
  rw [e, u64_or_nat u _ hu hp]
theorem made_none (s : Int) (v : Value) (w : World) (h : s < 1 ∨ 65536 < s) : Calls Try.prog 41 #[.int .i64 s, v] w fun e w' => e = .returned noTree ∧ Fresh w w' := by
  have FB := hide (fresh_more (fresh_box w #[.int .i64 0, .slice none 0 0] 45) #[.int .i64 s, .slice none 0 0] 45)
  by_cases h1 : s < 1
  · clear h
    go_enter Try.func41, Try.ntmps41
    go_wp2
    go_returns
    exact ⟨rfl, FB.out⟩
  · have h2 : 65536 < s := by omega
    clear h h1
    go_enter Try.func41, Try.ntmps41
    go_wp2
    go_returns
    exact ⟨rfl, FB.out⟩

/-- bits that are set one by one -/
def Sets (b ln : Nat) (p : Nat → Bool) (j : Nat) (xs : List Nat) : Prop := W64 xs ∧ xs.length = ln ∧ ∀ t, t < 64 * ln → bitV xs t = (decide (t < j) && (decide (b ≤ t) || p t))
theorem sets_start (b ln : Nat) (p : Nat → Bool) : Sets b ln p 0 (List.replicate ln 0) := by
  refine ⟨zero_row ln, List.length_replicate, fun t ht => ?_⟩
  unfold bitV
  rw [List.getD_eq_getElem?_getD, List.getElem?_eq_getElem (by rw [List.length_replicate]; omega), List.getElem_replicate]
  exact Nat.zero_testBit _
theorem sets_on {b ln j : Nat} {p : Nat → Bool} {xs : List Nat} (h : Sets b ln p j xs) (hj : j < 64 * ln) (hb : (decide (b ≤ j) || p j) = true) : Sets b ln p (j + 1) (xs.set (j / 64) (xs.getD (j / 64) 0 ||| 2 ^ (j % 64))) := by
  have hp : (2 : Nat) ^ (j % 64) < 18446744073709551616 := Nat.pow_lt_pow_right (by decide) (show j % 64 < 64 by omega)
  have hx : xs.getD (j / 64) 0 ||| 2 ^ (j % 64) < 18446744073709551616 := Nat.or_lt_two_pow (n := 64) (h.1.getD _) hp
  refine ⟨set_64 h.1 _ _ hx, by rw [List.length_set]; exact h.2.1, fun t ht => ?_⟩
  rw [bitV_set _ _ _ _ (by rw [h.2.1]; omega), Nat.testBit_or, Nat.testBit_two_pow]
  by_cases e : t = j
  · subst e
    rw [if_pos rfl, decide_eq_true (show t % 64 = t % 64 from rfl), Bool.or_true, decide_eq_true (by omega), hb]; rfl
  · by_cases e2 : t / 64 = j / 64
    · rw [if_pos e2, decide_eq_false (by omega), Bool.or_false]
      have := h.2.2 t ht
      unfold bitV at this
      rw [e2] at this
      rw [this]
      congr 1
      exact decide_eq_decide.2 (by omega)
    · rw [if_neg e2, h.2.2 t ht]
      congr 1
      exact decide_eq_decide.2 (by omega)
theorem sets_off {b ln j : Nat} {p : Nat → Bool} {xs : List Nat} (h : Sets b ln p j xs) (hb : (decide (b ≤ j) || p j) = false) : Sets b ln p (j + 1) xs := by
  refine ⟨h.1, h.2.1, fun t ht => ?_⟩
  rw [h.2.2 t ht]
  by_cases e : t = j
  · subst e
    rw [hb, Bool.and_false, Bool.and_false]
  · congr 1
    exact decide_eq_decide.2 (by omega)
theorem sets_end {b : Nat} {p : Nat → Bool} {xs : List Nat} (h : Sets b ((b + 63) / 64) p (64 * ((b + 63) / 64)) xs) : xs = packV b p := by
  refine row_ext h.1 (packV_64 _ _) (by rw [h.2.1, packV_length]) fun t ht => ?_
  rw [h.2.1] at ht
  rw [h.2.2 t ht, bitV_packV b p t ht, decide_eq_true ht, Bool.true_and]
/-- the length of a slice -/
def lenOf : Value → Nat
  | .slice _ n _ => n
  | _ => 0
theorem bools_made {w0 wr w1 : World} {ln : Nat} {v : Value} (hown : w1.ownsRow w0.heap.size 4 1 v ln (madeCells (Value.bool false).cells (ln * 1)).toList) (hgrow : wr.grownBy w1 none) : OwnB w1 w0.heap.size v (List.replicate ln false) ∧ Fresh wr w1 := by
  refine ⟨?_, (Below.refl _ _).grown hgrow (Nat.le_refl _) (fun k hk => by cases hk)⟩
  unfold OwnB
  rw [List.length_replicate]
  have e : (madeCells (Value.bool false).cells (ln * 1)).toList = bvals (List.replicate ln false) := by
    unfold bvals
    rw [Nat.mul_one, List.map_replicate]
    exact toList_madeCells_one _ _
  rw [e] at hown
  exact hown
/-- bools that are told one by one -/
def Tells (row : List Nat) (ln j : Nat) (bs : List Bool) : Prop := bs.length = ln ∧ ∀ t, t < j → bs.getD t false = isFull row t
theorem tells_step {row : List Nat} {ln j : Nat} {bs : List Bool} (h : Tells row ln j bs) (hj : j < ln) : Tells row ln (j + 1) (bs.set j (isFull row j)) := by
  refine ⟨by rw [List.length_set]; exact h.1, fun t ht => ?_⟩
  by_cases e : t = j
  · subst e
    rw [List.getD_eq_getElem?_getD, List.getElem?_set_self (by rw [h.1]; exact hj)]; rfl
  · rw [List.getD_eq_getElem?_getD, List.getElem?_set_ne (fun e' => e e'.symm), ← List.getD_eq_getElem?_getD, h.2 t (by omega)]
end Go.Proofs.Ytpkcihfldmgehaa
