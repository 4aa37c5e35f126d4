/- Slices of bools that are read, and cut: where they lie, how much room they have (BoolsIn). -/
import Derived.Test.YtcnfmkhjhffebaaDoorBoolMem
namespace Go.Proofs.YtcnfmkhjhffebaaDoor
open Go.RowKit

/-- a slice of bools: nil, or from a cell on -/
def BoolsIn (w : World) (v : Value) (bs : List Bool) : Prop :=
  bs.length ≤ 1048576 ∧ ((∃ a, v = .slice a 0 0 ∧ bs = []) ∨ ∃ b o cap, v = .slice (some ⟨b, o, none⟩) bs.length cap ∧ bs.length ≤ cap ∧ cap ≤ 9223372036854775807 ∧
    ∀ i, i < bs.length → w.cell? ⟨b, o + i, none⟩ = some (.bool (bs.getD i false)))
theorem BoolsIn.fresh {w w' : World} {v : Value} {bs : List Bool} (h : BoolsIn w v bs) (k : Fresh w w') : BoolsIn w' v bs := by
  obtain ⟨h1, h2⟩ := h
  refine ⟨h1, ?_⟩
  rcases h2 with h | ⟨b, o, cap, e, h3, h4, hc⟩
  · exact .inl h
  · exact .inr ⟨b, o, cap, e, h3, h4, fun i hi => (k.cell (World.block_lt_of_cell? _ _ (hc i hi))).trans (hc i hi)⟩
theorem BoolsIn.at {w : World} {v : Value} {bs : List Bool} (h : BoolsIn w v bs) : BoolsAt w v bs := by
  rcases h.2 with ⟨a, rfl, rfl⟩ | ⟨b, o, cap, rfl, h3, h4, hc⟩
  · exact ⟨a, 0, rfl, fun i hi => by simp at hi⟩
  · exact ⟨_, cap, rfl, fun i hi => ⟨b, o, rfl, hc i hi⟩⟩
theorem BoolsIn.shape {w : World} {v : Value} {bs : List Bool} (h : BoolsIn w v bs) : ∃ a cap, v = .slice a bs.length cap ∧ bs.length ≤ cap ∧ cap ≤ 9223372036854775807 := by
  rcases h.2 with ⟨a, rfl, rfl⟩ | ⟨b, o, cap, rfl, h3, h4, hc⟩
  · exact ⟨a, 0, rfl, by simp, by omega⟩
  · exact ⟨_, cap, rfl, h3, h4⟩
theorem boolsIn_nil (w : World) : BoolsIn w (.slice none 0 0) [] := ⟨by simp, .inl ⟨none, rfl, rfl⟩⟩
theorem OwnB.inn {w : World} {base : Nat} {v : Value} {bs : List Bool} (h : OwnB w base v bs) (hl : bs.length ≤ 1048576) : BoolsIn w v bs := by
  have h0 := h
  rcases h.2 with ⟨rfl, hn⟩ | ⟨g, cap, cur, rfl, hb, hg, hc, hm, hr⟩
  · have : bs = [] := List.eq_nil_of_length_eq_zero hn
    subst this
    exact boolsIn_nil w
  · refine ⟨hl, .inr ⟨g, 0, cap, rfl, hc, hm, fun i hi => ?_⟩⟩
    rw [Nat.zero_add, World.ownsRow.cellAt h0 i (by omega), bvals_get bs i hi]
/-- its front -/
theorem front_at {w : World} {b o len cap : Nat} {bs : List Bool} (h : BoolsIn w (.slice (some ⟨b, o, none⟩) len cap) bs) (f : Nat) (hf : f ≤ bs.length) : BoolsIn w (.slice (some ⟨b, o, none⟩) f cap) (bs.take f) := by
  rcases h.2 with ⟨a, e, hb⟩ | ⟨b', o', cap', e, h3, h4, hc⟩
  · cases e
    subst hb
    obtain rfl : f = 0 := by simpa using hf
    exact ⟨by simp, .inl ⟨_, rfl, rfl⟩⟩
  · cases e
    have hl : (bs.take f).length = f := by rw [List.length_take]; omega
    refine ⟨by have := h.1; omega, .inr ⟨b, o, cap, by rw [hl], by omega, h4, fun i hi => ?_⟩⟩
    rw [hc i (by omega)]
    rw [List.getD_eq_getElem?_getD, List.getD_eq_getElem?_getD, List.getElem?_take_of_lt (by omega)]
/-- what is behind -/
theorem behind_at {w : World} {b o len cap : Nat} {bs : List Bool} {A : Option Addr} (h : BoolsIn w (.slice (some ⟨b, o, none⟩) len cap) bs) (t : Nat) (ht : t ≤ bs.length) (hA : (if cap = t then (some ⟨b, o, none⟩ : Option Addr) else some ⟨b, o + t, none⟩) = A) :
    BoolsIn w (.slice A (len - t) (cap - t)) (bs.drop t) := by
  rcases h.2 with ⟨a, e, hb⟩ | ⟨b', o', cap', e, h3, h4, hc⟩
  · cases e
    subst hb
    obtain rfl : t = 0 := by simpa using ht
    exact ⟨by simp, .inl ⟨A, rfl, rfl⟩⟩
  · cases e
    have hl : (bs.drop t).length = bs.length - t := List.length_drop
    by_cases g : cap = t
    · rw [if_pos g] at hA
      subst hA
      refine ⟨by have := h.1; omega, .inr ⟨b, o, cap - t, by rw [hl], by omega, by omega, fun i hi => by omega⟩⟩
    · rw [if_neg g] at hA
      subst hA
      refine ⟨by have := h.1; omega, .inr ⟨b, o + t, cap - t, by rw [hl], by omega, by omega, fun i hi => ?_⟩⟩
      rw [Nat.add_assoc, hc (t + i) (by omega), List.getD_eq_getElem?_getD, List.getD_eq_getElem?_getD, List.getElem?_drop]
end Go.Proofs.YtcnfmkhjhffebaaDoor
