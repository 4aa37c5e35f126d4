/- How a slice of bools is told to a walk: by its cells. -/
import Derived.Test.YtcnfmkhjhffebaaDoorOpen
import Derived.Test.YtcnfmkhjhffebaaDoorBoolIn
import Derived.Deep.Slices
namespace Go.Proofs.YtcnfmkhjhffebaaDoor
open Go.ChangeShapes Go.WideShapes Go.ChangeAt Go.RowKit

/-- where bools lie -/
def IsBools (w : World) (a : Option Addr) (len cap : Nat) (bs : List Bool) : Prop :=
  (len = 0 ∧ cap = 0 ∧ bs = []) ∨ ∃ b o, a = some ⟨b, o, none⟩ ∧ bs.length = len ∧ len ≤ cap ∧ cap ≤ 9223372036854775807 ∧ ∀ i, i < len → w.cell? ⟨b, o + i, none⟩ = some (.bool (bs.getD i false))
theorem isBools_of {H : Type} {enc : TypeId × Value → H} {P : Program} {W : World} {held : Bool} {t e : TypeId} {a : Option Addr} {len cap : Nat} {d : DataW H} {p : List MemPlace}
    (ht : P.underlying t = some (.slice e)) (he : P.underlying e = some .bool) (hc : P.cellsOf e = 1) (h : DataW.Trod enc P W 0 (fun _ => true) held t (.slice a len cap) d p) : ∃ bs, IsBools W a len cap bs := by
  obtain ⟨fuel, hf⟩ := h
  rcases Go.Deep.open_slice1 ht hc hf with ⟨hcs, _⟩ | ⟨x, l, c, m, n, V, D, Pl, hcs, _, hl, hm, hmm, _, hel⟩
  · simp [Value.cells] at hcs
    obtain ⟨rfl, rfl, rfl⟩ := hcs
    exact ⟨[], .inl ⟨rfl, rfl, rfl⟩⟩
  · simp [Value.cells] at hcs
    obtain ⟨rfl, rfl, rfl⟩ := hcs
    have hmc : m = cap := by rw [hmm]; simp
    have each : ∀ i, i < cap → ∃ b, W.cell? (x.add i) = some (.bool b) := fun i hi => by
      obtain ⟨h1, h2⟩ := hel i (by omega)
      obtain ⟨b, e1, _⟩ := DataW.trod_bool he h2
      simp only [List.cons.injEq, and_true] at e1
      exact ⟨b, by rw [h1, e1]⟩
    by_cases g : cap = 0
    · subst g
      obtain rfl : len = 0 := by omega
      exact ⟨[], .inl ⟨rfl, rfl, rfl⟩⟩
    · obtain ⟨b, o, s⟩ := x
      have hs : s = none := by
        obtain ⟨b0, h0⟩ := each 0 (by omega)
        simpa [Addr.add] using World.cell?_spot h0
      subst hs
      refine ⟨(List.range len).map fun i => match W.cell? ⟨b, o + i, none⟩ with | some (.bool v) => v | _ => false, .inr ⟨b, o, rfl, by simp, hl, hm, fun i hi => ?_⟩⟩
      obtain ⟨v, hv⟩ := each i (by omega)
      rw [Go.WideShapes.add_plain b o i] at hv
      rw [hv]
      congr 2
      simp [List.getD_eq_getElem?_getD, hi, hv]
theorem IsBools.inn {w : World} {a : Option Addr} {len cap : Nat} {bs : List Bool} (h : IsBools w a len cap bs) (hl : len ≤ 1048576) : BoolsIn w (.slice a len cap) bs ∧ bs.length = len := by
  rcases h with ⟨rfl, rfl, rfl⟩ | ⟨b, o, rfl, h1, h2, h3, hc⟩
  · exact ⟨⟨by simp, .inl ⟨a, rfl, rfl⟩⟩, rfl⟩
  · subst h1
    exact ⟨⟨hl, .inr ⟨b, o, cap, rfl, h2, h3, hc⟩⟩, rfl⟩
theorem IsBools.le {w : World} {a : Option Addr} {len cap : Nat} {bs : List Bool} (h : IsBools w a len cap bs) : (len : Int) ≤ 9223372036854775807 := by
  rcases h with ⟨rfl, _, _⟩ | ⟨b, o, _, _, h2, h3, _⟩
  · decide
  · omega
end Go.Proofs.YtcnfmkhjhffebaaDoor
