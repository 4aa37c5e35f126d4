/- How a slice of pieces that came in is told to a walk: by its cells. -/
import Derived.Test.YtcakghafjmdkoaaOpen
import Derived.Test.YtcakghafjmdkoaaSpanMem
import Derived.Deep.SlicePairs
namespace Go.Proofs.Ytcakghafjmdkoaa
open Go.ChangeShapes Go.WideShapes Go.ChangeAt Go.RowKit

/-- what the walk is told of it -/
def IsSpans (w : World) (a : Option Addr) (len cap : Nat) (ps : List Pc) : Prop := ps.length = len ∧ (len ≤ 1048576 → SpansAt w (.slice a len cap) ps)
theorem isSpans_of {H : Type} {enc : TypeId × Value → H} {P : Program} {W : World} {held : Bool} {t e : TypeId} {f0 f1 : Field} {a : Option Addr} {len cap : Nat} {d : DataW H} {p : List MemPlace}
    (ht : P.underlying t = some (.slice e)) (he : P.underlying e = some (.struct #[f0, f1])) (ce : P.cellsOf e = 2) (o0 : f0.offset = 0) (o1 : f1.offset = 1) (c0 : P.cellsOf f0.type = 1) (c1 : P.cellsOf f1.type = 1)
    (hu0 : P.underlying f0.type = some (.int .i64)) (hu1 : P.underlying f1.type = some (.int .i64)) (h : DataW.Trod enc P W 0 (fun _ => true) held t (.slice a len cap) d p) : ∃ ps, IsSpans W a len cap ps := by
  obtain ⟨fuel, hf⟩ := h
  rcases Go.Deep.open_slice_pairs ht he ce o0 o1 c0 c1 hf with ⟨hcs, _⟩ | ⟨x, l, c, m, n, V0, V1, D0, D1, P0, P1, hcs, _, hl, hm, hmm, _, hel⟩
  · simp [Value.cells] at hcs
    obtain ⟨rfl, rfl, rfl⟩ := hcs
    exact ⟨[], rfl, fun _ => (spansIn_nil W).1⟩
  · simp [Value.cells] at hcs
    obtain ⟨rfl, rfl, rfl⟩ := hcs
    have hmc : m = cap := by rw [hmm]; simp
    have each : ∀ i, i < len → ∃ z0 z1, V0 i = .int .i64 z0 ∧ V1 i = .int .i64 z1 ∧ In64 (z0, z1) := by
      intro i hi
      obtain ⟨_, _, t0, t1⟩ := hel i (by omega)
      obtain ⟨z0, e0, _, w0⟩ := DataW.trod_int hu0 t0
      obtain ⟨z1, e1, _, w1⟩ := DataW.trod_int hu1 t1
      have b0 := bounds_i64 w0
      have b1 := bounds_i64 w1
      exact ⟨z0, z1, by simpa [Value.cells] using e0, by simpa [Value.cells] using e1, b0.1, b0.2, b1.1, b1.2⟩
    obtain ⟨b, o, s⟩ := x
    refine ⟨(List.range len).map fun i => (intOf (V0 i), intOf (V1 i)), by simp, fun hlen => ?_⟩
    have hnth : ∀ i, i < len → nth ((List.range len).map fun i => (intOf (V0 i), intOf (V1 i))) i = (intOf (V0 i), intOf (V1 i)) := fun i hi => by
      show ((List.range len).map fun i => (intOf (V0 i), intOf (V1 i))).getD i (0, 0) = _
      simp [List.getD_eq_getElem?_getD, hi]
    refine ⟨some ⟨b, o, s⟩, cap, by simp, by simpa using hlen, by simpa using hl, hm, fun q hq => ?_, fun h => by simp at h, fun i hi => ?_⟩
    · obtain ⟨i, hi, rfl⟩ := List.mem_map.1 hq
      obtain ⟨z0, z1, e0, e1, hb⟩ := each i (List.mem_range.1 hi)
      rw [e0, e1]
      simpa [intOf] using hb
    · have hi' : i < len := by simpa using hi
      obtain ⟨g0, g1, _, _⟩ := hel i (by omega)
      obtain ⟨z0, z1, e0, e1, _⟩ := each i hi'
      have hs : s = none := by simpa [Addr.add] using World.cell?_spot (hel 0 (by omega)).1
      subst hs
      rw [hnth i hi', e0, e1]
      rw [Go.WideShapes.add_plain b o (i * 2), e0] at g0
      rw [Go.WideShapes.add_plain b o (i * 2 + 1), e1] at g1
      refine ⟨b, o, rfl, ?_, ?_⟩
      · simpa [intOf] using g0
      · rw [Nat.add_assoc]; simpa [intOf] using g1
end Go.Proofs.Ytcakghafjmdkoaa
