/- How a slice of arrays of three bytes is told to a walk: by its cells. -/
import Derived.Test.YtbbfbelhdjloeaaOpen
import Derived.Deep.Slices
namespace Go.Proofs.Ytbbfbelhdjloeaa
open Go.ChangeShapes Go.WideShapes Go.ChangeAt Go.RowKit

/-- where triples of bytes lie -/
def IsTri (w : World) (a : Option Addr) (len : Nat) : Prop :=
  ∀ i, i < len → ∃ b o z0 z1 z2, a = some ⟨b, o, none⟩ ∧ (w.cell? ⟨b, o + i * 3, none⟩ = some (.int .u8 z0) ∧ 0 ≤ z0 ∧ z0 ≤ 255) ∧ (w.cell? ⟨b, o + i * 3 + 1, none⟩ = some (.int .u8 z1) ∧ 0 ≤ z1 ∧ z1 ≤ 255) ∧ (w.cell? ⟨b, o + i * 3 + 2, none⟩ = some (.int .u8 z2) ∧ 0 ≤ z2 ∧ z2 ≤ 255)
theorem isTri_of {H : Type} {enc : TypeId × Value → H} {P : Program} {W : World} {held : Bool} {t e u : TypeId} {a : Option Addr} {len cap : Nat} {d : DataW H} {p : List MemPlace}
    (ht : P.underlying t = some (.slice e)) (he : P.underlying e = some (.array 3 u)) (hu : P.underlying u = some (.int .u8)) (hc : P.cellsOf e = 3) (hcu : P.cellsOf u = 1) (h : DataW.Trod enc P W 0 (fun _ => true) held t (.slice a len cap) d p) : IsTri W a len ∧ len ≤ maxLen := by
  obtain ⟨fuel, hf⟩ := h
  rcases Go.Deep.open_slice ht hf with ⟨hcs, _⟩ | ⟨x, l, c, m, n, D, Pl, hcs, _, hl, hm, hmm, _, hel⟩
  · simp [Value.cells] at hcs
    obtain ⟨rfl, rfl, rfl⟩ := hcs
    exact ⟨fun i hi => by omega, by simp⟩
  · simp [Value.cells] at hcs
    obtain ⟨rfl, rfl, rfl⟩ := hcs
    have hmc : m = cap := by rw [hmm]; simp
    refine ⟨fun i hi => ?_, by omega⟩
    obtain ⟨cs', hcell, htr⟩ := hel i (by omega)
    rw [hc] at hcell
    obtain ⟨_, hlen, hget⟩ := World.cells?_some hcell
    obtain ⟨xs, m', _, _, _, hxl, hx⟩ := DataW.trod_array he htr
    rw [hcu] at hx
    have each : ∀ k, k < 3 → ∃ z, cs'[k]? = some (.int .u8 z) ∧ (Lit.int .u8 z).wf = true := by
      intro k hk
      have hxk := hx k hk
      rw [List.getElem?_eq_getElem (by omega)] at hxk
      obtain ⟨z, e1, _, hw⟩ := DataW.trod_int hu hxk
      refine ⟨z, ?_, hw⟩
      have e' : (cs'.drop (k * 1)).take 1 = [.int .u8 z] := by simpa [Value.cells] using e1
      have : ((cs'.drop (k * 1)).take 1)[0]? = some (.int .u8 z) := by rw [e']; rfl
      simpa using this
    obtain ⟨z0, e0, w0⟩ := each 0 (by decide)
    obtain ⟨z1, e1, w1⟩ := each 1 (by decide)
    obtain ⟨z2, e2, w2⟩ := each 2 (by decide)
    have h0 := hget 0 (by decide)
    have h1 := hget 1 (by decide)
    have h2 := hget 2 (by decide)
    rw [e0] at h0
    rw [e1] at h1
    rw [e2] at h2
    obtain ⟨b, o, s⟩ := x
    have hs : s = none := by
      obtain ⟨cs0, hc0, ht0⟩ := hel 0 (by omega)
      rw [hc] at hc0
      obtain ⟨_, hl0, hg0⟩ := World.cells?_some hc0
      have := hg0 0 (by decide)
      rw [List.getElem?_eq_getElem (by omega)] at this
      simpa [Addr.add] using World.cell?_spot this
    subst hs
    rw [Go.WideShapes.add_plain b o (i * 3)] at h0 h1 h2
    rw [Go.WideShapes.add_plain b (o + i * 3)] at h0 h1 h2
    exact ⟨b, o, z0, z1, z2, rfl, ⟨h0, bounds_u8 w0⟩, ⟨h1, bounds_u8 w1⟩, ⟨h2, bounds_u8 w2⟩⟩
end Go.Proofs.Ytbbfbelhdjloeaa
