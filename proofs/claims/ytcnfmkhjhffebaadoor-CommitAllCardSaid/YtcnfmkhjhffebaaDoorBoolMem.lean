/- Rows of bools in memory: read (BoolsAt), in new memory (OwnB). -/
import Derived.Test.YtcnfmkhjhffebaaDoorMem
namespace Go.Proofs.YtcnfmkhjhffebaaDoor
open Go.RowKit

/-- bools as values -/
def bvals (bs : List Bool) : List Value := bs.map Value.bool
theorem bvals_length (bs : List Bool) : (bvals bs).length = bs.length := by unfold bvals; rw [List.length_map]
theorem bvals_get (bs : List Bool) (i : Nat) (hi : i < bs.length) : (bvals bs)[i]? = some (.bool (bs.getD i false)) := by
  unfold bvals
  simp [List.getElem?_eq_getElem hi, List.getD_eq_getElem?_getD]
/-- bools in new memory -/
def OwnB (w : World) (base : Nat) (v : Value) (bs : List Bool) : Prop := w.ownsRow base 4 1 v bs.length (bvals bs)
/-- bools that are read -/
def BoolsAt (w : World) (v : Value) (bs : List Bool) : Prop :=
  ∃ a cap, v = .slice a bs.length cap ∧ ∀ i, i < bs.length → ∃ b o, a = some ⟨b, o, none⟩ ∧ w.cell? ⟨b, o + i, none⟩ = some (.bool (bs.getD i false))
theorem BoolsAt.fresh {w w' : World} {v : Value} {bs : List Bool} (h : BoolsAt w v bs) (k : Fresh w w') : BoolsAt w' v bs := by
  obtain ⟨a, cap, rfl, hc⟩ := h
  refine ⟨a, cap, rfl, fun i hi => ?_⟩
  obtain ⟨b, o, e, hcell⟩ := hc i hi
  exact ⟨b, o, e, (k.cell (World.block_lt_of_cell? _ _ hcell)).trans hcell⟩
theorem OwnB.at {w : World} {base : Nat} {v : Value} {bs : List Bool} (h : OwnB w base v bs) : BoolsAt w v bs := by
  have h0 := h
  rcases h.2 with ⟨rfl, hn⟩ | ⟨g, cap, cur, rfl, hb, hg, hc⟩
  · exact ⟨none, 0, by rw [hn], fun i hi => by omega⟩
  · refine ⟨_, cap, rfl, fun i hi => ⟨g, 0, rfl, ?_⟩⟩
    rw [Nat.zero_add, World.ownsRow.cellAt h0 i (by omega), bvals_get bs i hi]
theorem OwnB.fresh {w w' : World} {base : Nat} {v : Value} {bs : List Bool} (h : OwnB w base v bs) (k : Fresh w w') : OwnB w' base v bs := ownsRow_fresh h k
theorem OwnB.put {w : World} {base g cap N : Nat} {bs : List Bool} (h : OwnB w base (.slice (some ⟨g, 0, none⟩) N cap) bs) (hN : N = bs.length) (k : Nat) (b : Bool) :
    OwnB (w.setCell ⟨g, k, none⟩ (.bool b)) base (.slice (some ⟨g, 0, none⟩) N cap) (bs.set k b) := by
  subst hN
  have := (World.ownsRow.stored h k (.bool b)).1
  unfold OwnB
  rw [List.length_set]
  have e : (bvals bs).set k (.bool b) = bvals (bs.set k b) := by unfold bvals; rw [List.map_set]
  rw [e] at this
  exact this
theorem OwnB.cell {w : World} {base g cap N : Nat} {bs : List Bool} (h : OwnB w base (.slice (some ⟨g, 0, none⟩) N cap) bs) (hN : N = bs.length) (k : Nat) (hk : k < N) : w.cell? ⟨g, k, none⟩ = some (.bool (bs.getD k false)) := by
  subst hN
  rw [World.ownsRow.cellAt h k (by omega), bvals_get bs k hk]
theorem OwnB.free {w : World} {base g cap N : Nat} {bs : List Bool} (h : OwnB w base (.slice (some ⟨g, 0, none⟩) N cap) bs) (hN : N = bs.length) (k : Nat) : w.frozen? ⟨g, k, none⟩ = false := by
  subst hN
  exact World.ownsRow.frozenAt h k
theorem infoBool : (Tryd.prog.info? 4).map (fun i => (i.zero, i.size, i.bytes)) = some (some (.bool false), 1, 1) := by kernel_rfl

theorem news_one' (w : World) (v : Value) (e : TypeId) : ∀ j u, [v][j]? = some u → (w.alloc (.cells #[v] e)).cell? ((⟨w.heap.size, 0, none⟩ : Addr).add j) = some u := by
  intro j u hj
  match j, hj with
  | 0, hj => simp at hj; subst hj; simp [Addr.add]
theorem one_bool (b : Bool) : ∀ u ∈ [Value.bool b], u.oneCell' = true := by
  intro u hu; simp at hu; subst hu; rfl
end Go.Proofs.YtcnfmkhjhffebaaDoor
