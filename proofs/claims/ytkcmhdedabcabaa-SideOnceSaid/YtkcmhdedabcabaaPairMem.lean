/- Pairs of ints in memory: a slice of pairs that is read (SpansAt, SpansIn); pairs as cells (svals). Of no types of a program. -/
import Derived.Test.YtkcmhdedabcabaaSpanMath
import Derived.Test.YtkcmhdedabcabaaMem
import Derived.OneCell
namespace Go.Proofs.Ytkcmhdedabcabaa
open Go.RowKit

def In64 (p : Pc) : Prop := -9223372036854775808 ≤ p.1 ∧ p.1 ≤ 9223372036854775807 ∧ -9223372036854775808 ≤ p.2 ∧ p.2 ≤ 9223372036854775807
/-- a piece as a value -/
abbrev pv (p : Pc) : Value := .agg #[.int .i64 p.1, .int .i64 p.2]
theorem in64_zero : In64 (0, 0) := by unfold In64; decide
theorem in64_nth {ps : List Pc} (h : ∀ p ∈ ps, In64 p) (i : Nat) : In64 (nth ps i) := by
  rcases Nat.lt_or_ge i ps.length with hi | hi
  · exact h _ (nth_mem hi)
  · show In64 (ps.getD i (0, 0))
    rw [List.getD_eq_getElem?_getD, List.getElem?_eq_none hi]
    exact in64_zero
theorem Good.in64 {ps : List Pc} (h : Good ps) : ∀ p ∈ ps, In64 p := fun p hp => by
  have := (alone_iff p).1 (h p hp)
  unfold In64; omega

/-- a slice of pieces: where they lie -/
def SpansAt (w : World) (v : Value) (ps : List Pc) : Prop :=
  ∃ a cap, v = .slice a ps.length cap ∧ ps.length ≤ 1048576 ∧ ps.length ≤ cap ∧ cap ≤ 9223372036854775807 ∧ (∀ p ∈ ps, In64 p) ∧ (a = none → cap = 0) ∧
    ∀ i, i < ps.length → ∃ b o, a = some ⟨b, o, none⟩ ∧ w.cell? ⟨b, o + i * 2, none⟩ = some (.int .i64 (nth ps i).1) ∧ w.cell? ⟨b, o + i * 2 + 1, none⟩ = some (.int .i64 (nth ps i).2)
theorem SpansAt.fresh {w w' : World} {v : Value} {ps : List Pc} (h : SpansAt w v ps) (k : Fresh w w') : SpansAt w' v ps := by
  obtain ⟨a, cap, rfl, h1, h2, h3, h4, h5, hc⟩ := h
  refine ⟨a, cap, rfl, h1, h2, h3, h4, h5, fun i hi => ?_⟩
  obtain ⟨b, o, e, c0, c1⟩ := hc i hi
  exact ⟨b, o, e, (k.cell (World.block_lt_of_cell? _ _ c0)).trans c0, (k.cell (World.block_lt_of_cell? _ _ c1)).trans c1⟩
theorem SpansAt.drewN {w : World} {v : Value} {ps : List Pc} (h : SpansAt w v ps) (n : Nat) : SpansAt (w.drewN n) v ps := h
theorem SpansAt.drew {w : World} {v : Value} {ps : List Pc} (h : SpansAt w v ps) : SpansAt w.drew v ps := h
theorem SpansAt.in64 {w : World} {v : Value} {ps : List Pc} (h : SpansAt w v ps) : ∀ p ∈ ps, In64 p := by
  obtain ⟨a, cap, rfl, h1, h2, h3, h4, h5, hc⟩ := h
  exact h4
/-- nil, or a row that begins at a cell -/
def Plain (v : Value) : Prop := v = .slice none 0 0 ∨ ∃ b o n c, v = .slice (some ⟨b, o, none⟩) n c
def SpansIn (w : World) (v : Value) (ps : List Pc) : Prop := SpansAt w v ps ∧ Plain v
theorem SpansIn.fresh {w w' : World} {v : Value} {ps : List Pc} (h : SpansIn w v ps) (k : Fresh w w') : SpansIn w' v ps := ⟨h.1.fresh k, h.2⟩
/-- nil or not -/
theorem SpansIn.cases {w : World} {v : Value} {ps : List Pc} (h : SpansIn w v ps) : (v = .slice none 0 0 ∧ ps = []) ∨
    ∃ b o cap, v = .slice (some ⟨b, o, none⟩) ps.length cap ∧ ps.length ≤ 1048576 ∧ ps.length ≤ cap ∧ cap ≤ 9223372036854775807 ∧ (∀ p ∈ ps, In64 p) ∧
      ∀ i, i < ps.length → w.cell? ⟨b, o + i * 2, none⟩ = some (.int .i64 (nth ps i).1) ∧ w.cell? ⟨b, o + i * 2 + 1, none⟩ = some (.int .i64 (nth ps i).2) := by
  obtain ⟨⟨a, cap, rfl, h1, h2, h3, h4, h5, hc⟩, hp⟩ := h
  rcases hp with hp | ⟨b, o, n, c, hp⟩
  · simp at hp
    exact .inl ⟨by rw [hp.1, hp.2.2]; simp [hp.2.1], hp.2.1⟩
  · simp at hp
    obtain ⟨rfl, rfl, rfl⟩ := hp
    refine .inr ⟨b, o, cap, rfl, h1, h2, h3, h4, fun i hi => ?_⟩
    obtain ⟨b', o', e, c0, c1⟩ := hc i hi
    cases e
    exact ⟨c0, c1⟩
theorem spansIn_some {w : World} {b o cap : Nat} {ps : List Pc} (h1 : ps.length ≤ 1048576) (h2 : ps.length ≤ cap) (h3 : cap ≤ 9223372036854775807) (h4 : ∀ p ∈ ps, In64 p)
    (hc : ∀ i, i < ps.length → w.cell? ⟨b, o + i * 2, none⟩ = some (.int .i64 (nth ps i).1) ∧ w.cell? ⟨b, o + i * 2 + 1, none⟩ = some (.int .i64 (nth ps i).2)) : SpansIn w (.slice (some ⟨b, o, none⟩) ps.length cap) ps :=
  ⟨⟨_, cap, rfl, h1, h2, h3, h4, fun h => by simp at h, fun i hi => ⟨b, o, rfl, (hc i hi).1, (hc i hi).2⟩⟩, .inr ⟨b, o, _, _, rfl⟩⟩
theorem spansIn_nil (w : World) : SpansIn w (.slice none 0 0) [] := ⟨⟨none, 0, rfl, Nat.zero_le _, Nat.le_refl _, Nat.zero_le _, fun p hp => by simp at hp, fun _ => rfl, fun i hi => by simp at hi⟩, .inl rfl⟩

/-- pieces as cells -/
def svals : List Pc → List Value
  | [] => []
  | p :: r => .int .i64 p.1 :: .int .i64 p.2 :: svals r
theorem svals_length : ∀ ps : List Pc, (svals ps).length = ps.length * 2
  | [] => rfl
  | p :: r => by simp [svals, svals_length r]; omega
theorem svals_append : ∀ a b : List Pc, svals (a ++ b) = svals a ++ svals b
  | [], b => rfl
  | p :: r, b => by simp [svals, svals_append r b]
theorem svals_one : ∀ (ps : List Pc), ∀ u ∈ svals ps, u.oneCell' = true
  | [], u, hu => by simp [svals] at hu
  | p :: r, u, hu => by
    rcases List.mem_cons.1 hu with rfl | hu
    · rfl
    · rcases List.mem_cons.1 hu with rfl | hu
      · rfl
      · exact svals_one r u hu
theorem svals_get : ∀ (ps : List Pc) (i : Nat), i < ps.length → (svals ps)[i * 2]? = some (.int .i64 (nth ps i).1) ∧ (svals ps)[i * 2 + 1]? = some (.int .i64 (nth ps i).2)
  | [], i, h => by simp at h
  | p :: r, 0, _ => by simp [svals, nth]
  | p :: r, i + 1, h => by
    have := svals_get r i (by simpa using h)
    have e : (i + 1) * 2 = i * 2 + 1 + 1 := by omega
    rw [e]
    simpa [svals, nth] using this
/-- what an append reads of them -/
theorem SpansIn.news {w : World} {b o n cap : Nat} {ps : List Pc} (h : SpansIn w (.slice (some ⟨b, o, none⟩) n cap) ps) : ∀ j u, (svals ps)[j]? = some u → w.cell? ((⟨b, o, none⟩ : Addr).add j) = some u := by
  intro j u hu
  have hj : j < (svals ps).length := by
    rcases Nat.lt_or_ge j (svals ps).length with h | h
    · exact h
    · rw [List.getElem?_eq_none h] at hu; cases hu
  rw [svals_length] at hj
  rcases h.cases with ⟨e, _⟩ | ⟨b', o', cap', e, _, _, _, _, hc⟩
  · cases e
  · cases e
    obtain ⟨g0, g1⟩ := svals_get ps (j / 2) (by omega)
    obtain ⟨c0, c1⟩ := hc (j / 2) (by omega)
    rw [Go.WideShapes.add_plain b o j]
    rcases Nat.mod_two_eq_zero_or_one j with e | e
    · have ej : j / 2 * 2 = j := by omega
      rw [ej] at g0 c0
      rw [c0, ← g0, hu]
    · have ej : j / 2 * 2 + 1 = j := by omega
      rw [Nat.add_assoc, ej] at c1
      rw [ej] at g1
      rw [c1, ← g1, hu]

theorem nth_take {ps : List Pc} {k i : Nat} (h : i < k) : nth (ps.take k) i = nth ps i := by
  show (ps.take k).getD i (0, 0) = ps.getD i (0, 0)
  simp [List.getD_eq_getElem?_getD, h]
theorem nth_drop {ps : List Pc} {k i : Nat} : nth (ps.drop k) i = nth ps (k + i) := by
  show (ps.drop k).getD i (0, 0) = ps.getD (k + i) (0, 0)
  simp [List.getD_eq_getElem?_getD]
/-- the first k of them -/
theorem SpansIn.take {w : World} {b o n cap : Nat} {ps : List Pc} (h : SpansIn w (.slice (some ⟨b, o, none⟩) n cap) ps) {k : Nat} (hk : k ≤ ps.length) : SpansIn w (.slice (some ⟨b, o, none⟩) k cap) (ps.take k) := by
  rcases h.cases with ⟨e, _⟩ | ⟨b', o', cap', e, h1, h2, h3, h4, hc⟩
  · cases e
  · cases e
    have hl : (ps.take k).length = k := by rw [List.length_take]; omega
    have := spansIn_some (w := w) (b := b) (o := o) (cap := cap) (ps := ps.take k) (by omega) (by omega) h3 (fun p hp => h4 p (List.mem_of_mem_take hp)) (fun i hi => by
      rw [hl] at hi
      rw [nth_take hi]
      exact hc i (by omega))
    rwa [hl] at this
/-- those from k on -/
theorem SpansIn.drop {w : World} {b o n cap : Nat} {ps : List Pc} (h : SpansIn w (.slice (some ⟨b, o, none⟩) n cap) ps) {k : Nat} (hk : k ≤ ps.length) : SpansIn w (.slice (some ⟨b, o + k * 2, none⟩) (ps.length - k) (cap - k)) (ps.drop k) := by
  rcases h.cases with ⟨e, _⟩ | ⟨b', o', cap', e, h1, h2, h3, h4, hc⟩
  · cases e
  · cases e
    have hl : (ps.drop k).length = ps.length - k := List.length_drop
    have := spansIn_some (w := w) (b := b) (o := o + k * 2) (cap := cap - k) (ps := ps.drop k) (by omega) (by omega) (by omega) (fun p hp => h4 p (List.mem_of_mem_drop hp)) (fun i hi => by
      rw [hl] at hi
      rw [nth_drop]
      have := hc (k + i) (by omega)
      rw [show o + k * 2 + i * 2 = o + (k + i) * 2 by omega]
      exact this)
    rwa [hl] at this

/-- as Go slices them -/
theorem SpansIn.dropIf {w : World} {b o n cap : Nat} {ps : List Pc} (h : SpansIn w (.slice (some ⟨b, o, none⟩) n cap) ps) {k : Nat} (hk : k ≤ ps.length) : SpansIn w (.slice (if cap = k then some ⟨b, o, none⟩ else some ⟨b, o + k * 2, none⟩) (ps.length - k) (cap - k)) (ps.drop k) := by
  by_cases e : cap = k
  · rw [if_pos e]
    rcases h.cases with ⟨e', _⟩ | ⟨b', o', cap', e', h1, h2, h3, h4, hc⟩
    · cases e'
    · cases e'
      have e1 : ps.length - k = 0 := by omega
      have e2 : ps.drop k = [] := List.drop_eq_nil_of_le (by omega)
      rw [e1, e2]
      exact spansIn_some (ps := []) (by simp) (by simp) (by omega) (fun p hp => by simp at hp) (fun i hi => by simp at hi)
  · rw [if_neg e]
    exact h.drop hk
end Go.Proofs.Ytkcmhdedabcabaa
