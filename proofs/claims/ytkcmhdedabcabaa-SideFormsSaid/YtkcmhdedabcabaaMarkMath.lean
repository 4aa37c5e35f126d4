/- Marks, rising by where they begin: where one goes (aheadN), if it is there (hitM), what is put (putM), taken (takM), found (findM). Of no program. -/
import Derived.Test.YtkcmhdedabcabaaSpanMath
namespace Go.Proofs.Ytkcmhdedabcabaa

def Rise (ps : List Pc) : Prop := ps.Pairwise (fun p q => p.1 < q.1)
def hitM (ps : List Pc) (x : Int) : Bool := decide (aheadN ps x < ps.length) && decide ((nth ps (aheadN ps x)).1 = x)
/-- what lies behind x begins here -/
def nxM (ps : List Pc) (x : Int) : Nat := if hitM ps x then aheadN ps x + 1 else aheadN ps x
def putM (ps : List Pc) (m : Pc) : List Pc := ps.take (aheadN ps m.1) ++ m :: ps.drop (nxM ps m.1)
def takM (ps : List Pc) (x : Int) : List Pc := ps.take (aheadN ps x) ++ ps.drop (nxM ps x)
def clsM (ps : List Pc) (x : Int) : Int := if hitM ps x then (nth ps (aheadN ps x)).2 else 0
def findM (ps : List Pc) (x : Int) : Option Int := if hitM ps x then some (nth ps (aheadN ps x)).2 else none
theorem hit_iff {ps : List Pc} {x : Int} : hitM ps x = true ↔ aheadN ps x < ps.length ∧ (nth ps (aheadN ps x)).1 = x := by unfold hitM; simp
theorem rise_nil : Rise [] := List.Pairwise.nil
theorem rise_nth {ps : List Pc} (h : Rise ps) {i j : Nat} (hij : i < j) (hj : j < ps.length) : (nth ps i).1 < (nth ps j).1 := by
  have hi : i < ps.length := by omega
  rw [← nth_get hi, ← nth_get hj]
  exact List.pairwise_iff_getElem.1 h i j hi hj hij
theorem mem_take_nth {ps : List Pc} {k : Nat} {p : Pc} : p ∈ ps.take k ↔ ∃ i, i < k ∧ i < ps.length ∧ nth ps i = p := by
  constructor
  · intro h
    obtain ⟨i, hi, e⟩ := List.getElem_of_mem h
    rw [List.length_take] at hi
    refine ⟨i, by omega, by omega, ?_⟩
    rw [← nth_get (show i < ps.length by omega), ← e, List.getElem_take]
  · rintro ⟨i, h1, h2, rfl⟩
    rw [← nth_get h2]
    exact List.mem_take_iff_getElem.2 ⟨i, by omega, rfl⟩
theorem mem_drop_nth {ps : List Pc} {k : Nat} {p : Pc} : p ∈ ps.drop k ↔ ∃ i, k ≤ i ∧ i < ps.length ∧ nth ps i = p := by
  constructor
  · intro h
    obtain ⟨i, hi, e⟩ := List.getElem_of_mem h
    rw [List.length_drop] at hi
    refine ⟨k + i, by omega, by omega, ?_⟩
    rw [← nth_get (show k + i < ps.length by omega), ← e, List.getElem_drop]
  · rintro ⟨i, h1, h2, rfl⟩
    rw [← nth_get h2]
    exact List.mem_drop_iff_getElem.2 ⟨i - k, by omega, by congr 1; omega⟩
theorem nx_le (ps : List Pc) (x : Int) : nxM ps x ≤ ps.length := by
  unfold nxM
  split
  · rename_i h; have := (hit_iff.1 h).1; omega
  · exact ahead_le ps x
theorem ahead_nx (ps : List Pc) (x : Int) : aheadN ps x ≤ nxM ps x := by unfold nxM; split <;> omega
/-- what lies behind lies above -/
theorem nx_lt {ps : List Pc} (h : Rise ps) {x : Int} {i : Nat} (h1 : nxM ps x ≤ i) (h2 : i < ps.length) : x < (nth ps i).1 := by
  cases hh : hitM ps x with
  | true =>
    obtain ⟨g1, g2⟩ := hit_iff.1 hh
    unfold nxM at h1
    rw [hh, if_pos rfl] at h1
    have := rise_nth h (show aheadN ps x < i by omega) h2
    omega
  | false =>
    have e : nxM ps x = aheadN ps x := by unfold nxM; rw [hh]; rfl
    rw [e] at h1
    have ha := ahead_at ps x (by omega)
    have hne : (nth ps (aheadN ps x)).1 ≠ x := fun e => by
      have : hitM ps x = true := hit_iff.2 ⟨by omega, e⟩
      rw [hh] at this; cases this
    by_cases e2 : i = aheadN ps x
    · subst e2; omega
    · have := rise_nth h (show aheadN ps x < i by omega) h2
      omega
theorem mem_tak {ps : List Pc} (h : Rise ps) {x : Int} {p : Pc} : p ∈ takM ps x ↔ p ∈ ps ∧ p.1 ≠ x := by
  unfold takM
  rw [List.mem_append, mem_take_nth, mem_drop_nth]
  constructor
  · rintro (⟨i, h1, h2, rfl⟩ | ⟨i, h1, h2, rfl⟩)
    · have := ahead_lt ps x i h1
      exact ⟨nth_mem h2, by omega⟩
    · have := nx_lt h h1 h2
      exact ⟨nth_mem h2, by omega⟩
  · rintro ⟨hm, hne⟩
    obtain ⟨i, hi, rfl⟩ := mem_nth hm
    by_cases g : i < aheadN ps x
    · exact .inl ⟨i, g, hi, rfl⟩
    · refine .inr ⟨i, ?_, hi, rfl⟩
      unfold nxM
      split
      · rename_i hh
        have := (hit_iff.1 hh).2
        by_cases e : i = aheadN ps x
        · subst e; exact absurd this hne
        · omega
      · omega
theorem mem_put {ps : List Pc} (h : Rise ps) {m p : Pc} : p ∈ putM ps m ↔ p = m ∨ (p ∈ ps ∧ p.1 ≠ m.1) := by
  rw [← mem_tak h]
  unfold putM takM
  simp only [List.mem_append, List.mem_cons]
  constructor
  · rintro (h | h | h)
    · exact .inr (.inl h)
    · exact .inl h
    · exact .inr (.inr h)
  · rintro (h | h | h)
    · exact .inr (.inl h)
    · exact .inl h
    · exact .inr (.inr h)
theorem rise_tak {ps : List Pc} (h : Rise ps) (x : Int) : Rise (takM ps x) := by
  unfold takM
  refine List.pairwise_append.2 ⟨h.sublist (List.take_sublist _ _), h.sublist (List.drop_sublist _ _), fun p hp q hq => ?_⟩
  obtain ⟨i, h1, h2, rfl⟩ := mem_take_nth.1 hp
  obtain ⟨j, h3, h4, rfl⟩ := mem_drop_nth.1 hq
  have := ahead_lt ps x i h1
  have := nx_lt h h3 h4
  omega
theorem rise_put {ps : List Pc} (h : Rise ps) (m : Pc) : Rise (putM ps m) := by
  unfold putM
  refine List.pairwise_append.2 ⟨h.sublist (List.take_sublist _ _), List.pairwise_cons.2 ⟨fun q hq => ?_, h.sublist (List.drop_sublist _ _)⟩, fun p hp q hq => ?_⟩
  · obtain ⟨j, h3, h4, rfl⟩ := mem_drop_nth.1 hq
    exact nx_lt h h3 h4
  · obtain ⟨i, h1, h2, rfl⟩ := mem_take_nth.1 hp
    have := ahead_lt ps m.1 i h1
    rcases List.mem_cons.1 hq with rfl | hq
    · exact this
    · obtain ⟨j, h3, h4, rfl⟩ := mem_drop_nth.1 hq
      have := nx_lt h h3 h4
      omega
theorem putM_length (ps : List Pc) (m : Pc) : (putM ps m).length = ps.length + (if hitM ps m.1 then 0 else 1) := by
  have h1 := ahead_le ps m.1
  have h2 := nx_le ps m.1
  have e : nxM ps m.1 = if hitM ps m.1 then aheadN ps m.1 + 1 else aheadN ps m.1 := rfl
  unfold putM
  rw [List.length_append, List.length_cons, List.length_take, List.length_drop]
  split at e
  · rename_i h; rw [if_pos h]; omega
  · rename_i h; rw [if_neg h]; omega
theorem takM_length (ps : List Pc) (x : Int) : (takM ps x).length + (if hitM ps x then 1 else 0) = ps.length := by
  have h1 := ahead_le ps x
  have h2 := nx_le ps x
  have e : nxM ps x = if hitM ps x then aheadN ps x + 1 else aheadN ps x := rfl
  unfold takM
  rw [List.length_append, List.length_take, List.length_drop]
  split at e
  · rename_i h; rw [if_pos h]; omega
  · rename_i h; rw [if_neg h]; omega
theorem find_some {ps : List Pc} (h : Rise ps) {x c : Int} : findM ps x = some c ↔ (x, c) ∈ ps := by
  constructor
  · intro hf
    unfold findM at hf
    split at hf
    · rename_i hh
      obtain ⟨g1, g2⟩ := hit_iff.1 hh
      cases hf
      have := nth_mem g1
      rw [show nth ps (aheadN ps x) = (x, (nth ps (aheadN ps x)).2) from Prod.ext g2 rfl] at this
      exact this
    · cases hf
  · intro hm
    obtain ⟨i, hi, e⟩ := mem_nth hm
    have e1 : (nth ps i).1 = x := by rw [← e]
    have ea : aheadN ps x = i := ahead_eq (Nat.le_of_lt hi) (fun t ht => by have := rise_nth h ht hi; omega) (fun _ => by omega)
    have hh : hitM ps x = true := hit_iff.2 ⟨by rw [ea]; exact hi, by rw [ea]; exact e1⟩
    unfold findM
    rw [hh, if_pos rfl, ea, ← e]
theorem find_put {ps : List Pc} (h : Rise ps) (m : Pc) (k : Int) : findM (putM ps m) k = if k = m.1 then some m.2 else findM ps k := by
  apply Option.ext
  intro c
  rw [find_some (rise_put h m), mem_put h]
  by_cases e : k = m.1
  · rw [if_pos e]
    subst e
    constructor
    · rintro (h | ⟨_, h⟩)
      · rw [← h]
      · exact absurd rfl h
    · intro h; cases h; exact .inl rfl
  · rw [if_neg e, find_some h]
    constructor
    · rintro (h | ⟨h, _⟩)
      · rw [← h] at e; exact absurd rfl e
      · exact h
    · intro h; exact .inr ⟨h, e⟩
theorem find_tak {ps : List Pc} (h : Rise ps) (x k : Int) : findM (takM ps x) k = if k = x then none else findM ps k := by
  apply Option.ext
  intro c
  rw [find_some (rise_tak h x), mem_tak h]
  by_cases e : k = x
  · rw [if_pos e]
    constructor
    · rintro ⟨_, h⟩; exact absurd e h
    · intro h; cases h
  · rw [if_neg e, find_some h]
    exact ⟨fun h => h.1, fun h => ⟨h, e⟩⟩
theorem hit_find (ps : List Pc) (x : Int) : hitM ps x = (findM ps x).isSome := by
  unfold findM
  cases hitM ps x <;> rfl
theorem cls_find (ps : List Pc) (x : Int) : clsM ps x = (findM ps x).getD 0 := by
  unfold findM clsM
  cases hitM ps x <;> rfl
end Go.Proofs.Ytkcmhdedabcabaa
