/- A map from beginnings to classes beside a row of marks: it has what the row has (Rel). -/
import Derived.Test.YtkcmhdedabcabaaMarkMem
import Derived.Test.YtkcmhdedabcabaaMarkMath
import Derived.Maps.OwnSet
import Derived.MapKept
namespace Go.Proofs.Ytkcmhdedabcabaa
open Go.RowKit Go.Maps

theorem intLaw : Keyed Try.prog 3 := int_keyed Try.underlying3
theorem zeroI (w : World) : (zeroValue 3).run Try.prog w = .ok (.int .i64 0) w := by kernel_rfl
theorem makeMap_none (w : World) : (Instr.makeMap 37 none).run Try.prog w = .ok (.map (some w.heap.size)) (w.alloc (.map #[] 0)) := by
  simp [Instr.makeMap]
/-- what a beginning reads as -/
def kI (a : Int) : Lit := .int .i64 a
theorem kI_of {a : Int} (h1 : 0 ≤ a) (h2 : a ≤ 65535) : keyOf Try.prog 3 (.int .i64 a) = some (kI a) := keyOf_int_mk Try.underlying3 (WalkArith.wf_i64 (by omega))
theorem kI_key {a : Int} (h1 : 0 ≤ a) (h2 : a ≤ 65535) : WideAt.IsKeyLit (kI a) := intLaw.key (kI_of h1 h2)
theorem kI_ne {a b : Int} (h : a ≠ b) : kI a ≠ kI b := fun e => h (by simpa [kI] using e)
/-- what stands at a key -/
def atF (o : Option Int) (z : DataW Unit) : DataW Unit := match o with
  | some c => .lit (.int .i64 c)
  | none => z
/-- the map has what the row has -/
structure Rel (ps : List Pc) (D : DataW Unit) : Prop where
  tidy : Tidy D
  has : ∀ k : Int, 0 ≤ k → k ≤ 65535 → Maps.has D (kI k) = (findM ps k).isSome
  look : ∀ k : Int, 0 ≤ k → k ≤ 65535 → ∀ z, D.atKey (kI k) z = atF (findM ps k) z
  size : Maps.size D = ps.length
theorem rel_nil : Rel [] (.map []) := ⟨tidy_empty, fun _ _ _ => rfl, fun _ _ _ _ => rfl, rfl⟩
theorem Rel.put {ps : List Pc} {D : DataW Unit} (h : Rel ps D) (hr : Rise ps) {x c : Int} (h1 : 0 ≤ x) (h2 : x ≤ 65535) : Rel (putM ps (x, c)) (D.put (kI x) (.lit (.int .i64 c))) := by
  refine ⟨h.tidy.put (kI_key h1 h2) _, fun k k1 k2 => ?_, fun k k1 k2 z => ?_, ?_⟩
  · rw [find_put hr]
    by_cases e : k = x
    · subst e
      rw [if_pos rfl, has_put_same h.tidy.isMap (kI_key h1 h2)]; rfl
    · rw [if_neg e, has_put_other (kI_ne e)]; exact h.has k k1 k2
  · rw [find_put hr]
    by_cases e : k = x
    · subst e
      rw [if_pos rfl, atKey_put_same h.tidy.isMap (kI_key h1 h2)]; rfl
    · rw [if_neg e, atKey_put_other (kI_ne e)]; exact h.look k k1 k2 z
  · rw [size_put h.tidy, putM_length, h.has x h1 h2, h.size, ← hit_find]
    cases hitM ps x <;> rfl
theorem Rel.del {ps : List Pc} {D : DataW Unit} (h : Rel ps D) (hr : Rise ps) {x : Int} (h1 : 0 ≤ x) (h2 : x ≤ 65535) : Rel (takM ps x) (D.del (kI x)) := by
  refine ⟨h.tidy.del _, fun k k1 k2 => ?_, fun k k1 k2 z => ?_, ?_⟩
  · rw [find_tak hr]
    by_cases e : k = x
    · subst e
      rw [if_pos rfl, has_del_same]; rfl
    · rw [if_neg e, has_del_other (kI_ne e)]; exact h.has k k1 k2
  · rw [find_tak hr]
    by_cases e : k = x
    · subst e
      rw [if_pos rfl, atKey_del_same]; rfl
    · rw [if_neg e, atKey_del_other (kI_ne e)]; exact h.look k k1 k2 z
  · have s1 := size_del (k := kI x) h.tidy
    have s2 := takM_length ps x
    rw [h.has x h1 h2, h.size, ← hit_find] at s1
    split at s1 <;> simp_all <;> omega
/-- a row of marks stays, whatever becomes of a map -/
theorem SpansIn.turned {w w' : World} {v : Value} {ps : List Pc} {B n : Nat} {D : DataW Unit} (h : SpansIn w v ps) (hm : w.ownsMap Try.prog 3 (plainElem Try.prog 3) B n D) (hg : w.grownBy w' (some B)) : SpansIn w' v ps := by
  obtain ⟨es, clock, hb, _⟩ := hm
  have keep : ∀ b o x, w.cell? ⟨b, o, none⟩ = some x → w'.cell? ⟨b, o, none⟩ = some x := fun b o x hc => by
    have hlt : b < w.heap.size := World.block_lt_of_cell? _ _ hc
    have hne : b ≠ B := by
      rintro rfl
      simp [World.cell?, hb] at hc
    exact (World.cell?_of_block (w := w) (hg.block b hlt (fun e => hne (by simpa using e)))).trans hc
  obtain ⟨⟨a, cap, rfl, h1, h2, h3, h4, h5, hc⟩, hp⟩ := h
  refine ⟨⟨a, cap, rfl, h1, h2, h3, h4, h5, fun i hi => ?_⟩, hp⟩
  obtain ⟨b, o, e, c0, c1⟩ := hc i hi
  exact ⟨b, o, e, keep _ _ _ c0, keep _ _ _ c1⟩
theorem ownsMap_fresh {w w' : World} {B n : Nat} {D : DataW Unit} (h : w.ownsMap Try.prog 3 (plainElem Try.prog 3) B n D) (k : Fresh w w') : w'.ownsMap Try.prog 3 (plainElem Try.prog 3) B n D := by
  obtain ⟨es, clock, hb, rest⟩ := h
  exact ⟨es, clock, by rw [k.block B (Array.getElem?_eq_some_iff.1 hb).1]; exact hb, rest⟩
end Go.Proofs.Ytkcmhdedabcabaa
