/- Bytes of a call's own that are cleared from a place on (clear), or have others laid over them (copy): one law for the walk each, whatever the cuts. -/
import Derived.Test.YtbbfbelhdjloeaaByteIn
import Derived.Test.YtbbfbelhdjloeaaByteLay
import Derived.Laws.CopyOwn
import Derived.Lib.SliceRun
namespace Go.Proofs.Ytbbfbelhdjloeaa
open Go.RowKit

theorem OwnY.lay {base g cap N : Nat} : ∀ (cs l : List Int) (t : Nat) (w : World), OwnY w base (.slice (some ⟨g, 0, none⟩) N cap) l → N = l.length → t + cs.length ≤ l.length → OwnY (w.setCells g t (yvals cs)) base (.slice (some ⟨g, 0, none⟩) N cap) (layV l t cs)
  | [], l, t, _, h, _, _ => by rw [layV_none]; exact h
  | z :: cs, l, t, _, h, hN, hf => by
    rw [List.length_cons] at hf
    have := OwnY.lay cs (l.set t z) (t + 1) _ (h.put hN t z) (by simpa using hN) (by rw [List.length_set]; omega)
    rw [layV_cons l t z cs (by omega)] at this
    exact this
theorem fresh_lay {w0 : World} {g : Nat} (hb : w0.heap.size ≤ g) : ∀ (vs : List Value) (t : Nat) (w : World), Fresh w0 w → Fresh w0 (w.setCells g t vs)
  | [], _, _, h => h
  | v :: vs, t, _, h => fresh_lay hb vs (t + 1) _ (fresh_set h hb t v)
theorem OwnY.room {w : World} {base g cap N : Nat} {l : List Int} (h : OwnY w base (.slice (some ⟨g, 0, none⟩) N cap) l) (hN : N = l.length) (t n : Nat) (hf : t + n ≤ l.length) :
    (∀ j, j < n → (w.cell? ⟨g, t + j, none⟩).isSome = true) ∧ (∀ j, j < n → w.frozen? ⟨g, t + j, none⟩ = false) :=
  ⟨fun j hj => by rw [h.cell hN (t + j) (by omega)]; rfl, fun j _ => h.free hN (t + j)⟩

/-- clear, at the bytes from a place on -/
theorem wpList_clear_bytes {ops : Array Oper} {rest : List Oper} {o : Oper} {a : Act} {Q : Exit → Act → World → Prop} {w : World} (hgd : o.guard = none) (d : Operand)
    (ho : o.op = .call { callee := .builtin .clear, args := #[d], argTypes := #[22] })
    (dp : Option Addr) (n' n c : Nat) (hd : a.eval d = .slice dp n' c) (hn' : n' = n) (g t base N cap : Nat) (l : List Int) (hown : OwnY w base (.slice (some ⟨g, 0, none⟩) N cap) l) (hN : N = l.length)
    (hpos : 0 < n → dp = some ⟨g, t, none⟩) (hfit : t + n ≤ l.length) (w0 : World) (hf : Fresh w0 w) (hb : w0.heap.size ≤ g)
    (h : ∀ w', OwnY w' base (.slice (some ⟨g, 0, none⟩) N cap) (layV l t (List.replicate n 0)) → Fresh w0 w' → wpList Try.prog ops Q rest (a.put o.dst (.tuple #[])) w') :
    wpList Try.prog ops Q (o :: rest) a w := by
  subst hn'
  obtain ⟨i0, hi, hz0, hz1, hz2⟩ := infoOf infoByte
  have hv : ∀ w, (zeroValue 5).run Try.prog w = .ok (.int .u8 0) w := fun w => by simp [zeroValue, typeInfo, hi, hz0]
  refine wpList_plain hgd fun K hK => ?_
  have hrun : (Builtin.clear_ #[22] o.type #[.slice dp n' c]).run Try.prog w = .ok (.tuple #[]) (w.setCells g t (yvals (List.replicate n' 0))) := by
    by_cases hn : n' = 0
    · subst hn
      cases dp <;> simp [Builtin.clear_, run_underlying Try.underlying22, yvals, World.setCells]
    · rw [hpos (by omega)]
      obtain ⟨r1, r2⟩ := hown.room hN t n' hfit
      have := Go.Lib.run_clear_slice (P := Try.prog) w 22 5 o.type (.int .u8 0) Try.underlying22 hv rfl rfl g t n' c (by omega) r1 r2
      rw [this]
      unfold yvals
      rw [List.map_replicate]
  unfold Oper.wp
  simp [execOp, ho, resolve, invoke, builtin, hd, hrun, Result.andThen]
  exact hK _ _ (h _ (OwnY.lay _ _ _ _ hown hN (by simpa using hfit)) (fresh_lay hb _ _ _ hf))

/-- clear of nothing -/
theorem wpList_clear_nothing {ops : Array Oper} {rest : List Oper} {o : Oper} {a : Act} {Q : Exit → Act → World → Prop} {w : World} (hgd : o.guard = none) (d : Operand)
    (ho : o.op = .call { callee := .builtin .clear, args := #[d], argTypes := #[22] })
    (dp : Option Addr) (c : Nat) (hd : a.eval d = .slice dp 0 c) (h : wpList Try.prog ops Q rest (a.put o.dst (.tuple #[])) w) :
    wpList Try.prog ops Q (o :: rest) a w := by
  refine wpList_plain hgd fun K hK => ?_
  have hrun : (Builtin.clear_ #[22] o.type #[.slice dp 0 c]).run Try.prog w = .ok (.tuple #[]) w := by
    cases dp <;> simp [Builtin.clear_, run_underlying Try.underlying22]
  unfold Oper.wp
  simp [execOp, ho, resolve, invoke, builtin, hd, hrun, Result.andThen]
  exact hK _ _ h

/-- copy of nothing, as a step of a region that draws its order -/
theorem step_copy_nothing {o : Oper} {a : Act} {w : World} {K : Act → World → Prop} {Q : Exit → Act → World → Prop} (d s : Operand)
    (ho : o.op = .call { callee := .builtin .copy, args := #[d, s], argTypes := #[22, 22] })
    (dp sp : Option Addr) (n1 n2 dc sc : Nat) (hd : a.eval d = .slice dp n1 dc) (hs : a.eval s = .slice sp n2 sc) (hn1 : n1 = 0) (hn2 : n2 = 0) (h : K (a.put o.dst (goInt 0)) w) :
    Oper.wp Try.prog o a w K Q := by
  subst hn1
  subst hn2
  obtain ⟨i0, hi, hz0, hz1, hz2⟩ := infoOf infoByte
  have hsz : (Try.prog.info? 5).map (·.size) = some 1 := by rw [hi]; simp [hz1]
  have hrun := run_copy_none (P := Try.prog) w 22 22 o.type 5 dp sp 0 dc 0 sc Try.underlying22 hsz rfl
  unfold Oper.wp
  simp [execOp, ho, resolve, invoke, builtin, hd, hs, hrun, Result.andThen]
  exact h

/-- copy into the bytes from a place on, as a step of a region that draws its order -/
theorem step_copy_bytes {o : Oper} {a : Act} {w : World} {K : Act → World → Prop} {Q : Exit → Act → World → Prop} (d s : Operand)
    (ho : o.op = .call { callee := .builtin .copy, args := #[d, s], argTypes := #[22, 22] })
    (dp sp : Option Addr) (n1 n2 n dc sc : Nat) (hd : a.eval d = .slice dp n1 dc) (hs : a.eval s = .slice sp n2 sc) (hn1 : n1 = n) (hn2 : n2 = n)
    (g t base N cap : Nat) (l cs : List Int) (hcs : cs.length = n) (hown : OwnY w base (.slice (some ⟨g, 0, none⟩) N cap) l) (hN : N = l.length)
    (hpos : 0 < n → dp = some ⟨g, t, none⟩ ∧ ∃ b f, sp = some ⟨b, f, none⟩ ∧ ∀ i, i < n → w.cell? ⟨b, f + i, none⟩ = some (.int .u8 (cs.getD i 0))) (hfit : t + n ≤ l.length) (w0 : World) (hf : Fresh w0 w) (hb : w0.heap.size ≤ g)
    (h : ∀ w', OwnY w' base (.slice (some ⟨g, 0, none⟩) N cap) (layV l t cs) → Fresh w0 w' → K (a.put o.dst (goInt n)) w') :
    Oper.wp Try.prog o a w K Q := by
  subst hn1
  subst hn2
  obtain ⟨i0, hi, hz0, hz1, hz2⟩ := infoOf infoByte
  have hsz : (Try.prog.info? 5).map (·.size) = some 1 := by rw [hi]; simp [hz1]
  have hrun : (Builtin.copy_ #[22, 22] o.type #[.slice dp n2 dc, .slice sp n2 sc]).run Try.prog w = .ok (goInt n2) (w.setCells g t (yvals cs)) := by
    by_cases hn : n2 = 0
    · subst hn
      rw [List.eq_nil_of_length_eq_zero hcs]
      exact run_copy_none (P := Try.prog) w 22 22 o.type 5 dp sp 0 dc 0 sc Try.underlying22 hsz rfl
    · obtain ⟨rfl, b, f, rfl, hc⟩ := hpos (by omega)
      obtain ⟨r1, r2⟩ := hown.room hN t n2 hfit
      have := run_copy_cells (P := Try.prog) w 22 22 o.type 5 g t n2 dc ⟨b, f, none⟩ n2 sc (yvals cs) Try.underlying22 hsz (by rw [yvals_length, hcs]; exact (Nat.min_self _).symm)
        (fun j u hj => by
          have hjl : j < cs.length := by
            rcases Nat.lt_or_ge j cs.length with h | h
            · exact h
            · rw [List.getElem?_eq_none (by rw [yvals_length]; exact h)] at hj; cases hj
          rw [yvals_get cs j hjl] at hj
          rw [← Option.some.inj hj, Go.WideShapes.add_plain b f j]
          exact hc j (by omega))
        (by rw [yvals_length, hcs]; exact r1) (by rw [yvals_length, hcs]; exact r2) (yvals_one cs)
      rw [this, yvals_length, hcs]
  unfold Oper.wp
  simp [execOp, ho, resolve, invoke, builtin, hd, hs, hrun, Result.andThen]
  exact h _ (OwnY.lay _ _ _ _ hown hN (by omega)) (fresh_lay hb _ _ _ hf)
end Go.Proofs.Ytbbfbelhdjloeaa
