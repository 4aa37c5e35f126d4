/- Slices of bytes: in new memory (OwnY), read and cut (BytesIn), grown by others, as a string. -/
import Derived.Test.YtbbfbelhdjloeaaMem
import Derived.Test.YtbbfbelhdjloeaaRowZ
import Derived.Maps.AppendAt
import Derived.Laws.BytesArg
namespace Go.Proofs.Ytbbfbelhdjloeaa
open Go.RowKit

/-- numbers as bytes -/
def yvals (l : List Int) : List Value := l.map (Value.int .u8)
theorem yvals_length (l : List Int) : (yvals l).length = l.length := by unfold yvals; rw [List.length_map]
theorem yvals_get (l : List Int) (i : Nat) (hi : i < l.length) : (yvals l)[i]? = some (.int .u8 (l.getD i 0)) := by
  unfold yvals
  simp [List.getElem?_eq_getElem hi, List.getD_eq_getElem?_getD]
theorem yvals_one (l : List Int) : ∀ u ∈ yvals l, u.oneCell' = true := by
  intro u hu
  unfold yvals at hu
  obtain ⟨z, _, rfl⟩ := List.mem_map.1 hu
  rfl
/-- bytes in new memory -/
def OwnY (w : World) (base : Nat) (v : Value) (l : List Int) : Prop := w.ownsRow base 5 1 v l.length (yvals l)
theorem OwnY.nil (w : World) (base : Nat) : OwnY w base (.slice none 0 0) [] := World.ownsRow_nil _ _ _ _
theorem OwnY.fresh {w w' : World} {base : Nat} {v : Value} {l : List Int} (h : OwnY w base v l) (k : Fresh w w') : OwnY w' base v l := ownsRow_fresh h k
theorem OwnY.mono {w : World} {base base' : Nat} {v : Value} {l : List Int} (h : OwnY w base v l) (hb : base' ≤ base) : OwnY w base' v l := ownsRow_mono h hb
theorem OwnY.shape {w : World} {base : Nat} {v : Value} {l : List Int} (h : OwnY w base v l) : (v = .slice none 0 0 ∧ l = []) ∨ ∃ g cap, v = .slice (some ⟨g, 0, none⟩) l.length cap ∧ base ≤ g ∧ g < w.heap.size ∧ l.length ≤ cap ∧ cap ≤ maxLen := by
  rcases h.2 with ⟨rfl, hn⟩ | ⟨g, cap, cur, rfl, hb, hg, hc, hm, _⟩
  · exact .inl ⟨rfl, List.eq_nil_of_length_eq_zero hn⟩
  · exact .inr ⟨g, cap, rfl, hb, (Array.getElem?_eq_some_iff.1 hg).1, hc, hm⟩
theorem OwnY.slice {w : World} {base : Nat} {v : Value} {l : List Int} (h : OwnY w base v l) : ∃ a cap, v = .slice a l.length cap := by
  rcases h.shape with ⟨rfl, rfl⟩ | ⟨g, cap, rfl, _⟩
  · exact ⟨none, 0, rfl⟩
  · exact ⟨_, cap, rfl⟩
theorem OwnY.block {w : World} {base : Nat} {v : Value} {l : List Int} (h : OwnY w base v l) (i : Nat) (hi : v.ownBlock = some i) : base ≤ i := by
  rcases h.2 with ⟨rfl, _⟩ | ⟨g, cap, cur, rfl, hb, _⟩
  · cases hi
  · have : g = i := by simpa [Value.ownBlock] using hi
    omega
theorem OwnY.put {w : World} {base g cap N : Nat} {l : List Int} (h : OwnY w base (.slice (some ⟨g, 0, none⟩) N cap) l) (hN : N = l.length) (k : Nat) (z : Int) :
    OwnY (w.setCell ⟨g, k, none⟩ (.int .u8 z)) base (.slice (some ⟨g, 0, none⟩) N cap) (l.set k z) := by
  subst hN
  have := (World.ownsRow.stored h k (.int .u8 z)).1
  unfold OwnY
  rw [List.length_set]
  have e : (yvals l).set k (.int .u8 z) = yvals (l.set k z) := by unfold yvals; rw [List.map_set]
  rw [e] at this
  exact this
theorem OwnY.cell {w : World} {base g cap N : Nat} {l : List Int} (h : OwnY w base (.slice (some ⟨g, 0, none⟩) N cap) l) (hN : N = l.length) (k : Nat) (hk : k < N) : w.cell? ⟨g, k, none⟩ = some (.int .u8 (l.getD k 0)) := by
  subst hN
  rw [World.ownsRow.cellAt h k (by omega), yvals_get l k hk]
theorem OwnY.free {w : World} {base g cap N : Nat} {l : List Int} (h : OwnY w base (.slice (some ⟨g, 0, none⟩) N cap) l) (hN : N = l.length) (k : Nat) : w.frozen? ⟨g, k, none⟩ = false := by
  subst hN
  exact World.ownsRow.frozenAt h k
theorem infoByte : (Try.prog.info? 5).map (fun i => (i.zero, i.size, i.bytes)) = some (some (.int .u8 0), 1, 1) := by kernel_rfl

/-- a slice of bytes that is read -/
def BytesIn (w : World) (v : Value) (l : List Int) : Prop :=
  l.length ≤ 1048576 ∧ ((∃ a, v = .slice a 0 0 ∧ l = []) ∨ ∃ b o cap, v = .slice (some ⟨b, o, none⟩) l.length cap ∧ l.length ≤ cap ∧ cap ≤ 9223372036854775807 ∧
    ∀ i, i < l.length → w.cell? ⟨b, o + i, none⟩ = some (.int .u8 (l.getD i 0)))
theorem BytesIn.fresh {w w' : World} {v : Value} {l : List Int} (h : BytesIn w v l) (k : Fresh w w') : BytesIn w' v l := by
  obtain ⟨h1, h2⟩ := h
  refine ⟨h1, ?_⟩
  rcases h2 with h | ⟨b, o, cap, e, h3, h4, hc⟩
  · exact .inl h
  · exact .inr ⟨b, o, cap, e, h3, h4, fun i hi => (k.cell (World.block_lt_of_cell? _ _ (hc i hi))).trans (hc i hi)⟩
theorem BytesIn.shape {w : World} {v : Value} {l : List Int} (h : BytesIn w v l) : ∃ a cap, v = .slice a l.length cap ∧ l.length ≤ cap ∧ cap ≤ 9223372036854775807 := by
  rcases h.2 with ⟨a, rfl, rfl⟩ | ⟨b, o, cap, rfl, h3, h4, hc⟩
  · exact ⟨a, 0, rfl, by simp, by omega⟩
  · exact ⟨_, cap, rfl, h3, h4⟩
theorem bytesIn_nil (w : World) (a : Option Addr) : BytesIn w (.slice a 0 0) [] := ⟨by simp, .inl ⟨a, rfl, rfl⟩⟩
theorem OwnY.inn {w : World} {base : Nat} {v : Value} {l : List Int} (h : OwnY w base v l) (hl : l.length ≤ 1048576) : BytesIn w v l := by
  have h0 := h
  rcases h.2 with ⟨rfl, hn⟩ | ⟨g, cap, cur, rfl, hb, hg, hc, hm, hr⟩
  · have : l = [] := List.eq_nil_of_length_eq_zero hn
    subst this
    exact bytesIn_nil w none
  · refine ⟨hl, .inr ⟨g, 0, cap, rfl, hc, hm, fun i hi => ?_⟩⟩
    rw [Nat.zero_add, World.ownsRow.cellAt h0 i (by omega), yvals_get l i hi]
/-- its cells -/
theorem BytesIn.cell {w : World} {a : Option Addr} {n cap : Nat} {l : List Int} (h : BytesIn w (.slice a n cap) l) (i : Nat) (hi : i < l.length) : ∃ b o, a = some ⟨b, o, none⟩ ∧ w.cell? ⟨b, o + i, none⟩ = some (.int .u8 (l.getD i 0)) := by
  rcases h.2 with ⟨a, e, rfl⟩ | ⟨b, o, cap, e, _, _, hc⟩
  · simp at hi
  · cases e
    exact ⟨b, o, rfl, hc i hi⟩
/-- bytes laid out in a block of memory -/
theorem bytesIn_lit {w : World} {B : Nat} {cs : Array Value} {t : TypeId} {l : List Int} {n : Nat} (hb : w.heap[B]? = some (.cells cs t (0, 0))) (hcs : cs.toList = yvals l) (hn : l.length = n) (hl : l.length ≤ 1048576) : BytesIn w (.slice (some ⟨B, 0, none⟩) n n) l := by
  subst hn
  refine ⟨hl, .inr ⟨B, 0, l.length, rfl, Nat.le_refl _, by omega, fun i hi => ?_⟩⟩
  rw [Nat.zero_add]
  have h := yvals_get l i hi
  rw [← hcs] at h
  exact cell_block hb i _ (by simpa using h)
/-- as a string -/
theorem bytes_str {w : World} {v : Value} {l : List Int} (h : BytesIn w v l) : (convert 22 9 v).run Try.prog w = .ok (.string (strOfNums l)) w := by
  rcases h.2 with ⟨a, rfl, rfl⟩ | ⟨b, o, cap, rfl, h3, h4, hc⟩
  · rcases a with _ | ⟨b, o, s⟩
    · exact run_convert_bytes_nil w 22 5 Try.underlying22 Try.underlying5 0 0 9 Try.underlying9
    · rw [run_convert_bytes_string w 22 9 5 _ 0 0 Try.underlying22 Try.underlying5 Try.underlying9, run_bytesToString w _ 0 0 [] (by simp [loadCells, loadCellsFrom])]
      rfl
  · exact run_convert_bytes_arg w 22 5 Try.underlying22 Try.underlying5 b o _ cap l rfl hc 9 Try.underlying9

/-- a slice of the call's own grows by bytes that are read -/
theorem wpList_app_bytes {ops : Array Oper} {rest : List Oper} {o : Oper} {a : Act} {Q : Exit → Act → World → Prop} {w : World} (hgd : o.guard = none) (s x : Operand)
    (ho : o.op = .call { callee := .builtin .append, args := #[s, x], argTypes := #[22, 22] })
    (base : Nat) (v xv : Value) (ys zs : List Int) (hs : a.eval s = v) (hown : OwnY w base v ys) (hx : a.eval x = xv) (hin : BytesIn w xv zs)
    (hn : ys.length + zs.length ≤ 140737488355328) (hbase : base ≤ w.heap.size)
    (h : ∀ v1 w1, OwnY w1 base v1 (ys ++ zs) → w.grownBy w1 v.ownBlock → (v1.ownBlock = v.ownBlock ∨ v1.ownBlock = some w.heap.size) → wpList Try.prog ops Q rest (a.put o.dst v1) w1) :
    wpList Try.prog ops Q (o :: rest) a w := by
  obtain ⟨i0, hi, hz0, hz1, hz2⟩ := infoOf infoByte
  have some_case : ∀ (ad : Addr) (cap : Nat), xv = .slice (some ad) zs.length cap → (∀ j u, (yvals zs)[j]? = some u → w.cell? (ad.add j) = some u) → wpList Try.prog ops Q (o :: rest) a w := by
    intro ad cap e hc
    subst e
    refine wpList_append_own_at _ hgd s x 22 ho base 5 i0 (.int .u8 0) 1 1 Try.underlying22 hi hz0 hz1 hz2 rfl (by decide) v ys.length (yvals ys) hs hown ad zs.length cap (yvals zs) hx (by rw [yvals_length, Nat.mul_one]) hc (yvals_one zs) (by unfold maxLen; omega) (by omega) hbase ?_
    intro v1 w1 h1 h2 _ h3
    refine h v1 w1 ?_ h2 h3
    unfold OwnY
    rw [List.length_append, show yvals (ys ++ zs) = yvals ys ++ yvals zs from List.map_append ..]
    exact h1
  rcases hin.2 with ⟨ad, e, rfl⟩ | ⟨b, of, cap, e, h3, h4, hc⟩
  · rcases ad with _ | ad
    · refine wpList_append_own_none hgd s x 22 ho base 5 i0 1 Try.underlying22 hi v ys.length (yvals ys) hs hown (by rw [hx, e]) ?_
      have := h v w (by rw [List.append_nil]; exact hown) ⟨rfl, rfl, rfl, Nat.le_refl _, fun _ _ _ => rfl⟩ (.inl rfl)
      exact this
    · exact some_case ad 0 e fun j u hj => by simp [yvals] at hj
  · refine some_case ⟨b, of, none⟩ cap e fun j u hj => ?_
    have hjl : j < zs.length := by
      rcases Nat.lt_or_ge j zs.length with h | h
      · exact h
      · rw [List.getElem?_eq_none (by rw [yvals_length]; exact h)] at hj; cases hj
    rw [yvals_get zs j hjl] at hj
    rw [← Option.some.inj hj, Go.WideShapes.add_plain b of j]
    exact hc j hjl
end Go.Proofs.Ytbbfbelhdjloeaa
