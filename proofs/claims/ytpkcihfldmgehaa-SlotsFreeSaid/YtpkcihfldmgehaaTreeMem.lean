/- Trees of bits in memory: a value of type api.Tree whose levels are rows of words that are read (TreeAt); rows of words in new memory, and what leaves them as they are (Stays). -/
import Derived.Test.YtpkcihfldmgehaaTreeMath
import Derived.Test.YtpkcihfldmgehaaFresh
import Derived.Test.YtpkcihfldmgehaaAnd63
namespace Go.Proofs.Ytpkcihfldmgehaa
open Go.RowKit

/-- where the levels lie -/
def LvAt (w : World) (a : Option Addr) (h : Nat) (f : Nat → List Nat) : Prop :=
  ∀ i, i < h → ∃ b o u, a = some ⟨b, o, none⟩ ∧ w.cell? ⟨b, o + i, none⟩ = some u ∧ WordsAt w u (f i)
theorem LvAt.fresh {w w' : World} {a : Option Addr} {h : Nat} {f : Nat → List Nat} (hl : LvAt w a h f) (k : Fresh w w') : LvAt w' a h f := by
  intro i hi
  obtain ⟨b, o, u, e, hc, hw⟩ := hl i hi
  exact ⟨b, o, u, e, (k.cell (World.block_lt_of_cell? _ _ hc)).trans hc, hw.fresh k⟩
/-- a value of type api.Tree -/
def TreeV (w : World) (v : Value) (n h : Nat) (f : Nat → List Nat) : Prop :=
  ∃ a cap, v = .agg #[.int .i64 (n : Int), .slice a h cap] ∧ LvAt w a h f
theorem TreeV.fresh {w w' : World} {v : Value} {n h : Nat} {f : Nat → List Nat} (hv : TreeV w v n h f) (k : Fresh w w') : TreeV w' v n h f := by
  obtain ⟨a, cap, e, hl⟩ := hv
  exact ⟨a, cap, e, hl.fresh k⟩
/-- a tree that may be: its size, its row of bits -/
def TreeAt (w : World) (v : Value) (n : Nat) (ws : List Nat) : Prop := 1 ≤ n ∧ n ≤ 65536 ∧ Lev n ws ∧ TreeV w v n (nLev n) (lvV ws)
theorem TreeAt.fresh {w w' : World} {v : Value} {n : Nat} {ws : List Nat} (h : TreeAt w v n ws) (k : Fresh w w') : TreeAt w' v n ws := ⟨h.1, h.2.1, h.2.2.1, h.2.2.2.fresh k⟩
theorem TreeAt.drewN {w : World} {v : Value} {n : Nat} {ws : List Nat} (h : TreeAt w v n ws) (m : Nat) : TreeAt (w.drewN m) v n ws := h.fresh (Fresh.drewN w m)
theorem TreeAt.drew {w : World} {v : Value} {n : Nat} {ws : List Nat} (h : TreeAt w v n ws) : TreeAt w.drew v n ws := h.drewN 1
theorem TreeAt.lev {w : World} {v : Value} {n : Nat} {ws : List Nat} (h : TreeAt w v n ws) : Lev n ws := h.2.2.1
/-- a tree that lies in blocks from base on: it is there in each world that has these blocks -/
def TreeNew (base : Nat) (w : World) (v : Value) (n : Nat) (ws : List Nat) : Prop := ∀ w' : World, (∀ k, base ≤ k → k < w.heap.size → w'.heap[k]? = w.heap[k]?) → TreeAt w' v n ws
theorem TreeNew.at {base : Nat} {w : World} {v : Value} {n : Nat} {ws : List Nat} (h : TreeNew base w v n ws) : TreeAt w v n ws := h w fun _ _ _ => rfl
theorem TreeNew.mono {base base' : Nat} {w : World} {v : Value} {n : Nat} {ws : List Nat} (h : TreeNew base w v n ws) (hb : base' ≤ base) : TreeNew base' w v n ws := fun w' hw => h w' fun k hk => hw k (Nat.le_trans hb hk)
theorem TreeNew.fresh {base : Nat} {w w1 : World} {v : Value} {n : Nat} {ws : List Nat} (h : TreeNew base w v n ws) (k : Fresh w w1) : TreeNew base w1 v n ws :=
  fun w' hw => h w' fun i hi hl => (hw i hi (Nat.lt_of_lt_of_le hl k.size)).trans (k.block i hl)
/-- a block beside is written -/
theorem TreeNew.beside {base : Nat} {w w1 : World} {v : Value} {n : Nat} {ws : List Nat} (h : TreeNew base w v n ws) (hs : w.heap.size ≤ w1.heap.size) (hk : ∀ k, base ≤ k → k < w.heap.size → w1.heap[k]? = w.heap[k]?) : TreeNew base w1 v n ws :=
  fun w' hw => h w' fun i hi hl => (hw i hi (Nat.lt_of_lt_of_le hl hs)).trans (hk i hi hl)
/-- two cells of an elder block are written -/
theorem TreeNew.store {base : Nat} {w : World} {v : Value} {n : Nat} {ws : List Nat} (h : TreeNew base w v n ws) {T : Nat} (hT : T < base) (x y : Value) : TreeNew base ((w.setCell ⟨T, 0, none⟩ x).setCell ⟨T, 1, none⟩ y) v n ws := by
  refine h.beside (by simp [World.setCell]) fun k hk _ => ?_
  rw [heap_setCell_other _ ⟨T, 1, none⟩ k y (fun e => by simp at e; omega), heap_setCell_other _ ⟨T, 0, none⟩ k x (fun e => by simp at e; omega)]
theorem LvAt.len {w : World} {a : Option Addr} {h : Nat} {f : Nat → List Nat} (hl : LvAt w a h f) (hh : 1 ≤ h) : ∃ b o, a = some ⟨b, o, none⟩ := by
  obtain ⟨b, o, u, e, _⟩ := hl 0 (by omega)
  exact ⟨b, o, e⟩
theorem LvAt.row {w : World} {b o : Nat} {h : Nat} {f : Nat → List Nat} (hl : LvAt w (some ⟨b, o, none⟩) h f) (i : Nat) (hi : i < h) : ∃ x c, w.cell? ⟨b, o + i, none⟩ = some (.slice x (f i).length c) ∧ WordsAt w (.slice x (f i).length c) (f i) := by
  obtain ⟨b', o', u, e, hc, hw⟩ := hl i hi
  cases e
  have hw' := hw
  obtain ⟨x, c, rfl, _⟩ := hw
  exact ⟨x, c, hc, hw'⟩
/-- the empty one -/
def noTree : Value := .agg #[.int .i64 0, .slice none 0 0]
theorem noTree_at (w : World) (f : Nat → List Nat) : TreeV w noTree 0 0 f := ⟨none, 0, rfl, fun i hi => by omega⟩


/-- rows of words stay -/
def Stays (w w' : World) : Prop := ∀ (g : Nat) (cur : Array Value), w.heap[g]? = some (.cells cur 67 (0, 0)) → w'.heap[g]? = some (.cells cur 67 (0, 0))
theorem Stays.refl (w : World) : Stays w w := fun _ _ h => h
theorem Stays.trans {a b c : World} (h : Stays a b) (k : Stays b c) : Stays a c := fun g cur hg => k g cur (h g cur hg)
theorem Stays.fresh {w w' : World} (k : Fresh w w') : Stays w w' := fun g cur hg => by rw [k.block g (Array.getElem?_eq_some_iff.1 hg).1]; exact hg
theorem Stays.setCell {w : World} {b : Nat} {c : Array Value} {t : TypeId} {fr : Nat × Nat} (hb : w.heap[b]? = some (.cells c t fr)) (ht : t ≠ 67) (j : Nat) (v : Value) : Stays w (w.setCell ⟨b, j, none⟩ v) := by
  intro g cur hg
  have : g ≠ b := by
    rintro rfl
    rw [hb] at hg
    simp at hg
    exact ht hg.2.1
  rw [heap_setCell_other w ⟨b, j, none⟩ g v (fun e => this e)]
  exact hg
theorem Stays.grown {w w' : World} {row : Option Nat} (h : w.grownBy w' row) (hr : ∀ k, row = some k → ∃ c t fr, w.heap[k]? = some (.cells c t fr) ∧ t ≠ 67) : Stays w w' := by
  intro g cur hg
  have hne : row ≠ some g := by
    rintro rfl
    obtain ⟨c, t, fr, hk, ht⟩ := hr g rfl
    rw [hk] at hg
    simp at hg
    exact ht hg.2.1
  have := h.block g (Array.getElem?_eq_some_iff.1 hg).1 (fun e => hne e.symm)
  rw [this]; exact hg
theorem OwnW.stays {w w' : World} {base : Nat} {v : Value} {ws : List Nat} (h : OwnW w base v ws) (k : Stays w w') : OwnW w' base v ws := by
  refine ⟨h.1, ?_⟩
  rcases h.2 with hn | ⟨g, cap, cur, rfl, hb, hg, rest⟩
  · exact .inl hn
  · exact .inr ⟨g, cap, cur, rfl, hb, k g cur hg, rest⟩
theorem OwnW.mono {w : World} {base base' : Nat} {v : Value} {ws : List Nat} (h : OwnW w base v ws) (hb : base' ≤ base) : OwnW w base' v ws := by
  refine ⟨h.1, ?_⟩
  rcases h.2 with hn | ⟨g, cap, cur, rfl, hb', rest⟩
  · exact .inl hn
  · exact .inr ⟨g, cap, cur, rfl, Nat.le_trans hb hb', rest⟩
theorem OwnW.agree {w w' : World} {base : Nat} {v : Value} {ws : List Nat} (h : OwnW w base v ws) (k : ∀ i, base ≤ i → i < w.heap.size → w'.heap[i]? = w.heap[i]?) : OwnW w' base v ws := by
  refine ⟨h.1, ?_⟩
  rcases h.2 with hn | ⟨g, cap, cur, rfl, hb, hg, rest⟩
  · exact .inl hn
  · exact .inr ⟨g, cap, cur, rfl, hb, (k g hb (Array.getElem?_eq_some_iff.1 hg).1).trans hg, rest⟩
/-- where a row that is not empty lies -/
theorem OwnW.lies {w : World} {base : Nat} {v : Value} {ws : List Nat} (h : OwnW w base v ws) (hn : 1 ≤ ws.length) : ∃ g cap, v = .slice (some ⟨g, 0, none⟩) ws.length cap ∧ base ≤ g ∧ g < w.heap.size := by
  rcases h.2 with ⟨_, hn'⟩ | ⟨g, cap, cur, rfl, hb, hg, rest⟩
  · omega
  · exact ⟨g, cap, rfl, hb, (Array.getElem?_eq_some_iff.1 hg).1⟩
theorem OwnW.cell {w : World} {base g cap : Nat} {ws : List Nat} (h : OwnW w base (.slice (some ⟨g, 0, none⟩) ws.length cap) ws) (k : Nat) (hk : k < ws.length) : w.cell? ⟨g, k, none⟩ = some (.int .u64 ((ws.getD k 0 : Nat) : Int)) := by
  rw [World.ownsRow.cellAt h k (by omega), wvals_get ws k hk]
theorem OwnW.free {w : World} {base g cap : Nat} {ws : List Nat} (h : OwnW w base (.slice (some ⟨g, 0, none⟩) ws.length cap) ws) (k : Nat) : w.frozen? ⟨g, k, none⟩ = false := World.ownsRow.frozenAt h k

theorem infoSL : (Try.prog.info? 59).map (fun i => (i.zero, i.size, i.bytes)) = some (some (.slice none 0 0), 1, 24) := by kernel_rfl
end Go.Proofs.Ytpkcihfldmgehaa
