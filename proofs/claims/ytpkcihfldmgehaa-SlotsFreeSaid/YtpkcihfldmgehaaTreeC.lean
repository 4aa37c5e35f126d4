/- A tree in new memory: slices.Clone of a row of words, of a row of rows, and tree's clone, as contracts; what is known of such a tree (OwnT). -/
import Derived.Test.YtpkcihfldmgehaaTreeGrow
import Derived.Test.YtpkcihfldmgehaaTreeB
import Derived.Lib.SliceRun
namespace Go.Proofs.Ytpkcihfldmgehaa
open Go.RowKit

/-- an empty slice that is made -/
theorem own_empty (w : World) (e : TypeId) : (w.alloc (.cells #[] e)).ownsRow w.heap.size e 1 (.slice (some ⟨w.heap.size, 0, none⟩) 0 0) 0 [] := World.ownsRow_lit w #[] 0 (Nat.le_refl _) (Nat.zero_le _) rfl

theorem crow_any (v : Value) (ws : List Nat) (w : World) (h : WordsAt w v ws) (h1 : 1 ≤ ws.length) (h2 : ws.length ≤ 65536) :
    Calls Try.prog 50 #[v] w fun e w' => ∃ g cap, e = .returned (.slice (some ⟨g, 0, none⟩) ws.length cap) ∧ OwnW w' w.heap.size (.slice (some ⟨g, 0, none⟩) ws.length cap) ws ∧ Fresh w w' := by
  obtain ⟨a, cap, rfl, hl, h64, hn0, hc⟩ := h
  obtain ⟨i0, hi, hz0, hz1, hz2⟩ := infoOf infoU64
  obtain ⟨b, o, rfl, _⟩ := hc 0 h1
  have NW := hide (show ∀ j u, (wvals ws)[j]? = some u → (w.alloc (.cells #[] 67)).cell? ((⟨b, o, none⟩ : Addr).add j) = some u from fun j u hu => by
    have hj : j < ws.length := by
      rcases Nat.lt_or_ge j ws.length with h | h
      · exact h
      · rw [List.getElem?_eq_none (by rw [wvals_length]; exact h)] at hu; cases hu
    obtain ⟨b', o', e', hcell⟩ := hc j hj
    cases e'
    rw [wvals_get ws j hj] at hu
    rw [← Option.some.inj hu, Go.WideShapes.add_plain b o j]
    exact (World.cell?_alloc_lt w _ _ (World.block_lt_of_cell? _ _ hcell)).trans hcell)
  have m1 : 0 + ws.length ≤ maxLen := by unfold maxLen; omega
  have m2 : (0 + ws.length) * 8 ≤ 140737488355328 := by omega
  have m3 : w.heap.size ≤ (w.alloc (.cells #[] 67)).heap.size := by simp
  have WL := hide (wvals_length ws)
  have W1 := hide (wvals_one ws)
  have FIN := hide (show ∀ v1 w1, w1.ownsRow w.heap.size 67 1 v1 (0 + ws.length) ([] ++ wvals ws) → (w.alloc (.cells #[] 67)).grownBy w1 (some w.heap.size) → (∃ g cap, v1 = .slice (some ⟨g, 0, none⟩) ws.length cap) ∧ OwnW w1 w.heap.size v1 ws ∧ Fresh w w1 from fun v1 w1 ho hg => by
    rw [Nat.zero_add, List.nil_append] at ho
    exact ⟨own_shape ho h1, ho, (fresh_box w _ _).grown hg (by simp) fun k hk => by cases hk; exact Nat.le_refl _⟩)
  clear hc hn0 h64
  have heq := fun w => Go.Lib.run_eql_slice_nil (P := Try.prog) w 59 67 (some ⟨b, o, none⟩) ws.length cap 0 0 Try.underlying59
  go_enter Try.func50, Try.ntmps50
  go_wp2_with (at_builtin; refine wpList_append_own _ rfl _ _ 59 rfl w.heap.size 67 i0 (.int .u64 0) 1 8 Try.underlying59 hi hz0 hz1 hz2 rfl (by decide) _ _ _ rfl (own_empty w 67) ⟨b, o, none⟩ ws.length cap (wvals ws) rfl (by rw [WL.out, Nat.mul_one]) NW.out W1.out m1 m2 m3 ?_; intro v1 w1 hown hgrow _)
  obtain ⟨⟨g, c, rfl⟩, o1, f1⟩ := FIN.out _ _ hown hgrow
  have O1 := hide o1
  have F1 := hide f1
  clear hown hgrow o1 f1
  go_ret
  exact ⟨g, c, rfl, O1.out, F1.out⟩
/-- a row of slices -/
theorem crows_any (b o h cap : Nat) (us : List Value) (w : World) (hus : us.length = h) (h1 : 1 ≤ h) (h2 : h ≤ 64) (hone : ∀ u ∈ us, u.oneCell' = true) (hc : ∀ i, i < h → w.cell? ⟨b, o + i, none⟩ = some (us.getD i (.slice none 0 0))) :
    Calls Try.prog 49 #[.slice (some ⟨b, o, none⟩) h cap] w fun e w' => ∃ g c, e = .returned (.slice (some ⟨g, 0, none⟩) h c) ∧ w'.ownsRow w.heap.size 59 1 (.slice (some ⟨g, 0, none⟩) h c) h us ∧ Fresh w w' := by
  obtain ⟨i1, hi1, hy0, hy1, hy2⟩ := infoOf infoSL
  have NW := hide (show ∀ j u, us[j]? = some u → (w.alloc (.cells #[] 59)).cell? ((⟨b, o, none⟩ : Addr).add j) = some u from fun j u hu => by
    have hj : j < us.length := by
      rcases Nat.lt_or_ge j us.length with h | h
      · exact h
      · rw [List.getElem?_eq_none h] at hu; cases hu
    have hcell := hc j (by omega)
    rw [List.getD_eq_getElem?_getD, hu] at hcell
    rw [Go.WideShapes.add_plain b o j]
    exact (World.cell?_alloc_lt w _ _ (World.block_lt_of_cell? _ _ hcell)).trans hcell)
  have m1 : 0 + h ≤ maxLen := by unfold maxLen; omega
  have m2 : (0 + h) * 24 ≤ 140737488355328 := by omega
  have m3 : w.heap.size ≤ (w.alloc (.cells #[] 59)).heap.size := by simp
  have WL := hide hus
  have W1 := hide hone
  have FIN := hide (show ∀ v1 w1, w1.ownsRow w.heap.size 59 1 v1 (0 + h) ([] ++ us) → (w.alloc (.cells #[] 59)).grownBy w1 (some w.heap.size) → (∃ g c, v1 = .slice (some ⟨g, 0, none⟩) h c) ∧ w1.ownsRow w.heap.size 59 1 v1 h us ∧ Fresh w w1 from fun v1 w1 ho hg => by
    rw [Nat.zero_add, List.nil_append] at ho
    exact ⟨own_shape ho h1, ho, (fresh_box w _ _).grown hg (by simp) fun k hk => by cases hk; exact Nat.le_refl _⟩)
  clear hc hone hus
  have heq := fun w => Go.Lib.run_eql_slice_nil (P := Try.prog) w 43 59 (some ⟨b, o, none⟩) h cap 0 0 Try.underlying43
  go_enter Try.func49, Try.ntmps49
  go_wp2_with (at_builtin; refine wpList_append_own _ rfl _ _ 43 rfl w.heap.size 59 i1 (.slice none 0 0) 1 24 Try.underlying43 hi1 hy0 hy1 hy2 rfl (by decide) _ _ _ rfl (own_empty w 59) ⟨b, o, none⟩ h cap us rfl (by rw [WL.out, Nat.mul_one]) NW.out W1.out m1 m2 m3 ?_; intro v1 w1 hown hgrow _)
  obtain ⟨⟨g, c, rfl⟩, o1, f1⟩ := FIN.out _ _ hown hgrow
  have O1 := hide o1
  have F1 := hide f1
  clear hown hgrow o1 f1
  go_ret
  exact ⟨g, c, rfl, O1.out, F1.out⟩

/-- a tree's levels in new memory -/
structure OwnT (w : World) (base g h : Nat) (G C : Nat → Nat) (f : Nat → List Nat) : Prop where
  row : ∀ i, i < h → OwnW w base (.slice (some ⟨G i, 0, none⟩) (f i).length (C i)) (f i)
  apart : ∀ i j, i < h → j < h → i ≠ j → G i ≠ G j
  cell : ∀ i, i < h → w.cell? ⟨g, i, none⟩ = some (.slice (some ⟨G i, 0, none⟩) (f i).length (C i))
  blk : ∃ cur, w.heap[g]? = some (.cells cur 59 (0, 0))
  gb : base ≤ g
theorem OwnT.fresh {w w' : World} {base g h : Nat} {G C : Nat → Nat} {f : Nat → List Nat} (t : OwnT w base g h G C f) (k : Fresh w w') : OwnT w' base g h G C f := by
  obtain ⟨cur, hc⟩ := t.blk
  exact ⟨fun i hi => (t.row i hi).fresh k, t.apart, fun i hi => (k.cell (World.block_lt_of_cell? _ _ (t.cell i hi))).trans (t.cell i hi), ⟨cur, by rw [k.block g (Array.getElem?_eq_some_iff.1 hc).1]; exact hc⟩, t.gb⟩
theorem OwnT.drewN {w : World} {base g h : Nat} {G C : Nat → Nat} {f : Nat → List Nat} (t : OwnT w base g h G C f) (m : Nat) : OwnT (w.drewN m) base g h G C f := t.fresh (Fresh.drewN w m)
theorem OwnT.congr {w : World} {base g h : Nat} {G C : Nat → Nat} {f f' : Nat → List Nat} (t : OwnT w base g h G C f) (e : ∀ i, i < h → f i = f' i) : OwnT w base g h G C f' :=
  ⟨fun i hi => by rw [← e i hi]; exact t.row i hi, t.apart, fun i hi => by rw [← e i hi]; exact t.cell i hi, t.blk, t.gb⟩
theorem OwnT.ne {w : World} {base g h : Nat} {G C : Nat → Nat} {f : Nat → List Nat} (t : OwnT w base g h G C f) (i : Nat) (hi : i < h) : G i ≠ g := by
  intro e
  obtain ⟨cur, hc⟩ := t.blk
  obtain ⟨c, h2⟩ := own_type (t.row i hi) (G i) rfl
  rw [e, hc] at h2
  simp at h2
/-- one word of one level is put -/
theorem OwnT.put {w : World} {base g h : Nat} {G C : Nat → Nat} {f : Nat → List Nat} (t : OwnT w base g h G C f) (r : Nat) (hr : r < h) (k x : Nat) :
    OwnT (w.setCell ⟨G r, k, none⟩ (.int .u64 ((x : Nat) : Int))) base g h G C (fun i => if i = r then (f r).set k x else f i) := by
  obtain ⟨cur, hc⟩ := t.blk
  have hne := t.ne r hr
  refine ⟨fun i hi => ?_, t.apart, fun i hi => ?_, ⟨cur, heap_set_other hc (fun e => hne e.symm) _⟩, t.gb⟩
  · by_cases e : i = r
    · subst e
      simp only [if_pos]
      have := (t.row i hi).put rfl k x
      rw [List.length_set]
      exact this
    · simp only [if_neg e]
      exact ownsRow_setCell_other (t.row i hi) (by
        intro e2
        have : G i = G r := by simpa [Value.ownBlock] using e2
        exact t.apart i r hi hr e this) _
  · have h2 : (w.setCell ⟨G r, k, none⟩ (.int .u64 ((x : Nat) : Int))).cell? ⟨g, i, none⟩ = some (.slice (some ⟨G i, 0, none⟩) (f i).length (C i)) := by
      refine (World.cell?_of_block ?_).trans (t.cell i hi)
      exact heap_setCell_other w ⟨G r, k, none⟩ g _ (fun e => hne e.symm)
    rw [h2]
    by_cases e : i = r
    · subst e; simp only [if_pos, List.length_set]
    · simp only [if_neg e]
theorem OwnT.at {w : World} {base g cap n : Nat} {G C : Nat → Nat} {ws : List Nat} (t : OwnT w base g (nLev n) G C (lvV ws)) (n1 : 1 ≤ n) (n2 : n ≤ 65536) (hl : Lev n ws) : TreeAt w (.agg #[.int .i64 (n : Int), .slice (some ⟨g, 0, none⟩) (nLev n) cap]) n ws := by
  refine ⟨n1, n2, hl, _, cap, rfl, fun i hi => ⟨g, 0, .slice (some ⟨G i, 0, none⟩) (lvV ws i).length (C i), rfl, ?_, ?_⟩⟩
  · rw [Nat.zero_add]; exact t.cell i hi
  · have hb := nb_words n i n1 n2
    exact (t.row i hi).at (lev_lv hl i).1 (by rw [lv_length hl i]; omega)
theorem OwnT.agree {w w' : World} {base g h : Nat} {G C : Nat → Nat} {f : Nat → List Nat} (t : OwnT w base g h G C f) (k : ∀ i, base ≤ i → i < w.heap.size → w'.heap[i]? = w.heap[i]?) : OwnT w' base g h G C f := by
  obtain ⟨cur, hc⟩ := t.blk
  have hg := k g t.gb (Array.getElem?_eq_some_iff.1 hc).1
  exact ⟨fun i hi => (t.row i hi).agree k, t.apart, fun i hi => (World.cell?_of_block hg).trans (t.cell i hi), ⟨cur, hg.trans hc⟩, t.gb⟩
theorem OwnT.new {w : World} {base g cap n : Nat} {G C : Nat → Nat} {ws : List Nat} (t : OwnT w base g (nLev n) G C (lvV ws)) (n1 : 1 ≤ n) (n2 : n ≤ 65536) (hl : Lev n ws) : TreeNew base w (.agg #[.int .i64 (n : Int), .slice (some ⟨g, 0, none⟩) (nLev n) cap]) n ws :=
  fun _ hw => (t.agree hw).at n1 n2 hl
end Go.Proofs.Ytpkcihfldmgehaa
