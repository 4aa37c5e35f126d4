/- clone of package tree, as a contract: the same tree in new memory, each level in a block of its own. -/
import Derived.Test.YtpkcihfldmgehaaTreeC
namespace Go.Proofs.Ytpkcihfldmgehaa
open Go.RowKit

/-- the levels, as far as they were cloned -/
structure Clones (w0 : World) (base g cap h k : Nat) (olds xs : List Value) (f : Nat → List Nat) (wr : World) : Prop where
  len : xs.length = h
  own : wr.ownsRow base 59 1 (.slice (some ⟨g, 0, none⟩) h cap) h xs
  rows : ∀ i, i < k → OwnW wr base (xs.getD i (.slice none 0 0)) (f i)
  rest : ∀ i, k ≤ i → xs.getD i (.slice none 0 0) = olds.getD i (.slice none 0 0)
  apart : ∀ i j, i < j → j < k → (xs.getD i (.slice none 0 0)).ownBlock ≠ (xs.getD j (.slice none 0 0)).ownBlock
  bel : Below base w0 wr
theorem getD_set_self (xs : List Value) (k : Nat) (v : Value) (hk : k < xs.length) : (xs.set k v).getD k (.slice none 0 0) = v := by simp [List.getD_eq_getElem?_getD, hk]
theorem getD_set_other (xs : List Value) (k i : Nat) (v : Value) (h : i ≠ k) : (xs.set k v).getD i (.slice none 0 0) = xs.getD i (.slice none 0 0) := by
  simp [List.getD_eq_getElem?_getD, List.getElem?_set_ne (fun e => h e.symm)]
theorem Clones.step {w0 : World} {base g cap h k : Nat} {olds xs : List Value} {f : Nat → List Nat} {wr w1 : World} (c : Clones w0 base g cap h k olds xs f wr) (hk : k < h) (hf1 : ∀ i, i ≤ k → 1 ≤ (f i).length) (hbw : base ≤ wr.heap.size) {g' cap' : Nat}
    (ho : OwnW w1 wr.heap.size (.slice (some ⟨g', 0, none⟩) (f k).length cap') (f k)) (hf : Fresh wr w1) :
    Clones w0 base g cap h (k + 1) olds (xs.set k (.slice (some ⟨g', 0, none⟩) (f k).length cap')) f (w1.setCell ⟨g, k, none⟩ (.slice (some ⟨g', 0, none⟩) (f k).length cap')) := by
  have own1 := ownsRow_fresh c.own hf
  obtain ⟨cur, hg⟩ := own_type own1 g rfl
  have hst : Stays w1 (w1.setCell ⟨g, k, none⟩ (.slice (some ⟨g', 0, none⟩) (f k).length cap')) := Stays.setCell hg (by decide) k _
  refine ⟨by rw [List.length_set]; exact c.len, (World.ownsRow.stored own1 k _).1, fun i hi => ?_, fun i hi => ?_, fun i j hij hj => ?_, ?_⟩
  · by_cases e : i = k
    · subst e
      rw [getD_set_self _ _ _ (by rw [c.len]; exact hk)]
      exact (ho.stays hst).mono hbw
    · rw [getD_set_other _ _ _ _ e]
      exact ((c.rows i (by omega)).fresh hf).stays hst
  · rw [getD_set_other _ _ _ _ (by omega)]
    exact c.rest i (by omega)
  · by_cases e : j = k
    · subst e
      rw [getD_set_self _ _ _ (by rw [c.len]; exact hk), getD_set_other _ _ _ _ (by omega)]
      obtain ⟨gi, ci, ei, _, hlt⟩ := (c.rows i hij).lies (hf1 i (by omega))
      rw [ei]
      have hge := (World.ownsRow.lt ho g' rfl).1
      intro h2
      have : gi = g' := by simpa [Value.ownBlock] using h2
      omega
    · rw [getD_set_other _ _ _ _ e, getD_set_other _ _ _ _ (by omega)]
      exact c.apart i j hij (by omega)
  · have hb := (World.ownsRow.lt own1 g rfl).1
    exact (c.bel.trans (hf.mono hbw)).setCell hb _
/-- where a value's array lies, and its capacity -/
def blkOf : Value → Nat
  | .slice (some a) _ _ => a.block
  | _ => 0
def capOf : Value → Nat
  | .slice _ _ c => c
  | _ => 0
theorem Clones.done {w0 : World} {base g cap h : Nat} {olds xs : List Value} {f : Nat → List Nat} {wr : World} (c : Clones w0 base g cap h h olds xs f wr) (hf1 : ∀ i, i < h → 1 ≤ (f i).length) :
    OwnT wr base g h (fun i => blkOf (xs.getD i (.slice none 0 0))) (fun i => capOf (xs.getD i (.slice none 0 0))) f := by
  have sh : ∀ i, i < h → xs.getD i (.slice none 0 0) = .slice (some ⟨blkOf (xs.getD i (.slice none 0 0)), 0, none⟩) (f i).length (capOf (xs.getD i (.slice none 0 0))) := by
    intro i hi
    obtain ⟨gi, ci, ei, _⟩ := (c.rows i hi).lies (hf1 i hi)
    rw [ei]; rfl
  refine ⟨fun i hi => ?_, fun i j hi hj hij e => ?_, fun i hi => ?_, own_type c.own g rfl, (World.ownsRow.lt c.own g rfl).1⟩
  · rw [← sh i hi]; exact c.rows i hi
  · rcases Nat.lt_or_gt_of_ne hij with h1 | h1
    · refine c.apart i j h1 hj ?_
      rw [sh i hi, sh j hj]
      simp only [Value.ownBlock]
      simpa using e
    · refine c.apart j i h1 hi ?_
      rw [sh i hi, sh j hj]
      simp only [Value.ownBlock]
      simpa using e.symm
  · rw [← sh i hi, World.ownsRow.cellAt c.own i (by omega), List.getD_eq_getElem?_getD, List.getElem?_eq_getElem (by rw [c.len]; exact hi)]; rfl
theorem Clones.caps {w0 : World} {base g cap h k : Nat} {olds xs : List Value} {f : Nat → List Nat} {wr : World} (c : Clones w0 base g cap h k olds xs f wr) : h ≤ cap ∧ cap ≤ maxLen ∧ base ≤ g := by
  rcases c.own.2 with ⟨h', _⟩ | ⟨g', cap', cur, h', hb, hg, hnc, hcm, hcs, htake⟩
  · simp at h'
  · simp only [Value.slice.injEq, Option.some.injEq, Addr.mk.injEq, and_true, true_and] at h'
    obtain ⟨rfl, rfl⟩ := h'
    exact ⟨hnc, hcm, hb⟩

/-- the values that the levels' cells hold -/
theorem LvAt.vals {w : World} {b o : Nat} {f : Nat → List Nat} : ∀ {h : Nat}, LvAt w (some ⟨b, o, none⟩) h f → ∃ us : List Value, us.length = h ∧ (∀ u ∈ us, u.oneCell' = true) ∧ ∀ i, i < h → w.cell? ⟨b, o + i, none⟩ = some (us.getD i (.slice none 0 0)) ∧ WordsAt w (us.getD i (.slice none 0 0)) (f i)
  | 0, _ => ⟨[], rfl, fun u hu => by simp at hu, fun i hi => by omega⟩
  | h + 1, hl => by
    obtain ⟨us, h1, h2, h3⟩ := LvAt.vals (h := h) (f := f) (fun i hi => hl i (by omega))
    obtain ⟨x, c, hc, hw⟩ := hl.row h (by omega)
    refine ⟨us ++ [.slice x (f h).length c], by rw [List.length_append, h1]; rfl, fun u hu => ?_, fun i hi => ?_⟩
    · rcases List.mem_append.1 hu with h' | h'
      · exact h2 u h'
      · simp at h'; rw [h']; rfl
    · rcases Nat.lt_or_ge i h with hi' | hi'
      · have e : (us ++ [Value.slice x (f h).length c]).getD i (.slice none 0 0) = us.getD i (.slice none 0 0) := by
          rw [List.getD_eq_getElem?_getD, List.getElem?_append_left (by omega), List.getD_eq_getElem?_getD]
        rw [e]; exact h3 i hi'
      · obtain rfl : i = h := by omega
        have e : (us ++ [Value.slice x (f i).length c]).getD i (.slice none 0 0) = .slice x (f i).length c := by
          rw [List.getD_eq_getElem?_getD, List.getElem?_append_right (by omega), h1, Nat.sub_self]; rfl
        rw [e]; exact ⟨hc, hw⟩

/-- a cell of a block that holds a struct is written -/
theorem OwnT.store {w : World} {base g h : Nat} {G C : Nat → Nat} {f : Nat → List Nat} (t : OwnT w base g h G C f) {R : Nat} {c : Array Value} (hR : w.heap[R]? = some (.cells c 45 (0, 0))) (j : Nat) (v : Value) : OwnT (w.setCell ⟨R, j, none⟩ v) base g h G C f := by
  obtain ⟨cur, hc⟩ := t.blk
  have hne : g ≠ R := by
    rintro rfl
    rw [hc] at hR
    simp at hR
  refine ⟨fun i hi => (t.row i hi).stays (Stays.setCell hR (by decide) j v), t.apart, fun i hi => ?_, ⟨cur, heap_set_other hc hne v⟩, t.gb⟩
  refine (World.cell?_of_block ?_).trans (t.cell i hi)
  exact heap_setCell_other w ⟨R, j, none⟩ g v (fun e => hne e)
set_option maxHeartbeats 1000000 in
theorem clone_any (v : Value) (n : Nat) (ws : List Nat) (w : World) (h : TreeAt w v n ws) :
    Calls Try.prog 37 #[v] w fun e w' => ∃ g cap G C, e = .returned (.agg #[.int .i64 (n : Int), .slice (some ⟨g, 0, none⟩) (nLev n) cap]) ∧ OwnT w' w.heap.size g (nLev n) G C (lvV ws) ∧ Fresh w w' ∧ nLev n ≤ cap ∧ cap ≤ maxLen := by
  obtain ⟨n1, n2, hlev, a, cap, rfl, hlv⟩ := h
  have q2 : (n : Int) ≤ 65536 := by omega
  have hh := nLev_in n
  obtain ⟨b, o, rfl⟩ := hlv.len hh.1
  obtain ⟨us, hus, hone, hcells⟩ := hlv.vals
  have LNS := hide (fun i => show 1 ≤ (lvV ws i).length ∧ (lvV ws i).length ≤ 65536 by rw [lv_length hlev i]; have := nb_words n i n1 n2; omega)
  have l2 : (nLev n : Int) ≤ 3 := by omega
  have l1 : (1 : Int) ≤ (nLev n : Int) := by omega
  -- the world when the levels are cloned
  obtain ⟨W1, hW1⟩ : ∃ W1, W1 = (w.alloc (.cells #[.int .i64 (n : Int), .slice (some ⟨b, o, none⟩) (nLev n) cap] 45)).alloc (.cells #[.int .i64 0, .slice none 0 0] 45) := ⟨_, rfl⟩
  have FW : Fresh w W1 := by subst hW1; exact fresh_more (fresh_box w _ _) _ _
  have SW : W1.heap.size = w.heap.size + 2 := by subst hW1; simp
  have BX : W1.heap[w.heap.size]? = some (.cells #[.int .i64 (n : Int), .slice (some ⟨b, o, none⟩) (nLev n) cap] 45 (0, 0)) := by
    subst hW1
    rw [(fresh_box (w.alloc (.cells #[.int .i64 (n : Int), .slice (some ⟨b, o, none⟩) (nLev n) cap] 45)) #[.int .i64 0, .slice none 0 0] 45).block w.heap.size (by simp)]
    exact heap_alloc_new w _
  have RX : W1.heap[w.heap.size + 1]? = some (.cells #[.int .i64 0, .slice none 0 0] 45 (0, 0)) := by
    subst hW1
    have := heap_alloc_new (w.alloc (.cells #[.int .i64 (n : Int), .slice (some ⟨b, o, none⟩) (nLev n) cap] 45)) (.cells #[.int .i64 0, .slice none 0 0] 45 (0, 0))
    rw [show (w.alloc (.cells #[.int .i64 (n : Int), .slice (some ⟨b, o, none⟩) (nLev n) cap] 45)).heap.size = w.heap.size + 1 by simp] at this
    exact this
  have CR := hide (crows_any b o (nLev n) cap us W1 hus hh.1 (by omega) hone (fun i hi => (FW.cell (World.block_lt_of_cell? _ _ (hcells i hi).1)).trans (hcells i hi).1))
  have HC := hide (fun i hi => (hcells i hi).2.fresh FW)
  have US := hide hus
  have HW := hide hW1
  have FWH := hide FW
  have BXH := hide BX
  have RXH := hide RX
  have bx0 := cell_block BX 0 _ rfl
  have bx1 := cell_block BX 1 _ rfl
  clear hlv hlev hcells hone hus hW1 FW BX RX
  generalize hN : nLev n = N at *
  go_enter Try.func37, Try.ntmps37
  go_wp2_with fail
  rw [← HW.out]
  refine CR.out.mono ?_
  rintro e w1 ⟨g, c1, rfl, ho1, hf1⟩
  have CL0 := hide (show Clones W1 W1.heap.size g c1 N 0 us us (lvV ws) w1 from ⟨US.out, ho1, fun i hi => by omega, fun i hi => rfl, fun i j _ hj => by omega, hf1⟩)
  clear ho1 hf1 CR
  go_wp2
  go_loopw [11] (fun i wr => ∃ (k : Nat) (xs : List Value), k ≤ N ∧ i = .int .i64 (k : Int) ∧ Clones W1 W1.heap.size g c1 N k us xs (lvV ws) wr) (fun i _ => (N - intOf i).toNat)
  case atStart => exact ⟨0, us, Nat.zero_le _, rfl, CL0.out⟩
  case round =>
    obtain ⟨k, xs, hk, rfl, hC⟩ := hrel
    have CC := hide hC
    have k0 : (k : Int) ≤ (N : Int) := by omega
    have hbx : wr.heap[w.heap.size]? = some (.cells #[.int .i64 (n : Int), .slice (some ⟨b, o, none⟩) N cap] 45 (0, 0)) := by rw [hC.bel.block w.heap.size (by omega)]; exact BXH.out
    have hrx : wr.heap[w.heap.size + 1]? = some (.cells #[.int .i64 0, .slice none 0 0] 45 (0, 0)) := by rw [hC.bel.block (w.heap.size + 1) (by omega)]; exact RXH.out
    rcases Nat.lt_or_ge k N with hkN | hkN
    · have hcg : wr.cell? ⟨g, k, none⟩ = some (us.getD k (.slice none 0 0)) := by
        rw [World.ownsRow.cellAt hC.own k (by omega), ← hC.rest k (Nat.le_refl _), List.getD_eq_getElem?_getD, List.getElem?_eq_getElem (by rw [hC.len]; exact hkN)]; rfl
      have k1 : (k : Int) < (N : Int) := by omega
      have WD := hide ((HC.out k hkN).below hC.bel (Nat.le_refl _))
      have CR1 := hide (crow_any _ (lvV ws k) wr WD.out (LNS.out k).1 (LNS.out k).2)
      have ST := hide (fun (w2 : World) (g' cap' : Nat) ho hf => Clones.step (g' := g') (cap' := cap') (w1 := w2) hC hkN (fun i _ => (LNS.out i).1) hC.bel.size ho hf)
      have OWN := hide hC.own
      have GT := hide (fun (w2 : World) (hf : Fresh wr w2) => own_type (ownsRow_fresh hC.own hf) g rfl)
      clear hC hbx hrx
      go_wp2_with fail
      refine CR1.out.mono ?_
      rintro e w2 ⟨g', cap', rfl, ho, hf⟩
      have SC := hide (ST.out w2 g' cap' ho hf)
      obtain ⟨cur, hcur⟩ := GT.out w2 hf
      have fz := free_block hcur k
      have cl : w2.cell? ⟨g, k, none⟩ = some (us.getD k (.slice none 0 0)) := (hf.cell (World.block_lt_of_cell? _ _ hcg)).trans hcg
      clear ho hf hcur
      go_wp2
      go_roundw
      case rel => exact ⟨k + 1, _, by omega, by go_num, SC.out⟩
      case measure => simp [intOf]; omega
    · obtain rfl : k = N := by omega
      have FIN := hide (show OwnT wr w.heap.size g k (fun i => blkOf (xs.getD i (.slice none 0 0))) (fun i => capOf (xs.getD i (.slice none 0 0))) (lvV ws) from by
        have t := hC.done fun i hi => (LNS.out i).1
        exact ⟨fun i hi => (t.row i hi).mono FWH.out.size, t.apart, t.cell, t.blk, Nat.le_trans FWH.out.size t.gb⟩)
      have CP := hide hC.caps
      have FR := hide (show Fresh w wr from FWH.out.trans hC.bel)
      have c0 := cell_block hbx 0 _ rfl
      have c3 := cell_block hrx 0 _ rfl
      have c4 := cell_block hrx 1 _ rfl
      have f3 := free_block hrx 0
      have f4 := free_block hrx 1
      have HRX := hide hrx
      clear hC hbx hrx
      have W2 := hide (fun x y => two_cells HRX.out x y)
      have O2 := hide (fun x y => (FIN.out.store HRX.out 0 x).store (heap_set_same HRX.out x) 1 y)
      have F2 := hide (fun x y => (fresh_set FR.out (show w.heap.size ≤ w.heap.size + 1 by omega) 0 x).setCell (p := ⟨w.heap.size + 1, 1, none⟩) (show w.heap.size ≤ w.heap.size + 1 by omega) y)
      go_wp2
      have W3 := hide (W2.out (.int .i64 (n : Int)) (.slice (some ⟨g, 0, none⟩) k c1))
      have O3 := hide (O2.out (.int .i64 (n : Int)) (.slice (some ⟨g, 0, none⟩) k c1))
      have F3 := hide (F2.out (.int .i64 (n : Int)) (.slice (some ⟨g, 0, none⟩) k c1))
      clear W2 O2 F2 c3 c4 f3 f4
      generalize World.setCell _ ⟨w.heap.size + 1, 1, none⟩ _ = W at W3 O3 F3 ⊢
      have h0 := cell_block W3.out 0 _ rfl
      have h1 := cell_block W3.out 1 _ rfl
      refine bodyPost_ret (by simp [results, Try.results37, go_sem, h0, h1]; try rfl) rfl ?_
      exact ⟨g, c1, _, _, rfl, O3.out, F3.out, CP.out.1, CP.out.2.1⟩
end Go.Proofs.Ytpkcihfldmgehaa
