/- What the document's own side answers of pages (hodmanref8.Commit), as contracts. -/
import Derived.Test.YtcnfmkhjhffebaaDoorRefComA
import Derived.Test.YtcnfmkhjhffebaaDoorHeld
import Derived.Deep.CutRange
import Derived.Maps.AppendAt
namespace Go.Proofs.YtcnfmkhjhffebaaDoor
open Go.RowKit

/-- two pages that are read -/
def HeldM (W : World) (b1 o1 : Nat) (y : Bool) (b2 o2 : Nat) (x : Bool) (w : World) : Prop := w.cell? ⟨b1, o1, none⟩ = some (.bool y) ∧ w.cell? ⟨b2, o2, none⟩ = some (.bool x) ∧ Fresh W w
theorem HeldM.grown {W : World} {b1 o1 b2 o2 : Nat} {x y : Bool} {w w' : World} {g : Nat} (h : HeldM W b1 o1 y b2 o2 x w) (k : w.grownBy w' (some g)) (h1 : b1 < W.heap.size) (h2 : b2 < W.heap.size) (hg : W.heap.size ≤ g) : HeldM W b1 o1 y b2 o2 x w' :=
  ⟨grown_cell k h.1 (fun e => by simp at e; omega), grown_cell k h.2.1 (fun e => by simp at e; omega), h.2.2.grown k h.2.2.size fun i hi => by cases hi; exact hg⟩
theorem store_row {w : World} {g cap N base : Nat} {bs : List Bool} (h : OwnB w base (.slice (some ⟨g, 0, none⟩) N cap) bs) (hN : N = bs.length) (k : Nat) (b : Bool) {p : World → Prop}
    (hp : ∀ w', OwnB w' base (.slice (some ⟨g, 0, none⟩) N cap) (bs.set k b) → w.grownBy w' (some g) → p w') : p (w.setCell ⟨g, k, none⟩ (.bool b)) :=
  hp _ (h.put hN k b) (grown_set w g k (.bool b))
theorem row_off {w w' : World} {g1 g2 c N base : Nat} {bs : List Bool} (h : OwnB w base (.slice (some ⟨g1, 0, none⟩) N c) bs) (k : w.grownBy w' (some g2)) (hne : g1 ≠ g2) : OwnB w' base (.slice (some ⟨g1, 0, none⟩) N c) bs :=
  ownsRow_off h k fun i hi e => hne (by cases hi; cases e; rfl)
theorem ints_off {w w' : World} {g c N base b2 : Nat} {bs : List Bool} {v : Value} {l : List Nat} (hr : OwnB w base (.slice (some ⟨g, 0, none⟩) N c) bs) (h : OwnI w b2 v l) (k : w.grownBy w' (some g)) : OwnI w' b2 v l :=
  ownsRow_off h k (own_apart h hr (by decide))
theorem bools_off {w w' : World} {base b2 : Nat} {bs : List Bool} {v u : Value} {l : List Nat} (hr : OwnB w base v bs) (h : OwnI w b2 u l) (k : w.grownBy w' u.ownBlock) : OwnB w' base v bs :=
  ownsRow_off hr k (own_apart hr h (by decide))
/-- two rows of bools, made one behind the other -/
theorem rows_two (w wd : World) (N : Nat) (h : N ≤ 65536) (k : Fresh w wd) :
    w.heap.size ≤ wd.heap.size ∧ w.heap.size ≤ wd.heap.size + 1 ∧
    OwnB ((wd.alloc (.cells (madeCells #[.bool false] N) 4)).alloc (.cells (madeCells #[.bool false] N) 4)) w.heap.size (.slice (some ⟨wd.heap.size, 0, none⟩) N N) (List.replicate N false) ∧
    OwnB ((wd.alloc (.cells (madeCells #[.bool false] N) 4)).alloc (.cells (madeCells #[.bool false] N) 4)) w.heap.size (.slice (some ⟨wd.heap.size + 1, 0, none⟩) N N) (List.replicate N false) ∧
    Fresh w ((wd.alloc (.cells (madeCells #[.bool false] N) 4)).alloc (.cells (madeCells #[.bool false] N) 4)) := by
  have e : (wd.alloc (.cells (madeCells #[.bool false] N) 4)).heap.size = wd.heap.size + 1 := by simp
  have h2 := bools_made N h (wd.alloc (.cells (madeCells #[.bool false] N) 4))
  rw [e] at h2
  exact ⟨k.size, Nat.le_trans k.size (Nat.le_succ _), ownsRow_mono (OwnB.fresh (bools_made N h wd) (fresh_box _ _ _)) k.size, ownsRow_mono h2 (Nat.le_trans k.size (Nat.le_succ _)), fresh_more (fresh_more k _ _) _ _⟩
/-- pages that are both, from the first on -/
def bothB (p q : Nat → Bool) (k i : Nat) : Bool := if i < k then p i && q i else p i
theorem both_start (n : Nat) (p q : Nat → Bool) : rowB n (bothB p q 0) = rowB n p := rowB_congr fun i _ => by unfold bothB; rw [if_neg (by omega)]
theorem both_end (n : Nat) (p q : Nat → Bool) : rowB n (bothB p q n) = rowB n fun i => p i && q i := rowB_congr fun i hi => by unfold bothB; rw [if_pos hi]
theorem both_step {n : Nat} (p q : Nat → Bool) (k : Nat) (h : k < n) : (rowB n (bothB p q k)).set k (p k && q k) = rowB n (bothB p q (k + 1)) := by
  rw [rowB_set _ _ _ h]
  refine rowB_congr fun i _ => ?_
  unfold bothB
  by_cases e : i = k
  · rw [if_pos e, if_pos (by omega), e]
  · rw [if_neg e]
    by_cases h1 : i < k
    · rw [if_pos h1, if_pos (by omega)]
    · rw [if_neg h1, if_neg (by omega)]
theorem both_at {n : Nat} (p q : Nat → Bool) (k : Nat) (h : k < n) : (rowB n (bothB p q k)).getD k false = p k := by
  rw [rowB_get h]; unfold bothB; rw [if_neg (by omega)]
/-- beside a no -/
def rnoE : Ending := .returned (.tuple #[.slice none 0 0, .slice none 0 0, .bool false])

set_option maxRecDepth 100000 in
set_option maxHeartbeats 1000000 in
theorem rcommit_wrong (v1 v2 : Value) (on met : List Bool) (f t most : Int) (w : World) (h1 : BoolsIn w v1 on) (h2 : BoolsIn w v2 met) (f1 : -9223372036854775808 ≤ f) (f2 : f ≤ 9223372036854775807) (hno : ¬ (on.length = met.length ∧ 0 ≤ f ∧ f ≤ t ∧ t ≤ (on.length : Int))) :
    Calls Tryd.prog 11 #[v1, v2, .int .i64 f, .int .i64 t, .int .i64 most] w fun e w' => e = rnoE ∧ Fresh w w' := by
  have l1 := h1.1
  have l2 := h2.1
  obtain ⟨a1, c1, rfl, -, -⟩ := h1.shape
  obtain ⟨a2, c2, rfl, -, -⟩ := h2.shape
  have p0 : (0 : Int) ≤ (on.length : Int) := by omega
  have p1 : (on.length : Int) ≤ 1048576 := by omega
  have q0 : (0 : Int) ≤ (met.length : Int) := by omega
  have q1 : (met.length : Int) ≤ 1048576 := by omega
  have HN := hide hno
  clear hno h1 h2 l1 l2
  by_cases g0 : on.length = met.length
  · by_cases g1 : f < 0
    · clear HN
      rw [g0] at p0 p1 ⊢
      go_enter Tryd.func11, Tryd.ntmps11
      go_wp2
      go_ret3
      exact ⟨rfl, Fresh.refl _⟩
    · by_cases g2 : t < f
      · clear HN
        rw [g0] at p0 p1 ⊢
        go_enter Tryd.func11, Tryd.ntmps11
        go_wp2
        go_ret3
        exact ⟨rfl, Fresh.refl _⟩
      · have g3 : (met.length : Int) < t := by have := HN.out; omega
        clear HN
        rw [g0] at p0 p1 ⊢
        go_enter Tryd.func11, Tryd.ntmps11
        go_wp2
        go_ret3
        exact ⟨rfl, Fresh.refl _⟩
  · have g0' : ((on.length : Int) == (met.length : Int)) = false := by rw [beq_eq_false_iff_ne]; omega
    clear HN
    go_enter Tryd.func11, Tryd.ntmps11
    go_wp2
    go_ret3
    exact ⟨rfl, Fresh.refl _⟩


set_option maxRecDepth 100000 in
set_option maxHeartbeats 8000000 in
theorem rcommit_right (v1 v2 : Value) (on met : List Bool) (f t N n : Nat) (most : Int) (X : List Bool) (R : List Nat) (w : World) (h1 : BoolsIn w v1 on) (h2 : BoolsIn w v2 met) (hN : on.length = N) (hM : met.length = N) (hl : N ≤ 65536) (hf : f ≤ t) (ht : t ≤ N) (hX : comX on met f t most = X) (hR : frL on f t = R) (hn : R.length = n) :
    Calls Tryd.prog 11 #[v1, v2, .int .i64 (f : Int), .int .i64 (t : Int), .int .i64 most] w fun e w' => (most < (cntN met f t : Int) ∧ e = rnoE ∧ Fresh w w') ∨
      ((cntN met f t : Int) ≤ most ∧ ∃ g a c, e = .returned (.tuple #[.slice (some ⟨g, 0, none⟩) N N, .slice a n c, .bool true]) ∧ OwnB w' w.heap.size (.slice (some ⟨g, 0, none⟩) N N) X ∧ OwnI w' w.heap.size (.slice a n c) R ∧ Fresh w w') := by
  obtain ⟨i0, hi, hz0, hz1, hz2⟩ := infoOf infoInts
  obtain ⟨a1, c1, rfl, hc1⟩ := h1.at
  obtain ⟨a2, c2, rfl, hc2⟩ := h2.at
  have A1 := hide hc1
  have A2 := hide hc2
  have CN := hide (cntN_row met f t N hM)
  have CA := hide (cntN_row on f t N hN)
  have CBM := hide (cntN_le met f t)
  have CBO := hide (cntN_le on f t)
  obtain ⟨NB, hNB⟩ : ∃ F : Nat → Bool, (fun i => met.getD i false || amB f t i) = F := ⟨_, rfl⟩
  obtain ⟨AB, hAB⟩ : ∃ F : Nat → Bool, (fun i => on.getD i false || amB f t i) = F := ⟨_, rfl⟩
  have NBB := hide (fun i => show NB i = (met.getD i false || amB f t i) by rw [← hNB])
  have ABB := hide (fun i => show AB i = (on.getD i false || amB f t i) by rw [← hAB])
  have CN2 := hide (show cntL (rowB N NB) = cntN met f t by rw [CN.out, ← hNB]; rfl)
  have CA2 := hide (show cntL (rowB N AB) = cntN on f t by rw [CA.out, ← hAB]; rfl)
  have XN := hide (fun (h : ¬ most < (cntN on f t : Int)) => show rowB N AB = X by
    rw [← hX, ← hAB]
    unfold comX
    rw [hN]
    refine rowB_congr fun i _ => ?_
    unfold isB
    rw [decide_eq_false h]
    show (on.getD i false || amB f t i) = ((on.getD i false && (!false || met.getD i false)) || amB f t i)
    cases on.getD i false <;> cases met.getD i false <;> cases amB f t i <;> rfl)
  have XY := hide (fun (h : most < (cntN on f t : Int)) => show (rowB N fun i => AB i && NB i) = X by
    rw [← hX, ← hAB, ← hNB]
    unfold comX
    rw [hN]
    refine rowB_congr fun i _ => ?_
    unfold isB
    rw [decide_eq_true h]
    show ((on.getD i false || amB f t i) && (met.getD i false || amB f t i)) = ((on.getD i false && (!true || met.getD i false)) || amB f t i)
    cases on.getD i false <;> cases met.getD i false <;> cases amB f t i <;> rfl)
  obtain ⟨FR, hFR⟩ : ∃ F : Nat → Bool, frB on f t = F := ⟨_, rfl⟩
  have FRB := hide (fun i => show FR i = (amB f t i && !on.getD i false) by rw [← hFR]; rfl)
  have RR := hide (show (List.range N).filter FR = R by rw [← hR, ← hFR, ← hN]; rfl)
  have AMB := hide (fun j => show amB f t j = (decide (f ≤ j) && decide (j < t)) from rfl)
  rw [hN, hM]
  have HN := hide hN
  have HM := hide hM
  have HLR := hide hn
  have n0 : (0 : Int) ≤ (N : Int) := by omega
  have n1 : (N : Int) ≤ 65536 := by omega
  have e0 : (0 : Int) ≤ (f : Int) := by omega
  have e1 : (f : Int) ≤ (t : Int) := by omega
  have e2 : (t : Int) ≤ (N : Int) := by omega
  have hmk := fun w => bools_run N hl w
  have NL := hide hl
  clear hc1 hc2 h1 h2 hN hM hl hX hR hn hf ht hNB hAB hFR CN CA
  generalize amB f t = AM at *
  generalize cntN met f t = cm at *
  generalize cntN on f t = co at *
  go_enter Tryd.func11, Tryd.ntmps11
  go_upto_region 3 with fail
  go_cut [13, 14] from 19 to 44 (fun s u wx => ∃ g1 g2 : Nat, s = .slice (some ⟨g1, 0, none⟩) N N ∧ u = .slice (some ⟨g2, 0, none⟩) N N ∧ g1 ≠ g2 ∧ w.heap.size ≤ g1 ∧ w.heap.size ≤ g2 ∧ OwnB wx w.heap.size (.slice (some ⟨g1, 0, none⟩) N N) (List.replicate N false) ∧ OwnB wx w.heap.size (.slice (some ⟨g2, 0, none⟩) N N) (List.replicate N false) ∧ Fresh w wx)
  case first =>
    have TM := hide (fun wd (k : Fresh w wd) => rows_two w wd N NL.out k)
    go_region
    all_goals
      go_wp2_with fail
      go_meet
      case rel => first
        | exact ⟨_, _, rfl, rfl, by omega, (TM.out _ (Fresh.refl w).drew).1, (TM.out _ (Fresh.refl w).drew).2.1, (TM.out _ (Fresh.refl w).drew).2.2.1, (TM.out _ (Fresh.refl w).drew).2.2.2.1, (TM.out _ (Fresh.refl w).drew).2.2.2.2⟩
        | exact ⟨_, _, rfl, rfl, by omega, (TM.out _ (Fresh.refl w).drew).2.1, (TM.out _ (Fresh.refl w).drew).1, (TM.out _ (Fresh.refl w).drew).2.2.2.1, (TM.out _ (Fresh.refl w).drew).2.2.1, (TM.out _ (Fresh.refl w).drew).2.2.2.2⟩
        | (trace_state; sorry)
  case rest =>
  obtain ⟨g1, g2, rfl, rfl, gne, gb1, gb2, o1', o2', k'⟩ := hcut
  have GNE := hide gne
  have G1 := hide gb1
  have G2 := hide gb2
  have O1 := hide o1'
  have O2 := hide o2'
  have KC := hide k'
  clear gne gb1 gb2 o1' o2' k' hmk
  go_wp2
  go_loopw [15, 16] (fun fv iv wr => ∃ j : Nat, j ≤ N ∧ iv = .int .i64 (j : Int) ∧ OwnB wr w.heap.size (.slice (some ⟨g1, 0, none⟩) N N) (rowB N fun i => decide (i < j) && NB i) ∧ OwnB wr w.heap.size (.slice (some ⟨g2, 0, none⟩) N N) (rowB N fun i => decide (i < j) && AB i) ∧ OwnI wr w.heap.size fv ((List.range j).filter FR) ∧ Fresh w wr) (fun _ iv _ => ((N : Int) - intOf iv).toNat)
  case atStart => exact ⟨0, Nat.zero_le _, rfl, by rw [show (rowB N fun i => decide (i < 0) && NB i) = List.replicate N false from rowB_none N]; exact O1.out, by rw [show (rowB N fun i => decide (i < 0) && AB i) = List.replicate N false from rowB_none N]; exact O2.out, OwnI.nil _ _, KC.out⟩
  case round =>
    obtain ⟨j, hj, rfl, hn', ha', hf', hk'⟩ := hrel
    have j0 : (0 : Int) ≤ (j : Int) := by omega
    by_cases g : j < N
    · have g' : (j : Int) < (N : Int) := by omega
      obtain ⟨b2, o2, rfl, d1⟩ := A1.out j (by rw [HN.out]; exact g)
      obtain ⟨b1, o1, rfl, d2⟩ := A2.out j (by rw [HM.out]; exact g)
      have B2 := hide (World.block_lt_of_cell? _ _ d1)
      have B1 := hide (World.block_lt_of_cell? _ _ d2)
      simp only at B1 B2
      have x1 := (hk'.cell (World.block_lt_of_cell? _ _ d1)).trans d1
      have y1 := (hk'.cell (World.block_lt_of_cell? _ _ d2)).trans d2
      have NBJ := hide (NBB.out j)
      have ABJ := hide (ABB.out j)
      have FRJ := hide (FRB.out j)
      have AJ0 := AMB.out j
      have SN := hide (row_step (n := N) NB j g)
      have SA := hide (row_step (n := N) AB j g)
      have SF := hide (show (List.range (j + 1)).filter FR = (if FR j = true then (List.range j).filter FR ++ [j] else (List.range j).filter FR) by
        rw [List.range_succ, List.filter_append]
        cases h : FR j
        · simp [h]
        · simp [h])
      have LLEN := hide (show ((List.range j).filter FR).length ≤ 65536 from Nat.le_trans (List.length_filter_le _ _) (by rw [List.length_range]; have := NL.out; omega))
      have ln := hide (rowB_length N fun i => decide (i < j) && NB i).symm
      have la := hide (rowB_length N fun i => decide (i < j) && AB i).symm
      generalize on.getD j false = x at x1 ABJ FRJ
      generalize met.getD j false = y at y1 NBJ
      have HS : Hid (HeldM w b1 (o1 + j) y b2 (o2 + j) x wr.drew) := ⟨y1, x1, hk'.drew⟩
      have ND := hide (hn'.fresh (Fresh.refl wr).drew)
      have AD := hide (ha'.fresh (Fresh.refl wr).drew)
      have FD := hide (hf'.fresh (Fresh.refl wr).drew)
      have jj : (j : Int) ≤ 65536 := by omega
      clear x1 y1 d1 d2 hn' ha' hf' hk' NBB ABB FRB AMB A1 A2 XN XY CN2 CA2 RR HN HM HLR
      by_cases h1 : f ≤ j
      · have h1i : (f : Int) ≤ (j : Int) := by omega
        by_cases h2 : j < t
        · have h2i : (j : Int) < (t : Int) := by omega
          rw [decide_eq_true h1, decide_eq_true h2] at AJ0
          have AJ := hide AJ0
          clear AJ0
          cases x with
          | false =>
            cases y with
            | false =>
              have NJ' := hide (show NB j = true by rw [NBJ.out, AJ.out]; rfl)
              have AJ' := hide (show AB j = true by rw [ABJ.out, AJ.out]; rfl)
              have FJ' := hide (show FR j = true by rw [FRJ.out, AJ.out]; rfl)
              go_wp2_with fail
              refine wp_region_held (S := HeldM w b1 (o1 + j) false b2 (o2 + j) false) (by kernel_rfl) ?_
              change wpAnyH _ _ _ _ _ _ _ _ (World.drew _)
              generalize World.drew wr = wd at HS ND AD FD ⊢
              have zn := ND.out.free ln.out j
              have cn := ND.out.cell ln.out j g
              generalize (rowB N fun i => decide (i < j) && NB i).getD j false = old1 at cn
              have za := AD.out.free la.out j
              have ca := AD.out.cell la.out j g
              generalize (rowB N fun i => decide (i < j) && AB i).getD j false = old2 at ca
              refine held_take (i := 0) (d := 59) (v := ?_) rfl rfl (by kernel_rfl) (by kernel_rfl) (by kernel_rfl) (fun _ _ _ h => h) (by kernel_rfl) ?_ HS.out ?_
              rotate_left
              · intro wz hz
                obtain ⟨cy, cx, -⟩ := hz
                go_simp
                first | done | with_reducible rfl
              refine held_take (i := 1) (d := 60) (v := ?_) rfl rfl (by kernel_rfl) (by kernel_rfl) (by kernel_rfl) (fun _ _ _ h => h) (by kernel_rfl) ?_ HS.out ?_
              rotate_left
              · intro wz hz
                obtain ⟨cy, cx, -⟩ := hz
                go_simp
                first | done | with_reducible rfl
              refine held_take (i := 2) (d := 61) (v := ?_) rfl rfl (by kernel_rfl) (by kernel_rfl) (by kernel_rfl) (fun _ _ _ h => h) (by kernel_rfl) ?_ HS.out ?_
              rotate_left
              · intro wz hz
                obtain ⟨cy, cx, -⟩ := hz
                go_simp
                first | done | with_reducible rfl
              refine held_take (i := 3) (d := 62) (v := ?_) rfl rfl (by kernel_rfl) (by kernel_rfl) (by kernel_rfl) (fun _ _ _ h => h) (by kernel_rfl) ?_ HS.out ?_
              rotate_left
              · intro wz hz
                obtain ⟨cy, cx, -⟩ := hz
                go_simp
                first | done | with_reducible rfl
              refine held_take (i := 4) (d := 63) (v := ?_) rfl rfl (by kernel_rfl) (by kernel_rfl) (by kernel_rfl) (fun _ _ _ h => h) (by kernel_rfl) ?_ HS.out ?_
              rotate_left
              · intro wz hz
                obtain ⟨cy, cx, -⟩ := hz
                go_simp
                first | done | with_reducible rfl
              refine held_take (i := 5) (d := 64) (v := ?_) rfl rfl (by kernel_rfl) (by kernel_rfl) (by kernel_rfl) (fun _ _ _ h => h) (by kernel_rfl) ?_ HS.out ?_
              rotate_left
              · intro wz hz
                obtain ⟨cy, cx, -⟩ := hz
                go_simp
                first | done | with_reducible rfl
              refine held_take (i := 6) (d := 65) (v := ?_) rfl rfl (by kernel_rfl) (by kernel_rfl) (by kernel_rfl) (fun _ _ _ h => h) (by kernel_rfl) ?_ HS.out ?_
              rotate_left
              · intro wz hz
                obtain ⟨cy, cx, -⟩ := hz
                go_simp
                first | done | with_reducible rfl
              refine held_take (i := 7) (d := 66) (v := ?_) rfl rfl (by kernel_rfl) (by kernel_rfl) (by kernel_rfl) (fun _ _ _ h => h) (by kernel_rfl) ?_ HS.out ?_
              rotate_left
              · intro wz hz
                obtain ⟨cy, cx, -⟩ := hz
                go_simp
                first | done | with_reducible rfl
              refine held_take (i := 8) (d := 67) (v := ?_) rfl rfl (by kernel_rfl) (by kernel_rfl) (by kernel_rfl) (fun _ _ _ h => h) (by kernel_rfl) ?_ HS.out ?_
              rotate_left
              · intro wz hz
                obtain ⟨cy, cx, -⟩ := hz
                go_simp
                first | done | with_reducible rfl
              refine held_take (i := 9) (d := 68) (v := ?_) rfl rfl (by kernel_rfl) (by kernel_rfl) (by kernel_rfl) (fun _ _ _ h => h) (by kernel_rfl) ?_ HS.out ?_
              rotate_left
              · intro wz hz
                obtain ⟨cy, cx, -⟩ := hz
                go_simp
                first | done | with_reducible rfl
              refine held_take (i := 10) (d := 69) (v := ?_) rfl rfl (by kernel_rfl) (by kernel_rfl) (by kernel_rfl) (fun _ _ _ h => h) (by kernel_rfl) ?_ HS.out ?_
              rotate_left
              · intro wz hz
                obtain ⟨cy, cx, -⟩ := hz
                go_simp
                first | done | with_reducible rfl
              refine held_take (i := 11) (d := 70) (v := ?_) rfl rfl (by kernel_rfl) (by kernel_rfl) (by kernel_rfl) (fun _ _ _ h => h) (by kernel_rfl) ?_ HS.out ?_
              rotate_left
              · intro wz hz
                obtain ⟨cy, cx, -⟩ := hz
                go_simp
                first | done | with_reducible rfl
              refine held_take (i := 12) (d := 71) (v := ?_) rfl rfl (by kernel_rfl) (by kernel_rfl) (by kernel_rfl) (fun _ _ _ h => h) (by kernel_rfl) ?_ HS.out ?_
              rotate_left
              · intro wz hz
                obtain ⟨cy, cx, -⟩ := hz
                go_simp
                first | done | with_reducible rfl
              refine held_take (i := 13) (d := 72) (v := ?_) rfl rfl (by kernel_rfl) (by kernel_rfl) (by kernel_rfl) (fun _ _ _ h => h) (by kernel_rfl) ?_ HS.out ?_
              rotate_left
              · intro wz hz
                obtain ⟨cy, cx, -⟩ := hz
                go_simp
                first | done | with_reducible rfl
              refine held_take (i := 14) (d := 73) (v := ?_) rfl rfl (by kernel_rfl) (by kernel_rfl) (by kernel_rfl) (fun _ _ _ h => h) (by kernel_rfl) ?_ HS.out ?_
              rotate_left
              · intro wz hz
                obtain ⟨cy, cx, -⟩ := hz
                go_simp
                first | done | with_reducible rfl
              refine held_take (i := 15) (d := 74) (v := ?_) rfl rfl (by kernel_rfl) (by kernel_rfl) (by kernel_rfl) (fun _ _ _ h => h) (by kernel_rfl) ?_ HS.out ?_
              rotate_left
              · intro wz hz
                obtain ⟨cy, cx, -⟩ := hz
                go_simp
                first | done | with_reducible rfl
              refine held_take (i := 16) (d := 75) (v := ?_) rfl rfl (by kernel_rfl) (by kernel_rfl) (by kernel_rfl) (fun _ _ _ h => h) (by kernel_rfl) ?_ HS.out ?_
              rotate_left
              · intro wz hz
                obtain ⟨cy, cx, -⟩ := hz
                go_simp
                first | done | with_reducible rfl
              refine held_take (i := 17) (d := 76) (v := ?_) rfl rfl (by kernel_rfl) (by kernel_rfl) (by kernel_rfl) (fun _ _ _ h => h) (by kernel_rfl) ?_ HS.out ?_
              rotate_left
              · intro wz hz
                obtain ⟨cy, cx, -⟩ := hz
                go_simp
                first | done | with_reducible rfl
              refine held_take (i := 18) (d := 77) (v := ?_) rfl rfl (by kernel_rfl) (by kernel_rfl) (by kernel_rfl) (fun _ _ _ h => h) (by kernel_rfl) ?_ HS.out ?_
              rotate_left
              · intro wz hz
                obtain ⟨cy, cx, -⟩ := hz
                go_simp
                first | done | with_reducible rfl
              refine wpAnyH_ready (rs := [19]) (by kernel_rfl) (by simp) ?_
              refine AllReadyH.cons rfl (fun K hK => ?_) AllReadyH.nil
              go_simp
              refine store_row ND.out ln.out j true ?_; intro w5 n5 g5; have ND' := hide n5; have AD' := hide (row_off AD.out g5 GNE.out.symm); have FD' := hide (ints_off ND.out FD.out g5); have HS' := hide (HS.out.grown g5 B1.out B2.out G1.out); clear HS ND AD FD n5 g5 zn cn za ca; have HS := HS'; have ND := ND'; have AD := AD'; have FD := FD'; clear HS' ND' AD' FD'; have za := AD.out.free la.out j; have ca := AD.out.cell la.out j g; generalize (rowB N fun i => decide (i < j) && AB i).getD j false = old2 at ca
              refine hK.out _ _ HS.out (fun _ => ?_)
              clear hK K
              refine held_take (i := 20) (d := 78) (v := ?_) rfl rfl (by kernel_rfl) (by kernel_rfl) (by kernel_rfl) (fun _ _ _ h => h) (by kernel_rfl) ?_ HS.out ?_
              rotate_left
              · intro wz hz
                obtain ⟨cy, cx, -⟩ := hz
                go_simp
                first | done | with_reducible rfl
              refine wpAnyH_ready (rs := [21]) (by kernel_rfl) (by simp) ?_
              refine AllReadyH.cons rfl (fun K hK => ?_) AllReadyH.nil
              go_simp
              refine store_row AD.out la.out j true ?_; intro w6 n6 g6; have ND' := hide (row_off ND.out g6 GNE.out); have AD' := hide n6; have FD' := hide (ints_off AD.out FD.out g6); have HS' := hide (HS.out.grown g6 B1.out B2.out G2.out); clear HS ND AD FD n6 g6 za ca; have HS := HS'; have ND := ND'; have AD := AD'; have FD := FD'; clear HS' ND' AD' FD'
              refine hK.out _ _ HS.out (fun _ => ?_)
              clear hK K
              refine wpAnyH_done (by kernel_rfl) ?_ _
              try simp only [Act.put, List.setIfInBounds_toArray]
              obtain ⟨cy, cx, kf⟩ := HS.out
              have SN' := SN.out
              have SA' := SA.out
              have SF' := SF.out
              rw [NJ'.out] at SN'
              rw [AJ'.out] at SA'
              rw [FJ'.out] at SF'
              rw [SN'] at ND
              rw [SA'] at AD
              rw [if_pos rfl] at SF'
              have SF2 := hide SF'
              have LB := hide (show w.heap.size ≤ w6.heap.size from kf.size)
              have KF := hide kf
              clear SN' SA' SF' kf HS
              generalize (List.range j).filter FR = ls at *
              obtain ⟨oa, oc, rfl⟩ := FD.out.shape
              go_wp2_with (at_builtin; refine wpList_append_own_at _ rfl _ _ 27 rfl w.heap.size 3 i0 (.int .i64 0) 1 8 Tryd.underlying27 hi hz0 hz1 hz2 rfl (by decide) _ _ _ rfl (FD.out.fresh (fresh_box _ _ _)) ⟨_, 0, none⟩ 1 1 [.int .i64 (j : Int)] rfl rfl (cell_one_new _ _ _) (by intro x hx; simp at hx; subst hx; rfl) (by have := LLEN.out; unfold maxLen; omega) (by have := LLEN.out; omega) (by have := LB.out; simp; omega) ?_; intro v1 w8 hown hgrow _ _)
              have FD2 := hide (ownI_push (x := j) (l := ls) hown)
              rw [← SF2.out] at FD2
              have ND2 := hide (bools_off (ND.out.fresh (fresh_box _ _ _)) (FD.out.fresh (fresh_box _ _ _)) hgrow)
              have AD2 := hide (bools_off (AD.out.fresh (fresh_box _ _ _)) (FD.out.fresh (fresh_box _ _ _)) hgrow)
              have K2 := hide (show Fresh w w8 from (fresh_more KF.out _ _).grown hgrow (fresh_more KF.out _ _).size fun i hi => FD.out.block i hi)
              clear hown hgrow
              go_wp2
              go_roundw
              case rel => exact ⟨j + 1, by omega, by go_num, ND2.out, AD2.out, FD2.out, K2.out⟩
              case measure => simp [intOf]; omega
            | true =>
              have NJ' := hide (show NB j = true by rw [NBJ.out, AJ.out]; rfl)
              have AJ' := hide (show AB j = true by rw [ABJ.out, AJ.out]; rfl)
              have FJ' := hide (show FR j = true by rw [FRJ.out, AJ.out]; rfl)
              go_wp2_with fail
              refine wp_region_held (S := HeldM w b1 (o1 + j) true b2 (o2 + j) false) (by kernel_rfl) ?_
              change wpAnyH _ _ _ _ _ _ _ _ (World.drew _)
              generalize World.drew wr = wd at HS ND AD FD ⊢
              have zn := ND.out.free ln.out j
              have cn := ND.out.cell ln.out j g
              generalize (rowB N fun i => decide (i < j) && NB i).getD j false = old1 at cn
              have za := AD.out.free la.out j
              have ca := AD.out.cell la.out j g
              generalize (rowB N fun i => decide (i < j) && AB i).getD j false = old2 at ca
              refine held_take (i := 0) (d := 59) (v := ?_) rfl rfl (by kernel_rfl) (by kernel_rfl) (by kernel_rfl) (fun _ _ _ h => h) (by kernel_rfl) ?_ HS.out ?_
              rotate_left
              · intro wz hz
                obtain ⟨cy, cx, -⟩ := hz
                go_simp
                first | done | with_reducible rfl
              refine held_take (i := 1) (d := 60) (v := ?_) rfl rfl (by kernel_rfl) (by kernel_rfl) (by kernel_rfl) (fun _ _ _ h => h) (by kernel_rfl) ?_ HS.out ?_
              rotate_left
              · intro wz hz
                obtain ⟨cy, cx, -⟩ := hz
                go_simp
                first | done | with_reducible rfl
              refine held_take (i := 2) (d := 61) (v := ?_) rfl rfl (by kernel_rfl) (by kernel_rfl) (by kernel_rfl) (fun _ _ _ h => h) (by kernel_rfl) ?_ HS.out ?_
              rotate_left
              · intro wz hz
                obtain ⟨cy, cx, -⟩ := hz
                go_simp
                first | done | with_reducible rfl
              refine held_take (i := 3) (d := 62) (v := ?_) rfl rfl (by kernel_rfl) (by kernel_rfl) (by kernel_rfl) (fun _ _ _ h => h) (by kernel_rfl) ?_ HS.out ?_
              rotate_left
              · intro wz hz
                obtain ⟨cy, cx, -⟩ := hz
                go_simp
                first | done | with_reducible rfl
              refine held_take (i := 4) (d := 63) (v := ?_) rfl rfl (by kernel_rfl) (by kernel_rfl) (by kernel_rfl) (fun _ _ _ h => h) (by kernel_rfl) ?_ HS.out ?_
              rotate_left
              · intro wz hz
                obtain ⟨cy, cx, -⟩ := hz
                go_simp
                first | done | with_reducible rfl
              refine held_take (i := 5) (d := 64) (v := ?_) rfl rfl (by kernel_rfl) (by kernel_rfl) (by kernel_rfl) (fun _ _ _ h => h) (by kernel_rfl) ?_ HS.out ?_
              rotate_left
              · intro wz hz
                obtain ⟨cy, cx, -⟩ := hz
                go_simp
                first | done | with_reducible rfl
              refine held_take (i := 6) (d := 65) (v := ?_) rfl rfl (by kernel_rfl) (by kernel_rfl) (by kernel_rfl) (fun _ _ _ h => h) (by kernel_rfl) ?_ HS.out ?_
              rotate_left
              · intro wz hz
                obtain ⟨cy, cx, -⟩ := hz
                go_simp
                first | done | with_reducible rfl
              refine held_take (i := 7) (d := 66) (v := ?_) rfl rfl (by kernel_rfl) (by kernel_rfl) (by kernel_rfl) (fun _ _ _ h => h) (by kernel_rfl) ?_ HS.out ?_
              rotate_left
              · intro wz hz
                obtain ⟨cy, cx, -⟩ := hz
                go_simp
                first | done | with_reducible rfl
              refine held_take (i := 8) (d := 67) (v := ?_) rfl rfl (by kernel_rfl) (by kernel_rfl) (by kernel_rfl) (fun _ _ _ h => h) (by kernel_rfl) ?_ HS.out ?_
              rotate_left
              · intro wz hz
                obtain ⟨cy, cx, -⟩ := hz
                go_simp
                first | done | with_reducible rfl
              refine held_off (i := 9) (d := 68) rfl rfl (by kernel_rfl) (by kernel_rfl) (by kernel_rfl) (fun _ _ _ h => h) (by kernel_rfl) HS.out ?_
              refine held_take (i := 10) (d := 69) (v := ?_) rfl rfl (by kernel_rfl) (by kernel_rfl) (by kernel_rfl) (fun _ _ _ h => h) (by kernel_rfl) ?_ HS.out ?_
              rotate_left
              · intro wz hz
                obtain ⟨cy, cx, -⟩ := hz
                go_simp
                first | done | with_reducible rfl
              refine held_take (i := 11) (d := 70) (v := ?_) rfl rfl (by kernel_rfl) (by kernel_rfl) (by kernel_rfl) (fun _ _ _ h => h) (by kernel_rfl) ?_ HS.out ?_
              rotate_left
              · intro wz hz
                obtain ⟨cy, cx, -⟩ := hz
                go_simp
                first | done | with_reducible rfl
              refine held_take (i := 12) (d := 71) (v := ?_) rfl rfl (by kernel_rfl) (by kernel_rfl) (by kernel_rfl) (fun _ _ _ h => h) (by kernel_rfl) ?_ HS.out ?_
              rotate_left
              · intro wz hz
                obtain ⟨cy, cx, -⟩ := hz
                go_simp
                first | done | with_reducible rfl
              refine held_take (i := 13) (d := 72) (v := ?_) rfl rfl (by kernel_rfl) (by kernel_rfl) (by kernel_rfl) (fun _ _ _ h => h) (by kernel_rfl) ?_ HS.out ?_
              rotate_left
              · intro wz hz
                obtain ⟨cy, cx, -⟩ := hz
                go_simp
                first | done | with_reducible rfl
              refine held_take (i := 14) (d := 73) (v := ?_) rfl rfl (by kernel_rfl) (by kernel_rfl) (by kernel_rfl) (fun _ _ _ h => h) (by kernel_rfl) ?_ HS.out ?_
              rotate_left
              · intro wz hz
                obtain ⟨cy, cx, -⟩ := hz
                go_simp
                first | done | with_reducible rfl
              refine held_take (i := 15) (d := 74) (v := ?_) rfl rfl (by kernel_rfl) (by kernel_rfl) (by kernel_rfl) (fun _ _ _ h => h) (by kernel_rfl) ?_ HS.out ?_
              rotate_left
              · intro wz hz
                obtain ⟨cy, cx, -⟩ := hz
                go_simp
                first | done | with_reducible rfl
              refine held_take (i := 16) (d := 75) (v := ?_) rfl rfl (by kernel_rfl) (by kernel_rfl) (by kernel_rfl) (fun _ _ _ h => h) (by kernel_rfl) ?_ HS.out ?_
              rotate_left
              · intro wz hz
                obtain ⟨cy, cx, -⟩ := hz
                go_simp
                first | done | with_reducible rfl
              refine held_take (i := 17) (d := 76) (v := ?_) rfl rfl (by kernel_rfl) (by kernel_rfl) (by kernel_rfl) (fun _ _ _ h => h) (by kernel_rfl) ?_ HS.out ?_
              rotate_left
              · intro wz hz
                obtain ⟨cy, cx, -⟩ := hz
                go_simp
                first | done | with_reducible rfl
              refine held_take (i := 18) (d := 77) (v := ?_) rfl rfl (by kernel_rfl) (by kernel_rfl) (by kernel_rfl) (fun _ _ _ h => h) (by kernel_rfl) ?_ HS.out ?_
              rotate_left
              · intro wz hz
                obtain ⟨cy, cx, -⟩ := hz
                go_simp
                first | done | with_reducible rfl
              refine wpAnyH_ready (rs := [19]) (by kernel_rfl) (by simp) ?_
              refine AllReadyH.cons rfl (fun K hK => ?_) AllReadyH.nil
              go_simp
              refine store_row ND.out ln.out j true ?_; intro w5 n5 g5; have ND' := hide n5; have AD' := hide (row_off AD.out g5 GNE.out.symm); have FD' := hide (ints_off ND.out FD.out g5); have HS' := hide (HS.out.grown g5 B1.out B2.out G1.out); clear HS ND AD FD n5 g5 zn cn za ca; have HS := HS'; have ND := ND'; have AD := AD'; have FD := FD'; clear HS' ND' AD' FD'; have za := AD.out.free la.out j; have ca := AD.out.cell la.out j g; generalize (rowB N fun i => decide (i < j) && AB i).getD j false = old2 at ca
              refine hK.out _ _ HS.out (fun _ => ?_)
              clear hK K
              refine held_take (i := 20) (d := 78) (v := ?_) rfl rfl (by kernel_rfl) (by kernel_rfl) (by kernel_rfl) (fun _ _ _ h => h) (by kernel_rfl) ?_ HS.out ?_
              rotate_left
              · intro wz hz
                obtain ⟨cy, cx, -⟩ := hz
                go_simp
                first | done | with_reducible rfl
              refine wpAnyH_ready (rs := [21]) (by kernel_rfl) (by simp) ?_
              refine AllReadyH.cons rfl (fun K hK => ?_) AllReadyH.nil
              go_simp
              refine store_row AD.out la.out j true ?_; intro w6 n6 g6; have ND' := hide (row_off ND.out g6 GNE.out); have AD' := hide n6; have FD' := hide (ints_off AD.out FD.out g6); have HS' := hide (HS.out.grown g6 B1.out B2.out G2.out); clear HS ND AD FD n6 g6 za ca; have HS := HS'; have ND := ND'; have AD := AD'; have FD := FD'; clear HS' ND' AD' FD'
              refine hK.out _ _ HS.out (fun _ => ?_)
              clear hK K
              refine wpAnyH_done (by kernel_rfl) ?_ _
              try simp only [Act.put, List.setIfInBounds_toArray]
              obtain ⟨cy, cx, kf⟩ := HS.out
              have SN' := SN.out
              have SA' := SA.out
              have SF' := SF.out
              rw [NJ'.out] at SN'
              rw [AJ'.out] at SA'
              rw [FJ'.out] at SF'
              rw [SN'] at ND
              rw [SA'] at AD
              rw [if_pos rfl] at SF'
              have SF2 := hide SF'
              have LB := hide (show w.heap.size ≤ w6.heap.size from kf.size)
              have KF := hide kf
              clear SN' SA' SF' kf HS
              generalize (List.range j).filter FR = ls at *
              obtain ⟨oa, oc, rfl⟩ := FD.out.shape
              go_wp2_with (at_builtin; refine wpList_append_own_at _ rfl _ _ 27 rfl w.heap.size 3 i0 (.int .i64 0) 1 8 Tryd.underlying27 hi hz0 hz1 hz2 rfl (by decide) _ _ _ rfl (FD.out.fresh (fresh_box _ _ _)) ⟨_, 0, none⟩ 1 1 [.int .i64 (j : Int)] rfl rfl (cell_one_new _ _ _) (by intro x hx; simp at hx; subst hx; rfl) (by have := LLEN.out; unfold maxLen; omega) (by have := LLEN.out; omega) (by have := LB.out; simp; omega) ?_; intro v1 w8 hown hgrow _ _)
              have FD2 := hide (ownI_push (x := j) (l := ls) hown)
              rw [← SF2.out] at FD2
              have ND2 := hide (bools_off (ND.out.fresh (fresh_box _ _ _)) (FD.out.fresh (fresh_box _ _ _)) hgrow)
              have AD2 := hide (bools_off (AD.out.fresh (fresh_box _ _ _)) (FD.out.fresh (fresh_box _ _ _)) hgrow)
              have K2 := hide (show Fresh w w8 from (fresh_more KF.out _ _).grown hgrow (fresh_more KF.out _ _).size fun i hi => FD.out.block i hi)
              clear hown hgrow
              go_wp2
              go_roundw
              case rel => exact ⟨j + 1, by omega, by go_num, ND2.out, AD2.out, FD2.out, K2.out⟩
              case measure => simp [intOf]; omega
          | true =>
            cases y with
            | false =>
              have NJ' := hide (show NB j = true by rw [NBJ.out, AJ.out]; rfl)
              have AJ' := hide (show AB j = true by rw [ABJ.out, AJ.out]; rfl)
              have FJ' := hide (show FR j = false by rw [FRJ.out, AJ.out]; rfl)
              go_wp2_with fail
              refine wp_region_held (S := HeldM w b1 (o1 + j) false b2 (o2 + j) true) (by kernel_rfl) ?_
              change wpAnyH _ _ _ _ _ _ _ _ (World.drew _)
              generalize World.drew wr = wd at HS ND AD FD ⊢
              have zn := ND.out.free ln.out j
              have cn := ND.out.cell ln.out j g
              generalize (rowB N fun i => decide (i < j) && NB i).getD j false = old1 at cn
              have za := AD.out.free la.out j
              have ca := AD.out.cell la.out j g
              generalize (rowB N fun i => decide (i < j) && AB i).getD j false = old2 at ca
              refine held_take (i := 0) (d := 59) (v := ?_) rfl rfl (by kernel_rfl) (by kernel_rfl) (by kernel_rfl) (fun _ _ _ h => h) (by kernel_rfl) ?_ HS.out ?_
              rotate_left
              · intro wz hz
                obtain ⟨cy, cx, -⟩ := hz
                go_simp
                first | done | with_reducible rfl
              refine held_take (i := 1) (d := 60) (v := ?_) rfl rfl (by kernel_rfl) (by kernel_rfl) (by kernel_rfl) (fun _ _ _ h => h) (by kernel_rfl) ?_ HS.out ?_
              rotate_left
              · intro wz hz
                obtain ⟨cy, cx, -⟩ := hz
                go_simp
                first | done | with_reducible rfl
              refine held_take (i := 2) (d := 61) (v := ?_) rfl rfl (by kernel_rfl) (by kernel_rfl) (by kernel_rfl) (fun _ _ _ h => h) (by kernel_rfl) ?_ HS.out ?_
              rotate_left
              · intro wz hz
                obtain ⟨cy, cx, -⟩ := hz
                go_simp
                first | done | with_reducible rfl
              refine held_take (i := 3) (d := 62) (v := ?_) rfl rfl (by kernel_rfl) (by kernel_rfl) (by kernel_rfl) (fun _ _ _ h => h) (by kernel_rfl) ?_ HS.out ?_
              rotate_left
              · intro wz hz
                obtain ⟨cy, cx, -⟩ := hz
                go_simp
                first | done | with_reducible rfl
              refine held_take (i := 4) (d := 63) (v := ?_) rfl rfl (by kernel_rfl) (by kernel_rfl) (by kernel_rfl) (fun _ _ _ h => h) (by kernel_rfl) ?_ HS.out ?_
              rotate_left
              · intro wz hz
                obtain ⟨cy, cx, -⟩ := hz
                go_simp
                first | done | with_reducible rfl
              refine held_take (i := 5) (d := 64) (v := ?_) rfl rfl (by kernel_rfl) (by kernel_rfl) (by kernel_rfl) (fun _ _ _ h => h) (by kernel_rfl) ?_ HS.out ?_
              rotate_left
              · intro wz hz
                obtain ⟨cy, cx, -⟩ := hz
                go_simp
                first | done | with_reducible rfl
              refine held_take (i := 6) (d := 65) (v := ?_) rfl rfl (by kernel_rfl) (by kernel_rfl) (by kernel_rfl) (fun _ _ _ h => h) (by kernel_rfl) ?_ HS.out ?_
              rotate_left
              · intro wz hz
                obtain ⟨cy, cx, -⟩ := hz
                go_simp
                first | done | with_reducible rfl
              refine held_take (i := 7) (d := 66) (v := ?_) rfl rfl (by kernel_rfl) (by kernel_rfl) (by kernel_rfl) (fun _ _ _ h => h) (by kernel_rfl) ?_ HS.out ?_
              rotate_left
              · intro wz hz
                obtain ⟨cy, cx, -⟩ := hz
                go_simp
                first | done | with_reducible rfl
              refine held_take (i := 8) (d := 67) (v := ?_) rfl rfl (by kernel_rfl) (by kernel_rfl) (by kernel_rfl) (fun _ _ _ h => h) (by kernel_rfl) ?_ HS.out ?_
              rotate_left
              · intro wz hz
                obtain ⟨cy, cx, -⟩ := hz
                go_simp
                first | done | with_reducible rfl
              refine held_take (i := 9) (d := 68) (v := ?_) rfl rfl (by kernel_rfl) (by kernel_rfl) (by kernel_rfl) (fun _ _ _ h => h) (by kernel_rfl) ?_ HS.out ?_
              rotate_left
              · intro wz hz
                obtain ⟨cy, cx, -⟩ := hz
                go_simp
                first | done | with_reducible rfl
              refine held_take (i := 10) (d := 69) (v := ?_) rfl rfl (by kernel_rfl) (by kernel_rfl) (by kernel_rfl) (fun _ _ _ h => h) (by kernel_rfl) ?_ HS.out ?_
              rotate_left
              · intro wz hz
                obtain ⟨cy, cx, -⟩ := hz
                go_simp
                first | done | with_reducible rfl
              refine held_take (i := 11) (d := 70) (v := ?_) rfl rfl (by kernel_rfl) (by kernel_rfl) (by kernel_rfl) (fun _ _ _ h => h) (by kernel_rfl) ?_ HS.out ?_
              rotate_left
              · intro wz hz
                obtain ⟨cy, cx, -⟩ := hz
                go_simp
                first | done | with_reducible rfl
              refine held_take (i := 12) (d := 71) (v := ?_) rfl rfl (by kernel_rfl) (by kernel_rfl) (by kernel_rfl) (fun _ _ _ h => h) (by kernel_rfl) ?_ HS.out ?_
              rotate_left
              · intro wz hz
                obtain ⟨cy, cx, -⟩ := hz
                go_simp
                first | done | with_reducible rfl
              refine held_take (i := 13) (d := 72) (v := ?_) rfl rfl (by kernel_rfl) (by kernel_rfl) (by kernel_rfl) (fun _ _ _ h => h) (by kernel_rfl) ?_ HS.out ?_
              rotate_left
              · intro wz hz
                obtain ⟨cy, cx, -⟩ := hz
                go_simp
                first | done | with_reducible rfl
              refine held_take (i := 14) (d := 73) (v := ?_) rfl rfl (by kernel_rfl) (by kernel_rfl) (by kernel_rfl) (fun _ _ _ h => h) (by kernel_rfl) ?_ HS.out ?_
              rotate_left
              · intro wz hz
                obtain ⟨cy, cx, -⟩ := hz
                go_simp
                first | done | with_reducible rfl
              refine held_take (i := 15) (d := 74) (v := ?_) rfl rfl (by kernel_rfl) (by kernel_rfl) (by kernel_rfl) (fun _ _ _ h => h) (by kernel_rfl) ?_ HS.out ?_
              rotate_left
              · intro wz hz
                obtain ⟨cy, cx, -⟩ := hz
                go_simp
                first | done | with_reducible rfl
              refine held_off (i := 16) (d := 75) rfl rfl (by kernel_rfl) (by kernel_rfl) (by kernel_rfl) (fun _ _ _ h => h) (by kernel_rfl) HS.out ?_
              refine held_take (i := 17) (d := 76) (v := ?_) rfl rfl (by kernel_rfl) (by kernel_rfl) (by kernel_rfl) (fun _ _ _ h => h) (by kernel_rfl) ?_ HS.out ?_
              rotate_left
              · intro wz hz
                obtain ⟨cy, cx, -⟩ := hz
                go_simp
                first | done | with_reducible rfl
              refine held_take (i := 18) (d := 77) (v := ?_) rfl rfl (by kernel_rfl) (by kernel_rfl) (by kernel_rfl) (fun _ _ _ h => h) (by kernel_rfl) ?_ HS.out ?_
              rotate_left
              · intro wz hz
                obtain ⟨cy, cx, -⟩ := hz
                go_simp
                first | done | with_reducible rfl
              refine wpAnyH_ready (rs := [19]) (by kernel_rfl) (by simp) ?_
              refine AllReadyH.cons rfl (fun K hK => ?_) AllReadyH.nil
              go_simp
              refine store_row ND.out ln.out j true ?_; intro w5 n5 g5; have ND' := hide n5; have AD' := hide (row_off AD.out g5 GNE.out.symm); have FD' := hide (ints_off ND.out FD.out g5); have HS' := hide (HS.out.grown g5 B1.out B2.out G1.out); clear HS ND AD FD n5 g5 zn cn za ca; have HS := HS'; have ND := ND'; have AD := AD'; have FD := FD'; clear HS' ND' AD' FD'; have za := AD.out.free la.out j; have ca := AD.out.cell la.out j g; generalize (rowB N fun i => decide (i < j) && AB i).getD j false = old2 at ca
              refine hK.out _ _ HS.out (fun _ => ?_)
              clear hK K
              refine held_take (i := 20) (d := 78) (v := ?_) rfl rfl (by kernel_rfl) (by kernel_rfl) (by kernel_rfl) (fun _ _ _ h => h) (by kernel_rfl) ?_ HS.out ?_
              rotate_left
              · intro wz hz
                obtain ⟨cy, cx, -⟩ := hz
                go_simp
                first | done | with_reducible rfl
              refine wpAnyH_ready (rs := [21]) (by kernel_rfl) (by simp) ?_
              refine AllReadyH.cons rfl (fun K hK => ?_) AllReadyH.nil
              go_simp
              refine store_row AD.out la.out j true ?_; intro w6 n6 g6; have ND' := hide (row_off ND.out g6 GNE.out); have AD' := hide n6; have FD' := hide (ints_off AD.out FD.out g6); have HS' := hide (HS.out.grown g6 B1.out B2.out G2.out); clear HS ND AD FD n6 g6 za ca; have HS := HS'; have ND := ND'; have AD := AD'; have FD := FD'; clear HS' ND' AD' FD'
              refine hK.out _ _ HS.out (fun _ => ?_)
              clear hK K
              refine wpAnyH_done (by kernel_rfl) ?_ _
              try simp only [Act.put, List.setIfInBounds_toArray]
              obtain ⟨cy, cx, kf⟩ := HS.out
              have SN' := SN.out
              have SA' := SA.out
              have SF' := SF.out
              rw [NJ'.out] at SN'
              rw [AJ'.out] at SA'
              rw [FJ'.out] at SF'
              rw [SN'] at ND
              rw [SA'] at AD
              rw [if_neg (by decide)] at SF'
              rw [← SF'] at FD
              have KF := hide kf
              clear SN' SA' SF' kf HS
              go_wp2
              go_roundw
              case rel => exact ⟨j + 1, by omega, by go_num, ND.out, AD.out, FD.out, KF.out⟩
              case measure => simp [intOf]; omega
            | true =>
              have NJ' := hide (show NB j = true by rw [NBJ.out, AJ.out]; rfl)
              have AJ' := hide (show AB j = true by rw [ABJ.out, AJ.out]; rfl)
              have FJ' := hide (show FR j = false by rw [FRJ.out, AJ.out]; rfl)
              go_wp2_with fail
              refine wp_region_held (S := HeldM w b1 (o1 + j) true b2 (o2 + j) true) (by kernel_rfl) ?_
              change wpAnyH _ _ _ _ _ _ _ _ (World.drew _)
              generalize World.drew wr = wd at HS ND AD FD ⊢
              have zn := ND.out.free ln.out j
              have cn := ND.out.cell ln.out j g
              generalize (rowB N fun i => decide (i < j) && NB i).getD j false = old1 at cn
              have za := AD.out.free la.out j
              have ca := AD.out.cell la.out j g
              generalize (rowB N fun i => decide (i < j) && AB i).getD j false = old2 at ca
              refine held_take (i := 0) (d := 59) (v := ?_) rfl rfl (by kernel_rfl) (by kernel_rfl) (by kernel_rfl) (fun _ _ _ h => h) (by kernel_rfl) ?_ HS.out ?_
              rotate_left
              · intro wz hz
                obtain ⟨cy, cx, -⟩ := hz
                go_simp
                first | done | with_reducible rfl
              refine held_take (i := 1) (d := 60) (v := ?_) rfl rfl (by kernel_rfl) (by kernel_rfl) (by kernel_rfl) (fun _ _ _ h => h) (by kernel_rfl) ?_ HS.out ?_
              rotate_left
              · intro wz hz
                obtain ⟨cy, cx, -⟩ := hz
                go_simp
                first | done | with_reducible rfl
              refine held_take (i := 2) (d := 61) (v := ?_) rfl rfl (by kernel_rfl) (by kernel_rfl) (by kernel_rfl) (fun _ _ _ h => h) (by kernel_rfl) ?_ HS.out ?_
              rotate_left
              · intro wz hz
                obtain ⟨cy, cx, -⟩ := hz
                go_simp
                first | done | with_reducible rfl
              refine held_take (i := 3) (d := 62) (v := ?_) rfl rfl (by kernel_rfl) (by kernel_rfl) (by kernel_rfl) (fun _ _ _ h => h) (by kernel_rfl) ?_ HS.out ?_
              rotate_left
              · intro wz hz
                obtain ⟨cy, cx, -⟩ := hz
                go_simp
                first | done | with_reducible rfl
              refine held_take (i := 4) (d := 63) (v := ?_) rfl rfl (by kernel_rfl) (by kernel_rfl) (by kernel_rfl) (fun _ _ _ h => h) (by kernel_rfl) ?_ HS.out ?_
              rotate_left
              · intro wz hz
                obtain ⟨cy, cx, -⟩ := hz
                go_simp
                first | done | with_reducible rfl
              refine held_take (i := 5) (d := 64) (v := ?_) rfl rfl (by kernel_rfl) (by kernel_rfl) (by kernel_rfl) (fun _ _ _ h => h) (by kernel_rfl) ?_ HS.out ?_
              rotate_left
              · intro wz hz
                obtain ⟨cy, cx, -⟩ := hz
                go_simp
                first | done | with_reducible rfl
              refine held_take (i := 6) (d := 65) (v := ?_) rfl rfl (by kernel_rfl) (by kernel_rfl) (by kernel_rfl) (fun _ _ _ h => h) (by kernel_rfl) ?_ HS.out ?_
              rotate_left
              · intro wz hz
                obtain ⟨cy, cx, -⟩ := hz
                go_simp
                first | done | with_reducible rfl
              refine held_take (i := 7) (d := 66) (v := ?_) rfl rfl (by kernel_rfl) (by kernel_rfl) (by kernel_rfl) (fun _ _ _ h => h) (by kernel_rfl) ?_ HS.out ?_
              rotate_left
              · intro wz hz
                obtain ⟨cy, cx, -⟩ := hz
                go_simp
                first | done | with_reducible rfl
              refine held_take (i := 8) (d := 67) (v := ?_) rfl rfl (by kernel_rfl) (by kernel_rfl) (by kernel_rfl) (fun _ _ _ h => h) (by kernel_rfl) ?_ HS.out ?_
              rotate_left
              · intro wz hz
                obtain ⟨cy, cx, -⟩ := hz
                go_simp
                first | done | with_reducible rfl
              refine held_off (i := 9) (d := 68) rfl rfl (by kernel_rfl) (by kernel_rfl) (by kernel_rfl) (fun _ _ _ h => h) (by kernel_rfl) HS.out ?_
              refine held_take (i := 10) (d := 69) (v := ?_) rfl rfl (by kernel_rfl) (by kernel_rfl) (by kernel_rfl) (fun _ _ _ h => h) (by kernel_rfl) ?_ HS.out ?_
              rotate_left
              · intro wz hz
                obtain ⟨cy, cx, -⟩ := hz
                go_simp
                first | done | with_reducible rfl
              refine held_take (i := 11) (d := 70) (v := ?_) rfl rfl (by kernel_rfl) (by kernel_rfl) (by kernel_rfl) (fun _ _ _ h => h) (by kernel_rfl) ?_ HS.out ?_
              rotate_left
              · intro wz hz
                obtain ⟨cy, cx, -⟩ := hz
                go_simp
                first | done | with_reducible rfl
              refine held_take (i := 12) (d := 71) (v := ?_) rfl rfl (by kernel_rfl) (by kernel_rfl) (by kernel_rfl) (fun _ _ _ h => h) (by kernel_rfl) ?_ HS.out ?_
              rotate_left
              · intro wz hz
                obtain ⟨cy, cx, -⟩ := hz
                go_simp
                first | done | with_reducible rfl
              refine held_take (i := 13) (d := 72) (v := ?_) rfl rfl (by kernel_rfl) (by kernel_rfl) (by kernel_rfl) (fun _ _ _ h => h) (by kernel_rfl) ?_ HS.out ?_
              rotate_left
              · intro wz hz
                obtain ⟨cy, cx, -⟩ := hz
                go_simp
                first | done | with_reducible rfl
              refine held_take (i := 14) (d := 73) (v := ?_) rfl rfl (by kernel_rfl) (by kernel_rfl) (by kernel_rfl) (fun _ _ _ h => h) (by kernel_rfl) ?_ HS.out ?_
              rotate_left
              · intro wz hz
                obtain ⟨cy, cx, -⟩ := hz
                go_simp
                first | done | with_reducible rfl
              refine held_take (i := 15) (d := 74) (v := ?_) rfl rfl (by kernel_rfl) (by kernel_rfl) (by kernel_rfl) (fun _ _ _ h => h) (by kernel_rfl) ?_ HS.out ?_
              rotate_left
              · intro wz hz
                obtain ⟨cy, cx, -⟩ := hz
                go_simp
                first | done | with_reducible rfl
              refine held_off (i := 16) (d := 75) rfl rfl (by kernel_rfl) (by kernel_rfl) (by kernel_rfl) (fun _ _ _ h => h) (by kernel_rfl) HS.out ?_
              refine held_take (i := 17) (d := 76) (v := ?_) rfl rfl (by kernel_rfl) (by kernel_rfl) (by kernel_rfl) (fun _ _ _ h => h) (by kernel_rfl) ?_ HS.out ?_
              rotate_left
              · intro wz hz
                obtain ⟨cy, cx, -⟩ := hz
                go_simp
                first | done | with_reducible rfl
              refine held_take (i := 18) (d := 77) (v := ?_) rfl rfl (by kernel_rfl) (by kernel_rfl) (by kernel_rfl) (fun _ _ _ h => h) (by kernel_rfl) ?_ HS.out ?_
              rotate_left
              · intro wz hz
                obtain ⟨cy, cx, -⟩ := hz
                go_simp
                first | done | with_reducible rfl
              refine wpAnyH_ready (rs := [19]) (by kernel_rfl) (by simp) ?_
              refine AllReadyH.cons rfl (fun K hK => ?_) AllReadyH.nil
              go_simp
              refine store_row ND.out ln.out j true ?_; intro w5 n5 g5; have ND' := hide n5; have AD' := hide (row_off AD.out g5 GNE.out.symm); have FD' := hide (ints_off ND.out FD.out g5); have HS' := hide (HS.out.grown g5 B1.out B2.out G1.out); clear HS ND AD FD n5 g5 zn cn za ca; have HS := HS'; have ND := ND'; have AD := AD'; have FD := FD'; clear HS' ND' AD' FD'; have za := AD.out.free la.out j; have ca := AD.out.cell la.out j g; generalize (rowB N fun i => decide (i < j) && AB i).getD j false = old2 at ca
              refine hK.out _ _ HS.out (fun _ => ?_)
              clear hK K
              refine held_take (i := 20) (d := 78) (v := ?_) rfl rfl (by kernel_rfl) (by kernel_rfl) (by kernel_rfl) (fun _ _ _ h => h) (by kernel_rfl) ?_ HS.out ?_
              rotate_left
              · intro wz hz
                obtain ⟨cy, cx, -⟩ := hz
                go_simp
                first | done | with_reducible rfl
              refine wpAnyH_ready (rs := [21]) (by kernel_rfl) (by simp) ?_
              refine AllReadyH.cons rfl (fun K hK => ?_) AllReadyH.nil
              go_simp
              refine store_row AD.out la.out j true ?_; intro w6 n6 g6; have ND' := hide (row_off ND.out g6 GNE.out); have AD' := hide n6; have FD' := hide (ints_off AD.out FD.out g6); have HS' := hide (HS.out.grown g6 B1.out B2.out G2.out); clear HS ND AD FD n6 g6 za ca; have HS := HS'; have ND := ND'; have AD := AD'; have FD := FD'; clear HS' ND' AD' FD'
              refine hK.out _ _ HS.out (fun _ => ?_)
              clear hK K
              refine wpAnyH_done (by kernel_rfl) ?_ _
              try simp only [Act.put, List.setIfInBounds_toArray]
              obtain ⟨cy, cx, kf⟩ := HS.out
              have SN' := SN.out
              have SA' := SA.out
              have SF' := SF.out
              rw [NJ'.out] at SN'
              rw [AJ'.out] at SA'
              rw [FJ'.out] at SF'
              rw [SN'] at ND
              rw [SA'] at AD
              rw [if_neg (by decide)] at SF'
              rw [← SF'] at FD
              have KF := hide kf
              clear SN' SA' SF' kf HS
              go_wp2
              go_roundw
              case rel => exact ⟨j + 1, by omega, by go_num, ND.out, AD.out, FD.out, KF.out⟩
              case measure => simp [intOf]; omega
        · have h2i : ¬ ((j : Int) < (t : Int)) := by omega
          rw [decide_eq_true h1, decide_eq_false h2] at AJ0
          have AJ := hide AJ0
          clear AJ0
          cases x with
          | false =>
            cases y with
            | false =>
              have NJ' := hide (show NB j = false by rw [NBJ.out, AJ.out]; rfl)
              have AJ' := hide (show AB j = false by rw [ABJ.out, AJ.out]; rfl)
              have FJ' := hide (show FR j = false by rw [FRJ.out, AJ.out]; rfl)
              go_wp2_with fail
              refine wp_region_held (S := HeldM w b1 (o1 + j) false b2 (o2 + j) false) (by kernel_rfl) ?_
              change wpAnyH _ _ _ _ _ _ _ _ (World.drew _)
              generalize World.drew wr = wd at HS ND AD FD ⊢
              have zn := ND.out.free ln.out j
              have cn := ND.out.cell ln.out j g
              generalize (rowB N fun i => decide (i < j) && NB i).getD j false = old1 at cn
              have za := AD.out.free la.out j
              have ca := AD.out.cell la.out j g
              generalize (rowB N fun i => decide (i < j) && AB i).getD j false = old2 at ca
              refine held_take (i := 0) (d := 59) (v := ?_) rfl rfl (by kernel_rfl) (by kernel_rfl) (by kernel_rfl) (fun _ _ _ h => h) (by kernel_rfl) ?_ HS.out ?_
              rotate_left
              · intro wz hz
                obtain ⟨cy, cx, -⟩ := hz
                go_simp
                first | done | with_reducible rfl
              refine held_take (i := 1) (d := 60) (v := ?_) rfl rfl (by kernel_rfl) (by kernel_rfl) (by kernel_rfl) (fun _ _ _ h => h) (by kernel_rfl) ?_ HS.out ?_
              rotate_left
              · intro wz hz
                obtain ⟨cy, cx, -⟩ := hz
                go_simp
                first | done | with_reducible rfl
              refine held_take (i := 2) (d := 61) (v := ?_) rfl rfl (by kernel_rfl) (by kernel_rfl) (by kernel_rfl) (fun _ _ _ h => h) (by kernel_rfl) ?_ HS.out ?_
              rotate_left
              · intro wz hz
                obtain ⟨cy, cx, -⟩ := hz
                go_simp
                first | done | with_reducible rfl
              refine held_take (i := 3) (d := 62) (v := ?_) rfl rfl (by kernel_rfl) (by kernel_rfl) (by kernel_rfl) (fun _ _ _ h => h) (by kernel_rfl) ?_ HS.out ?_
              rotate_left
              · intro wz hz
                obtain ⟨cy, cx, -⟩ := hz
                go_simp
                first | done | with_reducible rfl
              refine held_take (i := 4) (d := 63) (v := ?_) rfl rfl (by kernel_rfl) (by kernel_rfl) (by kernel_rfl) (fun _ _ _ h => h) (by kernel_rfl) ?_ HS.out ?_
              rotate_left
              · intro wz hz
                obtain ⟨cy, cx, -⟩ := hz
                go_simp
                first | done | with_reducible rfl
              refine held_take (i := 5) (d := 64) (v := ?_) rfl rfl (by kernel_rfl) (by kernel_rfl) (by kernel_rfl) (fun _ _ _ h => h) (by kernel_rfl) ?_ HS.out ?_
              rotate_left
              · intro wz hz
                obtain ⟨cy, cx, -⟩ := hz
                go_simp
                first | done | with_reducible rfl
              refine held_take (i := 6) (d := 65) (v := ?_) rfl rfl (by kernel_rfl) (by kernel_rfl) (by kernel_rfl) (fun _ _ _ h => h) (by kernel_rfl) ?_ HS.out ?_
              rotate_left
              · intro wz hz
                obtain ⟨cy, cx, -⟩ := hz
                go_simp
                first | done | with_reducible rfl
              refine held_take (i := 7) (d := 66) (v := ?_) rfl rfl (by kernel_rfl) (by kernel_rfl) (by kernel_rfl) (fun _ _ _ h => h) (by kernel_rfl) ?_ HS.out ?_
              rotate_left
              · intro wz hz
                obtain ⟨cy, cx, -⟩ := hz
                go_simp
                first | done | with_reducible rfl
              refine held_take (i := 8) (d := 67) (v := ?_) rfl rfl (by kernel_rfl) (by kernel_rfl) (by kernel_rfl) (fun _ _ _ h => h) (by kernel_rfl) ?_ HS.out ?_
              rotate_left
              · intro wz hz
                obtain ⟨cy, cx, -⟩ := hz
                go_simp
                first | done | with_reducible rfl
              refine held_take (i := 9) (d := 68) (v := ?_) rfl rfl (by kernel_rfl) (by kernel_rfl) (by kernel_rfl) (fun _ _ _ h => h) (by kernel_rfl) ?_ HS.out ?_
              rotate_left
              · intro wz hz
                obtain ⟨cy, cx, -⟩ := hz
                go_simp
                first | done | with_reducible rfl
              refine held_take (i := 10) (d := 69) (v := ?_) rfl rfl (by kernel_rfl) (by kernel_rfl) (by kernel_rfl) (fun _ _ _ h => h) (by kernel_rfl) ?_ HS.out ?_
              rotate_left
              · intro wz hz
                obtain ⟨cy, cx, -⟩ := hz
                go_simp
                first | done | with_reducible rfl
              refine held_take (i := 11) (d := 70) (v := ?_) rfl rfl (by kernel_rfl) (by kernel_rfl) (by kernel_rfl) (fun _ _ _ h => h) (by kernel_rfl) ?_ HS.out ?_
              rotate_left
              · intro wz hz
                obtain ⟨cy, cx, -⟩ := hz
                go_simp
                first | done | with_reducible rfl
              refine held_take (i := 12) (d := 71) (v := ?_) rfl rfl (by kernel_rfl) (by kernel_rfl) (by kernel_rfl) (fun _ _ _ h => h) (by kernel_rfl) ?_ HS.out ?_
              rotate_left
              · intro wz hz
                obtain ⟨cy, cx, -⟩ := hz
                go_simp
                first | done | with_reducible rfl
              refine held_take (i := 13) (d := 72) (v := ?_) rfl rfl (by kernel_rfl) (by kernel_rfl) (by kernel_rfl) (fun _ _ _ h => h) (by kernel_rfl) ?_ HS.out ?_
              rotate_left
              · intro wz hz
                obtain ⟨cy, cx, -⟩ := hz
                go_simp
                first | done | with_reducible rfl
              refine held_take (i := 14) (d := 73) (v := ?_) rfl rfl (by kernel_rfl) (by kernel_rfl) (by kernel_rfl) (fun _ _ _ h => h) (by kernel_rfl) ?_ HS.out ?_
              rotate_left
              · intro wz hz
                obtain ⟨cy, cx, -⟩ := hz
                go_simp
                first | done | with_reducible rfl
              refine held_take (i := 15) (d := 74) (v := ?_) rfl rfl (by kernel_rfl) (by kernel_rfl) (by kernel_rfl) (fun _ _ _ h => h) (by kernel_rfl) ?_ HS.out ?_
              rotate_left
              · intro wz hz
                obtain ⟨cy, cx, -⟩ := hz
                go_simp
                first | done | with_reducible rfl
              refine held_take (i := 16) (d := 75) (v := ?_) rfl rfl (by kernel_rfl) (by kernel_rfl) (by kernel_rfl) (fun _ _ _ h => h) (by kernel_rfl) ?_ HS.out ?_
              rotate_left
              · intro wz hz
                obtain ⟨cy, cx, -⟩ := hz
                go_simp
                first | done | with_reducible rfl
              refine held_take (i := 17) (d := 76) (v := ?_) rfl rfl (by kernel_rfl) (by kernel_rfl) (by kernel_rfl) (fun _ _ _ h => h) (by kernel_rfl) ?_ HS.out ?_
              rotate_left
              · intro wz hz
                obtain ⟨cy, cx, -⟩ := hz
                go_simp
                first | done | with_reducible rfl
              refine held_take (i := 18) (d := 77) (v := ?_) rfl rfl (by kernel_rfl) (by kernel_rfl) (by kernel_rfl) (fun _ _ _ h => h) (by kernel_rfl) ?_ HS.out ?_
              rotate_left
              · intro wz hz
                obtain ⟨cy, cx, -⟩ := hz
                go_simp
                first | done | with_reducible rfl
              refine wpAnyH_ready (rs := [19]) (by kernel_rfl) (by simp) ?_
              refine AllReadyH.cons rfl (fun K hK => ?_) AllReadyH.nil
              go_simp
              refine store_row ND.out ln.out j false ?_; intro w5 n5 g5; have ND' := hide n5; have AD' := hide (row_off AD.out g5 GNE.out.symm); have FD' := hide (ints_off ND.out FD.out g5); have HS' := hide (HS.out.grown g5 B1.out B2.out G1.out); clear HS ND AD FD n5 g5 zn cn za ca; have HS := HS'; have ND := ND'; have AD := AD'; have FD := FD'; clear HS' ND' AD' FD'; have za := AD.out.free la.out j; have ca := AD.out.cell la.out j g; generalize (rowB N fun i => decide (i < j) && AB i).getD j false = old2 at ca
              refine hK.out _ _ HS.out (fun _ => ?_)
              clear hK K
              refine held_take (i := 20) (d := 78) (v := ?_) rfl rfl (by kernel_rfl) (by kernel_rfl) (by kernel_rfl) (fun _ _ _ h => h) (by kernel_rfl) ?_ HS.out ?_
              rotate_left
              · intro wz hz
                obtain ⟨cy, cx, -⟩ := hz
                go_simp
                first | done | with_reducible rfl
              refine wpAnyH_ready (rs := [21]) (by kernel_rfl) (by simp) ?_
              refine AllReadyH.cons rfl (fun K hK => ?_) AllReadyH.nil
              go_simp
              refine store_row AD.out la.out j false ?_; intro w6 n6 g6; have ND' := hide (row_off ND.out g6 GNE.out); have AD' := hide n6; have FD' := hide (ints_off AD.out FD.out g6); have HS' := hide (HS.out.grown g6 B1.out B2.out G2.out); clear HS ND AD FD n6 g6 za ca; have HS := HS'; have ND := ND'; have AD := AD'; have FD := FD'; clear HS' ND' AD' FD'
              refine hK.out _ _ HS.out (fun _ => ?_)
              clear hK K
              refine wpAnyH_done (by kernel_rfl) ?_ _
              try simp only [Act.put, List.setIfInBounds_toArray]
              obtain ⟨cy, cx, kf⟩ := HS.out
              have SN' := SN.out
              have SA' := SA.out
              have SF' := SF.out
              rw [NJ'.out] at SN'
              rw [AJ'.out] at SA'
              rw [FJ'.out] at SF'
              rw [SN'] at ND
              rw [SA'] at AD
              rw [if_neg (by decide)] at SF'
              rw [← SF'] at FD
              have KF := hide kf
              clear SN' SA' SF' kf HS
              go_wp2
              go_roundw
              case rel => exact ⟨j + 1, by omega, by go_num, ND.out, AD.out, FD.out, KF.out⟩
              case measure => simp [intOf]; omega
            | true =>
              have NJ' := hide (show NB j = true by rw [NBJ.out, AJ.out]; rfl)
              have AJ' := hide (show AB j = false by rw [ABJ.out, AJ.out]; rfl)
              have FJ' := hide (show FR j = false by rw [FRJ.out, AJ.out]; rfl)
              go_wp2_with fail
              refine wp_region_held (S := HeldM w b1 (o1 + j) true b2 (o2 + j) false) (by kernel_rfl) ?_
              change wpAnyH _ _ _ _ _ _ _ _ (World.drew _)
              generalize World.drew wr = wd at HS ND AD FD ⊢
              have zn := ND.out.free ln.out j
              have cn := ND.out.cell ln.out j g
              generalize (rowB N fun i => decide (i < j) && NB i).getD j false = old1 at cn
              have za := AD.out.free la.out j
              have ca := AD.out.cell la.out j g
              generalize (rowB N fun i => decide (i < j) && AB i).getD j false = old2 at ca
              refine held_take (i := 0) (d := 59) (v := ?_) rfl rfl (by kernel_rfl) (by kernel_rfl) (by kernel_rfl) (fun _ _ _ h => h) (by kernel_rfl) ?_ HS.out ?_
              rotate_left
              · intro wz hz
                obtain ⟨cy, cx, -⟩ := hz
                go_simp
                first | done | with_reducible rfl
              refine held_take (i := 1) (d := 60) (v := ?_) rfl rfl (by kernel_rfl) (by kernel_rfl) (by kernel_rfl) (fun _ _ _ h => h) (by kernel_rfl) ?_ HS.out ?_
              rotate_left
              · intro wz hz
                obtain ⟨cy, cx, -⟩ := hz
                go_simp
                first | done | with_reducible rfl
              refine held_take (i := 2) (d := 61) (v := ?_) rfl rfl (by kernel_rfl) (by kernel_rfl) (by kernel_rfl) (fun _ _ _ h => h) (by kernel_rfl) ?_ HS.out ?_
              rotate_left
              · intro wz hz
                obtain ⟨cy, cx, -⟩ := hz
                go_simp
                first | done | with_reducible rfl
              refine held_take (i := 3) (d := 62) (v := ?_) rfl rfl (by kernel_rfl) (by kernel_rfl) (by kernel_rfl) (fun _ _ _ h => h) (by kernel_rfl) ?_ HS.out ?_
              rotate_left
              · intro wz hz
                obtain ⟨cy, cx, -⟩ := hz
                go_simp
                first | done | with_reducible rfl
              refine held_take (i := 4) (d := 63) (v := ?_) rfl rfl (by kernel_rfl) (by kernel_rfl) (by kernel_rfl) (fun _ _ _ h => h) (by kernel_rfl) ?_ HS.out ?_
              rotate_left
              · intro wz hz
                obtain ⟨cy, cx, -⟩ := hz
                go_simp
                first | done | with_reducible rfl
              refine held_take (i := 5) (d := 64) (v := ?_) rfl rfl (by kernel_rfl) (by kernel_rfl) (by kernel_rfl) (fun _ _ _ h => h) (by kernel_rfl) ?_ HS.out ?_
              rotate_left
              · intro wz hz
                obtain ⟨cy, cx, -⟩ := hz
                go_simp
                first | done | with_reducible rfl
              refine held_take (i := 6) (d := 65) (v := ?_) rfl rfl (by kernel_rfl) (by kernel_rfl) (by kernel_rfl) (fun _ _ _ h => h) (by kernel_rfl) ?_ HS.out ?_
              rotate_left
              · intro wz hz
                obtain ⟨cy, cx, -⟩ := hz
                go_simp
                first | done | with_reducible rfl
              refine held_take (i := 7) (d := 66) (v := ?_) rfl rfl (by kernel_rfl) (by kernel_rfl) (by kernel_rfl) (fun _ _ _ h => h) (by kernel_rfl) ?_ HS.out ?_
              rotate_left
              · intro wz hz
                obtain ⟨cy, cx, -⟩ := hz
                go_simp
                first | done | with_reducible rfl
              refine held_take (i := 8) (d := 67) (v := ?_) rfl rfl (by kernel_rfl) (by kernel_rfl) (by kernel_rfl) (fun _ _ _ h => h) (by kernel_rfl) ?_ HS.out ?_
              rotate_left
              · intro wz hz
                obtain ⟨cy, cx, -⟩ := hz
                go_simp
                first | done | with_reducible rfl
              refine held_off (i := 9) (d := 68) rfl rfl (by kernel_rfl) (by kernel_rfl) (by kernel_rfl) (fun _ _ _ h => h) (by kernel_rfl) HS.out ?_
              refine held_take (i := 10) (d := 69) (v := ?_) rfl rfl (by kernel_rfl) (by kernel_rfl) (by kernel_rfl) (fun _ _ _ h => h) (by kernel_rfl) ?_ HS.out ?_
              rotate_left
              · intro wz hz
                obtain ⟨cy, cx, -⟩ := hz
                go_simp
                first | done | with_reducible rfl
              refine held_take (i := 11) (d := 70) (v := ?_) rfl rfl (by kernel_rfl) (by kernel_rfl) (by kernel_rfl) (fun _ _ _ h => h) (by kernel_rfl) ?_ HS.out ?_
              rotate_left
              · intro wz hz
                obtain ⟨cy, cx, -⟩ := hz
                go_simp
                first | done | with_reducible rfl
              refine held_take (i := 12) (d := 71) (v := ?_) rfl rfl (by kernel_rfl) (by kernel_rfl) (by kernel_rfl) (fun _ _ _ h => h) (by kernel_rfl) ?_ HS.out ?_
              rotate_left
              · intro wz hz
                obtain ⟨cy, cx, -⟩ := hz
                go_simp
                first | done | with_reducible rfl
              refine held_take (i := 13) (d := 72) (v := ?_) rfl rfl (by kernel_rfl) (by kernel_rfl) (by kernel_rfl) (fun _ _ _ h => h) (by kernel_rfl) ?_ HS.out ?_
              rotate_left
              · intro wz hz
                obtain ⟨cy, cx, -⟩ := hz
                go_simp
                first | done | with_reducible rfl
              refine held_take (i := 14) (d := 73) (v := ?_) rfl rfl (by kernel_rfl) (by kernel_rfl) (by kernel_rfl) (fun _ _ _ h => h) (by kernel_rfl) ?_ HS.out ?_
              rotate_left
              · intro wz hz
                obtain ⟨cy, cx, -⟩ := hz
                go_simp
                first | done | with_reducible rfl
              refine held_take (i := 15) (d := 74) (v := ?_) rfl rfl (by kernel_rfl) (by kernel_rfl) (by kernel_rfl) (fun _ _ _ h => h) (by kernel_rfl) ?_ HS.out ?_
              rotate_left
              · intro wz hz
                obtain ⟨cy, cx, -⟩ := hz
                go_simp
                first | done | with_reducible rfl
              refine held_take (i := 16) (d := 75) (v := ?_) rfl rfl (by kernel_rfl) (by kernel_rfl) (by kernel_rfl) (fun _ _ _ h => h) (by kernel_rfl) ?_ HS.out ?_
              rotate_left
              · intro wz hz
                obtain ⟨cy, cx, -⟩ := hz
                go_simp
                first | done | with_reducible rfl
              refine held_take (i := 17) (d := 76) (v := ?_) rfl rfl (by kernel_rfl) (by kernel_rfl) (by kernel_rfl) (fun _ _ _ h => h) (by kernel_rfl) ?_ HS.out ?_
              rotate_left
              · intro wz hz
                obtain ⟨cy, cx, -⟩ := hz
                go_simp
                first | done | with_reducible rfl
              refine held_take (i := 18) (d := 77) (v := ?_) rfl rfl (by kernel_rfl) (by kernel_rfl) (by kernel_rfl) (fun _ _ _ h => h) (by kernel_rfl) ?_ HS.out ?_
              rotate_left
              · intro wz hz
                obtain ⟨cy, cx, -⟩ := hz
                go_simp
                first | done | with_reducible rfl
              refine wpAnyH_ready (rs := [19]) (by kernel_rfl) (by simp) ?_
              refine AllReadyH.cons rfl (fun K hK => ?_) AllReadyH.nil
              go_simp
              refine store_row ND.out ln.out j true ?_; intro w5 n5 g5; have ND' := hide n5; have AD' := hide (row_off AD.out g5 GNE.out.symm); have FD' := hide (ints_off ND.out FD.out g5); have HS' := hide (HS.out.grown g5 B1.out B2.out G1.out); clear HS ND AD FD n5 g5 zn cn za ca; have HS := HS'; have ND := ND'; have AD := AD'; have FD := FD'; clear HS' ND' AD' FD'; have za := AD.out.free la.out j; have ca := AD.out.cell la.out j g; generalize (rowB N fun i => decide (i < j) && AB i).getD j false = old2 at ca
              refine hK.out _ _ HS.out (fun _ => ?_)
              clear hK K
              refine held_take (i := 20) (d := 78) (v := ?_) rfl rfl (by kernel_rfl) (by kernel_rfl) (by kernel_rfl) (fun _ _ _ h => h) (by kernel_rfl) ?_ HS.out ?_
              rotate_left
              · intro wz hz
                obtain ⟨cy, cx, -⟩ := hz
                go_simp
                first | done | with_reducible rfl
              refine wpAnyH_ready (rs := [21]) (by kernel_rfl) (by simp) ?_
              refine AllReadyH.cons rfl (fun K hK => ?_) AllReadyH.nil
              go_simp
              refine store_row AD.out la.out j false ?_; intro w6 n6 g6; have ND' := hide (row_off ND.out g6 GNE.out); have AD' := hide n6; have FD' := hide (ints_off AD.out FD.out g6); have HS' := hide (HS.out.grown g6 B1.out B2.out G2.out); clear HS ND AD FD n6 g6 za ca; have HS := HS'; have ND := ND'; have AD := AD'; have FD := FD'; clear HS' ND' AD' FD'
              refine hK.out _ _ HS.out (fun _ => ?_)
              clear hK K
              refine wpAnyH_done (by kernel_rfl) ?_ _
              try simp only [Act.put, List.setIfInBounds_toArray]
              obtain ⟨cy, cx, kf⟩ := HS.out
              have SN' := SN.out
              have SA' := SA.out
              have SF' := SF.out
              rw [NJ'.out] at SN'
              rw [AJ'.out] at SA'
              rw [FJ'.out] at SF'
              rw [SN'] at ND
              rw [SA'] at AD
              rw [if_neg (by decide)] at SF'
              rw [← SF'] at FD
              have KF := hide kf
              clear SN' SA' SF' kf HS
              go_wp2
              go_roundw
              case rel => exact ⟨j + 1, by omega, by go_num, ND.out, AD.out, FD.out, KF.out⟩
              case measure => simp [intOf]; omega
          | true =>
            cases y with
            | false =>
              have NJ' := hide (show NB j = false by rw [NBJ.out, AJ.out]; rfl)
              have AJ' := hide (show AB j = true by rw [ABJ.out, AJ.out]; rfl)
              have FJ' := hide (show FR j = false by rw [FRJ.out, AJ.out]; rfl)
              go_wp2_with fail
              refine wp_region_held (S := HeldM w b1 (o1 + j) false b2 (o2 + j) true) (by kernel_rfl) ?_
              change wpAnyH _ _ _ _ _ _ _ _ (World.drew _)
              generalize World.drew wr = wd at HS ND AD FD ⊢
              have zn := ND.out.free ln.out j
              have cn := ND.out.cell ln.out j g
              generalize (rowB N fun i => decide (i < j) && NB i).getD j false = old1 at cn
              have za := AD.out.free la.out j
              have ca := AD.out.cell la.out j g
              generalize (rowB N fun i => decide (i < j) && AB i).getD j false = old2 at ca
              refine held_take (i := 0) (d := 59) (v := ?_) rfl rfl (by kernel_rfl) (by kernel_rfl) (by kernel_rfl) (fun _ _ _ h => h) (by kernel_rfl) ?_ HS.out ?_
              rotate_left
              · intro wz hz
                obtain ⟨cy, cx, -⟩ := hz
                go_simp
                first | done | with_reducible rfl
              refine held_take (i := 1) (d := 60) (v := ?_) rfl rfl (by kernel_rfl) (by kernel_rfl) (by kernel_rfl) (fun _ _ _ h => h) (by kernel_rfl) ?_ HS.out ?_
              rotate_left
              · intro wz hz
                obtain ⟨cy, cx, -⟩ := hz
                go_simp
                first | done | with_reducible rfl
              refine held_take (i := 2) (d := 61) (v := ?_) rfl rfl (by kernel_rfl) (by kernel_rfl) (by kernel_rfl) (fun _ _ _ h => h) (by kernel_rfl) ?_ HS.out ?_
              rotate_left
              · intro wz hz
                obtain ⟨cy, cx, -⟩ := hz
                go_simp
                first | done | with_reducible rfl
              refine held_take (i := 3) (d := 62) (v := ?_) rfl rfl (by kernel_rfl) (by kernel_rfl) (by kernel_rfl) (fun _ _ _ h => h) (by kernel_rfl) ?_ HS.out ?_
              rotate_left
              · intro wz hz
                obtain ⟨cy, cx, -⟩ := hz
                go_simp
                first | done | with_reducible rfl
              refine held_take (i := 4) (d := 63) (v := ?_) rfl rfl (by kernel_rfl) (by kernel_rfl) (by kernel_rfl) (fun _ _ _ h => h) (by kernel_rfl) ?_ HS.out ?_
              rotate_left
              · intro wz hz
                obtain ⟨cy, cx, -⟩ := hz
                go_simp
                first | done | with_reducible rfl
              refine held_take (i := 5) (d := 64) (v := ?_) rfl rfl (by kernel_rfl) (by kernel_rfl) (by kernel_rfl) (fun _ _ _ h => h) (by kernel_rfl) ?_ HS.out ?_
              rotate_left
              · intro wz hz
                obtain ⟨cy, cx, -⟩ := hz
                go_simp
                first | done | with_reducible rfl
              refine held_take (i := 6) (d := 65) (v := ?_) rfl rfl (by kernel_rfl) (by kernel_rfl) (by kernel_rfl) (fun _ _ _ h => h) (by kernel_rfl) ?_ HS.out ?_
              rotate_left
              · intro wz hz
                obtain ⟨cy, cx, -⟩ := hz
                go_simp
                first | done | with_reducible rfl
              refine held_take (i := 7) (d := 66) (v := ?_) rfl rfl (by kernel_rfl) (by kernel_rfl) (by kernel_rfl) (fun _ _ _ h => h) (by kernel_rfl) ?_ HS.out ?_
              rotate_left
              · intro wz hz
                obtain ⟨cy, cx, -⟩ := hz
                go_simp
                first | done | with_reducible rfl
              refine held_take (i := 8) (d := 67) (v := ?_) rfl rfl (by kernel_rfl) (by kernel_rfl) (by kernel_rfl) (fun _ _ _ h => h) (by kernel_rfl) ?_ HS.out ?_
              rotate_left
              · intro wz hz
                obtain ⟨cy, cx, -⟩ := hz
                go_simp
                first | done | with_reducible rfl
              refine held_take (i := 9) (d := 68) (v := ?_) rfl rfl (by kernel_rfl) (by kernel_rfl) (by kernel_rfl) (fun _ _ _ h => h) (by kernel_rfl) ?_ HS.out ?_
              rotate_left
              · intro wz hz
                obtain ⟨cy, cx, -⟩ := hz
                go_simp
                first | done | with_reducible rfl
              refine held_take (i := 10) (d := 69) (v := ?_) rfl rfl (by kernel_rfl) (by kernel_rfl) (by kernel_rfl) (fun _ _ _ h => h) (by kernel_rfl) ?_ HS.out ?_
              rotate_left
              · intro wz hz
                obtain ⟨cy, cx, -⟩ := hz
                go_simp
                first | done | with_reducible rfl
              refine held_take (i := 11) (d := 70) (v := ?_) rfl rfl (by kernel_rfl) (by kernel_rfl) (by kernel_rfl) (fun _ _ _ h => h) (by kernel_rfl) ?_ HS.out ?_
              rotate_left
              · intro wz hz
                obtain ⟨cy, cx, -⟩ := hz
                go_simp
                first | done | with_reducible rfl
              refine held_take (i := 12) (d := 71) (v := ?_) rfl rfl (by kernel_rfl) (by kernel_rfl) (by kernel_rfl) (fun _ _ _ h => h) (by kernel_rfl) ?_ HS.out ?_
              rotate_left
              · intro wz hz
                obtain ⟨cy, cx, -⟩ := hz
                go_simp
                first | done | with_reducible rfl
              refine held_take (i := 13) (d := 72) (v := ?_) rfl rfl (by kernel_rfl) (by kernel_rfl) (by kernel_rfl) (fun _ _ _ h => h) (by kernel_rfl) ?_ HS.out ?_
              rotate_left
              · intro wz hz
                obtain ⟨cy, cx, -⟩ := hz
                go_simp
                first | done | with_reducible rfl
              refine held_take (i := 14) (d := 73) (v := ?_) rfl rfl (by kernel_rfl) (by kernel_rfl) (by kernel_rfl) (fun _ _ _ h => h) (by kernel_rfl) ?_ HS.out ?_
              rotate_left
              · intro wz hz
                obtain ⟨cy, cx, -⟩ := hz
                go_simp
                first | done | with_reducible rfl
              refine held_take (i := 15) (d := 74) (v := ?_) rfl rfl (by kernel_rfl) (by kernel_rfl) (by kernel_rfl) (fun _ _ _ h => h) (by kernel_rfl) ?_ HS.out ?_
              rotate_left
              · intro wz hz
                obtain ⟨cy, cx, -⟩ := hz
                go_simp
                first | done | with_reducible rfl
              refine held_off (i := 16) (d := 75) rfl rfl (by kernel_rfl) (by kernel_rfl) (by kernel_rfl) (fun _ _ _ h => h) (by kernel_rfl) HS.out ?_
              refine held_take (i := 17) (d := 76) (v := ?_) rfl rfl (by kernel_rfl) (by kernel_rfl) (by kernel_rfl) (fun _ _ _ h => h) (by kernel_rfl) ?_ HS.out ?_
              rotate_left
              · intro wz hz
                obtain ⟨cy, cx, -⟩ := hz
                go_simp
                first | done | with_reducible rfl
              refine held_take (i := 18) (d := 77) (v := ?_) rfl rfl (by kernel_rfl) (by kernel_rfl) (by kernel_rfl) (fun _ _ _ h => h) (by kernel_rfl) ?_ HS.out ?_
              rotate_left
              · intro wz hz
                obtain ⟨cy, cx, -⟩ := hz
                go_simp
                first | done | with_reducible rfl
              refine wpAnyH_ready (rs := [19]) (by kernel_rfl) (by simp) ?_
              refine AllReadyH.cons rfl (fun K hK => ?_) AllReadyH.nil
              go_simp
              refine store_row ND.out ln.out j false ?_; intro w5 n5 g5; have ND' := hide n5; have AD' := hide (row_off AD.out g5 GNE.out.symm); have FD' := hide (ints_off ND.out FD.out g5); have HS' := hide (HS.out.grown g5 B1.out B2.out G1.out); clear HS ND AD FD n5 g5 zn cn za ca; have HS := HS'; have ND := ND'; have AD := AD'; have FD := FD'; clear HS' ND' AD' FD'; have za := AD.out.free la.out j; have ca := AD.out.cell la.out j g; generalize (rowB N fun i => decide (i < j) && AB i).getD j false = old2 at ca
              refine hK.out _ _ HS.out (fun _ => ?_)
              clear hK K
              refine held_take (i := 20) (d := 78) (v := ?_) rfl rfl (by kernel_rfl) (by kernel_rfl) (by kernel_rfl) (fun _ _ _ h => h) (by kernel_rfl) ?_ HS.out ?_
              rotate_left
              · intro wz hz
                obtain ⟨cy, cx, -⟩ := hz
                go_simp
                first | done | with_reducible rfl
              refine wpAnyH_ready (rs := [21]) (by kernel_rfl) (by simp) ?_
              refine AllReadyH.cons rfl (fun K hK => ?_) AllReadyH.nil
              go_simp
              refine store_row AD.out la.out j true ?_; intro w6 n6 g6; have ND' := hide (row_off ND.out g6 GNE.out); have AD' := hide n6; have FD' := hide (ints_off AD.out FD.out g6); have HS' := hide (HS.out.grown g6 B1.out B2.out G2.out); clear HS ND AD FD n6 g6 za ca; have HS := HS'; have ND := ND'; have AD := AD'; have FD := FD'; clear HS' ND' AD' FD'
              refine hK.out _ _ HS.out (fun _ => ?_)
              clear hK K
              refine wpAnyH_done (by kernel_rfl) ?_ _
              try simp only [Act.put, List.setIfInBounds_toArray]
              obtain ⟨cy, cx, kf⟩ := HS.out
              have SN' := SN.out
              have SA' := SA.out
              have SF' := SF.out
              rw [NJ'.out] at SN'
              rw [AJ'.out] at SA'
              rw [FJ'.out] at SF'
              rw [SN'] at ND
              rw [SA'] at AD
              rw [if_neg (by decide)] at SF'
              rw [← SF'] at FD
              have KF := hide kf
              clear SN' SA' SF' kf HS
              go_wp2
              go_roundw
              case rel => exact ⟨j + 1, by omega, by go_num, ND.out, AD.out, FD.out, KF.out⟩
              case measure => simp [intOf]; omega
            | true =>
              have NJ' := hide (show NB j = true by rw [NBJ.out, AJ.out]; rfl)
              have AJ' := hide (show AB j = true by rw [ABJ.out, AJ.out]; rfl)
              have FJ' := hide (show FR j = false by rw [FRJ.out, AJ.out]; rfl)
              go_wp2_with fail
              refine wp_region_held (S := HeldM w b1 (o1 + j) true b2 (o2 + j) true) (by kernel_rfl) ?_
              change wpAnyH _ _ _ _ _ _ _ _ (World.drew _)
              generalize World.drew wr = wd at HS ND AD FD ⊢
              have zn := ND.out.free ln.out j
              have cn := ND.out.cell ln.out j g
              generalize (rowB N fun i => decide (i < j) && NB i).getD j false = old1 at cn
              have za := AD.out.free la.out j
              have ca := AD.out.cell la.out j g
              generalize (rowB N fun i => decide (i < j) && AB i).getD j false = old2 at ca
              refine held_take (i := 0) (d := 59) (v := ?_) rfl rfl (by kernel_rfl) (by kernel_rfl) (by kernel_rfl) (fun _ _ _ h => h) (by kernel_rfl) ?_ HS.out ?_
              rotate_left
              · intro wz hz
                obtain ⟨cy, cx, -⟩ := hz
                go_simp
                first | done | with_reducible rfl
              refine held_take (i := 1) (d := 60) (v := ?_) rfl rfl (by kernel_rfl) (by kernel_rfl) (by kernel_rfl) (fun _ _ _ h => h) (by kernel_rfl) ?_ HS.out ?_
              rotate_left
              · intro wz hz
                obtain ⟨cy, cx, -⟩ := hz
                go_simp
                first | done | with_reducible rfl
              refine held_take (i := 2) (d := 61) (v := ?_) rfl rfl (by kernel_rfl) (by kernel_rfl) (by kernel_rfl) (fun _ _ _ h => h) (by kernel_rfl) ?_ HS.out ?_
              rotate_left
              · intro wz hz
                obtain ⟨cy, cx, -⟩ := hz
                go_simp
                first | done | with_reducible rfl
              refine held_take (i := 3) (d := 62) (v := ?_) rfl rfl (by kernel_rfl) (by kernel_rfl) (by kernel_rfl) (fun _ _ _ h => h) (by kernel_rfl) ?_ HS.out ?_
              rotate_left
              · intro wz hz
                obtain ⟨cy, cx, -⟩ := hz
                go_simp
                first | done | with_reducible rfl
              refine held_take (i := 4) (d := 63) (v := ?_) rfl rfl (by kernel_rfl) (by kernel_rfl) (by kernel_rfl) (fun _ _ _ h => h) (by kernel_rfl) ?_ HS.out ?_
              rotate_left
              · intro wz hz
                obtain ⟨cy, cx, -⟩ := hz
                go_simp
                first | done | with_reducible rfl
              refine held_take (i := 5) (d := 64) (v := ?_) rfl rfl (by kernel_rfl) (by kernel_rfl) (by kernel_rfl) (fun _ _ _ h => h) (by kernel_rfl) ?_ HS.out ?_
              rotate_left
              · intro wz hz
                obtain ⟨cy, cx, -⟩ := hz
                go_simp
                first | done | with_reducible rfl
              refine held_take (i := 6) (d := 65) (v := ?_) rfl rfl (by kernel_rfl) (by kernel_rfl) (by kernel_rfl) (fun _ _ _ h => h) (by kernel_rfl) ?_ HS.out ?_
              rotate_left
              · intro wz hz
                obtain ⟨cy, cx, -⟩ := hz
                go_simp
                first | done | with_reducible rfl
              refine held_take (i := 7) (d := 66) (v := ?_) rfl rfl (by kernel_rfl) (by kernel_rfl) (by kernel_rfl) (fun _ _ _ h => h) (by kernel_rfl) ?_ HS.out ?_
              rotate_left
              · intro wz hz
                obtain ⟨cy, cx, -⟩ := hz
                go_simp
                first | done | with_reducible rfl
              refine held_take (i := 8) (d := 67) (v := ?_) rfl rfl (by kernel_rfl) (by kernel_rfl) (by kernel_rfl) (fun _ _ _ h => h) (by kernel_rfl) ?_ HS.out ?_
              rotate_left
              · intro wz hz
                obtain ⟨cy, cx, -⟩ := hz
                go_simp
                first | done | with_reducible rfl
              refine held_off (i := 9) (d := 68) rfl rfl (by kernel_rfl) (by kernel_rfl) (by kernel_rfl) (fun _ _ _ h => h) (by kernel_rfl) HS.out ?_
              refine held_take (i := 10) (d := 69) (v := ?_) rfl rfl (by kernel_rfl) (by kernel_rfl) (by kernel_rfl) (fun _ _ _ h => h) (by kernel_rfl) ?_ HS.out ?_
              rotate_left
              · intro wz hz
                obtain ⟨cy, cx, -⟩ := hz
                go_simp
                first | done | with_reducible rfl
              refine held_take (i := 11) (d := 70) (v := ?_) rfl rfl (by kernel_rfl) (by kernel_rfl) (by kernel_rfl) (fun _ _ _ h => h) (by kernel_rfl) ?_ HS.out ?_
              rotate_left
              · intro wz hz
                obtain ⟨cy, cx, -⟩ := hz
                go_simp
                first | done | with_reducible rfl
              refine held_take (i := 12) (d := 71) (v := ?_) rfl rfl (by kernel_rfl) (by kernel_rfl) (by kernel_rfl) (fun _ _ _ h => h) (by kernel_rfl) ?_ HS.out ?_
              rotate_left
              · intro wz hz
                obtain ⟨cy, cx, -⟩ := hz
                go_simp
                first | done | with_reducible rfl
              refine held_take (i := 13) (d := 72) (v := ?_) rfl rfl (by kernel_rfl) (by kernel_rfl) (by kernel_rfl) (fun _ _ _ h => h) (by kernel_rfl) ?_ HS.out ?_
              rotate_left
              · intro wz hz
                obtain ⟨cy, cx, -⟩ := hz
                go_simp
                first | done | with_reducible rfl
              refine held_take (i := 14) (d := 73) (v := ?_) rfl rfl (by kernel_rfl) (by kernel_rfl) (by kernel_rfl) (fun _ _ _ h => h) (by kernel_rfl) ?_ HS.out ?_
              rotate_left
              · intro wz hz
                obtain ⟨cy, cx, -⟩ := hz
                go_simp
                first | done | with_reducible rfl
              refine held_take (i := 15) (d := 74) (v := ?_) rfl rfl (by kernel_rfl) (by kernel_rfl) (by kernel_rfl) (fun _ _ _ h => h) (by kernel_rfl) ?_ HS.out ?_
              rotate_left
              · intro wz hz
                obtain ⟨cy, cx, -⟩ := hz
                go_simp
                first | done | with_reducible rfl
              refine held_off (i := 16) (d := 75) rfl rfl (by kernel_rfl) (by kernel_rfl) (by kernel_rfl) (fun _ _ _ h => h) (by kernel_rfl) HS.out ?_
              refine held_take (i := 17) (d := 76) (v := ?_) rfl rfl (by kernel_rfl) (by kernel_rfl) (by kernel_rfl) (fun _ _ _ h => h) (by kernel_rfl) ?_ HS.out ?_
              rotate_left
              · intro wz hz
                obtain ⟨cy, cx, -⟩ := hz
                go_simp
                first | done | with_reducible rfl
              refine held_take (i := 18) (d := 77) (v := ?_) rfl rfl (by kernel_rfl) (by kernel_rfl) (by kernel_rfl) (fun _ _ _ h => h) (by kernel_rfl) ?_ HS.out ?_
              rotate_left
              · intro wz hz
                obtain ⟨cy, cx, -⟩ := hz
                go_simp
                first | done | with_reducible rfl
              refine wpAnyH_ready (rs := [19]) (by kernel_rfl) (by simp) ?_
              refine AllReadyH.cons rfl (fun K hK => ?_) AllReadyH.nil
              go_simp
              refine store_row ND.out ln.out j true ?_; intro w5 n5 g5; have ND' := hide n5; have AD' := hide (row_off AD.out g5 GNE.out.symm); have FD' := hide (ints_off ND.out FD.out g5); have HS' := hide (HS.out.grown g5 B1.out B2.out G1.out); clear HS ND AD FD n5 g5 zn cn za ca; have HS := HS'; have ND := ND'; have AD := AD'; have FD := FD'; clear HS' ND' AD' FD'; have za := AD.out.free la.out j; have ca := AD.out.cell la.out j g; generalize (rowB N fun i => decide (i < j) && AB i).getD j false = old2 at ca
              refine hK.out _ _ HS.out (fun _ => ?_)
              clear hK K
              refine held_take (i := 20) (d := 78) (v := ?_) rfl rfl (by kernel_rfl) (by kernel_rfl) (by kernel_rfl) (fun _ _ _ h => h) (by kernel_rfl) ?_ HS.out ?_
              rotate_left
              · intro wz hz
                obtain ⟨cy, cx, -⟩ := hz
                go_simp
                first | done | with_reducible rfl
              refine wpAnyH_ready (rs := [21]) (by kernel_rfl) (by simp) ?_
              refine AllReadyH.cons rfl (fun K hK => ?_) AllReadyH.nil
              go_simp
              refine store_row AD.out la.out j true ?_; intro w6 n6 g6; have ND' := hide (row_off ND.out g6 GNE.out); have AD' := hide n6; have FD' := hide (ints_off AD.out FD.out g6); have HS' := hide (HS.out.grown g6 B1.out B2.out G2.out); clear HS ND AD FD n6 g6 za ca; have HS := HS'; have ND := ND'; have AD := AD'; have FD := FD'; clear HS' ND' AD' FD'
              refine hK.out _ _ HS.out (fun _ => ?_)
              clear hK K
              refine wpAnyH_done (by kernel_rfl) ?_ _
              try simp only [Act.put, List.setIfInBounds_toArray]
              obtain ⟨cy, cx, kf⟩ := HS.out
              have SN' := SN.out
              have SA' := SA.out
              have SF' := SF.out
              rw [NJ'.out] at SN'
              rw [AJ'.out] at SA'
              rw [FJ'.out] at SF'
              rw [SN'] at ND
              rw [SA'] at AD
              rw [if_neg (by decide)] at SF'
              rw [← SF'] at FD
              have KF := hide kf
              clear SN' SA' SF' kf HS
              go_wp2
              go_roundw
              case rel => exact ⟨j + 1, by omega, by go_num, ND.out, AD.out, FD.out, KF.out⟩
              case measure => simp [intOf]; omega
      · have h1i : ¬ ((f : Int) ≤ (j : Int)) := by omega
        rw [decide_eq_false h1, Bool.false_and] at AJ0
        have AJ := hide AJ0
        clear AJ0
        cases x with
        | false =>
          cases y with
          | false =>
            have NJ' := hide (show NB j = false by rw [NBJ.out, AJ.out]; rfl)
            have AJ' := hide (show AB j = false by rw [ABJ.out, AJ.out]; rfl)
            have FJ' := hide (show FR j = false by rw [FRJ.out, AJ.out]; rfl)
            go_wp2_with fail
            refine wp_region_held (S := HeldM w b1 (o1 + j) false b2 (o2 + j) false) (by kernel_rfl) ?_
            change wpAnyH _ _ _ _ _ _ _ _ (World.drew _)
            generalize World.drew wr = wd at HS ND AD FD ⊢
            have zn := ND.out.free ln.out j
            have cn := ND.out.cell ln.out j g
            generalize (rowB N fun i => decide (i < j) && NB i).getD j false = old1 at cn
            have za := AD.out.free la.out j
            have ca := AD.out.cell la.out j g
            generalize (rowB N fun i => decide (i < j) && AB i).getD j false = old2 at ca
            refine held_take (i := 0) (d := 59) (v := ?_) rfl rfl (by kernel_rfl) (by kernel_rfl) (by kernel_rfl) (fun _ _ _ h => h) (by kernel_rfl) ?_ HS.out ?_
            rotate_left
            · intro wz hz
              obtain ⟨cy, cx, -⟩ := hz
              go_simp
              first | done | with_reducible rfl
            refine held_take (i := 1) (d := 60) (v := ?_) rfl rfl (by kernel_rfl) (by kernel_rfl) (by kernel_rfl) (fun _ _ _ h => h) (by kernel_rfl) ?_ HS.out ?_
            rotate_left
            · intro wz hz
              obtain ⟨cy, cx, -⟩ := hz
              go_simp
              first | done | with_reducible rfl
            refine held_take (i := 2) (d := 61) (v := ?_) rfl rfl (by kernel_rfl) (by kernel_rfl) (by kernel_rfl) (fun _ _ _ h => h) (by kernel_rfl) ?_ HS.out ?_
            rotate_left
            · intro wz hz
              obtain ⟨cy, cx, -⟩ := hz
              go_simp
              first | done | with_reducible rfl
            refine held_take (i := 3) (d := 62) (v := ?_) rfl rfl (by kernel_rfl) (by kernel_rfl) (by kernel_rfl) (fun _ _ _ h => h) (by kernel_rfl) ?_ HS.out ?_
            rotate_left
            · intro wz hz
              obtain ⟨cy, cx, -⟩ := hz
              go_simp
              first | done | with_reducible rfl
            refine held_take (i := 4) (d := 63) (v := ?_) rfl rfl (by kernel_rfl) (by kernel_rfl) (by kernel_rfl) (fun _ _ _ h => h) (by kernel_rfl) ?_ HS.out ?_
            rotate_left
            · intro wz hz
              obtain ⟨cy, cx, -⟩ := hz
              go_simp
              first | done | with_reducible rfl
            refine held_take (i := 5) (d := 64) (v := ?_) rfl rfl (by kernel_rfl) (by kernel_rfl) (by kernel_rfl) (fun _ _ _ h => h) (by kernel_rfl) ?_ HS.out ?_
            rotate_left
            · intro wz hz
              obtain ⟨cy, cx, -⟩ := hz
              go_simp
              first | done | with_reducible rfl
            refine held_take (i := 6) (d := 65) (v := ?_) rfl rfl (by kernel_rfl) (by kernel_rfl) (by kernel_rfl) (fun _ _ _ h => h) (by kernel_rfl) ?_ HS.out ?_
            rotate_left
            · intro wz hz
              obtain ⟨cy, cx, -⟩ := hz
              go_simp
              first | done | with_reducible rfl
            refine held_take (i := 7) (d := 66) (v := ?_) rfl rfl (by kernel_rfl) (by kernel_rfl) (by kernel_rfl) (fun _ _ _ h => h) (by kernel_rfl) ?_ HS.out ?_
            rotate_left
            · intro wz hz
              obtain ⟨cy, cx, -⟩ := hz
              go_simp
              first | done | with_reducible rfl
            refine held_take (i := 8) (d := 67) (v := ?_) rfl rfl (by kernel_rfl) (by kernel_rfl) (by kernel_rfl) (fun _ _ _ h => h) (by kernel_rfl) ?_ HS.out ?_
            rotate_left
            · intro wz hz
              obtain ⟨cy, cx, -⟩ := hz
              go_simp
              first | done | with_reducible rfl
            refine held_take (i := 9) (d := 68) (v := ?_) rfl rfl (by kernel_rfl) (by kernel_rfl) (by kernel_rfl) (fun _ _ _ h => h) (by kernel_rfl) ?_ HS.out ?_
            rotate_left
            · intro wz hz
              obtain ⟨cy, cx, -⟩ := hz
              go_simp
              first | done | with_reducible rfl
            refine held_take (i := 10) (d := 69) (v := ?_) rfl rfl (by kernel_rfl) (by kernel_rfl) (by kernel_rfl) (fun _ _ _ h => h) (by kernel_rfl) ?_ HS.out ?_
            rotate_left
            · intro wz hz
              obtain ⟨cy, cx, -⟩ := hz
              go_simp
              first | done | with_reducible rfl
            refine held_take (i := 11) (d := 70) (v := ?_) rfl rfl (by kernel_rfl) (by kernel_rfl) (by kernel_rfl) (fun _ _ _ h => h) (by kernel_rfl) ?_ HS.out ?_
            rotate_left
            · intro wz hz
              obtain ⟨cy, cx, -⟩ := hz
              go_simp
              first | done | with_reducible rfl
            refine held_take (i := 12) (d := 71) (v := ?_) rfl rfl (by kernel_rfl) (by kernel_rfl) (by kernel_rfl) (fun _ _ _ h => h) (by kernel_rfl) ?_ HS.out ?_
            rotate_left
            · intro wz hz
              obtain ⟨cy, cx, -⟩ := hz
              go_simp
              first | done | with_reducible rfl
            refine held_take (i := 13) (d := 72) (v := ?_) rfl rfl (by kernel_rfl) (by kernel_rfl) (by kernel_rfl) (fun _ _ _ h => h) (by kernel_rfl) ?_ HS.out ?_
            rotate_left
            · intro wz hz
              obtain ⟨cy, cx, -⟩ := hz
              go_simp
              first | done | with_reducible rfl
            refine held_take (i := 14) (d := 73) (v := ?_) rfl rfl (by kernel_rfl) (by kernel_rfl) (by kernel_rfl) (fun _ _ _ h => h) (by kernel_rfl) ?_ HS.out ?_
            rotate_left
            · intro wz hz
              obtain ⟨cy, cx, -⟩ := hz
              go_simp
              first | done | with_reducible rfl
            refine held_take (i := 15) (d := 74) (v := ?_) rfl rfl (by kernel_rfl) (by kernel_rfl) (by kernel_rfl) (fun _ _ _ h => h) (by kernel_rfl) ?_ HS.out ?_
            rotate_left
            · intro wz hz
              obtain ⟨cy, cx, -⟩ := hz
              go_simp
              first | done | with_reducible rfl
            refine held_take (i := 16) (d := 75) (v := ?_) rfl rfl (by kernel_rfl) (by kernel_rfl) (by kernel_rfl) (fun _ _ _ h => h) (by kernel_rfl) ?_ HS.out ?_
            rotate_left
            · intro wz hz
              obtain ⟨cy, cx, -⟩ := hz
              go_simp
              first | done | with_reducible rfl
            refine held_take (i := 17) (d := 76) (v := ?_) rfl rfl (by kernel_rfl) (by kernel_rfl) (by kernel_rfl) (fun _ _ _ h => h) (by kernel_rfl) ?_ HS.out ?_
            rotate_left
            · intro wz hz
              obtain ⟨cy, cx, -⟩ := hz
              go_simp
              first | done | with_reducible rfl
            refine held_take (i := 18) (d := 77) (v := ?_) rfl rfl (by kernel_rfl) (by kernel_rfl) (by kernel_rfl) (fun _ _ _ h => h) (by kernel_rfl) ?_ HS.out ?_
            rotate_left
            · intro wz hz
              obtain ⟨cy, cx, -⟩ := hz
              go_simp
              first | done | with_reducible rfl
            refine wpAnyH_ready (rs := [19]) (by kernel_rfl) (by simp) ?_
            refine AllReadyH.cons rfl (fun K hK => ?_) AllReadyH.nil
            go_simp
            refine store_row ND.out ln.out j false ?_; intro w5 n5 g5; have ND' := hide n5; have AD' := hide (row_off AD.out g5 GNE.out.symm); have FD' := hide (ints_off ND.out FD.out g5); have HS' := hide (HS.out.grown g5 B1.out B2.out G1.out); clear HS ND AD FD n5 g5 zn cn za ca; have HS := HS'; have ND := ND'; have AD := AD'; have FD := FD'; clear HS' ND' AD' FD'; have za := AD.out.free la.out j; have ca := AD.out.cell la.out j g; generalize (rowB N fun i => decide (i < j) && AB i).getD j false = old2 at ca
            refine hK.out _ _ HS.out (fun _ => ?_)
            clear hK K
            refine held_take (i := 20) (d := 78) (v := ?_) rfl rfl (by kernel_rfl) (by kernel_rfl) (by kernel_rfl) (fun _ _ _ h => h) (by kernel_rfl) ?_ HS.out ?_
            rotate_left
            · intro wz hz
              obtain ⟨cy, cx, -⟩ := hz
              go_simp
              first | done | with_reducible rfl
            refine wpAnyH_ready (rs := [21]) (by kernel_rfl) (by simp) ?_
            refine AllReadyH.cons rfl (fun K hK => ?_) AllReadyH.nil
            go_simp
            refine store_row AD.out la.out j false ?_; intro w6 n6 g6; have ND' := hide (row_off ND.out g6 GNE.out); have AD' := hide n6; have FD' := hide (ints_off AD.out FD.out g6); have HS' := hide (HS.out.grown g6 B1.out B2.out G2.out); clear HS ND AD FD n6 g6 za ca; have HS := HS'; have ND := ND'; have AD := AD'; have FD := FD'; clear HS' ND' AD' FD'
            refine hK.out _ _ HS.out (fun _ => ?_)
            clear hK K
            refine wpAnyH_done (by kernel_rfl) ?_ _
            try simp only [Act.put, List.setIfInBounds_toArray]
            obtain ⟨cy, cx, kf⟩ := HS.out
            have SN' := SN.out
            have SA' := SA.out
            have SF' := SF.out
            rw [NJ'.out] at SN'
            rw [AJ'.out] at SA'
            rw [FJ'.out] at SF'
            rw [SN'] at ND
            rw [SA'] at AD
            rw [if_neg (by decide)] at SF'
            rw [← SF'] at FD
            have KF := hide kf
            clear SN' SA' SF' kf HS
            go_wp2
            go_roundw
            case rel => exact ⟨j + 1, by omega, by go_num, ND.out, AD.out, FD.out, KF.out⟩
            case measure => simp [intOf]; omega
          | true =>
            have NJ' := hide (show NB j = true by rw [NBJ.out, AJ.out]; rfl)
            have AJ' := hide (show AB j = false by rw [ABJ.out, AJ.out]; rfl)
            have FJ' := hide (show FR j = false by rw [FRJ.out, AJ.out]; rfl)
            go_wp2_with fail
            refine wp_region_held (S := HeldM w b1 (o1 + j) true b2 (o2 + j) false) (by kernel_rfl) ?_
            change wpAnyH _ _ _ _ _ _ _ _ (World.drew _)
            generalize World.drew wr = wd at HS ND AD FD ⊢
            have zn := ND.out.free ln.out j
            have cn := ND.out.cell ln.out j g
            generalize (rowB N fun i => decide (i < j) && NB i).getD j false = old1 at cn
            have za := AD.out.free la.out j
            have ca := AD.out.cell la.out j g
            generalize (rowB N fun i => decide (i < j) && AB i).getD j false = old2 at ca
            refine held_take (i := 0) (d := 59) (v := ?_) rfl rfl (by kernel_rfl) (by kernel_rfl) (by kernel_rfl) (fun _ _ _ h => h) (by kernel_rfl) ?_ HS.out ?_
            rotate_left
            · intro wz hz
              obtain ⟨cy, cx, -⟩ := hz
              go_simp
              first | done | with_reducible rfl
            refine held_take (i := 1) (d := 60) (v := ?_) rfl rfl (by kernel_rfl) (by kernel_rfl) (by kernel_rfl) (fun _ _ _ h => h) (by kernel_rfl) ?_ HS.out ?_
            rotate_left
            · intro wz hz
              obtain ⟨cy, cx, -⟩ := hz
              go_simp
              first | done | with_reducible rfl
            refine held_take (i := 2) (d := 61) (v := ?_) rfl rfl (by kernel_rfl) (by kernel_rfl) (by kernel_rfl) (fun _ _ _ h => h) (by kernel_rfl) ?_ HS.out ?_
            rotate_left
            · intro wz hz
              obtain ⟨cy, cx, -⟩ := hz
              go_simp
              first | done | with_reducible rfl
            refine held_take (i := 3) (d := 62) (v := ?_) rfl rfl (by kernel_rfl) (by kernel_rfl) (by kernel_rfl) (fun _ _ _ h => h) (by kernel_rfl) ?_ HS.out ?_
            rotate_left
            · intro wz hz
              obtain ⟨cy, cx, -⟩ := hz
              go_simp
              first | done | with_reducible rfl
            refine held_take (i := 4) (d := 63) (v := ?_) rfl rfl (by kernel_rfl) (by kernel_rfl) (by kernel_rfl) (fun _ _ _ h => h) (by kernel_rfl) ?_ HS.out ?_
            rotate_left
            · intro wz hz
              obtain ⟨cy, cx, -⟩ := hz
              go_simp
              first | done | with_reducible rfl
            refine held_take (i := 5) (d := 64) (v := ?_) rfl rfl (by kernel_rfl) (by kernel_rfl) (by kernel_rfl) (fun _ _ _ h => h) (by kernel_rfl) ?_ HS.out ?_
            rotate_left
            · intro wz hz
              obtain ⟨cy, cx, -⟩ := hz
              go_simp
              first | done | with_reducible rfl
            refine held_take (i := 6) (d := 65) (v := ?_) rfl rfl (by kernel_rfl) (by kernel_rfl) (by kernel_rfl) (fun _ _ _ h => h) (by kernel_rfl) ?_ HS.out ?_
            rotate_left
            · intro wz hz
              obtain ⟨cy, cx, -⟩ := hz
              go_simp
              first | done | with_reducible rfl
            refine held_take (i := 7) (d := 66) (v := ?_) rfl rfl (by kernel_rfl) (by kernel_rfl) (by kernel_rfl) (fun _ _ _ h => h) (by kernel_rfl) ?_ HS.out ?_
            rotate_left
            · intro wz hz
              obtain ⟨cy, cx, -⟩ := hz
              go_simp
              first | done | with_reducible rfl
            refine held_take (i := 8) (d := 67) (v := ?_) rfl rfl (by kernel_rfl) (by kernel_rfl) (by kernel_rfl) (fun _ _ _ h => h) (by kernel_rfl) ?_ HS.out ?_
            rotate_left
            · intro wz hz
              obtain ⟨cy, cx, -⟩ := hz
              go_simp
              first | done | with_reducible rfl
            refine held_off (i := 9) (d := 68) rfl rfl (by kernel_rfl) (by kernel_rfl) (by kernel_rfl) (fun _ _ _ h => h) (by kernel_rfl) HS.out ?_
            refine held_take (i := 10) (d := 69) (v := ?_) rfl rfl (by kernel_rfl) (by kernel_rfl) (by kernel_rfl) (fun _ _ _ h => h) (by kernel_rfl) ?_ HS.out ?_
            rotate_left
            · intro wz hz
              obtain ⟨cy, cx, -⟩ := hz
              go_simp
              first | done | with_reducible rfl
            refine held_take (i := 11) (d := 70) (v := ?_) rfl rfl (by kernel_rfl) (by kernel_rfl) (by kernel_rfl) (fun _ _ _ h => h) (by kernel_rfl) ?_ HS.out ?_
            rotate_left
            · intro wz hz
              obtain ⟨cy, cx, -⟩ := hz
              go_simp
              first | done | with_reducible rfl
            refine held_take (i := 12) (d := 71) (v := ?_) rfl rfl (by kernel_rfl) (by kernel_rfl) (by kernel_rfl) (fun _ _ _ h => h) (by kernel_rfl) ?_ HS.out ?_
            rotate_left
            · intro wz hz
              obtain ⟨cy, cx, -⟩ := hz
              go_simp
              first | done | with_reducible rfl
            refine held_take (i := 13) (d := 72) (v := ?_) rfl rfl (by kernel_rfl) (by kernel_rfl) (by kernel_rfl) (fun _ _ _ h => h) (by kernel_rfl) ?_ HS.out ?_
            rotate_left
            · intro wz hz
              obtain ⟨cy, cx, -⟩ := hz
              go_simp
              first | done | with_reducible rfl
            refine held_take (i := 14) (d := 73) (v := ?_) rfl rfl (by kernel_rfl) (by kernel_rfl) (by kernel_rfl) (fun _ _ _ h => h) (by kernel_rfl) ?_ HS.out ?_
            rotate_left
            · intro wz hz
              obtain ⟨cy, cx, -⟩ := hz
              go_simp
              first | done | with_reducible rfl
            refine held_take (i := 15) (d := 74) (v := ?_) rfl rfl (by kernel_rfl) (by kernel_rfl) (by kernel_rfl) (fun _ _ _ h => h) (by kernel_rfl) ?_ HS.out ?_
            rotate_left
            · intro wz hz
              obtain ⟨cy, cx, -⟩ := hz
              go_simp
              first | done | with_reducible rfl
            refine held_take (i := 16) (d := 75) (v := ?_) rfl rfl (by kernel_rfl) (by kernel_rfl) (by kernel_rfl) (fun _ _ _ h => h) (by kernel_rfl) ?_ HS.out ?_
            rotate_left
            · intro wz hz
              obtain ⟨cy, cx, -⟩ := hz
              go_simp
              first | done | with_reducible rfl
            refine held_take (i := 17) (d := 76) (v := ?_) rfl rfl (by kernel_rfl) (by kernel_rfl) (by kernel_rfl) (fun _ _ _ h => h) (by kernel_rfl) ?_ HS.out ?_
            rotate_left
            · intro wz hz
              obtain ⟨cy, cx, -⟩ := hz
              go_simp
              first | done | with_reducible rfl
            refine held_take (i := 18) (d := 77) (v := ?_) rfl rfl (by kernel_rfl) (by kernel_rfl) (by kernel_rfl) (fun _ _ _ h => h) (by kernel_rfl) ?_ HS.out ?_
            rotate_left
            · intro wz hz
              obtain ⟨cy, cx, -⟩ := hz
              go_simp
              first | done | with_reducible rfl
            refine wpAnyH_ready (rs := [19]) (by kernel_rfl) (by simp) ?_
            refine AllReadyH.cons rfl (fun K hK => ?_) AllReadyH.nil
            go_simp
            refine store_row ND.out ln.out j true ?_; intro w5 n5 g5; have ND' := hide n5; have AD' := hide (row_off AD.out g5 GNE.out.symm); have FD' := hide (ints_off ND.out FD.out g5); have HS' := hide (HS.out.grown g5 B1.out B2.out G1.out); clear HS ND AD FD n5 g5 zn cn za ca; have HS := HS'; have ND := ND'; have AD := AD'; have FD := FD'; clear HS' ND' AD' FD'; have za := AD.out.free la.out j; have ca := AD.out.cell la.out j g; generalize (rowB N fun i => decide (i < j) && AB i).getD j false = old2 at ca
            refine hK.out _ _ HS.out (fun _ => ?_)
            clear hK K
            refine held_take (i := 20) (d := 78) (v := ?_) rfl rfl (by kernel_rfl) (by kernel_rfl) (by kernel_rfl) (fun _ _ _ h => h) (by kernel_rfl) ?_ HS.out ?_
            rotate_left
            · intro wz hz
              obtain ⟨cy, cx, -⟩ := hz
              go_simp
              first | done | with_reducible rfl
            refine wpAnyH_ready (rs := [21]) (by kernel_rfl) (by simp) ?_
            refine AllReadyH.cons rfl (fun K hK => ?_) AllReadyH.nil
            go_simp
            refine store_row AD.out la.out j false ?_; intro w6 n6 g6; have ND' := hide (row_off ND.out g6 GNE.out); have AD' := hide n6; have FD' := hide (ints_off AD.out FD.out g6); have HS' := hide (HS.out.grown g6 B1.out B2.out G2.out); clear HS ND AD FD n6 g6 za ca; have HS := HS'; have ND := ND'; have AD := AD'; have FD := FD'; clear HS' ND' AD' FD'
            refine hK.out _ _ HS.out (fun _ => ?_)
            clear hK K
            refine wpAnyH_done (by kernel_rfl) ?_ _
            try simp only [Act.put, List.setIfInBounds_toArray]
            obtain ⟨cy, cx, kf⟩ := HS.out
            have SN' := SN.out
            have SA' := SA.out
            have SF' := SF.out
            rw [NJ'.out] at SN'
            rw [AJ'.out] at SA'
            rw [FJ'.out] at SF'
            rw [SN'] at ND
            rw [SA'] at AD
            rw [if_neg (by decide)] at SF'
            rw [← SF'] at FD
            have KF := hide kf
            clear SN' SA' SF' kf HS
            go_wp2
            go_roundw
            case rel => exact ⟨j + 1, by omega, by go_num, ND.out, AD.out, FD.out, KF.out⟩
            case measure => simp [intOf]; omega
        | true =>
          cases y with
          | false =>
            have NJ' := hide (show NB j = false by rw [NBJ.out, AJ.out]; rfl)
            have AJ' := hide (show AB j = true by rw [ABJ.out, AJ.out]; rfl)
            have FJ' := hide (show FR j = false by rw [FRJ.out, AJ.out]; rfl)
            go_wp2_with fail
            refine wp_region_held (S := HeldM w b1 (o1 + j) false b2 (o2 + j) true) (by kernel_rfl) ?_
            change wpAnyH _ _ _ _ _ _ _ _ (World.drew _)
            generalize World.drew wr = wd at HS ND AD FD ⊢
            have zn := ND.out.free ln.out j
            have cn := ND.out.cell ln.out j g
            generalize (rowB N fun i => decide (i < j) && NB i).getD j false = old1 at cn
            have za := AD.out.free la.out j
            have ca := AD.out.cell la.out j g
            generalize (rowB N fun i => decide (i < j) && AB i).getD j false = old2 at ca
            refine held_take (i := 0) (d := 59) (v := ?_) rfl rfl (by kernel_rfl) (by kernel_rfl) (by kernel_rfl) (fun _ _ _ h => h) (by kernel_rfl) ?_ HS.out ?_
            rotate_left
            · intro wz hz
              obtain ⟨cy, cx, -⟩ := hz
              go_simp
              first | done | with_reducible rfl
            refine held_take (i := 1) (d := 60) (v := ?_) rfl rfl (by kernel_rfl) (by kernel_rfl) (by kernel_rfl) (fun _ _ _ h => h) (by kernel_rfl) ?_ HS.out ?_
            rotate_left
            · intro wz hz
              obtain ⟨cy, cx, -⟩ := hz
              go_simp
              first | done | with_reducible rfl
            refine held_take (i := 2) (d := 61) (v := ?_) rfl rfl (by kernel_rfl) (by kernel_rfl) (by kernel_rfl) (fun _ _ _ h => h) (by kernel_rfl) ?_ HS.out ?_
            rotate_left
            · intro wz hz
              obtain ⟨cy, cx, -⟩ := hz
              go_simp
              first | done | with_reducible rfl
            refine held_take (i := 3) (d := 62) (v := ?_) rfl rfl (by kernel_rfl) (by kernel_rfl) (by kernel_rfl) (fun _ _ _ h => h) (by kernel_rfl) ?_ HS.out ?_
            rotate_left
            · intro wz hz
              obtain ⟨cy, cx, -⟩ := hz
              go_simp
              first | done | with_reducible rfl
            refine held_take (i := 4) (d := 63) (v := ?_) rfl rfl (by kernel_rfl) (by kernel_rfl) (by kernel_rfl) (fun _ _ _ h => h) (by kernel_rfl) ?_ HS.out ?_
            rotate_left
            · intro wz hz
              obtain ⟨cy, cx, -⟩ := hz
              go_simp
              first | done | with_reducible rfl
            refine held_take (i := 5) (d := 64) (v := ?_) rfl rfl (by kernel_rfl) (by kernel_rfl) (by kernel_rfl) (fun _ _ _ h => h) (by kernel_rfl) ?_ HS.out ?_
            rotate_left
            · intro wz hz
              obtain ⟨cy, cx, -⟩ := hz
              go_simp
              first | done | with_reducible rfl
            refine held_take (i := 6) (d := 65) (v := ?_) rfl rfl (by kernel_rfl) (by kernel_rfl) (by kernel_rfl) (fun _ _ _ h => h) (by kernel_rfl) ?_ HS.out ?_
            rotate_left
            · intro wz hz
              obtain ⟨cy, cx, -⟩ := hz
              go_simp
              first | done | with_reducible rfl
            refine held_take (i := 7) (d := 66) (v := ?_) rfl rfl (by kernel_rfl) (by kernel_rfl) (by kernel_rfl) (fun _ _ _ h => h) (by kernel_rfl) ?_ HS.out ?_
            rotate_left
            · intro wz hz
              obtain ⟨cy, cx, -⟩ := hz
              go_simp
              first | done | with_reducible rfl
            refine held_take (i := 8) (d := 67) (v := ?_) rfl rfl (by kernel_rfl) (by kernel_rfl) (by kernel_rfl) (fun _ _ _ h => h) (by kernel_rfl) ?_ HS.out ?_
            rotate_left
            · intro wz hz
              obtain ⟨cy, cx, -⟩ := hz
              go_simp
              first | done | with_reducible rfl
            refine held_take (i := 9) (d := 68) (v := ?_) rfl rfl (by kernel_rfl) (by kernel_rfl) (by kernel_rfl) (fun _ _ _ h => h) (by kernel_rfl) ?_ HS.out ?_
            rotate_left
            · intro wz hz
              obtain ⟨cy, cx, -⟩ := hz
              go_simp
              first | done | with_reducible rfl
            refine held_take (i := 10) (d := 69) (v := ?_) rfl rfl (by kernel_rfl) (by kernel_rfl) (by kernel_rfl) (fun _ _ _ h => h) (by kernel_rfl) ?_ HS.out ?_
            rotate_left
            · intro wz hz
              obtain ⟨cy, cx, -⟩ := hz
              go_simp
              first | done | with_reducible rfl
            refine held_take (i := 11) (d := 70) (v := ?_) rfl rfl (by kernel_rfl) (by kernel_rfl) (by kernel_rfl) (fun _ _ _ h => h) (by kernel_rfl) ?_ HS.out ?_
            rotate_left
            · intro wz hz
              obtain ⟨cy, cx, -⟩ := hz
              go_simp
              first | done | with_reducible rfl
            refine held_take (i := 12) (d := 71) (v := ?_) rfl rfl (by kernel_rfl) (by kernel_rfl) (by kernel_rfl) (fun _ _ _ h => h) (by kernel_rfl) ?_ HS.out ?_
            rotate_left
            · intro wz hz
              obtain ⟨cy, cx, -⟩ := hz
              go_simp
              first | done | with_reducible rfl
            refine held_take (i := 13) (d := 72) (v := ?_) rfl rfl (by kernel_rfl) (by kernel_rfl) (by kernel_rfl) (fun _ _ _ h => h) (by kernel_rfl) ?_ HS.out ?_
            rotate_left
            · intro wz hz
              obtain ⟨cy, cx, -⟩ := hz
              go_simp
              first | done | with_reducible rfl
            refine held_take (i := 14) (d := 73) (v := ?_) rfl rfl (by kernel_rfl) (by kernel_rfl) (by kernel_rfl) (fun _ _ _ h => h) (by kernel_rfl) ?_ HS.out ?_
            rotate_left
            · intro wz hz
              obtain ⟨cy, cx, -⟩ := hz
              go_simp
              first | done | with_reducible rfl
            refine held_take (i := 15) (d := 74) (v := ?_) rfl rfl (by kernel_rfl) (by kernel_rfl) (by kernel_rfl) (fun _ _ _ h => h) (by kernel_rfl) ?_ HS.out ?_
            rotate_left
            · intro wz hz
              obtain ⟨cy, cx, -⟩ := hz
              go_simp
              first | done | with_reducible rfl
            refine held_off (i := 16) (d := 75) rfl rfl (by kernel_rfl) (by kernel_rfl) (by kernel_rfl) (fun _ _ _ h => h) (by kernel_rfl) HS.out ?_
            refine held_take (i := 17) (d := 76) (v := ?_) rfl rfl (by kernel_rfl) (by kernel_rfl) (by kernel_rfl) (fun _ _ _ h => h) (by kernel_rfl) ?_ HS.out ?_
            rotate_left
            · intro wz hz
              obtain ⟨cy, cx, -⟩ := hz
              go_simp
              first | done | with_reducible rfl
            refine held_take (i := 18) (d := 77) (v := ?_) rfl rfl (by kernel_rfl) (by kernel_rfl) (by kernel_rfl) (fun _ _ _ h => h) (by kernel_rfl) ?_ HS.out ?_
            rotate_left
            · intro wz hz
              obtain ⟨cy, cx, -⟩ := hz
              go_simp
              first | done | with_reducible rfl
            refine wpAnyH_ready (rs := [19]) (by kernel_rfl) (by simp) ?_
            refine AllReadyH.cons rfl (fun K hK => ?_) AllReadyH.nil
            go_simp
            refine store_row ND.out ln.out j false ?_; intro w5 n5 g5; have ND' := hide n5; have AD' := hide (row_off AD.out g5 GNE.out.symm); have FD' := hide (ints_off ND.out FD.out g5); have HS' := hide (HS.out.grown g5 B1.out B2.out G1.out); clear HS ND AD FD n5 g5 zn cn za ca; have HS := HS'; have ND := ND'; have AD := AD'; have FD := FD'; clear HS' ND' AD' FD'; have za := AD.out.free la.out j; have ca := AD.out.cell la.out j g; generalize (rowB N fun i => decide (i < j) && AB i).getD j false = old2 at ca
            refine hK.out _ _ HS.out (fun _ => ?_)
            clear hK K
            refine held_take (i := 20) (d := 78) (v := ?_) rfl rfl (by kernel_rfl) (by kernel_rfl) (by kernel_rfl) (fun _ _ _ h => h) (by kernel_rfl) ?_ HS.out ?_
            rotate_left
            · intro wz hz
              obtain ⟨cy, cx, -⟩ := hz
              go_simp
              first | done | with_reducible rfl
            refine wpAnyH_ready (rs := [21]) (by kernel_rfl) (by simp) ?_
            refine AllReadyH.cons rfl (fun K hK => ?_) AllReadyH.nil
            go_simp
            refine store_row AD.out la.out j true ?_; intro w6 n6 g6; have ND' := hide (row_off ND.out g6 GNE.out); have AD' := hide n6; have FD' := hide (ints_off AD.out FD.out g6); have HS' := hide (HS.out.grown g6 B1.out B2.out G2.out); clear HS ND AD FD n6 g6 za ca; have HS := HS'; have ND := ND'; have AD := AD'; have FD := FD'; clear HS' ND' AD' FD'
            refine hK.out _ _ HS.out (fun _ => ?_)
            clear hK K
            refine wpAnyH_done (by kernel_rfl) ?_ _
            try simp only [Act.put, List.setIfInBounds_toArray]
            obtain ⟨cy, cx, kf⟩ := HS.out
            have SN' := SN.out
            have SA' := SA.out
            have SF' := SF.out
            rw [NJ'.out] at SN'
            rw [AJ'.out] at SA'
            rw [FJ'.out] at SF'
            rw [SN'] at ND
            rw [SA'] at AD
            rw [if_neg (by decide)] at SF'
            rw [← SF'] at FD
            have KF := hide kf
            clear SN' SA' SF' kf HS
            go_wp2
            go_roundw
            case rel => exact ⟨j + 1, by omega, by go_num, ND.out, AD.out, FD.out, KF.out⟩
            case measure => simp [intOf]; omega
          | true =>
            have NJ' := hide (show NB j = true by rw [NBJ.out, AJ.out]; rfl)
            have AJ' := hide (show AB j = true by rw [ABJ.out, AJ.out]; rfl)
            have FJ' := hide (show FR j = false by rw [FRJ.out, AJ.out]; rfl)
            go_wp2_with fail
            refine wp_region_held (S := HeldM w b1 (o1 + j) true b2 (o2 + j) true) (by kernel_rfl) ?_
            change wpAnyH _ _ _ _ _ _ _ _ (World.drew _)
            generalize World.drew wr = wd at HS ND AD FD ⊢
            have zn := ND.out.free ln.out j
            have cn := ND.out.cell ln.out j g
            generalize (rowB N fun i => decide (i < j) && NB i).getD j false = old1 at cn
            have za := AD.out.free la.out j
            have ca := AD.out.cell la.out j g
            generalize (rowB N fun i => decide (i < j) && AB i).getD j false = old2 at ca
            refine held_take (i := 0) (d := 59) (v := ?_) rfl rfl (by kernel_rfl) (by kernel_rfl) (by kernel_rfl) (fun _ _ _ h => h) (by kernel_rfl) ?_ HS.out ?_
            rotate_left
            · intro wz hz
              obtain ⟨cy, cx, -⟩ := hz
              go_simp
              first | done | with_reducible rfl
            refine held_take (i := 1) (d := 60) (v := ?_) rfl rfl (by kernel_rfl) (by kernel_rfl) (by kernel_rfl) (fun _ _ _ h => h) (by kernel_rfl) ?_ HS.out ?_
            rotate_left
            · intro wz hz
              obtain ⟨cy, cx, -⟩ := hz
              go_simp
              first | done | with_reducible rfl
            refine held_take (i := 2) (d := 61) (v := ?_) rfl rfl (by kernel_rfl) (by kernel_rfl) (by kernel_rfl) (fun _ _ _ h => h) (by kernel_rfl) ?_ HS.out ?_
            rotate_left
            · intro wz hz
              obtain ⟨cy, cx, -⟩ := hz
              go_simp
              first | done | with_reducible rfl
            refine held_take (i := 3) (d := 62) (v := ?_) rfl rfl (by kernel_rfl) (by kernel_rfl) (by kernel_rfl) (fun _ _ _ h => h) (by kernel_rfl) ?_ HS.out ?_
            rotate_left
            · intro wz hz
              obtain ⟨cy, cx, -⟩ := hz
              go_simp
              first | done | with_reducible rfl
            refine held_take (i := 4) (d := 63) (v := ?_) rfl rfl (by kernel_rfl) (by kernel_rfl) (by kernel_rfl) (fun _ _ _ h => h) (by kernel_rfl) ?_ HS.out ?_
            rotate_left
            · intro wz hz
              obtain ⟨cy, cx, -⟩ := hz
              go_simp
              first | done | with_reducible rfl
            refine held_take (i := 5) (d := 64) (v := ?_) rfl rfl (by kernel_rfl) (by kernel_rfl) (by kernel_rfl) (fun _ _ _ h => h) (by kernel_rfl) ?_ HS.out ?_
            rotate_left
            · intro wz hz
              obtain ⟨cy, cx, -⟩ := hz
              go_simp
              first | done | with_reducible rfl
            refine held_take (i := 6) (d := 65) (v := ?_) rfl rfl (by kernel_rfl) (by kernel_rfl) (by kernel_rfl) (fun _ _ _ h => h) (by kernel_rfl) ?_ HS.out ?_
            rotate_left
            · intro wz hz
              obtain ⟨cy, cx, -⟩ := hz
              go_simp
              first | done | with_reducible rfl
            refine held_take (i := 7) (d := 66) (v := ?_) rfl rfl (by kernel_rfl) (by kernel_rfl) (by kernel_rfl) (fun _ _ _ h => h) (by kernel_rfl) ?_ HS.out ?_
            rotate_left
            · intro wz hz
              obtain ⟨cy, cx, -⟩ := hz
              go_simp
              first | done | with_reducible rfl
            refine held_take (i := 8) (d := 67) (v := ?_) rfl rfl (by kernel_rfl) (by kernel_rfl) (by kernel_rfl) (fun _ _ _ h => h) (by kernel_rfl) ?_ HS.out ?_
            rotate_left
            · intro wz hz
              obtain ⟨cy, cx, -⟩ := hz
              go_simp
              first | done | with_reducible rfl
            refine held_off (i := 9) (d := 68) rfl rfl (by kernel_rfl) (by kernel_rfl) (by kernel_rfl) (fun _ _ _ h => h) (by kernel_rfl) HS.out ?_
            refine held_take (i := 10) (d := 69) (v := ?_) rfl rfl (by kernel_rfl) (by kernel_rfl) (by kernel_rfl) (fun _ _ _ h => h) (by kernel_rfl) ?_ HS.out ?_
            rotate_left
            · intro wz hz
              obtain ⟨cy, cx, -⟩ := hz
              go_simp
              first | done | with_reducible rfl
            refine held_take (i := 11) (d := 70) (v := ?_) rfl rfl (by kernel_rfl) (by kernel_rfl) (by kernel_rfl) (fun _ _ _ h => h) (by kernel_rfl) ?_ HS.out ?_
            rotate_left
            · intro wz hz
              obtain ⟨cy, cx, -⟩ := hz
              go_simp
              first | done | with_reducible rfl
            refine held_take (i := 12) (d := 71) (v := ?_) rfl rfl (by kernel_rfl) (by kernel_rfl) (by kernel_rfl) (fun _ _ _ h => h) (by kernel_rfl) ?_ HS.out ?_
            rotate_left
            · intro wz hz
              obtain ⟨cy, cx, -⟩ := hz
              go_simp
              first | done | with_reducible rfl
            refine held_take (i := 13) (d := 72) (v := ?_) rfl rfl (by kernel_rfl) (by kernel_rfl) (by kernel_rfl) (fun _ _ _ h => h) (by kernel_rfl) ?_ HS.out ?_
            rotate_left
            · intro wz hz
              obtain ⟨cy, cx, -⟩ := hz
              go_simp
              first | done | with_reducible rfl
            refine held_take (i := 14) (d := 73) (v := ?_) rfl rfl (by kernel_rfl) (by kernel_rfl) (by kernel_rfl) (fun _ _ _ h => h) (by kernel_rfl) ?_ HS.out ?_
            rotate_left
            · intro wz hz
              obtain ⟨cy, cx, -⟩ := hz
              go_simp
              first | done | with_reducible rfl
            refine held_take (i := 15) (d := 74) (v := ?_) rfl rfl (by kernel_rfl) (by kernel_rfl) (by kernel_rfl) (fun _ _ _ h => h) (by kernel_rfl) ?_ HS.out ?_
            rotate_left
            · intro wz hz
              obtain ⟨cy, cx, -⟩ := hz
              go_simp
              first | done | with_reducible rfl
            refine held_off (i := 16) (d := 75) rfl rfl (by kernel_rfl) (by kernel_rfl) (by kernel_rfl) (fun _ _ _ h => h) (by kernel_rfl) HS.out ?_
            refine held_take (i := 17) (d := 76) (v := ?_) rfl rfl (by kernel_rfl) (by kernel_rfl) (by kernel_rfl) (fun _ _ _ h => h) (by kernel_rfl) ?_ HS.out ?_
            rotate_left
            · intro wz hz
              obtain ⟨cy, cx, -⟩ := hz
              go_simp
              first | done | with_reducible rfl
            refine held_take (i := 18) (d := 77) (v := ?_) rfl rfl (by kernel_rfl) (by kernel_rfl) (by kernel_rfl) (fun _ _ _ h => h) (by kernel_rfl) ?_ HS.out ?_
            rotate_left
            · intro wz hz
              obtain ⟨cy, cx, -⟩ := hz
              go_simp
              first | done | with_reducible rfl
            refine wpAnyH_ready (rs := [19]) (by kernel_rfl) (by simp) ?_
            refine AllReadyH.cons rfl (fun K hK => ?_) AllReadyH.nil
            go_simp
            refine store_row ND.out ln.out j true ?_; intro w5 n5 g5; have ND' := hide n5; have AD' := hide (row_off AD.out g5 GNE.out.symm); have FD' := hide (ints_off ND.out FD.out g5); have HS' := hide (HS.out.grown g5 B1.out B2.out G1.out); clear HS ND AD FD n5 g5 zn cn za ca; have HS := HS'; have ND := ND'; have AD := AD'; have FD := FD'; clear HS' ND' AD' FD'; have za := AD.out.free la.out j; have ca := AD.out.cell la.out j g; generalize (rowB N fun i => decide (i < j) && AB i).getD j false = old2 at ca
            refine hK.out _ _ HS.out (fun _ => ?_)
            clear hK K
            refine held_take (i := 20) (d := 78) (v := ?_) rfl rfl (by kernel_rfl) (by kernel_rfl) (by kernel_rfl) (fun _ _ _ h => h) (by kernel_rfl) ?_ HS.out ?_
            rotate_left
            · intro wz hz
              obtain ⟨cy, cx, -⟩ := hz
              go_simp
              first | done | with_reducible rfl
            refine wpAnyH_ready (rs := [21]) (by kernel_rfl) (by simp) ?_
            refine AllReadyH.cons rfl (fun K hK => ?_) AllReadyH.nil
            go_simp
            refine store_row AD.out la.out j true ?_; intro w6 n6 g6; have ND' := hide (row_off ND.out g6 GNE.out); have AD' := hide n6; have FD' := hide (ints_off AD.out FD.out g6); have HS' := hide (HS.out.grown g6 B1.out B2.out G2.out); clear HS ND AD FD n6 g6 za ca; have HS := HS'; have ND := ND'; have AD := AD'; have FD := FD'; clear HS' ND' AD' FD'
            refine hK.out _ _ HS.out (fun _ => ?_)
            clear hK K
            refine wpAnyH_done (by kernel_rfl) ?_ _
            try simp only [Act.put, List.setIfInBounds_toArray]
            obtain ⟨cy, cx, kf⟩ := HS.out
            have SN' := SN.out
            have SA' := SA.out
            have SF' := SF.out
            rw [NJ'.out] at SN'
            rw [AJ'.out] at SA'
            rw [FJ'.out] at SF'
            rw [SN'] at ND
            rw [SA'] at AD
            rw [if_neg (by decide)] at SF'
            rw [← SF'] at FD
            have KF := hide kf
            clear SN' SA' SF' kf HS
            go_wp2
            go_roundw
            case rel => exact ⟨j + 1, by omega, by go_num, ND.out, AD.out, FD.out, KF.out⟩
            case measure => simp [intOf]; omega
    · obtain rfl : N = j := by omega
      have XN' := row_end (n := N) NB
      have XA' := row_end (n := N) AB
      rw [XN'] at hn'
      rw [XA'] at ha'
      rw [RR.out] at hf'
      obtain ⟨fa, fc, hfv⟩ := hf'.shape
      rw [HLR.out] at hfv
      subst hfv
      have ND := hide hn'
      have AD := hide ha'
      have FD := hide hf'
      have K := hide hk'
      have C1 := hide (rcnt_any _ _ cm CN2.out wr ND.out.at (by rw [rowB_length]; have := NL.out; omega))
      have C2 := hide (rcnt_any _ _ co CA2.out wr AD.out.at (by rw [rowB_length]; have := NL.out; omega))
      have q0 : (0 : Int) ≤ (cm : Int) := by omega
      have q1 : (cm : Int) ≤ 65536 := by have := CBM.out; have := HM.out; have := NL.out; omega
      have q2 : (0 : Int) ≤ (co : Int) := by omega
      have q3 : (co : Int) ≤ 65536 := by have := CBO.out; have := HN.out; have := NL.out; omega
      clear hn' ha' hf' hk' XN' XA' NBB ABB FRB AMB CN2 CA2 A1 A2 O1 O2 KC RR
      go_wp2_with fail
      refine C1.out.mono ?_
      rintro e w5 ⟨rfl, rfl⟩
      by_cases c1' : most < (cm : Int)
      · go_wp2
        go_ret3
        exact .inl ⟨c1', rfl, K.out⟩
      · go_wp2_with fail
        refine C2.out.mono ?_
        rintro e w6 ⟨rfl, rfl⟩
        have HC := hide (show (cm : Int) ≤ most by omega)
        by_cases c2' : most < (co : Int)
        · have XE := hide (XY.out (by omega))
          clear XY XN
          go_wp2
          go_loopw [18] (fun iv wr => ∃ k : Nat, k ≤ N ∧ iv = .int .i64 (k : Int) ∧ OwnB wr w.heap.size (.slice (some ⟨g1, 0, none⟩) N N) (rowB N NB) ∧ OwnB wr w.heap.size (.slice (some ⟨g2, 0, none⟩) N N) (rowB N (bothB AB NB k)) ∧ OwnI wr w.heap.size (.slice fa n fc) R ∧ Fresh w wr) (fun iv _ => ((N : Int) - intOf iv).toNat)
          case atStart => exact ⟨0, Nat.zero_le _, rfl, ND.out, by rw [both_start]; exact AD.out, FD.out, K.out⟩
          case round =>
            obtain ⟨k, hk, rfl, hn', ha', hf', hk'⟩ := hrel
            have k0 : (0 : Int) ≤ (k : Int) := by omega
            by_cases gk : k < N
            · have gk' : (k : Int) < (N : Int) := by omega
              have ln := (rowB_length N NB).symm
              have la := (rowB_length N (bothB AB NB k)).symm
              have z1 := hn'.cell ln k gk
              rw [rowB_get gk] at z1
              have z2 := ha'.cell la k gk
              rw [both_at AB NB k gk] at z2
              have fz := ha'.free la k
              have ST := hide (both_step (n := N) AB NB k gk)
              have PU := hide (fun b => ha'.put la k b)
              have GS := hide (fun b => grown_set wr g2 k (.bool b))
              have NO := hide (fun b => row_off hn' (grown_set wr g2 k (.bool b)) GNE.out)
              have FO := hide (fun b => ints_off ha' hf' (grown_set wr g2 k (.bool b)))
              have KO := hide (fun b => hk'.grown (grown_set wr g2 k (.bool b)) hk'.size fun i hi => by cases hi; exact G2.out)
              generalize NB k = y at *
              generalize AB k = x at *
              clear hn' ha' hf' hk' ln la
              cases x
              · go_wp2
                go_roundw
                case rel => exact ⟨k + 1, by omega, by go_num, NO.out false, by rw [← ST.out]; exact PU.out false, FO.out false, KO.out false⟩
                case measure => simp [intOf]; omega
              · cases y
                · go_wp2
                  go_roundw
                  case rel => exact ⟨k + 1, by omega, by go_num, NO.out false, by rw [← ST.out]; exact PU.out false, FO.out false, KO.out false⟩
                  case measure => simp [intOf]; omega
                · go_wp2
                  go_roundw
                  case rel => exact ⟨k + 1, by omega, by go_num, NO.out true, by rw [← ST.out]; exact PU.out true, FO.out true, KO.out true⟩
                  case measure => simp [intOf]; omega
            · obtain rfl : N = k := by omega
              rw [both_end, XE.out] at ha'
              have AE := hide ha'
              have FE := hide hf'
              have KE := hide hk'
              clear hn' ha' hf' hk'
              go_wp2
              go_ret3
              exact .inr ⟨HC.out, g2, fa, fc, rfl, AE.out, FE.out, KE.out⟩
        · have XE := hide (XN.out (by omega))
          clear XY XN
          rw [XE.out] at AD
          go_wp2
          go_ret3
          exact .inr ⟨HC.out, g2, fa, fc, rfl, AD.out, FD.out, K.out⟩
end Go.Proofs.YtcnfmkhjhffebaaDoor
