/- What the document's own PutMark answers (hodmanref8), as a contract. -/
import Derived.Test.YtkcmhdedabcabaaRefMarkC
namespace Go.Proofs.Ytkcmhdedabcabaa
open Go.RowKit

/-- what has been laid of the first j -/
def outM (ps : List Pc) (s : Pc) (j : Nat) : List Pc := if aheadN ps s.1 < j then ps.take (aheadN ps s.1) ++ s :: (ps.take j).drop (nxM ps s.1) else ps.take j
theorem outM_zero (ps : List Pc) (s : Pc) : outM ps s 0 = [] := by unfold outM; rw [if_neg (by omega)]; rfl
theorem outM_length (ps : List Pc) (s : Pc) (j : Nat) : (outM ps s j).length ≤ ps.length + 1 := by
  have := ahead_nx ps s.1
  unfold outM
  split
  · simp; omega
  · simp; omega
theorem outM_below {ps : List Pc} {s : Pc} {j : Nat} (hj : j < ps.length) (h : j < aheadN ps s.1) : outM ps s (j + 1) = outM ps s j ++ [nth ps j] := by
  unfold outM; rw [if_neg (by omega), if_neg (by omega), take_nth hj]
theorem outM_hit {ps : List Pc} {s : Pc} {j : Nat} (hj : j < ps.length) (h : j = aheadN ps s.1) (hh : hitM ps s.1 = true) : outM ps s (j + 1) = outM ps s j ++ [s] := by
  have hn : nxM ps s.1 = j + 1 := by unfold nxM; rw [hh, if_pos rfl, ← h]
  unfold outM
  rw [if_pos (by omega), if_neg (by omega), ← h, hn, List.drop_eq_nil_of_le (by rw [List.length_take]; omega)]
theorem outM_at {ps : List Pc} {s : Pc} {j : Nat} (hj : j < ps.length) (h : j = aheadN ps s.1) (hh : hitM ps s.1 = false) : outM ps s (j + 1) = (outM ps s j ++ [s]) ++ [nth ps j] := by
  have hn : nxM ps s.1 = j := by unfold nxM; rw [hh, ← h]; rfl
  unfold outM
  have hl : (ps.take j).length = j := by rw [List.length_take]; omega
  rw [if_pos (by omega), if_neg (by omega), ← h, hn, take_nth hj, List.drop_append_of_le_length (by omega), List.drop_eq_nil_of_le (by omega)]
  simp
theorem outM_above {ps : List Pc} {s : Pc} {j : Nat} (hj : j < ps.length) (h : aheadN ps s.1 < j) : outM ps s (j + 1) = outM ps s j ++ [nth ps j] := by
  have hn : nxM ps s.1 ≤ j := by unfold nxM; split <;> omega
  unfold outM
  have hl : (ps.take j).length = j := by rw [List.length_take]; omega
  rw [if_pos (by omega), if_pos h, take_nth hj, List.drop_append_of_le_length (by omega)]
  simp
theorem outM_end (ps : List Pc) (s : Pc) (h : aheadN ps s.1 < ps.length) : outM ps s ps.length = putM ps s := by
  unfold outM putM; rw [if_pos h, List.take_length]
theorem outM_last (ps : List Pc) (s : Pc) (h : ¬ aheadN ps s.1 < ps.length) : outM ps s ps.length ++ [s] = putM ps s := by
  have e : aheadN ps s.1 = ps.length := by have := ahead_le ps s.1; omega
  have e2 : nxM ps s.1 = ps.length := by have := nx_le ps s.1; have := ahead_nx ps s.1; omega
  unfold outM putM; rw [if_neg h, e, e2, List.take_length, List.drop_length]

set_option maxHeartbeats 1000000 in
theorem rputm_any (v : Value) (ps : List Pc) (s1 s2 : Int) (w : World) (h : SpansIn w v ps) (hr : Rise ps) (hl : ps.length ≤ 1000000) :
    Calls Try.prog 14 #[v, .agg #[.int .i64 s1, .int .i64 s2]] w fun e w' => ∃ u, e = .returned u ∧ OwnM w' w.heap.size u (putM ps (s1, s2)) ∧ Fresh w w' := by
  obtain ⟨i0, hi, hz0, hz1, hz2⟩ := infoOf infoMark
  obtain ⟨n, hn⟩ : ∃ n, n = w.heap.size := ⟨_, rfl⟩
  obtain ⟨W1, hW1⟩ : ∃ W1, W1 = w.alloc (.cells #[.int .i64 s1, .int .i64 s2] 24) := ⟨_, rfl⟩
  have FW := hide (show Fresh w W1 by subst hW1; exact fresh_box _ _ _)
  have BB : W1.heap[n]? = some (.cells #[.int .i64 s1, .int .i64 s2] 24 (0, 0)) := by subst hW1; rw [hn]; exact heap_alloc_new w _
  have Y0 : Hid (W1.cell? ⟨n, 0, none⟩ = some (.int .i64 s1)) := cell_block BB 0 _ rfl
  have Y1 : Hid (W1.cell? ⟨n, 1, none⟩ = some (.int .i64 s2)) := cell_block BB 1 _ rfl
  have H1 := hide (h.fresh FW.out)
  have HN := hide hn
  have HW := hide hW1
  have RI := hide hr
  have LE := hide hl
  obtain ⟨a, cap, rfl, _, hl2, hl3, h4, hn0, hc⟩ := h.1
  have l0 : (0 : Int) ≤ (ps.length : Int) := by omega
  have l1 : (ps.length : Int) ≤ 1000000 := by omega
  clear BB hn hW1 hr h hl2 hl3 h4 hn0 hc hl
  go_enter Try.func14, Try.ntmps14
  go_wp2
  rw [← HW.out, ← HN.out]
  go_loopw [5, 6, 7] (fun ov pv iv wr => ∃ j : Nat, j ≤ ps.length ∧ pv = .bool (decide (aheadN ps s1 < j)) ∧ iv = .int .i64 (j : Int) ∧ OwnM wr W1.heap.size ov (outM ps (s1, s2) j) ∧ Fresh W1 wr) (fun _ _ i _ => (ps.length - intOf i).toNat)
  case atStart => exact ⟨0, Nat.zero_le _, by rw [decide_eq_false (by omega)], rfl, by rw [outM_zero]; exact OwnM.nil _ _, Fresh.refl _⟩
  case round =>
    obtain ⟨j, hj, rfl, rfl, ho, hf⟩ := hrel
    have O := hide ho
    have F := hide hf
    have j0 : (0 : Int) ≤ (j : Int) := by omega
    have y0 := (hf.cell (World.block_lt_of_cell? _ _ Y0.out)).trans Y0.out
    have y1 := (hf.cell (World.block_lt_of_cell? _ _ Y1.out)).trans Y1.out
    have nl : n < wr.heap.size := World.block_lt_of_cell? _ _ y0
    have LJ := hide (outM_length ps (s1, s2) j)
    have m1 : (outM ps (s1, s2) j).length + 1 ≤ maxLen := by have := LJ.out; have := LE.out; unfold maxLen; omega
    have m2 : ((outM ps (s1, s2) j).length + 1) * 16 ≤ 140737488355328 := by have := LJ.out; have := LE.out; omega
    clear ho hf
    by_cases g : j < ps.length
    · have g' : (j : Int) < (ps.length : Int) := by omega
      rcases (H1.out.fresh F.out).cases with ⟨_, rfl⟩ | ⟨b, o, cap', e, _, _, _, _, hc⟩
      · simp at g
      cases e
      obtain ⟨c0, c1⟩ := hc j g
      rcases H1.out.cases with ⟨e2, _⟩ | ⟨b', o', cap', e2, _, _, _, _, hc2⟩
      · cases e2
      cases e2
      obtain ⟨C0, C1⟩ := hc2 j g
      have C0 := hide C0
      have C1 := hide C1
      have bl : b < wr.heap.size := World.block_lt_of_cell? _ _ c0
      have AL := hide (fun (hk : j < aheadN ps s1) => ahead_lt ps s1 j hk)
      have AA := hide (fun (hk : j = aheadN ps s1) => show s1 ≤ (nth ps j).1 by rw [hk]; exact ahead_at ps s1 (by omega))
      have AB := hide (fun (hk : aheadN ps s1 < j) => show s1 < (nth ps j).1 from nx_lt RI.out (by unfold nxM; split <;> omega) g)
      have HH := hide (fun (hk : j = aheadN ps s1) => show hitM ps s1 = decide ((nth ps j).1 = s1) by unfold hitM; rw [← hk, decide_eq_true g]; rfl)
      have OB := hide (fun hk => outM_below (s := (s1, s2)) g hk)
      have OH := hide (fun hk hh => outM_hit (s := (s1, s2)) g hk hh)
      have OA := hide (fun hk hh => outM_at (s := (s1, s2)) g hk hh)
      have OV := hide (fun hk => outM_above (s := (s1, s2)) g hk)
      generalize nth ps j = p at *
      obtain ⟨p1, p2⟩ := p
      simp only at c0 c1 AL AA AB HH C0 C1
      clear hc hc2
      rcases Nat.lt_trichotomy j (aheadN ps s1) with hk | hk | hk
      · rw [decide_eq_false (show ¬ aheadN ps s1 < j by omega)]
        have FN := hide (show decide (aheadN ps s1 < j + 1) = false from decide_eq_false (by omega))
        have OE := hide (OB.out hk)
        have lt : p1 < s1 := AL.out hk
        have ne : (p1 == s1) = false := by rw [beq_eq_false_iff_ne]; omega
        clear hk
        go_wp2_with fail
        go_quiet (fail)
        generalize hwd : World.drewN wr _ = wd
        have Kwd := hide (show Fresh wr wd by rw [← hwd]; exact Fresh.drewN _ _)
        have Owd := hide (O.out.fresh Kwd.out)
        have Fwd := hide (F.out.trans Kwd.out)
        have q0 := (Fwd.out.cell (World.block_lt_of_cell? _ _ C0.out)).trans C0.out
        have q1 := (Fwd.out.cell (World.block_lt_of_cell? _ _ C1.out)).trans C1.out
        have q2 := (Fwd.out.cell (World.block_lt_of_cell? _ _ Y0.out)).trans Y0.out
        have q3 := (Fwd.out.cell (World.block_lt_of_cell? _ _ Y1.out)).trans Y1.out
        have q0l : b < wd.heap.size := World.block_lt_of_cell? _ _ q0
        have q2l : n < wd.heap.size := World.block_lt_of_cell? _ _ q2
        have q0m : W1.heap.size ≤ (wd.alloc (.cells #[.int .i64 p1, .int .i64 p2] 24)).heap.size := by have := Fwd.out.size; simp; omega
        have q2m : W1.heap.size ≤ (wd.alloc (.cells #[.int .i64 s1, .int .i64 s2] 24)).heap.size := by have := Fwd.out.size; simp; omega
        clear hwd c0 c1 y0 y1 bl nl
        go_wp2_with fail
        go_quiet (fail)
        generalize hwd : World.drewN wd _ = we
        have Kwe := hide (show Fresh wd we by rw [← hwd]; exact Fresh.drewN _ _)
        have Owe := hide (Owd.out.fresh Kwe.out)
        have Fwe := hide (Fwd.out.trans Kwe.out)
        have r0 := (Fwe.out.cell (World.block_lt_of_cell? _ _ C0.out)).trans C0.out
        have r1 := (Fwe.out.cell (World.block_lt_of_cell? _ _ C1.out)).trans C1.out
        have r2 := (Fwe.out.cell (World.block_lt_of_cell? _ _ Y0.out)).trans Y0.out
        have r3 := (Fwe.out.cell (World.block_lt_of_cell? _ _ Y1.out)).trans Y1.out
        have r0l : b < we.heap.size := World.block_lt_of_cell? _ _ r0
        have r2l : n < we.heap.size := World.block_lt_of_cell? _ _ r2
        have r0m : W1.heap.size ≤ (we.alloc (.cells #[.int .i64 p1, .int .i64 p2] 24)).heap.size := by have := Fwe.out.size; simp; omega
        have r2m : W1.heap.size ≤ (we.alloc (.cells #[.int .i64 s1, .int .i64 s2] 24)).heap.size := by have := Fwe.out.size; simp; omega
        clear hwd q0 q1 q2 q3 q0l q2l q0m q2m
        go_wp2_with (at_builtin; refine wpList_append_own _ rfl _ _ 26 rfl W1.heap.size 24 i0 (.agg #[.int .i64 0, .int .i64 0]) 2 16 Try.underlying26 hi hz0 hz1 hz2 rfl (by decide) _ _ _ rfl (Owe.out.fresh (fresh_box _ _ _)) ⟨_, 0, none⟩ 1 1 [.int .i64 p1, .int .i64 p2] rfl rfl (mark_news _ _ _) (mark_one _ _) m1 m2 r0m ?_; intro v1 w3 hown hgrow _)
        have O2 := hide (show OwnM w3 W1.heap.size v1 (outM ps (s1, s2) (j + 1)) by rw [OE.out]; exact ownM_push hown)
        have F2 := hide (show Fresh W1 w3 from (Owe.out.fresh (fresh_box _ _ _)).grown (Nat.le_refl _) (fresh_more Fwe.out _ _) hgrow)
        clear hown hgrow
        go_roundw
        case rel => exact ⟨j + 1, by omega, by rw [FN.out], by go_num, O2.out, F2.out⟩
        case measure => simp [intOf]; omega
      · rw [decide_eq_false (show ¬ aheadN ps s1 < j by omega)]
        have FN := hide (show decide (aheadN ps s1 < j + 1) = true from decide_eq_true (by omega))
        have le : s1 ≤ p1 := AA.out hk
        have m5 : (outM ps (s1, s2) j ++ [(s1, s2)]).length + 1 ≤ maxLen := by have := LJ.out; have := LE.out; unfold maxLen; simp; omega
        have m6 : ((outM ps (s1, s2) j ++ [(s1, s2)]).length + 1) * 16 ≤ 140737488355328 := by have := LJ.out; have := LE.out; simp; omega
        cases hh : hitM ps s1 with
        | true =>
          have OE := hide (OH.out hk hh)
          have ez : p1 = s1 := by have := HH.out hk; rw [hh] at this; exact of_decide_eq_true this.symm
          have EZ := hide ez
          have eq : (p1 == s1) = true := by simp [ez]
          clear hk hh ez
          go_wp2_with fail
          go_quiet (fail)
          generalize hwd : World.drewN wr _ = wd
          have Kwd := hide (show Fresh wr wd by rw [← hwd]; exact Fresh.drewN _ _)
          have Owd := hide (O.out.fresh Kwd.out)
          have Fwd := hide (F.out.trans Kwd.out)
          have q0 := (Fwd.out.cell (World.block_lt_of_cell? _ _ C0.out)).trans C0.out
          have q1 := (Fwd.out.cell (World.block_lt_of_cell? _ _ C1.out)).trans C1.out
          have q2 := (Fwd.out.cell (World.block_lt_of_cell? _ _ Y0.out)).trans Y0.out
          have q3 := (Fwd.out.cell (World.block_lt_of_cell? _ _ Y1.out)).trans Y1.out
          have q0l : b < wd.heap.size := World.block_lt_of_cell? _ _ q0
          have q2l : n < wd.heap.size := World.block_lt_of_cell? _ _ q2
          have q0m : W1.heap.size ≤ (wd.alloc (.cells #[.int .i64 p1, .int .i64 p2] 24)).heap.size := by have := Fwd.out.size; simp; omega
          have q2m : W1.heap.size ≤ (wd.alloc (.cells #[.int .i64 s1, .int .i64 s2] 24)).heap.size := by have := Fwd.out.size; simp; omega
          clear hwd c0 c1 y0 y1 bl nl
          go_wp2_with (at_builtin; refine wpList_append_own _ rfl _ _ 26 rfl W1.heap.size 24 i0 (.agg #[.int .i64 0, .int .i64 0]) 2 16 Try.underlying26 hi hz0 hz1 hz2 rfl (by decide) _ _ _ rfl (Owd.out.fresh (fresh_box _ _ _)) ⟨_, 0, none⟩ 1 1 [.int .i64 s1, .int .i64 s2] rfl rfl (mark_news _ _ _) (mark_one _ _) m1 m2 q2m ?_; intro v1 w3 hown hgrow _)
          have OX := hide (show OwnM w3 W1.heap.size v1 (outM ps (s1, s2) (j + 1)) by rw [OE.out]; exact ownM_push hown)
          have FX := hide (show Fresh W1 w3 from (Owd.out.fresh (fresh_box _ _ _)).grown (Nat.le_refl _) (fresh_more Fwd.out _ _) hgrow)
          clear hown hgrow q0 q1 q2 q3 q0l q2l q0m q2m
          have x0 := (FX.out.cell (World.block_lt_of_cell? _ _ C0.out)).trans C0.out
          have x1 := (FX.out.cell (World.block_lt_of_cell? _ _ C1.out)).trans C1.out
          have x2 := (FX.out.cell (World.block_lt_of_cell? _ _ Y0.out)).trans Y0.out
          have x3 := (FX.out.cell (World.block_lt_of_cell? _ _ Y1.out)).trans Y1.out
          have x0l : b < w3.heap.size := World.block_lt_of_cell? _ _ x0
          have x2l : n < w3.heap.size := World.block_lt_of_cell? _ _ x2
          go_wp2_with fail
          go_quiet (fail)
          generalize hwd : World.drewN w3 _ = we
          have Kwe := hide (show Fresh w3 we by rw [← hwd]; exact Fresh.drewN _ _)
          have Owe := hide (OX.out.fresh Kwe.out)
          have Fwe := hide (FX.out.trans Kwe.out)
          have r0 := (Fwe.out.cell (World.block_lt_of_cell? _ _ C0.out)).trans C0.out
          have r1 := (Fwe.out.cell (World.block_lt_of_cell? _ _ C1.out)).trans C1.out
          have r2 := (Fwe.out.cell (World.block_lt_of_cell? _ _ Y0.out)).trans Y0.out
          have r3 := (Fwe.out.cell (World.block_lt_of_cell? _ _ Y1.out)).trans Y1.out
          have r0l : b < we.heap.size := World.block_lt_of_cell? _ _ r0
          have r2l : n < we.heap.size := World.block_lt_of_cell? _ _ r2
          have r0m : W1.heap.size ≤ (we.alloc (.cells #[.int .i64 p1, .int .i64 p2] 24)).heap.size := by have := Fwe.out.size; simp; omega
          have r2m : W1.heap.size ≤ (we.alloc (.cells #[.int .i64 s1, .int .i64 s2] 24)).heap.size := by have := Fwe.out.size; simp; omega
          clear hwd x0 x1 x2 x3 x0l x2l
          go_wp2
          go_roundw
          case rel => exact ⟨j + 1, by omega, by rw [FN.out], by go_num, Owe.out, Fwe.out⟩
          case measure => simp [intOf]; omega
        | false =>
          have OE := hide (OA.out hk hh)
          have ne : (p1 == s1) = false := by rw [beq_eq_false_iff_ne]; have := HH.out hk; rw [hh] at this; exact of_decide_eq_false this.symm
          clear hk hh
          go_wp2_with fail
          go_quiet (fail)
          generalize hwd : World.drewN wr _ = wd
          have Kwd := hide (show Fresh wr wd by rw [← hwd]; exact Fresh.drewN _ _)
          have Owd := hide (O.out.fresh Kwd.out)
          have Fwd := hide (F.out.trans Kwd.out)
          have q0 := (Fwd.out.cell (World.block_lt_of_cell? _ _ C0.out)).trans C0.out
          have q1 := (Fwd.out.cell (World.block_lt_of_cell? _ _ C1.out)).trans C1.out
          have q2 := (Fwd.out.cell (World.block_lt_of_cell? _ _ Y0.out)).trans Y0.out
          have q3 := (Fwd.out.cell (World.block_lt_of_cell? _ _ Y1.out)).trans Y1.out
          have q0l : b < wd.heap.size := World.block_lt_of_cell? _ _ q0
          have q2l : n < wd.heap.size := World.block_lt_of_cell? _ _ q2
          have q0m : W1.heap.size ≤ (wd.alloc (.cells #[.int .i64 p1, .int .i64 p2] 24)).heap.size := by have := Fwd.out.size; simp; omega
          have q2m : W1.heap.size ≤ (wd.alloc (.cells #[.int .i64 s1, .int .i64 s2] 24)).heap.size := by have := Fwd.out.size; simp; omega
          clear hwd c0 c1 y0 y1 bl nl
          go_wp2_with (at_builtin; refine wpList_append_own _ rfl _ _ 26 rfl W1.heap.size 24 i0 (.agg #[.int .i64 0, .int .i64 0]) 2 16 Try.underlying26 hi hz0 hz1 hz2 rfl (by decide) _ _ _ rfl (Owd.out.fresh (fresh_box _ _ _)) ⟨_, 0, none⟩ 1 1 [.int .i64 s1, .int .i64 s2] rfl rfl (mark_news _ _ _) (mark_one _ _) m1 m2 q2m ?_; intro v0 w3 hown hgrow _)
          have OX := hide (ownM_push hown)
          have FX := hide (show Fresh W1 w3 from (Owd.out.fresh (fresh_box _ _ _)).grown (Nat.le_refl _) (fresh_more Fwd.out _ _) hgrow)
          clear hown hgrow q0 q1 q2 q3 q0l q2l q0m q2m m1 m2
          have x0 := (FX.out.cell (World.block_lt_of_cell? _ _ C0.out)).trans C0.out
          have x1 := (FX.out.cell (World.block_lt_of_cell? _ _ C1.out)).trans C1.out
          have x2 := (FX.out.cell (World.block_lt_of_cell? _ _ Y0.out)).trans Y0.out
          have x3 := (FX.out.cell (World.block_lt_of_cell? _ _ Y1.out)).trans Y1.out
          have x0l : b < w3.heap.size := World.block_lt_of_cell? _ _ x0
          have x2l : n < w3.heap.size := World.block_lt_of_cell? _ _ x2
          go_wp2_with fail
          go_quiet (fail)
          generalize hwd : World.drewN w3 _ = we
          have Kwe := hide (show Fresh w3 we by rw [← hwd]; exact Fresh.drewN _ _)
          have Owe := hide (OX.out.fresh Kwe.out)
          have Fwe := hide (FX.out.trans Kwe.out)
          have r0 := (Fwe.out.cell (World.block_lt_of_cell? _ _ C0.out)).trans C0.out
          have r1 := (Fwe.out.cell (World.block_lt_of_cell? _ _ C1.out)).trans C1.out
          have r2 := (Fwe.out.cell (World.block_lt_of_cell? _ _ Y0.out)).trans Y0.out
          have r3 := (Fwe.out.cell (World.block_lt_of_cell? _ _ Y1.out)).trans Y1.out
          have r0l : b < we.heap.size := World.block_lt_of_cell? _ _ r0
          have r2l : n < we.heap.size := World.block_lt_of_cell? _ _ r2
          have r0m : W1.heap.size ≤ (we.alloc (.cells #[.int .i64 p1, .int .i64 p2] 24)).heap.size := by have := Fwe.out.size; simp; omega
          have r2m : W1.heap.size ≤ (we.alloc (.cells #[.int .i64 s1, .int .i64 s2] 24)).heap.size := by have := Fwe.out.size; simp; omega
          clear hwd x0 x1 x2 x3 x0l x2l
          have m1 := m5
          have m2 := m6
          go_wp2_with (at_builtin; refine wpList_append_own _ rfl _ _ 26 rfl W1.heap.size 24 i0 (.agg #[.int .i64 0, .int .i64 0]) 2 16 Try.underlying26 hi hz0 hz1 hz2 rfl (by decide) _ _ _ rfl (Owe.out.fresh (fresh_box _ _ _)) ⟨_, 0, none⟩ 1 1 [.int .i64 p1, .int .i64 p2] rfl rfl (mark_news _ _ _) (mark_one _ _) m1 m2 r0m ?_; intro v1 w3 hown hgrow _)
          have O2 := hide (show OwnM w3 W1.heap.size v1 (outM ps (s1, s2) (j + 1)) by rw [OE.out]; exact ownM_push hown)
          have F2 := hide (show Fresh W1 w3 from (Owe.out.fresh (fresh_box _ _ _)).grown (Nat.le_refl _) (fresh_more Fwe.out _ _) hgrow)
          clear hown hgrow
          go_roundw
          case rel => exact ⟨j + 1, by omega, by rw [FN.out], by go_num, O2.out, F2.out⟩
          case measure => simp [intOf]; omega
      · rw [decide_eq_true hk]
        have FN := hide (show decide (aheadN ps s1 < j + 1) = true from decide_eq_true (by omega))
        have OE := hide (OV.out hk)
        have lt : s1 < p1 := AB.out hk
        have ne : (p1 == s1) = false := by rw [beq_eq_false_iff_ne]; omega
        clear hk
        go_wp2_with fail
        go_quiet (fail)
        generalize hwd : World.drewN wr _ = wd
        have Kwd := hide (show Fresh wr wd by rw [← hwd]; exact Fresh.drewN _ _)
        have Owd := hide (O.out.fresh Kwd.out)
        have Fwd := hide (F.out.trans Kwd.out)
        have q0 := (Fwd.out.cell (World.block_lt_of_cell? _ _ C0.out)).trans C0.out
        have q1 := (Fwd.out.cell (World.block_lt_of_cell? _ _ C1.out)).trans C1.out
        have q2 := (Fwd.out.cell (World.block_lt_of_cell? _ _ Y0.out)).trans Y0.out
        have q3 := (Fwd.out.cell (World.block_lt_of_cell? _ _ Y1.out)).trans Y1.out
        have q0l : b < wd.heap.size := World.block_lt_of_cell? _ _ q0
        have q2l : n < wd.heap.size := World.block_lt_of_cell? _ _ q2
        have q0m : W1.heap.size ≤ (wd.alloc (.cells #[.int .i64 p1, .int .i64 p2] 24)).heap.size := by have := Fwd.out.size; simp; omega
        have q2m : W1.heap.size ≤ (wd.alloc (.cells #[.int .i64 s1, .int .i64 s2] 24)).heap.size := by have := Fwd.out.size; simp; omega
        clear hwd c0 c1 y0 y1 bl nl
        go_wp2_with fail
        go_quiet (fail)
        generalize hwd : World.drewN wd _ = we
        have Kwe := hide (show Fresh wd we by rw [← hwd]; exact Fresh.drewN _ _)
        have Owe := hide (Owd.out.fresh Kwe.out)
        have Fwe := hide (Fwd.out.trans Kwe.out)
        have r0 := (Fwe.out.cell (World.block_lt_of_cell? _ _ C0.out)).trans C0.out
        have r1 := (Fwe.out.cell (World.block_lt_of_cell? _ _ C1.out)).trans C1.out
        have r2 := (Fwe.out.cell (World.block_lt_of_cell? _ _ Y0.out)).trans Y0.out
        have r3 := (Fwe.out.cell (World.block_lt_of_cell? _ _ Y1.out)).trans Y1.out
        have r0l : b < we.heap.size := World.block_lt_of_cell? _ _ r0
        have r2l : n < we.heap.size := World.block_lt_of_cell? _ _ r2
        have r0m : W1.heap.size ≤ (we.alloc (.cells #[.int .i64 p1, .int .i64 p2] 24)).heap.size := by have := Fwe.out.size; simp; omega
        have r2m : W1.heap.size ≤ (we.alloc (.cells #[.int .i64 s1, .int .i64 s2] 24)).heap.size := by have := Fwe.out.size; simp; omega
        clear hwd q0 q1 q2 q3 q0l q2l q0m q2m
        go_wp2_with (at_builtin; refine wpList_append_own _ rfl _ _ 26 rfl W1.heap.size 24 i0 (.agg #[.int .i64 0, .int .i64 0]) 2 16 Try.underlying26 hi hz0 hz1 hz2 rfl (by decide) _ _ _ rfl (Owe.out.fresh (fresh_box _ _ _)) ⟨_, 0, none⟩ 1 1 [.int .i64 p1, .int .i64 p2] rfl rfl (mark_news _ _ _) (mark_one _ _) m1 m2 r0m ?_; intro v1 w3 hown hgrow _)
        have O2 := hide (show OwnM w3 W1.heap.size v1 (outM ps (s1, s2) (j + 1)) by rw [OE.out]; exact ownM_push hown)
        have F2 := hide (show Fresh W1 w3 from (Owe.out.fresh (fresh_box _ _ _)).grown (Nat.le_refl _) (fresh_more Fwe.out _ _) hgrow)
        clear hown hgrow
        go_roundw
        case rel => exact ⟨j + 1, by omega, by rw [FN.out], by go_num, O2.out, F2.out⟩
        case measure => simp [intOf]; omega
    · obtain rfl : j = ps.length := by omega
      have m3 : W1.heap.size ≤ (wr.alloc (.cells #[.int .i64 s1, .int .i64 s2] 24)).heap.size := by have := F.out.size; simp; omega
      cases hfl : decide (aheadN ps s1 < ps.length) with
      | true =>
        have OE := hide (outM_end ps (s1, s2) (of_decide_eq_true hfl))
        clear hfl
        go_wp2
        go_ret
        exact ⟨_, rfl, by rw [← OE.out]; exact O.out.mono FW.out.size, FW.out.trans F.out⟩
      | false =>
        have OE := hide (outM_last ps (s1, s2) (of_decide_eq_false hfl))
        clear hfl
        go_wp2_with (at_builtin; refine wpList_append_own _ rfl _ _ 26 rfl W1.heap.size 24 i0 (.agg #[.int .i64 0, .int .i64 0]) 2 16 Try.underlying26 hi hz0 hz1 hz2 rfl (by decide) _ _ _ rfl (O.out.fresh (fresh_box _ _ _)) ⟨_, 0, none⟩ 1 1 [.int .i64 s1, .int .i64 s2] rfl rfl (mark_news _ _ _) (mark_one _ _) m1 m2 m3 ?_; intro v1 w3 hown hgrow _)
        have O2 := hide (show OwnM w3 W1.heap.size v1 (putM ps (s1, s2)) by rw [← OE.out]; exact ownM_push hown)
        have F2 := hide (show Fresh W1 w3 from (O.out.fresh (fresh_box _ _ _)).grown (Nat.le_refl _) (fresh_more F.out _ _) hgrow)
        clear hown hgrow
        go_ret
        exact ⟨_, rfl, O2.out.mono FW.out.size, FW.out.trans F2.out⟩
end Go.Proofs.Ytkcmhdedabcabaa
