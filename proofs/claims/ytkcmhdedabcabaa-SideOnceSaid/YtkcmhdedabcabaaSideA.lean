/- What the program's side answers of marks (ahead, copied, places), as contracts. -/
import Derived.Test.YtkcmhdedabcabaaMarkMem
import Derived.Test.YtkcmhdedabcabaaMarkMath
import Derived.Test.YtkcmhdedabcabaaKeyGen
import Derived.Deep.RegionHeld3
namespace Go.Proofs.Ytkcmhdedabcabaa
open Go.RowKit Go.Maps

theorem mahead_any (v : Value) (ps : List Pc) (x : Int) (w : World) (h : SpansAt w v ps) :
    Calls Try.prog 18 #[v, .int .i64 x] w fun e w' => e = .returned (.int .i64 (aheadN ps x : Nat)) ∧ w' = w := by
  have H := hide h
  obtain ⟨a, cap, rfl, hl, hl2, hl3, h4, hn0, hc⟩ := h
  have l0 : (0 : Int) ≤ (ps.length : Int) := by omega
  have l1 : (ps.length : Int) ≤ 1048576 := by omega
  have C := hide hc
  clear hl hl2 hl3 h4 hn0 hc
  go_enter Try.func18, Try.ntmps18
  go_wp2
  go_loop [5] (fun i => ∃ (j : Nat), j ≤ ps.length ∧ i = .int .i64 (j : Int) ∧ ∀ t, t < j → (nth ps t).1 < x) (fun i => (ps.length - intOf i).toNat)
  case atStart => exact ⟨0, Nat.zero_le _, rfl, fun t ht => by omega⟩
  case round =>
    obtain ⟨j, hj, rfl, ha⟩ := hrel
    have A := hide ha
    clear ha
    by_cases g : j < ps.length
    · have g' : (j : Int) < (ps.length : Int) := by omega
      obtain ⟨b, o, rfl, c0, c1⟩ := C.out j g
      by_cases g2 : (nth ps j).1 < x
      · have A2 := hide (show ∀ t, t < j + 1 → (nth ps t).1 < x from fun t ht => by
          rcases Nat.lt_or_ge t j with h | h
          · exact A.out t h
          · rw [show t = j by omega]; exact g2)
        generalize nth ps j = p at *
        go_wp2
        go_round
        case rel => exact ⟨j + 1, by omega, by go_num, A2.out⟩
        case measure => simp [intOf]; omega
      · have N := hide (ahead_eq (a := x) hj A.out (fun _ => by omega))
        have g3 : x ≤ (nth ps j).1 := by omega
        clear g2
        generalize nth ps j = p at *
        go_wp2
        go_ret
        exact ⟨ret_int (by rw [N.out]), rfl⟩
    · obtain rfl : j = ps.length := by omega
      have N := hide (ahead_eq (a := x) hj A.out (fun h => by omega))
      go_wp2
      go_ret
      exact ⟨ret_int (by rw [N.out]), rfl⟩

theorem mcopied_any (v : Value) (ps : List Pc) (w : World) (h : SpansIn w v ps) :
    Calls Try.prog 16 #[v] w fun e w' => ∃ u, e = .returned u ∧ OwnM w' w.heap.size u ps ∧ Fresh w w' := by
  have H := hide h
  obtain ⟨i0, hi, hz0, hz1, hz2⟩ := infoOf infoMark
  rcases h.cases with ⟨rfl, rfl⟩ | ⟨b, o, cap, rfl, h1, h2, h3, h4, hc⟩
  · clear h
    go_enter Try.func16, Try.ntmps16
    go_wp2_with (at_builtin; refine wpList_append_own_none rfl _ _ 26 rfl w.heap.size 24 i0 2 Try.underlying26 hi (.slice none 0 0) 0 [] rfl (World.ownsRow_nil _ _ _ _) rfl ?_)
    go_ret
    exact ⟨_, rfl, OwnM.nil _ _, Fresh.refl _⟩
  · have NW := hide H.out.news
    have WL := hide (svals_length ps)
    have W1 := hide (svals_one ps)
    have m1 : 0 + ps.length ≤ maxLen := by unfold maxLen; omega
    have m2 : (0 + ps.length) * 16 ≤ 140737488355328 := by omega
    have FIN := hide (show ∀ v1 w1, w1.ownsRow w.heap.size 24 2 v1 (0 + ps.length) ([] ++ svals ps) → w.grownBy w1 (Value.slice none 0 0).ownBlock → OwnM w1 w.heap.size v1 ps ∧ Fresh w w1 from fun v1 w1 ho hg => by
      rw [Nat.zero_add, List.nil_append] at ho
      exact ⟨ho, (Fresh.refl w).grown hg (Nat.le_refl _) fun k hk => by cases hk⟩)
    clear h hc h4
    go_enter Try.func16, Try.ntmps16
    go_wp2_with (at_builtin; refine wpList_append_own _ rfl _ _ 26 rfl w.heap.size 24 i0 (.agg #[.int .i64 0, .int .i64 0]) 2 16 Try.underlying26 hi hz0 hz1 hz2 rfl (by decide) (.slice none 0 0) 0 [] rfl (World.ownsRow_nil _ _ _ _) ⟨b, o, none⟩ ps.length cap (svals ps) rfl WL.out NW.out W1.out m1 m2 (Nat.le_refl _) ?_; intro v1 w1 hown hgrow _)
    obtain ⟨o1, f1⟩ := FIN.out _ _ hown hgrow
    have O1 := hide o1
    have F1 := hide f1
    clear hown hgrow o1 f1
    go_ret
    exact ⟨_, rfl, O1.out, F1.out⟩

theorem begRow : (44 : TypeId) < Try.prog.types.size := of_decide_eq_true (by kernel_rfl)
theorem begWide : (match Try.prog.underlying 44 with | some (.array _ _) | some (.struct _) => true | _ => false) = true := by rw [Try.underlying44]
theorem begSize : ∃ n, Try.prog.types.size = n + 1 := ⟨Try.prog.types.size - 1, by have h : 0 < Try.prog.types.size := of_decide_eq_true (by kernel_rfl); omega⟩
theorem begKeyed : Try.prog.keyType 44 = true := by kernel_rfl
theorem begCells : Try.prog.cellsOf 44 = 1 := by kernel_rfl
theorem begInt : Try.prog.cellsOf 3 = 1 := by kernel_rfl
theorem begZero (w : World) : (zeroValue 3).run Try.prog w = .ok (.int .i64 0) w := by kernel_rfl
theorem begKey : IntKey Try.prog 44 := by
  obtain ⟨n, hn⟩ := begSize
  exact ⟨Keyed.of_law (deep_law_laid laidOut (m := 2) (by omega) begRow (by kernel_rfl) begWide),
    fun a h1 h2 => key_gen Try.underlying44 begKeyed begCells rfl rfl (by decide) Try.underlying3 begInt hn a (WalkArith.wf_i64 (by omega))⟩
theorem makeBeg_hint (n : Int) (w : World) : (Instr.makeMap 41 (some (.int .i64 n))).run Try.prog w = .ok (.map (some w.heap.size)) (w.alloc (.map #[] 0)) := by
  simp [Instr.makeMap, run_underlying Try.underlying41, asInt, asIntOf]

set_option maxHeartbeats 1000000 in
theorem mplaces_any (v : Value) (ps : List Pc) (w : World) (h : SpansAt w v ps) :
    Calls Try.prog 15 #[v] w fun e w' => e = .returned (.map (some w.heap.size)) ∧ w'.ownsMap Try.prog 44 (plainElem Try.prog 3) w.heap.size ps.length (Dm ps ps.length) ∧ Fresh w w' := by
  have H := hide h
  obtain ⟨a, cap, rfl, hl, hl2, hl3, h4, hn0, hc⟩ := h
  have l0 : (0 : Int) ≤ (ps.length : Int) := by omega
  have l1 : (ps.length : Int) ≤ 1048576 := by omega
  have I := hide (in64_nth h4)
  have hmm := makeBeg_hint (ps.length : Int)
  clear hl hl2 hl3 h4 hn0 hc
  have O0 := hide (World.ownsMap_made (H := Unit) w Try.prog 44 (plainElem Try.prog 3))
  have F0 := hide (show Fresh w (w.alloc (.map #[] 0)) from (Below.refl _ _).alloc (Nat.le_refl _) _)
  obtain ⟨B, hB⟩ : ∃ B, B = w.heap.size := ⟨_, rfl⟩
  have HB := hide hB
  rw [← hB] at O0
  clear hB
  go_enter Try.func15, Try.ntmps15
  go_wp2
  rw [← HB.out]
  go_loopw [11] (fun i wr => ∃ j : Nat, j ≤ ps.length ∧ i = .int .i64 (j : Int) ∧ wr.ownsMap Try.prog 44 (plainElem Try.prog 3) B j (Dm ps j) ∧ Fresh w wr) (fun i _ => (ps.length - intOf i).toNat)
  case atStart => exact ⟨0, Nat.zero_le _, rfl, O0.out, F0.out⟩
  case round =>
    obtain ⟨j, hj, rfl, ho, hf⟩ := hrel
    have O := hide ho
    have F := hide hf
    clear ho hf
    by_cases g : j < ps.length
    · have g' : (j : Int) < (ps.length : Int) := by omega
      obtain ⟨a', cap', e, _, _, _, _, _, hc⟩ := H.out.fresh F.out
      cases e
      obtain ⟨b, o, rfl, c0, c1⟩ := hc j g
      clear hc
      have hb : b < wr.heap.size := World.block_lt_of_cell? _ _ c0
      have HI := hide (I.out j)
      have DS := hide (show Dm ps (j + 1) = (Dm ps j).put (kl (nth ps j).1) (.lit (.int .i64 (j : Int))) from rfl)
      generalize nth ps j = p at *
      obtain ⟨p1, p2⟩ := p
      simp only at c0 c1 DS
      have HK := hide (begKey.of p1 HI.out.1 HI.out.2.1)
      have HV := hide (plainElem_int (H := Unit) Try.underlying3 (WalkArith.wf_i64 (n := (j : Int)) (by omega)))
      have OA := hide (O.out.alloc (.cells #[.int .i64 p1, .int .i64 p2] 24))
      go_wp2_with (first | (at_mapUpdate; refine wpList_mapUpdate_own _ rfl _ _ _ 41 rfl 44 3 begKey.law Try.underlying41 _ B j _ rfl OA.out (by unfold maxLen; omega) _ _ _ rfl rfl HK.out _ [] HV.out ?_; intro w1 hown1 hgrow1) | go_in)
      have O2 := hide (DS.out.symm ▸ hown1)
      have F2 := hide (show Fresh w w1 from (fresh_more F.out _ _).grown hgrow1 (fresh_more F.out _ _).size (fun i hi => by cases hi; rw [HB.out]; exact Nat.le_refl _))
      clear hown1 hgrow1
      go_wp2
      go_roundw
      case rel => exact ⟨j + 1, by omega, by go_num, O2.out, F2.out⟩
      case measure => simp [intOf]; omega
    · obtain rfl : j = ps.length := by omega
      go_wp2
      go_ret
      rw [← HB.out]
      exact ⟨rfl, O.out, F.out⟩
end Go.Proofs.Ytkcmhdedabcabaa
