/- What the program's span answers of pieces (alone, endOf, May, Total, End, overAny, ahead), as contracts. -/
import Derived.Test.YtcakghafjmdkoaaSpanMem
import Derived.Deep.RegionHeld3
namespace Go.Proofs.Ytcakghafjmdkoaa
open Go.RowKit

theorem alone_any (a n : Int) (w : World) (h : In64 (a, n)) :
    Calls Try.prog 21 #[.agg #[.int .i64 a, .int .i64 n]] w fun e w' => e = .returned (.bool (aloneB (a, n))) ∧ w' = w.alloc (.cells #[.int .i64 a, .int .i64 n] 25) := by
  obtain ⟨h1, h2, h3, h4⟩ := h
  simp only at h1 h2 h3 h4
  by_cases g1 : 1 ≤ n
  · by_cases g2 : 0 ≤ a
    · have e : aloneB (a, n) = decide (n ≤ 1099511627776 - a) := by unfold aloneB; simp only [decide_eq_true g1, decide_eq_true g2]; rfl
      rw [e]
      clear e
      go_enter Try.func21, Try.ntmps21
      go_wp2
      go_ret
      exact ⟨rfl, rfl⟩
    · have e : aloneB (a, n) = false := by unfold aloneB; simp only [decide_eq_true g1, decide_eq_false g2]; rfl
      rw [e]
      clear e
      go_enter Try.func21, Try.ntmps21
      go_wp2
      go_ret
      exact ⟨rfl, rfl⟩
  · have e : aloneB (a, n) = false := by unfold aloneB; simp only [decide_eq_false g1]; rfl
    rw [e]
    clear e
    go_enter Try.func21, Try.ntmps21
    go_wp2
    go_ret
    exact ⟨rfl, rfl⟩
theorem alone_to (p : Pc) (b : Bool) (hb : aloneB p = b) (w : World) (h : In64 p) :
    Calls Try.prog 21 #[.agg #[.int .i64 p.1, .int .i64 p.2]] w fun e w' => e = .returned (.bool b) ∧ w' = w.alloc (.cells #[.int .i64 p.1, .int .i64 p.2] 25) := by
  subst hb
  exact alone_any p.1 p.2 w h

theorem endOf_any (a n : Int) (w : World) (h1 : -9223372036854775808 ≤ a + n) (h2 : a + n ≤ 9223372036854775807) :
    Calls Try.prog 29 #[.agg #[.int .i64 a, .int .i64 n]] w fun e w' => e = .returned (.int .i64 (a + n)) ∧ w' = w.alloc (.cells #[.int .i64 a, .int .i64 n] 25) := by
  go_enter Try.func29, Try.ntmps29
  go_wp2
  go_ret
  exact ⟨rfl, rfl⟩

theorem may_any (v : Value) (ps : List Pc) (w : World) (h : SpansAt w v ps) :
    Calls Try.prog 14 #[v] w fun e w' => e = .returned (.bool (mayB 0 ps)) ∧ Fresh w w' := by
  have H := hide h
  obtain ⟨a, cap, rfl, hl, hl2, hl3, h4, hn0, hc⟩ := h
  have I := hide (in64_nth h4)
  have l0 : (0 : Int) ≤ (ps.length : Int) := by omega
  have l1 : (ps.length : Int) ≤ 1048576 := by omega
  clear hl hl2 hl3 h4 hn0 hc
  go_enter Try.func14, Try.ntmps14
  go_wp2
  go_loopw [3, 8] (fun en i wr => ∃ (j : Nat) (x : Int), j ≤ ps.length ∧ i = .int .i64 (j : Int) ∧ en = .int .i64 x ∧ mayB 0 ps = mayB x (ps.drop j) ∧ Fresh w wr) (fun _ i _ => (ps.length - intOf i).toNat)
  case atStart => exact ⟨0, 0, Nat.zero_le _, rfl, rfl, rfl, Fresh.refl _⟩
  case round =>
    obtain ⟨j, x, hj, rfl, rfl, he, hf⟩ := hrel
    have F := hide hf
    have E := hide he
    clear he hf
    by_cases g : j < ps.length
    · have g' : (j : Int) < (ps.length : Int) := by omega
      have HI := hide (I.out j)
      obtain ⟨a', cap', e, _, _, _, _, _, hc⟩ := H.out.fresh F.out
      cases e
      obtain ⟨b, o, rfl, c0, c1⟩ := hc j g
      clear hc
      have MG := hide (fun e => may_go (e := e) (ps := ps) g)
      have MN := hide (fun e => may_no (e := e) (ps := ps) g)
      have AI := hide (alone_iff (nth ps j))
      generalize nth ps j = p at *
      have hb : b < wr.heap.size := World.block_lt_of_cell? _ _ c0
      cases ha : aloneB p with
      | false =>
        have N := hide (MN.out x (.inl ha))
        have HA := hide ha
        clear ha
        go_wp2_with fail
        refine (alone_to p false HA.out _ HI.out).mono ?_
        rintro e w' ⟨rfl, rfl⟩
        go_wp2
        go_ret
        exact ⟨retB (by rw [E.out, N.out]), fresh_more (fresh_more F.out _ _) _ _⟩
      | true =>
        have HA := hide ha
        have AA := hide (AI.out.1 ha)
        clear ha
        by_cases g2 : p.1 < x
        · have N := hide (MN.out x (.inr g2))
          go_wp2_with fail
          refine (alone_to p true HA.out _ HI.out).mono ?_
          rintro e w' ⟨rfl, rfl⟩
          go_wp2
          go_ret
          exact ⟨retB (by rw [E.out, N.out]), fresh_more (fresh_more F.out _ _) _ _⟩
        · have N := hide (MG.out x HA.out (by omega))
          have g3 : x ≤ p.1 := by omega
          clear g2
          go_wp2_with fail
          refine (alone_to p true HA.out _ HI.out).mono ?_
          rintro e w' ⟨rfl, rfl⟩
          go_wp2_with fail
          refine (endOf_any p.1 p.2 _ (by have := AA.out; omega) (by have := AA.out; omega)).mono ?_
          rintro e w' ⟨rfl, rfl⟩
          go_wp2
          go_roundw
          case rel => exact ⟨j + 1, _, by omega, by go_num, rfl, by rw [E.out, N.out], fresh_more (fresh_more (fresh_more F.out _ _) _ _) _ _⟩
          case measure => simp [intOf]; omega
    · obtain rfl : j = ps.length := by omega
      have N := hide (may_end x ps)
      go_wp2
      go_ret
      exact ⟨retB (by rw [E.out, N.out]), F.out⟩

theorem total_any (v : Value) (ps : List Pc) (w : World) (h : SpansAt w v ps) (hg : Good ps) :
    Calls Try.prog 16 #[v] w fun e w' => e = .returned (.int .i64 (tot ps)) ∧ Fresh w w' := by
  have H := hide h
  obtain ⟨a, cap, rfl, hl, hl2, hl3, h4, hn0, hc⟩ := h
  have l0 : (0 : Int) ≤ (ps.length : Int) := by omega
  have l1 : (ps.length : Int) ≤ 1048576 := by omega
  have T := hide (tot_in hg)
  have G := hide (fun (j : Nat) (hj : j < ps.length) => hg.pos hj)
  clear hl hl2 hl3 h4 hn0 hc hg
  go_enter Try.func16, Try.ntmps16
  go_wp2
  go_loopw [3, 8] (fun en i wr => ∃ (j : Nat) (x : Int), j ≤ ps.length ∧ i = .int .i64 (j : Int) ∧ en = .int .i64 x ∧ x = tot (ps.take j) ∧ Fresh w wr) (fun _ i _ => (ps.length - intOf i).toNat)
  case atStart => exact ⟨0, 0, Nat.zero_le _, rfl, rfl, rfl, Fresh.refl _⟩
  case round =>
    obtain ⟨j, x, hj, rfl, rfl, he, hf⟩ := hrel
    have F := hide hf
    have E := hide he
    have TB := hide (T.out j hj)
    clear he hf
    by_cases g : j < ps.length
    · have g' : (j : Int) < (ps.length : Int) := by omega
      obtain ⟨a', cap', e, _, _, _, _, _, hc⟩ := H.out.fresh F.out
      cases e
      obtain ⟨b, o, rfl, c0, c1⟩ := hc j g
      clear hc
      have HP := hide (G.out j g)
      have ST := hide (tot_take g)
      generalize nth ps j = p at *
      have hb : b < wr.heap.size := World.block_lt_of_cell? _ _ c0
      have x0 : 0 ≤ x := by have := TB.out; have := E.out; omega
      have x1 : x ≤ 1152921504606846976 := by have := TB.out; have := E.out; omega
      have p0 : 0 ≤ p.2 := by have := HP.out; omega
      have p1 : p.2 ≤ 1099511627776 := by have := HP.out; omega
      go_wp2
      go_roundw
      case rel => exact ⟨j + 1, _, by omega, by go_num, rfl, by rw [ST.out, E.out], fresh_more F.out _ _⟩
      case measure => simp [intOf]; omega
    · obtain rfl : j = ps.length := by omega
      go_wp2
      go_ret
      exact ⟨ret_int (by rw [E.out, List.take_length]), F.out⟩

theorem end_any (v : Value) (ps : List Pc) (w : World) (h : SpansAt w v ps) (hg : Good ps) :
    Calls Try.prog 17 #[v] w fun e w' => e = .returned (.int .i64 (endV ps)) ∧ Fresh w w' := by
  obtain ⟨a, cap, rfl, hl, hl2, hl3, h4, hn0, hc⟩ := h
  have l0 : (0 : Int) ≤ (ps.length : Int) := by omega
  have l1 : (ps.length : Int) ≤ 1048576 := by omega
  by_cases g : ps.length = 0
  · have e : endV ps = 0 := by unfold endV; rw [if_pos g]
    rw [e, g]
    clear e hc
    go_enter Try.func17, Try.ntmps17
    go_wp2
    go_ret
    exact ⟨rfl, Fresh.refl _⟩
  · obtain ⟨m, hm⟩ : ∃ m, ps.length = m + 1 := ⟨ps.length - 1, by omega⟩
    have e : endV ps = (nth ps m).1 + (nth ps m).2 := by unfold endV; rw [if_neg g, hm]; rfl
    rw [e]
    obtain ⟨b, o, rfl, c0, c1⟩ := hc m (by omega)
    have HP := hide (hg.pos (show m < ps.length by omega))
    rw [hm] at l1 ⊢
    clear e hc hn0 hl hl2 h4 g hm l0 hg
    generalize nth ps m = p at *
    have l2 : (m : Int) ≤ 1048576 := by omega
    have l3 : (0 : Int) ≤ (m : Int) := by omega
    have l4 : (((m + 1 : Nat) : Int) == 0) = false := by rw [beq_eq_false_iff_ne]; omega
    have l5 : ((m + 1 : Nat) : Int) - 1 = (m : Int) := by omega
    clear l1
    have hb : b < w.heap.size := World.block_lt_of_cell? _ _ c0
    go_enter Try.func17, Try.ntmps17
    go_wp2_with fail
    refine (endOf_any p.1 p.2 _ (by have := HP.out; omega) (by have := HP.out; omega)).mono ?_
    rintro e w' ⟨rfl, rfl⟩
    go_wp2
    go_ret
    exact ⟨rfl, fresh_box _ _ _⟩

theorem ahead_any (v : Value) (ps : List Pc) (x : Int) (w : World) (h : SpansAt w v ps) :
    Calls Try.prog 24 #[v, .int .i64 x] w fun e w' => e = .returned (.int .i64 (aheadN ps x : Nat)) ∧ w' = w := by
  have H := hide h
  obtain ⟨a, cap, rfl, hl, hl2, hl3, h4, hn0, hc⟩ := h
  have l0 : (0 : Int) ≤ (ps.length : Int) := by omega
  have l1 : (ps.length : Int) ≤ 1048576 := by omega
  have C := hide hc
  clear hl hl2 hl3 h4 hn0 hc
  go_enter Try.func24, Try.ntmps24
  go_wp2
  go_loop [5] (fun i => ∃ (j : Nat), j ≤ ps.length ∧ i = .int .i64 (j : Int) ∧ ∀ t, t < j → (nth ps t).1 < x) (fun i => (ps.length - intOf i).toNat)
  case atStart => exact ⟨0, Nat.zero_le _, rfl, fun t ht => by omega⟩
  case round =>
    obtain ⟨j, hj, rfl, ha⟩ := hrel
    have A := hide ha
    clear ha
    by_cases g : j < ps.length
    · have g' : (j : Int) < (ps.length : Int) := by omega
      obtain ⟨b, o, rfl, c0, c1⟩ := C.out j g
      by_cases g2 : (nth ps j).1 < x
      · have A2 := hide (show ∀ t, t < j + 1 → (nth ps t).1 < x from fun t ht => by
          rcases Nat.lt_or_ge t j with h | h
          · exact A.out t h
          · rw [show t = j by omega]; exact g2)
        generalize nth ps j = p at *
        go_wp2
        go_round
        case rel => exact ⟨j + 1, by omega, by go_num, A2.out⟩
        case measure => simp [intOf]; omega
      · have N := hide (ahead_eq (a := x) hj A.out (fun _ => by omega))
        have g3 : x ≤ (nth ps j).1 := by omega
        clear g2
        generalize nth ps j = p at *
        go_wp2
        go_ret
        exact ⟨ret_int (by rw [N.out]), rfl⟩
    · obtain rfl : j = ps.length := by omega
      have N := hide (ahead_eq (a := x) hj A.out (fun h => by omega))
      go_wp2
      go_ret
      exact ⟨ret_int (by rw [N.out]), rfl⟩
end Go.Proofs.Ytcakghafjmdkoaa
