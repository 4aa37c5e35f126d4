/- Proved here: hodmanlaw8.SpanAll returns true at every bytes, pieces and numbers, in any memory: which pieces lie apart, and what they are together. No condition. -/
import Derived.Test.YtcakghafjmdkoaaSpanLaw
import Derived.Test.YtcakghafjmdkoaaPlaySpan
import Derived.Test.YtcakghafjmdkoaaRefSpanC
import Derived.Test.YtcakghafjmdkoaaRefSpanD
import Derived.Test.YtcakghafjmdkoaaOpenSpan
namespace Go.Proofs.Ytcakghafjmdkoaa
open Go.ChangeShapes Go.WideShapes Go.ChangeAt Go.RowKit

/-- what lies about while the lots are tried -/
structure Hall (W : World) (lb : Nat) (L : List Pc) (lv : Value) (ps : List Pc) (w : World) : Prop where
  lots : SpansIn w (.slice (some ⟨lb, 0, none⟩) 3 3) L
  l : SpansIn w lv ps
  el : Fresh W w
theorem Hall.fresh {W : World} {lb : Nat} {L : List Pc} {lv : Value} {ps : List Pc} {w w' : World} (h : Hall W lb L lv ps w) (k : Fresh w w') : Hall W lb L lv ps w' := ⟨h.lots.fresh k, h.l.fresh k, h.el.trans k⟩
theorem Hall.cell {W : World} {lb : Nat} {L : List Pc} {lv : Value} {ps : List Pc} {w : World} (h : Hall W lb L lv ps w) (hL : L.length = 3) (k : Nat) (hk : k < 3) : w.cell? ⟨lb, k * 2, none⟩ = some (.int .i64 (nth L k).1) ∧ w.cell? ⟨lb, k * 2 + 1, none⟩ = some (.int .i64 (nth L k).2) := by
  rcases h.lots.cases with ⟨e, _⟩ | ⟨b, o, cap, e, _, _, _, _, hc⟩
  · cases e
  · have := hc k (by omega)
    simp at e
    obtain ⟨⟨rfl, rfl⟩, _, rfl⟩ := e
    simpa using this
theorem spansIn_three (w : World) (x1 x2 y1 y2 z1 z2 : Int) (hx : In64 (x1, x2)) (hy : In64 (y1, y2)) (hz : In64 (z1, z2)) : SpansIn (w.alloc (.cells #[.int .i64 x1, .int .i64 x2, .int .i64 y1, .int .i64 y2, .int .i64 z1, .int .i64 z2] 25)) (.slice (some ⟨w.heap.size, 0, none⟩) 3 3) [(x1, x2), (y1, y2), (z1, z2)] := by
  have h := World.ownsRow_lit (base := w.heap.size) (e := 25) (size := 2) w #[.int .i64 x1, .int .i64 x2, .int .i64 y1, .int .i64 y2, .int .i64 z1, .int .i64 z2] 3 (Nat.le_refl _) (by unfold maxLen; omega) rfl
  exact OwnS.at (ps := [(x1, x2), (y1, y2), (z1, z2)]) h (by simp) (fun p hp => by
    simp at hp
    rcases hp with rfl | rfl | rfl
    · exact hx
    · exact hy
    · exact hz)
/-- two pieces in variables of a round -/
def HeldV (S T : Nat) (p1 p2 : Int) (w : World) : Prop := w.cell? ⟨S, 0, none⟩ = some (.int .i64 p1) ∧ w.cell? ⟨S, 1, none⟩ = some (.int .i64 p2) ∧ w.cell? ⟨T, 0, none⟩ = some (.int .i64 p1) ∧ w.cell? ⟨T, 1, none⟩ = some (.int .i64 p2)
theorem in64_cut {ps : List Pc} (h : ∀ p ∈ ps, In64 p) (i : Nat) : ∀ p ∈ ps.eraseIdx i, In64 p := fun p hp => h p (List.mem_of_mem_eraseIdx hp)
theorem end_en (ps : List Pc) : endV ps = enV ps ps.length := by
  unfold endV
  by_cases h : ps.length = 0
  · rw [if_pos h, h]; rfl
  · rw [if_neg h]
    obtain ⟨m, hm⟩ : ∃ m, ps.length = m + 1 := ⟨ps.length - 1, by omega⟩
    rw [hm]; rfl
theorem en_max {ps : List Pc} (hv : Val ps) {k : Nat} (hk : k < ps.length) : max (enV ps k) ((nth ps k).1 + (nth ps k).2) = enV ps (k + 1) ∧ 0 ≤ enV ps k ∧ enV ps k ≤ 1099511627776 := by
  have hp := hv.pos hk
  cases k with
  | zero =>
    have e0 : enV ps 0 = 0 := rfl
    have e1 : enV ps (0 + 1) = (nth ps 0).1 + (nth ps 0).2 := rfl
    rw [e0, e1]
    omega
  | succ k =>
    have h1 := hv.lt (show k < k + 1 by omega) hk
    have h2 := hv.pos (show k < ps.length by omega)
    have e0 : enV ps (k + 1) = (nth ps k).1 + (nth ps k).2 := rfl
    have e1 : enV ps (k + 1 + 1) = (nth ps (k + 1)).1 + (nth ps (k + 1)).2 := rfl
    rw [e0, e1]
    omega

theorem rmays_to (v : Value) (ps : List Pc) (r : Bool) (hr : mayB 0 ps = r) (w : World) (h : SpansAt w v ps) : Calls Try.prog 15 #[v] w fun e w' => e = .returned (.bool r) ∧ Fresh w w' := by
  subst hr
  exact rmays_any v ps w h

set_option maxRecDepth 100000 in
set_option maxHeartbeats 4000000 in
theorem spanAll_walk0 (a : Option Addr) (len cap : Nat) (zs : List Int) (a2 : Option Addr) (len2 cap2 : Nat) (qs : List Pc) (s1 : Int) (s1l : -9223372036854775808 ≤ s1) (s1h : s1 ≤ 9223372036854775807) (s2 : Int) (s2l : -9223372036854775808 ≤ s2) (s2h : s2 ≤ 9223372036854775807)
    (t : Int) (ht : 0 ≤ t) (ht' : t ≤ 255) (n : Int) (hn : 0 ≤ n) (hn' : n ≤ 255) (w : World) (hrow : IsRow .u8 w a len cap zs) (hsp : IsSpans w a2 len2 cap2 qs) :
    Calls Try.prog 3 #[.slice a len cap, .slice a2 len2 cap2, .agg #[.int .i64 s1, .int .i64 s2], .int .u8 t, .int .u8 n] w fun e w' => e = .returned (.bool true) ∧ Fresh w w' := by
  by_cases h20 : len ≤ 20
  · have l0 : (len : Int) ≤ 20 := by omega
    by_cases h10 : len2 ≤ 10
    · have l1 : (len2 : Int) ≤ 10 := by omega
      have RW := hide hrow
      have WS := hide (hsp.2 (by omega))
      have L9 := hide (show 0 ≤ n % 9 ∧ n % 9 ≤ 8 by omega)
      obtain ⟨d, hd⟩ : ∃ d, n % 9 = d := ⟨_, rfl⟩
      have d0 : 0 ≤ d := by omega
      have d1 : d ≤ 8 := by omega
      obtain ⟨n0, hn0⟩ : ∃ n0, n0 = w.heap.size := ⟨_, rfl⟩
      obtain ⟨W1, hW1⟩ : ∃ W1, W1 = w.alloc (.cells #[.int .i64 s1, .int .i64 s2] 25) := ⟨_, rfl⟩
      have FW := hide (show Fresh w W1 by subst hW1; exact fresh_box _ _ _)
      have BB := hide (show W1.heap[n0]? = some (.cells #[.int .i64 s1, .int .i64 s2] 25 (0, 0)) by subst hW1; rw [hn0]; exact heap_alloc_new w _)
      have HN := hide hn0
      have HW := hide hW1
      have t20 : decide ((20 : Int) < (len : Int)) = false := decide_eq_false (by omega)
      have t10 : decide ((10 : Int) < (len2 : Int)) = false := decide_eq_false (by omega)
      clear hrow hsp h20 h10 hn0 hW1
      go_enter Try.func3, Try.ntmps3
      go_wp2_with fail
      rw [← HW.out, ← HN.out]
      refine (begun8_true _).mono ?_
      rintro e w1 ⟨rfl, k1⟩
      have K1 := hide (FW.out.trans k1)
      have KB := hide k1
      clear k1
      go_wp2_with fail
      refine (spans_any a len cap zs w1 ⟨w, RW.out, K1.out⟩).mono ?_
      rintro e w2 ⟨v, ps, rfl, s2', v2, l2, f2⟩
      have S2 := hide s2'
      have V := hide v2
      have L2 := hide l2
      have F2 := hide (K1.out.trans f2)
      have y0 : w2.cell? ⟨n0, 0, none⟩ = some (.int .i64 s1) := ((KB.out.trans f2).cell (Array.getElem?_eq_some_iff.1 BB.out).1).trans (cell_block BB.out 0 _ rfl)
      have y1 : w2.cell? ⟨n0, 1, none⟩ = some (.int .i64 s2) := ((KB.out.trans f2).cell (Array.getElem?_eq_some_iff.1 BB.out).1).trans (cell_block BB.out 1 _ rfl)
      obtain ⟨a1, c1, rfl, q1, q2, q3, q4, q5, q6⟩ := s2'.1
      have HC := hide q6
      have t1 : (ps.length : Int) ≤ 10 := by omega
      have t0 : (0 : Int) ≤ (ps.length : Int) := by omega
      clear s2' v2 f2 K1 KB q1 q2 q3 q4 q5 q6
      go_wp2
      have HL := hide (show Hall w w2.heap.size [(s1, s2), (t, d), (t, 1099511627776)] (.slice a1 ps.length c1) ps (w2.alloc (.cells #[.int .i64 s1, .int .i64 s2, .int .i64 t, .int .i64 d, .int .i64 t, .int .i64 1099511627776] 25)) from
        ⟨spansIn_three w2 s1 s2 t d t 1099511627776 ⟨s1l, s1h, s2l, s2h⟩ (by unfold In64; simp only; omega) (by unfold In64; simp only; omega), S2.out.fresh (fresh_box _ _ _), fresh_more F2.out _ _⟩)
      have ML := hide (show ∀ p ∈ [(s1, s2), (t, d), (t, 1099511627776)], In64 p from HL.out.lots.1.in64)
      have LL := hide (show [(s1, s2), (t, d), (t, (1099511627776 : Int))].length = 3 from rfl)
      try rw [hd]
      try rw [t20]
      try rw [t10]
      generalize w2.alloc (.cells #[.int .i64 s1, .int .i64 s2, .int .i64 t, .int .i64 d, .int .i64 t, .int .i64 1099511627776] 25) = W2 at HL ⊢
      generalize w2.heap.size = lb at HL ⊢
      generalize [(s1, s2), (t, d), (t, (1099511627776 : Int))] = L at HL ML LL
      clear y0 y1 S2 F2 HC hd L9
      go_loopw [13] (fun i wr => ∃ k : Nat, k ≤ 3 ∧ i = .int .i64 (k : Int) ∧ Hall w lb L (.slice a1 ps.length c1) ps wr) (fun i _ => (3 - intOf i).toNat)
      case atStart => exact ⟨0, Nat.zero_le _, rfl, HL.out⟩
      case round =>
        obtain ⟨k, hk, rfl, hH⟩ := hrel
        have H := hide hH
        have k0 : (0 : Int) ≤ (k : Int) := by omega
        clear hH HL
        by_cases hlt : k < 3
        · have k1 : (k : Int) < 3 := by omega
          have CK := hide (fun w' (h : Hall w lb L (.slice a1 ps.length c1) ps w') => h.cell LL.out k hlt)
          have IP := hide (in64_nth ML.out k)
          generalize nth L k = p at *
          obtain ⟨x, y⟩ := p
          have V5 := hide (val_put V.out (x, y))
          have L5 := hide (put_length ps (x, y))
          have V6 := hide (val_erase V.out (cutK ps x))
          obtain ⟨r, hr⟩ : ∃ r, putB ps (x, y) = r := ⟨_, rfl⟩
          obtain ⟨r', hr'⟩ : ∃ r', cutB ps x = r' := ⟨_, rfl⟩
          obtain ⟨P, hP⟩ : ∃ P, putL ps (x, y) = P := ⟨_, rfl⟩
          obtain ⟨C, hC⟩ : ∃ C, cutL ps x = C := ⟨_, rfl⟩
          obtain ⟨u1, u2, hu⟩ : ∃ u1 u2, cutP ps x = (u1, u2) := ⟨_, _, rfl⟩
          have PU := hide (fun v w h => put_any v ps x y w h V.out.1 (by have := L2.out; omega) IP.out)
          have RP := hide (fun v w h => rput_any v ps x y w h V.out (by have := L2.out; omega) IP.out)
          have CU := hide (fun v w h => cut_any v ps x w h V.out (by have := L2.out; omega) IP.out.1 IP.out.2.1)
          have RC := hide (fun v w h => rcut_any v ps x w h (by have := L2.out; omega))
          have VP := hide (show P.length ≤ 1048576 ∧ ∀ p ∈ P, In64 p by rw [← hP]; exact ⟨by have := L2.out; have := L5.out; omega, V5.out.1.in64⟩)
          have VC := hide (show C.length ≤ 1048576 ∧ ∀ p ∈ C, In64 p by rw [← hC]; exact ⟨by have := L2.out; have := erase_le ps (cutK ps x); show (cutL ps x).length ≤ _; unfold cutL; omega, V6.out.1.in64⟩)
          unfold cutE at CU RC
          rw [hr, hP] at PU RP
          rw [hr', hC, hu] at CU RC
          simp only at CK CU RC
          clear hr hr' hP hC hu V5 L5 V6
          obtain ⟨c0, c1'⟩ := CK.out _ H.out
          go_wp2_with fail
          refine (PU.out _ _ H.out.l).mono ?_
          rintro e w3 ⟨v3, rfl, o3, f3⟩
          have A3 := hide (o3.at VP.out.1 VP.out.2)
          have H3 := hide (H.out.fresh f3)
          clear o3 f3 c0 c1' H
          obtain ⟨c0, c1'⟩ := CK.out _ H3.out
          go_wp2_with fail
          refine (RP.out _ _ H3.out.l).mono ?_
          rintro e w4 ⟨v4, rfl, o4, f4, -⟩
          have A4 := hide (A3.out.fresh f4)
          have B4 := hide o4
          have H4 := hide (H3.out.fresh f4)
          clear o4 f4 c0 c1' A3 H3
          obtain ⟨c0, c1'⟩ := CK.out _ H4.out
          go_wp2_with fail
          refine (CU.out _ _ H4.out.l).mono ?_
          rintro e w5 ⟨v5, rfl, o5, f5⟩
          obtain ⟨S, hS⟩ : ∃ S, S = w5.heap.size := ⟨_, rfl⟩
          obtain ⟨w6, hw6⟩ : ∃ w6, w6 = w5.alloc (.cells #[.int .i64 u1, .int .i64 u2] 25) := ⟨_, rfl⟩
          have g6 : Fresh w5 w6 := by rw [hw6]; exact fresh_box _ _ _
          have f6 : Fresh w4 w6 := f5.trans g6
          have BS := hide (show w6.heap[S]? = some (.cells #[.int .i64 u1, .int .i64 u2] 25 (0, 0)) by rw [hS, hw6]; exact heap_alloc_new w5 _)
          have A6 := hide (A4.out.fresh f6)
          have B6 := hide (B4.out.fresh f6)
          have C6 := hide ((o5.at VC.out.1 VC.out.2).fresh g6)
          have H6 := hide (H4.out.fresh f6)
          have HS := hide hS
          have HW6 := hide hw6
          have lt6 := World.block_lt_of_cell? _ _ ((f5.cell (World.block_lt_of_cell? _ _ c0)).trans c0)
          clear o5 f5 g6 f6 c0 c1' A4 B4 H4 hS hw6
          obtain ⟨c0, c1'⟩ := CK.out _ H6.out
          rw [HW6.out] at c0 c1'
          go_wp2_with fail
          rw [← HW6.out, ← HS.out]
          refine (RC.out _ _ H6.out.l).mono ?_
          rintro e w7 ⟨v7, rfl, o7, f7⟩
          obtain ⟨T, hT⟩ : ∃ T, T = w7.heap.size := ⟨_, rfl⟩
          obtain ⟨w8, hw8⟩ : ∃ w8, w8 = w7.alloc (.cells #[.int .i64 u1, .int .i64 u2] 25) := ⟨_, rfl⟩
          have g8 : Fresh w7 w8 := by rw [hw8]; exact fresh_box _ _ _
          have f8 : Fresh w6 w8 := f7.trans g8
          have bT : w8.heap[T]? = some (.cells #[.int .i64 u1, .int .i64 u2] 25 (0, 0)) := by rw [hT, hw8]; exact heap_alloc_new w7 _
          have bS : w8.heap[S]? = some (.cells #[.int .i64 u1, .int .i64 u2] 25 (0, 0)) := by rw [f8.block S (Array.getElem?_eq_some_iff.1 BS.out).1]; exact BS.out
          have HV := hide (show HeldV S T u1 u2 w8 from ⟨cell_block bS 0 _ rfl, cell_block bS 1 _ rfl, cell_block bT 0 _ rfl, cell_block bT 1 _ rfl⟩)
          have A8 := hide (A6.out.fresh f8)
          have B8 := hide (B6.out.fresh f8)
          have C8 := hide (C6.out.fresh f8)
          have D8 := hide (o7.fresh g8)
          have H8 := hide (H6.out.fresh f8)
          have HT := hide hT
          have HW8 := hide hw8
          clear o7 f7 g8 f8 bT bS c0 c1' A6 B6 C6 H6 hT hw8 lt6
          go_wp2_with fail
          rw [← HW8.out, ← HT.out]
          refine (same_to _ _ P P true (by simp) _ A8.out.1 B8.out.1).mono ?_
          rintro e w9 ⟨rfl, q, rfl⟩
          obtain ⟨z0, z1, z2, z3⟩ := show HeldV S T u1 u2 (w8.drewN q) from HV.out
          have C9 := hide (C8.out.fresh (Fresh.drewN w8 q))
          have D9 := hide (D8.out.fresh (Fresh.drewN w8 q))
          have H9 := hide (H8.out.fresh (Fresh.drewN w8 q))
          generalize World.drewN w8 q = w9 at *
          clear A8 B8 C8 D8 H8
          go_wp2_with fail
          refine (same_to _ _ C C true (by simp) _ C9.out.1 D9.out.1).mono ?_
          rintro e w10 ⟨rfl, q', rfl⟩
          go_wp2
          go_roundw
          case rel => exact ⟨k + 1, by omega, by go_num, H9.out.fresh (Fresh.drewN _ q')⟩
          case measure => simp [intOf]; omega
        · obtain rfl : k = 3 := by omega
          have T := hide (tot_in V.out.1)
          go_wp2
          try rw [show ((3 : Nat) : Int) = 3 from rfl]
          go_loopw [24, 25, 26] (fun tt ee i ws => ∃ (j : Nat) (x y : Int), j ≤ ps.length ∧ i = .int .i64 (j : Int) ∧ tt = .int .i64 x ∧ ee = .int .i64 y ∧ x = tot (ps.take j) ∧ y = enV ps j ∧ Hall w lb L (.slice a1 ps.length c1) ps ws) (fun _ _ i _ => (ps.length - intOf i).toNat)
          case atStart => exact ⟨0, 0, 0, Nat.zero_le _, rfl, rfl, rfl, rfl, rfl, H.out⟩
          case round =>
            obtain ⟨j, x, y, hj, rfl, rfl, rfl, hx, hy, hH⟩ := hrel
            have HX := hide hx
            have HY := hide hy
            have G := hide hH
            have j0 : (0 : Int) ≤ (j : Int) := by omega
            have TB := hide (T.out j hj)
            clear hx hy hH H
            by_cases g : j < ps.length
            · have g' : (j : Int) < (ps.length : Int) := by omega
              obtain ⟨a', cap', e, _, _, _, _, _, hc⟩ := G.out.l.1
              cases e
              obtain ⟨b, o, rfl, c0, c1'⟩ := hc j g
              have HP := hide (V.out.pos g)
              have ST := hide (tot_take g)
              have EM := hide (en_max V.out g)
              clear hc
              generalize nth ps j = p at *
              obtain ⟨p1, p2⟩ := p
              simp only at c0 c1' HP ST EM
              have w1' : IntKind.i64.wrap (x + p2) = x + p2 := wrap_in (by have := TB.out; have := HX.out; have := HP.out; omega) (by have := TB.out; have := HX.out; have := HP.out; omega)
              have w2' : IntKind.i64.wrap (p1 + p2) = p1 + p2 := wrap_in (by have := HP.out; omega) (by have := HP.out; omega)
              have HS : Hid (HeldC w b (o + j * 2) p1 p2 wr.drew) := ⟨c0, c1', G.out.el.drew⟩
              clear c0 c1'
              go_wp2_with fail
              refine wp_region_held (S := HeldC w b (o + j * 2) p1 p2) (by kernel_rfl) ?_
              change wpAnyH _ _ _ _ _ _ _ _ (World.drew _)
              refine held_take (i := 0) (d := 125) (v := ?_) rfl rfl (by kernel_rfl) (by kernel_rfl) (by kernel_rfl) (fun _ _ _ h => h) (by kernel_rfl) ?_ HS.out ?_
              rotate_left
              · intro wz hz
                obtain ⟨z0, z1, -⟩ := hz
                go_simp
                first | done | with_reducible rfl
              refine held_take (i := 1) (d := 126) (v := ?_) rfl rfl (by kernel_rfl) (by kernel_rfl) (by kernel_rfl) (fun _ _ _ h => h) (by kernel_rfl) ?_ HS.out ?_
              rotate_left
              · intro wz hz
                obtain ⟨z0, z1, -⟩ := hz
                go_simp
                first | done | with_reducible rfl
              refine held_take (i := 2) (d := 127) (v := ?_) rfl rfl (by kernel_rfl) (by kernel_rfl) (by kernel_rfl) (fun _ _ _ h => h) (by kernel_rfl) ?_ HS.out ?_
              rotate_left
              · intro wz hz
                obtain ⟨z0, z1, -⟩ := hz
                go_simp
                first | done | with_reducible rfl
              refine held_take (i := 3) (d := 128) (v := ?_) rfl rfl (by kernel_rfl) (by kernel_rfl) (by kernel_rfl) (fun _ _ _ h => h) (by kernel_rfl) ?_ HS.out ?_
              rotate_left
              · intro wz hz
                obtain ⟨z0, z1, -⟩ := hz
                go_simp
                first | done | with_reducible rfl
              refine held_take (i := 4) (d := 129) (v := ?_) rfl rfl (by kernel_rfl) (by kernel_rfl) (by kernel_rfl) (fun _ _ _ h => h) (by kernel_rfl) ?_ HS.out ?_
              rotate_left
              · intro wz hz
                obtain ⟨z0, z1, -⟩ := hz
                go_simp
                first | done | with_reducible rfl
              refine held_take (i := 5) (d := 130) (v := ?_) rfl rfl (by kernel_rfl) (by kernel_rfl) (by kernel_rfl) (fun _ _ _ h => h) (by kernel_rfl) ?_ HS.out ?_
              rotate_left
              · intro wz hz
                obtain ⟨z0, z1, -⟩ := hz
                go_simp
                first | done | with_reducible rfl
              refine held_take (i := 6) (d := 131) (v := ?_) rfl rfl (by kernel_rfl) (by kernel_rfl) (by kernel_rfl) (fun _ _ _ h => h) (by kernel_rfl) ?_ HS.out ?_
              rotate_left
              · intro wz hz
                obtain ⟨z0, z1, -⟩ := hz
                go_simp
                first | done | with_reducible rfl
              refine held_take (i := 7) (d := 132) (v := ?_) rfl rfl (by kernel_rfl) (by kernel_rfl) (by kernel_rfl) (fun _ _ _ h => h) (by kernel_rfl) ?_ HS.out ?_
              rotate_left
              · intro wz hz
                obtain ⟨z0, z1, -⟩ := hz
                go_simp
                first | done | with_reducible rfl
              refine held_take (i := 8) (d := 133) (v := ?_) rfl rfl (by kernel_rfl) (by kernel_rfl) (by kernel_rfl) (fun _ _ _ h => h) (by kernel_rfl) ?_ HS.out ?_
              rotate_left
              · intro wz hz
                obtain ⟨z0, z1, -⟩ := hz
                go_simp
                first | done | with_reducible rfl
              refine held_take (i := 9) (d := 134) (v := ?_) rfl rfl (by kernel_rfl) (by kernel_rfl) (by kernel_rfl) (fun _ _ _ h => h) (by kernel_rfl) ?_ HS.out ?_
              rotate_left
              · intro wz hz
                obtain ⟨z0, z1, -⟩ := hz
                go_simp
                first | done | with_reducible rfl
              refine held_take (i := 10) (d := 135) (v := ?_) rfl rfl (by kernel_rfl) (by kernel_rfl) (by kernel_rfl) (fun _ _ _ h => h) (by kernel_rfl) ?_ HS.out ?_
              rotate_left
              · intro wz hz
                obtain ⟨z0, z1, -⟩ := hz
                go_simp
                first | done | with_reducible rfl
              refine held_take (i := 11) (d := 136) (v := ?_) rfl rfl (by kernel_rfl) (by kernel_rfl) (by kernel_rfl) (fun _ _ _ h => h) (by kernel_rfl) ?_ HS.out ?_
              rotate_left
              · intro wz hz
                obtain ⟨z0, z1, -⟩ := hz
                go_simp
                first | done | with_reducible rfl
              refine held_take (i := 12) (d := 137) (v := ?_) rfl rfl (by kernel_rfl) (by kernel_rfl) (by kernel_rfl) (fun _ _ _ h => h) (by kernel_rfl) ?_ HS.out ?_
              rotate_left
              · intro wz hz
                obtain ⟨z0, z1, -⟩ := hz
                go_simp
                first | done | with_reducible rfl
              refine held_take (i := 13) (d := 138) (v := ?_) rfl rfl (by kernel_rfl) (by kernel_rfl) (by kernel_rfl) (fun _ _ _ h => h) (by kernel_rfl) ?_ HS.out ?_
              rotate_left
              · intro wz hz
                obtain ⟨z0, z1, -⟩ := hz
                go_simp
                first | done | with_reducible rfl
              refine held_take (i := 14) (d := 139) (v := ?_) rfl rfl (by kernel_rfl) (by kernel_rfl) (by kernel_rfl) (fun _ _ _ h => h) (by kernel_rfl) ?_ HS.out ?_
              rotate_left
              · intro wz hz
                obtain ⟨z0, z1, -⟩ := hz
                go_simp
                first | done | with_reducible rfl
              refine held_take (i := 15) (d := 140) (v := ?_) rfl rfl (by kernel_rfl) (by kernel_rfl) (by kernel_rfl) (fun _ _ _ h => h) (by kernel_rfl) ?_ HS.out ?_
              rotate_left
              · intro wz hz
                obtain ⟨z0, z1, -⟩ := hz
                go_simp
                first | done | with_reducible rfl
              refine held_take (i := 16) (d := 141) (v := ?_) rfl rfl (by kernel_rfl) (by kernel_rfl) (by kernel_rfl) (fun _ _ _ h => h) (by kernel_rfl) ?_ HS.out ?_
              rotate_left
              · intro wz hz
                obtain ⟨z0, z1, -⟩ := hz
                go_simp
                first | done | with_reducible rfl
              refine held_take (i := 17) (d := 142) (v := ?_) rfl rfl (by kernel_rfl) (by kernel_rfl) (by kernel_rfl) (fun _ _ _ h => h) (by kernel_rfl) ?_ HS.out ?_
              rotate_left
              · intro wz hz
                obtain ⟨z0, z1, -⟩ := hz
                go_simp
                first | done | with_reducible rfl
              refine held_take (i := 18) (d := 143) (v := ?_) rfl rfl (by kernel_rfl) (by kernel_rfl) (by kernel_rfl) (fun _ _ _ h => h) (by kernel_rfl) ?_ HS.out ?_
              rotate_left
              · intro wz hz
                obtain ⟨z0, z1, -⟩ := hz
                go_simp
                first | done | with_reducible rfl
              refine held_take (i := 19) (d := 144) (v := ?_) rfl rfl (by kernel_rfl) (by kernel_rfl) (by kernel_rfl) (fun _ _ _ h => h) (by kernel_rfl) ?_ HS.out ?_
              rotate_left
              · intro wz hz
                obtain ⟨z0, z1, -⟩ := hz
                go_simp
                first | done | with_reducible rfl
              refine held_take (i := 20) (d := 24) (v := ?_) rfl rfl (by kernel_rfl) (by kernel_rfl) (by kernel_rfl) (fun _ _ _ h => h) (by kernel_rfl) ?_ HS.out ?_
              rotate_left
              · intro wz hz
                obtain ⟨z0, z1, -⟩ := hz
                go_simp
                first | done | with_reducible rfl
              refine held_take (i := 21) (d := 25) (v := ?_) rfl rfl (by kernel_rfl) (by kernel_rfl) (by kernel_rfl) (fun _ _ _ h => h) (by kernel_rfl) ?_ HS.out ?_
              rotate_left
              · intro wz hz
                obtain ⟨z0, z1, -⟩ := hz
                go_simp
                first | done | with_reducible rfl
              refine wpAnyH_done (by kernel_rfl) ?_ _
              try simp only [Act.put, List.setIfInBounds_toArray, List.set_cons_succ, List.set_cons_zero]
              go_wp2
              go_roundw
              case rel => exact ⟨j + 1, _, _, by omega, by go_num, rfl, rfl, by rw [ST.out, HX.out], by rw [HY.out]; exact EM.out.1, G.out.fresh (Fresh.refl _).drew⟩
              case measure => simp [intOf]; omega
            · obtain rfl : j = ps.length := by omega
              have hx' : tot ps = x := by rw [HX.out, List.take_length]
              have hy' : endV ps = y := by rw [HY.out]; exact end_en ps
              obtain ⟨r, hr⟩ : ∃ r, mayB 0 qs = r := ⟨_, rfl⟩
              have P1 := hide (fun v w h => may_to v ps true V.out.may w h)
              have P2 := hide (fun v w h => may_to v qs r hr w h)
              have P3 := hide (fun v w h => rmays_to v qs r hr w h)
              have P4 := hide (fun v w h => total_to v ps x hx' w h V.out.1)
              have P5 := hide (fun v w h => end_to v ps y hy' w h V.out.1)
              clear hx' hy' hr
              go_wp2_with fail
              refine (P1.out _ _ G.out.l.1).mono ?_
              rintro e w3 ⟨rfl, f3⟩
              have G3 := hide (G.out.fresh f3)
              clear f3 G
              go_wp2_with fail
              refine (P2.out _ _ (WS.out.fresh G3.out.el)).mono ?_
              rintro e w4 ⟨rfl, f4⟩
              have G4 := hide (G3.out.fresh f4)
              clear f4 G3
              go_wp2_with fail
              refine (P3.out _ _ (WS.out.fresh G4.out.el)).mono ?_
              rintro e w5 ⟨rfl, f5⟩
              have G5 := hide (G4.out.fresh f5)
              clear f5 G4
              go_wp2_with fail
              refine (P4.out _ _ G5.out.l.1).mono ?_
              rintro e w6 ⟨rfl, f6⟩
              have G6 := hide (G5.out.fresh f6)
              clear f6 G5
              go_wp2_with fail
              refine (P5.out _ _ G6.out.l.1).mono ?_
              rintro e w7 ⟨rfl, f7⟩
              have G7 := hide (G6.out.fresh f7)
              clear f7 G6
              go_wp2
              go_ret
              exact ⟨rfl, G7.out.el⟩
    · have l1 : (10 : Int) < (len2 : Int) := by omega
      clear hrow hsp h20
      go_enter Try.func3, Try.ntmps3
      go_wp2_with fail
      refine (begun8_true _).mono ?_
      rintro e w1 ⟨rfl, k1⟩
      have K1 := hide ((fresh_box w _ _).trans k1)
      clear k1
      go_wp2
      go_ret
      exact ⟨rfl, K1.out⟩
  · have l0 : (20 : Int) < (len : Int) := by omega
    clear hrow hsp
    go_enter Try.func3, Try.ntmps3
    go_wp2_with fail
    refine (begun8_true _).mono ?_
    rintro e w1 ⟨rfl, k1⟩
    have K1 := hide ((fresh_box w _ _).trans k1)
    clear k1
    go_wp2
    go_ret
    exact ⟨rfl, K1.out⟩

set_option linter.unusedVariables false
set_option maxRecDepth 100000 in
theorem spanAll_lifted (os : Os) (started : os.Started) (H : Type) (enc : TypeId × Value → H) :
    ReturnsInHanded {} Try.checked os 3 .any (Rows.spanAllSpec.pre6 enc Try.prog Try.f3 Rows.spanAllRow.domain false) (Rows.spanAllSpec.post enc Try.prog Try.f3 false true false false) := by
  refine returnsInHanded_of_change (C := Try.checked) own started (by kernel_rfl) Try.func3
    (ChangeSpec.witness6 (enc := enc) (C := Try.checked) false ⟨#[], #[.slice none 0 0, .slice none 0 0, .agg #[.int .i64 0, .int .i64 0], .int .u8 0, .int .u8 0], []⟩ 8 (by kernel_rfl) (by kernel_rfl) (by kernel_rfl) (by kernel_rfl)) ?_
  intro W base args ds gs before hval0 hW hcnd _
  have hval : ∀ (j : Nat) t v, Try.f3.params[j]? = some t → args[j]? = some v → Value.okWide Try.prog W .any base t v := hval0
  have hW' := hW
  obtain ⟨p, q, hA0, hV, rfl, hfz, hnd⟩ := hW
  have hA : DataW.TrodAll enc Try.prog W 0 (fun _ => true) true Try.f3.params.toList args.toList ds p := hA0
  rw [Try.params3] at hA hval
  obtain ⟨v0, vs0, d0, ds0, p0, q0, hargs, rfl, rfl, h0, r0⟩ := trodAll_cons hA
  obtain ⟨v1, vs1, d1, ds1, p1, q1, rfl, rfl, rfl, h1, r1⟩ := trodAll_cons r0
  obtain ⟨v2, vs2, d2, ds2, p2, q2, rfl, rfl, rfl, h2, r2⟩ := trodAll_cons r1
  obtain ⟨v3, vs3, d3, ds3, p3, q3, rfl, rfl, rfl, h3, r3⟩ := trodAll_cons r2
  obtain ⟨v4, vs4, d4, ds4, p4, q4, rfl, rfl, rfl, h4, r4⟩ := trodAll_cons r3
  obtain ⟨rfl, rfl, rfl⟩ := trodAll_nil r4
  obtain rfl : args = #[v0, v1, v2, v3, v4] := by cases args; simp_all
  obtain ⟨rfl, rfl⟩ := trodVars_none hV
  have lt0 : ∀ x ∈ p0, x.block < W.heap.size := by obtain ⟨m, hm⟩ := h0; exact DataW.trod_lt m _ _ _ hm
  have lt1 : ∀ x ∈ p1, x.block < W.heap.size := by obtain ⟨m, hm⟩ := h1; exact DataW.trod_lt m _ _ _ hm
  have lt2 : ∀ x ∈ p2, x.block < W.heap.size := by obtain ⟨m, hm⟩ := h2; exact DataW.trod_lt m _ _ _ hm
  have lt3 : ∀ x ∈ p3, x.block < W.heap.size := by obtain ⟨m, hm⟩ := h3; exact DataW.trod_lt m _ _ _ hm
  have lt4 : ∀ x ∈ p4, x.block < W.heap.size := by obtain ⟨m, hm⟩ := h4; exact DataW.trod_lt m _ _ _ hm
  obtain ⟨a0, len0, cap0, rfl⟩ := okWide_slice Try.underlying22 (hval 0 22 v0 rfl rfl)
  obtain ⟨z0, w0⟩ := isRow_of Try.underlying22 Try.underlying5 (by kernel_rfl) h0
  obtain ⟨a1, len1, cap1, rfl⟩ := okWide_slice Try.underlying23 (hval 1 23 v1 rfl rfl)
  obtain ⟨z1, w1⟩ := isSpans_of Try.underlying23 Try.underlying25 (by kernel_rfl) rfl rfl (by kernel_rfl) (by kernel_rfl) (by kernel_rfl) (by kernel_rfl) h1
  obtain ⟨xs2, len2, rfl, w2⟩ := open_structInts Try.underlying25 (by kernel_rfl) (by kernel_rfl) (by kernel_rfl) 2 (by kernel_rfl) (hval 2 25 v2 rfl rfl) h2
  obtain ⟨x2_0, x2_1, rfl⟩ := list2 len2
  have b2_0 := bounds_i64 (w2 x2_0 (by simp))
  have b2_1 := bounds_i64 (w2 x2_1 (by simp))
  obtain ⟨a3, rfl, rfl, rfl, w3⟩ := open_int Try.underlying5 (hval 3 5 v3 rfl rfl) h3
  obtain ⟨a4, rfl, rfl, rfl, w4⟩ := open_int Try.underlying5 (hval 4 5 v4 rfl rfl) h4
  clear hA0 hval0
  refine (spanAll_walk0 a0 len0 cap0 z0 a1 len1 cap1 z1 x2_0 b2_0.1 b2_0.2 x2_1 b2_1.1 b2_1.2 a3 (bounds_u8 w3).1 (bounds_u8 w3).2 a4 (bounds_u8 w4).1 (bounds_u8 w4).2 W w0 w1).mono fun e W' ⟨he, hg⟩ => ?_
  subst he
  exact ⟨_, rfl, _, _, _, [], _, [], hW', trodAll_mk1 (shut_bool Try.underlying4 _), (trodAll_cons_mk (Below.trod laidOut (by kernel_rfl) (of_decide_eq_true (by kernel_rfl)) h0 hg lt0) (trodAll_cons_mk (Below.trod laidOut (by kernel_rfl) (of_decide_eq_true (by kernel_rfl)) h1 hg lt1) (trodAll_cons_mk (Below.trod laidOut (by kernel_rfl) (of_decide_eq_true (by kernel_rfl)) h2 hg lt2) (trodAll_cons_mk (Below.trod laidOut (by kernel_rfl) (of_decide_eq_true (by kernel_rfl)) h3 hg lt3) (trodAll_cons_mk (Below.trod laidOut (by kernel_rfl) (of_decide_eq_true (by kernel_rfl)) h4 hg lt4) trodAll_mk0))))), rfl, hg.frame _, fun h => by cases h⟩

theorem spanAll_row : Rows.SpanAllSaid :=
  OpenClaim.holds_of_wide 3 Try.f3 rfl rfl rfl rfl rfl rfl rfl ⟨rfl, rfl, rfl, rfl, rfl⟩ rfl rfl rfl rfl rfl (by kernel_rfl) Try.func3 (by kernel_rfl)
    (of_decide_eq_true (by kernel_rfl)) (by unfold Func.isWrapper; first | (rw [if_pos (by decide +kernel)]; kernel_rfl) | (rw [if_neg (by decide +kernel)]; exact ⟨rfl, rfl⟩))
    (fun os started H enc _ => spanAll_lifted os started H enc)

theorem spanAll_holds : Rows.SpanAllSaid := spanAll_row
#print axioms spanAll_holds
end Go.Proofs.Ytcakghafjmdkoaa
