/- What the document's own Put answers (hodmanref8.Put), as a contract. -/
import Derived.Test.YtcakghafjmdkoaaRefSpanA
import Derived.Test.YtcakghafjmdkoaaHeld
namespace Go.Proofs.Ytcakghafjmdkoaa
open Go.RowKit

/-- a piece of what is handed over, and the one that is put -/
def HeldQ (W : World) (b o n : Nat) (p1 p2 s1 s2 : Int) (w : World) : Prop := w.cell? ⟨b, o, none⟩ = some (.int .i64 p1) ∧ w.cell? ⟨b, o + 1, none⟩ = some (.int .i64 p2) ∧ w.cell? ⟨n, 0, none⟩ = some (.int .i64 s1) ∧ w.cell? ⟨n, 1, none⟩ = some (.int .i64 s2) ∧ Fresh W w
theorem HeldQ.fresh {W : World} {b o n : Nat} {p1 p2 s1 s2 : Int} {w w' : World} (h : HeldQ W b o n p1 p2 s1 s2 w) (k : Fresh w w') : HeldQ W b o n p1 p2 s1 s2 w' := by
  obtain ⟨a, b, c, d, e⟩ := h
  exact ⟨(k.cell (World.block_lt_of_cell? _ _ a)).trans a, (k.cell (World.block_lt_of_cell? _ _ b)).trans b, (k.cell (World.block_lt_of_cell? _ _ c)).trans c, (k.cell (World.block_lt_of_cell? _ _ d)).trans d, e.trans k⟩

/-- what has been laid of the first j -/
def outV (ps : List Pc) (s : Pc) (j : Nat) : List Pc := if aheadN ps s.1 < j then ps.take (aheadN ps s.1) ++ s :: (ps.take j).drop (aheadN ps s.1) else ps.take j
theorem outV_zero (ps : List Pc) (s : Pc) : outV ps s 0 = [] := by unfold outV; rw [if_neg (by omega)]; rfl
theorem outV_length (ps : List Pc) (s : Pc) (j : Nat) : (outV ps s j).length ≤ ps.length + 1 := by
  unfold outV
  split
  · simp; omega
  · simp; omega
theorem outV_below {ps : List Pc} {s : Pc} {j : Nat} (hj : j < ps.length) (h : j < aheadN ps s.1) : outV ps s (j + 1) = outV ps s j ++ [nth ps j] := by
  unfold outV; rw [if_neg (by omega), if_neg (by omega), take_nth hj]
theorem outV_at {ps : List Pc} {s : Pc} {j : Nat} (hj : j < ps.length) (h : j = aheadN ps s.1) : outV ps s (j + 1) = (outV ps s j ++ [s]) ++ [nth ps j] := by
  unfold outV
  rw [if_pos (by omega), if_neg (by omega), ← h, take_nth hj]
  have hl : (ps.take j).length = j := by rw [List.length_take]; omega
  rw [List.drop_append_of_le_length (by omega), List.drop_eq_nil_of_le (by omega)]
  simp
theorem outV_above {ps : List Pc} {s : Pc} {j : Nat} (hj : j < ps.length) (h : aheadN ps s.1 < j) : outV ps s (j + 1) = outV ps s j ++ [nth ps j] := by
  unfold outV
  have hl : (ps.take j).length = j := by rw [List.length_take]; omega
  rw [if_pos (by omega), if_pos h, take_nth hj, List.drop_append_of_le_length (by omega)]
  simp
theorem outV_end (ps : List Pc) (s : Pc) (h : aheadN ps s.1 < ps.length) : outV ps s ps.length = insV ps s := by
  unfold outV insV; rw [if_pos h, List.take_length]
theorem outV_last (ps : List Pc) (s : Pc) (h : ¬ aheadN ps s.1 < ps.length) : outV ps s ps.length ++ [s] = insV ps s := by
  have : aheadN ps s.1 = ps.length := by have := ahead_le ps s.1; omega
  unfold outV insV; rw [if_neg h, this, List.take_length, List.drop_length]
theorem outV_in {ps : List Pc} {s : Pc} (h : ∀ p ∈ ps, In64 p) (hs : In64 s) (j : Nat) : ∀ p ∈ outV ps s j, In64 p := by
  intro p hp
  unfold outV at hp
  split at hp
  · rcases List.mem_append.1 hp with hp | hp
    · exact h p (List.mem_of_mem_take hp)
    · rcases List.mem_cons.1 hp with rfl | hp
      · exact hs
      · exact h p (List.mem_of_mem_take (List.mem_of_mem_drop hp))
  · exact h p (List.mem_of_mem_take hp)
/-- one more -/
theorem own_push {w' : World} {base : Nat} {v' : Value} {ps : List Pc} {p1 p2 : Int} (hown : w'.ownsRow base 25 2 v' (ps.length + 1) (svals ps ++ [.int .i64 p1, .int .i64 p2])) : OwnS w' base v' (ps ++ [(p1, p2)]) := by
  unfold OwnS
  rw [svals_append, List.length_append]
  exact hown
theorem one_news (w : World) (s1 s2 : Int) : ∀ j u, [Value.int .i64 s1, .int .i64 s2][j]? = some u → (w.alloc (.cells #[.int .i64 s1, .int .i64 s2] 25)).cell? ((⟨w.heap.size, 0, none⟩ : Addr).add j) = some u := by
  intro j u hu
  have hb := heap_alloc_new w (.cells #[.int .i64 s1, .int .i64 s2] 25 (0, 0))
  rw [Go.WideShapes.add_plain, Nat.zero_add]
  match j, hu with
  | 0, hu => exact cell_block hb 0 _ hu
  | 1, hu => exact cell_block hb 1 _ hu
  | j + 2, hu => simp at hu
theorem one_one (s1 s2 : Int) : ∀ u ∈ [Value.int .i64 s1, .int .i64 s2], u.oneCell' = true := by
  intro u hu
  simp at hu
  rcases hu with rfl | rfl <;> rfl
theorem OwnS.grown {w w1 : World} {base : Nat} {W : World} {v : Value} {ps : List Pc} (h : OwnS w base v ps) (hW : W.heap.size ≤ base) (f : Fresh W w) (hg : w.grownBy w1 v.ownBlock) : Fresh W w1 :=
  f.grown hg f.size fun i hi => Nat.le_trans hW (h.block i hi)

set_option maxHeartbeats 2000000 in
theorem rput_any (v : Value) (ps : List Pc) (s1 s2 : Int) (w : World) (h : SpansIn w v ps) (hv : Val ps) (hl : ps.length ≤ 1000000) (hin : In64 (s1, s2)) :
    Calls Try.prog 10 #[v, .agg #[.int .i64 s1, .int .i64 s2]] w fun e w' => ∃ u, e = .returned (.tuple #[u, .bool (putB ps (s1, s2))]) ∧ SpansIn w' u (putL ps (s1, s2)) ∧ Fresh w w' ∧ ((putB ps (s1, s2) = false ∧ u = v) ∨ OwnS w' w.heap.size u (putL ps (s1, s2))) := by
  obtain ⟨i0, hi, hz0, hz1, hz2⟩ := infoOf infoSpan
  obtain ⟨n, hn⟩ : ∃ n, n = w.heap.size := ⟨_, rfl⟩
  obtain ⟨W1, hW1⟩ : ∃ W1, W1 = w.alloc (.cells #[.int .i64 s1, .int .i64 s2] 25) := ⟨_, rfl⟩
  have FW := hide (show Fresh w W1 by subst hW1; exact fresh_box _ _ _)
  have BB : W1.heap[n]? = some (.cells #[.int .i64 s1, .int .i64 s2] 25 (0, 0)) := by subst hW1; rw [hn]; exact heap_alloc_new w _
  have s0 : W1.cell? ⟨n, 0, none⟩ = some (.int .i64 s1) := cell_block BB 0 _ rfl
  have s01 : W1.cell? ⟨n, 1, none⟩ = some (.int .i64 s2) := cell_block BB 1 _ rfl
  have S0 := hide s0
  have S1 := hide s01
  have SB := hide (show n < W1.heap.size by subst hW1; rw [hn]; simp)
  have H1 := hide (h.fresh FW.out)
  have HN := hide hn
  have HW := hide hW1
  have HV := hide hv
  have I64 := hide h.1.in64
  have LE := hide hl
  clear BB hn hW1 hv
  cases ha : aloneB (s1, s2) with
  | false =>
    have HB := hide (show putB ps (s1, s2) = false by unfold putB; rw [ha]; rfl)
    have HL := hide (putL_no HB.out)
    have HA := hide (fun w => rmay_to (s1, s2) false ha w hin)
    clear ha
    go_enter Try.func10, Try.ntmps10
    go_wp2_with fail
    rw [← HW.out, ← HN.out]
    refine (HA.out W1).mono ?_
    rintro e w1 ⟨rfl, hw1⟩
    have F1 := hide (show Fresh W1 w1 by rw [hw1]; exact fresh_box _ _ _)
    clear hw1
    go_wp2
    go_ret2
    exact ⟨v, by rw [HB.out]; rfl, by rw [HL.out]; exact H1.out.fresh F1.out, FW.out.trans F1.out, .inl ⟨HB.out, rfl⟩⟩
  | true =>
    have HA := hide (fun w => rmay_to (s1, s2) true ha w hin)
    have BS : Hid (1 ≤ s2 ∧ 0 ≤ s1 ∧ s1 + s2 ≤ 1099511627776) := (alone_iff (s1, s2)).1 ha
    have HAL := hide ha
    obtain ⟨a, cap, rfl, _, hl2, hl3, h4, hn0, hc⟩ := h.1
    have l0 : (0 : Int) ≤ (ps.length : Int) := by omega
    have l1 : (ps.length : Int) ≤ 1000000 := by omega
    clear ha h hl2 hl3 h4 hn0 hc hl
    go_enter Try.func10, Try.ntmps10
    go_wp2_with fail
    rw [← HW.out, ← HN.out]
    refine (HA.out W1).mono ?_
    rintro e w1 ⟨rfl, hw1⟩
    have F1 := hide (show Fresh W1 w1 by rw [hw1]; exact fresh_box _ _ _)
    clear hw1 s0 s01
    go_wp2
    go_loopw [6, 7, 8] (fun out pt i wr => ∃ j : Nat, j ≤ ps.length ∧ i = .int .i64 (j : Int) ∧ pt = .bool (decide (aheadN ps s1 < j)) ∧ OwnS wr W1.heap.size out (outV ps (s1, s2) j) ∧ (∀ t, t < j → overB (nth ps t) (s1, s2) = false) ∧ Fresh W1 wr) (fun _ _ i _ => (ps.length - intOf i).toNat)
    case atStart => exact ⟨0, Nat.zero_le _, rfl, rfl, by rw [outV_zero]; exact OwnS.nil _ _, fun t ht => by omega, F1.out⟩
    case round =>
      obtain ⟨j, hj, rfl, rfl, ho, hall, hf⟩ := hrel
      have O := hide ho
      have F := hide hf
      have A := hide hall
      clear ho hf hall
      by_cases g : j < ps.length
      · have g' : (j : Int) < (ps.length : Int) := by omega
        have j0 : (0 : Int) ≤ (j : Int) := by omega
        obtain ⟨a', cap', e, _, _, _, _, _, hc⟩ := H1.out.1
        cases e
        obtain ⟨b, o, rfl, k0, k1⟩ := hc j g
        have BW : Hid (b < W1.heap.size) := World.block_lt_of_cell? _ _ k0
        have c0 := (F.out.cell BW.out).trans k0
        have c1 := (F.out.cell BW.out).trans k1
        have C0 := hide k0
        have C1 := hide k1
        clear k0 k1
        have y0 := (F.out.cell SB.out).trans S0.out
        have y1 := (F.out.cell SB.out).trans S1.out
        clear hc
        have HP := hide (HV.out.pos g)
        have AT := hide (fun h => any_true (s := (s1, s2)) g h)
        have A2 := hide (show overB (nth ps j) (s1, s2) = false → ∀ t, t < j + 1 → overB (nth ps t) (s1, s2) = false from fun h t ht => by
          rcases Nat.lt_or_ge t j with h' | h'
          · exact A.out t h'
          · rw [show t = j by omega]; exact h)
        have AL := hide (show j < aheadN ps s1 → (nth ps j).1 < s1 from ahead_lt ps s1 j)
        have AE := hide (show j = aheadN ps s1 → s1 ≤ (nth ps j).1 from fun e => by have := ahead_at ps s1 (by omega); rw [← e] at this; exact this)
        have OB := hide (outV_below (s := (s1, s2)) g)
        have OT := hide (outV_at (s := (s1, s2)) g)
        have OA := hide (outV_above (s := (s1, s2)) g)
        generalize nth ps j = p at *
        obtain ⟨p1, p2⟩ := p
        simp only at c0 c1 C0 C1 AL AE OB OT OA
        have BP : Hid (1 ≤ p2 ∧ 0 ≤ p1 ∧ p1 + p2 ≤ 1099511627776) := HP.out
        have OV := hide (fun w => rover_any p1 p2 s1 s2 w (by have := BP.out; omega) (by have := BP.out; omega) BP.out.2.2 (by have := BS.out; omega) (by have := BS.out; omega) BS.out.2.2)
        clear HP
        have HS : Hid (HeldQ W1 b (o + j * 2) n p1 p2 s1 s2 wr.drew) := ⟨c0, c1, y0, y1, F.out.drew⟩
        clear c0 c1 y0 y1
        cases ho : overB (p1, p2) (s1, s2) with
        | true =>
          have HO := hide ho
          have N := hide (AT.out ho)
          have HB := hide (show putB ps (s1, s2) = false by unfold putB; rw [HAL.out, N.out]; rfl)
          have HL := hide (putL_no HB.out)
          clear ho
          generalize decide (aheadN ps s1 < j) = fl at *
          go_wp2_with fail
          refine wp_region_held (S := HeldQ W1 b (o + j * 2) n p1 p2 s1 s2) (by kernel_rfl) ?_
          change wpAnyH _ _ _ _ _ _ _ _ (World.drew _)
          refine held_take (i := 0) (d := 19) (v := ?_) rfl rfl (by kernel_rfl) (by kernel_rfl) (by kernel_rfl) (fun _ _ _ h => h) (by kernel_rfl) ?_ HS.out ?_
          rotate_left
          · intro wz hz
            obtain ⟨z0, z1, z2, z3, -⟩ := hz
            go_simp
            first | done | with_reducible rfl
          refine held_take (i := 1) (d := 20) (v := ?_) rfl rfl (by kernel_rfl) (by kernel_rfl) (by kernel_rfl) (fun _ _ _ h => h) (by kernel_rfl) ?_ HS.out ?_
          rotate_left
          · intro wz hz
            obtain ⟨z0, z1, z2, z3, -⟩ := hz
            go_simp
            first | done | with_reducible rfl
          refine held_take (i := 2) (d := 21) (v := ?_) rfl rfl (by kernel_rfl) (by kernel_rfl) (by kernel_rfl) (fun _ _ _ h => h) (by kernel_rfl) ?_ HS.out ?_
          rotate_left
          · intro wz hz
            obtain ⟨z0, z1, z2, z3, -⟩ := hz
            go_simp
            first | done | with_reducible rfl
          refine held_take (i := 3) (d := 22) (v := ?_) rfl rfl (by kernel_rfl) (by kernel_rfl) (by kernel_rfl) (fun _ _ _ h => h) (by kernel_rfl) ?_ HS.out ?_
          rotate_left
          · intro wz hz
            obtain ⟨z0, z1, z2, z3, -⟩ := hz
            go_simp
            first | done | with_reducible rfl
          refine held_take (i := 4) (d := 23) (v := ?_) rfl rfl (by kernel_rfl) (by kernel_rfl) (by kernel_rfl) (fun _ _ _ h => h) (by kernel_rfl) ?_ HS.out ?_
          rotate_left
          · intro wz hz
            obtain ⟨z0, z1, z2, z3, -⟩ := hz
            go_simp
            first | done | with_reducible rfl
          refine wpAnyH_ready (rs := [5]) (by kernel_rfl) (by simp) ?_
          refine AllReadyH.cons rfl (fun K hK => ?_) AllReadyH.nil
          go_simp
          go_wp2_with fail
          refine (OV.out _).mono ?_; rintro e w2 ⟨rfl, k2⟩; rw [HO.out]; have HS' := hide (HS.out.fresh k2); have OC := hide ((O.out.fresh (Fresh.refl wr).drew).fresh k2); clear HS k2; have HS := HS'; clear HS'
          refine hK.out _ _ HS.out (fun _ => ?_)
          clear hK K
          refine wpAnyH_done (by kernel_rfl) ?_ _
          try simp only [Act.put, List.setIfInBounds_toArray, List.set_cons_succ, List.set_cons_zero]
          have FC := hide HS.out.2.2.2.2
          obtain ⟨z0, z1, z2, z3, -⟩ := HS.out
          have bl : b < w2.heap.size := World.block_lt_of_cell? _ _ z0
          have nl : n < w2.heap.size := World.block_lt_of_cell? _ _ z2
          go_wp2
          go_ret2
          exact ⟨_, by rw [HB.out]; rfl, by rw [HL.out]; exact H1.out.fresh HS.out.2.2.2.2, FW.out.trans HS.out.2.2.2.2, .inl ⟨HB.out, rfl⟩⟩
        | false =>
          have HO := hide ho
          have NX := hide (A2.out ho)
          have OF : Hid (s1 + s2 ≤ p1 ∨ p1 + p2 ≤ s1) := (over_false (p1, p2) (s1, s2)).1 ho
          have LJ := hide (outV_length ps (s1, s2) j)
          have m1 : (outV ps (s1, s2) j).length + 1 ≤ maxLen := by have := LJ.out; have := LE.out; unfold maxLen; omega
          have m2 : ((outV ps (s1, s2) j).length + 1) * 16 ≤ 140737488355328 := by have := LJ.out; have := LE.out; omega
          clear ho
          generalize hfl : decide (aheadN ps s1 < j) = fl at *
          rcases Nat.lt_trichotomy (aheadN ps s1) j with hk | hk | hk
          · obtain rfl : fl = true := by rw [← hfl]; exact decide_eq_true hk
            have FN := hide (show decide (aheadN ps s1 < j + 1) = true from decide_eq_true (by omega))
            have OE := hide (OA.out hk)
            clear hfl hk
            go_wp2_with fail
            refine wp_region_held (S := HeldQ W1 b (o + j * 2) n p1 p2 s1 s2) (by kernel_rfl) ?_
            change wpAnyH _ _ _ _ _ _ _ _ (World.drew _)
            refine held_take (i := 0) (d := 19) (v := ?_) rfl rfl (by kernel_rfl) (by kernel_rfl) (by kernel_rfl) (fun _ _ _ h => h) (by kernel_rfl) ?_ HS.out ?_
            rotate_left
            · intro wz hz
              obtain ⟨z0, z1, z2, z3, -⟩ := hz
              go_simp
              first | done | with_reducible rfl
            refine held_take (i := 1) (d := 20) (v := ?_) rfl rfl (by kernel_rfl) (by kernel_rfl) (by kernel_rfl) (fun _ _ _ h => h) (by kernel_rfl) ?_ HS.out ?_
            rotate_left
            · intro wz hz
              obtain ⟨z0, z1, z2, z3, -⟩ := hz
              go_simp
              first | done | with_reducible rfl
            refine held_take (i := 2) (d := 21) (v := ?_) rfl rfl (by kernel_rfl) (by kernel_rfl) (by kernel_rfl) (fun _ _ _ h => h) (by kernel_rfl) ?_ HS.out ?_
            rotate_left
            · intro wz hz
              obtain ⟨z0, z1, z2, z3, -⟩ := hz
              go_simp
              first | done | with_reducible rfl
            refine held_take (i := 3) (d := 22) (v := ?_) rfl rfl (by kernel_rfl) (by kernel_rfl) (by kernel_rfl) (fun _ _ _ h => h) (by kernel_rfl) ?_ HS.out ?_
            rotate_left
            · intro wz hz
              obtain ⟨z0, z1, z2, z3, -⟩ := hz
              go_simp
              first | done | with_reducible rfl
            refine held_take (i := 4) (d := 23) (v := ?_) rfl rfl (by kernel_rfl) (by kernel_rfl) (by kernel_rfl) (fun _ _ _ h => h) (by kernel_rfl) ?_ HS.out ?_
            rotate_left
            · intro wz hz
              obtain ⟨z0, z1, z2, z3, -⟩ := hz
              go_simp
              first | done | with_reducible rfl
            refine wpAnyH_ready (rs := [5]) (by kernel_rfl) (by simp) ?_
            refine AllReadyH.cons rfl (fun K hK => ?_) AllReadyH.nil
            go_simp
            go_wp2_with fail
            refine (OV.out _).mono ?_; rintro e w2 ⟨rfl, k2⟩; rw [HO.out]; have HS' := hide (HS.out.fresh k2); have OC := hide ((O.out.fresh (Fresh.refl wr).drew).fresh k2); clear HS k2; have HS := HS'; clear HS'
            refine hK.out _ _ HS.out (fun _ => ?_)
            clear hK K
            refine wpAnyH_done (by kernel_rfl) ?_ _
            try simp only [Act.put, List.setIfInBounds_toArray, List.set_cons_succ, List.set_cons_zero]
            have FC := hide HS.out.2.2.2.2
            obtain ⟨z0, z1, z2, z3, -⟩ := HS.out
            have bl : b < w2.heap.size := World.block_lt_of_cell? _ _ z0
            have nl : n < w2.heap.size := World.block_lt_of_cell? _ _ z2
            go_wp2_with fail
            go_quiet (fail)
            generalize hwd : World.drewN w2 _ = wd
            have KD := hide (show Fresh w2 wd by rw [← hwd]; exact Fresh.drewN _ _)
            have OD := hide (OC.out.fresh KD.out)
            have FD := hide (FC.out.trans KD.out)
            have q0 := (KD.out.cell bl).trans z0
            have q1 := (KD.out.cell bl).trans z1
            have q2 := (KD.out.cell nl).trans z2
            have q3 := (KD.out.cell nl).trans z3
            have bl' : b < wd.heap.size := World.block_lt_of_cell? _ _ q0
            have nl' : n < wd.heap.size := World.block_lt_of_cell? _ _ q2
            have m3 : W1.heap.size ≤ (wd.alloc (.cells #[.int .i64 p1, .int .i64 p2] 25)).heap.size := by have := FD.out.size; simp; omega
            have m4 : W1.heap.size ≤ (wd.alloc (.cells #[.int .i64 s1, .int .i64 s2] 25)).heap.size := by have := FD.out.size; simp; omega
            clear hwd z0 z1 z2 z3 bl nl
            go_wp2_with (at_builtin; refine wpList_append_own _ rfl _ _ 23 rfl W1.heap.size 25 i0 (.agg #[.int .i64 0, .int .i64 0]) 2 16 Try.underlying23 hi hz0 hz1 hz2 rfl (by decide) _ _ _ rfl (OD.out.fresh (fresh_box _ _ _)) ⟨_, 0, none⟩ 1 1 [.int .i64 p1, .int .i64 p2] rfl rfl (one_news _ _ _) (one_one _ _) m1 m2 m3 ?_; intro v1 w3 hown hgrow _)
            have O2 := hide (show OwnS w3 W1.heap.size v1 (outV ps (s1, s2) (j + 1)) by rw [OE.out]; exact own_push hown)
            have F2 := hide (show Fresh W1 w3 from (OD.out.fresh (fresh_box _ _ _)).grown (Nat.le_refl _) (fresh_more FD.out _ _) hgrow)
            clear hown hgrow
            go_roundw
            case rel => exact ⟨j + 1, by omega, by go_num, by rw [FN.out], O2.out, NX.out, F2.out⟩
            case measure => simp [intOf]; omega
          · obtain rfl : fl = false := by rw [← hfl]; exact decide_eq_false (by omega)
            have FN := hide (show decide (aheadN ps s1 < j + 1) = true from decide_eq_true (by omega))
            have OE := hide (OT.out hk.symm)
            have gt : s1 < p1 := by have := AE.out hk.symm; have := OF.out; have := BP.out; have := BS.out; omega
            have m5 : (outV ps (s1, s2) j ++ [(s1, s2)]).length + 1 ≤ maxLen := by have := LJ.out; have := LE.out; unfold maxLen; simp; omega
            have m6 : ((outV ps (s1, s2) j ++ [(s1, s2)]).length + 1) * 16 ≤ 140737488355328 := by have := LJ.out; have := LE.out; simp; omega
            clear hfl hk
            go_wp2_with fail
            refine wp_region_held (S := HeldQ W1 b (o + j * 2) n p1 p2 s1 s2) (by kernel_rfl) ?_
            change wpAnyH _ _ _ _ _ _ _ _ (World.drew _)
            refine held_take (i := 0) (d := 19) (v := ?_) rfl rfl (by kernel_rfl) (by kernel_rfl) (by kernel_rfl) (fun _ _ _ h => h) (by kernel_rfl) ?_ HS.out ?_
            rotate_left
            · intro wz hz
              obtain ⟨z0, z1, z2, z3, -⟩ := hz
              go_simp
              first | done | with_reducible rfl
            refine held_take (i := 1) (d := 20) (v := ?_) rfl rfl (by kernel_rfl) (by kernel_rfl) (by kernel_rfl) (fun _ _ _ h => h) (by kernel_rfl) ?_ HS.out ?_
            rotate_left
            · intro wz hz
              obtain ⟨z0, z1, z2, z3, -⟩ := hz
              go_simp
              first | done | with_reducible rfl
            refine held_take (i := 2) (d := 21) (v := ?_) rfl rfl (by kernel_rfl) (by kernel_rfl) (by kernel_rfl) (fun _ _ _ h => h) (by kernel_rfl) ?_ HS.out ?_
            rotate_left
            · intro wz hz
              obtain ⟨z0, z1, z2, z3, -⟩ := hz
              go_simp
              first | done | with_reducible rfl
            refine held_take (i := 3) (d := 22) (v := ?_) rfl rfl (by kernel_rfl) (by kernel_rfl) (by kernel_rfl) (fun _ _ _ h => h) (by kernel_rfl) ?_ HS.out ?_
            rotate_left
            · intro wz hz
              obtain ⟨z0, z1, z2, z3, -⟩ := hz
              go_simp
              first | done | with_reducible rfl
            refine held_take (i := 4) (d := 23) (v := ?_) rfl rfl (by kernel_rfl) (by kernel_rfl) (by kernel_rfl) (fun _ _ _ h => h) (by kernel_rfl) ?_ HS.out ?_
            rotate_left
            · intro wz hz
              obtain ⟨z0, z1, z2, z3, -⟩ := hz
              go_simp
              first | done | with_reducible rfl
            refine wpAnyH_ready (rs := [5]) (by kernel_rfl) (by simp) ?_
            refine AllReadyH.cons rfl (fun K hK => ?_) AllReadyH.nil
            go_simp
            go_wp2_with fail
            refine (OV.out _).mono ?_; rintro e w2 ⟨rfl, k2⟩; rw [HO.out]; have HS' := hide (HS.out.fresh k2); have OC := hide ((O.out.fresh (Fresh.refl wr).drew).fresh k2); clear HS k2; have HS := HS'; clear HS'
            refine hK.out _ _ HS.out (fun _ => ?_)
            clear hK K
            refine wpAnyH_done (by kernel_rfl) ?_ _
            try simp only [Act.put, List.setIfInBounds_toArray, List.set_cons_succ, List.set_cons_zero]
            have FC := hide HS.out.2.2.2.2
            obtain ⟨z0, z1, z2, z3, -⟩ := HS.out
            have bl : b < w2.heap.size := World.block_lt_of_cell? _ _ z0
            have nl : n < w2.heap.size := World.block_lt_of_cell? _ _ z2
            go_wp2_with fail
            go_quiet (fail)
            generalize hwd : World.drewN w2 _ = wd
            have KD := hide (show Fresh w2 wd by rw [← hwd]; exact Fresh.drewN _ _)
            have OD := hide (OC.out.fresh KD.out)
            have FD := hide (FC.out.trans KD.out)
            have q0 := (KD.out.cell bl).trans z0
            have q1 := (KD.out.cell bl).trans z1
            have q2 := (KD.out.cell nl).trans z2
            have q3 := (KD.out.cell nl).trans z3
            have bl' : b < wd.heap.size := World.block_lt_of_cell? _ _ q0
            have nl' : n < wd.heap.size := World.block_lt_of_cell? _ _ q2
            have m3 : W1.heap.size ≤ (wd.alloc (.cells #[.int .i64 p1, .int .i64 p2] 25)).heap.size := by have := FD.out.size; simp; omega
            have m4 : W1.heap.size ≤ (wd.alloc (.cells #[.int .i64 s1, .int .i64 s2] 25)).heap.size := by have := FD.out.size; simp; omega
            clear hwd z0 z1 z2 z3 bl nl
            go_wp2_with (first | (at_builtin; refine wpList_append_own _ rfl _ _ 23 rfl W1.heap.size 25 i0 (.agg #[.int .i64 0, .int .i64 0]) 2 16 Try.underlying23 hi hz0 hz1 hz2 rfl (by decide) _ _ _ rfl (OD.out.fresh (fresh_box _ _ _)) ⟨_, 0, none⟩ 1 1 [.int .i64 s1, .int .i64 s2] rfl rfl (one_news _ _ _) (one_one _ _) m1 m2 m4 ?_; intro v1 w3 hown hgrow _; have OX := hide (own_push hown); have FX := hide (show Fresh W1 w3 from (OD.out.fresh (fresh_box _ _ _)).grown (Nat.le_refl _) (fresh_more FD.out _ _) hgrow); have x0 := (FX.out.cell BW.out).trans C0.out; have x1 := (FX.out.cell BW.out).trans C1.out; have x2 := World.block_lt_of_cell? _ _ x0; clear hown hgrow q0 q1 q2 q3) | (at_builtin; refine wpList_append_own _ rfl _ _ 23 rfl W1.heap.size 25 i0 (.agg #[.int .i64 0, .int .i64 0]) 2 16 Try.underlying23 hi hz0 hz1 hz2 rfl (by decide) _ _ _ rfl (OX.out.fresh (fresh_box _ _ _)) ⟨_, 0, none⟩ 1 1 [.int .i64 p1, .int .i64 p2] rfl rfl (one_news _ _ _) (one_one _ _) m5 m6 (by have := FX.out.size; simp; omega) ?_; intro v2 w4 hown2 hgrow2 _))
            have O2 := hide (show OwnS w4 W1.heap.size v2 (outV ps (s1, s2) (j + 1)) by rw [OE.out]; exact own_push hown2)
            have F2 := hide (show Fresh W1 w4 from (OX.out.fresh (fresh_box _ _ _)).grown (Nat.le_refl _) (fresh_more FX.out _ _) hgrow2)
            clear hown2 hgrow2
            go_roundw
            case rel => exact ⟨j + 1, by omega, by go_num, by rw [FN.out], O2.out, NX.out, F2.out⟩
            case measure => simp [intOf]; omega
          · obtain rfl : fl = false := by rw [← hfl]; exact decide_eq_false (by omega)
            have FN := hide (show decide (aheadN ps s1 < j + 1) = false from decide_eq_false (by omega))
            have OE := hide (OB.out hk)
            have lt : p1 < s1 := AL.out hk
            clear hfl hk
            go_wp2_with fail
            refine wp_region_held (S := HeldQ W1 b (o + j * 2) n p1 p2 s1 s2) (by kernel_rfl) ?_
            change wpAnyH _ _ _ _ _ _ _ _ (World.drew _)
            refine held_take (i := 0) (d := 19) (v := ?_) rfl rfl (by kernel_rfl) (by kernel_rfl) (by kernel_rfl) (fun _ _ _ h => h) (by kernel_rfl) ?_ HS.out ?_
            rotate_left
            · intro wz hz
              obtain ⟨z0, z1, z2, z3, -⟩ := hz
              go_simp
              first | done | with_reducible rfl
            refine held_take (i := 1) (d := 20) (v := ?_) rfl rfl (by kernel_rfl) (by kernel_rfl) (by kernel_rfl) (fun _ _ _ h => h) (by kernel_rfl) ?_ HS.out ?_
            rotate_left
            · intro wz hz
              obtain ⟨z0, z1, z2, z3, -⟩ := hz
              go_simp
              first | done | with_reducible rfl
            refine held_take (i := 2) (d := 21) (v := ?_) rfl rfl (by kernel_rfl) (by kernel_rfl) (by kernel_rfl) (fun _ _ _ h => h) (by kernel_rfl) ?_ HS.out ?_
            rotate_left
            · intro wz hz
              obtain ⟨z0, z1, z2, z3, -⟩ := hz
              go_simp
              first | done | with_reducible rfl
            refine held_take (i := 3) (d := 22) (v := ?_) rfl rfl (by kernel_rfl) (by kernel_rfl) (by kernel_rfl) (fun _ _ _ h => h) (by kernel_rfl) ?_ HS.out ?_
            rotate_left
            · intro wz hz
              obtain ⟨z0, z1, z2, z3, -⟩ := hz
              go_simp
              first | done | with_reducible rfl
            refine held_take (i := 4) (d := 23) (v := ?_) rfl rfl (by kernel_rfl) (by kernel_rfl) (by kernel_rfl) (fun _ _ _ h => h) (by kernel_rfl) ?_ HS.out ?_
            rotate_left
            · intro wz hz
              obtain ⟨z0, z1, z2, z3, -⟩ := hz
              go_simp
              first | done | with_reducible rfl
            refine wpAnyH_ready (rs := [5]) (by kernel_rfl) (by simp) ?_
            refine AllReadyH.cons rfl (fun K hK => ?_) AllReadyH.nil
            go_simp
            go_wp2_with fail
            refine (OV.out _).mono ?_; rintro e w2 ⟨rfl, k2⟩; rw [HO.out]; have HS' := hide (HS.out.fresh k2); have OC := hide ((O.out.fresh (Fresh.refl wr).drew).fresh k2); clear HS k2; have HS := HS'; clear HS'
            refine hK.out _ _ HS.out (fun _ => ?_)
            clear hK K
            refine wpAnyH_done (by kernel_rfl) ?_ _
            try simp only [Act.put, List.setIfInBounds_toArray, List.set_cons_succ, List.set_cons_zero]
            have FC := hide HS.out.2.2.2.2
            obtain ⟨z0, z1, z2, z3, -⟩ := HS.out
            have bl : b < w2.heap.size := World.block_lt_of_cell? _ _ z0
            have nl : n < w2.heap.size := World.block_lt_of_cell? _ _ z2
            go_wp2_with fail
            go_quiet (fail)
            generalize hwd : World.drewN w2 _ = wd
            have KD := hide (show Fresh w2 wd by rw [← hwd]; exact Fresh.drewN _ _)
            have OD := hide (OC.out.fresh KD.out)
            have FD := hide (FC.out.trans KD.out)
            have q0 := (KD.out.cell bl).trans z0
            have q1 := (KD.out.cell bl).trans z1
            have q2 := (KD.out.cell nl).trans z2
            have q3 := (KD.out.cell nl).trans z3
            have bl' : b < wd.heap.size := World.block_lt_of_cell? _ _ q0
            have nl' : n < wd.heap.size := World.block_lt_of_cell? _ _ q2
            have m3 : W1.heap.size ≤ (wd.alloc (.cells #[.int .i64 p1, .int .i64 p2] 25)).heap.size := by have := FD.out.size; simp; omega
            have m4 : W1.heap.size ≤ (wd.alloc (.cells #[.int .i64 s1, .int .i64 s2] 25)).heap.size := by have := FD.out.size; simp; omega
            clear hwd z0 z1 z2 z3 bl nl
            go_wp2_with (at_builtin; refine wpList_append_own _ rfl _ _ 23 rfl W1.heap.size 25 i0 (.agg #[.int .i64 0, .int .i64 0]) 2 16 Try.underlying23 hi hz0 hz1 hz2 rfl (by decide) _ _ _ rfl (OD.out.fresh (fresh_box _ _ _)) ⟨_, 0, none⟩ 1 1 [.int .i64 p1, .int .i64 p2] rfl rfl (one_news _ _ _) (one_one _ _) m1 m2 m3 ?_; intro v1 w3 hown hgrow _)
            have O2 := hide (show OwnS w3 W1.heap.size v1 (outV ps (s1, s2) (j + 1)) by rw [OE.out]; exact own_push hown)
            have F2 := hide (show Fresh W1 w3 from (OD.out.fresh (fresh_box _ _ _)).grown (Nat.le_refl _) (fresh_more FD.out _ _) hgrow)
            clear hown hgrow
            go_roundw
            case rel => exact ⟨j + 1, by omega, by go_num, by rw [FN.out], O2.out, NX.out, F2.out⟩
            case measure => simp [intOf]; omega
      · obtain rfl : j = ps.length := by omega
        have HB := hide ((put_iff ps (s1, s2)).2 ⟨HAL.out, any_false A.out⟩)
        have HL := hide (putL_yes HB.out)
        have IN := hide (val_ins HV.out HB.out).1.in64
        have IL := hide (ins_length ps (s1, s2))
        have y0 := (F.out.cell SB.out).trans S0.out
        have y1 := (F.out.cell SB.out).trans S1.out
        have nl : n < wr.heap.size := World.block_lt_of_cell? _ _ y0
        have LJ := hide (outV_length ps (s1, s2) ps.length)
        have m1 : (outV ps (s1, s2) ps.length).length + 1 ≤ maxLen := by have := LJ.out; have := LE.out; unfold maxLen; omega
        have m2 : ((outV ps (s1, s2) ps.length).length + 1) * 16 ≤ 140737488355328 := by have := LJ.out; have := LE.out; omega
        have m3 : W1.heap.size ≤ (wr.alloc (.cells #[.int .i64 s1, .int .i64 s2] 25)).heap.size := by have := F.out.size; simp; omega
        generalize hfl : decide (aheadN ps s1 < ps.length) = fl at *
        cases fl with
        | true =>
          have OE := hide (outV_end ps (s1, s2) (of_decide_eq_true hfl))
          clear hfl
          go_wp2
          go_ret2
          exact ⟨_, by rw [HB.out]; rfl, by rw [HL.out, ← OE.out]; exact O.out.at (by have := LJ.out; have := LE.out; omega) (by rw [OE.out]; exact IN.out), FW.out.trans F.out, .inr (by rw [HL.out, ← OE.out]; exact O.out.mono FW.out.size)⟩
        | false =>
          have OE := hide (outV_last ps (s1, s2) (of_decide_eq_false hfl))
          clear hfl
          go_wp2_with (at_builtin; refine wpList_append_own _ rfl _ _ 23 rfl W1.heap.size 25 i0 (.agg #[.int .i64 0, .int .i64 0]) 2 16 Try.underlying23 hi hz0 hz1 hz2 rfl (by decide) _ _ _ rfl (O.out.fresh (fresh_box _ _ _)) ⟨_, 0, none⟩ 1 1 [.int .i64 s1, .int .i64 s2] rfl rfl (one_news _ _ _) (one_one _ _) m1 m2 m3 ?_; intro v1 w3 hown hgrow _)
          have O2 := hide (show OwnS w3 W1.heap.size v1 (insV ps (s1, s2)) by rw [← OE.out]; exact own_push hown)
          have F2 := hide (show Fresh W1 w3 from (O.out.fresh (fresh_box _ _ _)).grown (Nat.le_refl _) (fresh_more F.out _ _) hgrow)
          clear hown hgrow
          go_ret2
          exact ⟨_, by rw [HB.out]; rfl, by rw [HL.out]; exact O2.out.at (by rw [IL.out]; have := LE.out; omega) IN.out, FW.out.trans F2.out, .inr (by rw [HL.out]; exact O2.out.mono FW.out.size)⟩
end Go.Proofs.Ytcakghafjmdkoaa
