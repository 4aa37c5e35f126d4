/- What the document's own Cut answers (hodmanref8.Cut), as a contract. -/
import Derived.Test.YtcakghafjmdkoaaSpanF
namespace Go.Proofs.Ytcakghafjmdkoaa
open Go.RowKit

theorem empty_next (w : World) (t : TypeId) {p : World → Prop} (h : ∀ w5, w5.ownsRow w.heap.size t 2 (.slice (some ⟨w.heap.size, 0, none⟩) 0 0) 0 [] → Fresh w w5 → p w5) : p (w.alloc (.cells #[] t)) :=
  h _ (World.ownsRow_lit w #[] 0 (Nat.le_refl _) (Nat.zero_le _) rfl) (fresh_box _ _ _)
theorem own_first {w' : World} {base : Nat} {v' : Value} {ps : List Pc} {m : Nat} (hm : m = ps.length) (hown : w'.ownsRow base 25 2 v' (0 + m) ([] ++ svals ps)) : OwnS w' base v' ps := by
  subst hm
  rw [Nat.zero_add, List.nil_append] at hown
  exact hown
theorem own_then {w' : World} {base : Nat} {v' : Value} {ps qs : List Pc} {m : Nat} (hm : m = qs.length) (hown : w'.ownsRow base 25 2 v' (ps.length + m) (svals ps ++ svals qs)) : OwnS w' base v' (ps ++ qs) := by
  subst hm
  unfold OwnS
  rw [svals_append, List.length_append]
  exact hown

set_option maxHeartbeats 1000000 in
theorem rcut_any (v : Value) (ps : List Pc) (x : Int) (w : World) (h : SpansIn w v ps) (hl : ps.length ≤ 1000000) :
    Calls Try.prog 12 #[v, .int .i64 x] w fun e w' => ∃ u, e = cutE u ps x ∧ SpansIn w' u (cutL ps x) ∧ Fresh w w' := by
  obtain ⟨i0, hi, hz0, hz1, hz2⟩ := infoOf infoSpan
  obtain ⟨R, hR⟩ : ∃ R, R = w.heap.size := ⟨_, rfl⟩
  obtain ⟨W1, hW1⟩ : ∃ W1, W1 = w.alloc (.cells #[.int .i64 0, .int .i64 0] 25) := ⟨_, rfl⟩
  have R1 := hide (show Res w R W1 from ⟨by subst hW1; rw [hR]; exact heap_alloc_new w _, by subst hW1; exact fresh_box _ _ _, by rw [hR]; exact Nat.le_refl _⟩)
  have HR := hide hR
  have HW := hide hW1
  have H1 := hide (h.fresh R1.out.el)
  have HH := hide h
  have I64 := hide h.1.in64
  have LE := hide hl
  obtain ⟨a, cap, rfl, _, hl2, hl3, h4, hn0, hc⟩ := h.1
  have l0 : (0 : Int) ≤ (ps.length : Int) := by omega
  have l1 : (ps.length : Int) ≤ 1000000 := by omega
  obtain ⟨r0, r1, r2, r3⟩ := R1.out.cells
  clear hR hW1 h hl2 hl3 h4 hn0 hc hl
  go_enter Try.func12, Try.ntmps12
  go_wp2
  rw [← HW.out, ← HR.out]
  go_loop [7] (fun i => ∃ j : Nat, j ≤ ps.length ∧ i = .int .i64 (j : Int) ∧ ∀ t, t < j → (nth ps t).1 ≠ x) (fun i => (ps.length - intOf i).toNat)
  case atStart => exact ⟨0, Nat.zero_le _, rfl, fun t ht => by omega⟩
  case round =>
    obtain ⟨i, hj, rfl, hall⟩ := hrel
    have A := hide hall
    clear hall
    by_cases g : i < ps.length
    · have i2 : (i : Int) < (ps.length : Int) := by omega
      have i1 : (0 : Int) ≤ (i : Int) := by omega
      rcases H1.out.cases with ⟨_, rfl⟩ | ⟨b, o, cap', e, h1, h2, h3, h4, hc⟩
      · simp at g
      cases e
      obtain ⟨c0, c1⟩ := hc i g
      rcases HH.out.cases with ⟨e, _⟩ | ⟨b'', o'', cap'', e, _, _, _, _, hc''⟩
      · cases e
      cases e
      obtain ⟨e0, e1⟩ := hc'' i g
      have b1 : b < W1.heap.size := World.block_lt_of_cell? _ _ c0
      by_cases hx : (nth ps i).1 = x
      · have CK := hide (cut_first g A.out hx)
        have CB := hide (show cutB ps x = true by unfold cutB; rw [CK.out]; simpa using g)
        have CP := hide (show cutP ps x = nth ps i by unfold cutP; rw [CK.out])
        have CL := hide (show cutL ps x = ps.take i ++ ps.drop (i + 1) by unfold cutL; rw [CK.out]; exact erase_eq i)
        have PT0 := hide (H1.out.take (k := i) (Nat.le_of_lt g))
        have PT1 := hide (H1.out.dropIf (k := i + 1) g)
        have T0 := hide (show i = (ps.take i).length by rw [List.length_take]; omega)
        have T1 := hide (show ps.length - (i + 1) = (ps.drop (i + 1)).length by rw [List.length_drop])
        obtain ⟨o', hA⟩ : ∃ o', (if cap = i + 1 then some (⟨b, o, none⟩ : Addr) else some ⟨b, o + (i + 1) * 2, none⟩) = some ⟨b, o', none⟩ := by split <;> exact ⟨_, rfl⟩
        rw [hA] at PT1
        generalize nth ps i = p at *
        obtain ⟨p1, p2⟩ := p
        simp only at c0 c1 e0 e1 hx
        subst hx
        have d1 : (p1 == p1) = true := by simp
        have i3 : (ps.length : Int) ≤ (cap : Int) := by omega
        have i4 : (cap : Int) ≤ 9223372036854775807 := by omega
        have i6 : i ≤ cap := by omega
        have i7 : i + 1 ≤ ps.length := by omega
        have i8 : IntKind.i64.wrap ((i : Int) + 1) = ((i + 1 : Nat) : Int) := wrap_next (by omega)
        have i9 : (0 : Int) ≤ (i : Int) + 1 := by omega
        have i10 : (i : Int) + 1 ≤ (ps.length : Int) := by omega
        have C0 := hide (show HeldC w b (o + i * 2) p1 p2 w from ⟨e0, e1, Fresh.refl _⟩)
        have HS : Hid (HeldC w b (o + i * 2) p1 p2 W1.drew) := C0.out.fresh R1.out.el.drew
        have RS : Hid (Res w R W1.drew) := R1.out.fresh (Fresh.refl _).drew
        have FD : Hid (Fresh W1 W1.drew) := (Fresh.refl _).drew
        have LL := hide (show (ps.take i ++ ps.drop (i + 1)).length ≤ 1048576 by have := LE.out; simp; omega)
        have IL := hide (show ∀ p ∈ ps.take i ++ ps.drop (i + 1), In64 p from fun p hp => by
          rcases List.mem_append.1 hp with hp | hp
          · exact I64.out p (List.mem_of_mem_take hp)
          · exact I64.out p (List.mem_of_mem_drop hp))
        clear hc h1 h2 h3 h4 e0 e1 hc''
        go_wp2_with fail
        refine wp_region_held (S := HeldC w b (o + i * 2) p1 p2) (by kernel_rfl) ?_
        change wpAnyH _ _ _ _ _ _ _ _ (World.drew _)
        generalize World.drew W1 = wd at HS RS FD ⊢
        clear r0 r1 r2 r3
        refine held_take (i := 1) (d := 22) (v := ?_) rfl rfl (by kernel_rfl) (by kernel_rfl) (by kernel_rfl) (fun _ _ _ h => h) (by rfl) ?_ HS.out ?_
        rotate_left
        · intro wz hz
          obtain ⟨z0, z1, -⟩ := hz
          go_simp
          first | done | with_reducible rfl
        refine held_take (i := 2) (d := 23) (v := ?_) rfl rfl (by kernel_rfl) (by kernel_rfl) (by kernel_rfl) (fun _ _ _ h => h) (by rfl) ?_ HS.out ?_
        rotate_left
        · intro wz hz
          obtain ⟨z0, z1, -⟩ := hz
          go_simp
          first | done | with_reducible rfl
        refine held_take (i := 3) (d := 24) (v := ?_) rfl rfl (by kernel_rfl) (by kernel_rfl) (by kernel_rfl) (fun _ _ _ h => h) (by rfl) ?_ HS.out ?_
        rotate_left
        · intro wz hz
          obtain ⟨z0, z1, -⟩ := hz
          go_simp
          first | done | with_reducible rfl
        refine held_take (i := 5) (d := 26) (v := ?_) rfl rfl (by kernel_rfl) (by kernel_rfl) (by kernel_rfl) (fun _ _ _ h => h) (by rfl) ?_ HS.out ?_
        rotate_left
        · intro wz hz
          obtain ⟨z0, z1, -⟩ := hz
          go_simp
          first | done | with_reducible rfl
        refine held_take (i := 6) (d := 27) (v := ?_) rfl rfl (by kernel_rfl) (by kernel_rfl) (by kernel_rfl) (fun _ _ _ h => h) (by rfl) ?_ HS.out ?_
        rotate_left
        · intro wz hz
          obtain ⟨z0, z1, -⟩ := hz
          go_simp
          first | done | with_reducible rfl
        refine held_take (i := 7) (d := 28) (v := ?_) rfl rfl (by kernel_rfl) (by kernel_rfl) (by kernel_rfl) (fun _ _ _ h => h) (by rfl) ?_ HS.out ?_
        rotate_left
        · intro wz hz
          obtain ⟨z0, z1, -⟩ := hz
          go_simp
          first | done | with_reducible rfl
        refine held_take (i := 8) (d := 29) (v := ?_) rfl rfl (by kernel_rfl) (by kernel_rfl) (by kernel_rfl) (fun _ _ _ h => h) (by rfl) ?_ HS.out ?_
        rotate_left
        · intro wz hz
          obtain ⟨z0, z1, -⟩ := hz
          go_simp
          first | done | with_reducible rfl
        refine held_take (i := 10) (d := 31) (v := ?_) rfl rfl (by kernel_rfl) (by kernel_rfl) (by kernel_rfl) (fun _ _ _ h => h) (by rfl) ?_ HS.out ?_
        rotate_left
        · intro wz hz
          obtain ⟨z0, z1, -⟩ := hz
          go_simp
          first | done | with_reducible rfl
        refine held_take (i := 11) (d := 32) (v := ?_) rfl rfl (by kernel_rfl) (by kernel_rfl) (by kernel_rfl) (fun _ _ _ h => h) (by rfl) ?_ HS.out ?_
        rotate_left
        · intro wz hz
          obtain ⟨z0, z1, -⟩ := hz
          go_simp
          first | done | with_reducible rfl
        refine held_take (i := 12) (d := 33) (v := ?_) rfl rfl (by kernel_rfl) (by kernel_rfl) (by kernel_rfl) (fun _ _ _ h => h) (by rfl) ?_ HS.out ?_
        rotate_left
        · intro wz hz
          obtain ⟨z0, z1, -⟩ := hz
          go_simp
          first | done | with_reducible rfl
        refine held_take (i := 13) (d := 34) (v := ?_) rfl rfl (by kernel_rfl) (by kernel_rfl) (by kernel_rfl) (fun _ _ _ h => h) (by rfl) ?_ HS.out ?_
        rotate_left
        · intro wz hz
          obtain ⟨z0, z1, -⟩ := hz
          go_simp
          first | done | with_reducible rfl
        have HD := HS
        have RD := RS
        have BD := hide RD.out.lt
        have BE := hide RD.out.el.size
        refine wpAnyH_ready (rs := [0]) (by kernel_rfl) (by simp) ?_
        refine AllReadyH.cons rfl (fun K hK => ?_) AllReadyH.nil
        go_simp
        refine empty_next _ _ ?_; intro w5 ho5 k5; have O5 := hide ho5; have K5 := hide k5; have HS' := hide (HD.out.fresh k5); clear HS k5 ho5; have HS := HS'; clear HS'
        refine hK.out _ _ HS.out (fun _ => ?_)
        clear hK K
        refine wpAnyH_ready (rs := [4]) (by kernel_rfl) (by simp) ?_
        refine AllReadyH.cons rfl (fun K hK => ?_) AllReadyH.nil
        rw [if_pos (by rfl)]
        refine wp_append_own _ _ _ 23 rfl wd.heap.size 25 i0 (.agg #[.int .i64 0, .int .i64 0]) 2 16 Try.underlying23 hi hz0 hz1 hz2 rfl (by decide) _ _ _ rfl O5.out ⟨b, o, none⟩ i cap (svals (ps.take i)) rfl (by rw [svals_length, ← T0.out]) (PT0.out.fresh (FD.out.trans K5.out)).news (svals_one _) (by have := LE.out; unfold maxLen; omega) (by have := LE.out; omega) K5.out.size ?_; intro v6 w6 hown hgrow _; have O6 := hide (own_first T0.out hown); have K6 := hide (show Fresh wd w6 from K5.out.grown hgrow K5.out.size (fun q hq => by cases hq; exact Nat.le_refl _)); have HS' := hide (HD.out.fresh K6.out); clear HS hown hgrow; have HS := HS'; clear HS'
        refine hK.out _ _ HS.out (fun _ => ?_)
        clear hK K
        refine wpAnyH_ready (rs := [9]) (by kernel_rfl) (by simp) ?_
        refine AllReadyH.cons rfl (fun K hK => ?_) AllReadyH.nil
        rw [if_pos (by rfl)]
        refine wp_append_own _ _ _ 23 rfl wd.heap.size 25 i0 (.agg #[.int .i64 0, .int .i64 0]) 2 16 Try.underlying23 hi hz0 hz1 hz2 rfl (by decide) _ _ _ rfl O6.out ⟨b, o', none⟩ (ps.length - (i + 1)) (cap - (i + 1)) (svals (ps.drop (i + 1))) rfl (by rw [svals_length, ← T1.out]) (PT1.out.fresh (FD.out.trans K6.out)).news (svals_one _) (by have := LE.out; rw [← T0.out]; unfold maxLen; omega) (by have := LE.out; rw [← T0.out]; omega) K6.out.size ?_; intro v7 w7 hown hgrow _; have O7 := hide (own_then T1.out hown); have K7 := hide (show Fresh wd w7 from K6.out.grown hgrow K6.out.size (fun q hq => O6.out.block q hq)); have HS' := hide (HD.out.fresh K7.out); have RS' := hide (RD.out.fresh K7.out); clear HS RS hown hgrow; have HS := HS'; have RS := RS'; clear HS' RS'
        refine hK.out _ _ HS.out (fun _ => ?_)
        clear hK K
        obtain ⟨r0, r1, r2, r3⟩ := RS.out.cells
        refine held_take (i := 14) (d := 4) (v := ?_) rfl rfl (by kernel_rfl) (by kernel_rfl) (by kernel_rfl) (fun _ _ _ h => h) (by rfl) ?_ HS.out ?_
        rotate_left
        · intro wz hz
          obtain ⟨z0, z1, -⟩ := hz
          go_simp
          first | done | with_reducible rfl
        refine wpAnyH_ready (rs := [15]) (by kernel_rfl) (by simp) ?_
        refine AllReadyH.cons rfl (fun K hK => ?_) AllReadyH.nil
        go_simp
        have S3 := hide (RS.out.stored p1 p2); have O3 := hide (((O7.out.setCell BD.out 0 (.int .i64 p1)).setCell BD.out 1 (.int .i64 p2)).mono BE.out); have HS' := hide (show HeldC w b (o + i * 2) p1 p2 ((w7.setCell ⟨R, 0, none⟩ (.int .i64 p1)).setCell ⟨R, 1, none⟩ (.int .i64 p2)) from C0.out.fresh S3.out.2); clear r0 r1 r2 r3 RS O7 HS; generalize World.setCell _ ⟨R, 1, none⟩ _ = W at S3 O3 HS' ⊢; have HS := HS'; clear HS'
        refine hK.out _ _ HS.out (fun _ => ?_)
        clear hK K
        refine held_take (i := 16) (d := 6) (v := ?_) rfl rfl (by kernel_rfl) (by kernel_rfl) (by kernel_rfl) (fun _ _ _ h => h) (by rfl) ?_ HS.out ?_
        rotate_left
        · intro wz hz
          obtain ⟨z0, z1, -⟩ := hz
          go_simp
          first | done | with_reducible rfl
        refine wpAnyH_done (by kernel_rfl) ?_ _
        try simp only [Act.put, List.setIfInBounds_toArray, List.set_cons_succ, List.set_cons_zero]
        go_wp2
        have h0 : W.cell? ⟨R, 0, none⟩ = some (.int .i64 p1) := cell_block S3.out.1 0 _ rfl
        have h1 : W.cell? ⟨R, 1, none⟩ = some (.int .i64 p2) := cell_block S3.out.1 1 _ rfl
        refine bodyPost_ret (by simp [results, Try.results12, go_sem, h0, h1]; try rfl) rfl ?_
        exact ⟨v7, by unfold cutE; rw [CB.out, CP.out], by rw [CL.out]; exact O3.out.at LL.out IL.out, S3.out.2⟩
      · have A2 := hide (show ∀ t, t < i + 1 → (nth ps t).1 ≠ x from fun t ht => by
          rcases Nat.lt_or_ge t i with h | h
          · exact A.out t h
          · rw [show t = i by omega]; exact hx)
        have d1 : ((nth ps i).1 == x) = false := by rw [beq_eq_false_iff_ne]; exact hx
        clear hx hc h1 h2 h3 h4
        generalize nth ps i = p at *
        go_wp2
        go_round
        case rel => exact ⟨i + 1, by omega, by go_num, A2.out⟩
        case measure => simp [intOf]; omega
    · obtain rfl : i = ps.length := by omega
      have CK := hide (cut_none A.out)
      have CB := hide (show cutB ps x = false by unfold cutB; rw [CK.out]; simp)
      have CP := hide (show cutP ps x = (0, 0) by unfold cutP; rw [CK.out]; show ps.getD ps.length (0, 0) = _; simp)
      have CL := hide (show cutL ps x = ps by unfold cutL; rw [CK.out]; exact erase_all)
      go_wp2
      have S3 := hide (R1.out.stored 0 0)
      clear r0 r1 r2 r3
      generalize World.setCell _ ⟨R, 1, none⟩ _ = W at S3 ⊢
      have h0 : W.cell? ⟨R, 0, none⟩ = some (.int .i64 0) := cell_block S3.out.1 0 _ rfl
      have h1 : W.cell? ⟨R, 1, none⟩ = some (.int .i64 0) := cell_block S3.out.1 1 _ rfl
      refine bodyPost_ret (by simp [results, Try.results12, go_sem, h0, h1]; try rfl) rfl ?_
      exact ⟨_, by unfold cutE; rw [CB.out, CP.out], by rw [CL.out]; exact HH.out.fresh S3.out.2, S3.out.2⟩
end Go.Proofs.Ytcakghafjmdkoaa
