/- What the program's place.copied tells: the same engine, in new memory. -/
import Derived.Test.YtegolecdmpikhaaPackG
import Derived.Test.YtegolecdmpikhaaPackH
import Derived.Test.YtegolecdmpikhaaPackI
namespace Go.Proofs.Ytegolecdmpikhaa
open Go.RowKit

/-- marks appended to none, as one operation -/
theorem append_marks {w : World} {o : Oper} {a : Act} {K : Act → World → Prop} {Q : Exit → Act → World → Prop} {v : Value} {ps : List Pc} (s x : Operand)
    (ho : o.op = .call { callee := .builtin .append, args := #[s, x], argTypes := #[27, 27] }) (hs : a.eval s = .slice none 0 0) (hx : a.eval x = v) (h : SpansIn w v ps)
    (hK : ∀ u w', OwnM w' w.heap.size u ps → Fresh w w' → K (a.put o.dst u) w') : o.wp Try.prog a w K Q := by
  obtain ⟨i0, hi, hz0, hz1, hz2⟩ := infoOf infoMark
  rcases h.cases with ⟨rfl, rfl⟩ | ⟨b, o', cap, rfl, h1, h2, h3, h4, hc⟩
  · have hrun := run_append_owned_none (P := Try.prog) (w := w) w.heap.size 27 o.type 37 i0 2 Try.underlying27 hi (.slice none 0 0) 0 [] (World.ownsRow_nil _ _ _ _)
    have := hK _ w (OwnM.nil _ _) (Fresh.refl _)
    unfold Oper.wp
    simpa [execOp, ho, resolve, invoke, builtin, hs, hx, hrun, Result.andThen, Oper.upon] using this
  · refine wp_append_own w s x 27 ho w.heap.size 37 i0 (.agg #[.int .i64 0, .int .i64 0]) 2 16 Try.underlying27 hi hz0 hz1 hz2 rfl (by decide) (.slice none 0 0) 0 [] hs (World.ownsRow_nil _ _ _ _) ⟨b, o', none⟩ ps.length cap (svals ps) hx (svals_length ps) h.news (svals_one ps) (by unfold maxLen; omega) (by omega) (Nat.le_refl _) ?_
    intro u w' ho hg _
    rw [Nat.zero_add, List.nil_append] at ho
    exact hK u w' ho ((Fresh.refl w).grown hg (Nat.le_refl _) fun k hk => by cases hk)

set_option maxRecDepth 100000 in
set_option maxHeartbeats 1000000 in
theorem ecopied_any (v : Value) (E : Eng) (w : World) (h : EngIs w v E) :
    Calls Try.prog 22 #[v] w fun e w' => ∃ u, e = .returned u ∧ EngNew w.heap.size w' u E ∧ Fresh w w' := by
  obtain ⟨G, N, c, p, ps⟩ := E
  obtain ⟨sa, sc, ma, mc, rfl, h1, h2⟩ := h
  simp only at h1 h2 ⊢
  obtain ⟨W1, n, R, hW, hn, hR, hg⟩ := eng_start w (G : Int) (.slice sa c sc) (.slice ma ps.length mc)
  have US := hide (fun w' (j : Fresh w w') => suse_any _ N c p 0 0 false w' (h1.fresh j) (by decide))
  have SP := hide (fun w' (j : Fresh w w') => h2.fresh j)
  have PC := hide (show ∀ i, i < N → useB p 0 0 false i = p i from fun i _ => by unfold useB; rw [if_neg (by omega)])
  have PI := hide h2.1.in64
  have PL := hide (show ps.length ≤ 1048576 by obtain ⟨_, _, _, h, _⟩ := h2.1; exact h)
  have HG := hide hg
  have HW := hide hW
  have HN := hide hn
  have HR := hide hR
  have RW := hide (show R < W1.heap.size by obtain ⟨x, y, z, hr⟩ := hg.res; exact (Array.getElem?_eq_some_iff.1 hr).1)
  clear h1 h2 hW hn hR hg
  obtain ⟨gg, hgg⟩ : ∃ gg, gg = (G : Int) := ⟨_, rfl⟩
  have GG := hide hgg
  rw [← hgg] at HG HW
  rw [← hgg]
  clear hgg
  obtain ⟨pl, hpl⟩ : ∃ pl, pl = ps.length := ⟨_, rfl⟩
  have HPL := hide hpl
  rw [← hpl] at HG HW SP PL
  rw [← hpl]
  clear hpl
  have HS : Hid (HeldH w n R gg (.slice sa c sc) (.slice ma pl mc) W1.drew) := (HG.out.fresh (Fresh.refl _).drew).h
  have BD := hide (show R < W1.drew.heap.size from RW.out)
  go_enter Try.func22, Try.ntmps22
  go_wp2_with fail
  rw [← HW.out, ← HR.out, ← HN.out]
  refine wp_region_held (S := HeldH w n R gg (.slice sa c sc) (.slice ma pl mc)) (by kernel_rfl) ?_
  change wpAnyH _ _ _ _ _ _ _ _ (World.drew _)
  generalize World.drew W1 = wd at HS BD ⊢
  refine held_take (i := 0) (d := 3) (v := ?_) rfl rfl (by kernel_rfl) (by kernel_rfl) (by kernel_rfl) (fun _ _ _ h => h) (by kernel_rfl) ?_ HS.out ?_
  rotate_left
  · intro wz hz
    obtain ⟨y0, y1, y2, -⟩ := hz
    go_simp
    first | done | with_reducible rfl
  refine held_take (i := 1) (d := 4) (v := ?_) rfl rfl (by kernel_rfl) (by kernel_rfl) (by kernel_rfl) (fun _ _ _ h => h) (by kernel_rfl) ?_ HS.out ?_
  rotate_left
  · intro wz hz
    obtain ⟨y0, y1, y2, -⟩ := hz
    go_simp
    first | done | with_reducible rfl
  refine held_take (i := 2) (d := 5) (v := ?_) rfl rfl (by kernel_rfl) (by kernel_rfl) (by kernel_rfl) (fun _ _ _ h => h) (by kernel_rfl) ?_ HS.out ?_
  rotate_left
  · intro wz hz
    obtain ⟨y0, y1, y2, -⟩ := hz
    go_simp
    first | done | with_reducible rfl
  refine held_take (i := 3) (d := 6) (v := ?_) rfl rfl (by kernel_rfl) (by kernel_rfl) (by kernel_rfl) (fun _ _ _ h => h) (by kernel_rfl) ?_ HS.out ?_
  rotate_left
  · intro wz hz
    obtain ⟨y0, y1, y2, -⟩ := hz
    go_simp
    first | done | with_reducible rfl
  refine held_take (i := 5) (d := 8) (v := ?_) rfl rfl (by kernel_rfl) (by kernel_rfl) (by kernel_rfl) (fun _ _ _ h => h) (by kernel_rfl) ?_ HS.out ?_
  rotate_left
  · intro wz hz
    obtain ⟨y0, y1, y2, -⟩ := hz
    go_simp
    first | done | with_reducible rfl
  refine held_take (i := 6) (d := 9) (v := ?_) rfl rfl (by kernel_rfl) (by kernel_rfl) (by kernel_rfl) (fun _ _ _ h => h) (by kernel_rfl) ?_ HS.out ?_
  rotate_left
  · intro wz hz
    obtain ⟨y0, y1, y2, -⟩ := hz
    go_simp
    first | done | with_reducible rfl
  refine wpAnyH_ready (rs := [4]) (by kernel_rfl) (by simp) ?_
  refine AllReadyH.cons rfl (fun K hK => ?_) AllReadyH.nil
  go_simp
  go_wp2_with fail
  refine (US.out _ HS.out.2.2.2.el).mono ?_; rintro e w4 ⟨u4, rfl, s4, f4⟩; obtain ⟨_, ua, uc, rfl, _⟩ := s4.at; have S4 := hide (s4.congr PC.out); have BF := hide (Nat.lt_of_lt_of_le BD.out f4.size); have HS' := hide ((HS.out.2.2.2.fresh f4).h); clear HS s4 f4; have HS := HS'; clear HS'
  refine hK.out _ _ HS.out (fun _ => ?_)
  clear hK K
  refine wpAnyH_ready (rs := [7]) (by kernel_rfl) (by simp) ?_
  refine AllReadyH.cons rfl (fun K hK => ?_) AllReadyH.nil
  rw [if_pos (by rfl)]
  refine append_marks _ _ rfl rfl rfl (SP.out _ HS.out.2.2.2.el) ?_; intro u5 w5 o5 f5; obtain ⟨pa, pc, rfl⟩ := o5.shape; have O5 := hide o5; have S5 := hide (S4.out.fresh f5); have HS' := hide ((HS.out.2.2.2.fresh f5).h); clear HS o5 f5 S4; have HS := HS'; clear HS'
  refine hK.out _ _ HS.out (fun _ => ?_)
  clear hK K
  refine held_take (i := 8) (d := 11) (v := ?_) rfl rfl (by kernel_rfl) (by kernel_rfl) (by kernel_rfl) (fun _ _ _ h => h) (by kernel_rfl) ?_ HS.out ?_
  rotate_left
  · intro wz hz
    obtain ⟨y0, y1, y2, -⟩ := hz
    go_simp
    first | done | with_reducible rfl
  have EN := hide (eng_stored (x := .int .i64 gg) (y := .slice ua c uc) (z := .slice pa ps.length pc) GG.out HS.out.2.2.2 S5.out BD.out O5.out BF.out (by rw [← HPL.out]; exact PL.out) PI.out)
  have B3 := hide (three_cells (HS.out.2.2.2.res.choose_spec.choose_spec.choose_spec) (.int .i64 gg) (.slice ua c uc) (.slice pa ps.length pc))
  obtain ⟨_, _, _, r0, r1, r2, q0, q1, q2⟩ := HS.out.2.2.2.free
  refine wpAnyH_ready (rs := [9]) (by kernel_rfl) (by simp) ?_
  refine AllReadyH.cons rfl (fun K hK => ?_) AllReadyH.nil
  go_simp
  have HS' := hide ((HS.out.2.2.2.set (.int .i64 gg) (.slice ua c uc) (.slice pa ps.length pc)).h); clear HS r0 r1 r2 q0 q1 q2 S5 O5; generalize World.setCell _ ⟨R, 2, none⟩ _ = W9 at EN B3 HS' ⊢; have HS := HS'; clear HS'
  refine hK.out _ _ HS.out (fun _ => ?_)
  clear hK K
  refine wpAnyH_done (by kernel_rfl) ?_ _
  try simp only [Act.put, List.setIfInBounds_toArray, List.set_cons_succ, List.set_cons_zero]
  go_wp2
  have h0 : W9.cell? ⟨R, 0, none⟩ = some (.int .i64 gg) := cell_block B3.out 0 _ rfl
  have h1 : W9.cell? ⟨R, 1, none⟩ = some (.slice ua c uc) := cell_block B3.out 1 _ rfl
  have h2 : W9.cell? ⟨R, 2, none⟩ = some (.slice pa ps.length pc) := cell_block B3.out 2 _ rfl
  refine bodyPost_ret (by simp [results, Try.results22, go_sem, h0, h1, h2]; try rfl) rfl ?_
  exact ⟨_, rfl, EN.out.mono (Nat.le_trans HS.out.2.2.2.le.1 (Nat.le_succ _)), HS.out.2.2.2.el⟩
end Go.Proofs.Ytegolecdmpikhaa
