/- What the program's place.Release answers, as contracts. -/
import Derived.Test.YtegolecdmpikhaaPlaceM
import Derived.Test.YtegolecdmpikhaaPlaceK
import Derived.Test.YtegolecdmpikhaaPlaceO
import Derived.Test.YtegolecdmpikhaaPackG
import Derived.Test.YtegolecdmpikhaaPackI
namespace Go.Proofs.Ytegolecdmpikhaa
open Go.RowKit

set_option maxRecDepth 100000 in
set_option maxHeartbeats 1000000 in
theorem erel_no (v : Value) (E : Eng) (x : Int) (w : World) (h : EngIs w v E) (hv : Rise E.ps) (hlen : E.ps.length ≤ 1000) (x1 : -9223372036854775808 ≤ x) (x2 : x ≤ 9223372036854775807) (hl : hitM E.ps x = false) :
    Calls Try.prog 13 #[v, .int .i64 x] w fun e w' => ∃ u, e = .returned (.tuple #[u, .int .i64 0, .bool false]) ∧ EngNew w.heap.size w' u E ∧ Fresh w w' := by
  obtain ⟨sa, sc, ma, mc, rfl, h1, h2⟩ := id h
  obtain ⟨W1, n, R, hW, hn, hR, hg⟩ := eng_start w (E.G : Int) (.slice sa E.c sc) (.slice ma E.ps.length mc)
  have RT := hide (mtake_any _ E.ps x W1 (h2.fresh hg.el) hv (by omega) x1 x2)
  rw [hl] at RT
  have CP := hide (fun w' (j : Fresh w w') => ecopied_any _ E w' (h.fresh j))
  have HG := hide hg
  have HW := hide hW
  have HN := hide hn
  have HR := hide hR
  have RW := hide (show R < W1.heap.size by obtain ⟨x, y, z, hr⟩ := hg.res; exact (Array.getElem?_eq_some_iff.1 hr).1)
  clear h1 h2 hl hW hn hR hg h hlen hv
  generalize (E.G : Int) = gg at *
  generalize E.ps.length = pl at *
  generalize clsM E.ps x = cl at *
  go_enter Try.func13, Try.ntmps13
  go_wp2_with fail
  rw [← HW.out, ← HR.out, ← HN.out]
  refine RT.out.mono ?_
  rintro e w2 ⟨u2, rfl, o2, f2⟩
  obtain ⟨qa, qc, rfl⟩ := o2.shape
  have H2 := hide (HG.out.fresh f2)
  have B2 := hide (Nat.lt_of_lt_of_le RW.out f2.size)
  clear f2 RT o2
  obtain ⟨c0, c1, c2⟩ := H2.out.cells
  go_wp2_with fail
  clear c0 c1 c2
  refine (CP.out _ H2.out.el).mono ?_
  rintro e w3 ⟨u, rfl, e3, f3⟩
  obtain ⟨ua, uc, pa, pc, rfl⟩ := e3.at.shape
  generalize hg4 : (E.G : Int) = g4 at *
  generalize hc4 : E.c = c4 at *
  generalize hl4 : E.ps.length = l4 at *
  have H3 := hide (H2.out.fresh f3)
  have H4 := hide ((H2.out.fresh f3).set (.int .i64 g4) (.slice ua c4 uc) (.slice pa l4 pc))
  have E3 := hide (EngNew.sets e3 B2.out (.int .i64 g4) (.slice ua c4 uc) (.slice pa l4 pc))
  have S2 := hide H2.out.el.size
  have B3 := hide (three_cells (H3.out.res.choose_spec.choose_spec.choose_spec) (.int .i64 g4) (.slice ua c4 uc) (.slice pa l4 pc))
  clear f3 e3 CP H2 HG hg4 hc4 hl4
  obtain ⟨_, _, _, r0, r1, r2, q0, q1, q2⟩ := H3.out.free
  go_wp2
  clear r0 r1 r2 q0 q1 q2 H3
  generalize World.setCell _ ⟨R, 2, none⟩ _ = W9 at H4 B3 E3 ⊢
  have h0 : W9.cell? ⟨R, 0, none⟩ = some (.int .i64 g4) := cell_block B3.out 0 _ rfl
  have h1 : W9.cell? ⟨R, 1, none⟩ = some (.slice ua c4 uc) := cell_block B3.out 1 _ rfl
  have h2 : W9.cell? ⟨R, 2, none⟩ = some (.slice pa l4 pc) := cell_block B3.out 2 _ rfl
  refine bodyPost_ret (by simp [results, Try.results13, go_sem, h0, h1, h2]; try rfl) rfl ?_
  exact ⟨_, rfl, E3.out.mono S2.out, H4.out.el⟩

set_option maxRecDepth 100000 in
set_option maxHeartbeats 2000000 in
theorem erel_yes (v : Value) (G N c : Nat) (p : Nat → Bool) (ps : List Pc) (x : Int) (k i : Nat) (w : World) (h : EngAt w v G N c p ps) (hv : Inv G N c ps) (hlen : ps.length ≤ 1000) (hpw : gmB (G : Int) = true) (hh : hitM ps x = true) (hx : x = ((i * 2 ^ k * G : Nat) : Int)) (hc : clsM ps x = (k : Int)) (hk : k < c) (hi : (i + 1) * 2 ^ k ≤ N) :
    Calls Try.prog 13 #[v, .int .i64 x] w fun e w' => ∃ u, e = .returned (.tuple #[u, .int .i64 (k : Int), .bool true]) ∧ EngNew w.heap.size w' u (Eng.tak ⟨G, N, c, p, ps⟩ k i) ∧ Fresh w w' := by
  obtain ⟨sa, sc, ma, mc, rfl, h1, h2⟩ := h
  obtain ⟨W1, n, R, hW, hn, hR, hg⟩ := eng_start w (G : Int) (.slice sa c sc) (.slice ma ps.length mc)
  obtain ⟨b1, b2, b3, b4⟩ := hv.low hi
  have RT := hide (mtake_any _ ps x W1 (h2.fresh hg.el) hv.rise (by omega) (by omega) (by omega))
  rw [hh, hc] at RT
  have hN := hv.cls.2.1
  have hG := hv.g
  obtain ⟨M, hM⟩ : ∃ M, M = 2 ^ k := ⟨_, rfl⟩
  obtain ⟨IM, hIM⟩ : ∃ IM, IM = i * 2 ^ k := ⟨_, rfl⟩
  have GM := hide (fun w => gmay_any (G : Int) w)
  rw [hpw] at GM
  have HC := hide (fun w => hasc_yes (G : Int) sa ma c sc ps.length mc k w hk)
  rw [← hM] at b2
  rw [← hIM] at b1 b3 hx
  have PV := hide (hv.tak x)
  have PL := hide (show (takM ps x).length ≤ 1048576 by have := takM_length ps x; omega)
  have US := hide (fun w' (j : Fresh w w') => suse_any _ N c p (IM : Int) (M : Int) false w' (h1.fresh j) (by omega))
  have k0 : (0 : Int) ≤ (k : Int) := by omega
  have k1 : (k : Int) ≤ 16 := by omega
  have z1 : (0 : Int) ≤ (IM : Int) := by omega
  have z2 : (IM : Int) ≤ 65536 := by omega
  have z3 : (0 : Int) ≤ x := by omega
  have z4 : x ≤ 65536 := by omega
  have m1 : (0 : Int) ≤ (M : Int) := by omega
  have m2 : (M : Int) ≤ 65536 := by omega
  have d0 : x.tdiv (G : Int) = (IM : Int) := by
    rw [hx, Int.tdiv_eq_ediv_of_nonneg (by omega)]
    have : ((IM * G : Nat) : Int) / (G : Int) = ((IM * G / G : Nat) : Int) := by simp
    rw [this, Nat.mul_div_cancel _ (by omega)]
  have g1 : ((G : Int) == 0) = false := by rw [beq_eq_false_iff_ne]; omega
  have g2 : (1 : Int) ≤ (G : Int) := by omega
  have g3 : ¬ ((G : Int) = 0) := by omega
  have p0 : ((2 : Int) ^ k) = (M : Int) := by rw [hM]; simp
  have d1 : IntKind.i64.wrap (x.tdiv (G : Int)) = (IM : Int) := by rw [d0]; exact wrapT _ z1 z2
  have d2 : IntKind.i64.wrap (IM : Int) = (IM : Int) := wrapT _ z1 z2
  have e3 : wrap64 (2 ^ k) = (M : Int) := by rw [p0]; exact wrapQ _ m1 m2
  have e6 : IntKind.i64.wrap (2 ^ k) = (M : Int) := by rw [p0]; exact wrapT _ m1 m2
  clear p0
  have HG := hide hg
  have HW := hide hW
  have HN := hide hn
  have HR := hide hR
  have RW := hide (show R < W1.heap.size by obtain ⟨x, y, z, hr⟩ := hg.res; exact (Array.getElem?_eq_some_iff.1 hr).1)
  have W1L := hide hg.el.size
  unfold Eng.tak
  simp only
  rw [← hIM, ← hM, ← hx]
  clear h1 h2 hW hn hR hg hi hv hlen hk hM hIM b1 b2 b3 b4 hN hG hh hc hx hpw
  obtain ⟨gg, hgg⟩ : ∃ gg, gg = (G : Int) := ⟨_, rfl⟩
  have GG := hide hgg
  rw [← hgg] at d0 d1 g1 g2 g3 HG HW GM HC
  rw [← hgg]
  clear hgg
  generalize hpl : ps.length = pl at *
  go_enter Try.func13, Try.ntmps13
  go_wp2_with fail
  rw [← HW.out, ← HR.out, ← HN.out]
  refine RT.out.mono ?_
  rintro e w2 ⟨u2, rfl, o2, f2⟩
  obtain ⟨pa, pc, rfl⟩ := o2.shape
  have O2 := hide o2
  have H2 := hide (HG.out.fresh f2)
  have B2 := hide (Nat.lt_of_lt_of_le RW.out f2.size)
  clear f2 o2 RT HG
  obtain ⟨c0, c1, c2⟩ := H2.out.cells
  go_wp2_with fail
  refine (GM.out _).mono ?_
  rintro e w9 ⟨rfl, hw9⟩
  subst hw9
  go_wp2_with fail
  refine (HC.out _).mono ?_
  rintro e w3 ⟨rfl, f3⟩
  have H3 := hide (H2.out.fresh f3)
  have F3 := hide f3
  have B3 := hide (Nat.lt_of_lt_of_le B2.out f3.size)
  clear f3 c0 c1 c2 H2
  obtain ⟨c0, c1, c2⟩ := H3.out.cells
  have HS : Hid (HeldH w n R gg (.slice sa c sc) (.slice ma pl mc) w3.drew) := (H3.out.fresh (Fresh.refl _).drew).h
  have FD := hide (show Fresh w9 w3.drew from F3.out.drew)
  have BD := hide (show R < w3.drew.heap.size from B3.out)
  go_wp2_with fail
  clear c0 c1 c2 H3 B3
  refine wp_region_held (S := HeldH w n R gg (.slice sa c sc) (.slice ma pl mc)) (by kernel_rfl) ?_
  change wpAnyH _ _ _ _ _ _ _ _ (World.drew _)
  generalize World.drew w3 = wd at HS BD FD ⊢
  have ND := hide (show n < wd.heap.size from (Array.getElem?_eq_some_iff.1 HS.out.2.2.2.box).1)
  have LD := hide HS.out.2.2.2.el.size
  refine held_take (i := 0) (d := 35) (v := ?_) rfl rfl (by kernel_rfl) (by kernel_rfl) (by kernel_rfl) (fun _ _ _ h => h) (by kernel_rfl) ?_ HS.out ?_
  rotate_left
  · intro wz hz
    obtain ⟨y0, y1, y2, -⟩ := hz
    go_simp
    first | done | with_reducible rfl
  refine held_take (i := 1) (d := 36) (v := ?_) rfl rfl (by kernel_rfl) (by kernel_rfl) (by kernel_rfl) (fun _ _ _ h => h) (by kernel_rfl) ?_ HS.out ?_
  rotate_left
  · intro wz hz
    obtain ⟨y0, y1, y2, -⟩ := hz
    go_simp
    first | done | with_reducible rfl
  refine held_take (i := 2) (d := 37) (v := ?_) rfl rfl (by kernel_rfl) (by kernel_rfl) (by kernel_rfl) (fun _ _ _ h => h) (by kernel_rfl) ?_ HS.out ?_
  rotate_left
  · intro wz hz
    obtain ⟨y0, y1, y2, -⟩ := hz
    go_simp
    first | done | with_reducible rfl
  refine held_take (i := 3) (d := 38) (v := ?_) rfl rfl (by kernel_rfl) (by kernel_rfl) (by kernel_rfl) (fun _ _ _ h => h) (by kernel_rfl) ?_ HS.out ?_
  rotate_left
  · intro wz hz
    obtain ⟨y0, y1, y2, -⟩ := hz
    go_simp
    first | done | with_reducible rfl
  refine held_take (i := 4) (d := 39) (v := ?_) rfl rfl (by kernel_rfl) (by kernel_rfl) (by kernel_rfl) (fun _ _ _ h => h) (by kernel_rfl) ?_ HS.out ?_
  rotate_left
  · intro wz hz
    obtain ⟨y0, y1, y2, -⟩ := hz
    go_simp
    first | done | with_reducible rfl
  refine held_take (i := 5) (d := 40) (v := ?_) rfl rfl (by kernel_rfl) (by kernel_rfl) (by kernel_rfl) (fun _ _ _ h => h) (by kernel_rfl) ?_ HS.out ?_
  rotate_left
  · intro wz hz
    obtain ⟨y0, y1, y2, -⟩ := hz
    go_simp
    first | done | with_reducible rfl
  refine held_take (i := 6) (d := 41) (v := ?_) rfl rfl (by kernel_rfl) (by kernel_rfl) (by kernel_rfl) (fun _ _ _ h => h) (by kernel_rfl) ?_ HS.out ?_
  rotate_left
  · intro wz hz
    obtain ⟨y0, y1, y2, -⟩ := hz
    go_simp
    first | done | with_reducible rfl
  refine held_take (i := 7) (d := 42) (v := ?_) rfl rfl (by kernel_rfl) (by kernel_rfl) (by kernel_rfl) (fun _ _ _ h => h) (by kernel_rfl) ?_ HS.out ?_
  rotate_left
  · intro wz hz
    obtain ⟨y0, y1, y2, -⟩ := hz
    go_simp
    first | done | with_reducible rfl
  refine held_take (i := 8) (d := 43) (v := ?_) rfl rfl (by kernel_rfl) (by kernel_rfl) (by kernel_rfl) (fun _ _ _ h => h) (by kernel_rfl) ?_ HS.out ?_
  rotate_left
  · intro wz hz
    obtain ⟨y0, y1, y2, -⟩ := hz
    go_simp
    first | done | with_reducible rfl
  refine held_take (i := 9) (d := 44) (v := ?_) rfl rfl (by kernel_rfl) (by kernel_rfl) (by kernel_rfl) (fun _ _ _ h => h) (by kernel_rfl) ?_ HS.out ?_
  rotate_left
  · intro wz hz
    obtain ⟨y0, y1, y2, -⟩ := hz
    go_simp
    first | done | with_reducible rfl
  refine held_take (i := 11) (d := 46) (v := ?_) rfl rfl (by kernel_rfl) (by kernel_rfl) (by kernel_rfl) (fun _ _ _ h => h) (by kernel_rfl) ?_ HS.out ?_
  rotate_left
  · intro wz hz
    obtain ⟨y0, y1, y2, -⟩ := hz
    go_simp
    first | done | with_reducible rfl
  refine wpAnyH_ready (rs := [10, 13]) (by kernel_rfl) (by simp) ?_
  refine AllReadyH.cons rfl (fun K hK => ?_) (AllReadyH.cons rfl (fun K hK => ?_) AllReadyH.nil)
  ·
    go_simp
    go_wp2_with fail
    refine (US.out _ HS.out.2.2.2.el).mono ?_; rintro e w4 ⟨u4, rfl, s4, f4⟩; obtain ⟨_, ua, uc, rfl, _⟩ := s4.at; have S4 := hide s4; have F4 := hide f4; have HS' := hide ((HS.out.2.2.2.fresh f4).h); clear HS s4 f4; have HS := HS'; clear HS'
    refine hK.out _ _ HS.out (fun _ => ?_)
    clear hK K
    refine held_take (i := 12) (d := 47) (v := ?_) rfl rfl (by kernel_rfl) (by kernel_rfl) (by kernel_rfl) (fun _ _ _ h => h) (by kernel_rfl) ?_ HS.out ?_
    rotate_left
    · intro wz hz
      obtain ⟨y0, y1, y2, -⟩ := hz
      go_simp
      first | done | with_reducible rfl
    refine wpAnyH_ready (rs := [13]) (by kernel_rfl) (by simp) ?_
    refine AllReadyH.cons rfl (fun K hK => ?_) AllReadyH.nil
    go_simp
    refine zero_block _ ?_; intro w6 hb6 f6 sz6; have OV := hide (outV_new hb6 HS.out.2.2.2.el (Nat.lt_of_lt_of_le ND.out F4.out.size) (Nat.lt_of_lt_of_le BD.out F4.out.size)); have A4 := hide (show Out4 w w6 w4.heap.size R w4 wd.heap.size from ⟨f6, LD.out, BD.out, .inr (Nat.le_refl _)⟩); have A5 := hide (show Out4 w w6 w4.heap.size R w9 W1.heap.size from ⟨(FD.out.trans F4.out).trans f6, W1L.out, RW.out, .inr (Nat.le_trans FD.out.size F4.out.size)⟩); have HS' := hide ((HS.out.2.2.2.fresh f6).h); clear HS hb6 f6 sz6; have HS := HS'; clear HS'; generalize w4.heap.size = V at OV A4 A5 ⊢
    refine hK.out _ _ HS.out (fun _ => ?_)
    clear hK K
    have EN := hide (eng_out (x := .int .i64 gg) (y := .slice ua c uc) (z := .slice pa (takM ps x).length pc) (x' := .int .i64 gg) (y' := .slice ua c uc) (z' := .slice pa (takM ps x).length pc) GG.out S4.out O2.out A4.out A5.out PL.out PV.out.in64)
    have BV := hide (three_cells OV.out.blk (.int .i64 gg) (.slice ua c uc) (.slice pa (takM ps x).length pc))
    obtain ⟨r0, r1, r2, q0, q1, q2⟩ := OV.out.cells
    refine wpAnyH_ready (rs := [14]) (by kernel_rfl) (by simp) ?_
    refine AllReadyH.cons rfl (fun K hK => ?_) AllReadyH.nil
    go_simp
    have HS' := hide ((HS.out.2.2.2.out OV.out (.int .i64 gg) (.slice ua c uc) (.slice pa (takM ps x).length pc)).h); clear HS r0 r1 r2 q0 q1 q2 S4 O2 A4 A5; generalize World.setCell _ ⟨V, 2, none⟩ _ = W8 at EN BV HS' ⊢; have HS := HS'; clear HS' OV
    refine hK.out _ _ HS.out (fun _ => ?_)
    clear hK K
    refine wpAnyH_done (by kernel_rfl) ?_ _
    try simp only [Act.put, List.setIfInBounds_toArray, List.set_cons_succ, List.set_cons_zero]
    have H9 := hide (HS.out.2.2.2.set (.int .i64 gg) (.slice ua c uc) (.slice pa (takM ps x).length pc))
    have B9 := hide (three_cells (HS.out.2.2.2.res.choose_spec.choose_spec.choose_spec) (.int .i64 gg) (.slice ua c uc) (.slice pa (takM ps x).length pc))
    obtain ⟨_, _, _, r0, r1, r2, q0, q1, q2⟩ := HS.out.2.2.2.free
    have v0 : W8.cell? ⟨V, 0, none⟩ = some (.int .i64 gg) := cell_block BV.out 0 _ rfl
    have v1 : W8.cell? ⟨V, 1, none⟩ = some (.slice ua c uc) := cell_block BV.out 1 _ rfl
    have v2 : W8.cell? ⟨V, 2, none⟩ = some (.slice pa (takM ps x).length pc) := cell_block BV.out 2 _ rfl
    clear HS BV
    go_wp2
    clear r0 r1 r2 q0 q1 q2 v0 v1 v2
    generalize World.setCell _ ⟨R, 2, none⟩ _ = W9 at EN B9 H9 ⊢
    have h0 : W9.cell? ⟨R, 0, none⟩ = some (.int .i64 gg) := cell_block B9.out 0 _ rfl
    have h1 : W9.cell? ⟨R, 1, none⟩ = some (.slice ua c uc) := cell_block B9.out 1 _ rfl
    have h2 : W9.cell? ⟨R, 2, none⟩ = some (.slice pa (takM ps x).length pc) := cell_block B9.out 2 _ rfl
    refine bodyPost_ret (by simp [results, Try.results13, go_sem, h0, h1, h2]; try rfl) rfl ?_
    exact ⟨_, rfl, EN.out, H9.out.el⟩
  ·
    go_simp
    refine zero_block _ ?_; intro w6 hb6 f6 sz6; have OV := hide (outV_new hb6 HS.out.2.2.2.el ND.out BD.out); have VL := hide (show wd.heap.size < w6.heap.size by omega); have F6 := hide f6; have A5 := hide (show Out4 w w6 wd.heap.size R w9 W1.heap.size from ⟨FD.out.trans f6, W1L.out, RW.out, .inr FD.out.size⟩); have HS' := hide ((HS.out.2.2.2.fresh f6).h); clear HS hb6 f6 sz6; have HS := HS'; clear HS'; generalize hV : wd.heap.size = V at OV VL A5 ⊢; have HV := hide hV; clear hV
    refine hK.out _ _ HS.out (fun _ => ?_)
    clear hK K
    refine wpAnyH_ready (rs := [10]) (by kernel_rfl) (by simp) ?_
    refine AllReadyH.cons rfl (fun K hK => ?_) AllReadyH.nil
    go_simp
    go_wp2_with fail
    refine (US.out _ HS.out.2.2.2.el).mono ?_; rintro e w4 ⟨u4, rfl, s4, f4⟩; obtain ⟨_, ua, uc, rfl, _⟩ := s4.at; have S4 := hide s4; have A4 := hide (show Out4 w w4 V R w4 w6.heap.size from ⟨Fresh.refl _, Nat.le_trans LD.out F6.out.size, Nat.lt_of_lt_of_le BD.out F6.out.size, .inl VL.out⟩); have A5' := hide (show Out4 w w4 V R w9 W1.heap.size from ⟨A5.out.f.trans f4, A5.out.lo, A5.out.r, A5.out.v⟩); have OV' := hide (OV.out.fresh f4); have HS' := hide ((HS.out.2.2.2.fresh f4).h); clear HS OV A5 s4 f4; have HS := HS'; have OV := OV'; have A5 := A5'; clear HS' OV' A5'
    refine hK.out _ _ HS.out (fun _ => ?_)
    clear hK K
    refine held_take (i := 12) (d := 47) (v := ?_) rfl rfl (by kernel_rfl) (by kernel_rfl) (by kernel_rfl) (fun _ _ _ h => h) (by kernel_rfl) ?_ HS.out ?_
    rotate_left
    · intro wz hz
      obtain ⟨y0, y1, y2, -⟩ := hz
      go_simp
      first | done | with_reducible rfl
    have EN := hide (eng_out (x := .int .i64 gg) (y := .slice ua c uc) (z := .slice pa (takM ps x).length pc) (x' := .int .i64 gg) (y' := .slice ua c uc) (z' := .slice pa (takM ps x).length pc) GG.out S4.out O2.out A4.out A5.out PL.out PV.out.in64)
    have BV := hide (three_cells OV.out.blk (.int .i64 gg) (.slice ua c uc) (.slice pa (takM ps x).length pc))
    obtain ⟨r0, r1, r2, q0, q1, q2⟩ := OV.out.cells
    refine wpAnyH_ready (rs := [14]) (by kernel_rfl) (by simp) ?_
    refine AllReadyH.cons rfl (fun K hK => ?_) AllReadyH.nil
    go_simp
    have HS' := hide ((HS.out.2.2.2.out OV.out (.int .i64 gg) (.slice ua c uc) (.slice pa (takM ps x).length pc)).h); clear HS r0 r1 r2 q0 q1 q2 S4 O2 A4 A5; generalize World.setCell _ ⟨V, 2, none⟩ _ = W8 at EN BV HS' ⊢; have HS := HS'; clear HS' OV
    refine hK.out _ _ HS.out (fun _ => ?_)
    clear hK K
    refine wpAnyH_done (by kernel_rfl) ?_ _
    try simp only [Act.put, List.setIfInBounds_toArray, List.set_cons_succ, List.set_cons_zero]
    have H9 := hide (HS.out.2.2.2.set (.int .i64 gg) (.slice ua c uc) (.slice pa (takM ps x).length pc))
    have B9 := hide (three_cells (HS.out.2.2.2.res.choose_spec.choose_spec.choose_spec) (.int .i64 gg) (.slice ua c uc) (.slice pa (takM ps x).length pc))
    obtain ⟨_, _, _, r0, r1, r2, q0, q1, q2⟩ := HS.out.2.2.2.free
    have v0 : W8.cell? ⟨V, 0, none⟩ = some (.int .i64 gg) := cell_block BV.out 0 _ rfl
    have v1 : W8.cell? ⟨V, 1, none⟩ = some (.slice ua c uc) := cell_block BV.out 1 _ rfl
    have v2 : W8.cell? ⟨V, 2, none⟩ = some (.slice pa (takM ps x).length pc) := cell_block BV.out 2 _ rfl
    clear HS BV
    go_wp2
    clear r0 r1 r2 q0 q1 q2 v0 v1 v2
    generalize World.setCell _ ⟨R, 2, none⟩ _ = W9 at EN B9 H9 ⊢
    have h0 : W9.cell? ⟨R, 0, none⟩ = some (.int .i64 gg) := cell_block B9.out 0 _ rfl
    have h1 : W9.cell? ⟨R, 1, none⟩ = some (.slice ua c uc) := cell_block B9.out 1 _ rfl
    have h2 : W9.cell? ⟨R, 2, none⟩ = some (.slice pa (takM ps x).length pc) := cell_block B9.out 2 _ rfl
    refine bodyPost_ret (by simp [results, Try.results13, go_sem, h0, h1, h2]; try rfl) rfl ?_
    exact ⟨_, rfl, EN.out, H9.out.el⟩
end Go.Proofs.Ytegolecdmpikhaa
