/- What the program's place.Place answers, as contracts. -/
import Derived.Test.YtegolecdmpikhaaPlaceM
import Derived.Test.YtegolecdmpikhaaPlaceK
import Derived.Test.YtegolecdmpikhaaPlaceO
import Derived.Test.YtegolecdmpikhaaPackG
import Derived.Test.YtegolecdmpikhaaPackI
namespace Go.Proofs.Ytegolecdmpikhaa
open Go.RowKit

set_option maxRecDepth 100000 in
set_option maxHeartbeats 1000000 in
theorem eplace_no (v : Value) (E : Eng) (x : Int) (w : World) (h : EngIs w v E) (hl : lowS E.N E.c E.p x = none) :
    Calls Try.prog 11 #[v, .int .i64 x] w fun e w' => ∃ u, e = .returned (.tuple #[u, .int .i64 0, .bool false]) ∧ EngNew w.heap.size w' u E ∧ Fresh w w' := by
  obtain ⟨sa, sc, ma, mc, rfl, h1, h2⟩ := id h
  obtain ⟨W1, n, R, hW, hn, hR, hg⟩ := eng_start w (E.G : Int) (.slice sa E.c sc) (.slice ma E.ps.length mc)
  have RL := hide (low_any _ E.N E.c E.p x W1 (h1.fresh hg.el))
  rw [hl] at RL
  have CP := hide (fun w' (j : Fresh w w') => ecopied_any _ E w' (h.fresh j))
  have HG := hide hg
  have HW := hide hW
  have HN := hide hn
  have HR := hide hR
  have RW := hide (show R < W1.heap.size by obtain ⟨x, y, z, hr⟩ := hg.res; exact (Array.getElem?_eq_some_iff.1 hr).1)
  clear h1 h2 hl hW hn hR hg h
  generalize (E.G : Int) = gg at *
  generalize E.ps.length = pl at *
  unfold foundE at RL
  go_enter Try.func11, Try.ntmps11
  go_wp2_with fail
  rw [← HW.out, ← HR.out, ← HN.out]
  refine RL.out.mono ?_
  rintro e w2 ⟨rfl, f2⟩
  have H2 := hide (HG.out.fresh f2)
  have B2 := hide (Nat.lt_of_lt_of_le RW.out f2.size)
  clear f2 RL
  obtain ⟨c0, c1, c2⟩ := H2.out.cells
  go_wp2_with fail
  clear c0 c1 c2
  refine (CP.out _ H2.out.el).mono ?_
  rintro e w3 ⟨u, rfl, e3, f3⟩
  obtain ⟨ua, uc, pa, pc, rfl⟩ := e3.at.shape
  generalize hg4 : (E.G : Int) = g4 at *
  generalize hc4 : E.c = c4 at *
  generalize hl4 : E.ps.length = l4 at *
  have H3 := hide (H2.out.fresh f3)
  have H4 := hide ((H2.out.fresh f3).set (.int .i64 g4) (.slice ua c4 uc) (.slice pa l4 pc))
  have E3 := hide (EngNew.sets (e3.mono H2.out.el.size |> fun _ => e3) B2.out (.int .i64 g4) (.slice ua c4 uc) (.slice pa l4 pc))
  have S2 := hide H2.out.el.size
  have B3 := hide (three_cells (H3.out.res.choose_spec.choose_spec.choose_spec) (.int .i64 g4) (.slice ua c4 uc) (.slice pa l4 pc))
  clear f3 e3 CP H2 HG hg4 hc4 hl4
  obtain ⟨_, _, _, r0, r1, r2, q0, q1, q2⟩ := H3.out.free
  go_wp2
  clear r0 r1 r2 q0 q1 q2 H3
  generalize World.setCell _ ⟨R, 2, none⟩ _ = W9 at H4 B3 E3 ⊢
  have h0 : W9.cell? ⟨R, 0, none⟩ = some (.int .i64 g4) := cell_block B3.out 0 _ rfl
  have h1 : W9.cell? ⟨R, 1, none⟩ = some (.slice ua c4 uc) := cell_block B3.out 1 _ rfl
  have h2 : W9.cell? ⟨R, 2, none⟩ = some (.slice pa l4 pc) := cell_block B3.out 2 _ rfl
  refine bodyPost_ret (by simp [results, Try.results11, go_sem, h0, h1, h2]; try rfl) rfl ?_
  exact ⟨_, rfl, E3.out.mono S2.out, H4.out.el⟩

set_option maxRecDepth 100000 in
set_option maxHeartbeats 2000000 in
theorem eplace_yes (v : Value) (G N c : Nat) (p : Nat → Bool) (ps : List Pc) (k i : Nat) (w : World) (h : EngAt w v G N c p ps) (hv : Inv G N c ps) (hlen : ps.length ≤ 1000) (hpw : gmB (G : Int) = true) (hk : k < c) (hl : lowS N c p (k : Int) = some i) (hi : (i + 1) * 2 ^ k ≤ N) :
    Calls Try.prog 11 #[v, .int .i64 (k : Int)] w fun e w' => ∃ u, e = .returned (.tuple #[u, .int .i64 ((i * 2 ^ k * G : Nat) : Int), .bool true]) ∧ EngNew w.heap.size w' u (Eng.put ⟨G, N, c, p, ps⟩ k i) ∧ Fresh w w' := by
  obtain ⟨sa, sc, ma, mc, rfl, h1, h2⟩ := h
  obtain ⟨W1, n, R, hW, hn, hR, hg⟩ := eng_start w (G : Int) (.slice sa c sc) (.slice ma ps.length mc)
  have RL := hide (low_any _ N c p (k : Int) W1 (h1.fresh hg.el))
  rw [hl] at RL
  obtain ⟨b1, b2, b3, b4⟩ := hv.low hi
  have hN := hv.cls.2.1
  obtain ⟨M, hM⟩ : ∃ M, M = 2 ^ k := ⟨_, rfl⟩
  obtain ⟨IM, hIM⟩ : ∃ IM, IM = i * 2 ^ k := ⟨_, rfl⟩
  obtain ⟨AT, hAT⟩ : ∃ AT, AT = i * 2 ^ k * G := ⟨_, rfl⟩
  have GM := hide (fun w => gmay_any (G : Int) w)
  rw [hpw] at GM
  rw [← hM] at b2
  rw [← hIM] at b1
  rw [← hAT] at b3
  have PV := hide (hv.put hk hi)
  rw [← hAT] at PV
  have PL := hide (show (putM ps ((AT : Int), (k : Int))).length ≤ 1048576 by have := putM_length ps ((AT : Int), (k : Int)); split at this <;> omega)
  have US := hide (fun w' (j : Fresh w w') => suse_any _ N c p (IM : Int) (M : Int) true w' (h1.fresh j) (by omega))
  have PT := hide (fun w' (j : Fresh w w') => mput_any _ ps (AT : Int) (k : Int) w' (h2.fresh j) hv.rise (by omega) (by unfold In64; simp only; omega))
  have k0 : (0 : Int) ≤ (k : Int) := by omega
  have k1 : (k : Int) ≤ 16 := by omega
  have z1 : (0 : Int) ≤ (IM : Int) := by omega
  have z2 : (IM : Int) ≤ 65536 := by omega
  have z3 : (0 : Int) ≤ (AT : Int) := by omega
  have z4 : (AT : Int) ≤ 65536 := by omega
  have m1 : (0 : Int) ≤ (M : Int) := by omega
  have m2 : (M : Int) ≤ 65536 := by omega
  have p0 : ((2 : Int) ^ k) = (M : Int) := by rw [hM]; simp
  have p1 : (i : Int) * 2 ^ k = ((IM : Nat) : Int) := by rw [hIM]; simp
  have p2 : (IM : Int) * (G : Int) = ((AT : Nat) : Int) := by rw [hIM, hAT]; simp
  have e1 : wrap64 ((i : Int) * 2 ^ k) = (IM : Int) := by rw [p1]; exact wrapQ _ z1 z2
  have e2 : wrap64 ((IM : Int) * (G : Int)) = (AT : Int) := by rw [p2]; exact wrapQ _ z3 z4
  have e3 : wrap64 (2 ^ k) = (M : Int) := by rw [p0]; exact wrapQ _ m1 m2
  have e4 : IntKind.i64.wrap ((i : Int) * 2 ^ k) = (IM : Int) := by rw [p1]; exact wrapT _ z1 z2
  have e5 : IntKind.i64.wrap ((IM : Int) * (G : Int)) = (AT : Int) := by rw [p2]; exact wrapT _ z3 z4
  have e6 : IntKind.i64.wrap (2 ^ k) = (M : Int) := by rw [p0]; exact wrapT _ m1 m2
  clear p0 p1 p2
  have HG := hide hg
  have HW := hide hW
  have HN := hide hn
  have HR := hide hR
  have RW := hide (show R < W1.heap.size by obtain ⟨x, y, z, hr⟩ := hg.res; exact (Array.getElem?_eq_some_iff.1 hr).1)
  unfold Eng.put
  simp only
  rw [← hAT, ← hIM, ← hM]
  clear h1 h2 hl hW hn hR hg hi hv hlen hk hM hIM hAT b1 b2 b3 b4 hN hpw
  obtain ⟨gg, hgg⟩ : ∃ gg, gg = (G : Int) := ⟨_, rfl⟩
  have GG := hide hgg
  rw [← hgg] at e2 e5 HG HW GM
  rw [← hgg]
  clear hgg
  generalize hpl : ps.length = pl at *
  unfold foundE at RL
  go_enter Try.func11, Try.ntmps11
  go_wp2_with fail
  rw [← HW.out, ← HR.out, ← HN.out]
  refine RL.out.mono ?_
  rintro e w2 ⟨rfl, f2⟩
  have H2 := hide (HG.out.fresh f2)
  have B2 := hide (Nat.lt_of_lt_of_le RW.out f2.size)
  clear f2 RL HG
  obtain ⟨c0, c1, c2⟩ := H2.out.cells
  go_wp2_with fail
  refine (GM.out _).mono ?_
  rintro e w3 ⟨rfl, hw3⟩
  subst hw3
  have HS : Hid (HeldH w n R gg (.slice sa c sc) (.slice ma pl mc) w3.drew) := (H2.out.fresh (Fresh.refl _).drew).h
  have BD := hide (show R < w3.drew.heap.size from B2.out)
  go_wp2_with fail
  clear c0 c1 c2 H2 B2
  refine wp_region_held (S := HeldH w n R gg (.slice sa c sc) (.slice ma pl mc)) (by kernel_rfl) ?_
  change wpAnyH _ _ _ _ _ _ _ _ (World.drew _)
  generalize World.drew w3 = wd at HS BD ⊢
  have ND := hide (show n < wd.heap.size from (Array.getElem?_eq_some_iff.1 HS.out.2.2.2.box).1)
  have LD := hide HS.out.2.2.2.el.size
  refine held_take (i := 0) (d := 36) (v := ?_) rfl rfl (by kernel_rfl) (by kernel_rfl) (by kernel_rfl) (fun _ _ _ h => h) (by kernel_rfl) ?_ HS.out ?_
  rotate_left
  · intro wz hz
    obtain ⟨y0, y1, y2, -⟩ := hz
    go_simp
    first | done | with_reducible rfl
  refine held_take (i := 1) (d := 37) (v := ?_) rfl rfl (by kernel_rfl) (by kernel_rfl) (by kernel_rfl) (fun _ _ _ h => h) (by kernel_rfl) ?_ HS.out ?_
  rotate_left
  · intro wz hz
    obtain ⟨y0, y1, y2, -⟩ := hz
    go_simp
    first | done | with_reducible rfl
  refine held_take (i := 2) (d := 38) (v := ?_) rfl rfl (by kernel_rfl) (by kernel_rfl) (by kernel_rfl) (fun _ _ _ h => h) (by kernel_rfl) ?_ HS.out ?_
  rotate_left
  · intro wz hz
    obtain ⟨y0, y1, y2, -⟩ := hz
    go_simp
    first | done | with_reducible rfl
  refine held_take (i := 3) (d := 39) (v := ?_) rfl rfl (by kernel_rfl) (by kernel_rfl) (by kernel_rfl) (fun _ _ _ h => h) (by kernel_rfl) ?_ HS.out ?_
  rotate_left
  · intro wz hz
    obtain ⟨y0, y1, y2, -⟩ := hz
    go_simp
    first | done | with_reducible rfl
  refine held_take (i := 4) (d := 40) (v := ?_) rfl rfl (by kernel_rfl) (by kernel_rfl) (by kernel_rfl) (fun _ _ _ h => h) (by kernel_rfl) ?_ HS.out ?_
  rotate_left
  · intro wz hz
    obtain ⟨y0, y1, y2, -⟩ := hz
    go_simp
    first | done | with_reducible rfl
  refine held_take (i := 5) (d := 41) (v := ?_) rfl rfl (by kernel_rfl) (by kernel_rfl) (by kernel_rfl) (fun _ _ _ h => h) (by kernel_rfl) ?_ HS.out ?_
  rotate_left
  · intro wz hz
    obtain ⟨y0, y1, y2, -⟩ := hz
    go_simp
    first | done | with_reducible rfl
  refine held_take (i := 6) (d := 42) (v := ?_) rfl rfl (by kernel_rfl) (by kernel_rfl) (by kernel_rfl) (fun _ _ _ h => h) (by kernel_rfl) ?_ HS.out ?_
  rotate_left
  · intro wz hz
    obtain ⟨y0, y1, y2, -⟩ := hz
    go_simp
    first | done | with_reducible rfl
  refine held_take (i := 8) (d := 44) (v := ?_) rfl rfl (by kernel_rfl) (by kernel_rfl) (by kernel_rfl) (fun _ _ _ h => h) (by kernel_rfl) ?_ HS.out ?_
  rotate_left
  · intro wz hz
    obtain ⟨y0, y1, y2, -⟩ := hz
    go_simp
    first | done | with_reducible rfl
  refine held_take (i := 9) (d := 45) (v := ?_) rfl rfl (by kernel_rfl) (by kernel_rfl) (by kernel_rfl) (fun _ _ _ h => h) (by kernel_rfl) ?_ HS.out ?_
  rotate_left
  · intro wz hz
    obtain ⟨y0, y1, y2, -⟩ := hz
    go_simp
    first | done | with_reducible rfl
  refine held_take (i := 10) (d := 46) (v := ?_) rfl rfl (by kernel_rfl) (by kernel_rfl) (by kernel_rfl) (fun _ _ _ h => h) (by kernel_rfl) ?_ HS.out ?_
  rotate_left
  · intro wz hz
    obtain ⟨y0, y1, y2, -⟩ := hz
    go_simp
    first | done | with_reducible rfl
  refine held_take (i := 11) (d := 47) (v := ?_) rfl rfl (by kernel_rfl) (by kernel_rfl) (by kernel_rfl) (fun _ _ _ h => h) (by kernel_rfl) ?_ HS.out ?_
  rotate_left
  · intro wz hz
    obtain ⟨y0, y1, y2, -⟩ := hz
    go_simp
    first | done | with_reducible rfl
  refine held_take (i := 12) (d := 48) (v := ?_) rfl rfl (by kernel_rfl) (by kernel_rfl) (by kernel_rfl) (fun _ _ _ h => h) (by kernel_rfl) ?_ HS.out ?_
  rotate_left
  · intro wz hz
    obtain ⟨y0, y1, y2, -⟩ := hz
    go_simp
    first | done | with_reducible rfl
  refine wpAnyH_ready (rs := [7, 15]) (by kernel_rfl) (by simp) ?_
  refine AllReadyH.cons rfl (fun K hK => ?_) (AllReadyH.cons rfl (fun K hK => ?_) AllReadyH.nil)
  ·
    go_simp
    go_wp2_with fail
    refine (US.out _ HS.out.2.2.2.el).mono ?_; rintro e w4 ⟨u4, rfl, s4, f4⟩; obtain ⟨_, ua, uc, rfl, _⟩ := s4.at; have S4 := hide s4; have F4 := hide f4; have HS' := hide ((HS.out.2.2.2.fresh f4).h); clear HS s4 f4; have HS := HS'; clear HS'
    refine hK.out _ _ HS.out (fun _ => ?_)
    clear hK K
    refine wpAnyH_ready (rs := [13, 15]) (by kernel_rfl) (by simp) ?_
    refine AllReadyH.cons rfl (fun K hK => ?_) (AllReadyH.cons rfl (fun K hK => ?_) AllReadyH.nil)
    ·
      go_simp
      go_wp2_with fail
      refine (PT.out _ HS.out.2.2.2.el).mono ?_; rintro e w5 ⟨u5, rfl, o5, f5⟩; obtain ⟨pa, pc, rfl⟩ := o5.shape; have O5 := hide o5; have F5 := hide f5; have HS' := hide ((HS.out.2.2.2.fresh f5).h); clear HS o5 f5; have HS := HS'; clear HS'
      refine hK.out _ _ HS.out (fun _ => ?_)
      clear hK K
      refine held_take (i := 14) (d := 50) (v := ?_) rfl rfl (by kernel_rfl) (by kernel_rfl) (by kernel_rfl) (fun _ _ _ h => h) (by kernel_rfl) ?_ HS.out ?_
      rotate_left
      · intro wz hz
        obtain ⟨y0, y1, y2, -⟩ := hz
        go_simp
        first | done | with_reducible rfl
      refine wpAnyH_ready (rs := [15]) (by kernel_rfl) (by simp) ?_
      refine AllReadyH.cons rfl (fun K hK => ?_) AllReadyH.nil
      go_simp
      refine zero_block _ ?_; intro w6 hb6 f6 sz6; have OV := hide (outV_new hb6 HS.out.2.2.2.el (Nat.lt_of_lt_of_le ND.out (Nat.le_trans F4.out.size F5.out.size)) (Nat.lt_of_lt_of_le BD.out (Nat.le_trans F4.out.size F5.out.size))); have A4 := hide (show Out4 w w6 w5.heap.size R w4 wd.heap.size from ⟨F5.out.trans f6, LD.out, BD.out, .inr F5.out.size⟩); have A5 := hide (show Out4 w w6 w5.heap.size R w5 w4.heap.size from ⟨f6, Nat.le_trans LD.out F4.out.size, Nat.lt_of_lt_of_le BD.out F4.out.size, .inr (Nat.le_refl _)⟩); have HS' := hide ((HS.out.2.2.2.fresh f6).h); clear HS hb6 f6 sz6; have HS := HS'; clear HS'; generalize w5.heap.size = V at OV A4 A5 ⊢
      refine hK.out _ _ HS.out (fun _ => ?_)
      clear hK K
      have EN := hide (eng_out (x := .int .i64 gg) (y := .slice ua c uc) (z := .slice pa (putM ps ((AT : Int), (k : Int))).length pc) (x' := .int .i64 gg) (y' := .slice ua c uc) (z' := .slice pa (putM ps ((AT : Int), (k : Int))).length pc) GG.out S4.out O5.out A4.out A5.out PL.out PV.out.in64)
      have BV := hide (three_cells OV.out.blk (.int .i64 gg) (.slice ua c uc) (.slice pa (putM ps ((AT : Int), (k : Int))).length pc))
      obtain ⟨r0, r1, r2, q0, q1, q2⟩ := OV.out.cells
      refine wpAnyH_ready (rs := [16]) (by kernel_rfl) (by simp) ?_
      refine AllReadyH.cons rfl (fun K hK => ?_) AllReadyH.nil
      go_simp
      have HS' := hide ((HS.out.2.2.2.out OV.out (.int .i64 gg) (.slice ua c uc) (.slice pa (putM ps ((AT : Int), (k : Int))).length pc)).h); clear HS r0 r1 r2 q0 q1 q2 S4 O5 A4 A5; generalize World.setCell _ ⟨V, 2, none⟩ _ = W8 at EN BV HS' ⊢; have HS := HS'; clear HS' OV
      refine hK.out _ _ HS.out (fun _ => ?_)
      clear hK K
      refine wpAnyH_done (by kernel_rfl) ?_ _
      try simp only [Act.put, List.setIfInBounds_toArray, List.set_cons_succ, List.set_cons_zero]
      have H9 := hide (HS.out.2.2.2.set (.int .i64 gg) (.slice ua c uc) (.slice pa (putM ps ((AT : Int), (k : Int))).length pc))
      have B9 := hide (three_cells (HS.out.2.2.2.res.choose_spec.choose_spec.choose_spec) (.int .i64 gg) (.slice ua c uc) (.slice pa (putM ps ((AT : Int), (k : Int))).length pc))
      obtain ⟨_, _, _, r0, r1, r2, q0, q1, q2⟩ := HS.out.2.2.2.free
      have v0 : W8.cell? ⟨V, 0, none⟩ = some (.int .i64 gg) := cell_block BV.out 0 _ rfl
      have v1 : W8.cell? ⟨V, 1, none⟩ = some (.slice ua c uc) := cell_block BV.out 1 _ rfl
      have v2 : W8.cell? ⟨V, 2, none⟩ = some (.slice pa (putM ps ((AT : Int), (k : Int))).length pc) := cell_block BV.out 2 _ rfl
      clear HS BV
      go_wp2
      clear r0 r1 r2 q0 q1 q2 v0 v1 v2
      generalize World.setCell _ ⟨R, 2, none⟩ _ = W9 at EN B9 H9 ⊢
      have h0 : W9.cell? ⟨R, 0, none⟩ = some (.int .i64 gg) := cell_block B9.out 0 _ rfl
      have h1 : W9.cell? ⟨R, 1, none⟩ = some (.slice ua c uc) := cell_block B9.out 1 _ rfl
      have h2 : W9.cell? ⟨R, 2, none⟩ = some (.slice pa (putM ps ((AT : Int), (k : Int))).length pc) := cell_block B9.out 2 _ rfl
      refine bodyPost_ret (by simp [results, Try.results11, go_sem, h0, h1, h2]; try rfl) rfl ?_
      exact ⟨_, rfl, EN.out, H9.out.el⟩
    ·
      go_simp
      refine zero_block _ ?_; intro w6 hb6 f6 sz6; have OV := hide (outV_new hb6 HS.out.2.2.2.el (Nat.lt_of_lt_of_le ND.out F4.out.size) (Nat.lt_of_lt_of_le BD.out F4.out.size)); have VL := hide (show w4.heap.size < w6.heap.size by omega); have F6 := hide f6; have A0 := hide (Nat.le_refl w4.heap.size); have HS' := hide ((HS.out.2.2.2.fresh f6).h); clear HS hb6 f6 sz6; have HS := HS'; clear HS'; generalize hV : w4.heap.size = V at OV VL ⊢; have HV := hide hV; clear hV
      refine hK.out _ _ HS.out (fun _ => ?_)
      clear hK K
      refine wpAnyH_ready (rs := [13]) (by kernel_rfl) (by simp) ?_
      refine AllReadyH.cons rfl (fun K hK => ?_) AllReadyH.nil
      go_simp
      go_wp2_with fail
      refine (PT.out _ HS.out.2.2.2.el).mono ?_; rintro e w5 ⟨u5, rfl, o5, f5⟩; obtain ⟨pa, pc, rfl⟩ := o5.shape; have O5 := hide o5; have A4 := hide (show Out4 w w5 V R w4 wd.heap.size from ⟨F6.out.trans f5, LD.out, BD.out, .inr (by rw [HV.out]; exact Nat.le_refl _)⟩); have A5 := hide (show Out4 w w5 V R w5 w6.heap.size from ⟨Fresh.refl _, Nat.le_trans LD.out (Nat.le_trans F4.out.size F6.out.size), Nat.lt_of_lt_of_le BD.out (Nat.le_trans F4.out.size F6.out.size), .inl VL.out⟩); have OV' := hide (OV.out.fresh f5); have HS' := hide ((HS.out.2.2.2.fresh f5).h); clear HS OV o5 f5; have HS := HS'; have OV := OV'; clear HS' OV'
      refine hK.out _ _ HS.out (fun _ => ?_)
      clear hK K
      refine held_take (i := 14) (d := 50) (v := ?_) rfl rfl (by kernel_rfl) (by kernel_rfl) (by kernel_rfl) (fun _ _ _ h => h) (by kernel_rfl) ?_ HS.out ?_
      rotate_left
      · intro wz hz
        obtain ⟨y0, y1, y2, -⟩ := hz
        go_simp
        first | done | with_reducible rfl
      have EN := hide (eng_out (x := .int .i64 gg) (y := .slice ua c uc) (z := .slice pa (putM ps ((AT : Int), (k : Int))).length pc) (x' := .int .i64 gg) (y' := .slice ua c uc) (z' := .slice pa (putM ps ((AT : Int), (k : Int))).length pc) GG.out S4.out O5.out A4.out A5.out PL.out PV.out.in64)
      have BV := hide (three_cells OV.out.blk (.int .i64 gg) (.slice ua c uc) (.slice pa (putM ps ((AT : Int), (k : Int))).length pc))
      obtain ⟨r0, r1, r2, q0, q1, q2⟩ := OV.out.cells
      refine wpAnyH_ready (rs := [16]) (by kernel_rfl) (by simp) ?_
      refine AllReadyH.cons rfl (fun K hK => ?_) AllReadyH.nil
      go_simp
      have HS' := hide ((HS.out.2.2.2.out OV.out (.int .i64 gg) (.slice ua c uc) (.slice pa (putM ps ((AT : Int), (k : Int))).length pc)).h); clear HS r0 r1 r2 q0 q1 q2 S4 O5 A4 A5; generalize World.setCell _ ⟨V, 2, none⟩ _ = W8 at EN BV HS' ⊢; have HS := HS'; clear HS' OV
      refine hK.out _ _ HS.out (fun _ => ?_)
      clear hK K
      refine wpAnyH_done (by kernel_rfl) ?_ _
      try simp only [Act.put, List.setIfInBounds_toArray, List.set_cons_succ, List.set_cons_zero]
      have H9 := hide (HS.out.2.2.2.set (.int .i64 gg) (.slice ua c uc) (.slice pa (putM ps ((AT : Int), (k : Int))).length pc))
      have B9 := hide (three_cells (HS.out.2.2.2.res.choose_spec.choose_spec.choose_spec) (.int .i64 gg) (.slice ua c uc) (.slice pa (putM ps ((AT : Int), (k : Int))).length pc))
      obtain ⟨_, _, _, r0, r1, r2, q0, q1, q2⟩ := HS.out.2.2.2.free
      have v0 : W8.cell? ⟨V, 0, none⟩ = some (.int .i64 gg) := cell_block BV.out 0 _ rfl
      have v1 : W8.cell? ⟨V, 1, none⟩ = some (.slice ua c uc) := cell_block BV.out 1 _ rfl
      have v2 : W8.cell? ⟨V, 2, none⟩ = some (.slice pa (putM ps ((AT : Int), (k : Int))).length pc) := cell_block BV.out 2 _ rfl
      clear HS BV
      go_wp2
      clear r0 r1 r2 q0 q1 q2 v0 v1 v2
      generalize World.setCell _ ⟨R, 2, none⟩ _ = W9 at EN B9 H9 ⊢
      have h0 : W9.cell? ⟨R, 0, none⟩ = some (.int .i64 gg) := cell_block B9.out 0 _ rfl
      have h1 : W9.cell? ⟨R, 1, none⟩ = some (.slice ua c uc) := cell_block B9.out 1 _ rfl
      have h2 : W9.cell? ⟨R, 2, none⟩ = some (.slice pa (putM ps ((AT : Int), (k : Int))).length pc) := cell_block B9.out 2 _ rfl
      refine bodyPost_ret (by simp [results, Try.results11, go_sem, h0, h1, h2]; try rfl) rfl ?_
      exact ⟨_, rfl, EN.out, H9.out.el⟩
  ·
    go_simp
    refine zero_block _ ?_; intro w6 hb6 f6 sz6; have OV := hide (outV_new hb6 HS.out.2.2.2.el ND.out BD.out); have VL := hide (show wd.heap.size < w6.heap.size by omega); have F6 := hide f6; have HS' := hide ((HS.out.2.2.2.fresh f6).h); clear HS hb6 f6 sz6; have HS := HS'; clear HS'; generalize hV : wd.heap.size = V at OV VL ⊢; have HV := hide hV; clear hV
    refine hK.out _ _ HS.out (fun _ => ?_)
    clear hK K
    refine wpAnyH_ready (rs := [7]) (by kernel_rfl) (by simp) ?_
    refine AllReadyH.cons rfl (fun K hK => ?_) AllReadyH.nil
    go_simp
    go_wp2_with fail
    refine (US.out _ HS.out.2.2.2.el).mono ?_; rintro e w4 ⟨u4, rfl, s4, f4⟩; obtain ⟨_, ua, uc, rfl, _⟩ := s4.at; have S4 := hide s4; have F4 := hide f4; have OV' := hide (OV.out.fresh f4); have HS' := hide ((HS.out.2.2.2.fresh f4).h); clear HS OV s4 f4; have HS := HS'; have OV := OV'; clear HS' OV'
    refine hK.out _ _ HS.out (fun _ => ?_)
    clear hK K
    refine wpAnyH_ready (rs := [13]) (by kernel_rfl) (by simp) ?_
    refine AllReadyH.cons rfl (fun K hK => ?_) AllReadyH.nil
    go_simp
    go_wp2_with fail
    refine (PT.out _ HS.out.2.2.2.el).mono ?_; rintro e w5 ⟨u5, rfl, o5, f5⟩; obtain ⟨pa, pc, rfl⟩ := o5.shape; have O5 := hide o5; have A4 := hide (show Out4 w w5 V R w4 w6.heap.size from ⟨f5, Nat.le_trans LD.out F6.out.size, Nat.lt_of_lt_of_le BD.out F6.out.size, .inl VL.out⟩); have A5 := hide (show Out4 w w5 V R w5 w4.heap.size from ⟨Fresh.refl _, Nat.le_trans LD.out (Nat.le_trans F6.out.size F4.out.size), Nat.lt_of_lt_of_le BD.out (Nat.le_trans F6.out.size F4.out.size), .inl (Nat.lt_of_lt_of_le VL.out F4.out.size)⟩); have OV' := hide (OV.out.fresh f5); have HS' := hide ((HS.out.2.2.2.fresh f5).h); clear HS OV o5 f5; have HS := HS'; have OV := OV'; clear HS' OV'
    refine hK.out _ _ HS.out (fun _ => ?_)
    clear hK K
    refine held_take (i := 14) (d := 50) (v := ?_) rfl rfl (by kernel_rfl) (by kernel_rfl) (by kernel_rfl) (fun _ _ _ h => h) (by kernel_rfl) ?_ HS.out ?_
    rotate_left
    · intro wz hz
      obtain ⟨y0, y1, y2, -⟩ := hz
      go_simp
      first | done | with_reducible rfl
    have EN := hide (eng_out (x := .int .i64 gg) (y := .slice ua c uc) (z := .slice pa (putM ps ((AT : Int), (k : Int))).length pc) (x' := .int .i64 gg) (y' := .slice ua c uc) (z' := .slice pa (putM ps ((AT : Int), (k : Int))).length pc) GG.out S4.out O5.out A4.out A5.out PL.out PV.out.in64)
    have BV := hide (three_cells OV.out.blk (.int .i64 gg) (.slice ua c uc) (.slice pa (putM ps ((AT : Int), (k : Int))).length pc))
    obtain ⟨r0, r1, r2, q0, q1, q2⟩ := OV.out.cells
    refine wpAnyH_ready (rs := [16]) (by kernel_rfl) (by simp) ?_
    refine AllReadyH.cons rfl (fun K hK => ?_) AllReadyH.nil
    go_simp
    have HS' := hide ((HS.out.2.2.2.out OV.out (.int .i64 gg) (.slice ua c uc) (.slice pa (putM ps ((AT : Int), (k : Int))).length pc)).h); clear HS r0 r1 r2 q0 q1 q2 S4 O5 A4 A5; generalize World.setCell _ ⟨V, 2, none⟩ _ = W8 at EN BV HS' ⊢; have HS := HS'; clear HS' OV
    refine hK.out _ _ HS.out (fun _ => ?_)
    clear hK K
    refine wpAnyH_done (by kernel_rfl) ?_ _
    try simp only [Act.put, List.setIfInBounds_toArray, List.set_cons_succ, List.set_cons_zero]
    have H9 := hide (HS.out.2.2.2.set (.int .i64 gg) (.slice ua c uc) (.slice pa (putM ps ((AT : Int), (k : Int))).length pc))
    have B9 := hide (three_cells (HS.out.2.2.2.res.choose_spec.choose_spec.choose_spec) (.int .i64 gg) (.slice ua c uc) (.slice pa (putM ps ((AT : Int), (k : Int))).length pc))
    obtain ⟨_, _, _, r0, r1, r2, q0, q1, q2⟩ := HS.out.2.2.2.free
    have v0 : W8.cell? ⟨V, 0, none⟩ = some (.int .i64 gg) := cell_block BV.out 0 _ rfl
    have v1 : W8.cell? ⟨V, 1, none⟩ = some (.slice ua c uc) := cell_block BV.out 1 _ rfl
    have v2 : W8.cell? ⟨V, 2, none⟩ = some (.slice pa (putM ps ((AT : Int), (k : Int))).length pc) := cell_block BV.out 2 _ rfl
    clear HS BV
    go_wp2
    clear r0 r1 r2 q0 q1 q2 v0 v1 v2
    generalize World.setCell _ ⟨R, 2, none⟩ _ = W9 at EN B9 H9 ⊢
    have h0 : W9.cell? ⟨R, 0, none⟩ = some (.int .i64 gg) := cell_block B9.out 0 _ rfl
    have h1 : W9.cell? ⟨R, 1, none⟩ = some (.slice ua c uc) := cell_block B9.out 1 _ rfl
    have h2 : W9.cell? ⟨R, 2, none⟩ = some (.slice pa (putM ps ((AT : Int), (k : Int))).length pc) := cell_block B9.out 2 _ rfl
    refine bodyPost_ret (by simp [results, Try.results11, go_sem, h0, h1, h2]; try rfl) rfl ?_
    exact ⟨_, rfl, EN.out, H9.out.el⟩
end Go.Proofs.Ytegolecdmpikhaa
