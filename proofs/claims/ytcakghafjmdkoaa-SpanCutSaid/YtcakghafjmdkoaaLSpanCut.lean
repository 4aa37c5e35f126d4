/- Proved here: hodmanlaw8.SpanCut returns true at every bytes and every number, in any memory: what is cut may be put again, and is as it was. No condition. -/
import Derived.Test.YtcakghafjmdkoaaSpanLaw
import Derived.Test.YtcakghafjmdkoaaSpanMore
import Derived.Test.YtcakghafjmdkoaaPlaySpan
import Derived.Test.YtcakghafjmdkoaaHeld
namespace Go.Proofs.Ytcakghafjmdkoaa
open Go.ChangeShapes Go.WideShapes Go.ChangeAt Go.RowKit

theorem wrapS {a : Int} (h1 : -9223372036854775808 ≤ a) (h2 : a ≤ 9223372036854775807) : IntKind.i64.wrap a = a := by rw [IntKind.wrap_i64]; omega
/-- two pieces in blocks of the law's own -/
def HeldT (W : World) (S T : Nat) (p1 p2 : Int) (w : World) : Prop := w.cell? ⟨S, 0, none⟩ = some (.int .i64 p1) ∧ w.cell? ⟨S, 1, none⟩ = some (.int .i64 p2) ∧ w.cell? ⟨T, 0, none⟩ = some (.int .i64 p1) ∧ w.cell? ⟨T, 1, none⟩ = some (.int .i64 p2) ∧ Fresh W w
theorem HeldT.fresh {W : World} {S T : Nat} {p1 p2 : Int} {w w' : World} (h : HeldT W S T p1 p2 w) (k : Fresh w w') : HeldT W S T p1 p2 w' := by
  obtain ⟨a, b, c, d, e⟩ := h
  exact ⟨(k.cell (World.block_lt_of_cell? _ _ a)).trans a, (k.cell (World.block_lt_of_cell? _ _ b)).trans b, (k.cell (World.block_lt_of_cell? _ _ c)).trans c, (k.cell (World.block_lt_of_cell? _ _ d)).trans d, e.trans k⟩

set_option maxRecDepth 100000 in
set_option maxHeartbeats 2000000 in
theorem spanCut_walk0 (a : Option Addr) (len cap : Nat) (zs : List Int) (n : Int) (hn : 0 ≤ n) (hn' : n ≤ 255) (w : World) (hrow : IsRow .u8 w a len cap zs) :
    Calls Try.prog 5 #[.slice a len cap, .int .u8 n] w fun e w' => e = .returned (.bool true) ∧ Fresh w w' := by
  by_cases h20 : len ≤ 20
  · have l0 : (len : Int) ≤ 20 := by omega
    have RW := hide hrow
    clear hrow h20
    go_enter Try.func5, Try.ntmps5
    go_wp2_with fail
    refine (begun8_true _).mono ?_
    rintro e w1 ⟨rfl, k1⟩
    have K1 := hide k1
    clear k1
    go_wp2_with fail
    refine (spans_any a len cap zs w1 ⟨w, RW.out, K1.out⟩).mono ?_
    rintro e w2 ⟨v, ps, rfl, s2, v2, l2, f2⟩
    have S2 := hide s2
    have V := hide v2
    have L2 := hide l2
    have F2 := hide (K1.out.trans f2)
    obtain ⟨a1, c1, rfl, q1, q2, q3, q4, q5, q6⟩ := s2.1
    have HC := hide q6
    have t1 : (ps.length : Int) ≤ 10 := by omega
    have t0 : (0 : Int) ≤ (ps.length : Int) := by omega
    clear q1 q2 q3 q4 q5 q6 v2 f2 s2 K1
    by_cases hz : ps.length = 0
    · rw [hz]
      go_wp2
      go_ret
      exact ⟨rfl, F2.out⟩
    · have hz1 : ((ps.length : Int) == 0) = false := by rw [beq_eq_false_iff_ne]; omega
      have hz2 : (0 : Int) < (ps.length : Int) := by omega
      obtain ⟨i, hi⟩ : ∃ i : Nat, n % (ps.length : Int) = (i : Int) := ⟨(n % (ps.length : Int)).toNat, by have := Int.emod_nonneg n (show (ps.length : Int) ≠ 0 by omega); omega⟩
      have il : i < ps.length := by have := Int.emod_lt_of_pos n hz2; omega
      obtain ⟨b, o, rfl, c0, c1'⟩ := HC.out i il
      have CB := cut_back V.out il
      have B1 := hide CB.b
      have B2 := hide CB.p
      have B3 := hide CB.l
      have B4 := hide CB.len
      have B5 := hide CB.tot
      have B6 := hide CB.b2
      have B7 := hide CB.p2
      have B8 := hide CB.l2
      have B9 := hide CB.pb
      have B10 := hide CB.pl
      have IN := hide (V.out.pos il)
      have VE := hide (val_erase V.out i)
      have TL := hide (tot_in V.out.1 ps.length (Nat.le_refl _))
      rw [List.take_length] at TL
      clear CB
      generalize nth ps i = p at *
      obtain ⟨p1, p2⟩ := p
      simp only at c0 c1' IN B1 B2 B3 B5 B6 B7 B8
      generalize ps.eraseIdx i = E at *
      obtain ⟨m, hm⟩ : ∃ m, E.length = m := ⟨_, rfl⟩
      have HM := hide hm
      have w1' : IntKind.i64.wrap ((ps.length : Int) - 1) = (m : Int) := by rw [show (ps.length : Int) - 1 = (m : Int) by have := B4.out; omega]; exact wrapS (by omega) (by have := B4.out; omega)
      have m10 : E.length ≤ 10 := by have := B4.out; omega
      clear hm
      have i0 : (0 : Int) ≤ (i : Int) := by omega
      have i1 : (i : Int) < (ps.length : Int) := by omega
      have IP := hide (show In64 (p1, p2) by have := IN.out; unfold In64; simp only; omega)
      have CT := hide (fun v w h => cut_to v ps p1 true p1 p2 E m B1.out B2.out B3.out HM.out w h V.out (by have := L2.out; omega) IP.out.1 IP.out.2.1)
      have CU := hide (fun v w h => cut_to v E p1 false 0 0 E m B6.out B7.out B8.out HM.out w h VE.out (by omega) IP.out.1 IP.out.2.1)
      have PU := hide (fun v w h => put_to v E p1 p2 true ps ps.length B9.out B10.out rfl w h VE.out.1 (by omega) IP.out)
      obtain ⟨tx, htx⟩ : ∃ tx, tot E = tx := ⟨_, rfl⟩
      obtain ⟨tl, htl⟩ : ∃ tl, tot ps = tl := ⟨_, rfl⟩
      have TX := hide (fun v w h => total_to v E tx htx w h VE.out.1)
      have TT := hide (fun v w h => total_to v ps tl htl w h V.out.1)
      have w2' : IntKind.i64.wrap (tl - p2) = tx := by
        have h5 := B5.out
        rw [htx, htl] at h5
        have h6 := TL.out
        rw [htl] at h6
        have := IN.out
        rw [← h5]
        exact wrapS (by omega) (by omega)
      clear hz htx htl
      go_wp2_with fail
      refine (CT.out _ _ (S2.out.fresh (fresh_box _ _ _))).mono ?_
      rintro e w3 ⟨a3, c3, rfl, o3, f3⟩
      obtain ⟨S, hS⟩ : ∃ S, S = w2.heap.size := ⟨_, rfl⟩
      obtain ⟨T, hT⟩ : ∃ T, T = w3.heap.size := ⟨_, rfl⟩
      obtain ⟨w4, hw4⟩ : ∃ w4, w4 = w3.alloc (.cells #[.int .i64 p1, .int .i64 p2] 25) := ⟨_, rfl⟩
      have f4 : Fresh (w2.alloc (.cells #[.int .i64 p1, .int .i64 p2] 25)) w4 := by rw [hw4]; exact fresh_more f3 _ _
      have g4 : Fresh w3 w4 := by rw [hw4]; exact fresh_box _ _ _
      have bS : w4.heap[S]? = some (.cells #[.int .i64 p1, .int .i64 p2] 25 (0, 0)) := by rw [hS, f4.block w2.heap.size (by simp)]; exact heap_alloc_new w2 _
      have bT : w4.heap[T]? = some (.cells #[.int .i64 p1, .int .i64 p2] 25 (0, 0)) := by rw [hT, hw4]; exact heap_alloc_new w3 _
      have HT := hide (show HeldT w S T p1 p2 w4 from ⟨cell_block bS 0 _ rfl, cell_block bS 1 _ rfl, cell_block bT 0 _ rfl, cell_block bT 1 _ rfl, (F2.out.trans (fresh_box _ _ _)).trans f4⟩)
      have SX := hide ((o3.at (by omega) VE.out.1.in64).fresh g4)
      have SL := hide ((S2.out.fresh (fresh_box _ _ _)).fresh f4)
      have HS4 := hide hS
      have HT4 := hide hT
      have HW4 := hide hw4
      clear o3 f3 f4 g4 bS bT S2 F2 hS hT hw4 c0 c1'
      have HS : Hid (HeldT w S T p1 p2 w4.drew) := HT.out.fresh (Fresh.refl _).drew
      go_wp2_with fail
      rw [← HW4.out, ← HS4.out, ← HT4.out]
      have KD := hide (show Fresh w4 w4.drew from (Fresh.refl _).drew)
      refine wp_region_held (S := HeldT w S T p1 p2) (by kernel_rfl) ?_
      change wpAnyH _ _ _ _ _ _ _ _ (World.drew _)
      generalize World.drew w4 = wd at HS KD ⊢
      refine held_take (i := 0) (d := 41) (v := ?_) rfl rfl (by kernel_rfl) (by kernel_rfl) (by kernel_rfl) (fun _ _ _ h => h) (by kernel_rfl) ?_ HS.out ?_
      rotate_left
      · intro wz hz
        obtain ⟨z0, z1, z2, z3, -⟩ := hz
        go_simp
        first | done | with_reducible rfl
      refine held_take (i := 1) (d := 42) (v := ?_) rfl rfl (by kernel_rfl) (by kernel_rfl) (by kernel_rfl) (fun _ _ _ h => h) (by kernel_rfl) ?_ HS.out ?_
      rotate_left
      · intro wz hz
        obtain ⟨z0, z1, z2, z3, -⟩ := hz
        go_simp
        first | done | with_reducible rfl
      refine held_take (i := 2) (d := 43) (v := ?_) rfl rfl (by kernel_rfl) (by kernel_rfl) (by kernel_rfl) (fun _ _ _ h => h) (by kernel_rfl) ?_ HS.out ?_
      rotate_left
      · intro wz hz
        obtain ⟨z0, z1, z2, z3, -⟩ := hz
        go_simp
        first | done | with_reducible rfl
      refine held_take (i := 3) (d := 44) (v := ?_) rfl rfl (by kernel_rfl) (by kernel_rfl) (by kernel_rfl) (fun _ _ _ h => h) (by kernel_rfl) ?_ HS.out ?_
      rotate_left
      · intro wz hz
        obtain ⟨z0, z1, z2, z3, -⟩ := hz
        go_simp
        first | done | with_reducible rfl
      refine held_take (i := 4) (d := 45) (v := ?_) rfl rfl (by kernel_rfl) (by kernel_rfl) (by kernel_rfl) (fun _ _ _ h => h) (by kernel_rfl) ?_ HS.out ?_
      rotate_left
      · intro wz hz
        obtain ⟨z0, z1, z2, z3, -⟩ := hz
        go_simp
        first | done | with_reducible rfl
      refine held_take (i := 5) (d := 46) (v := ?_) rfl rfl (by kernel_rfl) (by kernel_rfl) (by kernel_rfl) (fun _ _ _ h => h) (by kernel_rfl) ?_ HS.out ?_
      rotate_left
      · intro wz hz
        obtain ⟨z0, z1, z2, z3, -⟩ := hz
        go_simp
        first | done | with_reducible rfl
      refine held_take (i := 6) (d := 47) (v := ?_) rfl rfl (by kernel_rfl) (by kernel_rfl) (by kernel_rfl) (fun _ _ _ h => h) (by kernel_rfl) ?_ HS.out ?_
      rotate_left
      · intro wz hz
        obtain ⟨z0, z1, z2, z3, -⟩ := hz
        go_simp
        first | done | with_reducible rfl
      refine held_take (i := 7) (d := 48) (v := ?_) rfl rfl (by kernel_rfl) (by kernel_rfl) (by kernel_rfl) (fun _ _ _ h => h) (by kernel_rfl) ?_ HS.out ?_
      rotate_left
      · intro wz hz
        obtain ⟨z0, z1, z2, z3, -⟩ := hz
        go_simp
        first | done | with_reducible rfl
      refine held_take (i := 8) (d := 49) (v := ?_) rfl rfl (by kernel_rfl) (by kernel_rfl) (by kernel_rfl) (fun _ _ _ h => h) (by kernel_rfl) ?_ HS.out ?_
      rotate_left
      · intro wz hz
        obtain ⟨z0, z1, z2, z3, -⟩ := hz
        go_simp
        first | done | with_reducible rfl
      refine held_take (i := 9) (d := 50) (v := ?_) rfl rfl (by kernel_rfl) (by kernel_rfl) (by kernel_rfl) (fun _ _ _ h => h) (by kernel_rfl) ?_ HS.out ?_
      rotate_left
      · intro wz hz
        obtain ⟨z0, z1, z2, z3, -⟩ := hz
        go_simp
        first | done | with_reducible rfl
      refine held_take (i := 10) (d := 51) (v := ?_) rfl rfl (by kernel_rfl) (by kernel_rfl) (by kernel_rfl) (fun _ _ _ h => h) (by kernel_rfl) ?_ HS.out ?_
      rotate_left
      · intro wz hz
        obtain ⟨z0, z1, z2, z3, -⟩ := hz
        go_simp
        first | done | with_reducible rfl
      refine held_take (i := 11) (d := 52) (v := ?_) rfl rfl (by kernel_rfl) (by kernel_rfl) (by kernel_rfl) (fun _ _ _ h => h) (by kernel_rfl) ?_ HS.out ?_
      rotate_left
      · intro wz hz
        obtain ⟨z0, z1, z2, z3, -⟩ := hz
        go_simp
        first | done | with_reducible rfl
      refine held_take (i := 12) (d := 53) (v := ?_) rfl rfl (by kernel_rfl) (by kernel_rfl) (by kernel_rfl) (fun _ _ _ h => h) (by kernel_rfl) ?_ HS.out ?_
      rotate_left
      · intro wz hz
        obtain ⟨z0, z1, z2, z3, -⟩ := hz
        go_simp
        first | done | with_reducible rfl
      refine held_take (i := 13) (d := 54) (v := ?_) rfl rfl (by kernel_rfl) (by kernel_rfl) (by kernel_rfl) (fun _ _ _ h => h) (by kernel_rfl) ?_ HS.out ?_
      rotate_left
      · intro wz hz
        obtain ⟨z0, z1, z2, z3, -⟩ := hz
        go_simp
        first | done | with_reducible rfl
      refine held_take (i := 14) (d := 55) (v := ?_) rfl rfl (by kernel_rfl) (by kernel_rfl) (by kernel_rfl) (fun _ _ _ h => h) (by kernel_rfl) ?_ HS.out ?_
      rotate_left
      · intro wz hz
        obtain ⟨z0, z1, z2, z3, -⟩ := hz
        go_simp
        first | done | with_reducible rfl
      refine held_take (i := 15) (d := 56) (v := ?_) rfl rfl (by kernel_rfl) (by kernel_rfl) (by kernel_rfl) (fun _ _ _ h => h) (by kernel_rfl) ?_ HS.out ?_
      rotate_left
      · intro wz hz
        obtain ⟨z0, z1, z2, z3, -⟩ := hz
        go_simp
        first | done | with_reducible rfl
      refine held_take (i := 16) (d := 57) (v := ?_) rfl rfl (by kernel_rfl) (by kernel_rfl) (by kernel_rfl) (fun _ _ _ h => h) (by kernel_rfl) ?_ HS.out ?_
      rotate_left
      · intro wz hz
        obtain ⟨z0, z1, z2, z3, -⟩ := hz
        go_simp
        first | done | with_reducible rfl
      refine held_take (i := 18) (d := 59) (v := ?_) rfl rfl (by kernel_rfl) (by kernel_rfl) (by kernel_rfl) (fun _ _ _ h => h) (by kernel_rfl) ?_ HS.out ?_
      rotate_left
      · intro wz hz
        obtain ⟨z0, z1, z2, z3, -⟩ := hz
        go_simp
        first | done | with_reducible rfl
      refine held_take (i := 20) (d := 61) (v := ?_) rfl rfl (by kernel_rfl) (by kernel_rfl) (by kernel_rfl) (fun _ _ _ h => h) (by kernel_rfl) ?_ HS.out ?_
      rotate_left
      · intro wz hz
        obtain ⟨z0, z1, z2, z3, -⟩ := hz
        go_simp
        first | done | with_reducible rfl
      refine held_take (i := 21) (d := 62) (v := ?_) rfl rfl (by kernel_rfl) (by kernel_rfl) (by kernel_rfl) (fun _ _ _ h => h) (by kernel_rfl) ?_ HS.out ?_
      rotate_left
      · intro wz hz
        obtain ⟨z0, z1, z2, z3, -⟩ := hz
        go_simp
        first | done | with_reducible rfl
      refine wpAnyH_ready (rs := [17]) (by kernel_rfl) (by simp) ?_
      refine AllReadyH.cons rfl (fun K hK => ?_) AllReadyH.nil
      go_simp
      go_wp2_with fail
      refine (TX.out _ _ (SX.out.fresh KD.out).1).mono ?_; rintro e w5 ⟨rfl, f5⟩; have K5 := hide (KD.out.trans f5); have HS' := hide (HS.out.fresh f5); clear HS f5; have HS := HS'; clear HS'
      refine hK.out _ _ HS.out (fun _ => ?_)
      clear hK K
      refine wpAnyH_ready (rs := [19]) (by kernel_rfl) (by simp) ?_
      refine AllReadyH.cons rfl (fun K hK => ?_) AllReadyH.nil
      go_simp
      go_wp2_with fail
      refine (TT.out _ _ (SL.out.fresh K5.out).1).mono ?_; rintro e w6 ⟨rfl, f6⟩; have K6 := hide (K5.out.trans f6); have HS' := hide (HS.out.fresh f6); clear HS f6; have HS := HS'; clear HS'
      refine hK.out _ _ HS.out (fun _ => ?_)
      clear hK K
      refine held_take (i := 22) (d := 63) (v := ?_) rfl rfl (by kernel_rfl) (by kernel_rfl) (by kernel_rfl) (fun _ _ _ h => h) (by kernel_rfl) ?_ HS.out ?_
      rotate_left
      · intro wz hz
        obtain ⟨z0, z1, z2, z3, -⟩ := hz
        go_simp
        first | done | with_reducible rfl
      refine held_take (i := 23) (d := 64) (v := ?_) rfl rfl (by kernel_rfl) (by kernel_rfl) (by kernel_rfl) (fun _ _ _ h => h) (by kernel_rfl) ?_ HS.out ?_
      rotate_left
      · intro wz hz
        obtain ⟨z0, z1, z2, z3, -⟩ := hz
        go_simp
        first | done | with_reducible rfl
      refine held_take (i := 24) (d := 65) (v := ?_) rfl rfl (by kernel_rfl) (by kernel_rfl) (by kernel_rfl) (fun _ _ _ h => h) (by kernel_rfl) ?_ HS.out ?_
      rotate_left
      · intro wz hz
        obtain ⟨z0, z1, z2, z3, -⟩ := hz
        go_simp
        first | done | with_reducible rfl
      refine wpAnyH_done (by kernel_rfl) ?_ _
      try simp only [Act.put, List.setIfInBounds_toArray, List.set_cons_succ, List.set_cons_zero]
      obtain ⟨z0, z1, z2, z3, -⟩ := HS.out
      have sb : S < w6.heap.size := World.block_lt_of_cell? _ _ z0
      have SBK := hide sb
      go_wp2_with fail
      refine (CU.out _ _ (SX.out.fresh K6.out)).mono ?_
      rintro e w7 ⟨a7, c7, rfl, o7, f7⟩
      obtain ⟨U, hU⟩ : ∃ U, U = w7.heap.size := ⟨_, rfl⟩
      obtain ⟨w8, hw8⟩ : ∃ w8, w8 = w7.alloc (.cells #[.int .i64 0, .int .i64 0] 25) := ⟨_, rfl⟩
      have SBK7 := hide (Nat.lt_of_lt_of_le SBK.out f7.size)
      have g8 : Fresh w6 w8 := by rw [hw8]; exact fresh_more f7 _ _
      have bU : w8.heap[U]? = some (.cells #[.int .i64 0, .int .i64 0] 25 (0, 0)) := by rw [hU, hw8]; exact heap_alloc_new w7 _
      have BU := hide bU
      have K8 := hide (K6.out.trans g8)
      have H8 := hide (HS.out.fresh g8)
      have HU := hide hU
      have HW8 := hide hw8
      clear o7 f7 g8 bU hU hw8 z0 z1 z2 z3 sb HS
      obtain ⟨z0, z1, z2, z3, -⟩ := H8.out
      rw [HW8.out] at z0 z1
      have sb : S < w7.heap.size := SBK7.out
      clear z2 z3
      go_wp2_with fail
      rw [← HW8.out, ← HU.out]
      refine (PU.out _ _ (SX.out.fresh K8.out)).mono ?_
      rintro e w9 ⟨a9, c9, rfl, o9, f9⟩
      have O9 := hide (o9.at (by have := L2.out; omega) V.out.1.in64)
      have K9 := hide (K8.out.trans f9)
      have E9 := hide (H8.out.2.2.2.2.trans f9)
      have u0 : w9.cell? ⟨U, 0, none⟩ = some (.int .i64 0) := (f9.cell (Array.getElem?_eq_some_iff.1 BU.out).1).trans (cell_block BU.out 0 _ rfl)
      have u1 : w9.cell? ⟨U, 1, none⟩ = some (.int .i64 0) := (f9.cell (Array.getElem?_eq_some_iff.1 BU.out).1).trans (cell_block BU.out 1 _ rfl)
      clear o9 f9 z0 z1
      go_wp2_with fail
      refine (same_to _ _ ps ps true (by simp) _ O9.out.1 (SL.out.fresh K9.out).1).mono ?_
      rintro e w10 ⟨rfl, q, rfl⟩
      go_wp2
      go_ret
      exact ⟨rfl, fresh_drewN E9.out q⟩
  · have l0 : (20 : Int) < (len : Int) := by omega
    clear hrow
    go_enter Try.func5, Try.ntmps5
    go_wp2_with fail
    refine (begun8_true _).mono ?_
    rintro e w1 ⟨rfl, k1⟩
    have K1 := hide k1
    clear k1
    go_wp2
    go_ret
    exact ⟨rfl, K1.out⟩

set_option linter.unusedVariables false
set_option maxRecDepth 100000 in
theorem spanCut_lifted (os : Os) (started : os.Started) (H : Type) (enc : TypeId × Value → H) :
    ReturnsInHanded {} Try.checked os 5 .any (Rows.spanCutSpec.pre6 enc Try.prog Try.f5 Rows.spanCutRow.domain false) (Rows.spanCutSpec.post enc Try.prog Try.f5 false true false false) := by
  refine returnsInHanded_of_change (C := Try.checked) own started (by kernel_rfl) Try.func5
    (ChangeSpec.witness6 (enc := enc) (C := Try.checked) false ⟨#[], #[.slice none 0 0, .int .u8 0], []⟩ 8 (by kernel_rfl) (by kernel_rfl) (by kernel_rfl) (by kernel_rfl)) ?_
  intro W base args ds gs before hval0 hW hcnd _
  have hval : ∀ (j : Nat) t v, Try.f5.params[j]? = some t → args[j]? = some v → Value.okWide Try.prog W .any base t v := hval0
  have hW' := hW
  obtain ⟨p, q, hA0, hV, rfl, hfz, hnd⟩ := hW
  have hA : DataW.TrodAll enc Try.prog W 0 (fun _ => true) true Try.f5.params.toList args.toList ds p := hA0
  rw [Try.params5] at hA hval
  obtain ⟨v0, vs0, d0, ds0, p0, q0, hargs, rfl, rfl, h0, r0⟩ := trodAll_cons hA
  obtain ⟨v1, vs1, d1, ds1, p1, q1, rfl, rfl, rfl, h1, r1⟩ := trodAll_cons r0
  obtain ⟨rfl, rfl, rfl⟩ := trodAll_nil r1
  obtain rfl : args = #[v0, v1] := by cases args; simp_all
  obtain ⟨rfl, rfl⟩ := trodVars_none hV
  have lt0 : ∀ x ∈ p0, x.block < W.heap.size := by obtain ⟨m, hm⟩ := h0; exact DataW.trod_lt m _ _ _ hm
  have lt1 : ∀ x ∈ p1, x.block < W.heap.size := by obtain ⟨m, hm⟩ := h1; exact DataW.trod_lt m _ _ _ hm
  obtain ⟨a0, len0, cap0, rfl⟩ := okWide_slice Try.underlying22 (hval 0 22 v0 rfl rfl)
  obtain ⟨z0, w0⟩ := isRow_of Try.underlying22 Try.underlying5 (by kernel_rfl) h0
  obtain ⟨a1, rfl, rfl, rfl, w1⟩ := open_int Try.underlying5 (hval 1 5 v1 rfl rfl) h1
  clear hA0 hval0
  refine (spanCut_walk0 a0 len0 cap0 z0 a1 (bounds_u8 w1).1 (bounds_u8 w1).2 W w0).mono fun e W' ⟨he, hg⟩ => ?_
  subst he
  exact ⟨_, rfl, _, _, _, [], _, [], hW', trodAll_mk1 (shut_bool Try.underlying4 _), (trodAll_cons_mk (Below.trod laidOut (by kernel_rfl) (of_decide_eq_true (by kernel_rfl)) h0 hg lt0) (trodAll_cons_mk (Below.trod laidOut (by kernel_rfl) (of_decide_eq_true (by kernel_rfl)) h1 hg lt1) trodAll_mk0)), rfl, hg.frame _, fun h => by cases h⟩

theorem spanCut_row : Rows.SpanCutSaid :=
  OpenClaim.holds_of_wide 5 Try.f5 rfl rfl rfl rfl rfl rfl rfl ⟨rfl, rfl, rfl, rfl, rfl⟩ rfl rfl rfl rfl rfl (by kernel_rfl) Try.func5 (by kernel_rfl)
    (of_decide_eq_true (by kernel_rfl)) (by unfold Func.isWrapper; first | (rw [if_pos (by decide +kernel)]; kernel_rfl) | (rw [if_neg (by decide +kernel)]; exact ⟨rfl, rfl⟩))
    (fun os started H enc _ => spanCut_lifted os started H enc)

theorem spanCut_holds : Rows.SpanCutSaid := spanCut_row
#print axioms spanCut_holds
end Go.Proofs.Ytcakghafjmdkoaa
