/- Proved here: hodmanlaw14.JunkAll, called with any slice of bytes and any numbers, returns true: what stands in fresh pages is as promise P14.1 has it. No condition. -/
import Derived.Test.YtakpbhijnhpdeaaJunkLaw
import Derived.Test.YtakpbhijnhpdeaaRefJunk
import Derived.Test.YtakpbhijnhpdeaaInts
import Derived.Test.YtakpbhijnhpdeaaByteOpen
namespace Go.Proofs.Ytakpbhijnhpdeaa
open Go.ChangeShapes Go.WideShapes Go.ChangeAt Go.RowKit

theorem rfill_to (v : Value) (l X : List Int) (s p n : Int) (w : World) (h : BytesIn w v l) (s0 : 0 ≤ s) (s1 : s ≤ 255) (p0 : -9223372036854775808 ≤ p) (p1 : p ≤ 9223372036854775807) (n0 : -9223372036854775808 ≤ n) (n1 : n ≤ 9223372036854775807) (hX : fillV l s p n = X) :
    Calls Try.prog 8 #[v, .int .i64 s, .int .i64 p, .int .i64 n] w fun e w' => ∃ u, e = .returned u ∧ BytesIn w' u X ∧ Fresh w w' := by
  refine (rfill_any v l s p n w h s0 (by omega) p0 p1 n0 n1).mono ?_
  rintro e w' ⟨u, rfl, o, f⟩
  subst hX
  exact ⟨u, rfl, o.inn (by rw [fillV_length]; exact h.1), f⟩
theorem HasI.fr {w w' : World} {n : Nat} {l : List Int} (h : HasI w n l) (k : Fresh w w') : HasI w' n l := fun i hi => (k.cell (World.block_lt_of_cell? _ _ (h i hi))).trans (h i hi)

set_option maxRecDepth 100000 in
set_option maxHeartbeats 4000000 in
theorem junkAll_walk0 (a : Option Addr) (len cap : Nat) (zs : List Int) (s : Int) (s0 : 0 ≤ s) (s1 : s ≤ 255) (p : Int) (p0 : 0 ≤ p) (p1 : p ≤ 65535) (z : Int) (z0 : 0 ≤ z) (z1 : z ≤ 65535) (t : Int) (t0 : 0 ≤ t) (t1 : t ≤ 65535) (x : Int) (x0 : -9223372036854775808 ≤ x) (x1 : x ≤ 9223372036854775807) (w : World) (hR : IsRow .u8 w a len cap zs) :
    Calls Try.prog 3 #[.slice a len cap, .int .u8 s, .int .u16 p, .int .u16 z, .int .u16 t, .int .i64 x] w fun e w' => e = .returned (.bool true) ∧ Fresh w w' := by
  have l0 : (0 : Int) ≤ (len : Int) := by omega
  have lm := row_le hR
  by_cases g : 60 < len
  · have g' : (60 : Int) < (len : Int) := by omega
    clear hR
    go_enter Try.func3, Try.ntmps3
    go_wp2_with fail
    refine (begun14_true _).mono ?_
    rintro e w1 ⟨rfl, k1⟩
    have K1 := hide k1
    clear k1
    go_wp2
    go_ret
    exact ⟨rfl, K1.out⟩
  have g' : (len : Int) ≤ 60 := by omega
  obtain ⟨l, hl, hb, -⟩ := bytesIn_of hR (by omega)
  have HB := hide hb
  have HL := hide hl
  obtain ⟨N, hn⟩ : ∃ N, z % 40 = N := ⟨_, rfl⟩
  obtain ⟨r, hr⟩ : ∃ r, p % 9 = r := ⟨_, rfl⟩
  have n0 : 0 ≤ N := by omega
  have n1 : N ≤ 39 := by omega
  have r0 : 0 ≤ r := by omega
  have r1 : r ≤ 8 := by omega
  clear hR hb hl g
  go_enter Try.func3, Try.ntmps3
  go_wp2_with fail
  refine (begun14_true _).mono ?_
  rintro e w1 ⟨rfl, k1⟩
  have K1 := hide k1
  have B1 := hide (HB.out.fresh k1)
  clear k1 HB
  go_wp2_with fail
  obtain ⟨W, hW⟩ : ∃ W, W = w1.alloc (.cells #[.int .i64 p, .int .i64 r, .int .i64 0, .int .i64 x] 3) := ⟨_, rfl⟩
  have PI := hide (show HasI W w1.heap.size [p, r, 0, x] from hW ▸ HasI.made w1 [p, r, 0, x] 3)
  have KW := hide (show Fresh w W from hW ▸ fresh_more K1.out _ _)
  have BW := hide (show BytesIn W (.slice a len cap) l from hW ▸ B1.out.fresh (fresh_box _ _ _))
  rw [← hW]
  obtain ⟨PB, hPB⟩ : ∃ PB, PB = w1.heap.size := ⟨_, rfl⟩
  rw [← hPB] at PI ⊢
  have I64 := hide (show ∀ k, k < 4 → -9223372036854775808 ≤ [p, r, 0, x].getD k 0 ∧ [p, r, 0, x].getD k 0 ≤ 9223372036854775807 from fun k hk => by
    match k, hk with
    | 0, _ => exact ⟨show _ ≤ p by omega, show p ≤ _ by omega⟩
    | 1, _ => exact ⟨show _ ≤ r by omega, show r ≤ _ by omega⟩
    | 2, _ => exact ⟨show _ ≤ (0 : Int) by decide, show (0 : Int) ≤ _ by decide⟩
    | 3, _ => exact ⟨x0, x1⟩)
  have LEN := hide (show [p, r, 0, x].length = 4 from rfl)
  generalize [p, r, 0, x] = ps at PI I64 LEN
  clear hW hPB K1 B1
  simp only [hn, hr]
  go_loopw [17] (fun i wr => ∃ k : Nat, k ≤ 4 ∧ i = .int .i64 (k : Int) ∧ Fresh W wr) (fun i _ => (4 - intOf i).toNat)
  case atStart => exact ⟨0, by omega, rfl, Fresh.refl _⟩
  case round =>
    obtain ⟨k, hk, rfl, hf⟩ := hrel
    have F := hide hf
    have k0 : (0 : Int) ≤ (k : Int) := by omega
    by_cases gk : k < 4
    · have gk' : (k : Int) < 4 := by omega
      have GK := hide (show k + 1 ≤ 4 by omega)
      have PC := hide (PI.out.fr hf k (by rw [LEN.out]; exact gk))
      have IK := I64.out k gk
      generalize ps.getD k 0 = y at PC IK
      have FT := hide (fun w (h : BytesIn w (.slice a len cap) l) => fill_to _ l _ s y N w h IK.1 IK.2 (by omega) (by omega) rfl)
      have RT := hide (fun w (h : BytesIn w (.slice a len cap) l) => rfill_to _ l _ s y N w h s0 s1 IK.1 IK.2 (by omega) (by omega) rfl)
      generalize fillV l s y N = X at FT RT
      have BR := hide (BW.out.fresh hf)
      clear hf gk hk
      go_wp2_with fail
      have HS := hide (show wr.drew.cell? ⟨PB, k, none⟩ = some (.int .i64 y) ∧ BytesIn wr.drew (.slice a len cap) l ∧ Fresh W wr.drew from ⟨PC.out, BR.out.fresh (Fresh.refl _).drew, F.out.trans (Fresh.refl _).drew⟩)
      refine wp_region_held (S := (fun wz => wz.cell? ⟨PB, k, none⟩ = some (.int .i64 y) ∧ BytesIn wz (.slice a len cap) l ∧ Fresh W wz)) (by kernel_rfl) ?_
      change wpAnyH _ _ _ _ _ _ _ _ (World.drew _)
      refine held_take (i := 0) (d := 39) (v := ?_) rfl rfl (by kernel_rfl) (by kernel_rfl) (by kernel_rfl) (fun _ _ _ h => h) (by kernel_rfl) ?_ HS.out ?_
      rotate_left
      · intro wz hz
        obtain ⟨e1, -, -⟩ := hz
        go_simp
        first | done | with_reducible rfl
      refine held_take (i := 1) (d := 40) (v := ?_) rfl rfl (by kernel_rfl) (by kernel_rfl) (by kernel_rfl) (fun _ _ _ h => h) (by kernel_rfl) ?_ HS.out ?_
      rotate_left
      · intro wz hz
        obtain ⟨e1, -, -⟩ := hz
        go_simp
        first | done | with_reducible rfl
      refine held_take (i := 2) (d := 41) (v := ?_) rfl rfl (by kernel_rfl) (by kernel_rfl) (by kernel_rfl) (fun _ _ _ h => h) (by kernel_rfl) ?_ HS.out ?_
      rotate_left
      · intro wz hz
        obtain ⟨e1, -, -⟩ := hz
        go_simp
        first | done | with_reducible rfl
      refine held_take (i := 3) (d := 42) (v := ?_) rfl rfl (by kernel_rfl) (by kernel_rfl) (by kernel_rfl) (fun _ _ _ h => h) (by kernel_rfl) ?_ HS.out ?_
      rotate_left
      · intro wz hz
        obtain ⟨e1, -, -⟩ := hz
        go_simp
        first | done | with_reducible rfl
      refine held_take (i := 4) (d := 43) (v := ?_) rfl rfl (by kernel_rfl) (by kernel_rfl) (by kernel_rfl) (fun _ _ _ h => h) (by kernel_rfl) ?_ HS.out ?_
      rotate_left
      · intro wz hz
        obtain ⟨e1, -, -⟩ := hz
        go_simp
        first | done | with_reducible rfl
      refine held_take (i := 5) (d := 44) (v := ?_) rfl rfl (by kernel_rfl) (by kernel_rfl) (by kernel_rfl) (fun _ _ _ h => h) (by kernel_rfl) ?_ HS.out ?_
      rotate_left
      · intro wz hz
        obtain ⟨e1, -, -⟩ := hz
        go_simp
        first | done | with_reducible rfl
      refine held_take (i := 6) (d := 45) (v := ?_) rfl rfl (by kernel_rfl) (by kernel_rfl) (by kernel_rfl) (fun _ _ _ h => h) (by kernel_rfl) ?_ HS.out ?_
      rotate_left
      · intro wz hz
        obtain ⟨e1, -, -⟩ := hz
        go_simp
        first | done | with_reducible rfl
      refine held_take (i := 9) (d := 48) (v := ?_) rfl rfl (by kernel_rfl) (by kernel_rfl) (by kernel_rfl) (fun _ _ _ h => h) (by kernel_rfl) ?_ HS.out ?_
      rotate_left
      · intro wz hz
        obtain ⟨e1, -, -⟩ := hz
        go_simp
        first | done | with_reducible rfl
      refine held_take (i := 10) (d := 49) (v := ?_) rfl rfl (by kernel_rfl) (by kernel_rfl) (by kernel_rfl) (fun _ _ _ h => h) (by kernel_rfl) ?_ HS.out ?_
      rotate_left
      · intro wz hz
        obtain ⟨e1, -, -⟩ := hz
        go_simp
        first | done | with_reducible rfl
      refine held_take (i := 11) (d := 50) (v := ?_) rfl rfl (by kernel_rfl) (by kernel_rfl) (by kernel_rfl) (fun _ _ _ h => h) (by kernel_rfl) ?_ HS.out ?_
      rotate_left
      · intro wz hz
        obtain ⟨e1, -, -⟩ := hz
        go_simp
        first | done | with_reducible rfl
      refine held_take (i := 12) (d := 51) (v := ?_) rfl rfl (by kernel_rfl) (by kernel_rfl) (by kernel_rfl) (fun _ _ _ h => h) (by kernel_rfl) ?_ HS.out ?_
      rotate_left
      · intro wz hz
        obtain ⟨e1, -, -⟩ := hz
        go_simp
        first | done | with_reducible rfl
      refine held_take (i := 13) (d := 52) (v := ?_) rfl rfl (by kernel_rfl) (by kernel_rfl) (by kernel_rfl) (fun _ _ _ h => h) (by kernel_rfl) ?_ HS.out ?_
      rotate_left
      · intro wz hz
        obtain ⟨e1, -, -⟩ := hz
        go_simp
        first | done | with_reducible rfl
      refine held_take (i := 14) (d := 53) (v := ?_) rfl rfl (by kernel_rfl) (by kernel_rfl) (by kernel_rfl) (fun _ _ _ h => h) (by kernel_rfl) ?_ HS.out ?_
      rotate_left
      · intro wz hz
        obtain ⟨e1, -, -⟩ := hz
        go_simp
        first | done | with_reducible rfl
      refine held_take (i := 15) (d := 54) (v := ?_) rfl rfl (by kernel_rfl) (by kernel_rfl) (by kernel_rfl) (fun _ _ _ h => h) (by kernel_rfl) ?_ HS.out ?_
      rotate_left
      · intro wz hz
        obtain ⟨e1, -, -⟩ := hz
        go_simp
        first | done | with_reducible rfl
      refine wpAnyH_ready (rs := [7]) (by kernel_rfl) (by simp) ?_
      refine AllReadyH.cons rfl (fun K hK => ?_) AllReadyH.nil
      go_simp
      go_wp2_with fail
      refine (FT.out _ HS.out.2.1).mono ?_; rintro e w3 ⟨u, rfl, bu, fu⟩; have HT := hide (show (w3.cell? ⟨PB, k, none⟩ = some (.int .i64 y) ∧ BytesIn w3 (.slice a len cap) l ∧ Fresh W w3) ∧ BytesIn w3 u X from ⟨⟨(fu.cell (World.block_lt_of_cell? _ _ HS.out.1)).trans HS.out.1, HS.out.2.1.fresh fu, HS.out.2.2.trans fu⟩, bu⟩); clear HS bu fu; have HS := hide HT.out.1
      refine hK.out _ _ HS.out (fun _ => ?_)
      clear hK K
      refine held_more (T := fun wz => (wz.cell? ⟨PB, k, none⟩ = some (.int .i64 y) ∧ BytesIn wz (.slice a len cap) l ∧ Fresh W wz) ∧ BytesIn wz u X) (fun _ h => h.1) _ _ _ _ ?_
      clear HS
      have HS := HT
      clear HT
      refine held_take (i := 8) (d := 47) (v := (.string (strOfNums X))) rfl rfl (by kernel_rfl) (by kernel_rfl) (by kernel_rfl) (fun _ _ _ h => h) (by kernel_rfl) ?_ HS.out ?_
      · intro wz hz
        go_simp
        rw [bytes_str hz.2]; rfl
      refine wpAnyH_ready (rs := [16]) (by kernel_rfl) (by simp) ?_
      refine AllReadyH.cons rfl (fun K hK => ?_) AllReadyH.nil
      go_simp
      go_wp2_with fail
      refine (RT.out _ HS.out.1.2.1).mono ?_; rintro e w4 ⟨v, rfl, bu, fu⟩; have HT := hide (show ((w4.cell? ⟨PB, k, none⟩ = some (.int .i64 y) ∧ BytesIn w4 (.slice a len cap) l ∧ Fresh W w4) ∧ BytesIn w4 u X) ∧ BytesIn w4 v X from ⟨⟨⟨(fu.cell (World.block_lt_of_cell? _ _ HS.out.1.1)).trans HS.out.1.1, HS.out.1.2.1.fresh fu, HS.out.1.2.2.trans fu⟩, HS.out.2.fresh fu⟩, bu⟩); clear HS bu fu; have HS := hide HT.out.1
      refine hK.out _ _ HS.out (fun _ => ?_)
      clear hK K
      refine held_more (T := fun wz => ((wz.cell? ⟨PB, k, none⟩ = some (.int .i64 y) ∧ BytesIn wz (.slice a len cap) l ∧ Fresh W wz) ∧ BytesIn wz u X) ∧ BytesIn wz v X) (fun _ h => h.1) _ _ _ _ ?_
      clear HS
      have HS := HT
      clear HT
      refine held_take (i := 17) (d := 56) (v := (.string (strOfNums X))) rfl rfl (by kernel_rfl) (by kernel_rfl) (by kernel_rfl) (fun _ _ _ h => h) (by kernel_rfl) ?_ HS.out ?_
      · intro wz hz
        go_simp
        rw [bytes_str hz.2]; rfl
      refine held_take (i := 18) (d := 57) (v := (.bool false)) rfl rfl (by kernel_rfl) (by kernel_rfl) (by kernel_rfl) (fun _ _ _ h => h) (by kernel_rfl) ?_ HS.out ?_
      · intro wz hz
        go_simp
        first | done | simp
      refine wpAnyH_done (by kernel_rfl) ?_ _
      try simp only [Act.put, List.setIfInBounds_toArray, List.set_cons_succ, List.set_cons_zero]
      go_wp2
      go_roundw
      case rel => exact ⟨k + 1, GK.out, by go_num, HS.out.1.1.2.2⟩
      case measure => simp [intOf]; omega
    · obtain rfl : k = 4 := by omega
      clear hf
      have B1 := hide (fun w => byte_any s p t w)
      have B2 := hide (fun w => rbyte_any s p t w s0 (by omega) p0 (by omega) t0 (by omega))
      generalize byteV s p t = y at B1 B2
      go_wp2_with fail
      refine (B1.out _).mono ?_
      rintro e w3 ⟨rfl, rfl⟩
      go_wp2_with fail
      refine (B2.out _).mono ?_
      rintro e w4 ⟨rfl, rfl⟩
      go_wp2
      go_ret
      exact ⟨rfl, KW.out.trans F.out⟩

set_option linter.unusedVariables false
set_option maxRecDepth 100000 in
theorem junkAll_lifted (os : Os) (started : os.Started) (H : Type) (enc : TypeId × Value → H) :
    ReturnsInHanded {} Try.checked os 3 .any (Rows.junkAllSpec.pre6 enc Try.prog Try.f3 Rows.junkAllRow.domain false) (Rows.junkAllSpec.post enc Try.prog Try.f3 false true false false) := by
  refine returnsInHanded_of_change (C := Try.checked) own started (by kernel_rfl) Try.func3
    (ChangeSpec.witness6 (enc := enc) (C := Try.checked) false ⟨#[], #[.slice none 0 0, .int .u8 0, .int .u16 0, .int .u16 0, .int .u16 0, .int .i64 0], []⟩ 8 (by kernel_rfl) (by kernel_rfl) (by kernel_rfl) (by kernel_rfl)) ?_
  intro W base args ds gs before hval0 hW hcnd _
  have hval : ∀ (j : Nat) t v, Try.f3.params[j]? = some t → args[j]? = some v → Value.okWide Try.prog W .any base t v := hval0
  have hW' := hW
  obtain ⟨p, q, hA0, hV, rfl, hfz, hnd⟩ := hW
  have hA : DataW.TrodAll enc Try.prog W 0 (fun _ => true) true Try.f3.params.toList args.toList ds p := hA0
  rw [Try.params3] at hA hval
  obtain ⟨v0, vs0, d0, ds0, p0, q0, hargs, rfl, rfl, h0, r0⟩ := trodAll_cons hA
  obtain ⟨v1, vs1, d1, ds1, p1, q1, rfl, rfl, rfl, h1, r1⟩ := trodAll_cons r0
  obtain ⟨v2, vs2, d2, ds2, p2, q2, rfl, rfl, rfl, h2, r2⟩ := trodAll_cons r1
  obtain ⟨v3, vs3, d3, ds3, p3, q3, rfl, rfl, rfl, h3, r3⟩ := trodAll_cons r2
  obtain ⟨v4, vs4, d4, ds4, p4, q4, rfl, rfl, rfl, h4, r4⟩ := trodAll_cons r3
  obtain ⟨v5, vs5, d5, ds5, p5, q5, rfl, rfl, rfl, h5, r5⟩ := trodAll_cons r4
  obtain ⟨rfl, rfl, rfl⟩ := trodAll_nil r5
  obtain rfl : args = #[v0, v1, v2, v3, v4, v5] := by cases args; simp_all
  obtain ⟨rfl, rfl⟩ := trodVars_none hV
  have lt0 : ∀ x ∈ p0, x.block < W.heap.size := by obtain ⟨m, hm⟩ := h0; exact DataW.trod_lt m _ _ _ hm
  have lt1 : ∀ x ∈ p1, x.block < W.heap.size := by obtain ⟨m, hm⟩ := h1; exact DataW.trod_lt m _ _ _ hm
  have lt2 : ∀ x ∈ p2, x.block < W.heap.size := by obtain ⟨m, hm⟩ := h2; exact DataW.trod_lt m _ _ _ hm
  have lt3 : ∀ x ∈ p3, x.block < W.heap.size := by obtain ⟨m, hm⟩ := h3; exact DataW.trod_lt m _ _ _ hm
  have lt4 : ∀ x ∈ p4, x.block < W.heap.size := by obtain ⟨m, hm⟩ := h4; exact DataW.trod_lt m _ _ _ hm
  have lt5 : ∀ x ∈ p5, x.block < W.heap.size := by obtain ⟨m, hm⟩ := h5; exact DataW.trod_lt m _ _ _ hm
  obtain ⟨a0, len0, cap0, rfl⟩ := okWide_slice Try.underlying22 (hval 0 22 v0 rfl rfl)
  obtain ⟨z0, w0⟩ := isRow_of Try.underlying22 Try.underlying5 (by kernel_rfl) h0
  obtain ⟨a1, rfl, rfl, rfl, w1⟩ := open_int Try.underlying5 (hval 1 5 v1 rfl rfl) h1
  obtain ⟨a2, rfl, rfl, rfl, w2⟩ := open_int Try.underlying23 (hval 2 23 v2 rfl rfl) h2
  obtain ⟨a3, rfl, rfl, rfl, w3⟩ := open_int Try.underlying23 (hval 3 23 v3 rfl rfl) h3
  obtain ⟨a4, rfl, rfl, rfl, w4⟩ := open_int Try.underlying23 (hval 4 23 v4 rfl rfl) h4
  obtain ⟨a5, rfl, rfl, rfl, w5⟩ := open_int Try.underlying3 (hval 5 3 v5 rfl rfl) h5
  clear hA0 hval0
  refine (junkAll_walk0 a0 len0 cap0 z0 a1 (bounds_u8 w1).1 (bounds_u8 w1).2 a2 (bounds_u16 w2).1 (bounds_u16 w2).2 a3 (bounds_u16 w3).1 (bounds_u16 w3).2 a4 (bounds_u16 w4).1 (bounds_u16 w4).2 a5 (bounds_i64 w5).1 (bounds_i64 w5).2 W w0).mono fun e W' ⟨he, hg⟩ => ?_
  subst he
  exact ⟨_, rfl, _, _, _, [], _, [], hW', trodAll_mk1 (shut_bool Try.underlying4 _), (trodAll_cons_mk (Below.trod laidOut (by kernel_rfl) (of_decide_eq_true (by kernel_rfl)) h0 hg lt0) (trodAll_cons_mk (Below.trod laidOut (by kernel_rfl) (of_decide_eq_true (by kernel_rfl)) h1 hg lt1) (trodAll_cons_mk (Below.trod laidOut (by kernel_rfl) (of_decide_eq_true (by kernel_rfl)) h2 hg lt2) (trodAll_cons_mk (Below.trod laidOut (by kernel_rfl) (of_decide_eq_true (by kernel_rfl)) h3 hg lt3) (trodAll_cons_mk (Below.trod laidOut (by kernel_rfl) (of_decide_eq_true (by kernel_rfl)) h4 hg lt4) (trodAll_cons_mk (Below.trod laidOut (by kernel_rfl) (of_decide_eq_true (by kernel_rfl)) h5 hg lt5) trodAll_mk0)))))), rfl, hg.frame _, fun h => by cases h⟩

theorem junkAll_row : Rows.JunkAllSaid :=
  OpenClaim.holds_of_wide 3 Try.f3 rfl rfl rfl rfl rfl rfl rfl ⟨rfl, rfl, rfl, rfl, rfl⟩ rfl rfl rfl rfl rfl (by kernel_rfl) Try.func3 (by kernel_rfl)
    (of_decide_eq_true (by kernel_rfl)) (by unfold Func.isWrapper; first | (rw [if_pos (by decide +kernel)]; kernel_rfl) | (rw [if_neg (by decide +kernel)]; exact ⟨rfl, rfl⟩))
    (fun os started H enc _ => junkAll_lifted os started H enc)

theorem junkAll_holds : Rows.JunkAllSaid := junkAll_row
#print axioms junkAll_holds
end Go.Proofs.Ytakpbhijnhpdeaa
