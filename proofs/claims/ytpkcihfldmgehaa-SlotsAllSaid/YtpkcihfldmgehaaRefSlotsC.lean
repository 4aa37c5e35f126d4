/- What the document's own Of makes (hodmanref8.Of): slots of granules that are live, as a contract. -/
import Derived.Test.YtpkcihfldmgehaaRefSlotsB
namespace Go.Proofs.Ytpkcihfldmgehaa
open Go.RowKit

theorem one_two (x : Int) (a : Option Addr) (l c : Nat) : ∀ u ∈ [Value.int .i64 x, .slice a l c], u.oneCell' = true := by
  intro u hu
  simp at hu
  rcases hu with rfl | rfl <;> rfl
theorem made_cls (N k : Nat) (p : Nat → Bool) (a : Option Addr) (cap : Nat) (cs : List Bool) (w : World) (hb : BoolsAt w (.slice a cs.length cap) cs) (hl : cs.length = N / 2 ^ k) (hp : ∀ j, j < N / 2 ^ k → cs.getD j false = clsB p k j) (n1 : 1 ≤ N / 2 ^ k) (n2 : N / 2 ^ k ≤ 65536) :
    Calls Try.prog 41 #[.int .i64 (cs.length : Int), .slice a cs.length cap] w fun e w' => ∃ xa xl xc, e = .returned (.agg #[.int .i64 ((N / 2 ^ k : Nat) : Int), .slice xa xl xc]) ∧ TreeNew w.heap.size w' (.agg #[.int .i64 ((N / 2 ^ k : Nat) : Int), .slice xa xl xc]) (N / 2 ^ k) (trW N p k) ∧ Fresh w w' := by
  refine (made_nat cs.length _ cs w hb rfl (by omega) (by omega)).mono ?_
  rintro e w' ⟨v', rfl, t, f⟩
  have e1 : packV cs.length (fun i => cs.getD i false) = trW N p k := by
    rw [hl]; exact pack_congr fun i hi => hp i hi
  rw [e1, hl] at t
  obtain ⟨_, _, _, xa, xc, rfl, _⟩ := t.at
  exact ⟨xa, _, xc, rfl, t, f⟩

set_option maxHeartbeats 2000000 in
theorem of_any (v : Value) (bs : List Bool) (N c : Nat) (w : World) (hb : BoolsAt w v bs) (hl : bs.length = N) (hc : Cls N c) :
    Calls Try.prog 26 #[v, .int .i64 (c : Int)] w fun e w' => ∃ u, e = .returned u ∧ SlotsNew w.heap.size w' u N c (fun i => bs.getD i false) ∧ Fresh w w' := by
  obtain ⟨i0, hi, hz0, hz1, hz2⟩ := infoOf infoTree
  obtain ⟨i1, hi1, hy0, hy1, hy2⟩ := infoOf infoBool
  obtain ⟨R, hR⟩ : ∃ R, R = w.heap.size := ⟨_, rfl⟩
  obtain ⟨S, hS⟩ : ∃ S, S = w.heap.size + 1 := ⟨_, rfl⟩
  obtain ⟨B, hB⟩ : ∃ B, B = w.heap.size + 1 + 1 := ⟨_, rfl⟩
  obtain ⟨W1, hW1⟩ : ∃ W1, W1 = (w.alloc (.cells #[.slice none 0 0] 26)).alloc (.cells #[.slice none 0 0] 26) := ⟨_, rfl⟩
  have FW : Fresh w W1 := by rw [hW1]; exact fresh_more (fresh_box _ _ _) _ _
  have sz : W1.heap.size = w.heap.size + 1 + 1 := by rw [hW1]; simp
  have bS : W1.heap[S]? = some (.cells #[.slice none 0 0] 26 (0, 0)) := by
    rw [hS, hW1]
    have := heap_alloc_new (w.alloc (.cells #[.slice none 0 0] 26)) (.cells #[.slice none 0 0] 26 (0, 0))
    rwa [show (w.alloc (.cells #[.slice none 0 0] 26)).heap.size = w.heap.size + 1 by simp] at this
  have bR : W1.heap[R]? = some (.cells #[.slice none 0 0] 26 (0, 0)) := by
    rw [hR, hW1, (fresh_box (w.alloc (.cells #[.slice none 0 0] 26)) #[.slice none 0 0] 26).block w.heap.size (by simp)]
    exact heap_alloc_new w _
  obtain ⟨p, hp⟩ : ∃ p : Nat → Bool, p = fun i => bs.getD i false := ⟨_, rfl⟩
  have S0 := hide (show Stage w R S B N p 0 v (.slice none 0 0) bs W1 from
    ⟨⟨0, w.heap.size, hb.in.fresh (Nat.le_refl _) FW, FW.size, .inr (by omega), fun g hg => by cases hg⟩, by simpa using hl, fun j _ => by rw [hp]; rfl,
     ⟨bS, ⟨[], World.ownsRow_nil _ _ _ _, fun i hi => by omega⟩, FW, by omega, by omega, by omega⟩, bR⟩)
  have RS := hide (show R ≠ S by omega)
  have RB := hide (show R < B by omega)
  have WB := hide (show w.heap.size ≤ B ∧ w.heap.size ≤ R by omega)
  have HC := hide hc
  have c0 : (0 : Int) ≤ (c : Int) := by omega
  have c1 : (c : Int) ≤ 17 := by have := hc.2.1; omega
  have HR := hide hR
  have HSS := hide hS
  have HW := hide hW1
  rw [← hp]
  clear hR hS hB hW1 FW sz bS bR hp hb hl hc
  go_enter Try.func26, Try.ntmps26
  go_wp2
  rw [← HW.out, ← HSS.out, ← HR.out]
  go_loopw [0, 6] (fun bv i wr => ∃ (k : Nat) (lv : Value) (cs : List Bool), k ≤ c ∧ i = .int .i64 (k : Int) ∧ Stage w R S B N p k bv lv cs wr) (fun _ i _ => (c - intOf i).toNat)
  case atStart => exact ⟨0, _, bs, Nat.zero_le _, rfl, S0.out⟩
  case round =>
    obtain ⟨k, lv, cs, hk, rfl, hst⟩ := hrel
    have k0 : (0 : Int) ≤ (k : Int) := by omega
    by_cases g : k < c
    · have g' : (k : Int) < (c : Int) := by omega
      have KC := hide (show k < 17 by have := HC.out.2.1; omega)
      have ST := hide (hst.fresh (Fresh.refl _).drew)
      have NP := hide (HC.out.pos g)
      have LN := hide hst.len
      obtain ⟨lo, hi', hbits, _⟩ := hst.bits
      obtain ⟨a, cap, rfl, _⟩ := hbits.at
      obtain ⟨us, hus, hold⟩ := ST.out.grow.own
      have US := hide hus
      have HO := hide hold
      have s0 := ST.out.cell.1
      have MD := hide (made_cls N k p a cap cs wr.drew (let ⟨_, _, h, _⟩ := ST.out.bits; h.at) ST.out.len ST.out.are NP.out.1 NP.out.2)
      have ln : (cs.length : Int) ≤ 65536 := by have := NP.out; have := LN.out; omega
      have l0 : (0 : Int) ≤ (cs.length : Int) := by omega
      clear hst hbits hus hold S0
      go_wp2_with fail
      refine wp_region_any (by kernel_rfl) ?_
      change wpAny _ _ _ _ _ _ _ (World.drew _)
      generalize World.drew wr = wd at ST US HO s0 MD ⊢
      refine wpAny_take (i := 0) (v := ?_) rfl (by kernel_rfl) (by kernel_rfl) (by kernel_rfl) (fun _ _ _ h => h) (Or.inl ⟨by kernel_rfl, ?_⟩) ?_
      rotate_left
      · intro wz; go_simp; first | done | with_reducible rfl
      refine wpAny_take (i := 2) (v := ?_) rfl (by kernel_rfl) (by kernel_rfl) (by kernel_rfl) (fun _ _ _ h => h) (Or.inl ⟨by kernel_rfl, ?_⟩) ?_
      rotate_left
      · intro wz; go_simp; first | done | with_reducible rfl
      refine wpAny_take (i := 3) (v := ?_) rfl (by kernel_rfl) (by kernel_rfl) (by kernel_rfl) (fun _ _ _ h => h) (Or.inl ⟨by kernel_rfl, ?_⟩) ?_
      rotate_left
      · intro wz; go_simp; first | done | with_reducible rfl
      refine wpAny_take (i := 4) (v := ?_) rfl (by kernel_rfl) (by kernel_rfl) (by kernel_rfl) (fun _ _ _ h => h) (Or.inl ⟨by kernel_rfl, ?_⟩) ?_
      rotate_left
      · intro wz; go_simp; first | done | with_reducible rfl
      refine wpAny_ready (rs := [1, 5]) (by kernel_rfl) (by simp) ?_
      refine AllReady.cons rfl (fun K hK => ?_) ?_
      · go_simp
        refine hK _ _ ?_
        clear hK K
        refine wpAny_ready (rs := [5]) (by kernel_rfl) (by simp) ?_
        refine AllReady.cons rfl (fun K hK => ?_) AllReady.nil
        go_simp
        go_wp2_with fail
        refine MD.out.mono ?_
        rintro e w3 ⟨xa, xl, xc, rfl, t3, f3⟩
        have T3 := hide t3
        have F3 := hide f3
        clear t3 f3
        refine hK _ _ ?_
        clear hK K
        refine wpAny_ready (rs := [6]) (by kernel_rfl) (by simp) ?_
        refine AllReady.cons rfl (fun K hK => ?_) AllReady.nil
        go_simp
        refine hK _ _ ?_
        clear hK K
        refine wpAny_ready (rs := [7]) (by kernel_rfl) (by simp) ?_
        refine AllReady.cons rfl (fun K hK => ?_) AllReady.nil
        rw [if_pos (by rfl)]
        refine wp_append_at _ _ _ 24 rfl B 45 i0 (.agg #[.int .i64 0, .slice none 0 0]) 2 32 Try.underlying24 hi hz0 hz1 hz2 rfl (by decide) lv k us rfl (ownsRow_fresh US.out (fresh_more F3.out _ _)) ⟨w3.heap.size, 0, none⟩ 1 1 [.int .i64 ((N / 2 ^ k : Nat) : Int), .slice xa xl xc] rfl rfl (two_news w3 _ _ _) (one_two _ _ _ _) (by have := KC.out; unfold maxLen; omega) (by have := KC.out; omega) (by have := ST.out.grow.lt; have := F3.out.size; simp; omega) ?_
        intro lv' w5 hown hgrow hloc
        obtain ⟨g5, c5, rfl⟩ := own_shape hown (Nat.le_add_left 1 k)
        have PS := hide (ST.out.push RS.out RB.out T3.out F3.out US.out HO.out hown hgrow hloc)
        clear hown hgrow hloc
        obtain ⟨cS, fS⟩ := PS.out.2.2.2
        refine hK _ _ ?_
        clear hK K
        refine wpAny_take (i := 8) (v := ?_) rfl (by kernel_rfl) (by kernel_rfl) (by kernel_rfl) (fun _ _ _ h => h) (Or.inl ⟨by kernel_rfl, ?_⟩) ?_
        rotate_left
        · intro wz; go_simp; first | done | with_reducible rfl
        refine wpAny_ready (rs := [9]) (by kernel_rfl) (by simp) ?_
        refine AllReady.cons rfl (fun K hK => ?_) AllReady.nil
        go_simp
        refine hK _ _ ?_
        clear hK K
        refine wpAny_done (by kernel_rfl) ?_ _
        try simp only [Act.put, List.setIfInBounds_toArray, List.set_cons_succ, List.set_cons_zero]
        generalize w5.setCell ⟨S, 0, none⟩ (.slice (some ⟨g5, 0, none⟩) (k + 1) c5) = w6 at PS ⊢
        clear cS fS T3 F3
        have G6 := hide PS.out.1
        have R6 := hide PS.out.2.1
        have B6 := hide PS.out.2.2.1
        clear PS
        have HM := hide (show cs.length / 2 = N / 2 ^ (k + 1) by rw [half_div, LN.out])
        have HA := hide (show ∀ j, j < cs.length → cs.getD j false = clsB p k j from fun j hj => ST.out.are j (by rw [← LN.out]; exact hj))
        generalize hm : N / 2 ^ (k + 1) = m at HM
        have HMM := hide hm
        have hdv : (cs.length : Int) / 2 = (m : Int) := by have := HM.out; omega
        have ml : (m : Int) ≤ 65536 := by have := HM.out; omega
        have m0 : (0 : Int) ≤ (m : Int) := by omega
        clear hm ST US HO MD s0
        go_wp2_with (at_make; refine wpList_make_full _ rfl _ _ 52 rfl w6.heap.size 4 i1 (.bool false) 1 Try.underlying52 hi1 hy0 hy1 _ _ _ _ m rfl rfl (by first | exact hdv | rfl) (by first | exact hdv | rfl) (by rw [hy2]; omega) (by unfold maxLen; omega) (Nat.le_refl _) ?_; intro w7 hown hgrow)
        obtain ⟨ob, fb⟩ := bools_made (w0 := w6) (wr := w6) (w1 := w7) (ln := m) (v := .slice (some ⟨w6.heap.size, 0, none⟩) m m) hown hgrow
        have O7 := hide ob
        have F7 := hide fb
        clear hown hgrow ob fb
        obtain ⟨H, hH⟩ : ∃ H, H = w6.heap.size := ⟨_, rfl⟩
        have HH := hide hH
        rw [← hH]
        rw [← hH] at O7
        clear hH
        go_loopw [8] (fun i ws => ∃ (j : Nat) (hs : List Bool), j ≤ m ∧ i = .int .i64 (j : Int) ∧ Halves p k m j hs ∧ OwnB ws H (.slice (some ⟨H, 0, none⟩) m m) hs ∧ Fresh w6 ws) (fun i _ => (m - intOf i).toNat)
        case atStart => exact ⟨0, _, Nat.zero_le _, rfl, ⟨List.length_replicate, fun t ht => by omega⟩, O7.out, F7.out⟩
        case round =>
          obtain ⟨j, hs, hj, rfl, hh, ho, hf⟩ := hrel
          have HL := hide hh
          have OJ := hide ho
          have FJ := hide hf
          have j0 : (0 : Int) ≤ (j : Int) := by omega
          clear hh ho hf
          by_cases gj : j < m
          · have j1 : (j : Int) < (m : Int) := by omega
            have l2 : 2 * j + 1 < cs.length := by have := HM.out; omega
            have e0 : IntKind.i64.wrap (2 * (j : Int)) = ((2 * j : Nat) : Int) := by rw [IntKind.wrap_i64]; omega
            have e1 : IntKind.i64.wrap (2 * (j : Int) + 1) = ((2 * j + 1 : Nat) : Int) := by rw [IntKind.wrap_i64]; omega
            have e2 : (2 : Int) * (j : Int) < (cs.length : Int) := by omega
            have e3 : (2 : Int) * (j : Int) + 1 < (cs.length : Int) := by omega
            have e4 : (0 : Int) ≤ 2 * (j : Int) := by omega
            have e5 : (0 : Int) ≤ 2 * (j : Int) + 1 := by omega
            obtain ⟨a', cap', e', hcc⟩ := B6.out.fresh FJ.out
            cases e'
            obtain ⟨b, o, rfl, d0⟩ := hcc (2 * j) (by omega)
            obtain ⟨b', o', e', d1⟩ := hcc (2 * j + 1) (by omega)
            cases e'
            have q0 := HA.out (2 * j) (by omega)
            have q1 := HA.out (2 * j + 1) (by omega)
            have CJ := hide (show clsB p (k + 1) j = (cs.getD (2 * j) false || cs.getD (2 * j + 1) false) by rw [q0, q1]; rfl)
            have hc := OJ.out.cell HL.out.1.symm j gj
            have hfz := OJ.out.free HL.out.1.symm j
            generalize cs.getD (2 * j) false = x0 at *
            generalize cs.getD (2 * j + 1) false = x1 at *
            generalize hs.getD j false = y at *
            clear hcc q0 q1
            cases x0 with
            | true =>
              have HN := hide (halves_step HL.out gj true (by rw [CJ.out]; rfl))
              have ON := hide (OJ.out.put HL.out.1.symm j true)
              go_wp2
              go_roundw
              case rel => exact ⟨j + 1, _, by omega, by go_num, HN.out, ON.out, fresh_set FJ.out (by rw [HH.out]; exact Nat.le_refl _) j _⟩
              case measure => simp [intOf]; omega
            | false =>
              have HN := hide (halves_step HL.out gj x1 (by rw [CJ.out]; rfl))
              have ON := hide (OJ.out.put HL.out.1.symm j x1)
              go_wp2
              go_roundw
              case rel => exact ⟨j + 1, _, by omega, by go_num, HN.out, ON.out, fresh_set FJ.out (by rw [HH.out]; exact Nat.le_refl _) j _⟩
              case measure => simp [intOf]; omega
          · obtain rfl : m = j := by omega
            have GN := hide (G6.out.fresh FJ.out)
            have SN := hide (show Stage w R S B N p (k + 1) (.slice (some ⟨H, 0, none⟩) m m) (.slice (some ⟨g5, 0, none⟩) (k + 1) c5) hs wr from
              ⟨⟨H, wr.heap.size, OJ.out.in, Nat.le_refl _, .inl (by have := G6.out.lt; have := HH.out; omega), fun g hg => .inl (by
                  have : g = g5 := by simpa [Value.ownBlock] using hg.symm
                  subst this
                  obtain ⟨us, h1, _⟩ := G6.out.own
                  obtain ⟨cc, hcc⟩ := own_type h1 g rfl
                  rw [HH.out]
                  exact (Array.getElem?_eq_some_iff.1 hcc).1)⟩,
                by rw [HL.out.1, HMM.out], fun j hj => HL.out.2 j (by rw [← HMM.out]; exact hj), GN.out, by rw [FJ.out.block R (Array.getElem?_eq_some_iff.1 R6.out).1]; exact R6.out⟩)
            clear GN
            go_wp2
            go_roundw
            case rel => exact ⟨k + 1, _, hs, by omega, by go_num, SN.out⟩
            case measure => simp [intOf]; omega
      · refine AllReady.cons rfl (fun K hK => ?_) AllReady.nil
        go_simp
        go_wp2_with fail
        refine MD.out.mono ?_
        rintro e w3 ⟨xa, xl, xc, rfl, t3, f3⟩
        have T3 := hide t3
        have F3 := hide f3
        have s3 := (f3.cell (World.block_lt_of_cell? _ _ s0)).trans s0
        have s4 := World.block_lt_of_cell? _ _ s3
        clear t3 f3
        refine hK _ _ ?_
        clear hK K
        refine wpAny_ready (rs := [1, 6]) (by kernel_rfl) (by simp) ?_
        refine AllReady.cons rfl (fun K hK => ?_) ?_
        · go_simp
          refine hK _ _ ?_
          clear hK K
          refine wpAny_ready (rs := [6]) (by kernel_rfl) (by simp) ?_
          refine AllReady.cons rfl (fun K hK => ?_) AllReady.nil
          go_simp
          refine hK _ _ ?_
          clear hK K
          refine wpAny_ready (rs := [7]) (by kernel_rfl) (by simp) ?_
          refine AllReady.cons rfl (fun K hK => ?_) AllReady.nil
          rw [if_pos (by rfl)]
          refine wp_append_at _ _ _ 24 rfl B 45 i0 (.agg #[.int .i64 0, .slice none 0 0]) 2 32 Try.underlying24 hi hz0 hz1 hz2 rfl (by decide) lv k us rfl (ownsRow_fresh US.out (fresh_more F3.out _ _)) ⟨w3.heap.size, 0, none⟩ 1 1 [.int .i64 ((N / 2 ^ k : Nat) : Int), .slice xa xl xc] rfl rfl (two_news w3 _ _ _) (one_two _ _ _ _) (by have := KC.out; unfold maxLen; omega) (by have := KC.out; omega) (by have := ST.out.grow.lt; have := F3.out.size; simp; omega) ?_
          intro lv' w5 hown hgrow hloc
          obtain ⟨g5, c5, rfl⟩ := own_shape hown (Nat.le_add_left 1 k)
          have PS := hide (ST.out.push RS.out RB.out T3.out F3.out US.out HO.out hown hgrow hloc)
          clear hown hgrow hloc
          obtain ⟨cS, fS⟩ := PS.out.2.2.2
          refine hK _ _ ?_
          clear hK K
          refine wpAny_take (i := 8) (v := ?_) rfl (by kernel_rfl) (by kernel_rfl) (by kernel_rfl) (fun _ _ _ h => h) (Or.inl ⟨by kernel_rfl, ?_⟩) ?_
          rotate_left
          · intro wz; go_simp; first | done | with_reducible rfl
          refine wpAny_ready (rs := [9]) (by kernel_rfl) (by simp) ?_
          refine AllReady.cons rfl (fun K hK => ?_) AllReady.nil
          go_simp
          refine hK _ _ ?_
          clear hK K
          refine wpAny_done (by kernel_rfl) ?_ _
          try simp only [Act.put, List.setIfInBounds_toArray, List.set_cons_succ, List.set_cons_zero]
          generalize w5.setCell ⟨S, 0, none⟩ (.slice (some ⟨g5, 0, none⟩) (k + 1) c5) = w6 at PS ⊢
          clear cS fS T3 F3
          have G6 := hide PS.out.1
          have R6 := hide PS.out.2.1
          have B6 := hide PS.out.2.2.1
          clear PS
          have HM := hide (show cs.length / 2 = N / 2 ^ (k + 1) by rw [half_div, LN.out])
          have HA := hide (show ∀ j, j < cs.length → cs.getD j false = clsB p k j from fun j hj => ST.out.are j (by rw [← LN.out]; exact hj))
          generalize hm : N / 2 ^ (k + 1) = m at HM
          have HMM := hide hm
          have hdv : (cs.length : Int) / 2 = (m : Int) := by have := HM.out; omega
          have ml : (m : Int) ≤ 65536 := by have := HM.out; omega
          have m0 : (0 : Int) ≤ (m : Int) := by omega
          clear hm ST US HO MD s0
          go_wp2_with (at_make; refine wpList_make_full _ rfl _ _ 52 rfl w6.heap.size 4 i1 (.bool false) 1 Try.underlying52 hi1 hy0 hy1 _ _ _ _ m rfl rfl (by first | exact hdv | rfl) (by first | exact hdv | rfl) (by rw [hy2]; omega) (by unfold maxLen; omega) (Nat.le_refl _) ?_; intro w7 hown hgrow)
          obtain ⟨ob, fb⟩ := bools_made (w0 := w6) (wr := w6) (w1 := w7) (ln := m) (v := .slice (some ⟨w6.heap.size, 0, none⟩) m m) hown hgrow
          have O7 := hide ob
          have F7 := hide fb
          clear hown hgrow ob fb
          obtain ⟨H, hH⟩ : ∃ H, H = w6.heap.size := ⟨_, rfl⟩
          have HH := hide hH
          rw [← hH]
          rw [← hH] at O7
          clear hH
          go_loopw [8] (fun i ws => ∃ (j : Nat) (hs : List Bool), j ≤ m ∧ i = .int .i64 (j : Int) ∧ Halves p k m j hs ∧ OwnB ws H (.slice (some ⟨H, 0, none⟩) m m) hs ∧ Fresh w6 ws) (fun i _ => (m - intOf i).toNat)
          case atStart => exact ⟨0, _, Nat.zero_le _, rfl, ⟨List.length_replicate, fun t ht => by omega⟩, O7.out, F7.out⟩
          case round =>
            obtain ⟨j, hs, hj, rfl, hh, ho, hf⟩ := hrel
            have HL := hide hh
            have OJ := hide ho
            have FJ := hide hf
            have j0 : (0 : Int) ≤ (j : Int) := by omega
            clear hh ho hf
            by_cases gj : j < m
            · have j1 : (j : Int) < (m : Int) := by omega
              have l2 : 2 * j + 1 < cs.length := by have := HM.out; omega
              have e0 : IntKind.i64.wrap (2 * (j : Int)) = ((2 * j : Nat) : Int) := by rw [IntKind.wrap_i64]; omega
              have e1 : IntKind.i64.wrap (2 * (j : Int) + 1) = ((2 * j + 1 : Nat) : Int) := by rw [IntKind.wrap_i64]; omega
              have e2 : (2 : Int) * (j : Int) < (cs.length : Int) := by omega
              have e3 : (2 : Int) * (j : Int) + 1 < (cs.length : Int) := by omega
              have e4 : (0 : Int) ≤ 2 * (j : Int) := by omega
              have e5 : (0 : Int) ≤ 2 * (j : Int) + 1 := by omega
              obtain ⟨a', cap', e', hcc⟩ := B6.out.fresh FJ.out
              cases e'
              obtain ⟨b, o, rfl, d0⟩ := hcc (2 * j) (by omega)
              obtain ⟨b', o', e', d1⟩ := hcc (2 * j + 1) (by omega)
              cases e'
              have q0 := HA.out (2 * j) (by omega)
              have q1 := HA.out (2 * j + 1) (by omega)
              have CJ := hide (show clsB p (k + 1) j = (cs.getD (2 * j) false || cs.getD (2 * j + 1) false) by rw [q0, q1]; rfl)
              have hc := OJ.out.cell HL.out.1.symm j gj
              have hfz := OJ.out.free HL.out.1.symm j
              generalize cs.getD (2 * j) false = x0 at *
              generalize cs.getD (2 * j + 1) false = x1 at *
              generalize hs.getD j false = y at *
              clear hcc q0 q1
              cases x0 with
              | true =>
                have HN := hide (halves_step HL.out gj true (by rw [CJ.out]; rfl))
                have ON := hide (OJ.out.put HL.out.1.symm j true)
                go_wp2
                go_roundw
                case rel => exact ⟨j + 1, _, by omega, by go_num, HN.out, ON.out, fresh_set FJ.out (by rw [HH.out]; exact Nat.le_refl _) j _⟩
                case measure => simp [intOf]; omega
              | false =>
                have HN := hide (halves_step HL.out gj x1 (by rw [CJ.out]; rfl))
                have ON := hide (OJ.out.put HL.out.1.symm j x1)
                go_wp2
                go_roundw
                case rel => exact ⟨j + 1, _, by omega, by go_num, HN.out, ON.out, fresh_set FJ.out (by rw [HH.out]; exact Nat.le_refl _) j _⟩
                case measure => simp [intOf]; omega
            · obtain rfl : m = j := by omega
              have GN := hide (G6.out.fresh FJ.out)
              have SN := hide (show Stage w R S B N p (k + 1) (.slice (some ⟨H, 0, none⟩) m m) (.slice (some ⟨g5, 0, none⟩) (k + 1) c5) hs wr from
                ⟨⟨H, wr.heap.size, OJ.out.in, Nat.le_refl _, .inl (by have := G6.out.lt; have := HH.out; omega), fun g hg => .inl (by
                    have : g = g5 := by simpa [Value.ownBlock] using hg.symm
                    subst this
                    obtain ⟨us, h1, _⟩ := G6.out.own
                    obtain ⟨cc, hcc⟩ := own_type h1 g rfl
                    rw [HH.out]
                    exact (Array.getElem?_eq_some_iff.1 hcc).1)⟩,
                  by rw [HL.out.1, HMM.out], fun j hj => HL.out.2 j (by rw [← HMM.out]; exact hj), GN.out, by rw [FJ.out.block R (Array.getElem?_eq_some_iff.1 R6.out).1]; exact R6.out⟩)
              clear GN
              go_wp2
              go_roundw
              case rel => exact ⟨k + 1, _, hs, by omega, by go_num, SN.out⟩
              case measure => simp [intOf]; omega
        · refine AllReady.cons rfl (fun K hK => ?_) AllReady.nil
          go_simp
          refine hK _ _ ?_
          clear hK K
          refine wpAny_ready (rs := [1]) (by kernel_rfl) (by simp) ?_
          refine AllReady.cons rfl (fun K hK => ?_) AllReady.nil
          go_simp
          refine hK _ _ ?_
          clear hK K
          refine wpAny_ready (rs := [7]) (by kernel_rfl) (by simp) ?_
          refine AllReady.cons rfl (fun K hK => ?_) AllReady.nil
          rw [if_pos (by rfl)]
          refine wp_append_at _ _ _ 24 rfl B 45 i0 (.agg #[.int .i64 0, .slice none 0 0]) 2 32 Try.underlying24 hi hz0 hz1 hz2 rfl (by decide) lv k us rfl (ownsRow_fresh US.out (fresh_more F3.out _ _)) ⟨w3.heap.size, 0, none⟩ 1 1 [.int .i64 ((N / 2 ^ k : Nat) : Int), .slice xa xl xc] rfl rfl (two_news w3 _ _ _) (one_two _ _ _ _) (by have := KC.out; unfold maxLen; omega) (by have := KC.out; omega) (by have := ST.out.grow.lt; have := F3.out.size; simp; omega) ?_
          intro lv' w5 hown hgrow hloc
          obtain ⟨g5, c5, rfl⟩ := own_shape hown (Nat.le_add_left 1 k)
          have PS := hide (ST.out.push RS.out RB.out T3.out F3.out US.out HO.out hown hgrow hloc)
          clear hown hgrow hloc
          obtain ⟨cS, fS⟩ := PS.out.2.2.2
          refine hK _ _ ?_
          clear hK K
          refine wpAny_take (i := 8) (v := ?_) rfl (by kernel_rfl) (by kernel_rfl) (by kernel_rfl) (fun _ _ _ h => h) (Or.inl ⟨by kernel_rfl, ?_⟩) ?_
          rotate_left
          · intro wz; go_simp; first | done | with_reducible rfl
          refine wpAny_ready (rs := [9]) (by kernel_rfl) (by simp) ?_
          refine AllReady.cons rfl (fun K hK => ?_) AllReady.nil
          go_simp
          refine hK _ _ ?_
          clear hK K
          refine wpAny_done (by kernel_rfl) ?_ _
          try simp only [Act.put, List.setIfInBounds_toArray, List.set_cons_succ, List.set_cons_zero]
          generalize w5.setCell ⟨S, 0, none⟩ (.slice (some ⟨g5, 0, none⟩) (k + 1) c5) = w6 at PS ⊢
          clear cS fS T3 F3
          have G6 := hide PS.out.1
          have R6 := hide PS.out.2.1
          have B6 := hide PS.out.2.2.1
          clear PS
          have HM := hide (show cs.length / 2 = N / 2 ^ (k + 1) by rw [half_div, LN.out])
          have HA := hide (show ∀ j, j < cs.length → cs.getD j false = clsB p k j from fun j hj => ST.out.are j (by rw [← LN.out]; exact hj))
          generalize hm : N / 2 ^ (k + 1) = m at HM
          have HMM := hide hm
          have hdv : (cs.length : Int) / 2 = (m : Int) := by have := HM.out; omega
          have ml : (m : Int) ≤ 65536 := by have := HM.out; omega
          have m0 : (0 : Int) ≤ (m : Int) := by omega
          clear hm ST US HO MD s0
          go_wp2_with (at_make; refine wpList_make_full _ rfl _ _ 52 rfl w6.heap.size 4 i1 (.bool false) 1 Try.underlying52 hi1 hy0 hy1 _ _ _ _ m rfl rfl (by first | exact hdv | rfl) (by first | exact hdv | rfl) (by rw [hy2]; omega) (by unfold maxLen; omega) (Nat.le_refl _) ?_; intro w7 hown hgrow)
          obtain ⟨ob, fb⟩ := bools_made (w0 := w6) (wr := w6) (w1 := w7) (ln := m) (v := .slice (some ⟨w6.heap.size, 0, none⟩) m m) hown hgrow
          have O7 := hide ob
          have F7 := hide fb
          clear hown hgrow ob fb
          obtain ⟨H, hH⟩ : ∃ H, H = w6.heap.size := ⟨_, rfl⟩
          have HH := hide hH
          rw [← hH]
          rw [← hH] at O7
          clear hH
          go_loopw [8] (fun i ws => ∃ (j : Nat) (hs : List Bool), j ≤ m ∧ i = .int .i64 (j : Int) ∧ Halves p k m j hs ∧ OwnB ws H (.slice (some ⟨H, 0, none⟩) m m) hs ∧ Fresh w6 ws) (fun i _ => (m - intOf i).toNat)
          case atStart => exact ⟨0, _, Nat.zero_le _, rfl, ⟨List.length_replicate, fun t ht => by omega⟩, O7.out, F7.out⟩
          case round =>
            obtain ⟨j, hs, hj, rfl, hh, ho, hf⟩ := hrel
            have HL := hide hh
            have OJ := hide ho
            have FJ := hide hf
            have j0 : (0 : Int) ≤ (j : Int) := by omega
            clear hh ho hf
            by_cases gj : j < m
            · have j1 : (j : Int) < (m : Int) := by omega
              have l2 : 2 * j + 1 < cs.length := by have := HM.out; omega
              have e0 : IntKind.i64.wrap (2 * (j : Int)) = ((2 * j : Nat) : Int) := by rw [IntKind.wrap_i64]; omega
              have e1 : IntKind.i64.wrap (2 * (j : Int) + 1) = ((2 * j + 1 : Nat) : Int) := by rw [IntKind.wrap_i64]; omega
              have e2 : (2 : Int) * (j : Int) < (cs.length : Int) := by omega
              have e3 : (2 : Int) * (j : Int) + 1 < (cs.length : Int) := by omega
              have e4 : (0 : Int) ≤ 2 * (j : Int) := by omega
              have e5 : (0 : Int) ≤ 2 * (j : Int) + 1 := by omega
              obtain ⟨a', cap', e', hcc⟩ := B6.out.fresh FJ.out
              cases e'
              obtain ⟨b, o, rfl, d0⟩ := hcc (2 * j) (by omega)
              obtain ⟨b', o', e', d1⟩ := hcc (2 * j + 1) (by omega)
              cases e'
              have q0 := HA.out (2 * j) (by omega)
              have q1 := HA.out (2 * j + 1) (by omega)
              have CJ := hide (show clsB p (k + 1) j = (cs.getD (2 * j) false || cs.getD (2 * j + 1) false) by rw [q0, q1]; rfl)
              have hc := OJ.out.cell HL.out.1.symm j gj
              have hfz := OJ.out.free HL.out.1.symm j
              generalize cs.getD (2 * j) false = x0 at *
              generalize cs.getD (2 * j + 1) false = x1 at *
              generalize hs.getD j false = y at *
              clear hcc q0 q1
              cases x0 with
              | true =>
                have HN := hide (halves_step HL.out gj true (by rw [CJ.out]; rfl))
                have ON := hide (OJ.out.put HL.out.1.symm j true)
                go_wp2
                go_roundw
                case rel => exact ⟨j + 1, _, by omega, by go_num, HN.out, ON.out, fresh_set FJ.out (by rw [HH.out]; exact Nat.le_refl _) j _⟩
                case measure => simp [intOf]; omega
              | false =>
                have HN := hide (halves_step HL.out gj x1 (by rw [CJ.out]; rfl))
                have ON := hide (OJ.out.put HL.out.1.symm j x1)
                go_wp2
                go_roundw
                case rel => exact ⟨j + 1, _, by omega, by go_num, HN.out, ON.out, fresh_set FJ.out (by rw [HH.out]; exact Nat.le_refl _) j _⟩
                case measure => simp [intOf]; omega
            · obtain rfl : m = j := by omega
              have GN := hide (G6.out.fresh FJ.out)
              have SN := hide (show Stage w R S B N p (k + 1) (.slice (some ⟨H, 0, none⟩) m m) (.slice (some ⟨g5, 0, none⟩) (k + 1) c5) hs wr from
                ⟨⟨H, wr.heap.size, OJ.out.in, Nat.le_refl _, .inl (by have := G6.out.lt; have := HH.out; omega), fun g hg => .inl (by
                    have : g = g5 := by simpa [Value.ownBlock] using hg.symm
                    subst this
                    obtain ⟨us, h1, _⟩ := G6.out.own
                    obtain ⟨cc, hcc⟩ := own_type h1 g rfl
                    rw [HH.out]
                    exact (Array.getElem?_eq_some_iff.1 hcc).1)⟩,
                  by rw [HL.out.1, HMM.out], fun j hj => HL.out.2 j (by rw [← HMM.out]; exact hj), GN.out, by rw [FJ.out.block R (Array.getElem?_eq_some_iff.1 R6.out).1]; exact R6.out⟩)
              clear GN
              go_wp2
              go_roundw
              case rel => exact ⟨k + 1, _, hs, by omega, by go_num, SN.out⟩
              case measure => simp [intOf]; omega
    · obtain rfl : c = k := by omega
      obtain ⟨us, hus, _⟩ := hst.grow.own
      obtain ⟨g9, c9, rfl⟩ := own_shape hus HC.out.1
      have SL := hide ((hst.grow.done HC.out).store RB.out (.slice (some ⟨g9, 0, none⟩) c c9))
      have FR := hide (show Fresh w (wr.setCell ⟨R, 0, none⟩ (.slice (some ⟨g9, 0, none⟩) c c9)) from fresh_set hst.grow.el WB.out.2 0 _)
      have BR := hide (show (wr.setCell ⟨R, 0, none⟩ (.slice (some ⟨g9, 0, none⟩) c c9)).heap[R]? = some (.cells #[.slice (some ⟨g9, 0, none⟩) c c9] 26 (0, 0)) from heap_set_same hst.res _)
      obtain ⟨s0, s1, r0, r1⟩ := hst.cell
      clear hst S0 hus
      go_wp2
      clear s0 s1 r0 r1
      generalize wr.setCell ⟨R, 0, none⟩ (.slice (some ⟨g9, 0, none⟩) c c9) = W9 at SL FR BR ⊢
      have h0 : W9.cell? ⟨R, 0, none⟩ = some (.slice (some ⟨g9, 0, none⟩) c c9) := cell_block BR.out 0 _ rfl
      refine bodyPost_ret (by simp [results, Try.results26, go_sem, h0]; try rfl) rfl ?_
      exact ⟨_, rfl, SL.out.mono WB.out.1, FR.out⟩
end Go.Proofs.Ytpkcihfldmgehaa
