/- What the document's own Use and SameSlots answer (hodmanref8), as contracts. -/
import Derived.Test.YtpkcihfldmgehaaRefSlotsC
import Derived.Test.YtpkcihfldmgehaaRefTreeD
namespace Go.Proofs.Ytpkcihfldmgehaa
open Go.RowKit

/-- the first tree, through its box -/
def HeldU (W : World) (n b o : Nat) (c cap : Nat) (nn : Int) (lv : Value) (w : World) : Prop := w.cell? ⟨n, 0, none⟩ = some (.slice (some ⟨b, o, none⟩) c cap) ∧ w.cell? ⟨b, o, none⟩ = some (.int .i64 nn) ∧ w.cell? ⟨b, o + 1, none⟩ = some lv ∧ Fresh W w
theorem HeldU.fresh {W : World} {n b o c cap : Nat} {nn : Int} {lv : Value} {w w' : World} (h : HeldU W n b o c cap nn lv w) (k : Fresh w w') : HeldU W n b o c cap nn lv w' := by
  obtain ⟨a, d, e, f⟩ := h
  exact ⟨(k.cell (World.block_lt_of_cell? _ _ a)).trans a, (k.cell (World.block_lt_of_cell? _ _ d)).trans d, (k.cell (World.block_lt_of_cell? _ _ e)).trans e, f.trans k⟩
theorem HeldU.set {W : World} {n b o c cap : Nat} {nn : Int} {lv : Value} {w : World} (h : HeldU W n b o c cap nn lv w) {R : Nat} (hR : W.heap.size ≤ R) (hn : R ≠ n) (hb : R ≠ b) (x : Value) : HeldU W n b o c cap nn lv (w.setCell ⟨R, 0, none⟩ x) :=
  ⟨(World.cell?_setCell_far w ⟨R, 0, none⟩ _ x hn).trans h.1, (World.cell?_setCell_far w ⟨R, 0, none⟩ _ x hb).trans h.2.1, (World.cell?_setCell_far w ⟨R, 0, none⟩ _ x hb).trans h.2.2.1, fresh_set h.2.2.2 hR 0 x⟩
theorem use_bits {N : Nat} {p : Nat → Bool} (f m : Int) (on : Bool) (i : Nat) (hi : i < N) : (bitsL N (setT N (trW N p 0) f m on)).getD i false = useB p f m on i := by
  have hl : Lev N (trW N p 0) := by have := tr_lev N p 0; simpa using this
  rw [bitsL_get N _ i hi, setT_bit hl f m on i hi]
  unfold useB
  have : bitV (trW N p 0) i = p i := tr_bit (k := 0) (by simpa using hi)
  rw [this]

set_option maxHeartbeats 2000000 in
theorem ruse_any (v : Value) (N c : Nat) (p : Nat → Bool) (f m : Int) (on : Bool) (w : World) (h : SlotsAt w v N c p) (hf : f ≤ 9223372036854775807) (hm : m ≤ 9223372036854775807) :
    Calls Try.prog 13 #[v, .int .i64 f, .int .i64 m, .bool on] w fun e w' => ∃ u, e = .returned u ∧ SlotsNew w.heap.size w' u N c (useB p f m on) ∧ Fresh w w' := by
  obtain ⟨hc, a, cap, rfl, h1, h2, ht⟩ := h
  obtain ⟨b, o, lv, rfl, d0, d1, t⟩ := ht 0 hc.1
  simp only [Nat.zero_mul, Nat.add_zero, Nat.pow_zero, Nat.div_one] at d0 d1 t
  obtain ⟨n, hn⟩ : ∃ n, n = w.heap.size := ⟨_, rfl⟩
  obtain ⟨R, hR⟩ : ∃ R, R = w.heap.size + 1 := ⟨_, rfl⟩
  obtain ⟨W1, hW1⟩ : ∃ W1, W1 = (w.alloc (.cells #[.slice (some ⟨b, o, none⟩) c cap] 26)).alloc (.cells #[.slice none 0 0] 26) := ⟨_, rfl⟩
  have FW : Fresh w W1 := by rw [hW1]; exact fresh_more (fresh_box _ _ _) _ _
  have sz : W1.heap.size = w.heap.size + 1 + 1 := by rw [hW1]; simp
  have bR : W1.heap[R]? = some (.cells #[.slice none 0 0] 26 (0, 0)) := by
    rw [hR, hW1]
    have := heap_alloc_new (w.alloc (.cells #[.slice (some ⟨b, o, none⟩) c cap] 26)) (.cells #[.slice none 0 0] 26 (0, 0))
    rwa [show (w.alloc (.cells #[.slice (some ⟨b, o, none⟩) c cap] 26)).heap.size = w.heap.size + 1 by simp] at this
  have bn : W1.heap[n]? = some (.cells #[.slice (some ⟨b, o, none⟩) c cap] 26 (0, 0)) := by
    rw [hn, hW1, (fresh_box (w.alloc (.cells #[.slice (some ⟨b, o, none⟩) c cap] 26)) #[.slice none 0 0] 26).block w.heap.size (by simp)]
    exact heap_alloc_new w _
  have H1 := hide (show HeldU w n b o c cap (N : Int) lv W1 from ⟨cell_block bn 0 _ rfl, (FW.cell (World.block_lt_of_cell? _ _ d0)).trans d0, (FW.cell (World.block_lt_of_cell? _ _ d1)).trans d1, FW⟩)
  have HS : Hid (HeldU w n b o c cap (N : Int) lv W1.drew) := H1.out.fresh (Fresh.refl _).drew
  have BR := hide bR
  have SE := hide (fun w' (k : Fresh w w') => rtset_any _ N (trW N p 0) f m on w' (t.fresh k) hf hm)
  have UB := hide (use_bits (N := N) (p := p) f m on)
  have HC := hide hc
  have WR := hide (show w.heap.size ≤ R ∧ w.heap.size ≤ W1.heap.size ∧ R < W1.heap.size by omega)
  have bw : b < w.heap.size := World.block_lt_of_cell? _ _ d0
  have NR := hide (show R ≠ n ∧ R ≠ b by omega)
  have HN := hide hn
  have HR := hide hR
  have HW := hide hW1
  have c1 : (1 : Int) ≤ (c : Int) := by have := hc.1; omega
  have c2 : (c : Int) ≤ 17 := by have := hc.2.1; omega
  have c3 : ((c : Int) == 0) = false := by rw [beq_eq_false_iff_ne]; omega
  have c4 : (0 : Int) < (c : Int) := by omega
  have c5 : 0 < c := by have := hc.1; omega
  obtain ⟨x0, -⟩ := H1.out
  clear hn hR hW1 FW sz bR bn d0 d1 t ht h1 h2 hc hf hm bw
  go_enter Try.func13, Try.ntmps13
  go_wp2_with fail
  rw [← HW.out, ← HR.out, ← HN.out]
  have FD : Hid (Fresh W1 W1.drew) := (Fresh.refl _).drew
  refine wp_region_held (S := HeldU w n b o c cap (N : Int) lv) (by kernel_rfl) ?_
  change wpAnyH _ _ _ _ _ _ _ _ (World.drew _)
  generalize World.drew W1 = wd at HS FD ⊢
  refine held_take (i := 0) (d := 14) (v := ?_) rfl rfl (by kernel_rfl) (by kernel_rfl) (by kernel_rfl) (fun _ _ _ h => h) (by kernel_rfl) ?_ HS.out ?_
  rotate_left
  · intro wz hz
    obtain ⟨z0, z1, z2, -⟩ := hz
    go_simp
    first | done | with_reducible rfl
  refine held_take (i := 1) (d := 15) (v := ?_) rfl rfl (by kernel_rfl) (by kernel_rfl) (by kernel_rfl) (fun _ _ _ h => h) (by kernel_rfl) ?_ HS.out ?_
  rotate_left
  · intro wz hz
    obtain ⟨z0, z1, z2, -⟩ := hz
    go_simp
    first | done | with_reducible rfl
  refine held_take (i := 2) (d := 16) (v := ?_) rfl rfl (by kernel_rfl) (by kernel_rfl) (by kernel_rfl) (fun _ _ _ h => h) (by kernel_rfl) ?_ HS.out ?_
  rotate_left
  · intro wz hz
    obtain ⟨z0, z1, z2, -⟩ := hz
    go_simp
    first | done | with_reducible rfl
  refine held_take (i := 3) (d := 17) (v := ?_) rfl rfl (by kernel_rfl) (by kernel_rfl) (by kernel_rfl) (fun _ _ _ h => h) (by kernel_rfl) ?_ HS.out ?_
  rotate_left
  · intro wz hz
    obtain ⟨z0, z1, z2, -⟩ := hz
    go_simp
    first | done | with_reducible rfl
  refine held_take (i := 4) (d := 18) (v := ?_) rfl rfl (by kernel_rfl) (by kernel_rfl) (by kernel_rfl) (fun _ _ _ h => h) (by kernel_rfl) ?_ HS.out ?_
  rotate_left
  · intro wz hz
    obtain ⟨z0, z1, z2, -⟩ := hz
    go_simp
    first | done | with_reducible rfl
  refine held_take (i := 5) (d := 19) (v := ?_) rfl rfl (by kernel_rfl) (by kernel_rfl) (by kernel_rfl) (fun _ _ _ h => h) (by kernel_rfl) ?_ HS.out ?_
  rotate_left
  · intro wz hz
    obtain ⟨z0, z1, z2, -⟩ := hz
    go_simp
    first | done | with_reducible rfl
  refine held_take (i := 6) (d := 20) (v := ?_) rfl rfl (by kernel_rfl) (by kernel_rfl) (by kernel_rfl) (fun _ _ _ h => h) (by kernel_rfl) ?_ HS.out ?_
  rotate_left
  · intro wz hz
    obtain ⟨z0, z1, z2, -⟩ := hz
    go_simp
    first | done | with_reducible rfl
  refine held_take (i := 9) (d := 23) (v := ?_) rfl rfl (by kernel_rfl) (by kernel_rfl) (by kernel_rfl) (fun _ _ _ h => h) (by kernel_rfl) ?_ HS.out ?_
  rotate_left
  · intro wz hz
    obtain ⟨z0, z1, z2, -⟩ := hz
    go_simp
    first | done | with_reducible rfl
  refine held_take (i := 10) (d := 24) (v := ?_) rfl rfl (by kernel_rfl) (by kernel_rfl) (by kernel_rfl) (fun _ _ _ h => h) (by kernel_rfl) ?_ HS.out ?_
  rotate_left
  · intro wz hz
    obtain ⟨z0, z1, z2, -⟩ := hz
    go_simp
    first | done | with_reducible rfl
  refine held_take (i := 11) (d := 25) (v := ?_) rfl rfl (by kernel_rfl) (by kernel_rfl) (by kernel_rfl) (fun _ _ _ h => h) (by kernel_rfl) ?_ HS.out ?_
  rotate_left
  · intro wz hz
    obtain ⟨z0, z1, z2, -⟩ := hz
    go_simp
    first | done | with_reducible rfl
  refine wpAnyH_ready (rs := [7]) (by kernel_rfl) (by simp) ?_
  refine AllReadyH.cons rfl (fun K hK => ?_) AllReadyH.nil
  go_simp
  go_wp2_with fail
  refine (SE.out _ HS.out.2.2.2).mono ?_; rintro e w2 ⟨v2, rfl, t2, f2⟩; have T2 := hide t2.at; have K2 := hide (FD.out.trans f2); have HS' := hide (HS.out.fresh f2); clear HS t2 f2; have HS := HS'; clear HS'
  refine hK.out _ _ HS.out (fun _ => ?_)
  clear hK K
  refine wpAnyH_ready (rs := [8]) (by kernel_rfl) (by simp) ?_
  refine AllReadyH.cons rfl (fun K hK => ?_) AllReadyH.nil
  go_simp
  go_wp2_with fail
  refine (tbits_any _ N _ _ T2.out).mono ?_; rintro e w3 ⟨g3, c3', rfl, o3, f3⟩; have O3 := hide o3.at; have K3 := hide (K2.out.trans f3); have HS' := hide (HS.out.fresh f3); clear HS o3 f3; have HS := HS'; clear HS'
  refine hK.out _ _ HS.out (fun _ => ?_)
  clear hK K
  refine wpAnyH_ready (rs := [12]) (by kernel_rfl) (by simp) ?_
  refine AllReadyH.cons rfl (fun K hK => ?_) AllReadyH.nil
  go_simp
  go_wp2_with fail
  refine (of_any _ _ N c _ O3.out (bitsL_length _ _) HC.out).mono ?_; rintro e w4 ⟨u, rfl, s4, f4⟩; have S4 := hide s4; have B4 := hide (show W1.heap.size ≤ w3.heap.size from K3.out.size); have K4 := hide (K3.out.trans f4); obtain ⟨_, ua, uc, rfl, _⟩ := s4.at; have HS' := hide (HS.out.fresh f4); clear HS s4 f4; have HS := HS'; clear HS'
  refine hK.out _ _ HS.out (fun _ => ?_)
  clear hK K
  have bR4 := BR.out
  rw [← K4.out.block R WR.out.2.2] at bR4
  have r0 := cell_block bR4 0 _ rfl
  have r1 := free_block bR4 0
  refine wpAnyH_ready (rs := [13]) (by kernel_rfl) (by simp) ?_
  refine AllReadyH.cons rfl (fun K hK => ?_) AllReadyH.nil
  go_simp
  have S5 := hide ((S4.out.store (Nat.lt_of_lt_of_le WR.out.2.2 B4.out) (.slice ua c uc)).congr UB.out); have FR := hide (show Fresh w (w4.setCell ⟨R, 0, none⟩ (.slice ua c uc)) from fresh_set HS.out.2.2.2 WR.out.1 0 _); have bR5 := hide (show (w4.setCell ⟨R, 0, none⟩ (.slice ua c uc)).heap[R]? = some (.cells #[.slice ua c uc] 26 (0, 0)) from heap_set_same bR4 _); have HS' := hide (show HeldU w n b o c cap (N : Int) lv (w4.setCell ⟨R, 0, none⟩ (.slice ua c uc)) from HS.out.set WR.out.1 NR.out.1 NR.out.2 _); clear HS r0 r1; generalize w4.setCell ⟨R, 0, none⟩ (.slice ua c uc) = W9 at S5 FR bR5 HS' ⊢; have HS := HS'; clear HS'
  refine hK.out _ _ HS.out (fun _ => ?_)
  clear hK K
  refine wpAnyH_done (by kernel_rfl) ?_ _
  try simp only [Act.put, List.setIfInBounds_toArray, List.set_cons_succ, List.set_cons_zero]
  go_wp2
  have h0 : W9.cell? ⟨R, 0, none⟩ = some (.slice ua c uc) := cell_block bR5.out 0 _ rfl
  refine bodyPost_ret (by simp [results, Try.results13, go_sem, h0]; try rfl) rfl ?_
  exact ⟨_, rfl, S5.out.mono (Nat.le_trans WR.out.2.1 B4.out), FR.out⟩
/-- two boxes, and a tree of each -/
def HeldW (W : World) (n m b o c cap b' o' cap' q : Nat) (nn : Int) (lv lv' : Value) (w : World) : Prop := w.cell? ⟨n, 0, none⟩ = some (.slice (some ⟨b, o, none⟩) c cap) ∧ w.cell? ⟨m, 0, none⟩ = some (.slice (some ⟨b', o', none⟩) c cap') ∧ w.cell? ⟨b, o + q, none⟩ = some (.int .i64 nn) ∧ w.cell? ⟨b, o + q + 1, none⟩ = some lv ∧ w.cell? ⟨b', o' + q, none⟩ = some (.int .i64 nn) ∧ w.cell? ⟨b', o' + q + 1, none⟩ = some lv' ∧ Fresh W w
theorem HeldW.fresh {W : World} {n m b o c cap b' o' cap' q : Nat} {nn : Int} {lv lv' : Value} {w w' : World} (h : HeldW W n m b o c cap b' o' cap' q nn lv lv' w) (k : Fresh w w') : HeldW W n m b o c cap b' o' cap' q nn lv lv' w' := by
  obtain ⟨a1, a2, a3, a4, a5, a6, a7⟩ := h
  exact ⟨(k.cell (World.block_lt_of_cell? _ _ a1)).trans a1, (k.cell (World.block_lt_of_cell? _ _ a2)).trans a2, (k.cell (World.block_lt_of_cell? _ _ a3)).trans a3, (k.cell (World.block_lt_of_cell? _ _ a4)).trans a4, (k.cell (World.block_lt_of_cell? _ _ a5)).trans a5, (k.cell (World.block_lt_of_cell? _ _ a6)).trans a6, a7.trans k⟩
set_option maxHeartbeats 2000000 in
theorem ssame_true (v u : Value) (N c : Nat) (p : Nat → Bool) (w : World) (h : SlotsAt w v N c p) (h' : SlotsAt w u N c p) :
    Calls Try.prog 11 #[v, u] w fun e w' => e = .returned (.bool true) ∧ Fresh w w' := by
  obtain ⟨hc, a, cap, rfl, _, _, ht⟩ := h
  obtain ⟨_, a', cap', rfl, _, _, ht'⟩ := h'
  obtain ⟨n, hn⟩ : ∃ n, n = w.heap.size := ⟨_, rfl⟩
  obtain ⟨m, hm⟩ : ∃ m, m = w.heap.size + 1 := ⟨_, rfl⟩
  obtain ⟨W1, hW1⟩ : ∃ W1, W1 = (w.alloc (.cells #[.slice a c cap] 26)).alloc (.cells #[.slice a' c cap'] 26) := ⟨_, rfl⟩
  have FW : Fresh w W1 := by rw [hW1]; exact fresh_more (fresh_box _ _ _) _ _
  have bm : W1.heap[m]? = some (.cells #[.slice a' c cap'] 26 (0, 0)) := by
    rw [hm, hW1]
    have := heap_alloc_new (w.alloc (.cells #[.slice a c cap] 26)) (.cells #[.slice a' c cap'] 26 (0, 0))
    rwa [show (w.alloc (.cells #[.slice a c cap] 26)).heap.size = w.heap.size + 1 by simp] at this
  have bn : W1.heap[n]? = some (.cells #[.slice a c cap] 26 (0, 0)) := by
    rw [hn, hW1, (fresh_box (w.alloc (.cells #[.slice a c cap] 26)) #[.slice a' c cap'] 26).block w.heap.size (by simp)]
    exact heap_alloc_new w _
  have x0 : W1.cell? ⟨n, 0, none⟩ = some (.slice a c cap) := cell_block bn 0 _ rfl
  have y0 : W1.cell? ⟨m, 0, none⟩ = some (.slice a' c cap') := cell_block bm 0 _ rfl
  have X0 := hide x0
  have Y0 := hide y0
  have HT := hide (ht.fresh FW)
  have HT' := hide (ht'.fresh FW)
  have HF := hide FW
  have HC := hide hc
  have HN := hide hn
  have HM := hide hm
  have HW := hide hW1
  have c1 : (0 : Int) ≤ (c : Int) := by omega
  have c2 : (c : Int) ≤ 17 := by have := hc.2.1; omega
  clear hn hm hW1 FW bm bn ht ht' hc
  go_enter Try.func11, Try.ntmps11
  go_wp2
  rw [← HW.out, ← HM.out, ← HN.out]
  go_loopw [5] (fun i wr => ∃ j : Nat, j ≤ c ∧ i = .int .i64 (j : Int) ∧ Fresh W1 wr) (fun i _ => (c - intOf i).toNat)
  case atStart => exact ⟨0, Nat.zero_le _, rfl, Fresh.refl _⟩
  case round =>
    obtain ⟨j, hj, rfl, hf⟩ := hrel
    have F := hide hf
    have j0 : (0 : Int) ≤ (j : Int) := by omega
    have x1 := (hf.cell (World.block_lt_of_cell? _ _ X0.out)).trans X0.out
    have y1 := (hf.cell (World.block_lt_of_cell? _ _ Y0.out)).trans Y0.out
    clear hf
    by_cases g : j < c
    · have g' : (j : Int) < (c : Int) := by omega
      obtain ⟨b, o, lv, rfl, d0, d1, t⟩ := (HT.out.fresh F.out) j g
      obtain ⟨b', o', lv', rfl, d0', d1', t'⟩ := (HT'.out.fresh F.out) j g
      have SM := hide (fun w' (k : Fresh wr w') => tsame_true _ _ (N / 2 ^ j) (nLev (N / 2 ^ j)) (lvV (trW N p j)) w' (t.fresh k).2.2.2 (t'.fresh k).2.2.2 (by have := nLev_in (N / 2 ^ j); omega))
      generalize ((N / 2 ^ j : Nat) : Int) = nn at *
      have HS : Hid (HeldW wr n m b o c cap b' o' cap' (j * 2) nn lv lv' wr.drew) := ⟨x1, y1, d0, d1, d0', d1', (Fresh.refl _).drew⟩
      clear d0 d1 d0' d1' t t'
      go_wp2_with fail
      refine wp_region_held (S := HeldW wr n m b o c cap b' o' cap' (j * 2) nn lv lv') (by kernel_rfl) ?_
      change wpAnyH _ _ _ _ _ _ _ _ (World.drew _)
      refine held_take (i := 0) (d := 20) (v := ?_) rfl rfl (by kernel_rfl) (by kernel_rfl) (by kernel_rfl) (fun _ _ _ h => h) (by kernel_rfl) ?_ HS.out ?_
      rotate_left
      · intro wz hz
        obtain ⟨z0, z1, z2, z3, z4, z5, -⟩ := hz
        go_simp
        first | done | with_reducible rfl
      refine held_take (i := 1) (d := 21) (v := ?_) rfl rfl (by kernel_rfl) (by kernel_rfl) (by kernel_rfl) (fun _ _ _ h => h) (by kernel_rfl) ?_ HS.out ?_
      rotate_left
      · intro wz hz
        obtain ⟨z0, z1, z2, z3, z4, z5, -⟩ := hz
        go_simp
        first | done | with_reducible rfl
      refine held_take (i := 2) (d := 22) (v := ?_) rfl rfl (by kernel_rfl) (by kernel_rfl) (by kernel_rfl) (fun _ _ _ h => h) (by kernel_rfl) ?_ HS.out ?_
      rotate_left
      · intro wz hz
        obtain ⟨z0, z1, z2, z3, z4, z5, -⟩ := hz
        go_simp
        first | done | with_reducible rfl
      refine held_take (i := 3) (d := 23) (v := ?_) rfl rfl (by kernel_rfl) (by kernel_rfl) (by kernel_rfl) (fun _ _ _ h => h) (by kernel_rfl) ?_ HS.out ?_
      rotate_left
      · intro wz hz
        obtain ⟨z0, z1, z2, z3, z4, z5, -⟩ := hz
        go_simp
        first | done | with_reducible rfl
      refine held_take (i := 4) (d := 24) (v := ?_) rfl rfl (by kernel_rfl) (by kernel_rfl) (by kernel_rfl) (fun _ _ _ h => h) (by kernel_rfl) ?_ HS.out ?_
      rotate_left
      · intro wz hz
        obtain ⟨z0, z1, z2, z3, z4, z5, -⟩ := hz
        go_simp
        first | done | with_reducible rfl
      refine held_take (i := 5) (d := 25) (v := ?_) rfl rfl (by kernel_rfl) (by kernel_rfl) (by kernel_rfl) (fun _ _ _ h => h) (by kernel_rfl) ?_ HS.out ?_
      rotate_left
      · intro wz hz
        obtain ⟨z0, z1, z2, z3, z4, z5, -⟩ := hz
        go_simp
        first | done | with_reducible rfl
      refine held_take (i := 6) (d := 26) (v := ?_) rfl rfl (by kernel_rfl) (by kernel_rfl) (by kernel_rfl) (fun _ _ _ h => h) (by kernel_rfl) ?_ HS.out ?_
      rotate_left
      · intro wz hz
        obtain ⟨z0, z1, z2, z3, z4, z5, -⟩ := hz
        go_simp
        first | done | with_reducible rfl
      refine held_take (i := 7) (d := 27) (v := ?_) rfl rfl (by kernel_rfl) (by kernel_rfl) (by kernel_rfl) (fun _ _ _ h => h) (by kernel_rfl) ?_ HS.out ?_
      rotate_left
      · intro wz hz
        obtain ⟨z0, z1, z2, z3, z4, z5, -⟩ := hz
        go_simp
        first | done | with_reducible rfl
      refine held_take (i := 8) (d := 28) (v := ?_) rfl rfl (by kernel_rfl) (by kernel_rfl) (by kernel_rfl) (fun _ _ _ h => h) (by kernel_rfl) ?_ HS.out ?_
      rotate_left
      · intro wz hz
        obtain ⟨z0, z1, z2, z3, z4, z5, -⟩ := hz
        go_simp
        first | done | with_reducible rfl
      refine held_take (i := 9) (d := 29) (v := ?_) rfl rfl (by kernel_rfl) (by kernel_rfl) (by kernel_rfl) (fun _ _ _ h => h) (by kernel_rfl) ?_ HS.out ?_
      rotate_left
      · intro wz hz
        obtain ⟨z0, z1, z2, z3, z4, z5, -⟩ := hz
        go_simp
        first | done | with_reducible rfl
      refine wpAnyH_ready (rs := [10]) (by kernel_rfl) (by simp) ?_
      refine AllReadyH.cons rfl (fun K hK => ?_) AllReadyH.nil
      go_simp
      go_wp2_with fail
      refine (SM.out _ HS.out.2.2.2.2.2.2).mono ?_; rintro e w2 ⟨rfl, f2⟩; have HS' := hide (HS.out.fresh f2); clear HS f2; have HS := HS'; clear HS'
      refine hK.out _ _ HS.out (fun _ => ?_)
      clear hK K
      refine held_take (i := 11) (d := 31) (v := ?_) rfl rfl (by kernel_rfl) (by kernel_rfl) (by kernel_rfl) (fun _ _ _ h => h) (by kernel_rfl) ?_ HS.out ?_
      rotate_left
      · intro wz hz
        obtain ⟨z0, z1, z2, z3, z4, z5, -⟩ := hz
        go_simp
        first | done | with_reducible rfl
      refine wpAnyH_done (by kernel_rfl) ?_ _
      try simp only [Act.put, List.setIfInBounds_toArray, List.set_cons_succ, List.set_cons_zero]
      go_wp2
      go_roundw
      case rel => exact ⟨j + 1, by omega, by go_num, F.out.trans HS.out.2.2.2.2.2.2⟩
      case measure => simp [intOf]; omega
    · obtain rfl : c = j := by omega
      go_wp2
      go_ret
      exact ⟨rfl, HF.out.trans F.out⟩
end Go.Proofs.Ytpkcihfldmgehaa
