/- Use of package slots, as a contract. -/
import Derived.Test.YtpkcihfldmgehaaSlotsB
import Derived.Test.YtpkcihfldmgehaaSlotsN
import Derived.Test.YtpkcihfldmgehaaTreeS
namespace Go.Proofs.Ytpkcihfldmgehaa
open Go.RowKit

theorem tset_cls (nn : Int) (lv : Value) (n : Nat) (ws us : List Nat) (f m : Int) (on : Bool) (hn : nn = (n : Int)) (hu : setT n ws f m on = us) (w : World) (h : TreeAt w (.agg #[.int .i64 nn, lv]) n ws) (hm : m ≤ 9223372036854775807) :
    Calls Try.prog 25 #[.agg #[.int .i64 nn, lv], .int .i64 f, .int .i64 m, .bool on] w fun e w' => ∃ xa xl xc, e = .returned (.agg #[.int .i64 nn, .slice xa xl xc]) ∧ TreeNew w.heap.size w' (.agg #[.int .i64 (n : Int), .slice xa xl xc]) n us ∧ Fresh w w' := by
  subst hn
  subst hu
  refine (tset_any _ n ws f m on w h hm).mono ?_
  rintro e w' ⟨v', rfl, t, k⟩
  obtain ⟨_, _, _, xa, xc, rfl, _⟩ := t.at
  exact ⟨xa, _, xc, rfl, t, k⟩
/-- the row's variable, and the tree that is turned next -/
def HeldT (V g T c : Nat) (nn : Int) (lv : Value) (w : World) : Prop := w.cell? ⟨V, 0, none⟩ = some (.slice (some ⟨g, 0, none⟩) c c) ∧ w.cell? ⟨T, 0, none⟩ = some (.int .i64 nn) ∧ w.cell? ⟨T, 1, none⟩ = some lv
theorem HeldT.fresh {V g T c : Nat} {nn : Int} {lv : Value} {w w' : World} (h : HeldT V g T c nn lv w) (k : Fresh w w') : HeldT V g T c nn lv w' :=
  ⟨(k.cell (World.block_lt_of_cell? _ _ h.1)).trans h.1, (k.cell (World.block_lt_of_cell? _ _ h.2.1)).trans h.2.1, (k.cell (World.block_lt_of_cell? _ _ h.2.2)).trans h.2.2⟩
theorem HeldT.set {V g T c : Nat} {nn : Int} {lv : Value} {w : World} (h : HeldT V g T c nn lv w) (hV : g ≠ V) (hT : g ≠ T) (j : Nat) (x : Value) : HeldT V g T c nn lv (w.setCell ⟨g, j, none⟩ x) :=
  ⟨(World.cell?_setCell_far w ⟨g, j, none⟩ _ x hV).trans h.1, (World.cell?_setCell_far w ⟨g, j, none⟩ _ x hT).trans h.2.1, (World.cell?_setCell_far w ⟨g, j, none⟩ _ x hT).trans h.2.2⟩
structure UseS (W1 : World) (V g R T c k N : Nat) (p q : Nat → Bool) (nn : Int) (lv : Value) (w : World) : Prop where
  fill : FillS W1 V g c k (fun k => N / 2 ^ k) (trW N q) w
  res : w.heap[R]? = some (.cells #[.slice none 0 0] 26 (0, 0))
  tv : w.heap[T]? = some (.cells #[.int .i64 nn, lv] 45 (0, 0))
  tr : TreeAt w (.agg #[.int .i64 nn, lv]) (N / 2 ^ k) (trW N p k)
theorem UseS.fresh {W1 : World} {V g R T c k N : Nat} {p q : Nat → Bool} {nn : Int} {lv : Value} {w w' : World} (h : UseS W1 V g R T c k N p q nn lv w) (j : Fresh w w') : UseS W1 V g R T c k N p q nn lv w' :=
  ⟨h.fill.fresh j, by rw [j.block R (Array.getElem?_eq_some_iff.1 h.res).1]; exact h.res, by rw [j.block T (Array.getElem?_eq_some_iff.1 h.tv).1]; exact h.tv, h.tr.fresh j⟩
theorem TreeAt.lv {w : World} {x y : Value} {n : Nat} {ws : List Nat} (h : TreeAt w (.agg #[x, y]) n ws) : ∃ a l c, y = .slice a l c := by
  obtain ⟨_, _, _, a, c, e, _⟩ := h
  simp at e
  exact ⟨a, _, c, e.2⟩
theorem half_bits {N k : Nat} {q : Nat → Bool} {i : Nat} (h : 2 * i + 1 < N / 2 ^ k) : halfB (bitV (trW N q k)) i = halfB (clsB q k) i := by unfold halfB; rw [tr_bit (by omega), tr_bit h]

theorem grown_block {w w2 : World} (h : w.grownBy w2 none) {b : Nat} {ob : Obj} (hb : w.heap[b]? = some ob) : w2.heap[b]? = some ob := by rw [h.block b (Array.getElem?_eq_some_iff.1 hb).1 (fun e => by cases e)]; exact hb
set_option maxHeartbeats 2000000 in
theorem suse_any (v : Value) (N c : Nat) (p : Nat → Bool) (f m : Int) (on : Bool) (w : World) (h : SlotsAt w v N c p) (hm : m ≤ 9223372036854775807) :
    Calls Try.prog 12 #[v, .int .i64 f, .int .i64 m, .bool on] w fun e w' => ∃ u, e = .returned u ∧ SlotsNew w.heap.size w' u N c (useB p f m on) ∧ Fresh w w' := by
  obtain ⟨hc, a, cap, rfl, h1, h2, ht⟩ := id h
  obtain ⟨i0, hi, hz0, hz1, hz2⟩ := infoOf infoTree
  obtain ⟨b, o, _, rfl, _, _, _⟩ := ht 0 hc.1
  obtain ⟨R, hR⟩ : ∃ R, R = w.heap.size + 1 := ⟨_, rfl⟩
  obtain ⟨W1, hW1⟩ : ∃ W1, W1 = (w.alloc (.cells #[.slice (some ⟨b, o, none⟩) c cap] 26)).alloc (.cells #[.slice none 0 0] 26) := ⟨_, rfl⟩
  have FW := hide (show Fresh w W1 by rw [hW1]; exact fresh_more (fresh_box _ _ _) _ _)
  have sz : W1.heap.size = w.heap.size + 1 + 1 := by rw [hW1]; simp
  have bR : W1.heap[R]? = some (.cells #[.slice none 0 0] 26 (0, 0)) := by
    rw [hR, hW1]
    have := heap_alloc_new (w.alloc (.cells #[.slice (some ⟨b, o, none⟩) c cap] 26)) (.cells #[.slice none 0 0] 26 (0, 0))
    rwa [show (w.alloc (.cells #[.slice (some ⟨b, o, none⟩) c cap] 26)).heap.size = w.heap.size + 1 by simp] at this
  have bn : W1.heap[w.heap.size]? = some (.cells #[.slice (some ⟨b, o, none⟩) c cap] 26 (0, 0)) := by
    rw [hW1, (fresh_box (w.alloc (.cells #[.slice (some ⟨b, o, none⟩) c cap] 26)) #[.slice none 0 0] 26).block w.heap.size (by simp)]
    exact heap_alloc_new w _
  have BR := hide bR
  have BN := hide bn
  have HC := hide hc
  have HA := hide h
  have HR := hide hR
  have HW := hide hW1
  have RL := hide (show R < W1.heap.size ∧ w.heap.size ≤ R by omega)
  have HT := hide ht
  have n0 := cell_block bn 0 _ rfl
  have c0 : (1 : Int) ≤ (c : Int) := by have := hc.1; omega
  have c1 : (c : Int) ≤ 17 := by have := hc.2.1; omega
  have c2 : c ≤ cap := h1
  clear hR hW1 hc h h1 h2 ht sz bR bn
  go_enter Try.func12, Try.ntmps12
  go_wp2_with (rw [← HW.out]; at_make; refine wpList_make_full _ rfl _ _ 24 rfl W1.heap.size 45 i0 (.agg #[.int .i64 0, .slice none 0 0]) 2 Try.underlying24 hi hz0 hz1 _ _ _ _ c rfl rfl rfl rfl (by rw [hz2]; omega) (by unfold maxLen; omega) (Nat.le_refl _) ?_; intro w2 hown hgrow; have n1 := cell_block (grown_block hgrow BN.out) 0 _ rfl; have n2 := World.block_lt_of_cell? _ _ n1)
  have FI := hide (fill_start (ns := fun k => N / 2 ^ k) (f := trW N (useB p f m on)) (Fresh.refl W1) hown hgrow)
  have f12 : Fresh W1 w2 := (Below.refl _ _).grown hgrow (Nat.le_refl _) (fun k hk => by cases hk)
  obtain ⟨g, hg⟩ : ∃ g, g = W1.heap.size := ⟨_, rfl⟩
  obtain ⟨V, hV⟩ : ∃ V, V = w2.heap.size := ⟨_, rfl⟩
  have f13 := fresh_more f12 #[.slice (some ⟨W1.heap.size, 0, none⟩) c c] 26
  have BW := hide (show (w2.alloc (.cells #[.slice (some ⟨W1.heap.size, 0, none⟩) c c] 26)).heap[R]? = some (.cells #[.slice none 0 0] 26 (0, 0)) by rw [f13.block R (Array.getElem?_eq_some_iff.1 BR.out).1]; exact BR.out)
  have BX := hide (show (w2.alloc (.cells #[.slice (some ⟨W1.heap.size, 0, none⟩) c c] 26)).heap[w.heap.size]? = some (.cells #[.slice (some ⟨b, o, none⟩) c cap] 26 (0, 0)) by rw [f13.block _ (Array.getElem?_eq_some_iff.1 BN.out).1]; exact BN.out)
  have F3 := hide (FW.out.trans f13)
  rw [← hg, ← hV]
  rw [← hg, ← hV] at FI
  rw [← hg] at BW BX F3
  generalize w2.alloc (.cells #[.slice (some ⟨g, 0, none⟩) c c] 26) = w3 at FI BW BX F3 ⊢
  clear hown hgrow f12 f13 hg hV BR BN n0 n1 n2
  refine (there_any _ N c p f m _ (HA.out.fresh F3.out) hm).mono ?_
  rintro e w4 ⟨rfl, f4⟩
  have FI4 := hide (FI.out.fresh f4)
  have BW4 := hide (show w4.heap[R]? = some (.cells #[.slice none 0 0] 26 (0, 0)) by rw [f4.block R (Array.getElem?_eq_some_iff.1 BW.out).1]; exact BW.out)
  have n0 := cell_block (show w4.heap[w.heap.size]? = some (.cells #[.slice (some ⟨b, o, none⟩) c cap] 26 (0, 0)) by rw [f4.block _ (Array.getElem?_eq_some_iff.1 BX.out).1]; exact BX.out) 0 _ rfl
  have RN0 := hide (there_rng N p f m on)
  clear FI BW BX F3 f4 HA
  generalize thF N f m = F0 at *
  generalize thE N f m = E0 at *
  generalize hq : useB p f m on = q at *
  have HQ := hide hq
  clear hq
  rw [← HR.out]
  go_wp2
  clear n0
  go_loopw [10, 11, 29] (fun x y i wr => ∃ k F E : Nat, k ≤ c ∧ x = .int .i64 (F : Int) ∧ y = .int .i64 (E : Int) ∧ i = .int .i64 (k : Int) ∧ Rng (N / 2 ^ (k - 1)) (clsB p (k - 1)) (clsB q (k - 1)) F E on ∧ FillS W1 V g c k (fun k => N / 2 ^ k) (trW N q) wr ∧ wr.heap[R]? = some (.cells #[.slice none 0 0] 26 (0, 0))) (fun _ _ i _ => (c - intOf i).toNat)
  case atStart => exact ⟨0, F0, E0, Nat.zero_le _, rfl, rfl, rfl, by show Rng (N / 2 ^ 0) p q F0 E0 on; rw [Nat.pow_zero, Nat.div_one]; exact RN0.out, FI4.out, BW4.out⟩
  case round =>
    obtain ⟨k, F, E, hk, rfl, rfl, rfl, hr, hf, hres⟩ := hrel
    have k0 : (0 : Int) ≤ (k : Int) := by omega
    clear FI4 BW4 RN0
    by_cases gk : k < c
    · have k1 : (k : Int) < (c : Int) := by omega
      have GK := hide gk
      have GW := hide hf.lt.1
      have FWR := FW.out.trans hf.el
      obtain ⟨b', o', lv, e', d0, d1, t⟩ := HT.out.fresh FWR k gk
      cases e'
      obtain ⟨la, ll, lc, rfl⟩ := t.lv
      have RN' := hide hr
      obtain ⟨T, hT⟩ : ∃ T, T = wr.heap.size := ⟨_, rfl⟩
      have U0 := hide (show UseS W1 V g R T c k N p q ((N / 2 ^ k : Nat) : Int) (.slice la ll lc) (wr.alloc (.cells #[.int .i64 ((N / 2 ^ k : Nat) : Int), .slice la ll lc] 45)) from ⟨hf.fresh (fresh_box _ _ _), by rw [(fresh_box wr _ _).block R (Array.getElem?_eq_some_iff.1 hres).1]; exact hres, by rw [hT]; exact heap_alloc_new wr _, t.fresh (fresh_box _ _ _)⟩)
      generalize hnn : ((N / 2 ^ k : Nat) : Int) = nn at U0 d0
      have NN := hide hnn.symm
      have HTT := hide hT
      have TL := hide (show V < T by rw [hT]; exact (Array.getElem?_eq_some_iff.1 hf.var).1)
      have B1 := hide (HC.out.pos gk).2
      have HF := hide hf
      clear hf hres FWR t hr hnn hT
      by_cases hk0 : k = 0
      · rw [show k - 1 = k by omega] at RN'
        have kz : (k : Int) ≤ 0 := by omega
        have RN := RN'
        obtain ⟨l1, l2, _⟩ := RN.out
        have e0 : (0 : Int) ≤ (F : Int) := by omega
        have e1 : (F : Int) ≤ (E : Int) := by omega
        have e2 : (E : Int) ≤ 65536 := by have := B1.out; omega
        clear hk0 RN' l1 l2
        go_wp2_with fail
        rw [← HTT.out]
        generalize wr.alloc (.cells #[.int .i64 nn, .slice la ll lc] 45) = wz at U0 ⊢
        obtain ⟨F', hF⟩ : ∃ F', F' = F := ⟨_, rfl⟩
        obtain ⟨E', hE⟩ : ∃ E', E' = E := ⟨_, rfl⟩
        rw [← hF, ← hE]
        rw [← hF, ← hE] at RN e1
        rw [← hF] at e0
        rw [← hE] at e2
        have US := U0
        clear hF hE U0
        have w0 : IntKind.i64.wrap ((E' : Int) - (F' : Int)) = (E' : Int) - (F' : Int) := by rw [IntKind.wrap_i64]; omega
        have TS := hide (fun w' (k2 : Fresh wz w') => tset_cls nn (.slice la ll lc) (N / 2 ^ k) (trW N p k) (trW N q k) (F' : Int) ((E' : Int) - (F' : Int)) on NN.out (set_rng RN.out) w' (US.out.tr.fresh k2) (by omega))
        have HS : Hid (HeldT V g T c nn (.slice la ll lc) wz.drew) := ⟨US.out.fill.cell, cell_block US.out.tv 0 _ rfl, cell_block US.out.tv 1 _ rfl⟩
        have FD : Hid (Fresh wz wz.drew) := (Fresh.refl _).drew
        have TV := hide (show g ≠ T ∧ g ≠ V ∧ R ≠ g by have h1 := US.out.fill.lt; have h2 := RL.out; have h3 := TL.out; omega)
        refine wp_region_held (S := HeldT V g T c nn (.slice la ll lc)) (by kernel_rfl) ?_
        change wpAnyH _ _ _ _ _ _ _ _ (World.drew _)
        generalize World.drew wz = wd at HS FD ⊢
        refine held_take (i := 0) (d := 49) (v := ?_) rfl rfl (by kernel_rfl) (by kernel_rfl) (by kernel_rfl) (fun _ _ _ h => h) (by kernel_rfl) ?_ HS.out ?_
        rotate_left
        · intro wz hz
          obtain ⟨z0, z1, z2⟩ := hz
          go_simp
          first | done | with_reducible rfl
        refine held_take (i := 1) (d := 50) (v := ?_) rfl rfl (by kernel_rfl) (by kernel_rfl) (by kernel_rfl) (fun _ _ _ h => h) (by kernel_rfl) ?_ HS.out ?_
        rotate_left
        · intro wz hz
          obtain ⟨z0, z1, z2⟩ := hz
          go_simp
          first | done | with_reducible rfl
        refine held_take (i := 2) (d := 51) (v := ?_) rfl rfl (by kernel_rfl) (by kernel_rfl) (by kernel_rfl) (fun _ _ _ h => h) (by kernel_rfl) ?_ HS.out ?_
        rotate_left
        · intro wz hz
          obtain ⟨z0, z1, z2⟩ := hz
          go_simp
          first | done | with_reducible rfl
        refine held_take (i := 3) (d := 52) (v := ?_) rfl rfl (by kernel_rfl) (by kernel_rfl) (by kernel_rfl) (fun _ _ _ h => h) (by kernel_rfl) ?_ HS.out ?_
        rotate_left
        · intro wz hz
          obtain ⟨z0, z1, z2⟩ := hz
          go_simp
          first | done | with_reducible rfl
        refine held_take (i := 4) (d := 53) (v := ?_) rfl rfl (by kernel_rfl) (by kernel_rfl) (by kernel_rfl) (fun _ _ _ h => h) (by kernel_rfl) ?_ HS.out ?_
        rotate_left
        · intro wz hz
          obtain ⟨z0, z1, z2⟩ := hz
          go_simp
          first | done | with_reducible rfl
        refine held_take (i := 5) (d := 54) (v := ?_) rfl rfl (by kernel_rfl) (by kernel_rfl) (by kernel_rfl) (fun _ _ _ h => h) (by kernel_rfl) ?_ HS.out ?_
        rotate_left
        · intro wz hz
          obtain ⟨z0, z1, z2⟩ := hz
          go_simp
          first | done | with_reducible rfl
        refine held_take (i := 6) (d := 55) (v := ?_) rfl rfl (by kernel_rfl) (by kernel_rfl) (by kernel_rfl) (fun _ _ _ h => h) (by kernel_rfl) ?_ HS.out ?_
        rotate_left
        · intro wz hz
          obtain ⟨z0, z1, z2⟩ := hz
          go_simp
          first | done | with_reducible rfl
        refine held_take (i := 7) (d := 56) (v := ?_) rfl rfl (by kernel_rfl) (by kernel_rfl) (by kernel_rfl) (fun _ _ _ h => h) (by kernel_rfl) ?_ HS.out ?_
        rotate_left
        · intro wz hz
          obtain ⟨z0, z1, z2⟩ := hz
          go_simp
          first | done | with_reducible rfl
        refine held_take (i := 8) (d := 57) (v := ?_) rfl rfl (by kernel_rfl) (by kernel_rfl) (by kernel_rfl) (fun _ _ _ h => h) (by kernel_rfl) ?_ HS.out ?_
        rotate_left
        · intro wz hz
          obtain ⟨z0, z1, z2⟩ := hz
          go_simp
          first | done | with_reducible rfl
        refine wpAnyH_ready (rs := [9]) (by kernel_rfl) (by simp) ?_
        refine AllReadyH.cons rfl (fun K hK => ?_) AllReadyH.nil
        go_simp
        go_wp2_with fail
        refine (TS.out _ FD.out).mono ?_; rintro e w5 ⟨xa, xl, xc, rfl, t5, f5⟩; have UF := hide (US.out.fresh FD.out); have F5 := hide (UF.out.fill.put GK.out f5 t5); rw [← NN.out] at F5; have P5 := hide ((UF.out.fill.fresh f5).place k GK.out); have R5 := hide (UF.out.fresh f5).res; have HS' := hide (HS.out.fresh f5); clear HS t5 f5 UF US TS FD; have HS := HS'; clear HS'
        refine hK.out _ _ HS.out (fun _ => ?_)
        clear hK K
        obtain ⟨⟨x0, x1, y0, y1⟩, yf⟩ := P5.out
        have yf0 := yf (k * 2)
        have yf1 := yf (k * 2 + 1)
        clear yf P5
        refine held_take (i := 10) (d := 59) (v := ?_) rfl rfl (by kernel_rfl) (by kernel_rfl) (by kernel_rfl) (fun _ _ _ h => h) (by kernel_rfl) ?_ HS.out ?_
        rotate_left
        · intro wz hz
          obtain ⟨z0, z1, z2⟩ := hz
          go_simp
          first | done | with_reducible rfl
        refine wpAnyH_ready (rs := [11]) (by kernel_rfl) (by simp) ?_
        refine AllReadyH.cons rfl (fun K hK => ?_) AllReadyH.nil
        go_simp
        have R6 := hide (heap_set_other (b' := g) (j := k * 2 + 1) (heap_set_other (b' := g) (j := k * 2) R5.out TV.out.2.2 (.int .i64 nn)) TV.out.2.2 (.slice xa xl xc)); have HS' := hide ((HS.out.set TV.out.2.1 TV.out.1 (k * 2) (.int .i64 nn)).set TV.out.2.1 TV.out.1 (k * 2 + 1) (.slice xa xl xc)); clear HS y0 y1 yf0 yf1 R5; generalize (w5.setCell ⟨g, k * 2, none⟩ (.int .i64 nn)).setCell ⟨g, k * 2 + 1, none⟩ (.slice xa xl xc) = w6 at F5 R6 HS' ⊢; have HS := HS'; clear HS'
        refine hK.out _ _ HS.out (fun _ => ?_)
        clear hK K
        refine wpAnyH_done (by kernel_rfl) ?_ _
        try simp only [Act.put, List.setIfInBounds_toArray, List.set_cons_succ, List.set_cons_zero]
        go_wp2
        go_roundw
        case rel => exact ⟨k + 1, F', E', by omega, rfl, rfl, by go_num, RN.out, F5.out, R6.out⟩
        case measure => simp [intOf]; omega
      · obtain ⟨j, hj⟩ : ∃ j, k = j + 1 := ⟨k - 1, by omega⟩
        rw [show k - 1 = j by omega] at RN'
        obtain ⟨y, g0, g1, gt⟩ := HF.out.tree (by omega) j (by omega)
        obtain ⟨ya, yl, yc, rfl⟩ := gt.lv
        have HH : 2 * (N / 2 ^ (j + 1)) = N / 2 ^ j := HC.out.half (by omega)
        have SR := hide (turn_rng RN'.out HH.symm)
        rw [← hj] at HH SR
        have E2 := RN'.out.2.1
        have TU := hide (turned_any _ (N / 2 ^ j) (N / 2 ^ k) (trW N q j) F E on (halfB (clsB q j) (F / 2)) (halfB (clsB q j) ((E - 1) / 2)) _ (gt.fresh (fresh_box wr #[.int .i64 nn, .slice la ll lc] 45)) HH.symm E2 (fun h => half_bits (by omega)) (fun h => half_bits (by omega)))
        have SRN := hide (show Rng (N / 2 ^ k) (clsB p k) (clsB q k) (turnF (halfB (clsB q j) (F / 2)) F E on) (turnE (halfB (clsB q j) (F / 2)) (halfB (clsB q j) ((E - 1) / 2)) F E on) on by rw [hj]; rw [hj] at SR; exact SR.out)
        have i1 : (0 : Int) < (k : Int) := by omega
        have i3 : (k : Int) - 1 = (j : Int) := by omega
        have i4 : (j : Int) < (c : Int) := by omega
        have i5 : (0 : Int) ≤ (j : Int) := by omega
        have v0 := HF.out.cell
        have v1 := World.block_lt_of_cell? _ _ v0
        have g2 := World.block_lt_of_cell? _ _ g0
        generalize ((N / 2 ^ j : Nat) : Int) = mm at *
        clear gt E2 hk0 RN' HH SR hj
        generalize turnF (halfB (clsB q j) (F / 2)) F E on = F' at *
        generalize turnE (halfB (clsB q j) (F / 2)) (halfB (clsB q j) ((E - 1) / 2)) F E on = E' at *
        go_wp2_with fail
        rw [← HTT.out]
        refine TU.out.mono ?_
        rintro e wz ⟨rfl, fz⟩
        have US := hide (U0.out.fresh fz)
        have RN := SRN
        obtain ⟨l1, l2, _⟩ := RN.out
        have e0 : (0 : Int) ≤ (F' : Int) := by omega
        have e1 : (F' : Int) ≤ (E' : Int) := by omega
        have e2 : (E' : Int) ≤ 65536 := by have := B1.out; omega
        clear v0 v1 g0 g1 g2 l1 l2 U0 TU SRN fz d0 d1
        go_wp2_with fail
        have w0 : IntKind.i64.wrap ((E' : Int) - (F' : Int)) = (E' : Int) - (F' : Int) := by rw [IntKind.wrap_i64]; omega
        have TS := hide (fun w' (k2 : Fresh wz w') => tset_cls nn (.slice la ll lc) (N / 2 ^ k) (trW N p k) (trW N q k) (F' : Int) ((E' : Int) - (F' : Int)) on NN.out (set_rng RN.out) w' (US.out.tr.fresh k2) (by omega))
        have HS : Hid (HeldT V g T c nn (.slice la ll lc) wz.drew) := ⟨US.out.fill.cell, cell_block US.out.tv 0 _ rfl, cell_block US.out.tv 1 _ rfl⟩
        have FD : Hid (Fresh wz wz.drew) := (Fresh.refl _).drew
        have TV := hide (show g ≠ T ∧ g ≠ V ∧ R ≠ g by have h1 := US.out.fill.lt; have h2 := RL.out; have h3 := TL.out; omega)
        refine wp_region_held (S := HeldT V g T c nn (.slice la ll lc)) (by kernel_rfl) ?_
        change wpAnyH _ _ _ _ _ _ _ _ (World.drew _)
        generalize World.drew wz = wd at HS FD ⊢
        refine held_take (i := 0) (d := 49) (v := ?_) rfl rfl (by kernel_rfl) (by kernel_rfl) (by kernel_rfl) (fun _ _ _ h => h) (by kernel_rfl) ?_ HS.out ?_
        rotate_left
        · intro wz hz
          obtain ⟨z0, z1, z2⟩ := hz
          go_simp
          first | done | with_reducible rfl
        refine held_take (i := 1) (d := 50) (v := ?_) rfl rfl (by kernel_rfl) (by kernel_rfl) (by kernel_rfl) (fun _ _ _ h => h) (by kernel_rfl) ?_ HS.out ?_
        rotate_left
        · intro wz hz
          obtain ⟨z0, z1, z2⟩ := hz
          go_simp
          first | done | with_reducible rfl
        refine held_take (i := 2) (d := 51) (v := ?_) rfl rfl (by kernel_rfl) (by kernel_rfl) (by kernel_rfl) (fun _ _ _ h => h) (by kernel_rfl) ?_ HS.out ?_
        rotate_left
        · intro wz hz
          obtain ⟨z0, z1, z2⟩ := hz
          go_simp
          first | done | with_reducible rfl
        refine held_take (i := 3) (d := 52) (v := ?_) rfl rfl (by kernel_rfl) (by kernel_rfl) (by kernel_rfl) (fun _ _ _ h => h) (by kernel_rfl) ?_ HS.out ?_
        rotate_left
        · intro wz hz
          obtain ⟨z0, z1, z2⟩ := hz
          go_simp
          first | done | with_reducible rfl
        refine held_take (i := 4) (d := 53) (v := ?_) rfl rfl (by kernel_rfl) (by kernel_rfl) (by kernel_rfl) (fun _ _ _ h => h) (by kernel_rfl) ?_ HS.out ?_
        rotate_left
        · intro wz hz
          obtain ⟨z0, z1, z2⟩ := hz
          go_simp
          first | done | with_reducible rfl
        refine held_take (i := 5) (d := 54) (v := ?_) rfl rfl (by kernel_rfl) (by kernel_rfl) (by kernel_rfl) (fun _ _ _ h => h) (by kernel_rfl) ?_ HS.out ?_
        rotate_left
        · intro wz hz
          obtain ⟨z0, z1, z2⟩ := hz
          go_simp
          first | done | with_reducible rfl
        refine held_take (i := 6) (d := 55) (v := ?_) rfl rfl (by kernel_rfl) (by kernel_rfl) (by kernel_rfl) (fun _ _ _ h => h) (by kernel_rfl) ?_ HS.out ?_
        rotate_left
        · intro wz hz
          obtain ⟨z0, z1, z2⟩ := hz
          go_simp
          first | done | with_reducible rfl
        refine held_take (i := 7) (d := 56) (v := ?_) rfl rfl (by kernel_rfl) (by kernel_rfl) (by kernel_rfl) (fun _ _ _ h => h) (by kernel_rfl) ?_ HS.out ?_
        rotate_left
        · intro wz hz
          obtain ⟨z0, z1, z2⟩ := hz
          go_simp
          first | done | with_reducible rfl
        refine held_take (i := 8) (d := 57) (v := ?_) rfl rfl (by kernel_rfl) (by kernel_rfl) (by kernel_rfl) (fun _ _ _ h => h) (by kernel_rfl) ?_ HS.out ?_
        rotate_left
        · intro wz hz
          obtain ⟨z0, z1, z2⟩ := hz
          go_simp
          first | done | with_reducible rfl
        refine wpAnyH_ready (rs := [9]) (by kernel_rfl) (by simp) ?_
        refine AllReadyH.cons rfl (fun K hK => ?_) AllReadyH.nil
        go_simp
        go_wp2_with fail
        refine (TS.out _ FD.out).mono ?_; rintro e w5 ⟨xa, xl, xc, rfl, t5, f5⟩; have UF := hide (US.out.fresh FD.out); have F5 := hide (UF.out.fill.put GK.out f5 t5); rw [← NN.out] at F5; have P5 := hide ((UF.out.fill.fresh f5).place k GK.out); have R5 := hide (UF.out.fresh f5).res; have HS' := hide (HS.out.fresh f5); clear HS t5 f5 UF US TS FD; have HS := HS'; clear HS'
        refine hK.out _ _ HS.out (fun _ => ?_)
        clear hK K
        obtain ⟨⟨x0, x1, y0, y1⟩, yf⟩ := P5.out
        have yf0 := yf (k * 2)
        have yf1 := yf (k * 2 + 1)
        clear yf P5
        refine held_take (i := 10) (d := 59) (v := ?_) rfl rfl (by kernel_rfl) (by kernel_rfl) (by kernel_rfl) (fun _ _ _ h => h) (by kernel_rfl) ?_ HS.out ?_
        rotate_left
        · intro wz hz
          obtain ⟨z0, z1, z2⟩ := hz
          go_simp
          first | done | with_reducible rfl
        refine wpAnyH_ready (rs := [11]) (by kernel_rfl) (by simp) ?_
        refine AllReadyH.cons rfl (fun K hK => ?_) AllReadyH.nil
        go_simp
        have R6 := hide (heap_set_other (b' := g) (j := k * 2 + 1) (heap_set_other (b' := g) (j := k * 2) R5.out TV.out.2.2 (.int .i64 nn)) TV.out.2.2 (.slice xa xl xc)); have HS' := hide ((HS.out.set TV.out.2.1 TV.out.1 (k * 2) (.int .i64 nn)).set TV.out.2.1 TV.out.1 (k * 2 + 1) (.slice xa xl xc)); clear HS y0 y1 yf0 yf1 R5; generalize (w5.setCell ⟨g, k * 2, none⟩ (.int .i64 nn)).setCell ⟨g, k * 2 + 1, none⟩ (.slice xa xl xc) = w6 at F5 R6 HS' ⊢; have HS := HS'; clear HS'
        refine hK.out _ _ HS.out (fun _ => ?_)
        clear hK K
        refine wpAnyH_done (by kernel_rfl) ?_ _
        try simp only [Act.put, List.setIfInBounds_toArray, List.set_cons_succ, List.set_cons_zero]
        go_wp2
        go_roundw
        case rel => exact ⟨k + 1, F', E', by omega, rfl, rfl, by go_num, RN.out, F5.out, R6.out⟩
        case measure => simp [intOf]; omega
    · obtain rfl : c = k := by omega
      have SL := hide ((hf.done HC.out).store RL.out.1 (.slice (some ⟨g, 0, none⟩) c c))
      have FR := hide (show Fresh w (wr.setCell ⟨R, 0, none⟩ (.slice (some ⟨g, 0, none⟩) c c)) from fresh_set (FW.out.trans hf.el) RL.out.2 0 _)
      have BE := hide (show (wr.setCell ⟨R, 0, none⟩ (.slice (some ⟨g, 0, none⟩) c c)).heap[R]? = some (.cells #[.slice (some ⟨g, 0, none⟩) c c] 26 (0, 0)) from heap_set_same hres _)
      have v0 := hf.cell
      have r0 := cell_block hres 0 _ rfl
      have r1 := free_block hres 0
      clear hf hres
      go_wp2
      clear v0 r0 r1
      generalize wr.setCell ⟨R, 0, none⟩ (.slice (some ⟨g, 0, none⟩) c c) = W9 at SL FR BE ⊢
      have h0 : W9.cell? ⟨R, 0, none⟩ = some (.slice (some ⟨g, 0, none⟩) c c) := cell_block BE.out 0 _ rfl
      refine bodyPost_ret (by simp [results, Try.results12, go_sem, h0]; try rfl) rfl ?_
      exact ⟨_, rfl, by rw [HQ.out]; exact SL.out.mono FW.out.size, FR.out⟩
end Go.Proofs.Ytpkcihfldmgehaa
