/- What the program's span.Put answers, as a contract. -/
import Derived.Test.YtcakghafjmdkoaaSpanB
import Derived.Test.YtcakghafjmdkoaaSpanC
namespace Go.Proofs.Ytcakghafjmdkoaa
open Go.RowKit

/-- a piece in a block -/
def HeldP (W : World) (n : Nat) (s1 s2 : Int) (w : World) : Prop := w.cell? ⟨n, 0, none⟩ = some (.int .i64 s1) ∧ w.cell? ⟨n, 1, none⟩ = some (.int .i64 s2) ∧ Fresh W w
theorem HeldP.fresh {W : World} {n : Nat} {s1 s2 : Int} {w w' : World} (h : HeldP W n s1 s2 w) (k : Fresh w w') : HeldP W n s1 s2 w' := by
  obtain ⟨a, b, e⟩ := h
  exact ⟨(k.cell (World.block_lt_of_cell? _ _ a)).trans a, (k.cell (World.block_lt_of_cell? _ _ b)).trans b, e.trans k⟩

theorem ahead_to (v : Value) (ps : List Pc) (x r : Int) (hr : ((aheadN ps x : Nat) : Int) = r) (w : World) (h : SpansAt w v ps) :
    Calls Try.prog 24 #[v, .int .i64 x] w fun e w' => e = .returned (.int .i64 r) ∧ w' = w := by
  subst hr
  exact ahead_any v ps x w h
theorem flat3 (A B C : List Pc) : flat (fun i => [A, B, C].getD i []) 3 = A ++ B ++ C := by simp [flat]
/-- a new block of three -/
theorem parts_next (w : World) (c : Array Value) (t : TypeId) {p : World → Prop} (h : ∀ w5, w5.heap[w.heap.size]? = some (.cells c t (0, 0)) → Fresh w w5 → p w5) : p (w.alloc (.cells c t)) :=
  h _ (heap_alloc_new w _) (fresh_box _ _ _)
/-- three parts -/
theorem parts3 {w : World} {g : Nat} {t : TypeId} {V0 V1 V2 : Value} {f0 f1 f2 : List Pc} (hb : w.heap[g]? = some (.cells #[V0, V1, V2] t (0, 0))) (h0 : SpansIn w V0 f0) (h1 : SpansIn w V1 f1) (h2 : SpansIn w V2 f2) :
    PartsAt w g 0 3 (fun i => [V0, V1, V2].getD i undef) (fun i => [f0, f1, f2].getD i []) := by
  intro i hi
  match i, hi with
  | 0, _ => exact ⟨cell_block hb 0 _ rfl, h0⟩
  | 1, _ => exact ⟨cell_block hb 1 _ rfl, h1⟩
  | 2, _ => exact ⟨cell_block hb 2 _ rfl, h2⟩
theorem spansIn_one (w : World) (s1 s2 : Int) (h : In64 (s1, s2)) : SpansIn (w.alloc (.cells #[.int .i64 s1, .int .i64 s2] 25)) (.slice (some ⟨w.heap.size, 0, none⟩) 1 1) [(s1, s2)] := by
  have hb := heap_alloc_new w (.cells #[.int .i64 s1, .int .i64 s2] 25 (0, 0))
  refine spansIn_some (ps := [(s1, s2)]) (by simp) (by simp) (by decide) (fun p hp => by simp at hp; rw [hp]; exact h) fun i hi => ?_
  have hi0 : i = 0 := by simpa using hi
  subst hi0
  exact ⟨cell_block hb 0 _ rfl, cell_block hb 1 _ rfl⟩

set_option maxHeartbeats 1000000 in
theorem put_any (v : Value) (ps : List Pc) (s1 s2 : Int) (w : World) (h : SpansIn w v ps) (hg : Good ps) (hl : ps.length ≤ 1000000) (hin : In64 (s1, s2)) :
    Calls Try.prog 9 #[v, .agg #[.int .i64 s1, .int .i64 s2]] w fun e w' => ∃ u, e = .returned (.tuple #[u, .bool (putB ps (s1, s2))]) ∧ OwnS w' w.heap.size u (putL ps (s1, s2)) ∧ Fresh w w' := by
  obtain ⟨n, hn⟩ : ∃ n, n = w.heap.size := ⟨_, rfl⟩
  obtain ⟨W1, hW1⟩ : ∃ W1, W1 = w.alloc (.cells #[.int .i64 s1, .int .i64 s2] 25) := ⟨_, rfl⟩
  have FW := hide (show Fresh w W1 by subst hW1; exact fresh_box _ _ _)
  have BB : W1.heap[n]? = some (.cells #[.int .i64 s1, .int .i64 s2] 25 (0, 0)) := by subst hW1; rw [hn]; exact heap_alloc_new w _
  have s0 : W1.cell? ⟨n, 0, none⟩ = some (.int .i64 s1) := cell_block BB 0 _ rfl
  have s01 : W1.cell? ⟨n, 1, none⟩ = some (.int .i64 s2) := cell_block BB 1 _ rfl
  have H0 := hide (show HeldP W1 n s1 s2 W1 from ⟨s0, s01, Fresh.refl _⟩)
  have H1 := hide (h.fresh FW.out)
  have HN := hide hn
  have HW := hide hW1
  have HG := hide hg
  have NB : Hid (w.heap.size ≤ W1.heap.size) := FW.out.size
  clear BB hn hW1 h hg
  cases ha : aloneB (s1, s2) with
  | false =>
    have HB := hide (show putB ps (s1, s2) = false by unfold putB; rw [ha]; rfl)
    have HL := hide (putL_no HB.out)
    have HA := hide (fun w => alone_to (s1, s2) false ha w hin)
    clear ha
    go_enter Try.func9, Try.ntmps9
    go_wp2_with fail
    rw [← HW.out, ← HN.out]
    refine (HA.out W1).mono ?_
    rintro e w1 ⟨rfl, hw1⟩
    have F1 := hide (show Fresh W1 w1 by rw [hw1]; exact fresh_box _ _ _)
    clear hw1
    go_wp2_with fail
    refine (copied_any v ps w1 (H1.out.fresh F1.out)).mono ?_
    rintro e w2 ⟨u, rfl, o2, f2⟩
    have O2 := hide (o2.mono (Nat.le_trans NB.out F1.out.size))
    have F2 := hide (FW.out.trans (F1.out.trans f2))
    clear o2 f2
    go_wp2
    go_ret2
    exact ⟨u, by rw [HB.out]; rfl, by rw [HL.out]; exact O2.out, F2.out⟩
  | true =>
    have HA := hide (fun w => alone_to (s1, s2) true ha w hin)
    have OA := hide (fun w (h : SpansAt w v ps) => overAny_any v ps s1 s2 w h HG.out ha)
    cases ho : ps.any fun x => overB x (s1, s2) with
    | true =>
      have HB := hide (show putB ps (s1, s2) = false by unfold putB; rw [ha, ho]; rfl)
      have HL := hide (putL_no HB.out)
      have HO := hide ho
      clear ha ho
      go_enter Try.func9, Try.ntmps9
      go_wp2_with fail
      rw [← HW.out, ← HN.out]
      refine (HA.out W1).mono ?_
      rintro e w1 ⟨rfl, hw1⟩
      have F1 := hide (show Fresh W1 w1 by rw [hw1]; exact fresh_box _ _ _)
      obtain ⟨y0, y1, _⟩ := H0.out.fresh F1.out
      clear hw1 s0 s01
      go_wp2_with fail
      refine (OA.out w1 (H1.out.fresh F1.out).1).mono ?_
      rintro e w2 ⟨rfl, k2⟩
      rw [HO.out]
      have F2 := hide (F1.out.trans k2)
      clear k2 y0 y1
      go_wp2_with fail
      refine (copied_any v ps w2 (H1.out.fresh F2.out)).mono ?_
      rintro e w3 ⟨u, rfl, o2, f2⟩
      have O2 := hide (o2.mono (Nat.le_trans NB.out F2.out.size))
      have F3 := hide (FW.out.trans (F2.out.trans f2))
      clear o2 f2
      go_wp2
      go_ret2
      exact ⟨u, by rw [HB.out]; rfl, by rw [HL.out]; exact O2.out, F3.out⟩
    | false =>
      have HB := hide (show putB ps (s1, s2) = true by unfold putB; rw [ha, ho]; rfl)
      have HL := hide (putL_yes HB.out)
      have HO := hide ho
      have HK := hide (ahead_le ps s1)
      clear ha ho
      rcases H1.out.cases with ⟨rfl, rfl⟩ | ⟨b, o, cap, rfl, h1, h2, h3, h4, hc⟩
      · have AA := hide (fun w (h : SpansAt w (.slice none 0 0) []) => ahead_to _ [] s1 0 rfl w h)
        have PT0 := hide (spansIn_nil W1)
        have PT2 := hide (spansIn_nil W1)
        have HI := hide (show insV [] (s1, s2) = [] ++ [(s1, s2)] ++ [] from rfl)
        go_enter Try.func9, Try.ntmps9
        go_wp2_with fail
        rw [← HW.out, ← HN.out]
        refine (HA.out W1).mono ?_
        rintro e w1 ⟨rfl, hw1⟩
        have F1 := hide (show Fresh W1 w1 by rw [hw1]; exact fresh_box _ _ _)
        obtain ⟨y0, y1, _⟩ := H0.out.fresh F1.out
        clear hw1 s0 s01
        go_wp2_with fail
        refine (OA.out w1 (H1.out.fresh F1.out).1).mono ?_
        rintro e w2 ⟨rfl, k2'⟩
        rw [HO.out]
        have F2 := hide (F1.out.trans k2')
        clear k2' y0 y1
        obtain ⟨y0, y1, _⟩ := H0.out.fresh F2.out
        go_wp2_with fail
        refine (AA.out w2 (H1.out.fresh F2.out).1).mono ?_
        rintro e w3 ⟨rfl, rfl⟩
        have HS : Hid (HeldP W1 n s1 s2 w3.drew) := ⟨y0, y1, F2.out.drew⟩
        go_wp2_with fail
        refine wp_region_held (S := HeldP W1 n s1 s2) (by kernel_rfl) ?_
        change wpAnyH _ _ _ _ _ _ _ _ (World.drew _)
        refine held_take (i := 0) (d := 21) (v := ?_) rfl rfl (by kernel_rfl) (by kernel_rfl) (by kernel_rfl) (fun _ _ _ h => h) (by rfl) ?_ HS.out ?_
        rotate_left
        · intro wz hz
          obtain ⟨z0, z1, -⟩ := hz
          go_simp
          first | done | with_reducible rfl
        refine held_take (i := 1) (d := 22) (v := ?_) rfl rfl (by kernel_rfl) (by kernel_rfl) (by kernel_rfl) (fun _ _ _ h => h) (by rfl) ?_ HS.out ?_
        rotate_left
        · intro wz hz
          obtain ⟨z0, z1, -⟩ := hz
          go_simp
          first | done | with_reducible rfl
        refine held_take (i := 2) (d := 23) (v := ?_) rfl rfl (by kernel_rfl) (by kernel_rfl) (by kernel_rfl) (fun _ _ _ h => h) (by rfl) ?_ HS.out ?_
        rotate_left
        · intro wz hz
          obtain ⟨z0, z1, -⟩ := hz
          go_simp
          first | done | with_reducible rfl
        refine held_take (i := 3) (d := 24) (v := ?_) rfl rfl (by kernel_rfl) (by kernel_rfl) (by kernel_rfl) (fun _ _ _ h => h) (by rfl) ?_ HS.out ?_
        rotate_left
        · intro wz hz
          obtain ⟨z0, z1, -⟩ := hz
          go_simp
          first | done | with_reducible rfl
        refine held_take (i := 5) (d := 26) (v := ?_) rfl rfl (by kernel_rfl) (by kernel_rfl) (by kernel_rfl) (fun _ _ _ h => h) (by rfl) ?_ HS.out ?_
        rotate_left
        · intro wz hz
          obtain ⟨z0, z1, -⟩ := hz
          go_simp
          first | done | with_reducible rfl
        refine held_take (i := 6) (d := 27) (v := ?_) rfl rfl (by kernel_rfl) (by kernel_rfl) (by kernel_rfl) (fun _ _ _ h => h) (by rfl) ?_ HS.out ?_
        rotate_left
        · intro wz hz
          obtain ⟨z0, z1, -⟩ := hz
          go_simp
          first | done | with_reducible rfl
        refine held_take (i := 7) (d := 28) (v := ?_) rfl rfl (by kernel_rfl) (by kernel_rfl) (by kernel_rfl) (fun _ _ _ h => h) (by rfl) ?_ HS.out ?_
        rotate_left
        · intro wz hz
          obtain ⟨z0, z1, -⟩ := hz
          go_simp
          first | done | with_reducible rfl
        refine wpAnyH_ready (rs := [4]) (by kernel_rfl) (by simp) ?_
        refine AllReadyH.cons rfl (fun K hK => ?_) AllReadyH.nil
        go_simp
        obtain ⟨w4, hw4⟩ : ∃ w4, w4 = (w3.alloc (.cells #[.int .i64 s1, .int .i64 s2] 25)).drew := ⟨_, rfl⟩; have P1 := hide (show SpansIn w4 (.slice (some ⟨w3.heap.size, 0, none⟩) 1 1) [(s1, s2)] by rw [hw4]; exact (spansIn_one w3 s1 s2 hin).fresh (Fresh.refl _).drew); have K4 := hide (show Fresh w3.drew w4 by rw [hw4]; exact fresh_box w3.drew _ _); rw [← hw4]; clear hw4; have HS' := hide (HS.out.fresh K4.out); clear HS K4; have HS := HS'; clear HS'
        refine hK.out _ _ HS.out (fun _ => ?_)
        clear hK K
        refine wpAnyH_ready (rs := [8]) (by kernel_rfl) (by simp) ?_
        refine AllReadyH.cons rfl (fun K hK => ?_) AllReadyH.nil
        go_simp
        refine parts_next _ _ _ ?_; intro w5 hb5 k5'; have PA := hide (parts3 hb5 ((PT0.out.fresh HS.out.2.2).fresh k5') (P1.out.fresh k5') ((PT2.out.fresh HS.out.2.2).fresh k5')); have HS' := hide (HS.out.fresh k5'); clear HS k5' hb5 P1; have HS := HS'; clear HS'
        refine hK.out _ _ HS.out (fun _ => ?_)
        clear hK K
        refine wpAnyH_ready (rs := [9]) (by kernel_rfl) (by simp) ?_
        refine AllReadyH.cons rfl (fun K hK => ?_) AllReadyH.nil
        go_simp
        go_wp2_with fail
        refine (concat_any _ 0 3 3 _ _ w5 (by decide) PA.out).mono ?_; rintro e w6 ⟨u, rfl, o6, f6⟩; have O6 := hide (o6.mono (Nat.le_trans NB.out HS.out.2.2.size)); have HS' := hide (HS.out.fresh f6); clear HS o6 f6; have HS := HS'; clear HS'
        refine hK.out _ _ HS.out (fun _ => ?_)
        clear hK K
        refine held_take (i := 10) (d := 4) (v := ?_) rfl rfl (by kernel_rfl) (by kernel_rfl) (by kernel_rfl) (fun _ _ _ h => h) (by rfl) ?_ HS.out ?_
        rotate_left
        · intro wz hz
          obtain ⟨z0, z1, -⟩ := hz
          go_simp
          first | done | with_reducible rfl
        refine held_take (i := 11) (d := 5) (v := ?_) rfl rfl (by kernel_rfl) (by kernel_rfl) (by kernel_rfl) (fun _ _ _ h => h) (by rfl) ?_ HS.out ?_
        rotate_left
        · intro wz hz
          obtain ⟨z0, z1, -⟩ := hz
          go_simp
          first | done | with_reducible rfl
        refine wpAnyH_done (by kernel_rfl) ?_ _
        simp only [Act.put, List.setIfInBounds_toArray, List.set_cons_succ, List.set_cons_zero]
        go_wp2
        go_ret2
        exact ⟨u, by rw [HB.out]; rfl, by rw [HL.out, HI.out, ← flat3]; exact O6.out, FW.out.trans HS.out.2.2⟩
      · obtain ⟨k, hk⟩ : ∃ k, k = aheadN ps s1 := ⟨_, rfl⟩
        have HKE := hide hk
        have AA := hide (fun w (h : SpansAt w (.slice (some ⟨b, o, none⟩) ps.length cap) ps) => ahead_any _ ps s1 w h)
        have k2 : k ≤ ps.length := by rw [hk]; exact HK.out
        have k3 : (0 : Int) ≤ (k : Int) := by omega
        have k4 : (k : Int) ≤ (ps.length : Int) := by omega
        have k5 : (ps.length : Int) ≤ (cap : Int) := by omega
        have k8 : k ≤ cap := by omega
        have PT0 := hide (H1.out.take k2)
        obtain ⟨A, hA⟩ : ∃ A, (if cap = k then some (⟨b, o, none⟩ : Addr) else some ⟨b, o + k * 2, none⟩) = A := ⟨_, rfl⟩
        have PT2 := hide (H1.out.dropIf k2)
        rw [hA] at PT2
        have HI := hide (show insV ps (s1, s2) = ps.take k ++ [(s1, s2)] ++ ps.drop k by rw [hk]; simp [insV])
        have k6 : (cap : Int) ≤ 9223372036854775807 := by omega
        have k7 : (ps.length : Int) ≤ 1000000 := by omega
        clear hc h1 h2 h3 h4 hk
        go_enter Try.func9, Try.ntmps9
        go_wp2_with fail
        rw [← HW.out, ← HN.out]
        refine (HA.out W1).mono ?_
        rintro e w1 ⟨rfl, hw1⟩
        have F1 := hide (show Fresh W1 w1 by rw [hw1]; exact fresh_box _ _ _)
        obtain ⟨y0, y1, _⟩ := H0.out.fresh F1.out
        clear hw1 s0 s01
        go_wp2_with fail
        refine (OA.out w1 (H1.out.fresh F1.out).1).mono ?_
        rintro e w2 ⟨rfl, k2'⟩
        rw [HO.out]
        have F2 := hide (F1.out.trans k2')
        clear k2' y0 y1
        obtain ⟨y0, y1, _⟩ := H0.out.fresh F2.out
        go_wp2_with fail
        refine (AA.out w2 (H1.out.fresh F2.out).1).mono ?_
        rintro e w3 ⟨rfl, rfl⟩
        rw [← HKE.out]
        have HS : Hid (HeldP W1 n s1 s2 w3.drew) := ⟨y0, y1, F2.out.drew⟩
        go_wp2_with fail
        refine wp_region_held (S := HeldP W1 n s1 s2) (by kernel_rfl) ?_
        change wpAnyH _ _ _ _ _ _ _ _ (World.drew _)
        refine held_take (i := 0) (d := 21) (v := ?_) rfl rfl (by kernel_rfl) (by kernel_rfl) (by kernel_rfl) (fun _ _ _ h => h) (by rfl) ?_ HS.out ?_
        rotate_left
        · intro wz hz
          obtain ⟨z0, z1, -⟩ := hz
          go_simp
          first | done | with_reducible rfl
        refine held_take (i := 1) (d := 22) (v := ?_) rfl rfl (by kernel_rfl) (by kernel_rfl) (by kernel_rfl) (fun _ _ _ h => h) (by rfl) ?_ HS.out ?_
        rotate_left
        · intro wz hz
          obtain ⟨z0, z1, -⟩ := hz
          go_simp
          first | done | with_reducible rfl
        refine held_take (i := 2) (d := 23) (v := ?_) rfl rfl (by kernel_rfl) (by kernel_rfl) (by kernel_rfl) (fun _ _ _ h => h) (by rfl) ?_ HS.out ?_
        rotate_left
        · intro wz hz
          obtain ⟨z0, z1, -⟩ := hz
          go_simp
          first | done | with_reducible rfl
        refine held_take (i := 3) (d := 24) (v := ?_) rfl rfl (by kernel_rfl) (by kernel_rfl) (by kernel_rfl) (fun _ _ _ h => h) (by rfl) ?_ HS.out ?_
        rotate_left
        · intro wz hz
          obtain ⟨z0, z1, -⟩ := hz
          go_simp
          first | done | with_reducible rfl
        refine held_take (i := 5) (d := 26) (v := ?_) rfl rfl (by kernel_rfl) (by kernel_rfl) (by kernel_rfl) (fun _ _ _ h => h) (by rfl) ?_ HS.out ?_
        rotate_left
        · intro wz hz
          obtain ⟨z0, z1, -⟩ := hz
          go_simp
          first | done | with_reducible rfl
        refine held_take (i := 6) (d := 27) (v := ?_) rfl rfl (by kernel_rfl) (by kernel_rfl) (by kernel_rfl) (fun _ _ _ h => h) (by rfl) ?_ HS.out ?_
        rotate_left
        · intro wz hz
          obtain ⟨z0, z1, -⟩ := hz
          go_simp
          first | done | with_reducible rfl
        refine held_take (i := 7) (d := 28) (v := ?_) rfl rfl (by kernel_rfl) (by kernel_rfl) (by kernel_rfl) (fun _ _ _ h => h) (by rfl) ?_ HS.out ?_
        rotate_left
        · intro wz hz
          obtain ⟨z0, z1, -⟩ := hz
          go_simp
          first | done | with_reducible rfl
        refine wpAnyH_ready (rs := [4]) (by kernel_rfl) (by simp) ?_
        refine AllReadyH.cons rfl (fun K hK => ?_) AllReadyH.nil
        go_simp
        obtain ⟨w4, hw4⟩ : ∃ w4, w4 = (w3.alloc (.cells #[.int .i64 s1, .int .i64 s2] 25)).drew := ⟨_, rfl⟩; have P1 := hide (show SpansIn w4 (.slice (some ⟨w3.heap.size, 0, none⟩) 1 1) [(s1, s2)] by rw [hw4]; exact (spansIn_one w3 s1 s2 hin).fresh (Fresh.refl _).drew); have K4 := hide (show Fresh w3.drew w4 by rw [hw4]; exact fresh_box w3.drew _ _); rw [← hw4]; clear hw4; have HS' := hide (HS.out.fresh K4.out); clear HS K4; have HS := HS'; clear HS'
        refine hK.out _ _ HS.out (fun _ => ?_)
        clear hK K
        refine wpAnyH_ready (rs := [8]) (by kernel_rfl) (by simp) ?_
        refine AllReadyH.cons rfl (fun K hK => ?_) AllReadyH.nil
        go_simp
        refine parts_next _ _ _ ?_; intro w5 hb5 k5'; have PA := hide (parts3 hb5 ((PT0.out.fresh HS.out.2.2).fresh k5') (P1.out.fresh k5') ((PT2.out.fresh HS.out.2.2).fresh k5')); have HS' := hide (HS.out.fresh k5'); clear HS k5' hb5 P1; have HS := HS'; clear HS'
        refine hK.out _ _ HS.out (fun _ => ?_)
        clear hK K
        refine wpAnyH_ready (rs := [9]) (by kernel_rfl) (by simp) ?_
        refine AllReadyH.cons rfl (fun K hK => ?_) AllReadyH.nil
        go_simp
        go_wp2_with fail
        refine (concat_any _ 0 3 3 _ _ w5 (by decide) PA.out).mono ?_; rintro e w6 ⟨u, rfl, o6, f6⟩; have O6 := hide (o6.mono (Nat.le_trans NB.out HS.out.2.2.size)); have HS' := hide (HS.out.fresh f6); clear HS o6 f6; have HS := HS'; clear HS'
        refine hK.out _ _ HS.out (fun _ => ?_)
        clear hK K
        refine held_take (i := 10) (d := 4) (v := ?_) rfl rfl (by kernel_rfl) (by kernel_rfl) (by kernel_rfl) (fun _ _ _ h => h) (by rfl) ?_ HS.out ?_
        rotate_left
        · intro wz hz
          obtain ⟨z0, z1, -⟩ := hz
          go_simp
          first | done | with_reducible rfl
        refine held_take (i := 11) (d := 5) (v := ?_) rfl rfl (by kernel_rfl) (by kernel_rfl) (by kernel_rfl) (fun _ _ _ h => h) (by rfl) ?_ HS.out ?_
        rotate_left
        · intro wz hz
          obtain ⟨z0, z1, -⟩ := hz
          go_simp
          first | done | with_reducible rfl
        refine wpAnyH_done (by kernel_rfl) ?_ _
        simp only [Act.put, List.setIfInBounds_toArray, List.set_cons_succ, List.set_cons_zero]
        go_wp2
        go_ret2
        exact ⟨u, by rw [HB.out]; rfl, by rw [HL.out, HI.out, ← flat3]; exact O6.out, FW.out.trans HS.out.2.2⟩
end Go.Proofs.Ytcakghafjmdkoaa
