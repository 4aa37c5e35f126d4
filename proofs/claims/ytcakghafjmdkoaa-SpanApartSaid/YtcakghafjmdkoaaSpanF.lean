/- What the program's span.Cut answers, as a contract. -/
import Derived.Test.YtcakghafjmdkoaaSpanD
import Derived.Test.YtcakghafjmdkoaaSpanE
namespace Go.Proofs.Ytcakghafjmdkoaa
open Go.RowKit Go.Maps

theorem wrap_next {i : Nat} (h : (i : Int) + 1 ≤ 9223372036854775807) : IntKind.i64.wrap ((i : Int) + 1) = ((i + 1 : Nat) : Int) := by
  have : IntKind.i64.wrap ((i : Int) + 1) = (i : Int) + 1 := by rw [IntKind.wrap_i64]; omega
  rw [this]; omega
/-- what Cut is told -/
def cutE (u : Value) (ps : List Pc) (a : Int) : Ending := .returned (.tuple #[u, .agg #[.int .i64 (cutP ps a).1, .int .i64 (cutP ps a).2], .bool (cutB ps a)])
/-- the result's own block, ahead of a store -/
structure Res (w : World) (R : Nat) (w' : World) : Prop where
  blk : w'.heap[R]? = some (.cells #[.int .i64 0, .int .i64 0] 25 (0, 0))
  el : Fresh w w'
  ge : w.heap.size ≤ R
theorem Res.lt {w : World} {R : Nat} {w1 : World} (h : Res w R w1) : R < w1.heap.size := (Array.getElem?_eq_some_iff.1 h.blk).1
theorem Res.stored {w : World} {R : Nat} {w1 : World} (h : Res w R w1) (a b : Int) : ((w1.setCell ⟨R, 0, none⟩ (.int .i64 a)).setCell ⟨R, 1, none⟩ (.int .i64 b)).heap[R]? = some (.cells #[.int .i64 a, .int .i64 b] 25 (0, 0)) ∧ Fresh w ((w1.setCell ⟨R, 0, none⟩ (.int .i64 a)).setCell ⟨R, 1, none⟩ (.int .i64 b)) :=
  ⟨two_cells h.blk _ _, fresh_set (fresh_set h.el h.ge 0 _) h.ge 1 _⟩
theorem Res.fresh {w : World} {R : Nat} {w1 w2 : World} (h : Res w R w1) (k : Fresh w1 w2) : Res w R w2 :=
  ⟨by rw [k.block R (Array.getElem?_eq_some_iff.1 h.blk).1]; exact h.blk, h.el.trans k, h.ge⟩
theorem Res.cells {w : World} {R : Nat} {w1 : World} (h : Res w R w1) : w1.cell? ⟨R, 0, none⟩ = some (.int .i64 0) ∧ w1.cell? ⟨R, 1, none⟩ = some (.int .i64 0) ∧ w1.frozen? ⟨R, 0, none⟩ = false ∧ w1.frozen? ⟨R, 1, none⟩ = false :=
  ⟨cell_block h.blk 0 _ rfl, cell_block h.blk 1 _ rfl, free_block h.blk 0, free_block h.blk 1⟩

/-- a piece of what is handed over -/
def HeldC (W : World) (b o : Nat) (p1 p2 : Int) (w : World) : Prop := w.cell? ⟨b, o, none⟩ = some (.int .i64 p1) ∧ w.cell? ⟨b, o + 1, none⟩ = some (.int .i64 p2) ∧ Fresh W w
theorem HeldC.fresh {W : World} {b o : Nat} {p1 p2 : Int} {w w' : World} (h : HeldC W b o p1 p2 w) (k : Fresh w w') : HeldC W b o p1 p2 w' := by
  obtain ⟨a, b, e⟩ := h
  exact ⟨(k.cell (World.block_lt_of_cell? _ _ a)).trans a, (k.cell (World.block_lt_of_cell? _ _ b)).trans b, e.trans k⟩
theorem parts2 {w : World} {g : Nat} {t : TypeId} {V0 V1 : Value} {f0 f1 : List Pc} (hb : w.heap[g]? = some (.cells #[V0, V1] t (0, 0))) (h0 : SpansIn w V0 f0) (h1 : SpansIn w V1 f1) :
    PartsAt w g 0 2 (fun i => [V0, V1].getD i undef) (fun i => [f0, f1].getD i []) := by
  intro i hi
  match i, hi with
  | 0, _ => exact ⟨cell_block hb 0 _ rfl, h0⟩
  | 1, _ => exact ⟨cell_block hb 1 _ rfl, h1⟩
theorem flat2 (A B : List Pc) : flat (fun i => [A, B].getD i []) 2 = A ++ B := by simp [flat]

set_option maxHeartbeats 1000000 in
theorem cut_any (v : Value) (ps : List Pc) (x : Int) (w : World) (h : SpansIn w v ps) (hv : Val ps) (hl : ps.length ≤ 1000000) (x1 : -9223372036854775808 ≤ x) (x2 : x ≤ 9223372036854775807) :
    Calls Try.prog 11 #[v, .int .i64 x] w fun e w' => ∃ u, e = cutE u ps x ∧ OwnS w' w.heap.size u (cutL ps x) ∧ Fresh w w' := by
  obtain ⟨R, hR⟩ : ∃ R, R = w.heap.size := ⟨_, rfl⟩
  obtain ⟨W1, hW1⟩ : ∃ W1, W1 = w.alloc (.cells #[.int .i64 0, .int .i64 0] 25) := ⟨_, rfl⟩
  have R1 := hide (show Res w R W1 from ⟨by subst hW1; rw [hR]; exact heap_alloc_new w _, by subst hW1; exact fresh_box _ _ _, by rw [hR]; exact Nat.le_refl _⟩)
  have HR := hide hR
  have HW := hide hW1
  have H1 := hide (h.fresh R1.out.el)
  have HH := hide h
  have HV := hide hv
  have HI := hide h.1.in64
  have HK := hide (kl_of x1 x2)
  have zi := zeroInt
  clear hR hW1 h hv
  by_cases hx : ∃ i, i < ps.length ∧ (nth ps i).1 = x
  · obtain ⟨i, hi, hxi⟩ := hx
    have DS := hide (Dm_some ps HI.out HV.out i hi ps.length hi (Nat.le_refl _))
    rw [hxi] at DS
    have CK := hide (cut_val HV.out hi hxi)
    have CB := hide (show cutB ps x = true by unfold cutB; rw [CK.out]; simpa using hi)
    have CP := hide (show cutP ps x = nth ps i by unfold cutP; rw [CK.out])
    have CL := hide (show cutL ps x = ps.take i ++ ps.drop (i + 1) by unfold cutL; rw [CK.out]; exact erase_eq i)
    rcases HH.out.cases with ⟨_, rfl⟩ | ⟨b, o, cap, rfl, h1, h2, h3, h4, hc⟩
    · simp at hi
    · obtain ⟨c0, c1⟩ := hc i hi
      have PT0 := hide (H1.out.take (k := i) (Nat.le_of_lt hi))
      have PT1 := hide (H1.out.dropIf (k := i + 1) hi)
      obtain ⟨A, hA⟩ : ∃ A, (if cap = i + 1 then some (⟨b, o, none⟩ : Addr) else some ⟨b, o + (i + 1) * 2, none⟩) = A := ⟨_, rfl⟩
      rw [hA] at PT1
      generalize nth ps i = p at *
      obtain ⟨p1, p2⟩ := p
      simp only at c0 c1 hxi
      have C0 := hide (show HeldC w b (o + i * 2) p1 p2 w from ⟨c0, c1, Fresh.refl _⟩)
      have i1 : (0 : Int) ≤ (i : Int) := by omega
      have i2 : (i : Int) < (ps.length : Int) := by omega
      have i3 : (ps.length : Int) ≤ (cap : Int) := by omega
      have i4 : (cap : Int) ≤ 9223372036854775807 := by omega
      have i5 : (ps.length : Int) ≤ 1000000 := by omega
      have i6 : i ≤ cap := by omega
      have i7 : i + 1 ≤ ps.length := by omega
      have i9 : (0 : Int) ≤ (i : Int) + 1 := by omega
      have i10 : (i : Int) + 1 ≤ (ps.length : Int) := by omega
      have i8 : IntKind.i64.wrap ((i : Int) + 1) = ((i + 1 : Nat) : Int) := wrap_next (by omega)
      clear hc c0 c1 h1 h2 h3 h4 hxi
      go_enter Try.func11, Try.ntmps11
      go_wp2_with fail
      rw [← HW.out, ← HR.out]
      refine (places_any _ ps W1 H1.out.1).mono ?_
      rintro e w1 ⟨rfl, o1, f1⟩
      have O1 := hide o1
      have F1 := hide f1
      clear o1 f1
      go_wp2_with (first | (at_lookup; refine wpList_lookup_own_ok_int _ rfl _ _ 52 rfl 55 3 .i64 startLaw Try.underlying52 Try.underlying3 (zeroInt _) W1.heap.size ps.length _ rfl O1.out _ _ rfl HK.out ?_; intro c hat hwc; rw [DS.out.1]; have hc : c = (i : Int) := (by rw [DS.out.2] at hat; simpa using hat.symm); clear hat hwc; subst hc) | fail)
      have HS : Hid (HeldC w b (o + i * 2) p1 p2 w1.drew) := C0.out.fresh ((R1.out.el.trans F1.out).drew)
      have RS : Hid (Res w R w1.drew) := (R1.out.fresh F1.out).fresh (Fresh.refl _).drew
      have FD : Hid (Fresh W1 w1.drew) := F1.out.drew
      refine wp_region_held (S := HeldC w b (o + i * 2) p1 p2) (by kernel_rfl) ?_
      change wpAnyH _ _ _ _ _ _ _ _ (World.drew _)
      generalize World.drew w1 = wd at HS RS FD ⊢
      clear F1 O1
      refine held_take (i := 0) (d := 22) (v := ?_) rfl rfl (by kernel_rfl) (by kernel_rfl) (by kernel_rfl) (fun _ _ _ h => h) (by rfl) ?_ HS.out ?_
      rotate_left
      · intro wz hz
        obtain ⟨z0, z1, -⟩ := hz
        go_simp
        first | done | with_reducible rfl
      refine held_take (i := 1) (d := 23) (v := ?_) rfl rfl (by kernel_rfl) (by kernel_rfl) (by kernel_rfl) (fun _ _ _ h => h) (by rfl) ?_ HS.out ?_
      rotate_left
      · intro wz hz
        obtain ⟨z0, z1, -⟩ := hz
        go_simp
        first | done | with_reducible rfl
      refine held_take (i := 2) (d := 24) (v := ?_) rfl rfl (by kernel_rfl) (by kernel_rfl) (by kernel_rfl) (fun _ _ _ h => h) (by rfl) ?_ HS.out ?_
      rotate_left
      · intro wz hz
        obtain ⟨z0, z1, -⟩ := hz
        go_simp
        first | done | with_reducible rfl
      refine held_take (i := 3) (d := 25) (v := ?_) rfl rfl (by kernel_rfl) (by kernel_rfl) (by kernel_rfl) (fun _ _ _ h => h) (by rfl) ?_ HS.out ?_
      rotate_left
      · intro wz hz
        obtain ⟨z0, z1, -⟩ := hz
        go_simp
        first | done | with_reducible rfl
      refine held_take (i := 4) (d := 26) (v := ?_) rfl rfl (by kernel_rfl) (by kernel_rfl) (by kernel_rfl) (fun _ _ _ h => h) (by rfl) ?_ HS.out ?_
      rotate_left
      · intro wz hz
        obtain ⟨z0, z1, -⟩ := hz
        go_simp
        first | done | with_reducible rfl
      refine held_take (i := 5) (d := 27) (v := ?_) rfl rfl (by kernel_rfl) (by kernel_rfl) (by kernel_rfl) (fun _ _ _ h => h) (by rfl) ?_ HS.out ?_
      rotate_left
      · intro wz hz
        obtain ⟨z0, z1, -⟩ := hz
        go_simp
        first | done | with_reducible rfl
      refine held_take (i := 6) (d := 28) (v := ?_) rfl rfl (by kernel_rfl) (by kernel_rfl) (by kernel_rfl) (fun _ _ _ h => h) (by rfl) ?_ HS.out ?_
      rotate_left
      · intro wz hz
        obtain ⟨z0, z1, -⟩ := hz
        go_simp
        first | done | with_reducible rfl
      refine held_take (i := 9) (d := 31) (v := ?_) rfl rfl (by kernel_rfl) (by kernel_rfl) (by kernel_rfl) (fun _ _ _ h => h) (by rfl) ?_ HS.out ?_
      rotate_left
      · intro wz hz
        obtain ⟨z0, z1, -⟩ := hz
        go_simp
        first | done | with_reducible rfl
      refine held_take (i := 10) (d := 32) (v := ?_) rfl rfl (by kernel_rfl) (by kernel_rfl) (by kernel_rfl) (fun _ _ _ h => h) (by rfl) ?_ HS.out ?_
      rotate_left
      · intro wz hz
        obtain ⟨z0, z1, -⟩ := hz
        go_simp
        first | done | with_reducible rfl
      refine held_take (i := 11) (d := 33) (v := ?_) rfl rfl (by kernel_rfl) (by kernel_rfl) (by kernel_rfl) (fun _ _ _ h => h) (by rfl) ?_ HS.out ?_
      rotate_left
      · intro wz hz
        obtain ⟨z0, z1, -⟩ := hz
        go_simp
        first | done | with_reducible rfl
      refine held_take (i := 12) (d := 34) (v := ?_) rfl rfl (by kernel_rfl) (by kernel_rfl) (by kernel_rfl) (fun _ _ _ h => h) (by rfl) ?_ HS.out ?_
      rotate_left
      · intro wz hz
        obtain ⟨z0, z1, -⟩ := hz
        go_simp
        first | done | with_reducible rfl
      refine wpAnyH_ready (rs := [7]) (by kernel_rfl) (by simp) ?_
      refine AllReadyH.cons rfl (fun K hK => ?_) AllReadyH.nil
      go_simp
      refine parts_next _ _ _ ?_; intro w5 hb5 k5; have PA := hide (parts2 hb5 (PT0.out.fresh (FD.out.trans k5)) (PT1.out.fresh (FD.out.trans k5))); have HS' := hide (HS.out.fresh k5); have RS' := hide (RS.out.fresh k5); clear HS RS k5 hb5; have HS := HS'; have RS := RS'; clear HS' RS'
      refine hK.out _ _ HS.out (fun _ => ?_)
      clear hK K
      refine wpAnyH_ready (rs := [8]) (by kernel_rfl) (by simp) ?_
      refine AllReadyH.cons rfl (fun K hK => ?_) AllReadyH.nil
      go_simp
      go_wp2_with fail
      refine (concat_any _ 0 2 2 _ _ w5 (by decide) PA.out).mono ?_; rintro e w6 ⟨u, rfl, o6, f6⟩; have O6 := hide o6; have LT := hide RS.out.lt; have LE := hide RS.out.el.size; have HS' := hide (HS.out.fresh f6); have RS' := hide (RS.out.fresh f6); clear HS RS o6 f6; have HS := HS'; have RS := RS'; clear HS' RS'
      refine hK.out _ _ HS.out (fun _ => ?_)
      clear hK K
      obtain ⟨r0, r1, r2, r3⟩ := RS.out.cells
      refine held_take (i := 13) (d := 4) (v := ?_) rfl rfl (by kernel_rfl) (by kernel_rfl) (by kernel_rfl) (fun _ _ _ h => h) (by rfl) ?_ HS.out ?_
      rotate_left
      · intro wz hz
        obtain ⟨z0, z1, -⟩ := hz
        go_simp
        first | done | with_reducible rfl
      refine wpAnyH_ready (rs := [14]) (by kernel_rfl) (by simp) ?_
      refine AllReadyH.cons rfl (fun K hK => ?_) AllReadyH.nil
      go_simp
      have S3 := hide (RS.out.stored p1 p2); have O3 := hide (((O6.out.setCell LT.out 0 (.int .i64 p1)).setCell LT.out 1 (.int .i64 p2)).mono LE.out); have HS' := hide (C0.out.fresh S3.out.2); clear r0 r1 r2 r3 RS O6 LT LE HS; generalize World.setCell _ ⟨R, 1, none⟩ _ = W at S3 O3 HS' ⊢; have HS := HS'; clear HS'
      refine hK.out _ _ HS.out (fun _ => ?_)
      clear hK K
      refine held_take (i := 15) (d := 6) (v := ?_) rfl rfl (by kernel_rfl) (by kernel_rfl) (by kernel_rfl) (fun _ _ _ h => h) (by rfl) ?_ HS.out ?_
      rotate_left
      · intro wz hz
        obtain ⟨z0, z1, -⟩ := hz
        go_simp
        first | done | with_reducible rfl
      refine wpAnyH_done (by kernel_rfl) ?_ _
      simp only [Act.put, List.setIfInBounds_toArray, List.set_cons_succ, List.set_cons_zero]
      go_wp2
      have h0 : W.cell? ⟨R, 0, none⟩ = some (.int .i64 p1) := cell_block S3.out.1 0 _ rfl
      have h1 : W.cell? ⟨R, 1, none⟩ = some (.int .i64 p2) := cell_block S3.out.1 1 _ rfl
      refine bodyPost_ret (by simp [results, Try.results11, go_sem, h0, h1]; try rfl) rfl ?_
      exact ⟨u, by unfold cutE; rw [CB.out, CP.out], by rw [CL.out, ← flat2]; exact O3.out, S3.out.2⟩
  · have hno : ∀ t, t < ps.length → (nth ps t).1 ≠ x := fun t ht e => hx ⟨t, ht, e⟩
    have DN := hide (Dm_none ps HI.out x x1 x2 ps.length hno)
    have CK := hide (cut_none hno)
    have CB := hide (show cutB ps x = false by unfold cutB; rw [CK.out]; simp)
    have CP := hide (show cutP ps x = (0, 0) by unfold cutP; rw [CK.out]; show ps.getD ps.length (0, 0) = _; simp)
    have CL := hide (show cutL ps x = ps by unfold cutL; rw [CK.out]; exact erase_all)
    clear hx hno
    go_enter Try.func11, Try.ntmps11
    go_wp2_with fail
    rw [← HW.out, ← HR.out]
    refine (places_any v ps W1 H1.out.1).mono ?_
    rintro e w1 ⟨rfl, o1, f1⟩
    have O1 := hide o1
    have F1 := hide f1
    clear o1 f1
    go_wp2_with (first | (at_lookup; refine wpList_lookup_own_ok_int _ rfl _ _ 52 rfl 55 3 .i64 startLaw Try.underlying52 Try.underlying3 (zeroInt _) W1.heap.size ps.length _ rfl O1.out _ _ rfl HK.out ?_; intro c hat hwc; rw [DN.out]; clear hat hwc) | fail)
    refine (copied_any v ps w1 (H1.out.fresh F1.out)).mono ?_
    rintro e w2 ⟨u, rfl, o2, f2⟩
    have O2 := hide o2
    have LT := hide (Nat.lt_of_lt_of_le R1.out.lt F1.out.size)
    have LE := hide (Nat.le_trans R1.out.el.size F1.out.size)
    have R2 := hide ((R1.out.fresh F1.out).fresh f2)
    obtain ⟨r0, r1, r2, r3⟩ := R2.out.cells
    clear o2 f2
    go_wp2
    have S3 := hide (R2.out.stored 0 0)
    have O3 := hide (((O2.out.setCell LT.out 0 (.int .i64 0)).setCell LT.out 1 (.int .i64 0)).mono LE.out)
    clear r0 r1 r2 r3 R2 O2
    generalize World.setCell _ ⟨R, 1, none⟩ _ = W at S3 O3 ⊢
    have h0 : W.cell? ⟨R, 0, none⟩ = some (.int .i64 0) := cell_block S3.out.1 0 _ rfl
    have h1 : W.cell? ⟨R, 1, none⟩ = some (.int .i64 0) := cell_block S3.out.1 1 _ rfl
    refine bodyPost_ret (by simp [results, Try.results11, go_sem, h0, h1]; try rfl) rfl ?_
    exact ⟨u, by unfold cutE; rw [CB.out, CP.out], by rw [CL.out]; exact O3.out, S3.out.2⟩
end Go.Proofs.Ytcakghafjmdkoaa
