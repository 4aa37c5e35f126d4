/- Marks that are made of bytes (hodmanlaw10.Marks): some that rise. -/
import Derived.Test.YtkcmhdedabcabaaRefMarkB
import Derived.Test.YtkcmhdedabcabaaOpen2
namespace Go.Proofs.Ytkcmhdedabcabaa
open Go.RowKit

/-- marks that were made: so many at most, rising, small -/
structure Made (n : Nat) (ps : List Pc) : Prop where
  rise : Rise ps
  len : ps.length ≤ n
  low : ∀ p ∈ ps, 0 ≤ p.1 ∧ p.1 ≤ 65535 ∧ 0 ≤ p.2 ∧ p.2 ≤ 65535
theorem made_nil : Made 0 [] := ⟨rise_nil, Nat.le_refl _, fun p hp => by simp at hp⟩
theorem Made.in64 {n : Nat} {ps : List Pc} (h : Made n ps) : ∀ p ∈ ps, In64 p := fun p hp => by have := h.low p hp; unfold In64; omega
theorem Made.put {n : Nat} {ps : List Pc} (h : Made n ps) (m : Pc) (hm : 0 ≤ m.1 ∧ m.1 ≤ 65535 ∧ 0 ≤ m.2 ∧ m.2 ≤ 65535) : Made (n + 1) (putM ps m) := by
  refine ⟨rise_put h.rise m, ?_, fun p hp => ?_⟩
  · have := putM_length ps m
    have := h.len
    split at * <;> omega
  · rcases (mem_put h.rise).1 hp with rfl | ⟨hp, _⟩
    · exact hm
    · exact h.low p hp
theorem duo_fresh {w w' : World} {a : Option Addr} {len : Nat} (h : IsDuo w a len) (k : Fresh w w') : IsDuo w' a len := by
  intro i hi
  obtain ⟨b, o, z0, z1, e, ⟨h0, b0⟩, ⟨h1, b1⟩⟩ := h i hi
  exact ⟨b, o, z0, z1, e, ⟨(k.cell (World.block_lt_of_cell? _ _ h0)).trans h0, b0⟩, ⟨(k.cell (World.block_lt_of_cell? _ _ h1)).trans h1, b1⟩⟩
/-- two bytes that are read -/
def HeldY (W : World) (b o : Nat) (z0 z1 : Int) (w : World) : Prop := w.cell? ⟨b, o, none⟩ = some (.int .u8 z0) ∧ w.cell? ⟨b, o + 1, none⟩ = some (.int .u8 z1) ∧ Fresh W w
theorem HeldY.fresh {W : World} {b o : Nat} {z0 z1 : Int} {w w' : World} (h : HeldY W b o z0 z1 w) (k : Fresh w w') : HeldY W b o z0 z1 w' :=
  ⟨(k.cell (World.block_lt_of_cell? _ _ h.1)).trans h.1, (k.cell (World.block_lt_of_cell? _ _ h.2.1)).trans h.2.1, h.2.2.trans k⟩

set_option maxHeartbeats 1000000 in
theorem marks_any (a : Option Addr) (len cap : Nat) (w : World) (h : IsDuo w a len) (hl : len ≤ 1000) :
    Calls Try.prog 7 #[.slice a len cap] w fun e w' => ∃ u ps, e = .returned u ∧ OwnM w' w.heap.size u ps ∧ Made len ps ∧ Fresh w w' := by
  have HD := hide h
  have l0 : (0 : Int) ≤ (len : Int) := by omega
  have l1 : (len : Int) ≤ 1000 := by omega
  have LE := hide hl
  clear h hl
  go_enter Try.func7, Try.ntmps7
  go_wp2
  go_loopw [3, 4] (fun ov iv wr => ∃ (j : Nat) (ps : List Pc), j ≤ len ∧ iv = .int .i64 (j : Int) ∧ OwnM wr w.heap.size ov ps ∧ Made j ps ∧ Fresh w wr) (fun _ i _ => (len - intOf i).toNat)
  case atStart => exact ⟨0, [], Nat.zero_le _, rfl, OwnM.nil _ _, made_nil, Fresh.refl _⟩
  case round =>
    obtain ⟨j, ps, hj, rfl, ho, hm, hf⟩ := hrel
    have O := hide ho
    have M := hide hm
    have F := hide hf
    have j0 : (0 : Int) ≤ (j : Int) := by omega
    by_cases g : j < len
    · have g' : (j : Int) < (len : Int) := by omega
      obtain ⟨b, o, z0, z1, rfl, ⟨h0, b0, b0'⟩, ⟨h1, b1, b1'⟩⟩ := duo_fresh HD.out hf j g
      obtain ⟨oa, oc, rfl⟩ := ho.shape
      have HS : Hid (HeldY wr b (o + j * 2) z0 z1 wr.drew) := HeldY.fresh ⟨h0, h1, Fresh.refl _⟩ (Fresh.refl wr).drew
      have RP := hide (fun w' (k : Fresh wr w') (x y : Int) => rputm_any _ ps x y w' ((O.out.at (by have := M.out.len; have := LE.out; omega) M.out.in64).fresh k) M.out.rise (by have := M.out.len; have := LE.out; omega))
      obtain ⟨X, hX⟩ : ∃ X, X = z0 % 40 := ⟨_, rfl⟩
      obtain ⟨Y, hY⟩ : ∃ Y, Y = z1 % 9 := ⟨_, rfl⟩
      have MP := hide (M.out.put (X, Y) (by simp only; omega))
      have e0 : IntKind.i64.wrap (z0.tmod 40) = X := by rw [Int.tmod_eq_emod_of_nonneg b0, IntKind.wrap_i64]; omega
      have e1 : IntKind.i64.wrap (z1.tmod 9) = Y := by rw [Int.tmod_eq_emod_of_nonneg b1, IntKind.wrap_i64]; omega
      clear hX hY
      clear ho hm hf h0 h1
      go_wp2_with fail
      refine wp_region_held (S := HeldY wr b (o + j * 2) z0 z1) (by kernel_rfl) ?_
      change wpAnyH _ _ _ _ _ _ _ _ (World.drew _)
      generalize World.drew wr = wd at HS ⊢
      refine held_take (i := 0) (d := 11) (v := ?_) rfl rfl (by kernel_rfl) (by kernel_rfl) (by kernel_rfl) (fun _ _ _ h => h) (by kernel_rfl) ?_ HS.out ?_
      rotate_left
      · intro wz hz
        obtain ⟨y0, y1, -⟩ := hz
        go_simp
        first | done | with_reducible rfl
      refine held_take (i := 1) (d := 12) (v := ?_) rfl rfl (by kernel_rfl) (by kernel_rfl) (by kernel_rfl) (fun _ _ _ h => h) (by kernel_rfl) ?_ HS.out ?_
      rotate_left
      · intro wz hz
        obtain ⟨y0, y1, -⟩ := hz
        go_simp
        first | done | with_reducible rfl
      refine held_take (i := 2) (d := 13) (v := ?_) rfl rfl (by kernel_rfl) (by kernel_rfl) (by kernel_rfl) (fun _ _ _ h => h) (by kernel_rfl) ?_ HS.out ?_
      rotate_left
      · intro wz hz
        obtain ⟨y0, y1, -⟩ := hz
        go_simp
        first | done | with_reducible rfl
      refine held_take (i := 3) (d := 14) (v := ?_) rfl rfl (by kernel_rfl) (by kernel_rfl) (by kernel_rfl) (fun _ _ _ h => h) (by kernel_rfl) ?_ HS.out ?_
      rotate_left
      · intro wz hz
        obtain ⟨y0, y1, -⟩ := hz
        go_simp
        first | done | with_reducible rfl
      refine held_take (i := 4) (d := 15) (v := ?_) rfl rfl (by kernel_rfl) (by kernel_rfl) (by kernel_rfl) (fun _ _ _ h => h) (by kernel_rfl) ?_ HS.out ?_
      rotate_left
      · intro wz hz
        obtain ⟨y0, y1, -⟩ := hz
        go_simp
        first | done | with_reducible rfl
      refine held_take (i := 5) (d := 16) (v := ?_) rfl rfl (by kernel_rfl) (by kernel_rfl) (by kernel_rfl) (fun _ _ _ h => h) (by kernel_rfl) ?_ HS.out ?_
      rotate_left
      · intro wz hz
        obtain ⟨y0, y1, -⟩ := hz
        go_simp
        first | done | with_reducible rfl
      refine held_take (i := 6) (d := 17) (v := ?_) rfl rfl (by kernel_rfl) (by kernel_rfl) (by kernel_rfl) (fun _ _ _ h => h) (by kernel_rfl) ?_ HS.out ?_
      rotate_left
      · intro wz hz
        obtain ⟨y0, y1, -⟩ := hz
        go_simp
        first | done | with_reducible rfl
      refine held_take (i := 7) (d := 18) (v := ?_) rfl rfl (by kernel_rfl) (by kernel_rfl) (by kernel_rfl) (fun _ _ _ h => h) (by kernel_rfl) ?_ HS.out ?_
      rotate_left
      · intro wz hz
        obtain ⟨y0, y1, -⟩ := hz
        go_simp
        first | done | with_reducible rfl
      refine held_take (i := 8) (d := 19) (v := ?_) rfl rfl (by kernel_rfl) (by kernel_rfl) (by kernel_rfl) (fun _ _ _ h => h) (by kernel_rfl) ?_ HS.out ?_
      rotate_left
      · intro wz hz
        obtain ⟨y0, y1, -⟩ := hz
        go_simp
        first | done | with_reducible rfl
      refine held_take (i := 9) (d := 20) (v := ?_) rfl rfl (by kernel_rfl) (by kernel_rfl) (by kernel_rfl) (fun _ _ _ h => h) (by kernel_rfl) ?_ HS.out ?_
      rotate_left
      · intro wz hz
        obtain ⟨y0, y1, -⟩ := hz
        go_simp
        first | done | with_reducible rfl
      refine held_take (i := 10) (d := 21) (v := ?_) rfl rfl (by kernel_rfl) (by kernel_rfl) (by kernel_rfl) (fun _ _ _ h => h) (by kernel_rfl) ?_ HS.out ?_
      rotate_left
      · intro wz hz
        obtain ⟨y0, y1, -⟩ := hz
        go_simp
        first | done | with_reducible rfl
      refine held_take (i := 11) (d := 22) (v := ?_) rfl rfl (by kernel_rfl) (by kernel_rfl) (by kernel_rfl) (fun _ _ _ h => h) (by kernel_rfl) ?_ HS.out ?_
      rotate_left
      · intro wz hz
        obtain ⟨y0, y1, -⟩ := hz
        go_simp
        first | done | with_reducible rfl
      refine held_take (i := 12) (d := 23) (v := ?_) rfl rfl (by kernel_rfl) (by kernel_rfl) (by kernel_rfl) (fun _ _ _ h => h) (by kernel_rfl) ?_ HS.out ?_
      rotate_left
      · intro wz hz
        obtain ⟨y0, y1, -⟩ := hz
        go_simp
        first | done | with_reducible rfl
      refine held_take (i := 13) (d := 24) (v := ?_) rfl rfl (by kernel_rfl) (by kernel_rfl) (by kernel_rfl) (fun _ _ _ h => h) (by kernel_rfl) ?_ HS.out ?_
      rotate_left
      · intro wz hz
        obtain ⟨y0, y1, -⟩ := hz
        go_simp
        first | done | with_reducible rfl
      refine held_take (i := 14) (d := 25) (v := ?_) rfl rfl (by kernel_rfl) (by kernel_rfl) (by kernel_rfl) (fun _ _ _ h => h) (by kernel_rfl) ?_ HS.out ?_
      rotate_left
      · intro wz hz
        obtain ⟨y0, y1, -⟩ := hz
        go_simp
        first | done | with_reducible rfl
      refine held_take (i := 15) (d := 26) (v := ?_) rfl rfl (by kernel_rfl) (by kernel_rfl) (by kernel_rfl) (fun _ _ _ h => h) (by kernel_rfl) ?_ HS.out ?_
      rotate_left
      · intro wz hz
        obtain ⟨y0, y1, -⟩ := hz
        go_simp
        first | done | with_reducible rfl
      refine wpAnyH_ready (rs := [16]) (by kernel_rfl) (by simp) ?_
      refine AllReadyH.cons rfl (fun K hK => ?_) AllReadyH.nil
      go_simp
      go_wp2_with fail
      refine (RP.out _ HS.out.2.2 X Y).mono ?_; rintro e w2 ⟨u, rfl, o2, f2⟩; have O2 := hide (o2.mono (Nat.le_trans F.out.size HS.out.2.2.size)); have F2 := hide (F.out.trans (HS.out.2.2.trans f2)); have HS' := hide (HS.out.fresh f2); clear HS o2 f2; have HS := HS'; clear HS'
      refine hK.out _ _ HS.out (fun _ => ?_)
      clear hK K
      refine held_take (i := 17) (d := 3) (v := ?_) rfl rfl (by kernel_rfl) (by kernel_rfl) (by kernel_rfl) (fun _ _ _ h => h) (by kernel_rfl) ?_ HS.out ?_
      rotate_left
      · intro wz hz
        obtain ⟨y0, y1, -⟩ := hz
        go_simp
        first | done | with_reducible rfl
      refine wpAnyH_done (by kernel_rfl) ?_ _
      try simp only [Act.put, List.setIfInBounds_toArray, List.set_cons_succ, List.set_cons_zero]
      go_wp2
      go_roundw
      case rel => exact ⟨j + 1, _, by omega, by go_num, O2.out, MP.out, F2.out⟩
      case measure => simp [intOf]; omega
    · obtain rfl : len = j := by omega
      clear ho hm hf
      go_wp2
      go_ret
      exact ⟨_, ps, rfl, O.out, M.out, F.out⟩
end Go.Proofs.Ytkcmhdedabcabaa
