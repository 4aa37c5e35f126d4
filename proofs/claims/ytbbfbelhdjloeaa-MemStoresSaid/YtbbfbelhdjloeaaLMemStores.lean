/- Proved here: hodmanlaw15.MemStores, called with any slice of triples of bytes, returns true: that a byte is the one that was put last, whatever was put elsewhere, follows from promise P15.1. No condition. -/
import Derived.Test.YtbbfbelhdjloeaaMemLaw
import Derived.Test.YtbbfbelhdjloeaaMemBackM
import Derived.Test.YtbbfbelhdjloeaaByteMade
import Derived.Test.YtbbfbelhdjloeaaOpen3
import Derived.Test.YtbbfbelhdjloeaaHeld
import Derived.BigQuiet
namespace Go.Proofs.Ytbbfbelhdjloeaa
open Go.ChangeShapes Go.WideShapes Go.ChangeAt Go.RowKit

/-- bytes that lie off a block -/
def OffB (a : Option Addr) (g : Nat) : Prop := ∀ b o s, a = some ⟨b, o, s⟩ → b ≠ g
theorem BytesIn.off {w : World} {a : Option Addr} {n cap g : Nat} {l : List Int} (h : BytesIn w (.slice a n cap) l) (ho : OffB a g) (j : Nat) (v : Value) : BytesIn (w.setCell ⟨g, j, none⟩ v) (.slice a n cap) l := by
  refine ⟨h.1, ?_⟩
  rcases h.2 with h2 | ⟨b, o, c, e, h3, h4, hc⟩
  · exact .inl h2
  · refine .inr ⟨b, o, c, e, h3, h4, fun i hi => ?_⟩
    simp only [Value.slice.injEq] at e
    rw [World.cell?_setCell_other _ _ _ _ (fun e2 => ho b o none e.1 (by cases e2; rfl))]
    exact hc i hi
theorem set_block {w : World} {g : Nat} {t : TypeId} {X : List Int} (h : w.heap[g]? = some (.cells (yvals X).toArray t (0, 0))) (j : Nat) (z : Int) : (w.setCell ⟨g, j, none⟩ (.int .u8 z)).heap[g]? = some (.cells (yvals (X.set j z)).toArray t (0, 0)) := by
  rw [heap_set_same h]
  simp [yvals, List.map_set]
theorem in_block {w : World} {g : Nat} {t : TypeId} {X : List Int} (h : w.heap[g]? = some (.cells (yvals X).toArray t (0, 0))) (j : Nat) (hj : j < X.length) : w.cell? ⟨g, j, none⟩ = some (.int .u8 (X.getD j 0)) :=
  cell_block h j _ (by have := yvals_get X j hj; simpa using this)
/-- the slice and the row beside it -/
def Twin (w0 wr : World) (ab : Option Addr) (cb g : Nat) (X : List Int) : Prop :=
  X.length = 32 ∧ BytesIn wr (.slice ab 32 cb) X ∧ OffB ab g ∧ wr.heap[g]? = some (.cells (yvals X).toArray 34 (0, 0)) ∧ Fresh w0 wr
theorem OwnY.offB {w : World} {base : Nat} {a : Option Addr} {n cap g : Nat} {l : List Int} (h : OwnY w base (.slice a n cap) l) (hg : g < base) : OffB a g := by
  intro b o s e
  rcases h.shape with ⟨e1, -⟩ | ⟨g', c, e1, hb, -⟩
  · simp only [Value.slice.injEq] at e1
    rw [e1.1] at e; cases e
  · simp only [Value.slice.injEq] at e1
    rw [e1.1] at e
    cases e
    omega
theorem heap_fresh {w w' : World} {g : Nat} {o : Obj} (h : w.heap[g]? = some o) (k : Fresh w w') : w'.heap[g]? = some o := by rw [k.block g (Array.getElem?_eq_some_iff.1 h).1]; exact h

set_option maxRecDepth 100000 in
set_option maxHeartbeats 1000000 in
theorem memStores_walk0 (a : Option Addr) (len cap : Nat) (w : World) (hR : IsTri w a len ∧ len ≤ maxLen) :
    Calls Try.prog 5 #[.slice a len cap] w fun e w' => e = .returned (.bool true) ∧ Fresh w w' := by
  have HR := hide hR.1
  have l0 : (0 : Int) ≤ (len : Int) := by omega
  have lm : (len : Int) ≤ 9223372036854775807 := by have := hR.2; unfold maxLen at this; omega
  clear hR
  by_cases g : 40 < len
  · have g' : (40 : Int) < (len : Int) := by omega
    go_enter Try.func5, Try.ntmps5
    go_wp2_with fail
    refine (begun15_true _).mono ?_
    rintro e w1 ⟨rfl, k1⟩
    have K1 := hide k1
    clear k1
    go_wp2
    go_ret
    exact ⟨rfl, K1.out⟩
  have g' : (len : Int) ≤ 40 := by omega
  clear g
  have MK := fun w => zeros_run 32 (by decide) w
  rw [show ((32 : Nat) : Int) = 32 from rfl] at MK
  go_enter Try.func5, Try.ntmps5
  go_wp2_with fail
  refine (begun15_true _).mono ?_
  rintro e w1 ⟨rfl, k1⟩
  have K1 := hide k1
  clear k1
  go_wp2_with fail
  go_wp2
  obtain ⟨W, hW⟩ : ∃ W, W = (w1.alloc (.cells (madeCells #[.int .u8 0] 32) 5)).alloc (.cells (yvals (List.replicate 32 0)).toArray 34) := ⟨_, rfl⟩
  have O1 := zeros_made 32 (by decide) w1
  have TW := hide (show Twin w W (some ⟨w1.heap.size, 0, none⟩) 32 (w1.heap.size + 1) (List.replicate 32 0) from ⟨by decide, by rw [hW]; exact (O1.fresh (fresh_box _ _ _)).inn (by decide), fun b o s e => by cases e; omega, by
    rw [hW]
    have := heap_alloc_new (w1.alloc (.cells (madeCells #[.int .u8 0] 32) 5)) (.cells (yvals (List.replicate 32 0)).toArray 34)
    simpa using this, by rw [hW]; exact fresh_more (fresh_more K1.out _ _) _ _⟩)
  have GB := hide (show w.heap.size ≤ w1.heap.size + 1 by have := K1.out.size; omega)
  change Code.wp _ _ _ _ ((w1.alloc (.cells (madeCells #[.int .u8 0] 32) 5)).alloc (.cells (yvals (List.replicate 32 0)).toArray 34))
  rw [← hW]
  generalize w1.heap.size = G0 at TW GB
  obtain ⟨G, hG⟩ : ∃ G, G0 + 1 = G := ⟨_, rfl⟩
  rw [hG] at TW GB ⊢
  clear hW O1 K1 MK hG
  go_loopw [3, 5] (fun b i wr => ∃ k ab cb X, k ≤ len ∧ i = .int .i64 ((k : Nat) : Int) ∧ b = .slice ab 32 cb ∧ Twin w wr ab cb G X) (fun _ i _ => (len - intOf i).toNat)
  case atStart => exact ⟨0, _, _, _, Nat.zero_le _, rfl, rfl, TW.out⟩
  case round =>
    obtain ⟨k, ab, cb, X, hk, rfl, rfl, hX, hb, ho, hg, hf⟩ := hrel
    have k0 : (0 : Int) ≤ (k : Int) := by omega
    by_cases gk : k < len
    · have gk' : (k : Int) < (len : Int) := by omega
      have GK := hide (show k + 1 ≤ len by omega)
      have B := hide hb
      have OB := hide ho
      have HG := hide hg
      have HF := hide hf
      obtain ⟨b1, o1, z0, z1, z2, rfl, ⟨c0, y0, y0'⟩, ⟨c1, y1, y1'⟩, ⟨c2, y2, y2'⟩⟩ := HR.out k gk
      have C2 := hide c2
      have d0 := (hf.cell (World.block_lt_of_cell? _ _ c0)).trans c0
      have d1 := (hf.cell (World.block_lt_of_cell? _ _ c1)).trans c1
      clear c0 c1 c2 hb ho hg hf gk hk
      obtain ⟨A, hA, A1⟩ : ∃ A : Nat, z0 % 32 = (A : Int) ∧ A < 32 := ⟨(z0 % 32).toNat, by omega, by omega⟩
      have AL := hide A1
      have a0 : (0 : Int) ≤ (A : Int) := by omega
      have a1 : (A : Int) ≤ 31 := by omega
      have cA : IntKind.i64.wrap (A : Int) = (A : Int) := by rw [IntKind.wrap_i64]; omega
      clear A1
      go_wp2_with fail
      go_quiet (fail)
      generalize hwa : World.drewN wr _ = w5
      have F5 := hide (show Fresh wr w5 from hwa ▸ Fresh.drewN wr _)
      have B5 := hide (B.out.fresh F5.out)
      have G5 := hide (heap_fresh HG.out F5.out)
      have K5 := hide (HF.out.trans F5.out)
      have c2 : w5.cell? ⟨b1, o1 + k * 3 + 2, none⟩ = some (.int .u8 z2) := (K5.out.cell (World.block_lt_of_cell? _ _ C2.out)).trans C2.out
      clear hwa F5 B HG HF C2 d0 d1
      simp only [hA]
      clear hA cA
      by_cases q : z2 % 4 = 0
      · obtain ⟨N, hN, N1⟩ : ∃ N : Nat, z1 % (33 - (A : Int)) = (N : Int) ∧ A + N ≤ 32 := by
          have h1 := Int.emod_nonneg z1 (show 33 - (A : Int) ≠ 0 by omega)
          have h2 := Int.emod_lt_of_pos z1 (show 0 < 33 - (A : Int) by omega)
          exact ⟨(z1 % (33 - (A : Int))).toNat, by omega, by omega⟩
        have NL := hide N1
        have m0 : (0 : Int) ≤ (N : Int) := by omega
        have m1 : (N : Int) ≤ 32 := by omega
        clear N1
        go_wp2_with fail
        have XL := hide hX
        refine (zero_any _ X A N w5 B5.out (by omega) (by omega) (by omega) (by omega)).mono ?_
        rintro e w6 ⟨u, rfl, o6, f6⟩
        simp only [hN]
        rw [show hasN X.length (A : Int) (N : Int) = true from hasN_nat (by rw [XL.out]; exact NL.out)]
        have e6 : zeroV X (A : Int) (N : Int) = layV X A (List.replicate N 0) := zeroV_nat (by rw [XL.out]; exact NL.out)
        rw [e6] at o6
        obtain ⟨ac, cc, rfl⟩ := o6.slice
        have OC := hide (o6.offB (show G < w5.heap.size from (Array.getElem?_eq_some_iff.1 G5.out).1))
        have B6 := hide (o6.inn (by rw [layV_length, XL.out]; decide))
        have G6 := hide (heap_fresh G5.out f6)
        have K6 := hide (K5.out.trans f6)
        rw [show (layV X A (List.replicate N 0)).length = 32 by rw [layV_length, XL.out]] at B6 ⊢
        clear o6 f6 e6 B5 G5 K5 c2 hN hX
        go_wp2
        go_loopw [10] (fun i ws => ∃ j : Nat, j ≤ N ∧ i = .int .i64 (j : Int) ∧ BytesIn ws (.slice ac 32 cc) (layV X A (List.replicate N 0)) ∧ ws.heap[G]? = some (.cells (yvals (layV X A ((List.replicate N 0).take j))).toArray 34 (0, 0)) ∧ Fresh w ws) (fun i _ => (N - intOf i).toNat)
        case atStart => exact ⟨0, Nat.zero_le _, rfl, B6.out, by rw [List.take_zero, layV_none]; exact G6.out, K6.out⟩
        case round =>
          obtain ⟨j, hj, rfl, hb, hg, hf⟩ := hrel
          have j0 : (0 : Int) ≤ (j : Int) := by omega
          by_cases gj : j < N
          · have gj' : (j : Int) < (N : Int) := by omega
            have GJ := hide (show j + 1 ≤ N by omega)
            obtain ⟨D, hD⟩ : ∃ D, A + j = D := ⟨_, rfl⟩
            have hd : (A : Int) + (j : Int) = (D : Int) := by omega
            have dl : (D : Int) < 32 := by have := NL.out; omega
            have d0 : (0 : Int) ≤ (D : Int) := by omega
            have CE := in_block hg D (by rw [layV_length, XL.out]; omega)
            have FR := free_block hg D
            have BO := hide (hb.off OC.out D (.int .u8 0))
            have GS := hide (set_block hg D 0)
            have ST := hide (show (layV X A ((List.replicate N 0).take j)).set D 0 = layV X A ((List.replicate N 0).take (j + 1)) by
              have := layV_step X A (List.replicate N 0) j (by simpa using gj) (by rw [XL.out]; omega)
              rw [hD, show (List.replicate N (0 : Int)).getD j 0 = 0 by simp [List.getD_eq_getElem?_getD, gj]] at this
              exact this)
            have FS := hide (fresh_set hf GB.out D (.int .u8 0))
            generalize (layV X A ((List.replicate N 0).take j)).getD D 0 = old at CE
            clear hb hg hf hD gj hj
            go_wp2
            go_roundw
            case rel => exact ⟨j + 1, GJ.out, by go_num, BO.out, by rw [← ST.out]; exact GS.out, FS.out⟩
            case measure => simp [intOf]; omega
          · obtain rfl : j = N := by omega
            have Y := hide (show layV X A ((List.replicate j 0).take j) = layV X A (List.replicate j 0) by rw [List.take_of_length_le (by simp)])
            rw [Y.out] at hg
            have XM := hide (show (layV X A (List.replicate j 0)).length = 32 by rw [layV_length, XL.out])
            generalize layV X A (List.replicate j 0) = Z at hb hg XM
            go_wp2_with fail
            have HS := hide (show Twin w wr.drew ac cc G Z from ⟨XM.out, hb.fresh (Fresh.refl _).drew, OC.out, heap_fresh hg (Fresh.refl _).drew, hf.trans (Fresh.refl _).drew⟩)
            clear hb hg hf
            refine wp_region_held (S := (fun wz => Twin w wz ac cc G Z)) (by kernel_rfl) ?_
            change wpAnyH _ _ _ _ _ _ _ _ (World.drew _)
            refine held_take (i := 0) (d := 73) (v := ?_) rfl rfl (by kernel_rfl) (by kernel_rfl) (by kernel_rfl) (fun _ _ _ h => h) (by kernel_rfl) ?_ HS.out ?_
            rotate_left
            · intro wz hz
              obtain hz := hz
              go_simp
              first | done | with_reducible rfl
            refine held_take (i := 1) (d := 74) (v := ?_) rfl rfl (by kernel_rfl) (by kernel_rfl) (by kernel_rfl) (fun _ _ _ h => h) (by kernel_rfl) ?_ HS.out ?_
            rotate_left
            · intro wz hz
              obtain hz := hz
              go_simp
              first | done | with_reducible rfl
            refine held_take (i := 2) (d := 75) (v := ?_) rfl rfl (by kernel_rfl) (by kernel_rfl) (by kernel_rfl) (fun _ _ _ h => h) (by kernel_rfl) ?_ HS.out ?_
            rotate_left
            · intro wz hz
              obtain hz := hz
              go_simp
              first | done | with_reducible rfl
            refine held_take (i := 3) (d := 76) (v := ?_) rfl rfl (by kernel_rfl) (by kernel_rfl) (by kernel_rfl) (fun _ _ _ h => h) (by kernel_rfl) ?_ HS.out ?_
            rotate_left
            · intro wz hz
              obtain hz := hz
              go_simp
              first | done | with_reducible rfl
            refine held_take (i := 4) (d := 77) (v := (.string (strOfNums Z))) rfl rfl (by kernel_rfl) (by kernel_rfl) (by kernel_rfl) (fun _ _ _ h => h) (by kernel_rfl) ?_ HS.out ?_
            · intro wz hz
              go_simp
              rw [bytes_str hz.2.1]; rfl
            refine held_take (i := 5) (d := 78) (v := ?_) rfl rfl (by kernel_rfl) (by kernel_rfl) (by kernel_rfl) (fun _ _ _ h => h) (by kernel_rfl) ?_ HS.out ?_
            rotate_left
            · intro wz hz
              obtain hz := hz
              go_simp
              first | done | with_reducible rfl
            refine held_take (i := 6) (d := 79) (v := (.string (strOfNums Z))) rfl rfl (by kernel_rfl) (by kernel_rfl) (by kernel_rfl) (fun _ _ _ h => h) (by kernel_rfl) ?_ HS.out ?_
            · intro wz hz
              go_simp
              rw [bytes_str (bytesIn_lit hz.2.2.2.1 (by simp) hz.1 (by rw [hz.1]; decide))]; rfl
            refine held_take (i := 7) (d := 80) (v := (.bool false)) rfl rfl (by kernel_rfl) (by kernel_rfl) (by kernel_rfl) (fun _ _ _ h => h) (by kernel_rfl) ?_ HS.out ?_
            · intro wz hz
              go_simp
              first | done | simp
            refine held_take (i := 8) (d := 81) (v := ?_) rfl rfl (by kernel_rfl) (by kernel_rfl) (by kernel_rfl) (fun _ _ _ h => h) (by kernel_rfl) ?_ HS.out ?_
            rotate_left
            · intro wz hz
              obtain hz := hz
              go_simp
              first | done | with_reducible rfl
            refine wpAnyH_done (by kernel_rfl) ?_ _
            try simp only [Act.put, List.setIfInBounds_toArray, List.set_cons_succ, List.set_cons_zero]
            go_wp2
            go_roundw
            case rel => exact ⟨k + 1, ac, cc, Z, GK.out, by go_num, rfl, HS.out⟩
            case measure => simp [intOf]; omega
      · have q' : (z2 % 4 == 0) = false := by rw [beq_eq_false_iff_ne]; exact q
        go_wp2_with fail
        have XL := hide hX
        refine (put_any _ X A z1 w5 B5.out (by omega) (by omega)).mono ?_
        rintro e w6 ⟨u, rfl, o6, f6⟩
        rw [show hasY X.length (A : Int) = true from decide_eq_true ⟨by omega, by rw [XL.out]; omega⟩]
        have e6 : putV X (A : Int) z1 = X.set A z1 := by
          unfold putV
          rw [if_pos (show hasY X.length (A : Int) = true from decide_eq_true ⟨by omega, by rw [XL.out]; omega⟩)]
          rfl
        rw [e6] at o6
        obtain ⟨ac, cc, rfl⟩ := o6.slice
        have OC := hide (o6.offB (show G < w5.heap.size from (Array.getElem?_eq_some_iff.1 G5.out).1))
        have B6 := hide (o6.inn (by rw [List.length_set, XL.out]; decide))
        have g6 := heap_fresh G5.out f6
        have G6 := hide g6
        have K6 := hide (K5.out.trans f6)
        rw [show (X.set A z1).length = 32 by rw [List.length_set, XL.out]] at B6 ⊢
        have CE := in_block g6 A (by rw [XL.out]; exact AL.out)
        have FR := free_block g6 A
        generalize X.getD A 0 = old at CE
        have al : (A : Int) < 32 := by omega
        clear o6 f6 g6 e6 B5 G5 K5 c2 hX q
        go_wp2
        have HS := hide (show Twin w (w6.setCell ⟨G, A, none⟩ (.int .u8 z1)).drew ac cc G (X.set A z1) from ⟨by rw [List.length_set, XL.out], (B6.out.off OC.out A (.int .u8 z1)).fresh (Fresh.refl _).drew, OC.out, heap_fresh (set_block G6.out A z1) (Fresh.refl _).drew, (fresh_set K6.out GB.out A (.int .u8 z1)).trans (Fresh.refl _).drew⟩)
        generalize X.set A z1 = Z at HS
        clear B6 G6 K6
        refine wp_region_held (S := (fun wz => Twin w wz ac cc G Z)) (by kernel_rfl) ?_
        change wpAnyH _ _ _ _ _ _ _ _ (World.drew _)
        refine held_take (i := 0) (d := 73) (v := ?_) rfl rfl (by kernel_rfl) (by kernel_rfl) (by kernel_rfl) (fun _ _ _ h => h) (by kernel_rfl) ?_ HS.out ?_
        rotate_left
        · intro wz hz
          obtain hz := hz
          go_simp
          first | done | with_reducible rfl
        refine held_take (i := 1) (d := 74) (v := ?_) rfl rfl (by kernel_rfl) (by kernel_rfl) (by kernel_rfl) (fun _ _ _ h => h) (by kernel_rfl) ?_ HS.out ?_
        rotate_left
        · intro wz hz
          obtain hz := hz
          go_simp
          first | done | with_reducible rfl
        refine held_take (i := 2) (d := 75) (v := ?_) rfl rfl (by kernel_rfl) (by kernel_rfl) (by kernel_rfl) (fun _ _ _ h => h) (by kernel_rfl) ?_ HS.out ?_
        rotate_left
        · intro wz hz
          obtain hz := hz
          go_simp
          first | done | with_reducible rfl
        refine held_take (i := 3) (d := 76) (v := ?_) rfl rfl (by kernel_rfl) (by kernel_rfl) (by kernel_rfl) (fun _ _ _ h => h) (by kernel_rfl) ?_ HS.out ?_
        rotate_left
        · intro wz hz
          obtain hz := hz
          go_simp
          first | done | with_reducible rfl
        refine held_take (i := 4) (d := 77) (v := (.string (strOfNums Z))) rfl rfl (by kernel_rfl) (by kernel_rfl) (by kernel_rfl) (fun _ _ _ h => h) (by kernel_rfl) ?_ HS.out ?_
        · intro wz hz
          go_simp
          rw [bytes_str hz.2.1]; rfl
        refine held_take (i := 5) (d := 78) (v := ?_) rfl rfl (by kernel_rfl) (by kernel_rfl) (by kernel_rfl) (fun _ _ _ h => h) (by kernel_rfl) ?_ HS.out ?_
        rotate_left
        · intro wz hz
          obtain hz := hz
          go_simp
          first | done | with_reducible rfl
        refine held_take (i := 6) (d := 79) (v := (.string (strOfNums Z))) rfl rfl (by kernel_rfl) (by kernel_rfl) (by kernel_rfl) (fun _ _ _ h => h) (by kernel_rfl) ?_ HS.out ?_
        · intro wz hz
          go_simp
          rw [bytes_str (bytesIn_lit hz.2.2.2.1 (by simp) hz.1 (by rw [hz.1]; decide))]; rfl
        refine held_take (i := 7) (d := 80) (v := (.bool false)) rfl rfl (by kernel_rfl) (by kernel_rfl) (by kernel_rfl) (fun _ _ _ h => h) (by kernel_rfl) ?_ HS.out ?_
        · intro wz hz
          go_simp
          first | done | simp
        refine held_take (i := 8) (d := 81) (v := ?_) rfl rfl (by kernel_rfl) (by kernel_rfl) (by kernel_rfl) (fun _ _ _ h => h) (by kernel_rfl) ?_ HS.out ?_
        rotate_left
        · intro wz hz
          obtain hz := hz
          go_simp
          first | done | with_reducible rfl
        refine wpAnyH_done (by kernel_rfl) ?_ _
        try simp only [Act.put, List.setIfInBounds_toArray, List.set_cons_succ, List.set_cons_zero]
        go_wp2
        go_roundw
        case rel => exact ⟨k + 1, ac, cc, Z, GK.out, by go_num, rfl, HS.out⟩
        case measure => simp [intOf]; omega
    · obtain rfl : k = len := by omega
      have F2 := hide hf
      clear hb ho hg hf
      go_wp2
      go_ret
      exact ⟨rfl, F2.out⟩

set_option linter.unusedVariables false
set_option maxRecDepth 100000 in
theorem memStores_lifted (os : Os) (started : os.Started) (H : Type) (enc : TypeId × Value → H) :
    ReturnsInHanded {} Try.checked os 5 .any (Rows.memStoresSpec.pre6 enc Try.prog Try.f5 Rows.memStoresRow.domain false) (Rows.memStoresSpec.post enc Try.prog Try.f5 false true false false) := by
  refine returnsInHanded_of_change (C := Try.checked) own started (by kernel_rfl) Try.func5
    (ChangeSpec.witness6 (enc := enc) (C := Try.checked) false ⟨#[], #[.slice none 0 0], []⟩ 8 (by kernel_rfl) (by kernel_rfl) (by kernel_rfl) (by kernel_rfl)) ?_
  intro W base args ds gs before hval0 hW hcnd _
  have hval : ∀ (j : Nat) t v, Try.f5.params[j]? = some t → args[j]? = some v → Value.okWide Try.prog W .any base t v := hval0
  have hW' := hW
  obtain ⟨p, q, hA0, hV, rfl, hfz, hnd⟩ := hW
  have hA : DataW.TrodAll enc Try.prog W 0 (fun _ => true) true Try.f5.params.toList args.toList ds p := hA0
  rw [Try.params5] at hA hval
  obtain ⟨v0, vs0, d0, ds0, p0, q0, hargs, rfl, rfl, h0, r0⟩ := trodAll_cons hA
  obtain ⟨rfl, rfl, rfl⟩ := trodAll_nil r0
  obtain rfl : args = #[v0] := by cases args; simp_all
  obtain ⟨rfl, rfl⟩ := trodVars_none hV
  have lt0 : ∀ x ∈ p0, x.block < W.heap.size := by obtain ⟨m, hm⟩ := h0; exact DataW.trod_lt m _ _ _ hm
  obtain ⟨a0, len0, cap0, rfl⟩ := okWide_slice Try.underlying33 (hval 0 33 v0 rfl rfl)
  have w0 := isTri_of Try.underlying33 Try.underlying35 Try.underlying5 (by kernel_rfl) (by kernel_rfl) h0
  clear hA0 hval0
  refine (memStores_walk0 a0 len0 cap0 W w0).mono fun e W' ⟨he, hg⟩ => ?_
  subst he
  exact ⟨_, rfl, _, _, _, [], _, [], hW', trodAll_mk1 (shut_bool Try.underlying4 _), (trodAll_cons_mk (Below.trod laidOut (by kernel_rfl) (of_decide_eq_true (by kernel_rfl)) h0 hg lt0) trodAll_mk0), rfl, hg.frame _, fun h => by cases h⟩

theorem memStores_row : Rows.MemStoresSaid :=
  OpenClaim.holds_of_wide 5 Try.f5 rfl rfl rfl rfl rfl rfl rfl ⟨rfl, rfl, rfl, rfl, rfl⟩ rfl rfl rfl rfl rfl (by kernel_rfl) Try.func5 (by kernel_rfl)
    (of_decide_eq_true (by kernel_rfl)) (by unfold Func.isWrapper; first | (rw [if_pos (by decide +kernel)]; kernel_rfl) | (rw [if_neg (by decide +kernel)]; exact ⟨rfl, rfl⟩))
    (fun os started H enc _ => memStores_lifted os started H enc)

theorem memStores_holds : Rows.MemStoresSaid := memStores_row
#print axioms memStores_holds
end Go.Proofs.Ytbbfbelhdjloeaa
