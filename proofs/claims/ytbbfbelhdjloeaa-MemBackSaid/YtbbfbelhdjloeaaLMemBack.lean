/- Proved here: hodmanlaw15.MemBack, called with any slice of bytes and any two bytes, returns true: that what was moved away and back, apart, is as it was follows from promise P15.1. No condition. -/
import Derived.Test.YtbbfbelhdjloeaaMemLaw
import Derived.Test.YtbbfbelhdjloeaaByteZeros
import Derived.Test.YtbbfbelhdjloeaaMemBackM
import Derived.Test.YtbbfbelhdjloeaaByteCut
import Derived.Test.YtbbfbelhdjloeaaHeld
import Derived.Test.YtbbfbelhdjloeaaByteOpen
namespace Go.Proofs.Ytbbfbelhdjloeaa
open Go.ChangeShapes Go.WideShapes Go.ChangeAt Go.RowKit

/-- what is made by appending to an empty slice that is written out -/
theorem grown_lit (w w1 : World) (hg : (w.alloc (.cells #[] 5)).grownBy w1 (some w.heap.size)) : Fresh w w1 := (fresh_box w _ _).grown hg (by simp) fun k hk => by cases hk; exact Nat.le_refl _

set_option maxRecDepth 100000 in
set_option maxHeartbeats 1000000 in
theorem memBack_walk0 (a : Option Addr) (len cap : Nat) (zs : List Int) (x : Int) (x0 : 0 ≤ x) (x1 : x ≤ 255) (y : Int) (y0 : 0 ≤ y) (y1 : y ≤ 255) (w : World) (hR : IsRow .u8 w a len cap zs) :
    Calls Try.prog 7 #[.slice a len cap, .int .u8 x, .int .u8 y] w fun e w' => e = .returned (.bool true) ∧ Fresh w w' := by
  have l0 : (0 : Int) ≤ (len : Int) := by omega
  have lm := row_le hR
  by_cases g : 50 < len
  · have g' : (50 : Int) < (len : Int) := by omega
    clear hR
    go_enter Try.func7, Try.ntmps7
    go_wp2_with fail
    refine (begun15_true _).mono ?_
    rintro e w1 ⟨rfl, k1⟩
    have K1 := hide k1
    clear k1
    go_wp2
    go_ret
    exact ⟨rfl, K1.out⟩
  have g' : (len : Int) ≤ 50 := by omega
  obtain ⟨l, hl, hb, -⟩ := bytesIn_of hR (by omega)
  have HB := hide hb
  have HL := hide hl
  clear hR hb hl g
  obtain ⟨F, hF, F1⟩ : ∃ F : Nat, x % ((len : Int) + 1) = (F : Int) ∧ F ≤ len := by
    have h1 := Int.emod_nonneg x (show (len : Int) + 1 ≠ 0 by omega)
    have h2 := Int.emod_lt_of_pos x (show 0 < (len : Int) + 1 by omega)
    exact ⟨(x % ((len : Int) + 1)).toNat, by omega, by omega⟩
  obtain ⟨K, hK, K0⟩ : ∃ K : Nat, y % ((len : Int) - (F : Int) + 1) = (K : Int) ∧ F + K ≤ len := by
    have h1 := Int.emod_nonneg y (show (len : Int) - (F : Int) + 1 ≠ 0 by omega)
    have h2 := Int.emod_lt_of_pos y (show 0 < (len : Int) - (F : Int) + 1 by omega)
    exact ⟨(y % ((len : Int) - (F : Int) + 1)).toNat, by omega, by omega⟩
  obtain ⟨E, hE⟩ : ∃ E, len + F = E := ⟨_, rfl⟩
  have HE := hide hE
  have HK := hide K0
  have e1 : (len : Int) + (F : Int) = (E : Int) := by omega
  have f0 : (0 : Int) ≤ (F : Int) := by omega
  have f1 : (F : Int) ≤ (len : Int) := by omega
  have k0 : (0 : Int) ≤ (K : Int) := by omega
  have k1 : (K : Int) ≤ 50 := by omega
  have e0 : (0 : Int) ≤ (E : Int) := by omega
  have e2 : (E : Int) ≤ 100 := by omega
  clear hE K0 F1
  go_enter Try.func7, Try.ntmps7
  go_wp2_with fail
  refine (begun15_true _).mono ?_
  rintro e w1 ⟨rfl, k1⟩
  have K1 := hide k1
  have B1 := hide (HB.out.fresh k1)
  have B1' := hide (B1.out.fresh (fresh_box w1 #[] 5))
  clear k1 HB
  go_wp2_with (first | (at_builtin; refine wpList_app_bytes rfl _ _ rfl w1.heap.size (.slice (some ⟨w1.heap.size, 0, none⟩) 0 0) _ [] l rfl (ownY_lit0 _) rfl B1'.out (by have := B1.out.1; simp; omega) (by simp) ?_; intro v2 w2 hown hgrow hloc; clear hloc; have O2 := hide hown; have F2 := hide (grown_lit _ _ hgrow); clear hown hgrow) | (at_builtin; refine wpList_app_noughts rfl _ _ rfl w1.heap.size v2 l len rfl O2.out rfl (by rw [HL.out]; omega) F2.out.size ?_; intro v3 w3 hown hgrow; have O3 := hide hown; have F3 := hide (F2.out.grown hgrow F2.out.size (fun k hk => O2.out.block k hk)); clear hown hgrow))
  have b3 : BytesIn w3 v3 (bothV l) := by have := O3.out.inn (by rw [List.length_append, HL.out, List.length_replicate]; omega); unfold bothV; rw [HL.out]; exact this
  have K3 := hide (K1.out.trans F3.out)
  have B3 := hide (B1.out.fresh F3.out)
  clear O2 F2 O3 F3 B1 B1' K1
  obtain ⟨av, cv, rfl, -, -⟩ := b3.shape
  have V3 := hide b3
  rw [bothV_length, HL.out] at V3 ⊢
  clear b3
  refine (ymove_to _ _ _ F E K true w3 V3.out (by omega) (by omega) (by omega) (by omega) (by omega) (by omega) rfl (by unfold mayMove; rw [bothV_length, HL.out, hasN_nat (by have := HK.out; omega), hasN_nat (by have := HK.out; have := HE.out; omega)]; rfl)).mono ?_
  rintro e w4 ⟨u1, rfl, b4, f4⟩
  simp only [hF, hK]
  have L1 := hide (show (moveV (bothV l) F E K).length = len + len by rw [moveV_length, bothV_length, HL.out])
  have B4 := hide b4
  have K4 := hide (K3.out.trans f4)
  have C4 := hide (B3.out.fresh f4)
  obtain ⟨X1, hX1⟩ : ∃ X1, moveV (bothV l) F E K = X1 := ⟨_, rfl⟩
  rw [hX1] at L1 B4
  have HX1 := hide hX1
  clear b4 f4 K3 B3 V3 hX1
  go_wp2_with fail
  refine (yzero_to _ _ _ F K true w4 B4.out (by omega) (by omega) (by omega) (by omega) rfl (by rw [L1.out, hasN_nat (by have := HK.out; omega)])).mono ?_
  rintro e w5 ⟨u2, rfl, b5, f5⟩
  have L2 := hide (show (zeroV X1 F K).length = len + len by rw [zeroV_length, L1.out])
  have B5 := hide b5
  have K5 := hide (K4.out.trans f5)
  have C5 := hide (C4.out.fresh f5)
  obtain ⟨X2, hX2⟩ : ∃ X2, zeroV X1 F K = X2 := ⟨_, rfl⟩
  rw [hX2] at L2 B5
  have HX2 := hide hX2
  clear b5 f5 K4 B4 C4 L1 hX2
  go_wp2_with fail
  refine (ymove_to _ _ _ E F K true w5 B5.out (by omega) (by omega) (by omega) (by omega) (by omega) (by omega) rfl (by unfold mayMove; rw [L2.out, hasN_nat (by have := HK.out; have := HE.out; omega), hasN_nat (by have := HK.out; omega)]; rfl)).mono ?_
  rintro e w6 ⟨u3, rfl, b6, f6⟩
  have HX3 := hide (show moveV X2 E F K = backV l F K by unfold backV; rw [HL.out, HE.out, HX1.out, HX2.out])
  rw [HX3.out] at b6
  have L3 := hide (show (backV l F K).length = len + len by rw [backV_length, HL.out])
  have P1 := hide (show partV (backV l F K) 0 len = l by have := @back_low l F K (by rw [HL.out]; exact HK.out); rw [HL.out] at this; exact this)
  have P2 := hide (show partV (backV l F K) E K = partV l F K by have := @back_high l F K (by rw [HL.out]; exact HK.out); rw [HL.out, HE.out] at this; exact this)
  obtain ⟨az, cz, rfl, hz1, hz2⟩ := b6.shape
  have B6 := hide b6
  have K6 := hide (K5.out.trans f6)
  have C6 := hide (C5.out.fresh f6)
  rw [L3.out] at B6 hz1 ⊢
  generalize backV l F K = Z at B6 L3 P1 P2
  clear b6 f6 K5 B5 C5 L2 HX1 HX2 HX3
  go_wp2_with fail
  obtain ⟨G, hG⟩ : ∃ G, E + K = G := ⟨_, rfl⟩
  obtain ⟨H, hH⟩ : ∃ H, F + K = H := ⟨_, rfl⟩
  have hlc : len ≤ cap := by
    obtain ⟨_, _, e, h, -⟩ := C6.out.shape
    simp only [Value.slice.injEq] at e
    rw [e.2.2, e.2.1]; exact h
  have q1 : len ≤ cz := by omega
  have q2 : G ≤ cz := by have := HK.out; have := HE.out; omega
  have q3 : E ≤ G := by omega
  have q4 : H ≤ cap := by have := HK.out; omega
  have q5 : F ≤ H := by omega
  have GE := hide (show G - E = K by omega)
  have HF := hide (show H - F = K by omega)
  have GL := hide (show G ≤ Z.length by rw [L3.out]; have := HK.out; have := HE.out; omega)
  have HLL := hide (show H ≤ l.length by rw [HL.out]; have := HK.out; omega)
  have w1' : IntKind.i64.wrap ((len : Int) + (F : Int)) = (E : Int) := by rw [IntKind.wrap_i64]; omega
  have w2' : IntKind.i64.wrap (E : Int) = (E : Int) := by rw [IntKind.wrap_i64]; omega
  have w3' : IntKind.i64.wrap ((E : Int) + (K : Int)) = (G : Int) := by rw [IntKind.wrap_i64]; omega
  have w4' : IntKind.i64.wrap ((F : Int) + (K : Int)) = (H : Int) := by rw [IntKind.wrap_i64]; omega
  clear hG hH hF hK x0 x1 y0 y1
  have HS := hide (show BytesIn w6.drew (.slice a len cap) l ∧ BytesIn w6.drew (.slice az (len + len) cz) Z ∧ Fresh w w6.drew from ⟨C6.out.fresh (Fresh.refl _).drew, B6.out.fresh (Fresh.refl _).drew, K6.out.trans (Fresh.refl _).drew⟩)
  refine wp_region_held (S := (fun wz => BytesIn wz (.slice a len cap) l ∧ BytesIn wz (.slice az (len + len) cz) Z ∧ Fresh w wz)) (by kernel_rfl) ?_
  change wpAnyH _ _ _ _ _ _ _ _ (World.drew _)
  refine held_take (i := 0) (d := 70) (v := ?_) rfl rfl (by kernel_rfl) (by kernel_rfl) (by kernel_rfl) (fun _ _ _ h => h) (by kernel_rfl) ?_ HS.out ?_
  rotate_left
  · intro wz hz
    obtain ⟨-, -, -⟩ := hz
    go_simp
    first | done | with_reducible rfl
  refine held_take (i := 1) (d := 71) (v := ?_) rfl rfl (by kernel_rfl) (by kernel_rfl) (by kernel_rfl) (fun _ _ _ h => h) (by kernel_rfl) ?_ HS.out ?_
  rotate_left
  · intro wz hz
    obtain ⟨-, -, -⟩ := hz
    go_simp
    first | done | with_reducible rfl
  refine held_take (i := 2) (d := 72) (v := ?_) rfl rfl (by kernel_rfl) (by kernel_rfl) (by kernel_rfl) (fun _ _ _ h => h) (by kernel_rfl) ?_ HS.out ?_
  rotate_left
  · intro wz hz
    obtain ⟨-, -, -⟩ := hz
    go_simp
    first | done | with_reducible rfl
  refine held_take (i := 3) (d := 73) (v := ?_) rfl rfl (by kernel_rfl) (by kernel_rfl) (by kernel_rfl) (fun _ _ _ h => h) (by kernel_rfl) ?_ HS.out ?_
  rotate_left
  · intro wz hz
    obtain ⟨-, -, -⟩ := hz
    go_simp
    first | done | with_reducible rfl
  refine held_take (i := 4) (d := 74) (v := ?_) rfl rfl (by kernel_rfl) (by kernel_rfl) (by kernel_rfl) (fun _ _ _ h => h) (by kernel_rfl) ?_ HS.out ?_
  rotate_left
  · intro wz hz
    obtain ⟨-, -, -⟩ := hz
    go_simp
    first | done | with_reducible rfl
  refine held_take (i := 5) (d := 75) (v := ?_) rfl rfl (by kernel_rfl) (by kernel_rfl) (by kernel_rfl) (fun _ _ _ h => h) (by kernel_rfl) ?_ HS.out ?_
  rotate_left
  · intro wz hz
    obtain ⟨-, -, -⟩ := hz
    go_simp
    first | done | with_reducible rfl
  refine held_take (i := 6) (d := 76) (v := ?_) rfl rfl (by kernel_rfl) (by kernel_rfl) (by kernel_rfl) (fun _ _ _ h => h) (by kernel_rfl) ?_ HS.out ?_
  rotate_left
  · intro wz hz
    obtain ⟨-, -, -⟩ := hz
    go_simp
    first | done | with_reducible rfl
  refine held_take (i := 7) (d := 77) (v := ?_) rfl rfl (by kernel_rfl) (by kernel_rfl) (by kernel_rfl) (fun _ _ _ h => h) (by kernel_rfl) ?_ HS.out ?_
  rotate_left
  · intro wz hz
    obtain ⟨-, -, -⟩ := hz
    go_simp
    first | done | with_reducible rfl
  refine held_take (i := 8) (d := 78) (v := ?_) rfl rfl (by kernel_rfl) (by kernel_rfl) (by kernel_rfl) (fun _ _ _ h => h) (by kernel_rfl) ?_ HS.out ?_
  rotate_left
  · intro wz hz
    obtain ⟨-, -, -⟩ := hz
    go_simp
    first | done | with_reducible rfl
  refine held_take (i := 9) (d := 79) (v := ?_) rfl rfl (by kernel_rfl) (by kernel_rfl) (by kernel_rfl) (fun _ _ _ h => h) (by kernel_rfl) ?_ HS.out ?_
  rotate_left
  · intro wz hz
    obtain ⟨-, -, -⟩ := hz
    go_simp
    first | done | with_reducible rfl
  refine held_take (i := 10) (d := 80) (v := ?_) rfl rfl (by kernel_rfl) (by kernel_rfl) (by kernel_rfl) (fun _ _ _ h => h) (by kernel_rfl) ?_ HS.out ?_
  rotate_left
  · intro wz hz
    obtain ⟨-, -, -⟩ := hz
    go_simp
    first | done | with_reducible rfl
  refine held_take (i := 11) (d := 81) (v := ?_) rfl rfl (by kernel_rfl) (by kernel_rfl) (by kernel_rfl) (fun _ _ _ h => h) (by kernel_rfl) ?_ HS.out ?_
  rotate_left
  · intro wz hz
    obtain ⟨-, -, -⟩ := hz
    go_simp
    first | done | with_reducible rfl
  refine held_take (i := 12) (d := 82) (v := (.bool true)) rfl rfl (by kernel_rfl) (by kernel_rfl) (by kernel_rfl) (fun _ _ _ h => h) (by kernel_rfl) ?_ HS.out ?_
  · intro wz hz
    go_simp
    first | done | simp
  refine held_take (i := 13) (d := 83) (v := ?_) rfl rfl (by kernel_rfl) (by kernel_rfl) (by kernel_rfl) (fun _ _ _ h => h) (by kernel_rfl) ?_ HS.out ?_
  rotate_left
  · intro wz hz
    obtain ⟨-, -, -⟩ := hz
    go_simp
    first | done | with_reducible rfl
  refine held_take (i := 14) (d := 84) (v := ?_) rfl rfl (by kernel_rfl) (by kernel_rfl) (by kernel_rfl) (fun _ _ _ h => h) (by kernel_rfl) ?_ HS.out ?_
  rotate_left
  · intro wz hz
    obtain ⟨-, -, -⟩ := hz
    go_simp
    first | done | with_reducible rfl
  refine held_take (i := 15) (d := 85) (v := ?_) rfl rfl (by kernel_rfl) (by kernel_rfl) (by kernel_rfl) (fun _ _ _ h => h) (by kernel_rfl) ?_ HS.out ?_
  rotate_left
  · intro wz hz
    obtain ⟨-, -, -⟩ := hz
    go_simp
    first | done | with_reducible rfl
  refine held_take (i := 16) (d := 86) (v := ?_) rfl rfl (by kernel_rfl) (by kernel_rfl) (by kernel_rfl) (fun _ _ _ h => h) (by kernel_rfl) ?_ HS.out ?_
  rotate_left
  · intro wz hz
    obtain ⟨-, -, -⟩ := hz
    go_simp
    first | done | with_reducible rfl
  refine held_take (i := 17) (d := 87) (v := ?_) rfl rfl (by kernel_rfl) (by kernel_rfl) (by kernel_rfl) (fun _ _ _ h => h) (by kernel_rfl) ?_ HS.out ?_
  rotate_left
  · intro wz hz
    obtain ⟨-, -, -⟩ := hz
    go_simp
    first | done | with_reducible rfl
  refine held_take (i := 18) (d := 88) (v := (.slice az len cz)) rfl rfl (by kernel_rfl) (by kernel_rfl) (by kernel_rfl) (fun _ _ _ h => h) (by kernel_rfl) ?_ HS.out ?_
  · intro wz hz
    go_simp
    first | done | simp
  refine held_take (i := 19) (d := 89) (v := (.string (strOfNums l))) rfl rfl (by kernel_rfl) (by kernel_rfl) (by kernel_rfl) (fun _ _ _ h => h) (by kernel_rfl) ?_ HS.out ?_
  · intro wz hz
    go_simp
    have h3 := bytesIn_front hz.2.1 len (by rw [L3.out]; omega); rw [P1.out] at h3; rw [bytes_str h3]; rfl
  refine held_take (i := 20) (d := 90) (v := ?_) rfl rfl (by kernel_rfl) (by kernel_rfl) (by kernel_rfl) (fun _ _ _ h => h) (by kernel_rfl) ?_ HS.out ?_
  rotate_left
  · intro wz hz
    obtain ⟨-, -, -⟩ := hz
    go_simp
    first | done | with_reducible rfl
  refine held_take (i := 21) (d := 91) (v := (.string (strOfNums l))) rfl rfl (by kernel_rfl) (by kernel_rfl) (by kernel_rfl) (fun _ _ _ h => h) (by kernel_rfl) ?_ HS.out ?_
  · intro wz hz
    go_simp
    rw [bytes_str hz.1]; rfl
  refine held_take (i := 22) (d := 92) (v := (.bool true)) rfl rfl (by kernel_rfl) (by kernel_rfl) (by kernel_rfl) (fun _ _ _ h => h) (by kernel_rfl) ?_ HS.out ?_
  · intro wz hz
    go_simp
    first | done | simp
  refine held_take (i := 23) (d := 93) (v := ?_) rfl rfl (by kernel_rfl) (by kernel_rfl) (by kernel_rfl) (fun _ _ _ h => h) (by kernel_rfl) ?_ HS.out ?_
  rotate_left
  · intro wz hz
    obtain ⟨-, -, -⟩ := hz
    go_simp
    first | done | with_reducible rfl
  refine held_take (i := 24) (d := 94) (v := ?_) rfl rfl (by kernel_rfl) (by kernel_rfl) (by kernel_rfl) (fun _ _ _ h => h) (by kernel_rfl) ?_ HS.out ?_
  rotate_left
  · intro wz hz
    obtain ⟨-, -, -⟩ := hz
    go_simp
    first | done | with_reducible rfl
  refine held_take (i := 25) (d := 95) (v := ?_) rfl rfl (by kernel_rfl) (by kernel_rfl) (by kernel_rfl) (fun _ _ _ h => h) (by kernel_rfl) ?_ HS.out ?_
  rotate_left
  · intro wz hz
    obtain ⟨-, -, -⟩ := hz
    go_simp
    first | done | with_reducible rfl
  refine held_take (i := 26) (d := 96) (v := ?_) rfl rfl (by kernel_rfl) (by kernel_rfl) (by kernel_rfl) (fun _ _ _ h => h) (by kernel_rfl) ?_ HS.out ?_
  rotate_left
  · intro wz hz
    obtain ⟨-, -, -⟩ := hz
    go_simp
    first | done | with_reducible rfl
  refine held_take (i := 27) (d := 97) (v := ?_) rfl rfl (by kernel_rfl) (by kernel_rfl) (by kernel_rfl) (fun _ _ _ h => h) (by kernel_rfl) ?_ HS.out ?_
  rotate_left
  · intro wz hz
    obtain ⟨-, -, -⟩ := hz
    go_simp
    first | done | with_reducible rfl
  refine held_take (i := 28) (d := 98) (v := ?_) rfl rfl (by kernel_rfl) (by kernel_rfl) (by kernel_rfl) (fun _ _ _ h => h) (by kernel_rfl) ?_ HS.out ?_
  rotate_left
  · intro wz hz
    obtain ⟨-, -, -⟩ := hz
    go_simp
    first | done | with_reducible rfl
  refine held_take (i := 29) (d := 99) (v := (.int .i64 (E : Int))) rfl rfl (by kernel_rfl) (by kernel_rfl) (by kernel_rfl) (fun _ _ _ h => h) (by kernel_rfl) ?_ HS.out ?_
  · intro wz hz
    go_simp
    first | done | simp [w1']
  refine held_take (i := 30) (d := 100) (v := ?_) rfl rfl (by kernel_rfl) (by kernel_rfl) (by kernel_rfl) (fun _ _ _ h => h) (by kernel_rfl) ?_ HS.out ?_
  rotate_left
  · intro wz hz
    obtain ⟨-, -, -⟩ := hz
    go_simp
    first | done | with_reducible rfl
  refine held_take (i := 31) (d := 101) (v := ?_) rfl rfl (by kernel_rfl) (by kernel_rfl) (by kernel_rfl) (fun _ _ _ h => h) (by kernel_rfl) ?_ HS.out ?_
  rotate_left
  · intro wz hz
    obtain ⟨-, -, -⟩ := hz
    go_simp
    first | done | with_reducible rfl
  refine held_take (i := 32) (d := 102) (v := ?_) rfl rfl (by kernel_rfl) (by kernel_rfl) (by kernel_rfl) (fun _ _ _ h => h) (by kernel_rfl) ?_ HS.out ?_
  rotate_left
  · intro wz hz
    obtain ⟨-, -, -⟩ := hz
    go_simp
    first | done | with_reducible rfl
  refine held_take (i := 33) (d := 103) (v := (.int .i64 (E : Int))) rfl rfl (by kernel_rfl) (by kernel_rfl) (by kernel_rfl) (fun _ _ _ h => h) (by kernel_rfl) ?_ HS.out ?_
  · intro wz hz
    go_simp
    first | done | simp [w1']
  refine held_take (i := 34) (d := 104) (v := ?_) rfl rfl (by kernel_rfl) (by kernel_rfl) (by kernel_rfl) (fun _ _ _ h => h) (by kernel_rfl) ?_ HS.out ?_
  rotate_left
  · intro wz hz
    obtain ⟨-, -, -⟩ := hz
    go_simp
    first | done | with_reducible rfl
  refine held_take (i := 35) (d := 105) (v := (.int .i64 (G : Int))) rfl rfl (by kernel_rfl) (by kernel_rfl) (by kernel_rfl) (fun _ _ _ h => h) (by kernel_rfl) ?_ HS.out ?_
  · intro wz hz
    go_simp
    first | done | simp [w3']
  refine held_take (i := 36) (d := 106) (v := (.slice (if cz = E then az else Option.map (fun x => x.add E) az) (G - E) (cz - E))) rfl rfl (by kernel_rfl) (by kernel_rfl) (by kernel_rfl) (fun _ _ _ h => h) (by kernel_rfl) ?_ HS.out ?_
  · intro wz hz
    go_simp
    first | done | simp
  refine held_take (i := 37) (d := 107) (v := (.string (strOfNums (partV l F K)))) rfl rfl (by kernel_rfl) (by kernel_rfl) (by kernel_rfl) (fun _ _ _ h => h) (by kernel_rfl) ?_ HS.out ?_
  · intro wz hz
    go_simp
    have h3 := bytesIn_cut hz.2.1 E G q3 GL.out; rw [show partV Z E (G - E) = partV l F K by rw [GE.out, P2.out]] at h3; rw [bytes_str h3]; rfl
  refine held_take (i := 38) (d := 108) (v := ?_) rfl rfl (by kernel_rfl) (by kernel_rfl) (by kernel_rfl) (fun _ _ _ h => h) (by kernel_rfl) ?_ HS.out ?_
  rotate_left
  · intro wz hz
    obtain ⟨-, -, -⟩ := hz
    go_simp
    first | done | with_reducible rfl
  refine held_take (i := 39) (d := 109) (v := ?_) rfl rfl (by kernel_rfl) (by kernel_rfl) (by kernel_rfl) (fun _ _ _ h => h) (by kernel_rfl) ?_ HS.out ?_
  rotate_left
  · intro wz hz
    obtain ⟨-, -, -⟩ := hz
    go_simp
    first | done | with_reducible rfl
  refine held_take (i := 40) (d := 110) (v := ?_) rfl rfl (by kernel_rfl) (by kernel_rfl) (by kernel_rfl) (fun _ _ _ h => h) (by kernel_rfl) ?_ HS.out ?_
  rotate_left
  · intro wz hz
    obtain ⟨-, -, -⟩ := hz
    go_simp
    first | done | with_reducible rfl
  refine held_take (i := 41) (d := 111) (v := ?_) rfl rfl (by kernel_rfl) (by kernel_rfl) (by kernel_rfl) (fun _ _ _ h => h) (by kernel_rfl) ?_ HS.out ?_
  rotate_left
  · intro wz hz
    obtain ⟨-, -, -⟩ := hz
    go_simp
    first | done | with_reducible rfl
  refine held_take (i := 42) (d := 112) (v := (.int .i64 (H : Int))) rfl rfl (by kernel_rfl) (by kernel_rfl) (by kernel_rfl) (fun _ _ _ h => h) (by kernel_rfl) ?_ HS.out ?_
  · intro wz hz
    go_simp
    first | done | simp [w4']
  refine held_take (i := 43) (d := 113) (v := (.slice (if cap = F then a else Option.map (fun x => x.add F) a) (H - F) (cap - F))) rfl rfl (by kernel_rfl) (by kernel_rfl) (by kernel_rfl) (fun _ _ _ h => h) (by kernel_rfl) ?_ HS.out ?_
  · intro wz hz
    go_simp
    first | done | simp
  refine held_take (i := 44) (d := 114) (v := (.string (strOfNums (partV l F K)))) rfl rfl (by kernel_rfl) (by kernel_rfl) (by kernel_rfl) (fun _ _ _ h => h) (by kernel_rfl) ?_ HS.out ?_
  · intro wz hz
    go_simp
    have h3 := bytesIn_cut hz.1 F H q5 HLL.out; rw [HF.out] at h3; rw [HF.out, bytes_str h3]; rfl
  refine held_take (i := 45) (d := 115) (v := (.bool true)) rfl rfl (by kernel_rfl) (by kernel_rfl) (by kernel_rfl) (fun _ _ _ h => h) (by kernel_rfl) ?_ HS.out ?_
  · intro wz hz
    go_simp
    first | done | simp
  refine held_take (i := 46) (d := 116) (v := ?_) rfl rfl (by kernel_rfl) (by kernel_rfl) (by kernel_rfl) (fun _ _ _ h => h) (by kernel_rfl) ?_ HS.out ?_
  rotate_left
  · intro wz hz
    obtain ⟨-, -, -⟩ := hz
    go_simp
    first | done | with_reducible rfl
  refine held_take (i := 47) (d := 6) (v := ?_) rfl rfl (by kernel_rfl) (by kernel_rfl) (by kernel_rfl) (fun _ _ _ h => h) (by kernel_rfl) ?_ HS.out ?_
  rotate_left
  · intro wz hz
    obtain ⟨-, -, -⟩ := hz
    go_simp
    first | done | with_reducible rfl
  refine wpAnyH_done (by kernel_rfl) ?_ _
  try simp only [Act.put, List.setIfInBounds_toArray, List.set_cons_succ, List.set_cons_zero]
  go_wp2
  all_goals
    go_ret
    exact ⟨rfl, HS.out.2.2⟩

set_option linter.unusedVariables false
set_option maxRecDepth 100000 in
theorem memBack_lifted (os : Os) (started : os.Started) (H : Type) (enc : TypeId × Value → H) :
    ReturnsInHanded {} Try.checked os 7 .any (Rows.memBackSpec.pre6 enc Try.prog Try.f7 Rows.memBackRow.domain false) (Rows.memBackSpec.post enc Try.prog Try.f7 false true false false) := by
  refine returnsInHanded_of_change (C := Try.checked) own started (by kernel_rfl) Try.func7
    (ChangeSpec.witness6 (enc := enc) (C := Try.checked) false ⟨#[], #[.slice none 0 0, .int .u8 0, .int .u8 0], []⟩ 8 (by kernel_rfl) (by kernel_rfl) (by kernel_rfl) (by kernel_rfl)) ?_
  intro W base args ds gs before hval0 hW hcnd _
  have hval : ∀ (j : Nat) t v, Try.f7.params[j]? = some t → args[j]? = some v → Value.okWide Try.prog W .any base t v := hval0
  have hW' := hW
  obtain ⟨p, q, hA0, hV, rfl, hfz, hnd⟩ := hW
  have hA : DataW.TrodAll enc Try.prog W 0 (fun _ => true) true Try.f7.params.toList args.toList ds p := hA0
  rw [Try.params7] at hA hval
  obtain ⟨v0, vs0, d0, ds0, p0, q0, hargs, rfl, rfl, h0, r0⟩ := trodAll_cons hA
  obtain ⟨v1, vs1, d1, ds1, p1, q1, rfl, rfl, rfl, h1, r1⟩ := trodAll_cons r0
  obtain ⟨v2, vs2, d2, ds2, p2, q2, rfl, rfl, rfl, h2, r2⟩ := trodAll_cons r1
  obtain ⟨rfl, rfl, rfl⟩ := trodAll_nil r2
  obtain rfl : args = #[v0, v1, v2] := by cases args; simp_all
  obtain ⟨rfl, rfl⟩ := trodVars_none hV
  have lt0 : ∀ x ∈ p0, x.block < W.heap.size := by obtain ⟨m, hm⟩ := h0; exact DataW.trod_lt m _ _ _ hm
  have lt1 : ∀ x ∈ p1, x.block < W.heap.size := by obtain ⟨m, hm⟩ := h1; exact DataW.trod_lt m _ _ _ hm
  have lt2 : ∀ x ∈ p2, x.block < W.heap.size := by obtain ⟨m, hm⟩ := h2; exact DataW.trod_lt m _ _ _ hm
  obtain ⟨a0, len0, cap0, rfl⟩ := okWide_slice Try.underlying22 (hval 0 22 v0 rfl rfl)
  obtain ⟨z0, w0⟩ := isRow_of Try.underlying22 Try.underlying5 (by kernel_rfl) h0
  obtain ⟨a1, rfl, rfl, rfl, w1⟩ := open_int Try.underlying5 (hval 1 5 v1 rfl rfl) h1
  obtain ⟨a2, rfl, rfl, rfl, w2⟩ := open_int Try.underlying5 (hval 2 5 v2 rfl rfl) h2
  clear hA0 hval0
  refine (memBack_walk0 a0 len0 cap0 z0 a1 (bounds_u8 w1).1 (bounds_u8 w1).2 a2 (bounds_u8 w2).1 (bounds_u8 w2).2 W w0).mono fun e W' ⟨he, hg⟩ => ?_
  subst he
  exact ⟨_, rfl, _, _, _, [], _, [], hW', trodAll_mk1 (shut_bool Try.underlying4 _), (trodAll_cons_mk (Below.trod laidOut (by kernel_rfl) (of_decide_eq_true (by kernel_rfl)) h0 hg lt0) (trodAll_cons_mk (Below.trod laidOut (by kernel_rfl) (of_decide_eq_true (by kernel_rfl)) h1 hg lt1) (trodAll_cons_mk (Below.trod laidOut (by kernel_rfl) (of_decide_eq_true (by kernel_rfl)) h2 hg lt2) trodAll_mk0))), rfl, hg.frame _, fun h => by cases h⟩

theorem memBack_row : Rows.MemBackSaid :=
  OpenClaim.holds_of_wide 7 Try.f7 rfl rfl rfl rfl rfl rfl rfl ⟨rfl, rfl, rfl, rfl, rfl⟩ rfl rfl rfl rfl rfl (by kernel_rfl) Try.func7 (by kernel_rfl)
    (of_decide_eq_true (by kernel_rfl)) (by unfold Func.isWrapper; first | (rw [if_pos (by decide +kernel)]; kernel_rfl) | (rw [if_neg (by decide +kernel)]; exact ⟨rfl, rfl⟩))
    (fun os started H enc _ => memBack_lifted os started H enc)

theorem memBack_holds : Rows.MemBackSaid := memBack_row
#print axioms memBack_holds
end Go.Proofs.Ytbbfbelhdjloeaa
