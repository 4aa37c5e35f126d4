/- Proved here: hodmanlaw14.JunkOnly, called with any slice of bytes and any three bytes, returns true: that a page is filled, no other byte is another one, and twice filled is once follows from promise P14.1. No condition. -/
import Derived.Test.YtakpbhijnhpdeaaJunkLaw
import Derived.Test.YtakpbhijnhpdeaaByteOpen
namespace Go.Proofs.Ytakpbhijnhpdeaa
open Go.ChangeShapes Go.WideShapes Go.ChangeAt Go.RowKit

set_option maxRecDepth 100000 in
set_option maxHeartbeats 4000000 in
theorem junkOnly_walk0 (a : Option Addr) (len cap : Nat) (zs : List Int) (s : Int) (s0 : 0 ≤ s) (s1 : s ≤ 255) (p : Int) (p0 : 0 ≤ p) (p1 : p ≤ 255) (z : Int) (z0 : 0 ≤ z) (z1 : z ≤ 255) (w : World) (hR : IsRow .u8 w a len cap zs) :
    Calls Try.prog 4 #[.slice a len cap, .int .u8 s, .int .u8 p, .int .u8 z] w fun e w' => e = .returned (.bool true) ∧ Fresh w w' := by
  have l0 : (0 : Int) ≤ (len : Int) := by omega
  have lm := row_le hR
  by_cases g : 60 < len
  · have g' : (60 : Int) < (len : Int) := by omega
    clear hR
    go_enter Try.func4, Try.ntmps4
    go_wp2_with fail
    refine (begun14_true _).mono ?_
    rintro e w1 ⟨rfl, k1⟩
    have K1 := hide k1
    clear k1
    go_wp2
    go_ret
    exact ⟨rfl, K1.out⟩
  have g' : (len : Int) ≤ 60 := by omega
  obtain ⟨l, hl, hb, -⟩ := bytesIn_of hR (by omega)
  have HB := hide hb
  have HL := hide hl
  obtain ⟨R, hr⟩ : ∃ R, z % 20 = R := ⟨_, rfl⟩
  obtain ⟨P, hp⟩ : ∃ P, p % 8 = P := ⟨_, rfl⟩
  have r0 : 0 ≤ R := by omega
  have r1 : R ≤ 19 := by omega
  have q0 : 0 ≤ P := by omega
  have q1 : P ≤ 7 := by omega
  obtain ⟨N, hn⟩ : ∃ N, 1 + R = N := ⟨_, rfl⟩
  have n0 : 1 ≤ N := by omega
  have n1 : N ≤ 20 := by omega
  obtain ⟨M, hm⟩ : ∃ M, P * N = M := ⟨_, rfl⟩
  have m0 : 0 ≤ M := by rw [← hm]; exact Int.mul_nonneg q0 (by omega)
  have m1 : M ≤ 140 := by have := Int.mul_le_mul q1 n1 (show 0 ≤ N by omega) (show (0 : Int) ≤ 7 by decide); omega
  obtain ⟨X, hX⟩ : ∃ X, fillV l s P N = X := ⟨_, rfl⟩
  have XL := hide (show X.length = len by rw [← hX, fillV_length, hl])
  have XX := hide (show fillV X s P N = X by rw [← hX, fillV_twice])
  have XG := hide (fun i (hi : i < len) => show X.getD i 0 = if inPage P N i then byteV s P ((i : Int) % N) else l.getD i 0 by rw [← hX]; exact fillV_get (hl.symm ▸ hi))
  have HX := hide hX
  clear hR hb hl g hX
  go_enter Try.func4, Try.ntmps4
  go_wp2_with fail
  refine (begun14_true _).mono ?_
  rintro e w1 ⟨rfl, k1⟩
  have K1 := hide k1
  have B1 := hide (HB.out.fresh k1)
  clear k1 HB
  go_wp2_with fail
  refine (fill_to _ l X s P N _ B1.out (by omega) (by omega) (by omega) (by omega) HX.out).mono ?_
  rintro e w2 ⟨u, rfl, b, f⟩
  obtain ⟨a2, c2, rfl, -, -⟩ := b.shape
  rw [XL.out] at b ⊢
  have K2 := hide (K1.out.trans f)
  have B2 := hide (B1.out.fresh f)
  have BX := hide b
  clear b f K1 B1
  go_wp2
  go_loopw [12] (fun i wr => ∃ k : Nat, k ≤ len ∧ i = .int .i64 (k : Int) ∧ Fresh w2 wr) (fun i _ => (len - intOf i).toNat)
  case atStart => exact ⟨0, Nat.zero_le _, rfl, Fresh.refl _⟩
  case round =>
    obtain ⟨k, hk, rfl, hf⟩ := hrel
    have F := hide hf
    have k0 : (0 : Int) ≤ (k : Int) := by omega
    by_cases gk : k < len
    · have gk' : (k : Int) < (len : Int) := by omega
      have GK := hide (show k + 1 ≤ len by omega)
      obtain ⟨b1, o1, rfl, d1⟩ := (B2.out.fresh hf).cell k (by rw [HL.out]; exact gk)
      obtain ⟨b2, o2, rfl, d2⟩ := (BX.out.fresh hf).cell k (by rw [XL.out]; exact gk)
      rw [XG.out k gk] at d2
      obtain ⟨q, hq⟩ : ∃ q, (k : Int) / N = q := ⟨_, rfl⟩
      have hd : wrap64 ((k : Int) / N) = q := by
        have := Int.ediv_le_self N k0
        have := Int.ediv_nonneg k0 (show 0 ≤ N by omega)
        rw [hq] at *
        unfold wrap64; omega
      have hw : IntKind.i64.wrap ((k : Int) / N) = q := by have := hd; unfold wrap64 at this; rw [IntKind.wrap_i64]; omega
      have n3 : N ≠ 0 := by omega
      have n4 : N ≠ -1 := by omega
      by_cases gq : q = P
      · have IN : inPage P N k := ⟨by omega, by omega, by rw [hq, gq]⟩
        rw [if_pos IN] at d2
        have hkr : (k : Int) % N = (k : Int) - M := by rw [Int.emod_def, hq, gq, Int.mul_comm, hm]
        rw [hkr] at d2
        have BY := hide (fun w => byte_any s P ((k : Int) - M) w)
        generalize byteV s P ((k : Int) - M) = y at d2 BY
        subst gq
        clear hf gk hk hq IN hkr
        go_wp2_with fail
        go_quiet ((go_at_call 9; with_reducible exact Calls.quiet_of_same (BY.out _)))
        go_wp2
        go_roundw
        case rel => exact ⟨k + 1, GK.out, by go_num, fresh_drewN F.out _⟩
        case measure => simp [intOf]; omega
      · have gq' : (q == P) = false := by rw [beq_eq_false_iff_ne]; exact gq
        rw [if_neg (fun h : inPage P N k => gq (by rw [← hq]; exact h.2.2))] at d2
        generalize l.getD k 0 = y at d1 d2
        clear hf gk hk hq
        go_wp2_with fail
        have HS := hide (show wr.drew.cell? ⟨b1, o1 + k, none⟩ = some (.int .u8 y) ∧ wr.drew.cell? ⟨b2, o2 + k, none⟩ = some (.int .u8 y) ∧ Fresh w2 wr.drew from ⟨d1, d2, F.out.trans (Fresh.refl _).drew⟩)
        refine wp_region_held (S := (fun wz => wz.cell? ⟨b1, o1 + k, none⟩ = some (.int .u8 y) ∧ wz.cell? ⟨b2, o2 + k, none⟩ = some (.int .u8 y) ∧ Fresh w2 wz)) (by kernel_rfl) ?_
        change wpAnyH _ _ _ _ _ _ _ _ (World.drew _)
        refine held_take (i := 0) (d := 42) (v := ?_) rfl rfl (by kernel_rfl) (by kernel_rfl) (by kernel_rfl) (fun _ _ _ h => h) (by kernel_rfl) ?_ HS.out ?_
        rotate_left
        · intro wz hz
          obtain ⟨e1, e2, -⟩ := hz
          go_simp
          first | done | with_reducible rfl
        refine held_take (i := 1) (d := 43) (v := ?_) rfl rfl (by kernel_rfl) (by kernel_rfl) (by kernel_rfl) (fun _ _ _ h => h) (by kernel_rfl) ?_ HS.out ?_
        rotate_left
        · intro wz hz
          obtain ⟨e1, e2, -⟩ := hz
          go_simp
          first | done | with_reducible rfl
        refine held_take (i := 2) (d := 44) (v := (.int .i64 q)) rfl rfl (by kernel_rfl) (by kernel_rfl) (by kernel_rfl) (fun _ _ _ h => h) (by kernel_rfl) ?_ HS.out ?_
        · intro wz hz
          go_simp
          first | done | simp [hw, hd]
        refine held_take (i := 3) (d := 45) (v := ?_) rfl rfl (by kernel_rfl) (by kernel_rfl) (by kernel_rfl) (fun _ _ _ h => h) (by kernel_rfl) ?_ HS.out ?_
        rotate_left
        · intro wz hz
          obtain ⟨e1, e2, -⟩ := hz
          go_simp
          first | done | with_reducible rfl
        refine held_take (i := 4) (d := 46) (v := (.bool false)) rfl rfl (by kernel_rfl) (by kernel_rfl) (by kernel_rfl) (fun _ _ _ h => h) (by kernel_rfl) ?_ HS.out ?_
        · intro wz hz
          go_simp
          first | done | simp [gq']
        refine held_take (i := 5) (d := 47) (v := ?_) rfl rfl (by kernel_rfl) (by kernel_rfl) (by kernel_rfl) (fun _ _ _ h => h) (by kernel_rfl) ?_ HS.out ?_
        rotate_left
        · intro wz hz
          obtain ⟨e1, e2, -⟩ := hz
          go_simp
          first | done | with_reducible rfl
        refine held_off (i := 6) (d := 48) rfl rfl (by kernel_rfl) (by kernel_rfl) (by kernel_rfl) (fun _ _ _ h => h) (by kernel_rfl) HS.out ?_
        refine held_off (i := 7) (d := 49) rfl rfl (by kernel_rfl) (by kernel_rfl) (by kernel_rfl) (fun _ _ _ h => h) (by kernel_rfl) HS.out ?_
        refine held_off (i := 8) (d := 50) rfl rfl (by kernel_rfl) (by kernel_rfl) (by kernel_rfl) (fun _ _ _ h => h) (by kernel_rfl) HS.out ?_
        refine held_off (i := 9) (d := 51) rfl rfl (by kernel_rfl) (by kernel_rfl) (by kernel_rfl) (fun _ _ _ h => h) (by kernel_rfl) HS.out ?_
        refine held_off (i := 10) (d := 52) rfl rfl (by kernel_rfl) (by kernel_rfl) (by kernel_rfl) (fun _ _ _ h => h) (by kernel_rfl) HS.out ?_
        refine held_off (i := 11) (d := 53) rfl rfl (by kernel_rfl) (by kernel_rfl) (by kernel_rfl) (fun _ _ _ h => h) (by kernel_rfl) HS.out ?_
        refine held_off (i := 12) (d := 54) rfl rfl (by kernel_rfl) (by kernel_rfl) (by kernel_rfl) (fun _ _ _ h => h) (by kernel_rfl) HS.out ?_
        refine held_off (i := 13) (d := 55) rfl rfl (by kernel_rfl) (by kernel_rfl) (by kernel_rfl) (fun _ _ _ h => h) (by kernel_rfl) HS.out ?_
        refine held_off (i := 14) (d := 56) rfl rfl (by kernel_rfl) (by kernel_rfl) (by kernel_rfl) (fun _ _ _ h => h) (by kernel_rfl) HS.out ?_
        refine held_off (i := 15) (d := 57) rfl rfl (by kernel_rfl) (by kernel_rfl) (by kernel_rfl) (fun _ _ _ h => h) (by kernel_rfl) HS.out ?_
        refine held_off (i := 16) (d := 58) rfl rfl (by kernel_rfl) (by kernel_rfl) (by kernel_rfl) (fun _ _ _ h => h) (by kernel_rfl) HS.out ?_
        refine held_off (i := 17) (d := 59) rfl rfl (by kernel_rfl) (by kernel_rfl) (by kernel_rfl) (fun _ _ _ h => h) (by kernel_rfl) HS.out ?_
        refine held_off (i := 18) (d := 60) rfl rfl (by kernel_rfl) (by kernel_rfl) (by kernel_rfl) (fun _ _ _ h => h) (by kernel_rfl) HS.out ?_
        refine held_off (i := 19) (d := 61) rfl rfl (by kernel_rfl) (by kernel_rfl) (by kernel_rfl) (fun _ _ _ h => h) (by kernel_rfl) HS.out ?_
        refine held_take (i := 20) (d := 62) (v := ?_) rfl rfl (by kernel_rfl) (by kernel_rfl) (by kernel_rfl) (fun _ _ _ h => h) (by kernel_rfl) ?_ HS.out ?_
        rotate_left
        · intro wz hz
          obtain ⟨e1, e2, -⟩ := hz
          go_simp
          first | done | with_reducible rfl
        refine held_take (i := 21) (d := 63) (v := ?_) rfl rfl (by kernel_rfl) (by kernel_rfl) (by kernel_rfl) (fun _ _ _ h => h) (by kernel_rfl) ?_ HS.out ?_
        rotate_left
        · intro wz hz
          obtain ⟨e1, e2, -⟩ := hz
          go_simp
          first | done | with_reducible rfl
        refine held_take (i := 22) (d := 64) (v := ?_) rfl rfl (by kernel_rfl) (by kernel_rfl) (by kernel_rfl) (fun _ _ _ h => h) (by kernel_rfl) ?_ HS.out ?_
        rotate_left
        · intro wz hz
          obtain ⟨e1, e2, -⟩ := hz
          go_simp
          first | done | with_reducible rfl
        refine held_take (i := 23) (d := 65) (v := ?_) rfl rfl (by kernel_rfl) (by kernel_rfl) (by kernel_rfl) (fun _ _ _ h => h) (by kernel_rfl) ?_ HS.out ?_
        rotate_left
        · intro wz hz
          obtain ⟨e1, e2, -⟩ := hz
          go_simp
          first | done | with_reducible rfl
        refine held_take (i := 24) (d := 66) (v := (.int .i64 q)) rfl rfl (by kernel_rfl) (by kernel_rfl) (by kernel_rfl) (fun _ _ _ h => h) (by kernel_rfl) ?_ HS.out ?_
        · intro wz hz
          go_simp
          first | done | simp [hw, hd]
        refine held_take (i := 25) (d := 67) (v := ?_) rfl rfl (by kernel_rfl) (by kernel_rfl) (by kernel_rfl) (fun _ _ _ h => h) (by kernel_rfl) ?_ HS.out ?_
        rotate_left
        · intro wz hz
          obtain ⟨e1, e2, -⟩ := hz
          go_simp
          first | done | with_reducible rfl
        refine held_take (i := 26) (d := 68) (v := (.bool true)) rfl rfl (by kernel_rfl) (by kernel_rfl) (by kernel_rfl) (fun _ _ _ h => h) (by kernel_rfl) ?_ HS.out ?_
        · intro wz hz
          go_simp
          first | done | simp [gq']
        refine held_take (i := 27) (d := 69) (v := ?_) rfl rfl (by kernel_rfl) (by kernel_rfl) (by kernel_rfl) (fun _ _ _ h => h) (by kernel_rfl) ?_ HS.out ?_
        rotate_left
        · intro wz hz
          obtain ⟨e1, e2, -⟩ := hz
          go_simp
          first | done | with_reducible rfl
        refine held_take (i := 28) (d := 70) (v := ?_) rfl rfl (by kernel_rfl) (by kernel_rfl) (by kernel_rfl) (fun _ _ _ h => h) (by kernel_rfl) ?_ HS.out ?_
        rotate_left
        · intro wz hz
          obtain ⟨e1, e2, -⟩ := hz
          go_simp
          first | done | with_reducible rfl
        refine held_take (i := 29) (d := 71) (v := ?_) rfl rfl (by kernel_rfl) (by kernel_rfl) (by kernel_rfl) (fun _ _ _ h => h) (by kernel_rfl) ?_ HS.out ?_
        rotate_left
        · intro wz hz
          obtain ⟨e1, e2, -⟩ := hz
          go_simp
          first | done | with_reducible rfl
        refine held_take (i := 30) (d := 72) (v := ?_) rfl rfl (by kernel_rfl) (by kernel_rfl) (by kernel_rfl) (fun _ _ _ h => h) (by kernel_rfl) ?_ HS.out ?_
        rotate_left
        · intro wz hz
          obtain ⟨e1, e2, -⟩ := hz
          go_simp
          first | done | with_reducible rfl
        refine held_take (i := 31) (d := 73) (v := ?_) rfl rfl (by kernel_rfl) (by kernel_rfl) (by kernel_rfl) (fun _ _ _ h => h) (by kernel_rfl) ?_ HS.out ?_
        rotate_left
        · intro wz hz
          obtain ⟨e1, e2, -⟩ := hz
          go_simp
          first | done | with_reducible rfl
        refine held_take (i := 32) (d := 74) (v := ?_) rfl rfl (by kernel_rfl) (by kernel_rfl) (by kernel_rfl) (fun _ _ _ h => h) (by kernel_rfl) ?_ HS.out ?_
        rotate_left
        · intro wz hz
          obtain ⟨e1, e2, -⟩ := hz
          go_simp
          first | done | with_reducible rfl
        refine held_take (i := 33) (d := 75) (v := ?_) rfl rfl (by kernel_rfl) (by kernel_rfl) (by kernel_rfl) (fun _ _ _ h => h) (by kernel_rfl) ?_ HS.out ?_
        rotate_left
        · intro wz hz
          obtain ⟨e1, e2, -⟩ := hz
          go_simp
          first | done | with_reducible rfl
        refine held_take (i := 34) (d := 76) (v := ?_) rfl rfl (by kernel_rfl) (by kernel_rfl) (by kernel_rfl) (fun _ _ _ h => h) (by kernel_rfl) ?_ HS.out ?_
        rotate_left
        · intro wz hz
          obtain ⟨e1, e2, -⟩ := hz
          go_simp
          first | done | with_reducible rfl
        refine held_take (i := 35) (d := 77) (v := ?_) rfl rfl (by kernel_rfl) (by kernel_rfl) (by kernel_rfl) (fun _ _ _ h => h) (by kernel_rfl) ?_ HS.out ?_
        rotate_left
        · intro wz hz
          obtain ⟨e1, e2, -⟩ := hz
          go_simp
          first | done | with_reducible rfl
        refine held_take (i := 36) (d := 78) (v := (.bool false)) rfl rfl (by kernel_rfl) (by kernel_rfl) (by kernel_rfl) (fun _ _ _ h => h) (by kernel_rfl) ?_ HS.out ?_
        · intro wz hz
          go_simp
          first | done | simp
        refine held_take (i := 37) (d := 79) (v := ?_) rfl rfl (by kernel_rfl) (by kernel_rfl) (by kernel_rfl) (fun _ _ _ h => h) (by kernel_rfl) ?_ HS.out ?_
        rotate_left
        · intro wz hz
          obtain ⟨e1, e2, -⟩ := hz
          go_simp
          first | done | with_reducible rfl
        refine held_take (i := 38) (d := 80) (v := ?_) rfl rfl (by kernel_rfl) (by kernel_rfl) (by kernel_rfl) (fun _ _ _ h => h) (by kernel_rfl) ?_ HS.out ?_
        rotate_left
        · intro wz hz
          obtain ⟨e1, e2, -⟩ := hz
          go_simp
          first | done | with_reducible rfl
        refine wpAnyH_done (by kernel_rfl) ?_ _
        try simp only [Act.put, List.setIfInBounds_toArray, List.set_cons_succ, List.set_cons_zero]
        go_wp2
        go_roundw
        case rel => exact ⟨k + 1, GK.out, by go_num, HS.out.2.2⟩
        case measure => simp [intOf]; omega
    · obtain rfl : k = len := by omega
      clear hf
      have FT := hide (fun w (h : BytesIn w (.slice a2 k c2) X) => fill_to _ X X s P N w h (by omega) (by omega) (by omega) (by omega) XX.out)
      go_wp2_with fail
      have HS := hide (show BytesIn wr.drew (.slice a2 k c2) X ∧ Fresh w2 wr.drew from ⟨BX.out.fresh (F.out.trans (Fresh.refl _).drew), F.out.trans (Fresh.refl _).drew⟩)
      refine wp_region_held (S := (fun wz => BytesIn wz (.slice a2 k c2) X ∧ Fresh w2 wz)) (by kernel_rfl) ?_
      change wpAnyH _ _ _ _ _ _ _ _ (World.drew _)
      have ws : IntKind.i64.wrap s = s := by rw [IntKind.wrap_i64]; omega
      refine held_take (i := 0) (d := 81) (v := ?_) rfl rfl (by kernel_rfl) (by kernel_rfl) (by kernel_rfl) (fun _ _ _ h => h) (by kernel_rfl) ?_ HS.out ?_
      rotate_left
      · intro wz hz
        obtain ⟨-, -⟩ := hz
        go_simp
        first | done | with_reducible rfl
      refine held_take (i := 1) (d := 82) (v := ?_) rfl rfl (by kernel_rfl) (by kernel_rfl) (by kernel_rfl) (fun _ _ _ h => h) (by kernel_rfl) ?_ HS.out ?_
      rotate_left
      · intro wz hz
        obtain ⟨-, -⟩ := hz
        go_simp
        first | done | with_reducible rfl
      refine held_take (i := 2) (d := 83) (v := (.int .i64 s)) rfl rfl (by kernel_rfl) (by kernel_rfl) (by kernel_rfl) (fun _ _ _ h => h) (by kernel_rfl) ?_ HS.out ?_
      · intro wz hz
        go_simp
        first | done | simp [ws]
      refine held_take (i := 3) (d := 84) (v := ?_) rfl rfl (by kernel_rfl) (by kernel_rfl) (by kernel_rfl) (fun _ _ _ h => h) (by kernel_rfl) ?_ HS.out ?_
      rotate_left
      · intro wz hz
        obtain ⟨-, -⟩ := hz
        go_simp
        first | done | with_reducible rfl
      refine held_take (i := 4) (d := 85) (v := ?_) rfl rfl (by kernel_rfl) (by kernel_rfl) (by kernel_rfl) (fun _ _ _ h => h) (by kernel_rfl) ?_ HS.out ?_
      rotate_left
      · intro wz hz
        obtain ⟨-, -⟩ := hz
        go_simp
        first | done | with_reducible rfl
      refine held_take (i := 7) (d := 88) (v := ?_) rfl rfl (by kernel_rfl) (by kernel_rfl) (by kernel_rfl) (fun _ _ _ h => h) (by kernel_rfl) ?_ HS.out ?_
      rotate_left
      · intro wz hz
        obtain ⟨-, -⟩ := hz
        go_simp
        first | done | with_reducible rfl
      refine held_take (i := 8) (d := 89) (v := (.string (strOfNums X))) rfl rfl (by kernel_rfl) (by kernel_rfl) (by kernel_rfl) (fun _ _ _ h => h) (by kernel_rfl) ?_ HS.out ?_
      · intro wz hz
        go_simp
        rw [bytes_str hz.1]; rfl
      refine wpAnyH_ready (rs := [5]) (by kernel_rfl) (by simp) ?_
      refine AllReadyH.cons rfl (fun K hK => ?_) AllReadyH.nil
      go_simp
      go_wp2_with fail
      refine (FT.out _ HS.out.1).mono ?_; rintro e w3 ⟨u, rfl, bu, fu⟩; have HT := hide (show (BytesIn w3 (.slice a2 k c2) X ∧ Fresh w2 w3) ∧ BytesIn w3 u X from ⟨⟨HS.out.1.fresh fu, HS.out.2.trans fu⟩, bu⟩); clear HS bu fu; have HS := hide HT.out.1
      refine hK.out _ _ HS.out (fun _ => ?_)
      clear hK K
      refine held_more (T := fun wz => (BytesIn wz (.slice a2 k c2) X ∧ Fresh w2 wz) ∧ BytesIn wz u X) (fun _ h => h.1) _ _ _ _ ?_
      clear HS
      have HS := HT
      clear HT
      refine held_take (i := 6) (d := 87) (v := (.string (strOfNums X))) rfl rfl (by kernel_rfl) (by kernel_rfl) (by kernel_rfl) (fun _ _ _ h => h) (by kernel_rfl) ?_ HS.out ?_
      · intro wz hz
        go_simp
        rw [bytes_str hz.2]; rfl
      refine held_take (i := 9) (d := 90) (v := (.bool true)) rfl rfl (by kernel_rfl) (by kernel_rfl) (by kernel_rfl) (fun _ _ _ h => h) (by kernel_rfl) ?_ HS.out ?_
      · intro wz hz
        go_simp
        first | done | simp
      refine held_take (i := 10) (d := 8) (v := ?_) rfl rfl (by kernel_rfl) (by kernel_rfl) (by kernel_rfl) (fun _ _ _ h => h) (by kernel_rfl) ?_ HS.out ?_
      rotate_left
      · intro wz hz
        obtain ⟨-, -⟩ := hz
        go_simp
        first | done | with_reducible rfl
      refine wpAnyH_done (by kernel_rfl) ?_ _
      try simp only [Act.put, List.setIfInBounds_toArray, List.set_cons_succ, List.set_cons_zero]
      go_wp2
      go_ret
      exact ⟨rfl, K2.out.trans HS.out.1.2⟩

set_option linter.unusedVariables false
set_option maxRecDepth 100000 in
theorem junkOnly_lifted (os : Os) (started : os.Started) (H : Type) (enc : TypeId × Value → H) :
    ReturnsInHanded {} Try.checked os 4 .any (Rows.junkOnlySpec.pre6 enc Try.prog Try.f4 Rows.junkOnlyRow.domain false) (Rows.junkOnlySpec.post enc Try.prog Try.f4 false true false false) := by
  refine returnsInHanded_of_change (C := Try.checked) own started (by kernel_rfl) Try.func4
    (ChangeSpec.witness6 (enc := enc) (C := Try.checked) false ⟨#[], #[.slice none 0 0, .int .u8 0, .int .u8 0, .int .u8 0], []⟩ 8 (by kernel_rfl) (by kernel_rfl) (by kernel_rfl) (by kernel_rfl)) ?_
  intro W base args ds gs before hval0 hW hcnd _
  have hval : ∀ (j : Nat) t v, Try.f4.params[j]? = some t → args[j]? = some v → Value.okWide Try.prog W .any base t v := hval0
  have hW' := hW
  obtain ⟨p, q, hA0, hV, rfl, hfz, hnd⟩ := hW
  have hA : DataW.TrodAll enc Try.prog W 0 (fun _ => true) true Try.f4.params.toList args.toList ds p := hA0
  rw [Try.params4] at hA hval
  obtain ⟨v0, vs0, d0, ds0, p0, q0, hargs, rfl, rfl, h0, r0⟩ := trodAll_cons hA
  obtain ⟨v1, vs1, d1, ds1, p1, q1, rfl, rfl, rfl, h1, r1⟩ := trodAll_cons r0
  obtain ⟨v2, vs2, d2, ds2, p2, q2, rfl, rfl, rfl, h2, r2⟩ := trodAll_cons r1
  obtain ⟨v3, vs3, d3, ds3, p3, q3, rfl, rfl, rfl, h3, r3⟩ := trodAll_cons r2
  obtain ⟨rfl, rfl, rfl⟩ := trodAll_nil r3
  obtain rfl : args = #[v0, v1, v2, v3] := by cases args; simp_all
  obtain ⟨rfl, rfl⟩ := trodVars_none hV
  have lt0 : ∀ x ∈ p0, x.block < W.heap.size := by obtain ⟨m, hm⟩ := h0; exact DataW.trod_lt m _ _ _ hm
  have lt1 : ∀ x ∈ p1, x.block < W.heap.size := by obtain ⟨m, hm⟩ := h1; exact DataW.trod_lt m _ _ _ hm
  have lt2 : ∀ x ∈ p2, x.block < W.heap.size := by obtain ⟨m, hm⟩ := h2; exact DataW.trod_lt m _ _ _ hm
  have lt3 : ∀ x ∈ p3, x.block < W.heap.size := by obtain ⟨m, hm⟩ := h3; exact DataW.trod_lt m _ _ _ hm
  obtain ⟨a0, len0, cap0, rfl⟩ := okWide_slice Try.underlying22 (hval 0 22 v0 rfl rfl)
  obtain ⟨z0, w0⟩ := isRow_of Try.underlying22 Try.underlying5 (by kernel_rfl) h0
  obtain ⟨a1, rfl, rfl, rfl, w1⟩ := open_int Try.underlying5 (hval 1 5 v1 rfl rfl) h1
  obtain ⟨a2, rfl, rfl, rfl, w2⟩ := open_int Try.underlying5 (hval 2 5 v2 rfl rfl) h2
  obtain ⟨a3, rfl, rfl, rfl, w3⟩ := open_int Try.underlying5 (hval 3 5 v3 rfl rfl) h3
  clear hA0 hval0
  refine (junkOnly_walk0 a0 len0 cap0 z0 a1 (bounds_u8 w1).1 (bounds_u8 w1).2 a2 (bounds_u8 w2).1 (bounds_u8 w2).2 a3 (bounds_u8 w3).1 (bounds_u8 w3).2 W w0).mono fun e W' ⟨he, hg⟩ => ?_
  subst he
  exact ⟨_, rfl, _, _, _, [], _, [], hW', trodAll_mk1 (shut_bool Try.underlying4 _), (trodAll_cons_mk (Below.trod laidOut (by kernel_rfl) (of_decide_eq_true (by kernel_rfl)) h0 hg lt0) (trodAll_cons_mk (Below.trod laidOut (by kernel_rfl) (of_decide_eq_true (by kernel_rfl)) h1 hg lt1) (trodAll_cons_mk (Below.trod laidOut (by kernel_rfl) (of_decide_eq_true (by kernel_rfl)) h2 hg lt2) (trodAll_cons_mk (Below.trod laidOut (by kernel_rfl) (of_decide_eq_true (by kernel_rfl)) h3 hg lt3) trodAll_mk0)))), rfl, hg.frame _, fun h => by cases h⟩

theorem junkOnly_row : Rows.JunkOnlySaid :=
  OpenClaim.holds_of_wide 4 Try.f4 rfl rfl rfl rfl rfl rfl rfl ⟨rfl, rfl, rfl, rfl, rfl⟩ rfl rfl rfl rfl rfl (by kernel_rfl) Try.func4 (by kernel_rfl)
    (of_decide_eq_true (by kernel_rfl)) (by unfold Func.isWrapper; first | (rw [if_pos (by decide +kernel)]; kernel_rfl) | (rw [if_neg (by decide +kernel)]; exact ⟨rfl, rfl⟩))
    (fun os started H enc _ => junkOnly_lifted os started H enc)

theorem junkOnly_holds : Rows.JunkOnlySaid := junkOnly_row
#print axioms junkOnly_holds
end Go.Proofs.Ytakpbhijnhpdeaa
