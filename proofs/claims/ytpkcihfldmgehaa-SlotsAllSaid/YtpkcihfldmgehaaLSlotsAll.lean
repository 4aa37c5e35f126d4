/- Proved here: hodmanlaw9.SlotsAll returns true at every bytes, every numbers and bools, in any memory: which places are free is what promise P9.1 asks. No condition. -/
import Derived.Test.YtpkcihfldmgehaaSlotsLaw
import Derived.Test.YtpkcihfldmgehaaUsedSlots
import Derived.Test.YtpkcihfldmgehaaRefSlotsF
import Derived.Test.YtpkcihfldmgehaaRefSlotsG
import Derived.Test.YtpkcihfldmgehaaInts
import Derived.Test.YtpkcihfldmgehaaOpen
namespace Go.Proofs.Ytpkcihfldmgehaa
open Go.ChangeShapes Go.WideShapes Go.ChangeAt Go.RowKit

theorem used_at (a : Option Addr) (len cap : Nat) (zs : List Int) (x y : Int) (N c : Nat) (hx : x = N) (hy : y = c) (hc : Cls N c) (w : World) (h : ∃ W, IsRow .u8 W a len cap zs ∧ Fresh W w) :
    Calls Try.prog 8 #[.slice a len cap, .int .i64 x, .int .i64 y] w fun e w' => ∃ u k p, e = .returned (.agg #[.slice u c k]) ∧ SlotsAt w' (.agg #[.slice u c k]) N c p ∧ Fresh w w' := by
  subst hx hy
  refine (used_any a len cap zs N c hc w h).mono ?_
  rintro e w' ⟨v, p, rfl, s, f⟩
  obtain ⟨_, u, k, rfl, _⟩ := id s
  exact ⟨u, k, p, rfl, s, f⟩
/-- what New tells, of whatever it is asked for -/
def NewV (g m : Int) (w : World) (v : Value) : Prop := (∃ N c : Nat, g = N ∧ m = c ∧ SlotsAt w v N c (fun _ => false)) ∨ ((∀ N c : Nat, g = N → m = c → ¬ Cls N c) ∧ v = noSlots)
theorem NewV.fresh {g m : Int} {w w' : World} {v : Value} (h : NewV g m w v) (k : Fresh w w') : NewV g m w' v := by
  rcases h with ⟨N, c, h1, h2, h3⟩ | h
  · exact .inl ⟨N, c, h1, h2, h3.fresh k⟩
  · exact .inr h
theorem new_cases (g m : Int) : (∃ N c : Nat, g = N ∧ m = c ∧ Cls N c) ∨ ∀ N c : Nat, g = N → m = c → ¬ Cls N c := by
  by_cases h : ∃ N c : Nat, g = N ∧ m = c ∧ Cls N c
  · exact .inl h
  · exact .inr fun N c h1 h2 h3 => h ⟨N, c, h1, h2, h3⟩
theorem snew_any (g m : Int) (w : World) : Calls Try.prog 15 #[.int .i64 g, .int .i64 m] w fun e w' => ∃ v, e = .returned v ∧ NewV g m w' v ∧ Fresh w w' := by
  rcases new_cases g m with ⟨N, c, rfl, rfl, hc⟩ | h
  · refine (snew_ok N c hc w).mono ?_
    rintro e w' ⟨u, rfl, s, f⟩
    exact ⟨u, rfl, .inl ⟨N, c, rfl, rfl, s.at⟩, f⟩
  · refine (snew_no g m h w).mono ?_
    rintro e w' ⟨rfl, f⟩
    exact ⟨_, rfl, .inr ⟨h, rfl⟩, f⟩
theorem rnewV_any (g m : Int) (w : World) : Calls Try.prog 16 #[.int .i64 g, .int .i64 m] w fun e w' => ∃ v, e = .returned v ∧ NewV g m w' v ∧ Fresh w w' := by
  rcases new_cases g m with ⟨N, c, rfl, rfl, hc⟩ | h
  · refine (rnews_ok N c hc w).mono ?_
    rintro e w' ⟨u, rfl, s, f⟩
    exact ⟨u, rfl, .inl ⟨N, c, rfl, rfl, s.at⟩, f⟩
  · refine (rnews_no g m h w).mono ?_
    rintro e w' ⟨rfl, f⟩
    exact ⟨_, rfl, .inr ⟨h, rfl⟩, f⟩
theorem ssame_new (g m : Int) (v u : Value) (w : World) (h : NewV g m w v) (h' : NewV g m w u) : Calls Try.prog 11 #[v, u] w fun e w' => e = .returned (.bool true) ∧ Fresh w w' := by
  rcases h with ⟨N, c, h1, h2, h3⟩ | ⟨h1, rfl⟩
  · rcases h' with ⟨N', c', h1', h2', h3'⟩ | ⟨h1', rfl⟩
    · obtain rfl : N = N' := by omega
      obtain rfl : c = c' := by omega
      exact ssame_true v u N c _ w h3 h3'
    · exact absurd h3.1 (h1' N c h1 h2)
  · rcases h' with ⟨N', c', h1', h2', h3'⟩ | ⟨_, rfl⟩
    · exact absurd h3'.1 (h1 N' c' h1' h2')
    · exact ssame_none w
theorem HasI.fr {w w' : World} {n : Nat} {L : List Int} (h : HasI w n L) (k : Fresh w w') : HasI w' n L := fun i hi => (k.cell (World.block_lt_of_cell? _ _ (h i hi))).trans (h i hi)
/-- what lives on in the law -/
structure Ha (W : World) (S A B : Nat) (ua : Option Addr) (uc N c : Nat) (p : Nat → Bool) (la lb : List Int) (w : World) : Prop where
  s : SV w S ua uc N c p
  a : HasI w A la
  b : HasI w B lb
  el : Fresh W w
theorem Ha.fresh {W : World} {S A B : Nat} {ua : Option Addr} {uc N c : Nat} {p : Nat → Bool} {la lb : List Int} {w w' : World} (h : Ha W S A B ua uc N c p la lb w) (k : Fresh w w') : Ha W S A B ua uc N c p la lb w' := ⟨h.s.fresh k, h.a.fr k, h.b.fr k, h.el.trans k⟩
/-- what a round reads -/
def HeldA (W : World) (S A B : Nat) (ua : Option Addr) (uc c k : Nat) (f m : Int) (w : World) : Prop := w.cell? ⟨S, 0, none⟩ = some (.slice ua c uc) ∧ w.cell? ⟨A, k, none⟩ = some (.int .i64 f) ∧ w.cell? ⟨B, k, none⟩ = some (.int .i64 m) ∧ Fresh W w
theorem HeldA.fresh {W : World} {S A B : Nat} {ua : Option Addr} {uc c k : Nat} {f m : Int} {w w' : World} (h : HeldA W S A B ua uc c k f m w) (j : Fresh w w') : HeldA W S A B ua uc c k f m w' := by
  obtain ⟨x, y, z, t⟩ := h
  exact ⟨(j.cell (World.block_lt_of_cell? _ _ x)).trans x, (j.cell (World.block_lt_of_cell? _ _ y)).trans y, (j.cell (World.block_lt_of_cell? _ _ z)).trans z, t.trans j⟩
def asL (a : Int) : List Int := [a, 0, 5, 16, 100]
def bsL (b : Int) : List Int := [b, 3, 1099511627776, 1, 0]
theorem asL_in (a : Int) (h : a ≤ 9223372036854775807) (k : Nat) (hk : k < 5) : (asL a).getD k 0 ≤ 9223372036854775807 := by
  match k, hk with
  | 0, _ => exact h
  | 1, _ => show (0 : Int) ≤ _; decide
  | 2, _ => show (5 : Int) ≤ _; decide
  | 3, _ => show (16 : Int) ≤ _; decide
  | 4, _ => show (100 : Int) ≤ _; decide
theorem bsL_in (b : Int) (h : b ≤ 9223372036854775807) (k : Nat) (hk : k < 5) : (bsL b).getD k 0 ≤ 9223372036854775807 := by
  match k, hk with
  | 0, _ => exact h
  | 1, _ => show (3 : Int) ≤ _; decide
  | 2, _ => show (1099511627776 : Int) ≤ _; decide
  | 3, _ => show (1 : Int) ≤ _; decide
  | 4, _ => show (0 : Int) ≤ _; decide
theorem cls_all (len n : Nat) (h1 : len ≤ 20) (h2 : 1 ≤ n) (h3 : n ≤ 5) : Cls (16 * (1 + len)) n := by
  refine ⟨h2, by omega, by omega, by omega, ?_⟩
  have : 2 ^ (n - 1) ∣ 2 ^ 4 := Nat.pow_dvd_pow 2 (by omega)
  exact Nat.mod_eq_zero_of_dvd (Nat.dvd_trans this ⟨1 + len, rfl⟩)

set_option maxRecDepth 100000 in
set_option maxHeartbeats 4000000 in
theorem slotsAll_walk0 (a : Option Addr) (len cap : Nat) (zs : List Int) (cl : Int) (cl0 : 0 ≤ cl) (cl1 : cl ≤ 255) (xa : Int) (_xa0 : -9223372036854775808 ≤ xa) (xa1 : xa ≤ 9223372036854775807) (xb : Int) (_xb0 : -9223372036854775808 ≤ xb) (xb1 : xb ≤ 9223372036854775807) (on : Bool) (gr : Int) (gr0 : -9223372036854775808 ≤ gr) (gr1 : gr ≤ 9223372036854775807) (mo : Int) (_mo0 : -9223372036854775808 ≤ mo) (_mo1 : mo ≤ 9223372036854775807) (w : World) (hrow : IsRow .u8 w a len cap zs) :
    Calls Try.prog 3 #[.slice a len cap, .int .u8 cl, .int .i64 xa, .int .i64 xb, .bool on, .int .i64 gr, .int .i64 mo] w fun e w' => e = .returned (.bool true) ∧ Fresh w w' := by
  by_cases h20 : len ≤ 20
  · have l0 : (len : Int) ≤ 20 := by omega
    have l1 : (0 : Int) ≤ (len : Int) := by omega
    have l2 : decide ((20 : Int) < (len : Int)) = false := decide_eq_false (by omega)
    obtain ⟨n, hn⟩ : ∃ n : Nat, 1 + cl % 5 = (n : Int) := ⟨(1 + cl % 5).toNat, by omega⟩
    have CC := hide (cls_all len n h20 (by omega) (by omega))
    have NI := hide (show (16 : Int) * (1 + (len : Int)) = ((16 * (1 + len) : Nat) : Int) by omega)
    have RW := hide hrow
    have n1 : 1 ≤ 1 + cl % 5 := by omega
    have n5 : 1 + cl % 5 ≤ 5 := by omega
    clear hrow h20
    rcases (show gr ≤ 5000 ∨ (5000 < gr ∧ gr ≤ 65536) ∨ (5000 < gr ∧ 65536 < gr) by omega) with hg1 | ⟨hg1, hg2⟩ | ⟨hg1, hg2⟩
    · have hd : decide (5000 < gr) = false := decide_eq_false (by omega)
      go_enter Try.func3, Try.ntmps3
      go_wp2_with fail
      refine (begun9_true _).mono ?_
      rintro e w1 ⟨rfl, k1⟩
      have K1 := hide k1
      clear k1
      go_wp2_with fail
      refine (used_at a len cap zs _ n _ n NI.out rfl CC.out w1 ⟨w, RW.out, K1.out⟩).mono ?_
      rintro e w2 ⟨ua, uc, p, rfl, s2, f2⟩
      obtain ⟨w3, S, hw3, hS, v3, f3⟩ := sv_new s2
      obtain ⟨A, hA⟩ : ∃ A, A = w3.heap.size := ⟨_, rfl⟩
      obtain ⟨B, hB⟩ : ∃ B, B = w3.heap.size + 1 := ⟨_, rfl⟩
      obtain ⟨w4, hw4⟩ : ∃ w4, w4 = w3.alloc (intsO (asL xa) 3) := ⟨_, rfl⟩
      obtain ⟨w5, hw5⟩ : ∃ w5, w5 = w4.alloc (intsO (bsL xb) 3) := ⟨_, rfl⟩
      have f4 : Fresh w3 w4 := by rw [hw4]; exact fresh_box _ _ _
      have f5 : Fresh w4 w5 := by rw [hw5]; exact fresh_box _ _ _
      have H5 := hide (show Ha w S A B ua uc (16 * (1 + len)) n p (asL xa) (bsL xb) w5 from ⟨v3.fresh (f4.trans f5), HasI.fr (by rw [hA, hw4]; exact HasI.made _ _ _) f5, (by rw [hB, hw5, show w3.heap.size + 1 = w4.heap.size by rw [hw4]; simp]; exact HasI.made _ _ _), (K1.out.trans (f2.trans f3)).trans (f4.trans f5)⟩)
      have HW3 := hide hw3
      have HW5 := hide (show w5 = (w3.alloc (.cells #[.int .i64 xa, .int .i64 0, .int .i64 5, .int .i64 16, .int .i64 100] 3)).alloc (.cells #[.int .i64 xb, .int .i64 3, .int .i64 1099511627776, .int .i64 1, .int .i64 0] 3) by rw [hw5, hw4]; rfl)
      have HSS := hide hS
      have HA := hide (show A = w2.heap.size + 1 by rw [hA, hw3]; simp)
      have HB := hide (show B = w2.heap.size + 1 + 1 by rw [hB, hw3]; simp)
      clear s2 f2 v3 f3 hw3 hS hA hB hw4 hw5 f4 f5 K1 RW
      generalize 16 * (1 + len) = N at *
      go_wp2
      rw [← HW3.out, ← HW5.out, ← HB.out, ← HA.out, ← HSS.out]
      go_loopw [19] (fun i wr => ∃ k : Nat, k ≤ 5 ∧ i = .int .i64 (k : Int) ∧ Ha w S A B ua uc N n p (asL xa) (bsL xb) wr) (fun i _ => (5 - intOf i).toNat)
      case atStart => exact ⟨0, Nat.zero_le _, rfl, H5.out⟩
      case round =>
        obtain ⟨k, hk, rfl, hh⟩ := hrel
        have HK := hide hh
        have k0 : (0 : Int) ≤ (k : Int) := by omega
        have s0 := hh.s.cell
        clear hh H5
        by_cases g : k < 5
        · have g' : (k : Int) < 5 := by omega
          have ca := HK.out.a k g
          have cb := HK.out.b k g
          have fi := asL_in xa xa1 k g
          have mi := bsL_in xb xb1 k g
          generalize (asL xa).getD k 0 = f at ca fi
          generalize (bsL xb).getD k 0 = m at cb mi
          have FI := hide fi
          have MI := hide mi
          obtain ⟨X, P, hE⟩ : ∃ X P, foundE (lowS N n p (k : Int)) = .returned (.tuple #[.int .i64 X, .bool P]) := ⟨_, _, rfl⟩
          obtain ⟨Y, Q, hE2⟩ : ∃ X P, foundE (lowS N n p f) = .returned (.tuple #[.int .i64 X, .bool P]) := ⟨_, _, rfl⟩
          have SA := hide HK.out.s.2
          have L1 := hide (fun w' (j : Fresh wr w') => low_any _ N n p (k : Int) w' (SA.out.fresh j))
          have L2 := hide (fun w' (j : Fresh wr w') => rlow_any _ N n p (k : Int) w' (SA.out.fresh j))
          have L3 := hide (fun w' (j : Fresh wr w') => low_any _ N n p f w' (SA.out.fresh j))
          have L4 := hide (fun w' (j : Fresh wr w') => rlow_any _ N n p f w' (SA.out.fresh j))
          rw [hE] at L1 L2
          rw [hE2] at L3 L4
          have U1 := hide (fun w' (j : Fresh wr w') => suse_any _ N n p f m on w' (SA.out.fresh j) MI.out)
          have U2 := hide (fun w' (j : Fresh wr w') => ruse_any _ N n p f m on w' (SA.out.fresh j) FI.out MI.out)
          have H0 := hide (show HeldA wr S A B ua uc n k f m wr from ⟨s0, ca, cb, Fresh.refl _⟩)
          clear ca cb fi mi hE hE2
          go_wp2_with fail
          refine (L1.out _ (Fresh.refl _)).mono ?_
          rintro e w6 ⟨rfl, f6⟩
          have H6 := hide (H0.out.fresh f6)
          clear f6 s0 H0
          obtain ⟨s0, -⟩ := H6.out
          go_wp2_with fail
          refine (L2.out _ H6.out.2.2.2).mono ?_
          rintro e w7 ⟨rfl, f7⟩
          have HS : Hid (HeldA wr S A B ua uc n k f m w7.drew) := (H6.out.fresh f7).fresh (Fresh.refl _).drew
          clear f7 s0 H6
          go_wp2_with fail
          refine wp_region_held (S := HeldA wr S A B ua uc n k f m) (by kernel_rfl) ?_
          change wpAnyH _ _ _ _ _ _ _ _ (World.drew _)
          generalize World.drew w7 = wd at HS ⊢
          refine held_take (i := 0) (d := 73) (v := ?_) rfl rfl (by kernel_rfl) (by kernel_rfl) (by kernel_rfl) (fun _ _ _ h => h) (by kernel_rfl) ?_ HS.out ?_
          rotate_left
          · intro wz hz
            obtain ⟨z0, z1, z2, -⟩ := hz
            go_simp
            first | done | with_reducible rfl
          refine held_take (i := 1) (d := 74) (v := ?_) rfl rfl (by kernel_rfl) (by kernel_rfl) (by kernel_rfl) (fun _ _ _ h => h) (by kernel_rfl) ?_ HS.out ?_
          rotate_left
          · intro wz hz
            obtain ⟨z0, z1, z2, -⟩ := hz
            go_simp
            first | done | with_reducible rfl
          refine held_take (i := 2) (d := 75) (v := ?_) rfl rfl (by kernel_rfl) (by kernel_rfl) (by kernel_rfl) (fun _ _ _ h => h) (by kernel_rfl) ?_ HS.out ?_
          rotate_left
          · intro wz hz
            obtain ⟨z0, z1, z2, -⟩ := hz
            go_simp
            first | done | with_reducible rfl
          refine held_take (i := 3) (d := 76) (v := ?_) rfl rfl (by kernel_rfl) (by kernel_rfl) (by kernel_rfl) (fun _ _ _ h => h) (by kernel_rfl) ?_ HS.out ?_
          rotate_left
          · intro wz hz
            obtain ⟨z0, z1, z2, -⟩ := hz
            go_simp
            first | done | with_reducible rfl
          refine held_take (i := 4) (d := 77) (v := ?_) rfl rfl (by kernel_rfl) (by kernel_rfl) (by kernel_rfl) (fun _ _ _ h => h) (by kernel_rfl) ?_ HS.out ?_
          rotate_left
          · intro wz hz
            obtain ⟨z0, z1, z2, -⟩ := hz
            go_simp
            first | done | with_reducible rfl
          refine wpAnyH_ready (rs := [5]) (by kernel_rfl) (by simp) ?_
          refine AllReadyH.cons rfl (fun K hK => ?_) AllReadyH.nil
          go_simp
          go_wp2_with fail
          refine (L3.out _ HS.out.2.2.2).mono ?_; rintro e w8 ⟨rfl, fx⟩; have HS' := hide (HS.out.fresh fx); clear HS fx; have HS := HS'; clear HS'
          refine hK.out _ _ HS.out (fun _ => ?_)
          clear hK K
          refine held_take (i := 6) (d := 72) (v := ?_) rfl rfl (by kernel_rfl) (by kernel_rfl) (by kernel_rfl) (fun _ _ _ h => h) (by kernel_rfl) ?_ HS.out ?_
          rotate_left
          · intro wz hz
            obtain ⟨z0, z1, z2, -⟩ := hz
            go_simp
            first | done | with_reducible rfl
          refine held_take (i := 7) (d := 79) (v := ?_) rfl rfl (by kernel_rfl) (by kernel_rfl) (by kernel_rfl) (fun _ _ _ h => h) (by kernel_rfl) ?_ HS.out ?_
          rotate_left
          · intro wz hz
            obtain ⟨z0, z1, z2, -⟩ := hz
            go_simp
            first | done | with_reducible rfl
          refine held_take (i := 8) (d := 80) (v := ?_) rfl rfl (by kernel_rfl) (by kernel_rfl) (by kernel_rfl) (fun _ _ _ h => h) (by kernel_rfl) ?_ HS.out ?_
          rotate_left
          · intro wz hz
            obtain ⟨z0, z1, z2, -⟩ := hz
            go_simp
            first | done | with_reducible rfl
          refine held_take (i := 9) (d := 24) (v := ?_) rfl rfl (by kernel_rfl) (by kernel_rfl) (by kernel_rfl) (fun _ _ _ h => h) (by kernel_rfl) ?_ HS.out ?_
          rotate_left
          · intro wz hz
            obtain ⟨z0, z1, z2, -⟩ := hz
            go_simp
            first | done | with_reducible rfl
          refine held_take (i := 10) (d := 25) (v := ?_) rfl rfl (by kernel_rfl) (by kernel_rfl) (by kernel_rfl) (fun _ _ _ h => h) (by kernel_rfl) ?_ HS.out ?_
          rotate_left
          · intro wz hz
            obtain ⟨z0, z1, z2, -⟩ := hz
            go_simp
            first | done | with_reducible rfl
          refine wpAnyH_done (by kernel_rfl) ?_ _
          try simp only [Act.put, List.setIfInBounds_toArray, List.set_cons_succ, List.set_cons_zero]
          have H8 := HS
          clear HS
          have HS : Hid (HeldA wr S A B ua uc n k f m w8.drew) := H8.out.fresh (Fresh.refl _).drew
          go_wp2_with fail
          refine wp_region_held (S := HeldA wr S A B ua uc n k f m) (by kernel_rfl) ?_
          change wpAnyH _ _ _ _ _ _ _ _ (World.drew _)
          generalize World.drew w8 = we at HS ⊢
          refine held_take (i := 0) (d := 82) (v := ?_) rfl rfl (by kernel_rfl) (by kernel_rfl) (by kernel_rfl) (fun _ _ _ h => h) (by kernel_rfl) ?_ HS.out ?_
          rotate_left
          · intro wz hz
            obtain ⟨z0, z1, z2, -⟩ := hz
            go_simp
            first | done | with_reducible rfl
          refine held_take (i := 1) (d := 83) (v := ?_) rfl rfl (by kernel_rfl) (by kernel_rfl) (by kernel_rfl) (fun _ _ _ h => h) (by kernel_rfl) ?_ HS.out ?_
          rotate_left
          · intro wz hz
            obtain ⟨z0, z1, z2, -⟩ := hz
            go_simp
            first | done | with_reducible rfl
          refine held_take (i := 2) (d := 84) (v := ?_) rfl rfl (by kernel_rfl) (by kernel_rfl) (by kernel_rfl) (fun _ _ _ h => h) (by kernel_rfl) ?_ HS.out ?_
          rotate_left
          · intro wz hz
            obtain ⟨z0, z1, z2, -⟩ := hz
            go_simp
            first | done | with_reducible rfl
          refine held_take (i := 3) (d := 85) (v := ?_) rfl rfl (by kernel_rfl) (by kernel_rfl) (by kernel_rfl) (fun _ _ _ h => h) (by kernel_rfl) ?_ HS.out ?_
          rotate_left
          · intro wz hz
            obtain ⟨z0, z1, z2, -⟩ := hz
            go_simp
            first | done | with_reducible rfl
          refine held_take (i := 4) (d := 86) (v := ?_) rfl rfl (by kernel_rfl) (by kernel_rfl) (by kernel_rfl) (fun _ _ _ h => h) (by kernel_rfl) ?_ HS.out ?_
          rotate_left
          · intro wz hz
            obtain ⟨z0, z1, z2, -⟩ := hz
            go_simp
            first | done | with_reducible rfl
          refine wpAnyH_ready (rs := [5]) (by kernel_rfl) (by simp) ?_
          refine AllReadyH.cons rfl (fun K hK => ?_) AllReadyH.nil
          go_simp
          go_wp2_with fail
          refine (L4.out _ HS.out.2.2.2).mono ?_; rintro e w9 ⟨rfl, fx⟩; have HS' := hide (HS.out.fresh fx); clear HS fx; have HS := HS'; clear HS'
          refine hK.out _ _ HS.out (fun _ => ?_)
          clear hK K
          refine held_take (i := 6) (d := 81) (v := ?_) rfl rfl (by kernel_rfl) (by kernel_rfl) (by kernel_rfl) (fun _ _ _ h => h) (by kernel_rfl) ?_ HS.out ?_
          rotate_left
          · intro wz hz
            obtain ⟨z0, z1, z2, -⟩ := hz
            go_simp
            first | done | with_reducible rfl
          refine held_take (i := 7) (d := 88) (v := ?_) rfl rfl (by kernel_rfl) (by kernel_rfl) (by kernel_rfl) (fun _ _ _ h => h) (by kernel_rfl) ?_ HS.out ?_
          rotate_left
          · intro wz hz
            obtain ⟨z0, z1, z2, -⟩ := hz
            go_simp
            first | done | with_reducible rfl
          refine held_take (i := 8) (d := 89) (v := ?_) rfl rfl (by kernel_rfl) (by kernel_rfl) (by kernel_rfl) (fun _ _ _ h => h) (by kernel_rfl) ?_ HS.out ?_
          rotate_left
          · intro wz hz
            obtain ⟨z0, z1, z2, -⟩ := hz
            go_simp
            first | done | with_reducible rfl
          refine held_take (i := 9) (d := 26) (v := ?_) rfl rfl (by kernel_rfl) (by kernel_rfl) (by kernel_rfl) (fun _ _ _ h => h) (by kernel_rfl) ?_ HS.out ?_
          rotate_left
          · intro wz hz
            obtain ⟨z0, z1, z2, -⟩ := hz
            go_simp
            first | done | with_reducible rfl
          refine held_take (i := 10) (d := 27) (v := ?_) rfl rfl (by kernel_rfl) (by kernel_rfl) (by kernel_rfl) (fun _ _ _ h => h) (by kernel_rfl) ?_ HS.out ?_
          rotate_left
          · intro wz hz
            obtain ⟨z0, z1, z2, -⟩ := hz
            go_simp
            first | done | with_reducible rfl
          refine wpAnyH_done (by kernel_rfl) ?_ _
          try simp only [Act.put, List.setIfInBounds_toArray, List.set_cons_succ, List.set_cons_zero]
          have H9 := HS
          clear HS H8
          have HS : Hid (HeldA wr S A B ua uc n k f m w9.drew) := H9.out.fresh (Fresh.refl _).drew
          go_wp2_with fail
          refine wp_region_held (S := HeldA wr S A B ua uc n k f m) (by kernel_rfl) ?_
          change wpAnyH _ _ _ _ _ _ _ _ (World.drew _)
          generalize World.drew w9 = wf at HS ⊢
          refine held_take (i := 0) (d := 90) (v := ?_) rfl rfl (by kernel_rfl) (by kernel_rfl) (by kernel_rfl) (fun _ _ _ h => h) (by kernel_rfl) ?_ HS.out ?_
          rotate_left
          · intro wz hz
            obtain ⟨z0, z1, z2, -⟩ := hz
            go_simp
            first | done | with_reducible rfl
          refine held_take (i := 1) (d := 91) (v := ?_) rfl rfl (by kernel_rfl) (by kernel_rfl) (by kernel_rfl) (fun _ _ _ h => h) (by kernel_rfl) ?_ HS.out ?_
          rotate_left
          · intro wz hz
            obtain ⟨z0, z1, z2, -⟩ := hz
            go_simp
            first | done | with_reducible rfl
          refine held_take (i := 2) (d := 92) (v := ?_) rfl rfl (by kernel_rfl) (by kernel_rfl) (by kernel_rfl) (fun _ _ _ h => h) (by kernel_rfl) ?_ HS.out ?_
          rotate_left
          · intro wz hz
            obtain ⟨z0, z1, z2, -⟩ := hz
            go_simp
            first | done | with_reducible rfl
          refine held_take (i := 3) (d := 93) (v := ?_) rfl rfl (by kernel_rfl) (by kernel_rfl) (by kernel_rfl) (fun _ _ _ h => h) (by kernel_rfl) ?_ HS.out ?_
          rotate_left
          · intro wz hz
            obtain ⟨z0, z1, z2, -⟩ := hz
            go_simp
            first | done | with_reducible rfl
          refine held_take (i := 4) (d := 94) (v := ?_) rfl rfl (by kernel_rfl) (by kernel_rfl) (by kernel_rfl) (fun _ _ _ h => h) (by kernel_rfl) ?_ HS.out ?_
          rotate_left
          · intro wz hz
            obtain ⟨z0, z1, z2, -⟩ := hz
            go_simp
            first | done | with_reducible rfl
          refine held_take (i := 5) (d := 95) (v := ?_) rfl rfl (by kernel_rfl) (by kernel_rfl) (by kernel_rfl) (fun _ _ _ h => h) (by kernel_rfl) ?_ HS.out ?_
          rotate_left
          · intro wz hz
            obtain ⟨z0, z1, z2, -⟩ := hz
            go_simp
            first | done | with_reducible rfl
          refine held_take (i := 6) (d := 96) (v := ?_) rfl rfl (by kernel_rfl) (by kernel_rfl) (by kernel_rfl) (fun _ _ _ h => h) (by kernel_rfl) ?_ HS.out ?_
          rotate_left
          · intro wz hz
            obtain ⟨z0, z1, z2, -⟩ := hz
            go_simp
            first | done | with_reducible rfl
          refine held_take (i := 7) (d := 97) (v := ?_) rfl rfl (by kernel_rfl) (by kernel_rfl) (by kernel_rfl) (fun _ _ _ h => h) (by kernel_rfl) ?_ HS.out ?_
          rotate_left
          · intro wz hz
            obtain ⟨z0, z1, z2, -⟩ := hz
            go_simp
            first | done | with_reducible rfl
          refine held_take (i := 8) (d := 98) (v := ?_) rfl rfl (by kernel_rfl) (by kernel_rfl) (by kernel_rfl) (fun _ _ _ h => h) (by kernel_rfl) ?_ HS.out ?_
          rotate_left
          · intro wz hz
            obtain ⟨z0, z1, z2, -⟩ := hz
            go_simp
            first | done | with_reducible rfl
          refine held_take (i := 9) (d := 99) (v := ?_) rfl rfl (by kernel_rfl) (by kernel_rfl) (by kernel_rfl) (fun _ _ _ h => h) (by kernel_rfl) ?_ HS.out ?_
          rotate_left
          · intro wz hz
            obtain ⟨z0, z1, z2, -⟩ := hz
            go_simp
            first | done | with_reducible rfl
          refine held_take (i := 10) (d := 100) (v := ?_) rfl rfl (by kernel_rfl) (by kernel_rfl) (by kernel_rfl) (fun _ _ _ h => h) (by kernel_rfl) ?_ HS.out ?_
          rotate_left
          · intro wz hz
            obtain ⟨z0, z1, z2, -⟩ := hz
            go_simp
            first | done | with_reducible rfl
          refine held_take (i := 11) (d := 101) (v := ?_) rfl rfl (by kernel_rfl) (by kernel_rfl) (by kernel_rfl) (fun _ _ _ h => h) (by kernel_rfl) ?_ HS.out ?_
          rotate_left
          · intro wz hz
            obtain ⟨z0, z1, z2, -⟩ := hz
            go_simp
            first | done | with_reducible rfl
          refine held_take (i := 12) (d := 102) (v := ?_) rfl rfl (by kernel_rfl) (by kernel_rfl) (by kernel_rfl) (fun _ _ _ h => h) (by kernel_rfl) ?_ HS.out ?_
          rotate_left
          · intro wz hz
            obtain ⟨z0, z1, z2, -⟩ := hz
            go_simp
            first | done | with_reducible rfl
          refine held_take (i := 13) (d := 103) (v := ?_) rfl rfl (by kernel_rfl) (by kernel_rfl) (by kernel_rfl) (fun _ _ _ h => h) (by kernel_rfl) ?_ HS.out ?_
          rotate_left
          · intro wz hz
            obtain ⟨z0, z1, z2, -⟩ := hz
            go_simp
            first | done | with_reducible rfl
          refine held_take (i := 14) (d := 104) (v := ?_) rfl rfl (by kernel_rfl) (by kernel_rfl) (by kernel_rfl) (fun _ _ _ h => h) (by kernel_rfl) ?_ HS.out ?_
          rotate_left
          · intro wz hz
            obtain ⟨z0, z1, z2, -⟩ := hz
            go_simp
            first | done | with_reducible rfl
          refine held_take (i := 15) (d := 105) (v := ?_) rfl rfl (by kernel_rfl) (by kernel_rfl) (by kernel_rfl) (fun _ _ _ h => h) (by kernel_rfl) ?_ HS.out ?_
          rotate_left
          · intro wz hz
            obtain ⟨z0, z1, z2, -⟩ := hz
            go_simp
            first | done | with_reducible rfl
          refine held_take (i := 16) (d := 106) (v := ?_) rfl rfl (by kernel_rfl) (by kernel_rfl) (by kernel_rfl) (fun _ _ _ h => h) (by kernel_rfl) ?_ HS.out ?_
          rotate_left
          · intro wz hz
            obtain ⟨z0, z1, z2, -⟩ := hz
            go_simp
            first | done | with_reducible rfl
          refine held_take (i := 17) (d := 107) (v := ?_) rfl rfl (by kernel_rfl) (by kernel_rfl) (by kernel_rfl) (fun _ _ _ h => h) (by kernel_rfl) ?_ HS.out ?_
          rotate_left
          · intro wz hz
            obtain ⟨z0, z1, z2, -⟩ := hz
            go_simp
            first | done | with_reducible rfl
          refine held_take (i := 18) (d := 108) (v := ?_) rfl rfl (by kernel_rfl) (by kernel_rfl) (by kernel_rfl) (fun _ _ _ h => h) (by kernel_rfl) ?_ HS.out ?_
          rotate_left
          · intro wz hz
            obtain ⟨z0, z1, z2, -⟩ := hz
            go_simp
            first | done | with_reducible rfl
          refine held_take (i := 19) (d := 109) (v := ?_) rfl rfl (by kernel_rfl) (by kernel_rfl) (by kernel_rfl) (fun _ _ _ h => h) (by kernel_rfl) ?_ HS.out ?_
          rotate_left
          · intro wz hz
            obtain ⟨z0, z1, z2, -⟩ := hz
            go_simp
            first | done | with_reducible rfl
          refine held_take (i := 20) (d := 110) (v := ?_) rfl rfl (by kernel_rfl) (by kernel_rfl) (by kernel_rfl) (fun _ _ _ h => h) (by kernel_rfl) ?_ HS.out ?_
          rotate_left
          · intro wz hz
            obtain ⟨z0, z1, z2, -⟩ := hz
            go_simp
            first | done | with_reducible rfl
          refine held_take (i := 21) (d := 111) (v := ?_) rfl rfl (by kernel_rfl) (by kernel_rfl) (by kernel_rfl) (fun _ _ _ h => h) (by kernel_rfl) ?_ HS.out ?_
          rotate_left
          · intro wz hz
            obtain ⟨z0, z1, z2, -⟩ := hz
            go_simp
            first | done | with_reducible rfl
          refine held_take (i := 22) (d := 112) (v := ?_) rfl rfl (by kernel_rfl) (by kernel_rfl) (by kernel_rfl) (fun _ _ _ h => h) (by kernel_rfl) ?_ HS.out ?_
          rotate_left
          · intro wz hz
            obtain ⟨z0, z1, z2, -⟩ := hz
            go_simp
            first | done | with_reducible rfl
          refine held_take (i := 23) (d := 113) (v := ?_) rfl rfl (by kernel_rfl) (by kernel_rfl) (by kernel_rfl) (fun _ _ _ h => h) (by kernel_rfl) ?_ HS.out ?_
          rotate_left
          · intro wz hz
            obtain ⟨z0, z1, z2, -⟩ := hz
            go_simp
            first | done | with_reducible rfl
          refine held_take (i := 24) (d := 114) (v := ?_) rfl rfl (by kernel_rfl) (by kernel_rfl) (by kernel_rfl) (fun _ _ _ h => h) (by kernel_rfl) ?_ HS.out ?_
          rotate_left
          · intro wz hz
            obtain ⟨z0, z1, z2, -⟩ := hz
            go_simp
            first | done | with_reducible rfl
          refine held_take (i := 25) (d := 115) (v := ?_) rfl rfl (by kernel_rfl) (by kernel_rfl) (by kernel_rfl) (fun _ _ _ h => h) (by kernel_rfl) ?_ HS.out ?_
          rotate_left
          · intro wz hz
            obtain ⟨z0, z1, z2, -⟩ := hz
            go_simp
            first | done | with_reducible rfl
          refine held_take (i := 26) (d := 116) (v := ?_) rfl rfl (by kernel_rfl) (by kernel_rfl) (by kernel_rfl) (fun _ _ _ h => h) (by kernel_rfl) ?_ HS.out ?_
          rotate_left
          · intro wz hz
            obtain ⟨z0, z1, z2, -⟩ := hz
            go_simp
            first | done | with_reducible rfl
          refine held_take (i := 27) (d := 117) (v := ?_) rfl rfl (by kernel_rfl) (by kernel_rfl) (by kernel_rfl) (fun _ _ _ h => h) (by kernel_rfl) ?_ HS.out ?_
          rotate_left
          · intro wz hz
            obtain ⟨z0, z1, z2, -⟩ := hz
            go_simp
            first | done | with_reducible rfl
          refine held_take (i := 28) (d := 118) (v := ?_) rfl rfl (by kernel_rfl) (by kernel_rfl) (by kernel_rfl) (fun _ _ _ h => h) (by kernel_rfl) ?_ HS.out ?_
          rotate_left
          · intro wz hz
            obtain ⟨z0, z1, z2, -⟩ := hz
            go_simp
            first | done | with_reducible rfl
          refine held_take (i := 30) (d := 120) (v := ?_) rfl rfl (by kernel_rfl) (by kernel_rfl) (by kernel_rfl) (fun _ _ _ h => h) (by kernel_rfl) ?_ HS.out ?_
          rotate_left
          · intro wz hz
            obtain ⟨z0, z1, z2, -⟩ := hz
            go_simp
            first | done | with_reducible rfl
          refine held_take (i := 31) (d := 121) (v := ?_) rfl rfl (by kernel_rfl) (by kernel_rfl) (by kernel_rfl) (fun _ _ _ h => h) (by kernel_rfl) ?_ HS.out ?_
          rotate_left
          · intro wz hz
            obtain ⟨z0, z1, z2, -⟩ := hz
            go_simp
            first | done | with_reducible rfl
          refine held_take (i := 32) (d := 122) (v := ?_) rfl rfl (by kernel_rfl) (by kernel_rfl) (by kernel_rfl) (fun _ _ _ h => h) (by kernel_rfl) ?_ HS.out ?_
          rotate_left
          · intro wz hz
            obtain ⟨z0, z1, z2, -⟩ := hz
            go_simp
            first | done | with_reducible rfl
          refine held_take (i := 33) (d := 123) (v := ?_) rfl rfl (by kernel_rfl) (by kernel_rfl) (by kernel_rfl) (fun _ _ _ h => h) (by kernel_rfl) ?_ HS.out ?_
          rotate_left
          · intro wz hz
            obtain ⟨z0, z1, z2, -⟩ := hz
            go_simp
            first | done | with_reducible rfl
          refine held_take (i := 34) (d := 124) (v := ?_) rfl rfl (by kernel_rfl) (by kernel_rfl) (by kernel_rfl) (fun _ _ _ h => h) (by kernel_rfl) ?_ HS.out ?_
          rotate_left
          · intro wz hz
            obtain ⟨z0, z1, z2, -⟩ := hz
            go_simp
            first | done | with_reducible rfl
          refine held_take (i := 35) (d := 125) (v := ?_) rfl rfl (by kernel_rfl) (by kernel_rfl) (by kernel_rfl) (fun _ _ _ h => h) (by kernel_rfl) ?_ HS.out ?_
          rotate_left
          · intro wz hz
            obtain ⟨z0, z1, z2, -⟩ := hz
            go_simp
            first | done | with_reducible rfl
          refine held_take (i := 36) (d := 126) (v := ?_) rfl rfl (by kernel_rfl) (by kernel_rfl) (by kernel_rfl) (fun _ _ _ h => h) (by kernel_rfl) ?_ HS.out ?_
          rotate_left
          · intro wz hz
            obtain ⟨z0, z1, z2, -⟩ := hz
            go_simp
            first | done | with_reducible rfl
          refine held_take (i := 37) (d := 127) (v := ?_) rfl rfl (by kernel_rfl) (by kernel_rfl) (by kernel_rfl) (fun _ _ _ h => h) (by kernel_rfl) ?_ HS.out ?_
          rotate_left
          · intro wz hz
            obtain ⟨z0, z1, z2, -⟩ := hz
            go_simp
            first | done | with_reducible rfl
          refine held_take (i := 38) (d := 128) (v := ?_) rfl rfl (by kernel_rfl) (by kernel_rfl) (by kernel_rfl) (fun _ _ _ h => h) (by kernel_rfl) ?_ HS.out ?_
          rotate_left
          · intro wz hz
            obtain ⟨z0, z1, z2, -⟩ := hz
            go_simp
            first | done | with_reducible rfl
          refine held_take (i := 39) (d := 129) (v := ?_) rfl rfl (by kernel_rfl) (by kernel_rfl) (by kernel_rfl) (fun _ _ _ h => h) (by kernel_rfl) ?_ HS.out ?_
          rotate_left
          · intro wz hz
            obtain ⟨z0, z1, z2, -⟩ := hz
            go_simp
            first | done | with_reducible rfl
          refine wpAnyH_ready (rs := [29]) (by kernel_rfl) (by simp) ?_
          refine AllReadyH.cons rfl (fun K hK => ?_) AllReadyH.nil
          go_simp
          go_wp2_with fail
          refine (U1.out _ HS.out.2.2.2).mono ?_; rintro e w10 ⟨v1, rfl, t1, fx⟩; have T1 := hide t1.at; have HS' := hide (HS.out.fresh fx); clear HS fx t1; have HS := HS'; clear HS'
          refine hK.out _ _ HS.out (fun _ => ?_)
          clear hK K
          refine wpAnyH_ready (rs := [40]) (by kernel_rfl) (by simp) ?_
          refine AllReadyH.cons rfl (fun K hK => ?_) AllReadyH.nil
          go_simp
          go_wp2_with fail
          refine (U2.out _ HS.out.2.2.2).mono ?_; rintro e w11 ⟨v2, rfl, t2, fx⟩; have T2 := hide t2.at; have T1' := hide (T1.out.fresh fx); have HS' := hide (HS.out.fresh fx); clear HS fx t2 T1; have HS := HS'; clear HS'
          refine hK.out _ _ HS.out (fun _ => ?_)
          clear hK K
          refine wpAnyH_ready (rs := [41]) (by kernel_rfl) (by simp) ?_
          refine AllReadyH.cons rfl (fun K hK => ?_) AllReadyH.nil
          go_simp
          go_wp2_with fail
          refine (ssame_true _ _ N n _ _ T1'.out T2.out).mono ?_; rintro e w12 ⟨rfl, fx⟩; have HS' := hide (HS.out.fresh fx); clear HS fx; have HS := HS'; clear HS'
          refine hK.out _ _ HS.out (fun _ => ?_)
          clear hK K
          refine held_take (i := 42) (d := 132) (v := ?_) rfl rfl (by kernel_rfl) (by kernel_rfl) (by kernel_rfl) (fun _ _ _ h => h) (by kernel_rfl) ?_ HS.out ?_
          rotate_left
          · intro wz hz
            obtain ⟨z0, z1, z2, -⟩ := hz
            go_simp
            first | done | with_reducible rfl
          refine held_take (i := 43) (d := 133) (v := ?_) rfl rfl (by kernel_rfl) (by kernel_rfl) (by kernel_rfl) (fun _ _ _ h => h) (by kernel_rfl) ?_ HS.out ?_
          rotate_left
          · intro wz hz
            obtain ⟨z0, z1, z2, -⟩ := hz
            go_simp
            first | done | with_reducible rfl
          refine wpAnyH_done (by kernel_rfl) ?_ _
          try simp only [Act.put, List.setIfInBounds_toArray, List.set_cons_succ, List.set_cons_zero]
          go_wp2
          go_roundw
          case rel => exact ⟨k + 1, by omega, by go_num, HK.out.fresh HS.out.2.2.2⟩
          case measure => simp [intOf]; omega
        · obtain rfl : k = 5 := by omega
          have F0 := hide HK.out.el
          have SA := hide HK.out.s.2
          clear HK
          go_wp2_with fail
          refine (smay_true _ N n p _ SA.out).mono ?_
          rintro e w6 ⟨rfl, f6⟩
          have F6 := hide (F0.out.trans f6)
          clear f6 s0 F0
          go_wp2_with fail
          refine (snew_any gr mo _).mono ?_
          rintro e w7 ⟨v7, rfl, n7, f7⟩
          have N7 := hide n7
          have F7 := hide (F6.out.trans f7)
          clear f7 F6 n7
          go_wp2_with fail
          refine (rnewV_any gr mo _).mono ?_
          rintro e w8 ⟨v8, rfl, n8, f8⟩
          have N8 := hide n8
          have N7' := hide (N7.out.fresh f8)
          have F8 := hide (F7.out.trans f8)
          clear f8 F7 n8 N7
          go_wp2_with fail
          refine (ssame_new gr mo _ _ _ N7'.out N8.out).mono ?_
          rintro e w9 ⟨rfl, f9⟩
          have F9 := hide (F8.out.trans f9)
          clear f9 F8 N7' N8
          go_wp2_with fail
          refine (snew_any 96 mo _).mono ?_
          rintro e w10 ⟨v10, rfl, n10, f10⟩
          have N10 := hide n10
          have F10 := hide (F9.out.trans f10)
          clear f10 F9 n10
          go_wp2_with fail
          refine (rnewV_any 96 mo _).mono ?_
          rintro e w11 ⟨v11, rfl, n11, f11⟩
          have N11 := hide n11
          have N10' := hide (N10.out.fresh f11)
          have F11 := hide (F10.out.trans f11)
          clear f11 F10 n11 N10
          go_wp2_with fail
          refine (ssame_new 96 mo _ _ _ N10'.out N11.out).mono ?_
          rintro e w12 ⟨rfl, f12⟩
          have F12 := hide (F11.out.trans f12)
          clear f12 F11 N10' N11
          go_wp2
          go_ret
          exact ⟨rfl, F12.out⟩
    · have hd : decide (5000 < gr) = true := decide_eq_true hg1
      have hd2 : decide (gr ≤ 65536) = true := decide_eq_true hg2
      go_enter Try.func3, Try.ntmps3
      go_wp2_with fail
      refine (begun9_true _).mono ?_
      rintro e w1 ⟨rfl, k1⟩
      have K1 := hide k1
      clear k1
      go_wp2
      go_ret
      exact ⟨rfl, K1.out⟩
    · have hd : decide (5000 < gr) = true := decide_eq_true hg1
      have hd2 : decide (gr ≤ 65536) = false := decide_eq_false (by omega)
      go_enter Try.func3, Try.ntmps3
      go_wp2_with fail
      refine (begun9_true _).mono ?_
      rintro e w1 ⟨rfl, k1⟩
      have K1 := hide k1
      clear k1
      go_wp2_with fail
      refine (used_at a len cap zs _ n _ n NI.out rfl CC.out w1 ⟨w, RW.out, K1.out⟩).mono ?_
      rintro e w2 ⟨ua, uc, p, rfl, s2, f2⟩
      obtain ⟨w3, S, hw3, hS, v3, f3⟩ := sv_new s2
      obtain ⟨A, hA⟩ : ∃ A, A = w3.heap.size := ⟨_, rfl⟩
      obtain ⟨B, hB⟩ : ∃ B, B = w3.heap.size + 1 := ⟨_, rfl⟩
      obtain ⟨w4, hw4⟩ : ∃ w4, w4 = w3.alloc (intsO (asL xa) 3) := ⟨_, rfl⟩
      obtain ⟨w5, hw5⟩ : ∃ w5, w5 = w4.alloc (intsO (bsL xb) 3) := ⟨_, rfl⟩
      have f4 : Fresh w3 w4 := by rw [hw4]; exact fresh_box _ _ _
      have f5 : Fresh w4 w5 := by rw [hw5]; exact fresh_box _ _ _
      have H5 := hide (show Ha w S A B ua uc (16 * (1 + len)) n p (asL xa) (bsL xb) w5 from ⟨v3.fresh (f4.trans f5), HasI.fr (by rw [hA, hw4]; exact HasI.made _ _ _) f5, (by rw [hB, hw5, show w3.heap.size + 1 = w4.heap.size by rw [hw4]; simp]; exact HasI.made _ _ _), (K1.out.trans (f2.trans f3)).trans (f4.trans f5)⟩)
      have HW3 := hide hw3
      have HW5 := hide (show w5 = (w3.alloc (.cells #[.int .i64 xa, .int .i64 0, .int .i64 5, .int .i64 16, .int .i64 100] 3)).alloc (.cells #[.int .i64 xb, .int .i64 3, .int .i64 1099511627776, .int .i64 1, .int .i64 0] 3) by rw [hw5, hw4]; rfl)
      have HSS := hide hS
      have HA := hide (show A = w2.heap.size + 1 by rw [hA, hw3]; simp)
      have HB := hide (show B = w2.heap.size + 1 + 1 by rw [hB, hw3]; simp)
      clear s2 f2 v3 f3 hw3 hS hA hB hw4 hw5 f4 f5 K1 RW
      generalize 16 * (1 + len) = N at *
      go_wp2
      rw [← HW3.out, ← HW5.out, ← HB.out, ← HA.out, ← HSS.out]
      go_loopw [19] (fun i wr => ∃ k : Nat, k ≤ 5 ∧ i = .int .i64 (k : Int) ∧ Ha w S A B ua uc N n p (asL xa) (bsL xb) wr) (fun i _ => (5 - intOf i).toNat)
      case atStart => exact ⟨0, Nat.zero_le _, rfl, H5.out⟩
      case round =>
        obtain ⟨k, hk, rfl, hh⟩ := hrel
        have HK := hide hh
        have k0 : (0 : Int) ≤ (k : Int) := by omega
        have s0 := hh.s.cell
        clear hh H5
        by_cases g : k < 5
        · have g' : (k : Int) < 5 := by omega
          have ca := HK.out.a k g
          have cb := HK.out.b k g
          have fi := asL_in xa xa1 k g
          have mi := bsL_in xb xb1 k g
          generalize (asL xa).getD k 0 = f at ca fi
          generalize (bsL xb).getD k 0 = m at cb mi
          have FI := hide fi
          have MI := hide mi
          obtain ⟨X, P, hE⟩ : ∃ X P, foundE (lowS N n p (k : Int)) = .returned (.tuple #[.int .i64 X, .bool P]) := ⟨_, _, rfl⟩
          obtain ⟨Y, Q, hE2⟩ : ∃ X P, foundE (lowS N n p f) = .returned (.tuple #[.int .i64 X, .bool P]) := ⟨_, _, rfl⟩
          have SA := hide HK.out.s.2
          have L1 := hide (fun w' (j : Fresh wr w') => low_any _ N n p (k : Int) w' (SA.out.fresh j))
          have L2 := hide (fun w' (j : Fresh wr w') => rlow_any _ N n p (k : Int) w' (SA.out.fresh j))
          have L3 := hide (fun w' (j : Fresh wr w') => low_any _ N n p f w' (SA.out.fresh j))
          have L4 := hide (fun w' (j : Fresh wr w') => rlow_any _ N n p f w' (SA.out.fresh j))
          rw [hE] at L1 L2
          rw [hE2] at L3 L4
          have U1 := hide (fun w' (j : Fresh wr w') => suse_any _ N n p f m on w' (SA.out.fresh j) MI.out)
          have U2 := hide (fun w' (j : Fresh wr w') => ruse_any _ N n p f m on w' (SA.out.fresh j) FI.out MI.out)
          have H0 := hide (show HeldA wr S A B ua uc n k f m wr from ⟨s0, ca, cb, Fresh.refl _⟩)
          clear ca cb fi mi hE hE2
          go_wp2_with fail
          refine (L1.out _ (Fresh.refl _)).mono ?_
          rintro e w6 ⟨rfl, f6⟩
          have H6 := hide (H0.out.fresh f6)
          clear f6 s0 H0
          obtain ⟨s0, -⟩ := H6.out
          go_wp2_with fail
          refine (L2.out _ H6.out.2.2.2).mono ?_
          rintro e w7 ⟨rfl, f7⟩
          have HS : Hid (HeldA wr S A B ua uc n k f m w7.drew) := (H6.out.fresh f7).fresh (Fresh.refl _).drew
          clear f7 s0 H6
          go_wp2_with fail
          refine wp_region_held (S := HeldA wr S A B ua uc n k f m) (by kernel_rfl) ?_
          change wpAnyH _ _ _ _ _ _ _ _ (World.drew _)
          generalize World.drew w7 = wd at HS ⊢
          refine held_take (i := 0) (d := 73) (v := ?_) rfl rfl (by kernel_rfl) (by kernel_rfl) (by kernel_rfl) (fun _ _ _ h => h) (by kernel_rfl) ?_ HS.out ?_
          rotate_left
          · intro wz hz
            obtain ⟨z0, z1, z2, -⟩ := hz
            go_simp
            first | done | with_reducible rfl
          refine held_take (i := 1) (d := 74) (v := ?_) rfl rfl (by kernel_rfl) (by kernel_rfl) (by kernel_rfl) (fun _ _ _ h => h) (by kernel_rfl) ?_ HS.out ?_
          rotate_left
          · intro wz hz
            obtain ⟨z0, z1, z2, -⟩ := hz
            go_simp
            first | done | with_reducible rfl
          refine held_take (i := 2) (d := 75) (v := ?_) rfl rfl (by kernel_rfl) (by kernel_rfl) (by kernel_rfl) (fun _ _ _ h => h) (by kernel_rfl) ?_ HS.out ?_
          rotate_left
          · intro wz hz
            obtain ⟨z0, z1, z2, -⟩ := hz
            go_simp
            first | done | with_reducible rfl
          refine held_take (i := 3) (d := 76) (v := ?_) rfl rfl (by kernel_rfl) (by kernel_rfl) (by kernel_rfl) (fun _ _ _ h => h) (by kernel_rfl) ?_ HS.out ?_
          rotate_left
          · intro wz hz
            obtain ⟨z0, z1, z2, -⟩ := hz
            go_simp
            first | done | with_reducible rfl
          refine held_take (i := 4) (d := 77) (v := ?_) rfl rfl (by kernel_rfl) (by kernel_rfl) (by kernel_rfl) (fun _ _ _ h => h) (by kernel_rfl) ?_ HS.out ?_
          rotate_left
          · intro wz hz
            obtain ⟨z0, z1, z2, -⟩ := hz
            go_simp
            first | done | with_reducible rfl
          refine wpAnyH_ready (rs := [5]) (by kernel_rfl) (by simp) ?_
          refine AllReadyH.cons rfl (fun K hK => ?_) AllReadyH.nil
          go_simp
          go_wp2_with fail
          refine (L3.out _ HS.out.2.2.2).mono ?_; rintro e w8 ⟨rfl, fx⟩; have HS' := hide (HS.out.fresh fx); clear HS fx; have HS := HS'; clear HS'
          refine hK.out _ _ HS.out (fun _ => ?_)
          clear hK K
          refine held_take (i := 6) (d := 72) (v := ?_) rfl rfl (by kernel_rfl) (by kernel_rfl) (by kernel_rfl) (fun _ _ _ h => h) (by kernel_rfl) ?_ HS.out ?_
          rotate_left
          · intro wz hz
            obtain ⟨z0, z1, z2, -⟩ := hz
            go_simp
            first | done | with_reducible rfl
          refine held_take (i := 7) (d := 79) (v := ?_) rfl rfl (by kernel_rfl) (by kernel_rfl) (by kernel_rfl) (fun _ _ _ h => h) (by kernel_rfl) ?_ HS.out ?_
          rotate_left
          · intro wz hz
            obtain ⟨z0, z1, z2, -⟩ := hz
            go_simp
            first | done | with_reducible rfl
          refine held_take (i := 8) (d := 80) (v := ?_) rfl rfl (by kernel_rfl) (by kernel_rfl) (by kernel_rfl) (fun _ _ _ h => h) (by kernel_rfl) ?_ HS.out ?_
          rotate_left
          · intro wz hz
            obtain ⟨z0, z1, z2, -⟩ := hz
            go_simp
            first | done | with_reducible rfl
          refine held_take (i := 9) (d := 24) (v := ?_) rfl rfl (by kernel_rfl) (by kernel_rfl) (by kernel_rfl) (fun _ _ _ h => h) (by kernel_rfl) ?_ HS.out ?_
          rotate_left
          · intro wz hz
            obtain ⟨z0, z1, z2, -⟩ := hz
            go_simp
            first | done | with_reducible rfl
          refine held_take (i := 10) (d := 25) (v := ?_) rfl rfl (by kernel_rfl) (by kernel_rfl) (by kernel_rfl) (fun _ _ _ h => h) (by kernel_rfl) ?_ HS.out ?_
          rotate_left
          · intro wz hz
            obtain ⟨z0, z1, z2, -⟩ := hz
            go_simp
            first | done | with_reducible rfl
          refine wpAnyH_done (by kernel_rfl) ?_ _
          try simp only [Act.put, List.setIfInBounds_toArray, List.set_cons_succ, List.set_cons_zero]
          have H8 := HS
          clear HS
          have HS : Hid (HeldA wr S A B ua uc n k f m w8.drew) := H8.out.fresh (Fresh.refl _).drew
          go_wp2_with fail
          refine wp_region_held (S := HeldA wr S A B ua uc n k f m) (by kernel_rfl) ?_
          change wpAnyH _ _ _ _ _ _ _ _ (World.drew _)
          generalize World.drew w8 = we at HS ⊢
          refine held_take (i := 0) (d := 82) (v := ?_) rfl rfl (by kernel_rfl) (by kernel_rfl) (by kernel_rfl) (fun _ _ _ h => h) (by kernel_rfl) ?_ HS.out ?_
          rotate_left
          · intro wz hz
            obtain ⟨z0, z1, z2, -⟩ := hz
            go_simp
            first | done | with_reducible rfl
          refine held_take (i := 1) (d := 83) (v := ?_) rfl rfl (by kernel_rfl) (by kernel_rfl) (by kernel_rfl) (fun _ _ _ h => h) (by kernel_rfl) ?_ HS.out ?_
          rotate_left
          · intro wz hz
            obtain ⟨z0, z1, z2, -⟩ := hz
            go_simp
            first | done | with_reducible rfl
          refine held_take (i := 2) (d := 84) (v := ?_) rfl rfl (by kernel_rfl) (by kernel_rfl) (by kernel_rfl) (fun _ _ _ h => h) (by kernel_rfl) ?_ HS.out ?_
          rotate_left
          · intro wz hz
            obtain ⟨z0, z1, z2, -⟩ := hz
            go_simp
            first | done | with_reducible rfl
          refine held_take (i := 3) (d := 85) (v := ?_) rfl rfl (by kernel_rfl) (by kernel_rfl) (by kernel_rfl) (fun _ _ _ h => h) (by kernel_rfl) ?_ HS.out ?_
          rotate_left
          · intro wz hz
            obtain ⟨z0, z1, z2, -⟩ := hz
            go_simp
            first | done | with_reducible rfl
          refine held_take (i := 4) (d := 86) (v := ?_) rfl rfl (by kernel_rfl) (by kernel_rfl) (by kernel_rfl) (fun _ _ _ h => h) (by kernel_rfl) ?_ HS.out ?_
          rotate_left
          · intro wz hz
            obtain ⟨z0, z1, z2, -⟩ := hz
            go_simp
            first | done | with_reducible rfl
          refine wpAnyH_ready (rs := [5]) (by kernel_rfl) (by simp) ?_
          refine AllReadyH.cons rfl (fun K hK => ?_) AllReadyH.nil
          go_simp
          go_wp2_with fail
          refine (L4.out _ HS.out.2.2.2).mono ?_; rintro e w9 ⟨rfl, fx⟩; have HS' := hide (HS.out.fresh fx); clear HS fx; have HS := HS'; clear HS'
          refine hK.out _ _ HS.out (fun _ => ?_)
          clear hK K
          refine held_take (i := 6) (d := 81) (v := ?_) rfl rfl (by kernel_rfl) (by kernel_rfl) (by kernel_rfl) (fun _ _ _ h => h) (by kernel_rfl) ?_ HS.out ?_
          rotate_left
          · intro wz hz
            obtain ⟨z0, z1, z2, -⟩ := hz
            go_simp
            first | done | with_reducible rfl
          refine held_take (i := 7) (d := 88) (v := ?_) rfl rfl (by kernel_rfl) (by kernel_rfl) (by kernel_rfl) (fun _ _ _ h => h) (by kernel_rfl) ?_ HS.out ?_
          rotate_left
          · intro wz hz
            obtain ⟨z0, z1, z2, -⟩ := hz
            go_simp
            first | done | with_reducible rfl
          refine held_take (i := 8) (d := 89) (v := ?_) rfl rfl (by kernel_rfl) (by kernel_rfl) (by kernel_rfl) (fun _ _ _ h => h) (by kernel_rfl) ?_ HS.out ?_
          rotate_left
          · intro wz hz
            obtain ⟨z0, z1, z2, -⟩ := hz
            go_simp
            first | done | with_reducible rfl
          refine held_take (i := 9) (d := 26) (v := ?_) rfl rfl (by kernel_rfl) (by kernel_rfl) (by kernel_rfl) (fun _ _ _ h => h) (by kernel_rfl) ?_ HS.out ?_
          rotate_left
          · intro wz hz
            obtain ⟨z0, z1, z2, -⟩ := hz
            go_simp
            first | done | with_reducible rfl
          refine held_take (i := 10) (d := 27) (v := ?_) rfl rfl (by kernel_rfl) (by kernel_rfl) (by kernel_rfl) (fun _ _ _ h => h) (by kernel_rfl) ?_ HS.out ?_
          rotate_left
          · intro wz hz
            obtain ⟨z0, z1, z2, -⟩ := hz
            go_simp
            first | done | with_reducible rfl
          refine wpAnyH_done (by kernel_rfl) ?_ _
          try simp only [Act.put, List.setIfInBounds_toArray, List.set_cons_succ, List.set_cons_zero]
          have H9 := HS
          clear HS H8
          have HS : Hid (HeldA wr S A B ua uc n k f m w9.drew) := H9.out.fresh (Fresh.refl _).drew
          go_wp2_with fail
          refine wp_region_held (S := HeldA wr S A B ua uc n k f m) (by kernel_rfl) ?_
          change wpAnyH _ _ _ _ _ _ _ _ (World.drew _)
          generalize World.drew w9 = wf at HS ⊢
          refine held_take (i := 0) (d := 90) (v := ?_) rfl rfl (by kernel_rfl) (by kernel_rfl) (by kernel_rfl) (fun _ _ _ h => h) (by kernel_rfl) ?_ HS.out ?_
          rotate_left
          · intro wz hz
            obtain ⟨z0, z1, z2, -⟩ := hz
            go_simp
            first | done | with_reducible rfl
          refine held_take (i := 1) (d := 91) (v := ?_) rfl rfl (by kernel_rfl) (by kernel_rfl) (by kernel_rfl) (fun _ _ _ h => h) (by kernel_rfl) ?_ HS.out ?_
          rotate_left
          · intro wz hz
            obtain ⟨z0, z1, z2, -⟩ := hz
            go_simp
            first | done | with_reducible rfl
          refine held_take (i := 2) (d := 92) (v := ?_) rfl rfl (by kernel_rfl) (by kernel_rfl) (by kernel_rfl) (fun _ _ _ h => h) (by kernel_rfl) ?_ HS.out ?_
          rotate_left
          · intro wz hz
            obtain ⟨z0, z1, z2, -⟩ := hz
            go_simp
            first | done | with_reducible rfl
          refine held_take (i := 3) (d := 93) (v := ?_) rfl rfl (by kernel_rfl) (by kernel_rfl) (by kernel_rfl) (fun _ _ _ h => h) (by kernel_rfl) ?_ HS.out ?_
          rotate_left
          · intro wz hz
            obtain ⟨z0, z1, z2, -⟩ := hz
            go_simp
            first | done | with_reducible rfl
          refine held_take (i := 4) (d := 94) (v := ?_) rfl rfl (by kernel_rfl) (by kernel_rfl) (by kernel_rfl) (fun _ _ _ h => h) (by kernel_rfl) ?_ HS.out ?_
          rotate_left
          · intro wz hz
            obtain ⟨z0, z1, z2, -⟩ := hz
            go_simp
            first | done | with_reducible rfl
          refine held_take (i := 5) (d := 95) (v := ?_) rfl rfl (by kernel_rfl) (by kernel_rfl) (by kernel_rfl) (fun _ _ _ h => h) (by kernel_rfl) ?_ HS.out ?_
          rotate_left
          · intro wz hz
            obtain ⟨z0, z1, z2, -⟩ := hz
            go_simp
            first | done | with_reducible rfl
          refine held_take (i := 6) (d := 96) (v := ?_) rfl rfl (by kernel_rfl) (by kernel_rfl) (by kernel_rfl) (fun _ _ _ h => h) (by kernel_rfl) ?_ HS.out ?_
          rotate_left
          · intro wz hz
            obtain ⟨z0, z1, z2, -⟩ := hz
            go_simp
            first | done | with_reducible rfl
          refine held_take (i := 7) (d := 97) (v := ?_) rfl rfl (by kernel_rfl) (by kernel_rfl) (by kernel_rfl) (fun _ _ _ h => h) (by kernel_rfl) ?_ HS.out ?_
          rotate_left
          · intro wz hz
            obtain ⟨z0, z1, z2, -⟩ := hz
            go_simp
            first | done | with_reducible rfl
          refine held_take (i := 8) (d := 98) (v := ?_) rfl rfl (by kernel_rfl) (by kernel_rfl) (by kernel_rfl) (fun _ _ _ h => h) (by kernel_rfl) ?_ HS.out ?_
          rotate_left
          · intro wz hz
            obtain ⟨z0, z1, z2, -⟩ := hz
            go_simp
            first | done | with_reducible rfl
          refine held_take (i := 9) (d := 99) (v := ?_) rfl rfl (by kernel_rfl) (by kernel_rfl) (by kernel_rfl) (fun _ _ _ h => h) (by kernel_rfl) ?_ HS.out ?_
          rotate_left
          · intro wz hz
            obtain ⟨z0, z1, z2, -⟩ := hz
            go_simp
            first | done | with_reducible rfl
          refine held_take (i := 10) (d := 100) (v := ?_) rfl rfl (by kernel_rfl) (by kernel_rfl) (by kernel_rfl) (fun _ _ _ h => h) (by kernel_rfl) ?_ HS.out ?_
          rotate_left
          · intro wz hz
            obtain ⟨z0, z1, z2, -⟩ := hz
            go_simp
            first | done | with_reducible rfl
          refine held_take (i := 11) (d := 101) (v := ?_) rfl rfl (by kernel_rfl) (by kernel_rfl) (by kernel_rfl) (fun _ _ _ h => h) (by kernel_rfl) ?_ HS.out ?_
          rotate_left
          · intro wz hz
            obtain ⟨z0, z1, z2, -⟩ := hz
            go_simp
            first | done | with_reducible rfl
          refine held_take (i := 12) (d := 102) (v := ?_) rfl rfl (by kernel_rfl) (by kernel_rfl) (by kernel_rfl) (fun _ _ _ h => h) (by kernel_rfl) ?_ HS.out ?_
          rotate_left
          · intro wz hz
            obtain ⟨z0, z1, z2, -⟩ := hz
            go_simp
            first | done | with_reducible rfl
          refine held_take (i := 13) (d := 103) (v := ?_) rfl rfl (by kernel_rfl) (by kernel_rfl) (by kernel_rfl) (fun _ _ _ h => h) (by kernel_rfl) ?_ HS.out ?_
          rotate_left
          · intro wz hz
            obtain ⟨z0, z1, z2, -⟩ := hz
            go_simp
            first | done | with_reducible rfl
          refine held_take (i := 14) (d := 104) (v := ?_) rfl rfl (by kernel_rfl) (by kernel_rfl) (by kernel_rfl) (fun _ _ _ h => h) (by kernel_rfl) ?_ HS.out ?_
          rotate_left
          · intro wz hz
            obtain ⟨z0, z1, z2, -⟩ := hz
            go_simp
            first | done | with_reducible rfl
          refine held_take (i := 15) (d := 105) (v := ?_) rfl rfl (by kernel_rfl) (by kernel_rfl) (by kernel_rfl) (fun _ _ _ h => h) (by kernel_rfl) ?_ HS.out ?_
          rotate_left
          · intro wz hz
            obtain ⟨z0, z1, z2, -⟩ := hz
            go_simp
            first | done | with_reducible rfl
          refine held_take (i := 16) (d := 106) (v := ?_) rfl rfl (by kernel_rfl) (by kernel_rfl) (by kernel_rfl) (fun _ _ _ h => h) (by kernel_rfl) ?_ HS.out ?_
          rotate_left
          · intro wz hz
            obtain ⟨z0, z1, z2, -⟩ := hz
            go_simp
            first | done | with_reducible rfl
          refine held_take (i := 17) (d := 107) (v := ?_) rfl rfl (by kernel_rfl) (by kernel_rfl) (by kernel_rfl) (fun _ _ _ h => h) (by kernel_rfl) ?_ HS.out ?_
          rotate_left
          · intro wz hz
            obtain ⟨z0, z1, z2, -⟩ := hz
            go_simp
            first | done | with_reducible rfl
          refine held_take (i := 18) (d := 108) (v := ?_) rfl rfl (by kernel_rfl) (by kernel_rfl) (by kernel_rfl) (fun _ _ _ h => h) (by kernel_rfl) ?_ HS.out ?_
          rotate_left
          · intro wz hz
            obtain ⟨z0, z1, z2, -⟩ := hz
            go_simp
            first | done | with_reducible rfl
          refine held_take (i := 19) (d := 109) (v := ?_) rfl rfl (by kernel_rfl) (by kernel_rfl) (by kernel_rfl) (fun _ _ _ h => h) (by kernel_rfl) ?_ HS.out ?_
          rotate_left
          · intro wz hz
            obtain ⟨z0, z1, z2, -⟩ := hz
            go_simp
            first | done | with_reducible rfl
          refine held_take (i := 20) (d := 110) (v := ?_) rfl rfl (by kernel_rfl) (by kernel_rfl) (by kernel_rfl) (fun _ _ _ h => h) (by kernel_rfl) ?_ HS.out ?_
          rotate_left
          · intro wz hz
            obtain ⟨z0, z1, z2, -⟩ := hz
            go_simp
            first | done | with_reducible rfl
          refine held_take (i := 21) (d := 111) (v := ?_) rfl rfl (by kernel_rfl) (by kernel_rfl) (by kernel_rfl) (fun _ _ _ h => h) (by kernel_rfl) ?_ HS.out ?_
          rotate_left
          · intro wz hz
            obtain ⟨z0, z1, z2, -⟩ := hz
            go_simp
            first | done | with_reducible rfl
          refine held_take (i := 22) (d := 112) (v := ?_) rfl rfl (by kernel_rfl) (by kernel_rfl) (by kernel_rfl) (fun _ _ _ h => h) (by kernel_rfl) ?_ HS.out ?_
          rotate_left
          · intro wz hz
            obtain ⟨z0, z1, z2, -⟩ := hz
            go_simp
            first | done | with_reducible rfl
          refine held_take (i := 23) (d := 113) (v := ?_) rfl rfl (by kernel_rfl) (by kernel_rfl) (by kernel_rfl) (fun _ _ _ h => h) (by kernel_rfl) ?_ HS.out ?_
          rotate_left
          · intro wz hz
            obtain ⟨z0, z1, z2, -⟩ := hz
            go_simp
            first | done | with_reducible rfl
          refine held_take (i := 24) (d := 114) (v := ?_) rfl rfl (by kernel_rfl) (by kernel_rfl) (by kernel_rfl) (fun _ _ _ h => h) (by kernel_rfl) ?_ HS.out ?_
          rotate_left
          · intro wz hz
            obtain ⟨z0, z1, z2, -⟩ := hz
            go_simp
            first | done | with_reducible rfl
          refine held_take (i := 25) (d := 115) (v := ?_) rfl rfl (by kernel_rfl) (by kernel_rfl) (by kernel_rfl) (fun _ _ _ h => h) (by kernel_rfl) ?_ HS.out ?_
          rotate_left
          · intro wz hz
            obtain ⟨z0, z1, z2, -⟩ := hz
            go_simp
            first | done | with_reducible rfl
          refine held_take (i := 26) (d := 116) (v := ?_) rfl rfl (by kernel_rfl) (by kernel_rfl) (by kernel_rfl) (fun _ _ _ h => h) (by kernel_rfl) ?_ HS.out ?_
          rotate_left
          · intro wz hz
            obtain ⟨z0, z1, z2, -⟩ := hz
            go_simp
            first | done | with_reducible rfl
          refine held_take (i := 27) (d := 117) (v := ?_) rfl rfl (by kernel_rfl) (by kernel_rfl) (by kernel_rfl) (fun _ _ _ h => h) (by kernel_rfl) ?_ HS.out ?_
          rotate_left
          · intro wz hz
            obtain ⟨z0, z1, z2, -⟩ := hz
            go_simp
            first | done | with_reducible rfl
          refine held_take (i := 28) (d := 118) (v := ?_) rfl rfl (by kernel_rfl) (by kernel_rfl) (by kernel_rfl) (fun _ _ _ h => h) (by kernel_rfl) ?_ HS.out ?_
          rotate_left
          · intro wz hz
            obtain ⟨z0, z1, z2, -⟩ := hz
            go_simp
            first | done | with_reducible rfl
          refine held_take (i := 30) (d := 120) (v := ?_) rfl rfl (by kernel_rfl) (by kernel_rfl) (by kernel_rfl) (fun _ _ _ h => h) (by kernel_rfl) ?_ HS.out ?_
          rotate_left
          · intro wz hz
            obtain ⟨z0, z1, z2, -⟩ := hz
            go_simp
            first | done | with_reducible rfl
          refine held_take (i := 31) (d := 121) (v := ?_) rfl rfl (by kernel_rfl) (by kernel_rfl) (by kernel_rfl) (fun _ _ _ h => h) (by kernel_rfl) ?_ HS.out ?_
          rotate_left
          · intro wz hz
            obtain ⟨z0, z1, z2, -⟩ := hz
            go_simp
            first | done | with_reducible rfl
          refine held_take (i := 32) (d := 122) (v := ?_) rfl rfl (by kernel_rfl) (by kernel_rfl) (by kernel_rfl) (fun _ _ _ h => h) (by kernel_rfl) ?_ HS.out ?_
          rotate_left
          · intro wz hz
            obtain ⟨z0, z1, z2, -⟩ := hz
            go_simp
            first | done | with_reducible rfl
          refine held_take (i := 33) (d := 123) (v := ?_) rfl rfl (by kernel_rfl) (by kernel_rfl) (by kernel_rfl) (fun _ _ _ h => h) (by kernel_rfl) ?_ HS.out ?_
          rotate_left
          · intro wz hz
            obtain ⟨z0, z1, z2, -⟩ := hz
            go_simp
            first | done | with_reducible rfl
          refine held_take (i := 34) (d := 124) (v := ?_) rfl rfl (by kernel_rfl) (by kernel_rfl) (by kernel_rfl) (fun _ _ _ h => h) (by kernel_rfl) ?_ HS.out ?_
          rotate_left
          · intro wz hz
            obtain ⟨z0, z1, z2, -⟩ := hz
            go_simp
            first | done | with_reducible rfl
          refine held_take (i := 35) (d := 125) (v := ?_) rfl rfl (by kernel_rfl) (by kernel_rfl) (by kernel_rfl) (fun _ _ _ h => h) (by kernel_rfl) ?_ HS.out ?_
          rotate_left
          · intro wz hz
            obtain ⟨z0, z1, z2, -⟩ := hz
            go_simp
            first | done | with_reducible rfl
          refine held_take (i := 36) (d := 126) (v := ?_) rfl rfl (by kernel_rfl) (by kernel_rfl) (by kernel_rfl) (fun _ _ _ h => h) (by kernel_rfl) ?_ HS.out ?_
          rotate_left
          · intro wz hz
            obtain ⟨z0, z1, z2, -⟩ := hz
            go_simp
            first | done | with_reducible rfl
          refine held_take (i := 37) (d := 127) (v := ?_) rfl rfl (by kernel_rfl) (by kernel_rfl) (by kernel_rfl) (fun _ _ _ h => h) (by kernel_rfl) ?_ HS.out ?_
          rotate_left
          · intro wz hz
            obtain ⟨z0, z1, z2, -⟩ := hz
            go_simp
            first | done | with_reducible rfl
          refine held_take (i := 38) (d := 128) (v := ?_) rfl rfl (by kernel_rfl) (by kernel_rfl) (by kernel_rfl) (fun _ _ _ h => h) (by kernel_rfl) ?_ HS.out ?_
          rotate_left
          · intro wz hz
            obtain ⟨z0, z1, z2, -⟩ := hz
            go_simp
            first | done | with_reducible rfl
          refine held_take (i := 39) (d := 129) (v := ?_) rfl rfl (by kernel_rfl) (by kernel_rfl) (by kernel_rfl) (fun _ _ _ h => h) (by kernel_rfl) ?_ HS.out ?_
          rotate_left
          · intro wz hz
            obtain ⟨z0, z1, z2, -⟩ := hz
            go_simp
            first | done | with_reducible rfl
          refine wpAnyH_ready (rs := [29]) (by kernel_rfl) (by simp) ?_
          refine AllReadyH.cons rfl (fun K hK => ?_) AllReadyH.nil
          go_simp
          go_wp2_with fail
          refine (U1.out _ HS.out.2.2.2).mono ?_; rintro e w10 ⟨v1, rfl, t1, fx⟩; have T1 := hide t1.at; have HS' := hide (HS.out.fresh fx); clear HS fx t1; have HS := HS'; clear HS'
          refine hK.out _ _ HS.out (fun _ => ?_)
          clear hK K
          refine wpAnyH_ready (rs := [40]) (by kernel_rfl) (by simp) ?_
          refine AllReadyH.cons rfl (fun K hK => ?_) AllReadyH.nil
          go_simp
          go_wp2_with fail
          refine (U2.out _ HS.out.2.2.2).mono ?_; rintro e w11 ⟨v2, rfl, t2, fx⟩; have T2 := hide t2.at; have T1' := hide (T1.out.fresh fx); have HS' := hide (HS.out.fresh fx); clear HS fx t2 T1; have HS := HS'; clear HS'
          refine hK.out _ _ HS.out (fun _ => ?_)
          clear hK K
          refine wpAnyH_ready (rs := [41]) (by kernel_rfl) (by simp) ?_
          refine AllReadyH.cons rfl (fun K hK => ?_) AllReadyH.nil
          go_simp
          go_wp2_with fail
          refine (ssame_true _ _ N n _ _ T1'.out T2.out).mono ?_; rintro e w12 ⟨rfl, fx⟩; have HS' := hide (HS.out.fresh fx); clear HS fx; have HS := HS'; clear HS'
          refine hK.out _ _ HS.out (fun _ => ?_)
          clear hK K
          refine held_take (i := 42) (d := 132) (v := ?_) rfl rfl (by kernel_rfl) (by kernel_rfl) (by kernel_rfl) (fun _ _ _ h => h) (by kernel_rfl) ?_ HS.out ?_
          rotate_left
          · intro wz hz
            obtain ⟨z0, z1, z2, -⟩ := hz
            go_simp
            first | done | with_reducible rfl
          refine held_take (i := 43) (d := 133) (v := ?_) rfl rfl (by kernel_rfl) (by kernel_rfl) (by kernel_rfl) (fun _ _ _ h => h) (by kernel_rfl) ?_ HS.out ?_
          rotate_left
          · intro wz hz
            obtain ⟨z0, z1, z2, -⟩ := hz
            go_simp
            first | done | with_reducible rfl
          refine wpAnyH_done (by kernel_rfl) ?_ _
          try simp only [Act.put, List.setIfInBounds_toArray, List.set_cons_succ, List.set_cons_zero]
          go_wp2
          go_roundw
          case rel => exact ⟨k + 1, by omega, by go_num, HK.out.fresh HS.out.2.2.2⟩
          case measure => simp [intOf]; omega
        · obtain rfl : k = 5 := by omega
          have F0 := hide HK.out.el
          have SA := hide HK.out.s.2
          clear HK
          go_wp2_with fail
          refine (smay_true _ N n p _ SA.out).mono ?_
          rintro e w6 ⟨rfl, f6⟩
          have F6 := hide (F0.out.trans f6)
          clear f6 s0 F0
          go_wp2_with fail
          refine (snew_any gr mo _).mono ?_
          rintro e w7 ⟨v7, rfl, n7, f7⟩
          have N7 := hide n7
          have F7 := hide (F6.out.trans f7)
          clear f7 F6 n7
          go_wp2_with fail
          refine (rnewV_any gr mo _).mono ?_
          rintro e w8 ⟨v8, rfl, n8, f8⟩
          have N8 := hide n8
          have N7' := hide (N7.out.fresh f8)
          have F8 := hide (F7.out.trans f8)
          clear f8 F7 n8 N7
          go_wp2_with fail
          refine (ssame_new gr mo _ _ _ N7'.out N8.out).mono ?_
          rintro e w9 ⟨rfl, f9⟩
          have F9 := hide (F8.out.trans f9)
          clear f9 F8 N7' N8
          go_wp2_with fail
          refine (snew_any 96 mo _).mono ?_
          rintro e w10 ⟨v10, rfl, n10, f10⟩
          have N10 := hide n10
          have F10 := hide (F9.out.trans f10)
          clear f10 F9 n10
          go_wp2_with fail
          refine (rnewV_any 96 mo _).mono ?_
          rintro e w11 ⟨v11, rfl, n11, f11⟩
          have N11 := hide n11
          have N10' := hide (N10.out.fresh f11)
          have F11 := hide (F10.out.trans f11)
          clear f11 F10 n11 N10
          go_wp2_with fail
          refine (ssame_new 96 mo _ _ _ N10'.out N11.out).mono ?_
          rintro e w12 ⟨rfl, f12⟩
          have F12 := hide (F11.out.trans f12)
          clear f12 F11 N10' N11
          go_wp2
          go_ret
          exact ⟨rfl, F12.out⟩
  · have l0 : (20 : Int) < (len : Int) := by omega
    clear hrow h20
    go_enter Try.func3, Try.ntmps3
    go_wp2_with fail
    refine (begun9_true _).mono ?_
    rintro e w1 ⟨rfl, k1⟩
    have K1 := hide k1
    clear k1
    go_wp2
    go_ret
    exact ⟨rfl, K1.out⟩
set_option linter.unusedVariables false
set_option maxRecDepth 100000 in
theorem slotsAll_lifted (os : Os) (started : os.Started) (H : Type) (enc : TypeId × Value → H) :
    ReturnsInHanded {} Try.checked os 3 .any (Rows.slotsAllSpec.pre6 enc Try.prog Try.f3 Rows.slotsAllRow.domain false) (Rows.slotsAllSpec.post enc Try.prog Try.f3 false true false false) := by
  refine returnsInHanded_of_change (C := Try.checked) own started (by kernel_rfl) Try.func3
    (ChangeSpec.witness6 (enc := enc) (C := Try.checked) false ⟨#[], #[.slice none 0 0, .int .u8 0, .int .i64 0, .int .i64 0, .bool false, .int .i64 0, .int .i64 0], []⟩ 8 (by kernel_rfl) (by kernel_rfl) (by kernel_rfl) (by kernel_rfl)) ?_
  intro W base args ds gs before hval0 hW hcnd _
  have hval : ∀ (j : Nat) t v, Try.f3.params[j]? = some t → args[j]? = some v → Value.okWide Try.prog W .any base t v := hval0
  have hW' := hW
  obtain ⟨p, q, hA0, hV, rfl, hfz, hnd⟩ := hW
  have hA : DataW.TrodAll enc Try.prog W 0 (fun _ => true) true Try.f3.params.toList args.toList ds p := hA0
  rw [Try.params3] at hA hval
  obtain ⟨v0, vs0, d0, ds0, p0, q0, hargs, rfl, rfl, h0, r0⟩ := trodAll_cons hA
  obtain ⟨v1, vs1, d1, ds1, p1, q1, rfl, rfl, rfl, h1, r1⟩ := trodAll_cons r0
  obtain ⟨v2, vs2, d2, ds2, p2, q2, rfl, rfl, rfl, h2, r2⟩ := trodAll_cons r1
  obtain ⟨v3, vs3, d3, ds3, p3, q3, rfl, rfl, rfl, h3, r3⟩ := trodAll_cons r2
  obtain ⟨v4, vs4, d4, ds4, p4, q4, rfl, rfl, rfl, h4, r4⟩ := trodAll_cons r3
  obtain ⟨v5, vs5, d5, ds5, p5, q5, rfl, rfl, rfl, h5, r5⟩ := trodAll_cons r4
  obtain ⟨v6, vs6, d6, ds6, p6, q6, rfl, rfl, rfl, h6, r6⟩ := trodAll_cons r5
  obtain ⟨rfl, rfl, rfl⟩ := trodAll_nil r6
  obtain rfl : args = #[v0, v1, v2, v3, v4, v5, v6] := by cases args; simp_all
  obtain ⟨rfl, rfl⟩ := trodVars_none hV
  have lt0 : ∀ x ∈ p0, x.block < W.heap.size := by obtain ⟨m, hm⟩ := h0; exact DataW.trod_lt m _ _ _ hm
  have lt1 : ∀ x ∈ p1, x.block < W.heap.size := by obtain ⟨m, hm⟩ := h1; exact DataW.trod_lt m _ _ _ hm
  have lt2 : ∀ x ∈ p2, x.block < W.heap.size := by obtain ⟨m, hm⟩ := h2; exact DataW.trod_lt m _ _ _ hm
  have lt3 : ∀ x ∈ p3, x.block < W.heap.size := by obtain ⟨m, hm⟩ := h3; exact DataW.trod_lt m _ _ _ hm
  have lt4 : ∀ x ∈ p4, x.block < W.heap.size := by obtain ⟨m, hm⟩ := h4; exact DataW.trod_lt m _ _ _ hm
  have lt5 : ∀ x ∈ p5, x.block < W.heap.size := by obtain ⟨m, hm⟩ := h5; exact DataW.trod_lt m _ _ _ hm
  have lt6 : ∀ x ∈ p6, x.block < W.heap.size := by obtain ⟨m, hm⟩ := h6; exact DataW.trod_lt m _ _ _ hm
  obtain ⟨a0, len0, cap0, rfl⟩ := okWide_slice Try.underlying22 (hval 0 22 v0 rfl rfl)
  obtain ⟨z0, w0⟩ := isRow_of Try.underlying22 Try.underlying5 (by kernel_rfl) h0
  obtain ⟨a1, rfl, rfl, rfl, w1⟩ := open_int Try.underlying5 (hval 1 5 v1 rfl rfl) h1
  obtain ⟨a2, rfl, rfl, rfl, w2⟩ := open_int Try.underlying3 (hval 2 3 v2 rfl rfl) h2
  obtain ⟨a3, rfl, rfl, rfl, w3⟩ := open_int Try.underlying3 (hval 3 3 v3 rfl rfl) h3
  obtain ⟨a4, rfl, rfl, rfl⟩ := open_bool Try.underlying4 (hval 4 4 v4 rfl rfl) h4
  obtain ⟨a5, rfl, rfl, rfl, w5⟩ := open_int Try.underlying3 (hval 5 3 v5 rfl rfl) h5
  obtain ⟨a6, rfl, rfl, rfl, w6⟩ := open_int Try.underlying3 (hval 6 3 v6 rfl rfl) h6
  clear hA0 hval0
  refine (slotsAll_walk0 a0 len0 cap0 z0 a1 (bounds_u8 w1).1 (bounds_u8 w1).2 a2 (bounds_i64 w2).1 (bounds_i64 w2).2 a3 (bounds_i64 w3).1 (bounds_i64 w3).2 a4 a5 (bounds_i64 w5).1 (bounds_i64 w5).2 a6 (bounds_i64 w6).1 (bounds_i64 w6).2 W w0).mono fun e W' ⟨he, hg⟩ => ?_
  subst he
  exact ⟨_, rfl, _, _, _, [], _, [], hW', trodAll_mk1 (shut_bool Try.underlying4 _), (trodAll_cons_mk (Below.trod laidOut (by kernel_rfl) (of_decide_eq_true (by kernel_rfl)) h0 hg lt0) (trodAll_cons_mk (Below.trod laidOut (by kernel_rfl) (of_decide_eq_true (by kernel_rfl)) h1 hg lt1) (trodAll_cons_mk (Below.trod laidOut (by kernel_rfl) (of_decide_eq_true (by kernel_rfl)) h2 hg lt2) (trodAll_cons_mk (Below.trod laidOut (by kernel_rfl) (of_decide_eq_true (by kernel_rfl)) h3 hg lt3) (trodAll_cons_mk (Below.trod laidOut (by kernel_rfl) (of_decide_eq_true (by kernel_rfl)) h4 hg lt4) (trodAll_cons_mk (Below.trod laidOut (by kernel_rfl) (of_decide_eq_true (by kernel_rfl)) h5 hg lt5) (trodAll_cons_mk (Below.trod laidOut (by kernel_rfl) (of_decide_eq_true (by kernel_rfl)) h6 hg lt6) trodAll_mk0))))))), rfl, hg.frame _, fun h => by cases h⟩

theorem slotsAll_row : Rows.SlotsAllSaid :=
  OpenClaim.holds_of_wide 3 Try.f3 rfl rfl rfl rfl rfl rfl rfl ⟨rfl, rfl, rfl, rfl, rfl⟩ rfl rfl rfl rfl rfl (by kernel_rfl) Try.func3 (by kernel_rfl)
    (of_decide_eq_true (by kernel_rfl)) (by unfold Func.isWrapper; first | (rw [if_pos (by decide +kernel)]; kernel_rfl) | (rw [if_neg (by decide +kernel)]; exact ⟨rfl, rfl⟩))
    (fun os started H enc _ => slotsAll_lifted os started H enc)

theorem slotsAll_holds : Rows.SlotsAllSaid := slotsAll_row
#print axioms slotsAll_holds
end Go.Proofs.Ytpkcihfldmgehaa
