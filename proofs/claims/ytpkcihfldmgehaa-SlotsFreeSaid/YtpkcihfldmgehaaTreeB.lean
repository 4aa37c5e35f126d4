/- What package tree answers where it only reads (Has, FirstZero), as contracts. -/
import Derived.Test.YtpkcihfldmgehaaTreeA
namespace Go.Proofs.Ytpkcihfldmgehaa
open Go.RowKit


theorem thas_any (v : Value) (n : Nat) (ws : List Nat) (i : Int) (w : World) (h : TreeAt w v n ws) (hi : -9223372036854775808 ≤ i) (hi' : i ≤ 9223372036854775807) :
    Calls Try.prog 47 #[v, .int .i64 i] w fun e w' => e = .returned (.bool (hasT n ws i)) ∧ Fresh w w' := by
  obtain ⟨n1, n2, hlev, a, cap, rfl, hlv⟩ := h
  have q1 : (1 : Int) ≤ (n : Int) := by omega
  have q2 : (n : Int) ≤ 65536 := by omega
  have FB := hide (fresh_box w #[.int .i64 (n : Int), .slice a (nLev n) cap] 45)
  by_cases h0 : i < 0
  · have E := hide (show hasT n ws i = false by unfold hasT; rw [decide_eq_false (by omega)]; rfl)
    clear hlv hlev
    go_enter Try.func47, Try.ntmps47
    go_wp2
    go_ret
    exact ⟨retB E.out.symm, FB.out⟩
  by_cases h1 : (n : Int) ≤ i
  · have E := hide (show hasT n ws i = false by unfold hasT; rw [decide_eq_true (by omega), decide_eq_false (by omega)]; rfl)
    have h0' : 0 ≤ i := by omega
    clear hlv hlev h0
    go_enter Try.func47, Try.ntmps47
    go_wp2
    go_ret
    exact ⟨retB E.out.symm, FB.out⟩
  · obtain ⟨k, rfl⟩ : ∃ k : Nat, i = k := ⟨i.toNat, by omega⟩
    have E := hide (show hasT n ws (k : Int) = bitV ws k by unfold hasT; rw [decide_eq_true (by omega), decide_eq_true (by omega), Int.toNat_natCast]; rfl)
    have hh := nLev_in n
    obtain ⟨b, o, rfl⟩ := hlv.len hh.1
    obtain ⟨x, c, hcell, hwd⟩ := hlv.row 0 (by omega)
    have hb : b < w.heap.size := World.block_lt_of_cell? _ _ hcell
    rw [Nat.add_zero] at hcell
    have h2 : (k : Int) < (n : Int) := by omega
    have hc2 : ∀ o', (w.alloc o').cell? ⟨b, o, none⟩ = some (.slice x (lvV ws 0).length c) := fun o' => (World.cell?_alloc_lt w _ _ hb).trans hcell
    have l1 : (1 : Int) ≤ (nLev n : Int) := by omega
    have l2 : (nLev n : Int) ≤ 3 := by omega
    have I := hide (fun w1 (hf : Fresh w w1) => isSet_nat _ ws k w1 (hwd.fresh hf) (by omega))
    clear hlv hlev hwd h0 h1 hcell
    generalize nLev n = L at *
    go_enter Try.func47, Try.ntmps47
    go_wp2_with fail
    refine (I.out _ FB.out).mono ?_
    rintro e w' ⟨rfl, rfl⟩
    go_wp2
    go_ret
    exact ⟨retB E.out.symm, FB.out⟩

theorem lowest_any (v : Value) (n : Nat) (ws : List Nat) (L A : Nat) (w : World) (h : TreeAt w v n ws) (hL : L < nLev n) (hz : Z n ws L A) :
    Calls Try.prog 34 #[v, .int .i64 (L : Int), .int .i64 (A : Int)] w fun e w' => (∃ r : Nat, e = .returned (.tuple #[.int .i64 (r : Int), .bool true]) ∧ Down n ws L A 0 r) ∧ Fresh w w' := by
  obtain ⟨n1, n2, hlev, a, cap, rfl, hlv⟩ := h
  have q2 : (n : Int) ≤ 65536 := by omega
  have hh := nLev_in n
  obtain ⟨b, o, rfl⟩ := hlv.len hh.1
  have FB := hide (fresh_box w #[.int .i64 (n : Int), .slice (some ⟨b, o, none⟩) (nLev n) cap] 45)
  have LV := hide hlv
  have LE := hide hlev
  have D0 := hide (down_start hz)
  have hb : b < w.heap.size := by obtain ⟨x, c, hcell, _⟩ := hlv.row 0 (by omega); exact World.block_lt_of_cell? _ _ hcell
  have BD := hide (fun k => nb_le n n2 k)
  have LN := hide (fun k => lv_length hlev k)
  clear hlv hlev hz
  have l2 : (nLev n : Int) ≤ 3 := by omega
  have hL' : (L : Int) < (nLev n : Int) := by omega
  generalize hN : nLev n = N at *
  go_enter Try.func34, Try.ntmps34
  go_wp2
  go_loopw [1, 2] (fun l x w2 => ∃ k y m : Nat, k ≤ L ∧ l = .int .i64 (k : Int) ∧ x = .int .i64 (y : Int) ∧ w2 = (w.alloc (.cells #[.int .i64 (n : Int), .slice (some ⟨b, o, none⟩) N cap] 45)).drewN m ∧ Down n ws L A k y) (fun l _ _ => (intOf l).toNat)
  case atStart => exact ⟨L, A, 0, Nat.le_refl _, rfl, rfl, rfl, D0.out⟩
  case round =>
    obtain ⟨k, y, m, hk, rfl, rfl, rfl, hd⟩ := hrel
    have D := hide hd
    have y1 : y < nb n k := hd.1.1
    have y2 : nb n k ≤ 65536 := BD.out k
    have y3 : (y : Int) ≤ 65535 := by omega
    have y4 : (0 : Int) ≤ (y : Int) := by omega
    clear hd D0
    rcases Nat.eq_zero_or_pos k with rfl | hk0
    · have yn : (y : Int) < (n : Int) := by have := D.out.1.1; change y < n at this; omega
      go_wp2
      go_ret2
      exact ⟨⟨y, rfl, D.out⟩, fresh_drewN FB.out _⟩
    · obtain ⟨j, rfl⟩ : ∃ j, k = j + 1 := ⟨k - 1, by omega⟩
      obtain ⟨x, c, hcell, hwd⟩ := LV.out.row j (by omega)
      have hc2 : (w.alloc (.cells #[.int .i64 (n : Int), .slice (some ⟨b, o, none⟩) N cap] 45)).cell? ⟨b, o + j, none⟩ = some (.slice x (lvV ws j).length c) := (World.cell?_alloc_lt w _ _ hb).trans hcell
      have hZ := D.out.1
      obtain ⟨z1, z2, z3, z4⟩ := zero_down LE.out hZ
      have W1 := hide (fun m => hwd.fresh (fresh_drewN FB.out m))
      have LL := hide (show (64 * y) / 64 < (lvV ws j).length by rw [LN.out j]; have := hZ.1; omega)
      have DS := hide (down_step LE.out (show j + 1 ≤ L by omega) D.out)
      have Z1 := hide z1
      have j1 : (1 : Int) ≤ ((j + 1 : Nat) : Int) := by omega
      have j2 : ((j + 1 : Nat) : Int) ≤ 3 := by omega
      have j3 : ((j + 1 : Nat) : Int) - 1 = (j : Int) := by omega
      have j4 : (j : Int) < (N : Int) := by omega
      have F1 := z2.1
      have F2 := BD.out j
      have F3 : ((foundAt (lvV ws j) (64 * y) : Nat) : Int) ≤ 65535 := by omega
      have J := hide j3
      clear hcell hwd hZ z1 z2 z3 z4 F1 F2
      go_wp2_with fail
      refine (zero_hit _ (lvV ws j) (64 * y) _ (by omega) _ (W1.out _) (by omega) LL.out Z1.out).mono ?_
      rintro e w' ⟨rfl, m2, rfl⟩
      clear LL Z1 W1
      generalize foundAt (lvV ws j) (64 * y) = F at *
      go_wp2
      go_roundw
      case rel => exact ⟨j, F, _, by omega, rfl, rfl, rfl, DS.out⟩
      case measure => simp [intOf]

theorem tfirst_nat (v : Value) (n : Nat) (ws : List Nat) (f : Nat) (w : World) (h : TreeAt w v n ws) (hf : f < n) :
    Calls Try.prog 20 #[v, .int .i64 (f : Int)] w fun e w' => e = foundE (first (bitV ws) f n) ∧ Fresh w w' := by
  have T := hide h
  obtain ⟨n1, n2, hlev, a, cap, rfl, hlv⟩ := h
  have q2 : (n : Int) ≤ 65536 := by omega
  have hh := nLev_in n
  obtain ⟨b, o, rfl⟩ := hlv.len hh.1
  have FB := hide (fresh_box w #[.int .i64 (n : Int), .slice (some ⟨b, o, none⟩) (nLev n) cap] 45)
  have LV := hide hlv
  have LE := hide hlev
  have hb : b < w.heap.size := by obtain ⟨x, c, hcell, _⟩ := hlv.row 0 (by omega); exact World.block_lt_of_cell? _ _ hcell
  have BD := hide (fun k => nb_le n n2 k)
  have EN := hide (fun (x : Nat) (hu : Up n ws f (nLev n) x) (hx : 1 ≤ x) => up_none hlev n1 n2 hu hx)
  clear hlv hlev
  have l2 : (nLev n : Int) ≤ 3 := by omega
  have l1 : (1 : Int) ≤ (nLev n : Int) := by omega
  have f1 : (f : Int) < (n : Int) := by omega
  have f0 : (0 : Int) ≤ (f : Int) := by omega
  have FI := hide (show ((f : Nat) : Int) = (f : Int) from rfl)
  generalize hN : nLev n = N at *
  generalize hfi : (f : Int) = fi at f1 f0 FI ⊢
  have HFI := hide hfi
  clear hfi
  go_enter Try.func20, Try.ntmps20
  go_wp2
  go_loopw [6, 23] (fun x i w2 => ∃ y k m : Nat, k ≤ N ∧ x = .int .i64 (y : Int) ∧ i = .int .i64 (k : Int) ∧ w2 = (w.alloc (.cells #[.int .i64 (n : Int), .slice (some ⟨b, o, none⟩) N cap] 45)).drewN m ∧ Up n ws f k y ∧ (1 ≤ k → 1 ≤ y) ∧ y ≤ 65536) (fun _ i _ => (N - intOf i).toNat)
  case atStart => exact ⟨f, 0, 0, Nat.zero_le _, by rw [HFI.out], rfl, rfl, up_start n ws f, fun h => by omega, by omega⟩
  case round =>
    obtain ⟨y, k, m, hk, rfl, rfl, rfl, hu, hy1, hy⟩ := hrel
    have U := hide hu
    have Y1 := hide hy1
    have y3 : (y : Int) ≤ 65536 := by omega
    clear hu hy1
    rcases Nat.lt_or_ge k N with hkN | hkN
    · obtain ⟨x, c, hcell, hwd⟩ := LV.out.row k (by omega)
      have hc2 : (w.alloc (.cells #[.int .i64 (n : Int), .slice (some ⟨b, o, none⟩) N cap] 45)).cell? ⟨b, o + k, none⟩ = some (.slice x (lvV ws k).length c) := (World.cell?_alloc_lt w _ _ hb).trans hcell
      have W1 := hide (fun m => hwd.fresh (fresh_drewN FB.out m))
      have k1 : (k : Int) < (N : Int) := by omega
      clear hcell hwd
      by_cases hc : y / 64 < (lvV ws k).length ∧ foundAt (lvV ws k) y < nextV y
      · obtain ⟨c1, c2⟩ := hc
        have C1 := hide c1
        have C2 := hide c2
        have ZZ := hide (up_found LE.out c1 c2)
        have FN := hide (fun r (hd : Down n ws k (foundAt (lvV ws k) y) 0 r) => up_down LE.out U.out hd)
        have F2 := BD.out k
        have F1 := ZZ.out.1
        have F3 : ((foundAt (lvV ws k) y : Nat) : Int) ≤ 65535 := by omega
        have TT := hide (fun m => T.out.fresh (fresh_drewN FB.out m))
        clear c1 c2 F1 F2
        go_wp2_with fail
        refine (zero_hit _ (lvV ws k) y _ rfl _ (W1.out _) (by omega) C1.out C2.out).mono ?_
        rintro e w' ⟨rfl, m2, rfl⟩
        go_wp2_with fail
        refine (lowest_any _ n ws k (foundAt (lvV ws k) y) _ (TT.out (m + m2)) (by omega) ZZ.out).mono ?_
        rintro e w3 ⟨⟨r, rfl, hd⟩, hf3⟩
        have E := hide (FN.out r hd)
        have F3 := hide ((fresh_drewN FB.out (m + m2)).trans hf3)
        clear hd hf3 FN ZZ C1 C2
        go_wp2
        go_ret2
        exact ⟨by rw [E.out]; rfl, F3.out⟩
      · have US := hide (up_step LE.out U.out (show (lvV ws k).length ≤ y / 64 ∨ nextV y ≤ foundAt (lvV ws k) y by omega))
        have HN := hide (show (lvV ws k).length ≤ y / 64 ∨ nextV y ≤ foundAt (lvV ws k) y by omega)
        clear hc
        go_wp2_with fail
        refine (zero_miss _ (lvV ws k) y _ (W1.out _) (by omega) HN.out).mono ?_
        rintro e w' ⟨⟨r, rfl⟩, m2, rfl⟩
        clear HN W1
        go_wp2
        go_roundw
        case rel => exact ⟨y / 64 + 1, k + 1, _, by omega, by go_num, by go_num, rfl, US.out, fun _ => by omega, by omega⟩
        case measure => simp [intOf]; omega
    · obtain rfl : k = N := by omega
      have E := hide (EN.out _ U.out (Y1.out (by omega)))
      go_wp2
      go_ret2
      exact ⟨by rw [E.out]; rfl, fresh_drewN FB.out _⟩
theorem tfirst_any (v : Value) (n : Nat) (ws : List Nat) (f : Int) (w : World) (h : TreeAt w v n ws) (hf : -9223372036854775808 ≤ f) (hf' : f ≤ 9223372036854775807) :
    Calls Try.prog 20 #[v, .int .i64 f] w fun e w' => e = foundE (firstT n ws f) ∧ Fresh w w' := by
  by_cases hc : f < 0 ∨ (n : Int) ≤ f
  · rw [firstT_none n ws f hc]
    obtain ⟨n1, n2, hlev, a, cap, rfl, hlv⟩ := h
    have FB := hide (fresh_box w #[.int .i64 (n : Int), .slice a (nLev n) cap] 45)
    clear hlev hlv
    generalize nLev n = N at *
    by_cases h0 : f < 0
    · clear hc
      go_enter Try.func20, Try.ntmps20
      go_wp2
      go_ret2
      exact ⟨rfl, FB.out⟩
    · have h1 : (n : Int) ≤ f := by omega
      have h2 : 0 ≤ f := by omega
      clear hc h0
      go_enter Try.func20, Try.ntmps20
      go_wp2
      go_ret2
      exact ⟨rfl, FB.out⟩
  · obtain ⟨k, rfl⟩ : ∃ k : Nat, f = k := ⟨f.toNat, by omega⟩
    have e : firstT n ws (k : Int) = first (bitV ws) k n := by unfold firstT; rw [if_neg (by omega), Int.toNat_natCast]
    rw [e]
    exact tfirst_nat v n ws k w h (by omega)
end Go.Proofs.Ytpkcihfldmgehaa
