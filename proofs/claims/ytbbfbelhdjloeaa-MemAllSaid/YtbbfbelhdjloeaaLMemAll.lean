/- Proved here: hodmanlaw15.MemAll, called with any slice of bytes and any numbers, returns true: what becomes of bytes is as promise P15.1 has it. No condition. -/
import Derived.Test.YtbbfbelhdjloeaaMemLaw
import Derived.Test.YtbbfbelhdjloeaaRefMem
import Derived.Test.YtbbfbelhdjloeaaInts
import Derived.Test.YtbbfbelhdjloeaaHeld
import Derived.Test.YtbbfbelhdjloeaaByteOpen
import Derived.Deep.CutRange
import Derived.BigGuard
namespace Go.Proofs.Ytbbfbelhdjloeaa
open Go.ChangeShapes Go.WideShapes Go.ChangeAt Go.RowKit

theorem rzero_to (v : Value) (l X : List Int) (i n : Int) (b : Bool) (w : World) (h : BytesIn w v l) (i0 : -9223372036854775808 ≤ i) (i1 : i ≤ 9223372036854775807) (n0 : -9223372036854775808 ≤ n) (n1 : n ≤ 9223372036854775807) (hX : zeroV l i n = X) (hb : hasN l.length i n = b) :
    Calls Try.prog 10 #[v, .int .i64 i, .int .i64 n] w fun e w' => ∃ u, e = .returned (.tuple #[u, .bool b]) ∧ BytesIn w' u X ∧ Fresh w w' := hX ▸ hb ▸ rzero_any v l i n w h i0 i1 n0 n1
theorem rmove_to (v : Value) (l X : List Int) (x y n : Int) (b : Bool) (w : World) (h : BytesIn w v l) (x0 : -9223372036854775808 ≤ x) (x1 : x ≤ 9223372036854775807) (y0 : -9223372036854775808 ≤ y) (y1 : y ≤ 9223372036854775807) (n0 : -9223372036854775808 ≤ n) (n1 : n ≤ 9223372036854775807)
    (hX : moveV l x y n = X) (hb : mayMove l.length x y n = b) :
    Calls Try.prog 12 #[v, .int .i64 x, .int .i64 y, .int .i64 n] w fun e w' => ∃ u, e = .returned (.tuple #[u, .bool b]) ∧ BytesIn w' u X ∧ Fresh w w' := hX ▸ hb ▸ rmove_any v l x y n w h x0 x1 y0 y1 n0 n1
theorem HasI.fr {w w' : World} {n : Nat} {l : List Int} (h : HasI w n l) (k : Fresh w w') : HasI w' n l := fun i hi => (k.cell (World.block_lt_of_cell? _ _ (h i hi))).trans (h i hi)
/-- what stays in a round: the three numbers, the bytes -/
def Kp (W : World) (PA PT PN k : Nat) (x y m : Int) (v : Value) (l : List Int) (wz : World) : Prop :=
  wz.cell? ⟨PA, k, none⟩ = some (.int .i64 x) ∧ wz.cell? ⟨PT, k, none⟩ = some (.int .i64 y) ∧ wz.cell? ⟨PN, k, none⟩ = some (.int .i64 m) ∧ BytesIn wz v l ∧ Fresh W wz
theorem Kp.fresh {W : World} {PA PT PN k : Nat} {x y m : Int} {v : Value} {l : List Int} {w w' : World} (h : Kp W PA PT PN k x y m v l w) (f : Fresh w w') : Kp W PA PT PN k x y m v l w' :=
  ⟨(f.cell (World.block_lt_of_cell? _ _ h.1)).trans h.1, (f.cell (World.block_lt_of_cell? _ _ h.2.1)).trans h.2.1, (f.cell (World.block_lt_of_cell? _ _ h.2.2.1)).trans h.2.2.1, h.2.2.2.1.fresh f, h.2.2.2.2.trans f⟩


set_option maxRecDepth 100000 in
set_option maxHeartbeats 4000000 in
theorem memAll_walk0 (a : Option Addr) (len cap : Nat) (zs : List Int) (at' : Int) (p0 : -9223372036854775808 ≤ at') (p1 : at' ≤ 9223372036854775807) (to' : Int) (q0 : -9223372036854775808 ≤ to') (q1 : to' ≤ 9223372036854775807) (n : Int) (n0 : -9223372036854775808 ≤ n) (n1 : n ≤ 9223372036854775807)
    (c : Int) (c0 : 0 ≤ c) (c1 : c ≤ 255) (d : Int) (d0 : 0 ≤ d) (d1 : d ≤ 255) (e : Int) (e0 : 0 ≤ e) (e1 : e ≤ 255) (v : Int) (_v0 : 0 ≤ v) (_v1 : v ≤ 255) (w : World) (hR : IsRow .u8 w a len cap zs) :
    Calls Try.prog 3 #[.slice a len cap, .int .i64 at', .int .i64 to', .int .i64 n, .int .u8 c, .int .u8 d, .int .u8 e, .int .u8 v] w fun e w' => e = .returned (.bool true) ∧ Fresh w w' := by
  have l0 : (0 : Int) ≤ (len : Int) := by omega
  have lm := row_le hR
  by_cases g : 50 < len
  · have g' : (50 : Int) < (len : Int) := by omega
    clear hR
    go_enter Try.func3, Try.ntmps3
    go_wp2_with fail
    refine (begun15_true _).mono ?_
    rintro e w1 ⟨rfl, k1⟩
    have K1 := hide k1
    clear k1
    go_wp2
    go_ret
    exact ⟨rfl, K1.out⟩
  have g' : (len : Int) ≤ 50 := by omega
  obtain ⟨l, hl, hb, -⟩ := bytesIn_of hR (by omega)
  have HB := hide hb
  have HL := hide hl
  obtain ⟨C6, h1⟩ : ∃ C, c % 60 = C := ⟨_, rfl⟩
  obtain ⟨C2, h2⟩ : ∃ C, c % 20 = C := ⟨_, rfl⟩
  obtain ⟨D6, h3⟩ : ∃ C, d % 60 = C := ⟨_, rfl⟩
  obtain ⟨D2, h4⟩ : ∃ C, d % 20 = C := ⟨_, rfl⟩
  obtain ⟨E6, h5⟩ : ∃ C, e % 60 = C := ⟨_, rfl⟩
  obtain ⟨E2, h6⟩ : ∃ C, e % 20 = C := ⟨_, rfl⟩
  obtain ⟨E9, h7⟩ : ∃ C, e % 9 = C := ⟨_, rfl⟩
  have r1 : 0 ≤ C6 ∧ C6 ≤ 59 := by omega
  have r2 : 0 ≤ C2 ∧ C2 ≤ 19 := by omega
  have r3 : 0 ≤ D6 ∧ D6 ≤ 59 := by omega
  have r4 : 0 ≤ D2 ∧ D2 ≤ 19 := by omega
  have r5 : 0 ≤ E6 ∧ E6 ≤ 59 := by omega
  have r6 : 0 ≤ E2 ∧ E2 ≤ 19 := by omega
  have r7 : 0 ≤ E9 ∧ E9 ≤ 8 := by omega
  clear hR hb hl g
  go_enter Try.func3, Try.ntmps3
  go_wp2_with fail
  refine (begun15_true _).mono ?_
  rintro e w1 ⟨rfl, k1⟩
  have K1 := hide k1
  have B1 := hide (HB.out.fresh k1)
  clear k1 HB
  go_wp2_with fail
  simp only [h1, h2, h3, h4, h5, h6, h7]
  obtain ⟨W, hW⟩ : ∃ W, W = ((w1.alloc (.cells #[.int .i64 at', .int .i64 C6, .int .i64 0, .int .i64 C2] 3)).alloc (.cells #[.int .i64 to', .int .i64 D6, .int .i64 D2, .int .i64 at'] 3)).alloc (.cells #[.int .i64 n, .int .i64 E6, .int .i64 E2, .int .i64 E9] 3) := ⟨_, rfl⟩
  obtain ⟨PA, hPA⟩ : ∃ P, P = w1.heap.size := ⟨_, rfl⟩
  obtain ⟨PT, hPT⟩ : ∃ P, P = w1.heap.size + 1 := ⟨_, rfl⟩
  obtain ⟨PN, hPN⟩ : ∃ P, P = w1.heap.size + 1 + 1 := ⟨_, rfl⟩
  have IA := hide (show HasI W PA [at', C6, 0, C2] from by
    rw [hW, hPA]
    exact ((HasI.made w1 [at', C6, 0, C2] 3).fr (fresh_box _ _ _)).fr (fresh_box _ _ _))
  have IT := hide (show HasI W PT [to', D6, D2, at'] from by
    rw [hW, hPT]
    have e : (w1.alloc (.cells #[.int .i64 at', .int .i64 C6, .int .i64 0, .int .i64 C2] 3)).heap.size = w1.heap.size + 1 := by simp
    rw [← e]
    exact (HasI.made (w1.alloc (.cells #[.int .i64 at', .int .i64 C6, .int .i64 0, .int .i64 C2] 3)) [to', D6, D2, at'] 3).fr (fresh_box _ #[.int .i64 n, .int .i64 E6, .int .i64 E2, .int .i64 E9] 3))
  have IN := hide (show HasI W PN [n, E6, E2, E9] from by
    rw [hW, hPN]
    have e : ((w1.alloc (.cells #[.int .i64 at', .int .i64 C6, .int .i64 0, .int .i64 C2] 3)).alloc (.cells #[.int .i64 to', .int .i64 D6, .int .i64 D2, .int .i64 at'] 3)).heap.size = w1.heap.size + 1 + 1 := by simp
    rw [← e]
    exact HasI.made ((w1.alloc (.cells #[.int .i64 at', .int .i64 C6, .int .i64 0, .int .i64 C2] 3)).alloc (.cells #[.int .i64 to', .int .i64 D6, .int .i64 D2, .int .i64 at'] 3)) [n, E6, E2, E9] 3)
  have KW := hide (show Fresh w W from hW ▸ fresh_more (fresh_more (fresh_more K1.out _ _) _ _) _ _)
  have BW := hide (show BytesIn W (.slice a len cap) l from hW ▸ B1.out.fresh (fresh_more (fresh_more (fresh_box _ _ _) _ _) _ _))
  rw [← hW, ← hPN, ← hPT, ← hPA]
  have UA := hide (show ∀ k, k < 4 → -9223372036854775808 ≤ [at', C6, 0, C2].getD k 0 ∧ [at', C6, 0, C2].getD k 0 ≤ 9223372036854775807 from fun k hk => by
    match k, hk with
    | 0, _ => exact ⟨show _ ≤ at' by omega, show at' ≤ _ by omega⟩
    | 1, _ => exact ⟨show _ ≤ C6 by omega, show C6 ≤ _ by omega⟩
    | 2, _ => exact ⟨show _ ≤ (0 : Int) by decide, show (0 : Int) ≤ _ by decide⟩
    | 3, _ => exact ⟨show _ ≤ C2 by omega, show C2 ≤ _ by omega⟩)
  have UT := hide (show ∀ k, k < 4 → -9223372036854775808 ≤ [to', D6, D2, at'].getD k 0 ∧ [to', D6, D2, at'].getD k 0 ≤ 9223372036854775807 from fun k hk => by
    match k, hk with
    | 0, _ => exact ⟨show _ ≤ to' by omega, show to' ≤ _ by omega⟩
    | 1, _ => exact ⟨show _ ≤ D6 by omega, show D6 ≤ _ by omega⟩
    | 2, _ => exact ⟨show _ ≤ D2 by omega, show D2 ≤ _ by omega⟩
    | 3, _ => exact ⟨show _ ≤ at' by omega, show at' ≤ _ by omega⟩)
  have UN := hide (show ∀ k, k < 4 → -9223372036854775808 ≤ [n, E6, E2, E9].getD k 0 ∧ [n, E6, E2, E9].getD k 0 ≤ 9223372036854775807 from fun k hk => by
    match k, hk with
    | 0, _ => exact ⟨show _ ≤ n by omega, show n ≤ _ by omega⟩
    | 1, _ => exact ⟨show _ ≤ E6 by omega, show E6 ≤ _ by omega⟩
    | 2, _ => exact ⟨show _ ≤ E2 by omega, show E2 ≤ _ by omega⟩
    | 3, _ => exact ⟨show _ ≤ E9 by omega, show E9 ≤ _ by omega⟩)
  have LA := hide (show [at', C6, 0, C2].length = 4 from rfl)
  have LT := hide (show [to', D6, D2, at'].length = 4 from rfl)
  have LN := hide (show [n, E6, E2, E9].length = 4 from rfl)
  generalize [at', C6, 0, C2] = aL at IA UA LA
  generalize [to', D6, D2, at'] = tL at IT UT LT
  generalize [n, E6, E2, E9] = nL at IN UN LN
  clear hW hPA hPT hPN K1 B1 h1 h2 h3 h4 h5 h6 h7 r1 r2 r3 r4 r5 r6 r7 p0 p1 q0 q1 n0 n1 c0 c1 d0 d1 e0 e1
  go_loopw [20] (fun i wr => ∃ k : Nat, k ≤ 4 ∧ i = .int .i64 (k : Int) ∧ Fresh W wr) (fun i _ => (4 - intOf i).toNat)
  case atStart => exact ⟨0, by omega, rfl, Fresh.refl _⟩
  case round =>
    obtain ⟨k, hk, rfl, hf⟩ := hrel
    have F := hide hf
    have k0 : (0 : Int) ≤ (k : Int) := by omega
    by_cases gk : k < 4
    · have gk' : (k : Int) < 4 := by omega
      have GK := hide (show k + 1 ≤ 4 by omega)
      obtain ⟨x, hx⟩ : ∃ x, aL.getD k 0 = x := ⟨_, rfl⟩
      obtain ⟨y, hy⟩ : ∃ y, tL.getD k 0 = y := ⟨_, rfl⟩
      obtain ⟨m, hm⟩ : ∃ m, nL.getD k 0 = m := ⟨_, rfl⟩
      have KP0 := hide (show Kp W PA PT PN k x y m (.slice a len cap) l wr from ⟨hx ▸ IA.out.fr hf k (by rw [LA.out]; exact gk), hy ▸ IT.out.fr hf k (by rw [LT.out]; exact gk), hm ▸ IN.out.fr hf k (by rw [LN.out]; exact gk), BW.out.fresh hf, hf⟩)
      have XK := UA.out k gk
      have YK := UT.out k gk
      have MK := UN.out k gk
      rw [hx] at XK
      rw [hy] at YK
      rw [hm] at MK
      obtain ⟨x0, x1⟩ := XK
      obtain ⟨y0, y1⟩ := YK
      obtain ⟨m0, m1⟩ := MK
      obtain ⟨X0, hX0⟩ : ∃ X, zeroV l x m = X := ⟨_, rfl⟩
      obtain ⟨p, hp⟩ : ∃ p, hasN l.length x m = p := ⟨_, rfl⟩
      obtain ⟨X1, hX1⟩ : ∃ X, moveV l x y m = X := ⟨_, rfl⟩
      obtain ⟨q, hq⟩ : ∃ p, mayMove l.length x y m = p := ⟨_, rfl⟩
      have ZT := hide (fun w (h : BytesIn w (.slice a len cap) l) => yzero_to _ l X0 x m p w h x0 x1 m0 m1 hX0 hp)
      have RZ := hide (fun w (h : BytesIn w (.slice a len cap) l) => rzero_to _ l X0 x m p w h x0 x1 m0 m1 hX0 hp)
      have MT := hide (fun w (h : BytesIn w (.slice a len cap) l) => ymove_to _ l X1 x y m q w h x0 x1 y0 y1 m0 m1 hX1 hq)
      have RM := hide (fun w (h : BytesIn w (.slice a len cap) l) => rmove_to _ l X1 x y m q w h x0 x1 y0 y1 m0 m1 hX1 hq)
      clear hf gk hk hx hy hm hX0 hp hX1 hq y0 y1 m0 m1 UA UT UN LA LT LN IA IT IN BW
      go_wp2_with fail
      have HS := hide (KP0.out.fresh (Fresh.refl wr).drew)
      refine wp_region_held (S := (Kp W PA PT PN k x y m (.slice a len cap) l)) (by kernel_rfl) ?_
      change wpAnyH _ _ _ _ _ _ _ _ (World.drew _)
      refine held_take (i := 0) (d := 72) (v := ?_) rfl rfl (by kernel_rfl) (by kernel_rfl) (by kernel_rfl) (fun _ _ _ h => h) (by kernel_rfl) ?_ HS.out ?_
      rotate_left
      · intro wz hz
        obtain ⟨e1, e2, e3, -, -⟩ := hz
        go_simp
        first | done | with_reducible rfl
      refine held_take (i := 1) (d := 73) (v := ?_) rfl rfl (by kernel_rfl) (by kernel_rfl) (by kernel_rfl) (fun _ _ _ h => h) (by kernel_rfl) ?_ HS.out ?_
      rotate_left
      · intro wz hz
        obtain ⟨e1, e2, e3, -, -⟩ := hz
        go_simp
        first | done | with_reducible rfl
      refine held_take (i := 2) (d := 74) (v := ?_) rfl rfl (by kernel_rfl) (by kernel_rfl) (by kernel_rfl) (fun _ _ _ h => h) (by kernel_rfl) ?_ HS.out ?_
      rotate_left
      · intro wz hz
        obtain ⟨e1, e2, e3, -, -⟩ := hz
        go_simp
        first | done | with_reducible rfl
      refine held_take (i := 3) (d := 75) (v := ?_) rfl rfl (by kernel_rfl) (by kernel_rfl) (by kernel_rfl) (fun _ _ _ h => h) (by kernel_rfl) ?_ HS.out ?_
      rotate_left
      · intro wz hz
        obtain ⟨e1, e2, e3, -, -⟩ := hz
        go_simp
        first | done | with_reducible rfl
      refine held_take (i := 4) (d := 76) (v := ?_) rfl rfl (by kernel_rfl) (by kernel_rfl) (by kernel_rfl) (fun _ _ _ h => h) (by kernel_rfl) ?_ HS.out ?_
      rotate_left
      · intro wz hz
        obtain ⟨e1, e2, e3, -, -⟩ := hz
        go_simp
        first | done | with_reducible rfl
      refine held_take (i := 5) (d := 77) (v := ?_) rfl rfl (by kernel_rfl) (by kernel_rfl) (by kernel_rfl) (fun _ _ _ h => h) (by kernel_rfl) ?_ HS.out ?_
      rotate_left
      · intro wz hz
        obtain ⟨e1, e2, e3, -, -⟩ := hz
        go_simp
        first | done | with_reducible rfl
      refine held_take (i := 6) (d := 78) (v := ?_) rfl rfl (by kernel_rfl) (by kernel_rfl) (by kernel_rfl) (fun _ _ _ h => h) (by kernel_rfl) ?_ HS.out ?_
      rotate_left
      · intro wz hz
        obtain ⟨e1, e2, e3, -, -⟩ := hz
        go_simp
        first | done | with_reducible rfl
      refine held_take (i := 7) (d := 79) (v := ?_) rfl rfl (by kernel_rfl) (by kernel_rfl) (by kernel_rfl) (fun _ _ _ h => h) (by kernel_rfl) ?_ HS.out ?_
      rotate_left
      · intro wz hz
        obtain ⟨e1, e2, e3, -, -⟩ := hz
        go_simp
        first | done | with_reducible rfl
      refine held_take (i := 8) (d := 80) (v := ?_) rfl rfl (by kernel_rfl) (by kernel_rfl) (by kernel_rfl) (fun _ _ _ h => h) (by kernel_rfl) ?_ HS.out ?_
      rotate_left
      · intro wz hz
        obtain ⟨e1, e2, e3, -, -⟩ := hz
        go_simp
        first | done | with_reducible rfl
      refine wpAnyH_ready (rs := [9]) (by kernel_rfl) (by simp) ?_
      refine AllReadyH.cons rfl (fun K hK => ?_) AllReadyH.nil
      go_simp
      go_wp2_with fail
      refine (ZT.out _ HS.out.2.2.2.1).mono ?_; rintro e v1 ⟨u1, rfl, bu, fu⟩; have BU1 := hide bu; have KP1 := hide (HS.out.fresh fu); have FU1 := hide ((Fresh.refl wr).drew.trans fu); clear HS bu fu; have HS := hide KP1.out
      refine hK.out _ _ HS.out (fun _ => ?_)
      clear hK K
      refine held_take (i := 10) (d := 71) (v := ?_) rfl rfl (by kernel_rfl) (by kernel_rfl) (by kernel_rfl) (fun _ _ _ h => h) (by kernel_rfl) ?_ HS.out ?_
      rotate_left
      · intro wz hz
        obtain ⟨e1, e2, e3, -, -⟩ := hz
        go_simp
        first | done | with_reducible rfl
      refine held_take (i := 11) (d := 82) (v := ?_) rfl rfl (by kernel_rfl) (by kernel_rfl) (by kernel_rfl) (fun _ _ _ h => h) (by kernel_rfl) ?_ HS.out ?_
      rotate_left
      · intro wz hz
        obtain ⟨e1, e2, e3, -, -⟩ := hz
        go_simp
        first | done | with_reducible rfl
      refine held_take (i := 12) (d := 83) (v := ?_) rfl rfl (by kernel_rfl) (by kernel_rfl) (by kernel_rfl) (fun _ _ _ h => h) (by kernel_rfl) ?_ HS.out ?_
      rotate_left
      · intro wz hz
        obtain ⟨e1, e2, e3, -, -⟩ := hz
        go_simp
        first | done | with_reducible rfl
      refine held_take (i := 13) (d := 21) (v := ?_) rfl rfl (by kernel_rfl) (by kernel_rfl) (by kernel_rfl) (fun _ _ _ h => h) (by kernel_rfl) ?_ HS.out ?_
      rotate_left
      · intro wz hz
        obtain ⟨e1, e2, e3, -, -⟩ := hz
        go_simp
        first | done | with_reducible rfl
      refine held_take (i := 14) (d := 22) (v := ?_) rfl rfl (by kernel_rfl) (by kernel_rfl) (by kernel_rfl) (fun _ _ _ h => h) (by kernel_rfl) ?_ HS.out ?_
      rotate_left
      · intro wz hz
        obtain ⟨e1, e2, e3, -, -⟩ := hz
        go_simp
        first | done | with_reducible rfl
      refine wpAnyH_done (by kernel_rfl) ?_ _
      try simp only [Act.put, List.setIfInBounds_toArray, List.set_cons_succ, List.set_cons_zero]
      clear HS KP0
      go_wp2_with fail
      have HS := hide (KP1.out.fresh (Fresh.refl v1).drew)
      refine wp_region_held (S := (Kp W PA PT PN k x y m (.slice a len cap) l)) (by kernel_rfl) ?_
      change wpAnyH _ _ _ _ _ _ _ _ (World.drew _)
      refine held_take (i := 0) (d := 85) (v := ?_) rfl rfl (by kernel_rfl) (by kernel_rfl) (by kernel_rfl) (fun _ _ _ h => h) (by kernel_rfl) ?_ HS.out ?_
      rotate_left
      · intro wz hz
        obtain ⟨e1, e2, e3, -, -⟩ := hz
        go_simp
        first | done | with_reducible rfl
      refine held_take (i := 1) (d := 86) (v := ?_) rfl rfl (by kernel_rfl) (by kernel_rfl) (by kernel_rfl) (fun _ _ _ h => h) (by kernel_rfl) ?_ HS.out ?_
      rotate_left
      · intro wz hz
        obtain ⟨e1, e2, e3, -, -⟩ := hz
        go_simp
        first | done | with_reducible rfl
      refine held_take (i := 2) (d := 87) (v := ?_) rfl rfl (by kernel_rfl) (by kernel_rfl) (by kernel_rfl) (fun _ _ _ h => h) (by kernel_rfl) ?_ HS.out ?_
      rotate_left
      · intro wz hz
        obtain ⟨e1, e2, e3, -, -⟩ := hz
        go_simp
        first | done | with_reducible rfl
      refine held_take (i := 3) (d := 88) (v := ?_) rfl rfl (by kernel_rfl) (by kernel_rfl) (by kernel_rfl) (fun _ _ _ h => h) (by kernel_rfl) ?_ HS.out ?_
      rotate_left
      · intro wz hz
        obtain ⟨e1, e2, e3, -, -⟩ := hz
        go_simp
        first | done | with_reducible rfl
      refine held_take (i := 4) (d := 89) (v := ?_) rfl rfl (by kernel_rfl) (by kernel_rfl) (by kernel_rfl) (fun _ _ _ h => h) (by kernel_rfl) ?_ HS.out ?_
      rotate_left
      · intro wz hz
        obtain ⟨e1, e2, e3, -, -⟩ := hz
        go_simp
        first | done | with_reducible rfl
      refine held_take (i := 5) (d := 90) (v := ?_) rfl rfl (by kernel_rfl) (by kernel_rfl) (by kernel_rfl) (fun _ _ _ h => h) (by kernel_rfl) ?_ HS.out ?_
      rotate_left
      · intro wz hz
        obtain ⟨e1, e2, e3, -, -⟩ := hz
        go_simp
        first | done | with_reducible rfl
      refine held_take (i := 6) (d := 91) (v := ?_) rfl rfl (by kernel_rfl) (by kernel_rfl) (by kernel_rfl) (fun _ _ _ h => h) (by kernel_rfl) ?_ HS.out ?_
      rotate_left
      · intro wz hz
        obtain ⟨e1, e2, e3, -, -⟩ := hz
        go_simp
        first | done | with_reducible rfl
      refine held_take (i := 7) (d := 92) (v := ?_) rfl rfl (by kernel_rfl) (by kernel_rfl) (by kernel_rfl) (fun _ _ _ h => h) (by kernel_rfl) ?_ HS.out ?_
      rotate_left
      · intro wz hz
        obtain ⟨e1, e2, e3, -, -⟩ := hz
        go_simp
        first | done | with_reducible rfl
      refine held_take (i := 8) (d := 93) (v := ?_) rfl rfl (by kernel_rfl) (by kernel_rfl) (by kernel_rfl) (fun _ _ _ h => h) (by kernel_rfl) ?_ HS.out ?_
      rotate_left
      · intro wz hz
        obtain ⟨e1, e2, e3, -, -⟩ := hz
        go_simp
        first | done | with_reducible rfl
      refine wpAnyH_ready (rs := [9]) (by kernel_rfl) (by simp) ?_
      refine AllReadyH.cons rfl (fun K hK => ?_) AllReadyH.nil
      go_simp
      go_wp2_with fail
      refine (RZ.out _ HS.out.2.2.2.1).mono ?_; rintro e v2 ⟨u2, rfl, bu, fu⟩; have BU2 := hide bu; have KP2 := hide (HS.out.fresh fu); have FU2 := hide ((Fresh.refl v1).drew.trans fu); clear HS bu fu; have HS := hide KP2.out
      refine hK.out _ _ HS.out (fun _ => ?_)
      clear hK K
      refine held_take (i := 10) (d := 84) (v := ?_) rfl rfl (by kernel_rfl) (by kernel_rfl) (by kernel_rfl) (fun _ _ _ h => h) (by kernel_rfl) ?_ HS.out ?_
      rotate_left
      · intro wz hz
        obtain ⟨e1, e2, e3, -, -⟩ := hz
        go_simp
        first | done | with_reducible rfl
      refine held_take (i := 11) (d := 95) (v := ?_) rfl rfl (by kernel_rfl) (by kernel_rfl) (by kernel_rfl) (fun _ _ _ h => h) (by kernel_rfl) ?_ HS.out ?_
      rotate_left
      · intro wz hz
        obtain ⟨e1, e2, e3, -, -⟩ := hz
        go_simp
        first | done | with_reducible rfl
      refine held_take (i := 12) (d := 96) (v := ?_) rfl rfl (by kernel_rfl) (by kernel_rfl) (by kernel_rfl) (fun _ _ _ h => h) (by kernel_rfl) ?_ HS.out ?_
      rotate_left
      · intro wz hz
        obtain ⟨e1, e2, e3, -, -⟩ := hz
        go_simp
        first | done | with_reducible rfl
      refine held_take (i := 13) (d := 23) (v := ?_) rfl rfl (by kernel_rfl) (by kernel_rfl) (by kernel_rfl) (fun _ _ _ h => h) (by kernel_rfl) ?_ HS.out ?_
      rotate_left
      · intro wz hz
        obtain ⟨e1, e2, e3, -, -⟩ := hz
        go_simp
        first | done | with_reducible rfl
      refine held_take (i := 14) (d := 24) (v := ?_) rfl rfl (by kernel_rfl) (by kernel_rfl) (by kernel_rfl) (fun _ _ _ h => h) (by kernel_rfl) ?_ HS.out ?_
      rotate_left
      · intro wz hz
        obtain ⟨e1, e2, e3, -, -⟩ := hz
        go_simp
        first | done | with_reducible rfl
      refine wpAnyH_done (by kernel_rfl) ?_ _
      try simp only [Act.put, List.setIfInBounds_toArray, List.set_cons_succ, List.set_cons_zero]
      clear HS KP1
      go_wp2_with fail
      have HS := hide (KP2.out.fresh (Fresh.refl v2).drew)
      refine wp_region_held (S := (Kp W PA PT PN k x y m (.slice a len cap) l)) (by kernel_rfl) ?_
      change wpAnyH _ _ _ _ _ _ _ _ (World.drew _)
      refine held_take (i := 0) (d := 98) (v := ?_) rfl rfl (by kernel_rfl) (by kernel_rfl) (by kernel_rfl) (fun _ _ _ h => h) (by kernel_rfl) ?_ HS.out ?_
      rotate_left
      · intro wz hz
        obtain ⟨e1, e2, e3, -, -⟩ := hz
        go_simp
        first | done | with_reducible rfl
      refine held_take (i := 1) (d := 99) (v := ?_) rfl rfl (by kernel_rfl) (by kernel_rfl) (by kernel_rfl) (fun _ _ _ h => h) (by kernel_rfl) ?_ HS.out ?_
      rotate_left
      · intro wz hz
        obtain ⟨e1, e2, e3, -, -⟩ := hz
        go_simp
        first | done | with_reducible rfl
      refine held_take (i := 2) (d := 100) (v := ?_) rfl rfl (by kernel_rfl) (by kernel_rfl) (by kernel_rfl) (fun _ _ _ h => h) (by kernel_rfl) ?_ HS.out ?_
      rotate_left
      · intro wz hz
        obtain ⟨e1, e2, e3, -, -⟩ := hz
        go_simp
        first | done | with_reducible rfl
      refine held_take (i := 3) (d := 101) (v := ?_) rfl rfl (by kernel_rfl) (by kernel_rfl) (by kernel_rfl) (fun _ _ _ h => h) (by kernel_rfl) ?_ HS.out ?_
      rotate_left
      · intro wz hz
        obtain ⟨e1, e2, e3, -, -⟩ := hz
        go_simp
        first | done | with_reducible rfl
      refine held_take (i := 4) (d := 102) (v := ?_) rfl rfl (by kernel_rfl) (by kernel_rfl) (by kernel_rfl) (fun _ _ _ h => h) (by kernel_rfl) ?_ HS.out ?_
      rotate_left
      · intro wz hz
        obtain ⟨e1, e2, e3, -, -⟩ := hz
        go_simp
        first | done | with_reducible rfl
      refine held_take (i := 5) (d := 103) (v := ?_) rfl rfl (by kernel_rfl) (by kernel_rfl) (by kernel_rfl) (fun _ _ _ h => h) (by kernel_rfl) ?_ HS.out ?_
      rotate_left
      · intro wz hz
        obtain ⟨e1, e2, e3, -, -⟩ := hz
        go_simp
        first | done | with_reducible rfl
      refine held_take (i := 6) (d := 104) (v := ?_) rfl rfl (by kernel_rfl) (by kernel_rfl) (by kernel_rfl) (fun _ _ _ h => h) (by kernel_rfl) ?_ HS.out ?_
      rotate_left
      · intro wz hz
        obtain ⟨e1, e2, e3, -, -⟩ := hz
        go_simp
        first | done | with_reducible rfl
      refine held_take (i := 7) (d := 105) (v := ?_) rfl rfl (by kernel_rfl) (by kernel_rfl) (by kernel_rfl) (fun _ _ _ h => h) (by kernel_rfl) ?_ HS.out ?_
      rotate_left
      · intro wz hz
        obtain ⟨e1, e2, e3, -, -⟩ := hz
        go_simp
        first | done | with_reducible rfl
      refine held_take (i := 8) (d := 106) (v := ?_) rfl rfl (by kernel_rfl) (by kernel_rfl) (by kernel_rfl) (fun _ _ _ h => h) (by kernel_rfl) ?_ HS.out ?_
      rotate_left
      · intro wz hz
        obtain ⟨e1, e2, e3, -, -⟩ := hz
        go_simp
        first | done | with_reducible rfl
      refine held_take (i := 9) (d := 107) (v := ?_) rfl rfl (by kernel_rfl) (by kernel_rfl) (by kernel_rfl) (fun _ _ _ h => h) (by kernel_rfl) ?_ HS.out ?_
      rotate_left
      · intro wz hz
        obtain ⟨e1, e2, e3, -, -⟩ := hz
        go_simp
        first | done | with_reducible rfl
      refine held_take (i := 10) (d := 108) (v := ?_) rfl rfl (by kernel_rfl) (by kernel_rfl) (by kernel_rfl) (fun _ _ _ h => h) (by kernel_rfl) ?_ HS.out ?_
      rotate_left
      · intro wz hz
        obtain ⟨e1, e2, e3, -, -⟩ := hz
        go_simp
        first | done | with_reducible rfl
      refine held_take (i := 11) (d := 109) (v := ?_) rfl rfl (by kernel_rfl) (by kernel_rfl) (by kernel_rfl) (fun _ _ _ h => h) (by kernel_rfl) ?_ HS.out ?_
      rotate_left
      · intro wz hz
        obtain ⟨e1, e2, e3, -, -⟩ := hz
        go_simp
        first | done | with_reducible rfl
      refine held_take (i := 12) (d := 110) (v := ?_) rfl rfl (by kernel_rfl) (by kernel_rfl) (by kernel_rfl) (fun _ _ _ h => h) (by kernel_rfl) ?_ HS.out ?_
      rotate_left
      · intro wz hz
        obtain ⟨e1, e2, e3, -, -⟩ := hz
        go_simp
        first | done | with_reducible rfl
      refine wpAnyH_ready (rs := [13]) (by kernel_rfl) (by simp) ?_
      refine AllReadyH.cons rfl (fun K hK => ?_) AllReadyH.nil
      go_simp
      go_wp2_with fail
      refine (MT.out _ HS.out.2.2.2.1).mono ?_; rintro e v3 ⟨u3, rfl, bu, fu⟩; have BU3 := hide bu; have KP3 := hide (HS.out.fresh fu); have FU3 := hide ((Fresh.refl v2).drew.trans fu); clear HS bu fu; have HS := hide KP3.out
      refine hK.out _ _ HS.out (fun _ => ?_)
      clear hK K
      refine held_take (i := 14) (d := 97) (v := ?_) rfl rfl (by kernel_rfl) (by kernel_rfl) (by kernel_rfl) (fun _ _ _ h => h) (by kernel_rfl) ?_ HS.out ?_
      rotate_left
      · intro wz hz
        obtain ⟨e1, e2, e3, -, -⟩ := hz
        go_simp
        first | done | with_reducible rfl
      refine held_take (i := 15) (d := 112) (v := ?_) rfl rfl (by kernel_rfl) (by kernel_rfl) (by kernel_rfl) (fun _ _ _ h => h) (by kernel_rfl) ?_ HS.out ?_
      rotate_left
      · intro wz hz
        obtain ⟨e1, e2, e3, -, -⟩ := hz
        go_simp
        first | done | with_reducible rfl
      refine held_take (i := 16) (d := 113) (v := ?_) rfl rfl (by kernel_rfl) (by kernel_rfl) (by kernel_rfl) (fun _ _ _ h => h) (by kernel_rfl) ?_ HS.out ?_
      rotate_left
      · intro wz hz
        obtain ⟨e1, e2, e3, -, -⟩ := hz
        go_simp
        first | done | with_reducible rfl
      refine held_take (i := 17) (d := 25) (v := ?_) rfl rfl (by kernel_rfl) (by kernel_rfl) (by kernel_rfl) (fun _ _ _ h => h) (by kernel_rfl) ?_ HS.out ?_
      rotate_left
      · intro wz hz
        obtain ⟨e1, e2, e3, -, -⟩ := hz
        go_simp
        first | done | with_reducible rfl
      refine held_take (i := 18) (d := 26) (v := ?_) rfl rfl (by kernel_rfl) (by kernel_rfl) (by kernel_rfl) (fun _ _ _ h => h) (by kernel_rfl) ?_ HS.out ?_
      rotate_left
      · intro wz hz
        obtain ⟨e1, e2, e3, -, -⟩ := hz
        go_simp
        first | done | with_reducible rfl
      refine wpAnyH_done (by kernel_rfl) ?_ _
      try simp only [Act.put, List.setIfInBounds_toArray, List.set_cons_succ, List.set_cons_zero]
      clear HS KP2
      go_wp2_with fail
      have HS := hide (KP3.out.fresh (Fresh.refl v3).drew)
      refine wp_region_held (S := (Kp W PA PT PN k x y m (.slice a len cap) l)) (by kernel_rfl) ?_
      change wpAnyH _ _ _ _ _ _ _ _ (World.drew _)
      refine held_take (i := 0) (d := 115) (v := ?_) rfl rfl (by kernel_rfl) (by kernel_rfl) (by kernel_rfl) (fun _ _ _ h => h) (by kernel_rfl) ?_ HS.out ?_
      rotate_left
      · intro wz hz
        obtain ⟨e1, e2, e3, -, -⟩ := hz
        go_simp
        first | done | with_reducible rfl
      refine held_take (i := 1) (d := 116) (v := ?_) rfl rfl (by kernel_rfl) (by kernel_rfl) (by kernel_rfl) (fun _ _ _ h => h) (by kernel_rfl) ?_ HS.out ?_
      rotate_left
      · intro wz hz
        obtain ⟨e1, e2, e3, -, -⟩ := hz
        go_simp
        first | done | with_reducible rfl
      refine held_take (i := 2) (d := 117) (v := ?_) rfl rfl (by kernel_rfl) (by kernel_rfl) (by kernel_rfl) (fun _ _ _ h => h) (by kernel_rfl) ?_ HS.out ?_
      rotate_left
      · intro wz hz
        obtain ⟨e1, e2, e3, -, -⟩ := hz
        go_simp
        first | done | with_reducible rfl
      refine held_take (i := 3) (d := 118) (v := ?_) rfl rfl (by kernel_rfl) (by kernel_rfl) (by kernel_rfl) (fun _ _ _ h => h) (by kernel_rfl) ?_ HS.out ?_
      rotate_left
      · intro wz hz
        obtain ⟨e1, e2, e3, -, -⟩ := hz
        go_simp
        first | done | with_reducible rfl
      refine held_take (i := 4) (d := 119) (v := ?_) rfl rfl (by kernel_rfl) (by kernel_rfl) (by kernel_rfl) (fun _ _ _ h => h) (by kernel_rfl) ?_ HS.out ?_
      rotate_left
      · intro wz hz
        obtain ⟨e1, e2, e3, -, -⟩ := hz
        go_simp
        first | done | with_reducible rfl
      refine held_take (i := 5) (d := 120) (v := ?_) rfl rfl (by kernel_rfl) (by kernel_rfl) (by kernel_rfl) (fun _ _ _ h => h) (by kernel_rfl) ?_ HS.out ?_
      rotate_left
      · intro wz hz
        obtain ⟨e1, e2, e3, -, -⟩ := hz
        go_simp
        first | done | with_reducible rfl
      refine held_take (i := 6) (d := 121) (v := ?_) rfl rfl (by kernel_rfl) (by kernel_rfl) (by kernel_rfl) (fun _ _ _ h => h) (by kernel_rfl) ?_ HS.out ?_
      rotate_left
      · intro wz hz
        obtain ⟨e1, e2, e3, -, -⟩ := hz
        go_simp
        first | done | with_reducible rfl
      refine held_take (i := 7) (d := 122) (v := ?_) rfl rfl (by kernel_rfl) (by kernel_rfl) (by kernel_rfl) (fun _ _ _ h => h) (by kernel_rfl) ?_ HS.out ?_
      rotate_left
      · intro wz hz
        obtain ⟨e1, e2, e3, -, -⟩ := hz
        go_simp
        first | done | with_reducible rfl
      refine held_take (i := 8) (d := 123) (v := ?_) rfl rfl (by kernel_rfl) (by kernel_rfl) (by kernel_rfl) (fun _ _ _ h => h) (by kernel_rfl) ?_ HS.out ?_
      rotate_left
      · intro wz hz
        obtain ⟨e1, e2, e3, -, -⟩ := hz
        go_simp
        first | done | with_reducible rfl
      refine held_take (i := 9) (d := 124) (v := ?_) rfl rfl (by kernel_rfl) (by kernel_rfl) (by kernel_rfl) (fun _ _ _ h => h) (by kernel_rfl) ?_ HS.out ?_
      rotate_left
      · intro wz hz
        obtain ⟨e1, e2, e3, -, -⟩ := hz
        go_simp
        first | done | with_reducible rfl
      refine held_take (i := 10) (d := 125) (v := ?_) rfl rfl (by kernel_rfl) (by kernel_rfl) (by kernel_rfl) (fun _ _ _ h => h) (by kernel_rfl) ?_ HS.out ?_
      rotate_left
      · intro wz hz
        obtain ⟨e1, e2, e3, -, -⟩ := hz
        go_simp
        first | done | with_reducible rfl
      refine held_take (i := 11) (d := 126) (v := ?_) rfl rfl (by kernel_rfl) (by kernel_rfl) (by kernel_rfl) (fun _ _ _ h => h) (by kernel_rfl) ?_ HS.out ?_
      rotate_left
      · intro wz hz
        obtain ⟨e1, e2, e3, -, -⟩ := hz
        go_simp
        first | done | with_reducible rfl
      refine held_take (i := 12) (d := 127) (v := ?_) rfl rfl (by kernel_rfl) (by kernel_rfl) (by kernel_rfl) (fun _ _ _ h => h) (by kernel_rfl) ?_ HS.out ?_
      rotate_left
      · intro wz hz
        obtain ⟨e1, e2, e3, -, -⟩ := hz
        go_simp
        first | done | with_reducible rfl
      refine wpAnyH_ready (rs := [13]) (by kernel_rfl) (by simp) ?_
      refine AllReadyH.cons rfl (fun K hK => ?_) AllReadyH.nil
      go_simp
      go_wp2_with fail
      refine (RM.out _ HS.out.2.2.2.1).mono ?_; rintro e v4 ⟨u4, rfl, bu, fu⟩; have BU4 := hide bu; have KP4 := hide (HS.out.fresh fu); have FU4 := hide ((Fresh.refl v3).drew.trans fu); clear HS bu fu; have HS := hide KP4.out
      refine hK.out _ _ HS.out (fun _ => ?_)
      clear hK K
      refine held_take (i := 14) (d := 114) (v := ?_) rfl rfl (by kernel_rfl) (by kernel_rfl) (by kernel_rfl) (fun _ _ _ h => h) (by kernel_rfl) ?_ HS.out ?_
      rotate_left
      · intro wz hz
        obtain ⟨e1, e2, e3, -, -⟩ := hz
        go_simp
        first | done | with_reducible rfl
      refine held_take (i := 15) (d := 129) (v := ?_) rfl rfl (by kernel_rfl) (by kernel_rfl) (by kernel_rfl) (fun _ _ _ h => h) (by kernel_rfl) ?_ HS.out ?_
      rotate_left
      · intro wz hz
        obtain ⟨e1, e2, e3, -, -⟩ := hz
        go_simp
        first | done | with_reducible rfl
      refine held_take (i := 16) (d := 130) (v := ?_) rfl rfl (by kernel_rfl) (by kernel_rfl) (by kernel_rfl) (fun _ _ _ h => h) (by kernel_rfl) ?_ HS.out ?_
      rotate_left
      · intro wz hz
        obtain ⟨e1, e2, e3, -, -⟩ := hz
        go_simp
        first | done | with_reducible rfl
      refine held_take (i := 17) (d := 27) (v := ?_) rfl rfl (by kernel_rfl) (by kernel_rfl) (by kernel_rfl) (fun _ _ _ h => h) (by kernel_rfl) ?_ HS.out ?_
      rotate_left
      · intro wz hz
        obtain ⟨e1, e2, e3, -, -⟩ := hz
        go_simp
        first | done | with_reducible rfl
      refine held_take (i := 18) (d := 28) (v := ?_) rfl rfl (by kernel_rfl) (by kernel_rfl) (by kernel_rfl) (fun _ _ _ h => h) (by kernel_rfl) ?_ HS.out ?_
      rotate_left
      · intro wz hz
        obtain ⟨e1, e2, e3, -, -⟩ := hz
        go_simp
        first | done | with_reducible rfl
      refine wpAnyH_done (by kernel_rfl) ?_ _
      try simp only [Act.put, List.setIfInBounds_toArray, List.set_cons_succ, List.set_cons_zero]
      clear HS KP3
      have BA := hide (BU1.out.fresh (Fresh.trans FU2.out (Fresh.trans FU3.out FU4.out)))
      have BB := hide (BU2.out.fresh (Fresh.trans FU3.out FU4.out))
      have BC := hide (BU3.out.fresh FU4.out)
      have BD := hide BU4.out
      clear BU1 BU2 BU3 BU4 FU1 FU2 FU3 FU4
      have d1 := KP4.out.1
      clear d1 ZT RZ MT RM
      obtain ⟨PV, hPV⟩ : ∃ X, putV l x v = X := ⟨_, rfl⟩
      have PL := hide (show PV.length = len by rw [← hPV, putV_length, HL.out])
      have HPV := hide hPV
      clear hPV
      by_cases gh : 0 ≤ x ∧ x < (len : Int)
      · obtain ⟨h0, h1⟩ := gh
        have XL : x.toNat < len := by omega
        obtain ⟨ab, ao, rfl, -⟩ := (KP4.out.2.2.2.1).cell x.toNat (by rw [HL.out]; exact XL)
        obtain ⟨z0, hz0⟩ : ∃ z, l.getD x.toNat 0 = z := ⟨_, rfl⟩
        have hy1 : hasY l.length x = true := by rw [HL.out]; exact decide_eq_true ⟨h0, h1⟩
        have HZ5 := hide (show PV.getD x.toNat 0 = v by
          rw [← HPV.out]
          unfold putV
          rw [if_pos hy1]
          simp [List.getD_eq_getElem?_getD, HL.out, XL])
        have GT := hide (fun w (h : BytesIn w (.slice (some ⟨ab, ao, none⟩) len cap) l) => yget_to _ l x z0 true w h x0 x1 (by unfold getV; rw [if_pos hy1]; exact hz0) hy1)
        have PT' := hide (fun w (h : BytesIn w (.slice (some ⟨ab, ao, none⟩) len cap) l) => yput_to _ l PV x v true w h x0 x1 HPV.out hy1)
        have HZ0 := hide hz0
        have HXL := hide XL
        have d1 := KP4.out.1
        clear hy1 x0 x1 hz0 XL
        go_wp2_with fail
        refine (GT.out _ KP4.out.2.2.2.1).mono ?_
        rintro e w' ⟨rfl, rfl⟩
        go_wp2_with fail
        refine (PT'.out _ KP4.out.2.2.2.1).mono ?_
        rintro e v5 ⟨u5, rfl, b5, f5⟩
        obtain ⟨a5, c5, rfl, -, -⟩ := b5.shape
        obtain ⟨ab5, ao5, rfl, -⟩ := b5.cell x.toNat (by rw [PL.out]; exact HXL.out)
        have BP := hide b5
        have KP5 := hide (KP4.out.fresh f5)
        have BA5 := hide (BA.out.fresh f5)
        have BB5 := hide (BB.out.fresh f5)
        have BC5 := hide (BC.out.fresh f5)
        have BD5 := hide (BD.out.fresh f5)
        rw [PL.out] at BP ⊢
        clear b5 f5 KP4 BA BB BC BD d1
        have s1 := bytes_str BA5.out
        have s2 := bytes_str BB5.out
        have s3 := bytes_str BC5.out
        have s4 := bytes_str BD5.out
        have d1 := KP5.out.1
        have pp : (p != p) = false := by simp
        have qq : (q != q) = false := by simp
        have pp2 : (!(p == p)) = false := by simp
        have qq2 : (!(q == q)) = false := by simp
        obtain ⟨b8, o8, e8, c8⟩ := KP5.out.2.2.2.1.cell x.toNat (by rw [HL.out]; exact HXL.out)
        cases e8
        rw [HZ0.out] at c8
        obtain ⟨b9, o9, e9, c9⟩ := BP.out.cell x.toNat (by rw [PL.out]; exact HXL.out)
        cases e9
        rw [HZ5.out] at c9
        have FE := hide KP5.out.2.2.2.2
        clear BA5 BB5 BC5 BD5 BP KP5 GT PT' HPV
        go_upto_region 16 with fail
        dsimp only [List.append]
        go_wp2
        go_roundw
        case rel => exact ⟨k + 1, GK.out, by go_num, FE.out⟩
        case measure => simp [intOf]; omega
      · have hy1 : hasY l.length x = false := by rw [HL.out]; exact decide_eq_false gh
        have hPV : PV = l := by rw [← HPV.out]; unfold putV; rw [hy1]; rfl
        subst hPV
        have GT := hide (fun w (h : BytesIn w (.slice a len cap) PV) => yget_to _ PV x 0 false w h x0 x1 (by unfold getV; rw [hy1]; rfl) hy1)
        have PT' := hide (fun w (h : BytesIn w (.slice a len cap) PV) => yput_to _ PV PV x v false w h x0 x1 HPV.out hy1)
        have d1 := KP4.out.1
        clear hy1 x0 x1
        by_cases h0 : 0 ≤ x
        · have h1 : decide (x < (len : Int)) = false := decide_eq_false fun h => gh ⟨h0, h⟩
          clear gh
          go_wp2_with fail
          refine (GT.out _ KP4.out.2.2.2.1).mono ?_
          rintro e w' ⟨rfl, rfl⟩
          go_wp2_with fail
          refine (PT'.out _ KP4.out.2.2.2.1).mono ?_
          rintro e v5 ⟨u5, rfl, b5, f5⟩
          obtain ⟨a5, c5, rfl, -, -⟩ := b5.shape
          have BP := hide b5
          have KP5 := hide (KP4.out.fresh f5)
          have BA5 := hide (BA.out.fresh f5)
          have BB5 := hide (BB.out.fresh f5)
          have BC5 := hide (BC.out.fresh f5)
          have BD5 := hide (BD.out.fresh f5)
          rw [PL.out] at BP ⊢
          clear b5 f5 KP4 BA BB BC BD d1
          have s1 := bytes_str BA5.out
          have s2 := bytes_str BB5.out
          have s3 := bytes_str BC5.out
          have s4 := bytes_str BD5.out
          have d1 := KP5.out.1
          have pp : (p != p) = false := by simp
          have qq : (q != q) = false := by simp
          have pp2 : (!(p == p)) = false := by simp
          have qq2 : (!(q == q)) = false := by simp
          have s5 := bytes_str BP.out
          have s6 := bytes_str KP5.out.2.2.2.1
          have FE := hide KP5.out.2.2.2.2
          clear BA5 BB5 BC5 BD5 BP KP5 GT PT' HPV
          go_upto_region 16 with fail
          dsimp only [List.append]
          go_wp2
          go_roundw
          case rel => exact ⟨k + 1, GK.out, by go_num, FE.out⟩
          case measure => simp [intOf]; omega
        · have h1 : decide (0 ≤ x) = false := decide_eq_false h0
          clear gh h0
          go_wp2_with fail
          refine (GT.out _ KP4.out.2.2.2.1).mono ?_
          rintro e w' ⟨rfl, rfl⟩
          go_wp2_with fail
          refine (PT'.out _ KP4.out.2.2.2.1).mono ?_
          rintro e v5 ⟨u5, rfl, b5, f5⟩
          obtain ⟨a5, c5, rfl, -, -⟩ := b5.shape
          have BP := hide b5
          have KP5 := hide (KP4.out.fresh f5)
          have BA5 := hide (BA.out.fresh f5)
          have BB5 := hide (BB.out.fresh f5)
          have BC5 := hide (BC.out.fresh f5)
          have BD5 := hide (BD.out.fresh f5)
          rw [PL.out] at BP ⊢
          clear b5 f5 KP4 BA BB BC BD d1
          have s1 := bytes_str BA5.out
          have s2 := bytes_str BB5.out
          have s3 := bytes_str BC5.out
          have s4 := bytes_str BD5.out
          have d1 := KP5.out.1
          have pp : (p != p) = false := by simp
          have qq : (q != q) = false := by simp
          have pp2 : (!(p == p)) = false := by simp
          have qq2 : (!(q == q)) = false := by simp
          have s5 := bytes_str BP.out
          have s6 := bytes_str KP5.out.2.2.2.1
          have FE := hide KP5.out.2.2.2.2
          clear BA5 BB5 BC5 BD5 BP KP5 GT PT' HPV
          go_upto_region 16 with fail
          dsimp only [List.append]
          go_wp2
          go_roundw
          case rel => exact ⟨k + 1, GK.out, by go_num, FE.out⟩
          case measure => simp [intOf]; omega
    · obtain rfl : k = 4 := by omega
      clear hf
      go_wp2
      go_ret
      exact ⟨rfl, KW.out.trans F.out⟩

set_option linter.unusedVariables false
set_option maxRecDepth 100000 in
theorem memAll_lifted (os : Os) (started : os.Started) (H : Type) (enc : TypeId × Value → H) :
    ReturnsInHanded {} Try.checked os 3 .any (Rows.memAllSpec.pre6 enc Try.prog Try.f3 Rows.memAllRow.domain false) (Rows.memAllSpec.post enc Try.prog Try.f3 false true false false) := by
  refine returnsInHanded_of_change (C := Try.checked) own started (by kernel_rfl) Try.func3
    (ChangeSpec.witness6 (enc := enc) (C := Try.checked) false ⟨#[], #[.slice none 0 0, .int .i64 0, .int .i64 0, .int .i64 0, .int .u8 0, .int .u8 0, .int .u8 0, .int .u8 0], []⟩ 8 (by kernel_rfl) (by kernel_rfl) (by kernel_rfl) (by kernel_rfl)) ?_
  intro W base args ds gs before hval0 hW hcnd _
  have hval : ∀ (j : Nat) t v, Try.f3.params[j]? = some t → args[j]? = some v → Value.okWide Try.prog W .any base t v := hval0
  have hW' := hW
  obtain ⟨p, q, hA0, hV, rfl, hfz, hnd⟩ := hW
  have hA : DataW.TrodAll enc Try.prog W 0 (fun _ => true) true Try.f3.params.toList args.toList ds p := hA0
  rw [Try.params3] at hA hval
  obtain ⟨v0, vs0, d0, ds0, p0, q0, hargs, rfl, rfl, h0, r0⟩ := trodAll_cons hA
  obtain ⟨v1, vs1, d1, ds1, p1, q1, rfl, rfl, rfl, h1, r1⟩ := trodAll_cons r0
  obtain ⟨v2, vs2, d2, ds2, p2, q2, rfl, rfl, rfl, h2, r2⟩ := trodAll_cons r1
  obtain ⟨v3, vs3, d3, ds3, p3, q3, rfl, rfl, rfl, h3, r3⟩ := trodAll_cons r2
  obtain ⟨v4, vs4, d4, ds4, p4, q4, rfl, rfl, rfl, h4, r4⟩ := trodAll_cons r3
  obtain ⟨v5, vs5, d5, ds5, p5, q5, rfl, rfl, rfl, h5, r5⟩ := trodAll_cons r4
  obtain ⟨v6, vs6, d6, ds6, p6, q6, rfl, rfl, rfl, h6, r6⟩ := trodAll_cons r5
  obtain ⟨v7, vs7, d7, ds7, p7, q7, rfl, rfl, rfl, h7, r7⟩ := trodAll_cons r6
  obtain ⟨rfl, rfl, rfl⟩ := trodAll_nil r7
  obtain rfl : args = #[v0, v1, v2, v3, v4, v5, v6, v7] := by cases args; simp_all
  obtain ⟨rfl, rfl⟩ := trodVars_none hV
  have lt0 : ∀ x ∈ p0, x.block < W.heap.size := by obtain ⟨m, hm⟩ := h0; exact DataW.trod_lt m _ _ _ hm
  have lt1 : ∀ x ∈ p1, x.block < W.heap.size := by obtain ⟨m, hm⟩ := h1; exact DataW.trod_lt m _ _ _ hm
  have lt2 : ∀ x ∈ p2, x.block < W.heap.size := by obtain ⟨m, hm⟩ := h2; exact DataW.trod_lt m _ _ _ hm
  have lt3 : ∀ x ∈ p3, x.block < W.heap.size := by obtain ⟨m, hm⟩ := h3; exact DataW.trod_lt m _ _ _ hm
  have lt4 : ∀ x ∈ p4, x.block < W.heap.size := by obtain ⟨m, hm⟩ := h4; exact DataW.trod_lt m _ _ _ hm
  have lt5 : ∀ x ∈ p5, x.block < W.heap.size := by obtain ⟨m, hm⟩ := h5; exact DataW.trod_lt m _ _ _ hm
  have lt6 : ∀ x ∈ p6, x.block < W.heap.size := by obtain ⟨m, hm⟩ := h6; exact DataW.trod_lt m _ _ _ hm
  have lt7 : ∀ x ∈ p7, x.block < W.heap.size := by obtain ⟨m, hm⟩ := h7; exact DataW.trod_lt m _ _ _ hm
  obtain ⟨a0, len0, cap0, rfl⟩ := okWide_slice Try.underlying22 (hval 0 22 v0 rfl rfl)
  obtain ⟨z0, w0⟩ := isRow_of Try.underlying22 Try.underlying5 (by kernel_rfl) h0
  obtain ⟨a1, rfl, rfl, rfl, w1⟩ := open_int Try.underlying3 (hval 1 3 v1 rfl rfl) h1
  obtain ⟨a2, rfl, rfl, rfl, w2⟩ := open_int Try.underlying3 (hval 2 3 v2 rfl rfl) h2
  obtain ⟨a3, rfl, rfl, rfl, w3⟩ := open_int Try.underlying3 (hval 3 3 v3 rfl rfl) h3
  obtain ⟨a4, rfl, rfl, rfl, w4⟩ := open_int Try.underlying5 (hval 4 5 v4 rfl rfl) h4
  obtain ⟨a5, rfl, rfl, rfl, w5⟩ := open_int Try.underlying5 (hval 5 5 v5 rfl rfl) h5
  obtain ⟨a6, rfl, rfl, rfl, w6⟩ := open_int Try.underlying5 (hval 6 5 v6 rfl rfl) h6
  obtain ⟨a7, rfl, rfl, rfl, w7⟩ := open_int Try.underlying5 (hval 7 5 v7 rfl rfl) h7
  clear hA0 hval0
  refine (memAll_walk0 a0 len0 cap0 z0 a1 (bounds_i64 w1).1 (bounds_i64 w1).2 a2 (bounds_i64 w2).1 (bounds_i64 w2).2 a3 (bounds_i64 w3).1 (bounds_i64 w3).2 a4 (bounds_u8 w4).1 (bounds_u8 w4).2 a5 (bounds_u8 w5).1 (bounds_u8 w5).2 a6 (bounds_u8 w6).1 (bounds_u8 w6).2 a7 (bounds_u8 w7).1 (bounds_u8 w7).2 W w0).mono fun e W' ⟨he, hg⟩ => ?_
  subst he
  exact ⟨_, rfl, _, _, _, [], _, [], hW', trodAll_mk1 (shut_bool Try.underlying4 _), (trodAll_cons_mk (Below.trod laidOut (by kernel_rfl) (of_decide_eq_true (by kernel_rfl)) h0 hg lt0) (trodAll_cons_mk (Below.trod laidOut (by kernel_rfl) (of_decide_eq_true (by kernel_rfl)) h1 hg lt1) (trodAll_cons_mk (Below.trod laidOut (by kernel_rfl) (of_decide_eq_true (by kernel_rfl)) h2 hg lt2) (trodAll_cons_mk (Below.trod laidOut (by kernel_rfl) (of_decide_eq_true (by kernel_rfl)) h3 hg lt3) (trodAll_cons_mk (Below.trod laidOut (by kernel_rfl) (of_decide_eq_true (by kernel_rfl)) h4 hg lt4) (trodAll_cons_mk (Below.trod laidOut (by kernel_rfl) (of_decide_eq_true (by kernel_rfl)) h5 hg lt5) (trodAll_cons_mk (Below.trod laidOut (by kernel_rfl) (of_decide_eq_true (by kernel_rfl)) h6 hg lt6) (trodAll_cons_mk (Below.trod laidOut (by kernel_rfl) (of_decide_eq_true (by kernel_rfl)) h7 hg lt7) trodAll_mk0)))))))), rfl, hg.frame _, fun h => by cases h⟩

theorem memAll_row : Rows.MemAllSaid :=
  OpenClaim.holds_of_wide 3 Try.f3 rfl rfl rfl rfl rfl rfl rfl ⟨rfl, rfl, rfl, rfl, rfl⟩ rfl rfl rfl rfl rfl (by kernel_rfl) Try.func3 (by kernel_rfl)
    (of_decide_eq_true (by kernel_rfl)) (by unfold Func.isWrapper; first | (rw [if_pos (by decide +kernel)]; kernel_rfl) | (rw [if_neg (by decide +kernel)]; exact ⟨rfl, rfl⟩))
    (fun os started H enc _ => memAll_lifted os started H enc)

theorem memAll_holds : Rows.MemAllSaid := memAll_row
#print axioms memAll_holds
end Go.Proofs.Ytbbfbelhdjloeaa
