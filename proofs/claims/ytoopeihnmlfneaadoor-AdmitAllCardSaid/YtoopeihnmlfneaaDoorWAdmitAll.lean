/- The walk of hodmanlaw16.AdmitAll: who is let in, as the document has it. -/
import Derived.Test.YtoopeihnmlfneaaDoorAdmitLaw
import Derived.Test.YtoopeihnmlfneaaDoorRefAdmit
import Derived.Test.YtoopeihnmlfneaaDoorAdmitPlay
import Derived.Test.YtoopeihnmlfneaaDoorPlayConf
import Derived.Test.YtoopeihnmlfneaaDoorPlayIn
import Derived.Test.YtoopeihnmlfneaaDoorInts
import Derived.Test.YtoopeihnmlfneaaDoorHeld
import Derived.BigGuard
namespace Go.Proofs.YtoopeihnmlfneaaDoor
open Go.ChangeShapes Go.WideShapes Go.ChangeAt Go.RowKit

/-- what stays in a round -/
def Ka (W : World) (n p q k : Nat) (x0 x1 x2 x3 x4 x5 x6 x7 u v : Int) (w : World) : Prop :=
  C8 w n x0 x1 x2 x3 x4 x5 x6 x7 ∧ w.cell? ⟨p, k, none⟩ = some (.int .i64 u) ∧ w.cell? ⟨q, k, none⟩ = some (.int .i64 v) ∧ Kept W w
theorem Ka.kept {W : World} {n p q k : Nat} {x0 x1 x2 x3 x4 x5 x6 x7 u v : Int} {w w' : World} (h : Ka W n p q k x0 x1 x2 x3 x4 x5 x6 x7 u v w) (f : Kept w w') : Ka W n p q k x0 x1 x2 x3 x4 x5 x6 x7 u v w' :=
  ⟨h.1.kept f, f.cell h.2.1, f.cell h.2.2.1, h.2.2.2.trans f⟩
theorem Ka.drew {W : World} {n p q k : Nat} {x0 x1 x2 x3 x4 x5 x6 x7 u v : Int} {w : World} (h : Ka W n p q k x0 x1 x2 x3 x4 x5 x6 x7 u v w) : Ka W n p q k x0 x1 x2 x3 x4 x5 x6 x7 u v w.drew := h.kept (Kept.refl _).drew

set_option maxRecDepth 100000 in
set_option maxHeartbeats 4000000 in
theorem admitAll_walk0 (AS : AdmitSays) (a' : Option Addr) (len cap : Nat) (zs : List Int) (live : Int) (l0 : 0 ≤ live) (l1 : live ≤ 65535) (old : Int) (o0 : 0 ≤ old) (o1 : old ≤ 65535) (s : Int) (s0 : -9223372036854775808 ≤ s) (s1 : s ≤ 9223372036854775807) (a : Int) (a0 : -9223372036854775808 ≤ a) (a1 : a ≤ 9223372036854775807) (n : Int) (n0 : -9223372036854775808 ≤ n) (n1 : n ≤ 9223372036854775807) (w : World) (hrow : IsRow .u8 w a' len cap zs) (hT : Tab w) :
    Calls Tryd.prog 3 #[.slice a' len cap, .int .u16 live, .int .u16 old, .int .i64 s, .int .i64 a, .int .i64 n] w fun e w' => e = .returned (.bool true) ∧ Kept w w' := by
  have hR := hide hrow
  clear hrow
  by_cases hlen : 6 < len
  · have hl : (6 : Int) < (len : Int) := by omega
    go_enter Tryd.func3, Tryd.ntmps3
    go_wp2_with fail
    refine (begun16_true AS _ hT).mono ?_
    rintro e w1 ⟨rfl, k1⟩
    have K1 := hide k1; clear k1
    go_wp2
    go_ret
    exact ⟨rfl, K1.out⟩
  have hl : (len : Int) ≤ 6 := by omega
  go_enter Tryd.func3, Tryd.ntmps3
  go_wp2_with fail
  refine (begun16_true AS _ hT).mono ?_
  rintro e w1 ⟨rfl, k1⟩
  have K1 := hide k1; clear k1
  have P1 := hide (picks_made hR.out K1.out)
  go_wp2_with fail
  refine (made_any a' len cap _).mono ?_
  rintro e w2 ⟨rfl, rfl⟩
  go_wp2_with fail
  refine (conf_any w1.heap.size (zs.take len) 0 false _ (by rw [Nat.zero_min]; exact P1.out)).mono ?_
  rintro e w3 ⟨rfl, _, E3⟩
  have K3 := hide (Else.kept (K1.out.alloc #[.slice a' len cap, .int .i64 0] 43) (K1.out.1.size) E3)
  clear E3 P1 hR K1
  obtain ⟨pa, l, F, fm0, fm1⟩ := fit_adm (zs.take len) 0
  have F := hide F
  generalize rawOf (zs.take len) 0 false = r at *
  generalize ofC r = c at *
  have hg0 : (c.g == 0) = false := by have := F.out.g1; rw [beq_eq_false_iff_ne]; omega
  have TK : Hid (∀ w', Kept w w' → Tab w') := fun w' k => hT.kept k
  have g1 := hide F.out.g1
  have gn := hide F.out.gn
  have n16 := hide F.out.n16
  have cn1 : 1 ≤ c.n := by have := gn.out; have := g1.out; omega
  have cn2 : c.n ≤ 65536 := n16.out
  obtain ⟨L, hL, L0, L1⟩ : ∃ L, live % (c.m + 1) = L ∧ 0 ≤ L ∧ L ≤ c.m := ⟨_, rfl, Int.emod_nonneg _ (by omega), by have := Int.emod_lt_of_pos live (show 0 < c.m + 1 by omega); omega⟩
  obtain ⟨O, hO, O0, O1⟩ : ∃ O, old % (L + 1) = O ∧ 0 ≤ O ∧ O ≤ L := ⟨_, rfl, Int.emod_nonneg _ (by omega), by have := Int.emod_lt_of_pos old (show 0 < L + 1 by omega); omega⟩
  have g2 : c.g ≤ 65536 := by have := gn.out; omega
  have CA := hide (fun s a w h8 h9 ha ha' hT => AS.new c L s a w g1.out gn.out n16.out (by omega) (by omega) L0 (by omega) h8 h9 ha ha' hT)
  have CB := hide (fun s a w ha ha' => rnew_any c L s a w g1.out g2 n16.out (by omega) (by omega) ha ha')
  have CC := hide (fun s w h8 h9 hT => AS.many c L n s w g1.out gn.out n16.out (by omega) (by omega) L0 (by omega) n0 n1 h8 h9 hT)
  have CD := hide (fun s w h8 h9 => rmany_any c L n s w g1.out g2 n16.out (by omega) (by omega) n0 n1 h8 h9)
  have CE := hide (fun s w h8 h9 hT => AS.anew c L O s w g1.out gn.out n16.out (by omega) (by omega) O1 (by omega) O0 h8 h9 hT)
  have CF := hide (fun s w => ranew_any c L O s w g1.out g2 n16.out (by omega) (by omega) O1 (by omega) O0)
  have D4 := hide (show HasC ((w3.alloc (c.obj 26)).alloc (r.obj 28)) w3.heap.size 0 c from (HasC.made w3 c 26).kept ((Kept.refl _).alloc _ _))
  have K4 := hide (show Kept w ((w3.alloc (c.obj 26)).alloc (r.obj 28)) from (K3.out.alloc _ _).alloc _ _)
  clear K3 F g1 gn n16 g2
  obtain ⟨g, la, li, pg, bu, se⟩ := r
  obtain ⟨cg, cn, cm, cl, cp, cb, ch, cs⟩ := c
  dsimp only at hg0 cn1 cn2 fm0 fm1 hL CA CB CC CD CE CF D4 K4
  go_wp2
  simp only [hL, hO]
  obtain ⟨W, hW⟩ : ∃ W, W = (((w3.alloc (.cells #[.int .i64 cg, .int .i64 cn, .int .i64 cm, .int .i64 cl, .int .i64 cp, .int .i64 cb, .int .i64 ch, .int .i64 cs] 26)).alloc (.cells #[.int .i64 g, .int .i64 la, .int .i64 li, .int .i64 pg, .int .i64 bu, .int .i64 se] 28)).alloc (.cells #[.int .i64 s, .int .i64 1, .int .i64 cn, .int .i64 s] 3)).alloc (.cells #[.int .i64 a, .int .i64 1, .int .i64 2, .int .i64 1] 3) := ⟨_, rfl⟩
  obtain ⟨NN, hNN⟩ : ∃ P, P = w3.heap.size := ⟨_, rfl⟩
  obtain ⟨PS, hPS⟩ : ∃ P, P = w3.heap.size + 1 + 1 := ⟨_, rfl⟩
  obtain ⟨PA, hPA⟩ : ∃ P, P = w3.heap.size + 1 + 1 + 1 := ⟨_, rfl⟩
  have IS := hide (show HasI W PS [s, 1, cn, s] from by
    rw [hW, hPS]
    have e : ((w3.alloc (.cells #[.int .i64 cg, .int .i64 cn, .int .i64 cm, .int .i64 cl, .int .i64 cp, .int .i64 cb, .int .i64 ch, .int .i64 cs] 26)).alloc (.cells #[.int .i64 g, .int .i64 la, .int .i64 li, .int .i64 pg, .int .i64 bu, .int .i64 se] 28)).heap.size = w3.heap.size + 1 + 1 := by simp
    rw [← e]
    exact (HasI.made ((w3.alloc (.cells #[.int .i64 cg, .int .i64 cn, .int .i64 cm, .int .i64 cl, .int .i64 cp, .int .i64 cb, .int .i64 ch, .int .i64 cs] 26)).alloc (.cells #[.int .i64 g, .int .i64 la, .int .i64 li, .int .i64 pg, .int .i64 bu, .int .i64 se] 28)) [s, 1, cn, s] 3).kept ((Kept.refl _).alloc _ _))
  have IA := hide (show HasI W PA [a, 1, 2, 1] from by
    rw [hW, hPA]
    have e : (((w3.alloc (.cells #[.int .i64 cg, .int .i64 cn, .int .i64 cm, .int .i64 cl, .int .i64 cp, .int .i64 cb, .int .i64 ch, .int .i64 cs] 26)).alloc (.cells #[.int .i64 g, .int .i64 la, .int .i64 li, .int .i64 pg, .int .i64 bu, .int .i64 se] 28)).alloc (.cells #[.int .i64 s, .int .i64 1, .int .i64 cn, .int .i64 s] 3)).heap.size = w3.heap.size + 1 + 1 + 1 := by simp
    rw [← e]
    exact HasI.made (((w3.alloc (.cells #[.int .i64 cg, .int .i64 cn, .int .i64 cm, .int .i64 cl, .int .i64 cp, .int .i64 cb, .int .i64 ch, .int .i64 cs] 26)).alloc (.cells #[.int .i64 g, .int .i64 la, .int .i64 li, .int .i64 pg, .int .i64 bu, .int .i64 se] 28)).alloc (.cells #[.int .i64 s, .int .i64 1, .int .i64 cn, .int .i64 s] 3)) [a, 1, 2, 1] 3)
  have DW := hide (show C8 W NN cg cn cm cl cp cb ch cs from by
    rw [hW, hNN]
    exact D4.out.c8.kept (((Kept.refl _).alloc _ _).alloc _ _))
  have K0 := hide (show Kept w W from by
    rw [hW]
    exact (K4.out.alloc _ _).alloc _ _)
  have US := hide (show ∀ k, k < 4 → -9223372036854775808 ≤ [s, 1, cn, s].getD k 0 ∧ [s, 1, cn, s].getD k 0 ≤ 9223372036854775807 from fun k hk => by
    match k, hk with
    | 0, _ => exact ⟨show _ ≤ s by omega, show s ≤ _ by omega⟩
    | 1, _ => exact ⟨show _ ≤ (1 : Int) by decide, show (1 : Int) ≤ _ by decide⟩
    | 2, _ => exact ⟨show _ ≤ cn by omega, show cn ≤ _ by omega⟩
    | 3, _ => exact ⟨show _ ≤ s by omega, show s ≤ _ by omega⟩)
  have UA := hide (show ∀ k, k < 4 → -9223372036854775808 ≤ [a, 1, 2, 1].getD k 0 ∧ [a, 1, 2, 1].getD k 0 ≤ 9223372036854775807 from fun k hk => by
    match k, hk with
    | 0, _ => exact ⟨show _ ≤ a by omega, show a ≤ _ by omega⟩
    | 1, _ => exact ⟨show _ ≤ (1 : Int) by decide, show (1 : Int) ≤ _ by decide⟩
    | 2, _ => exact ⟨show _ ≤ (2 : Int) by decide, show (2 : Int) ≤ _ by decide⟩
    | 3, _ => exact ⟨show _ ≤ (1 : Int) by decide, show (1 : Int) ≤ _ by decide⟩)
  have LS := hide (show [s, 1, cn, s].length = 4 from rfl)
  have LA := hide (show [a, 1, 2, 1].length = 4 from rfl)
  rw [← hW, ← hPA, ← hPS, ← hNN]
  generalize [s, 1, cn, s] = sL at IS US LS
  generalize [a, 1, 2, 1] = aL at IA UA LA
  clear hW hNN hPS hPA D4 K4 hL hO s0 s1 a0 a1 n0 n1 l0 l1 o0 o1
  go_loopw [19] (fun i wr => ∃ k : Nat, k ≤ 4 ∧ i = .int .i64 (k : Int) ∧ Kept W wr) (fun i _ => (4 - intOf i).toNat)
  case atStart => exact ⟨0, by omega, rfl, Kept.refl _⟩
  case round =>
    obtain ⟨k, hk, rfl, hf⟩ := hrel
    have F := hide hf
    have k0 : (0 : Int) ≤ (k : Int) := by omega
    by_cases gk : k < 4
    · have gk' : (k : Int) < 4 := by omega
      have GK := hide (show k + 1 ≤ 4 by omega)
      obtain ⟨u, hu⟩ : ∃ u, sL.getD k 0 = u := ⟨_, rfl⟩
      obtain ⟨v, hv⟩ : ∃ v, aL.getD k 0 = v := ⟨_, rfl⟩
      have KP0 := hide (show Ka W NN PS PA k cg cn cm cl cp cb ch cs u v wr from ⟨DW.out.kept hf, hu ▸ IS.out.kept hf k (by rw [LS.out]; exact gk), hv ▸ IA.out.kept hf k (by rw [LA.out]; exact gk), hf⟩)
      have XK := US.out k gk
      have YK := UA.out k gk
      rw [hu] at XK
      rw [hv] at YK
      obtain ⟨u0, u1⟩ := XK
      obtain ⟨v0, v1⟩ := YK
      have C1 := hide (fun w hT => CA.out u v w u0 u1 v0 v1 hT)
      have C2 := hide (fun w => CB.out u v w v0 v1)
      have C3 := hide (fun w hT => CC.out u w u0 u1 hT)
      have C4 := hide (fun w => CD.out u w u0 u1)
      have C5 := hide (fun w hT => CE.out u w u0 u1 hT)
      have C6 := hide (fun w => CF.out u w)
      clear CA CB CC CD CE CF hf gk hk hu hv u0 u1 v0 v1 US UA LS LA IS IA DW
      generalize adV cg cn cm L u v = r1 at *
      generalize adE cg cn cm L u v = r2 at *
      generalize maV cg cn cm L n u = r3 at *
      generalize maE cg cn cm L n u = r4 at *
      generalize adV cg cn cm (L - O) u 1 = r5 at *
      generalize adE cg cn cm (L - O) u 1 = r6 at *
      go_wp2_with fail
      have HS := hide (KP0.out.drew)
      refine wp_region_held (S := (Ka W NN PS PA k cg cn cm cl cp cb ch cs u v)) (by kernel_rfl) ?_
      change wpAnyH _ _ _ _ _ _ _ _ (World.drew _)
      refine held_take (i := 0) (d := 69) (v := ?_) rfl rfl (by kernel_rfl) (by kernel_rfl) (by kernel_rfl) (fun _ _ _ h => h) (by kernel_rfl) ?_ HS.out ?_
      rotate_left
      · intro wz hz
        obtain ⟨⟨y0, y1, y2, y3, y4, y5, y6, y7⟩, e8, e9, -⟩ := hz
        go_simp
        first | done | with_reducible rfl
      refine held_take (i := 1) (d := 70) (v := ?_) rfl rfl (by kernel_rfl) (by kernel_rfl) (by kernel_rfl) (fun _ _ _ h => h) (by kernel_rfl) ?_ HS.out ?_
      rotate_left
      · intro wz hz
        obtain ⟨⟨y0, y1, y2, y3, y4, y5, y6, y7⟩, e8, e9, -⟩ := hz
        go_simp
        first | done | with_reducible rfl
      refine held_take (i := 2) (d := 71) (v := ?_) rfl rfl (by kernel_rfl) (by kernel_rfl) (by kernel_rfl) (fun _ _ _ h => h) (by kernel_rfl) ?_ HS.out ?_
      rotate_left
      · intro wz hz
        obtain ⟨⟨y0, y1, y2, y3, y4, y5, y6, y7⟩, e8, e9, -⟩ := hz
        go_simp
        first | done | with_reducible rfl
      refine held_take (i := 3) (d := 72) (v := ?_) rfl rfl (by kernel_rfl) (by kernel_rfl) (by kernel_rfl) (fun _ _ _ h => h) (by kernel_rfl) ?_ HS.out ?_
      rotate_left
      · intro wz hz
        obtain ⟨⟨y0, y1, y2, y3, y4, y5, y6, y7⟩, e8, e9, -⟩ := hz
        go_simp
        first | done | with_reducible rfl
      refine held_take (i := 4) (d := 73) (v := ?_) rfl rfl (by kernel_rfl) (by kernel_rfl) (by kernel_rfl) (fun _ _ _ h => h) (by kernel_rfl) ?_ HS.out ?_
      rotate_left
      · intro wz hz
        obtain ⟨⟨y0, y1, y2, y3, y4, y5, y6, y7⟩, e8, e9, -⟩ := hz
        go_simp
        first | done | with_reducible rfl
      refine held_take (i := 5) (d := 74) (v := ?_) rfl rfl (by kernel_rfl) (by kernel_rfl) (by kernel_rfl) (fun _ _ _ h => h) (by kernel_rfl) ?_ HS.out ?_
      rotate_left
      · intro wz hz
        obtain ⟨⟨y0, y1, y2, y3, y4, y5, y6, y7⟩, e8, e9, -⟩ := hz
        go_simp
        first | done | with_reducible rfl
      refine held_take (i := 6) (d := 75) (v := ?_) rfl rfl (by kernel_rfl) (by kernel_rfl) (by kernel_rfl) (fun _ _ _ h => h) (by kernel_rfl) ?_ HS.out ?_
      rotate_left
      · intro wz hz
        obtain ⟨⟨y0, y1, y2, y3, y4, y5, y6, y7⟩, e8, e9, -⟩ := hz
        go_simp
        first | done | with_reducible rfl
      refine held_take (i := 7) (d := 76) (v := ?_) rfl rfl (by kernel_rfl) (by kernel_rfl) (by kernel_rfl) (fun _ _ _ h => h) (by kernel_rfl) ?_ HS.out ?_
      rotate_left
      · intro wz hz
        obtain ⟨⟨y0, y1, y2, y3, y4, y5, y6, y7⟩, e8, e9, -⟩ := hz
        go_simp
        first | done | with_reducible rfl
      refine held_take (i := 8) (d := 77) (v := ?_) rfl rfl (by kernel_rfl) (by kernel_rfl) (by kernel_rfl) (fun _ _ _ h => h) (by kernel_rfl) ?_ HS.out ?_
      rotate_left
      · intro wz hz
        obtain ⟨⟨y0, y1, y2, y3, y4, y5, y6, y7⟩, e8, e9, -⟩ := hz
        go_simp
        first | done | with_reducible rfl
      refine held_take (i := 9) (d := 78) (v := ?_) rfl rfl (by kernel_rfl) (by kernel_rfl) (by kernel_rfl) (fun _ _ _ h => h) (by kernel_rfl) ?_ HS.out ?_
      rotate_left
      · intro wz hz
        obtain ⟨⟨y0, y1, y2, y3, y4, y5, y6, y7⟩, e8, e9, -⟩ := hz
        go_simp
        first | done | with_reducible rfl
      refine wpAnyH_ready (rs := [10]) (by kernel_rfl) (by simp) ?_
      refine AllReadyH.cons rfl (fun K hK => ?_) AllReadyH.nil
      go_simp
      go_wp2_with fail
      refine (C1.out _ (TK.out _ (K0.out.trans HS.out.2.2.2))).mono ?_; rintro e' v1 ⟨rfl, kk⟩; have KP1 := hide (HS.out.kept kk); clear HS kk; have HS := hide KP1.out
      refine hK.out _ _ HS.out (fun _ => ?_)
      clear hK K
      refine held_take (i := 11) (d := 68) (v := ?_) rfl rfl (by kernel_rfl) (by kernel_rfl) (by kernel_rfl) (fun _ _ _ h => h) (by kernel_rfl) ?_ HS.out ?_
      rotate_left
      · intro wz hz
        obtain ⟨⟨y0, y1, y2, y3, y4, y5, y6, y7⟩, e8, e9, -⟩ := hz
        go_simp
        first | done | with_reducible rfl
      refine held_take (i := 12) (d := 80) (v := ?_) rfl rfl (by kernel_rfl) (by kernel_rfl) (by kernel_rfl) (fun _ _ _ h => h) (by kernel_rfl) ?_ HS.out ?_
      rotate_left
      · intro wz hz
        obtain ⟨⟨y0, y1, y2, y3, y4, y5, y6, y7⟩, e8, e9, -⟩ := hz
        go_simp
        first | done | with_reducible rfl
      refine held_take (i := 13) (d := 81) (v := ?_) rfl rfl (by kernel_rfl) (by kernel_rfl) (by kernel_rfl) (fun _ _ _ h => h) (by kernel_rfl) ?_ HS.out ?_
      rotate_left
      · intro wz hz
        obtain ⟨⟨y0, y1, y2, y3, y4, y5, y6, y7⟩, e8, e9, -⟩ := hz
        go_simp
        first | done | with_reducible rfl
      refine held_take (i := 14) (d := 20) (v := ?_) rfl rfl (by kernel_rfl) (by kernel_rfl) (by kernel_rfl) (fun _ _ _ h => h) (by kernel_rfl) ?_ HS.out ?_
      rotate_left
      · intro wz hz
        obtain ⟨⟨y0, y1, y2, y3, y4, y5, y6, y7⟩, e8, e9, -⟩ := hz
        go_simp
        first | done | with_reducible rfl
      refine held_take (i := 15) (d := 21) (v := ?_) rfl rfl (by kernel_rfl) (by kernel_rfl) (by kernel_rfl) (fun _ _ _ h => h) (by kernel_rfl) ?_ HS.out ?_
      rotate_left
      · intro wz hz
        obtain ⟨⟨y0, y1, y2, y3, y4, y5, y6, y7⟩, e8, e9, -⟩ := hz
        go_simp
        first | done | with_reducible rfl
      refine wpAnyH_done (by kernel_rfl) ?_ _
      try simp only [Act.put, List.setIfInBounds_toArray, List.set_cons_succ, List.set_cons_zero]
      clear HS KP0
      go_wp2_with fail
      have HS := hide (KP1.out.drew)
      refine wp_region_held (S := (Ka W NN PS PA k cg cn cm cl cp cb ch cs u v)) (by kernel_rfl) ?_
      change wpAnyH _ _ _ _ _ _ _ _ (World.drew _)
      refine held_take (i := 0) (d := 83) (v := ?_) rfl rfl (by kernel_rfl) (by kernel_rfl) (by kernel_rfl) (fun _ _ _ h => h) (by kernel_rfl) ?_ HS.out ?_
      rotate_left
      · intro wz hz
        obtain ⟨⟨y0, y1, y2, y3, y4, y5, y6, y7⟩, e8, e9, -⟩ := hz
        go_simp
        first | done | with_reducible rfl
      refine held_take (i := 1) (d := 84) (v := ?_) rfl rfl (by kernel_rfl) (by kernel_rfl) (by kernel_rfl) (fun _ _ _ h => h) (by kernel_rfl) ?_ HS.out ?_
      rotate_left
      · intro wz hz
        obtain ⟨⟨y0, y1, y2, y3, y4, y5, y6, y7⟩, e8, e9, -⟩ := hz
        go_simp
        first | done | with_reducible rfl
      refine held_take (i := 2) (d := 85) (v := ?_) rfl rfl (by kernel_rfl) (by kernel_rfl) (by kernel_rfl) (fun _ _ _ h => h) (by kernel_rfl) ?_ HS.out ?_
      rotate_left
      · intro wz hz
        obtain ⟨⟨y0, y1, y2, y3, y4, y5, y6, y7⟩, e8, e9, -⟩ := hz
        go_simp
        first | done | with_reducible rfl
      refine held_take (i := 3) (d := 86) (v := ?_) rfl rfl (by kernel_rfl) (by kernel_rfl) (by kernel_rfl) (fun _ _ _ h => h) (by kernel_rfl) ?_ HS.out ?_
      rotate_left
      · intro wz hz
        obtain ⟨⟨y0, y1, y2, y3, y4, y5, y6, y7⟩, e8, e9, -⟩ := hz
        go_simp
        first | done | with_reducible rfl
      refine held_take (i := 4) (d := 87) (v := ?_) rfl rfl (by kernel_rfl) (by kernel_rfl) (by kernel_rfl) (fun _ _ _ h => h) (by kernel_rfl) ?_ HS.out ?_
      rotate_left
      · intro wz hz
        obtain ⟨⟨y0, y1, y2, y3, y4, y5, y6, y7⟩, e8, e9, -⟩ := hz
        go_simp
        first | done | with_reducible rfl
      refine held_take (i := 5) (d := 88) (v := ?_) rfl rfl (by kernel_rfl) (by kernel_rfl) (by kernel_rfl) (fun _ _ _ h => h) (by kernel_rfl) ?_ HS.out ?_
      rotate_left
      · intro wz hz
        obtain ⟨⟨y0, y1, y2, y3, y4, y5, y6, y7⟩, e8, e9, -⟩ := hz
        go_simp
        first | done | with_reducible rfl
      refine held_take (i := 6) (d := 89) (v := ?_) rfl rfl (by kernel_rfl) (by kernel_rfl) (by kernel_rfl) (fun _ _ _ h => h) (by kernel_rfl) ?_ HS.out ?_
      rotate_left
      · intro wz hz
        obtain ⟨⟨y0, y1, y2, y3, y4, y5, y6, y7⟩, e8, e9, -⟩ := hz
        go_simp
        first | done | with_reducible rfl
      refine held_take (i := 7) (d := 90) (v := ?_) rfl rfl (by kernel_rfl) (by kernel_rfl) (by kernel_rfl) (fun _ _ _ h => h) (by kernel_rfl) ?_ HS.out ?_
      rotate_left
      · intro wz hz
        obtain ⟨⟨y0, y1, y2, y3, y4, y5, y6, y7⟩, e8, e9, -⟩ := hz
        go_simp
        first | done | with_reducible rfl
      refine held_take (i := 8) (d := 91) (v := ?_) rfl rfl (by kernel_rfl) (by kernel_rfl) (by kernel_rfl) (fun _ _ _ h => h) (by kernel_rfl) ?_ HS.out ?_
      rotate_left
      · intro wz hz
        obtain ⟨⟨y0, y1, y2, y3, y4, y5, y6, y7⟩, e8, e9, -⟩ := hz
        go_simp
        first | done | with_reducible rfl
      refine held_take (i := 9) (d := 92) (v := ?_) rfl rfl (by kernel_rfl) (by kernel_rfl) (by kernel_rfl) (fun _ _ _ h => h) (by kernel_rfl) ?_ HS.out ?_
      rotate_left
      · intro wz hz
        obtain ⟨⟨y0, y1, y2, y3, y4, y5, y6, y7⟩, e8, e9, -⟩ := hz
        go_simp
        first | done | with_reducible rfl
      refine wpAnyH_ready (rs := [10]) (by kernel_rfl) (by simp) ?_
      refine AllReadyH.cons rfl (fun K hK => ?_) AllReadyH.nil
      go_simp
      go_wp2_with fail
      refine (C2.out _).mono ?_; rintro e' v2 ⟨rfl, kk⟩; have KP2 := hide (HS.out.kept kk); clear HS kk; have HS := hide KP2.out
      refine hK.out _ _ HS.out (fun _ => ?_)
      clear hK K
      refine held_take (i := 11) (d := 82) (v := ?_) rfl rfl (by kernel_rfl) (by kernel_rfl) (by kernel_rfl) (fun _ _ _ h => h) (by kernel_rfl) ?_ HS.out ?_
      rotate_left
      · intro wz hz
        obtain ⟨⟨y0, y1, y2, y3, y4, y5, y6, y7⟩, e8, e9, -⟩ := hz
        go_simp
        first | done | with_reducible rfl
      refine held_take (i := 12) (d := 94) (v := ?_) rfl rfl (by kernel_rfl) (by kernel_rfl) (by kernel_rfl) (fun _ _ _ h => h) (by kernel_rfl) ?_ HS.out ?_
      rotate_left
      · intro wz hz
        obtain ⟨⟨y0, y1, y2, y3, y4, y5, y6, y7⟩, e8, e9, -⟩ := hz
        go_simp
        first | done | with_reducible rfl
      refine held_take (i := 13) (d := 95) (v := ?_) rfl rfl (by kernel_rfl) (by kernel_rfl) (by kernel_rfl) (fun _ _ _ h => h) (by kernel_rfl) ?_ HS.out ?_
      rotate_left
      · intro wz hz
        obtain ⟨⟨y0, y1, y2, y3, y4, y5, y6, y7⟩, e8, e9, -⟩ := hz
        go_simp
        first | done | with_reducible rfl
      refine held_take (i := 14) (d := 22) (v := ?_) rfl rfl (by kernel_rfl) (by kernel_rfl) (by kernel_rfl) (fun _ _ _ h => h) (by kernel_rfl) ?_ HS.out ?_
      rotate_left
      · intro wz hz
        obtain ⟨⟨y0, y1, y2, y3, y4, y5, y6, y7⟩, e8, e9, -⟩ := hz
        go_simp
        first | done | with_reducible rfl
      refine held_take (i := 15) (d := 23) (v := ?_) rfl rfl (by kernel_rfl) (by kernel_rfl) (by kernel_rfl) (fun _ _ _ h => h) (by kernel_rfl) ?_ HS.out ?_
      rotate_left
      · intro wz hz
        obtain ⟨⟨y0, y1, y2, y3, y4, y5, y6, y7⟩, e8, e9, -⟩ := hz
        go_simp
        first | done | with_reducible rfl
      refine wpAnyH_done (by kernel_rfl) ?_ _
      try simp only [Act.put, List.setIfInBounds_toArray, List.set_cons_succ, List.set_cons_zero]
      clear HS KP1
      go_wp2_with fail
      have HS := hide (KP2.out.drew)
      refine wp_region_held (S := (Ka W NN PS PA k cg cn cm cl cp cb ch cs u v)) (by kernel_rfl) ?_
      change wpAnyH _ _ _ _ _ _ _ _ (World.drew _)
      refine held_take (i := 0) (d := 97) (v := ?_) rfl rfl (by kernel_rfl) (by kernel_rfl) (by kernel_rfl) (fun _ _ _ h => h) (by kernel_rfl) ?_ HS.out ?_
      rotate_left
      · intro wz hz
        obtain ⟨⟨y0, y1, y2, y3, y4, y5, y6, y7⟩, e8, e9, -⟩ := hz
        go_simp
        first | done | with_reducible rfl
      refine held_take (i := 1) (d := 98) (v := ?_) rfl rfl (by kernel_rfl) (by kernel_rfl) (by kernel_rfl) (fun _ _ _ h => h) (by kernel_rfl) ?_ HS.out ?_
      rotate_left
      · intro wz hz
        obtain ⟨⟨y0, y1, y2, y3, y4, y5, y6, y7⟩, e8, e9, -⟩ := hz
        go_simp
        first | done | with_reducible rfl
      refine held_take (i := 2) (d := 99) (v := ?_) rfl rfl (by kernel_rfl) (by kernel_rfl) (by kernel_rfl) (fun _ _ _ h => h) (by kernel_rfl) ?_ HS.out ?_
      rotate_left
      · intro wz hz
        obtain ⟨⟨y0, y1, y2, y3, y4, y5, y6, y7⟩, e8, e9, -⟩ := hz
        go_simp
        first | done | with_reducible rfl
      refine held_take (i := 3) (d := 100) (v := ?_) rfl rfl (by kernel_rfl) (by kernel_rfl) (by kernel_rfl) (fun _ _ _ h => h) (by kernel_rfl) ?_ HS.out ?_
      rotate_left
      · intro wz hz
        obtain ⟨⟨y0, y1, y2, y3, y4, y5, y6, y7⟩, e8, e9, -⟩ := hz
        go_simp
        first | done | with_reducible rfl
      refine held_take (i := 4) (d := 101) (v := ?_) rfl rfl (by kernel_rfl) (by kernel_rfl) (by kernel_rfl) (fun _ _ _ h => h) (by kernel_rfl) ?_ HS.out ?_
      rotate_left
      · intro wz hz
        obtain ⟨⟨y0, y1, y2, y3, y4, y5, y6, y7⟩, e8, e9, -⟩ := hz
        go_simp
        first | done | with_reducible rfl
      refine held_take (i := 5) (d := 102) (v := ?_) rfl rfl (by kernel_rfl) (by kernel_rfl) (by kernel_rfl) (fun _ _ _ h => h) (by kernel_rfl) ?_ HS.out ?_
      rotate_left
      · intro wz hz
        obtain ⟨⟨y0, y1, y2, y3, y4, y5, y6, y7⟩, e8, e9, -⟩ := hz
        go_simp
        first | done | with_reducible rfl
      refine held_take (i := 6) (d := 103) (v := ?_) rfl rfl (by kernel_rfl) (by kernel_rfl) (by kernel_rfl) (fun _ _ _ h => h) (by kernel_rfl) ?_ HS.out ?_
      rotate_left
      · intro wz hz
        obtain ⟨⟨y0, y1, y2, y3, y4, y5, y6, y7⟩, e8, e9, -⟩ := hz
        go_simp
        first | done | with_reducible rfl
      refine wpAnyH_ready (rs := [7]) (by kernel_rfl) (by simp) ?_
      refine AllReadyH.cons rfl (fun K hK => ?_) AllReadyH.nil
      go_simp
      go_wp2_with fail
      refine (C3.out _ (TK.out _ (K0.out.trans HS.out.2.2.2))).mono ?_; rintro e' v3 ⟨rfl, kk⟩; have KP3 := hide (HS.out.kept kk); clear HS kk; have HS := hide KP3.out
      refine hK.out _ _ HS.out (fun _ => ?_)
      clear hK K
      refine held_take (i := 8) (d := 96) (v := ?_) rfl rfl (by kernel_rfl) (by kernel_rfl) (by kernel_rfl) (fun _ _ _ h => h) (by kernel_rfl) ?_ HS.out ?_
      rotate_left
      · intro wz hz
        obtain ⟨⟨y0, y1, y2, y3, y4, y5, y6, y7⟩, e8, e9, -⟩ := hz
        go_simp
        first | done | with_reducible rfl
      refine held_take (i := 9) (d := 105) (v := ?_) rfl rfl (by kernel_rfl) (by kernel_rfl) (by kernel_rfl) (fun _ _ _ h => h) (by kernel_rfl) ?_ HS.out ?_
      rotate_left
      · intro wz hz
        obtain ⟨⟨y0, y1, y2, y3, y4, y5, y6, y7⟩, e8, e9, -⟩ := hz
        go_simp
        first | done | with_reducible rfl
      refine held_take (i := 10) (d := 106) (v := ?_) rfl rfl (by kernel_rfl) (by kernel_rfl) (by kernel_rfl) (fun _ _ _ h => h) (by kernel_rfl) ?_ HS.out ?_
      rotate_left
      · intro wz hz
        obtain ⟨⟨y0, y1, y2, y3, y4, y5, y6, y7⟩, e8, e9, -⟩ := hz
        go_simp
        first | done | with_reducible rfl
      refine held_take (i := 11) (d := 24) (v := ?_) rfl rfl (by kernel_rfl) (by kernel_rfl) (by kernel_rfl) (fun _ _ _ h => h) (by kernel_rfl) ?_ HS.out ?_
      rotate_left
      · intro wz hz
        obtain ⟨⟨y0, y1, y2, y3, y4, y5, y6, y7⟩, e8, e9, -⟩ := hz
        go_simp
        first | done | with_reducible rfl
      refine held_take (i := 12) (d := 25) (v := ?_) rfl rfl (by kernel_rfl) (by kernel_rfl) (by kernel_rfl) (fun _ _ _ h => h) (by kernel_rfl) ?_ HS.out ?_
      rotate_left
      · intro wz hz
        obtain ⟨⟨y0, y1, y2, y3, y4, y5, y6, y7⟩, e8, e9, -⟩ := hz
        go_simp
        first | done | with_reducible rfl
      refine wpAnyH_done (by kernel_rfl) ?_ _
      try simp only [Act.put, List.setIfInBounds_toArray, List.set_cons_succ, List.set_cons_zero]
      clear HS KP2
      go_wp2_with fail
      have HS := hide (KP3.out.drew)
      refine wp_region_held (S := (Ka W NN PS PA k cg cn cm cl cp cb ch cs u v)) (by kernel_rfl) ?_
      change wpAnyH _ _ _ _ _ _ _ _ (World.drew _)
      refine held_take (i := 0) (d := 108) (v := ?_) rfl rfl (by kernel_rfl) (by kernel_rfl) (by kernel_rfl) (fun _ _ _ h => h) (by kernel_rfl) ?_ HS.out ?_
      rotate_left
      · intro wz hz
        obtain ⟨⟨y0, y1, y2, y3, y4, y5, y6, y7⟩, e8, e9, -⟩ := hz
        go_simp
        first | done | with_reducible rfl
      refine held_take (i := 1) (d := 109) (v := ?_) rfl rfl (by kernel_rfl) (by kernel_rfl) (by kernel_rfl) (fun _ _ _ h => h) (by kernel_rfl) ?_ HS.out ?_
      rotate_left
      · intro wz hz
        obtain ⟨⟨y0, y1, y2, y3, y4, y5, y6, y7⟩, e8, e9, -⟩ := hz
        go_simp
        first | done | with_reducible rfl
      refine held_take (i := 2) (d := 110) (v := ?_) rfl rfl (by kernel_rfl) (by kernel_rfl) (by kernel_rfl) (fun _ _ _ h => h) (by kernel_rfl) ?_ HS.out ?_
      rotate_left
      · intro wz hz
        obtain ⟨⟨y0, y1, y2, y3, y4, y5, y6, y7⟩, e8, e9, -⟩ := hz
        go_simp
        first | done | with_reducible rfl
      refine held_take (i := 3) (d := 111) (v := ?_) rfl rfl (by kernel_rfl) (by kernel_rfl) (by kernel_rfl) (fun _ _ _ h => h) (by kernel_rfl) ?_ HS.out ?_
      rotate_left
      · intro wz hz
        obtain ⟨⟨y0, y1, y2, y3, y4, y5, y6, y7⟩, e8, e9, -⟩ := hz
        go_simp
        first | done | with_reducible rfl
      refine held_take (i := 4) (d := 112) (v := ?_) rfl rfl (by kernel_rfl) (by kernel_rfl) (by kernel_rfl) (fun _ _ _ h => h) (by kernel_rfl) ?_ HS.out ?_
      rotate_left
      · intro wz hz
        obtain ⟨⟨y0, y1, y2, y3, y4, y5, y6, y7⟩, e8, e9, -⟩ := hz
        go_simp
        first | done | with_reducible rfl
      refine held_take (i := 5) (d := 113) (v := ?_) rfl rfl (by kernel_rfl) (by kernel_rfl) (by kernel_rfl) (fun _ _ _ h => h) (by kernel_rfl) ?_ HS.out ?_
      rotate_left
      · intro wz hz
        obtain ⟨⟨y0, y1, y2, y3, y4, y5, y6, y7⟩, e8, e9, -⟩ := hz
        go_simp
        first | done | with_reducible rfl
      refine held_take (i := 6) (d := 114) (v := ?_) rfl rfl (by kernel_rfl) (by kernel_rfl) (by kernel_rfl) (fun _ _ _ h => h) (by kernel_rfl) ?_ HS.out ?_
      rotate_left
      · intro wz hz
        obtain ⟨⟨y0, y1, y2, y3, y4, y5, y6, y7⟩, e8, e9, -⟩ := hz
        go_simp
        first | done | with_reducible rfl
      refine wpAnyH_ready (rs := [7]) (by kernel_rfl) (by simp) ?_
      refine AllReadyH.cons rfl (fun K hK => ?_) AllReadyH.nil
      go_simp
      go_wp2_with fail
      refine (C4.out _).mono ?_; rintro e' v4 ⟨rfl, kk⟩; have KP4 := hide (HS.out.kept kk); clear HS kk; have HS := hide KP4.out
      refine hK.out _ _ HS.out (fun _ => ?_)
      clear hK K
      refine held_take (i := 8) (d := 107) (v := ?_) rfl rfl (by kernel_rfl) (by kernel_rfl) (by kernel_rfl) (fun _ _ _ h => h) (by kernel_rfl) ?_ HS.out ?_
      rotate_left
      · intro wz hz
        obtain ⟨⟨y0, y1, y2, y3, y4, y5, y6, y7⟩, e8, e9, -⟩ := hz
        go_simp
        first | done | with_reducible rfl
      refine held_take (i := 9) (d := 116) (v := ?_) rfl rfl (by kernel_rfl) (by kernel_rfl) (by kernel_rfl) (fun _ _ _ h => h) (by kernel_rfl) ?_ HS.out ?_
      rotate_left
      · intro wz hz
        obtain ⟨⟨y0, y1, y2, y3, y4, y5, y6, y7⟩, e8, e9, -⟩ := hz
        go_simp
        first | done | with_reducible rfl
      refine held_take (i := 10) (d := 117) (v := ?_) rfl rfl (by kernel_rfl) (by kernel_rfl) (by kernel_rfl) (fun _ _ _ h => h) (by kernel_rfl) ?_ HS.out ?_
      rotate_left
      · intro wz hz
        obtain ⟨⟨y0, y1, y2, y3, y4, y5, y6, y7⟩, e8, e9, -⟩ := hz
        go_simp
        first | done | with_reducible rfl
      refine held_take (i := 11) (d := 26) (v := ?_) rfl rfl (by kernel_rfl) (by kernel_rfl) (by kernel_rfl) (fun _ _ _ h => h) (by kernel_rfl) ?_ HS.out ?_
      rotate_left
      · intro wz hz
        obtain ⟨⟨y0, y1, y2, y3, y4, y5, y6, y7⟩, e8, e9, -⟩ := hz
        go_simp
        first | done | with_reducible rfl
      refine held_take (i := 12) (d := 27) (v := ?_) rfl rfl (by kernel_rfl) (by kernel_rfl) (by kernel_rfl) (fun _ _ _ h => h) (by kernel_rfl) ?_ HS.out ?_
      rotate_left
      · intro wz hz
        obtain ⟨⟨y0, y1, y2, y3, y4, y5, y6, y7⟩, e8, e9, -⟩ := hz
        go_simp
        first | done | with_reducible rfl
      refine wpAnyH_done (by kernel_rfl) ?_ _
      try simp only [Act.put, List.setIfInBounds_toArray, List.set_cons_succ, List.set_cons_zero]
      clear HS KP3
      go_wp2_with fail
      have HS := hide (KP4.out.drew)
      refine wp_region_held (S := (Ka W NN PS PA k cg cn cm cl cp cb ch cs u v)) (by kernel_rfl) ?_
      change wpAnyH _ _ _ _ _ _ _ _ (World.drew _)
      refine held_take (i := 0) (d := 119) (v := ?_) rfl rfl (by kernel_rfl) (by kernel_rfl) (by kernel_rfl) (fun _ _ _ h => h) (by kernel_rfl) ?_ HS.out ?_
      rotate_left
      · intro wz hz
        obtain ⟨⟨y0, y1, y2, y3, y4, y5, y6, y7⟩, e8, e9, -⟩ := hz
        go_simp
        first | done | with_reducible rfl
      refine held_take (i := 1) (d := 120) (v := ?_) rfl rfl (by kernel_rfl) (by kernel_rfl) (by kernel_rfl) (fun _ _ _ h => h) (by kernel_rfl) ?_ HS.out ?_
      rotate_left
      · intro wz hz
        obtain ⟨⟨y0, y1, y2, y3, y4, y5, y6, y7⟩, e8, e9, -⟩ := hz
        go_simp
        first | done | with_reducible rfl
      refine held_take (i := 2) (d := 121) (v := ?_) rfl rfl (by kernel_rfl) (by kernel_rfl) (by kernel_rfl) (fun _ _ _ h => h) (by kernel_rfl) ?_ HS.out ?_
      rotate_left
      · intro wz hz
        obtain ⟨⟨y0, y1, y2, y3, y4, y5, y6, y7⟩, e8, e9, -⟩ := hz
        go_simp
        first | done | with_reducible rfl
      refine held_take (i := 3) (d := 122) (v := ?_) rfl rfl (by kernel_rfl) (by kernel_rfl) (by kernel_rfl) (fun _ _ _ h => h) (by kernel_rfl) ?_ HS.out ?_
      rotate_left
      · intro wz hz
        obtain ⟨⟨y0, y1, y2, y3, y4, y5, y6, y7⟩, e8, e9, -⟩ := hz
        go_simp
        first | done | with_reducible rfl
      refine held_take (i := 4) (d := 123) (v := ?_) rfl rfl (by kernel_rfl) (by kernel_rfl) (by kernel_rfl) (fun _ _ _ h => h) (by kernel_rfl) ?_ HS.out ?_
      rotate_left
      · intro wz hz
        obtain ⟨⟨y0, y1, y2, y3, y4, y5, y6, y7⟩, e8, e9, -⟩ := hz
        go_simp
        first | done | with_reducible rfl
      refine held_take (i := 5) (d := 124) (v := ?_) rfl rfl (by kernel_rfl) (by kernel_rfl) (by kernel_rfl) (fun _ _ _ h => h) (by kernel_rfl) ?_ HS.out ?_
      rotate_left
      · intro wz hz
        obtain ⟨⟨y0, y1, y2, y3, y4, y5, y6, y7⟩, e8, e9, -⟩ := hz
        go_simp
        first | done | with_reducible rfl
      refine held_take (i := 6) (d := 125) (v := ?_) rfl rfl (by kernel_rfl) (by kernel_rfl) (by kernel_rfl) (fun _ _ _ h => h) (by kernel_rfl) ?_ HS.out ?_
      rotate_left
      · intro wz hz
        obtain ⟨⟨y0, y1, y2, y3, y4, y5, y6, y7⟩, e8, e9, -⟩ := hz
        go_simp
        first | done | with_reducible rfl
      refine wpAnyH_ready (rs := [7]) (by kernel_rfl) (by simp) ?_
      refine AllReadyH.cons rfl (fun K hK => ?_) AllReadyH.nil
      go_simp
      go_wp2_with fail
      refine (C5.out _ (TK.out _ (K0.out.trans HS.out.2.2.2))).mono ?_; rintro e' v5 ⟨rfl, kk⟩; have KP5 := hide (HS.out.kept kk); clear HS kk; have HS := hide KP5.out
      refine hK.out _ _ HS.out (fun _ => ?_)
      clear hK K
      refine held_take (i := 8) (d := 118) (v := ?_) rfl rfl (by kernel_rfl) (by kernel_rfl) (by kernel_rfl) (fun _ _ _ h => h) (by kernel_rfl) ?_ HS.out ?_
      rotate_left
      · intro wz hz
        obtain ⟨⟨y0, y1, y2, y3, y4, y5, y6, y7⟩, e8, e9, -⟩ := hz
        go_simp
        first | done | with_reducible rfl
      refine held_take (i := 9) (d := 127) (v := ?_) rfl rfl (by kernel_rfl) (by kernel_rfl) (by kernel_rfl) (fun _ _ _ h => h) (by kernel_rfl) ?_ HS.out ?_
      rotate_left
      · intro wz hz
        obtain ⟨⟨y0, y1, y2, y3, y4, y5, y6, y7⟩, e8, e9, -⟩ := hz
        go_simp
        first | done | with_reducible rfl
      refine held_take (i := 10) (d := 128) (v := ?_) rfl rfl (by kernel_rfl) (by kernel_rfl) (by kernel_rfl) (fun _ _ _ h => h) (by kernel_rfl) ?_ HS.out ?_
      rotate_left
      · intro wz hz
        obtain ⟨⟨y0, y1, y2, y3, y4, y5, y6, y7⟩, e8, e9, -⟩ := hz
        go_simp
        first | done | with_reducible rfl
      refine held_take (i := 11) (d := 28) (v := ?_) rfl rfl (by kernel_rfl) (by kernel_rfl) (by kernel_rfl) (fun _ _ _ h => h) (by kernel_rfl) ?_ HS.out ?_
      rotate_left
      · intro wz hz
        obtain ⟨⟨y0, y1, y2, y3, y4, y5, y6, y7⟩, e8, e9, -⟩ := hz
        go_simp
        first | done | with_reducible rfl
      refine held_take (i := 12) (d := 29) (v := ?_) rfl rfl (by kernel_rfl) (by kernel_rfl) (by kernel_rfl) (fun _ _ _ h => h) (by kernel_rfl) ?_ HS.out ?_
      rotate_left
      · intro wz hz
        obtain ⟨⟨y0, y1, y2, y3, y4, y5, y6, y7⟩, e8, e9, -⟩ := hz
        go_simp
        first | done | with_reducible rfl
      refine wpAnyH_done (by kernel_rfl) ?_ _
      try simp only [Act.put, List.setIfInBounds_toArray, List.set_cons_succ, List.set_cons_zero]
      clear HS KP4
      go_wp2_with fail
      have HS := hide (KP5.out.drew)
      refine wp_region_held (S := (Ka W NN PS PA k cg cn cm cl cp cb ch cs u v)) (by kernel_rfl) ?_
      change wpAnyH _ _ _ _ _ _ _ _ (World.drew _)
      refine held_take (i := 0) (d := 130) (v := ?_) rfl rfl (by kernel_rfl) (by kernel_rfl) (by kernel_rfl) (fun _ _ _ h => h) (by kernel_rfl) ?_ HS.out ?_
      rotate_left
      · intro wz hz
        obtain ⟨⟨y0, y1, y2, y3, y4, y5, y6, y7⟩, e8, e9, -⟩ := hz
        go_simp
        first | done | with_reducible rfl
      refine held_take (i := 1) (d := 131) (v := ?_) rfl rfl (by kernel_rfl) (by kernel_rfl) (by kernel_rfl) (fun _ _ _ h => h) (by kernel_rfl) ?_ HS.out ?_
      rotate_left
      · intro wz hz
        obtain ⟨⟨y0, y1, y2, y3, y4, y5, y6, y7⟩, e8, e9, -⟩ := hz
        go_simp
        first | done | with_reducible rfl
      refine held_take (i := 2) (d := 132) (v := ?_) rfl rfl (by kernel_rfl) (by kernel_rfl) (by kernel_rfl) (fun _ _ _ h => h) (by kernel_rfl) ?_ HS.out ?_
      rotate_left
      · intro wz hz
        obtain ⟨⟨y0, y1, y2, y3, y4, y5, y6, y7⟩, e8, e9, -⟩ := hz
        go_simp
        first | done | with_reducible rfl
      refine held_take (i := 3) (d := 133) (v := ?_) rfl rfl (by kernel_rfl) (by kernel_rfl) (by kernel_rfl) (fun _ _ _ h => h) (by kernel_rfl) ?_ HS.out ?_
      rotate_left
      · intro wz hz
        obtain ⟨⟨y0, y1, y2, y3, y4, y5, y6, y7⟩, e8, e9, -⟩ := hz
        go_simp
        first | done | with_reducible rfl
      refine held_take (i := 4) (d := 134) (v := ?_) rfl rfl (by kernel_rfl) (by kernel_rfl) (by kernel_rfl) (fun _ _ _ h => h) (by kernel_rfl) ?_ HS.out ?_
      rotate_left
      · intro wz hz
        obtain ⟨⟨y0, y1, y2, y3, y4, y5, y6, y7⟩, e8, e9, -⟩ := hz
        go_simp
        first | done | with_reducible rfl
      refine held_take (i := 5) (d := 135) (v := ?_) rfl rfl (by kernel_rfl) (by kernel_rfl) (by kernel_rfl) (fun _ _ _ h => h) (by kernel_rfl) ?_ HS.out ?_
      rotate_left
      · intro wz hz
        obtain ⟨⟨y0, y1, y2, y3, y4, y5, y6, y7⟩, e8, e9, -⟩ := hz
        go_simp
        first | done | with_reducible rfl
      refine held_take (i := 6) (d := 136) (v := ?_) rfl rfl (by kernel_rfl) (by kernel_rfl) (by kernel_rfl) (fun _ _ _ h => h) (by kernel_rfl) ?_ HS.out ?_
      rotate_left
      · intro wz hz
        obtain ⟨⟨y0, y1, y2, y3, y4, y5, y6, y7⟩, e8, e9, -⟩ := hz
        go_simp
        first | done | with_reducible rfl
      refine wpAnyH_ready (rs := [7]) (by kernel_rfl) (by simp) ?_
      refine AllReadyH.cons rfl (fun K hK => ?_) AllReadyH.nil
      go_simp
      go_wp2_with fail
      refine (C6.out _).mono ?_; rintro e' v6 ⟨rfl, kk⟩; have KP6 := hide (HS.out.kept kk); clear HS kk; have HS := hide KP6.out
      refine hK.out _ _ HS.out (fun _ => ?_)
      clear hK K
      refine held_take (i := 8) (d := 129) (v := ?_) rfl rfl (by kernel_rfl) (by kernel_rfl) (by kernel_rfl) (fun _ _ _ h => h) (by kernel_rfl) ?_ HS.out ?_
      rotate_left
      · intro wz hz
        obtain ⟨⟨y0, y1, y2, y3, y4, y5, y6, y7⟩, e8, e9, -⟩ := hz
        go_simp
        first | done | with_reducible rfl
      refine held_take (i := 9) (d := 138) (v := ?_) rfl rfl (by kernel_rfl) (by kernel_rfl) (by kernel_rfl) (fun _ _ _ h => h) (by kernel_rfl) ?_ HS.out ?_
      rotate_left
      · intro wz hz
        obtain ⟨⟨y0, y1, y2, y3, y4, y5, y6, y7⟩, e8, e9, -⟩ := hz
        go_simp
        first | done | with_reducible rfl
      refine held_take (i := 10) (d := 139) (v := ?_) rfl rfl (by kernel_rfl) (by kernel_rfl) (by kernel_rfl) (fun _ _ _ h => h) (by kernel_rfl) ?_ HS.out ?_
      rotate_left
      · intro wz hz
        obtain ⟨⟨y0, y1, y2, y3, y4, y5, y6, y7⟩, e8, e9, -⟩ := hz
        go_simp
        first | done | with_reducible rfl
      refine held_take (i := 11) (d := 30) (v := ?_) rfl rfl (by kernel_rfl) (by kernel_rfl) (by kernel_rfl) (fun _ _ _ h => h) (by kernel_rfl) ?_ HS.out ?_
      rotate_left
      · intro wz hz
        obtain ⟨⟨y0, y1, y2, y3, y4, y5, y6, y7⟩, e8, e9, -⟩ := hz
        go_simp
        first | done | with_reducible rfl
      refine held_take (i := 12) (d := 31) (v := ?_) rfl rfl (by kernel_rfl) (by kernel_rfl) (by kernel_rfl) (fun _ _ _ h => h) (by kernel_rfl) ?_ HS.out ?_
      rotate_left
      · intro wz hz
        obtain ⟨⟨y0, y1, y2, y3, y4, y5, y6, y7⟩, e8, e9, -⟩ := hz
        go_simp
        first | done | with_reducible rfl
      refine wpAnyH_done (by kernel_rfl) ?_ _
      try simp only [Act.put, List.setIfInBounds_toArray, List.set_cons_succ, List.set_cons_zero]
      clear HS KP5
      have FE := hide KP6.out.2.2.2
      clear KP6
      go_wp2
      go_roundw
      case rel => exact ⟨k + 1, GK.out, by go_num, FE.out⟩
      case measure => simp [intOf]; omega
    · obtain rfl : k = 4 := by omega
      clear hf
      go_wp2
      go_ret
      exact ⟨rfl, K0.out.trans F.out⟩
end Go.Proofs.YtoopeihnmlfneaaDoor
