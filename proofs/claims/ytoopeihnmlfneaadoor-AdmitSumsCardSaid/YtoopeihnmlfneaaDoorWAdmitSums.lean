/- The walk of hodmanlaw16.AdmitSums: who is let in at so much is at less, and keeps all at most M; of many as of their product. -/
import Derived.Test.YtoopeihnmlfneaaDoorAdmitLaw
import Derived.Test.YtoopeihnmlfneaaDoorAdmitPlay
import Derived.Test.YtoopeihnmlfneaaDoorPlayConf
import Derived.Test.YtoopeihnmlfneaaDoorPlayIn
import Derived.BigGuard
namespace Go.Proofs.YtoopeihnmlfneaaDoor
open Go.ChangeShapes Go.WideShapes Go.ChangeAt Go.RowKit

set_option maxRecDepth 100000 in
set_option maxHeartbeats 2000000 in
theorem admitSums_walk0 (AS : AdmitSays) (a : Option Addr) (len cap : Nat) (zs : List Int) (live : Int) (l0 : 0 ≤ live) (l1 : live ≤ 65535) (less : Int) (s0 : 0 ≤ less) (s1 : less ≤ 65535) (s : Int) (t0 : 0 ≤ s) (t1 : s ≤ 255) (al : Int) (a0 : 0 ≤ al) (a1 : al ≤ 255) (n : Int) (n0 : 0 ≤ n) (n1 : n ≤ 255) (w : World) (hrow : IsRow .u8 w a len cap zs) (hT : Tab w) :
    Calls Tryd.prog 4 #[.slice a len cap, .int .u16 live, .int .u16 less, .int .u8 s, .int .u8 al, .int .u8 n] w fun e w' => e = .returned (.bool true) ∧ Kept w w' := by
  have hR := hide hrow
  clear hrow
  by_cases hlen : 6 < len
  · have hl : (6 : Int) < (len : Int) := by omega
    go_enter Tryd.func4, Tryd.ntmps4
    go_wp2_with fail
    refine (begun16_true AS _ hT).mono ?_
    rintro e w1 ⟨rfl, k1⟩
    have K1 := hide k1; clear k1
    go_wp2
    go_ret
    exact ⟨rfl, K1.out⟩
  have hl : (len : Int) ≤ 6 := by omega
  go_enter Tryd.func4, Tryd.ntmps4
  go_wp2_with fail
  refine (begun16_true AS _ hT).mono ?_
  rintro e w1 ⟨rfl, k1⟩
  have K1 := hide k1; clear k1
  have P1 := hide (picks_made hR.out K1.out)
  go_wp2_with fail
  refine (made_any a len cap _).mono ?_
  rintro e w2 ⟨rfl, rfl⟩
  go_wp2_with fail
  refine (conf_any w1.heap.size (zs.take len) 0 false _ (by rw [Nat.zero_min]; exact P1.out)).mono ?_
  rintro e w3 ⟨rfl, _, E3⟩
  have K3 := hide (Else.kept (K1.out.alloc #[.slice a len cap, .int .i64 0] 43) (K1.out.1.size) E3)
  clear E3 P1 hR K1
  obtain ⟨pa, l, F, fm0, fm1⟩ := fit_adm (zs.take len) 0
  have F := hide F
  generalize rawOf (zs.take len) 0 false = r at *
  generalize ofC r = c at *
  have hg0 : (c.g == 0) = false := by have := F.out.g1; rw [beq_eq_false_iff_ne]; omega
  have TK : Hid (∀ w', Kept w w' → Tab w') := fun w' k => hT.kept k
  have g1 := hide F.out.g1
  have gn := hide F.out.gn
  have n16 := hide F.out.n16
  have cn1 : 1 ≤ c.n := by have := gn.out; have := g1.out; omega
  have cn2 : c.n ≤ 65536 := n16.out
  have NEW := hide (fun live s a w h6 h7 h8 h9 ha ha' hT => AS.new c live s a w g1.out gn.out n16.out (by omega) (by omega) h6 h7 h8 h9 ha ha' hT)
  have MANY := hide (fun live x s w h6 h7 hx hx' h8 h9 hT => AS.many c live x s w g1.out gn.out n16.out (by omega) (by omega) h6 h7 hx hx' h8 h9 hT)
  have ANEW := hide (fun live old s w h6 h7 h8 h9 ha hT => AS.anew c live old s w g1.out gn.out n16.out (by omega) (by omega) h6 h7 h8 h9 ha hT)
  obtain ⟨L, hL, L0, L1⟩ : ∃ L, live % (c.m + 1) = L ∧ 0 ≤ L ∧ L ≤ c.m := ⟨_, rfl, Int.emod_nonneg _ (by omega), by have := Int.emod_lt_of_pos live (show 0 < c.m + 1 by omega); omega⟩
  obtain ⟨Q, hQ, Q0, Q1⟩ : ∃ Q, less % (L + 1) = Q ∧ 0 ≤ Q ∧ Q ≤ L := ⟨_, rfl, Int.emod_nonneg _ (by omega), by have := Int.emod_lt_of_pos less (show 0 < L + 1 by omega); omega⟩
  obtain ⟨K, hK, KQ⟩ : ∃ K, L - Q = K ∧ L - K = Q := ⟨_, rfl, by omega⟩
  have K0 : 0 ≤ K := by omega
  have KL : K ≤ L := by omega
  obtain ⟨Z, hZ, Z0, Z1⟩ : ∃ Z, s % (c.n + 2) = Z ∧ 0 ≤ Z ∧ Z ≤ 65537 := ⟨_, rfl, Int.emod_nonneg _ (by omega), by have := Int.emod_lt_of_pos s (show 0 < c.n + 2 by omega); omega⟩
  obtain ⟨Y, hY, Y0, Y1⟩ : ∃ Y, n % 5 = Y ∧ 0 ≤ Y ∧ Y ≤ 4 := ⟨_, rfl, by omega, by omega⟩
  obtain ⟨J, hJ, J1⟩ : ∃ J : Nat, (al % 6).toNat = J ∧ J ≤ 5 := ⟨_, rfl, by omega⟩
  obtain ⟨B, hB⟩ : ∃ B : Int, ((2 ^ J : Nat) : Int) = B := ⟨_, rfl⟩
  have pB := pow16 (show J ≤ 16 by omega)
  have B0 : 1 ≤ B := by omega
  have B1 : B ≤ 65536 := by omega
  have eA : Hid (wrap64 (2 ^ (al % 6).toNat) = B) := by
    rw [hJ]
    rw [← pow_cast, hB]
    exact hide (by unfold wrap64; omega)
  clear pB hB hJ J1
  have DM := hide (many_same (g := c.g) (n := c.n) (m := c.m) (live := L) cn1 Y0 Y1 Z0 (show Z ≤ 100000 by omega))
  have DL := hide (fun h => ad_less (g := c.g) (n := c.n) (m := c.m) (l := L) (k := K) (s := Z) (a := B) g1.out (by have := gn.out; omega) n16.out KL h)
  have DK := hide (fun h => ad_less (g := c.g) (n := c.n) (m := c.m) (l := K) (k := K) (s := Z) (a := B) g1.out (by have := gn.out; omega) n16.out (Int.le_refl _) h)
  have DN := hide (fun h => ad_none (g := c.g) (n := c.n) (m := c.m) (l := L) (s := Z) (a := B) h)
  have DF := hide (fun h h2 => ad_far (g := c.g) (n := c.n) (m := c.m) (l := L) (k := K) (s := Z) (a := B) h h2)
  have C1 := hide (fun w hT => NEW.out L Z B w L0 (by omega) (by omega) (by omega) (by omega) (by omega) hT)
  have C2 := hide (fun w hT => NEW.out K Z B w K0 (by omega) (by omega) (by omega) (by omega) (by omega) hT)
  have C3 := hide (fun w hT => MANY.out L Y Z w L0 (by omega) (by omega) (by omega) (by omega) (by omega) hT)
  have hp0 : 0 ≤ Y * Z := Int.mul_nonneg Y0 Z0
  have hp1 : Y * Z ≤ 262148 := by have := Int.mul_le_mul Y1 Z1 Z0 (show (0 : Int) ≤ 4 by decide); omega
  have C4 := hide (fun w hT => NEW.out L (Y * Z) 1 w L0 (by omega) (by omega) (by omega) (by omega) (by omega) hT)
  have C5 := hide (fun w hT => ANEW.out L Q Z w Q1 (by omega) Q0 (by omega) (by omega) hT)
  have C6 := hide (fun w hT => NEW.out K Z 1 w K0 (by omega) (by omega) (by omega) (by omega) (by omega) hT)
  rw [hK] at C5
  rw [DM.out.1, DM.out.2] at C3
  clear NEW MANY ANEW DM
  obtain ⟨P, hP⟩ : ∃ P, Y * Z = P := ⟨_, rfl⟩
  rw [hP] at hp0 hp1 C3 C4
  have wP : wrap64 (Y * Z) = P := by rw [hP]; unfold wrap64; omega
  generalize adV c.g c.n c.m L Z B = x at *
  generalize adE c.g c.n c.m L Z B = e at *
  generalize adV c.g c.n c.m K Z B = y at *
  generalize adE c.g c.n c.m K Z B = f at *
  generalize adV c.g c.n c.m L P 1 = v at *
  generalize adE c.g c.n c.m L P 1 = h at *
  generalize adV c.g c.n c.m K Z 1 = z at *
  generalize adE c.g c.n c.m K Z 1 = j at *
  have D4 := hide (show HasC ((w3.alloc (c.obj 26)).alloc (r.obj 28)) w3.heap.size 0 c from (HasC.made w3 c 26).kept ((Kept.refl _).alloc _ _))
  have K4 := hide (show Kept w ((w3.alloc (c.obj 26)).alloc (r.obj 28)) from (K3.out.alloc _ _).alloc _ _)
  have NB := hide (show w3.heap.size < ((w3.alloc (c.obj 26)).alloc (r.obj 28)).heap.size by simp; omega)
  clear K3 F g1 gn n16
  obtain ⟨g, la, li, pg, bu, se⟩ := r
  obtain ⟨cg, cn, cm, cl, cp, cb, ch, cs⟩ := c
  dsimp only at hg0 cn1 cn2 fm0 fm1 hL hZ C1 C2 C3 C4 C5 C6 DL DK DF DN D4 K4
  go_wp2_with fail
  rw [eA.out]
  generalize ((w3.alloc (Cf.obj ⟨cg, cn, cm, cl, cp, cb, ch, cs⟩ 26)).alloc (Rw.obj ⟨g, la, li, pg, bu, se⟩ 28)) = W4 at *
  generalize w3.heap.size = NN at *
  refine (C1.out _ (TK.out _ K4.out)).mono ?_
  rintro e' w5 ⟨rfl, k5⟩
  simp only [hL, hZ]
  have K5 := hide (K4.out.trans k5)
  have D5 := hide (D4.out.kept k5)
  clear k5 K4 D4 hL hQ hZ hY
  obtain ⟨y0, y1, y2, y3, y4, y5, y6, y7⟩ := D5.out
  simp only [Nat.zero_add] at y0 y1 y2 y3 y4 y5 y6 y7
  go_wp2_with fail
  clear y0 y1 y2 y3 y4 y5 y6 y7
  refine (C2.out _ (TK.out _ K5.out)).mono ?_
  rintro e' w6 ⟨rfl, k6⟩
  have K6 := hide (K5.out.trans k6)
  have D6 := hide (D5.out.kept k6)
  clear k6 K5 D5
  obtain ⟨y0, y1, y2, y3, y4, y5, y6, y7⟩ := D6.out
  simp only [Nat.zero_add] at y0 y1 y2 y3 y4 y5 y6 y7
  have lb : L ≤ 200000 := by omega
  by_cases h0 : e = 0
  · clear DK
    obtain ⟨d1, d2, d3, d4⟩ := DL.out h0
    clear DL DN DF
    subst h0
    subst d3
    have d5 : y = x := d4
    subst d5
    have d1' : ¬ y < 1 := by omega
    go_wp2_with fail
    clear y0 y1 y2 y3 y4 y5 y6 y7
    refine (C3.out _ (TK.out _ K6.out)).mono ?_
    rintro e' w7 ⟨rfl, k7⟩
    have K7 := hide (K6.out.trans k7)
    have D7 := hide (D6.out.kept k7)
    clear k7 K6 D6
    obtain ⟨y0, y1, y2, y3, y4, y5, y6, y7⟩ := D7.out
    simp only [Nat.zero_add] at y0 y1 y2 y3 y4 y5 y6 y7
    go_wp2_with fail
    clear y0 y1 y2 y3 y4 y5 y6 y7
    refine (C4.out _ (TK.out _ K7.out)).mono ?_
    rintro e' w8 ⟨rfl, k8⟩
    have K8 := hide (K7.out.trans k8)
    have D8 := hide (D7.out.kept k8)
    clear k8 K7 D7
    obtain ⟨y0, y1, y2, y3, y4, y5, y6, y7⟩ := D8.out
    simp only [Nat.zero_add] at y0 y1 y2 y3 y4 y5 y6 y7
    go_wp2_with fail
    clear y0 y1 y2 y3 y4 y5 y6 y7
    refine (C5.out _ (TK.out _ K8.out)).mono ?_
    rintro e' w9 ⟨rfl, k9⟩
    have K9 := hide (K8.out.trans k9)
    have D9 := hide (D8.out.kept k9)
    clear k9 K8 D8
    obtain ⟨y0, y1, y2, y3, y4, y5, y6, y7⟩ := D9.out
    simp only [Nat.zero_add] at y0 y1 y2 y3 y4 y5 y6 y7
    go_wp2_with fail
    clear y0 y1 y2 y3 y4 y5 y6 y7
    refine (C6.out _ (TK.out _ K9.out)).mono ?_
    rintro e' w10 ⟨rfl, k10⟩
    have K10 := hide (K9.out.trans k10)
    have D10 := hide (D9.out.kept k10)
    clear k10 K9 D9
    go_wp2
    go_ret
    exact ⟨rfl, K10.out⟩
  · have d1 := DN.out h0
    subst d1
    have he : (e == 0) = false := by rw [beq_eq_false_iff_ne]; exact h0
    have he2 : (e != 0) = true := by simp [h0]
    have he3 : (!(e == 0)) = true := by simp [h0]
    by_cases h5 : e = 5
    · subst h5
      by_cases hf : f = 0
      · have d2 := DF.out rfl hf
        obtain ⟨d3, d4, -, -⟩ := DK.out hf
        have d7 : y ≤ 200000 := by omega
        have d6 : decide (L + y ≤ cm) = false := decide_eq_false (by omega)
        subst hf
        clear DK DL DN DF h0 he he2 he3
        go_wp2_with fail
        clear y0 y1 y2 y3 y4 y5 y6 y7
        refine (C3.out _ (TK.out _ K6.out)).mono ?_
        rintro e' w7 ⟨rfl, k7⟩
        have K7 := hide (K6.out.trans k7)
        have D7 := hide (D6.out.kept k7)
        clear k7 K6 D6
        obtain ⟨y0, y1, y2, y3, y4, y5, y6, y7⟩ := D7.out
        simp only [Nat.zero_add] at y0 y1 y2 y3 y4 y5 y6 y7
        go_wp2_with fail
        clear y0 y1 y2 y3 y4 y5 y6 y7
        refine (C4.out _ (TK.out _ K7.out)).mono ?_
        rintro e' w8 ⟨rfl, k8⟩
        have K8 := hide (K7.out.trans k8)
        have D8 := hide (D7.out.kept k8)
        clear k8 K7 D7
        obtain ⟨y0, y1, y2, y3, y4, y5, y6, y7⟩ := D8.out
        simp only [Nat.zero_add] at y0 y1 y2 y3 y4 y5 y6 y7
        go_wp2_with fail
        clear y0 y1 y2 y3 y4 y5 y6 y7
        refine (C5.out _ (TK.out _ K8.out)).mono ?_
        rintro e' w9 ⟨rfl, k9⟩
        have K9 := hide (K8.out.trans k9)
        have D9 := hide (D8.out.kept k9)
        clear k9 K8 D8
        obtain ⟨y0, y1, y2, y3, y4, y5, y6, y7⟩ := D9.out
        simp only [Nat.zero_add] at y0 y1 y2 y3 y4 y5 y6 y7
        go_wp2_with fail
        clear y0 y1 y2 y3 y4 y5 y6 y7
        refine (C6.out _ (TK.out _ K9.out)).mono ?_
        rintro e' w10 ⟨rfl, k10⟩
        have K10 := hide (K9.out.trans k10)
        have D10 := hide (D9.out.kept k10)
        clear k10 K9 D9
        go_wp2
        go_ret
        exact ⟨rfl, K10.out⟩
      · have hf' : (f == 0) = false := by rw [beq_eq_false_iff_ne]; exact hf
        clear DK DL DN DF h0 he he2 he3 hf
        go_wp2_with fail
        clear y0 y1 y2 y3 y4 y5 y6 y7
        refine (C3.out _ (TK.out _ K6.out)).mono ?_
        rintro e' w7 ⟨rfl, k7⟩
        have K7 := hide (K6.out.trans k7)
        have D7 := hide (D6.out.kept k7)
        clear k7 K6 D6
        obtain ⟨y0, y1, y2, y3, y4, y5, y6, y7⟩ := D7.out
        simp only [Nat.zero_add] at y0 y1 y2 y3 y4 y5 y6 y7
        go_wp2_with fail
        clear y0 y1 y2 y3 y4 y5 y6 y7
        refine (C4.out _ (TK.out _ K7.out)).mono ?_
        rintro e' w8 ⟨rfl, k8⟩
        have K8 := hide (K7.out.trans k8)
        have D8 := hide (D7.out.kept k8)
        clear k8 K7 D7
        obtain ⟨y0, y1, y2, y3, y4, y5, y6, y7⟩ := D8.out
        simp only [Nat.zero_add] at y0 y1 y2 y3 y4 y5 y6 y7
        go_wp2_with fail
        clear y0 y1 y2 y3 y4 y5 y6 y7
        refine (C5.out _ (TK.out _ K8.out)).mono ?_
        rintro e' w9 ⟨rfl, k9⟩
        have K9 := hide (K8.out.trans k9)
        have D9 := hide (D8.out.kept k9)
        clear k9 K8 D8
        obtain ⟨y0, y1, y2, y3, y4, y5, y6, y7⟩ := D9.out
        simp only [Nat.zero_add] at y0 y1 y2 y3 y4 y5 y6 y7
        go_wp2_with fail
        clear y0 y1 y2 y3 y4 y5 y6 y7
        refine (C6.out _ (TK.out _ K9.out)).mono ?_
        rintro e' w10 ⟨rfl, k10⟩
        have K10 := hide (K9.out.trans k10)
        have D10 := hide (D9.out.kept k10)
        clear k10 K9 D9
        go_wp2
        go_ret
        exact ⟨rfl, K10.out⟩
    · have h5' : (e == 5) = false := by rw [beq_eq_false_iff_ne]; exact h5
      clear DK DL DN DF h0 h5
      go_wp2_with fail
      clear y0 y1 y2 y3 y4 y5 y6 y7
      refine (C3.out _ (TK.out _ K6.out)).mono ?_
      rintro e' w7 ⟨rfl, k7⟩
      have K7 := hide (K6.out.trans k7)
      have D7 := hide (D6.out.kept k7)
      clear k7 K6 D6
      obtain ⟨y0, y1, y2, y3, y4, y5, y6, y7⟩ := D7.out
      simp only [Nat.zero_add] at y0 y1 y2 y3 y4 y5 y6 y7
      go_wp2_with fail
      clear y0 y1 y2 y3 y4 y5 y6 y7
      refine (C4.out _ (TK.out _ K7.out)).mono ?_
      rintro e' w8 ⟨rfl, k8⟩
      have K8 := hide (K7.out.trans k8)
      have D8 := hide (D7.out.kept k8)
      clear k8 K7 D7
      obtain ⟨y0, y1, y2, y3, y4, y5, y6, y7⟩ := D8.out
      simp only [Nat.zero_add] at y0 y1 y2 y3 y4 y5 y6 y7
      go_wp2_with fail
      clear y0 y1 y2 y3 y4 y5 y6 y7
      refine (C5.out _ (TK.out _ K8.out)).mono ?_
      rintro e' w9 ⟨rfl, k9⟩
      have K9 := hide (K8.out.trans k9)
      have D9 := hide (D8.out.kept k9)
      clear k9 K8 D8
      obtain ⟨y0, y1, y2, y3, y4, y5, y6, y7⟩ := D9.out
      simp only [Nat.zero_add] at y0 y1 y2 y3 y4 y5 y6 y7
      go_wp2_with fail
      clear y0 y1 y2 y3 y4 y5 y6 y7
      refine (C6.out _ (TK.out _ K9.out)).mono ?_
      rintro e' w10 ⟨rfl, k10⟩
      have K10 := hide (K9.out.trans k10)
      have D10 := hide (D9.out.kept k10)
      clear k10 K9 D9
      go_wp2
      go_ret
      exact ⟨rfl, K10.out⟩
end Go.Proofs.YtoopeihnmlfneaaDoor
