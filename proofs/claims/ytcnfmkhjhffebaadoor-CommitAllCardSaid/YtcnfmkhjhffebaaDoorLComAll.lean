/- Proved here: hodmanlaw13.CommitAll, called with any slice of bytes, any three ints, any two bytes and any slice of bools, in any memory in which the library's table math/bits.deBruijn64tab lies as its initialiser lays it, returns true: which pages are there, or that there would be too many, is as promise P13.1 has it. No condition besides. -/
import Derived.Test.YtcnfmkhjhffebaaDoorComUni
import Derived.Test.YtcnfmkhjhffebaaDoorPlayRows
import Derived.Test.YtcnfmkhjhffebaaDoorOpenBools
import Derived.Test.YtcnfmkhjhffebaaDoorInts
import Derived.Test.YtcnfmkhjhffebaaDoorComMore
import Derived.Test.YtcnfmkhjhffebaaDoorCards
import Derived.Test.YtcnfmkhjhffebaaDoorTie
import Derived.Deep.CutRange
namespace Go.Proofs.YtcnfmkhjhffebaaDoor
open Go.ChangeShapes Go.WideShapes Go.ChangeAt Go.RowKit

theorem HasI.fresh {w w' : World} {n : Nat} {l : List Int} (h : HasI w n l) (k : Fresh w w') : HasI w' n l := fun i hi => (k.cell (World.block_lt_of_cell? _ _ (h i hi))).trans (h i hi)
theorem ints3 (w wd : World) (k : Fresh w wd) (a b c : List Int) (t : TypeId) :
    HasI (((wd.alloc (intsO a t)).alloc (intsO b t)).alloc (intsO c t)) wd.heap.size a ∧ HasI (((wd.alloc (intsO a t)).alloc (intsO b t)).alloc (intsO c t)) (wd.heap.size + 1) b ∧ HasI (((wd.alloc (intsO a t)).alloc (intsO b t)).alloc (intsO c t)) (wd.heap.size + 1 + 1) c ∧ Fresh w (((wd.alloc (intsO a t)).alloc (intsO b t)).alloc (intsO c t)) := by
  have e1 : (wd.alloc (intsO a t)).heap.size = wd.heap.size + 1 := by simp
  have e2 : ((wd.alloc (intsO a t)).alloc (intsO b t)).heap.size = wd.heap.size + 1 + 1 := by simp
  refine ⟨((HasI.made wd a t).fresh (fresh_box _ _ _)).fresh (fresh_box _ _ _), ?_, ?_, fresh_more (fresh_more (fresh_more k _ _) _ _) _ _⟩
  · have := (HasI.made (wd.alloc (intsO a t)) b t).fresh (fresh_box _ (c.map (Value.int .i64)).toArray t)
    rwa [e1] at this
  · have := HasI.made ((wd.alloc (intsO a t)).alloc (intsO b t)) c t
    rwa [e2] at this
theorem ints3d (w : World) (a b c : List Int) (t : TypeId) :
    HasI (((w.alloc (intsO a t)).alloc (intsO b t)).alloc (intsO c t)).drew w.heap.size a ∧ HasI (((w.alloc (intsO a t)).alloc (intsO b t)).alloc (intsO c t)).drew (w.heap.size + 1) b ∧ HasI (((w.alloc (intsO a t)).alloc (intsO b t)).alloc (intsO c t)).drew (w.heap.size + 1 + 1) c ∧ Fresh w (((w.alloc (intsO a t)).alloc (intsO b t)).alloc (intsO c t)).drew := by
  obtain ⟨h1, h2, h3, k⟩ := ints3 w w (Fresh.refl w) a b c t
  exact ⟨h1.fresh (Fresh.refl _).drew, h2.fresh (Fresh.refl _).drew, h3.fresh (Fresh.refl _).drew, k.drew⟩
/-- three ints that are read -/
def Held3 (W : World) (n1 n2 n3 k : Nat) (F B M : Int) (w : World) : Prop := w.cell? ⟨n1, k, none⟩ = some (.int .i64 F) ∧ w.cell? ⟨n2, k, none⟩ = some (.int .i64 B) ∧ w.cell? ⟨n3, k, none⟩ = some (.int .i64 M) ∧ Fresh W w
theorem Held3.fresh {W : World} {n1 n2 n3 k : Nat} {F B M : Int} {w w' : World} (h : Held3 W n1 n2 n3 k F B M w) (q : Fresh w w') : Held3 W n1 n2 n3 k F B M w' :=
  ⟨(q.cell (World.block_lt_of_cell? _ _ h.1)).trans h.1, (q.cell (World.block_lt_of_cell? _ _ h.2.1)).trans h.2.1, (q.cell (World.block_lt_of_cell? _ _ h.2.2.1)).trans h.2.2.1, h.2.2.2.trans q⟩
theorem four_in {l : List Int} (h : ∀ z ∈ l, -9223372036854775808 ≤ z ∧ z ≤ 9223372036854775807) {k : Nat} (hk : k < l.length) : -9223372036854775808 ≤ l.getD k 0 ∧ l.getD k 0 ≤ 9223372036854775807 :=
  h _ (by rw [List.getD_eq_getElem?_getD, List.getElem?_eq_getElem hk]; exact List.getElem_mem hk)

theorem BoolsAt.fresh' {w w' : World} {v : Value} {bs : List Bool} (h : BoolsAt w v bs) (k : Fresh w w') : BoolsAt w' v bs := h.fresh k
theorem comXV_le {on met : List Bool} {f t m : Int} (h : on.length ≤ 65536) : (comXV on met f t m).length ≤ 1048576 := by
  unfold comXV
  split
  · rw [comX_length]; omega
  · simp
theorem comRV_le {on met : List Bool} {f t m : Int} (h : on.length ≤ 65536) : (comRV on met f t m).length ≤ 1048576 := by
  unfold comRV
  split
  · unfold frL
    exact Nat.le_trans (List.length_filter_le _ _) (by rw [List.length_range]; omega)
  · simp
set_option maxRecDepth 100000 in
set_option maxHeartbeats 8000000 in
theorem commitAll_walk0 (a : Option Addr) (len cap : Nat) (zs0 : List Int) (f : Int) (f1 : -9223372036854775808 ≤ f) (f2 : f ≤ 9223372036854775807) (t : Int) (t1 : -9223372036854775808 ≤ t) (t2 : t ≤ 9223372036854775807) (m : Int) (m1 : -9223372036854775808 ≤ m) (m2 : m ≤ 9223372036854775807)
    (x : Int) (x0 : 0 ≤ x) (x1 : x ≤ 255) (y : Int) (y0 : 0 ≤ y) (y1 : y ≤ 255) (ea : Option Addr) (mlen ec : Nat) (bs : List Bool) (w : World) (hR : IsRow .u8 w a len cap zs0) (hB : IsBools w ea mlen ec bs) (hT : Tab w) :
    Calls Tryd.prog 3 #[.slice a len cap, .int .i64 f, .int .i64 t, .int .i64 m, .int .u8 x, .int .u8 y, .slice ea mlen ec] w fun e w' => e = .returned (.bool true) ∧ Fresh w w' := by
  have HT := hide hT
  obtain ⟨zs, hz, hd⟩ := bytes_list hR
  have HD := hide hd
  have ZL := hide hz
  have HB := hide hB
  have l0 : (0 : Int) ≤ (len : Int) := by omega
  have lm := IsRow_le hR
  have k0 : (0 : Int) ≤ (mlen : Int) := by omega
  have km := hB.le
  clear hT hR hd hz hB
  by_cases g : 20 < len
  · have g' : (20 : Int) < (len : Int) := by omega
    go_enter Tryd.func3, Tryd.ntmps3
    go_wp2_with fail
    refine (begun13_true _ HT.out).mono ?_
    rintro e w1 ⟨rfl, k1⟩
    have K1 := hide k1
    clear k1
    go_wp2
    go_ret
    exact ⟨rfl, K1.out⟩
  by_cases gm : 20 < mlen
  · have g' : ¬ ((20 : Int) < (len : Int)) := by omega
    have g'' : (20 : Int) < (mlen : Int) := by omega
    go_enter Tryd.func3, Tryd.ntmps3
    go_wp2_with fail
    refine (begun13_true _ HT.out).mono ?_
    rintro e w1 ⟨rfl, k1⟩
    have K1 := hide k1
    clear k1
    go_wp2
    go_ret
    exact ⟨rfl, K1.out⟩
  have g' : (len : Int) ≤ 20 := by omega
  have g'' : (mlen : Int) ≤ 20 := by omega
  have NL := hide (show len ≤ 20 by omega)
  obtain ⟨hbi, hbl⟩ := HB.out.inn (by omega)
  have BI := hide hbi
  have OL := hide (show (onL zs).length = len by rw [onL_length, ZL.out])
  have ML := hide (show (metR zs).length = len by rw [metR_length, ZL.out])
  clear g gm hbi hbl HB
  generalize hon : onL zs = on at *
  generalize hmet : metR zs = met at *
  have HON := hide hon
  have HMET := hide hmet
  clear hon hmet
  obtain ⟨A1, hA1, A1b⟩ := rem_of x (len + 1) x0 (by omega)
  obtain ⟨B1, hB1, B1b⟩ := rem_of y (len + 1) y0 (by omega)
  obtain ⟨A2, hA2, A2b⟩ := rem_of x 20 x0 (by omega)
  obtain ⟨B2, hB2, B2b⟩ := rem_of y 20 y0 (by omega)
  rw [show (((len + 1 : Nat)) : Int) = (len : Int) + 1 from rfl] at hA1 hB1
  rw [show (((20 : Nat)) : Int) = 20 from rfl] at hA2 hB2
  have wx : IntKind.i64.wrap x = x := by rw [IntKind.wrap_i64]; omega
  have wy : IntKind.i64.wrap y = y := by rw [IntKind.wrap_i64]; omega
  have wA : IntKind.i64.wrap (A2 : Int) = (A2 : Int) := by rw [IntKind.wrap_i64]; omega
  have wB : IntKind.i64.wrap (B2 : Int) = (B2 : Int) := by rw [IntKind.wrap_i64]; omega
  have wl : IntKind.i64.wrap ((len : Int) + 1) = (len : Int) + 1 := by rw [IntKind.wrap_i64]; omega
  have wA1 : IntKind.i64.wrap (A1 : Int) = (A1 : Int) := by rw [IntKind.wrap_i64]; omega
  have wB1 : IntKind.i64.wrap (B1 : Int) = (B1 : Int) := by rw [IntKind.wrap_i64]; omega
  have I1 := hide (show ∀ z ∈ [f, (A1 : Int), 0, (A2 : Int)], -9223372036854775808 ≤ z ∧ z ≤ 9223372036854775807 by intro z hz; simp at hz; omega)
  have I2 := hide (show ∀ z ∈ [t, (len : Int), (B1 : Int), (B2 : Int)], -9223372036854775808 ≤ z ∧ z ≤ 9223372036854775807 by intro z hz; simp at hz; omega)
  have I3 := hide (show ∀ z ∈ [m, (B2 : Int), (A2 : Int), 9], -9223372036854775808 ≤ z ∧ z ≤ 9223372036854775807 by intro z hz; simp at hz; omega)
  clear A1b B1b A2b B2b
  go_enter Tryd.func3, Tryd.ntmps3
  go_wp2_with fail
  refine (begun13_true _ HT.out).mono ?_
  rintro e w1 ⟨rfl, k1⟩
  have K1 := hide k1
  clear k1
  go_wp2_with fail
  refine (rows_any a zs len cap w1 (HD.out.fresh K1.out) ZL.out (by have := NL.out; omega)).mono ?_
  rintro e w2 ⟨u, v, rfl, two⟩
  have O2 := hide (show OwnB w2 w1.heap.size u on by rw [← HON.out]; exact two.a)
  have M2 := hide (show OwnB w2 w1.heap.size v met by rw [← HMET.out]; exact two.b)
  have K2 := hide (K1.out.trans two.f)
  clear two K1
  obtain ⟨oa, oc, rfl⟩ := O2.out.shape OL.out
  obtain ⟨ma, mc, rfl⟩ := M2.out.shape ML.out
  go_upto_region 6 with fail
  obtain ⟨q1, hq1⟩ : ∃ q1, q1 = [f, (A1 : Int), 0, (A2 : Int)] := ⟨_, rfl⟩
  obtain ⟨q2, hq2⟩ : ∃ q2, q2 = [t, (len : Int), (B1 : Int), (B2 : Int)] := ⟨_, rfl⟩
  obtain ⟨q3, hq3⟩ : ∃ q3, q3 = [m, (B2 : Int), (A2 : Int), 9] := ⟨_, rfl⟩
  have HQ1 := hide hq1
  have HQ2 := hide hq2
  have HQ3 := hide hq3
  clear hq1 hq2 hq3
  go_cut [17, 18, 19] from 52 to 83 (fun s u v wx => ∃ n1 n2 n3 : Nat, s = .slice (some ⟨n1, 0, none⟩) 4 4 ∧ u = .slice (some ⟨n2, 0, none⟩) 4 4 ∧ v = .slice (some ⟨n3, 0, none⟩) 4 4 ∧ HasI wx n1 q1 ∧ HasI wx n2 q2 ∧ HasI wx n3 q3 ∧ Fresh w2 wx)
  case first =>
    have T3 := hide (fun a b c => ints3d w2 a b c 3)
    go_region
    · go_wp2_with fail
      go_meet
      case rel =>
        rw [HQ1.out, HQ2.out, HQ3.out]
        have T := T3.out [f, (A1 : Int), 0, (A2 : Int)] [t, (len : Int), (B1 : Int), (B2 : Int)] [m, (B2 : Int), (A2 : Int), 9]
        simp only [intsO, List.map_cons, List.map_nil] at T
        exact ⟨_, _, _, rfl, rfl, rfl, T.1, T.2.1, T.2.2.1, T.2.2.2⟩
    · go_wp2_with fail
      go_meet
      case rel =>
        rw [HQ1.out, HQ2.out, HQ3.out]
        have T := T3.out [f, (A1 : Int), 0, (A2 : Int)] [m, (B2 : Int), (A2 : Int), 9] [t, (len : Int), (B1 : Int), (B2 : Int)]
        simp only [intsO, List.map_cons, List.map_nil] at T
        exact ⟨_, _, _, rfl, rfl, rfl, T.1, T.2.2.1, T.2.1, T.2.2.2⟩
    · go_wp2_with fail
      go_meet
      case rel =>
        rw [HQ1.out, HQ2.out, HQ3.out]
        have T := T3.out [t, (len : Int), (B1 : Int), (B2 : Int)] [f, (A1 : Int), 0, (A2 : Int)] [m, (B2 : Int), (A2 : Int), 9]
        simp only [intsO, List.map_cons, List.map_nil] at T
        exact ⟨_, _, _, rfl, rfl, rfl, T.2.1, T.1, T.2.2.1, T.2.2.2⟩
    · go_wp2_with fail
      go_meet
      case rel =>
        rw [HQ1.out, HQ2.out, HQ3.out]
        have T := T3.out [t, (len : Int), (B1 : Int), (B2 : Int)] [m, (B2 : Int), (A2 : Int), 9] [f, (A1 : Int), 0, (A2 : Int)]
        simp only [intsO, List.map_cons, List.map_nil] at T
        exact ⟨_, _, _, rfl, rfl, rfl, T.2.2.1, T.1, T.2.1, T.2.2.2⟩
    · go_wp2_with fail
      go_meet
      case rel =>
        rw [HQ1.out, HQ2.out, HQ3.out]
        have T := T3.out [m, (B2 : Int), (A2 : Int), 9] [f, (A1 : Int), 0, (A2 : Int)] [t, (len : Int), (B1 : Int), (B2 : Int)]
        simp only [intsO, List.map_cons, List.map_nil] at T
        exact ⟨_, _, _, rfl, rfl, rfl, T.2.1, T.2.2.1, T.1, T.2.2.2⟩
    · go_wp2_with fail
      go_meet
      case rel =>
        rw [HQ1.out, HQ2.out, HQ3.out]
        have T := T3.out [m, (B2 : Int), (A2 : Int), 9] [t, (len : Int), (B1 : Int), (B2 : Int)] [f, (A1 : Int), 0, (A2 : Int)]
        simp only [intsO, List.map_cons, List.map_nil] at T
        exact ⟨_, _, _, rfl, rfl, rfl, T.2.2.1, T.2.1, T.1, T.2.2.2⟩
  case rest =>
  obtain ⟨n1, n2, n3, rfl, rfl, rfl, hI1, hI2, hI3, hk3⟩ := hcut
  have J1 := hide hI1
  have J2 := hide hI2
  have J3 := hide hI3
  have K3 := hide (K2.out.trans hk3)
  have O3 := hide (O2.out.fresh hk3)
  have M3 := hide (M2.out.fresh hk3)
  have Z1 := hide (show q1.length = 4 by rw [HQ1.out]; rfl)
  have Z2 := hide (show q2.length = 4 by rw [HQ2.out]; rfl)
  have Z3 := hide (show q3.length = 4 by rw [HQ3.out]; rfl)
  have U1 := hide (show ∀ z ∈ q1, -9223372036854775808 ≤ z ∧ z ≤ 9223372036854775807 by rw [HQ1.out]; exact I1.out)
  have U2 := hide (show ∀ z ∈ q2, -9223372036854775808 ≤ z ∧ z ≤ 9223372036854775807 by rw [HQ2.out]; exact I2.out)
  have U3 := hide (show ∀ z ∈ q3, -9223372036854775808 ≤ z ∧ z ≤ 9223372036854775807 by rw [HQ3.out]; exact I3.out)
  have B3 := hide (BI.out.fresh K3.out)
  clear hI1 hI2 hI3 hk3 O2 M2 K2 HQ1 HQ2 HQ3 I1 I2 I3 hA1 hB1 hA2 hB2 wx wy wA wB wl wA1 wB1 x0 x1 y0 y1 f1 f2 t1 t2 m1 m2 BI HD
  have OI := hide (O3.out.inn (by have := OL.out; have := NL.out; omega))
  have MI := hide (M3.out.inn (by have := ML.out; have := NL.out; omega))
  have OLN := hide (show on.length ≤ 65536 by have := OL.out; have := NL.out; omega)
  go_wp2
  go_loopw [20] (fun iv wr => ∃ k : Nat, k ≤ 4 ∧ iv = .int .i64 (k : Int) ∧ Fresh wc wr) (fun iv _ => (4 - intOf iv).toNat)
  case atStart => exact ⟨0, by omega, rfl, Fresh.refl _⟩
  case round =>
    obtain ⟨k, hk, rfl, hf⟩ := hrel
    have kk0 : (0 : Int) ≤ (k : Int) := by omega
    have FW := hide hf
    by_cases gk : k < 4
    · have gk' : (k : Int) < 4 := by omega
      have c1 := (J1.out.fresh hf) k (by rw [Z1.out]; exact gk)
      have c2 := (J2.out.fresh hf) k (by rw [Z2.out]; exact gk)
      have c3 := (J3.out.fresh hf) k (by rw [Z3.out]; exact gk)
      have b1 := four_in U1.out (show k < q1.length by rw [Z1.out]; exact gk)
      have b2 := four_in U2.out (show k < q2.length by rw [Z2.out]; exact gk)
      generalize q1.getD k 0 = F at c1 b1
      generalize q2.getD k 0 = B at c2 b2
      generalize q3.getD k 0 = G at c3
      obtain ⟨X1, hX1⟩ : ∃ X, comXV on met F B G = X := ⟨_, rfl⟩
      obtain ⟨R1, hR1⟩ : ∃ X, comRV on met F B G = X := ⟨_, rfl⟩
      obtain ⟨p1, hp1⟩ : ∃ X, comB on met F B G = X := ⟨_, rfl⟩
      obtain ⟨X2, hX2⟩ : ∃ X, comXV on bs F B G = X := ⟨_, rfl⟩
      obtain ⟨R2, hR2⟩ : ∃ X, comRV on bs F B G = X := ⟨_, rfl⟩
      obtain ⟨p2, hp2⟩ : ∃ X, comB on bs F B G = X := ⟨_, rfl⟩
      obtain ⟨nx1, hnx1⟩ : ∃ n, X1.length = n := ⟨_, rfl⟩
      obtain ⟨nr1, hnr1⟩ : ∃ n, R1.length = n := ⟨_, rfl⟩
      obtain ⟨nx2, hnx2⟩ : ∃ n, X2.length = n := ⟨_, rfl⟩
      obtain ⟨nr2, hnr2⟩ : ∃ n, R2.length = n := ⟨_, rfl⟩
      have LX1 := hide (show X1.length ≤ 1048576 by rw [← hX1]; exact comXV_le OLN.out)
      have LX2 := hide (show X2.length ≤ 1048576 by rw [← hX2]; exact comXV_le OLN.out)
      have LR1 := hide (show R1.length ≤ 1048576 by rw [← hR1]; exact comRV_le OLN.out)
      have LR2 := hide (show R2.length ≤ 1048576 by rw [← hR2]; exact comRV_le OLN.out)
      have D1 := hide (fun w' (k' : Fresh wc w') => commit_uni _ _ on met F B G X1 R1 p1 nx1 nr1 hX1 hR1 hp1 hnx1 hnr1 w' (OI.out.fresh k') (MI.out.fresh k') (HT.out.below (K3.out.trans k')) OLN.out b1.1 b1.2 b2.1 b2.2)
      have D2 := hide (fun w' (k' : Fresh wc w') => rcommit_uni _ _ on met F B G X1 R1 p1 nx1 nr1 hX1 hR1 hp1 hnx1 hnr1 w' (OI.out.fresh k') (MI.out.fresh k') OLN.out b1.1 b1.2)
      have D3 := hide (fun w' (k' : Fresh wc w') => commit_uni _ _ on bs F B G X2 R2 p2 nx2 nr2 hX2 hR2 hp2 hnx2 hnr2 w' (OI.out.fresh k') (B3.out.fresh k') (HT.out.below (K3.out.trans k')) OLN.out b1.1 b1.2 b2.1 b2.2)
      have D4 := hide (fun w' (k' : Fresh wc w') => rcommit_uni _ _ on bs F B G X2 R2 p2 nx2 nr2 hX2 hR2 hp2 hnx2 hnr2 w' (OI.out.fresh k') (B3.out.fresh k') OLN.out b1.1 b1.2)
      have N1 := hide hnx1
      have N2 := hide hnr1
      have N3 := hide hnx2
      have N4 := hide hnr2
      have HS : Hid (Held3 wc n1 n2 n3 k F B G wr.drew) := Held3.fresh ⟨c1, c2, c3, hf⟩ (Fresh.refl wr).drew
      clear hf c1 c2 c3 b1 b2 hX1 hR1 hp1 hX2 hR2 hp2 hnx1 hnr1 hnx2 hnr2 U1 U2 U3 Z1 Z2 Z3 J1 J2 J3
      go_wp2_with fail
      refine wp_region_held (S := Held3 wc n1 n2 n3 k F B G) (by kernel_rfl) ?_
      change wpAnyH _ _ _ _ _ _ _ _ (World.drew _)
      generalize hwd : World.drew _ = wd at HS ⊢
      clear hwd
      refine held_take (i := 0) (d := 89) (v := ?_) rfl rfl (by kernel_rfl) (by kernel_rfl) (by kernel_rfl) (fun _ _ _ h => h) (by kernel_rfl) ?_ HS.out ?_
      rotate_left
      · intro wz hz
        obtain ⟨z1, z2, z3, -⟩ := hz
        go_simp
        first | done | with_reducible rfl
      refine held_take (i := 1) (d := 90) (v := ?_) rfl rfl (by kernel_rfl) (by kernel_rfl) (by kernel_rfl) (fun _ _ _ h => h) (by kernel_rfl) ?_ HS.out ?_
      rotate_left
      · intro wz hz
        obtain ⟨z1, z2, z3, -⟩ := hz
        go_simp
        first | done | with_reducible rfl
      refine held_take (i := 2) (d := 91) (v := ?_) rfl rfl (by kernel_rfl) (by kernel_rfl) (by kernel_rfl) (fun _ _ _ h => h) (by kernel_rfl) ?_ HS.out ?_
      rotate_left
      · intro wz hz
        obtain ⟨z1, z2, z3, -⟩ := hz
        go_simp
        first | done | with_reducible rfl
      refine held_take (i := 3) (d := 92) (v := ?_) rfl rfl (by kernel_rfl) (by kernel_rfl) (by kernel_rfl) (fun _ _ _ h => h) (by kernel_rfl) ?_ HS.out ?_
      rotate_left
      · intro wz hz
        obtain ⟨z1, z2, z3, -⟩ := hz
        go_simp
        first | done | with_reducible rfl
      refine held_take (i := 4) (d := 93) (v := ?_) rfl rfl (by kernel_rfl) (by kernel_rfl) (by kernel_rfl) (fun _ _ _ h => h) (by kernel_rfl) ?_ HS.out ?_
      rotate_left
      · intro wz hz
        obtain ⟨z1, z2, z3, -⟩ := hz
        go_simp
        first | done | with_reducible rfl
      refine held_take (i := 5) (d := 94) (v := ?_) rfl rfl (by kernel_rfl) (by kernel_rfl) (by kernel_rfl) (fun _ _ _ h => h) (by kernel_rfl) ?_ HS.out ?_
      rotate_left
      · intro wz hz
        obtain ⟨z1, z2, z3, -⟩ := hz
        go_simp
        first | done | with_reducible rfl
      refine held_take (i := 6) (d := 95) (v := ?_) rfl rfl (by kernel_rfl) (by kernel_rfl) (by kernel_rfl) (fun _ _ _ h => h) (by kernel_rfl) ?_ HS.out ?_
      rotate_left
      · intro wz hz
        obtain ⟨z1, z2, z3, -⟩ := hz
        go_simp
        first | done | with_reducible rfl
      refine held_take (i := 7) (d := 96) (v := ?_) rfl rfl (by kernel_rfl) (by kernel_rfl) (by kernel_rfl) (fun _ _ _ h => h) (by kernel_rfl) ?_ HS.out ?_
      rotate_left
      · intro wz hz
        obtain ⟨z1, z2, z3, -⟩ := hz
        go_simp
        first | done | with_reducible rfl
      refine held_take (i := 8) (d := 97) (v := ?_) rfl rfl (by kernel_rfl) (by kernel_rfl) (by kernel_rfl) (fun _ _ _ h => h) (by kernel_rfl) ?_ HS.out ?_
      rotate_left
      · intro wz hz
        obtain ⟨z1, z2, z3, -⟩ := hz
        go_simp
        first | done | with_reducible rfl
      refine held_take (i := 9) (d := 98) (v := ?_) rfl rfl (by kernel_rfl) (by kernel_rfl) (by kernel_rfl) (fun _ _ _ h => h) (by kernel_rfl) ?_ HS.out ?_
      rotate_left
      · intro wz hz
        obtain ⟨z1, z2, z3, -⟩ := hz
        go_simp
        first | done | with_reducible rfl
      refine held_take (i := 10) (d := 99) (v := ?_) rfl rfl (by kernel_rfl) (by kernel_rfl) (by kernel_rfl) (fun _ _ _ h => h) (by kernel_rfl) ?_ HS.out ?_
      rotate_left
      · intro wz hz
        obtain ⟨z1, z2, z3, -⟩ := hz
        go_simp
        first | done | with_reducible rfl
      refine held_take (i := 11) (d := 100) (v := ?_) rfl rfl (by kernel_rfl) (by kernel_rfl) (by kernel_rfl) (fun _ _ _ h => h) (by kernel_rfl) ?_ HS.out ?_
      rotate_left
      · intro wz hz
        obtain ⟨z1, z2, z3, -⟩ := hz
        go_simp
        first | done | with_reducible rfl
      refine held_take (i := 12) (d := 101) (v := ?_) rfl rfl (by kernel_rfl) (by kernel_rfl) (by kernel_rfl) (fun _ _ _ h => h) (by kernel_rfl) ?_ HS.out ?_
      rotate_left
      · intro wz hz
        obtain ⟨z1, z2, z3, -⟩ := hz
        go_simp
        first | done | with_reducible rfl
      refine held_take (i := 13) (d := 102) (v := ?_) rfl rfl (by kernel_rfl) (by kernel_rfl) (by kernel_rfl) (fun _ _ _ h => h) (by kernel_rfl) ?_ HS.out ?_
      rotate_left
      · intro wz hz
        obtain ⟨z1, z2, z3, -⟩ := hz
        go_simp
        first | done | with_reducible rfl
      refine wpAnyH_ready (rs := [14]) (by kernel_rfl) (by simp) ?_
      refine AllReadyH.cons rfl (fun K hK => ?_) AllReadyH.nil
      go_simp
      go_wp2_with fail
      refine (D1.out wd HS.out.2.2.2).mono ?_; rintro e w1a ⟨xa1, xc1, fa1, fc1, rfl, bx, ri, kq⟩; have BX1 := hide bx; have RI1 := hide ri; have HS' := hide (HS.out.fresh kq); clear HS bx ri kq; have HS := HS'; clear HS'
      refine hK.out _ _ HS.out (fun _ => ?_)
      clear hK K
      refine held_take (i := 15) (d := 88) (v := ?_) rfl rfl (by kernel_rfl) (by kernel_rfl) (by kernel_rfl) (fun _ _ _ h => h) (by kernel_rfl) ?_ HS.out ?_
      rotate_left
      · intro wz hz
        obtain ⟨z1, z2, z3, -⟩ := hz
        go_simp
        first | done | with_reducible rfl
      refine held_take (i := 16) (d := 104) (v := ?_) rfl rfl (by kernel_rfl) (by kernel_rfl) (by kernel_rfl) (fun _ _ _ h => h) (by kernel_rfl) ?_ HS.out ?_
      rotate_left
      · intro wz hz
        obtain ⟨z1, z2, z3, -⟩ := hz
        go_simp
        first | done | with_reducible rfl
      refine held_take (i := 17) (d := 105) (v := ?_) rfl rfl (by kernel_rfl) (by kernel_rfl) (by kernel_rfl) (fun _ _ _ h => h) (by kernel_rfl) ?_ HS.out ?_
      rotate_left
      · intro wz hz
        obtain ⟨z1, z2, z3, -⟩ := hz
        go_simp
        first | done | with_reducible rfl
      refine held_take (i := 18) (d := 106) (v := ?_) rfl rfl (by kernel_rfl) (by kernel_rfl) (by kernel_rfl) (fun _ _ _ h => h) (by kernel_rfl) ?_ HS.out ?_
      rotate_left
      · intro wz hz
        obtain ⟨z1, z2, z3, -⟩ := hz
        go_simp
        first | done | with_reducible rfl
      refine held_take (i := 19) (d := 21) (v := ?_) rfl rfl (by kernel_rfl) (by kernel_rfl) (by kernel_rfl) (fun _ _ _ h => h) (by kernel_rfl) ?_ HS.out ?_
      rotate_left
      · intro wz hz
        obtain ⟨z1, z2, z3, -⟩ := hz
        go_simp
        first | done | with_reducible rfl
      refine held_take (i := 20) (d := 22) (v := ?_) rfl rfl (by kernel_rfl) (by kernel_rfl) (by kernel_rfl) (fun _ _ _ h => h) (by kernel_rfl) ?_ HS.out ?_
      rotate_left
      · intro wz hz
        obtain ⟨z1, z2, z3, -⟩ := hz
        go_simp
        first | done | with_reducible rfl
      refine held_take (i := 21) (d := 23) (v := ?_) rfl rfl (by kernel_rfl) (by kernel_rfl) (by kernel_rfl) (fun _ _ _ h => h) (by kernel_rfl) ?_ HS.out ?_
      rotate_left
      · intro wz hz
        obtain ⟨z1, z2, z3, -⟩ := hz
        go_simp
        first | done | with_reducible rfl
      refine wpAnyH_done (by kernel_rfl) ?_ _
      try simp only [Act.put, List.setIfInBounds_toArray]
      have HS' := hide (HS.out.fresh (Fresh.refl _).drew)
      clear HS
      have HS := HS'
      clear HS'
      go_wp2_with fail
      refine wp_region_held (S := Held3 wc n1 n2 n3 k F B G) (by kernel_rfl) ?_
      change wpAnyH _ _ _ _ _ _ _ _ (World.drew _)
      generalize hwd : World.drew _ = wd at HS ⊢
      have FD := hide (show Fresh _ wd from hwd ▸ (Fresh.refl _).drew)
      have BX1' := hide (BX1.out.fresh FD.out)
      clear BX1
      have BX1 := BX1'
      clear BX1'
      have RI1' := hide (RI1.out.fresh FD.out)
      clear RI1
      have RI1 := RI1'
      clear RI1'
      clear FD
      clear hwd
      refine held_take (i := 0) (d := 108) (v := ?_) rfl rfl (by kernel_rfl) (by kernel_rfl) (by kernel_rfl) (fun _ _ _ h => h) (by kernel_rfl) ?_ HS.out ?_
      rotate_left
      · intro wz hz
        obtain ⟨z1, z2, z3, -⟩ := hz
        go_simp
        first | done | with_reducible rfl
      refine held_take (i := 1) (d := 109) (v := ?_) rfl rfl (by kernel_rfl) (by kernel_rfl) (by kernel_rfl) (fun _ _ _ h => h) (by kernel_rfl) ?_ HS.out ?_
      rotate_left
      · intro wz hz
        obtain ⟨z1, z2, z3, -⟩ := hz
        go_simp
        first | done | with_reducible rfl
      refine held_take (i := 2) (d := 110) (v := ?_) rfl rfl (by kernel_rfl) (by kernel_rfl) (by kernel_rfl) (fun _ _ _ h => h) (by kernel_rfl) ?_ HS.out ?_
      rotate_left
      · intro wz hz
        obtain ⟨z1, z2, z3, -⟩ := hz
        go_simp
        first | done | with_reducible rfl
      refine held_take (i := 3) (d := 111) (v := ?_) rfl rfl (by kernel_rfl) (by kernel_rfl) (by kernel_rfl) (fun _ _ _ h => h) (by kernel_rfl) ?_ HS.out ?_
      rotate_left
      · intro wz hz
        obtain ⟨z1, z2, z3, -⟩ := hz
        go_simp
        first | done | with_reducible rfl
      refine held_take (i := 4) (d := 112) (v := ?_) rfl rfl (by kernel_rfl) (by kernel_rfl) (by kernel_rfl) (fun _ _ _ h => h) (by kernel_rfl) ?_ HS.out ?_
      rotate_left
      · intro wz hz
        obtain ⟨z1, z2, z3, -⟩ := hz
        go_simp
        first | done | with_reducible rfl
      refine held_take (i := 5) (d := 113) (v := ?_) rfl rfl (by kernel_rfl) (by kernel_rfl) (by kernel_rfl) (fun _ _ _ h => h) (by kernel_rfl) ?_ HS.out ?_
      rotate_left
      · intro wz hz
        obtain ⟨z1, z2, z3, -⟩ := hz
        go_simp
        first | done | with_reducible rfl
      refine held_take (i := 6) (d := 114) (v := ?_) rfl rfl (by kernel_rfl) (by kernel_rfl) (by kernel_rfl) (fun _ _ _ h => h) (by kernel_rfl) ?_ HS.out ?_
      rotate_left
      · intro wz hz
        obtain ⟨z1, z2, z3, -⟩ := hz
        go_simp
        first | done | with_reducible rfl
      refine held_take (i := 7) (d := 115) (v := ?_) rfl rfl (by kernel_rfl) (by kernel_rfl) (by kernel_rfl) (fun _ _ _ h => h) (by kernel_rfl) ?_ HS.out ?_
      rotate_left
      · intro wz hz
        obtain ⟨z1, z2, z3, -⟩ := hz
        go_simp
        first | done | with_reducible rfl
      refine held_take (i := 8) (d := 116) (v := ?_) rfl rfl (by kernel_rfl) (by kernel_rfl) (by kernel_rfl) (fun _ _ _ h => h) (by kernel_rfl) ?_ HS.out ?_
      rotate_left
      · intro wz hz
        obtain ⟨z1, z2, z3, -⟩ := hz
        go_simp
        first | done | with_reducible rfl
      refine held_take (i := 9) (d := 117) (v := ?_) rfl rfl (by kernel_rfl) (by kernel_rfl) (by kernel_rfl) (fun _ _ _ h => h) (by kernel_rfl) ?_ HS.out ?_
      rotate_left
      · intro wz hz
        obtain ⟨z1, z2, z3, -⟩ := hz
        go_simp
        first | done | with_reducible rfl
      refine held_take (i := 10) (d := 118) (v := ?_) rfl rfl (by kernel_rfl) (by kernel_rfl) (by kernel_rfl) (fun _ _ _ h => h) (by kernel_rfl) ?_ HS.out ?_
      rotate_left
      · intro wz hz
        obtain ⟨z1, z2, z3, -⟩ := hz
        go_simp
        first | done | with_reducible rfl
      refine held_take (i := 11) (d := 119) (v := ?_) rfl rfl (by kernel_rfl) (by kernel_rfl) (by kernel_rfl) (fun _ _ _ h => h) (by kernel_rfl) ?_ HS.out ?_
      rotate_left
      · intro wz hz
        obtain ⟨z1, z2, z3, -⟩ := hz
        go_simp
        first | done | with_reducible rfl
      refine held_take (i := 12) (d := 120) (v := ?_) rfl rfl (by kernel_rfl) (by kernel_rfl) (by kernel_rfl) (fun _ _ _ h => h) (by kernel_rfl) ?_ HS.out ?_
      rotate_left
      · intro wz hz
        obtain ⟨z1, z2, z3, -⟩ := hz
        go_simp
        first | done | with_reducible rfl
      refine held_take (i := 13) (d := 121) (v := ?_) rfl rfl (by kernel_rfl) (by kernel_rfl) (by kernel_rfl) (fun _ _ _ h => h) (by kernel_rfl) ?_ HS.out ?_
      rotate_left
      · intro wz hz
        obtain ⟨z1, z2, z3, -⟩ := hz
        go_simp
        first | done | with_reducible rfl
      refine wpAnyH_ready (rs := [14]) (by kernel_rfl) (by simp) ?_
      refine AllReadyH.cons rfl (fun K hK => ?_) AllReadyH.nil
      go_simp
      go_wp2_with fail
      refine (D2.out wd HS.out.2.2.2).mono ?_; rintro e w2a ⟨xa2, xc2, fa2, fc2, rfl, bx, ri, kq⟩; have BX2 := hide bx; have RI2 := hide ri; have BX1' := hide (BX1.out.fresh kq); clear BX1; have BX1 := BX1'; clear BX1'; have RI1' := hide (RI1.out.fresh kq); clear RI1; have RI1 := RI1'; clear RI1'; have HS' := hide (HS.out.fresh kq); clear HS bx ri kq; have HS := HS'; clear HS'
      refine hK.out _ _ HS.out (fun _ => ?_)
      clear hK K
      refine held_take (i := 15) (d := 107) (v := ?_) rfl rfl (by kernel_rfl) (by kernel_rfl) (by kernel_rfl) (fun _ _ _ h => h) (by kernel_rfl) ?_ HS.out ?_
      rotate_left
      · intro wz hz
        obtain ⟨z1, z2, z3, -⟩ := hz
        go_simp
        first | done | with_reducible rfl
      refine held_take (i := 16) (d := 123) (v := ?_) rfl rfl (by kernel_rfl) (by kernel_rfl) (by kernel_rfl) (fun _ _ _ h => h) (by kernel_rfl) ?_ HS.out ?_
      rotate_left
      · intro wz hz
        obtain ⟨z1, z2, z3, -⟩ := hz
        go_simp
        first | done | with_reducible rfl
      refine held_take (i := 17) (d := 124) (v := ?_) rfl rfl (by kernel_rfl) (by kernel_rfl) (by kernel_rfl) (fun _ _ _ h => h) (by kernel_rfl) ?_ HS.out ?_
      rotate_left
      · intro wz hz
        obtain ⟨z1, z2, z3, -⟩ := hz
        go_simp
        first | done | with_reducible rfl
      refine held_take (i := 18) (d := 125) (v := ?_) rfl rfl (by kernel_rfl) (by kernel_rfl) (by kernel_rfl) (fun _ _ _ h => h) (by kernel_rfl) ?_ HS.out ?_
      rotate_left
      · intro wz hz
        obtain ⟨z1, z2, z3, -⟩ := hz
        go_simp
        first | done | with_reducible rfl
      refine held_take (i := 19) (d := 24) (v := ?_) rfl rfl (by kernel_rfl) (by kernel_rfl) (by kernel_rfl) (fun _ _ _ h => h) (by kernel_rfl) ?_ HS.out ?_
      rotate_left
      · intro wz hz
        obtain ⟨z1, z2, z3, -⟩ := hz
        go_simp
        first | done | with_reducible rfl
      refine held_take (i := 20) (d := 25) (v := ?_) rfl rfl (by kernel_rfl) (by kernel_rfl) (by kernel_rfl) (fun _ _ _ h => h) (by kernel_rfl) ?_ HS.out ?_
      rotate_left
      · intro wz hz
        obtain ⟨z1, z2, z3, -⟩ := hz
        go_simp
        first | done | with_reducible rfl
      refine held_take (i := 21) (d := 26) (v := ?_) rfl rfl (by kernel_rfl) (by kernel_rfl) (by kernel_rfl) (fun _ _ _ h => h) (by kernel_rfl) ?_ HS.out ?_
      rotate_left
      · intro wz hz
        obtain ⟨z1, z2, z3, -⟩ := hz
        go_simp
        first | done | with_reducible rfl
      refine wpAnyH_done (by kernel_rfl) ?_ _
      try simp only [Act.put, List.setIfInBounds_toArray]
      have HS' := hide (HS.out.fresh (Fresh.refl _).drew)
      clear HS
      have HS := HS'
      clear HS'
      go_wp2_with fail
      refine wp_region_held (S := Held3 wc n1 n2 n3 k F B G) (by kernel_rfl) ?_
      change wpAnyH _ _ _ _ _ _ _ _ (World.drew _)
      generalize hwd : World.drew _ = wd at HS ⊢
      have FD := hide (show Fresh _ wd from hwd ▸ (Fresh.refl _).drew)
      have BX1' := hide (BX1.out.fresh FD.out)
      clear BX1
      have BX1 := BX1'
      clear BX1'
      have RI1' := hide (RI1.out.fresh FD.out)
      clear RI1
      have RI1 := RI1'
      clear RI1'
      have BX2' := hide (BX2.out.fresh FD.out)
      clear BX2
      have BX2 := BX2'
      clear BX2'
      have RI2' := hide (RI2.out.fresh FD.out)
      clear RI2
      have RI2 := RI2'
      clear RI2'
      clear FD
      clear hwd
      refine held_take (i := 0) (d := 127) (v := ?_) rfl rfl (by kernel_rfl) (by kernel_rfl) (by kernel_rfl) (fun _ _ _ h => h) (by kernel_rfl) ?_ HS.out ?_
      rotate_left
      · intro wz hz
        obtain ⟨z1, z2, z3, -⟩ := hz
        go_simp
        first | done | with_reducible rfl
      refine held_take (i := 1) (d := 128) (v := ?_) rfl rfl (by kernel_rfl) (by kernel_rfl) (by kernel_rfl) (fun _ _ _ h => h) (by kernel_rfl) ?_ HS.out ?_
      rotate_left
      · intro wz hz
        obtain ⟨z1, z2, z3, -⟩ := hz
        go_simp
        first | done | with_reducible rfl
      refine held_take (i := 2) (d := 129) (v := ?_) rfl rfl (by kernel_rfl) (by kernel_rfl) (by kernel_rfl) (fun _ _ _ h => h) (by kernel_rfl) ?_ HS.out ?_
      rotate_left
      · intro wz hz
        obtain ⟨z1, z2, z3, -⟩ := hz
        go_simp
        first | done | with_reducible rfl
      refine held_take (i := 3) (d := 130) (v := ?_) rfl rfl (by kernel_rfl) (by kernel_rfl) (by kernel_rfl) (fun _ _ _ h => h) (by kernel_rfl) ?_ HS.out ?_
      rotate_left
      · intro wz hz
        obtain ⟨z1, z2, z3, -⟩ := hz
        go_simp
        first | done | with_reducible rfl
      refine held_take (i := 4) (d := 131) (v := ?_) rfl rfl (by kernel_rfl) (by kernel_rfl) (by kernel_rfl) (fun _ _ _ h => h) (by kernel_rfl) ?_ HS.out ?_
      rotate_left
      · intro wz hz
        obtain ⟨z1, z2, z3, -⟩ := hz
        go_simp
        first | done | with_reducible rfl
      refine held_take (i := 5) (d := 132) (v := ?_) rfl rfl (by kernel_rfl) (by kernel_rfl) (by kernel_rfl) (fun _ _ _ h => h) (by kernel_rfl) ?_ HS.out ?_
      rotate_left
      · intro wz hz
        obtain ⟨z1, z2, z3, -⟩ := hz
        go_simp
        first | done | with_reducible rfl
      refine held_take (i := 6) (d := 133) (v := ?_) rfl rfl (by kernel_rfl) (by kernel_rfl) (by kernel_rfl) (fun _ _ _ h => h) (by kernel_rfl) ?_ HS.out ?_
      rotate_left
      · intro wz hz
        obtain ⟨z1, z2, z3, -⟩ := hz
        go_simp
        first | done | with_reducible rfl
      refine held_take (i := 7) (d := 134) (v := ?_) rfl rfl (by kernel_rfl) (by kernel_rfl) (by kernel_rfl) (fun _ _ _ h => h) (by kernel_rfl) ?_ HS.out ?_
      rotate_left
      · intro wz hz
        obtain ⟨z1, z2, z3, -⟩ := hz
        go_simp
        first | done | with_reducible rfl
      refine held_take (i := 8) (d := 135) (v := ?_) rfl rfl (by kernel_rfl) (by kernel_rfl) (by kernel_rfl) (fun _ _ _ h => h) (by kernel_rfl) ?_ HS.out ?_
      rotate_left
      · intro wz hz
        obtain ⟨z1, z2, z3, -⟩ := hz
        go_simp
        first | done | with_reducible rfl
      refine held_take (i := 9) (d := 136) (v := ?_) rfl rfl (by kernel_rfl) (by kernel_rfl) (by kernel_rfl) (fun _ _ _ h => h) (by kernel_rfl) ?_ HS.out ?_
      rotate_left
      · intro wz hz
        obtain ⟨z1, z2, z3, -⟩ := hz
        go_simp
        first | done | with_reducible rfl
      refine held_take (i := 10) (d := 137) (v := ?_) rfl rfl (by kernel_rfl) (by kernel_rfl) (by kernel_rfl) (fun _ _ _ h => h) (by kernel_rfl) ?_ HS.out ?_
      rotate_left
      · intro wz hz
        obtain ⟨z1, z2, z3, -⟩ := hz
        go_simp
        first | done | with_reducible rfl
      refine held_take (i := 11) (d := 138) (v := ?_) rfl rfl (by kernel_rfl) (by kernel_rfl) (by kernel_rfl) (fun _ _ _ h => h) (by kernel_rfl) ?_ HS.out ?_
      rotate_left
      · intro wz hz
        obtain ⟨z1, z2, z3, -⟩ := hz
        go_simp
        first | done | with_reducible rfl
      refine held_take (i := 12) (d := 139) (v := ?_) rfl rfl (by kernel_rfl) (by kernel_rfl) (by kernel_rfl) (fun _ _ _ h => h) (by kernel_rfl) ?_ HS.out ?_
      rotate_left
      · intro wz hz
        obtain ⟨z1, z2, z3, -⟩ := hz
        go_simp
        first | done | with_reducible rfl
      refine held_take (i := 13) (d := 140) (v := ?_) rfl rfl (by kernel_rfl) (by kernel_rfl) (by kernel_rfl) (fun _ _ _ h => h) (by kernel_rfl) ?_ HS.out ?_
      rotate_left
      · intro wz hz
        obtain ⟨z1, z2, z3, -⟩ := hz
        go_simp
        first | done | with_reducible rfl
      refine wpAnyH_ready (rs := [14]) (by kernel_rfl) (by simp) ?_
      refine AllReadyH.cons rfl (fun K hK => ?_) AllReadyH.nil
      go_simp
      go_wp2_with fail
      refine (D3.out wd HS.out.2.2.2).mono ?_; rintro e w3a ⟨xa3, xc3, fa3, fc3, rfl, bx, ri, kq⟩; have BX3 := hide bx; have RI3 := hide ri; have BX1' := hide (BX1.out.fresh kq); clear BX1; have BX1 := BX1'; clear BX1'; have RI1' := hide (RI1.out.fresh kq); clear RI1; have RI1 := RI1'; clear RI1'; have BX2' := hide (BX2.out.fresh kq); clear BX2; have BX2 := BX2'; clear BX2'; have RI2' := hide (RI2.out.fresh kq); clear RI2; have RI2 := RI2'; clear RI2'; have HS' := hide (HS.out.fresh kq); clear HS bx ri kq; have HS := HS'; clear HS'
      refine hK.out _ _ HS.out (fun _ => ?_)
      clear hK K
      refine held_take (i := 15) (d := 126) (v := ?_) rfl rfl (by kernel_rfl) (by kernel_rfl) (by kernel_rfl) (fun _ _ _ h => h) (by kernel_rfl) ?_ HS.out ?_
      rotate_left
      · intro wz hz
        obtain ⟨z1, z2, z3, -⟩ := hz
        go_simp
        first | done | with_reducible rfl
      refine held_take (i := 16) (d := 142) (v := ?_) rfl rfl (by kernel_rfl) (by kernel_rfl) (by kernel_rfl) (fun _ _ _ h => h) (by kernel_rfl) ?_ HS.out ?_
      rotate_left
      · intro wz hz
        obtain ⟨z1, z2, z3, -⟩ := hz
        go_simp
        first | done | with_reducible rfl
      refine held_take (i := 17) (d := 143) (v := ?_) rfl rfl (by kernel_rfl) (by kernel_rfl) (by kernel_rfl) (fun _ _ _ h => h) (by kernel_rfl) ?_ HS.out ?_
      rotate_left
      · intro wz hz
        obtain ⟨z1, z2, z3, -⟩ := hz
        go_simp
        first | done | with_reducible rfl
      refine held_take (i := 18) (d := 144) (v := ?_) rfl rfl (by kernel_rfl) (by kernel_rfl) (by kernel_rfl) (fun _ _ _ h => h) (by kernel_rfl) ?_ HS.out ?_
      rotate_left
      · intro wz hz
        obtain ⟨z1, z2, z3, -⟩ := hz
        go_simp
        first | done | with_reducible rfl
      refine held_take (i := 19) (d := 27) (v := ?_) rfl rfl (by kernel_rfl) (by kernel_rfl) (by kernel_rfl) (fun _ _ _ h => h) (by kernel_rfl) ?_ HS.out ?_
      rotate_left
      · intro wz hz
        obtain ⟨z1, z2, z3, -⟩ := hz
        go_simp
        first | done | with_reducible rfl
      refine held_take (i := 20) (d := 28) (v := ?_) rfl rfl (by kernel_rfl) (by kernel_rfl) (by kernel_rfl) (fun _ _ _ h => h) (by kernel_rfl) ?_ HS.out ?_
      rotate_left
      · intro wz hz
        obtain ⟨z1, z2, z3, -⟩ := hz
        go_simp
        first | done | with_reducible rfl
      refine held_take (i := 21) (d := 29) (v := ?_) rfl rfl (by kernel_rfl) (by kernel_rfl) (by kernel_rfl) (fun _ _ _ h => h) (by kernel_rfl) ?_ HS.out ?_
      rotate_left
      · intro wz hz
        obtain ⟨z1, z2, z3, -⟩ := hz
        go_simp
        first | done | with_reducible rfl
      refine wpAnyH_done (by kernel_rfl) ?_ _
      try simp only [Act.put, List.setIfInBounds_toArray]
      have HS' := hide (HS.out.fresh (Fresh.refl _).drew)
      clear HS
      have HS := HS'
      clear HS'
      go_wp2_with fail
      refine wp_region_held (S := Held3 wc n1 n2 n3 k F B G) (by kernel_rfl) ?_
      change wpAnyH _ _ _ _ _ _ _ _ (World.drew _)
      generalize hwd : World.drew _ = wd at HS ⊢
      have FD := hide (show Fresh _ wd from hwd ▸ (Fresh.refl _).drew)
      have BX1' := hide (BX1.out.fresh FD.out)
      clear BX1
      have BX1 := BX1'
      clear BX1'
      have RI1' := hide (RI1.out.fresh FD.out)
      clear RI1
      have RI1 := RI1'
      clear RI1'
      have BX2' := hide (BX2.out.fresh FD.out)
      clear BX2
      have BX2 := BX2'
      clear BX2'
      have RI2' := hide (RI2.out.fresh FD.out)
      clear RI2
      have RI2 := RI2'
      clear RI2'
      have BX3' := hide (BX3.out.fresh FD.out)
      clear BX3
      have BX3 := BX3'
      clear BX3'
      have RI3' := hide (RI3.out.fresh FD.out)
      clear RI3
      have RI3 := RI3'
      clear RI3'
      clear FD
      clear hwd
      refine held_take (i := 0) (d := 146) (v := ?_) rfl rfl (by kernel_rfl) (by kernel_rfl) (by kernel_rfl) (fun _ _ _ h => h) (by kernel_rfl) ?_ HS.out ?_
      rotate_left
      · intro wz hz
        obtain ⟨z1, z2, z3, -⟩ := hz
        go_simp
        first | done | with_reducible rfl
      refine held_take (i := 1) (d := 147) (v := ?_) rfl rfl (by kernel_rfl) (by kernel_rfl) (by kernel_rfl) (fun _ _ _ h => h) (by kernel_rfl) ?_ HS.out ?_
      rotate_left
      · intro wz hz
        obtain ⟨z1, z2, z3, -⟩ := hz
        go_simp
        first | done | with_reducible rfl
      refine held_take (i := 2) (d := 148) (v := ?_) rfl rfl (by kernel_rfl) (by kernel_rfl) (by kernel_rfl) (fun _ _ _ h => h) (by kernel_rfl) ?_ HS.out ?_
      rotate_left
      · intro wz hz
        obtain ⟨z1, z2, z3, -⟩ := hz
        go_simp
        first | done | with_reducible rfl
      refine held_take (i := 3) (d := 149) (v := ?_) rfl rfl (by kernel_rfl) (by kernel_rfl) (by kernel_rfl) (fun _ _ _ h => h) (by kernel_rfl) ?_ HS.out ?_
      rotate_left
      · intro wz hz
        obtain ⟨z1, z2, z3, -⟩ := hz
        go_simp
        first | done | with_reducible rfl
      refine held_take (i := 4) (d := 150) (v := ?_) rfl rfl (by kernel_rfl) (by kernel_rfl) (by kernel_rfl) (fun _ _ _ h => h) (by kernel_rfl) ?_ HS.out ?_
      rotate_left
      · intro wz hz
        obtain ⟨z1, z2, z3, -⟩ := hz
        go_simp
        first | done | with_reducible rfl
      refine held_take (i := 5) (d := 151) (v := ?_) rfl rfl (by kernel_rfl) (by kernel_rfl) (by kernel_rfl) (fun _ _ _ h => h) (by kernel_rfl) ?_ HS.out ?_
      rotate_left
      · intro wz hz
        obtain ⟨z1, z2, z3, -⟩ := hz
        go_simp
        first | done | with_reducible rfl
      refine held_take (i := 6) (d := 152) (v := ?_) rfl rfl (by kernel_rfl) (by kernel_rfl) (by kernel_rfl) (fun _ _ _ h => h) (by kernel_rfl) ?_ HS.out ?_
      rotate_left
      · intro wz hz
        obtain ⟨z1, z2, z3, -⟩ := hz
        go_simp
        first | done | with_reducible rfl
      refine held_take (i := 7) (d := 153) (v := ?_) rfl rfl (by kernel_rfl) (by kernel_rfl) (by kernel_rfl) (fun _ _ _ h => h) (by kernel_rfl) ?_ HS.out ?_
      rotate_left
      · intro wz hz
        obtain ⟨z1, z2, z3, -⟩ := hz
        go_simp
        first | done | with_reducible rfl
      refine held_take (i := 8) (d := 154) (v := ?_) rfl rfl (by kernel_rfl) (by kernel_rfl) (by kernel_rfl) (fun _ _ _ h => h) (by kernel_rfl) ?_ HS.out ?_
      rotate_left
      · intro wz hz
        obtain ⟨z1, z2, z3, -⟩ := hz
        go_simp
        first | done | with_reducible rfl
      refine held_take (i := 9) (d := 155) (v := ?_) rfl rfl (by kernel_rfl) (by kernel_rfl) (by kernel_rfl) (fun _ _ _ h => h) (by kernel_rfl) ?_ HS.out ?_
      rotate_left
      · intro wz hz
        obtain ⟨z1, z2, z3, -⟩ := hz
        go_simp
        first | done | with_reducible rfl
      refine held_take (i := 10) (d := 156) (v := ?_) rfl rfl (by kernel_rfl) (by kernel_rfl) (by kernel_rfl) (fun _ _ _ h => h) (by kernel_rfl) ?_ HS.out ?_
      rotate_left
      · intro wz hz
        obtain ⟨z1, z2, z3, -⟩ := hz
        go_simp
        first | done | with_reducible rfl
      refine held_take (i := 11) (d := 157) (v := ?_) rfl rfl (by kernel_rfl) (by kernel_rfl) (by kernel_rfl) (fun _ _ _ h => h) (by kernel_rfl) ?_ HS.out ?_
      rotate_left
      · intro wz hz
        obtain ⟨z1, z2, z3, -⟩ := hz
        go_simp
        first | done | with_reducible rfl
      refine held_take (i := 12) (d := 158) (v := ?_) rfl rfl (by kernel_rfl) (by kernel_rfl) (by kernel_rfl) (fun _ _ _ h => h) (by kernel_rfl) ?_ HS.out ?_
      rotate_left
      · intro wz hz
        obtain ⟨z1, z2, z3, -⟩ := hz
        go_simp
        first | done | with_reducible rfl
      refine held_take (i := 13) (d := 159) (v := ?_) rfl rfl (by kernel_rfl) (by kernel_rfl) (by kernel_rfl) (fun _ _ _ h => h) (by kernel_rfl) ?_ HS.out ?_
      rotate_left
      · intro wz hz
        obtain ⟨z1, z2, z3, -⟩ := hz
        go_simp
        first | done | with_reducible rfl
      refine wpAnyH_ready (rs := [14]) (by kernel_rfl) (by simp) ?_
      refine AllReadyH.cons rfl (fun K hK => ?_) AllReadyH.nil
      go_simp
      go_wp2_with fail
      refine (D4.out wd HS.out.2.2.2).mono ?_; rintro e w4a ⟨xa4, xc4, fa4, fc4, rfl, bx, ri, kq⟩; have BX4 := hide bx; have RI4 := hide ri; have BX1' := hide (BX1.out.fresh kq); clear BX1; have BX1 := BX1'; clear BX1'; have RI1' := hide (RI1.out.fresh kq); clear RI1; have RI1 := RI1'; clear RI1'; have BX2' := hide (BX2.out.fresh kq); clear BX2; have BX2 := BX2'; clear BX2'; have RI2' := hide (RI2.out.fresh kq); clear RI2; have RI2 := RI2'; clear RI2'; have BX3' := hide (BX3.out.fresh kq); clear BX3; have BX3 := BX3'; clear BX3'; have RI3' := hide (RI3.out.fresh kq); clear RI3; have RI3 := RI3'; clear RI3'; have HS' := hide (HS.out.fresh kq); clear HS bx ri kq; have HS := HS'; clear HS'
      refine hK.out _ _ HS.out (fun _ => ?_)
      clear hK K
      refine held_take (i := 15) (d := 145) (v := ?_) rfl rfl (by kernel_rfl) (by kernel_rfl) (by kernel_rfl) (fun _ _ _ h => h) (by kernel_rfl) ?_ HS.out ?_
      rotate_left
      · intro wz hz
        obtain ⟨z1, z2, z3, -⟩ := hz
        go_simp
        first | done | with_reducible rfl
      refine held_take (i := 16) (d := 161) (v := ?_) rfl rfl (by kernel_rfl) (by kernel_rfl) (by kernel_rfl) (fun _ _ _ h => h) (by kernel_rfl) ?_ HS.out ?_
      rotate_left
      · intro wz hz
        obtain ⟨z1, z2, z3, -⟩ := hz
        go_simp
        first | done | with_reducible rfl
      refine held_take (i := 17) (d := 162) (v := ?_) rfl rfl (by kernel_rfl) (by kernel_rfl) (by kernel_rfl) (fun _ _ _ h => h) (by kernel_rfl) ?_ HS.out ?_
      rotate_left
      · intro wz hz
        obtain ⟨z1, z2, z3, -⟩ := hz
        go_simp
        first | done | with_reducible rfl
      refine held_take (i := 18) (d := 163) (v := ?_) rfl rfl (by kernel_rfl) (by kernel_rfl) (by kernel_rfl) (fun _ _ _ h => h) (by kernel_rfl) ?_ HS.out ?_
      rotate_left
      · intro wz hz
        obtain ⟨z1, z2, z3, -⟩ := hz
        go_simp
        first | done | with_reducible rfl
      refine held_take (i := 19) (d := 30) (v := ?_) rfl rfl (by kernel_rfl) (by kernel_rfl) (by kernel_rfl) (fun _ _ _ h => h) (by kernel_rfl) ?_ HS.out ?_
      rotate_left
      · intro wz hz
        obtain ⟨z1, z2, z3, -⟩ := hz
        go_simp
        first | done | with_reducible rfl
      refine held_take (i := 20) (d := 31) (v := ?_) rfl rfl (by kernel_rfl) (by kernel_rfl) (by kernel_rfl) (fun _ _ _ h => h) (by kernel_rfl) ?_ HS.out ?_
      rotate_left
      · intro wz hz
        obtain ⟨z1, z2, z3, -⟩ := hz
        go_simp
        first | done | with_reducible rfl
      refine held_take (i := 21) (d := 32) (v := ?_) rfl rfl (by kernel_rfl) (by kernel_rfl) (by kernel_rfl) (fun _ _ _ h => h) (by kernel_rfl) ?_ HS.out ?_
      rotate_left
      · intro wz hz
        obtain ⟨z1, z2, z3, -⟩ := hz
        go_simp
        first | done | with_reducible rfl
      refine wpAnyH_done (by kernel_rfl) ?_ _
      try simp only [Act.put, List.setIfInBounds_toArray]
      have KW := hide HS.out.2.2.2
      clear HS D1 D2 D3 D4
      have eb1 : (p1 == p1) = true := by simp
      have eb2 : (p2 == p2) = true := by simp
      go_wp2_with fail
      refine (sameb_true _ _ X1 _ BX1.out BX2.out LX1.out).mono ?_
      rintro e v1 ⟨rfl, j1⟩
      have J1 := hide j1
      clear j1
      go_wp2_with fail
      refine (samei_true _ _ nr1 _ _ _ _ R1 _ (RI1.out.fresh J1.out) (RI2.out.fresh J1.out) N2.out (by have := N2.out; have := LR1.out; omega)).mono ?_
      rintro e v2 ⟨rfl, j2⟩
      have J2 := hide (J1.out.trans j2)
      clear j2
      go_wp2_with fail
      refine (sameb_true _ _ X2 _ (BX3.out.fresh J2.out) (BX4.out.fresh J2.out) LX2.out).mono ?_
      rintro e v3 ⟨rfl, j3⟩
      have J3 := hide (J2.out.trans j3)
      clear j3
      go_wp2_with fail
      refine (samei_true _ _ nr2 _ _ _ _ R2 _ (RI3.out.fresh J3.out) (RI4.out.fresh J3.out) N4.out (by have := N4.out; have := LR2.out; omega)).mono ?_
      rintro e v4 ⟨rfl, j4⟩
      have J4 := hide (KW.out.trans (J3.out.trans j4))
      clear j4
      go_wp2
      go_roundw
      case rel => exact ⟨k + 1, by omega, by go_num, J4.out⟩
      case measure => simp [intOf]; omega
    · obtain rfl : k = 4 := by omega
      clear hf
      have OI4 := hide (OI.out.fresh FW.out)
      have MI4 := hide (MI.out.fresh FW.out)
      have K4 := hide (K3.out.trans FW.out)
      obtain ⟨X, hX⟩ : ∃ X, trL on met = X := ⟨_, rfl⟩
      obtain ⟨n, hn⟩ : ∃ n, cntL on - cntL X = n := ⟨_, rfl⟩
      have XL := hide (show X.length ≤ 1048576 by rw [← hX, trL_length]; have := OLN.out; omega)
      have E1 := hide (trim_to _ _ on met len n X wr OI4.out MI4.out OL.out (by have := NL.out; omega) hX hn)
      have E2 := hide (fun w' (k' : Fresh wr w') => rtrim_any _ _ on met len n X w' (OI4.out.fresh k') (MI4.out.fresh k') OL.out ML.out (by have := NL.out; omega) hX hn)
      have nn : ((n : Int) == (n : Int)) = true := by rw [beq_iff_eq]
      clear hX hn
      rw [show (((4 : Nat)) : Int) = 4 from rfl]
      go_wp2_with fail
      refine E1.out.mono ?_
      rintro e w5 ⟨g5, rfl, o5, k5⟩
      have O5 := hide o5
      have K5 := hide k5
      clear o5 k5 E1
      go_wp2_with fail
      refine (E2.out _ K5.out).mono ?_
      rintro e w6 ⟨g6, rfl, o6, k6⟩
      have SB := hide (sameb_true _ _ X w6 (O5.out.fresh k6).at o6.at XL.out)
      have K6 := hide (K4.out.trans (K5.out.trans k6))
      clear o6 k6 E2
      go_wp2_with fail
      refine SB.out.mono ?_
      rintro e w7 ⟨rfl, k7⟩
      have K7 := hide (K6.out.trans k7)
      clear k7
      go_wp2
      go_ret
      exact ⟨rfl, K7.out⟩

set_option linter.unusedVariables false
set_option maxRecDepth 100000 in
theorem commitAll_lifted (os : Os) (started : os.Started) (H : Type) (enc : TypeId × Value → H) :
    ReturnsInHanded {} Tryd.checked os 3 .any (fun w args => (Rows.commitAllSpec.pre enc Tryd.prog Tryd.f3 [] false w args ∧ laidMetH Tryd.prog laid1 w) ∧ sizedMet enc Tryd.prog Tryd.f3 (OpenSpec.ofChange Rows.commitAllSpec) false w args)
      (Rows.commitAllSpec.post enc Tryd.prog Tryd.f3 false true false false) := by
  refine returnsInHanded_of_change_and (C := Tryd.checked) (X := fun w _ => laidMetH Tryd.prog laid1 w) (fun _ _ _ hh h => h.of_heap hh) own started (by kernel_rfl) Tryd.func3
    (ChangeSpec.witness_shaped (enc := enc) (C := Tryd.checked) (os := os) (X := fun w _ => laidMetH Tryd.prog laid1 w) false (World.doorLaid Tryd.prog 400 os) #[.slice none 0 0, .int .i64 0, .int .i64 0, .int .i64 0, .int .u8 0, .int .u8 0, .slice none 0 0] 8 rfl (World.shaped_of_RefB (by kernel_rfl) (by kernel_rfl)) (by kernel_rfl) (by kernel_rfl) (by kernel_rfl) (door_met os _)) ?_
  intro W base args ds gs before hval0 hW _ _ hL _
  have hval : ∀ (j : Nat) t v, Tryd.f3.params[j]? = some t → args[j]? = some v → Value.okWide Tryd.prog W .any base t v := hval0
  have hW' := hW
  obtain ⟨p, q, hA0, hV, rfl, hfz, hnd⟩ := hW
  have hA : DataW.TrodAll enc Tryd.prog W 0 (fun _ => true) true Tryd.f3.params.toList args.toList ds p := hA0
  rw [Tryd.params3] at hA hval
  obtain ⟨v0, vs0, d0, ds0, p0, q0, hargs, rfl, rfl, h0, r0⟩ := trodAll_cons hA
  obtain ⟨v1, vs1, d1, ds1, p1, q1, rfl, rfl, rfl, h1, r1⟩ := trodAll_cons r0
  obtain ⟨v2, vs2, d2, ds2, p2, q2, rfl, rfl, rfl, h2, r2⟩ := trodAll_cons r1
  obtain ⟨v3, vs3, d3, ds3, p3, q3, rfl, rfl, rfl, h3, r3⟩ := trodAll_cons r2
  obtain ⟨v4, vs4, d4, ds4, p4, q4, rfl, rfl, rfl, h4, r4⟩ := trodAll_cons r3
  obtain ⟨v5, vs5, d5, ds5, p5, q5, rfl, rfl, rfl, h5, r5⟩ := trodAll_cons r4
  obtain ⟨v6, vs6, d6, ds6, p6, q6, rfl, rfl, rfl, h6, r6⟩ := trodAll_cons r5
  obtain ⟨rfl, rfl, rfl⟩ := trodAll_nil r6
  obtain rfl : args = #[v0, v1, v2, v3, v4, v5, v6] := by cases args; simp_all
  obtain ⟨rfl, rfl⟩ := trodVars_none hV
  have lt0 : ∀ x ∈ p0, x.block < W.heap.size := by obtain ⟨m, hm⟩ := h0; exact DataW.trod_lt m _ _ _ hm
  have lt1 : ∀ x ∈ p1, x.block < W.heap.size := by obtain ⟨m, hm⟩ := h1; exact DataW.trod_lt m _ _ _ hm
  have lt2 : ∀ x ∈ p2, x.block < W.heap.size := by obtain ⟨m, hm⟩ := h2; exact DataW.trod_lt m _ _ _ hm
  have lt3 : ∀ x ∈ p3, x.block < W.heap.size := by obtain ⟨m, hm⟩ := h3; exact DataW.trod_lt m _ _ _ hm
  have lt4 : ∀ x ∈ p4, x.block < W.heap.size := by obtain ⟨m, hm⟩ := h4; exact DataW.trod_lt m _ _ _ hm
  have lt5 : ∀ x ∈ p5, x.block < W.heap.size := by obtain ⟨m, hm⟩ := h5; exact DataW.trod_lt m _ _ _ hm
  have lt6 : ∀ x ∈ p6, x.block < W.heap.size := by obtain ⟨m, hm⟩ := h6; exact DataW.trod_lt m _ _ _ hm
  obtain ⟨a0, len0, cap0, rfl⟩ := okWide_slice Tryd.underlying22 (hval 0 22 v0 rfl rfl)
  obtain ⟨z0, w0⟩ := isRow_of Tryd.underlying22 Tryd.underlying5 (by kernel_rfl) h0
  obtain ⟨a1, rfl, rfl, rfl, w1⟩ := open_int Tryd.underlying3 (hval 1 3 v1 rfl rfl) h1
  obtain ⟨a2, rfl, rfl, rfl, w2⟩ := open_int Tryd.underlying3 (hval 2 3 v2 rfl rfl) h2
  obtain ⟨a3, rfl, rfl, rfl, w3⟩ := open_int Tryd.underlying3 (hval 3 3 v3 rfl rfl) h3
  obtain ⟨a4, rfl, rfl, rfl, w4⟩ := open_int Tryd.underlying5 (hval 4 5 v4 rfl rfl) h4
  obtain ⟨a5, rfl, rfl, rfl, w5⟩ := open_int Tryd.underlying5 (hval 5 5 v5 rfl rfl) h5
  obtain ⟨a6, len6, cap6, rfl⟩ := okWide_slice Tryd.underlying23 (hval 6 23 v6 rfl rfl)
  obtain ⟨z6, w6⟩ := isBools_of Tryd.underlying23 Tryd.underlying4 (by kernel_rfl) h6
  clear hA0 hval0
  have hT := tab_of_laid hL
  refine (commitAll_walk0 a0 len0 cap0 z0 a1 (bounds_i64 w1).1 (bounds_i64 w1).2 a2 (bounds_i64 w2).1 (bounds_i64 w2).2 a3 (bounds_i64 w3).1 (bounds_i64 w3).2 a4 (bounds_u8 w4).1 (bounds_u8 w4).2 a5 (bounds_u8 w5).1 (bounds_u8 w5).2 a6 len6 cap6 z6 W w0 w6 hT).mono fun e W' ⟨he, hg⟩ => ?_
  subst he
  exact ⟨_, rfl, _, _, _, [], _, [], hW', trodAll_mk1 (shut_bool Tryd.underlying4 _), (trodAll_cons_mk (Below.trod laidOut (by kernel_rfl) (of_decide_eq_true (by kernel_rfl)) h0 hg lt0) (trodAll_cons_mk (Below.trod laidOut (by kernel_rfl) (of_decide_eq_true (by kernel_rfl)) h1 hg lt1) (trodAll_cons_mk (Below.trod laidOut (by kernel_rfl) (of_decide_eq_true (by kernel_rfl)) h2 hg lt2) (trodAll_cons_mk (Below.trod laidOut (by kernel_rfl) (of_decide_eq_true (by kernel_rfl)) h3 hg lt3) (trodAll_cons_mk (Below.trod laidOut (by kernel_rfl) (of_decide_eq_true (by kernel_rfl)) h4 hg lt4) (trodAll_cons_mk (Below.trod laidOut (by kernel_rfl) (of_decide_eq_true (by kernel_rfl)) h5 hg lt5) (trodAll_cons_mk (Below.trod laidOut (by kernel_rfl) (of_decide_eq_true (by kernel_rfl)) h6 hg lt6) trodAll_mk0))))))), rfl, hg.frame _, fun h => by cases h⟩

theorem commitAll_row : Rows.CommitAllSaid :=
  OpenClaim.holds_of_wide 3 Tryd.f3 rfl rfl rfl rfl rfl rfl rfl ⟨rfl, rfl, rfl, rfl, rfl⟩ rfl rfl rfl rfl rfl (by kernel_rfl) Tryd.func3 (by kernel_rfl)
    (of_decide_eq_true (by kernel_rfl)) (by unfold Func.isWrapper; first | (rw [if_pos (by decide +kernel)]; kernel_rfl) | (rw [if_neg (by decide +kernel)]; exact ⟨rfl, rfl⟩))
    (fun os started H enc _ => commitAll_lifted os started H enc)

theorem commitAll_holds : Rows.CommitAllCardSaid :=
  Claim7.holds_tied_plain_at .later [] [.data] true (true, "843c0bd705d6e3e1b489dc1c7791f91ab1e102c0021abdd85800ad58c449501d") false
    commitAll_row (fun _ h => by cases h) (by kernel_rfl) (fun _ h => by cases h) commitAll_row_tie rfl ⟨rfl, rfl⟩ (by kernel_rfl) rfl
    (fun f fn hf hfn => by
      obtain rfl : f = 3 := Option.some.inj ((show Tryd.prog.funcNamed "hodman/hodmanlaw13.CommitAll" = some 3 by kernel_rfl).symm.trans hf) |>.symm
      obtain rfl : fn = Tryd.f3 := (Option.some.inj (Tryd.func3.symm.trans hfn)).symm
      exact ⟨by kernel_rfl, fun j t ht => by
        rw [Tryd.params3] at ht
        have hm : t ∈ [22, 3, 3, 3, 5, 5, 23] := by simpa using Array.mem_of_getElem? ht
        have hall : ([22, 3, 3, 3, 5, 5, 23].all fun u => !Tryd.prog.wantsStandIn u) = true := by kernel_rfl
        exact (show Tryd.prog.wantsStandIn t = false by simpa using List.all_eq_true.1 hall t hm)⟩)
    (by kernel_rfl)
#print axioms commitAll_holds
end Go.Proofs.YtcnfmkhjhffebaaDoor
