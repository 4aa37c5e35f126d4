/- Proved here: hodmanlaw7.ClassAll returns true at every slice of bytes and every three numbers, in any memory in which the library's table math/bits.deBruijn64tab lies as its initialiser lays it: what the program's class answers (Charge, Product, Class) is what the document's own answers are (P7.1). No condition besides. -/
import Derived.Test.YtnknifhbbkccoaaDoorClassLaw
import Derived.Test.YtnknifhbbkccoaaDoorPlayConf
import Derived.Test.YtnknifhbbkccoaaDoorPlayIn
import Derived.Test.YtnknifhbbkccoaaDoorClassMore
import Derived.Test.YtnknifhbbkccoaaDoorRefClass
import Derived.Test.YtnknifhbbkccoaaDoorInts
import Derived.Test.YtnknifhbbkccoaaDoorCards
import Derived.Test.YtnknifhbbkccoaaDoorTie
import Derived.Deep.RegionHeld3
namespace Go.Proofs.YtnknifhbbkccoaaDoor
open Go.ChangeShapes Go.WideShapes Go.ChangeAt Go.RowKit

/-- what lies in the call's own blocks: what there is; two rows of ints -/
structure Ten (w : World) (n : Nat) (c : Cf) (xs ys : List Int) : Prop where
  c : HasC w n 0 c
  x : HasI w (n + 1 + 1) xs
  y : HasI w (n + 1 + 1 + 1) ys
  lt : n + 1 + 1 + 1 < w.heap.size
theorem Ten.kept {w w' : World} {n : Nat} {c : Cf} {xs ys : List Int} (h : Ten w n c xs ys) (k : Kept w w') : Ten w' n c xs ys :=
  ⟨h.c.kept k, h.x.kept k, h.y.kept k, Nat.lt_of_lt_of_le h.lt k.1.size⟩
theorem ten_made (w : World) (c : Cf) (r : Rw) (x y z : Int) : Ten ((((w.alloc (c.obj 25)).alloc (r.obj 27)).alloc (.cells #[.int .i64 x, .int .i64 y, .int .i64 x, .int .i64 z, .int .i64 3] 3)).alloc (.cells #[.int .i64 y, .int .i64 x, .int .i64 1, .int .i64 8, .int .i64 x] 3)) w.heap.size c [x, y, x, z, 3] [y, x, 1, 8, x] := by
  have s : ∀ (w : World) o, (w.alloc o).heap.size = w.heap.size + 1 := fun w o => by simp
  refine ⟨(HasC.made w c 25).kept ((((Kept.refl _).alloc _ _).alloc _ _).alloc _ _), ?_, ?_, ?_⟩
  · rw [← s w (c.obj 25), ← s (w.alloc (c.obj 25)) (r.obj 27)]
    exact (HasI.made ((w.alloc (c.obj 25)).alloc (r.obj 27)) [x, y, x, z, 3] 3).kept ((Kept.refl _).alloc _ _)
  · rw [← s w (c.obj 25), ← s (w.alloc (c.obj 25)) (r.obj 27), ← s ((w.alloc (c.obj 25)).alloc (r.obj 27)) (intsO [x, y, x, z, 3] 3)]
    exact HasI.made (((w.alloc (c.obj 25)).alloc (r.obj 27)).alloc (intsO [x, y, x, z, 3] 3)) [y, x, 1, 8, x] 3
  · simp
theorem ten_in {x y z : Int} (x0 : -9223372036854775808 ≤ x) (x1 : x ≤ 9223372036854775807) (y0 : -9223372036854775808 ≤ y) (y1 : y ≤ 9223372036854775807) (z0 : -9223372036854775808 ≤ z) (z1 : z ≤ 9223372036854775807) (k : Nat) (hk : k < 5) :
    (-9223372036854775808 ≤ [x, y, x, z, 3].getD k 0 ∧ [x, y, x, z, 3].getD k 0 ≤ 9223372036854775807) ∧ (-9223372036854775808 ≤ [y, x, 1, 8, x].getD k 0 ∧ [y, x, 1, 8, x].getD k 0 ≤ 9223372036854775807) := by
  match k, hk with
  | 0, _ | 1, _ | 2, _ | 3, _ | 4, _ => simp; omega

set_option maxRecDepth 100000 in
set_option maxHeartbeats 2000000 in
theorem classAll_walk (a : Option Addr) (len cap : Nat) (zs : List Int) (x : Int) (x0 : -9223372036854775808 ≤ x) (x1 : x ≤ 9223372036854775807) (y : Int) (y0 : -9223372036854775808 ≤ y) (y1 : y ≤ 9223372036854775807) (z : Int) (z0 : -9223372036854775808 ≤ z) (z1 : z ≤ 9223372036854775807) (w : World) (hrow : IsRow .u8 w a len cap zs) (hT : Tab w) :
    Calls Tryd.prog 3 #[.slice a len cap, .int .i64 x, .int .i64 y, .int .i64 z] w fun e w' => e = .returned (.bool true) ∧ Kept w w' := by
  have hR := hide hrow
  clear hrow
  by_cases hlen : 6 < len
  · have hl : (6 : Int) < (len : Int) := by omega
    go_enter Tryd.func3, Tryd.ntmps3
    go_wp2_with fail
    refine (begun7_true _ hT).mono ?_
    rintro e w1 ⟨rfl, k1⟩
    have K1 := hide k1; clear k1
    go_wp2
    go_ret
    exact ⟨rfl, K1.out⟩
  · have hl : (len : Int) ≤ 6 := by omega
    go_enter Tryd.func3, Tryd.ntmps3
    go_wp2_with fail
    refine (begun7_true _ hT).mono ?_
    rintro e w1 ⟨rfl, k1⟩
    have K1 := hide k1; clear k1
    have P1 := hide (picks_made hR.out K1.out)
    go_wp2_with fail
    refine (made_any a len cap _).mono ?_
    rintro e w2 ⟨rfl, rfl⟩
    go_wp2_with fail
    refine (conf_any w1.heap.size (zs.take len) 0 false _ (by rw [Nat.zero_min]; exact P1.out)).mono ?_
    rintro e w3 ⟨rfl, _, E3⟩
    have K3 := hide (Else.kept (K1.out.alloc #[.slice a len cap, .int .i64 0] 45) (K1.out.1.size) E3)
    clear E3 P1 hR
    obtain ⟨pa, l, F⟩ := fit_play (zs.take len) 0
    have F := hide F
    generalize rawOf (zs.take len) 0 false = r at *
    generalize ofC r = c at *
    have hg0 : (c.g == 0) = false := by have := F.out.g1; rw [beq_eq_false_iff_ne]; omega
    have TK : Hid (∀ w', Kept w w' → Tab w') := fun w' k => hT.kept k
    have g16 : Hid (c.g ≤ 65536) := hide (by have := F.out.gn; have := F.out.n16; omega)
    have CA := hide (fun s a w h h' hT => charge_any c s a w F.out.g1 g16.out F.out.n16 h h' hT)
    have RA := hide (fun s a w h h' => rcharge_any c s a w F.out.g1 g16.out F.out.n16 h h')
    have PA := hide (fun s a w h h' j j' => product_any c s a w h h' j j')
    have QA := hide (fun s a w h h' j j' => rproduct_any c s a w h h' j j')
    have SA := hide (fun x w hT => class_any c pa l x w F.out.a16 F.out.l16 F.out.g F.out.el hT)
    have TA := hide (fun x w => rshift_any c pa l x w F.out.a16 F.out.l16 F.out.g F.out.el)
    have TEN := hide (ten_made w3 c r x y z)
    have TIN := hide (ten_in x0 x1 y0 y1 z0 z1)
    have K4 : Hid (Kept w ((((w3.alloc (c.obj 25)).alloc (r.obj 27)).alloc (.cells #[.int .i64 x, .int .i64 y, .int .i64 x, .int .i64 z, .int .i64 3] 3)).alloc (.cells #[.int .i64 y, .int .i64 x, .int .i64 1, .int .i64 8, .int .i64 x] 3))) := (((K3.out.alloc _ _).alloc _ _).alloc _ _).alloc _ _
    clear F K3 g16
    generalize chV c.g c.n = fv at *
    generalize chE c.n = fe at *
    generalize prV c.n = pv at *
    generalize prE c.n = pe at *
    obtain ⟨g, la, li, pg, bu, se⟩ := r
    obtain ⟨cg, cn, cm, cl, cp, cb, ch, cs⟩ := c
    dsimp only at hg0 CA RA PA QA SA TA
    go_wp2
    generalize ((((w3.alloc (Cf.obj ⟨cg, cn, cm, cl, cp, cb, ch, cs⟩ 25)).alloc (Rw.obj ⟨g, la, li, pg, bu, se⟩ 27)).alloc (.cells #[.int .i64 x, .int .i64 y, .int .i64 x, .int .i64 z, .int .i64 3] 3)).alloc (.cells #[.int .i64 y, .int .i64 x, .int .i64 1, .int .i64 8, .int .i64 x] 3)) = W at *
    generalize w3.heap.size = n at *
    generalize hxs : [x, y, x, z, 3] = xs at *
    generalize hys : [y, x, 1, 8, x] = ys at *
    have lx : Hid (xs.length = 5) := hide (by rw [← hxs]; rfl)
    have ly : Hid (ys.length = 5) := hide (by rw [← hys]; rfl)
    clear hxs hys
    go_loopw [13] (fun i w2 => ∃ k : Nat, k ≤ 5 ∧ i = .int .i64 k ∧ Kept W w2) (fun i _ => (5 - intOf i).toNat)
    case atStart => exact ⟨0, Nat.zero_le _, rfl, Kept.refl _⟩
    case round =>
      obtain ⟨k, hk, rfl, hK⟩ := hrel
      have HK := hide hK
      have T0 := hide (TEN.out.kept hK)
      clear hK
      by_cases hlt : k < 5
      · obtain ⟨⟨u0, u1⟩, v0, v1⟩ := TIN.out k hlt
        have LX := hide (fun w' (h : Ten w' n ⟨cg, cn, cm, cl, cp, cb, ch, cs⟩ xs ys) => h.x k (by rw [lx.out]; exact hlt))
        have LY := hide (fun w' (h : Ten w' n ⟨cg, cn, cm, cl, cp, cb, ch, cs⟩ xs ys) => h.y k (by rw [ly.out]; exact hlt))
        generalize xs.getD k 0 = u at *
        generalize ys.getD k 0 = v at *
        have C1 := hide (fun w hT => CA.out u v w v0 v1 hT)
        have C2 := hide (fun w => RA.out u v w v0 v1)
        have C3 := hide (fun w => PA.out u v w u0 u1 v0 v1)
        have C4 := hide (fun w => QA.out u v w u0 u1 v0 v1)
        have C5 := hide (fun w hT => SA.out u w hT)
        have C6 := hide (fun w => TA.out u w)
        generalize fv u v = a1 at *
        generalize fe u v = a2 at *
        generalize pv u v = a3 at *
        generalize pe u v = a4 at *
        generalize shV pa l u = a5 at *
        generalize shB pa l u = a6 at *
        have k0 : (0 : Int) ≤ (k : Int) := by omega
        have k5 : (k : Int) < 5 := by omega
        have TT : Hid (Tab wr.drew) := TK.out _ (K4.out.trans HK.out.drew)
        have X := LX.out _ T0.out
        have Y := LY.out _ T0.out
        obtain ⟨y0, y1, y2, y3, y4, y5, y6, y7⟩ := T0.out.c
        simp only [Nat.zero_add] at y0 y1 y2 y3 y4 y5 y6 y7
        have hn := T0.out.lt
        have hn0 : n < wr.heap.size := by omega
        have hn2 : n + 1 + 1 < wr.heap.size := by omega
        go_wp2_with fail
        go_region_held3 (fun w' => w'.cell? ⟨n, 0, none⟩ = some (.int .i64 cg) ∧ w'.cell? ⟨n, 1, none⟩ = some (.int .i64 cn) ∧ w'.cell? ⟨n, 2, none⟩ = some (.int .i64 cm) ∧ w'.cell? ⟨n, 3, none⟩ = some (.int .i64 cl) ∧ w'.cell? ⟨n, 4, none⟩ = some (.int .i64 cp) ∧ w'.cell? ⟨n, 5, none⟩ = some (.int .i64 cb) ∧ w'.cell? ⟨n, 6, none⟩ = some (.int .i64 ch) ∧ w'.cell? ⟨n, 7, none⟩ = some (.int .i64 cs) ∧ w'.cell? ⟨n + 1 + 1, k, none⟩ = some (.int .i64 u) ∧ w'.cell? ⟨n + 1 + 1 + 1, k, none⟩ = some (.int .i64 v)) (go_keep) (first | (go_at_call 10; refine (C1.out _ TT.out).mono ?_; rintro e w' ⟨rfl, rfl⟩))
        have T1 := hide (T0.out.kept (((Kept.refl wr).alloc #[.int .i64 cg, .int .i64 cn, .int .i64 cm, .int .i64 cl, .int .i64 cp, .int .i64 cb, .int .i64 ch, .int .i64 cs] 25).drew))
        have HK := hide ((HK.out.alloc #[.int .i64 cg, .int .i64 cn, .int .i64 cm, .int .i64 cl, .int .i64 cp, .int .i64 cb, .int .i64 ch, .int .i64 cs] 25).drew)
        clear TT X Y y0 y1 y2 y3 y4 y5 y6 y7 hn hn0 hn2 T0
        generalize World.drew (wr.alloc (.cells #[.int .i64 cg, .int .i64 cn, .int .i64 cm, .int .i64 cl, .int .i64 cp, .int .i64 cb, .int .i64 ch, .int .i64 cs] 25)) = W1 at *
        have TT : Hid (Tab W1.drew) := TK.out _ (K4.out.trans HK.out.drew)
        have X := LX.out _ T1.out
        have Y := LY.out _ T1.out
        obtain ⟨y0, y1, y2, y3, y4, y5, y6, y7⟩ := T1.out.c
        simp only [Nat.zero_add] at y0 y1 y2 y3 y4 y5 y6 y7
        have hn := T1.out.lt
        have hn0 : n < W1.heap.size := by omega
        have hn2 : n + 1 + 1 < W1.heap.size := by omega
        go_wp2_with fail
        go_region_held3 (fun w' => w'.cell? ⟨n, 0, none⟩ = some (.int .i64 cg) ∧ w'.cell? ⟨n, 1, none⟩ = some (.int .i64 cn) ∧ w'.cell? ⟨n, 2, none⟩ = some (.int .i64 cm) ∧ w'.cell? ⟨n, 3, none⟩ = some (.int .i64 cl) ∧ w'.cell? ⟨n, 4, none⟩ = some (.int .i64 cp) ∧ w'.cell? ⟨n, 5, none⟩ = some (.int .i64 cb) ∧ w'.cell? ⟨n, 6, none⟩ = some (.int .i64 ch) ∧ w'.cell? ⟨n, 7, none⟩ = some (.int .i64 cs) ∧ w'.cell? ⟨n + 1 + 1, k, none⟩ = some (.int .i64 u) ∧ w'.cell? ⟨n + 1 + 1 + 1, k, none⟩ = some (.int .i64 v)) (go_keep) (first | (go_at_call 11; refine (C2.out _).mono ?_; rintro e w' ⟨rfl, rfl⟩))
        have T2 := hide (T1.out.kept (((Kept.refl W1).alloc #[.int .i64 cg, .int .i64 cn, .int .i64 cm, .int .i64 cl, .int .i64 cp, .int .i64 cb, .int .i64 ch, .int .i64 cs] 25).drew))
        have HK := hide ((HK.out.alloc #[.int .i64 cg, .int .i64 cn, .int .i64 cm, .int .i64 cl, .int .i64 cp, .int .i64 cb, .int .i64 ch, .int .i64 cs] 25).drew)
        clear TT X Y y0 y1 y2 y3 y4 y5 y6 y7 hn hn0 hn2 T1
        generalize World.drew (W1.alloc (.cells #[.int .i64 cg, .int .i64 cn, .int .i64 cm, .int .i64 cl, .int .i64 cp, .int .i64 cb, .int .i64 ch, .int .i64 cs] 25)) = W2 at *
        have TT : Hid (Tab W2.drew) := TK.out _ (K4.out.trans HK.out.drew)
        have X := LX.out _ T2.out
        have Y := LY.out _ T2.out
        obtain ⟨y0, y1, y2, y3, y4, y5, y6, y7⟩ := T2.out.c
        simp only [Nat.zero_add] at y0 y1 y2 y3 y4 y5 y6 y7
        have hn := T2.out.lt
        have hn0 : n < W2.heap.size := by omega
        have hn2 : n + 1 + 1 < W2.heap.size := by omega
        go_wp2_with fail
        go_region_held3 (fun w' => w'.cell? ⟨n, 0, none⟩ = some (.int .i64 cg) ∧ w'.cell? ⟨n, 1, none⟩ = some (.int .i64 cn) ∧ w'.cell? ⟨n, 2, none⟩ = some (.int .i64 cm) ∧ w'.cell? ⟨n, 3, none⟩ = some (.int .i64 cl) ∧ w'.cell? ⟨n, 4, none⟩ = some (.int .i64 cp) ∧ w'.cell? ⟨n, 5, none⟩ = some (.int .i64 cb) ∧ w'.cell? ⟨n, 6, none⟩ = some (.int .i64 ch) ∧ w'.cell? ⟨n, 7, none⟩ = some (.int .i64 cs) ∧ w'.cell? ⟨n + 1 + 1, k, none⟩ = some (.int .i64 u) ∧ w'.cell? ⟨n + 1 + 1 + 1, k, none⟩ = some (.int .i64 v)) (go_keep) (first | (go_at_call 12; refine (C3.out _).mono ?_; rintro e w' ⟨rfl, rfl⟩))
        have T3 := hide (T2.out.kept (((Kept.refl W2).alloc #[.int .i64 cg, .int .i64 cn, .int .i64 cm, .int .i64 cl, .int .i64 cp, .int .i64 cb, .int .i64 ch, .int .i64 cs] 25).drew))
        have HK := hide ((HK.out.alloc #[.int .i64 cg, .int .i64 cn, .int .i64 cm, .int .i64 cl, .int .i64 cp, .int .i64 cb, .int .i64 ch, .int .i64 cs] 25).drew)
        clear TT X Y y0 y1 y2 y3 y4 y5 y6 y7 hn hn0 hn2 T2
        generalize World.drew (W2.alloc (.cells #[.int .i64 cg, .int .i64 cn, .int .i64 cm, .int .i64 cl, .int .i64 cp, .int .i64 cb, .int .i64 ch, .int .i64 cs] 25)) = W3 at *
        have TT : Hid (Tab W3.drew) := TK.out _ (K4.out.trans HK.out.drew)
        have X := LX.out _ T3.out
        have Y := LY.out _ T3.out
        obtain ⟨y0, y1, y2, y3, y4, y5, y6, y7⟩ := T3.out.c
        simp only [Nat.zero_add] at y0 y1 y2 y3 y4 y5 y6 y7
        have hn := T3.out.lt
        have hn0 : n < W3.heap.size := by omega
        have hn2 : n + 1 + 1 < W3.heap.size := by omega
        go_wp2_with fail
        go_region_held3 (fun w' => w'.cell? ⟨n, 0, none⟩ = some (.int .i64 cg) ∧ w'.cell? ⟨n, 1, none⟩ = some (.int .i64 cn) ∧ w'.cell? ⟨n, 2, none⟩ = some (.int .i64 cm) ∧ w'.cell? ⟨n, 3, none⟩ = some (.int .i64 cl) ∧ w'.cell? ⟨n, 4, none⟩ = some (.int .i64 cp) ∧ w'.cell? ⟨n, 5, none⟩ = some (.int .i64 cb) ∧ w'.cell? ⟨n, 6, none⟩ = some (.int .i64 ch) ∧ w'.cell? ⟨n, 7, none⟩ = some (.int .i64 cs) ∧ w'.cell? ⟨n + 1 + 1, k, none⟩ = some (.int .i64 u) ∧ w'.cell? ⟨n + 1 + 1 + 1, k, none⟩ = some (.int .i64 v)) (go_keep) (first | (go_at_call 13; refine (C4.out _).mono ?_; rintro e w' ⟨rfl, rfl⟩))
        have T4 := hide (T3.out.kept (((Kept.refl W3).alloc #[.int .i64 cg, .int .i64 cn, .int .i64 cm, .int .i64 cl, .int .i64 cp, .int .i64 cb, .int .i64 ch, .int .i64 cs] 25).drew))
        have HK := hide ((HK.out.alloc #[.int .i64 cg, .int .i64 cn, .int .i64 cm, .int .i64 cl, .int .i64 cp, .int .i64 cb, .int .i64 ch, .int .i64 cs] 25).drew)
        clear TT X Y y0 y1 y2 y3 y4 y5 y6 y7 hn hn0 hn2 T3
        generalize World.drew (W3.alloc (.cells #[.int .i64 cg, .int .i64 cn, .int .i64 cm, .int .i64 cl, .int .i64 cp, .int .i64 cb, .int .i64 ch, .int .i64 cs] 25)) = W4 at *
        have TT : Hid (Tab W4.drew) := TK.out _ (K4.out.trans HK.out.drew)
        have X := LX.out _ T4.out
        have Y := LY.out _ T4.out
        obtain ⟨y0, y1, y2, y3, y4, y5, y6, y7⟩ := T4.out.c
        simp only [Nat.zero_add] at y0 y1 y2 y3 y4 y5 y6 y7
        have hn := T4.out.lt
        have hn0 : n < W4.heap.size := by omega
        have hn2 : n + 1 + 1 < W4.heap.size := by omega
        go_wp2_with fail
        go_region_held3 (fun w' => w'.cell? ⟨n, 0, none⟩ = some (.int .i64 cg) ∧ w'.cell? ⟨n, 1, none⟩ = some (.int .i64 cn) ∧ w'.cell? ⟨n, 2, none⟩ = some (.int .i64 cm) ∧ w'.cell? ⟨n, 3, none⟩ = some (.int .i64 cl) ∧ w'.cell? ⟨n, 4, none⟩ = some (.int .i64 cp) ∧ w'.cell? ⟨n, 5, none⟩ = some (.int .i64 cb) ∧ w'.cell? ⟨n, 6, none⟩ = some (.int .i64 ch) ∧ w'.cell? ⟨n, 7, none⟩ = some (.int .i64 cs) ∧ w'.cell? ⟨n + 1 + 1, k, none⟩ = some (.int .i64 u) ∧ w'.cell? ⟨n + 1 + 1 + 1, k, none⟩ = some (.int .i64 v)) (go_keep) (first | (go_at_call 14; refine (C5.out _ TT.out).mono ?_; rintro e w' ⟨rfl, rfl⟩))
        have T5 := hide (T4.out.kept (((Kept.refl W4).alloc #[.int .i64 cg, .int .i64 cn, .int .i64 cm, .int .i64 cl, .int .i64 cp, .int .i64 cb, .int .i64 ch, .int .i64 cs] 25).drew))
        have HK := hide ((HK.out.alloc #[.int .i64 cg, .int .i64 cn, .int .i64 cm, .int .i64 cl, .int .i64 cp, .int .i64 cb, .int .i64 ch, .int .i64 cs] 25).drew)
        clear TT X Y y0 y1 y2 y3 y4 y5 y6 y7 hn hn0 hn2 T4
        generalize World.drew (W4.alloc (.cells #[.int .i64 cg, .int .i64 cn, .int .i64 cm, .int .i64 cl, .int .i64 cp, .int .i64 cb, .int .i64 ch, .int .i64 cs] 25)) = W5 at *
        have TT : Hid (Tab W5.drew) := TK.out _ (K4.out.trans HK.out.drew)
        have X := LX.out _ T5.out
        have Y := LY.out _ T5.out
        obtain ⟨y0, y1, y2, y3, y4, y5, y6, y7⟩ := T5.out.c
        simp only [Nat.zero_add] at y0 y1 y2 y3 y4 y5 y6 y7
        have hn := T5.out.lt
        have hn0 : n < W5.heap.size := by omega
        have hn2 : n + 1 + 1 < W5.heap.size := by omega
        go_wp2_with fail
        go_region_held3 (fun w' => w'.cell? ⟨n, 0, none⟩ = some (.int .i64 cg) ∧ w'.cell? ⟨n, 1, none⟩ = some (.int .i64 cn) ∧ w'.cell? ⟨n, 2, none⟩ = some (.int .i64 cm) ∧ w'.cell? ⟨n, 3, none⟩ = some (.int .i64 cl) ∧ w'.cell? ⟨n, 4, none⟩ = some (.int .i64 cp) ∧ w'.cell? ⟨n, 5, none⟩ = some (.int .i64 cb) ∧ w'.cell? ⟨n, 6, none⟩ = some (.int .i64 ch) ∧ w'.cell? ⟨n, 7, none⟩ = some (.int .i64 cs) ∧ w'.cell? ⟨n + 1 + 1, k, none⟩ = some (.int .i64 u) ∧ w'.cell? ⟨n + 1 + 1 + 1, k, none⟩ = some (.int .i64 v)) (go_keep) (first | (go_at_call 15; refine (C6.out _).mono ?_; rintro e w6 ⟨rfl, k6⟩; have i0 := k6.cell (show W5.drew.cell? _ = _ from y0); have i1 := k6.cell (show W5.drew.cell? _ = _ from y1); have i2 := k6.cell (show W5.drew.cell? _ = _ from y2); have i3 := k6.cell (show W5.drew.cell? _ = _ from y3); have i4 := k6.cell (show W5.drew.cell? _ = _ from y4); have i5 := k6.cell (show W5.drew.cell? _ = _ from y5); have i6 := k6.cell (show W5.drew.cell? _ = _ from y6); have i7 := k6.cell (show W5.drew.cell? _ = _ from y7); have i8 := k6.cell (show W5.drew.cell? _ = _ from X); have i9 := k6.cell (show W5.drew.cell? _ = _ from Y); have KE := hide (HK.out.drew.trans k6); clear k6))
        go_wp2
        go_roundw
        case rel => exact ⟨k + 1, by omega, by go_num, KE.out⟩
        case measure => simp [intOf]; omega
      · obtain rfl : k = 5 := by omega
        have KE := hide (K4.out.trans HK.out)
        go_wp2
        go_ret
        exact ⟨rfl, KE.out⟩

set_option linter.unusedVariables false
set_option maxRecDepth 100000 in
theorem classAll_lifted (os : Os) (started : os.Started) (H : Type) (enc : TypeId × Value → H) :
    ReturnsInHanded {} Tryd.checked os 3 .any (fun w args => (Rows.classAllSpec.pre enc Tryd.prog Tryd.f3 [] false w args ∧ laidMetH Tryd.prog laid1 w) ∧ sizedMet enc Tryd.prog Tryd.f3 (OpenSpec.ofChange Rows.classAllSpec) false w args)
      (Rows.classAllSpec.post enc Tryd.prog Tryd.f3 false true false false) := by
  refine returnsInHanded_of_change_and (C := Tryd.checked) (X := fun w _ => laidMetH Tryd.prog laid1 w) (fun _ _ _ hh h => h.of_heap hh) own started (by kernel_rfl) Tryd.func3
    (ChangeSpec.witness_shaped (enc := enc) (C := Tryd.checked) (os := os) (X := fun w _ => laidMetH Tryd.prog laid1 w) false (World.doorLaid Tryd.prog 400 os) #[.slice none 0 0, .int .i64 0, .int .i64 0, .int .i64 0] 8 rfl (World.shaped_of_RefB (by kernel_rfl) (by kernel_rfl)) (by kernel_rfl) (by kernel_rfl) (by kernel_rfl) (door_met os _)) ?_
  intro W base args ds gs before hval0 hW _ _ hL _
  have hval : ∀ (j : Nat) t v, Tryd.f3.params[j]? = some t → args[j]? = some v → Value.okWide Tryd.prog W .any base t v := hval0
  have hW' := hW
  obtain ⟨p, q, hA0, hV, rfl, hfz, hnd⟩ := hW
  have hA : DataW.TrodAll enc Tryd.prog W 0 (fun _ => true) true Tryd.f3.params.toList args.toList ds p := hA0
  rw [Tryd.params3] at hA hval
  obtain ⟨v0, vs0, d0, ds0, p0, q0, hargs, rfl, rfl, h0, r0⟩ := trodAll_cons hA
  obtain ⟨v1, vs1, d1, ds1, p1, q1, rfl, rfl, rfl, h1, r1⟩ := trodAll_cons r0
  obtain ⟨v2, vs2, d2, ds2, p2, q2, rfl, rfl, rfl, h2, r2⟩ := trodAll_cons r1
  obtain ⟨v3, vs3, d3, ds3, p3, q3, rfl, rfl, rfl, h3, r3⟩ := trodAll_cons r2
  obtain ⟨rfl, rfl, rfl⟩ := trodAll_nil r3
  obtain rfl : args = #[v0, v1, v2, v3] := by cases args; simp_all
  obtain ⟨rfl, rfl⟩ := trodVars_none hV
  have lt0 : ∀ x ∈ p0, x.block < W.heap.size := by obtain ⟨m, hm⟩ := h0; exact DataW.trod_lt m _ _ _ hm
  have lt1 : ∀ x ∈ p1, x.block < W.heap.size := by obtain ⟨m, hm⟩ := h1; exact DataW.trod_lt m _ _ _ hm
  have lt2 : ∀ x ∈ p2, x.block < W.heap.size := by obtain ⟨m, hm⟩ := h2; exact DataW.trod_lt m _ _ _ hm
  have lt3 : ∀ x ∈ p3, x.block < W.heap.size := by obtain ⟨m, hm⟩ := h3; exact DataW.trod_lt m _ _ _ hm
  obtain ⟨a0, len0, cap0, rfl⟩ := okWide_slice Tryd.underlying22 (hval 0 22 v0 rfl rfl)
  obtain ⟨z0, w0⟩ := isRow_of Tryd.underlying22 Tryd.underlying5 (by kernel_rfl) h0
  obtain ⟨a1, rfl, rfl, rfl, w1⟩ := open_int Tryd.underlying3 (hval 1 3 v1 rfl rfl) h1
  obtain ⟨a2, rfl, rfl, rfl, w2⟩ := open_int Tryd.underlying3 (hval 2 3 v2 rfl rfl) h2
  obtain ⟨a3, rfl, rfl, rfl, w3⟩ := open_int Tryd.underlying3 (hval 3 3 v3 rfl rfl) h3
  clear hA0 hval0
  have hT := tab_of_laid hL
  refine (classAll_walk a0 len0 cap0 z0 a1 (bounds_i64 w1).1 (bounds_i64 w1).2 a2 (bounds_i64 w2).1 (bounds_i64 w2).2 a3 (bounds_i64 w3).1 (bounds_i64 w3).2 W w0 hT).mono fun e W' ⟨he, hg⟩ => ?_
  subst he
  exact ⟨_, rfl, _, _, _, [], _, [], hW', trodAll_mk1 (shut_bool Tryd.underlying4 _), (trodAll_cons_mk (Below.trod laidOut (by kernel_rfl) (of_decide_eq_true (by kernel_rfl)) h0 hg.1 lt0) (trodAll_cons_mk (Below.trod laidOut (by kernel_rfl) (of_decide_eq_true (by kernel_rfl)) h1 hg.1 lt1) (trodAll_cons_mk (Below.trod laidOut (by kernel_rfl) (of_decide_eq_true (by kernel_rfl)) h2 hg.1 lt2) (trodAll_cons_mk (Below.trod laidOut (by kernel_rfl) (of_decide_eq_true (by kernel_rfl)) h3 hg.1 lt3) trodAll_mk0)))), rfl, hg.1.frame _, fun h => by cases h⟩

theorem classAll_row : Rows.ClassAllSaid :=
  OpenClaim.holds_of_wide 3 Tryd.f3 rfl rfl rfl rfl rfl rfl rfl ⟨rfl, rfl, rfl, rfl, rfl⟩ rfl rfl rfl rfl rfl (by kernel_rfl) Tryd.func3 (by kernel_rfl)
    (of_decide_eq_true (by kernel_rfl)) (by unfold Func.isWrapper; first | (rw [if_pos (by decide +kernel)]; kernel_rfl) | (rw [if_neg (by decide +kernel)]; exact ⟨rfl, rfl⟩))
    (fun os started H enc _ => classAll_lifted os started H enc)

theorem classAll_holds : Rows.ClassAllCardSaid :=
  Claim7.holds_tied_plain_at .later [] [.data] true (true, "3ecdaab91720fd547ac3dbeea450085eaae0f8c18354cb460ea0ea16e3ad9c32") false
    classAll_row (fun _ h => by cases h) (by kernel_rfl) (fun _ h => by cases h) classAll_row_tie rfl ⟨rfl, rfl⟩ (by kernel_rfl) rfl
    (fun f fn hf hfn => by
      obtain rfl : f = 3 := Option.some.inj ((show Tryd.prog.funcNamed "hodman/hodmanlaw7.ClassAll" = some 3 by kernel_rfl).symm.trans hf) |>.symm
      obtain rfl : fn = Tryd.f3 := (Option.some.inj (Tryd.func3.symm.trans hfn)).symm
      exact ⟨by kernel_rfl, fun j t ht => by
        rw [Tryd.params3] at ht
        have hm : t ∈ [22, 3, 3, 3] := by simpa using Array.mem_of_getElem? ht
        have hall : ([22, 3, 3, 3].all fun u => !Tryd.prog.wantsStandIn u) = true := by kernel_rfl
        exact (show Tryd.prog.wantsStandIn t = false by simpa using List.all_eq_true.1 hall t hm)⟩)
    (by kernel_rfl)
#print axioms classAll_holds
end Go.Proofs.YtnknifhbbkccoaaDoor
