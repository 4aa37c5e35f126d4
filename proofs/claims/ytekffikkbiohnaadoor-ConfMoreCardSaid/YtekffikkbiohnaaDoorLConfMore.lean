/- Proved here: hodmanlaw2.ConfMore returns true at every slice of bytes and every three bytes, in any memory in which the library's table math/bits.deBruijn64tab lies as its initialiser lays it: who asks for more to be live has no less of all, and pages and seeds are no matter to where blocks lie. No condition besides. -/
import Derived.Test.YtekffikkbiohnaaDoorLawB
import Derived.Test.YtekffikkbiohnaaDoorPlayIn
import Derived.Test.YtekffikkbiohnaaDoorWhole
import Derived.Test.YtekffikkbiohnaaDoorCards
import Derived.Test.YtekffikkbiohnaaDoorTie
import Derived.RegionTactic
import Derived.Deep.CutRange
namespace Go.Proofs.YtekffikkbiohnaaDoor
open Go.ChangeShapes Go.WideShapes Go.ChangeAt Go.RowKit

theorem rawOf_in (zs : List Int) (j : Nat) : ∃ g la li pg bu se, rawOf zs j false = ⟨g, la, li, pg, bu, se⟩ ∧ (1 ≤ g ∧ g ≤ 9) ∧ (1 ≤ la ∧ la ≤ 108) ∧ (1 ≤ li ∧ li ≤ 150) ∧ (1 ≤ pg ∧ pg ≤ 30) ∧ (0 ≤ bu ∧ bu ≤ 65536) ∧ 0 ≤ se ∧ se ≤ 255 := by
  have i0 := pk_in zs j 9 (by decide)
  have i1 := pk_in zs (j + 1) 12 (by decide)
  have i2 := pk_in zs (j + 2) 150 (by decide)
  have i3 := pk_in zs (j + 3) 30 (by decide)
  have i4 := pk_in zs (j + 4) 200 (by decide)
  have i5 := pk_in zs (j + 5) 20 (by decide)
  have m1 := Int.mul_le_mul (show rawG zs j ≤ 9 by unfold rawG; omega) (show 1 + pk zs (j + 1) 12 ≤ 12 by omega) (by omega) (by decide)
  have m2 := Int.mul_le_mul (show 1 ≤ rawG zs j by unfold rawG; omega) (show 1 ≤ 1 + pk zs (j + 1) 12 by omega) (by decide) (by unfold rawG; omega)
  exact ⟨_, _, _, _, _, _, rfl, ⟨by unfold rawG; omega, by unfold rawG; omega⟩, ⟨by omega, by omega⟩, ⟨by omega, by omega⟩, ⟨by omega, by omega⟩, ⟨by simp; omega, by simp; omega⟩, by omega, by omega⟩

/-- three requests in three blocks of the call's own -/
structure Three (w0 : World) (r s t : Rw) (n ns nt : Nat) (w : World) : Prop where
  st : ns ≠ nt
  sn : ns ≠ n
  tn : nt ≠ n
  rr : HasR w n 0 r
  ss : HasR w ns 0 s
  tt : HasR w nt 0 t
  kept : Kept w0 w
  hs : w0.heap.size ≤ ns
  ht : w0.heap.size ≤ nt
  fs : ∀ o, w.frozen? ⟨ns, o, none⟩ = false
  ft : ∀ o, w.frozen? ⟨nt, o, none⟩ = false

theorem three_made {w0 w3 : World} (k : Kept w0 w3) (r : Rw) (t : TypeId) (ns nt : Nat) (h : (ns = w3.heap.size + 1 ∧ nt = w3.heap.size + 1 + 1) ∨ (ns = w3.heap.size + 1 + 1 ∧ nt = w3.heap.size + 1)) :
    Three w0 r r r w3.heap.size ns nt ((((w3.alloc (r.obj t)).alloc (r.obj t)).alloc (r.obj t)).drew) := by
  have s1 : (w3.alloc (r.obj t)).heap.size = w3.heap.size + 1 := by simp
  have s2 : ((w3.alloc (r.obj t)).alloc (r.obj t)).heap.size = w3.heap.size + 1 + 1 := by simp
  have h0 : HasR ((((w3.alloc (r.obj t)).alloc (r.obj t)).alloc (r.obj t)).drew) w3.heap.size 0 r := (HasR.made w3 r t).kept (((Kept.refl _).alloc _ _).alloc _ _).drew
  have h1 : HasR ((((w3.alloc (r.obj t)).alloc (r.obj t)).alloc (r.obj t)).drew) (w3.heap.size + 1) 0 r := by
    rw [← s1]; exact (HasR.made (w3.alloc (r.obj t)) r t).kept ((Kept.refl _).alloc _ _).drew
  have h2 : HasR ((((w3.alloc (r.obj t)).alloc (r.obj t)).alloc (r.obj t)).drew) (w3.heap.size + 1 + 1) 0 r := by
    rw [← s2]; exact (HasR.made ((w3.alloc (r.obj t)).alloc (r.obj t)) r t).kept (Kept.refl _).drew
  have K : Kept w3 ((((w3.alloc (r.obj t)).alloc (r.obj t)).alloc (r.obj t)).drew) := ((((Kept.refl w3).alloc _ _).alloc _ _).alloc _ _).drew
  have hs := k.1.size
  have fr : ∀ m, w3.heap.size ≤ m → ∀ o, ((((w3.alloc (r.obj t)).alloc (r.obj t)).alloc (r.obj t)).drew).frozen? ⟨m, o, none⟩ = false := fun m hm o => by
    rw [K.2]; simp [World.frozen?, Array.getElem?_eq_none hm]
  rcases h with ⟨rfl, rfl⟩ | ⟨rfl, rfl⟩
  · exact ⟨by omega, by omega, by omega, h0, h1, h2, k.trans K, by omega, by omega, fr _ (by omega), fr _ (by omega)⟩
  · exact ⟨by omega, by omega, by omega, h0, h2, h1, k.trans K, by omega, by omega, fr _ (by omega), fr _ (by omega)⟩

theorem HasR.far {w : World} {n m o : Nat} {r : Rw} (h : HasR w n 0 r) (hm : m ≠ n) (v : Value) : HasR (w.setCell ⟨m, o, none⟩ v) n 0 r := by
  have k : ∀ i x, w.cell? ⟨n, i, none⟩ = some x → (w.setCell ⟨m, o, none⟩ v).cell? ⟨n, i, none⟩ = some x := fun i x hx => (World.cell?_setCell_other _ _ _ _ (by intro e; exact hm (congrArg Addr.block e))).trans hx
  obtain ⟨h0, h1, h2, h3, h4, h5⟩ := h
  exact ⟨k _ _ h0, k _ _ h1, k _ _ h2, k _ _ h3, k _ _ h4, k _ _ h5⟩
theorem HasR.set {w : World} {n : Nat} {r : Rw} (h : HasR w n 0 r) (x : Int) :
    HasR (w.setCell ⟨n, 2, none⟩ (.int .i64 x)) n 0 ⟨r.g, r.la, x, r.pg, r.bu, r.se⟩ ∧ HasR (w.setCell ⟨n, 4, none⟩ (.int .i64 x)) n 0 ⟨r.g, r.la, r.li, r.pg, x, r.se⟩ ∧ HasR (w.setCell ⟨n, 5, none⟩ (.int .i64 x)) n 0 ⟨r.g, r.la, r.li, r.pg, r.bu, x⟩ := by
  have k : ∀ j i y, j ≠ i → w.cell? ⟨n, i, none⟩ = some y → (w.setCell ⟨n, j, none⟩ (.int .i64 x)).cell? ⟨n, i, none⟩ = some y := fun j i y hj hx => (World.cell?_setCell_other _ _ _ _ (by intro e; exact hj (congrArg Addr.off e))).trans hx
  have e : ∀ j y, w.cell? ⟨n, j, none⟩ = some y → (w.setCell ⟨n, j, none⟩ (.int .i64 x)).cell? ⟨n, j, none⟩ = some (.int .i64 x) := fun j y hx => World.cell?_setCell_same _ _ _ hx
  obtain ⟨h0, h1, h2, h3, h4, h5⟩ := h
  exact ⟨⟨k _ _ _ (by decide) h0, k _ _ _ (by decide) h1, e _ _ h2, k _ _ _ (by decide) h3, k _ _ _ (by decide) h4, k _ _ _ (by decide) h5⟩,
    ⟨k _ _ _ (by decide) h0, k _ _ _ (by decide) h1, k _ _ _ (by decide) h2, k _ _ _ (by decide) h3, e _ _ h4, k _ _ _ (by decide) h5⟩,
    ⟨k _ _ _ (by decide) h0, k _ _ _ (by decide) h1, k _ _ _ (by decide) h2, k _ _ _ (by decide) h3, k _ _ _ (by decide) h4, e _ _ h5⟩⟩

set_option maxRecDepth 100000 in
set_option maxHeartbeats 4000000 in
theorem confMore_walk (a : Option Addr) (len cap : Nat) (zs : List Int) (more : Int) (mo0 : 0 ≤ more) (mo1 : more ≤ 255) (seed : Int) (se0 : 0 ≤ seed) (se1 : seed ≤ 255) (bud : Int) (bu0 : 0 ≤ bud) (bu1 : bud ≤ 255) (w : World) (hrow : IsRow .u8 w a len cap zs) (hT : Tab w) :
    Calls Tryd.prog 6 #[.slice a len cap, .int .u8 more, .int .u8 seed, .int .u8 bud] w fun e w' => e = .returned (.bool true) ∧ Kept w w' := by
  have hR := hide hrow
  clear hrow
  by_cases hlen : 6 < len
  · have hl : (6 : Int) < (len : Int) := by omega
    go_enter Tryd.func6, Tryd.ntmps6
    go_wp2_with fail
    refine (begun_true _ hT).mono ?_
    rintro e w1 ⟨rfl, k1⟩
    have K1 := hide k1; clear k1
    go_wp2
    go_ret
    exact ⟨rfl, K1.out⟩
  · have hl : (len : Int) ≤ 6 := by omega
    go_enter Tryd.func6, Tryd.ntmps6
    go_wp2_with fail
    refine (begun_true _ hT).mono ?_
    rintro e w1 ⟨rfl, k1⟩
    have K1 := hide k1; clear k1
    have P1 := hide (picks_made hR.out K1.out)
    go_wp2_with fail
    refine (made_any a len cap _).mono ?_
    rintro e w2 ⟨rfl, rfl⟩
    go_wp2_with fail
    refine (raw_any w1.heap.size (zs.take len) 0 false _ (by rw [Nat.zero_min]; exact P1.out)).mono ?_
    rintro e w3 ⟨rfl, _, E3⟩
    have K3 := hide (Else.kept (K1.out.alloc #[.slice a len cap, .int .i64 0] 43) (K1.out.1.size) E3)
    clear E3
    obtain ⟨g, la, li, pg, bu, se, er, hg, hla, hli, hpg, hbu, hse⟩ := rawOf_in (zs.take len) 0
    rw [er]
    have MO := hide (more_of (d := more) hg hla hli hpg hbu hse ⟨mo0, mo1⟩)
    have LI := hide hli
    have BS := hide (show (0 ≤ bu ∧ bu ≤ 65536) ∧ 0 ≤ se ∧ se ≤ 255 from ⟨hbu, hse⟩)
    clear er hg hla hpg hbu hse P1 hli
    go_wp2_with fail
    go_cut [10, 11] from 18 (fun s t wx => ∃ ns nt : Nat, s = .pointer (some ⟨ns, 0, none⟩) ∧ t = .pointer (some ⟨nt, 0, none⟩) ∧ Three w ⟨g, la, li, pg, bu, se⟩ ⟨g, la, li, pg, bu, se⟩ ⟨g, la, li, pg, bu, se⟩ w3.heap.size ns nt wx)
    case first =>
      go_region
      all_goals
        go_wp2_with fail
        go_meet
      case rel => exact ⟨_, _, rfl, rfl, three_made K3.out ⟨g, la, li, pg, bu, se⟩ 23 _ _ (by simp)⟩
      case rel => exact ⟨_, _, rfl, rfl, three_made K3.out ⟨g, la, li, pg, bu, se⟩ 23 _ _ (by simp)⟩
    case rest =>
      obtain ⟨ns, nt, rfl, rfl, T⟩ := hcut
      generalize w3.heap.size = n at *
      have HT := hide T
      have x2 := T.ss.2.2.1
      have y4 := T.tt.2.2.2.2.1
      have y5 := T.tt.2.2.2.2.2
      dsimp only [Nat.zero_add] at x2 y4 y5
      have z2 := T.fs 2
      have z4 := T.ft 4
      have z5 := T.ft 5
      have hst := T.st
      have hts : nt ≠ ns := fun h => T.st h.symm
      have l1 := LI.out.1
      have l2 := LI.out.2
      clear T
      go_upto_region 9 with fail
      have T2 : Hid (Three w ⟨g, la, li, pg, bu, se⟩ ⟨g, la, li + more, pg, bu, se⟩ ⟨g, la, li, pg, bud, seed⟩ n ns nt (((wc.setCell ⟨ns, 2, none⟩ (.int .i64 (li + more))).setCell ⟨nt, 5, none⟩ (.int .i64 seed)).setCell ⟨nt, 4, none⟩ (.int .i64 bud))) := by
        have T := HT.out
        have f : ∀ a, (((wc.setCell ⟨ns, 2, none⟩ (.int .i64 (li + more))).setCell ⟨nt, 5, none⟩ (.int .i64 seed)).setCell ⟨nt, 4, none⟩ (.int .i64 bud)).frozen? a = wc.frozen? a := fun a => by rw [World.frozen?_setCell, World.frozen?_setCell, World.frozen?_setCell]
        exact ⟨T.st, T.sn, T.tn, ((T.rr.far T.sn _).far T.tn _).far T.tn _, (((T.ss.set (li + more)).1.far hts _).far hts _), (((T.tt.far hst _).set seed).2.2.set bud).2.1, ((T.kept.setCell T.hs _).setCell T.ht _).setCell T.ht _, T.hs, T.ht, fun o => (f _).trans (T.fs o), fun o => (f _).trans (T.ft o)⟩
      generalize ((wc.setCell ⟨ns, 2, none⟩ (.int .i64 (li + more))).setCell ⟨nt, 5, none⟩ (.int .i64 seed)).setCell ⟨nt, 4, none⟩ (.int .i64 bud) = W at *
      clear x2 y4 y5 z2 z4 z5 hst hts HT
      obtain ⟨G, N, M, P, M2, l, WW, hl16, A, B, q1, q2, q3, q4, q5, q6, q7⟩ := MO.out
      have hA := hide (fun w hT => of_to _ _ _ (A bu se BS.out.1 BS.out.2).1 (A bu se BS.out.1 BS.out.2).2 w hT)
      have hB := hide (fun w hT => of_to _ _ _ B.1 B.2 w hT)
      have hC := hide (fun w hT => of_to _ _ _ (A bud seed ⟨bu0, by omega⟩ ⟨se0, se1⟩).1 (A bud seed ⟨bu0, by omega⟩ ⟨se0, se1⟩).2 w hT)
      clear A B WW MO
      generalize M + (l : Int) * (M / 2) = H1 at *
      generalize M2 + (l : Int) * (M2 / 2) = H2 at *
      obtain ⟨x0, x1, x2, x3, x4, x5⟩ := T2.out.rr
      dsimp only [Nat.zero_add] at x0 x1 x2 x3 x4 x5
      go_wp2_with fail
      refine (hA.out _ (hT.kept T2.out.kept)).mono ?_
      rintro e w4 ⟨rfl, k4⟩
      have K4 := hide (T2.out.kept.trans k4)
      have S4 := hide (T2.out.ss.kept k4)
      have T4 := hide (T2.out.tt.kept k4)
      have C4 := hide (HasC.made w4 ⟨G, N, M, l, P, bu, H1, se⟩ 31)
      clear x0 x1 x2 x3 x4 x5 k4 T2
      obtain ⟨x0, x1, x2, x3, x4, x5⟩ := S4.out
      dsimp only [Nat.zero_add] at x0 x1 x2 x3 x4 x5
      have hns := World.block_lt_of_cell? _ _ x0
      dsimp only at hns
      go_wp2_with fail
      refine (hB.out _ (hT.kept (K4.out.alloc _ _))).mono ?_
      rintro e w5 ⟨rfl, k5⟩
      have K5 := hide ((K4.out.alloc #[.int .i64 G, .int .i64 N, .int .i64 M, .int .i64 l, .int .i64 P, .int .i64 bu, .int .i64 H1, .int .i64 se] 31).trans k5)
      have T5 := hide (T4.out.kept (((Kept.refl w4).alloc _ _).trans k5))
      have A5 := hide (C4.out.kept k5)
      have B5 := hide (HasC.made w5 ⟨G, N, M2, l, P, bu, H2, se⟩ 31)
      clear x0 x1 x2 x3 x4 x5 k5 hns S4 T4 C4 K4
      generalize w4.heap.size = na at *
      obtain ⟨x0, x1, x2, x3, x4, x5⟩ := T5.out
      dsimp only [Nat.zero_add] at x0 x1 x2 x3 x4 x5
      have hnt := World.block_lt_of_cell? _ _ x0
      dsimp only at hnt
      go_wp2_with fail
      refine (hC.out _ (hT.kept (K5.out.alloc _ _))).mono ?_
      rintro e w6 ⟨rfl, k6⟩
      have K6 := hide ((K5.out.alloc #[.int .i64 G, .int .i64 N, .int .i64 M2, .int .i64 l, .int .i64 P, .int .i64 bu, .int .i64 H2, .int .i64 se] 31).trans k6)
      have A6 := hide (A5.out.kept (((Kept.refl w5).alloc _ _).trans k6))
      have B6 := hide (B5.out.kept k6)
      clear x0 x1 x2 x3 x4 x5 k6 hnt T5 A5 B5 K5
      generalize w5.heap.size = nb at *
      obtain ⟨a0, a1, a2, a3, a4, a5, a6, a7⟩ := A6.out
      obtain ⟨b0, b1, b2, b3, b4, b5, b6, b7⟩ := B6.out
      dsimp only [Nat.zero_add] at a0 a1 a2 a3 a4 a5 a6 a7 b0 b1 b2 b3 b4 b5 b6 b7
      have hna := World.block_lt_of_cell? _ _ a0
      have hnb := World.block_lt_of_cell? _ _ b0
      dsimp only at hna hnb
      clear A6 B6 hA hB hC
      go_wp2
      go_ret
      exact ⟨rfl, K6.out.alloc _ _⟩

set_option linter.unusedVariables false
set_option maxRecDepth 100000 in
theorem confMore_lifted (os : Os) (started : os.Started) (H : Type) (enc : TypeId × Value → H) :
    ReturnsInHanded {} Tryd.checked os 6 .any (fun w args => (Rows.confMoreSpec.pre enc Tryd.prog Tryd.f6 [] false w args ∧ laidMetH Tryd.prog laid1 w) ∧ sizedMet enc Tryd.prog Tryd.f6 (OpenSpec.ofChange Rows.confMoreSpec) false w args)
      (Rows.confMoreSpec.post enc Tryd.prog Tryd.f6 false true false false) := by
  refine returnsInHanded_of_change_and (C := Tryd.checked) (X := fun w _ => laidMetH Tryd.prog laid1 w) (fun _ _ _ hh h => h.of_heap hh) own started (by kernel_rfl) Tryd.func6
    (ChangeSpec.witness_shaped (enc := enc) (C := Tryd.checked) (os := os) (X := fun w _ => laidMetH Tryd.prog laid1 w) false (World.doorLaid Tryd.prog 400 os) #[.slice none 0 0, .int .u8 0, .int .u8 0, .int .u8 0] 8 rfl (World.shaped_of_RefB (by kernel_rfl) (by kernel_rfl)) (by kernel_rfl) (by kernel_rfl) (by kernel_rfl) (door_met os _)) ?_
  intro W base args ds gs before hval0 hW _ _ hL _
  have hval : ∀ (j : Nat) t v, Tryd.f6.params[j]? = some t → args[j]? = some v → Value.okWide Tryd.prog W .any base t v := hval0
  have hW' := hW
  obtain ⟨p, q, hA0, hV, rfl, hfz, hnd⟩ := hW
  have hA : DataW.TrodAll enc Tryd.prog W 0 (fun _ => true) true Tryd.f6.params.toList args.toList ds p := hA0
  rw [Tryd.params6] at hA hval
  obtain ⟨v0, vs0, d0, ds0, p0, q0, hargs, rfl, rfl, h0, r0⟩ := trodAll_cons hA
  obtain ⟨v1, vs1, d1, ds1, p1, q1, rfl, rfl, rfl, h1, r1⟩ := trodAll_cons r0
  obtain ⟨v2, vs2, d2, ds2, p2, q2, rfl, rfl, rfl, h2, r2⟩ := trodAll_cons r1
  obtain ⟨v3, vs3, d3, ds3, p3, q3, rfl, rfl, rfl, h3, r3⟩ := trodAll_cons r2
  obtain ⟨rfl, rfl, rfl⟩ := trodAll_nil r3
  obtain rfl : args = #[v0, v1, v2, v3] := by cases args; simp_all
  obtain ⟨rfl, rfl⟩ := trodVars_none hV
  have lt0 : ∀ x ∈ p0, x.block < W.heap.size := by obtain ⟨m, hm⟩ := h0; exact DataW.trod_lt m _ _ _ hm
  have lt1 : ∀ x ∈ p1, x.block < W.heap.size := by obtain ⟨m, hm⟩ := h1; exact DataW.trod_lt m _ _ _ hm
  have lt2 : ∀ x ∈ p2, x.block < W.heap.size := by obtain ⟨m, hm⟩ := h2; exact DataW.trod_lt m _ _ _ hm
  have lt3 : ∀ x ∈ p3, x.block < W.heap.size := by obtain ⟨m, hm⟩ := h3; exact DataW.trod_lt m _ _ _ hm
  obtain ⟨a0, len0, cap0, rfl⟩ := okWide_slice Tryd.underlying24 (hval 0 24 v0 rfl rfl)
  obtain ⟨z0, w0⟩ := isRow_of Tryd.underlying24 Tryd.underlying5 (by kernel_rfl) h0
  obtain ⟨a1, rfl, rfl, rfl, w1⟩ := open_int Tryd.underlying5 (hval 1 5 v1 rfl rfl) h1
  obtain ⟨a2, rfl, rfl, rfl, w2⟩ := open_int Tryd.underlying5 (hval 2 5 v2 rfl rfl) h2
  obtain ⟨a3, rfl, rfl, rfl, w3⟩ := open_int Tryd.underlying5 (hval 3 5 v3 rfl rfl) h3
  clear hA0 hval0
  have hT := tab_of_laid hL
  refine (confMore_walk a0 len0 cap0 z0 a1 (bounds_u8 w1).1 (bounds_u8 w1).2 a2 (bounds_u8 w2).1 (bounds_u8 w2).2 a3 (bounds_u8 w3).1 (bounds_u8 w3).2 W w0 hT).mono fun e W' ⟨he, hg⟩ => ?_
  subst he
  exact ⟨_, rfl, _, _, _, [], _, [], hW', trodAll_mk1 (shut_bool Tryd.underlying4 _), (trodAll_cons_mk (Below.trod laidOut (by kernel_rfl) (of_decide_eq_true (by kernel_rfl)) h0 hg.1 lt0) (trodAll_cons_mk (Below.trod laidOut (by kernel_rfl) (of_decide_eq_true (by kernel_rfl)) h1 hg.1 lt1) (trodAll_cons_mk (Below.trod laidOut (by kernel_rfl) (of_decide_eq_true (by kernel_rfl)) h2 hg.1 lt2) (trodAll_cons_mk (Below.trod laidOut (by kernel_rfl) (of_decide_eq_true (by kernel_rfl)) h3 hg.1 lt3) trodAll_mk0)))), rfl, hg.1.frame _, fun h => by cases h⟩

theorem confMore_row : Rows.ConfMoreSaid :=
  OpenClaim.holds_of_wide 6 Tryd.f6 rfl rfl rfl rfl rfl rfl rfl ⟨rfl, rfl, rfl, rfl, rfl⟩ rfl rfl rfl rfl rfl (by kernel_rfl) Tryd.func6 (by kernel_rfl)
    (of_decide_eq_true (by kernel_rfl)) (by unfold Func.isWrapper; first | (rw [if_pos (by decide +kernel)]; kernel_rfl) | (rw [if_neg (by decide +kernel)]; exact ⟨rfl, rfl⟩))
    (fun os started H enc _ => confMore_lifted os started H enc)

theorem confMore_holds : Rows.ConfMoreCardSaid :=
  Claim7.holds_tied_plain_at .later [] [.data] true (true, "5d179eec2e484eb2795ae111637b29105e9fc6925278dbcef82113e027d39594") false
    confMore_row (fun _ h => by cases h) (by kernel_rfl) (fun _ h => by cases h) confMore_row_tie rfl ⟨rfl, rfl⟩ (by kernel_rfl) rfl
    (fun f fn hf hfn => by
      obtain rfl : f = 6 := Option.some.inj ((show Tryd.prog.funcNamed "hodman/hodmanlaw2.ConfMore" = some 6 by kernel_rfl).symm.trans hf) |>.symm
      obtain rfl : fn = Tryd.f6 := (Option.some.inj (Tryd.func6.symm.trans hfn)).symm
      exact ⟨by kernel_rfl, fun j t ht => by
        rw [Tryd.params6] at ht
        have hm : t ∈ [24, 5, 5, 5] := by simpa using Array.mem_of_getElem? ht
        have hall : ([24, 5, 5, 5].all fun u => !Tryd.prog.wantsStandIn u) = true := by kernel_rfl
        exact (show Tryd.prog.wantsStandIn t = false by simpa using List.all_eq_true.1 hall t hm)⟩)
    (by kernel_rfl)
#print axioms confMore_holds
end Go.Proofs.YtekffikkbiohnaaDoor
