/- Proved here: hodmanlaw7.ClassMany returns true at every slice of bytes and every three bytes, in any memory in which the library's table math/bits.deBruijn64tab lies as its initialiser lays it: so many of so much are charged as their product, and more is never charged less. No condition besides. -/
import Derived.Test.YtnknifhbbkccoaaDoorClassLaw
import Derived.Test.YtnknifhbbkccoaaDoorPlayConf
import Derived.Test.YtnknifhbbkccoaaDoorPlayIn
import Derived.Test.YtnknifhbbkccoaaDoorClassMore
import Derived.Test.YtnknifhbbkccoaaDoorCards
import Derived.Test.YtnknifhbbkccoaaDoorTie
namespace Go.Proofs.YtnknifhbbkccoaaDoor
open Go.ChangeShapes Go.WideShapes Go.ChangeAt Go.RowKit

set_option maxRecDepth 100000 in
set_option maxHeartbeats 2000000 in
theorem classMany_walk (a : Option Addr) (len cap : Nat) (zs : List Int) (n : Int) (n0 : 0 ≤ n) (n1 : n ≤ 255) (s : Int) (s0 : 0 ≤ s) (s1 : s ≤ 255) (more : Int) (m0 : 0 ≤ more) (m1 : more ≤ 255) (w : World) (hrow : IsRow .u8 w a len cap zs) (hT : Tab w) :
    Calls Tryd.prog 6 #[.slice a len cap, .int .u8 n, .int .u8 s, .int .u8 more] w fun e w' => e = .returned (.bool true) ∧ Kept w w' := by
  have hR := hide hrow
  clear hrow
  by_cases hlen : 6 < len
  · have hl : (6 : Int) < (len : Int) := by omega
    go_enter Tryd.func6, Tryd.ntmps6
    go_wp2_with fail
    refine (begun7_true _ hT).mono ?_
    rintro e w1 ⟨rfl, k1⟩
    have K1 := hide k1; clear k1
    go_wp2
    go_ret
    exact ⟨rfl, K1.out⟩
  · have hl : (len : Int) ≤ 6 := by omega
    go_enter Tryd.func6, Tryd.ntmps6
    go_wp2_with fail
    refine (begun7_true _ hT).mono ?_
    rintro e w1 ⟨rfl, k1⟩
    have K1 := hide k1; clear k1
    have P1 := hide (picks_made hR.out K1.out)
    go_wp2_with fail
    refine (made_any a len cap _).mono ?_
    rintro e w2 ⟨rfl, rfl⟩
    go_wp2_with fail
    refine (conf_any w1.heap.size (zs.take len) 0 false _ (by rw [Nat.zero_min]; exact P1.out)).mono ?_
    rintro e w3 ⟨rfl, _, E3⟩
    have K3 := hide (Else.kept (K1.out.alloc #[.slice a len cap, .int .i64 0] 45) (K1.out.1.size) E3)
    clear E3 P1 hR
    obtain ⟨pa, l, F⟩ := fit_play (zs.take len) 0
    have F := hide F
    generalize rawOf (zs.take len) 0 false = r at *
    generalize ofC r = c at *
    obtain ⟨p, hp, p0, p1, hpr⟩ := many_pr (N := c.n) n0 n1 s0 s1
    have hpw : wrap64 (n * s) = p := by rw [hp]; unfold wrap64; omega
    have hmw : wrap64 (s * n) = p := by rw [Int.mul_comm, hp]; unfold wrap64; omega
    have hch := many_ch F.out s0 m0
    have hg0 : (c.g == 0) = false := by have := F.out.g1; rw [beq_eq_false_iff_ne]; omega
    have TK : Hid (∀ w', Kept w w' → Tab w') := fun w' k => hT.kept k
    have PA := hide (fun w => product_any c n s w (by omega) (by omega) (by omega) (by omega))
    have PB := hide (fun w => product_any c s n w (by omega) (by omega) (by omega) (by omega))
    have CA := hide (fun w hT => charge_any c s 1 w F.out.g1 (by have := F.out.gn; have := F.out.n16; omega) F.out.n16 (by decide) (by decide) hT)
    have CB := hide (fun w hT => charge_any c (s + more) 1 w F.out.g1 (by have := F.out.gn; have := F.out.n16; omega) F.out.n16 (by decide) (by decide) hT)
    have HP := hide hp
    have g16 : c.g ≤ 65536 := by have := F.out.gn; have := F.out.n16; omega
    clear hp
    obtain ⟨g, la, li, pg, bu, se⟩ := r
    obtain ⟨cg, cn, cm, cl, cp, cb, ch, cs⟩ := c
    dsimp only at hpr hch hg0 g16 PA PB CA CB
    generalize prE cn n s = e1 at *
    generalize prE cn s n = e2 at *
    generalize prV cn n s = v1 at *
    generalize prV cn s n = v2 at *
    generalize chE cn s 1 = e3 at *
    generalize chE cn (s + more) 1 = e4 at *
    generalize chV cg cn s 1 = v3 at *
    generalize chV cg cn (s + more) 1 = v4 at *
    have FIN : Hid (∀ o1 o2 o3 o4 o5 o6, Kept w ((((((w3.alloc (.cells o1 25)).alloc (.cells o2 27)).alloc (.cells o3 25)).alloc (.cells o4 25)).alloc (.cells o5 25)).alloc (.cells o6 25))) := fun _ _ _ _ _ _ => (((((K3.out.alloc _ _).alloc _ _).alloc _ _).alloc _ _).alloc _ _).alloc _ _
    rcases hpr with ⟨q0, rfl, rfl, rfl, rfl⟩ | ⟨q0, rfl, rfl, rfl, rfl⟩
    · rcases hch with rfl | ⟨rfl, rfl, h1, h2, h3⟩
      · skip
        go_wp2_with fail
        refine (PA.out _).mono ?_
        rintro e w4 ⟨rfl, rfl⟩
        go_wp2_with fail
        refine (PB.out _).mono ?_
        rintro e w4 ⟨rfl, rfl⟩
        go_wp2_with fail
        refine (CA.out _ (TK.out _ ((((K3.out.alloc _ _).alloc _ _).alloc _ _).alloc _ _))).mono ?_
        rintro e w4 ⟨rfl, rfl⟩
        go_wp2_with fail
        refine (CB.out _ (TK.out _ (((((K3.out.alloc _ _).alloc _ _).alloc _ _).alloc _ _).alloc _ _))).mono ?_
        rintro e w4 ⟨rfl, rfl⟩
        go_wp2
        go_ret
        exact ⟨rfl, FIN.out _ _ _ _ _ _⟩
      · have hd : decide (v4 ≤ 2 * max (s + more) cg) = true := decide_eq_true h2
        go_wp2_with fail
        refine (PA.out _).mono ?_
        rintro e w4 ⟨rfl, rfl⟩
        go_wp2_with fail
        refine (PB.out _).mono ?_
        rintro e w4 ⟨rfl, rfl⟩
        go_wp2_with fail
        refine (CA.out _ (TK.out _ ((((K3.out.alloc _ _).alloc _ _).alloc _ _).alloc _ _))).mono ?_
        rintro e w4 ⟨rfl, rfl⟩
        go_wp2_with fail
        refine (CB.out _ (TK.out _ (((((K3.out.alloc _ _).alloc _ _).alloc _ _).alloc _ _).alloc _ _))).mono ?_
        rintro e w4 ⟨rfl, rfl⟩
        go_wp2
        go_ret
        exact ⟨rfl, FIN.out _ _ _ _ _ _⟩
    · rcases hch with rfl | ⟨rfl, rfl, h1, h2, h3⟩
      · skip
        go_wp2_with fail
        refine (PA.out _).mono ?_
        rintro e w4 ⟨rfl, rfl⟩
        go_wp2_with fail
        refine (PB.out _).mono ?_
        rintro e w4 ⟨rfl, rfl⟩
        go_wp2_with fail
        refine (CA.out _ (TK.out _ ((((K3.out.alloc _ _).alloc _ _).alloc _ _).alloc _ _))).mono ?_
        rintro e w4 ⟨rfl, rfl⟩
        go_wp2_with fail
        refine (CB.out _ (TK.out _ (((((K3.out.alloc _ _).alloc _ _).alloc _ _).alloc _ _).alloc _ _))).mono ?_
        rintro e w4 ⟨rfl, rfl⟩
        go_wp2
        go_ret
        exact ⟨rfl, FIN.out _ _ _ _ _ _⟩
      · have hd : decide (v4 ≤ 2 * max (s + more) cg) = true := decide_eq_true h2
        go_wp2_with fail
        refine (PA.out _).mono ?_
        rintro e w4 ⟨rfl, rfl⟩
        go_wp2_with fail
        refine (PB.out _).mono ?_
        rintro e w4 ⟨rfl, rfl⟩
        go_wp2_with fail
        refine (CA.out _ (TK.out _ ((((K3.out.alloc _ _).alloc _ _).alloc _ _).alloc _ _))).mono ?_
        rintro e w4 ⟨rfl, rfl⟩
        go_wp2_with fail
        refine (CB.out _ (TK.out _ (((((K3.out.alloc _ _).alloc _ _).alloc _ _).alloc _ _).alloc _ _))).mono ?_
        rintro e w4 ⟨rfl, rfl⟩
        go_wp2
        go_ret
        exact ⟨rfl, FIN.out _ _ _ _ _ _⟩

set_option linter.unusedVariables false
set_option maxRecDepth 100000 in
theorem classMany_lifted (os : Os) (started : os.Started) (H : Type) (enc : TypeId × Value → H) :
    ReturnsInHanded {} Tryd.checked os 6 .any (fun w args => (Rows.classManySpec.pre enc Tryd.prog Tryd.f6 [] false w args ∧ laidMetH Tryd.prog laid1 w) ∧ sizedMet enc Tryd.prog Tryd.f6 (OpenSpec.ofChange Rows.classManySpec) false w args)
      (Rows.classManySpec.post enc Tryd.prog Tryd.f6 false true false false) := by
  refine returnsInHanded_of_change_and (C := Tryd.checked) (X := fun w _ => laidMetH Tryd.prog laid1 w) (fun _ _ _ hh h => h.of_heap hh) own started (by kernel_rfl) Tryd.func6
    (ChangeSpec.witness_shaped (enc := enc) (C := Tryd.checked) (os := os) (X := fun w _ => laidMetH Tryd.prog laid1 w) false (World.doorLaid Tryd.prog 400 os) #[.slice none 0 0, .int .u8 0, .int .u8 0, .int .u8 0] 8 rfl (World.shaped_of_RefB (by kernel_rfl) (by kernel_rfl)) (by kernel_rfl) (by kernel_rfl) (by kernel_rfl) (door_met os _)) ?_
  intro W base args ds gs before hval0 hW _ _ hL _
  have hval : ∀ (j : Nat) t v, Tryd.f6.params[j]? = some t → args[j]? = some v → Value.okWide Tryd.prog W .any base t v := hval0
  have hW' := hW
  obtain ⟨p, q, hA0, hV, rfl, hfz, hnd⟩ := hW
  have hA : DataW.TrodAll enc Tryd.prog W 0 (fun _ => true) true Tryd.f6.params.toList args.toList ds p := hA0
  rw [Tryd.params6] at hA hval
  obtain ⟨v0, vs0, d0, ds0, p0, q0, hargs, rfl, rfl, h0, r0⟩ := trodAll_cons hA
  obtain ⟨v1, vs1, d1, ds1, p1, q1, rfl, rfl, rfl, h1, r1⟩ := trodAll_cons r0
  obtain ⟨v2, vs2, d2, ds2, p2, q2, rfl, rfl, rfl, h2, r2⟩ := trodAll_cons r1
  obtain ⟨v3, vs3, d3, ds3, p3, q3, rfl, rfl, rfl, h3, r3⟩ := trodAll_cons r2
  obtain ⟨rfl, rfl, rfl⟩ := trodAll_nil r3
  obtain rfl : args = #[v0, v1, v2, v3] := by cases args; simp_all
  obtain ⟨rfl, rfl⟩ := trodVars_none hV
  have lt0 : ∀ x ∈ p0, x.block < W.heap.size := by obtain ⟨m, hm⟩ := h0; exact DataW.trod_lt m _ _ _ hm
  have lt1 : ∀ x ∈ p1, x.block < W.heap.size := by obtain ⟨m, hm⟩ := h1; exact DataW.trod_lt m _ _ _ hm
  have lt2 : ∀ x ∈ p2, x.block < W.heap.size := by obtain ⟨m, hm⟩ := h2; exact DataW.trod_lt m _ _ _ hm
  have lt3 : ∀ x ∈ p3, x.block < W.heap.size := by obtain ⟨m, hm⟩ := h3; exact DataW.trod_lt m _ _ _ hm
  obtain ⟨a0, len0, cap0, rfl⟩ := okWide_slice Tryd.underlying22 (hval 0 22 v0 rfl rfl)
  obtain ⟨z0, w0⟩ := isRow_of Tryd.underlying22 Tryd.underlying5 (by kernel_rfl) h0
  obtain ⟨a1, rfl, rfl, rfl, w1⟩ := open_int Tryd.underlying5 (hval 1 5 v1 rfl rfl) h1
  obtain ⟨a2, rfl, rfl, rfl, w2⟩ := open_int Tryd.underlying5 (hval 2 5 v2 rfl rfl) h2
  obtain ⟨a3, rfl, rfl, rfl, w3⟩ := open_int Tryd.underlying5 (hval 3 5 v3 rfl rfl) h3
  clear hA0 hval0
  have hT := tab_of_laid hL
  refine (classMany_walk a0 len0 cap0 z0 a1 (bounds_u8 w1).1 (bounds_u8 w1).2 a2 (bounds_u8 w2).1 (bounds_u8 w2).2 a3 (bounds_u8 w3).1 (bounds_u8 w3).2 W w0 hT).mono fun e W' ⟨he, hg⟩ => ?_
  subst he
  exact ⟨_, rfl, _, _, _, [], _, [], hW', trodAll_mk1 (shut_bool Tryd.underlying4 _), (trodAll_cons_mk (Below.trod laidOut (by kernel_rfl) (of_decide_eq_true (by kernel_rfl)) h0 hg.1 lt0) (trodAll_cons_mk (Below.trod laidOut (by kernel_rfl) (of_decide_eq_true (by kernel_rfl)) h1 hg.1 lt1) (trodAll_cons_mk (Below.trod laidOut (by kernel_rfl) (of_decide_eq_true (by kernel_rfl)) h2 hg.1 lt2) (trodAll_cons_mk (Below.trod laidOut (by kernel_rfl) (of_decide_eq_true (by kernel_rfl)) h3 hg.1 lt3) trodAll_mk0)))), rfl, hg.1.frame _, fun h => by cases h⟩

theorem classMany_row : Rows.ClassManySaid :=
  OpenClaim.holds_of_wide 6 Tryd.f6 rfl rfl rfl rfl rfl rfl rfl ⟨rfl, rfl, rfl, rfl, rfl⟩ rfl rfl rfl rfl rfl (by kernel_rfl) Tryd.func6 (by kernel_rfl)
    (of_decide_eq_true (by kernel_rfl)) (by unfold Func.isWrapper; first | (rw [if_pos (by decide +kernel)]; kernel_rfl) | (rw [if_neg (by decide +kernel)]; exact ⟨rfl, rfl⟩))
    (fun os started H enc _ => classMany_lifted os started H enc)

theorem classMany_holds : Rows.ClassManyCardSaid :=
  Claim7.holds_tied_plain_at .later [] [.data] true (true, "3ecdaab91720fd547ac3dbeea450085eaae0f8c18354cb460ea0ea16e3ad9c32") false
    classMany_row (fun _ h => by cases h) (by kernel_rfl) (fun _ h => by cases h) classMany_row_tie rfl ⟨rfl, rfl⟩ (by kernel_rfl) rfl
    (fun f fn hf hfn => by
      obtain rfl : f = 6 := Option.some.inj ((show Tryd.prog.funcNamed "hodman/hodmanlaw7.ClassMany" = some 6 by kernel_rfl).symm.trans hf) |>.symm
      obtain rfl : fn = Tryd.f6 := (Option.some.inj (Tryd.func6.symm.trans hfn)).symm
      exact ⟨by kernel_rfl, fun j t ht => by
        rw [Tryd.params6] at ht
        have hm : t ∈ [22, 5, 5, 5] := by simpa using Array.mem_of_getElem? ht
        have hall : ([22, 5, 5, 5].all fun u => !Tryd.prog.wantsStandIn u) = true := by kernel_rfl
        exact (show Tryd.prog.wantsStandIn t = false by simpa using List.all_eq_true.1 hall t hm)⟩)
    (by kernel_rfl)
#print axioms classMany_holds
end Go.Proofs.YtnknifhbbkccoaaDoor
