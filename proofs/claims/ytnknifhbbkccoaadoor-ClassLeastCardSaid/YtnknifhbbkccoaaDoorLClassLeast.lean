/- Proved here: hodmanlaw7.ClassLeast returns true at every slice of bytes and every two bytes, in any memory in which the library's table math/bits.deBruijn64tab lies as its initialiser lays it: what is charged is a size of a class, holds what is asked for and its alignment, and none half as great would. No condition besides. -/
import Derived.Test.YtnknifhbbkccoaaDoorClassLaw
import Derived.Test.YtnknifhbbkccoaaDoorPlayConf
import Derived.Test.YtnknifhbbkccoaaDoorPlayIn
import Derived.Test.YtnknifhbbkccoaaDoorClassMore
import Derived.Test.YtnknifhbbkccoaaDoorCards
import Derived.Test.YtnknifhbbkccoaaDoorTie
namespace Go.Proofs.YtnknifhbbkccoaaDoor
open Go.ChangeShapes Go.WideShapes Go.ChangeAt Go.RowKit

set_option maxRecDepth 100000 in
set_option maxHeartbeats 2000000 in
theorem classLeast_walk (a : Option Addr) (len cap : Nat) (zs : List Int) (s : Int) (s0 : 0 ≤ s) (s1 : s ≤ 255) (al : Int) (a0 : 0 ≤ al) (a1 : al ≤ 255) (w : World) (hrow : IsRow .u8 w a len cap zs) (hT : Tab w) :
    Calls Tryd.prog 4 #[.slice a len cap, .int .u8 s, .int .u8 al] w fun e w' => e = .returned (.bool true) ∧ Kept w w' := by
  have hR := hide hrow
  clear hrow
  by_cases hlen : 6 < len
  · have hl : (6 : Int) < (len : Int) := by omega
    go_enter Tryd.func4, Tryd.ntmps4
    go_wp2_with fail
    refine (begun7_true _ hT).mono ?_
    rintro e w1 ⟨rfl, k1⟩
    have K1 := hide k1; clear k1
    go_wp2
    go_ret
    exact ⟨rfl, K1.out⟩
  · have hl : (len : Int) ≤ 6 := by omega
    go_enter Tryd.func4, Tryd.ntmps4
    go_wp2_with fail
    refine (begun7_true _ hT).mono ?_
    rintro e w1 ⟨rfl, k1⟩
    have K1 := hide k1; clear k1
    have P1 := hide (picks_made hR.out K1.out)
    go_wp2_with fail
    refine (made_any a len cap _).mono ?_
    rintro e w2 ⟨rfl, rfl⟩
    go_wp2_with fail
    refine (conf_any w1.heap.size (zs.take len) 0 false _ (by rw [Nat.zero_min]; exact P1.out)).mono ?_
    rintro e w3 ⟨rfl, _, E3⟩
    have K3 := hide (Else.kept (K1.out.alloc #[.slice a len cap, .int .i64 0] 45) (K1.out.1.size) E3)
    clear E3 P1 hR
    obtain ⟨pa, l, F⟩ := fit_play (zs.take len) 0
    have F := hide F
    generalize rawOf (zs.take len) 0 false = r at *
    generalize ofC r = c at *
    have hg0 : (c.g == 0) = false := by have := F.out.g1; rw [beq_eq_false_iff_ne]; omega
    have TK : Hid (∀ w', Kept w w' → Tab w') := fun w' k => hT.kept k
    have CA := hide (fun n a w h h' hT => charge_any c n a w F.out.g1 (by have := F.out.gn; have := F.out.n16; omega) F.out.n16 h h' hT)
    have SA := hide (fun x w hT => class_any c pa l x w F.out.a16 F.out.l16 F.out.g F.out.el hT)
    have cn1 : 1 ≤ c.n := by have := F.out.gn; have := F.out.g1; omega
    have cn2 := F.out.n16
    obtain ⟨g, la, li, pg, bu, se⟩ := r
    obtain ⟨cg, cn, cm, cl, cp, cb, ch, cs⟩ := c
    dsimp only at hg0 cn1 cn2 CA SA
    have ejn : (al % 8).toNat ≤ 7 := by omega
    have eA : Hid (wrap64 (2 ^ (al % 8).toNat) = ((2 ^ (al % 8).toNat : Nat) : Int)) := by
      have h := pow16 (show (al % 8).toNat ≤ 16 by omega)
      rw [← pow_cast]
      exact hide (by unfold wrap64; omega)
    have en0 : 0 ≤ s % (cn + 3) := Int.emod_nonneg _ (by omega)
    have en1 : s % (cn + 3) ≤ 65538 := by have := Int.emod_lt_of_pos s (show 0 < cn + 3 by omega); omega
    have L := hide (fun n1 h => least_ch F.out (n := s % (cn + 3)) (j := (al % 8).toNat) en0 n1 ejn h)
    have CC := hide (ch_cases cg cn (s % (cn + 3)) ((2 ^ (al % 8).toNat : Nat) : Int))
    have LG := hide (log_fits (v := ((2 ^ (al % 8).toNat : Nat) : Int)) (k := (al % 8).toNat) (by omega) rfl).1
    have pA := pow16 (show (al % 8).toNat ≤ 16 by omega)
    have pA1 : 1 ≤ ((2 ^ (al % 8).toNat : Nat) : Int) := by omega
    have pA2 : ((2 ^ (al % 8).toNat : Nat) : Int) ≤ 65536 := by omega
    clear pA
    go_wp2_with fail
    rw [eA.out]
    clear eA ejn
    generalize ((2 ^ (al % 8).toNat : Nat) : Int) = A at *
    generalize s % (cn + 3) = n at *
    refine (CA.out n A _ (by omega) (by omega) (TK.out _ ((K3.out.alloc _ _).alloc _ _))).mono ?_
    rintro e w4 ⟨rfl, rfl⟩
    have FIN : Hid (∀ o1 o2 o3, Kept w (((w3.alloc (.cells o1 25)).alloc (.cells o2 27)).alloc (.cells o3 25))) := fun _ _ _ => ((K3.out.alloc _ _).alloc _ _).alloc _ _
    rcases Int.lt_or_le cn A with hA | hA
    · have hc : chE cn n A = 3 ∧ chV cg cn n A = 0 := by
        rcases CC.out with ⟨a, b, _⟩ | ⟨_, _, _, h, _⟩ | ⟨_, _, _, h, _⟩
        · exact ⟨a, b⟩
        · omega
        · omega
      rw [hc.1, hc.2]
      clear hc CC L LG
      go_wp2
      go_ret
      exact ⟨rfl, FIN.out _ _ _⟩
    rcases Int.lt_or_le cn n with hn | hn
    · have hc : chE cn n A = 4 ∧ chV cg cn n A = 0 := by
        rcases CC.out with ⟨_, _, h⟩ | ⟨a, b, _⟩ | ⟨_, _, _, _, _, h⟩
        · rcases h with h | h
          · rw [LG.out] at h; cases h
          · omega
        · exact ⟨a, b⟩
        · omega
      rw [hc.1, hc.2]
      clear hc CC L LG
      go_wp2
      go_ret
      exact ⟨rfl, FIN.out _ _ _⟩
    obtain ⟨k, X, q1, q2, q3, q4, q5, q6, q7, q8, q9, q10, q11, q12⟩ := L.out hn hA
    rw [q2, q3]
    have SX := hide (fun w hT => class_to ⟨cg, cn, cm, cl, cp, cb, ch, cs⟩ pa l X k true q5 q4 w F.out.a16 F.out.l16 F.out.g F.out.el hT)
    have hcl : (k : Int) ≤ cl := by have : cl = l := F.out.el; omega
    have k62 : (k : Int) < 63 := by have := F.out.l16; omega
    have hsh : wrap64 (cg * 2 ^ k) = X := by rw [q11]; unfold wrap64; omega
    have FI2 : Hid (∀ o1 o2 o3 o4, Kept w ((((w3.alloc (.cells o1 25)).alloc (.cells o2 27)).alloc (.cells o3 25)).alloc (.cells o4 25))) := fun _ _ _ _ => (((K3.out.alloc _ _).alloc _ _).alloc _ _).alloc _ _
    clear CC L LG q2 q3 q4 q5 q11 FIN
    go_wp2_with fail
    refine (SX.out _ (TK.out _ (((K3.out.alloc _ _).alloc _ _).alloc _ _))).mono ?_
    rintro e w5 ⟨rfl, rfl⟩
    by_cases hXg : X = cg
    · have b1 : (X == cg) = true := by simpa using hXg
      clear q12 hXg
      go_wp2
      go_ret
      exact ⟨rfl, FI2.out _ _ _ _⟩
    · have b1 : (X == cg) = false := by simpa using hXg
      by_cases hXn : X / 2 < n
      · clear q12 hXg
        go_wp2
        go_ret
        exact ⟨rfl, FI2.out _ _ _ _⟩
      · have hXa : X / 2 < A := by omega
        have hXn' : n ≤ X / 2 := by omega
        clear q12 hXg hXn
        go_wp2
        go_ret
        exact ⟨rfl, FI2.out _ _ _ _⟩

set_option linter.unusedVariables false
set_option maxRecDepth 100000 in
theorem classLeast_lifted (os : Os) (started : os.Started) (H : Type) (enc : TypeId × Value → H) :
    ReturnsInHanded {} Tryd.checked os 4 .any (fun w args => (Rows.classLeastSpec.pre enc Tryd.prog Tryd.f4 [] false w args ∧ laidMetH Tryd.prog laid1 w) ∧ sizedMet enc Tryd.prog Tryd.f4 (OpenSpec.ofChange Rows.classLeastSpec) false w args)
      (Rows.classLeastSpec.post enc Tryd.prog Tryd.f4 false true false false) := by
  refine returnsInHanded_of_change_and (C := Tryd.checked) (X := fun w _ => laidMetH Tryd.prog laid1 w) (fun _ _ _ hh h => h.of_heap hh) own started (by kernel_rfl) Tryd.func4
    (ChangeSpec.witness_shaped (enc := enc) (C := Tryd.checked) (os := os) (X := fun w _ => laidMetH Tryd.prog laid1 w) false (World.doorLaid Tryd.prog 400 os) #[.slice none 0 0, .int .u8 0, .int .u8 0] 8 rfl (World.shaped_of_RefB (by kernel_rfl) (by kernel_rfl)) (by kernel_rfl) (by kernel_rfl) (by kernel_rfl) (door_met os _)) ?_
  intro W base args ds gs before hval0 hW _ _ hL _
  have hval : ∀ (j : Nat) t v, Tryd.f4.params[j]? = some t → args[j]? = some v → Value.okWide Tryd.prog W .any base t v := hval0
  have hW' := hW
  obtain ⟨p, q, hA0, hV, rfl, hfz, hnd⟩ := hW
  have hA : DataW.TrodAll enc Tryd.prog W 0 (fun _ => true) true Tryd.f4.params.toList args.toList ds p := hA0
  rw [Tryd.params4] at hA hval
  obtain ⟨v0, vs0, d0, ds0, p0, q0, hargs, rfl, rfl, h0, r0⟩ := trodAll_cons hA
  obtain ⟨v1, vs1, d1, ds1, p1, q1, rfl, rfl, rfl, h1, r1⟩ := trodAll_cons r0
  obtain ⟨v2, vs2, d2, ds2, p2, q2, rfl, rfl, rfl, h2, r2⟩ := trodAll_cons r1
  obtain ⟨rfl, rfl, rfl⟩ := trodAll_nil r2
  obtain rfl : args = #[v0, v1, v2] := by cases args; simp_all
  obtain ⟨rfl, rfl⟩ := trodVars_none hV
  have lt0 : ∀ x ∈ p0, x.block < W.heap.size := by obtain ⟨m, hm⟩ := h0; exact DataW.trod_lt m _ _ _ hm
  have lt1 : ∀ x ∈ p1, x.block < W.heap.size := by obtain ⟨m, hm⟩ := h1; exact DataW.trod_lt m _ _ _ hm
  have lt2 : ∀ x ∈ p2, x.block < W.heap.size := by obtain ⟨m, hm⟩ := h2; exact DataW.trod_lt m _ _ _ hm
  obtain ⟨a0, len0, cap0, rfl⟩ := okWide_slice Tryd.underlying22 (hval 0 22 v0 rfl rfl)
  obtain ⟨z0, w0⟩ := isRow_of Tryd.underlying22 Tryd.underlying5 (by kernel_rfl) h0
  obtain ⟨a1, rfl, rfl, rfl, w1⟩ := open_int Tryd.underlying5 (hval 1 5 v1 rfl rfl) h1
  obtain ⟨a2, rfl, rfl, rfl, w2⟩ := open_int Tryd.underlying5 (hval 2 5 v2 rfl rfl) h2
  clear hA0 hval0
  have hT := tab_of_laid hL
  refine (classLeast_walk a0 len0 cap0 z0 a1 (bounds_u8 w1).1 (bounds_u8 w1).2 a2 (bounds_u8 w2).1 (bounds_u8 w2).2 W w0 hT).mono fun e W' ⟨he, hg⟩ => ?_
  subst he
  exact ⟨_, rfl, _, _, _, [], _, [], hW', trodAll_mk1 (shut_bool Tryd.underlying4 _), (trodAll_cons_mk (Below.trod laidOut (by kernel_rfl) (of_decide_eq_true (by kernel_rfl)) h0 hg.1 lt0) (trodAll_cons_mk (Below.trod laidOut (by kernel_rfl) (of_decide_eq_true (by kernel_rfl)) h1 hg.1 lt1) (trodAll_cons_mk (Below.trod laidOut (by kernel_rfl) (of_decide_eq_true (by kernel_rfl)) h2 hg.1 lt2) trodAll_mk0))), rfl, hg.1.frame _, fun h => by cases h⟩

theorem classLeast_row : Rows.ClassLeastSaid :=
  OpenClaim.holds_of_wide 4 Tryd.f4 rfl rfl rfl rfl rfl rfl rfl ⟨rfl, rfl, rfl, rfl, rfl⟩ rfl rfl rfl rfl rfl (by kernel_rfl) Tryd.func4 (by kernel_rfl)
    (of_decide_eq_true (by kernel_rfl)) (by unfold Func.isWrapper; first | (rw [if_pos (by decide +kernel)]; kernel_rfl) | (rw [if_neg (by decide +kernel)]; exact ⟨rfl, rfl⟩))
    (fun os started H enc _ => classLeast_lifted os started H enc)

theorem classLeast_holds : Rows.ClassLeastCardSaid :=
  Claim7.holds_tied_plain_at .later [] [.data] true (true, "3ecdaab91720fd547ac3dbeea450085eaae0f8c18354cb460ea0ea16e3ad9c32") false
    classLeast_row (fun _ h => by cases h) (by kernel_rfl) (fun _ h => by cases h) classLeast_row_tie rfl ⟨rfl, rfl⟩ (by kernel_rfl) rfl
    (fun f fn hf hfn => by
      obtain rfl : f = 4 := Option.some.inj ((show Tryd.prog.funcNamed "hodman/hodmanlaw7.ClassLeast" = some 4 by kernel_rfl).symm.trans hf) |>.symm
      obtain rfl : fn = Tryd.f4 := (Option.some.inj (Tryd.func4.symm.trans hfn)).symm
      exact ⟨by kernel_rfl, fun j t ht => by
        rw [Tryd.params4] at ht
        have hm : t ∈ [22, 5, 5] := by simpa using Array.mem_of_getElem? ht
        have hall : ([22, 5, 5].all fun u => !Tryd.prog.wantsStandIn u) = true := by kernel_rfl
        exact (show Tryd.prog.wantsStandIn t = false by simpa using List.all_eq_true.1 hall t hm)⟩)
    (by kernel_rfl)
#print axioms classLeast_holds
end Go.Proofs.YtnknifhbbkccoaaDoor
