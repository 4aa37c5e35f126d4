/- Proved here: hodmanlaw13.CommitTwice, called with any slice of bytes and three bytes, in any memory in which the library's table math/bits.deBruijn64tab lies as its initialiser lays it, returns true: that what is there and asked for again is there, nothing fresh, is what follows from promise P13.1. No condition besides. -/
import Derived.Test.YtcnfmkhjhffebaaDoorComLaw
import Derived.Test.YtcnfmkhjhffebaaDoorPlayRows
import Derived.Test.YtcnfmkhjhffebaaDoorOpen
import Derived.Test.YtcnfmkhjhffebaaDoorCards
import Derived.Test.YtcnfmkhjhffebaaDoorTie
namespace Go.Proofs.YtcnfmkhjhffebaaDoor
open Go.ChangeShapes Go.WideShapes Go.ChangeAt Go.RowKit

theorem comX_get {on met : List Bool} {f t : Nat} {most : Int} {i : Nat} (h : i < on.length) : (comX on met f t most).getD i false = isB on met f t most i := rowB_get h
/-- asked for again -/
theorem again_same {on met : List Bool} {f t : Nat} {most : Int} : comX (comX on met f t most) met f t most = comX on met f t most := by
  refine bools_ext (by rw [comX_length]) fun i hi => ?_
  rw [comX_length, comX_length] at hi
  rw [comX_get (by rw [comX_length]; exact hi)]
  unfold isB
  rw [comX_get hi]
  by_cases g : most < (cntN on f t : Int)
  · unfold isB
    rw [decide_eq_true g]
    cases on.getD i false <;> cases met.getD i false <;> cases amB f t i <;> simp
  · have e : cntN (comX on met f t most) f t = cntN on f t := by
      unfold cntN
      rw [comX_length]
      congr 1
      refine rowB_congr fun k hk => ?_
      rw [comX_get hk]
      unfold isB
      rw [decide_eq_false g]
      cases on.getD k false <;> cases met.getD k false <;> cases amB f t k <;> simp
    rw [e]
    unfold isB
    rw [decide_eq_false g]
    cases on.getD i false <;> cases met.getD i false <;> cases amB f t i <;> simp
theorem again_none {on met : List Bool} {f t : Nat} {most : Int} : frL (comX on met f t most) f t = [] := by
  unfold frL
  refine List.filter_eq_nil_iff.2 fun i hi => ?_
  rw [List.mem_range, comX_length] at hi
  unfold frB
  rw [comX_get hi]
  unfold isB
  cases amB f t i <;> simp
theorem again_may {on met : List Bool} {f t most : Int} {F T : Nat} (h : comB on met f t most = true) : comB (comX on met F T most) met f t most = true := by
  unfold comB at h ⊢
  rw [comX_length]
  exact h
theorem rem_of (x : Int) (n : Nat) (h : 0 ≤ x) (hn : 1 ≤ n) : ∃ q : Nat, x.tmod (n : Int) = (q : Int) ∧ q < n :=
  ⟨(x % (n : Int)).toNat, by
    rw [Int.tmod_eq_emod_of_nonneg h]
    have := Int.emod_nonneg x (show (n : Int) ≠ 0 by omega)
    omega, by
    have := Int.emod_nonneg x (show (n : Int) ≠ 0 by omega)
    have := Int.emod_lt_of_pos x (show (0 : Int) < (n : Int) by omega)
    omega⟩

set_option maxRecDepth 100000 in
set_option maxHeartbeats 2000000 in
theorem commitTwice_walk0 (a : Option Addr) (len cap : Nat) (zs0 : List Int) (x : Int) (x0 : 0 ≤ x) (_x1 : x ≤ 255) (y : Int) (y0 : 0 ≤ y) (_y1 : y ≤ 255) (m : Int) (m0 : 0 ≤ m) (_m1 : m ≤ 255) (w : World) (hR : IsRow .u8 w a len cap zs0) (hT : Tab w) :
    Calls Tryd.prog 7 #[.slice a len cap, .int .u8 x, .int .u8 y, .int .u8 m] w fun e w' => e = .returned (.bool true) ∧ Fresh w w' := by
  have HT := hide hT
  obtain ⟨zs, hz, hd⟩ := bytes_list hR
  have HD := hide hd
  have ZL := hide hz
  have l0 : (0 : Int) ≤ (len : Int) := by omega
  have lm := IsRow_le hR
  clear hT hR hd hz
  by_cases g : 20 < len
  · have g' : (20 : Int) < (len : Int) := by omega
    go_enter Tryd.func7, Tryd.ntmps7
    go_wp2_with fail
    refine (begun13_true _ HT.out).mono ?_
    rintro e w1 ⟨rfl, k1⟩
    have K1 := hide k1
    clear k1
    go_wp2
    go_ret
    exact ⟨rfl, K1.out⟩
  · have g' : (len : Int) ≤ 20 := by omega
    have NL := hide (show len ≤ 20 by omega)
    have OL := hide (show (onL zs).length = len by rw [onL_length, ZL.out])
    have ML := hide (show (metR zs).length = len by rw [metR_length, ZL.out])
    clear g
    generalize hon : onL zs = on at *
    generalize hmet : metR zs = met at *
    have HON := hide hon
    have HMET := hide hmet
    clear hon hmet
    obtain ⟨F, hF, F1⟩ := rem_of x (len + 1) x0 (by omega)
    obtain ⟨E, hE, E1⟩ := rem_of y (len + 1) y0 (by omega)
    obtain ⟨M, hM, M1⟩ := rem_of m 22 m0 (by omega)
    rw [show (((len + 1 : Nat)) : Int) = (len : Int) + 1 from rfl] at hF hE
    rw [show (((22 : Nat)) : Int) = 22 from rfl] at hM
    obtain ⟨f, hf⟩ : ∃ f : Nat, min F E = f := ⟨_, rfl⟩
    obtain ⟨t, ht⟩ : ∃ t : Nat, max F E = t := ⟨_, rfl⟩
    have q1 : min (F : Int) (E : Int) = (f : Int) := by omega
    have q2 : max (F : Int) (E : Int) = (t : Int) := by omega
    have wx : IntKind.i64.wrap x = x := by rw [IntKind.wrap_i64]; omega
    have wy : IntKind.i64.wrap y = y := by rw [IntKind.wrap_i64]; omega
    have wM : IntKind.i64.wrap (M : Int) = (M : Int) := by rw [IntKind.wrap_i64]; omega
    have z1 : (0 : Int) ≤ (F : Int) := by omega
    have z2 : (F : Int) ≤ 20 := by omega
    have z3 : (0 : Int) ≤ (E : Int) := by omega
    have z4 : (E : Int) ≤ 20 := by omega
    have BF := hide (show (f : Int) ≤ 20 ∧ (t : Int) ≤ 20 ∧ (M : Int) ≤ 22 by omega)
    have AS := hide (@again_same on met f t (M : Int))
    have AN := hide (@again_none on met f t (M : Int))
    have AM := hide (@again_may on met (f : Int) (t : Int) (M : Int) f t)
    have XL := hide (comX_length on met f t (M : Int))
    clear F1 E1 M1 hf ht
    go_enter Tryd.func7, Tryd.ntmps7
    go_wp2_with fail
    refine (begun13_true _ HT.out).mono ?_
    rintro e w1 ⟨rfl, k1⟩
    have K1 := hide k1
    clear k1
    go_wp2_with fail
    refine (rows_any a zs len cap w1 (HD.out.fresh K1.out) ZL.out (by have := NL.out; omega)).mono ?_
    rintro e w2 ⟨u, v, rfl, two⟩
    have O2 := hide (show OwnB w2 w1.heap.size u on by rw [← HON.out]; exact two.a)
    have M2 := hide (show OwnB w2 w1.heap.size v met by rw [← HMET.out]; exact two.b)
    have K2 := hide (K1.out.trans two.f)
    clear two K1
    obtain ⟨oa, oc, rfl⟩ := O2.out.shape OL.out
    obtain ⟨ma, mc, rfl⟩ := M2.out.shape ML.out
    go_wp2_with fail
    go_quiet (fail)
    go_wp2_with fail
    generalize hwa : World.drewN w2 _ = wa
    have FA := hide (show Fresh w2 wa from hwa ▸ Fresh.drewN w2 _)
    clear hwa
    have ON := hide ((O2.out.fresh FA.out).inn (by have := OL.out; have := NL.out; omega))
    have MN := hide ((M2.out.fresh FA.out).inn (by have := ML.out; have := NL.out; omega))
    have KA := hide (K2.out.trans FA.out)
    clear O2 M2 K2 FA
    have e1 := BF.out.1
    have e2 := BF.out.2.1
    have e3 := BF.out.2.2
    by_cases gc : comB on met (f : Int) (t : Int) (M : Int) = true
    · have AM' := hide (AM.out gc)
      obtain ⟨n, hn⟩ : ∃ n, (frL on f t).length = n := ⟨_, rfl⟩
      have CY := hide (commit_to _ _ on met (f : Int) (t : Int) (M : Int) f t len n _ _ wa ON.out MN.out (HT.out.below KA.out) rfl rfl OL.out (by have := NL.out; omega) gc rfl rfl hn)
      generalize comX on met f t (M : Int) = X at *
      clear gc AM hn e1 e2 e3
      refine CY.out.mono ?_
      rintro e w3 ⟨g3, a3, c3, rfl, o3, -, k3⟩
      have X3 := hide o3
      have M3 := hide (MN.out.fresh k3)
      have K3 := hide (KA.out.trans k3)
      clear o3 k3 CY
      have XI := hide (X3.out.inn (by have := XL.out; have := OL.out; have := NL.out; omega))
      have CZ := hide (commit_to _ _ X met (f : Int) (t : Int) (M : Int) f t len 0 X [] w3 XI.out M3.out (HT.out.below K3.out) rfl rfl (by rw [XL.out, OL.out]) (by have := NL.out; omega) AM'.out AS.out AN.out rfl)
      go_wp2_with fail
      refine CZ.out.mono ?_
      rintro e w4 ⟨g4, a4, c4, rfl, o4, -, k4⟩
      have SB := hide (sameb_true _ _ X w4 (XI.out.fresh k4).at o4.at (by have := XL.out; have := OL.out; have := NL.out; omega))
      have K4 := hide (K3.out.trans k4)
      clear o4 k4
      go_wp2_with fail
      refine SB.out.mono ?_
      rintro e w5 ⟨rfl, k5⟩
      have K5 := hide (K4.out.trans k5)
      clear k5
      go_wp2
      go_ret
      exact ⟨rfl, K5.out⟩
    · have CN := hide (commit_no _ _ on met (f : Int) (t : Int) (M : Int) wa ON.out MN.out (by omega) (by omega) (by omega) (by omega) (by simpa using gc))
      clear gc e1 e2 e3
      refine CN.out.mono ?_
      rintro e w3 ⟨rfl, k3⟩
      have K3 := hide (KA.out.trans k3)
      clear k3
      unfold noE
      go_wp2
      go_ret
      exact ⟨rfl, K3.out⟩

set_option linter.unusedVariables false
set_option maxRecDepth 100000 in
theorem commitTwice_lifted (os : Os) (started : os.Started) (H : Type) (enc : TypeId × Value → H) :
    ReturnsInHanded {} Tryd.checked os 7 .any (fun w args => (Rows.commitTwiceSpec.pre enc Tryd.prog Tryd.f7 [] false w args ∧ laidMetH Tryd.prog laid1 w) ∧ sizedMet enc Tryd.prog Tryd.f7 (OpenSpec.ofChange Rows.commitTwiceSpec) false w args)
      (Rows.commitTwiceSpec.post enc Tryd.prog Tryd.f7 false true false false) := by
  refine returnsInHanded_of_change_and (C := Tryd.checked) (X := fun w _ => laidMetH Tryd.prog laid1 w) (fun _ _ _ hh h => h.of_heap hh) own started (by kernel_rfl) Tryd.func7
    (ChangeSpec.witness_shaped (enc := enc) (C := Tryd.checked) (os := os) (X := fun w _ => laidMetH Tryd.prog laid1 w) false (World.doorLaid Tryd.prog 400 os) #[.slice none 0 0, .int .u8 0, .int .u8 0, .int .u8 0] 8 rfl (World.shaped_of_RefB (by kernel_rfl) (by kernel_rfl)) (by kernel_rfl) (by kernel_rfl) (by kernel_rfl) (door_met os _)) ?_
  intro W base args ds gs before hval0 hW _ _ hL _
  have hval : ∀ (j : Nat) t v, Tryd.f7.params[j]? = some t → args[j]? = some v → Value.okWide Tryd.prog W .any base t v := hval0
  have hW' := hW
  obtain ⟨p, q, hA0, hV, rfl, hfz, hnd⟩ := hW
  have hA : DataW.TrodAll enc Tryd.prog W 0 (fun _ => true) true Tryd.f7.params.toList args.toList ds p := hA0
  rw [Tryd.params7] at hA hval
  obtain ⟨v0, vs0, d0, ds0, p0, q0, hargs, rfl, rfl, h0, r0⟩ := trodAll_cons hA
  obtain ⟨v1, vs1, d1, ds1, p1, q1, rfl, rfl, rfl, h1, r1⟩ := trodAll_cons r0
  obtain ⟨v2, vs2, d2, ds2, p2, q2, rfl, rfl, rfl, h2, r2⟩ := trodAll_cons r1
  obtain ⟨v3, vs3, d3, ds3, p3, q3, rfl, rfl, rfl, h3, r3⟩ := trodAll_cons r2
  obtain ⟨rfl, rfl, rfl⟩ := trodAll_nil r3
  obtain rfl : args = #[v0, v1, v2, v3] := by cases args; simp_all
  obtain ⟨rfl, rfl⟩ := trodVars_none hV
  have lt0 : ∀ x ∈ p0, x.block < W.heap.size := by obtain ⟨m, hm⟩ := h0; exact DataW.trod_lt m _ _ _ hm
  have lt1 : ∀ x ∈ p1, x.block < W.heap.size := by obtain ⟨m, hm⟩ := h1; exact DataW.trod_lt m _ _ _ hm
  have lt2 : ∀ x ∈ p2, x.block < W.heap.size := by obtain ⟨m, hm⟩ := h2; exact DataW.trod_lt m _ _ _ hm
  have lt3 : ∀ x ∈ p3, x.block < W.heap.size := by obtain ⟨m, hm⟩ := h3; exact DataW.trod_lt m _ _ _ hm
  obtain ⟨a0, len0, cap0, rfl⟩ := okWide_slice Tryd.underlying22 (hval 0 22 v0 rfl rfl)
  obtain ⟨z0, w0⟩ := isRow_of Tryd.underlying22 Tryd.underlying5 (by kernel_rfl) h0
  obtain ⟨a1, rfl, rfl, rfl, w1⟩ := open_int Tryd.underlying5 (hval 1 5 v1 rfl rfl) h1
  obtain ⟨a2, rfl, rfl, rfl, w2⟩ := open_int Tryd.underlying5 (hval 2 5 v2 rfl rfl) h2
  obtain ⟨a3, rfl, rfl, rfl, w3⟩ := open_int Tryd.underlying5 (hval 3 5 v3 rfl rfl) h3
  clear hA0 hval0
  have hT := tab_of_laid hL
  refine (commitTwice_walk0 a0 len0 cap0 z0 a1 (bounds_u8 w1).1 (bounds_u8 w1).2 a2 (bounds_u8 w2).1 (bounds_u8 w2).2 a3 (bounds_u8 w3).1 (bounds_u8 w3).2 W w0 hT).mono fun e W' ⟨he, hg⟩ => ?_
  subst he
  exact ⟨_, rfl, _, _, _, [], _, [], hW', trodAll_mk1 (shut_bool Tryd.underlying4 _), (trodAll_cons_mk (Below.trod laidOut (by kernel_rfl) (of_decide_eq_true (by kernel_rfl)) h0 hg lt0) (trodAll_cons_mk (Below.trod laidOut (by kernel_rfl) (of_decide_eq_true (by kernel_rfl)) h1 hg lt1) (trodAll_cons_mk (Below.trod laidOut (by kernel_rfl) (of_decide_eq_true (by kernel_rfl)) h2 hg lt2) (trodAll_cons_mk (Below.trod laidOut (by kernel_rfl) (of_decide_eq_true (by kernel_rfl)) h3 hg lt3) trodAll_mk0)))), rfl, hg.frame _, fun h => by cases h⟩

theorem commitTwice_row : Rows.CommitTwiceSaid :=
  OpenClaim.holds_of_wide 7 Tryd.f7 rfl rfl rfl rfl rfl rfl rfl ⟨rfl, rfl, rfl, rfl, rfl⟩ rfl rfl rfl rfl rfl (by kernel_rfl) Tryd.func7 (by kernel_rfl)
    (of_decide_eq_true (by kernel_rfl)) (by unfold Func.isWrapper; first | (rw [if_pos (by decide +kernel)]; kernel_rfl) | (rw [if_neg (by decide +kernel)]; exact ⟨rfl, rfl⟩))
    (fun os started H enc _ => commitTwice_lifted os started H enc)

theorem commitTwice_holds : Rows.CommitTwiceCardSaid :=
  Claim7.holds_tied_plain_at .later [] [.data] true (true, "843c0bd705d6e3e1b489dc1c7791f91ab1e102c0021abdd85800ad58c449501d") false
    commitTwice_row (fun _ h => by cases h) (by kernel_rfl) (fun _ h => by cases h) commitTwice_row_tie rfl ⟨rfl, rfl⟩ (by kernel_rfl) rfl
    (fun f fn hf hfn => by
      obtain rfl : f = 7 := Option.some.inj ((show Tryd.prog.funcNamed "hodman/hodmanlaw13.CommitTwice" = some 7 by kernel_rfl).symm.trans hf) |>.symm
      obtain rfl : fn = Tryd.f7 := (Option.some.inj (Tryd.func7.symm.trans hfn)).symm
      exact ⟨by kernel_rfl, fun j t ht => by
        rw [Tryd.params7] at ht
        have hm : t ∈ [22, 5, 5, 5] := by simpa using Array.mem_of_getElem? ht
        have hall : ([22, 5, 5, 5].all fun u => !Tryd.prog.wantsStandIn u) = true := by kernel_rfl
        exact (show Tryd.prog.wantsStandIn t = false by simpa using List.all_eq_true.1 hall t hm)⟩)
    (by kernel_rfl)
#print axioms commitTwice_holds
end Go.Proofs.YtcnfmkhjhffebaaDoor
