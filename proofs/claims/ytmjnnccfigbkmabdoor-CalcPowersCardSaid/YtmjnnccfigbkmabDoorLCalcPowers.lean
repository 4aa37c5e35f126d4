/- Proved here: hodmanlaw1.CalcPowers returns true at every two numbers (a byte, an int), in any memory in which the library's table math/bits.deBruijn64tab lies as its initialiser lays it: calc.Up of what is above a power of two is twice it, and calc.Log counts doublings. No condition besides. -/
import Derived.Test.YtmjnnccfigbkmabDoorLawA
import Derived.Test.YtmjnnccfigbkmabDoorCards
import Derived.Test.YtmjnnccfigbkmabDoorTie
import Derived.RowKit3
namespace Go.Proofs.YtmjnnccfigbkmabDoor
open Go.ChangeShapes Go.WideShapes Go.ChangeAt Go.RowKit

/-- 'and' with a number from 0 on is one from 0 on, and no greater -/
theorem and_le (a : Int) (b : Nat) (hb : b < 9223372036854775808) : 0 ≤ bits .and .i64 a (b : Int) ∧ bits .and .i64 a (b : Int) ≤ (b : Int) := by
  have h2 : (BitVec.ofInt 64 (b : Int)).toNat = b := by
    rw [BitVec.ofInt_natCast, BitVec.toNat_ofNat]; exact Nat.mod_eq_of_lt (by omega)
  have e : bits .and .i64 a (b : Int) = IntKind.i64.wrap ((BitVec.ofInt 64 a &&& BitVec.ofInt 64 (b : Int)).toNat : Int) := rfl
  rw [e, BitVec.toNat_and, h2]
  have h3 : (BitVec.ofInt 64 a).toNat &&& b ≤ b := Nat.and_le_right
  generalize (BitVec.ofInt 64 a).toNat &&& b = c at *
  simp only [IntKind.wrap, IntKind.bits, IntKind.signed]
  simp
  omega

theorem least_above (n r : Nat) (h1 : 1 ≤ r) (h2 : r ≤ 2 ^ n) : Least (2 ^ n + r) (n + 1) := by
  refine ⟨by rw [Nat.pow_succ]; omega, fun j hj => ?_⟩
  have := pow_le_pow (show j ≤ n by omega)
  omega

theorem calcPowers_walk (k : Int) (hk : 0 ≤ k) (hk' : k ≤ 255) (more : Int) (_ : -9223372036854775808 ≤ more) (_ : more ≤ 9223372036854775807) (w : World) (hT : Tab w) :
    Calls Tryd.prog 3 #[.int .u8 k, .int .i64 more] w fun e w' => e = .returned (.bool true) ∧ Grown w w' := by
  obtain ⟨n, hn, hn'⟩ : ∃ n : Nat, k % 61 = (n : Int) ∧ n ≤ 60 := ⟨(k % 61).toNat, by omega, by omega⟩
  have hp0 := pow_le_pow hn'
  have hp1 : 1 ≤ 2 ^ n := Nat.one_le_two_pow
  have hs : wrap64 (2 ^ n) = ((2 ^ n : Nat) : Int) := by rw [← pow_cast]; unfold wrap64; omega
  have hd : ((2 ^ (n + 1) : Nat) : Int) = 2 * ((2 ^ n : Nat) : Int) := by rw [Nat.pow_succ]; omega
  obtain ⟨r1, r2⟩ := and_le more (2 ^ n - 1) (by omega)
  rw [show (((2 ^ n - 1 : Nat)) : Int) = ((2 ^ n : Nat) : Int) - 1 by omega] at r1 r2
  have u1 := up_fits (v := ((2 ^ n : Nat) : Int)) (k := n) (by omega) (by omega) (by rw [Int.toNat_natCast]; exact least_self n)
  have u2 := up_fits (v := ((2 ^ n : Nat) : Int) + 1) (k := n + 1) (by omega) (by omega) (by
    rw [show (((2 ^ n : Nat) : Int) + 1).toNat = 2 ^ n + 1 by omega]; exact least_above n 1 (by omega) (by omega))
  have l1 := log_fits (v := ((2 ^ n : Nat) : Int)) (k := n) (by omega) rfl
  have l2 := log_fits (v := 2 * ((2 ^ n : Nat) : Int)) (k := n + 1) (by omega) hd.symm
  have l3 := log_not (v := -((2 ^ n : Nat) : Int)) (by omega) (fun j _ he => by
    have : 1 ≤ 2 ^ j := Nat.one_le_two_pow
    omega)
  have u3 : ∀ r : Int, 1 ≤ r → r ≤ ((2 ^ n : Nat) : Int) - 1 → upB (((2 ^ n : Nat) : Int) + r) = true ∧ upV (((2 ^ n : Nat) : Int) + r) = 2 * ((2 ^ n : Nat) : Int) := fun r h1 h2 => by
    have := up_fits (v := ((2 ^ n : Nat) : Int) + r) (k := n + 1) (by omega) (by omega) (by
      rw [show (((2 ^ n : Nat) : Int) + r).toNat = 2 ^ n + r.toNat by omega]; exact least_above n r.toNat (by omega) (by omega))
    rw [hd] at this
    exact this
  rw [hd] at u2
  have q1 : 1 ≤ ((2 ^ n : Nat) : Int) := by omega
  have q2 : ((2 ^ n : Nat) : Int) ≤ 1152921504606846976 := by omega
  have U1 := hide u1; have U2 := hide u2; have U3 := hide u3; have L1 := hide l1; have L2 := hide l2; have L3 := hide l3
  clear u1 u2 u3 l1 l2 l3 hd hp0 hp1
  rw [show ((n + 1 : Nat) : Int) = (n : Int) + 1 by omega] at L2
  generalize ((2 ^ n : Nat) : Int) = p at *
  have hn2 : (n : Int) ≤ 60 := by omega
  generalize hr : bits .and .i64 more (p - 1) = r at *
  by_cases hr0 : r = 0
  · subst hr0
    go_enter Tryd.func3, Tryd.ntmps3
    go_wp2_with fail
    refine (begun_true _ hT).mono ?_
    rintro e w' ⟨rfl, rfl⟩
    go_wp2_with fail
    rw [hs]
    refine (up_to p _ _ U1.out.2 U1.out.1 _ (by omega) (by omega)).mono ?_
    rintro e w' ⟨rfl, rfl⟩
    go_wp2_with fail
    refine (up_to (p + 1) _ _ U2.out.2 U2.out.1 _ (by omega) (by omega)).mono ?_
    rintro e w' ⟨rfl, rfl⟩
    go_wp2_with fail
    refine (log_to p _ _ L1.out.2 L1.out.1 _ (by omega) (by omega) hT).mono ?_
    rintro e w' ⟨rfl, rfl⟩
    go_wp2_with fail
    refine (log_to (2 * p) _ _ L2.out.2 L2.out.1 _ (by omega) (by omega) hT).mono ?_
    rintro e w' ⟨rfl, rfl⟩
    go_wp2_with fail
    refine (up_to p _ _ U1.out.2 U1.out.1 _ (by omega) (by omega)).mono ?_
    rintro e w' ⟨rfl, rfl⟩
    go_wp2_with fail
    refine (log_to (-p) _ _ L3.out.2 L3.out.1 _ (by omega) (by omega) hT).mono ?_
    rintro e w' ⟨rfl, rfl⟩
    go_wp2
    go_ret
    exact ⟨rfl, Grown.refl _⟩
  · have hr1 : (r == 0) = false := by simpa using hr0
    have hr2 : 1 ≤ r := by omega
    have hne : (2 * p == p) = false := by rw [beq_eq_false_iff_ne]; omega
    go_enter Tryd.func3, Tryd.ntmps3
    go_wp2_with fail
    refine (begun_true _ hT).mono ?_
    rintro e w' ⟨rfl, rfl⟩
    go_wp2_with fail
    rw [hs]
    refine (up_to p _ _ U1.out.2 U1.out.1 _ (by omega) (by omega)).mono ?_
    rintro e w' ⟨rfl, rfl⟩
    go_wp2_with fail
    refine (up_to (p + 1) _ _ U2.out.2 U2.out.1 _ (by omega) (by omega)).mono ?_
    rintro e w' ⟨rfl, rfl⟩
    go_wp2_with fail
    refine (log_to p _ _ L1.out.2 L1.out.1 _ (by omega) (by omega) hT).mono ?_
    rintro e w' ⟨rfl, rfl⟩
    go_wp2_with fail
    refine (log_to (2 * p) _ _ L2.out.2 L2.out.1 _ (by omega) (by omega) hT).mono ?_
    rintro e w' ⟨rfl, rfl⟩
    go_wp2_with fail
    refine (up_to (p + r) _ _ (U3.out r hr2 r2).2 (U3.out r hr2 r2).1 _ (by omega) (by omega)).mono ?_
    rintro e w' ⟨rfl, rfl⟩
    go_wp2_with fail
    refine (log_to (-p) _ _ L3.out.2 L3.out.1 _ (by omega) (by omega) hT).mono ?_
    rintro e w' ⟨rfl, rfl⟩
    go_wp2
    go_ret
    exact ⟨rfl, Grown.refl _⟩

set_option linter.unusedVariables false
set_option maxRecDepth 100000 in
theorem calcPowers_lifted (os : Os) (started : os.Started) (H : Type) (enc : TypeId × Value → H) :
    ReturnsInHanded {} Tryd.checked os 3 .any (fun w args => (Rows.calcPowersSpec.pre enc Tryd.prog Tryd.f3 [] false w args ∧ laidMetH Tryd.prog laid1 w) ∧ sizedMet enc Tryd.prog Tryd.f3 (OpenSpec.ofChange Rows.calcPowersSpec) false w args)
      (Rows.calcPowersSpec.post enc Tryd.prog Tryd.f3 false true false false) := by
  refine returnsInHanded_of_change_and (C := Tryd.checked) (X := fun w _ => laidMetH Tryd.prog laid1 w) (fun _ _ _ hh h => h.of_heap hh) own started (by kernel_rfl) Tryd.func3
    (ChangeSpec.witness_shaped (enc := enc) (C := Tryd.checked) (os := os) (X := fun w _ => laidMetH Tryd.prog laid1 w) false (World.doorLaid Tryd.prog 400 os) #[.int .u8 0, .int .i64 0] 8 rfl (World.shaped_of_RefB (by kernel_rfl) (by kernel_rfl)) (by kernel_rfl) (by kernel_rfl) (by kernel_rfl) (door_met os _)) ?_
  intro W base args ds gs before hval0 hW _ _ hL _
  have hval : ∀ (j : Nat) t v, Tryd.f3.params[j]? = some t → args[j]? = some v → Value.okWide Tryd.prog W .any base t v := hval0
  have hW' := hW
  obtain ⟨p, q, hA0, hV, rfl, hfz, hnd⟩ := hW
  have hA : DataW.TrodAll enc Tryd.prog W 0 (fun _ => true) true Tryd.f3.params.toList args.toList ds p := hA0
  rw [Tryd.params3] at hA hval
  obtain ⟨v0, vs0, d0, ds0, p0, q0, hargs, rfl, rfl, h0, r0⟩ := trodAll_cons hA
  obtain ⟨v1, vs1, d1, ds1, p1, q1, rfl, rfl, rfl, h1, r1⟩ := trodAll_cons r0
  obtain ⟨rfl, rfl, rfl⟩ := trodAll_nil r1
  obtain rfl : args = #[v0, v1] := by cases args; simp_all
  obtain ⟨rfl, rfl⟩ := trodVars_none hV
  obtain ⟨a0, rfl, rfl, rfl, w0⟩ := open_int Tryd.underlying5 (hval 0 5 v0 rfl rfl) h0
  obtain ⟨a1, rfl, rfl, rfl, w1⟩ := open_int Tryd.underlying3 (hval 1 3 v1 rfl rfl) h1
  clear hA0 hval0
  simp only [List.append_nil] at hW'
  have hT := tab_of_laid hL
  refine (calcPowers_walk a0 (bounds_u8 w0).1 (bounds_u8 w0).2 a1 (bounds_i64 w1).1 (bounds_i64 w1).2 W hT).mono fun e W' ⟨he, hg⟩ => ?_
  subst he
  exact ⟨_, rfl, post_of_same (pa := []) (pv := []) hW' (fun _ _ _ => (trodAll_cons_mk (shut_bool Tryd.underlying4 _) trodAll_mk0)) (fun sp _ => (trodAll_cons_mk (shut_int Tryd.underlying5 w0) (trodAll_cons_mk (shut_int Tryd.underlying3 w1) trodAll_mk0))) (fun _ _ => rfl) rfl
    (hg.frame _) hg.2.1 (ok_one (by kernel_rfl) rfl (okWide_bool_mk Tryd.underlying4 _))⟩

theorem calcPowers_row : Rows.CalcPowersSaid :=
  OpenClaim.holds_of_wide 3 Tryd.f3 rfl rfl rfl rfl rfl rfl rfl ⟨rfl, rfl, rfl, rfl, rfl⟩ rfl rfl rfl rfl rfl (by kernel_rfl) Tryd.func3 (by kernel_rfl)
    (of_decide_eq_true (by kernel_rfl)) (by unfold Func.isWrapper; first | (rw [if_pos (by decide +kernel)]; kernel_rfl) | (rw [if_neg (by decide +kernel)]; exact ⟨rfl, rfl⟩))
    (fun os started H enc _ => calcPowers_lifted os started H enc)

theorem calcPowers_holds : Rows.CalcPowersCardSaid :=
  Claim7.holds_tied_plain_at .later [] [.data] true (true, "e5bce4ca6bbcd0a30e65776ebb5397ad5ab53e924da0adf5515679b51a1366a0") false
    calcPowers_row (fun _ h => by cases h) (by kernel_rfl) (fun _ h => by cases h) calcPowers_row_tie rfl ⟨rfl, rfl⟩ (by kernel_rfl) rfl
    (fun f fn hf hfn => by
      obtain rfl : f = 3 := Option.some.inj ((show Tryd.prog.funcNamed "hodman/hodmanlaw1.CalcPowers" = some 3 by kernel_rfl).symm.trans hf) |>.symm
      obtain rfl : fn = Tryd.f3 := (Option.some.inj (Tryd.func3.symm.trans hfn)).symm
      exact ⟨by kernel_rfl, fun j t ht => by
        rw [Tryd.params3] at ht
        have hm : t ∈ [5, 3] := by simpa using Array.mem_of_getElem? ht
        have hall : ([5, 3].all fun u => !Tryd.prog.wantsStandIn u) = true := by kernel_rfl
        exact (show Tryd.prog.wantsStandIn t = false by simpa using List.all_eq_true.1 hall t hm)⟩)
    (by kernel_rfl)
#print axioms calcPowers_holds
end Go.Proofs.YtmjnnccfigbkmabDoor
