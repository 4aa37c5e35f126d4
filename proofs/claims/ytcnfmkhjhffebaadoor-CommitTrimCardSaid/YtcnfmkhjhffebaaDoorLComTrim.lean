/- Proved here: hodmanlaw13.CommitTrim, called with any slice of bytes, in any memory in which the library's table math/bits.deBruijn64tab lies as its initialiser lays it, returns true: of those pages that were there just those that are met are left is what follows from promise P13.1. No condition besides. -/
import Derived.Test.YtcnfmkhjhffebaaDoorComLaw
import Derived.Test.YtcnfmkhjhffebaaDoorPlayRows
import Derived.Test.YtcnfmkhjhffebaaDoorOpen
import Derived.Test.YtcnfmkhjhffebaaDoorCards
import Derived.Test.YtcnfmkhjhffebaaDoorTie
namespace Go.Proofs.YtcnfmkhjhffebaaDoor
open Go.ChangeShapes Go.WideShapes Go.ChangeAt Go.RowKit

theorem cntR_parts (p q : Nat → Bool) : ∀ n, cntR n p = cntR n (fun i => p i && q i) + cntR n (fun i => p i && !q i)
  | 0 => rfl
  | n + 1 => by
    rw [cntR_succ, cntR_succ, cntR_succ, cntR_parts p q n]
    cases p n <;> cases q n <;> simp <;> omega
theorem cntR_list (l : List Bool) : cntL l = cntR l.length (fun i => l.getD i false) := (congrArg cntL (rowB_same l)).symm
/-- those that go -/
def goneR (on met : List Bool) (j : Nat) : Nat := cntR j fun i => on.getD i false && !met.getD i false
theorem gone_all (on met : List Bool) : cntL on - cntL (trL on met) = goneR on met on.length := by
  have h := cntR_parts (fun i => on.getD i false) (fun i => met.getD i false) on.length
  have e : cntL (trL on met) = cntR on.length fun i => on.getD i false && met.getD i false := rfl
  rw [cntR_list on, e, h]
  unfold goneR
  omega
theorem gone_succ (on met : List Bool) (j : Nat) : goneR on met (j + 1) = goneR on met j + (if (on.getD j false && !met.getD j false) = true then 1 else 0) := cntR_succ _ _
theorem gone_le (on met : List Bool) : ∀ j, goneR on met j ≤ j
  | 0 => Nat.le_refl _
  | j + 1 => by have := gone_le on met j; rw [gone_succ]; split <;> omega
theorem tr_tr (on met : List Bool) : trL (trL on met) met = trL on met := by
  unfold trL
  rw [rowB_length]
  refine rowB_congr fun i hi => ?_
  rw [rowB_get hi]
  cases on.getD i false <;> cases met.getD i false <;> rfl

set_option maxRecDepth 100000 in
set_option maxHeartbeats 2000000 in
theorem commitTrim_walk0 (a : Option Addr) (len cap : Nat) (zs0 : List Int) (w : World) (hR : IsRow .u8 w a len cap zs0) (hT : Tab w) :
    Calls Tryd.prog 5 #[.slice a len cap] w fun e w' => e = .returned (.bool true) ∧ Fresh w w' := by
  have HT := hide hT
  obtain ⟨zs, hz, hd⟩ := bytes_list hR
  have HD := hide hd
  have ZL := hide hz
  have l0 : (0 : Int) ≤ (len : Int) := by omega
  have lm := IsRow_le hR
  clear hT hR hd hz
  by_cases g : 20 < len
  · have g' : (20 : Int) < (len : Int) := by omega
    go_enter Tryd.func5, Tryd.ntmps5
    go_wp2_with fail
    refine (begun13_true _ HT.out).mono ?_
    rintro e w1 ⟨rfl, k1⟩
    have K1 := hide k1
    clear k1
    go_wp2
    go_ret
    exact ⟨rfl, K1.out⟩
  · have g' : (len : Int) ≤ 20 := by omega
    have NL := hide (show len ≤ 20 by omega)
    have OL := hide (show (onL zs).length = len by rw [onL_length, ZL.out])
    have ML := hide (show (metR zs).length = len by rw [metR_length, ZL.out])
    clear g
    generalize hon : onL zs = on at *
    generalize hmet : metR zs = met at *
    have HON := hide hon
    have HMET := hide hmet
    clear hon hmet
    have GA := hide (show cntL on - cntL (trL on met) = goneR on met len by rw [gone_all, OL.out])
    have TT := hide (tr_tr on met)
    have TL := hide (show (trL on met).length = len by rw [trL_length, OL.out])
    have XG := hide (fun j (hj : j < len) => show (trL on met).getD j false = (on.getD j false && met.getD j false) from rowB_get (by rw [OL.out]; exact hj))
    have GS := hide (gone_succ on met)
    have GL := hide (gone_le on met)
    generalize hx : trL on met = xs at *
    have HX := hide hx
    clear hx
    go_enter Tryd.func5, Tryd.ntmps5
    go_wp2_with fail
    refine (begun13_true _ HT.out).mono ?_
    rintro e w1 ⟨rfl, k1⟩
    have K1 := hide k1
    clear k1
    go_wp2_with fail
    refine (rows_any a zs len cap w1 (HD.out.fresh K1.out) ZL.out (by have := NL.out; omega)).mono ?_
    rintro e w2 ⟨u, v, rfl, two⟩
    have O2 := hide (show OwnB w2 w1.heap.size u on by rw [← HON.out]; exact two.a)
    have M2 := hide (show OwnB w2 w1.heap.size v met by rw [← HMET.out]; exact two.b)
    have K2 := hide (K1.out.trans two.f)
    clear two K1
    obtain ⟨oa, oc, rfl⟩ := O2.out.shape OL.out
    obtain ⟨ma, mc, rfl⟩ := M2.out.shape ML.out
    go_wp2_with fail
    refine (trim_to _ _ on met len (goneR on met len) xs w2 (O2.out.inn (by have := OL.out; have := NL.out; omega)) (M2.out.inn (by have := ML.out; have := NL.out; omega)) OL.out (by have := NL.out; omega) HX.out (by rw [← HX.out, ← GA.out, HX.out])).mono ?_
    rintro e w3 ⟨g, rfl, o3, k3⟩
    have X3 := hide o3
    have O3 := hide (O2.out.fresh k3)
    have M3 := hide (M2.out.fresh k3)
    have K3 := hide (K2.out.trans k3)
    clear o3 k3 O2 M2 K2
    go_wp2
    go_loopw [7, 8] (fun c i wr => ∃ j : Nat, j ≤ len ∧ i = .int .i64 (j : Int) ∧ c = .int .i64 ((goneR on met j : Nat) : Int) ∧ Fresh w3 wr) (fun _ i _ => (len - intOf i).toNat)
    case atStart => exact ⟨0, Nat.zero_le _, rfl, rfl, Fresh.refl _⟩
    case round =>
      obtain ⟨j, hj, rfl, rfl, hf⟩ := hrel
      have F := hide hf
      have j0 : (0 : Int) ≤ (j : Int) := by omega
      by_cases gj : j < len
      · have gj' : (j : Int) < (len : Int) := by omega
        obtain ⟨bo, rfl, c1⟩ := (O3.out.fresh hf).cellOf j (by rw [OL.out]; exact gj)
        obtain ⟨bm, rfl, c2⟩ := (M3.out.fresh hf).cellOf j (by rw [ML.out]; exact gj)
        have c3 := (X3.out.fresh hf).cell TL.out.symm j gj
        rw [XG.out j gj] at c3
        have S := hide (GS.out j)
        have q1 : ((goneR on met j : Nat) : Int) ≤ 20 := by have := GL.out j; omega
        have q0 : (0 : Int) ≤ ((goneR on met j : Nat) : Int) := by omega
        have FN := hide (fun n => fresh_drewN F.out n)
        generalize on.getD j false = x at *
        generalize met.getD j false = y at *
        generalize goneR on met j = q at *
        clear hf
        cases x <;> cases y <;> simp only [Bool.and_true, Bool.and_false] at c3 <;>
        · go_wp2_with fail
          go_quiet (fail)
          go_wp2
          go_roundw
          case rel => exact ⟨j + 1, by omega, by go_num, by rw [S.out]; go_num, FN.out _⟩
          case measure => simp [intOf]; omega
      · obtain rfl : len = j := by omega
        have XI := hide ((X3.out.fresh F.out).inn (by have := TL.out; have := NL.out; omega))
        have MI := hide ((M3.out.fresh F.out).inn (by have := ML.out; have := NL.out; omega))
        have KF := hide (K3.out.trans F.out)
        have qq : (((goneR on met len : Nat) : Int) == ((goneR on met len : Nat) : Int)) = true := by rw [beq_iff_eq]
        generalize goneR on met len = q at *
        clear hf
        go_wp2_with fail
        refine (trim_to _ _ xs met len 0 xs wr XI.out MI.out TL.out (by have := NL.out; omega) TT.out (Nat.sub_self _)).mono ?_
        rintro e w5 ⟨g5, rfl, o5, k5⟩
        have SB := hide (sameb_true _ _ xs w5 (XI.out.fresh k5).at o5.at (by have := TL.out; have := NL.out; omega))
        have K5 := hide (KF.out.trans k5)
        clear o5 k5 XI MI
        go_wp2_with fail
        refine SB.out.mono ?_
        rintro e w6 ⟨rfl, k6⟩
        have K6 := hide (K5.out.trans k6)
        clear k6
        go_wp2
        go_ret
        exact ⟨rfl, K6.out⟩

set_option linter.unusedVariables false
set_option maxRecDepth 100000 in
theorem commitTrim_lifted (os : Os) (started : os.Started) (H : Type) (enc : TypeId × Value → H) :
    ReturnsInHanded {} Tryd.checked os 5 .any (fun w args => (Rows.commitTrimSpec.pre enc Tryd.prog Tryd.f5 [] false w args ∧ laidMetH Tryd.prog laid1 w) ∧ sizedMet enc Tryd.prog Tryd.f5 (OpenSpec.ofChange Rows.commitTrimSpec) false w args)
      (Rows.commitTrimSpec.post enc Tryd.prog Tryd.f5 false true false false) := by
  refine returnsInHanded_of_change_and (C := Tryd.checked) (X := fun w _ => laidMetH Tryd.prog laid1 w) (fun _ _ _ hh h => h.of_heap hh) own started (by kernel_rfl) Tryd.func5
    (ChangeSpec.witness_shaped (enc := enc) (C := Tryd.checked) (os := os) (X := fun w _ => laidMetH Tryd.prog laid1 w) false (World.doorLaid Tryd.prog 400 os) #[.slice none 0 0] 8 rfl (World.shaped_of_RefB (by kernel_rfl) (by kernel_rfl)) (by kernel_rfl) (by kernel_rfl) (by kernel_rfl) (door_met os _)) ?_
  intro W base args ds gs before hval0 hW _ _ hL _
  have hval : ∀ (j : Nat) t v, Tryd.f5.params[j]? = some t → args[j]? = some v → Value.okWide Tryd.prog W .any base t v := hval0
  have hW' := hW
  obtain ⟨p, q, hA0, hV, rfl, hfz, hnd⟩ := hW
  have hA : DataW.TrodAll enc Tryd.prog W 0 (fun _ => true) true Tryd.f5.params.toList args.toList ds p := hA0
  rw [Tryd.params5] at hA hval
  obtain ⟨v0, vs0, d0, ds0, p0, q0, hargs, rfl, rfl, h0, r0⟩ := trodAll_cons hA
  obtain ⟨rfl, rfl, rfl⟩ := trodAll_nil r0
  obtain rfl : args = #[v0] := by cases args; simp_all
  obtain ⟨rfl, rfl⟩ := trodVars_none hV
  have lt0 : ∀ x ∈ p0, x.block < W.heap.size := by obtain ⟨m, hm⟩ := h0; exact DataW.trod_lt m _ _ _ hm
  obtain ⟨a0, len0, cap0, rfl⟩ := okWide_slice Tryd.underlying22 (hval 0 22 v0 rfl rfl)
  obtain ⟨z0, w0⟩ := isRow_of Tryd.underlying22 Tryd.underlying5 (by kernel_rfl) h0
  clear hA0 hval0
  have hT := tab_of_laid hL
  refine (commitTrim_walk0 a0 len0 cap0 z0 W w0 hT).mono fun e W' ⟨he, hg⟩ => ?_
  subst he
  exact ⟨_, rfl, _, _, _, [], _, [], hW', trodAll_mk1 (shut_bool Tryd.underlying4 _), (trodAll_cons_mk (Below.trod laidOut (by kernel_rfl) (of_decide_eq_true (by kernel_rfl)) h0 hg lt0) trodAll_mk0), rfl, hg.frame _, fun h => by cases h⟩

theorem commitTrim_row : Rows.CommitTrimSaid :=
  OpenClaim.holds_of_wide 5 Tryd.f5 rfl rfl rfl rfl rfl rfl rfl ⟨rfl, rfl, rfl, rfl, rfl⟩ rfl rfl rfl rfl rfl (by kernel_rfl) Tryd.func5 (by kernel_rfl)
    (of_decide_eq_true (by kernel_rfl)) (by unfold Func.isWrapper; first | (rw [if_pos (by decide +kernel)]; kernel_rfl) | (rw [if_neg (by decide +kernel)]; exact ⟨rfl, rfl⟩))
    (fun os started H enc _ => commitTrim_lifted os started H enc)

theorem commitTrim_holds : Rows.CommitTrimCardSaid :=
  Claim7.holds_tied_plain_at .later [] [.data] true (true, "843c0bd705d6e3e1b489dc1c7791f91ab1e102c0021abdd85800ad58c449501d") false
    commitTrim_row (fun _ h => by cases h) (by kernel_rfl) (fun _ h => by cases h) commitTrim_row_tie rfl ⟨rfl, rfl⟩ (by kernel_rfl) rfl
    (fun f fn hf hfn => by
      obtain rfl : f = 5 := Option.some.inj ((show Tryd.prog.funcNamed "hodman/hodmanlaw13.CommitTrim" = some 5 by kernel_rfl).symm.trans hf) |>.symm
      obtain rfl : fn = Tryd.f5 := (Option.some.inj (Tryd.func5.symm.trans hfn)).symm
      exact ⟨by kernel_rfl, fun j t ht => by
        rw [Tryd.params5] at ht
        have hm : t ∈ [22] := by simpa using Array.mem_of_getElem? ht
        have hall : ([22].all fun u => !Tryd.prog.wantsStandIn u) = true := by kernel_rfl
        exact (show Tryd.prog.wantsStandIn t = false by simpa using List.all_eq_true.1 hall t hm)⟩)
    (by kernel_rfl)
#print axioms commitTrim_holds
end Go.Proofs.YtcnfmkhjhffebaaDoor
