/- Proved here: hodmanlaw1.CalcAll returns true at every two numbers, in any memory in which the library's table math/bits.deBruijn64tab lies as its initialiser lays it: what calc's Add, Mul, Up, Log and Round answer is what the document's own answers are. No condition besides. -/
import Derived.Test.YtmjnnccfigbkmaaDoorLawA
import Derived.Test.YtmjnnccfigbkmaaDoorRef1Calc
import Derived.Test.YtmjnnccfigbkmaaDoorCards
import Derived.Test.YtmjnnccfigbkmaaDoorTie
import Derived.RowKit3
import Derived.Deep.QuietTactic
import Derived.BigQuiet
namespace Go.Proofs.YtmjnnccfigbkmaaDoor
open Go.ChangeShapes Go.WideShapes Go.ChangeAt Go.RowKit

/-- a callee that draws nothing, behind draws -/
theorem quiet_same {P : Program} {f : FuncId} {args : Array Value} {w : World} {m n : Nat} {v : Value}
    (h : Calls P f args (w.drewN (m + n)) fun e w' => e = .returned v ∧ w' = w.drewN (m + n)) : Calls P f args (w.drewN (m + n)) fun e w'' => e = .returned v ∧ ∃ n, w'' = w.drewN (m + n) :=
  h.mono fun _ _ ⟨he, hm⟩ => ⟨he, n, hm⟩

def asV (a b : Int) (k : Nat) : Int := if k = 1 then b else a
def bsV (a b : Int) (k : Nat) : Int := if k = 0 then b else a
theorem asV_in (a b : Int) (k : Nat) (ha : -9223372036854775808 ≤ a) (ha' : a ≤ 9223372036854775807) (hb : -9223372036854775808 ≤ b) (hb' : b ≤ 9223372036854775807) : -9223372036854775808 ≤ asV a b k ∧ asV a b k ≤ 9223372036854775807 := by
  unfold asV; split <;> omega
theorem bsV_in (a b : Int) (k : Nat) (ha : -9223372036854775808 ≤ a) (ha' : a ≤ 9223372036854775807) (hb : -9223372036854775808 ≤ b) (hb' : b ≤ 9223372036854775807) : -9223372036854775808 ≤ bsV a b k ∧ bsV a b k ≤ 9223372036854775807 := by
  unfold bsV; split <;> omega

/-- the two rows of numbers, as the law lays them -/
abbrev rows2 (w : World) (a b : Int) : World := (w.alloc (.cells #[.int .i64 a, .int .i64 b, .int .i64 a] 3)).alloc (.cells #[.int .i64 b, .int .i64 a, .int .i64 a] 3)
theorem rows_as (w : World) (a b : Int) (k : Nat) (hk : k < 3) : (rows2 w a b).cell? ⟨w.heap.size, k, none⟩ = some (.int .i64 (asV a b k)) := by
  match k, hk with
  | 0, _ => simp [rows2, asV]
  | 1, _ => simp [rows2, asV]
  | 2, _ => simp [rows2, asV]
theorem rows_bs (w : World) (a b : Int) (k : Nat) (hk : k < 3) : (rows2 w a b).cell? ⟨w.heap.size + 1, k, none⟩ = some (.int .i64 (bsV a b k)) := by
  match k, hk with
  | 0, _ => simp [rows2, bsV]
  | 1, _ => simp [rows2, bsV]
  | 2, _ => simp [rows2, bsV]

set_option maxRecDepth 100000 in
set_option maxHeartbeats 4000000 in
theorem calcAll_walk (a : Int) (ha : -9223372036854775808 ≤ a) (ha' : a ≤ 9223372036854775807) (b : Int) (hb : -9223372036854775808 ≤ b) (hb' : b ≤ 9223372036854775807) (w : World) (hT : Tab w) :
    Calls Tryd.prog 3 #[.int .i64 a, .int .i64 b] w fun e w' => e = .returned (.bool true) ∧ Grown w w' := by
  go_enter Tryd.func3, Tryd.ntmps3
  go_wp2_with fail
  refine (begun_true _ hT).mono ?_
  rintro e w1 ⟨rfl, hw1⟩
  subst hw1
  go_wp2
  have hT1 : Tab (rows2 w1 a b) := hT.below (((Below.refl _ _).alloc (Nat.le_refl _) _).alloc (by simp) _)
  generalize hW : (w1.alloc (.cells #[.int .i64 a, .int .i64 b, .int .i64 a] 3)).alloc (.cells #[.int .i64 b, .int .i64 a, .int .i64 a] 3) = W
  have HA : Hid (∀ k, k < 3 → W.cell? ⟨w1.heap.size, k, none⟩ = some (.int .i64 (asV a b k))) := by subst hW; exact rows_as w1 a b
  have HB : Hid (∀ k, k < 3 → W.cell? ⟨w1.heap.size + 1, k, none⟩ = some (.int .i64 (bsV a b k))) := by subst hW; exact rows_bs w1 a b
  have HT : Hid (Tab W) := by subst hW; exact hT1
  have HG : Hid (Grown w1 W) := by subst hW; exact ((Grown.refl w1).alloc _ _).alloc _ _
  clear hW hT1 hT
  generalize w1.heap.size = n at *
  go_loopw [7] (fun i w2 => ∃ k m : Nat, k ≤ 3 ∧ i = .int .i64 k ∧ w2 = W.drewN m) (fun i _ => (3 - intOf i).toNat)
  case atStart => exact ⟨0, 0, Nat.zero_le _, rfl, rfl⟩
  case round =>
    obtain ⟨k, m, hk, rfl, rfl⟩ := hrel
    by_cases hlt : k < 3
    · have hx := HA.out k hlt
      have hy := HB.out k hlt
      obtain ⟨x1, x2⟩ := asV_in a b k ha ha' hb hb'
      obtain ⟨y1, y2⟩ := bsV_in a b k ha ha' hb hb'
      generalize asV a b k = x at *
      generalize bsV a b k = y at *
      go_wp2
      go_quiet ((go_at_call 10; exact quiet_same (add_any x y _ x1 x2 y1 y2)))
      go_wp2
      go_quiet ((go_at_call 11; exact quiet_same (radd_any x y _ x1 x2 y1 y2)))
      go_wp2
      go_quiet ((go_at_call 12; exact quiet_same (mul_any x y _ x1 x2 y1 y2)))
      go_wp2
      go_quiet ((go_at_call 13; exact quiet_same (rmul_any x y _ x1 x2 y1 y2)))
      go_wp2
      go_quiet ((go_at_call 14; exact quiet_same (round_any x y _ x2 y2)))
      go_wp2
      go_quiet ((go_at_call 15; exact quiet_same (rround_any x y _ x2 y2)))
      go_wp2
      go_roundw
      case rel => exact ⟨k + 1, _, by omega, by go_num, rfl⟩
      case measure => simp [intOf]; omega
    · have hT2 : Tab (W.drewN m) := HT.out
      go_wp2_with fail
      refine (up_any a _ ha ha').mono ?_
      rintro e w2 ⟨rfl, hw2⟩
      rw [hw2]
      go_wp2_with fail
      refine (rup_any a _ ha ha').mono ?_
      rintro e w3 ⟨rfl, hw3⟩
      rw [hw3]
      go_wp2_with fail
      refine (log_any a _ ha ha' hT2).mono ?_
      rintro e w4 ⟨rfl, hw4⟩
      rw [hw4]
      go_wp2_with fail
      refine (rlog_any a _ ha').mono ?_
      rintro e w5 ⟨rfl, hw5⟩
      rw [hw5]
      go_wp2
      go_ret
      exact ⟨rfl, HG.out⟩

set_option linter.unusedVariables false
set_option maxRecDepth 100000 in
theorem calcAll_lifted (os : Os) (started : os.Started) (H : Type) (enc : TypeId × Value → H) :
    ReturnsInHanded {} Tryd.checked os 3 .any (fun w args => (Rows.calcAllSpec.pre enc Tryd.prog Tryd.f3 [] false w args ∧ laidMetH Tryd.prog laid1 w) ∧ sizedMet enc Tryd.prog Tryd.f3 (OpenSpec.ofChange Rows.calcAllSpec) false w args)
      (Rows.calcAllSpec.post enc Tryd.prog Tryd.f3 false true false false) := by
  refine returnsInHanded_of_change_and (C := Tryd.checked) (X := fun w _ => laidMetH Tryd.prog laid1 w) (fun _ _ _ hh h => h.of_heap hh) own started (by kernel_rfl) Tryd.func3
    (ChangeSpec.witness_shaped (enc := enc) (C := Tryd.checked) (os := os) (X := fun w _ => laidMetH Tryd.prog laid1 w) false (World.doorLaid Tryd.prog 400 os) #[.int .i64 0, .int .i64 0] 8 rfl (World.shaped_of_RefB (by kernel_rfl) (by kernel_rfl)) (by kernel_rfl) (by kernel_rfl) (by kernel_rfl) (door_met os _)) ?_
  intro W base args ds gs before hval0 hW _ _ hL _
  have hval : ∀ (j : Nat) t v, Tryd.f3.params[j]? = some t → args[j]? = some v → Value.okWide Tryd.prog W .any base t v := hval0
  have hW' := hW
  obtain ⟨p, q, hA0, hV, rfl, hfz, hnd⟩ := hW
  have hA : DataW.TrodAll enc Tryd.prog W 0 (fun _ => true) true Tryd.f3.params.toList args.toList ds p := hA0
  rw [Tryd.params3] at hA hval
  obtain ⟨v0, vs0, d0, ds0, p0, q0, hargs, rfl, rfl, h0, r0⟩ := trodAll_cons hA
  obtain ⟨v1, vs1, d1, ds1, p1, q1, rfl, rfl, rfl, h1, r1⟩ := trodAll_cons r0
  obtain ⟨rfl, rfl, rfl⟩ := trodAll_nil r1
  obtain rfl : args = #[v0, v1] := by cases args; simp_all
  obtain ⟨rfl, rfl⟩ := trodVars_none hV
  obtain ⟨a0, rfl, rfl, rfl, w0⟩ := open_int Tryd.underlying3 (hval 0 3 v0 rfl rfl) h0
  obtain ⟨a1, rfl, rfl, rfl, w1⟩ := open_int Tryd.underlying3 (hval 1 3 v1 rfl rfl) h1
  clear hA0 hval0
  simp only [List.append_nil] at hW'
  have hT := tab_of_laid hL
  refine (calcAll_walk a0 (bounds_i64 w0).1 (bounds_i64 w0).2 a1 (bounds_i64 w1).1 (bounds_i64 w1).2 W hT).mono fun e W' ⟨he, hg⟩ => ?_
  subst he
  exact ⟨_, rfl, post_of_same (pa := []) (pv := []) hW' (fun _ _ _ => (trodAll_cons_mk (shut_bool Tryd.underlying4 _) trodAll_mk0)) (fun sp _ => (trodAll_cons_mk (shut_int Tryd.underlying3 w0) (trodAll_cons_mk (shut_int Tryd.underlying3 w1) trodAll_mk0))) (fun _ _ => rfl) rfl
    (hg.frame _) hg.2.1 (ok_one (by kernel_rfl) rfl (okWide_bool_mk Tryd.underlying4 _))⟩

theorem calcAll_row : Rows.CalcAllSaid :=
  OpenClaim.holds_of_wide 3 Tryd.f3 rfl rfl rfl rfl rfl rfl rfl ⟨rfl, rfl, rfl, rfl, rfl⟩ rfl rfl rfl rfl rfl (by kernel_rfl) Tryd.func3 (by kernel_rfl)
    (of_decide_eq_true (by kernel_rfl)) (by unfold Func.isWrapper; first | (rw [if_pos (by decide +kernel)]; kernel_rfl) | (rw [if_neg (by decide +kernel)]; exact ⟨rfl, rfl⟩))
    (fun os started H enc _ => calcAll_lifted os started H enc)

theorem calcAll_holds : Rows.CalcAllCardSaid :=
  Claim7.holds_tied_plain_at .later [] [.data] true (true, "acffdefef437e78adee8462911a6cd1cffdc6a3285f915a7e64319b1f8b6fc81") false
    calcAll_row (fun _ h => by cases h) (by kernel_rfl) (fun _ h => by cases h) calcAll_row_tie rfl ⟨rfl, rfl⟩ (by kernel_rfl) rfl
    (fun f fn hf hfn => by
      obtain rfl : f = 3 := Option.some.inj ((show Tryd.prog.funcNamed "hodman/hodmanlaw1.CalcAll" = some 3 by kernel_rfl).symm.trans hf) |>.symm
      obtain rfl : fn = Tryd.f3 := (Option.some.inj (Tryd.func3.symm.trans hfn)).symm
      exact ⟨by kernel_rfl, fun j t ht => by
        rw [Tryd.params3] at ht
        have hm : t ∈ [3, 3] := by simpa using Array.mem_of_getElem? ht
        have hall : ([3, 3].all fun u => !Tryd.prog.wantsStandIn u) = true := by kernel_rfl
        exact (show Tryd.prog.wantsStandIn t = false by simpa using List.all_eq_true.1 hall t hm)⟩)
    (by kernel_rfl)
#print axioms calcAll_holds
end Go.Proofs.YtmjnnccfigbkmaaDoor
