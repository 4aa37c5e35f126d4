/- Proved here: hodmanlaw9.SlotsForms, called in any memory, returns true: which places some slots have is what promise P9.1 asks. No condition. -/
import Derived.Test.YtpkcihfldmgehaaSlotsLaw
import Derived.Test.YtpkcihfldmgehaaOpen
namespace Go.Proofs.Ytpkcihfldmgehaa
open Go.ChangeShapes Go.WideShapes Go.ChangeAt Go.RowKit

def lowL : List Int := [0, 1, 3, -1]
theorem infoInt : (Try.prog.info? 3).map (fun i => (i.zero, i.size, i.bytes)) = some (some (.int .i64 0), 1, 8) := by kernel_rfl
/-- the numbers told so far -/
def Told (base : Nat) (k : Nat) (v : Value) (w : World) : Prop := w.ownsRow base 3 1 v k ((lowL.take k).map (Value.int .i64))
theorem told_next {B k : Nat} (hk : k < 4) (x : Int) (hx : x = lowL.getD k 0) : ∀ (v : Value) (w : World), w.ownsRow B 3 1 v (k + 1) ((lowL.take k).map (Value.int .i64) ++ [.int .i64 x]) → Told B (k + 1) v w := by
  intro v w h
  have e : (lowL.take (k + 1)).map (Value.int .i64) = (lowL.take k).map (Value.int .i64) ++ [.int .i64 x] := by
    subst hx
    match k, hk with
    | 0, _ => rfl
    | 1, _ => rfl
    | 2, _ => rfl
    | 3, _ => rfl
  unfold Told
  rw [e]
  exact h
theorem low_pos : ∀ k, k < 3 → (((lowL.getD k 0).toNat : Nat) : Int) = lowL.getD k 0 := by decide
theorem one_news (w : World) (x : Int) (t : TypeId) : ∀ j u, [Value.int .i64 x][j]? = some u → (w.alloc (.cells #[.int .i64 x] t)).cell? ((⟨w.heap.size, 0, none⟩ : Addr).add j) = some u := by
  intro j u hu
  have hb := heap_alloc_new w (.cells #[.int .i64 x] t (0, 0))
  rw [Go.WideShapes.add_plain, Nat.zero_add]
  match j, hu with
  | 0, hu => exact cell_block hb 0 _ hu
  | j + 1, hu => simp at hu
theorem one_int (x : Int) : ∀ u ∈ [Value.int .i64 x], u.oneCell' = true := by
  intro u hu
  simp at hu
  subst hu; rfl
theorem told_fresh {w5 w6 w7 : World} {B n : Nat} {v : Value} {xs : List Value} {x : Int} (hf : Fresh w5 w6) (ho : (w6.alloc (.cells #[.int .i64 x] 3)).ownsRow B 3 1 v n xs) (hB : B = w5.heap.size) (hg : (w6.alloc (.cells #[.int .i64 x] 3)).grownBy w7 v.ownBlock) : Fresh w5 w7 := by
  refine (fresh_more hf #[.int .i64 x] 3).grown hg (fresh_more hf #[.int .i64 x] 3).size fun k hk => ?_
  have := (World.ownsRow.lt ho k hk).1
  omega
theorem snew_none (x y : Int) (N c : Int) (hx : x = N) (hy : y = c) (hc : ¬ Cls N.toNat c.toNat) (w : World) : Calls Try.prog 15 #[.int .i64 x, .int .i64 y] w fun e w' => e = .returned (.agg #[.slice none 0 0]) ∧ Fresh w w' :=
  snew_no x y (fun N' c' h1 h2 h => hc (by rw [show N.toNat = N' by omega, show c.toNat = c' by omega]; exact h)) w
theorem low_form (q : Nat → Bool) (hq : q = useB (useB (fun _ => false) 1 1 true) 6 3 true) : ∀ k : Nat, k < 4 → lowS 16 4 q (k : Int) = if k < 3 then some ((lowL.getD k 0).toNat) else none := by
  subst hq
  decide +kernel
set_option maxRecDepth 100000 in
set_option maxHeartbeats 1000000 in
theorem slotsForms_walk0 (w : World) : Calls Try.prog 5 #[] w fun e w' => e = .returned (.bool true) ∧ Fresh w w' := by
  obtain ⟨i0, hi, hz0, hz1, hz2⟩ := infoOf infoInt
  have CC := hide (show Cls 16 4 by unfold Cls; decide)
  obtain ⟨q, hq⟩ : ∃ q, q = useB (useB (fun _ => false) 1 1 true) 6 3 true := ⟨_, rfl⟩
  obtain ⟨q2, hq2⟩ : ∃ q2, q2 = useB q 0 16 true := ⟨_, rfl⟩
  obtain ⟨q3, hq3⟩ : ∃ q3, q3 = useB q2 7 1 false := ⟨_, rfl⟩
  have LF := hide (low_form q hq)
  have L2 := hide (show lowS 16 4 q2 0 = none by rw [hq2, hq]; decide +kernel)
  have L3 := hide (show lowS 16 4 q3 0 = some 7 by rw [hq3, hq2, hq]; decide +kernel)
  have L4 := hide (show lowS 16 4 q3 1 = none by rw [hq3, hq2, hq]; decide +kernel)
  have HQ := hide hq.symm
  have HQ2 := hide hq2.symm
  have HQ3 := hide hq3.symm
  clear hq hq2 hq3
  go_enter Try.func5, Try.ntmps5
  go_wp2_with fail
  refine (begun9_true _).mono ?_
  rintro e w1 ⟨rfl, k1⟩
  have K1 := hide k1
  clear k1
  go_wp2_with fail
  refine (snew_to 16 4 16 4 rfl rfl CC.out _).mono ?_
  rintro e w2 ⟨a2, c2, rfl, s2, f2⟩
  have S2 := hide s2
  have K2 := hide (K1.out.trans f2)
  clear s2 f2 K1
  go_wp2_with fail
  refine (suse_to _ 16 4 _ _ 1 1 true rfl _ S2.out (by decide)).mono ?_
  rintro e w3 ⟨a3, c3, rfl, s3, f3⟩
  have S3 := hide s3
  have K3 := hide (K2.out.trans f3)
  clear s3 f3 K2 S2
  go_wp2_with fail
  refine (suse_to _ 16 4 _ q 6 3 true HQ.out _ S3.out (by decide)).mono ?_
  rintro e w4 ⟨a4, c4, rfl, s4, f4⟩
  obtain ⟨w5, S, hw5, hS, v5, f5⟩ := sv_new s4
  have V5 := hide v5
  have K5 := hide (K3.out.trans (f4.trans f5))
  have HW5 := hide hw5
  have HS := hide hS
  clear s4 f4 K3 S3 v5 f5 hw5 hS
  go_wp2
  rw [← HW5.out, ← HS.out]
  obtain ⟨B, hB⟩ : ∃ B, B = w5.heap.size := ⟨_, rfl⟩
  have HB := hide hB
  have SB := hide (show S < B by rw [hB]; exact V5.out.lt)
  clear hB
  go_loopw [2, 3] (fun gv i wr => ∃ k : Nat, k ≤ 4 ∧ i = .int .i64 (k : Int) ∧ Told B k gv wr ∧ Fresh w5 wr) (fun _ i _ => (4 - intOf i).toNat)
  case atStart => exact ⟨0, Nat.zero_le _, rfl, World.ownsRow_nil _ _ _ _, Fresh.refl _⟩
  case round =>
    obtain ⟨k, hk, rfl, ht, hf⟩ := hrel
    have k0 : (0 : Int) ≤ (k : Int) := by omega
    have VR := hide (V5.out.fresh hf)
    have s0 := VR.out.cell
    have HT := hide ht
    have FR := hide hf
    clear ht hf
    by_cases g : k < 4
    · have g' : (k : Int) < 4 := by omega
      have LK := hide (LF.out k g)
      obtain ⟨x, hx⟩ : ∃ x, x = lowL.getD k 0 := ⟨_, rfl⟩
      have TK := hide (told_next (B := B) g x hx)
      have BB := hide (show B ≤ wr.heap.size by rw [HB.out]; exact FR.out.size)
      by_cases g3 : k < 3
      · rw [if_pos g3] at LK
        have XI := hide (show (((lowL.getD k 0).toNat : Nat) : Int) = x by rw [hx]; exact low_pos k g3)
        clear hx g3 LF
        go_wp2_with fail
        refine (low_some _ 16 4 q k x _ LK.out XI.out _ VR.out.2).mono ?_
        rintro e w6 ⟨rfl, f6⟩
        have T6 := hide (ownsRow_fresh HT.out (f6.trans (fresh_box w6 #[.int .i64 x] 3)))
        have K6 := hide (FR.out.trans f6)
        have B6 := hide (Nat.le_trans BB.out f6.size)
        clear f6 s0 VR HT
        go_wp2_with (at_builtin; refine wpList_append_own _ rfl _ _ 28 rfl B 3 i0 (.int .i64 0) 1 8 Try.underlying28 hi hz0 hz1 hz2 rfl (by decide) _ _ _ rfl T6.out ⟨w6.heap.size, 0, none⟩ 1 1 [.int .i64 x] rfl rfl (one_news w6 _ _) (one_int x) (by unfold maxLen; omega) (by omega) (by have := B6.out; simp; omega) ?_; intro v1 w7 hown hgrow _)
        have OT := hide (TK.out _ _ hown)
        have F7 := hide (show Fresh w5 w7 from told_fresh K6.out T6.out HB.out hgrow)
        clear hown hgrow
        go_roundw
        case rel => exact ⟨k + 1, by omega, by go_num, OT.out, F7.out⟩
        case measure => simp [intOf]; omega
      · rw [if_neg g3] at LK
        obtain rfl : x = -1 := by rw [hx, show k = 3 by omega]; rfl
        clear hx g3 LF
        go_wp2_with fail
        refine (low_no _ 16 4 q k LK.out _ VR.out.2).mono ?_
        rintro e w6 ⟨rfl, f6⟩
        have T6 := hide (ownsRow_fresh HT.out (f6.trans (fresh_box w6 #[.int .i64 (-1)] 3)))
        have K6 := hide (FR.out.trans f6)
        have B6 := hide (Nat.le_trans BB.out f6.size)
        clear f6 s0 VR HT
        go_wp2_with (at_builtin; refine wpList_append_own _ rfl _ _ 28 rfl B 3 i0 (.int .i64 0) 1 8 Try.underlying28 hi hz0 hz1 hz2 rfl (by decide) _ _ _ rfl T6.out ⟨w6.heap.size, 0, none⟩ 1 1 [.int .i64 (-1)] rfl rfl (one_news w6 _ _) (one_int (-1)) (by unfold maxLen; omega) (by omega) (by have := B6.out; simp; omega) ?_; intro v1 w7 hown hgrow _)
        have OT := hide (TK.out _ _ hown)
        have F7 := hide (show Fresh w5 w7 from told_fresh K6.out T6.out HB.out hgrow)
        clear hown hgrow
        go_roundw
        case rel => exact ⟨k + 1, by omega, by go_num, OT.out, F7.out⟩
        case measure => simp [intOf]; omega
    · obtain rfl : k = 4 := by omega
      go_wp2_with fail
      refine (suse_to _ 16 4 _ q2 0 16 true HQ2.out _ VR.out.2 (by decide)).mono ?_
      rintro e w6 ⟨a6, c6, rfl, s6, f6⟩
      obtain ⟨w7, T, hw7, hT, v7, f7⟩ := sv_new s6
      have V7 := hide v7
      have K7 := hide (FR.out.trans (f6.trans f7))
      have G7 := hide (ownsRow_fresh HT.out (f6.trans f7))
      have HW7 := hide hw7
      have HTT := hide hT
      clear s6 f6 v7 f7 hw7 hT s0 VR FR
      go_wp2_with fail
      rw [← HW7.out, ← HTT.out]
      refine (low_no _ 16 4 q2 0 L2.out _ V7.out.2).mono ?_
      rintro e w8 ⟨rfl, f8⟩
      have V8 := hide (V7.out.fresh f8)
      have K8 := hide (K7.out.trans f8)
      have G8 := hide (ownsRow_fresh G7.out f8)
      clear f8 V7 K7 G7 HW7 HTT
      have s0 := V8.out.cell
      go_wp2_with fail
      refine (suse_to _ 16 4 _ q3 7 1 false HQ3.out _ V8.out.2 (by decide)).mono ?_
      rintro e w9 ⟨a9, c9, rfl, s9, f9⟩
      obtain ⟨w10, U, hw10, hU, v10, f10⟩ := sv_new s9
      have V10 := hide v10
      have K10 := hide (K8.out.trans (f9.trans f10))
      have G10 := hide (ownsRow_fresh G8.out (f9.trans f10))
      have HW10 := hide hw10
      have HU := hide hU
      clear s9 f9 v10 f10 hw10 hU s0 V8 K8 G8
      go_wp2_with fail
      rw [← HW10.out, ← HU.out]
      refine (low_some _ 16 4 q3 0 7 7 L3.out rfl _ V10.out.2).mono ?_
      rintro e w11 ⟨rfl, f11⟩
      have V11 := hide (V10.out.fresh f11)
      have K11 := hide (K10.out.trans f11)
      have G11 := hide (ownsRow_fresh G10.out f11)
      clear f11 V10 K10 G10 HW10 HU
      have s0 := V11.out.cell
      go_wp2_with fail
      refine (low_no _ 16 4 q3 1 L4.out _ V11.out.2).mono ?_
      rintro e w12 ⟨rfl, f12⟩
      have K12 := hide (K11.out.trans f12)
      have G12 := hide (ownsRow_fresh G11.out f12)
      clear f12 V11 K11 G11 s0
      obtain ⟨gb, gc, rfl⟩ := own_shape G12.out (by decide)
      have g0 := (World.ownsRow.cellAt G12.out 0 (by decide))
      have g1 := (World.ownsRow.cellAt G12.out 1 (by decide))
      have g2 := (World.ownsRow.cellAt G12.out 2 (by decide))
      have g3 := (World.ownsRow.cellAt G12.out 3 (by decide))
      change _ = some (Value.int .i64 0) at g0
      change _ = some (Value.int .i64 1) at g1
      change _ = some (Value.int .i64 3) at g2
      change _ = some (Value.int .i64 (-1)) at g3
      clear G12
      have fe : ∀ (a : Option Addr) (c k : Nat) (w : World), (Instr.field 26 (.agg #[.slice a c k]) 0).run Try.prog w = .ok (.slice a c k) w := fun _ _ _ _ => by kernel_rfl
      go_wp2_with fail
      clear g0 g1 g2 g3
      refine (snew_none 15 2 15 2 rfl rfl (by unfold Cls; decide) _).mono ?_
      rintro e w13 ⟨rfl, f13⟩
      have K13 := hide (K12.out.trans f13)
      clear f13 K12
      go_wp2_with fail
      refine (snew_to 16 5 16 5 rfl rfl (by unfold Cls; decide) _).mono ?_
      rintro e w14 ⟨a14, c14, rfl, _, f14⟩
      have K14 := hide (K13.out.trans f14)
      clear f14 K13
      go_wp2_with fail
      refine (snew_none 16 6 16 6 rfl rfl (by unfold Cls; decide) _).mono ?_
      rintro e w15 ⟨rfl, f15⟩
      have K15 := hide (K14.out.trans f15)
      clear f15 K14
      go_wp2_with fail
      refine (snew_none 0 1 0 1 rfl rfl (by unfold Cls; decide) _).mono ?_
      rintro e w16 ⟨rfl, f16⟩
      have K16 := hide (K15.out.trans f16)
      clear f16 K15
      go_wp2_with fail
      refine (snew_none 8 0 8 0 rfl rfl (by unfold Cls; decide) _).mono ?_
      rintro e w17 ⟨rfl, f17⟩
      have K17 := hide (K16.out.trans f17)
      clear f17 K16
      go_wp2_with fail
      refine (snew_to 65536 17 65536 17 rfl rfl (by unfold Cls; decide) _).mono ?_
      rintro e w18 ⟨a18, c18, rfl, _, f18⟩
      have K18 := hide (K17.out.trans f18)
      clear f18 K17
      go_wp2_with fail
      refine (snew_none 65536 18 65536 18 rfl rfl (by unfold Cls; decide) _).mono ?_
      rintro e w19 ⟨rfl, f19⟩
      have K19 := hide (K18.out.trans f19)
      clear f19 K18
      go_wp2
      go_ret
      exact ⟨rfl, K5.out.trans K19.out⟩
set_option linter.unusedVariables false
set_option maxRecDepth 100000 in
theorem slotsForms_lifted (os : Os) (started : os.Started) (H : Type) (enc : TypeId × Value → H) :
    ReturnsInHanded {} Try.checked os 5 .any (Rows.slotsFormsSpec.pre6 enc Try.prog Try.f5 Rows.slotsFormsRow.domain false) (Rows.slotsFormsSpec.post enc Try.prog Try.f5 false true false false) := by
  refine returnsInHanded_of_change (C := Try.checked) own started (by kernel_rfl) Try.func5
    (ChangeSpec.witness6 (enc := enc) (C := Try.checked) false ⟨#[], #[], []⟩ 8 (by kernel_rfl) (by kernel_rfl) (by kernel_rfl) (by kernel_rfl)) ?_
  intro W base args ds gs before hval0 hW hcnd _
  have hval : ∀ (j : Nat) t v, Try.f5.params[j]? = some t → args[j]? = some v → Value.okWide Try.prog W .any base t v := hval0
  have hW' := hW
  obtain ⟨p, q, hA0, hV, rfl, hfz, hnd⟩ := hW
  have hA : DataW.TrodAll enc Try.prog W 0 (fun _ => true) true Try.f5.params.toList args.toList ds p := hA0
  rw [Try.params5] at hA hval
  obtain ⟨rfl, rfl, rfl⟩ := trodAll_none hA
  obtain ⟨rfl, rfl⟩ := trodVars_none hV
  clear hA0 hval0
  refine (slotsForms_walk0  W).mono fun e W' ⟨he, hg⟩ => ?_
  subst he
  exact ⟨_, rfl, _, _, _, [], _, [], hW', trodAll_mk1 (shut_bool Try.underlying4 _), trodAll_mk0, rfl, hg.frame _, fun h => by cases h⟩

theorem slotsForms_row : Rows.SlotsFormsSaid :=
  OpenClaim.holds_of_wide 5 Try.f5 rfl rfl rfl rfl rfl rfl rfl ⟨rfl, rfl, rfl, rfl, rfl⟩ rfl rfl rfl rfl rfl (by kernel_rfl) Try.func5 (by kernel_rfl)
    (of_decide_eq_true (by kernel_rfl)) (by unfold Func.isWrapper; first | (rw [if_pos (by decide +kernel)]; kernel_rfl) | (rw [if_neg (by decide +kernel)]; exact ⟨rfl, rfl⟩))
    (fun os started H enc _ => slotsForms_lifted os started H enc)

theorem slotsForms_holds : Rows.SlotsFormsSaid := slotsForms_row
#print axioms slotsForms_holds
end Go.Proofs.Ytpkcihfldmgehaa
