/- The walk of hodmanlaw6.RankForms: how many there are of some. -/
import Derived.Test.YtlbkicohmbdlhaaRankLaw
namespace Go.Proofs.Ytlbkicohmbdlhaa
open Go.ChangeShapes Go.WideShapes Go.ChangeAt Go.RowKit

/-- the bits of the statement's tree -/
def formB (i : Nat) : Bool := decide ((64 ≤ i ∧ i < 4096) ∨ i = 4999)
def formV : List Nat := setT 5000 (setT 5000 (noneV 5000) 64 4032 true) 4999 1 true
theorem form_bit (i : Nat) (hi : i < 5000) : bitV formV i = formB i := by
  have h0 : Lev 5000 (noneV 5000) := lev_pack _ _
  have b0 : bitV (noneV 5000) i = false := by
    unfold noneV
    rw [bitV_packV _ _ _ (by omega), decide_eq_false (by omega)]; rfl
  have e1 := bit_setT h0 64 4032 true i hi
  have e2 := bit_setT (lev_setT h0 64 4032 true) 4999 1 true i hi
  unfold formV formB
  refine e2.trans ?_
  by_cases h1 : i = 4999
  · subst h1; rfl
  · rw [if_neg (by omega)]
    refine e1.trans ?_
    rw [b0]
    by_cases h2 : 64 ≤ i ∧ i < 4096
    · rw [if_pos (by omega), decide_eq_true (.inl h2)]
    · rw [if_neg (by omega), decide_eq_false (by omega)]
theorem form_cnt (k : Nat) (hk : k ≤ 5000) : cnt (bitV formV) 0 k = cnt formB 0 k := cnt_congr _ _ _ _ fun j _ h2 => form_bit j (by omega)
theorem formB_low (k : Nat) (hk : k ≤ 64) : cnt formB 0 k = 0 := cnt_none _ _ _ fun j _ h2 => decide_eq_false (by omega)
theorem formB_mid (k : Nat) (h1 : 64 ≤ k) (h2 : k ≤ 4096) : cnt formB 0 k = k - 64 := by
  rw [cnt_add formB 0 64 k (by omega) h1, formB_low 64 (by omega), cnt_all formB 64 k fun j h3 h4 => decide_eq_true (by omega)]
  omega
theorem formB_high (k : Nat) (h1 : 4096 ≤ k) (h2 : k ≤ 4999) : cnt formB 0 k = 4032 := by
  rw [cnt_add formB 0 4096 k (by omega) h1, formB_mid 4096 (by omega) (by omega), cnt_none formB 4096 k fun j h3 h4 => decide_eq_false (by omega)]
theorem formB_all : cnt formB 0 5000 = 4033 := by
  rw [cnt_succ formB 0 4999 (by omega), formB_high 4999 (by omega) (by omega)]
  rfl
theorem form_below (k : Nat) (hk : k ≤ 5000) : belowV 5000 formV (k : Int) = cnt formB 0 k := by rw [below_nat 5000 formV k hk, form_cnt k hk]

set_option maxRecDepth 100000 in
set_option maxHeartbeats 4000000 in
theorem rankForms_walk0 (w : World) : Calls Try.prog 6 #[] w fun e w' => e = .returned (.bool true) ∧ Fresh w w' := by
  obtain ⟨s, hs⟩ : ∃ s : Nat, s = 5000 := ⟨_, rfl⟩
  obtain ⟨us, hus⟩ : ∃ us, setT s (noneV s) 64 4032 true = us := ⟨_, rfl⟩
  obtain ⟨vs, hvs⟩ : ∃ vs, setT s us 4999 1 true = vs := ⟨_, rfl⟩
  have hform : vs = formV := by subst hs; subst hus; subst hvs; rfl
  have NA := hide (show nthT s vs 0 = some 64 by subst hs; rw [hform]; exact nthT_some (k := 0) (by omega) (by rw [form_bit 64 (by omega)]; rfl) (by rw [form_cnt 64 (by omega), formB_low 64 (by omega)]))
  have NB := hide (show nthT s vs 4031 = some 4095 by subst hs; rw [hform]; exact nthT_some (k := 4031) (by omega) (by rw [form_bit 4095 (by omega)]; rfl) (by rw [form_cnt 4095 (by omega), formB_mid 4095 (by omega) (by omega)]))
  have NC := hide (show nthT s vs 4032 = some 4999 by subst hs; rw [hform]; exact nthT_some (k := 4032) (by omega) (by rw [form_bit 4999 (by omega)]; rfl) (by rw [form_cnt 4999 (by omega), formB_high 4999 (by omega) (by omega)]))
  have ND := hide (show nthT s vs 4033 = none by subst hs; rw [hform]; exact nthT_none (k := 4033) (by rw [form_cnt 5000 (by omega), formB_all]; omega))
  have NE := hide (show nthT s vs (-1) = none from nthT_neg (by omega))
  have B0 := hide (show ((belowV s vs 64 : Nat) : Int) = 0 by subst hs; rw [hform]; rw [show (64 : Int) = ((64 : Nat) : Int) from rfl, form_below 64 (by omega), formB_low 64 (by omega)]; rfl)
  have B1 := hide (show ((belowV s vs 65 : Nat) : Int) = 1 by subst hs; rw [hform]; rw [show (65 : Int) = ((65 : Nat) : Int) from rfl, form_below 65 (by omega), formB_mid 65 (by omega) (by omega)]; rfl)
  have B2 := hide (show ((belowV s vs 4096 : Nat) : Int) = 4032 by subst hs; rw [hform]; rw [show (4096 : Int) = ((4096 : Nat) : Int) from rfl, form_below 4096 (by omega), formB_mid 4096 (by omega) (by omega)]; rfl)
  have B3 := hide (show ((belowV s vs 4999 : Nat) : Int) = 4032 by subst hs; rw [hform]; rw [show (4999 : Int) = ((4999 : Nat) : Int) from rfl, form_below 4999 (by omega), formB_high 4999 (by omega) (by omega)]; rfl)
  have B4 := hide (show ((belowV s vs 5000 : Nat) : Int) = 4033 by subst hs; rw [hform]; rw [show (5000 : Int) = ((5000 : Nat) : Int) from rfl, form_below 5000 (by omega), formB_all]; rfl)
  have B5 := hide (show ((belowV s vs 1099511627776 : Nat) : Int) = 4033 by subst hs; rw [hform]; unfold belowV; rw [show min (1099511627776 : Int).toNat 5000 = 5000 by omega, form_cnt 5000 (by omega), formB_all]; rfl)
  have B6 := hide (show ((belowV s vs (-7) : Nat) : Int) = 0 by unfold belowV; rw [show min (-7 : Int).toNat s = 0 by omega, cnt_self _ 0 0 (by omega)]; rfl)
  have ZZ := hide (show ((s - cnt (bitV vs) 0 s : Nat) : Int) = 967 by subst hs; rw [hform, form_cnt 5000 (by omega), formB_all]; rfl)
  have hmk := fun w => bools_run 5000 s (by omega) (by omega) w
  have U := hide hus
  have V := hide hvs
  have HS := hide hs
  obtain ⟨L, hL⟩ : ∃ L, nLev s = L := ⟨_, rfl⟩
  have HL := hide hL
  clear hs hL hus hvs hform
  go_enter Try.func6, Try.ntmps6
  go_wp2_with fail
  refine (begun6_true _).mono ?_
  rintro e w0 ⟨rfl, k0⟩
  have F0 := hide k0
  clear k0
  go_wp2_with fail
  refine (made_zeros 5000 s (by rw [HS.out]; rfl) _ _ (boolsA _ _) (by rw [HS.out]; decide) (by rw [HS.out]; decide)).mono ?_
  rintro e w1 ⟨v1, rfl, t1, k1⟩
  have T1 := hide t1.at
  have F1 := hide ((fresh_more F0.out _ _).trans k1)
  clear t1 k1 F0
  go_wp2_with fail
  refine (rtset_to v1 s _ 64 4032 true _ U.out _ T1.out (by decide) (by decide)).mono ?_
  rintro e w1 ⟨v2, rfl, t1, k1⟩
  have T2 := hide t1.at
  have F2 := hide (F1.out.trans k1)
  clear t1 k1 T1 F1
  go_wp2_with fail
  refine (rtset_to v2 s _ 4999 1 true _ V.out _ T2.out (by decide) (by decide)).mono ?_
  rintro e w2 ⟨v2, rfl, t2, k2⟩
  obtain ⟨b, o, cap, rfl, _⟩ := t2.at.lit (s : Int) L rfl HL.out
  have VT := hide (var_new HL.out t2.at)
  obtain ⟨w3, hw3⟩ : ∃ w3, w3 = w2.alloc (.cells #[.int .i64 (s : Int), .slice (some ⟨b, o, none⟩) L cap] 27) := ⟨_, rfl⟩
  rw [← hw3] at VT
  have F3 := hide (show Fresh w w3 by subst hw3; exact fresh_more (F2.out.trans k2) _ _)
  have HW3 := hide hw3
  clear hw3 t2 k2 F2 T2 U V hmk
  have c0 := VT.out.c0 w3 (Fresh.refl _)
  have c1 := VT.out.c1 w3 (Fresh.refl _)
  have K := hide (Fresh.refl w3)
  go_wp2_with fail
  rw [← HW3.out]
  refine (nth_is _ s _ 0 64 64 NA.out rfl _ (VT.out.tr _ K.out) (by decide)).mono ?_
  rintro e wk ⟨rfl, k4⟩
  have K4 := hide (K.out.trans k4)
  clear c0 c1 k4 K
  have K := K4
  clear K4
  have c0 := VT.out.c0 _ K.out
  have c1 := VT.out.c1 _ K.out
  go_wp2_with fail
  refine (nth_is _ s _ 4031 4095 4095 NB.out rfl _ (VT.out.tr _ K.out) (by decide)).mono ?_
  rintro e wk ⟨rfl, k4⟩
  have K4 := hide (K.out.trans k4)
  clear c0 c1 k4 K
  have K := K4
  clear K4
  have c0 := VT.out.c0 _ K.out
  have c1 := VT.out.c1 _ K.out
  go_wp2_with fail
  refine (nth_is _ s _ 4032 4999 4999 NC.out rfl _ (VT.out.tr _ K.out) (by decide)).mono ?_
  rintro e wk ⟨rfl, k4⟩
  have K4 := hide (K.out.trans k4)
  clear c0 c1 k4 K
  have K := K4
  clear K4
  have c0 := VT.out.c0 _ K.out
  have c1 := VT.out.c1 _ K.out
  go_wp2_with fail
  refine (nth_no _ s _ 4033 ND.out _ (VT.out.tr _ K.out) (by decide)).mono ?_
  rintro e wk ⟨rfl, k4⟩
  have K4 := hide (K.out.trans k4)
  clear c0 c1 k4 K
  have K := K4
  clear K4
  have c0 := VT.out.c0 _ K.out
  have c1 := VT.out.c1 _ K.out
  go_wp2_with fail
  refine (nth_no _ s _ (-1) NE.out _ (VT.out.tr _ K.out) (by decide)).mono ?_
  rintro e wk ⟨rfl, k4⟩
  have K4 := hide (K.out.trans k4)
  clear c0 c1 k4 K
  have K := K4
  clear K4
  have c0 := VT.out.c0 _ K.out
  have c1 := VT.out.c1 _ K.out
  go_wp2_with fail
  refine (below_to _ s _ 64 0 B0.out _ (VT.out.tr _ K.out) (by decide) (by decide)).mono ?_
  rintro e wk ⟨rfl, k4⟩
  have K4 := hide (K.out.trans k4)
  clear c0 c1 k4 K
  have K := K4
  clear K4
  have c0 := VT.out.c0 _ K.out
  have c1 := VT.out.c1 _ K.out
  go_wp2_with fail
  refine (below_to _ s _ 65 1 B1.out _ (VT.out.tr _ K.out) (by decide) (by decide)).mono ?_
  rintro e wk ⟨rfl, k4⟩
  have K4 := hide (K.out.trans k4)
  clear c0 c1 k4 K
  have K := K4
  clear K4
  have c0 := VT.out.c0 _ K.out
  have c1 := VT.out.c1 _ K.out
  go_wp2_with fail
  refine (below_to _ s _ 4096 4032 B2.out _ (VT.out.tr _ K.out) (by decide) (by decide)).mono ?_
  rintro e wk ⟨rfl, k4⟩
  have K4 := hide (K.out.trans k4)
  clear c0 c1 k4 K
  have K := K4
  clear K4
  have c0 := VT.out.c0 _ K.out
  have c1 := VT.out.c1 _ K.out
  go_wp2_with fail
  refine (below_to _ s _ 4999 4032 B3.out _ (VT.out.tr _ K.out) (by decide) (by decide)).mono ?_
  rintro e wk ⟨rfl, k4⟩
  have K4 := hide (K.out.trans k4)
  clear c0 c1 k4 K
  have K := K4
  clear K4
  have c0 := VT.out.c0 _ K.out
  have c1 := VT.out.c1 _ K.out
  go_wp2_with fail
  refine (below_to _ s _ 5000 4033 B4.out _ (VT.out.tr _ K.out) (by decide) (by decide)).mono ?_
  rintro e wk ⟨rfl, k4⟩
  have K4 := hide (K.out.trans k4)
  clear c0 c1 k4 K
  have K := K4
  clear K4
  have c0 := VT.out.c0 _ K.out
  have c1 := VT.out.c1 _ K.out
  go_wp2_with fail
  refine (below_to _ s _ 1099511627776 4033 B5.out _ (VT.out.tr _ K.out) (by decide) (by decide)).mono ?_
  rintro e wk ⟨rfl, k4⟩
  have K4 := hide (K.out.trans k4)
  clear c0 c1 k4 K
  have K := K4
  clear K4
  have c0 := VT.out.c0 _ K.out
  have c1 := VT.out.c1 _ K.out
  go_wp2_with fail
  refine (below_to _ s _ (-7) 0 B6.out _ (VT.out.tr _ K.out) (by decide) (by decide)).mono ?_
  rintro e wk ⟨rfl, k4⟩
  have K4 := hide (K.out.trans k4)
  clear c0 c1 k4 K
  have K := K4
  clear K4
  have c0 := VT.out.c0 _ K.out
  have c1 := VT.out.c1 _ K.out
  go_wp2_with fail
  refine (zeros_to _ s _ 967 ZZ.out _ (VT.out.tr _ K.out)).mono ?_
  rintro e wk ⟨rfl, k4⟩
  have K4 := hide (K.out.trans k4)
  clear c0 c1 k4 K
  have K := K4
  clear K4
  go_wp2
  go_ret
  exact ⟨rfl, F3.out.trans K.out⟩
end Go.Proofs.Ytlbkicohmbdlhaa
