/- The walk of hodmanlaw5.TreeGlance: what is told at a glance is so. -/
import Derived.Test.YthhflgecmbhjhaaTreeLaw
import Derived.Test.YthhflgecmbhjhaaPlayTree
import Derived.Test.YthhflgecmbhjhaaTreeVar
import Derived.Test.YthhflgecmbhjhaaTreeM
namespace Go.Proofs.Ythhflgecmbhjhaa
open Go.ChangeShapes Go.WideShapes Go.ChangeAt Go.RowKit

def szG : Nat → Nat
  | 0 => 1
  | 1 => 63
  | 2 => 64
  | 3 => 65
  | 4 => 100
  | 5 => 128
  | 6 => 1000
  | 7 => 4095
  | 8 => 4096
  | 9 => 4097
  | _ => 5000
theorem szG_in (k : Nat) : 1 ≤ szG k ∧ szG k ≤ 5000 := by unfold szG; split <;> decide
theorem szG_cell (w : World) (k : Nat) (hk : k < 11) : (w.alloc (.cells #[.int .i64 1, .int .i64 63, .int .i64 64, .int .i64 65, .int .i64 100, .int .i64 128, .int .i64 1000, .int .i64 4095, .int .i64 4096, .int .i64 4097, .int .i64 5000] 3)).cell? ⟨w.heap.size, k, none⟩ = some (.int .i64 ((szG k : Nat) : Int)) := by
  match k, hk with
  | 0, _ => simp [szG]
  | 1, _ => simp [szG]
  | 2, _ => simp [szG]
  | 3, _ => simp [szG]
  | 4, _ => simp [szG]
  | 5, _ => simp [szG]
  | 6, _ => simp [szG]
  | 7, _ => simp [szG]
  | 8, _ => simp [szG]
  | 9, _ => simp [szG]
  | 10, _ => simp [szG]
theorem size_any (n : Int) (h0 : 0 ≤ n) (h1 : n ≤ 65535) (w : World) : Calls Try.prog 10 #[.int .u16 n] w fun e w' => ∃ s : Nat, e = .returned (.int .i64 (s : Int)) ∧ 1 ≤ s ∧ s ≤ 5000 ∧ Fresh w w' := by
  have SZ := hide (szG_cell w (n.toNat % 11) (by omega))
  have hr : n % 11 = ((n.toNat % 11 : Nat) : Int) := by omega
  have IN := hide (szG_in (n.toNat % 11))
  have c := SZ.out
  have m1 : ((n.toNat % 11 : Nat) : Int) < 11 := by omega
  generalize n.toNat % 11 = q at *
  generalize szG q = s at *
  have FB := hide (fresh_box w #[.int .i64 1, .int .i64 63, .int .i64 64, .int .i64 65, .int .i64 100, .int .i64 128, .int .i64 1000, .int .i64 4095, .int .i64 4096, .int .i64 4097, .int .i64 5000] 3)
  go_enter Try.func10, Try.ntmps10
  go_wp2
  go_ret
  exact ⟨s, rfl, IN.out.1, IN.out.2, FB.out⟩

/-- what Made makes is a reader at its first number -/
theorem picks_fresh {w w1 : World} {a : Option Addr} {len cap : Nat} {zs : List Int} (h : IsRow .u8 w a len cap zs) (k : Fresh w w1) (pt : TypeId) :
    PicksAt (w1.alloc (.cells #[.slice a len cap, .int .i64 0] pt)) w1.heap.size (zs.take len) 0 := by
  have hk : Kept w1 (w1.alloc (.cells #[.slice a len cap, .int .i64 0] pt)) := (Kept.refl w1).alloc _ _
  have hfr : ∀ o, (w1.alloc (.cells #[.slice a len cap, .int .i64 0] pt)).frozen? ⟨w1.heap.size, o, none⟩ = false := fun o => by rw [frozen?_alloc_cells]; simp [World.frozen?]
  rcases h with ⟨rfl, rfl, rfl, rfl⟩ | ⟨x, rfl, hl, hm, hz, hc, hw⟩
  · exact ⟨⟨none, 0, by simp, by simp, fun z hz => by simp at hz, fun i hi => by simp at hi⟩, by simp, Nat.zero_le _, hfr⟩
  · have hlen : (zs.take len).length = len := by rw [List.length_take]; omega
    have hml : (zs.take len).length ≤ 9223372036854775807 := by have e : maxLen = 9223372036854775807 := rfl; omega
    refine ⟨⟨some x, cap, by rw [hlen]; simp, hml, fun z hz' => bounds_u8 (hw z (List.mem_of_mem_take hz')), fun i hi => ?_⟩, by simp, Nat.zero_le _, hfr⟩
    rw [hlen] at hi
    obtain ⟨b, o, s⟩ := x
    have hs : s = none := by simpa [Addr.add] using World.cell?_spot (hc 0 (by omega))
    subst hs
    have ea : (⟨b, o, none⟩ : Addr).add i = ⟨b, o + i, none⟩ := Go.WideShapes.add_plain b o i
    have c' : w.cell? ⟨b, o + i, none⟩ = some (.int .u8 (zs.getD i 0)) := by rw [← ea]; exact hc i (by omega)
    have e : (zs.take len).getD i 0 = zs.getD i 0 := by simp [List.getD_eq_getElem?_getD, hi]
    rw [e]
    have c1 := (k.cell (World.block_lt_of_cell? _ _ c')).trans c'
    exact ⟨b, o, rfl, World.block_lt_of_cell? _ _ c1, hk.cell c1⟩
/-- a variable that is written anew -/
structure Mut (WX : World) (V n L : Nat) (lv : Value) (vs : List Nat) (w : World) : Prop where
  var : w.heap[V]? = some (.cells #[.int .i64 (n : Int), lv] 27 (0, 0))
  tr : TreeAt w (.agg #[.int .i64 (n : Int), lv]) n vs
  el : Fresh WX w
  le : WX.heap.size ≤ V
theorem Mut.fresh {WX : World} {V n L : Nat} {lv : Value} {vs : List Nat} {w w' : World} (h : Mut WX V n L lv vs w) (k : Fresh w w') : Mut WX V n L lv vs w' :=
  ⟨by rw [k.block V (Array.getElem?_eq_some_iff.1 h.var).1]; exact h.var, h.tr.fresh k, h.el.trans k, h.le⟩
theorem Mut.store {WX : World} {V n L : Nat} {lv lv' : Value} {vs us : List Nat} {w w1 : World} (h : Mut WX V n L lv vs w) (t : TreeNew w.heap.size w1 (.agg #[.int .i64 (n : Int), lv']) n us) (k : Fresh w w1) :
    Mut WX V n L lv' us ((w1.setCell ⟨V, 0, none⟩ (.int .i64 (n : Int))).setCell ⟨V, 1, none⟩ lv') := by
  have hV := (Array.getElem?_eq_some_iff.1 h.var).1
  refine ⟨two_cells (h.fresh k).var _ _, (t.store hV _ _).at, ?_, h.le⟩
  exact fresh_set (fresh_set (h.el.trans k) h.le 0 _) h.le 1 _
theorem mut_cells {WX : World} {V n L : Nat} {lv : Value} {vs : List Nat} {w w1 : World} (h : Mut WX V n L lv vs w) (k : Fresh w w1) : w1.cell? ⟨V, 0, none⟩ = some (.int .i64 (n : Int)) ∧ w1.cell? ⟨V, 1, none⟩ = some lv ∧ w1.frozen? ⟨V, 0, none⟩ = false ∧ w1.frozen? ⟨V, 1, none⟩ = false := by
  have h1 := (h.fresh k).var
  exact ⟨cell_block h1 0 _ rfl, cell_block h1 1 _ rfl, free_block h1 0, free_block h1 1⟩
/-- the bits behind what was set and taken away again, given back as far as j -/
def Back (s F K j : Nat) (ws vs : List Nat) : Prop := Lev s vs ∧ ∀ i, i < s → bitV vs i = if j ≤ i ∧ i < F + K then false else bitV ws i
theorem back_start {s F K : Nat} {ws : List Nat} (h : Lev s ws) : Back s F K F ws (setT s (setT s ws F K true) F K false) := by
  refine ⟨lev_setT (lev_setT h _ _ _) _ _ _, fun i hi => ?_⟩
  rw [bit_setT (lev_setT h _ _ _) F K false i hi, bit_setT h F K true i hi]
  by_cases hc : F ≤ i ∧ i < F + K
  · rw [if_pos hc, if_pos hc]
  · rw [if_neg hc, if_neg hc, if_neg hc]
theorem back_on {s F K j : Nat} {ws vs : List Nat} (h : Back s F K j ws vs) (hj : bitV ws j = true) : Back s F K (j + 1) ws (setT s vs (j : Int) 1 true) := by
  refine ⟨lev_setT h.1 _ _ _, fun i hi => ?_⟩
  rw [show (1 : Int) = ((1 : Nat) : Int) from rfl, bit_setT h.1 j 1 true i hi]
  by_cases e : i = j
  · subst e; rw [if_pos (by omega), if_neg (by omega), hj]
  · rw [if_neg (by omega), h.2 i hi]
    by_cases hc : j ≤ i ∧ i < F + K
    · rw [if_pos hc, if_pos (by omega)]
    · rw [if_neg hc, if_neg (by omega)]
theorem back_off {s F K j : Nat} {ws vs : List Nat} (h : Back s F K j ws vs) (hj : bitV ws j = false) : Back s F K (j + 1) ws vs := by
  refine ⟨h.1, fun i hi => ?_⟩
  rw [h.2 i hi]
  by_cases e : i = j
  · subst e
    rw [if_neg (show ¬ (i + 1 ≤ i ∧ i < F + K) by omega), hj]
    split <;> rfl
  · by_cases hc : j ≤ i ∧ i < F + K
    · rw [if_pos hc, if_pos (by omega)]
    · rw [if_neg hc, if_neg (by omega)]
theorem back_end {s F K j : Nat} {ws vs : List Nat} (h : Back s F K j ws vs) (hw : Lev s ws) (hj : s ≤ j ∨ F + K ≤ j) : vs = ws :=
  lev_ext h.1 hw fun i hi => by rw [h.2 i hi, if_neg (by omega)]
theorem hasT_nat (n : Nat) (ws : List Nat) (i : Nat) (hi : i < n) : hasT n ws (i : Int) = bitV ws i := by
  unfold hasT; rw [decide_eq_true (by omega), decide_eq_true (by omega), Int.toNat_natCast]; rfl

set_option maxRecDepth 100000 in
set_option maxHeartbeats 8000000 in
theorem treeGlance_walk0 (a : Option Addr) (len cap : Nat) (zs : List Int) (n : Int) (hn : 0 ≤ n) (hn' : n ≤ 65535) (fr : Int) (hfr : 0 ≤ fr) (hfr' : fr ≤ 65535) (mn : Int) (hmn : 0 ≤ mn) (hmn' : mn ≤ 65535) (st : Int) (hst : 0 ≤ st) (hst' : st ≤ 65535) (w : World) (hrow : IsRow .u8 w a len cap zs) :
    Calls Try.prog 4 #[.slice a len cap, .int .u16 n, .int .u16 fr, .int .u16 mn, .int .u16 st] w fun e w' => e = .returned (.bool true) ∧ Fresh w w' := by
  by_cases h20 : len ≤ 20
  · have l0 : (len : Int) ≤ 20 := by omega
    have RW := hide hrow
    clear hrow h20
    go_enter Try.func4, Try.ntmps4
    go_wp2_with fail
    refine (begun5_true _).mono ?_
    rintro e w1 ⟨rfl, k1⟩
    have K1 := hide k1
    clear k1
    go_wp2_with fail
    refine (made_any a len cap _).mono ?_
    rintro e w2 ⟨rfl, rfl⟩
    have PK := hide (picks_fresh RW.out K1.out 51)
    have F2 := hide (fresh_box w1 #[.slice a len cap, .int .i64 0] 51)
    go_wp2_with fail
    refine (size_any n hn hn' _).mono ?_
    rintro e w3 ⟨s, rfl, s1, s2, k3⟩
    have PK3 := hide (PK.out.fresh k3)
    have F3 := hide (K1.out.trans (F2.out.trans k3))
    have B1 := hide K1.out.size
    clear k3 PK F2 K1
    go_wp2_with fail
    refine (ptree_any _ _ s _ PK3.out s1 (by omega)).mono ?_
    rintro e w4 ⟨v4, ws, rfl, t4, e4⟩
    have F4 := hide (Elb.below F3.out B1.out e4)
    obtain ⟨b, o, cp, rfl, _⟩ := t4.shape
    have LE := hide t4.lev
    obtain ⟨L, hL⟩ : ∃ L, nLev s = L := ⟨_, rfl⟩
    have l1 := nLev_in s
    rw [hL] at t4 l1 ⊢
    have VT := hide (var_new hL t4)
    have HL := hide hL
    clear hL t4 e4 F3 PK3
    obtain ⟨w5, hw5⟩ : ∃ w5, w5 = w4.alloc (.cells #[.int .i64 (s : Int), .slice (some ⟨b, o, none⟩) L cp] 27) := ⟨_, rfl⟩
    have F5 := hide (show Fresh w w5 by subst hw5; exact fresh_more F4.out _ _)
    rw [← hw5] at VT
    have HW5 := hide hw5
    clear hw5 F4
    have c0 := VT.out.c0 w5 (Fresh.refl _)
    have c1 := VT.out.c1 w5 (Fresh.refl _)
    have q1 : (1 : Int) ≤ (s : Int) := by omega
    have q2 : (s : Int) ≤ 5000 := by omega
    obtain ⟨F, hF⟩ : ∃ F : Nat, fr % (s : Int) = F := ⟨(fr % (s : Int)).toNat, by have := Int.emod_nonneg fr (show (s : Int) ≠ 0 by omega); omega⟩
    have hF2 : F < s := by have := Int.emod_lt_of_pos fr (show 0 < (s : Int) by omega); omega
    obtain ⟨K, hK⟩ : ∃ K : Nat, mn % 700 = K := ⟨(mn % 700).toNat, by omega⟩
    have hK2 : K < 700 := by omega
    obtain ⟨A, hA⟩ : ∃ A : Nat, st % (s : Int) = A := ⟨(st % (s : Int)).toNat, by have := Int.emod_nonneg st (show (s : Int) ≠ 0 by omega); omega⟩
    have hA2 : A < s := by have := Int.emod_lt_of_pos st (show 0 < (s : Int) by omega); omega
    go_wp2_with fail
    rw [← HW5.out]
    go_quiet (fail)
    rw [hF, hA]
    have T5 := hide (fun m => VT.out.tr (w5.drewN m) (Fresh.drewN w5 m))
    obtain ⟨us, hus⟩ : ∃ us, setT s ws (F : Int) (K : Int) true = us := ⟨_, rfl⟩
    have US := hide hus
    clear hus hF hK hA
    have f1 : (F : Int) < (s : Int) := by omega
    have k1 : (K : Int) < 700 := by omega
    have a1 : (A : Int) < (s : Int) := by omega
    go_wp2_with fail
    refine (tset_to _ s ws (F : Int) (K : Int) true us US.out _ (T5.out _) (by omega)).mono ?_
    rintro e w6 ⟨v6, rfl, t6, k6⟩
    have k56 : Fresh w5 w6 := (Fresh.drewN w5 _).trans k6
    obtain ⟨b6, o6, cp6, rfl, _⟩ := t6.at.lit (s : Int) L rfl HL.out
    have VU := hide (var_new HL.out t6.at)
    have LU := hide t6.at.lev
    obtain ⟨w7, hw7⟩ : ∃ w7, w7 = w6.alloc (.cells #[.int .i64 (s : Int), .slice (some ⟨b6, o6, none⟩) L cp6] 27) := ⟨_, rfl⟩
    have f57 : Fresh w5 w7 := by subst hw7; exact fresh_more k56 _ _
    rw [← hw7] at VU
    have F7 := hide (F5.out.trans f57)
    have VT7 := hide (VT.out.mono f57)
    have HW7 := hide hw7
    clear hw7 f57 k56 k6 t6 c0 c1 VT T5 HW5 F5
    have u0 := VU.out.c0 w7 (Fresh.refl _)
    have u1 := VU.out.c1 w7 (Fresh.refl _)
    obtain ⟨ok, I, hfi, hI0, hok, hno, hall⟩ : ∃ (ok : Bool) (I : Nat), firstT s us (A : Int) = (if ok then some ((I : Int)).toNat else none) ∧ (ok = false → (I : Int) = 0) ∧ (ok = true → A ≤ I ∧ I < s ∧ bitV us I = false) ∧ (ok = false → I = 0) ∧ ∀ j, A ≤ j → j < (if ok then I else s) → bitV us j = true := by
      have e : firstT s us (A : Int) = first (bitV us) A s := by unfold firstT; rw [if_neg (by omega), Int.toNat_natCast]
      rcases first_cases (bitV us) A s with ⟨i, hi, h1, h2, h3, h4⟩ | ⟨hi, h4⟩
      · exact ⟨true, i, by rw [e, hi]; rfl, fun h => (by cases h), fun _ => ⟨h1, h2, h3⟩, fun h => (by cases h), fun j hj1 hj2 => h4 j hj1 (by simpa using hj2)⟩
      · exact ⟨false, 0, by rw [e, hi]; rfl, fun _ => rfl, fun h => (by cases h), fun _ => rfl, fun j hj1 hj2 => h4 j hj1 (by simpa using hj2)⟩
    have FI := hide hfi
    have HI0 := hide hI0
    have HOK := hide hok
    have HALL := hide hall
    have HNO := hide hno
    clear hfi hI0 hok hno hall
    go_wp2_with fail
    rw [← HW7.out]
    refine (tfirst_to _ s us (A : Int) (I : Int) ok FI.out (by omega) HI0.out _ (VU.out.tr _ (Fresh.refl _)) (by omega) (by omega)).mono ?_
    rintro e w8 ⟨rfl, k8⟩
    have VU8 := hide (VU.out.mono k8)
    have VT8 := hide (VT7.out.mono k8)
    have F8 := hide (F7.out.trans k8)
    clear k8 u0 u1 VU VT7 F7 HW7 FI HI0
    have u0 := VU8.out.c0 w8 (Fresh.refl _)
    have u1 := VU8.out.c1 w8 (Fresh.refl _)
    have t0 := VT8.out.c0 w8 (Fresh.refl _)
    cases ok with
    | true =>
      obtain ⟨i1, i2, i3⟩ := HOK.out rfl
      have i1' : (A : Int) ≤ (I : Int) := by omega
      have i2' : (I : Int) < (s : Int) := by omega
      have dd1 : decide (I < A) = false := decide_eq_false (by omega)
      have dd2 : decide (s ≤ I) = false := decide_eq_false (by omega)
      have HB := hide (show hasT s us (I : Int) = false by rw [hasT_nat s us I i2]; exact i3)
      have HA := hide (show ∀ j, A ≤ j → j < I → bitV us j = true from fun j h1 h2 => HALL.out j h1 h2)
      have EB := hide (show I ≤ s by omega)
      clear HALL HOK HNO i1 i2 i3
      go_wp2_with fail
      refine (thas_to _ s us (I : Int) false HB.out _ (VU8.out.tr _ (Fresh.refl _)) (by omega) (by omega)).mono ?_
      rintro e w9 ⟨rfl, k9⟩
      have VU9 := hide (VU8.out.mono k9)
      have VT9 := hide (VT8.out.mono k9)
      have F9 := hide (F8.out.trans k9)
      clear k9 u0 u1 t0 VU8 VT8 F8 HB
      have u0 := VU9.out.c0 w9 (Fresh.refl _)
      have u1 := VU9.out.c1 w9 (Fresh.refl _)
      have t0 := VT9.out.c0 w9 (Fresh.refl _)
      go_wp2
      go_loopw [19] (fun x wr => ∃ j : Nat, A ≤ j ∧ x = .int .i64 (j : Int) ∧ Fresh w9 wr) (fun x _ => (I - intOf x).toNat)
      case atStart => exact ⟨A, Nat.le_refl _, rfl, Fresh.refl _⟩
      case round =>
        obtain ⟨j, hj, rfl, hFr⟩ := hrel
        have KR := hide hFr
        clear hFr u0 u1 t0
        have u0 := VU9.out.c0 wr KR.out
        have u1 := VU9.out.c1 wr KR.out
        by_cases hjI : j < I
        · have j1 : (j : Int) < (I : Int) := by omega
          have j2 : (j : Int) ≤ 5000 := by have := EB.out; omega
          have HB := hide (show hasT s us (j : Int) = true by rw [hasT_nat s us j (by have := EB.out; omega)]; exact HA.out j hj hjI)
          go_wp2_with fail
          refine (thas_to _ s us (j : Int) true HB.out _ (VU9.out.tr _ KR.out) (by omega) (by omega)).mono ?_
          rintro e wb ⟨rfl, kb⟩
          have KB := hide (KR.out.trans kb)
          clear kb HB u0 u1
          go_wp2
          go_roundw
          case rel => first | exact ⟨j + 1, by omega, by go_num, KB.out⟩ | ((repeat apply Exists.intro); refine ⟨?_, rfl⟩; exact ⟨j + 1, by omega, by go_num, KB.out⟩)
          case measure => simp [intOf]; omega
        · have j1 : (I : Int) ≤ (j : Int) := by omega
          have VUa := hide (VU9.out.mono KR.out)
          have VTa := hide (VT9.out.mono KR.out)
          have Fa := hide (F9.out.trans KR.out)
          clear hjI
          obtain ⟨vs0, hvs0⟩ : ∃ vs0, setT s us (F : Int) (K : Int) false = vs0 := ⟨_, rfl⟩
          have VS := hide hvs0
          have BS := hide (show Back s F K F ws vs0 by rw [← hvs0, ← US.out]; exact back_start LE.out)
          clear hvs0
          go_wp2_with fail
          refine (tset_to _ s us (F : Int) (K : Int) false vs0 VS.out _ (VUa.out.tr _ (Fresh.refl _)) (by omega)).mono ?_
          rintro e wb ⟨vb, rfl, tb, kb⟩
          obtain ⟨bb, ob, cpb, rfl, _⟩ := tb.at.lit (s : Int) L rfl HL.out
          have MU := hide (show Mut wb wb.heap.size s L (.slice (some ⟨bb, ob, none⟩) L cpb) vs0 (wb.alloc (.cells #[.int .i64 (s : Int), .slice (some ⟨bb, ob, none⟩) L cpb] 27)) from ⟨heap_alloc_new wb _, tb.at.boxed _ _, fresh_box wb _ _, Nat.le_refl _⟩)
          have VUb := hide (VUa.out.mono kb)
          have VTb := hide (VTa.out.mono kb)
          have Fb := hide (Fa.out.trans kb)
          clear tb kb VUa VTa Fa u0 u1 VS KR VU9 VT9 F9
          go_wp2
          generalize hVV : wb.heap.size = V at *
          have HVV := hide hVV
          go_loopw [21] (fun x wr => ∃ (j : Nat) (lv : Value) (vs : List Nat), F ≤ j ∧ j ≤ 65536 ∧ x = .int .i64 (j : Int) ∧ Mut wb V s L lv vs wr ∧ Back s F K j ws vs) (fun x _ => (s - intOf x).toNat)
          case atStart => exact ⟨F, _, vs0, Nat.le_refl _, by omega, rfl, MU.out, BS.out⟩
          case round =>
            obtain ⟨j, lv, vs, hj, hj2, rfl, hM, hBk⟩ := hrel
            have MM := hide hM
            have BK := hide hBk
            have t0 := VTb.out.c0 wr hM.el
            have t1 := VTb.out.c1 wr hM.el
            have v0 := cell_block hM.var 0 _ rfl
            have v1 := cell_block hM.var 1 _ rfl
            have jj : (j : Int) ≤ 65536 := by omega
            clear hM hBk MU BS
            by_cases hjs : j < s ∧ j < F + K
            · obtain ⟨h1, h2⟩ := hjs
              have h1' : (j : Int) < (s : Int) := by omega
              have h2' : (j : Int) < (F : Int) + (K : Int) := by omega
              cases hbj : bitV ws j with
              | true =>
                have HB := hide (show hasT s ws (j : Int) = true by rw [hasT_nat s ws j h1]; exact hbj)
                have NX := hide (back_on BK.out hbj)
                clear hbj
                go_wp2_with fail
                refine (thas_to _ s ws (j : Int) true HB.out _ (VTb.out.tr _ MM.out.el) (by omega) (by omega)).mono ?_
                rintro e wd ⟨rfl, kd⟩
                have MD := hide (MM.out.fresh kd)
                clear kd t0 t1 v0 v1 HB MM
                have v0 := cell_block MD.out.var 0 _ rfl
                have v1 := cell_block MD.out.var 1 _ rfl
                go_wp2_with fail
                refine (tset_to _ s vs (j : Int) 1 true _ rfl _ MD.out.tr (by decide)).mono ?_
                rintro e we ⟨ve, rfl, te, ke⟩
                obtain ⟨be, oe, cpe, rfl, _⟩ := te.at.lit (s : Int) L rfl HL.out
                have MN := hide (MD.out.store te ke)
                obtain ⟨d0, d1, e0, e1⟩ := mut_cells MD.out ke
                clear te ke v0 v1 MD
                go_wp2
                go_roundw
                case rel => first | exact ⟨j + 1, _, _, by omega, by omega, by go_num, MN.out, NX.out⟩ | ((repeat apply Exists.intro); refine ⟨?_, rfl⟩; exact ⟨j + 1, _, _, by omega, by omega, by go_num, MN.out, NX.out⟩)
                case measure => simp [intOf]; omega
              | false =>
                have HB := hide (show hasT s ws (j : Int) = false by rw [hasT_nat s ws j h1]; exact hbj)
                have NX := hide (back_off BK.out hbj)
                clear hbj
                go_wp2_with fail
                refine (thas_to _ s ws (j : Int) false HB.out _ (VTb.out.tr _ MM.out.el) (by omega) (by omega)).mono ?_
                rintro e wd ⟨rfl, kd⟩
                have MD := hide (MM.out.fresh kd)
                clear kd t0 t1 v0 v1 HB MM
                go_wp2
                go_roundw
                case rel => first | exact ⟨j + 1, lv, vs, by omega, by omega, by go_num, MD.out, NX.out⟩ | ((repeat apply Exists.intro); refine ⟨?_, rfl⟩; exact ⟨j + 1, lv, vs, by omega, by omega, by go_num, MD.out, NX.out⟩)
                case measure => simp [intOf]; omega
            · have EN := hide (back_end BK.out LE.out (show s ≤ j ∨ F + K ≤ j by omega))
              have u0 := VUb.out.c0 wr MM.out.el
              have u1 := VUb.out.c1 wr MM.out.el
              have MEQ := hide MM.out.tr
              rw [EN.out] at MEQ
              have L1 : (1 : Int) ≤ (L : Int) := by omega
              have L3 : (L : Int) ≤ 3 := by omega
              rcases (show s ≤ j ∨ (j < s ∧ F + K ≤ j) by omega) with hc | ⟨hc1, hc2⟩
              · have hc' : (s : Int) ≤ (j : Int) := by omega
                clear hjs
                go_wp2_with fail
                refine (may_true _ s us _ (VUb.out.tr _ MM.out.el)).mono ?_
                rintro e wd ⟨rfl, kd⟩
                have ME := hide (MEQ.out.fresh kd)
                have MD := hide (MM.out.fresh kd)
                clear kd t0 t1 v0 v1 u0 u1 MM MEQ
                have v0 := cell_block MD.out.var 0 _ rfl
                have v1 := cell_block MD.out.var 1 _ rfl
                go_wp2_with fail
                refine (may_true _ s ws _ ME.out).mono ?_
                rintro e we ⟨rfl, ke⟩
                have MF := hide (ME.out.fresh ke)
                have MG := hide (MD.out.fresh ke)
                clear ke v0 v1 ME MD
                have v0 := cell_block MG.out.var 0 _ rfl
                have v1 := cell_block MG.out.var 1 _ rfl
                have t0 := VTb.out.c0 we MG.out.el
                have t1 := VTb.out.c1 we MG.out.el
                go_wp2_with fail
                refine (tsame_true _ _ s (nLev s) (lvV ws) _ (VTb.out.tr _ MG.out.el).2.2.2 MF.out.2.2.2 (by have := nLev_in s; omega)).mono ?_
                rintro e wf ⟨rfl, kf⟩
                have Ff := hide (MG.out.el.trans kf)
                clear kf v0 v1 t0 t1 MF MG
                have t0 := VTb.out.c0 wf Ff.out
                have t1 := VTb.out.c1 wf Ff.out
                have u0 := VUb.out.c0 wf Ff.out
                go_wp2
                go_ret
                exact ⟨rfl, Fb.out.trans Ff.out⟩
              · have hc1' : (j : Int) < (s : Int) := by omega
                have hc2' : (F : Int) + (K : Int) ≤ (j : Int) := by omega
                clear hjs
                go_wp2_with fail
                refine (may_true _ s us _ (VUb.out.tr _ MM.out.el)).mono ?_
                rintro e wd ⟨rfl, kd⟩
                have ME := hide (MEQ.out.fresh kd)
                have MD := hide (MM.out.fresh kd)
                clear kd t0 t1 v0 v1 u0 u1 MM MEQ
                have v0 := cell_block MD.out.var 0 _ rfl
                have v1 := cell_block MD.out.var 1 _ rfl
                go_wp2_with fail
                refine (may_true _ s ws _ ME.out).mono ?_
                rintro e we ⟨rfl, ke⟩
                have MF := hide (ME.out.fresh ke)
                have MG := hide (MD.out.fresh ke)
                clear ke v0 v1 ME MD
                have v0 := cell_block MG.out.var 0 _ rfl
                have v1 := cell_block MG.out.var 1 _ rfl
                have t0 := VTb.out.c0 we MG.out.el
                have t1 := VTb.out.c1 we MG.out.el
                go_wp2_with fail
                refine (tsame_true _ _ s (nLev s) (lvV ws) _ (VTb.out.tr _ MG.out.el).2.2.2 MF.out.2.2.2 (by have := nLev_in s; omega)).mono ?_
                rintro e wf ⟨rfl, kf⟩
                have Ff := hide (MG.out.el.trans kf)
                clear kf v0 v1 t0 t1 MF MG
                have t0 := VTb.out.c0 wf Ff.out
                have t1 := VTb.out.c1 wf Ff.out
                have u0 := VUb.out.c0 wf Ff.out
                go_wp2
                go_ret
                exact ⟨rfl, Fb.out.trans Ff.out⟩
    | false =>
      have hI : I = 0 := HNO.out rfl
      subst hI
      obtain ⟨I, hI⟩ : ∃ I, I = s := ⟨_, rfl⟩
      have HA := hide (show ∀ j, A ≤ j → j < I → bitV us j = true from fun j h1 h2 => HALL.out j h1 (by subst hI; exact h2))
      have EB := hide (show I ≤ s by omega)
      have EQ := hide hI
      clear HALL HOK HNO
      obtain ⟨w9, hw9⟩ : ∃ w9, w9 = w8 := ⟨_, rfl⟩
      subst hw9
      have VU9 := VU8
      have VT9 := VT8
      have F9 := F8
      clear VU8 VT8 F8 hI
      go_wp2
      rw [← EQ.out]
      go_loopw [19] (fun x wr => ∃ j : Nat, A ≤ j ∧ x = .int .i64 (j : Int) ∧ Fresh w9 wr) (fun x _ => (I - intOf x).toNat)
      case atStart => exact ⟨A, Nat.le_refl _, rfl, Fresh.refl _⟩
      case round =>
        obtain ⟨j, hj, rfl, hFr⟩ := hrel
        have KR := hide hFr
        clear hFr u0 u1 t0
        have u0 := VU9.out.c0 wr KR.out
        have u1 := VU9.out.c1 wr KR.out
        by_cases hjI : j < I
        · have j1 : (j : Int) < (I : Int) := by omega
          have j2 : (j : Int) ≤ 5000 := by have := EB.out; omega
          have HB := hide (show hasT s us (j : Int) = true by rw [hasT_nat s us j (by have := EB.out; omega)]; exact HA.out j hj hjI)
          go_wp2_with fail
          refine (thas_to _ s us (j : Int) true HB.out _ (VU9.out.tr _ KR.out) (by omega) (by omega)).mono ?_
          rintro e wb ⟨rfl, kb⟩
          have KB := hide (KR.out.trans kb)
          clear kb HB u0 u1
          go_wp2
          go_roundw
          case rel => first | exact ⟨j + 1, by omega, by go_num, KB.out⟩ | ((repeat apply Exists.intro); refine ⟨?_, rfl⟩; exact ⟨j + 1, by omega, by go_num, KB.out⟩)
          case measure => simp [intOf]; omega
        · have j1 : (I : Int) ≤ (j : Int) := by omega
          have VUa := hide (VU9.out.mono KR.out)
          have VTa := hide (VT9.out.mono KR.out)
          have Fa := hide (F9.out.trans KR.out)
          clear hjI
          obtain ⟨vs0, hvs0⟩ : ∃ vs0, setT s us (F : Int) (K : Int) false = vs0 := ⟨_, rfl⟩
          have VS := hide hvs0
          have BS := hide (show Back s F K F ws vs0 by rw [← hvs0, ← US.out]; exact back_start LE.out)
          clear hvs0
          go_wp2_with fail
          refine (tset_to _ s us (F : Int) (K : Int) false vs0 VS.out _ (VUa.out.tr _ (Fresh.refl _)) (by omega)).mono ?_
          rintro e wb ⟨vb, rfl, tb, kb⟩
          obtain ⟨bb, ob, cpb, rfl, _⟩ := tb.at.lit (s : Int) L rfl HL.out
          have MU := hide (show Mut wb wb.heap.size s L (.slice (some ⟨bb, ob, none⟩) L cpb) vs0 (wb.alloc (.cells #[.int .i64 (s : Int), .slice (some ⟨bb, ob, none⟩) L cpb] 27)) from ⟨heap_alloc_new wb _, tb.at.boxed _ _, fresh_box wb _ _, Nat.le_refl _⟩)
          have VUb := hide (VUa.out.mono kb)
          have VTb := hide (VTa.out.mono kb)
          have Fb := hide (Fa.out.trans kb)
          clear tb kb VUa VTa Fa u0 u1 VS KR VU9 VT9 F9
          go_wp2
          generalize hVV : wb.heap.size = V at *
          have HVV := hide hVV
          go_loopw [21] (fun x wr => ∃ (j : Nat) (lv : Value) (vs : List Nat), F ≤ j ∧ j ≤ 65536 ∧ x = .int .i64 (j : Int) ∧ Mut wb V s L lv vs wr ∧ Back s F K j ws vs) (fun x _ => (s - intOf x).toNat)
          case atStart => exact ⟨F, _, vs0, Nat.le_refl _, by omega, rfl, MU.out, BS.out⟩
          case round =>
            obtain ⟨j, lv, vs, hj, hj2, rfl, hM, hBk⟩ := hrel
            have MM := hide hM
            have BK := hide hBk
            have t0 := VTb.out.c0 wr hM.el
            have t1 := VTb.out.c1 wr hM.el
            have v0 := cell_block hM.var 0 _ rfl
            have v1 := cell_block hM.var 1 _ rfl
            have jj : (j : Int) ≤ 65536 := by omega
            clear hM hBk MU BS
            by_cases hjs : j < s ∧ j < F + K
            · obtain ⟨h1, h2⟩ := hjs
              have h1' : (j : Int) < (s : Int) := by omega
              have h2' : (j : Int) < (F : Int) + (K : Int) := by omega
              cases hbj : bitV ws j with
              | true =>
                have HB := hide (show hasT s ws (j : Int) = true by rw [hasT_nat s ws j h1]; exact hbj)
                have NX := hide (back_on BK.out hbj)
                clear hbj
                go_wp2_with fail
                refine (thas_to _ s ws (j : Int) true HB.out _ (VTb.out.tr _ MM.out.el) (by omega) (by omega)).mono ?_
                rintro e wd ⟨rfl, kd⟩
                have MD := hide (MM.out.fresh kd)
                clear kd t0 t1 v0 v1 HB MM
                have v0 := cell_block MD.out.var 0 _ rfl
                have v1 := cell_block MD.out.var 1 _ rfl
                go_wp2_with fail
                refine (tset_to _ s vs (j : Int) 1 true _ rfl _ MD.out.tr (by decide)).mono ?_
                rintro e we ⟨ve, rfl, te, ke⟩
                obtain ⟨be, oe, cpe, rfl, _⟩ := te.at.lit (s : Int) L rfl HL.out
                have MN := hide (MD.out.store te ke)
                obtain ⟨d0, d1, e0, e1⟩ := mut_cells MD.out ke
                clear te ke v0 v1 MD
                go_wp2
                go_roundw
                case rel => first | exact ⟨j + 1, _, _, by omega, by omega, by go_num, MN.out, NX.out⟩ | ((repeat apply Exists.intro); refine ⟨?_, rfl⟩; exact ⟨j + 1, _, _, by omega, by omega, by go_num, MN.out, NX.out⟩)
                case measure => simp [intOf]; omega
              | false =>
                have HB := hide (show hasT s ws (j : Int) = false by rw [hasT_nat s ws j h1]; exact hbj)
                have NX := hide (back_off BK.out hbj)
                clear hbj
                go_wp2_with fail
                refine (thas_to _ s ws (j : Int) false HB.out _ (VTb.out.tr _ MM.out.el) (by omega) (by omega)).mono ?_
                rintro e wd ⟨rfl, kd⟩
                have MD := hide (MM.out.fresh kd)
                clear kd t0 t1 v0 v1 HB MM
                go_wp2
                go_roundw
                case rel => first | exact ⟨j + 1, lv, vs, by omega, by omega, by go_num, MD.out, NX.out⟩ | ((repeat apply Exists.intro); refine ⟨?_, rfl⟩; exact ⟨j + 1, lv, vs, by omega, by omega, by go_num, MD.out, NX.out⟩)
                case measure => simp [intOf]; omega
            · have EN := hide (back_end BK.out LE.out (show s ≤ j ∨ F + K ≤ j by omega))
              have u0 := VUb.out.c0 wr MM.out.el
              have u1 := VUb.out.c1 wr MM.out.el
              have MEQ := hide MM.out.tr
              rw [EN.out] at MEQ
              have L1 : (1 : Int) ≤ (L : Int) := by omega
              have L3 : (L : Int) ≤ 3 := by omega
              rcases (show s ≤ j ∨ (j < s ∧ F + K ≤ j) by omega) with hc | ⟨hc1, hc2⟩
              · have hc' : (s : Int) ≤ (j : Int) := by omega
                clear hjs
                go_wp2_with fail
                refine (may_true _ s us _ (VUb.out.tr _ MM.out.el)).mono ?_
                rintro e wd ⟨rfl, kd⟩
                have ME := hide (MEQ.out.fresh kd)
                have MD := hide (MM.out.fresh kd)
                clear kd t0 t1 v0 v1 u0 u1 MM MEQ
                have v0 := cell_block MD.out.var 0 _ rfl
                have v1 := cell_block MD.out.var 1 _ rfl
                go_wp2_with fail
                refine (may_true _ s ws _ ME.out).mono ?_
                rintro e we ⟨rfl, ke⟩
                have MF := hide (ME.out.fresh ke)
                have MG := hide (MD.out.fresh ke)
                clear ke v0 v1 ME MD
                have v0 := cell_block MG.out.var 0 _ rfl
                have v1 := cell_block MG.out.var 1 _ rfl
                have t0 := VTb.out.c0 we MG.out.el
                have t1 := VTb.out.c1 we MG.out.el
                go_wp2_with fail
                refine (tsame_true _ _ s (nLev s) (lvV ws) _ (VTb.out.tr _ MG.out.el).2.2.2 MF.out.2.2.2 (by have := nLev_in s; omega)).mono ?_
                rintro e wf ⟨rfl, kf⟩
                have Ff := hide (MG.out.el.trans kf)
                clear kf v0 v1 t0 t1 MF MG
                have t0 := VTb.out.c0 wf Ff.out
                have t1 := VTb.out.c1 wf Ff.out
                have u0 := VUb.out.c0 wf Ff.out
                go_wp2
                go_ret
                exact ⟨rfl, Fb.out.trans Ff.out⟩
              · have hc1' : (j : Int) < (s : Int) := by omega
                have hc2' : (F : Int) + (K : Int) ≤ (j : Int) := by omega
                clear hjs
                go_wp2_with fail
                refine (may_true _ s us _ (VUb.out.tr _ MM.out.el)).mono ?_
                rintro e wd ⟨rfl, kd⟩
                have ME := hide (MEQ.out.fresh kd)
                have MD := hide (MM.out.fresh kd)
                clear kd t0 t1 v0 v1 u0 u1 MM MEQ
                have v0 := cell_block MD.out.var 0 _ rfl
                have v1 := cell_block MD.out.var 1 _ rfl
                go_wp2_with fail
                refine (may_true _ s ws _ ME.out).mono ?_
                rintro e we ⟨rfl, ke⟩
                have MF := hide (ME.out.fresh ke)
                have MG := hide (MD.out.fresh ke)
                clear ke v0 v1 ME MD
                have v0 := cell_block MG.out.var 0 _ rfl
                have v1 := cell_block MG.out.var 1 _ rfl
                have t0 := VTb.out.c0 we MG.out.el
                have t1 := VTb.out.c1 we MG.out.el
                go_wp2_with fail
                refine (tsame_true _ _ s (nLev s) (lvV ws) _ (VTb.out.tr _ MG.out.el).2.2.2 MF.out.2.2.2 (by have := nLev_in s; omega)).mono ?_
                rintro e wf ⟨rfl, kf⟩
                have Ff := hide (MG.out.el.trans kf)
                clear kf v0 v1 t0 t1 MF MG
                have t0 := VTb.out.c0 wf Ff.out
                have t1 := VTb.out.c1 wf Ff.out
                have u0 := VUb.out.c0 wf Ff.out
                go_wp2
                go_ret
                exact ⟨rfl, Fb.out.trans Ff.out⟩
  · have l0 : (20 : Int) < (len : Int) := by omega
    go_enter Try.func4, Try.ntmps4
    go_wp2_with fail
    refine (begun5_true _).mono ?_
    rintro e w1 ⟨rfl, k1⟩
    have K1 := hide k1
    clear k1
    go_wp2
    go_ret
    exact ⟨rfl, K1.out⟩
end Go.Proofs.Ythhflgecmbhjhaa
