/- The walk of hodmanlaw5.TreeAll: what there is of a tree of bits. -/
import Derived.Test.YthhflgecmbhjhaaWTreeGlance
import Derived.Deep.RegionHeld3
import Derived.Deep.OwnRows
import Derived.Deep.CutRange
namespace Go.Proofs.Ythhflgecmbhjhaa
open Go.ChangeShapes Go.WideShapes Go.ChangeAt Go.RowKit

def asT (x : Int) : Nat → Int
  | 0 => x
  | 1 => 64
  | 2 => 3
  | 3 => 0
  | _ => 4090
def bsT (y : Int) : Nat → Int
  | 0 => y
  | 1 => 70
  | 2 => 1
  | 3 => 1099511627776
  | _ => 5
theorem asT_in (x : Int) (k : Nat) (h : -9223372036854775808 ≤ x) (h' : x ≤ 9223372036854775807) : -9223372036854775808 ≤ asT x k ∧ asT x k ≤ 9223372036854775807 := by
  unfold asT; split <;> omega
theorem bsT_in (y : Int) (k : Nat) (h : -9223372036854775808 ≤ y) (h' : y ≤ 9223372036854775807) : -9223372036854775808 ≤ bsT y k ∧ bsT y k ≤ 9223372036854775807 := by
  unfold bsT; split <;> omega
abbrev rows5 (w : World) (x y : Int) : World := (w.alloc (.cells #[.int .i64 x, .int .i64 64, .int .i64 3, .int .i64 0, .int .i64 4090] 3)).alloc (.cells #[.int .i64 y, .int .i64 70, .int .i64 1, .int .i64 1099511627776, .int .i64 5] 3)
theorem rows5_as (w : World) (x y : Int) (k : Nat) (hk : k < 5) : (rows5 w x y).cell? ⟨w.heap.size, k, none⟩ = some (.int .i64 (asT x k)) := by
  match k, hk with
  | 0, _ => simp [rows5, asT]
  | 1, _ => simp [rows5, asT]
  | 2, _ => simp [rows5, asT]
  | 3, _ => simp [rows5, asT]
  | 4, _ => simp [rows5, asT]
theorem rows5_bs (w : World) (x y : Int) (k : Nat) (hk : k < 5) : (rows5 w x y).cell? ⟨w.heap.size + 1, k, none⟩ = some (.int .i64 (bsT y k)) := by
  match k, hk with
  | 0, _ => simp [rows5, bsT]
  | 1, _ => simp [rows5, bsT]
  | 2, _ => simp [rows5, bsT]
  | 3, _ => simp [rows5, bsT]
  | 4, _ => simp [rows5, bsT]
/-- what is held over a region: five cells, the tree, new memory alone -/
def Held (W : World) (T b o z k : Nat) (sv lv rv : Value) (A B : Int) (n : Nat) (ws : List Nat) (w' : World) : Prop :=
  w'.cell? ⟨T, 0, none⟩ = some sv ∧ w'.cell? ⟨T, 1, none⟩ = some lv ∧ w'.cell? ⟨z, k, none⟩ = some (.int .i64 A) ∧ w'.cell? ⟨z + 1, k, none⟩ = some (.int .i64 B) ∧ w'.cell? ⟨b, o, none⟩ = some rv ∧ TreeAt w' (.agg #[sv, lv]) n ws ∧ WordsAt w' rv ws ∧ Fresh W w'
theorem Held.fresh {W w1 w2 : World} {T b o z k : Nat} {sv lv rv : Value} {A B : Int} {n : Nat} {ws : List Nat} (s : Held W T b o z k sv lv rv A B n ws w1) (h : Fresh w1 w2) : Held W T b o z k sv lv rv A B n ws w2 := by
  obtain ⟨a1, a2, a3, a4, a5, a6, a7, a8⟩ := s
  have c : ∀ {p : Addr} {u : Value}, w1.cell? p = some u → w2.cell? p = some u := fun hc => (h.cell (World.block_lt_of_cell? _ _ hc)).trans hc
  exact ⟨c a1, c a2, c a3, c a4, c a5, a6.fresh h, a7.fresh h, a8.trans h⟩
theorem Held.tree {W w1 : World} {T b o z k : Nat} {sv lv rv : Value} {A B : Int} {n : Nat} {ws : List Nat} (s : Held W T b o z k sv lv rv A B n ws w1) : TreeAt w1 (.agg #[sv, lv]) n ws := s.2.2.2.2.2.1
theorem Held.words {W w1 : World} {T b o z k : Nat} {sv lv rv : Value} {A B : Int} {n : Nat} {ws : List Nat} (s : Held W T b o z k sv lv rv A B n ws w1) : WordsAt w1 rv ws := s.2.2.2.2.2.2.1
theorem rtfirst_to (v : Value) (n : Nat) (ws : List Nat) (f X : Int) (P : Bool) (hX : (((firstT n ws f).getD 0 : Nat) : Int) = X) (hP : (firstT n ws f).isSome = P) (w : World) (h : TreeAt w v n ws) (h1 : -9223372036854775808 ≤ f) (h2 : f ≤ 9223372036854775807) :
    Calls Try.prog 12 #[v, .int .i64 f] w fun e w' => e = .returned (.tuple #[.int .i64 X, .bool P]) ∧ Fresh w w' := by
  have := rtfirst_any v n ws f w h h1 h2
  unfold foundE at this
  rwa [hX, hP] at this
theorem tfirst_at (v : Value) (n : Nat) (ws : List Nat) (f X : Int) (P : Bool) (hX : (((firstT n ws f).getD 0 : Nat) : Int) = X) (hP : (firstT n ws f).isSome = P) (w : World) (h : TreeAt w v n ws) (h1 : -9223372036854775808 ≤ f) (h2 : f ≤ 9223372036854775807) :
    Calls Try.prog 11 #[v, .int .i64 f] w fun e w' => e = .returned (.tuple #[.int .i64 X, .bool P]) ∧ Fresh w w' := by
  have := tfirst_any v n ws f w h h1 h2
  unfold foundE at this
  rwa [hX, hP] at this
theorem rhas_fresh (v : Value) (ws : List Nat) (i : Int) (b : Bool) (hr : hasW ws i = b) (w : World) (h : WordsAt w v ws) (h1 : -9223372036854775808 ≤ i) (h2 : i ≤ 9223372036854775807) :
    Calls Try.prog 13 #[v, .int .i64 i] w fun e w' => e = .returned (.bool b) ∧ Fresh w w' := by
  subst hr
  exact (rhas_any v ws i w h h1 h2).mono fun e w' ⟨he, hw⟩ => ⟨he, by rw [hw]; exact Fresh.refl _⟩
theorem rtset_to (v : Value) (n : Nat) (ws : List Nat) (f m : Int) (on : Bool) (us : List Nat) (hu : setT n ws f m on = us) (w : World) (h : TreeAt w v n ws) (h1 : f ≤ 9223372036854775807) (h2 : m ≤ 9223372036854775807) :
    Calls Try.prog 17 #[v, .int .i64 f, .int .i64 m, .bool on] w fun e w' => ∃ v', e = .returned v' ∧ TreeNew w.heap.size w' v' n us ∧ Fresh w w' := by
  subst hu; exact rtset_any v n ws f m on w h h1 h2
theorem tsame_trees (v u : Value) (n : Nat) (ws : List Nat) (w : World) (hv : TreeAt w v n ws) (hu : TreeAt w u n ws) : Calls Try.prog 15 #[v, u] w fun e w' => e = .returned (.bool true) ∧ Fresh w w' :=
  tsame_true v u n (nLev n) (lvV ws) w hv.2.2.2 hu.2.2.2 (by have := nLev_in n; omega)

/-- where bools were made -/
theorem boolsA (w : World) (q : Nat) : BoolsAt (w.alloc (.cells (madeCells #[.bool false] q) 4)) (.slice (some ⟨w.heap.size, 0, none⟩) q q) (List.replicate q false) := by
  have hl := heap_alloc_new w (.cells (madeCells #[.bool false] q) 4 (0, 0))
  refine ⟨some ⟨w.heap.size, 0, none⟩, q, by rw [List.length_replicate], fun i hi => ⟨w.heap.size, 0, rfl, ?_⟩⟩
  rw [List.length_replicate] at hi
  rw [Nat.zero_add]
  refine cell_block hl i _ ?_
  have e : (madeCells #[Value.bool false] q).toList = List.replicate q (.bool false) := toList_madeCells_one _ _
  rw [← Array.getElem?_toList, e, List.getElem?_replicate, if_pos hi, List.getD_eq_getElem?_getD, List.getElem?_replicate, if_pos hi]; rfl
theorem end_parts (F : Int) (q : Nat) (h : (1 ≤ F ∧ F ≤ 3000 ∧ (q : Int) = F) ∨ F < 1 ∨ 65536 < F) : ∃ (n' h' : Nat) (f' : Nat → List Nat), h' ≤ 64 ∧ (∀ w, Calls Try.prog 19 #[.int .i64 F] w fun e w' => ∃ v, e = .returned v ∧ TreeV w' v n' h' f' ∧ Fresh w w') ∧
    (∀ bv w, BoolsAt w bv (List.replicate q false) → Calls Try.prog 20 #[.int .i64 F, bv] w fun e w' => ∃ v, e = .returned v ∧ TreeV w' v n' h' f' ∧ Fresh w w') := by
  rcases h with ⟨h1, h2, h3⟩ | h
  · subst h3
    refine ⟨q, nLev q, lvV (noneV q), by have := nLev_in q; omega, fun w => (tnew_nat q w (by omega) (by omega)).mono fun e w' ⟨v, he, t, k⟩ => ⟨v, he, t.at.2.2.2, k⟩, fun bv w hb => (made_nat q bv _ w hb List.length_replicate (by omega) (by omega)).mono fun e w' ⟨v, he, t, k⟩ => ⟨v, he, ?_, k⟩⟩
    rw [zeros_none] at t
    exact t.at.2.2.2
  · exact ⟨0, 0, fun _ => [], by decide, fun w => (tnew_none F w h).mono fun e w' ⟨he, k⟩ => ⟨_, he, noTree_at _ _, k⟩, fun bv w _ => (made_none F bv w h).mono fun e w' ⟨he, k⟩ => ⟨_, he, noTree_at _ _, k⟩⟩

theorem heldT_last {W w1 : World} {p q r : Addr} {u v x l : Value} {n : Nat} {ws : List Nat} (s : w1.cell? p = some u ∧ w1.cell? q = some v ∧ w1.cell? r = some x ∧ TreeAt w1 l n ws ∧ Fresh W w1) : Fresh W w1 := s.2.2.2.2

set_option maxRecDepth 100000 in
set_option maxHeartbeats 16000000 in
theorem treeAll_walk0 (a : Option Addr) (len cap : Nat) (zs : List Int) (n : Int) (hn : 0 ≤ n) (hn' : n ≤ 65535) (x : Int) (hx : -9223372036854775808 ≤ x) (hx' : x ≤ 9223372036854775807) (y : Int) (hy : -9223372036854775808 ≤ y) (hy' : y ≤ 9223372036854775807) (on : Bool) (fr : Int) (hfr : -9223372036854775808 ≤ fr) (hfr' : fr ≤ 9223372036854775807) (w : World) (hrow : IsRow .u8 w a len cap zs) :
    Calls Try.prog 3 #[.slice a len cap, .int .u16 n, .int .i64 x, .int .i64 y, .bool on, .int .i64 fr] w fun e w' => e = .returned (.bool true) ∧ Fresh w w' := by
  by_cases h20 : len ≤ 20
  · have l0 : (len : Int) ≤ 20 := by omega
    have RW := hide hrow
    clear hrow h20
    go_enter Try.func3, Try.ntmps3
    go_wp2_with fail
    refine (begun5_true _).mono ?_
    rintro e w1 ⟨rfl, k1⟩
    have K1 := hide k1
    clear k1
    go_wp2_with fail
    refine (made_any a len cap _).mono ?_
    rintro e w2 ⟨rfl, rfl⟩
    have PK := hide (picks_fresh RW.out K1.out 51)
    have F2 := hide (fresh_box w1 #[.slice a len cap, .int .i64 0] 51)
    go_wp2_with fail
    refine (size_any n hn hn' _).mono ?_
    rintro e w3 ⟨s, rfl, s1, s2, k3⟩
    have PK3 := hide (PK.out.fresh k3)
    have F3 := hide (K1.out.trans (F2.out.trans k3))
    have B1 := hide K1.out.size
    clear k3 PK F2 K1
    go_wp2_with fail
    refine (ptree_any _ _ s _ PK3.out s1 (by omega)).mono ?_
    rintro e w4 ⟨v4, ws, rfl, t4, e4⟩
    have F4 := hide (Elb.below F3.out B1.out e4)
    obtain ⟨b, o, cp, rfl, _⟩ := t4.shape
    have LE := hide t4.lev
    obtain ⟨L, hL⟩ : ∃ L, nLev s = L := ⟨_, rfl⟩
    have l1 := nLev_in s
    rw [hL] at t4 l1 ⊢
    have VT := hide (var_new hL t4)
    have HL := hide hL
    clear hL t4 e4 F3 PK3
    obtain ⟨w5, hw5⟩ : ∃ w5, w5 = w4.alloc (.cells #[.int .i64 (s : Int), .slice (some ⟨b, o, none⟩) L cp] 27) := ⟨_, rfl⟩
    have F5 := hide (show Fresh w w5 by subst hw5; exact fresh_more F4.out _ _)
    rw [← hw5] at VT
    have HW5 := hide hw5
    have SZ5 := hide (show w5.heap.size = w4.heap.size + 1 by subst hw5; simp)
    clear hw5 F4
    have q1 : (1 : Int) ≤ (s : Int) := by omega
    have q2 : (s : Int) ≤ 5000 := by omega
    go_wp2
    rw [← HW5.out]
    generalize hW : World.alloc (World.alloc w5 _) _ = W
    have CA : Hid (∀ k, k < 5 → W.cell? ⟨w5.heap.size, k, none⟩ = some (.int .i64 (asT x k))) := by subst hW; exact rows5_as w5 x y
    have CB : Hid (∀ k, k < 5 → W.cell? ⟨w5.heap.size + 1, k, none⟩ = some (.int .i64 (bsT y k))) := by subst hW; exact rows5_bs w5 x y
    have kW : Fresh w5 W := by subst hW; exact fresh_more (fresh_box w5 _ _) _ _
    have VW := hide (VT.out.mono kW)
    have FW := hide (F5.out.trans kW)
    have T1 := VT.out.c1 w5 (Fresh.refl _)
    obtain ⟨rx, rc, hrc, hrw⟩ := (VT.out.lv w5 (Fresh.refl _)).row 0 (by omega)
    rw [Nat.add_zero] at hrc
    have RC := hide (show W.cell? ⟨b, o, none⟩ = some (.slice rx ws.length rc) from (kW.cell (World.block_lt_of_cell? _ _ hrc)).trans hrc)
    have RWD := hide (show WordsAt W (.slice rx ws.length rc) ws from hrw.fresh kW)
    clear hW kW VT F5 HW5 T1 hrc hrw
    rw [SZ5.out] at CA CB
    generalize w4.heap.size = T at *
    go_loopw [16] (fun i wr => ∃ k : Nat, k ≤ 5 ∧ i = .int .i64 (k : Int) ∧ Fresh W wr) (fun i _ => (5 - intOf i).toNat)
    case atStart => exact ⟨0, by omega, rfl, Fresh.refl _⟩
    case round =>
      obtain ⟨k, hk, rfl, hF⟩ := hrel
      have KF := hide hF
      clear hF
      by_cases hk5 : k < 5
      · obtain ⟨A1, A2⟩ := asT_in x k hx hx'
        obtain ⟨B1', B2⟩ := bsT_in y k hy hy'
        have HB0 := hide (show Held W T b o (T + 1) k (.int .i64 (s : Int)) (.slice (some ⟨b, o, none⟩) L cp) (.slice rx ws.length rc) (asT x k) (bsT y k) s ws wr from
          ⟨VW.out.c0 _ KF.out, VW.out.c1 _ KF.out, (KF.out.cell (World.block_lt_of_cell? _ _ (CA.out k hk5))).trans (CA.out k hk5), (KF.out.cell (World.block_lt_of_cell? _ _ (CB.out k hk5))).trans (CB.out k hk5), (KF.out.cell (World.block_lt_of_cell? _ _ RC.out)).trans RC.out, VW.out.tr _ KF.out, RWD.out.fresh KF.out, KF.out⟩)
        generalize asT x k = A at *
        generalize bsT y k = B at *
        have k0 : (0 : Int) ≤ (k : Int) := by omega
        have k5 : (k : Int) < 5 := by omega
        obtain ⟨X, hX⟩ : ∃ X : Int, (((firstT s ws A).getD 0 : Nat) : Int) = X := ⟨_, rfl⟩
        obtain ⟨P, hP⟩ : ∃ P : Bool, (firstT s ws A).isSome = P := ⟨_, rfl⟩
        obtain ⟨us, hU⟩ : ∃ us : List Nat, setT s ws A B on = us := ⟨_, rfl⟩
        have HX := hide hX
        have HP := hide hP
        have US := hide hU
        clear hX hP hU
        clear CA CB RC RWD VW KF
        go_wp2_with fail
        go_region_held3 (fun w' => w'.cell? ⟨T, 0, none⟩ = some (.int .i64 (s : Int)) ∧ w'.cell? ⟨T, 1, none⟩ = some (.slice (some ⟨b, o, none⟩) L cp) ∧ w'.cell? ⟨T + 1, k, none⟩ = some (.int .i64 A) ∧ w'.cell? ⟨T + 1 + 1, k, none⟩ = some (.int .i64 B) ∧ w'.cell? ⟨b, o, none⟩ = some (.slice rx ws.length rc) ∧ TreeAt w' (.agg #[.int .i64 (s : Int), .slice (some ⟨b, o, none⟩) L cp]) s ws ∧ WordsAt w' (.slice rx ws.length rc) ws ∧ Fresh W w') (first | (exact Held.fresh HB0.out (Fresh.drewN _ 1)) | (exact Held.fresh (by assumption) (by assumption)) | go_keep) ((go_at_call 11; refine (tfirst_at _ s ws A X P HX.out HP.out _ (Held.tree (by assumption)) A1 A2).mono ?_; rintro e w6 ⟨rfl, k6⟩))
        have HB1 := hide (HB0.out.fresh ((Fresh.drewN _ 1).trans k6))
        clear k6 HB0
        go_wp2_with fail
        go_region_held3 (fun w' => w'.cell? ⟨T, 0, none⟩ = some (.int .i64 (s : Int)) ∧ w'.cell? ⟨T, 1, none⟩ = some (.slice (some ⟨b, o, none⟩) L cp) ∧ w'.cell? ⟨T + 1, k, none⟩ = some (.int .i64 A) ∧ w'.cell? ⟨T + 1 + 1, k, none⟩ = some (.int .i64 B) ∧ w'.cell? ⟨b, o, none⟩ = some (.slice rx ws.length rc) ∧ TreeAt w' (.agg #[.int .i64 (s : Int), .slice (some ⟨b, o, none⟩) L cp]) s ws ∧ WordsAt w' (.slice rx ws.length rc) ws ∧ Fresh W w') (first | (exact Held.fresh HB1.out (Fresh.drewN _ 1)) | (exact Held.fresh (by assumption) (by assumption)) | go_keep) ((go_at_call 12; refine (rtfirst_to _ s ws A X P HX.out HP.out _ (Held.tree (by assumption)) A1 A2).mono ?_; rintro e w7 ⟨rfl, k7⟩))
        have HB2 := hide (HB1.out.fresh ((Fresh.drewN _ 1).trans k7))
        clear k7 HB1
        obtain ⟨IN, hIN⟩ : ∃ IN : Bool, hasT s ws A = IN := ⟨_, rfl⟩
        have HIN := hide hIN
        have L1 : (1 : Int) ≤ (L : Int) := by omega
        have L3 : (L : Int) ≤ 3 := by omega
        have L0 : (0 : Int) < (L : Int) := by omega
        have L0n : 0 < L := by omega
        clear hIN
        go_wp2_with fail
        go_cut [21] from 37 to 120 (fun v wx => v = .bool IN ∧ Held W T b o (T + 1) k (.int .i64 (s : Int)) (.slice (some ⟨b, o, none⟩) L cp) (.slice rx ws.length rc) A B s ws wx)
        case first =>
          by_cases hAs : A < (s : Int)
          · have HW2 := hide (show hasW ws A = IN by rw [← HIN.out]; unfold hasW hasT; rw [decide_eq_true hAs, Bool.true_and])
            go_region_held3 (fun w' => w'.cell? ⟨T, 0, none⟩ = some (.int .i64 (s : Int)) ∧ w'.cell? ⟨T, 1, none⟩ = some (.slice (some ⟨b, o, none⟩) L cp) ∧ w'.cell? ⟨T + 1, k, none⟩ = some (.int .i64 A) ∧ w'.cell? ⟨T + 1 + 1, k, none⟩ = some (.int .i64 B) ∧ w'.cell? ⟨b, o, none⟩ = some (.slice rx ws.length rc) ∧ TreeAt w' (.agg #[.int .i64 (s : Int), .slice (some ⟨b, o, none⟩) L cp]) s ws ∧ WordsAt w' (.slice rx ws.length rc) ws ∧ Fresh W w') (first | (exact Held.fresh HB2.out (Fresh.drewN _ 1)) | (exact Held.fresh (by assumption) (by assumption)) | go_keep) ((go_at_call 13; refine (rhas_fresh _ ws A IN HW2.out _ (Held.words (by assumption)) A1 A2).mono ?_; rintro e w8 ⟨rfl, k8⟩))
            go_wp2_with fail
            go_meet
            case rel => exact ⟨rfl, HB2.out.fresh ((Fresh.drewN _ 1).trans k8)⟩
          · have hAs' : (s : Int) ≤ A := by omega
            have dA : decide (A < (s : Int)) = false := decide_eq_false hAs
            have HF := hide (show IN = false by rw [← HIN.out]; unfold hasT; rw [decide_eq_false hAs, Bool.false_and, Bool.and_false])
            obtain ⟨y1, y2, y3, y4, y5, _, _, _⟩ := HB2.out
            clear hAs
            go_quiet (fail)
            go_wp2_with fail
            go_meet
            case rel => exact ⟨by rw [HF.out], HB2.out.fresh (Fresh.drewN _ _)⟩
        case rest =>
          obtain ⟨rfl, hH⟩ := hcut
          have HB3 := hide hH
          clear hH HB2
          go_wp2_with fail
          go_region_held3 (fun w' => w'.cell? ⟨T, 0, none⟩ = some (.int .i64 (s : Int)) ∧ w'.cell? ⟨T, 1, none⟩ = some (.slice (some ⟨b, o, none⟩) L cp) ∧ w'.cell? ⟨T + 1, k, none⟩ = some (.int .i64 A) ∧ w'.cell? ⟨T + 1 + 1, k, none⟩ = some (.int .i64 B) ∧ w'.cell? ⟨b, o, none⟩ = some (.slice rx ws.length rc) ∧ TreeAt w' (.agg #[.int .i64 (s : Int), .slice (some ⟨b, o, none⟩) L cp]) s ws ∧ WordsAt w' (.slice rx ws.length rc) ws ∧ Fresh W w') (first | (exact Held.fresh HB3.out (Fresh.drewN _ 1)) | (exact Held.fresh (by assumption) (by assumption)) | go_keep) (first | (go_at_call 14; refine (thas_to _ s ws A IN HIN.out _ (Held.tree (by assumption)) A1 A2).mono ?_; rintro e w9 ⟨rfl, k9⟩) | (go_at_call 16; refine (tset_to _ s ws A B on us US.out _ (Held.tree (by assumption)) B2).mono ?_; rintro e wa ⟨va, rfl, ta, ka⟩) | (go_at_call 17; refine (rtset_to _ s ws A B on us US.out _ (Held.tree (by assumption)) A2 B2).mono ?_; rintro e wb ⟨vb, rfl, tb, kb⟩) | (go_at_call 15; refine (tsame_trees _ _ s us _ (ta.at.fresh kb) tb.at).mono ?_; rintro e wc2 ⟨rfl, kc⟩))
          have FE := hide (HB3.out.fresh ((((Fresh.drewN _ 1).trans k9).trans ka).trans (kb.trans kc)))
          clear k9 ka kb kc ta tb HB3
          go_wp2
          go_roundw
          case rel => first | exact ⟨k + 1, by omega, by go_num, FE.out.2.2.2.2.2.2.2⟩ | ((repeat apply Exists.intro); refine ⟨?_, rfl⟩; exact ⟨k + 1, by omega, by go_num, FE.out.2.2.2.2.2.2.2⟩)
          case measure => simp [intOf]; omega
      · obtain rfl : k = 5 := by omega
        have c0 := VW.out.c0 _ KF.out
        have c1 := VW.out.c1 _ KF.out
        have TT := VW.out.tr _ KF.out
        have FR := Fresh.refl wr
        clear CA CB RC RWD
        by_cases h1 : 1 < fr
        · by_cases h2 : fr ≤ 65536
          · obtain ⟨q, hq0⟩ : ∃ q : Nat, (q : Int) = 1 + fr % 3000 := ⟨(1 + fr % 3000).toNat, by omega⟩
            have hq : 1 + fr % 3000 = (q : Int) := hq0.symm
            have q3 : q ≤ 3000 := by omega
            have mm1 : max (min (q : Int) 3000) 0 = (q : Int) := by omega
            obtain ⟨FF, hFF⟩ : ∃ FF : Int, FF = (q : Int) := ⟨_, rfl⟩
            have EP := hide (show (1 ≤ FF ∧ FF ≤ 3000 ∧ (q : Int) = FF) ∨ FF < 1 ∨ 65536 < FF from .inl (by omega))
            subst hFF
            clear hq0
            obtain ⟨n', h', f', hh, hNEW, hMADE⟩ := end_parts _ q EP.out
            have NEWC := hide hNEW
            have MADEC := hide hMADE
            have hmk := fun w => run_make_row' (P := Try.prog) 42 4 (.bool false) 1 Try.underlying42 infoBool rfl .i64 .i64 q (by omega) (by omega) w
            clear hNEW hMADE
            go_wp2_with fail
            go_region_held3 (fun w' => w'.cell? ⟨T, 0, none⟩ = some (.int .i64 (s : Int)) ∧ w'.cell? ⟨T, 1, none⟩ = some (.slice (some ⟨b, o, none⟩) L cp) ∧ w'.cell? ⟨T, 0, none⟩ = some (.int .i64 (s : Int)) ∧ TreeAt w' (.agg #[.int .i64 (s : Int), .slice (some ⟨b, o, none⟩) L cp]) s ws ∧ Fresh wr w') (first | (exact heldT_drew (by assumption) (by assumption) (by assumption) (by assumption) (by assumption)) | (exact heldT_fresh (by assumption) (by assumption)) | (exact heldT_fresh (fresh_box _ _ _) (by assumption)) | go_keep) (first | (go_at_call 18; refine (may_true _ s ws _ (heldT_tree (by assumption))).mono ?_; rintro e w6 ⟨rfl, k6⟩) | (go_at_call 19; refine (NEWC.out _).mono ?_; rintro e w7 ⟨v7, rfl, t7, k7⟩) | (go_at_call 20; refine (MADEC.out _ _ (by first | exact boolsA _ _ | exact (boolsA _ _).fresh (by assumption))).mono ?_; rintro e w8 ⟨v8, rfl, t8, k8⟩; have T78 : TreeV w8 v7 n' h' f' := (by first | exact t7.fresh k8 | exact (t7.fresh (fresh_box _ _ _)).fresh k8)) | (go_at_call 15; refine (tsame_true _ _ n' h' f' _ T78 t8 hh).mono ?_; rintro e w9 ⟨rfl, k9⟩))
            all_goals
              have hS : Fresh wr w9 := heldT_last (by assumption)
              have K9 := hide (FW.out.trans (KF.out.trans hS))
              clear hS
              go_wp2
              go_ret
              exact ⟨rfl, K9.out⟩
          · have h2' : 65536 < fr := by omega
            obtain ⟨q, hq⟩ : ∃ q : Nat, q = 3000 := ⟨_, rfl⟩
            have q3 : q ≤ 3000 := by omega
            have mm0 : min fr 3000 = (q : Int) := by omega
            have mm1 : max (q : Int) 0 = (q : Int) := by omega
            obtain ⟨FF, hFF⟩ : ∃ FF : Int, FF = fr := ⟨_, rfl⟩
            have EP := hide (show (1 ≤ FF ∧ FF ≤ 3000 ∧ (q : Int) = FF) ∨ FF < 1 ∨ 65536 < FF from .inr (.inr (by omega)))
            subst hFF
            clear hq h2
            obtain ⟨n', h', f', hh, hNEW, hMADE⟩ := end_parts _ q EP.out
            have NEWC := hide hNEW
            have MADEC := hide hMADE
            have hmk := fun w => run_make_row' (P := Try.prog) 42 4 (.bool false) 1 Try.underlying42 infoBool rfl .i64 .i64 q (by omega) (by omega) w
            clear hNEW hMADE
            go_wp2_with fail
            go_region_held3 (fun w' => w'.cell? ⟨T, 0, none⟩ = some (.int .i64 (s : Int)) ∧ w'.cell? ⟨T, 1, none⟩ = some (.slice (some ⟨b, o, none⟩) L cp) ∧ w'.cell? ⟨T, 0, none⟩ = some (.int .i64 (s : Int)) ∧ TreeAt w' (.agg #[.int .i64 (s : Int), .slice (some ⟨b, o, none⟩) L cp]) s ws ∧ Fresh wr w') (first | (exact heldT_drew (by assumption) (by assumption) (by assumption) (by assumption) (by assumption)) | (exact heldT_fresh (by assumption) (by assumption)) | (exact heldT_fresh (fresh_box _ _ _) (by assumption)) | go_keep) (first | (go_at_call 18; refine (may_true _ s ws _ (heldT_tree (by assumption))).mono ?_; rintro e w6 ⟨rfl, k6⟩) | (go_at_call 19; refine (NEWC.out _).mono ?_; rintro e w7 ⟨v7, rfl, t7, k7⟩) | (go_at_call 20; refine (MADEC.out _ _ (by first | exact boolsA _ _ | exact (boolsA _ _).fresh (by assumption))).mono ?_; rintro e w8 ⟨v8, rfl, t8, k8⟩; have T78 : TreeV w8 v7 n' h' f' := (by first | exact t7.fresh k8 | exact (t7.fresh (fresh_box _ _ _)).fresh k8)) | (go_at_call 15; refine (tsame_true _ _ n' h' f' _ T78 t8 hh).mono ?_; rintro e w9 ⟨rfl, k9⟩))
            all_goals
              have hS : Fresh wr w9 := heldT_last (by assumption)
              have K9 := hide (FW.out.trans (KF.out.trans hS))
              clear hS
              go_wp2
              go_ret
              exact ⟨rfl, K9.out⟩
        · have h1' : fr ≤ 1 := by omega
          by_cases h2 : fr = 1
          · obtain ⟨q, hq⟩ : ∃ q : Nat, q = 1 := ⟨_, rfl⟩
            obtain ⟨FF, hFF⟩ : ∃ FF : Int, FF = fr := ⟨_, rfl⟩
            have q3 : q ≤ 3000 := by omega
            have mm0 : min FF 3000 = (q : Int) := by omega
            have mm1 : max (q : Int) 0 = (q : Int) := by omega
            have EP := hide (show (1 ≤ FF ∧ FF ≤ 3000 ∧ (q : Int) = FF) ∨ FF < 1 ∨ 65536 < FF from .inl (by omega))
            subst hFF
            clear hq h2 h1
            obtain ⟨n', h', f', hh, hNEW, hMADE⟩ := end_parts _ q EP.out
            have NEWC := hide hNEW
            have MADEC := hide hMADE
            have hmk := fun w => run_make_row' (P := Try.prog) 42 4 (.bool false) 1 Try.underlying42 infoBool rfl .i64 .i64 q (by omega) (by omega) w
            clear hNEW hMADE
            go_wp2_with fail
            go_region_held3 (fun w' => w'.cell? ⟨T, 0, none⟩ = some (.int .i64 (s : Int)) ∧ w'.cell? ⟨T, 1, none⟩ = some (.slice (some ⟨b, o, none⟩) L cp) ∧ w'.cell? ⟨T, 0, none⟩ = some (.int .i64 (s : Int)) ∧ TreeAt w' (.agg #[.int .i64 (s : Int), .slice (some ⟨b, o, none⟩) L cp]) s ws ∧ Fresh wr w') (first | (exact heldT_drew (by assumption) (by assumption) (by assumption) (by assumption) (by assumption)) | (exact heldT_fresh (by assumption) (by assumption)) | (exact heldT_fresh (fresh_box _ _ _) (by assumption)) | go_keep) (first | (go_at_call 18; refine (may_true _ s ws _ (heldT_tree (by assumption))).mono ?_; rintro e w6 ⟨rfl, k6⟩) | (go_at_call 19; refine (NEWC.out _).mono ?_; rintro e w7 ⟨v7, rfl, t7, k7⟩) | (go_at_call 20; refine (MADEC.out _ _ (by first | exact boolsA _ _ | exact (boolsA _ _).fresh (by assumption))).mono ?_; rintro e w8 ⟨v8, rfl, t8, k8⟩; have T78 : TreeV w8 v7 n' h' f' := (by first | exact t7.fresh k8 | exact (t7.fresh (fresh_box _ _ _)).fresh k8)) | (go_at_call 15; refine (tsame_true _ _ n' h' f' _ T78 t8 hh).mono ?_; rintro e w9 ⟨rfl, k9⟩))
            all_goals
              have hS : Fresh wr w9 := heldT_last (by assumption)
              have K9 := hide (FW.out.trans (KF.out.trans hS))
              clear hS
              go_wp2
              go_ret
              exact ⟨rfl, K9.out⟩
          · obtain ⟨q, hq⟩ : ∃ q : Nat, q = 0 := ⟨_, rfl⟩
            obtain ⟨FF, hFF⟩ : ∃ FF : Int, FF = fr := ⟨_, rfl⟩
            have q3 : q ≤ 3000 := by omega
            have mm1 : max (min FF 3000) 0 = (q : Int) := by omega
            have EP := hide (show (1 ≤ FF ∧ FF ≤ 3000 ∧ (q : Int) = FF) ∨ FF < 1 ∨ 65536 < FF from .inr (.inl (by omega)))
            subst hFF
            clear hq h2 h1
            obtain ⟨n', h', f', hh, hNEW, hMADE⟩ := end_parts _ q EP.out
            have NEWC := hide hNEW
            have MADEC := hide hMADE
            have hmk := fun w => run_make_row' (P := Try.prog) 42 4 (.bool false) 1 Try.underlying42 infoBool rfl .i64 .i64 q (by omega) (by omega) w
            clear hNEW hMADE
            go_wp2_with fail
            go_region_held3 (fun w' => w'.cell? ⟨T, 0, none⟩ = some (.int .i64 (s : Int)) ∧ w'.cell? ⟨T, 1, none⟩ = some (.slice (some ⟨b, o, none⟩) L cp) ∧ w'.cell? ⟨T, 0, none⟩ = some (.int .i64 (s : Int)) ∧ TreeAt w' (.agg #[.int .i64 (s : Int), .slice (some ⟨b, o, none⟩) L cp]) s ws ∧ Fresh wr w') (first | (exact heldT_drew (by assumption) (by assumption) (by assumption) (by assumption) (by assumption)) | (exact heldT_fresh (by assumption) (by assumption)) | (exact heldT_fresh (fresh_box _ _ _) (by assumption)) | go_keep) (first | (go_at_call 18; refine (may_true _ s ws _ (heldT_tree (by assumption))).mono ?_; rintro e w6 ⟨rfl, k6⟩) | (go_at_call 19; refine (NEWC.out _).mono ?_; rintro e w7 ⟨v7, rfl, t7, k7⟩) | (go_at_call 20; refine (MADEC.out _ _ (by first | exact boolsA _ _ | exact (boolsA _ _).fresh (by assumption))).mono ?_; rintro e w8 ⟨v8, rfl, t8, k8⟩; have T78 : TreeV w8 v7 n' h' f' := (by first | exact t7.fresh k8 | exact (t7.fresh (fresh_box _ _ _)).fresh k8)) | (go_at_call 15; refine (tsame_true _ _ n' h' f' _ T78 t8 hh).mono ?_; rintro e w9 ⟨rfl, k9⟩))
            all_goals
              have hS : Fresh wr w9 := heldT_last (by assumption)
              have K9 := hide (FW.out.trans (KF.out.trans hS))
              clear hS
              go_wp2
              go_ret
              exact ⟨rfl, K9.out⟩
  · have l0 : (20 : Int) < (len : Int) := by omega
    go_enter Try.func3, Try.ntmps3
    go_wp2_with fail
    refine (begun5_true _).mono ?_
    rintro e w1 ⟨rfl, k1⟩
    have K1 := hide k1
    clear k1
    go_wp2
    go_ret
    exact ⟨rfl, K1.out⟩
end Go.Proofs.Ythhflgecmbhjhaa
