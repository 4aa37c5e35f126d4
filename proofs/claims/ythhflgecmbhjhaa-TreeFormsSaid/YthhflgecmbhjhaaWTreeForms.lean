/- The walk of hodmanlaw5.TreeForms: how some trees lie. -/
import Derived.Test.YthhflgecmbhjhaaTreeLaw
import Derived.Deep.RegionHeld3
import Derived.Deep.CutRange
namespace Go.Proofs.Ythhflgecmbhjhaa
open Go.ChangeShapes Go.WideShapes Go.ChangeAt Go.RowKit

theorem lev_none (s : Nat) : Lev s (noneV s) := lev_pack s _
theorem bit_noneV (s i : Nat) (hi : i < s) : bitV (noneV s) i = false := by
  unfold noneV
  rw [bitV_packV _ _ _ (by omega), decide_eq_false (by omega)]; rfl
theorem first_noneV (s : Nat) (h : 1 ≤ s) : firstT s (noneV s) 0 = some 0 := by
  unfold firstT
  rw [if_neg (by decide)]
  exact first_some (Nat.le_refl _) h (bit_noneV s 0 h) fun j _ h2 => by omega
def allV (s : Nat) : List Nat := setT s (noneV s) 0 (s : Int) true
theorem lev_allV (s : Nat) : Lev s (allV s) := lev_setT (lev_none s) _ _ _
theorem bit_allV (s i : Nat) (hi : i < s) : bitV (allV s) i = true := by
  have := bit_setT (lev_none s) 0 s true i hi
  rw [if_pos (by omega)] at this
  exact this
theorem first_allV (s : Nat) : firstT s (allV s) 0 = none := by
  unfold firstT
  rw [if_neg (by decide)]
  exact first_none fun j _ h2 => bit_allV s j h2
theorem full_lv {n : Nat} {ws : List Nat} (h : Lev n ws) (ha : ∀ i, i < n → bitV ws i = true) : ∀ k i, i < nb n k → bitV (lvV ws k) i = true
  | 0, i, hi => ha i hi
  | k + 1, i, hi => by
    have hl := lv_length h k
    show bitV (upV (lvV ws k)) i = true
    rw [up_bit _ _ (by rw [hl]; exact hi)]
    refine (full_iff (lev_lv h k).1 i).2 fun j hj => ?_
    rcases Nat.lt_or_ge (64 * i + j) (nb n k) with h1 | h1
    · exact full_lv h ha k _ h1
    · exact (lev_lv h k).2.2 _ h1 (by rw [hl]; have : i < nb n (k + 1) := hi; omega)
theorem top_allV (s l : Nat) (h1 : 1 ≤ s) (h2 : s ≤ 65536) (hl : nLev s = l + 1) : (lvV (allV s) l).getD 0 0 = 18446744073709551615 := by
  have h := lev_allV s
  have e : (lvV (allV s) l).length = 1 := by rw [lv_length h l, ← hl]; exact nb_end s h1 h2
  have : isFull (lvV (allV s) l) 0 = true := (full_iff (lev_lv h l).1 0).2 fun j hj => by
    rcases Nat.lt_or_ge (64 * 0 + j) (nb s l) with h3 | h3
    · exact full_lv h (bit_allV s) l _ h3
    · exact (lev_lv h l).2.2 _ h3 (by rw [e]; omega)
  unfold isFull at this
  exact of_decide_eq_true this
theorem top_len (s l : Nat) (ws : List Nat) (h : Lev s ws) (h1 : 1 ≤ s) (h2 : s ≤ 65536) (hl : nLev s = l + 1) : (lvV ws l).length = 1 := by rw [lv_length h l, ← hl]; exact nb_end s h1 h2
def lastV (s : Nat) : List Nat := setT s (allV s) ((s : Int) - 1) 1 false
theorem bit_lastV (s i : Nat) (h : 1 ≤ s) (hi : i < s) : bitV (lastV s) i = !decide (i = s - 1) := by
  have e : ((s : Int) - 1) = ((s - 1 : Nat) : Int) := by omega
  unfold lastV
  rw [e]
  have := bit_setT (lev_allV s) (s - 1) 1 false i hi
  rw [show ((1 : Nat) : Int) = 1 from rfl] at this
  rw [this, bit_allV s i hi]
  by_cases h2 : i = s - 1
  · rw [if_pos (by omega), decide_eq_true h2]; rfl
  · rw [if_neg (by omega), decide_eq_false h2]; rfl
theorem first_lastV (s : Nat) (h : 1 ≤ s) : firstT s (lastV s) 0 = some ((s : Int) - 1).toNat := by
  unfold firstT
  rw [if_neg (by decide), show ((s : Int) - 1).toNat = s - 1 by omega]
  refine first_some (Nat.zero_le _) (by omega) ?_ fun j _ h2 => ?_
  · rw [bit_lastV s (s - 1) h (by omega), decide_eq_true rfl]; rfl
  · rw [bit_lastV s j h (by omega), decide_eq_false (by omega)]; rfl

def szF : Nat → Nat
  | 0 => 1
  | 1 => 64
  | 2 => 65
  | 3 => 4096
  | 4 => 4097
  | _ => 65536
def lvF : Nat → Nat
  | 0 => 1
  | 1 => 1
  | 2 => 2
  | 3 => 2
  | 4 => 3
  | _ => 3
theorem szF_in (k : Nat) (hk : k < 6) : 1 ≤ szF k ∧ szF k ≤ 65536 ∧ nLev (szF k) = lvF k := by
  match k, hk with
  | 0, _ => decide
  | 1, _ => decide
  | 2, _ => decide
  | 3, _ => decide
  | 4, _ => decide
  | 5, _ => decide
abbrev formsW (w : World) : World := (w.alloc (.cells #[.int .i64 1, .int .i64 64, .int .i64 65, .int .i64 4096, .int .i64 4097, .int .i64 65536] 3)).alloc (.cells #[.int .i64 1, .int .i64 1, .int .i64 2, .int .i64 2, .int .i64 3, .int .i64 3] 3)
theorem formsW_s (w : World) (k : Nat) (hk : k < 6) : (formsW w).cell? ⟨w.heap.size, k, none⟩ = some (.int .i64 ((szF k : Nat) : Int)) := by
  match k, hk with
  | 0, _ => simp [formsW, szF]
  | 1, _ => simp [formsW, szF]
  | 2, _ => simp [formsW, szF]
  | 3, _ => simp [formsW, szF]
  | 4, _ => simp [formsW, szF]
  | 5, _ => simp [formsW, szF]
theorem formsW_l (w : World) (k : Nat) (hk : k < 6) : (formsW w).cell? ⟨w.heap.size + 1, k, none⟩ = some (.int .i64 ((lvF k : Nat) : Int)) := by
  match k, hk with
  | 0, _ => simp [formsW, lvF]
  | 1, _ => simp [formsW, lvF]
  | 2, _ => simp [formsW, lvF]
  | 3, _ => simp [formsW, lvF]
  | 4, _ => simp [formsW, lvF]
  | 5, _ => simp [formsW, lvF]

/-- a tree in a variable of its own: what is known of it in any later world -/
structure Var (W : World) (T : Nat) (b o cap n L : Nat) (ws : List Nat) : Prop where
  c0 : ∀ w', Fresh W w' → w'.cell? ⟨T, 0, none⟩ = some (.int .i64 (n : Int))
  c1 : ∀ w', Fresh W w' → w'.cell? ⟨T, 1, none⟩ = some (.slice (some ⟨b, o, none⟩) L cap)
  tr : ∀ w', Fresh W w' → TreeAt w' (.agg #[.int .i64 (n : Int), .slice (some ⟨b, o, none⟩) L cap]) n ws
  lv : ∀ w', Fresh W w' → LvAt w' (some ⟨b, o, none⟩) L (lvV ws)
theorem Var.mono {W W' : World} {T b o cap n L : Nat} {ws : List Nat} (h : Var W T b o cap n L ws) (k : Fresh W W') : Var W' T b o cap n L ws :=
  ⟨fun w' h' => h.c0 w' (k.trans h'), fun w' h' => h.c1 w' (k.trans h'), fun w' h' => h.tr w' (k.trans h'), fun w' h' => h.lv w' (k.trans h')⟩
theorem var_of {W : World} {T b o cap n L : Nat} {ws : List Nat} (hL : nLev n = L) (hb : W.heap[T]? = some (.cells #[.int .i64 (n : Int), .slice (some ⟨b, o, none⟩) L cap] 27 (0, 0))) (h : TreeAt W (.agg #[.int .i64 (n : Int), .slice (some ⟨b, o, none⟩) L cap]) n ws) : Var W T b o cap n L ws := by
  have hl : ∀ w', Fresh W w' → w'.heap[T]? = some (.cells #[.int .i64 (n : Int), .slice (some ⟨b, o, none⟩) L cap] 27 (0, 0)) := fun w' hf => by
    rw [hf.block T (Array.getElem?_eq_some_iff.1 hb).1]; exact hb
  subst hL
  obtain ⟨b', o', cap', e, hlv⟩ := h.shape
  obtain ⟨rfl, rfl, rfl⟩ : b = b' ∧ o = o' ∧ cap = cap' := by simpa [and_assoc] using e
  exact ⟨fun w' hf => cell_block (hl w' hf) 0 _ rfl, fun w' hf => cell_block (hl w' hf) 1 _ rfl, fun w' hf => h.fresh hf, fun w' hf => hlv.fresh hf⟩
theorem var_new {w : World} {b o cap n L : Nat} {ws : List Nat} (hL : nLev n = L) (h : TreeAt w (.agg #[.int .i64 (n : Int), .slice (some ⟨b, o, none⟩) L cap]) n ws) : Var (w.alloc (.cells #[.int .i64 (n : Int), .slice (some ⟨b, o, none⟩) L cap] 27)) w.heap.size b o cap n L ws :=
  var_of hL (heap_alloc_new w _) (h.boxed _ _)
/-- where the variable was made ahead of the call -/
theorem var_elder {w1 w2 : World} {U b o cap n L : Nat} {ws : List Nat} {u0 u1 : Value} (hL : nLev n = L) (hU : w1.heap[U]? = some (.cells #[u0, u1] 27 (0, 0))) (k : Fresh w1 w2) (h : TreeNew w1.heap.size w2 (.agg #[.int .i64 (n : Int), .slice (some ⟨b, o, none⟩) L cap]) n ws) :
    Var ((w2.setCell ⟨U, 0, none⟩ (.int .i64 (n : Int))).setCell ⟨U, 1, none⟩ (.slice (some ⟨b, o, none⟩) L cap)) U b o cap n L ws := by
  have hl := (Array.getElem?_eq_some_iff.1 hU).1
  exact var_of hL (two_cells (by rw [k.block U hl]; exact hU) _ _) (h.store hl _ _).at
theorem elder_at {w4 w5 : World} {u0 u1 : Value} (k : Fresh (w4.alloc (.cells #[u0, u1] 27)) w5) : w5.heap[w4.heap.size]? = some (.cells #[u0, u1] 27 (0, 0)) := by
  rw [k.block w4.heap.size (by simp)]; exact heap_alloc_new w4 _
theorem elder_cells {w4 w5 : World} {u0 u1 : Value} (k : Fresh (w4.drew.alloc (.cells #[u0, u1] 27)) w5) : w5.cell? ⟨w4.heap.size, 0, none⟩ = some u0 ∧ w5.cell? ⟨w4.heap.size, 1, none⟩ = some u1 ∧ w5.frozen? ⟨w4.heap.size, 0, none⟩ = false ∧ w5.frozen? ⟨w4.heap.size, 1, none⟩ = false := by
  have h := elder_at (w4 := w4.drew) k
  exact ⟨cell_block h 0 _ rfl, cell_block h 1 _ rfl, free_block h 0, free_block h 1⟩
theorem heldT_drew {W w1 : World} {p q r : Addr} {u v x l : Value} {n : Nat} {ws : List Nat} (a : w1.cell? p = some u) (b : w1.cell? q = some v) (c : w1.cell? r = some x) (d : TreeAt w1 l n ws) (e : Fresh W w1) : w1.drew.cell? p = some u ∧ w1.drew.cell? q = some v ∧ w1.drew.cell? r = some x ∧ TreeAt w1.drew l n ws ∧ Fresh W w1.drew := ⟨a, b, c, d.drew, Below.drew e⟩
theorem heldT_fresh {W w1 w2 : World} {p q r : Addr} {u v x l : Value} {n : Nat} {ws : List Nat} (h : Fresh w1 w2) (s : w1.cell? p = some u ∧ w1.cell? q = some v ∧ w1.cell? r = some x ∧ TreeAt w1 l n ws ∧ Fresh W w1) : w2.cell? p = some u ∧ w2.cell? q = some v ∧ w2.cell? r = some x ∧ TreeAt w2 l n ws ∧ Fresh W w2 :=
  ⟨(h.cell (World.block_lt_of_cell? _ _ s.1)).trans s.1, (h.cell (World.block_lt_of_cell? _ _ s.2.1)).trans s.2.1, (h.cell (World.block_lt_of_cell? _ _ s.2.2.1)).trans s.2.2.1, s.2.2.2.1.fresh h, s.2.2.2.2.trans h⟩
theorem heldT_set {W w1 : World} {p q r : Addr} {u v x l : Value} {n : Nat} {ws : List Nat} (b : W.cell? p = some u ∧ W.cell? q = some v ∧ W.cell? r = some x ∧ TreeAt W l n ws ∧ Fresh W W) {U : Nat} (hU : W.heap.size ≤ U) (y z : Value) (s : w1.cell? p = some u ∧ w1.cell? q = some v ∧ w1.cell? r = some x ∧ TreeAt w1 l n ws ∧ Fresh W w1) : ((w1.setCell ⟨U, 0, none⟩ y).setCell ⟨U, 1, none⟩ z).cell? p = some u ∧ ((w1.setCell ⟨U, 0, none⟩ y).setCell ⟨U, 1, none⟩ z).cell? q = some v ∧ ((w1.setCell ⟨U, 0, none⟩ y).setCell ⟨U, 1, none⟩ z).cell? r = some x ∧ TreeAt ((w1.setCell ⟨U, 0, none⟩ y).setCell ⟨U, 1, none⟩ z) l n ws ∧ Fresh W ((w1.setCell ⟨U, 0, none⟩ y).setCell ⟨U, 1, none⟩ z) :=
  heldT_fresh ((s.2.2.2.2.setCell hU y).setCell hU z) b
theorem heldT_tree {W w1 : World} {p q r : Addr} {u v x l : Value} {n : Nat} {ws : List Nat} (s : w1.cell? p = some u ∧ w1.cell? q = some v ∧ w1.cell? r = some x ∧ TreeAt w1 l n ws ∧ Fresh W w1) : TreeAt w1 l n ws := s.2.2.2.1

set_option maxRecDepth 100000 in
set_option maxHeartbeats 8000000 in
theorem treeForms_walk0 (w : World) : Calls Try.prog 5 #[] w fun e w' => e = .returned (.bool true) ∧ Fresh w w' := by
  go_enter Try.func5, Try.ntmps5
  go_wp2_with fail
  refine (begun5_true _).mono ?_
  rintro e w1 ⟨rfl, k1⟩
  have K1 := hide k1
  clear k1
  go_wp2
  generalize hW : World.alloc (World.alloc w1 _) _ = W
  have CS : Hid (∀ k, k < 6 → W.cell? ⟨w1.heap.size, k, none⟩ = some (.int .i64 ((szF k : Nat) : Int))) := by subst hW; exact formsW_s w1
  have CL : Hid (∀ k, k < 6 → W.cell? ⟨w1.heap.size + 1, k, none⟩ = some (.int .i64 ((lvF k : Nat) : Int))) := by subst hW; exact formsW_l w1
  have kW : Fresh w1 W := by subst hW; exact fresh_more (fresh_box w1 _ _) _ _
  have K2 := hide (K1.out.trans kW)
  clear hW kW K1
  generalize w1.heap.size = z at *
  go_loopw [3] (fun i wr => ∃ k : Nat, k ≤ 6 ∧ i = .int .i64 (k : Int) ∧ Fresh W wr) (fun i _ => (6 - intOf i).toNat)
  case atStart => exact ⟨0, by omega, rfl, Fresh.refl _⟩
  case round =>
    obtain ⟨k, hk, rfl, hF⟩ := hrel
    have KF := hide hF
    clear hF
    by_cases hk6 : k < 6
    · have SZ := hide (fun w' (hf : Fresh W w') => (hf.cell (World.block_lt_of_cell? _ _ (CS.out k hk6))).trans (CS.out k hk6))
      have LZ := hide (fun w' (hf : Fresh W w') => (hf.cell (World.block_lt_of_cell? _ _ (CL.out k hk6))).trans (CL.out k hk6))
      obtain ⟨s1, s2, s3⟩ := szF_in k hk6
      generalize szF k = s at *
      obtain ⟨l, hl⟩ : ∃ l, lvF k = l + 1 := ⟨lvF k - 1, by have := nLev_in s; omega⟩
      rw [hl] at s3 LZ
      have l3 : l ≤ 2 := by have := nLev_in s; omega
      have NL := hide s3
      clear hl s3
      have k1 : (k : Int) < 6 := by omega
      have q1 : (1 : Int) ≤ (s : Int) := by omega
      have q2 : (s : Int) ≤ 65536 := by omega
      have sz0 := SZ.out wr KF.out
      go_wp2_with fail
      refine (tnew_nat s _ s1 s2).mono ?_
      rintro e w2 ⟨v2, rfl, t2, k2⟩
      obtain ⟨b, o, cap, rfl, _⟩ := t2.at.lit (s : Int) (l + 1) rfl NL.out
      have VT := hide (var_new NL.out t2.at)
      have K3 := hide (fresh_more (KF.out.trans k2) #[.int .i64 (s : Int), .slice (some ⟨b, o, none⟩) (l + 1) cap] 27)
      clear t2 k2 sz0
      obtain ⟨w3, hw3⟩ : ∃ w3, w3 = w2.alloc (.cells #[.int .i64 (s : Int), .slice (some ⟨b, o, none⟩) (l + 1) cap] 27) := ⟨_, rfl⟩
      rw [← hw3] at VT K3
      have HW3 := hide hw3
      clear hw3
      have j3 : ((l + 1 : Nat) : Int) - 1 = (l : Int) := by omega
      have j6 : IntKind.i64.wrap (l : Int) = (l : Int) := by rw [IntKind.wrap_i64]; omega
      have j4 : (l : Int) < ((l + 1 : Nat) : Int) := by omega
      have j5 : (l : Int) ≤ 2 := by omega
      have TL := hide (show ∀ ws, Lev s ws → (lvV ws l).length = 1 from fun ws h => top_len s l ws h s1 s2 NL.out)
      have c0 := VT.out.c0 w3 (Fresh.refl _)
      have c1 := VT.out.c1 w3 (Fresh.refl _)
      obtain ⟨x, c, hx, _⟩ := (VT.out.lv w3 (Fresh.refl _)).row l (by omega)
      rw [TL.out _ (lev_none s)] at hx
      have sz3 := SZ.out w3 K3.out
      have lz3 := LZ.out w3 K3.out
      have FN := hide (first_noneV s s1)
      have TT3 := hide (fun m => VT.out.tr (w3.drewN m) (Fresh.drewN w3 m))
      go_wp2_with fail
      rw [← HW3.out]
      go_quiet (fail)
      go_wp2_with fail
      refine (tfirst_to _ s (noneV s) 0 0 true FN.out (by decide) (by decide) _ (TT3.out _) (by decide) (by decide)).mono ?_
      rintro e w4 ⟨rfl, k4⟩
      have f34 : Fresh w3 w4 := (Fresh.drewN w3 _).trans k4
      have V4 := hide (VT.out.mono f34)
      have K4 := hide (K3.out.trans f34)
      clear k4 f34 c0 c1 hx sz3 lz3 FN TT3 VT K3 HW3
      have c0 := V4.out.c0 w4 (Fresh.refl _)
      have c1 := V4.out.c1 w4 (Fresh.refl _)
      have sz4 := SZ.out w4 K4.out
      have T4 := V4.out.tr w4 (Fresh.refl _)
      have FR4 := Fresh.refl w4
      have BASE := hide (And.intro c0 (And.intro c1 (And.intro sz4 (And.intro T4 FR4))))
      have AV := hide (show setT s (noneV s) 0 (s : Int) true = allV s from rfl)
      go_wp2_with fail
      go_cut [7] from 21 to 165 (fun p wx => ∃ U b5 o5 cap5 : Nat, p = .pointer (some ⟨U, 0, none⟩) ∧ Var wx U b5 o5 cap5 s (l + 1) (allV s) ∧ Fresh w4 wx)
      case first =>
        have AB := hide (heap_alloc_new w4.drew (.cells #[.int .i64 0, .slice none 0 0] 27 (0, 0)))
        go_region_held3 (fun w' => w'.cell? ⟨w2.heap.size, 0, none⟩ = some (.int .i64 (s : Int)) ∧ w'.cell? ⟨w2.heap.size, 1, none⟩ = some (.slice (some ⟨b, o, none⟩) (l + 1) cap) ∧ w'.cell? ⟨z, k, none⟩ = some (.int .i64 (s : Int)) ∧ TreeAt w' (.agg #[.int .i64 (s : Int), .slice (some ⟨b, o, none⟩) (l + 1) cap]) s (noneV s) ∧ Fresh w4 w') (first | (exact heldT_drew (by assumption) (by assumption) (by assumption) (by assumption) (by assumption)) | (exact heldT_fresh (by assumption) (by assumption)) | (exact heldT_fresh (fresh_box _ _ _) (by assumption)) | (exact heldT_set BASE.out (Nat.le_refl _) _ _ (by assumption)) | (exact heldT_fresh (fresh_more ((Fresh.drewN _ 1).trans (by assumption)) _ _) BASE.out) | go_keep) ((go_at_call 16; refine (tset_to _ s (noneV s) 0 (s : Int) true (allV s) AV.out _ (heldT_tree (by assumption)) (by omega)).mono ?_; rintro e w5 ⟨v5, rfl, t5, k5⟩; obtain ⟨b5, o5, cap5, rfl, _⟩ := t5.at.lit (s : Int) (l + 1) rfl NL.out; try (have GC := elder_cells k5; obtain ⟨g0, g1, g2, g3⟩ := GC)))
        all_goals
          go_wp2_with fail
          go_meet
        case rel => exact ⟨_, b5, o5, cap5, rfl, var_new NL.out t5.at, fresh_more ((Fresh.drewN w4 1).trans k5) _ _⟩
        case rel => exact ⟨_, b5, o5, cap5, rfl, var_elder (w1 := (w4.alloc (.cells #[.int .i64 0, .slice none 0 0] 27)).drew) NL.out (heap_alloc_new w4 _) k5 t5, fresh_set (fresh_set (((fresh_box w4 _ _).trans (Fresh.drewN _ 1)).trans k5) (Nat.le_refl _) 0 _) (Nat.le_refl _) 1 _⟩
      case rest =>
        obtain ⟨U, b5, o5, cap5, rfl, hV, hF5⟩ := hcut
        have VU := hide hV
        have K5 := hide (K4.out.trans hF5)
        have VT5 := hide (V4.out.mono hF5)
        clear hV hF5 c0 c1 sz4 T4 FR4 BASE AV V4 K4
        have FA := hide (first_allV s)
        have u0c := VU.out.c0 wc (Fresh.refl _)
        have u1c := VU.out.c1 wc (Fresh.refl _)
        go_wp2_with fail
        refine (tfirst_to _ s (allV s) 0 0 false FA.out (by decide) (fun _ => rfl) _ (VU.out.tr _ (Fresh.refl _)) (by decide) (by decide)).mono ?_
        rintro e w6 ⟨rfl, k6⟩
        have V6 := hide (VU.out.mono k6)
        have K6 := hide (K5.out.trans k6)
        clear k6 u0c u1c FA VU VT5 K5
        have c0 := V6.out.c0 w6 (Fresh.refl _)
        have c1 := V6.out.c1 w6 (Fresh.refl _)
        have sz6 := SZ.out w6 K6.out
        have T6 := V6.out.tr w6 (Fresh.refl _)
        have FR6 := Fresh.refl w6
        have BASE := hide (And.intro c0 (And.intro c1 (And.intro sz6 (And.intro T6 FR6))))
        have LVV := hide (show setT s (allV s) ((s : Int) - 1) 1 false = lastV s from rfl)
        have sw : IntKind.i64.wrap ((s : Int) - 1) = (s : Int) - 1 := by rw [IntKind.wrap_i64]; omega
        go_wp2_with fail
        go_cut [10] from 21 to 165 (fun p wx => ∃ V b7 o7 cap7 : Nat, p = .pointer (some ⟨V, 0, none⟩) ∧ Var wx V b7 o7 cap7 s (l + 1) (lastV s) ∧ Fresh w6 wx)
        case first =>
          go_region_held3 (fun w' => w'.cell? ⟨U, 0, none⟩ = some (.int .i64 (s : Int)) ∧ w'.cell? ⟨U, 1, none⟩ = some (.slice (some ⟨b5, o5, none⟩) (l + 1) cap5) ∧ w'.cell? ⟨z, k, none⟩ = some (.int .i64 (s : Int)) ∧ TreeAt w' (.agg #[.int .i64 (s : Int), .slice (some ⟨b5, o5, none⟩) (l + 1) cap5]) s (allV s) ∧ Fresh w6 w') (first | (exact heldT_drew (by assumption) (by assumption) (by assumption) (by assumption) (by assumption)) | (exact heldT_fresh (by assumption) (by assumption)) | (exact heldT_fresh (fresh_box _ _ _) (by assumption)) | (exact heldT_set BASE.out (Nat.le_refl _) _ _ (by assumption)) | (exact heldT_fresh (fresh_more ((Fresh.drewN _ 1).trans (by assumption)) _ _) BASE.out) | go_keep) ((go_at_call 16; refine (tset_to _ s (allV s) ((s : Int) - 1) 1 false (lastV s) LVV.out _ (heldT_tree (by assumption)) (by decide)).mono ?_; rintro e w7 ⟨v7, rfl, t7, k7⟩; obtain ⟨b7, o7, cap7, rfl, _⟩ := t7.at.lit (s : Int) (l + 1) rfl NL.out; try (have GC := elder_cells k7; obtain ⟨g0, g1, g2, g3⟩ := GC)))
          all_goals
            go_wp2_with fail
            go_meet
          case rel => exact ⟨_, b7, o7, cap7, rfl, var_new NL.out t7.at, fresh_more ((Fresh.drewN w6 1).trans k7) _ _⟩
          case rel => exact ⟨_, b7, o7, cap7, rfl, var_elder (w1 := (w6.alloc (.cells #[.int .i64 0, .slice none 0 0] 27)).drew) NL.out (heap_alloc_new w6 _) k7 t7, fresh_set (fresh_set (((fresh_box w6 _ _).trans (Fresh.drewN _ 1)).trans k7) (Nat.le_refl _) 0 _) (Nat.le_refl _) 1 _⟩
        case rest =>
          obtain ⟨V, b7, o7, cap7, rfl, hV, hF7⟩ := hcut
          have VV := hide hV
          have K7 := hide (K6.out.trans hF7)
          have VU7 := hide (V6.out.mono hF7)
          clear hV hF7 c0 c1 sz6 T6 FR6 BASE LVV V6 K6
          have FL := hide (first_lastV s s1)
          have FS := hide (show firstT s (lastV s) (s : Int) = none from firstT_none s _ _ (Or.inr (by omega)))
          have FM := hide (show firstT s (lastV s) (-1) = none from firstT_none s _ _ (Or.inl (by decide)))
          have v0c := VV.out.c0 wc (Fresh.refl _)
          have v1c := VV.out.c1 wc (Fresh.refl _)
          go_wp2_with fail
          refine (tfirst_to _ s (lastV s) 0 ((s : Int) - 1) true FL.out (by omega) (fun h => by cases h) _ (VV.out.tr _ (Fresh.refl _)) (by decide) (by decide)).mono ?_
          rintro e w8 ⟨rfl, k8⟩
          have V8 := hide (VV.out.mono k8)
          have U8 := hide (VU7.out.mono k8)
          have K8 := hide (K7.out.trans k8)
          clear k8 v0c v1c FL VV VU7 K7
          have c0 := V8.out.c0 w8 (Fresh.refl _)
          have c1 := V8.out.c1 w8 (Fresh.refl _)
          have sz8 := SZ.out w8 K8.out
          have T8 := V8.out.tr w8 (Fresh.refl _)
          have FR8 := Fresh.refl w8
          go_wp2_with fail
          go_region_held3 (fun w' => w'.cell? ⟨V, 0, none⟩ = some (.int .i64 (s : Int)) ∧ w'.cell? ⟨V, 1, none⟩ = some (.slice (some ⟨b7, o7, none⟩) (l + 1) cap7) ∧ w'.cell? ⟨z, k, none⟩ = some (.int .i64 (s : Int)) ∧ TreeAt w' (.agg #[.int .i64 (s : Int), .slice (some ⟨b7, o7, none⟩) (l + 1) cap7]) s (lastV s) ∧ Fresh w8 w') (first | (exact heldT_drew (by assumption) (by assumption) (by assumption) (by assumption) (by assumption)) | (exact heldT_fresh (by assumption) (by assumption)) | go_keep) ((go_at_call 11; refine (tfirst_to _ s (lastV s) (s : Int) 0 false FS.out (by decide) (fun _ => rfl) _ (heldT_tree (by assumption)) (by omega) (by omega)).mono ?_; rintro e w9 ⟨rfl, k9⟩))
          have F9 : Fresh w8 w9 := (Fresh.drewN w8 1).trans k9
          have V9 := hide (V8.out.mono F9)
          have U9 := hide (U8.out.mono F9)
          have K9 := hide (K8.out.trans F9)
          clear c0 c1 sz8 T8 FR8 F9 k9 V8 U8 K8 FS
          have c0 := V9.out.c0 w9 (Fresh.refl _)
          have c1 := V9.out.c1 w9 (Fresh.refl _)
          go_wp2_with fail
          refine (tfirst_to _ s (lastV s) (-1) 0 false FM.out (by decide) (fun _ => rfl) _ (V9.out.tr _ (Fresh.refl _)) (by decide) (by decide)).mono ?_
          rintro e wa ⟨rfl, ka⟩
          have UA := hide (U9.out.mono ka)
          have KA := hide (K9.out.trans ka)
          clear c0 c1 ka V9 U9 K9 FM
          have c0 := UA.out.c0 wa (Fresh.refl _)
          have c1 := UA.out.c1 wa (Fresh.refl _)
          have sza := SZ.out wa KA.out
          have lza := LZ.out wa KA.out
          obtain ⟨x, c, hx, hxw⟩ := (UA.out.lv wa (Fresh.refl _)).row l (by omega)
          rw [TL.out _ (lev_allV s)] at hx hxw
          obtain ⟨xa, xc, hxe, _, _, _, hxc⟩ := hxw
          obtain ⟨xb, xo, hxa, hxcell⟩ := hxc 0 (by rw [TL.out _ (lev_allV s)]; decide)
          rw [top_allV s l s1 s2 NL.out, Nat.add_zero] at hxcell
          have hxx : x = xa := by injection hxe
          subst hxx
          subst hxa
          have zz : (((s : Int) - 1) == ((s : Int) - 1)) = true := by simp
          clear hxe hxc
          go_wp2_with fail
          go_quiet (fail)
          go_wp2_with fail
          go_quiet (fail)
          go_wp2
          go_roundw
          case rel => first | exact ⟨k + 1, by omega, by go_num, fresh_drewN (fresh_drewN KA.out _) _⟩ | exact ⟨k + 1, by omega, by go_num, fresh_drewN KA.out _⟩ | ((repeat apply Exists.intro); refine ⟨?_, rfl⟩; exact ⟨k + 1, by omega, by go_num, fresh_drewN KA.out _⟩) | ((repeat apply Exists.intro); refine ⟨?_, rfl⟩; exact ⟨k + 1, by omega, by go_num, fresh_drewN (fresh_drewN KA.out _) _⟩)
          case measure => simp [intOf]; omega
    · obtain rfl : k = 6 := by omega
      have hfd0 : ∀ w : World, (Instr.field 27 (.agg #[.int .i64 0, .slice none 0 0]) 0).run Try.prog w = .ok (.int .i64 0) w := fun _ => by kernel_rfl
      have hfd1 : ∀ w : World, (Instr.field 27 (.agg #[.int .i64 0, .slice none 0 0]) 1).run Try.prog w = .ok (.slice none 0 0) w := fun _ => by kernel_rfl
      go_wp2_with fail
      refine (tnew_none 0 _ (Or.inl (by decide))).mono ?_
      rintro e w2 ⟨rfl, k2⟩
      have K3 := hide (KF.out.trans k2)
      clear k2
      unfold noTree
      go_wp2_with fail
      refine (tnew_none (-5) _ (Or.inl (by decide))).mono ?_
      rintro e w3 ⟨rfl, k3⟩
      have K4 := hide (K3.out.trans k3)
      clear k3 K3
      unfold noTree
      go_wp2_with fail
      refine (tnew_none 65537 _ (Or.inr (by decide))).mono ?_
      rintro e w4 ⟨rfl, k4⟩
      have K5 := hide (K4.out.trans k4)
      clear k4 K4
      unfold noTree
      go_wp2
      go_ret
      exact ⟨rfl, K2.out.trans K5.out⟩
end Go.Proofs.Ythhflgecmbhjhaa
