/- The walk of hodmanlaw5.TreeRow: a tree is a row of bits. -/
import Derived.Test.YthhflgecmbhjhaaTreeLaw
import Derived.Test.YthhflgecmbhjhaaTreeVar
import Derived.Test.YthhflgecmbhjhaaOpen3
import Derived.Test.YthhflgecmbhjhaaTreeM
import Derived.Deep.RegionHeld3
namespace Go.Proofs.Ythhflgecmbhjhaa
open Go.ChangeShapes Go.WideShapes Go.ChangeAt Go.RowKit

/-- a tree that lies in neither of two blocks -/
def TreeOff (T B : Nat) (w : World) (v : Value) (n : Nat) (ws : List Nat) : Prop := ∀ w' : World, (∀ k, k ≠ T → k ≠ B → k < w.heap.size → w'.heap[k]? = w.heap[k]?) → TreeAt w' v n ws
theorem TreeOff.fresh {T B : Nat} {w w1 : World} {v : Value} {n : Nat} {ws : List Nat} (h : TreeOff T B w v n ws) (k : Fresh w w1) : TreeOff T B w1 v n ws :=
  fun w' hw => h w' fun i h1 h2 hl => (hw i h1 h2 (Nat.lt_of_lt_of_le hl k.size)).trans (k.block i hl)
theorem TreeOff.set {T B : Nat} {w : World} {v : Value} {n : Nat} {ws : List Nat} (h : TreeOff T B w v n ws) (b j : Nat) (hb : b = T ∨ b = B) (u : Value) : TreeOff T B (w.setCell ⟨b, j, none⟩ u) v n ws := by
  intro w' hw
  refine h w' fun i h1 h2 hl => ?_
  rw [hw i h1 h2 (by simpa [World.setCell] using hl), heap_setCell_other w ⟨b, j, none⟩ i u (fun e => by simp at e; omega)]
theorem TreeOff.at {T B : Nat} {w : World} {v : Value} {n : Nat} {ws : List Nat} (h : TreeOff T B w v n ws) : TreeAt w v n ws := h w fun _ _ _ _ => rfl
theorem TreeNew.off {base : Nat} {w : World} {v : Value} {n : Nat} {ws : List Nat} (h : TreeNew base w v n ws) {T B : Nat} (hT : T < base) (hB : B < base) : TreeOff T B w v n ws :=
  fun w' hw => h w' fun k hk hl => hw k (by omega) (by omega) hl

/-- the tree in its variable T, the bits in their array B -/
structure RowS (W0 : World) (T B : Nat) (lv : Value) (ws : List Nat) (p : Nat → Bool) (w : World) : Prop where
  var : w.heap[T]? = some (.cells #[.int .i64 200, lv] 27 (0, 0))
  tr : TreeOff T B w (.agg #[.int .i64 200, lv]) 200 ws
  arr : ∃ (cur : Array Value) (bt : TypeId), w.heap[B]? = some (.cells cur bt (0, 0)) ∧ cur.size = 200 ∧ ∀ k, k < 200 → cur[k]? = some (.bool (p k))
  el : Fresh W0 w
  le : W0.heap.size ≤ T ∧ W0.heap.size ≤ B ∧ T ≠ B
theorem RowS.fresh {W0 : World} {T B : Nat} {lv : Value} {ws : List Nat} {p : Nat → Bool} {w w' : World} (h : RowS W0 T B lv ws p w) (k : Fresh w w') : RowS W0 T B lv ws p w' := by
  obtain ⟨cur, bt, h1, h2, h3⟩ := h.arr
  exact ⟨by rw [k.block T (Array.getElem?_eq_some_iff.1 h.var).1]; exact h.var, h.tr.fresh k, ⟨cur, bt, by rw [k.block B (Array.getElem?_eq_some_iff.1 h1).1]; exact h1, h2, h3⟩, h.el.trans k, h.le⟩
theorem RowS.store {W0 : World} {T B : Nat} {lv lv' : Value} {ws us : List Nat} {p : Nat → Bool} {w w1 : World} (h : RowS W0 T B lv ws p w) (t : TreeNew w.heap.size w1 (.agg #[.int .i64 200, lv']) 200 us) (k : Fresh w w1) :
    RowS W0 T B lv' us p ((w1.setCell ⟨T, 0, none⟩ (.int .i64 200)).setCell ⟨T, 1, none⟩ lv') := by
  have h1 := h.fresh k
  obtain ⟨cur, bt, a1, a2, a3⟩ := h1.arr
  obtain ⟨_, _, a0, _, _⟩ := h.arr
  have hT := (Array.getElem?_eq_some_iff.1 h.var).1
  have hB := (Array.getElem?_eq_some_iff.1 a0).1
  exact ⟨two_cells h1.var _ _, ((t.off hT hB).set T 0 (.inl rfl) _).set T 1 (.inl rfl) _, ⟨cur, bt, heap_set_other (heap_set_other a1 (fun e => h.le.2.2 e.symm) _) (fun e => h.le.2.2 e.symm) _, a2, a3⟩, fresh_set (fresh_set h1.el h.le.1 0 _) h.le.1 1 _, h.le⟩
theorem RowS.put {W0 : World} {T B : Nat} {lv : Value} {ws : List Nat} {p : Nat → Bool} {w : World} (h : RowS W0 T B lv ws p w) (k : Nat) (hk : k < 200) (b : Bool) : RowS W0 T B lv ws (fun i => if i = k then b else p i) (w.setCell ⟨B, k, none⟩ (.bool b)) := by
  obtain ⟨cur, bt, a1, a2, a3⟩ := h.arr
  refine ⟨heap_set_other h.var h.le.2.2 _, h.tr.set B k (.inr rfl) _, ⟨_, bt, heap_set_same a1 _, by simpa using a2, fun i hi => ?_⟩, fresh_set h.el h.le.2.1 k _, h.le⟩
  by_cases e : i = k
  · subst e
    rw [if_pos rfl, Array.getElem?_setIfInBounds, if_pos rfl, if_pos (by omega)]
  · rw [if_neg e, Array.getElem?_setIfInBounds, if_neg (fun e' => e e'.symm)]
    exact a3 i hi
theorem RowS.congr {W0 : World} {T B : Nat} {lv : Value} {ws : List Nat} {p q : Nat → Bool} {w : World} (h : RowS W0 T B lv ws p w) (e : ∀ k, k < 200 → p k = q k) : RowS W0 T B lv ws q w := by
  obtain ⟨cur, bt, a1, a2, a3⟩ := h.arr
  exact ⟨h.var, h.tr, ⟨cur, bt, a1, a2, fun k hk => by rw [← e k hk]; exact a3 k hk⟩, h.el, h.le⟩
theorem RowS.cells {W0 : World} {T B : Nat} {lv : Value} {ws : List Nat} {p : Nat → Bool} {w : World} (h : RowS W0 T B lv ws p w) : w.cell? ⟨T, 0, none⟩ = some (.int .i64 200) ∧ w.cell? ⟨T, 1, none⟩ = some lv ∧ w.frozen? ⟨T, 0, none⟩ = false ∧ w.frozen? ⟨T, 1, none⟩ = false := ⟨cell_block h.var 0 _ rfl, cell_block h.var 1 _ rfl, free_block h.var 0, free_block h.var 1⟩
theorem RowS.bit {W0 : World} {T B : Nat} {lv : Value} {ws : List Nat} {p : Nat → Bool} {w : World} (h : RowS W0 T B lv ws p w) (k : Nat) (hk : k < 200) : w.cell? ⟨B, k, none⟩ = some (.bool (p k)) ∧ w.frozen? ⟨B, k, none⟩ = false := by
  obtain ⟨cur, bt, a1, a2, a3⟩ := h.arr
  exact ⟨cell_block a1 k _ (a3 k hk), free_block a1 k⟩
theorem zeros200 (k : Nat) (hk : k < 200) : (Array.replicate 200 (Value.bool false))[k]? = some (.bool false) := by simp [hk]
theorem tri_fresh {w w' : World} {a : Option Addr} {len : Nat} (h : IsTri w a len) (k : Fresh w w') : IsTri w' a len := by
  intro i hi
  obtain ⟨b, o, z0, z1, z2, e, ⟨h0, b0⟩, ⟨h1, b1⟩, ⟨h2, b2⟩⟩ := h i hi
  exact ⟨b, o, z0, z1, z2, e, ⟨(k.cell (World.block_lt_of_cell? _ _ h0)).trans h0, b0⟩, ⟨(k.cell (World.block_lt_of_cell? _ _ h1)).trans h1, b1⟩, ⟨(k.cell (World.block_lt_of_cell? _ _ h2)).trans h2, b2⟩⟩

/-- the lowest bit from m on, from A on, that is not set; 200: none -/
structure Low (A m G : Nat) (ws : List Nat) : Prop where
  le : G ≤ 200
  all : ∀ i, m ≤ i → A ≤ i → i < G → bitV ws i = true
  here : G < 200 → m ≤ G ∧ A ≤ G ∧ bitV ws G = false
theorem low_start (A : Nat) (ws : List Nat) : Low A 200 200 ws := ⟨Nat.le_refl _, fun i h1 _ h3 => by omega, fun h => by omega⟩
theorem Low.skip {A k G : Nat} {ws : List Nat} (h : Low A (k + 1) G ws) (hb : bitV ws k = true ∨ k < A) : Low A k G ws := by
  refine ⟨h.le, fun i h1 h2 h3 => ?_, fun hg => ?_⟩
  · by_cases e : i = k
    · subst e
      rcases hb with hb | hb
      · exact hb
      · omega
    · exact h.all i (by omega) h2 h3
  · obtain ⟨h1, h2, h3⟩ := h.here hg
    exact ⟨by omega, h2, h3⟩
theorem Low.hit {A k G : Nat} {ws : List Nat} (_h : Low A (k + 1) G ws) (hk : k < 200) (hb : bitV ws k = false) (hA : A ≤ k) : Low A k k ws :=
  ⟨by omega, fun i h1 _ h3 => by omega, fun _ => ⟨Nat.le_refl _, hA, hb⟩⟩
theorem Low.first {A G : Nat} {ws : List Nat} (h : Low A 0 G ws) (hA : A < 200) : firstT 200 ws (A : Int) = if G < 200 then some G else none := by
  unfold firstT
  rw [if_neg (by omega), Int.toNat_natCast]
  by_cases hg : G < 200
  · rw [if_pos hg]
    obtain ⟨_, h2, h3⟩ := h.here hg
    exact first_some h2 hg h3 fun j h4 h5 => h.all j (Nat.zero_le _) h4 h5
  · rw [if_neg hg]
    have := h.le
    exact first_none fun j h4 h5 => h.all j (Nat.zero_le _) h4 (by omega)
set_option maxRecDepth 100000 in
set_option maxHeartbeats 8000000 in
theorem treeRow_walk0 (a : Option Addr) (len cap : Nat) (y : Int) (hy : 0 ≤ y) (hy' : y ≤ 255) (w : World) (htri : IsTri w a len ∧ len ≤ maxLen) :
    Calls Try.prog 6 #[.slice a len cap, .int .u8 y] w fun e w' => e = .returned (.bool true) ∧ Fresh w w' := by
  have hml : len ≤ 9223372036854775807 := htri.2
  by_cases h12 : len ≤ 12
  · have l0 : (len : Int) ≤ 12 := by omega
    have TR := hide htri.1
    clear htri h12 hml
    go_enter Try.func6, Try.ntmps6
    go_wp2_with fail
    refine (begun5_true _).mono ?_
    rintro e w1 ⟨rfl, k1⟩
    have K1 := hide k1
    clear k1
    go_wp2_with fail
    refine (tnew_to 200 200 rfl _ (by decide) (by decide)).mono ?_
    rintro e w2 ⟨v2, rfl, t2, k2⟩
    obtain ⟨b2, o2, cp2, rfl, _⟩ := t2.at.lit 200 2 rfl (by decide)
    have N2 := hide t2
    have K2 := hide (K1.out.trans k2)
    clear t2 k2
    obtain ⟨Z, hZ, hZs, hZk⟩ : ∃ Z : Array Value, (∀ w : World, (zeroValue 47).run Try.prog w = .ok (.agg Z) w) ∧ Z.size = 200 ∧ ∀ k, k < 200 → Z[k]? = some (.bool false) := ⟨Array.replicate 200 (.bool false), fun _ => by kernel_rfl, by simp, zeros200⟩
    have ZS := hide hZs
    have ZK := hide hZk
    clear hZs hZk
    obtain ⟨W, hW⟩ : ∃ W, W = (w2.alloc (.cells #[.int .i64 200, .slice (some ⟨b2, o2, none⟩) 2 cp2] 27)).alloc (.cells Z 47) := ⟨_, rfl⟩
    have FW2 : Fresh w2 W := by subst hW; exact fresh_more (fresh_box w2 _ _) _ _
    have sw : W.heap.size = w2.heap.size + 2 := by subst hW; simp
    have R0 := hide (show RowS w2 w2.heap.size (w2.heap.size + 1) (.slice (some ⟨b2, o2, none⟩) 2 cp2) (noneV 200) (bitV (noneV 200)) W from by
      refine ⟨?_, ?_, ⟨Z, 47, ?_, ZS.out, fun k hk => ?_⟩, FW2, ⟨Nat.le_refl _, by omega, by omega⟩⟩
      · subst hW
        rw [(fresh_box (w2.alloc (.cells #[.int .i64 200, .slice (some ⟨b2, o2, none⟩) 2 cp2] 27)) Z 47).block w2.heap.size (by simp)]
        exact heap_alloc_new w2 _
      · intro w' hw
        refine N2.out w' fun k hk hl => ?_
        rw [hw k (by omega) (by omega) (by omega), FW2.block k hl]
      · subst hW
        have := heap_alloc_new (w2.alloc (.cells #[.int .i64 200, .slice (some ⟨b2, o2, none⟩) 2 cp2] 27)) (.cells Z 47 (0, 0))
        rw [show (w2.alloc (.cells #[.int .i64 200, .slice (some ⟨b2, o2, none⟩) 2 cp2] 27)).heap.size = w2.heap.size + 1 by simp] at this
        exact this
      · rw [ZK.out k hk]
        have : bitV (noneV 200) k = false := by unfold noneV; rw [bitV_packV _ _ _ (by omega), decide_eq_false (by omega)]; rfl
        rw [this])
    have HW := hide hW
    clear hW FW2 sw N2
    go_wp2
    rw [← HW.out]
    have TR2 := hide (tri_fresh TR.out K2.out)
    generalize w2.heap.size = T at *
    go_loopw [7] (fun x wr => ∃ (j : Nat) (lv : Value) (ws : List Nat), j ≤ len ∧ x = .int .i64 (j : Int) ∧ RowS w2 T (T + 1) lv ws (bitV ws) wr) (fun x _ => (len - intOf x).toNat)
    case atStart => exact ⟨0, _, _, Nat.zero_le _, rfl, R0.out⟩
    case round =>
      obtain ⟨j, lv, ws, hj, rfl, hR⟩ := hrel
      have RR := hide hR
      have LE := hide hR.tr.at.lev
      clear R0
      rcases Nat.lt_or_ge j len with hjl | hjl
      · obtain ⟨b, o, z0, z1, z2, rfl, ⟨h0, b0, b0'⟩, ⟨h1, b1, b1'⟩, ⟨h2, b2', b2''⟩⟩ := tri_fresh TR2.out hR.el j hjl
        obtain ⟨c0, c1, f0, f1⟩ := hR.cells
        have j1 : (j : Int) < (len : Int) := by omega
        obtain ⟨on, hon⟩ : ∃ on : Bool, decide (0 < z2 % 3) = on := ⟨_, rfl⟩
        have m0 : wrap64 z0 = z0 := by unfold wrap64; omega
        have m1 : wrap64 z1 = z1 := by unfold wrap64; omega
        clear hR
        obtain ⟨F, rfl⟩ : ∃ F : Nat, z0 = F := ⟨z0.toNat, by omega⟩
        obtain ⟨N, rfl⟩ : ∃ N : Nat, z1 = N := ⟨z1.toNat, by omega⟩
        go_wp2_with fail
        go_quiet (fail)
        obtain ⟨us, hus⟩ : ∃ us, setT 200 ws (F : Int) (N : Int) on = us := ⟨_, rfl⟩
        have US := hide hus
        have UB := hide (show ∀ i, i < 200 → bitV us i = if F ≤ i ∧ i < F + N then on else bitV ws i from fun i hi => by rw [← hus]; exact bit_setT LE.out F N on i hi)
        have RD := hide (fun m => RR.out.fresh (Fresh.drewN wr m))
        clear hus
        go_wp2_with fail
        refine (tset_to _ 200 ws (F : Int) (N : Int) on us US.out _ (RD.out _).tr.at (by omega)).mono ?_
        rintro e w3 ⟨v3, rfl, t3, k3⟩
        obtain ⟨b3, o3, cp3, rfl, _⟩ := t3.at.lit 200 2 rfl (by decide)
        have RS := hide ((RD.out _).store t3 k3)
        obtain ⟨d0, d1, e0, e1⟩ := ((RD.out _).fresh k3).cells
        clear t3 k3 c0 c1 f0 f1 h0 h1 h2 RR RD
        have F0 : (F : Int) ≤ 255 := by omega
        have N0 : (N : Int) ≤ 255 := by omega
        go_wp2
        go_loopw [11] (fun x wr => ∃ (k : Nat) (p : Nat → Bool), F ≤ k ∧ k ≤ F + N ∧ (k = F ∨ k ≤ 200) ∧ x = .int .i64 (k : Int) ∧ RowS w2 T (T + 1) (.slice (some ⟨b3, o3, none⟩) 2 cp3) us p wr ∧ ∀ i, i < 200 → p i = if F ≤ i ∧ i < k then on else bitV ws i) (fun x _ => (200 - intOf x).toNat)
        case atStart => exact ⟨F, bitV ws, Nat.le_refl _, by omega, .inl rfl, rfl, RS.out, fun i hi => by rw [if_neg (by omega)]⟩
        case round =>
          obtain ⟨k, p, hk1, hk2, hk3, rfl, hR2, hp⟩ := hrel
          have R2 := hide hR2
          have PP := hide hp
          have kk : (k : Int) ≤ 510 := by omega
          clear hR2 hp RS
          by_cases hgo : k < F + N ∧ k < 200
          · obtain ⟨g1, g2⟩ := hgo
            have g1' : (k : Int) < (F : Int) + (N : Int) := by omega
            have g2' : (k : Int) < 200 := by omega
            obtain ⟨cb, fb⟩ := R2.out.bit k g2
            have RP := hide (R2.out.put k g2 on)
            have PN := hide (show ∀ i, i < 200 → (if i = k then on else p i) = if F ≤ i ∧ i < k + 1 then on else bitV ws i from fun i hi => by
              by_cases e : i = k
              · subst e; rw [if_pos rfl, if_pos (by omega)]
              · rw [if_neg e, PP.out i hi]
                by_cases h3 : F ≤ i ∧ i < k
                · rw [if_pos h3, if_pos (by omega)]
                · rw [if_neg h3, if_neg (by omega)])
            generalize p k = old at *
            go_wp2
            go_roundw
            case rel => first | exact ⟨k + 1, _, by omega, by omega, .inr (by omega), by go_num, RP.out, PN.out⟩ | ((repeat apply Exists.intro); refine ⟨?_, rfl⟩; exact ⟨k + 1, _, by omega, by omega, .inr (by omega), by go_num, RP.out, PN.out⟩)
            case measure => simp [intOf]; omega
          · have RE := hide (R2.out.congr (q := bitV us) fun i hi => by
              rw [PP.out i hi, UB.out i hi]
              by_cases h3 : F ≤ i ∧ i < k
              · rw [if_pos h3, if_pos (by omega)]
              · rw [if_neg h3, if_neg (by omega)])
            obtain ⟨q0, q1, _, _⟩ := RE.out.cells
            rcases (show F + N ≤ k ∨ (k < F + N ∧ 200 ≤ k) by omega) with hc | ⟨hc1, hc2⟩
            · have hc' : (F : Int) + (N : Int) ≤ (k : Int) := by omega
              clear hgo
              go_wp2_with fail
              refine (may_true _ 200 us _ RE.out.tr.at).mono ?_
              rintro e w4 ⟨rfl, k4⟩
              have RF := hide (RE.out.fresh k4)
              clear k4 q0 q1 R2 RE
              go_wp2
              go_roundw
              case rel => first | exact ⟨j + 1, _, us, by omega, by go_num, RF.out⟩ | ((repeat apply Exists.intro); refine ⟨?_, rfl⟩; exact ⟨j + 1, _, us, by omega, by go_num, RF.out⟩)
              case measure => simp [intOf]; omega
            · have hc1' : (k : Int) < (F : Int) + (N : Int) := by omega
              have hc2' : (200 : Int) ≤ (k : Int) := by omega
              clear hgo
              go_wp2_with fail
              refine (may_true _ 200 us _ RE.out.tr.at).mono ?_
              rintro e w4 ⟨rfl, k4⟩
              have RF := hide (RE.out.fresh k4)
              clear k4 q0 q1 R2 RE
              go_wp2
              go_roundw
              case rel => first | exact ⟨j + 1, _, us, by omega, by go_num, RF.out⟩ | ((repeat apply Exists.intro); refine ⟨?_, rfl⟩; exact ⟨j + 1, _, us, by omega, by go_num, RF.out⟩)
              case measure => simp [intOf]; omega
      · obtain rfl : j = len := by omega
        obtain ⟨A, hA⟩ : ∃ A : Nat, y % 200 = A := ⟨(y % 200).toNat, by omega⟩
        have hA2 : A < 200 := by omega
        have a2' : (A : Int) < 200 := by omega
        clear hR
        go_wp2
        go_loopw [12, 13] (fun fx x wr => ∃ (G m : Nat), m ≤ 200 ∧ fx = .int .i64 (G : Int) ∧ x = .int .i64 ((m : Int) - 1) ∧ RowS w2 T (T + 1) lv ws (bitV ws) wr ∧ Low A m G ws) (fun _ x _ => (intOf x + 1).toNat)
        case atStart => exact ⟨200, 200, Nat.le_refl _, rfl, rfl, RR.out, low_start A ws⟩
        case round =>
          obtain ⟨G, m, hm, rfl, rfl, hR2, hLow⟩ := hrel
          have R2 := hide hR2
          have LW := hide hLow
          have G2 : G ≤ 200 := hLow.le
          have G3 : (G : Int) ≤ 200 := by omega
          clear hR2 hLow RR
          obtain ⟨c0, c1, _, _⟩ := R2.out.cells
          rcases Nat.eq_zero_or_pos m with rfl | hm0
          · have FE := hide (LW.out.first hA2)
            have z0 : ((0 : Nat) : Int) - 1 = -1 := rfl
            by_cases hG : G < 200
            · have g1 : (G : Int) < 200 := by omega
              have FI := hide (show firstT 200 ws (A : Int) = if true then some ((G : Int)).toNat else none by rw [FE.out, if_pos hG]; rfl)
              go_wp2_with fail
              refine (tfirst_to _ 200 ws (A : Int) (G : Int) true FI.out (by omega) (fun h => by cases h) _ R2.out.tr.at (by omega) (by omega)).mono ?_
              rintro e w6 ⟨rfl, k6⟩
              have K6 := hide (R2.out.el.trans k6)
              clear k6
              go_wp2
              go_ret
              exact ⟨rfl, K2.out.trans K6.out⟩
            · have g1 : (200 : Int) ≤ (G : Int) := by omega
              have FI := hide (show firstT 200 ws (A : Int) = if false then some ((0 : Int)).toNat else none by rw [FE.out, if_neg hG]; rfl)
              go_wp2_with fail
              refine (tfirst_to _ 200 ws (A : Int) 0 false FI.out (by decide) (fun _ => rfl) _ R2.out.tr.at (by omega) (by omega)).mono ?_
              rintro e w6 ⟨rfl, k6⟩
              have K6 := hide (R2.out.el.trans k6)
              clear k6
              go_wp2
              go_ret
              exact ⟨retB (by simp; omega), K2.out.trans K6.out⟩
          · obtain ⟨k, rfl⟩ : ∃ k, m = k + 1 := ⟨m - 1, by omega⟩
            have hk : k < 200 := by omega
            have k0 : ((k + 1 : Nat) : Int) - 1 = (k : Int) := by omega
            have k1 : (k : Int) < 200 := by omega
            have k2 : (0 : Int) ≤ (k : Int) := by omega
            rw [k0]
            obtain ⟨cb, _⟩ := R2.out.bit k hk
            have HB := hide (show hasT 200 ws (k : Int) = bitV ws k by unfold hasT; rw [decide_eq_true (by omega), decide_eq_true (by omega), Int.toNat_natCast]; rfl)
            have NXT := hide (show bitV ws k = true ∨ k < A → Low A k G ws from LW.out.skip)
            have NXH := hide (show bitV ws k = false → A ≤ k → Low A k k ws from fun h1 h2 => LW.out.hit hk h1 h2)
            have CBB := hide (show ∀ w', RowS w2 T (T + 1) lv ws (bitV ws) w' → w'.cell? ⟨T + 1, k, none⟩ = some (.bool (bitV ws k)) from fun w' h => (h.bit k hk).1)
            have TT := R2.out.tr.at
            have FR := Fresh.refl wr
            have BASE := hide (And.intro c0 (And.intro c1 (And.intro cb (And.intro TT FR))))
            generalize bitV ws k = bb at *
            go_wp2_with fail
            go_region_held3 (fun w' => w'.cell? ⟨T, 0, none⟩ = some (.int .i64 200) ∧ w'.cell? ⟨T, 1, none⟩ = some lv ∧ w'.cell? ⟨T + 1, k, none⟩ = some (.bool bb) ∧ TreeAt w' (.agg #[.int .i64 200, lv]) 200 ws ∧ Fresh wr w') (first | (exact heldT_drew (by assumption) (by assumption) (by assumption) (by assumption) (by assumption)) | (exact heldT_fresh (by assumption) (by assumption)) | go_keep) ((go_at_call 14; refine (thas_to _ 200 ws (k : Int) bb HB.out _ (heldT_tree (by assumption)) (by omega) (by omega)).mono ?_; rintro e w6 ⟨rfl, k6⟩))
            have F6 : Fresh wr w6 := (Fresh.drewN wr 1).trans k6
            have R6 := hide (R2.out.fresh F6)
            clear c0 c1 cb TT FR BASE k6 F6 R2
            have RB := True.intro
            cases bb with
            | true =>
              have NX := hide (NXT.out (.inl rfl))
              have cb := (show w6.cell? ⟨T + 1, k, none⟩ = some (.bool true) from CBB.out w6 R6.out)
              clear NXT NXH RB
              go_wp2
              go_roundw
              case rel => first | exact ⟨G, k, by omega, rfl, by go_num, R6.out, NX.out⟩ | ((repeat apply Exists.intro); refine ⟨?_, rfl⟩; exact ⟨G, k, by omega, rfl, by go_num, R6.out, NX.out⟩)
              case measure => simp [intOf]
            | false =>
              have cb := (show w6.cell? ⟨T + 1, k, none⟩ = some (.bool false) from CBB.out w6 R6.out)
              by_cases hAk : A ≤ k
              · have a3 : (A : Int) ≤ (k : Int) := by omega
                have NX := hide (NXH.out rfl hAk)
                clear NXT NXH RB hAk
                go_wp2
                go_roundw
                case rel => first | exact ⟨k, k, by omega, rfl, by go_num, R6.out, NX.out⟩ | ((repeat apply Exists.intro); refine ⟨?_, rfl⟩; exact ⟨k, k, by omega, rfl, by go_num, R6.out, NX.out⟩)
                case measure => simp [intOf]
              · have a3 : (k : Int) < (A : Int) := by omega
                have NX := hide (NXT.out (.inr (by omega)))
                clear NXT NXH RB hAk
                go_wp2
                go_roundw
                case rel => first | exact ⟨G, k, by omega, rfl, by go_num, R6.out, NX.out⟩ | ((repeat apply Exists.intro); refine ⟨?_, rfl⟩; exact ⟨G, k, by omega, rfl, by go_num, R6.out, NX.out⟩)
                case measure => simp [intOf]
  · have l0 : (12 : Int) < (len : Int) := by omega
    go_enter Try.func6, Try.ntmps6
    go_wp2_with fail
    refine (begun5_true _).mono ?_
    rintro e w1 ⟨rfl, k1⟩
    have K1 := hide k1
    clear k1
    go_wp2
    go_ret
    exact ⟨rfl, K1.out⟩
end Go.Proofs.Ythhflgecmbhjhaa
