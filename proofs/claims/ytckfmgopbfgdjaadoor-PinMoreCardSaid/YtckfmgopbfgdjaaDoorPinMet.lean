/- What the program's pin.Met answers, as a contract. Condition: the library's table lies in its variable. -/
import Derived.Test.YtckfmgopbfgdjaaDoorPin
import Derived.Test.YtckfmgopbfgdjaaDoorBlockMem
import Derived.Deep.OwnRows
namespace Go.Proofs.YtckfmgopbfgdjaaDoor
open Go.RowKit

theorem OwnB.base {w : World} {base g cap N : Nat} {bs : List Bool} (h : OwnB w base (.slice (some ⟨g, 0, none⟩) N cap) bs) : base ≤ g := by
  rcases h.2 with ⟨e, _⟩ | ⟨g', cap', cur, e, hb, _⟩
  · cases e
  · cases e; exact hb
theorem toList_falses (n : Nat) : (madeCells (Value.bool false).cells (n * 1)).toList = bvals (List.replicate n false) := by
  rw [Nat.mul_one]
  unfold bvals
  rw [List.map_replicate]
  exact toList_madeCells_one _ _
theorem bools_run (q : Nat) (h : q ≤ 65536) (w : World) : (Instr.makeSlice 26 (.int .i64 (q : Int)) (.int .i64 (q : Int))).run Tryd.prog w = .ok (.slice (some ⟨w.heap.size, 0, none⟩) q q) (w.alloc (.cells (madeCells #[.bool false] q) 4)) :=
  run_make_row' (P := Tryd.prog) 26 4 (.bool false) 1 Tryd.underlying26 infoBool rfl .i64 .i64 q (by omega) (by omega) w
/-- a row of bools as it is made -/
theorem bools_made (q : Nat) (h : q ≤ 65536) (w : World) : OwnB (w.alloc (.cells (madeCells #[.bool false] q) 4)) w.heap.size (.slice (some ⟨w.heap.size, 0, none⟩) q q) (List.replicate q false) := by
  have e : (madeCells #[Value.bool false] q).toList = bvals (List.replicate q false) := by have := toList_falses q; rwa [Nat.mul_one] at this
  have hl : (madeCells #[Value.bool false] q).size = q := by rw [← Array.length_toList, e, bvals_length, List.length_replicate]
  refine ⟨by rw [bvals_length, Nat.mul_one], .inr ⟨w.heap.size, q, madeCells #[.bool false] q, by rw [List.length_replicate], Nat.le_refl _, heap_alloc_new w _, by rw [List.length_replicate]; exact Nat.le_refl _, by unfold maxLen; omega, by rw [hl, Nat.mul_one], ?_⟩⟩
  rw [e, List.length_replicate, Nat.mul_one]
  exact List.take_of_length_le (by rw [bvals_length, List.length_replicate]; exact Nat.le_refl _)
/-- bits that are set from f on, ahead of t -/
def fillL (bs : List Bool) (f t : Nat) : List Bool := (List.range bs.length).map fun i => bs.getD i false || (decide (f ≤ i) && decide (i < t))
theorem fillL_length (bs : List Bool) (f t : Nat) : (fillL bs f t).length = bs.length := by unfold fillL; simp
theorem fillL_get {bs : List Bool} {f t i : Nat} (h : i < bs.length) : (fillL bs f t).getD i false = (bs.getD i false || (decide (f ≤ i) && decide (i < t))) := by
  unfold fillL; simp [List.getD_eq_getElem?_getD, h]
theorem fillL_start (bs : List Bool) (f : Nat) : fillL bs f f = bs := by
  refine bools_ext (fillL_length _ _ _) fun i hi => ?_
  rw [fillL_length] at hi
  rw [fillL_get hi]
  by_cases h : f ≤ i
  · rw [decide_eq_true h, decide_eq_false (by omega)]; simp
  · rw [decide_eq_false h]; simp
theorem fillL_succ {bs : List Bool} {f t : Nat} (h : f ≤ t) : fillL bs f (t + 1) = (fillL bs f t).set t true := by
  refine bools_ext (by simp [fillL_length]) fun i hi => ?_
  rw [fillL_length] at hi
  rw [fillL_get hi, List.getD_eq_getElem?_getD (l := (fillL bs f t).set t true), List.getElem?_set]
  by_cases e : t = i
  · subst e
    rw [if_pos rfl, if_pos (by rw [fillL_length]; exact hi), decide_eq_true h, decide_eq_true (by omega)]; simp
  · rw [if_neg e, ← List.getD_eq_getElem?_getD, fillL_get hi]
    congr 2
    exact decide_eq_decide.2 (by omega)
/-- what is cut at the end of the last page meets the same -/
theorem fill_met {L p : Nat} (bl : List Bk) (b : Bk) (f t : Nat) (h : ∀ i, i < L → (decide (f ≤ i) && decide (i < t)) = inB p b i) : fillL (metL L p bl) f t = metL L p (bl ++ [b]) := by
  refine bools_ext (by rw [fillL_length, metL_length, metL_length]) fun i hi => ?_
  rw [fillL_length, metL_length] at hi
  rw [fillL_get (by rw [metL_length]; exact hi), metL_get hi, metL_get hi, metB_append, metB_one, h i hi]
theorem cut_in {L p : Nat} (hp : 1 ≤ p) (b : Bk) (D : Nat) (hD : (D : Int) = min (b.2.1 : Int) (((L * p : Nat) : Int) - (b.1 : Int))) :
    pB p b.1 D ≤ max L (pF p b.1) ∧ ∀ i, i < L → (decide (pF p b.1 ≤ i) && decide (i < pB p b.1 D)) = inB p b i := by
  have e1 : D ≤ b.2.1 := by omega
  have e2 : b.1 + D ≤ L * p := by omega
  have e3 : D = b.2.1 ∨ b.1 + D = L * p := by omega
  have hle := pF_le_pB p b.1 D
  have hF : ∀ x, (x < L * p) → x / p < L := fun x hx => Nat.div_lt_of_lt_mul (by rw [Nat.mul_comm]; exact hx)
  refine ⟨?_, fun i hi => ?_⟩
  · unfold pB pF
    split
    · omega
    · have := hF (b.1 + D - 1) (by omega)
      omega
  · unfold inB
    rcases e3 with e3 | e3
    · rw [e3]
    · have hL : ∀ n, D ≤ n → 1 ≤ n → L ≤ (b.1 + n - 1) / p + 1 := fun n hn hn1 => by
        have hb : L * p ≤ b.1 + n := by omega
        by_cases hL0 : L = 0
        · omega
        · have : L - 1 ≤ (b.1 + n - 1) / p := by
            rw [Nat.le_div_iff_mul_le (by omega), Nat.sub_mul]
            omega
          omega
      by_cases g : pF p b.1 ≤ i
      · rw [decide_eq_true g]
        simp only [Bool.true_and]
        have q : ∀ n, D ≤ n → i < pB p b.1 n := fun n hn => by
          unfold pB
          split
          · rename_i h0
            have h00 : D = 0 := by omega
            have : b.1 / p = L := by rw [show b.1 = L * p by omega]; exact Nat.mul_div_cancel _ (by omega)
            omega
          · have := hL n hn (by omega); omega
        rw [decide_eq_true (q D (Nat.le_refl _)), decide_eq_true (q _ e1)]
      · rw [decide_eq_false g]; rfl
theorem cut_none {L p : Nat} (hp : 1 ≤ p) (b : Bk) (h : ((L * p : Nat) : Int) - (b.1 : Int) < 0) : ∀ i, i < L → (decide (0 ≤ i) && decide (i < 0)) = inB p b i := fun i hi => by
  have : L ≤ b.1 / p := by rw [Nat.le_div_iff_mul_le (by omega)]; omega
  unfold inB pF
  rw [decide_eq_false (show ¬ i < 0 by omega), decide_eq_false (show ¬ b.1 / p ≤ i by omega)]
  rfl

set_option maxRecDepth 100000 in
set_option maxHeartbeats 1000000 in
theorem met_nat (P N L E : Nat) (v : Value) (bl : List Bk) (w : World) (h : BlocksAt w v bl) (p1 : 1 ≤ P) (p2 : P ≤ 9223372036854775807) (s2 : N ≤ 65536) (hL : N / P = L) (hE : L * P = E) (hT : Tab w) :
    Calls Tryd.prog 8 #[.int .i64 (P : Int), .int .i64 (N : Int), v] w fun e w' => ∃ g cap, e = .returned (.slice (some ⟨g, 0, none⟩) L cap) ∧ OwnB w' w.heap.size (.slice (some ⟨g, 0, none⟩) L cap) (metL L P bl) ∧ Fresh w w' := by
  have HB := hide h
  obtain ⟨a, cp, rfl⟩ := h.shape
  have HT := hide hT
  have q1 : (1 : Int) ≤ (P : Int) := by omega
  have q2 : (P : Int) ≤ 9223372036854775807 := by omega
  have q3 : (0 : Int) ≤ (N : Int) := by omega
  have q4 : (N : Int) ≤ 65536 := by omega
  have PP := hide p1
  have P2 := hide p2
  have l1 : (0 : Int) ≤ (L : Int) := by omega
  have L2 : L ≤ N := by rw [← hL]; exact Nat.div_le_self _ _
  have l2 : (L : Int) ≤ 65536 := by omega
  have e2 : E ≤ N := by rw [← hE, ← hL]; exact Nat.div_mul_le_self _ _
  have e3 : (0 : Int) ≤ (E : Int) := by omega
  have e4 : (E : Int) ≤ 65536 := by omega
  have W1 := hide (whole_any P N w p1 p2 (by omega) hT)
  rw [hL] at W1
  have hmk := fun w => bools_run L (by omega) w
  have wE : wrap64 ((L : Int) * (P : Int)) = (E : Int) := by
    rw [← Int.natCast_mul, hE]; unfold wrap64; omega
  have EL := hide hE
  have FIN := hide (show ∀ (w1 : World), w1 = w.alloc (.cells (madeCells #[.bool false] L) 4) → OwnB w1 w.heap.size (.slice (some ⟨w.heap.size, 0, none⟩) L L) (metL L P (bl.take 0)) ∧ Fresh w w1 from fun w1 e => by
    subst e
    rw [List.take_zero, metL_nil]
    exact ⟨bools_made L (by omega) w, fresh_box _ _ _⟩)
  have b0 : (0 : Int) ≤ (bl.length : Int) := by omega
  have b1 : (bl.length : Int) ≤ 1048576 := by have := h.2.1; omega
  have TA := hide (show bl.take bl.length = bl from List.take_length)
  clear h hT hE hL p1 p2 s2 L2 e2
  go_enter Tryd.func8, Tryd.ntmps8
  go_wp2_with fail
  refine (W1.out).mono ?_
  rintro e w' ⟨rfl, rfl⟩
  go_wp2
  obtain ⟨w1, hw1⟩ : ∃ w1, w1 = w'.alloc (.cells (madeCells #[.bool false] L) 4) := ⟨_, rfl⟩
  have OO := hide (FIN.out w1 hw1)
  rw [← hw1]
  clear hw1 FIN hmk W1
  rw [wE]
  clear wE
  generalize hG : w'.heap.size = G at *
  go_loopw [34] (fun i wr => ∃ j : Nat, j ≤ bl.length ∧ i = .int .i64 (j : Int) ∧ OwnB wr G (.slice (some ⟨G, 0, none⟩) L L) (metL L P (bl.take j)) ∧ Fresh w' wr) (fun i _ => (bl.length - intOf i).toNat)
  case atStart => exact ⟨0, Nat.zero_le _, rfl, OO.out.1, OO.out.2⟩
  case round =>
    obtain ⟨j, hj, rfl, ho, hf⟩ := hrel
    have F := hide hf
    have O := hide ho
    have TW := hide (HT.out.below hf)
    by_cases g : j < bl.length
    · have g' : (j : Int) < (bl.length : Int) := by omega
      obtain ⟨b, o, rfl, c0, c1, c2⟩ := (HB.out.fresh hf).cell j g
      have SM := HB.out.small g
      have NX := hide (show bl.take (j + 1) = bl.take j ++ [bk bl j] from getD_last g)
      generalize bk bl j = B at *
      obtain ⟨x0, y0, z0⟩ := B
      obtain ⟨s1, s2, s3⟩ := SM
      simp only at c0 c1 c2 s1 s2 s3
      have x1 : (0 : Int) ≤ (x0 : Int) := by omega
      have x2 : (x0 : Int) ≤ 1099511627776 := by omega
      have y1 : (0 : Int) ≤ (y0 : Int) := by omega
      have y2 : (y0 : Int) ≤ 1099511627776 := by omega
      obtain ⟨d, hd⟩ : ∃ d : Int, min (y0 : Int) ((E : Int) - (x0 : Int)) = d := ⟨_, rfl⟩
      have DD := hide hd
      have d1 : -1099511627776 ≤ d := by omega
      have d2 : d ≤ 1099511627776 := by omega
      have KEY := hide (show ∃ f t : Nat, (f ≤ t ∧ (t ≤ L ∨ f = t)) ∧ t ≤ 1099511627776 ∧ (∀ i, i < L → (decide (f ≤ i) && decide (i < t)) = inB P (x0, y0, z0) i) ∧ ∀ w4, Tab w4 →
          Calls Tryd.prog 9 #[.int .i64 (P : Int), .int .i64 (x0 : Int), .int .i64 d] w4 fun e w5 => e = .returned (.tuple #[.int .i64 (f : Int), .int .i64 (t : Int)]) ∧ w5 = w4 by
        have p1 := PP.out
        have p2 := P2.out
        have e1 := EL.out
        clear c0 c1 c2
        by_cases gd : d < 0
        · exact ⟨0, 0, ⟨Nat.le_refl _, .inr rfl⟩, by omega, cut_none p1 (x0, y0, z0) (by simp only; rw [e1]; omega), fun w4 _ => pages_none _ _ _ w4 (.inr (.inr gd)) (by omega) q2 (by omega) (by omega) (by omega) (by omega)⟩
        · obtain ⟨D, rfl⟩ := Int.eq_ofNat_of_zero_le (show 0 ≤ d by omega)
          obtain ⟨k1, k2⟩ := cut_in (L := L) p1 (x0, y0, z0) D (by simp only; rw [e1]; omega)
          simp only at k1 k2
          have k3 := pF_le_pB P x0 D
          have k4 : pF P x0 ≤ x0 := Nat.div_le_self _ _
          have k5 : (x0 + D - 1) / P ≤ x0 + D - 1 := Nat.div_le_self _ _
          exact ⟨pF P x0, pB P x0 D, ⟨k3, by omega⟩, by omega, k2, fun w4 h4 => pages_nat P x0 D w4 p1 p2 (by omega) (by omega) h4⟩)
      have FB := hide (fun (c : Array Value) => fresh_more hf c 31)
      have TB := hide (fun (c : Array Value) => HT.out.below (fresh_more hf c 31))
      have OB := hide (fun (c : Array Value) => ho.fresh (fresh_box wr c 31))
      clear ho hf s1 s2 s3
      obtain ⟨f, t, ⟨ft, tL⟩, tb, hin, hpg⟩ := KEY.out
      have FM := hide (show fillL (metL L P (bl.take j)) f t = metL L P (bl.take (j + 1)) by rw [NX.out]; exact fill_met _ _ _ _ hin)
      have PG := hide hpg
      have TL := hide tL
      clear hin hpg tL KEY
      go_wp2_with fail
      obtain ⟨w4, hw4⟩ : ∃ w4, w4 = wr.alloc (.cells #[.int .i64 (x0 : Int), .int .i64 (y0 : Int), .int .i64 (z0 : Int)] 31) := ⟨_, rfl⟩
      have O4 := hide (show OwnB w4 G _ _ from hw4 ▸ OB.out _)
      have F4 := hide (show Fresh w' w4 from hw4 ▸ FB.out _)
      have T4 := hide (show Tab w4 from hw4 ▸ TB.out _)
      rw [← hw4]
      clear hw4 c0 c1 c2 hd OB FB TB
      refine (PG.out w4 T4.out).mono ?_
      rintro e w5 ⟨rfl, rfl⟩
      have ft' : (f : Int) ≤ (t : Int) := by omega
      have f0 : (0 : Int) ≤ (f : Int) := by omega
      have tb' : (t : Int) ≤ 1099511627776 := by omega
      have ML := hide (metL_length L P (bl.take j))
      generalize metL L P (bl.take j) = ms at *
      go_wp2
      go_loopw [13] (fun i ws => ∃ k : Nat, f ≤ k ∧ k ≤ t ∧ i = .int .i64 (k : Int) ∧ OwnB ws G (.slice (some ⟨G, 0, none⟩) L L) (fillL ms f k) ∧ Fresh w' ws) (fun i _ => (t - intOf i).toNat)
      case atStart => exact ⟨f, Nat.le_refl _, ft, rfl, by rw [fillL_start]; exact O4.out, F4.out⟩
      case round =>
        obtain ⟨k, hk1, hk2, rfl, hk3, hk4⟩ := hrel
        have kt : (k : Int) ≤ (t : Int) := by omega
        have k0 : (0 : Int) ≤ (k : Int) := by omega
        by_cases gk : k < t
        · have gk' : (k : Int) < (t : Int) := by omega
          have kL : k < L := by have := TL.out; omega
          have kL' : (k : Int) < (L : Int) := by omega
          have hlen : L = (fillL ms f k).length := by rw [fillL_length, ML.out]
          have z1 := hk3.cell hlen k kL
          have z2 := hk3.free hlen k
          have O5 := hide (hk3.put hlen k true)
          have F5 := hide (fresh_set hk4 (show w'.heap.size ≤ G by omega) k (.bool true))
          have FS := hide (fillL_succ (bs := ms) hk1)
          clear hk3 hk4 hlen
          generalize (fillL ms f k).getD k false = cb at *
          go_wp2
          go_roundw
          case rel => exact ⟨k + 1, by omega, by omega, by go_num, by rw [FS.out]; exact O5.out, F5.out⟩
          case measure => simp [intOf]; omega
        · obtain rfl : t = k := by omega
          have O5 := hide hk3
          have F5 := hide hk4
          clear hk3 hk4
          go_wp2
          go_roundw
          case rel => exact ⟨j + 1, by omega, by go_num, by rw [← FM.out]; exact O5.out, F5.out⟩
          case measure => simp [intOf]; omega
    · obtain rfl : j = bl.length := by omega
      have O5 := hide ho
      have F5 := hide hf
      rw [TA.out] at O5
      clear ho hf O F
      go_wp2
      go_ret
      exact ⟨G, L, rfl, by rw [hG]; exact O5.out, F5.out⟩

theorem met_none (p size : Int) (v : Value) (w : World) (h : p < 1 ∨ size < 0 ∨ 65536 < size) (p1 : -9223372036854775808 ≤ p) (p2 : p ≤ 9223372036854775807) (s1 : -9223372036854775808 ≤ size) (s2 : size ≤ 9223372036854775807) :
    Calls Tryd.prog 8 #[.int .i64 p, .int .i64 size, v] w fun e w' => e = .returned (.slice none 0 0) ∧ w' = w := by
  by_cases g1 : p < 1
  · clear h
    go_enter Tryd.func8, Tryd.ntmps8
    go_wp2
    go_ret
    exact ⟨rfl, rfl⟩
  · by_cases g2 : size < 0
    · clear h
      go_enter Tryd.func8, Tryd.ntmps8
      go_wp2
      go_ret
      exact ⟨rfl, rfl⟩
    · have g3 : 65536 < size := by omega
      clear h
      go_enter Tryd.func8, Tryd.ntmps8
      go_wp2
      go_ret
      exact ⟨rfl, rfl⟩
end Go.Proofs.YtckfmgopbfgdjaaDoor
