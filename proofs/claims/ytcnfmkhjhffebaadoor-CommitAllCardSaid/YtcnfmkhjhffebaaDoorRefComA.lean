/- What the document's own side answers of pages (hodmanref8.Count, Trim), as contracts. -/
import Derived.Test.YtcnfmkhjhffebaaDoorComMath
import Derived.Test.YtcnfmkhjhffebaaDoorComMore
import Derived.Test.YtcnfmkhjhffebaaDoorBoolIn
import Derived.Test.YtcnfmkhjhffebaaDoorBoolMade
import Derived.Test.YtcnfmkhjhffebaaDoorIntMem
import Derived.BigGuard
namespace Go.Proofs.YtcnfmkhjhffebaaDoor
open Go.RowKit

theorem rcnt_any (v : Value) (bs : List Bool) (n : Nat) (hn : cntL bs = n) (w : World) (h : BoolsAt w v bs) (hl : bs.length ≤ 1048576) :
    Calls Tryd.prog 21 #[v] w fun e w' => e = .returned (.int .i64 (n : Int)) ∧ w' = w := by
  subst hn
  obtain ⟨a, cap, rfl, hc⟩ := h
  have HC := hide hc
  have l0 : (0 : Int) ≤ (bs.length : Int) := by omega
  have l1 : (bs.length : Int) ≤ 1048576 := by omega
  have TL := hide (show cntL (bs.take bs.length) = cntL bs by rw [List.take_length])
  have TS := hide (cntL_take_succ bs)
  have LE := hide (fun j => show cntL (bs.take j) ≤ bs.length from Nat.le_trans (cntL_le _) (by rw [List.length_take]; omega))
  clear hc hl
  go_enter Tryd.func21, Tryd.ntmps21
  go_wp2
  go_loop [3, 4] (fun c i => ∃ j : Nat, j ≤ bs.length ∧ i = .int .i64 (j : Int) ∧ c = .int .i64 ((cntL (bs.take j) : Nat) : Int)) (fun _ i => (bs.length - intOf i).toNat)
  case atStart => exact ⟨0, Nat.zero_le _, rfl, rfl⟩
  case round =>
    obtain ⟨j, hj, rfl, rfl⟩ := hrel
    have j0 : (0 : Int) ≤ (j : Int) := by omega
    by_cases g : j < bs.length
    · have g' : (j : Int) < (bs.length : Int) := by omega
      obtain ⟨b, o, rfl, cl⟩ := HC.out j g
      have S := hide (TS.out j g)
      have L := LE.out j
      have c1 : ((cntL (bs.take j) : Nat) : Int) ≤ 1048576 := by omega
      have c0 : 0 ≤ ((cntL (bs.take j) : Nat) : Int) := by omega
      clear L
      generalize cntL (bs.take j) = q at *
      cases hb : bs.getD j false with
      | true =>
        rw [hb] at cl S
        clear hb
        go_wp2
        go_round
        case rel => exact ⟨j + 1, by omega, by go_num, by rw [S.out]; go_num⟩
        case measure => simp [intOf]; omega
      | false =>
        rw [hb] at cl S
        clear hb
        go_wp2
        go_round
        case rel => exact ⟨j + 1, by omega, by go_num, by rw [S.out]; go_num⟩
        case measure => simp [intOf]; omega
    · obtain rfl : j = bs.length := by omega
      go_wp2
      go_ret
      exact ⟨ret_int (by first | rfl | rw [TL.out]), rfl⟩
/-- a row that is told page by page -/
theorem row_step {n : Nat} (X : Nat → Bool) (k : Nat) (h : k < n) : (rowB n fun i => decide (i < k) && X i).set k (X k) = rowB n fun i => decide (i < k + 1) && X i := by
  rw [rowB_set _ _ _ h]
  refine rowB_congr fun i _ => ?_
  by_cases e : i = k
  · rw [if_pos e, e, decide_eq_true (show k < k + 1 by omega)]; rfl
  · rw [if_neg e, show decide (i < k + 1) = decide (i < k) from decide_eq_decide.2 (by omega)]
theorem row_end {n : Nat} (X : Nat → Bool) : (rowB n fun i => decide (i < n) && X i) = rowB n X := rowB_congr fun i hi => by rw [decide_eq_true hi]; rfl
theorem cntR_parts (p q : Nat → Bool) : ∀ n, cntR n p = cntR n (fun i => p i && q i) + cntR n (fun i => p i && !q i)
  | 0 => rfl
  | n + 1 => by
    rw [cntR_succ, cntR_succ, cntR_succ, cntR_parts p q n]
    cases p n <;> cases q n <;> simp <;> omega
theorem cntR_list (l : List Bool) : cntL l = cntR l.length (fun i => l.getD i false) := (congrArg cntL (rowB_same l)).symm
/-- those that go -/
def goneR (on met : List Bool) (j : Nat) : Nat := cntR j fun i => on.getD i false && !met.getD i false
theorem gone_all (on met : List Bool) : cntL on - cntL (trL on met) = goneR on met on.length := by
  have h := cntR_parts (fun i => on.getD i false) (fun i => met.getD i false) on.length
  have e : cntL (trL on met) = cntR on.length fun i => on.getD i false && met.getD i false := rfl
  rw [cntR_list on, e, h]
  unfold goneR
  omega
theorem gone_succ (on met : List Bool) (j : Nat) : goneR on met (j + 1) = goneR on met j + (if (on.getD j false && !met.getD j false) = true then 1 else 0) := cntR_succ _ _
theorem gone_le (on met : List Bool) : ∀ j, goneR on met j ≤ j
  | 0 => Nat.le_refl _
  | j + 1 => by have := gone_le on met j; rw [gone_succ]; split <;> omega

set_option maxRecDepth 100000 in
set_option maxHeartbeats 2000000 in
theorem rtrim_any (v1 v2 : Value) (on met : List Bool) (N n : Nat) (X : List Bool) (w : World) (h1 : BoolsIn w v1 on) (h2 : BoolsIn w v2 met) (hN : on.length = N) (hM : met.length = N) (hl : N ≤ 65536) (hX : trL on met = X) (hn : cntL on - cntL X = n) :
    Calls Tryd.prog 15 #[v1, v2] w fun e w' => ∃ g, e = .returned (.tuple #[.slice (some ⟨g, 0, none⟩) N N, .int .i64 (n : Int)]) ∧ OwnB w' w.heap.size (.slice (some ⟨g, 0, none⟩) N N) X ∧ Fresh w w' := by
  obtain ⟨a1, c1, rfl, hc1⟩ := h1.at
  obtain ⟨a2, c2, rfl, hc2⟩ := h2.at
  have A1 := hide hc1
  have A2 := hide hc2
  have GN := hide (show goneR on met N = n by rw [← hn, ← hX, gone_all, hN])
  have GS := hide (gone_succ on met)
  have GL := hide (gone_le on met)
  obtain ⟨F, hF⟩ : ∃ F : Nat → Bool, (fun i => on.getD i false && met.getD i false) = F := ⟨_, rfl⟩
  have FB := hide (fun i => show F i = (on.getD i false && met.getD i false) by rw [← hF])
  have XR := hide (show rowB N F = X by rw [← hX, ← hF, ← hN]; rfl)
  rw [hN, hM]
  have HN := hide hN
  have HM := hide hM
  have n0 : (0 : Int) ≤ (N : Int) := by omega
  have n1 : (N : Int) ≤ 65536 := by omega
  have hmk := fun w => bools_run N hl w
  have NL := hide hl
  clear hc1 hc2 h1 h2 hN hM hl hX hn hF
  go_enter Tryd.func15, Tryd.ntmps15
  go_wp2
  obtain ⟨w3, hw3⟩ : ∃ w3, w3 = w.alloc (.cells (madeCells #[.bool false] N) 4) := ⟨_, rfl⟩
  obtain ⟨G, hG⟩ : ∃ G, G = w.heap.size := ⟨_, rfl⟩
  have O3 := hide (show OwnB w3 w.heap.size (.slice (some ⟨G, 0, none⟩) N N) (List.replicate N false) by rw [hw3, hG]; exact bools_made N NL.out w)
  have K3 := hide (show Fresh w w3 from hw3 ▸ fresh_box _ _ _)
  have GB := hide (show w.heap.size ≤ G by omega)
  rw [← hw3, ← hG]
  clear hw3 hmk hG
  go_loopw [7, 8] (fun c av wr => ∃ j : Nat, j ≤ N ∧ av = .int .i64 (j : Int) ∧ c = .int .i64 ((goneR on met j : Nat) : Int) ∧ OwnB wr w.heap.size (.slice (some ⟨G, 0, none⟩) N N) (rowB N fun i => decide (i < j) && F i) ∧ Fresh w wr) (fun _ av _ => ((N : Int) - intOf av).toNat)
  case atStart => exact ⟨0, by omega, rfl, rfl, by rw [show (rowB N fun i => decide (i < 0) && F i) = List.replicate N false from rowB_none N]; exact O3.out, K3.out⟩
  case round =>
    obtain ⟨j, hj, rfl, rfl, hx, hk⟩ := hrel
    have XO := hide hx
    have K := hide hk
    have j0 : (0 : Int) ≤ (j : Int) := by omega
    by_cases g : j < N
    · have g' : (j : Int) < (N : Int) := by omega
      obtain ⟨b1, o1, rfl, d1⟩ := A1.out j (by rw [HN.out]; exact g)
      obtain ⟨b2, o2, rfl, d2⟩ := A2.out j (by rw [HM.out]; exact g)
      have e1 := (hk.cell (World.block_lt_of_cell? _ _ d1)).trans d1
      have e2 := (hk.cell (World.block_lt_of_cell? _ _ d2)).trans d2
      have q1 := World.block_lt_of_cell? _ _ d1
      have q2 := World.block_lt_of_cell? _ _ d2
      have ne1 : ¬ G = b1 := by have := GB.out; simp only at q1; omega
      have ne2 : ¬ G = b2 := by have := GB.out; simp only at q2; omega
      have lenx := (rowB_length N fun i => decide (i < j) && F i).symm
      have FZ := hx.free lenx j
      have CE := hx.cell lenx j g
      have PU := hide (hx.put lenx j (F j))
      have ST := hide (row_step F j g)
      have FK := hide (fresh_set hk GB.out j (.bool (F j)))
      have CN := hide (fun b => (World.cell?_setCell_same wr ⟨G, j, none⟩ (.bool b) CE))
      have S := hide (GS.out j)
      have FJ := FB.out j
      have p1 : ((goneR on met j : Nat) : Int) ≤ 65536 := by have := GL.out j; omega
      have p0 : (0 : Int) ≤ ((goneR on met j : Nat) : Int) := by omega
      generalize (rowB N fun i => decide (i < j) && F i).getD j false = old at CE
      generalize on.getD j false = x at *
      generalize met.getD j false = y at *
      generalize F j = z at *
      generalize goneR on met j = q at *
      subst FJ
      clear hx hk d1 d2 q1 q2 lenx
      cases x <;> cases y <;>
      · go_wp2
        go_roundw
        case rel => exact ⟨j + 1, by omega, by go_num, by rw [S.out]; go_num, by rw [← ST.out]; exact PU.out, FK.out⟩
        case measure => simp [intOf]; omega
    · obtain rfl : N = j := by omega
      have XF := hide (show (rowB N fun i => decide (i < N) && F i) = X by rw [row_end, XR.out])
      clear hx hk
      rw [GN.out]
      go_wp2
      go_ret2
      exact ⟨G, rfl, by rw [← XF.out]; exact XO.out, K.out⟩
end Go.Proofs.YtcnfmkhjhffebaaDoor
