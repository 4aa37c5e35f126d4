/- The document's own Set of a tree (hodmanref3's SetTree), as a contract. -/
import Derived.Test.YtpkcihfldmgehaaRefTreeC
import Derived.Test.YtpkcihfldmgehaaTreeD
namespace Go.Proofs.Ytpkcihfldmgehaa
open Go.RowKit

/-- the worlds ahead of a call: the tree's own block, the result's -/
theorem set_start' (w : World) (c : Array Value) : ∃ W1, W1 = (w.alloc (.cells c 45)).alloc (.cells #[.int .i64 0, .slice none 0 0] 45) ∧ Fresh w W1 ∧ W1.heap.size = w.heap.size + 2 ∧ W1.heap[w.heap.size]? = some (.cells c 45 (0, 0)) ∧ W1.heap[w.heap.size + 1]? = some (.cells #[.int .i64 0, .slice none 0 0] 45 (0, 0)) := by
  refine ⟨_, rfl, fresh_more (fresh_box w _ _) _ _, by simp, ?_, ?_⟩
  · rw [(fresh_box (w.alloc (.cells c 45)) #[.int .i64 0, .slice none 0 0] 45).block w.heap.size (by simp)]
    exact heap_alloc_new w _
  · have := heap_alloc_new (w.alloc (.cells c 45)) (.cells #[.int .i64 0, .slice none 0 0] 45 (0, 0))
    rw [show (w.alloc (.cells c 45)).heap.size = w.heap.size + 1 by simp] at this
    exact this
/-- bits, set as far as j -/
def Puts (n : Nat) (ws us : List Nat) (j : Nat) (bs : List Bool) : Prop := bs.length = n ∧ ∀ t, t < n → bs.getD t false = if t < j then bitV us t else bitV ws t
theorem puts_start (n : Nat) (ws us : List Nat) : Puts n ws us 0 (bitsL n ws) := ⟨bitsL_length n ws, fun t ht => by rw [if_neg (by omega), bitsL_get n ws t ht]⟩
theorem puts_on {n : Nat} {ws us : List Nat} {j : Nat} {bs : List Bool} (h : Puts n ws us j bs) (b : Bool) (hb : bitV us j = b) : Puts n ws us (j + 1) (bs.set j b) := by
  refine ⟨by rw [List.length_set]; exact h.1, fun t ht => ?_⟩
  by_cases e : t = j
  · subst e
    rw [if_pos (by omega), List.getD_eq_getElem?_getD, List.getElem?_set_self (by rw [h.1]; exact ht), hb]; rfl
  · rw [List.getD_eq_getElem?_getD, List.getElem?_set_ne (fun e' => e e'.symm), ← List.getD_eq_getElem?_getD, h.2 t ht]
    by_cases h2 : t < j
    · rw [if_pos h2, if_pos (by omega)]
    · rw [if_neg h2, if_neg (by omega)]
theorem puts_off {n : Nat} {ws us : List Nat} {j : Nat} {bs : List Bool} (h : Puts n ws us j bs) (hb : bitV us j = bitV ws j) : Puts n ws us (j + 1) bs := by
  refine ⟨h.1, fun t ht => ?_⟩
  rw [h.2 t ht]
  by_cases h2 : t < j
  · rw [if_pos h2, if_pos (by omega)]
  · rw [if_neg h2]
    by_cases e : t = j
    · subst e; rw [if_pos (by omega), hb]
    · rw [if_neg (by omega)]
theorem puts_end {n : Nat} {ws us : List Nat} {bs : List Bool} (h : Puts n ws us n bs) (hl : Lev n us) : packV n (fun i => bs.getD i false) = us :=
  lev_pack_eq hl fun i hi => by rw [h.2 i hi, if_pos hi]
theorem setT_bit {n : Nat} {ws : List Nat} (h : Lev n ws) (f m : Int) (on : Bool) (i : Nat) (hi : i < n) : bitV (setT n ws f m on) i = if 0 ≤ f ∧ 0 ≤ m ∧ f ≤ (i : Int) ∧ (i : Int) - f < m then on else bitV ws i := by
  by_cases hc : f < 0 ∨ m < 0
  · rw [if_neg (by omega)]
    unfold setT
    rw [if_pos hc]
  · obtain ⟨F, rfl⟩ : ∃ F : Nat, f = F := ⟨f.toNat, by omega⟩
    obtain ⟨M, rfl⟩ : ∃ M : Nat, m = M := ⟨m.toNat, by omega⟩
    rw [bit_setT h F M on i hi]
    by_cases h2 : F ≤ i ∧ i < F + M
    · rw [if_pos h2, if_pos (by omega)]
    · rw [if_neg h2, if_neg (by omega)]

set_option maxHeartbeats 2000000 in
theorem rtset_any (v : Value) (n : Nat) (ws : List Nat) (f m : Int) (on : Bool) (w : World) (h : TreeAt w v n ws) (hf' : f ≤ 9223372036854775807) (hm' : m ≤ 9223372036854775807) :
    Calls Try.prog 28 #[v, .int .i64 f, .int .i64 m, .bool on] w fun e w' => ∃ v', e = .returned v' ∧ TreeNew w.heap.size w' v' n (setT n ws f m on) ∧ Fresh w w' := by
  have T := hide h
  obtain ⟨n1, n2, hlev, a, cap, rfl, hlv⟩ := h
  have q1 : (1 : Int) ≤ (n : Int) := by omega
  have q2 : (n : Int) ≤ 65536 := by omega
  obtain ⟨W1, hW1, FW, SW, BX, RX⟩ := set_start' w #[.int .i64 (n : Int), .slice a (nLev n) cap]
  have BT := hide (tbits_any _ n ws W1 (T.out.fresh FW))
  have HW := hide hW1
  have FWH := hide FW
  have bx0 := cell_block BX 0 _ rfl
  have bx1 := cell_block BX 1 _ rfl
  have BXH := hide BX
  have RXH := hide RX
  have SB := hide (fun i hi => setT_bit hlev f m on i hi)
  have LU := hide (lev_setT hlev f m on)
  generalize hUS : setT n ws f m on = us at *
  clear hlv hlev hW1 FW BX RX T hUS
  generalize nLev n = N at *
  go_enter Try.func28, Try.ntmps28
  go_wp2_with fail
  rw [← HW.out]
  refine BT.out.mono ?_
  rintro e w1 ⟨g, c, rfl, ho, hf1⟩
  have OB := hide ho
  have F1 := hide hf1
  have GB := hide (show W1.heap.size ≤ g from (World.ownsRow.lt ho g (by simp [Value.ownBlock])).1)
  clear ho hf1 BT
  go_wp2
  go_loopw [10] (fun i wr => ∃ (j : Nat) (bs : List Bool), j ≤ n ∧ i = .int .i64 (j : Int) ∧ OwnB wr W1.heap.size (.slice (some ⟨g, 0, none⟩) n c) bs ∧ Puts n ws us j bs ∧ Fresh W1 wr) (fun i _ => (n - intOf i).toNat)
  case atStart => exact ⟨0, _, Nat.zero_le _, rfl, OB.out, puts_start n ws us, F1.out⟩
  case round =>
    obtain ⟨j, bs, hj, rfl, hO, hP, hF⟩ := hrel
    have OO := hide hO
    have PP := hide hP
    have FF := hide hF
    have bl := hide hP.1
    clear OB F1
    rcases Nat.lt_or_ge j n with hjn | hjn
    · have j1 : (j : Int) < (n : Int) := by omega
      have cb := hO.cell hP.1.symm j hjn
      have fb := hO.free hP.1.symm j
      have PB := hide (fun b => OO.out.put bl.out.symm j b)
      have FP := hide (fun b => FF.out.setCell (p := ⟨g, j, none⟩) GB.out (.bool b))
      have B := hide (SB.out j hjn)
      clear hO hP hF
      generalize bs.getD j false = old at *
      by_cases c1 : 0 ≤ f
      · by_cases c2 : 0 ≤ m
        · by_cases c3 : f ≤ (j : Int)
          · by_cases c4 : (j : Int) - f < m
            · have NX := hide (puts_on PP.out on (by rw [B.out, if_pos ⟨c1, c2, c3, c4⟩]))
              go_wp2
              go_roundw
              case rel => exact ⟨j + 1, _, by omega, by go_num, PB.out _, NX.out, FP.out _⟩
              case measure => simp [intOf]; omega
            · have NX := hide (puts_off PP.out (by rw [B.out, if_neg (by omega)]))
              have c4' : m ≤ (j : Int) - f := by omega
              clear c4
              go_wp2
              go_roundw
              case rel => exact ⟨j + 1, bs, by omega, by go_num, OO.out, NX.out, FF.out⟩
              case measure => simp [intOf]; omega
          · have NX := hide (puts_off PP.out (by rw [B.out, if_neg (by omega)]))
            have c3' : (j : Int) < f := by omega
            clear c3
            go_wp2
            go_roundw
            case rel => exact ⟨j + 1, bs, by omega, by go_num, OO.out, NX.out, FF.out⟩
            case measure => simp [intOf]; omega
        · have NX := hide (puts_off PP.out (by rw [B.out, if_neg (by omega)]))
          have c2' : m < 0 := by omega
          clear c2
          go_wp2
          go_roundw
          case rel => exact ⟨j + 1, bs, by omega, by go_num, OO.out, NX.out, FF.out⟩
          case measure => simp [intOf]; omega
      · have NX := hide (puts_off PP.out (by rw [B.out, if_neg (by omega)]))
        have c1' : f < 0 := by omega
        clear c1
        go_wp2
        go_roundw
        case rel => exact ⟨j + 1, bs, by omega, by go_num, OO.out, NX.out, FF.out⟩
        case measure => simp [intOf]; omega
    · obtain rfl : j = n := by omega
      have MD := hide (made_nat j (.slice (some ⟨g, 0, none⟩) j c) bs wr (by have := hO.at; exact this) hP.1 n1 n2)
      have EQ := hide (puts_end hP LU.out)
      have hbx : wr.heap[w.heap.size]? = some (.cells #[.int .i64 (j : Int), .slice a N cap] 45 (0, 0)) := by rw [hF.block w.heap.size (by omega)]; exact BXH.out
      have hrx : wr.heap[w.heap.size + 1]? = some (.cells #[.int .i64 0, .slice none 0 0] 45 (0, 0)) := by rw [hF.block (w.heap.size + 1) (by omega)]; exact RXH.out
      have b0 := cell_block hbx 0 _ rfl
      have HRX := hide hrx
      have SZ := hide hF.size
      have FWR := hide (show Fresh w wr from FWH.out.trans hF)
      clear hO hP hF hbx hrx
      go_wp2_with fail
      refine MD.out.mono ?_
      rintro e w2 ⟨v2, rfl, t2, f2⟩
      rw [EQ.out] at t2
      obtain ⟨_, _, _, a2, c2, rfl, _⟩ := t2.at
      have rx2 : w2.heap[w.heap.size + 1]? = some (.cells #[.int .i64 0, .slice none 0 0] 45 (0, 0)) := by rw [f2.block (w.heap.size + 1) (by have := SZ.out; omega)]; exact HRX.out
      have r0 := cell_block rx2 0 _ rfl
      have r1 := cell_block rx2 1 _ rfl
      have f0 := free_block rx2 0
      have f1 := free_block rx2 1
      have TS := hide (fun x y => (t2.store (T := w.heap.size + 1) (by have := SZ.out; omega) x y).mono FWR.out.size)
      have FS := hide (fun x y => ((FWR.out.trans f2).setCell (p := ⟨w.heap.size + 1, 0, none⟩) (show w.heap.size ≤ w.heap.size + 1 by omega) x).setCell (p := ⟨w.heap.size + 1, 1, none⟩) (show w.heap.size ≤ w.heap.size + 1 by omega) y)
      have W2 := hide (fun x y => two_cells rx2 x y)
      clear rx2 t2 f2
      go_wp2
      have W3 := hide (W2.out (.int .i64 (j : Int)) (.slice a2 (nLev j) c2))
      have T3 := hide (TS.out (.int .i64 (j : Int)) (.slice a2 (nLev j) c2))
      have F3 := hide (FS.out (.int .i64 (j : Int)) (.slice a2 (nLev j) c2))
      clear W2 TS FS r0 r1 f0 f1
      generalize World.setCell _ ⟨w.heap.size + 1, 1, none⟩ _ = W at W3 T3 F3 ⊢
      have h0 := cell_block W3.out 0 _ rfl
      have h1 := cell_block W3.out 1 _ rfl
      refine bodyPost_ret (by simp [results, Try.results28, go_sem, h0, h1]; try rfl) rfl ?_
      exact ⟨_, rfl, T3.out, F3.out⟩
end Go.Proofs.Ytpkcihfldmgehaa
