/- What the program's package commit writes: a word's bits into pages (spread), and behind numbers (add), as contracts. Condition of add: the library's table lies in its variable. -/
import Derived.Test.YtcnfmkhjhffebaaDoorComMath
import Derived.Test.YtcnfmkhjhffebaaDoorTabOne
import Derived.Test.YtcnfmkhjhffebaaDoorIntMem
import Derived.Test.YtcnfmkhjhffebaaDoorBoolMade
import Derived.Maps.AppendAt
namespace Go.Proofs.YtcnfmkhjhffebaaDoor
open Go.RowKit

set_option maxHeartbeats 400000 in
theorem spread_any (g cap N base A U : Nat) (p q : Nat → Bool) (w : World) (ho : OwnB w base (.slice (some ⟨g, 0, none⟩) N cap) (rowB N p)) (hU : wordB q 64 = U) (hN : N ≤ 1048576) (hA : A ≤ 1099511627776) :
    Calls Tryd.prog 20 #[.slice (some ⟨g, 0, none⟩) N cap, .int .i64 (A : Int), .int .u64 (U : Int)] w fun e w' => e = .returned (.tuple #[]) ∧ OwnB w' base (.slice (some ⟨g, 0, none⟩) N cap) (rowB N (sprB p q A 64)) ∧ w.grownBy w' (some g) := by
  have l0 : (0 : Int) ≤ (N : Int) := by omega
  have l1 : (N : Int) ≤ 1048576 := by omega
  have a0 : (0 : Int) ≤ (A : Int) := by omega
  have a1 : (A : Int) ≤ 1099511627776 := by omega
  have u1 : U < 18446744073709551616 := hU ▸ wordB_64 q
  have u0 : (0 : Int) ≤ (U : Int) := by omega
  have u2 : (U : Int) < 18446744073709551616 := by omega
  have BIT := hide (fun k (hk : k < 64) => show (bits .and .u64 ((U : Int) / 2 ^ k) 1 == 1) = q k by
    rw [bit_spelt U k u1, ← hU, wordB_bit, decide_eq_true hk, Bool.true_and]
    cases q k <;> rfl)
  have O := hide ho
  clear ho hU hN hA u1
  go_enter Tryd.func20, Tryd.ntmps20
  go_wp2
  go_loopw [6] (fun i wr => ∃ k : Nat, k ≤ 64 ∧ i = .int .i64 ((A + k : Nat) : Int) ∧ OwnB wr base (.slice (some ⟨g, 0, none⟩) N cap) (rowB N (sprB p q A k)) ∧ w.grownBy wr (some g)) (fun i _ => ((A : Int) + 64 - intOf i).toNat)
  case atStart => exact ⟨0, by omega, rfl, by rw [sprB_none]; exact O.out, grown_fresh (Fresh.refl _) _⟩
  case round =>
    obtain ⟨k, hk, rfl, hr, hg⟩ := hrel
    obtain ⟨I, hI⟩ : ∃ I : Nat, A + k = I := ⟨_, rfl⟩
    rw [hI]
    have i0 : (0 : Int) ≤ (I : Int) := by omega
    have i1 : (I : Int) ≤ 1099511627840 := by omega
    have ik : (I : Int) - (A : Int) = (k : Int) := by omega
    have k0 : (0 : Int) ≤ (k : Int) := by omega
    have R := hide hr
    have GR := hide hg
    by_cases g' : k < 64 ∧ I < N
    · have g1 : (I : Int) < min ((A : Int) + 64) (N : Int) := by omega
      have g2 : (k : Int) < 64 := by omega
      have g3 : (I : Int) < (N : Int) := by omega
      have BK := BIT.out k g'.1
      generalize hqb : q k = qb at BK
      have ST := hide (spr_step p q A k (by omega : A + k < N))
      rw [hqb, hI] at ST
      have FZ := hr.free (rowB_length _ _).symm I
      have CE := hr.cell (rowB_length _ _).symm I g'.2
      generalize (rowB N (sprB p q A k)).getD I false = old at CE
      have PU := hide (hr.put (rowB_length _ _).symm I qb)
      have PG := hide (hg.trans (grown_set wr g I (.bool qb)))
      have II := hide hI
      have GK := hide (show k + 1 ≤ 64 by omega)
      clear hr hg g' hI hk hqb
      go_wp2
      go_roundw
      case rel => exact ⟨k + 1, GK.out, by have := II.out; go_num, by rw [← ST.out]; exact PU.out, PG.out⟩
      case measure => simp [intOf]; omega
    · have g1 : ¬ ((I : Int) < min ((A : Int) + 64) (N : Int)) := by omega
      have E := hide (spr_end (n := N) p q A k hk (by omega))
      clear hI g' hr hg
      go_wp2
      refine bodyPost_end (results_none rfl _ _ _) rfl ?_
      exact ⟨rfl, by rw [← E.out]; exact R.out, GR.out⟩

/-- where a row that grew lies -/
theorem grown_loc {w w0 w1 w2 : World} {a b c : Option Nat} (h0 : w.grownBy w0 a) (l1 : b = a ∨ ∃ i, b = some i ∧ w.heap.size ≤ i) (h01 : Fresh w0 w1) (h2 : w1.grownBy w2 b) (l2 : c = b ∨ c = some w1.heap.size) :
    w.grownBy w2 a ∧ (c = a ∨ ∃ i, c = some i ∧ w.heap.size ≤ i) := by
  have h1 := h0.trans (grown_fresh h01 a)
  refine ⟨⟨h2.os.trans h1.os, h2.tape.trans h1.tape, h2.output.trans h1.output, Nat.le_trans h1.size h2.size, fun k hk hne => ?_⟩, ?_⟩
  · rw [h2.block k (Nat.lt_of_lt_of_le hk h1.size) (fun e => ?_), h1.block k hk hne]
    rcases l1 with rfl | ⟨i, rfl, hi⟩
    · exact hne e
    · cases e; omega
  · rcases l2 with rfl | rfl
    · exact l1
    · exact .inr ⟨_, rfl, h1.size⟩
set_option maxHeartbeats 1000000 in
theorem add_any (lv : Value) (l : List Nat) (A U : Nat) (base : Nat) (W0 w : World) (ho : OwnI w base lv l) (hU : U < 18446744073709551616) (hA : A ≤ 1099511627776) (hl : l.length ≤ 1048576) (hW : W0.heap.size ≤ base) (hb : base ≤ w.heap.size) (hf : Fresh W0 w) (hT : Tab W0) :
    Calls Tryd.prog 19 #[lv, .int .i64 (A : Int), .int .u64 (U : Int)] w fun e w' => ∃ v, e = .returned v ∧ OwnI w' base v (l ++ (onesL U).map (fun j => A + j)) ∧ w.grownBy w' lv.ownBlock ∧ Fresh W0 w' := by
  obtain ⟨i0, hi, hz0, hz1, hz2⟩ := infoOf infoInts
  have a0 : (0 : Int) ≤ (A : Int) := by omega
  have a1 : (A : Int) ≤ 1099511627776 := by omega
  have HT := hide hT
  have HW := hide hW
  have HB := hide hb
  have HL := hide hl
  have O := hide ho
  have F := hide hf
  have START := hide hU
  have LEN := hide (ones_le U)
  clear hT hW hb hl ho hf hU hA
  go_enter Tryd.func19, Tryd.ntmps19
  go_wp2
  go_loopw [0, 2] (fun v uu wr => ∃ (front : List Nat) (u : Nat), uu = .int .u64 (u : Int) ∧ u < 18446744073709551616 ∧ onesL U = front ++ onesL u ∧ OwnI wr base v (l ++ front.map (fun j => A + j)) ∧ w.grownBy wr lv.ownBlock ∧ (v.ownBlock = lv.ownBlock ∨ ∃ i, v.ownBlock = some i ∧ w.heap.size ≤ i) ∧ Fresh W0 wr) (fun _ uu _ => (intOf uu).toNat)
  case atStart =>
    exact ⟨[], U, rfl, START.out, rfl, by simpa using O.out, grown_fresh (Fresh.refl _) _, .inl rfl, F.out⟩
  case round =>
    obtain ⟨front, u, rfl, hu, hs, hr, hg, hloc, hfr⟩ := hrel
    have R := hide hr
    have GR := hide hg
    have LOC := hide hloc
    have FR := hide hfr
    have UL := hide hu
    have SP := hide hs
    have u0 : (0 : Int) ≤ (u : Int) := by omega
    have u2 : (u : Int) < 18446744073709551616 := by omega
    clear hr hg hloc hfr hs
    by_cases g : u = 0
    · subst g
      have FIN := hide (show onesL U = front by rw [SP.out, ones_none, List.append_nil])
      clear SP
      go_wp2
      go_ret
      exact ⟨_, rfl, by rw [FIN.out]; exact R.out, GR.out, FR.out⟩
    · have gu : (1 : Int) ≤ (u : Int) := by omega
      have gn : ((u : Int) == 0) = false := by rw [beq_eq_false_iff_ne]; omega
      obtain ⟨low, hk⟩ := ones_low g hu
      have ww : IntKind.u64.wrap ((u : Int) - 1) = (u : Int) - 1 := by rw [IntKind.wrap_u64]; omega
      have AND : bits .and .u64 (u : Int) ((u : Int) - 1) = ((u &&& (u - 1) : Nat) : Int) := by
        rw [show (u : Int) - 1 = ((u - 1 : Nat) : Int) by omega]; exact and_spelt _ _ hu (by omega)
      have UN := hide (show u &&& (u - 1) < u by
        have : u &&& (u - 1) ≤ u - 1 := Nat.and_le_right
        omega)
      generalize u &&& (u - 1) = nx at AND UN low
      have TZ := hide (fun w1 (h : Tab w1) => Tryd.bits_TrailingZeros64 u hu w1 (fun _ => h))
      generalize Lib.ctz 64 u = k at TZ low hk
      have k0 : (0 : Int) ≤ (k : Int) := by omega
      have k1 : (k : Int) < 64 := by omega
      have NEXT := hide (show onesL U = (front ++ [k]) ++ onesL nx by rw [SP.out, low]; simp)
      have FL := hide (show front.length ≤ 64 by
        have e := congrArg List.length SP.out
        have := LEN.out
        unfold onesV at this
        rw [e, List.length_append] at this
        omega)
      have NXL := hide (show (l ++ front.map (fun j => A + j)) ++ [A + k] = l ++ (front ++ [k]).map (fun j => A + j) by simp)
      have LLEN := hide (show (l ++ front.map (fun j => A + j)).length ≤ 1048640 by rw [List.length_append, List.length_map]; have := FL.out; have := HL.out; omega)
      generalize l ++ front.map (fun j => A + j) = ls at R NXL LLEN
      have m1 := hide (show ls.length + 1 ≤ maxLen by have := LLEN.out; unfold maxLen; omega)
      have m2 := hide (show (ls.length + 1) * 8 ≤ 140737488355328 by have := LLEN.out; omega)
      have TB := hide (HT.out.below FR.out)
      clear g hu hk low u2
      go_wp2_with fail
      refine (TZ.out _ TB.out).mono ?_
      rintro e w1 ⟨rfl, rfl⟩
      obtain ⟨oa, oc, rfl⟩ := R.out.shape
      have m3 := hide (show base ≤ w1.heap.size from Nat.le_trans HB.out GR.out.size)
      go_wp2_with (at_builtin; refine wpList_append_own_at _ rfl _ _ 27 rfl base 3 i0 (.int .i64 0) 1 8 Tryd.underlying27 hi hz0 hz1 hz2 rfl (by decide) _ _ _ rfl (R.out.fresh (fresh_box _ _ _)) ⟨_, 0, none⟩ 1 1 [.int .i64 ((A : Int) + (k : Int))] rfl rfl (cell_one_new _ _ _) (by intro x hx; simp at hx; subst hx; rfl) m1.out m2.out (by have := m3.out; simp; omega) ?_; intro v1 w3 hown hgrow _ hloc)
      have O3 := hide (ownI_push (x := A + k) (l := ls) hown)
      have G1 := hide (grown_loc GR.out LOC.out (fresh_box _ _ _) hgrow hloc)
      have F3 := hide (show Fresh W0 w3 from (fresh_more FR.out _ _).grown hgrow (fresh_more FR.out _ _).size fun i hi => Nat.le_trans HW.out (R.out.block i hi))
      rw [NXL.out] at O3
      have NN := hide (show (nx : Int) < (u : Int) by have := UN.out; omega)
      clear hown hgrow hloc
      go_wp2
      go_roundw
      case rel => exact ⟨front ++ [k], nx, rfl, by have := UN.out; have := UL.out; omega, NEXT.out, O3.out, G1.out.1, G1.out.2, F3.out⟩
      case measure => have := NN.out; simp [intOf]; omega
end Go.Proofs.YtcnfmkhjhffebaaDoor
