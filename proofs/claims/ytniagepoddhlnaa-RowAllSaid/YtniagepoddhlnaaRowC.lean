/- Set and New of package row, as contracts, and with them all five: what is asked of package row. -/
import Derived.Test.YtniagepoddhlnaaRowB
import Derived.Laws.CopyOwn
namespace Go.Proofs.Ytniagepoddhlnaa
open Go.RowKit

theorem infoOf {t : TypeId} {z : Value} {s b : Nat} (h : (Try.prog.info? t).map (fun i => (i.zero, i.size, i.bytes)) = some (some z, s, b)) : ∃ i, Try.prog.info? t = some i ∧ i.zero = some z ∧ i.size = s ∧ i.bytes = b := by
  cases e : Try.prog.info? t with
  | none => rw [e] at h; cases h
  | some i => rw [e] at h; simp at h; exact ⟨i, rfl, h.1, h.2.1, h.2.2⟩
theorem zeros_vals (n : Nat) : wvals (List.replicate n 0) = List.replicate n (.int .u64 0) := by unfold wvals; rw [List.map_replicate]; rfl
theorem toList_zeros (n : Nat) : (madeCells (Value.int .u64 0).cells (n * 1)).toList = wvals (List.replicate n 0) := by
  rw [Nat.mul_one, zeros_vals]
  exact toList_madeCells_one _ _

theorem neww_any (size : Int) (w : World) (hs : -9223372036854775808 ≤ size) (hs' : size ≤ 1073741824) :
    Calls Try.prog 19 #[.int .i64 size] w fun e w' => ∃ v, e = .returned v ∧ OwnW w' w.heap.size v (newW size) ∧ Below w.heap.size w w' := by
  by_cases h : size < 1
  · have e : newW size = [] := by unfold newW; rw [show ((size + 63) / 64).toNat = 0 by omega]; rfl
    rw [e]
    clear e
    go_enter Try.func19, Try.ntmps19
    go_wp2
    go_ret
    exact ⟨_, rfl, World.ownsRow_nil _ _ _ _, Below.refl _ _⟩
  · obtain ⟨i0, hi, hz0, hz1, hz2⟩ := infoOf infoU64
    have h1 : 1 ≤ size := by omega
    have hb : i0.bytes * ((size + 63) / 64).toNat ≤ 281474976710656 := by rw [hz2]; omega
    have hm : ((size + 63) / 64).toNat ≤ maxLen := by unfold maxLen; omega
    have fin : ∀ (v : Value) (w1 : World), w1.ownsRow w.heap.size 39 1 v ((size + 63) / 64).toNat (madeCells (Value.int .u64 0).cells (((size + 63) / 64).toNat * 1)).toList → w.grownBy w1 none → OwnW w1 w.heap.size v (newW size) ∧ Below w.heap.size w w1 := by
      intro v w1 hown hg
      refine ⟨?_, (Below.refl _ _).grown hg (Nat.le_refl _) (fun k hk => by cases hk)⟩
      rw [toList_zeros] at hown
      have e2 : (newW size).length = ((size + 63) / 64).toNat := by unfold newW; rw [List.length_replicate]
      unfold OwnW
      rw [e2]
      exact hown
    have FIN := hide fin
    clear fin
    have E := hide (show (size - 1) / 64 + 1 = (((size + 63) / 64).toNat : Int) by omega)
    go_enter Try.func19, Try.ntmps19
    go_wp2_with (at_make; refine wpList_make_full _ rfl _ _ 24 rfl w.heap.size 39 i0 (.int .u64 0) 1 Try.underlying24 hi hz0 hz1 _ _ _ _ ((size + 63) / 64).toNat rfl rfl E.out E.out hb hm (Nat.le_refl _) ?_; intro w1 hown hgrow)
    go_ret
    exact ⟨_, rfl, FIN.out _ _ hown hgrow⟩

/-- a block's cells as a row of new memory -/
theorem ownW_of_block {w : World} {base g n : Nat} {ws : List Nat} (hb : base ≤ g) (hg : w.heap[g]? = some (.cells (wvals ws).toArray 39 (0, 0))) (hn : ws.length = n) (hn1 : n ≤ maxLen) : OwnW w base (.slice (some ⟨g, 0, none⟩) n n) ws := by
  subst hn
  refine ⟨by rw [wvals_length, Nat.mul_one], .inr ⟨g, ws.length, (wvals ws).toArray, rfl, hb, hg, Nat.le_refl _, hn1, by simp [wvals_length], ?_⟩⟩
  show List.take (ws.length * 1) (wvals ws) = _
  exact List.take_of_length_le (by rw [wvals_length, Nat.mul_one]; exact Nat.le_refl _)
theorem block_of_own {w : World} {base g n : Nat} {xs : List Value} (h : w.ownsRow base 39 1 (.slice (some ⟨g, 0, none⟩) n n) n xs) : base ≤ g ∧ w.heap[g]? = some (.cells xs.toArray 39 (0, 0)) := by
  rcases h.2 with ⟨h', _⟩ | ⟨g', cap', cur, h', hb, hg, hnc, hcm, hcs, htake⟩
  · simp at h'
  · simp only [Value.slice.injEq, Option.some.injEq, Addr.mk.injEq, and_true, true_and] at h'
    obtain ⟨rfl, rfl⟩ := h'
    refine ⟨hb, ?_⟩
    rw [hg]
    have e : cur.toList = xs := by rw [← htake]; exact (List.take_of_length_le (by rw [Array.length_toList, hcs]; exact Nat.le_refl _)).symm
    rw [← e]
theorem splice_whole (xs ys : List Value) (h : ys.length = xs.length) : splice xs 0 ys = ys := by
  unfold splice
  rw [List.take_zero, List.nil_append, Nat.zero_add, h, List.drop_length, List.append_nil]
theorem OwnW.put {w : World} {base g cap : Nat} {ws : List Nat} {N : Nat} (h : OwnW w base (.slice (some ⟨g, 0, none⟩) N cap) ws) (hN : N = ws.length) (k x : Nat) :
    OwnW (w.setCell ⟨g, k, none⟩ (.int .u64 ((x : Nat) : Int))) base (.slice (some ⟨g, 0, none⟩) N cap) (ws.set k x) := by
  subst hN
  have := (World.ownsRow.stored h k (.int .u64 ((x : Nat) : Int))).1
  rw [wvals_set] at this
  unfold OwnW
  rw [List.length_set]
  exact this
theorem andNot_spelt (a b : Nat) (ha : a < 18446744073709551616) (hb : b < 18446744073709551616) : bits .andNot .u64 (a : Int) (b : Int) = ((a &&& notV b : Nat) : Int) := u64_andNot_nat a b ha hb

set_option maxHeartbeats 1000000 in
theorem setw_any (v : Value) (ws : List Nat) (f n : Int) (on : Bool) (w : World) (h : WordsAt w v ws) (hf : -9223372036854775808 ≤ f) (hf' : f ≤ 9223372036854775807) (hn : -9223372036854775808 ≤ n) (hn' : n ≤ 9223372036854775807) :
    Calls Try.prog 15 #[v, .int .i64 f, .int .i64 n, .bool on] w fun e w' => ∃ v', e = .returned v' ∧ OwnW w' w.heap.size v' (setW ws f n on) ∧ Below w.heap.size w w' := by
  obtain ⟨a, cap, rfl, hl, h64, hn0, hc⟩ := h
  obtain ⟨i0, hi, hz0, hz1, hz2⟩ := infoOf infoU64
  have hl0 : (0 : Int) ≤ (ws.length : Int) := by omega
  have hl1 : (ws.length : Int) ≤ 1099511627776 := by omega
  have hb8 : i0.bytes * ws.length ≤ 281474976710656 := by rw [hz2]; omega
  have hmx : ws.length ≤ maxLen := by unfold maxLen; omega
  have hsz : (Try.prog.info? 39).map (·.size) = some 1 := by rw [hi]; simp [hz1]
  have WI := hide (fun w => within_any a ws.length cap f n hl hf hf' hn hn' w)
  have EN := hide (set_lohi h64 f n on)
  obtain ⟨q1, q2⟩ := lo_hi ws.length f n
  rw [← EN.out]
  have A64 := hide h64
  have HC := hide hc
  generalize loV ws.length f n = lo at *
  generalize hiV ws.length f n = hi' at *
  clear hn0 h64 hc EN
  have q3 : (hi' : Int) ≤ 64 * (ws.length : Int) := by omega
  have q4 : (0 : Int) ≤ (lo : Int) := by omega
  have q5 : (lo : Int) ≤ (hi' : Int) := by omega
  have cp : ∀ w1, w1.ownsRow w.heap.size 39 1 (.slice (some ⟨w.heap.size, 0, none⟩) ws.length ws.length) ws.length (madeCells (Value.int .u64 0).cells (ws.length * 1)).toList → w.grownBy w1 none →
      w1.heap[w.heap.size]? = some (.cells (wvals (List.replicate ws.length 0)).toArray 39 (0, 0)) ∧ Below w.heap.size w w1 ∧
      (0 < (wvals ws).length → some (⟨w.heap.size, 0, none⟩ : Addr) = some ⟨w.heap.size, 0, none⟩ ∧ ∃ ad, a = some ad ∧ ∀ j v, (wvals ws)[j]? = some v → w1.cell? (ad.add j) = some v) := by
    intro w1 hown hgrow
    rw [toList_zeros] at hown
    have hB : Below w.heap.size w w1 := (Below.refl _ _).grown hgrow (Nat.le_refl _) (fun k hk => by cases hk)
    refine ⟨(block_of_own hown).2, hB, fun hpos => ⟨rfl, ?_⟩⟩
    rw [wvals_length] at hpos
    obtain ⟨b, o, e, _⟩ := HC.out 0 hpos
    refine ⟨⟨b, o, none⟩, e, fun j u hu => ?_⟩
    have hj : j < ws.length := by
      rcases Nat.lt_or_ge j ws.length with h | h
      · exact h
      · rw [List.getElem?_eq_none (by rw [wvals_length]; exact h)] at hu; cases hu
    obtain ⟨b', o', e', hcell⟩ := HC.out j hj
    obtain ⟨rfl, rfl⟩ : b = b' ∧ o = o' := by rw [e] at e'; cases e'; exact ⟨rfl, rfl⟩
    rw [wvals_get ws j hj] at hu
    rw [← Option.some.inj hu, Go.WideShapes.add_plain b o j]
    exact (hB.cell (World.block_lt_of_cell? _ _ hcell)).trans hcell
  have CP := hide cp
  have SP := hide (splice_whole (wvals (List.replicate ws.length 0)) (wvals ws) (by rw [wvals_length, wvals_length, List.length_replicate]))
  have hfit : 0 + (wvals ws).length ≤ (wvals (List.replicate ws.length 0)).length := by rw [wvals_length, wvals_length, List.length_replicate]; omega
  have hmin : (wvals ws).length = Nat.min ws.length ws.length := by rw [wvals_length]; exact (Nat.min_self _).symm
  have h1s := wvals_one ws
  clear cp
  go_enter Try.func15, Try.ntmps15
  go_wp2_with (first | (at_make; refine wpList_make_full _ rfl _ _ 24 rfl w.heap.size 39 i0 (.int .u64 0) 1 Try.underlying24 hi hz0 hz1 _ _ _ _ ws.length rfl rfl rfl rfl hb8 hmx (Nat.le_refl _) ?_; intro w1 hown hgrow; have CQ := hide (CP.out _ hown hgrow); clear hown hgrow) | (refine wpList_copy_splice rfl _ _ 24 24 rfl 39 Try.underlying24 hsz _ _ _ _ _ _ rfl rfl w.heap.size 0 (wvals (List.replicate ws.length 0)) 39 CQ.out.1 (wvals ws) hmin CQ.out.2.2 hfit h1s w.heap.size w CQ.out.2.1 (Nat.le_refl _) ?_; intro w2 hg2 hB2))
  have O1 := hide (ownW_of_block (w := w2) (base := w.heap.size) (g := w.heap.size) (ws := ws) (Nat.le_refl _) (by have := hg2.out; rw [SP.out] at this; exact this) rfl hmx)
  have B1 := hide hB2
  clear hg2 hB2 CQ CP SP hfit hmin h1s hsz hb8 hz2 hz1 hz0 hi
  go_wp2_with fail
  refine (WI.out _).mono ?_
  rintro e w' ⟨rfl, rfl⟩
  go_wp2
  go_loopw [10] (fun i w3 => ∃ j : Nat, lo ≤ j ∧ i = .int .i64 (j : Int) ∧ OwnW w3 w.heap.size (.slice (some ⟨w.heap.size, 0, none⟩) ws.length ws.length) (setV ws lo (min j hi' - lo) on) ∧ Below w.heap.size w w3) (fun i _ => (64 * ws.length - intOf i).toNat)
  case atStart => exact ⟨lo, Nat.le_refl _, rfl, by rw [Nat.min_eq_left q1, Nat.sub_self, set_none A64.out]; exact O1.out, B1.out⟩
  case round =>
    obtain ⟨j, hj, rfl, hO, hB⟩ := hrel
    have O2 := hide hO
    have B2 := hide hB
    clear hO hB
    by_cases h1 : j < hi'
    · have h2 : (j : Int) < (hi' : Int) := by omega
      rw [Nat.min_eq_left (show j ≤ hi' by omega)] at O2
      have S := hide (setV_word A64.out lo j hi' on hj h1 q2)
      have U := hide ((setV_64 A64.out lo (j - lo) on).getD (j / 64))
      have L := hide (setV_length ws lo (j - lo) on)
      have hcell : wr.cell? ⟨w.heap.size, j / 64, none⟩ = some (.int .u64 (((setV ws lo (j - lo) on).getD (j / 64) 0 : Nat) : Int)) := by
        have := World.ownsRow.cellAt (show wr.ownsRow w.heap.size 39 1 (.slice (some ⟨w.heap.size, 0, none⟩) (setV ws lo (j - lo) on).length ws.length) (setV ws lo (j - lo) on).length (wvals (setV ws lo (j - lo) on)) by have := O2.out; unfold OwnW at this; rw [setV_length] at this ⊢; exact this) (j / 64) (by rw [setV_length]; omega)
        rw [this, wvals_get _ _ (by rw [setV_length]; omega)]
      have hfz : wr.frozen? ⟨w.heap.size, j / 64, none⟩ = false := World.ownsRow.frozenAt (show wr.ownsRow w.heap.size 39 1 (.slice (some ⟨w.heap.size, 0, none⟩) (setV ws lo (j - lo) on).length ws.length) (setV ws lo (j - lo) on).length (wvals (setV ws lo (j - lo) on)) by have := O2.out; unfold OwnW at this; rw [setV_length] at this ⊢; exact this) (j / 64)
      have FL := hide (fun x => O2.out.put (by rw [setV_length]) (j / 64) x)
      have hm := and63_nat j
      have hor := or_spelt ((setV ws lo (j - lo) on).getD (j / 64) 0) (maskN (j % 64) (hi' - j)) U.out (maskN_lt _ _)
      have han := andNot_spelt ((setV ws lo (j - lo) on).getD (j / 64) 0) (maskN (j % 64) (hi' - j)) U.out (maskN_lt _ _)
      have hd : (((hi' - j : Nat) : Nat) : Int) = (hi' : Int) - (j : Int) := by omega
      have M := hide (show maskV ((j : Int) % 64) ((hi' : Int) - (j : Int)) = maskN (j % 64) (hi' - j) by rw [← hd, ← maskV_nat]; rfl)
      have N := hide (next_nat j (by omega))
      have GH := hide (next_gt j)
      clear hd h1 O1 B1 WI HC
      generalize (setV ws lo (j - lo) on).getD (j / 64) 0 = u at *
      go_wp2_with fail
      refine (mask_to _ _ (maskN (j % 64) (hi' - j)) (by exact M.out) _ (by omega) (by omega) (by omega) (by omega)).mono ?_
      rintro e w4 ⟨rfl, rfl⟩
      cases on with
      | true =>
        have S' := hide (show (setV ws lo (j - lo) true).set (j / 64) (u ||| maskN (j % 64) (hi' - j)) = setV ws lo (min (nextV j) hi' - lo) true from S.out)
        clear S han
        go_wp2_with fail
        refine (N.out _).mono ?_
        rintro e w5 ⟨rfl, rfl⟩
        go_wp2
        go_roundw
        case rel => exact ⟨nextV j, by have := GH.out; omega, rfl, by rw [← S'.out]; exact FL.out _, B2.out.setCell (Nat.le_refl _) _⟩
        case measure =>
          have := GH.out
          simp [intOf]; omega
      | false =>
        have S' := hide (show (setV ws lo (j - lo) false).set (j / 64) (u &&& notV (maskN (j % 64) (hi' - j))) = setV ws lo (min (nextV j) hi' - lo) false from S.out)
        clear S hor
        go_wp2_with fail
        refine (N.out _).mono ?_
        rintro e w5 ⟨rfl, rfl⟩
        go_wp2
        go_roundw
        case rel => exact ⟨nextV j, by have := GH.out; omega, rfl, by rw [← S'.out]; exact FL.out _, B2.out.setCell (Nat.le_refl _) _⟩
        case measure =>
          have := GH.out
          simp [intOf]; omega
    · have h2 : (hi' : Int) ≤ (j : Int) := by omega
      rw [Nat.min_eq_right (show hi' ≤ j by omega)] at O2
      clear h1
      go_wp2
      go_ret
      exact ⟨_, rfl, O2.out, B2.out⟩

/-- all that is asked of package row -/
theorem row_says : RowSays where
  new size w h1 h2 := (neww_any size w h1 h2).mono fun e w' ⟨v, he, ho, hb⟩ => ⟨v, he, ho.at (by intro u hu; unfold newW at hu; rw [List.eq_of_mem_replicate hu]; decide) (by unfold newW; rw [List.length_replicate]; omega), hb⟩
  has v ws i w h h1 h2 := (hasw_any v ws i w h h1 h2).mono fun e w' ⟨he, hw⟩ => ⟨he, by rw [hw]; exact Fresh.refl _⟩
  set v ws f n on w h h1 h2 h3 h4 := (setw_any v ws f n on w h h1 h2 h3 h4).mono fun e w' ⟨v', he, ho, hb⟩ => ⟨v', he, ho.at (setW_64 (by obtain ⟨_, _, _, _, h64, _⟩ := h; exact h64) f n on) (by rw [setW_length]; obtain ⟨_, _, _, hl, _⟩ := h; exact hl), hb⟩
  count v ws f n w h h1 h2 h3 h4 := (countw_any v ws f n w h h1 h2 h3 h4).mono fun e w' ⟨he, m, hw⟩ => ⟨he, by rw [hw]; exact Fresh.drewN _ _⟩
  first v ws s f w h h1 h2 h3 h4 := (firstw_any v ws s f w h h1 h2 h3 h4).mono fun e w' ⟨he, m, hw⟩ => ⟨he, by rw [hw]; exact Fresh.drewN _ _⟩
end Go.Proofs.Ytniagepoddhlnaa
