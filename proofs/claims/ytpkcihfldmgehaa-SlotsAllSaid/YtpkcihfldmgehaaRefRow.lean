/- What the document's own answers to row are (hodmanref3's NewRow, Has, SetRow, Count, FirstZero, SameRow), as contracts. -/
import Derived.Test.YtpkcihfldmgehaaRowMem
import Derived.Test.YtpkcihfldmgehaaRef3
import Derived.Deep.QuietTactic
import Derived.BigQuiet
namespace Go.Proofs.Ytpkcihfldmgehaa
open Go.RowKit

theorem rhas_any (v : Value) (ws : List Nat) (i : Int) (w : World) (h : WordsAt w v ws) (hi : -9223372036854775808 ≤ i) (hi' : i ≤ 9223372036854775807) :
    Calls Try.prog 42 #[v, .int .i64 i] w fun e w' => e = .returned (.bool (hasW ws i)) ∧ w' = w := by
  obtain ⟨a, cap, rfl, hl, h64, hn0, hc⟩ := h
  by_cases h0 : i < 0
  · have e : hasW ws i = false := by unfold hasW; rw [decide_eq_false (by omega)]; rfl
    rw [e]
    clear e hc hn0
    go_enter Try.func42, Try.ntmps42
    go_wp2
    go_ret
    exact ⟨rfl, rfl⟩
  obtain ⟨k, rfl⟩ : ∃ k : Nat, i = k := ⟨i.toNat, by omega⟩
  have e : hasW ws k = bitV ws k := by unfold hasW; rw [decide_eq_true (by omega), Int.toNat_natCast]; rfl
  rw [e]
  clear e
  have hl0 : (0 : Int) ≤ (ws.length : Int) := by omega
  have hl1 : (ws.length : Int) ≤ 1099511627776 := by omega
  by_cases h1 : 64 * ws.length ≤ k
  · rw [bitV_beyond ws k h1]
    have h2 : 64 * (ws.length : Int) ≤ (k : Int) := by omega
    clear hc h1 h0 hl h64 hn0
    generalize hL : (ws.length : Int) = L at *
    generalize hN : ws.length = N at *
    go_enter Try.func42, Try.ntmps42
    go_wp2
    go_ret
    exact ⟨rfl, rfl⟩
  · have h2 : (k : Int) < 64 * (ws.length : Int) := by omega
    obtain ⟨b, o, rfl, hcell⟩ := hc (k / 64) (by omega)
    clear hn0
    have U := hide (h64.getD (k / 64))
    have e : bitV ws k = (ws.getD (k / 64) 0).testBit (k % 64) := rfl
    rw [e]
    clear e hc h0
    generalize ws.getD (k / 64) 0 = u at *
    go_enter Try.func42, Try.ntmps42
    go_wp2_with fail
    refine (bit_to _ _ u (k % 64) rfl (by omega) U.out (by omega) _).mono ?_
    rintro e w' ⟨rfl, rfl⟩
    go_wp2
    go_ret
    exact ⟨rfl, rfl⟩
theorem rhas_nat (v : Value) (ws : List Nat) (k : Nat) (w : World) (h : WordsAt w v ws) (hi' : (k : Int) ≤ 9223372036854775807) :
    Calls Try.prog 42 #[v, .int .i64 (k : Int)] w fun e w' => e = .returned (.bool (bitV ws k)) ∧ w' = w := by
  have := rhas_any v ws k w h (by omega) hi'
  have e : hasW ws k = bitV ws k := by unfold hasW; rw [decide_eq_true (by omega), Int.toNat_natCast]; rfl
  rwa [e] at this

/-! Count -/
theorem cnt_end (ws : List Nat) (f n j : Nat) (h1 : j = f ∨ j ≤ min (f + n) (64 * ws.length)) (hf : f ≤ j) (h2 : ¬ (j < 64 * ws.length ∧ j - f < n)) : cnt (bitV ws) f j = cntV ws f n := by
  unfold cntV
  by_cases h : j = min (f + n) (64 * ws.length)
  · rw [h]
  · have e : j = f := by omega
    rw [cnt_self _ _ _ (by omega), cnt_self _ _ _ (by omega)]

/-! FirstZero -/
def foundV (o : Option Nat) : Ending := .returned (.tuple #[.int .i64 ((o.getD 0 : Nat) : Int), .bool o.isSome])

/-! SameRow -/
theorem differ_at {xs ys : List Nat} {k : Nat} (h : xs.getD k 0 ≠ ys.getD k 0) : xs ≠ ys := fun e => h (by rw [e])
theorem same_all {xs ys : List Nat} (hl : xs.length = ys.length) (h : ∀ k, k < xs.length → xs.getD k 0 = ys.getD k 0) : xs = ys := by
  apply List.ext_getElem hl
  intro k h1 h2
  have := h k h1
  rw [List.getD_eq_getElem?_getD, List.getElem?_eq_getElem h1, List.getD_eq_getElem?_getD, List.getElem?_eq_getElem h2] at this
  exact this
theorem rsame_any (v u : Value) (xs ys : List Nat) (w : World) (h : WordsAt w v xs) (k : WordsAt w u ys) :
    Calls Try.prog 35 #[v, u] w fun e w' => e = .returned (.bool (decide (xs = ys))) ∧ ∃ n, w' = w.drewN n := by
  obtain ⟨a, cap, rfl, hl, h64, hn0, hc⟩ := h
  obtain ⟨b, cap2, rfl, kl, k64, kn0, kc⟩ := k
  have HC := hide hc
  have KC := hide kc
  clear hc kc hn0 kn0
  by_cases hlen : xs.length = ys.length
  · have hl0 : (0 : Int) ≤ (xs.length : Int) := by omega
    have hl1 : (xs.length : Int) ≤ 1099511627776 := by omega
    have L := hide hlen
    rw [← hlen]
    clear hlen kl
    go_enter Try.func35, Try.ntmps35
    go_wp2
    go_loopw [5] (fun i w2 => ∃ (j m : Nat), j ≤ xs.length ∧ i = .int .i64 (j : Int) ∧ w2 = w.drewN m ∧ ∀ t, t < j → xs.getD t 0 = ys.getD t 0) (fun i _ => (xs.length - intOf i).toNat)
    case atStart => exact ⟨0, 0, Nat.zero_le _, rfl, rfl, fun t ht => by omega⟩
    case round =>
      obtain ⟨j, m, hj, rfl, rfl, hall⟩ := hrel
      have A := hide hall
      clear hall
      by_cases g : j < xs.length
      · obtain ⟨x, o, rfl, hx⟩ := HC.out j g
        obtain ⟨y, p, rfl, hy⟩ := KC.out j (by have := L.out; omega)
        have g' : (j : Int) < (xs.length : Int) := by omega
        have j0 : (0 : Int) ≤ (j : Int) := by omega
        have D := hide (show xs.getD j 0 ≠ ys.getD j 0 → xs ≠ ys from differ_at)
        by_cases he : xs.getD j 0 = ys.getD j 0
        · have E := hide (show ∀ t, t < j + 1 → xs.getD t 0 = ys.getD t 0 from fun t ht => by
            rcases Nat.lt_or_ge t j with h | h
            · exact A.out t h
            · rw [show t = j by omega]; exact he)
          have z : (((xs.getD j 0 : Nat) : Int) == ((ys.getD j 0 : Nat) : Int)) = true := by rw [he]; simp
          rw [he] at hx
          clear he z D A
          generalize ys.getD j 0 = c at hx hy
          go_wp2_with fail
          go_quiet (fail)
          go_wp2
          go_roundw
          case rel => exact ⟨j + 1, _, by omega, by go_num, rfl, E.out⟩
          case measure => simp [intOf]; omega
        · have z : (((xs.getD j 0 : Nat) : Int) == ((ys.getD j 0 : Nat) : Int)) = false := by rw [beq_eq_false_iff_ne]; omega
          have D2 := hide (D.out he)
          clear he D
          generalize xs.getD j 0 = d at *
          generalize ys.getD j 0 = c at *
          go_wp2_with fail
          go_quiet (fail)
          go_wp2
          go_ret
          exact ⟨retB (decide_eq_false D2.out).symm, _, World.drewN_drewN w _ _⟩
      · obtain rfl : j = xs.length := by omega
        have E := hide (same_all L.out A.out)
        go_wp2
        go_ret
        exact ⟨retB (decide_eq_true E.out).symm, _, rfl⟩
  · have D := hide (show xs ≠ ys from fun e => hlen (by rw [e]))
    have z : ((xs.length : Int) == (ys.length : Int)) = false := by rw [beq_eq_false_iff_ne]; omega
    clear hlen
    go_enter Try.func35, Try.ntmps35
    go_wp2
    go_ret
    exact ⟨retB (decide_eq_false D.out).symm, 0, rfl⟩
theorem rsame_to (v u : Value) (xs ys : List Nat) (b : Bool) (hb : decide (xs = ys) = b) (w : World) (h : WordsAt w v xs) (k : WordsAt w u ys) :
    Calls Try.prog 35 #[v, u] w fun e w' => e = .returned (.bool b) ∧ ∃ n, w' = w.drewN n := by
  subst hb; exact rsame_any v u xs ys w h k

/-! NewRow -/
theorem newW_vals (n : Nat) : wvals (List.replicate n 0) = List.replicate n (.int .u64 0) := by unfold wvals; rw [List.map_replicate]; rfl
theorem rnew_any (size : Int) (w : World) (hs : -9223372036854775808 ≤ size) (hs' : size ≤ 70368744177664) :
    Calls Try.prog 51 #[.int .i64 size] w fun e w' => ∃ v, e = .returned v ∧ OwnW w' w.heap.size v (newW size) ∧ Below w.heap.size w w' := by
  by_cases h : size < 1
  · have e : newW size = [] := by unfold newW; rw [show ((size + 63) / 64).toNat = 0 by omega]; rfl
    rw [e]
    clear e
    go_enter Try.func51, Try.ntmps51
    go_wp2
    go_ret
    exact ⟨_, rfl, World.ownsRow_nil _ _ _ _, Below.refl _ _⟩
  · obtain ⟨i0, hi, hz0, hz1, hz2⟩ := info_parts infoU64
    have h1 : 1 ≤ size := by omega
    have hb : i0.bytes * ((size + 63) / 64).toNat ≤ 281474976710656 := by rw [hz2]; omega
    have hm : ((size + 63) / 64).toNat ≤ maxLen := by unfold maxLen; omega
    have fin : ∀ (v : Value) (w1 : World), w1.ownsRow w.heap.size 67 1 v ((size + 63) / 64).toNat (madeCells (Value.int .u64 0).cells (((size + 63) / 64).toNat * 1)).toList → w.grownBy w1 none → OwnW w1 w.heap.size v (newW size) ∧ Below w.heap.size w w1 := by
      intro v w1 hown hg
      refine ⟨?_, (Below.refl _ _).grown hg (Nat.le_refl _) (fun k hk => by cases hk)⟩
      have e : (madeCells (Value.int .u64 0).cells (((size + 63) / 64).toNat * 1)).toList = wvals (newW size) := by
        unfold newW
        rw [Nat.mul_one, newW_vals]
        exact toList_madeCells_one _ _
      rw [e] at hown
      have e2 : (newW size).length = ((size + 63) / 64).toNat := by unfold newW; rw [List.length_replicate]
      unfold OwnW
      rw [e2]
      exact hown
    have FIN := hide fin
    clear fin
    by_cases hr : size % 64 = 0
    · have e : size / 64 = (((size + 63) / 64).toNat : Int) := by omega
      have E := hide e
      clear e
      go_enter Try.func51, Try.ntmps51
      go_wp2_with (at_make; refine wpList_make_full _ rfl _ _ 59 rfl w.heap.size 67 i0 (.int .u64 0) 1 Try.underlying59 hi hz0 hz1 _ _ _ _ ((size + 63) / 64).toNat rfl rfl E.out E.out hb hm (Nat.le_refl _) ?_; intro w1 hown hgrow)
      go_ret
      exact ⟨_, rfl, FIN.out _ _ hown hgrow⟩
    · have e : size / 64 + 1 = (((size + 63) / 64).toNat : Int) := by omega
      have hr' : 0 < size % 64 := by omega
      have E := hide e
      clear e hr
      go_enter Try.func51, Try.ntmps51
      go_wp2_with (at_make; refine wpList_make_full _ rfl _ _ 59 rfl w.heap.size 67 i0 (.int .u64 0) 1 Try.underlying59 hi hz0 hz1 _ _ _ _ ((size + 63) / 64).toNat rfl rfl E.out E.out hb hm (Nat.le_refl _) ?_; intro w1 hown hgrow)
      go_ret
      exact ⟨_, rfl, FIN.out _ _ hown hgrow⟩
end Go.Proofs.Ytpkcihfldmgehaa
