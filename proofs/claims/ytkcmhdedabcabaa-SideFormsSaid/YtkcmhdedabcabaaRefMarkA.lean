/- What the document's own SameMarks answers (hodmanref8), as a contract. -/
import Derived.Test.YtkcmhdedabcabaaMarkMem
import Derived.Deep.QuietTactic
import Derived.BigQuiet
namespace Go.Proofs.Ytkcmhdedabcabaa
open Go.RowKit

theorem marks_ext {xs ys : List Pc} (hl : xs.length = ys.length) (h : ∀ k, k < xs.length → nth xs k = nth ys k) : xs = ys := by
  apply List.ext_getElem hl
  intro k h1 h2
  rw [nth_get h1, nth_get h2]
  exact h k h1
set_option maxHeartbeats 1000000 in
theorem msame_any (v u : Value) (xs ys : List Pc) (w : World) (h : SpansAt w v xs) (k : SpansAt w u ys) :
    Calls Try.prog 12 #[v, u] w fun e w' => e = .returned (.bool (decide (xs = ys))) ∧ ∃ n, w' = w.drewN n := by
  obtain ⟨a, cap, rfl, hl, hl2, hl3, h4, hn0, hc⟩ := h
  obtain ⟨b, cap2, rfl, kl, kl2, kl3, k4, kn0, kc⟩ := k
  have HC := hide hc
  have KC := hide kc
  clear hc kc hn0 kn0 h4 k4 hl2 hl3 kl2 kl3
  by_cases hlen : xs.length = ys.length
  · have hl0 : (0 : Int) ≤ (xs.length : Int) := by omega
    have hl1 : (xs.length : Int) ≤ 1048576 := by omega
    have L := hide hlen
    rw [← hlen]
    clear hlen kl
    go_enter Try.func12, Try.ntmps12
    go_wp2
    go_loopw [5] (fun i w2 => ∃ (j m : Nat), j ≤ xs.length ∧ i = .int .i64 (j : Int) ∧ w2 = w.drewN m ∧ ∀ t, t < j → nth xs t = nth ys t) (fun i _ => (xs.length - intOf i).toNat)
    case atStart => exact ⟨0, 0, Nat.zero_le _, rfl, rfl, fun t ht => by omega⟩
    case round =>
      obtain ⟨j, m, hj, rfl, rfl, hall⟩ := hrel
      have A := hide hall
      clear hall
      by_cases g : j < xs.length
      · obtain ⟨x, o, rfl, hx, hx1⟩ := HC.out j g
        obtain ⟨y, p, rfl, hy, hy1⟩ := KC.out j (by have := L.out; omega)
        have g' : (j : Int) < (xs.length : Int) := by omega
        have j0 : (0 : Int) ≤ (j : Int) := by omega
        by_cases he : nth xs j = nth ys j
        · have E := hide (show ∀ t, t < j + 1 → nth xs t = nth ys t from fun t ht => by
            rcases Nat.lt_or_ge t j with h | h
            · exact A.out t h
            · rw [show t = j by omega]; exact he)
          rw [he] at hx hx1
          clear he A
          generalize nth ys j = c at *
          obtain ⟨c1, c2⟩ := c
          simp only at hx hx1 hy hy1
          go_wp2_with fail
          go_quiet (fail)
          go_wp2
          go_roundw
          case rel => exact ⟨j + 1, _, by omega, by go_num, rfl, E.out⟩
          case measure => simp [intOf]; omega
        · have D2 := hide (show xs ≠ ys from fun e => he (by rw [e]))
          generalize nth xs j = d at *
          generalize nth ys j = c at *
          obtain ⟨c1, c2⟩ := c
          obtain ⟨d1, d2⟩ := d
          simp only at hx hx1 hy hy1
          have HE := hide he
          clear he
          by_cases z1 : d1 = c1
          · have z2 : (d2 == c2) = false := by rw [beq_eq_false_iff_ne]; exact fun e => HE.out (by rw [z1, e])
            subst z1
            go_wp2_with fail
            go_quiet (fail)
            go_wp2
            go_ret
            exact ⟨retB (decide_eq_false D2.out).symm, _, World.drewN_drewN w _ _⟩
          · have z2 : (d1 == c1) = false := by rw [beq_eq_false_iff_ne]; exact z1
            go_wp2_with fail
            go_quiet (fail)
            go_wp2
            go_ret
            exact ⟨retB (decide_eq_false D2.out).symm, _, World.drewN_drewN w _ _⟩
      · obtain rfl : j = xs.length := by omega
        have E := hide (marks_ext L.out A.out)
        go_wp2
        go_ret
        exact ⟨retB (decide_eq_true E.out).symm, _, rfl⟩
  · have D2 := hide (show xs ≠ ys from fun e => hlen (by rw [e]))
    have z : ((xs.length : Int) == (ys.length : Int)) = false := by rw [beq_eq_false_iff_ne]; omega
    clear hlen
    go_enter Try.func12, Try.ntmps12
    go_wp2
    go_ret
    exact ⟨retB (decide_eq_false D2.out).symm, 0, rfl⟩
theorem msame_to (v u : Value) (xs ys : List Pc) (r : Bool) (hr : decide (xs = ys) = r) (w : World) (h : SpansAt w v xs) (k : SpansAt w u ys) :
    Calls Try.prog 12 #[v, u] w fun e w' => e = .returned (.bool r) ∧ ∃ n, w' = w.drewN n := by
  subst hr
  exact msame_any v u xs ys w h k
end Go.Proofs.Ytkcmhdedabcabaa
