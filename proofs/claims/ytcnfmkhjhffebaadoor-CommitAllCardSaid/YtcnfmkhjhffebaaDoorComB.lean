/- What the program's package commit counts (countWith), as a contract. -/
import Derived.Test.YtcnfmkhjhffebaaDoorComMath
import Derived.Test.YtcnfmkhjhffebaaDoorPinCount
import Derived.Test.YtcnfmkhjhffebaaDoorBoolIn
namespace Go.Proofs.YtcnfmkhjhffebaaDoor
open Go.RowKit

set_option maxHeartbeats 1000000 in
theorem cw_any (v : Value) (l : List Bool) (f t : Nat) (w : World) (h : BoolsIn w v l) (hf : f ≤ t) (ht : t ≤ l.length) :
    Calls Tryd.prog 16 #[v, .int .i64 (f : Int), .int .i64 (t : Int)] w fun e w' => e = .returned (.int .i64 ((cntN l f t : Nat) : Int)) ∧ ∃ n, w' = w.drewN n := by
  have SUM := hide (cntN_parts l f t hf ht)
  have K1 := cntL_le (l.take f)
  have K2 := cntL_le (l.drop t)
  rw [List.length_take] at K1
  rw [List.length_drop] at K2
  have hl := h.1
  rcases h.2 with ⟨a, rfl, rfl⟩ | ⟨b, o, cap, rfl, h3, h4, hc⟩
  · obtain rfl : t = 0 := by simpa using ht
    obtain rfl : f = 0 := by omega
    have C1 := hide (fun n => count_to (.slice a 0 0) [] 0 rfl (w.drewN n) (BoolsIn.at ⟨by simp, .inl ⟨a, rfl, rfl⟩⟩) (by simp))
    clear hf ht K1 K2 hl h
    go_enter Tryd.func16, Tryd.ntmps16
    go_wp2_with fail
    go_quiet ((go_at_call 22; exact Calls.quiet_of_same (C1.out _)))
    go_wp2
    go_ret
    exact ⟨ret_int (by rw [← SUM.out]; rfl), _, rfl⟩
  · obtain ⟨A, hA⟩ : ∃ A, (if cap = t then (some ⟨b, o, none⟩ : Option Addr) else some ⟨b, o + t, none⟩) = A := ⟨_, rfl⟩
    have C1 := hide (fun n => count_to (.slice (some ⟨b, o, none⟩) f cap) (l.take f) _ rfl (w.drewN n) (front_at (h.fresh (Fresh.drewN w n)) f (by omega)).at (by rw [List.length_take]; omega))
    have C2 := hide (fun n => count_to (.slice A (l.length - t) (cap - t)) (l.drop t) _ rfl (w.drewN n) (behind_at (h.fresh (Fresh.drewN w n)) t ht hA).at (by rw [List.length_drop]; omega))
    have f0 : (0 : Int) ≤ (f : Int) := by omega
    have f1 : (f : Int) ≤ (t : Int) := by omega
    have t1 : (t : Int) ≤ (l.length : Int) := by omega
    have t2 : t ≤ l.length := ht
    have fc : f ≤ cap := by omega
    have l1 : (l.length : Int) ≤ 1048576 := by omega
    generalize cntL (l.take f) = c1 at *
    generalize cntL (l.drop t) = c2 at *
    have d0 : (0 : Int) ≤ (c1 : Int) := by omega
    have d1 : (c1 : Int) ≤ 1048576 := by omega
    have d2 : (0 : Int) ≤ (c2 : Int) := by omega
    have d3 : (c2 : Int) ≤ 1048576 := by omega
    clear hf K1 K2 hl h hc ht
    go_enter Tryd.func16, Tryd.ntmps16
    go_wp2_with fail
    go_quiet ((first | (go_at_call 22; with_reducible exact Calls.quiet_of_same (C1.out _)) | (go_at_call 22; with_reducible exact Calls.quiet_of_same (C2.out _)) | (trace_state; sorry)))
    go_wp2
    go_ret
    exact ⟨ret_int (by have := SUM.out; omega), _, rfl⟩
end Go.Proofs.YtcnfmkhjhffebaaDoor
