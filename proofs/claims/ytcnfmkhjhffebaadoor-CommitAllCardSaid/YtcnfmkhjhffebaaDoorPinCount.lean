/- What the program's package pin answers of how many pages are met (Count), as a contract. -/
import Derived.Test.YtcnfmkhjhffebaaDoorPinMath
import Derived.Test.YtcnfmkhjhffebaaDoorBoolMem
namespace Go.Proofs.YtcnfmkhjhffebaaDoor
open Go.RowKit

/-- how many are met -/
theorem count_any (v : Value) (bs : List Bool) (w : World) (h : BoolsAt w v bs) (hl : bs.length ≤ 1048576) :
    Calls Tryd.prog 22 #[v] w fun e w' => e = .returned (.int .i64 ((cntL bs : Nat) : Int)) ∧ w' = w := by
  obtain ⟨a, cap, rfl, hc⟩ := h
  have HC := hide hc
  have l0 : (0 : Int) ≤ (bs.length : Int) := by omega
  have l1 : (bs.length : Int) ≤ 1048576 := by omega
  have TL := hide (show cntL (bs.take bs.length) = cntL bs by rw [List.take_length])
  have TS := hide (cntL_take_succ bs)
  have LE := hide (fun j => show cntL (bs.take j) ≤ bs.length from Nat.le_trans (cntL_le _) (by rw [List.length_take]; omega))
  clear hc hl
  go_enter Tryd.func22, Tryd.ntmps22
  go_wp2
  go_loop [3, 8] (fun c i => ∃ j : Nat, j ≤ bs.length ∧ i = .int .i64 (j : Int) ∧ c = .int .i64 ((cntL (bs.take j) : Nat) : Int)) (fun _ i => (bs.length - intOf i).toNat)
  case atStart => exact ⟨0, Nat.zero_le _, rfl, rfl⟩
  case round =>
    obtain ⟨j, hj, rfl, rfl⟩ := hrel
    by_cases g : j < bs.length
    · have g' : (j : Int) < (bs.length : Int) := by omega
      obtain ⟨b, o, rfl, cl⟩ := HC.out j g
      have S := hide (TS.out j g)
      have L := LE.out j
      have c1 : ((cntL (bs.take j) : Nat) : Int) ≤ 1048576 := by omega
      have c0 : 0 ≤ ((cntL (bs.take j) : Nat) : Int) := by omega
      clear L
      generalize cntL (bs.take j) = q at *
      cases hb : bs.getD j false with
      | true =>
        rw [hb] at cl S
        clear hb
        go_wp2
        go_round
        case rel => exact ⟨j + 1, by omega, by go_num, by rw [S.out]; go_num⟩
        case measure => simp [intOf]; omega
      | false =>
        rw [hb] at cl S
        clear hb
        go_wp2
        go_round
        case rel => exact ⟨j + 1, by omega, by go_num, by rw [S.out]; go_num⟩
        case measure => simp [intOf]; omega
    · obtain rfl : j = bs.length := by omega
      go_wp2
      go_ret
      exact ⟨ret_int (by first | rfl | rw [TL.out]), rfl⟩
theorem count_to (v : Value) (bs : List Bool) (n : Nat) (hn : cntL bs = n) (w : World) (h : BoolsAt w v bs) (hl : bs.length ≤ 1048576) :
    Calls Tryd.prog 22 #[v] w fun e w' => e = .returned (.int .i64 (n : Int)) ∧ w' = w := by
  subst hn
  exact count_any v bs w h hl
end Go.Proofs.YtcnfmkhjhffebaaDoor
