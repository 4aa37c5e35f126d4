/- May of package tree: true of each tree that may be, false of the empty one, as contracts. -/
import Derived.Test.YtpkcihfldmgehaaTreeB
namespace Go.Proofs.Ytpkcihfldmgehaa
open Go.RowKit

theorem may_empty (w : World) : Calls Try.prog 29 #[noTree] w fun e w' => e = .returned (.bool false) ∧ Fresh w w' := by
  unfold noTree
  have FB := hide (fresh_box w #[.int .i64 0, .slice none 0 0] 45)
  go_enter Try.func29, Try.ntmps29
  go_wp2_with fail
  refine (sizeMay_to 0 false (by decide) _).mono ?_
  rintro e w' ⟨rfl, rfl⟩
  go_wp2
  go_ret
  exact ⟨rfl, FB.out⟩

set_option maxHeartbeats 1000000 in
theorem may_true (v : Value) (n : Nat) (ws : List Nat) (w : World) (h : TreeAt w v n ws) : Calls Try.prog 29 #[v] w fun e w' => e = .returned (.bool true) ∧ Fresh w w' := by
  obtain ⟨n1, n2, hlev, a, cap, rfl, hlv⟩ := h
  have q1 : (1 : Int) ≤ (n : Int) := by omega
  have q2 : (n : Int) ≤ 65536 := by omega
  have hh := nLev_in n
  obtain ⟨b, o, rfl⟩ := hlv.len hh.1
  have FB := hide (fresh_box w #[.int .i64 (n : Int), .slice (some ⟨b, o, none⟩) (nLev n) cap] 45)
  have LV := hide hlv
  have LE := hide hlev
  have hb : b < w.heap.size := by obtain ⟨x, c, hcell, _⟩ := hlv.row 0 (by omega); exact World.block_lt_of_cell? _ _ hcell
  have BD := hide (fun k => nb_le n n2 k)
  have BP := hide (fun k => nb_pos n n1 k)
  have TOP := hide (fun k (hk : k < nLev n) => nb_top n k n1 n2 hk)
  have LN := hide (fun k => lv_length hlev k)
  clear hlv hlev
  have l2 : (nLev n : Int) ≤ 3 := by omega
  have l1 : (1 : Int) ≤ (nLev n : Int) := by omega
  generalize hN : nLev n = N at *
  go_enter Try.func29, Try.ntmps29
  go_wp2_with fail
  refine (sizeMay_to _ true (by rw [decide_eq_true q1, decide_eq_true q2]; rfl) _).mono ?_
  rintro e w' ⟨rfl, rfl⟩
  go_wp2
  go_loopw [3, 15] (fun x i w2 => ∃ k m : Nat, k < N ∧ x = .int .i64 ((nb n k : Nat) : Int) ∧ i = .int .i64 (k : Int) ∧ w2 = (w.alloc (.cells #[.int .i64 (n : Int), .slice (some ⟨b, o, none⟩) N cap] 45)).drewN m) (fun _ i _ => (N - intOf i).toNat)
  case atStart => exact ⟨0, 0, by omega, rfl, rfl, rfl⟩
  case round =>
    obtain ⟨k, m, hkN, rfl, rfl, rfl⟩ := hrel
    obtain ⟨x, c, hcell, hwd⟩ := LV.out.row k hkN
    have hc2 : (w.alloc (.cells #[.int .i64 (n : Int), .slice (some ⟨b, o, none⟩) N cap] 45)).cell? ⟨b, o + k, none⟩ = some (.slice x (lvV ws k).length c) := (World.cell?_alloc_lt w _ _ hb).trans hcell
    have W1 := hide (fun m => hwd.fresh (fresh_drewN FB.out m))
    have k1 : (k : Int) < (N : Int) := by omega
    have b1 := BP.out k
    have b2 := BD.out k
    have b3 := LN.out k
    have b4 : nb n (k + 1) = (nb n k + 63) / 64 := rfl
    have RA := hide (rest_and (lev_lv LE.out k) b1)
    have WF := hide (fun w => wordsFor_to ((nb n k : Nat) : Int) (nb n k) (((lvV ws k).length : Nat) : Int) rfl (by rw [b3, b4]) b1 b2 w)
    have RE := hide (fun w => rest_nat (nb n k) b1 b2 w)
    have TP := hide (TOP.out k hkN)
    have hq : (lvV ws k).length = (nb n k - 1) / 64 + 1 := by omega
    obtain ⟨_, _, e0, hl0, h64, _, hcw⟩ := hwd
    cases e0
    obtain ⟨b', o', rfl, hcell'⟩ := hcw ((nb n k - 1) / 64) (by omega)
    have hw2 : (w.alloc (.cells #[.int .i64 (n : Int), .slice (some ⟨b, o, none⟩) N cap] 45)).cell? ⟨b', o' + (nb n k - 1) / 64, none⟩ = some (.int .u64 (((lvV ws k).getD ((nb n k - 1) / 64) 0 : Nat) : Int)) := (World.cell?_alloc_lt w _ _ (World.block_lt_of_cell? _ _ hcell')).trans hcell'
    have han : bits .and .u64 (((lvV ws k).getD ((nb n k - 1) / 64) 0 : Nat) : Int) ((maskN ((nb n k - 1) % 64 + 1) 64 : Nat) : Int) = ((maskN ((nb n k - 1) % 64 + 1) 64 : Nat) : Int) := by rw [and_spelt _ _ (h64.getD _) (maskN_lt _ _), RA.out]
    have j3 : (((lvV ws k).length : Nat) : Int) - 1 = (((nb n k - 1) / 64 : Nat) : Int) := by omega
    have j4 : (((nb n k - 1) / 64 : Nat) : Int) < (((lvV ws k).length : Nat) : Int) := by omega
    have j5 : (((lvV ws k).length : Nat) : Int) ≤ 1024 := by omega
    clear hcell hcell' hcw RA h64 hl0
    have j6 : IntKind.i64.wrap (((nb n k - 1) / 64 : Nat) : Int) = (((nb n k - 1) / 64 : Nat) : Int) := by rw [IntKind.wrap_i64]; omega
    have TL := hide (fun j (e : j + 1 = k) => (LV.out.row j (by omega)))
    have NX := hide (show ((nb n (k + 1) : Nat) : Int) = (((lvV ws k).length : Nat) : Int) by rw [b3])
    have TP2 := hide (show (lvV ws k).length = 1 ↔ k + 1 = N by rw [b3]; exact TP.out)
    have LK := hide (fun j (e : j + 1 = k) => show lvV ws k = upV (lvV ws j) by subst e; rfl)
    have LJ := hide (fun j => show (lvV ws j).length ≤ 65536 by rw [LN.out]; exact BD.out (j + 1))
    clear hq b3 b4 TP
    generalize hR : maskN ((nb n k - 1) % 64 + 1) 64 = R at *
    generalize hQ : (nb n k - 1) / 64 = q at *
    generalize hU : (lvV ws k).getD q 0 = u at *
    clear hR hQ hU
    generalize hL : (lvV ws k).length = ln at *
    clear hL
    go_wp2_with fail
    go_quiet (first | (go_at_call 44; exact quiet_same (WF.out _)) | (go_at_call 45; exact quiet_same (RE.out _)))
    have CC := hide (show ∀ (j c' : Nat) (x' : Option Addr) m', WordsAt ((w.alloc (.cells #[.int .i64 (n : Int), .slice (some ⟨b, o, none⟩) N cap] 45)).drewN m') (.slice x' (lvV ws j).length c') (lvV ws j) → j + 1 = k → Calls Try.prog 46 #[.slice (some ⟨b', o', none⟩) ln c, .slice x' (lvV ws j).length c'] ((w.alloc (.cells #[.int .i64 (n : Int), .slice (some ⟨b, o, none⟩) N cap] 45)).drewN m') fun e w' => e = .returned (.bool true) ∧ w' = (w.alloc (.cells #[.int .i64 (n : Int), .slice (some ⟨b, o, none⟩) N cap] 45)).drewN m' from fun j c' x' m' hw e => tells_true _ _ (lvV ws j) _ (by have := W1.out m'; rwa [LK.out j e] at this) hw (LJ.out j))
    clear WF RE han hw2 j3 j4 j6 W1 LK
    rcases Nat.eq_zero_or_pos k with rfl | hk0
    · by_cases hone : ln = 1
      · have e1 := TP2.out.1 hone
        subst hone
        have e2 : (N : Int) - 1 = 0 := by omega
        go_wp2
        go_ret
        exact ⟨rfl, fresh_drewN FB.out _⟩
      · have z : ((ln : Int) == 1) = false := by rw [beq_eq_false_iff_ne]; omega
        have hlt : 0 + 1 < N := by
          rcases Nat.lt_or_ge (0 + 1) N with h | h
          · exact h
          · exact absurd (TP2.out.2 (by omega)) hone
        go_wp2
        go_roundw
        case rel => exact ⟨0 + 1, _, hlt, by rw [NX.out], by go_num, rfl⟩
        case measure => simp [intOf]; omega
    · obtain ⟨j, rfl⟩ : ∃ j, k = j + 1 := ⟨k - 1, by omega⟩
      obtain ⟨x', c', hcj, hwj⟩ := TL.out j rfl
      have hcj2 : (w.alloc (.cells #[.int .i64 (n : Int), .slice (some ⟨b, o, none⟩) N cap] 45)).cell? ⟨b, o + j, none⟩ = some (.slice x' (lvV ws j).length c') := (World.cell?_alloc_lt w _ _ hb).trans hcj
      have WJ := hide (fun m => hwj.fresh (fresh_drewN FB.out m))
      have i1 : (0 : Int) < ((j + 1 : Nat) : Int) := by omega
      have i3 : ((j + 1 : Nat) : Int) - 1 = (j : Int) := by omega
      have i4 : (j : Int) < (N : Int) := by omega
      clear hcj hwj
      go_wp2_with fail
      refine (CC.out j c' x' _ (WJ.out _) rfl).mono ?_
      rintro e w' ⟨rfl, rfl⟩
      by_cases hone : ln = 1
      · have e1 := TP2.out.1 hone
        subst hone
        have e2 : (N : Int) - 1 = ((j + 1 : Nat) : Int) := by omega
        go_wp2
        go_ret
        exact ⟨rfl, fresh_drewN FB.out _⟩
      · have z : ((ln : Int) == 1) = false := by rw [beq_eq_false_iff_ne]; omega
        have hlt : j + 1 + 1 < N := by
          rcases Nat.lt_or_ge (j + 1 + 1) N with h | h
          · exact h
          · exact absurd (TP2.out.2 (by omega)) hone
        go_wp2
        go_roundw
        case rel => exact ⟨j + 1 + 1, _, hlt, by rw [NX.out], by go_num, rfl⟩
        case measure => simp [intOf]; omega
end Go.Proofs.Ytpkcihfldmgehaa
