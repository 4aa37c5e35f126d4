/- The walk of hodmanlaw4.RowFirst, given what package row answers (RowSays). (This text was written by wip/tools/rowgen.py's help.) -/
import Derived.Test.YtniagepoddhlnaaRowLaw
import Derived.Test.YtniagepoddhlnaaRefRow
import Derived.Test.YtniagepoddhlnaaPlayWords
namespace Go.Proofs.Ytniagepoddhlnaa
open Go.ChangeShapes Go.WideShapes Go.ChangeAt Go.RowKit

set_option maxRecDepth 100000 in
set_option maxHeartbeats 4000000 in
theorem rowFirst_walk0 (R : RowSays) (a : Option Addr) (len cap : Nat) (zs : List Int) (s : Int) (hs : 0 ≤ s) (hs' : s ≤ 65535) (f : Int) (hf : 0 ≤ f) (hf' : f ≤ 65535) (w : World) (hrow : IsRow .u8 w a len cap zs) :
    Calls Try.prog 5 #[.slice a len cap, .int .u16 s, .int .u16 f] w fun e w' => e = .returned (.bool true) ∧ Fresh w w' := by
  obtain ⟨S, hS⟩ : ∃ S : Nat, s % 900 = S := ⟨(s % 900).toNat, by omega⟩
  obtain ⟨F, hF⟩ : ∃ F : Nat, f % 900 = F := ⟨(f % 900).toNat, by omega⟩
  have s1 : (S : Int) < 900 := by omega
  have f1 : (F : Int) < 900 := by omega
  have s0 : (0 : Int) ≤ (S : Int) := by omega
  have f0 : (0 : Int) ≤ (F : Int) := by omega
  have RR := hide R
  obtain ⟨hb, hl, hm⟩ := bytes_in hrow
  have HB := hide hb
  have HL := hide hl
  clear R hrow hb hl
  by_cases h100 : len ≤ 100
  · have l1 : (len : Int) ≤ 100 := by omega
    go_enter Try.func5, Try.ntmps5
    go_wp2_with fail
    refine (begun4_true RR.out _).mono ?_
    rintro e w1 ⟨rfl, k1⟩
    have K1 := hide k1
    clear k1
    go_wp2_with fail
    refine (words_any a len cap (zs.take len) _ (HB.out.fresh K1.out) HL.out (by omega)).mono ?_
    rintro e w2 ⟨v2, ws, rfl, o2, h64, hlen, k2⟩
    have Hl2 := hide (o2.at h64 (by omega))
    have A64 := hide h64
    have kk : Fresh w1 w2 := k2
    clear k2 h64
    obtain ⟨a2, c2, rfl, -⟩ := Hl2.out
    clear o2
    have K2 := hide (K1.out.trans kk)
    clear kk K1
    have wl : (ws.length : Int) ≤ 100 := by omega
    have wl0 : (0 : Int) ≤ (ws.length : Int) := by omega
    obtain ⟨E, hE⟩ : ∃ E : Nat, min S (64 * ws.length) = E := ⟨_, rfl⟩
    have hE2 : min (S : Int) (64 * (ws.length : Int)) = (E : Int) := by omega
    have eb : (E : Int) ≤ 6400 := by omega
    have eb0 : (0 : Int) ≤ (E : Int) := by omega
    have FC := first_count ws S F
    have FP := hide (firstW_pos ws S F)
    rw [hE] at FC FP
    clear hE
    rcases FC with ⟨i, e1, f1, f2, f3, f4⟩ | ⟨e1, f1⟩
    · have FS := hide (show firstW ws (S : Int) (F : Int) = if true then some ((i : Int)).toNat else none by rw [FP.out, e1]; rfl)
      have g1 : (F : Int) ≤ (i : Int) := by omega
      have g2 : (i : Int) < (E : Int) := by omega
      have HF := hide (show hasW ws (i : Int) = false by rw [hasW_pos]; exact f3)
      have CF := hide (show ((cntW ws (F : Int) ((i : Int) - (F : Int)) : Nat) : Int) = (i : Int) - (F : Int) by rw [show (i : Int) - (F : Int) = ((i - F : Nat) : Int) by omega, cntW_pos, f4])
      clear e1 f1 f2 f3 f4 FP
      go_wp2_with fail
      refine (RR.out.first_to _ _ _ _ _ true FS.out (by omega) (fun h => by cases h) _ Hl2.out (by omega) (by omega) (by omega) (by omega)).mono ?_
      rintro e w3 ⟨rfl, k3⟩
      have K3 := hide (K2.out.trans k3)
      have Hl3 := hide (Hl2.out.fresh k3)
      clear k3 K2 Hl2
      go_wp2_with fail
      refine (RR.out.has_to _ _ _ _ HF.out _ Hl3.out (by omega) (by omega)).mono ?_
      rintro e w4 ⟨rfl, k4⟩
      have K4 := hide (K3.out.trans k4)
      have Hl4 := hide (Hl3.out.fresh k4)
      clear k4 K3 Hl3
      go_wp2_with fail
      refine (RR.out.count_to _ _ _ _ _ CF.out _ Hl4.out (by omega) (by omega) (by omega) (by omega)).mono ?_
      rintro e w5 ⟨rfl, k5⟩
      have K5 := hide (K4.out.trans k5)
      have Hl5 := hide (Hl4.out.fresh k5)
      clear k5 K4 Hl4
      go_wp2
      go_ret
      exact ⟨rfl, K5.out⟩
    · have FS := hide (show firstW ws (S : Int) (F : Int) = if false then some ((0 : Int)).toNat else none by rw [FP.out, e1]; rfl)
      clear e1 FP
      go_wp2_with fail
      refine (RR.out.first_to _ _ _ _ 0 false FS.out (by decide) (fun _ => rfl) _ Hl2.out (by omega) (by omega) (by omega) (by omega)).mono ?_
      rintro e w3 ⟨rfl, k3⟩
      have K3 := hide (K2.out.trans k3)
      have Hl3 := hide (Hl2.out.fresh k3)
      clear k3 K2 Hl2
      rcases f1 with f1 | ⟨f1, f2⟩
      · have g1 : (E : Int) ≤ (F : Int) := by omega
        go_wp2
        go_ret
        exact ⟨rfl, K3.out⟩
      · have g1 : (F : Int) < (E : Int) := by omega
        have CF := hide (show ((cntW ws (F : Int) ((E : Int) - (F : Int)) : Nat) : Int) = (E : Int) - (F : Int) by rw [show (E : Int) - (F : Int) = ((E - F : Nat) : Int) by omega, cntW_pos, f2])
        clear f1 f2
        go_wp2_with fail
        refine (RR.out.count_to _ _ _ _ _ CF.out _ Hl3.out (by omega) (by omega) (by omega) (by omega)).mono ?_
        rintro e w4 ⟨rfl, k4⟩
        have K4 := hide (K3.out.trans k4)
        have Hl4 := hide (Hl3.out.fresh k4)
        clear k4 K3 Hl3
        go_wp2
        go_ret
        exact ⟨rfl, K4.out⟩
  · have l1 : (100 : Int) < (len : Int) := by omega
    go_enter Try.func5, Try.ntmps5
    go_wp2_with fail
    refine (begun4_true RR.out _).mono ?_
    rintro e w1 ⟨rfl, k1⟩
    have K1 := hide k1
    clear k1
    go_wp2
    go_ret
    exact ⟨rfl, K1.out⟩
end Go.Proofs.Ytniagepoddhlnaa
