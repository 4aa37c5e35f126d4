/- tellAbove of package tree, as a contract: the levels above are mended. -/
import Derived.Test.YtpkcihfldmgehaaTreeD
import Derived.Deep.RegionWith
namespace Go.Proofs.Ytpkcihfldmgehaa
open Go.RowKit

/-- rows of words alone are turned -/
def OnlyU (w w' : World) : Prop := ∀ (k : Nat) (c : Array Value) (t : TypeId), w.heap[k]? = some (.cells c t (0, 0)) → t ≠ 67 → w'.heap[k]? = some (.cells c t (0, 0))
theorem OnlyU.refl (w : World) : OnlyU w w := fun _ _ _ h _ => h
theorem OnlyU.trans {a b c : World} (h : OnlyU a b) (k : OnlyU b c) : OnlyU a c := fun i x t hi ht => k i x t (h i x t hi ht) ht
theorem OnlyU.put {w : World} {base g cap : Nat} {ws : List Nat} (h : OwnW w base (.slice (some ⟨g, 0, none⟩) ws.length cap) ws) (j : Nat) (v : Value) : OnlyU w (w.setCell ⟨g, j, none⟩ v) := by
  intro k c t hk ht
  refine heap_set_other hk ?_ v
  rintro rfl
  obtain ⟨cur, hc⟩ := own_type h k rfl
  rw [hk] at hc
  simp at hc
  exact ht hc.2

/-- the levels, mended as far as level k, and level k + 1 in part -/
def mended (ws ws' : List Nat) (k : Nat) (xs : List Nat) (i : Nat) : List Nat := if i ≤ k then lvV ws' i else if i = k + 1 then xs else lvV ws i

theorem put_to (base g cap : Nat) (ws : List Nat) (N : Nat) (hN : N = ws.length) (x : Int) (k : Nat) (hx : x = k) (m : Nat) (on : Bool) (w : World) (h : OwnW w base (.slice (some ⟨g, 0, none⟩) ws.length cap) ws) (h64 : W64 ws) (hl : ws.length ≤ 65536) (hk : k < ws.length) (hm : m < 18446744073709551616) :
    Calls Try.prog 38 #[.slice (some ⟨g, 0, none⟩) N cap, .int .i64 x, .int .u64 (m : Int), .bool on] w fun e w' => e = .returned (.tuple #[]) ∧ w' = w.setCell ⟨g, k, none⟩ (.int .u64 (((if on then ws.getD k 0 ||| m else ws.getD k 0 &&& notV m : Nat)) : Int)) := by
  subst hx; subst hN; exact put_any base g cap ws k m on w h h64 hl hk hm
theorem put_x (base g cap : Nat) (ws : List Nat) (N : Nat) (hN : N = ws.length) (x : Int) (k : Nat) (hx : x = k) (m : Nat) (on : Bool) (X : Nat) (hX : (if on then ws.getD k 0 ||| m else ws.getD k 0 &&& notV m) = X) (w : World) (h : OwnW w base (.slice (some ⟨g, 0, none⟩) ws.length cap) ws) (h64 : W64 ws) (hl : ws.length ≤ 65536) (hk : k < ws.length) (hm : m < 18446744073709551616) :
    Calls Try.prog 38 #[.slice (some ⟨g, 0, none⟩) N cap, .int .i64 x, .int .u64 (m : Int), .bool on] w fun e w' => e = .returned (.tuple #[]) ∧ w' = w.setCell ⟨g, k, none⟩ (.int .u64 (X : Int)) := by
  subst hX; exact put_to base g cap ws N hN x k hx m on w h h64 hl hk hm

set_option maxHeartbeats 4000000 in
theorem tell_any (base g h cap n : Nat) (G C : Nat → Nat) (ws ws' : List Nat) (A B : Nat) (w : World) (hh : h = nLev n) (n1 : 1 ≤ n) (n2 : n ≤ 65536) (t : OwnT w base g h G C (fun i => if i ≤ 0 then lvV ws' i else lvV ws i)) (hc : h ≤ cap) (hcm : cap ≤ maxLen)
    (lev : Lev n ws) (lev' : Lev n ws') (al : Alike ws ws' A B) (AB : A ≤ B) (Bl : B < nb n 1) :
    Calls Try.prog 40 #[.slice (some ⟨g, 0, none⟩) h cap, .int .i64 (A : Int), .int .i64 (B : Int)] w fun e w' => e = .returned (.tuple #[]) ∧ OwnT w' base g h G C (lvV ws') ∧ Below base w w' ∧ OnlyU w w' := by
  have h3 := nLev_in n
  have hm : maxLen = 9223372036854775807 := rfl
  obtain ⟨m, rfl⟩ : ∃ m, h = m + 1 := ⟨h - 1, by omega⟩
  have LN := hide (fun k => lv_length lev k)
  have LN' := hide (fun k => lv_length lev' k)
  have BD := hide (fun k => nb_words n k n1 n2)
  have L64 := hide (fun k => (lev_lv lev' k).1)
  have T0 := hide t
  have AL := hide (show Alike (lvV ws 0) (lvV ws' 0) A B from al)
  have c1 : (1 : Int) ≤ (cap : Int) := by omega
  have c2 : (cap : Int) ≤ 9223372036854775807 := by omega
  have m1 : (m : Int) ≤ 2 := by omega
  have c3 : (m : Int) + 1 ≤ (cap : Int) := by omega
  have HH := hide hh
  have TOP := hide (fun k (hk : k < m + 1) => show nb n (k + 1) = 1 ↔ k + 1 = m + 1 by rw [hh] at hk ⊢; exact nb_top n k n1 n2 hk)
  clear t al lev lev' hh h3 hm
  by_cases hcap : cap = 1
  · obtain rfl : m = 0 := by omega
    subst hcap
    go_enter Try.func40, Try.ntmps40
    go_wp2
    refine wp_loop_rounds 1 ?_
    rw [rounds_succ]
    go_wp2
    go_returns
    exact ⟨rfl, T0.out.congr fun i hi => by rw [if_pos (by omega)], Below.refl _ _, OnlyU.refl _⟩
  have hcap' : ¬ ((cap : Int) = 1) := by omega
  go_enter Try.func40, Try.ntmps40
  go_wp2
  go_loopw [1, 2, 12] (fun a b i wr => ∃ k A' B' : Nat, k ≤ m ∧ a = .int .i64 (A' : Int) ∧ b = .int .i64 (B' : Int) ∧ i = .int .i64 (k : Int) ∧ OwnT wr base g (m + 1) G C (fun i => if i ≤ k then lvV ws' i else lvV ws i) ∧ Alike (lvV ws k) (lvV ws' k) A' B' ∧ A' ≤ B' ∧ B' < nb n (k + 1) ∧ Below base w wr ∧ OnlyU w wr) (fun _ _ i _ => (m - intOf i).toNat)
  case atStart => exact ⟨0, A, B, Nat.zero_le _, rfl, rfl, rfl, T0.out, AL.out, AB, Bl, Below.refl _ _, OnlyU.refl _⟩
  case round =>
    obtain ⟨k, A', B', hk, rfl, rfl, rfl, hT, hA, hAB, hB, hbel, hou⟩ := hrel
    have AK := hide hA
    have BEL := hide hbel
    have OU := hide hou
    have TT := hide hT
    have bd := BD.out k
    have B1 : (B' : Int) ≤ 1023 := by omega
    have A1 : (A' : Int) ≤ (B' : Int) := by omega
    clear hA hbel hou T0 AL
    rcases Nat.lt_or_ge k m with hkm | hkm
    · have km : (k : Int) < (m : Int) := by omega
      have cu : wr.cell? ⟨g, 1 + k, none⟩ = some (.slice (some ⟨G (k + 1), 0, none⟩) (lvV ws (k + 1)).length (C (k + 1))) := by
        have := hT.cell (k + 1) (by omega)
        rw [if_neg (by omega)] at this
        rw [Nat.add_comm 1 k]; exact this
      have T1 := hide (show OwnT wr base g (m + 1) G C (mended ws ws' k (upV (lvV ws k))) from hT.congr fun i hi => by
        unfold mended
        by_cases h1 : i ≤ k
        · rw [if_pos h1, if_pos h1]
        · rw [if_neg h1, if_neg h1]
          by_cases h2 : i = k + 1
          · subst h2; rw [if_pos rfl]; rfl
          · rw [if_neg h2])
      have UPL := hide (show (upV (lvV ws k)).length = nb n (k + 1 + 1) from LN.out (k + 1))
      have bd2 := BD.out (k + 1)
      have e2 : nb n (k + 1 + 1) = (nb n (k + 1) + 63) / 64 := rfl
      have E2 := hide e2
      have LU := hide (LN.out (k + 1))
      clear hT e2
      go_wp2
      go_loopw [8] (fun t w2 => ∃ (y : Nat) (xs : List Nat), A' ≤ y ∧ y ≤ B' + 1 ∧ t = .int .i64 (y : Int) ∧ OwnT w2 base g (m + 1) G C (mended ws ws' k xs) ∧ Mid (lvV ws k) (lvV ws' k) A' y xs ∧ Below base w w2 ∧ OnlyU w w2) (fun t _ => (B' + 1 - intOf t).toNat)
      case atStart => exact ⟨A', _, Nat.le_refl _, by omega, rfl, T1.out, mid_start _ _ _, BEL.out, OU.out⟩
      case round =>
        obtain ⟨y, xs, hy1, hy2, rfl, hT2, hM, hbel2, hou2⟩ := hrel
        have MM := hide hM
        have B2 := hide hbel2
        have O2 := hide hou2
        have T2 := hide hT2
        have xl := hM.2.1
        clear hM hbel2 hou2 T1
        rcases Nat.lt_or_ge B' y with hyB | hyB
        · obtain rfl : y = B' + 1 := by omega
          have y1 : (B' : Int) < ((B' + 1 : Nat) : Int) := by omega
          have E := hide (mid_end MM.out (by rw [LN.out, LN'.out]) AK.out (by rw [LN.out]; exact hB))
          have FT := hide (show OwnT wr base g (m + 1) G C (fun i => if i ≤ k + 1 then lvV ws' i else lvV ws i) from hT2.congr fun i hi => by
            unfold mended
            by_cases h1 : i ≤ k
            · rw [if_pos h1, if_pos (by omega)]
            · rw [if_neg h1]
              by_cases h2 : i = k + 1
              · subst h2; rw [if_pos rfl, if_pos (Nat.le_refl _)]; exact E.out
              · rw [if_neg h2, if_neg (by omega)])
          have AN := hide (show Alike (lvV ws (k + 1)) (lvV ws' (k + 1)) (A' / 64) (B' / 64) from alike_up AK.out (by rw [LN.out, LN'.out]))
          clear hT2 xl
          go_wp2
          go_roundw
          case rel => exact ⟨k + 1, A' / 64, B' / 64, by omega, by go_num, by go_num, by go_num, FT.out, AN.out, by omega, by have := E2.out; omega, B2.out, O2.out⟩
          case measure => simp [intOf]; omega
        · have y1 : (y : Int) ≤ (B' : Int) := by omega
          have cg : wr.cell? ⟨g, k, none⟩ = some (.slice (some ⟨G k, 0, none⟩) (lvV ws' k).length (C k)) := by
            have := hT2.cell k (by omega)
            unfold mended at this
            rwa [if_pos (Nat.le_refl _)] at this
          have rk : OwnW wr base (.slice (some ⟨G k, 0, none⟩) (lvV ws' k).length (C k)) (lvV ws' k) := by
            have := hT2.row k (by omega)
            unfold mended at this
            rwa [if_pos (Nat.le_refl _)] at this
          have ll := LN'.out k
          have cy := rk.cell y (by omega)
          have RO := hide (show OwnW wr base (.slice (some ⟨G (k + 1), 0, none⟩) xs.length (C (k + 1))) xs from by
            have := hT2.row (k + 1) (by omega)
            unfold mended at this
            rwa [if_neg (by omega), if_pos rfl] at this)
          have XL := hide (show (lvV ws (k + 1)).length = xs.length from xl.symm)
          have X64 := hide MM.out.1
          have xl2 : xs.length = (nb n (k + 1) + 63) / 64 := by rw [xl, UPL.out, E2.out]
          have hm := and63_nat y
          have MV := hide (show maskV ((y % 64 : Nat) : Int) 1 = maskN (y % 64) 1 from maskV_nat (y % 64) 1)
          have RD := hide (show OwnW wr.drew base (.slice (some ⟨G (k + 1), 0, none⟩) xs.length (C (k + 1))) xs from RO.out)
          have PT := hide (fun x => (show OwnT wr.drew base g (m + 1) G C (mended ws ws' k xs) from hT2.drewN 1).put (k + 1) (by omega) (y / 64) x)
          have FIN := hide (show ∀ (X : Nat) xs', xs.set (y / 64) X = xs' → OwnT ((wr.setCell ⟨G (k + 1), y / 64, none⟩ (.int .u64 (X : Int))).drew) base g (m + 1) G C (mended ws ws' k xs') ∧ Below base w ((wr.setCell ⟨G (k + 1), y / 64, none⟩ (.int .u64 (X : Int))).drew) ∧ OnlyU w ((wr.setCell ⟨G (k + 1), y / 64, none⟩ (.int .u64 (X : Int))).drew) from fun X xs' hX => by
            refine ⟨(PT.out X).congr fun i hi => ?_, (B2.out.setCell (World.ownsRow.lt RO.out (G (k + 1)) rfl).1 _).drew, O2.out.trans (OnlyU.put RO.out _ _)⟩
            unfold mended
            by_cases h1 : i = k + 1
            · subst h1; simp only [if_pos]; rw [if_neg (by omega), if_neg (by omega)]; exact hX
            · simp only [if_neg h1])
          have GB := hide (show base ≤ G (k + 1) from (World.ownsRow.lt RO.out (G (k + 1)) rfl).1)
          have SO := hide (set_one X64.out y (isFull (lvV ws' k) y) (by omega))
          have MS := hide (mid_step MM.out hy1 (by omega))
          have i1 : (y : Int) < ((lvV ws' k).length : Int) := by omega
          have i2 : ((lvV ws' k).length : Int) ≤ 1024 := by omega
          have i3 : (k : Int) < ((m + 1 : Nat) : Int) := by omega
          have y0 : (y : Int) ≤ 1023 := by omega
          have FULL := hide (show isFull (lvV ws' k) y = decide ((lvV ws' k).getD y 0 = 18446744073709551615) from rfl)
          clear hT2 rk xl
          generalize (lvV ws' k).getD y 0 = u at *
          obtain ⟨bb, z⟩ : ∃ bb, ((u : Int) == 18446744073709551615) = bb := ⟨_, rfl⟩
          have FB := hide (show isFull (lvV ws' k) y = bb by
            rw [FULL.out, ← z]
            by_cases hu : u = 18446744073709551615
            · rw [decide_eq_true hu, hu]; rfl
            · rw [decide_eq_false hu]; exact (beq_eq_false_iff_ne.2 (by omega)).symm)
          obtain ⟨X, hX⟩ : ∃ X, (if bb then xs.getD (y / 64) 0 ||| maskN (y % 64) 1 else xs.getD (y / 64) 0 &&& notV (maskN (y % 64) 1)) = X := ⟨_, rfl⟩
          have XX := hide hX
          have SX := hide (show xs.set (y / 64) X = setV xs y 1 bb by have := SO.out; rw [FB.out, XX.out] at this; exact this)
          have MX := hide (show Mid (lvV ws k) (lvV ws' k) A' (y + 1) (setV xs y 1 bb) by have := MS.out; rw [FB.out] at this; exact this)
          clear hX SO MS FULL FB PT GB RO MM B2 O2 T2 TT OU BEL AK BD L64 LN LN' TOP HH LU UPL E2
          go_wp2_with fail
          go_region_with (first | (go_at_call 39; refine (mask_to _ _ (maskN (y % 64) 1) (by exact MV.out) _ (by omega) (by omega) (by decide) (by decide)).mono ?_; rintro e w4 ⟨rfl, rfl⟩) | (go_at_call 38; refine (put_x base (G (k + 1)) (C (k + 1)) xs _ XL.out _ (y / 64) (by omega) (maskN (y % 64) 1) bb X XX.out _ RD.out X64.out (by omega) (by omega) (maskN_lt _ _)).mono ?_; rintro e w4 ⟨rfl, rfl⟩))
          all_goals
            go_wp2
            go_roundw
            case rel => exact ⟨y + 1, setV xs y 1 bb, by omega, by omega, by go_num, (FIN.out _ _ SX.out).1, MX.out, (FIN.out _ _ SX.out).2.1, (FIN.out _ _ SX.out).2.2⟩
            case measure => simp [intOf]; omega
    · obtain rfl : k = m := by omega
      have FT := hide (TT.out.congr (f' := lvV ws') fun i hi => by rw [if_pos (by omega)])
      clear hT
      go_wp2
      go_returns
      exact ⟨rfl, FT.out, BEL.out, OU.out⟩
end Go.Proofs.Ytpkcihfldmgehaa
