/- Several texts as one: TreeT, TreeS. -/
import Derived.Test.YtegolecdmpikhaaPackB
import Derived.Deep.RegionWith
/- tellAbove of package tree, as a contract: the levels above are mended. -/
namespace Go.Proofs.Ytegolecdmpikhaa
open Go.RowKit

/-- rows of words alone are turned -/
def OnlyU (w w' : World) : Prop := ∀ (k : Nat) (c : Array Value) (t : TypeId), w.heap[k]? = some (.cells c t (0, 0)) → t ≠ 80 → w'.heap[k]? = some (.cells c t (0, 0))
theorem OnlyU.refl (w : World) : OnlyU w w := fun _ _ _ h _ => h
theorem OnlyU.trans {a b c : World} (h : OnlyU a b) (k : OnlyU b c) : OnlyU a c := fun i x t hi ht => k i x t (h i x t hi ht) ht
theorem OnlyU.put {w : World} {base g cap : Nat} {ws : List Nat} (h : OwnW w base (.slice (some ⟨g, 0, none⟩) ws.length cap) ws) (j : Nat) (v : Value) : OnlyU w (w.setCell ⟨g, j, none⟩ v) := by
  intro k c t hk ht
  refine heap_set_other hk ?_ v
  rintro rfl
  obtain ⟨cur, hc⟩ := own_type h k rfl
  rw [hk] at hc
  simp at hc
  exact ht hc.2

/-- the levels, mended as far as level k, and level k + 1 in part -/
def mended (ws ws' : List Nat) (k : Nat) (xs : List Nat) (i : Nat) : List Nat := if i ≤ k then lvV ws' i else if i = k + 1 then xs else lvV ws i

theorem put_to (base g cap : Nat) (ws : List Nat) (N : Nat) (hN : N = ws.length) (x : Int) (k : Nat) (hx : x = k) (m : Nat) (on : Bool) (w : World) (h : OwnW w base (.slice (some ⟨g, 0, none⟩) ws.length cap) ws) (h64 : W64 ws) (hl : ws.length ≤ 65536) (hk : k < ws.length) (hm : m < 18446744073709551616) :
    Calls Try.prog 57 #[.slice (some ⟨g, 0, none⟩) N cap, .int .i64 x, .int .u64 (m : Int), .bool on] w fun e w' => e = .returned (.tuple #[]) ∧ w' = w.setCell ⟨g, k, none⟩ (.int .u64 (((if on then ws.getD k 0 ||| m else ws.getD k 0 &&& notV m : Nat)) : Int)) := by
  subst hx; subst hN; exact put_any base g cap ws k m on w h h64 hl hk hm
theorem put_x (base g cap : Nat) (ws : List Nat) (N : Nat) (hN : N = ws.length) (x : Int) (k : Nat) (hx : x = k) (m : Nat) (on : Bool) (X : Nat) (hX : (if on then ws.getD k 0 ||| m else ws.getD k 0 &&& notV m) = X) (w : World) (h : OwnW w base (.slice (some ⟨g, 0, none⟩) ws.length cap) ws) (h64 : W64 ws) (hl : ws.length ≤ 65536) (hk : k < ws.length) (hm : m < 18446744073709551616) :
    Calls Try.prog 57 #[.slice (some ⟨g, 0, none⟩) N cap, .int .i64 x, .int .u64 (m : Int), .bool on] w fun e w' => e = .returned (.tuple #[]) ∧ w' = w.setCell ⟨g, k, none⟩ (.int .u64 (X : Int)) := by
  subst hX; exact put_to base g cap ws N hN x k hx m on w h h64 hl hk hm

set_option maxHeartbeats 4000000 in
theorem tell_any (base g h cap n : Nat) (G C : Nat → Nat) (ws ws' : List Nat) (A B : Nat) (w : World) (hh : h = nLev n) (n1 : 1 ≤ n) (n2 : n ≤ 65536) (t : OwnT w base g h G C (fun i => if i ≤ 0 then lvV ws' i else lvV ws i)) (hc : h ≤ cap) (hcm : cap ≤ maxLen)
    (lev : Lev n ws) (lev' : Lev n ws') (al : Alike ws ws' A B) (AB : A ≤ B) (Bl : B < nb n 1) :
    Calls Try.prog 59 #[.slice (some ⟨g, 0, none⟩) h cap, .int .i64 (A : Int), .int .i64 (B : Int)] w fun e w' => e = .returned (.tuple #[]) ∧ OwnT w' base g h G C (lvV ws') ∧ Below base w w' ∧ OnlyU w w' := by
  have h3 := nLev_in n
  have hm : maxLen = 9223372036854775807 := rfl
  obtain ⟨m, rfl⟩ : ∃ m, h = m + 1 := ⟨h - 1, by omega⟩
  have LN := hide (fun k => lv_length lev k)
  have LN' := hide (fun k => lv_length lev' k)
  have BD := hide (fun k => nb_words n k n1 n2)
  have L64 := hide (fun k => (lev_lv lev' k).1)
  have T0 := hide t
  have AL := hide (show Alike (lvV ws 0) (lvV ws' 0) A B from al)
  have c1 : (1 : Int) ≤ (cap : Int) := by omega
  have c2 : (cap : Int) ≤ 9223372036854775807 := by omega
  have m1 : (m : Int) ≤ 2 := by omega
  have c3 : (m : Int) + 1 ≤ (cap : Int) := by omega
  have HH := hide hh
  have TOP := hide (fun k (hk : k < m + 1) => show nb n (k + 1) = 1 ↔ k + 1 = m + 1 by rw [hh] at hk ⊢; exact nb_top n k n1 n2 hk)
  clear t al lev lev' hh h3 hm
  by_cases hcap : cap = 1
  · obtain rfl : m = 0 := by omega
    subst hcap
    go_enter Try.func59, Try.ntmps59
    go_wp2
    refine wp_loop_rounds 1 ?_
    rw [rounds_succ]
    go_wp2
    go_returns
    exact ⟨rfl, T0.out.congr fun i hi => by rw [if_pos (by omega)], Below.refl _ _, OnlyU.refl _⟩
  have hcap' : ¬ ((cap : Int) = 1) := by omega
  go_enter Try.func59, Try.ntmps59
  go_wp2
  go_loopw [1, 2, 12] (fun a b i wr => ∃ k A' B' : Nat, k ≤ m ∧ a = .int .i64 (A' : Int) ∧ b = .int .i64 (B' : Int) ∧ i = .int .i64 (k : Int) ∧ OwnT wr base g (m + 1) G C (fun i => if i ≤ k then lvV ws' i else lvV ws i) ∧ Alike (lvV ws k) (lvV ws' k) A' B' ∧ A' ≤ B' ∧ B' < nb n (k + 1) ∧ Below base w wr ∧ OnlyU w wr) (fun _ _ i _ => (m - intOf i).toNat)
  case atStart => exact ⟨0, A, B, Nat.zero_le _, rfl, rfl, rfl, T0.out, AL.out, AB, Bl, Below.refl _ _, OnlyU.refl _⟩
  case round =>
    obtain ⟨k, A', B', hk, rfl, rfl, rfl, hT, hA, hAB, hB, hbel, hou⟩ := hrel
    have AK := hide hA
    have BEL := hide hbel
    have OU := hide hou
    have TT := hide hT
    have bd := BD.out k
    have B1 : (B' : Int) ≤ 1023 := by omega
    have A1 : (A' : Int) ≤ (B' : Int) := by omega
    clear hA hbel hou T0 AL
    rcases Nat.lt_or_ge k m with hkm | hkm
    · have km : (k : Int) < (m : Int) := by omega
      have cu : wr.cell? ⟨g, 1 + k, none⟩ = some (.slice (some ⟨G (k + 1), 0, none⟩) (lvV ws (k + 1)).length (C (k + 1))) := by
        have := hT.cell (k + 1) (by omega)
        rw [if_neg (by omega)] at this
        rw [Nat.add_comm 1 k]; exact this
      have T1 := hide (show OwnT wr base g (m + 1) G C (mended ws ws' k (upLv (lvV ws k))) from hT.congr fun i hi => by
        unfold mended
        by_cases h1 : i ≤ k
        · rw [if_pos h1, if_pos h1]
        · rw [if_neg h1, if_neg h1]
          by_cases h2 : i = k + 1
          · subst h2; rw [if_pos rfl]; rfl
          · rw [if_neg h2])
      have UPL := hide (show (upLv (lvV ws k)).length = nb n (k + 1 + 1) from LN.out (k + 1))
      have bd2 := BD.out (k + 1)
      have e2 : nb n (k + 1 + 1) = (nb n (k + 1) + 63) / 64 := rfl
      have E2 := hide e2
      have LU := hide (LN.out (k + 1))
      clear hT e2
      go_wp2
      go_loopw [8] (fun t w2 => ∃ (y : Nat) (xs : List Nat), A' ≤ y ∧ y ≤ B' + 1 ∧ t = .int .i64 (y : Int) ∧ OwnT w2 base g (m + 1) G C (mended ws ws' k xs) ∧ Mid (lvV ws k) (lvV ws' k) A' y xs ∧ Below base w w2 ∧ OnlyU w w2) (fun t _ => (B' + 1 - intOf t).toNat)
      case atStart => exact ⟨A', _, Nat.le_refl _, by omega, rfl, T1.out, mid_start _ _ _, BEL.out, OU.out⟩
      case round =>
        obtain ⟨y, xs, hy1, hy2, rfl, hT2, hM, hbel2, hou2⟩ := hrel
        have MM := hide hM
        have B2 := hide hbel2
        have O2 := hide hou2
        have T2 := hide hT2
        have xl := hM.2.1
        clear hM hbel2 hou2 T1
        rcases Nat.lt_or_ge B' y with hyB | hyB
        · obtain rfl : y = B' + 1 := by omega
          have y1 : (B' : Int) < ((B' + 1 : Nat) : Int) := by omega
          have E := hide (mid_end MM.out (by rw [LN.out, LN'.out]) AK.out (by rw [LN.out]; exact hB))
          have FT := hide (show OwnT wr base g (m + 1) G C (fun i => if i ≤ k + 1 then lvV ws' i else lvV ws i) from hT2.congr fun i hi => by
            unfold mended
            by_cases h1 : i ≤ k
            · rw [if_pos h1, if_pos (by omega)]
            · rw [if_neg h1]
              by_cases h2 : i = k + 1
              · subst h2; rw [if_pos rfl, if_pos (Nat.le_refl _)]; exact E.out
              · rw [if_neg h2, if_neg (by omega)])
          have AN := hide (show Alike (lvV ws (k + 1)) (lvV ws' (k + 1)) (A' / 64) (B' / 64) from alike_up AK.out (by rw [LN.out, LN'.out]))
          clear hT2 xl
          go_wp2
          go_roundw
          case rel => exact ⟨k + 1, A' / 64, B' / 64, by omega, by go_num, by go_num, by go_num, FT.out, AN.out, by omega, by have := E2.out; omega, B2.out, O2.out⟩
          case measure => simp [intOf]; omega
        · have y1 : (y : Int) ≤ (B' : Int) := by omega
          have cg : wr.cell? ⟨g, k, none⟩ = some (.slice (some ⟨G k, 0, none⟩) (lvV ws' k).length (C k)) := by
            have := hT2.cell k (by omega)
            unfold mended at this
            rwa [if_pos (Nat.le_refl _)] at this
          have rk : OwnW wr base (.slice (some ⟨G k, 0, none⟩) (lvV ws' k).length (C k)) (lvV ws' k) := by
            have := hT2.row k (by omega)
            unfold mended at this
            rwa [if_pos (Nat.le_refl _)] at this
          have ll := LN'.out k
          have cy := rk.cell y (by omega)
          have RO := hide (show OwnW wr base (.slice (some ⟨G (k + 1), 0, none⟩) xs.length (C (k + 1))) xs from by
            have := hT2.row (k + 1) (by omega)
            unfold mended at this
            rwa [if_neg (by omega), if_pos rfl] at this)
          have XL := hide (show (lvV ws (k + 1)).length = xs.length from xl.symm)
          have X64 := hide MM.out.1
          have xl2 : xs.length = (nb n (k + 1) + 63) / 64 := by rw [xl, UPL.out, E2.out]
          have hm := and63_nat y
          have MV := hide (show maskV ((y % 64 : Nat) : Int) 1 = maskN (y % 64) 1 from maskV_nat (y % 64) 1)
          have RD := hide (show OwnW wr.drew base (.slice (some ⟨G (k + 1), 0, none⟩) xs.length (C (k + 1))) xs from RO.out)
          have PT := hide (fun x => (show OwnT wr.drew base g (m + 1) G C (mended ws ws' k xs) from hT2.drewN 1).put (k + 1) (by omega) (y / 64) x)
          have FIN := hide (show ∀ (X : Nat) xs', xs.set (y / 64) X = xs' → OwnT ((wr.setCell ⟨G (k + 1), y / 64, none⟩ (.int .u64 (X : Int))).drew) base g (m + 1) G C (mended ws ws' k xs') ∧ Below base w ((wr.setCell ⟨G (k + 1), y / 64, none⟩ (.int .u64 (X : Int))).drew) ∧ OnlyU w ((wr.setCell ⟨G (k + 1), y / 64, none⟩ (.int .u64 (X : Int))).drew) from fun X xs' hX => by
            refine ⟨(PT.out X).congr fun i hi => ?_, (B2.out.setCell (World.ownsRow.lt RO.out (G (k + 1)) rfl).1 _).drew, O2.out.trans (OnlyU.put RO.out _ _)⟩
            unfold mended
            by_cases h1 : i = k + 1
            · subst h1; simp only [if_pos]; rw [if_neg (by omega), if_neg (by omega)]; exact hX
            · simp only [if_neg h1])
          have GB := hide (show base ≤ G (k + 1) from (World.ownsRow.lt RO.out (G (k + 1)) rfl).1)
          have SO := hide (set_one X64.out y (isFull (lvV ws' k) y) (by omega))
          have MS := hide (mid_step MM.out hy1 (by omega))
          have i1 : (y : Int) < ((lvV ws' k).length : Int) := by omega
          have i2 : ((lvV ws' k).length : Int) ≤ 1024 := by omega
          have i3 : (k : Int) < ((m + 1 : Nat) : Int) := by omega
          have y0 : (y : Int) ≤ 1023 := by omega
          have FULL := hide (show isFull (lvV ws' k) y = decide ((lvV ws' k).getD y 0 = 18446744073709551615) from rfl)
          clear hT2 rk xl
          generalize (lvV ws' k).getD y 0 = u at *
          obtain ⟨bb, z⟩ : ∃ bb, ((u : Int) == 18446744073709551615) = bb := ⟨_, rfl⟩
          have FB := hide (show isFull (lvV ws' k) y = bb by
            rw [FULL.out, ← z]
            by_cases hu : u = 18446744073709551615
            · rw [decide_eq_true hu, hu]; rfl
            · rw [decide_eq_false hu]; exact (beq_eq_false_iff_ne.2 (by omega)).symm)
          obtain ⟨X, hX⟩ : ∃ X, (if bb then xs.getD (y / 64) 0 ||| maskN (y % 64) 1 else xs.getD (y / 64) 0 &&& notV (maskN (y % 64) 1)) = X := ⟨_, rfl⟩
          have XX := hide hX
          have SX := hide (show xs.set (y / 64) X = setV xs y 1 bb by have := SO.out; rw [FB.out, XX.out] at this; exact this)
          have MX := hide (show Mid (lvV ws k) (lvV ws' k) A' (y + 1) (setV xs y 1 bb) by have := MS.out; rw [FB.out] at this; exact this)
          clear hX SO MS FULL FB PT GB RO MM B2 O2 T2 TT OU BEL AK BD L64 LN LN' TOP HH LU UPL E2
          go_wp2_with fail
          go_region_with (first | (go_at_call 58; refine (mask_to _ _ (maskN (y % 64) 1) (by exact MV.out) _ (by omega) (by omega) (by decide) (by decide)).mono ?_; rintro e w4 ⟨rfl, rfl⟩) | (go_at_call 57; refine (put_x base (G (k + 1)) (C (k + 1)) xs _ XL.out _ (y / 64) (by omega) (maskN (y % 64) 1) bb X XX.out _ RD.out X64.out (by omega) (by omega) (maskN_lt _ _)).mono ?_; rintro e w4 ⟨rfl, rfl⟩))
          all_goals
            go_wp2
            go_roundw
            case rel => exact ⟨y + 1, setV xs y 1 bb, by omega, by omega, by go_num, (FIN.out _ _ SX.out).1, MX.out, (FIN.out _ _ SX.out).2.1, (FIN.out _ _ SX.out).2.2⟩
            case measure => simp [intOf]; omega
    · obtain rfl : k = m := by omega
      have FT := hide (TT.out.congr (f' := lvV ws') fun i hi => by rw [if_pos (by omega)])
      clear hT
      go_wp2
      go_returns
      exact ⟨rfl, FT.out, BEL.out, OU.out⟩
end Go.Proofs.Ytegolecdmpikhaa
/- Set of package tree, as a contract: the tree with a piece set or not, in new memory. -/
namespace Go.Proofs.Ytegolecdmpikhaa
open Go.RowKit

/-- the way out: the tree is handed over in the result's block -/
theorem set_out {w wz : World} {base g n cap R : Nat} {G C : Nat → Nat} {ws : List Nat} (t : OwnT wz base g (nLev n) G C (lvV ws)) (n1 : 1 ≤ n) (n2 : n ≤ 65536) (hl : Lev n ws) (hR : wz.heap[R]? = some (.cells #[.int .i64 0, .slice none 0 0] 61 (0, 0))) (hb : w.heap.size ≤ R) (hf : Fresh w wz) :
    TreeNew base ((wz.setCell ⟨R, 0, none⟩ (.int .i64 (n : Int))).setCell ⟨R, 1, none⟩ (.slice (some ⟨g, 0, none⟩) (nLev n) cap)) (.agg #[.int .i64 (n : Int), .slice (some ⟨g, 0, none⟩) (nLev n) cap]) n ws ∧
    Fresh w ((wz.setCell ⟨R, 0, none⟩ (.int .i64 (n : Int))).setCell ⟨R, 1, none⟩ (.slice (some ⟨g, 0, none⟩) (nLev n) cap)) ∧
    ((wz.setCell ⟨R, 0, none⟩ (.int .i64 (n : Int))).setCell ⟨R, 1, none⟩ (.slice (some ⟨g, 0, none⟩) (nLev n) cap)).cell? ⟨R, 0, none⟩ = some (.int .i64 (n : Int)) ∧
    ((wz.setCell ⟨R, 0, none⟩ (.int .i64 (n : Int))).setCell ⟨R, 1, none⟩ (.slice (some ⟨g, 0, none⟩) (nLev n) cap)).cell? ⟨R, 1, none⟩ = some (.slice (some ⟨g, 0, none⟩) (nLev n) cap) := by
  have h2 := two_cells hR (.int .i64 (n : Int)) (.slice (some ⟨g, 0, none⟩) (nLev n) cap)
  exact ⟨((t.store hR 0 _).store (heap_set_same hR _) 1 _).new n1 n2 hl, (hf.setCell hb _).setCell hb _, cell_block h2 0 _ rfl, cell_block h2 1 _ rfl⟩

/-- the worlds ahead of clone -/
theorem set_start (w : World) (c : Array Value) : ∃ W1, W1 = (w.alloc (.cells c 61)).alloc (.cells #[.int .i64 0, .slice none 0 0] 61) ∧ Fresh w W1 ∧ W1.heap.size = w.heap.size + 2 ∧ W1.heap[w.heap.size]? = some (.cells c 61 (0, 0)) ∧ W1.heap[w.heap.size + 1]? = some (.cells #[.int .i64 0, .slice none 0 0] 61 (0, 0)) := by
  refine ⟨_, rfl, fresh_more (fresh_box w _ _) _ _, by simp, ?_, ?_⟩
  · rw [(fresh_box (w.alloc (.cells c 61)) #[.int .i64 0, .slice none 0 0] 61).block w.heap.size (by simp)]
    exact heap_alloc_new w _
  · have := heap_alloc_new (w.alloc (.cells c 61)) (.cells #[.int .i64 0, .slice none 0 0] 61 (0, 0))
    rw [show (w.alloc (.cells c 61)).heap.size = w.heap.size + 1 by simp] at this
    exact this

set_option maxHeartbeats 1000000 in
theorem tset_none (v : Value) (n : Nat) (ws : List Nat) (f m : Int) (on : Bool) (w : World) (h : TreeAt w v n ws) (hc : f < 0 ∨ m < 1 ∨ (n : Int) ≤ f) :
    Calls Try.prog 39 #[v, .int .i64 f, .int .i64 m, .bool on] w fun e w' => ∃ v', e = .returned v' ∧ TreeNew w.heap.size w' v' n ws ∧ Fresh w w' := by
  have T := hide h
  obtain ⟨n1, n2, hlev, a, cap, rfl, hlv⟩ := h
  have q2 : (n : Int) ≤ 65536 := by omega
  obtain ⟨W1, hW1, FW, SW, BX, RX⟩ := set_start w #[.int .i64 (n : Int), .slice a (nLev n) cap]
  have CL := hide (clone_any _ n ws W1 (T.out.fresh FW))
  have HW := hide hW1
  have FWH := hide FW
  have bx0 := cell_block BX 0 _ rfl
  have bx1 := cell_block BX 1 _ rfl
  have BXH := hide BX
  have RXH := hide RX
  have LE := hide hlev
  clear hlv hlev hW1 FW BX RX T
  have OUT := hide (fun (wz : World) (g c : Nat) (G C : Nat → Nat) (t : OwnT wz W1.heap.size g (nLev n) G C (lvV ws)) hR (hf : Fresh w wz) => set_out (w := w) (R := w.heap.size + 1) (cap := c) t n1 n2 LE.out hR (by omega) hf)
  go_enter Try.func39, Try.ntmps39
  go_wp2_with fail
  rw [← HW.out]
  refine CL.out.mono ?_
  rintro e w1 ⟨g, c1, G, C, rfl, ho, hf, hc1, hc2⟩
  obtain ⟨w2, hw2⟩ : ∃ w2, w2 = w1.alloc (.cells #[.int .i64 (n : Int), .slice (some ⟨g, 0, none⟩) (nLev n) c1] 61) := ⟨_, rfl⟩
  have F12 : Fresh w1 w2 := by subst hw2; exact fresh_box w1 _ _
  have OX : w2.heap[w1.heap.size]? = some (.cells #[.int .i64 (n : Int), .slice (some ⟨g, 0, none⟩) (nLev n) c1] 61 (0, 0)) := by subst hw2; exact heap_alloc_new w1 _
  have RX2 : w2.heap[w.heap.size + 1]? = some (.cells #[.int .i64 0, .slice none 0 0] 61 (0, 0)) := by rw [(hf.trans F12).block (w.heap.size + 1) (by omega)]; exact RXH.out
  have BX2 : w2.heap[w.heap.size]? = some (.cells #[.int .i64 (n : Int), .slice a (nLev n) cap] 61 (0, 0)) := by rw [(hf.trans F12).block w.heap.size (by omega)]; exact BXH.out
  have ON := hide (OUT.out w2 g c1 G C (ho.fresh F12) RX2 ((FWH.out.trans hf).trans F12))
  have c0 := cell_block OX 0 _ rfl
  have c3 := cell_block OX 1 _ rfl
  have r0 := cell_block RX2 0 _ rfl
  have r1 := cell_block RX2 1 _ rfl
  have f0 := free_block RX2 0
  have f1 := free_block RX2 1
  have b0 := cell_block BX2 0 _ rfl
  have HW2 := hide hw2
  clear ho hf hc1 hc2 hw2 F12 OX RX2 BX2 CL OUT bx0 bx1
  generalize nLev n = N at *
  have CC : (f < 0) ∨ (0 ≤ f ∧ m < 1) ∨ (0 ≤ f ∧ 1 ≤ m ∧ (n : Int) ≤ f) := by omega
  clear hc
  rcases CC with h1 | ⟨h1, h2⟩ | ⟨h1, h2, h3⟩
  all_goals
    rw [HW2.out] at c0 c3 r0 r1 f0 f1 b0 ON
    go_wp2
    obtain ⟨o1, o2, h0, h1⟩ := ON.out
    have O1 := hide o1
    have O2 := hide o2
    clear o1 o2 ON c0 c3 r0 r1 f0 f1 b0
    generalize World.setCell _ ⟨w.heap.size + 1, 1, none⟩ _ = W at O1 O2 h0 h1 ⊢
    refine bodyPost_ret (by simp [results, Try.results39, go_sem, h0, h1]; try rfl) rfl ?_
    exact ⟨_, rfl, O1.out.mono (by omega), O2.out⟩

theorem Fresh.trans' {a b c : World} (h : Fresh a b) (k : Below a.heap.size b c) : Fresh a c := Below.trans h k
/-- level 0 as far as it was set -/
def partly (ws : List Nat) (F j en : Nat) (on : Bool) (i : Nat) : List Nat := if i ≤ 0 then setV ws F (min j en - F) on else lvV ws i

set_option maxHeartbeats 4000000 in
theorem tset_main (v : Value) (n : Nat) (ws : List Nat) (F M : Nat) (fi mi : Int) (hfi : fi = F) (hmi : mi = M) (on : Bool) (w : World) (h : TreeAt w v n ws) (hF : F < n) (hM : 1 ≤ M) (hMm : mi ≤ 9223372036854775807) :
    Calls Try.prog 39 #[v, .int .i64 fi, .int .i64 mi, .bool on] w fun e w' => ∃ v', e = .returned v' ∧ TreeNew w.heap.size w' v' n (setV ws F (min M (n - F)) on) ∧ Fresh w w' := by
  have T := hide h
  obtain ⟨n1, n2, hlev, a, cap, rfl, hlv⟩ := h
  have q2 : (n : Int) ≤ 65536 := by omega
  obtain ⟨W1, hW1, FW, SW, BX, RX⟩ := set_start w #[.int .i64 (n : Int), .slice a (nLev n) cap]
  have CL := hide (clone_any _ n ws W1 (T.out.fresh FW))
  have HW := hide hW1
  have FWH := hide FW
  have bx0 := cell_block BX 0 _ rfl
  have bx1 := cell_block BX 1 _ rfl
  have BXH := hide BX
  have RXH := hide RX
  have LE := hide hlev
  have hlen1 : n ≤ 64 * ws.length := by have := hlev.2.1; omega
  have hlen2 : ws.length ≤ 1024 := by have := hlev.2.1; omega
  have A64 := hide hlev.1
  have hh := nLev_in n
  -- where it ends
  obtain ⟨en, hen⟩ : ∃ en, en = F + min M (n - F) := ⟨_, rfl⟩
  have e1 : F < en := by omega
  have e2 : en ≤ n := by omega
  have SET := hide (show setV ws F (min en en - F) on = setV ws F (min M (n - F)) on by rw [Nat.min_self, hen, Nat.add_sub_cancel_left])
  have LEV' := hide (lev_setV hlev F (min M (n - F)) on (by omega))
  have ALK := hide (show Alike ws (setV ws F (min M (n - F)) on) (F / 64) ((en - 1) / 64) by rw [hen]; exact alike_set hlev F _ on (by omega))
  have ENI := hide (show fi + min mi ((n : Int) - fi) = (en : Int) by omega)
  have hmin1 : min mi ((n : Int) - fi) ≤ (n : Int) - fi := Int.min_le_right _ _
  have hmin2 : 1 ≤ min mi ((n : Int) - fi) := by omega
  have g0 : 0 ≤ fi := by omega
  have g1 : 1 ≤ mi := by omega
  have g2 : fi < (n : Int) := by omega
  have HFI := hide hfi
  clear hlv hlev hW1 FW BX RX hen hfi hmi
  have OUT := hide (fun (wz : World) (g c : Nat) (G C : Nat → Nat) (t : OwnT wz W1.heap.size g (nLev n) G C (lvV (setV ws F (min M (n - F)) on))) hR (hf : Fresh w wz) => set_out (w := w) (R := w.heap.size + 1) (cap := c) t n1 n2 LEV'.out hR (by omega) hf)
  go_enter Try.func39, Try.ntmps39
  go_wp2_with fail
  rw [← HW.out]
  refine CL.out.mono ?_
  rintro e w1 ⟨g, c1, G, C, rfl, ho, hf, hc1, hc2⟩
  obtain ⟨w2, hw2⟩ : ∃ w2, w2 = w1.alloc (.cells #[.int .i64 (n : Int), .slice (some ⟨g, 0, none⟩) (nLev n) c1] 61) := ⟨_, rfl⟩
  have F12 : Fresh w1 w2 := by subst hw2; exact fresh_box w1 _ _
  have OX : w2.heap[w1.heap.size]? = some (.cells #[.int .i64 (n : Int), .slice (some ⟨g, 0, none⟩) (nLev n) c1] 61 (0, 0)) := by subst hw2; exact heap_alloc_new w1 _
  have BX2 : w2.heap[w.heap.size]? = some (.cells #[.int .i64 (n : Int), .slice a (nLev n) cap] 61 (0, 0)) := by rw [(hf.trans F12).block w.heap.size (by omega)]; exact BXH.out
  have RX2 : w2.heap[w.heap.size + 1]? = some (.cells #[.int .i64 0, .slice none 0 0] 61 (0, 0)) := by rw [(hf.trans F12).block (w.heap.size + 1) (by omega)]; exact RXH.out
  have MAY := hide (may_true _ n ws w2 (T.out.fresh ((FWH.out.trans hf).trans F12)))
  have HO := hide (ho.fresh F12)
  have FR2 := hide ((FWH.out.trans hf).trans F12)
  have OXH := hide OX
  have BXH2 := hide BX2
  have RXH2 := hide RX2
  have b0 := cell_block BX2 0 _ rfl
  have b1 := cell_block BX2 1 _ rfl
  have HW2 := hide hw2
  have HC1 := hide hc1
  have HC2 := hide hc2
  have F12H := hide F12
  clear ho hf hc1 hc2 hw2 F12 OX BX2 RX2 CL bx0 bx1
  rw [HW2.out] at b0 b1
  go_wp2_with fail
  rw [← HW2.out]
  refine MAY.out.mono ?_
  rintro e w3 ⟨rfl, f3⟩
  have TO := hide (HO.out.fresh f3)
  have OX3 : w3.heap[w1.heap.size]? = some (.cells #[.int .i64 (n : Int), .slice (some ⟨g, 0, none⟩) (nLev n) c1] 61 (0, 0)) := by rw [f3.block w1.heap.size (Array.getElem?_eq_some_iff.1 OXH.out).1]; exact OXH.out
  have BX3 : w3.heap[w.heap.size]? = some (.cells #[.int .i64 (n : Int), .slice a (nLev n) cap] 61 (0, 0)) := by rw [f3.block w.heap.size (Array.getElem?_eq_some_iff.1 BXH2.out).1]; exact BXH2.out
  have RX3 : w3.heap[w.heap.size + 1]? = some (.cells #[.int .i64 0, .slice none 0 0] 61 (0, 0)) := by rw [f3.block (w.heap.size + 1) (Array.getElem?_eq_some_iff.1 RXH2.out).1]; exact RXH2.out
  have FR3 := hide (FR2.out.trans f3)
  have OXH3 := hide OX3
  have RXH3 := hide RX3
  have d0 := cell_block BX3 0 _ rfl
  clear f3 OX3 BX3 RX3 MAY HO FR2 OXH BXH2 RXH2 b0 b1 T BXH RXH
  go_wp2
  rw [ENI.out]
  generalize hBase : W1.heap.size = base at *
  generalize hN : nLev n = N at *
  have bw : w.heap.size ≤ base := by omega
  have T3 := hide (show OwnT w3 base g N G C (partly ws F F en on) from TO.out.congr fun i hi => by
    unfold partly
    by_cases h1 : i ≤ 0
    · obtain rfl : i = 0 := by omega
      rw [if_pos (Nat.le_refl _), show min F en - F = 0 by omega, set_none A64.out]; rfl
    · rw [if_neg h1])
  clear TO
  go_loopw [11] (fun i wr => ∃ j : Nat, F ≤ j ∧ i = .int .i64 (j : Int) ∧ OwnT wr base g N G C (partly ws F j en on) ∧ Below base w3 wr ∧ OnlyU w3 wr) (fun i _ => (en - intOf i).toNat)
  case atStart => exact ⟨F, Nat.le_refl _, by rw [HFI.out], T3.out, Below.refl _ _, OnlyU.refl _⟩
  case round =>
    obtain ⟨j, hj, rfl, hT, hB, hO⟩ := hrel
    have TT := hide hT
    have BB := hide hB
    have OO := hide hO
    have oc : wr.cell? ⟨w1.heap.size, 1, none⟩ = some (.slice (some ⟨g, 0, none⟩) N c1) := cell_block (hO _ _ _ OXH3.out (by decide)) 1 _ rfl
    have oc0 : wr.cell? ⟨w1.heap.size, 0, none⟩ = some (.int .i64 (n : Int)) := cell_block (hO _ _ _ OXH3.out (by decide)) 0 _ rfl
    have N1 : (1 : Int) ≤ (N : Int) := by omega
    have N3 : (N : Int) ≤ 3 := by omega
    clear hB hO T3
    by_cases hje : j < en
    · have j1 : (j : Int) < (en : Int) := by omega
      have j2 : (en : Int) ≤ 65536 := by omega
      have pj : partly ws F j en on 0 = setV ws F (j - F) on := by unfold partly; rw [if_pos (Nat.le_refl _), Nat.min_eq_left (by omega)]
      have cg : wr.cell? ⟨g, 0, none⟩ = some (.slice (some ⟨G 0, 0, none⟩) ws.length (C 0)) := by
        have := hT.cell 0 (by omega)
        rw [pj, setV_length] at this
        exact this
      have RO := hide (show OwnW wr base (.slice (some ⟨G 0, 0, none⟩) (setV ws F (j - F) on).length (C 0)) (setV ws F (j - F) on) by have := hT.row 0 (by omega); rw [pj] at this; exact this)
      have RD := hide (show OwnW wr.drew base (.slice (some ⟨G 0, 0, none⟩) (setV ws F (j - F) on).length (C 0)) (setV ws F (j - F) on) from RO.out)
      have XL := hide (show ws.length = (setV ws F (j - F) on).length from (setV_length _ _ _ _).symm)
      have X64 := hide (setV_64 A64.out F (j - F) on)
      have SW2 := hide (setV_word A64.out F j en on hj hje (by omega))
      have hm := and63_nat j
      have s1 : (en : Int) - (j : Int) = ((en - j : Nat) : Int) := by omega
      have s2 : IntKind.i64.wrap ((en - j : Nat) : Int) = ((en - j : Nat) : Int) := by rw [IntKind.wrap_i64]; omega
      have MV := hide (show maskV ((j % 64 : Nat) : Int) ((en - j : Nat) : Int) = maskN (j % 64) (en - j) from maskV_nat (j % 64) (en - j))
      have j3 : (j : Int) / 64 < (ws.length : Int) := by omega
      have j4 : (ws.length : Int) ≤ 1024 := by omega
      have FIN := hide (show ∀ (X : Nat), (setV ws F (j - F) on).set (j / 64) X = setV ws F (min (64 * (j / 64 + 1)) en - F) on → OwnT ((wr.setCell ⟨G 0, j / 64, none⟩ (.int .u64 (X : Int))).drew) base g N G C (partly ws F (64 * (j / 64 + 1)) en on) ∧ Below base w3 ((wr.setCell ⟨G 0, j / 64, none⟩ (.int .u64 (X : Int))).drew) ∧ OnlyU w3 ((wr.setCell ⟨G 0, j / 64, none⟩ (.int .u64 (X : Int))).drew) from fun X hX => by
        refine ⟨(show OwnT ((wr.drew.setCell ⟨G 0, j / 64, none⟩ (.int .u64 (X : Int)))) base g N G C _ from (show OwnT wr.drew base g N G C (partly ws F j en on) from TT.out.drewN 1).put 0 (by omega) (j / 64) X).congr fun i hi => ?_, (BB.out.setCell (World.ownsRow.lt RO.out (G 0) rfl).1 _).drew, OO.out.trans (OnlyU.put RO.out _ _)⟩
        by_cases h1 : i = 0
        · subst h1
          simp only [if_pos]
          rw [pj, hX]
          unfold partly
          rw [if_pos (Nat.le_refl _)]
        · simp only [if_neg h1]
          unfold partly
          rw [if_neg (by omega), if_neg (by omega)])
      obtain ⟨X, hX⟩ : ∃ X, (if on then (setV ws F (j - F) on).getD (j / 64) 0 ||| maskN (j % 64) (en - j) else (setV ws F (j - F) on).getD (j / 64) 0 &&& notV (maskN (j % 64) (en - j))) = X := ⟨_, rfl⟩
      have XX := hide hX
      have S1 := hide (show (setV ws F (j - F) on).set (j / 64) X = setV ws F (min (64 * (j / 64 + 1)) en - F) on by rw [← XX.out]; exact SW2.out)
      have FF := hide (FIN.out X S1.out)
      clear hT pj hX SW2 S1 FIN RO TT BB OO SET LEV' ALK ENI HFI OUT HC1 HC2 F12H LE OXH3 RXH3 FR3 A64 HW FWH HW2 d0 hmin1 hmin2 oc0
      go_wp2_with fail
      go_region_with (first | (go_at_call 58; refine (mask_to _ _ (maskN (j % 64) (en - j)) (by exact MV.out) _ (by omega) (by omega) (by omega) (by omega)).mono ?_; rintro e w4 ⟨rfl, rfl⟩) | (go_at_call 57; refine (put_x base (G 0) (C 0) (setV ws F (j - F) on) _ XL.out _ (j / 64) (by omega) (maskN (j % 64) (en - j)) on X XX.out _ RD.out X64.out (by rw [← XL.out]; omega) (by rw [← XL.out]; omega) (maskN_lt _ _)).mono ?_; rintro e w4 ⟨rfl, rfl⟩))
      all_goals
        go_wp2
        go_roundw
        case rel => exact ⟨64 * (j / 64 + 1), by omega, by go_num, FF.out.1, FF.out.2.1, FF.out.2.2⟩
        case measure => simp [intOf]; omega
    · have j1 : (en : Int) ≤ (j : Int) := by omega
      have TE := hide (show OwnT wr base g N G C (fun i => if i ≤ 0 then lvV (setV ws F (min M (n - F)) on) i else lvV ws i) from hT.congr fun i hi => by
        unfold partly
        by_cases h1 : i ≤ 0
        · obtain rfl : i = 0 := by omega
          rw [if_pos (Nat.le_refl _), if_pos (Nat.le_refl _), Nat.min_eq_right (by omega)]
          have := SET.out
          rw [Nat.min_self] at this
          exact this
        · rw [if_neg h1, if_neg h1])
      have TL := hide (tell_any base g N c1 n G C ws (setV ws F (min M (n - F)) on) (F / 64) ((en - 1) / 64) wr hN.symm n1 n2 TE.out HC1.out HC2.out LE.out LEV'.out ALK.out (by omega) (show (en - 1) / 64 < (n + 63) / 64 by omega))
      have t1 : fi / 64 = ((F / 64 : Nat) : Int) := by have := HFI.out; omega
      have t2 : ((en : Int) - 1) / 64 = (((en - 1) / 64 : Nat) : Int) := by omega
      clear hT
      go_wp2_with fail
      refine TL.out.mono ?_
      rintro e w5 ⟨rfl, t5, b5, o5⟩
      have RX5 := OO.out.trans o5 _ _ _ RXH3.out (by decide)
      have OX5 := OO.out.trans o5 _ _ _ OXH3.out (by decide)
      have ON := hide (OUT.out w5 g c1 G C t5 RX5 (FR3.out.trans' ((BB.out.trans b5).mono bw)))
      have c0 := cell_block OX5 0 _ rfl
      have c3 := cell_block OX5 1 _ rfl
      have r0 := cell_block RX5 0 _ rfl
      have r1 := cell_block RX5 1 _ rfl
      have f0 := free_block RX5 0
      have f1 := free_block RX5 1
      clear t5 b5 o5 RX5 OX5 TL TE OUT BB OO TT oc oc0
      go_wp2
      obtain ⟨o1, o2, h0, h1⟩ := ON.out
      have O1 := hide o1
      have O2 := hide o2
      clear o1 o2 ON c0 c3 r0 r1 f0 f1
      generalize World.setCell _ ⟨w.heap.size + 1, 1, none⟩ _ = W at O1 O2 h0 h1 ⊢
      refine bodyPost_ret (by simp [results, Try.results39, go_sem, h0, h1]; try rfl) rfl ?_
      exact ⟨_, rfl, O1.out.mono (by omega), O2.out⟩
theorem tset_any (v : Value) (n : Nat) (ws : List Nat) (f m : Int) (on : Bool) (w : World) (h : TreeAt w v n ws) (hm : m ≤ 9223372036854775807) :
    Calls Try.prog 39 #[v, .int .i64 f, .int .i64 m, .bool on] w fun e w' => ∃ v', e = .returned v' ∧ TreeNew w.heap.size w' v' n (setT n ws f m on) ∧ Fresh w w' := by
  by_cases hc : f < 0 ∨ m < 1 ∨ (n : Int) ≤ f
  · rw [setT_none h.lev f m on hc]
    exact tset_none v n ws f m on w h hc
  · have e : setT n ws f m on = setV ws f.toNat (min m.toNat (n - f.toNat)) on := by unfold setT; rw [if_neg (by omega)]
    rw [e]
    exact tset_main v n ws f.toNat m.toNat f m (by omega) (by omega) on w h (by omega) (by omega) hm
end Go.Proofs.Ytegolecdmpikhaa
