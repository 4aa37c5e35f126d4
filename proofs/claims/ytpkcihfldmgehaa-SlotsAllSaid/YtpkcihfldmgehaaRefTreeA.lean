/- The document's own answers to tree that read (hodmanref3's Bits, First, SameTree), as contracts; rows of bools in memory. -/
import Derived.Test.YtpkcihfldmgehaaTreeGrow
import Derived.Test.YtpkcihfldmgehaaTreeB
import Derived.Test.YtpkcihfldmgehaaRefRow
namespace Go.Proofs.Ytpkcihfldmgehaa
open Go.RowKit

/-- bools as values -/
def bvals (bs : List Bool) : List Value := bs.map Value.bool
theorem bvals_length (bs : List Bool) : (bvals bs).length = bs.length := by unfold bvals; rw [List.length_map]
theorem bvals_get (bs : List Bool) (i : Nat) (hi : i < bs.length) : (bvals bs)[i]? = some (.bool (bs.getD i false)) := by
  unfold bvals
  simp [List.getElem?_eq_getElem hi, List.getD_eq_getElem?_getD]
/-- bools in new memory -/
def OwnB (w : World) (base : Nat) (v : Value) (bs : List Bool) : Prop := w.ownsRow base 4 1 v bs.length (bvals bs)
/-- bools that are read -/
def BoolsAt (w : World) (v : Value) (bs : List Bool) : Prop :=
  ∃ a cap, v = .slice a bs.length cap ∧ ∀ i, i < bs.length → ∃ b o, a = some ⟨b, o, none⟩ ∧ w.cell? ⟨b, o + i, none⟩ = some (.bool (bs.getD i false))
theorem BoolsAt.fresh {w w' : World} {v : Value} {bs : List Bool} (h : BoolsAt w v bs) (k : Fresh w w') : BoolsAt w' v bs := by
  obtain ⟨a, cap, rfl, hc⟩ := h
  refine ⟨a, cap, rfl, fun i hi => ?_⟩
  obtain ⟨b, o, e, hcell⟩ := hc i hi
  exact ⟨b, o, e, (k.cell (World.block_lt_of_cell? _ _ hcell)).trans hcell⟩
theorem OwnB.at {w : World} {base : Nat} {v : Value} {bs : List Bool} (h : OwnB w base v bs) : BoolsAt w v bs := by
  have h0 := h
  rcases h.2 with ⟨rfl, hn⟩ | ⟨g, cap, cur, rfl, hb, hg, hc⟩
  · exact ⟨none, 0, by rw [hn], fun i hi => by omega⟩
  · refine ⟨_, cap, rfl, fun i hi => ⟨g, 0, rfl, ?_⟩⟩
    rw [Nat.zero_add, World.ownsRow.cellAt h0 i (by omega), bvals_get bs i hi]
theorem OwnB.fresh {w w' : World} {base : Nat} {v : Value} {bs : List Bool} (h : OwnB w base v bs) (k : Fresh w w') : OwnB w' base v bs := ownsRow_fresh h k
theorem OwnB.put {w : World} {base g cap N : Nat} {bs : List Bool} (h : OwnB w base (.slice (some ⟨g, 0, none⟩) N cap) bs) (hN : N = bs.length) (k : Nat) (b : Bool) :
    OwnB (w.setCell ⟨g, k, none⟩ (.bool b)) base (.slice (some ⟨g, 0, none⟩) N cap) (bs.set k b) := by
  subst hN
  have := (World.ownsRow.stored h k (.bool b)).1
  unfold OwnB
  rw [List.length_set]
  have e : (bvals bs).set k (.bool b) = bvals (bs.set k b) := by unfold bvals; rw [List.map_set]
  rw [e] at this
  exact this
theorem OwnB.cell {w : World} {base g cap N : Nat} {bs : List Bool} (h : OwnB w base (.slice (some ⟨g, 0, none⟩) N cap) bs) (hN : N = bs.length) (k : Nat) (hk : k < N) : w.cell? ⟨g, k, none⟩ = some (.bool (bs.getD k false)) := by
  subst hN
  rw [World.ownsRow.cellAt h k (by omega), bvals_get bs k hk]
theorem OwnB.free {w : World} {base g cap N : Nat} {bs : List Bool} (h : OwnB w base (.slice (some ⟨g, 0, none⟩) N cap) bs) (hN : N = bs.length) (k : Nat) : w.frozen? ⟨g, k, none⟩ = false := by
  subst hN
  exact World.ownsRow.frozenAt h k
theorem infoBool : (Try.prog.info? 4).map (fun i => (i.zero, i.size, i.bytes)) = some (some (.bool false), 1, 1) := by kernel_rfl

theorem news_one' (w : World) (v : Value) (e : TypeId) : ∀ j u, [v][j]? = some u → (w.alloc (.cells #[v] e)).cell? ((⟨w.heap.size, 0, none⟩ : Addr).add j) = some u := by
  intro j u hj
  match j, hj with
  | 0, hj => simp at hj; subst hj; simp [Addr.add]
theorem one_bool (b : Bool) : ∀ u ∈ [Value.bool b], u.oneCell' = true := by
  intro u hu; simp at hu; subst hu; rfl

/-- the bits of a tree -/
def bitsL (n : Nat) (ws : List Nat) : List Bool := (List.range n).map (bitV ws)
theorem bitsL_length (n : Nat) (ws : List Nat) : (bitsL n ws).length = n := by unfold bitsL; simp
theorem bitsL_get (n : Nat) (ws : List Nat) (i : Nat) (hi : i < n) : (bitsL n ws).getD i false = bitV ws i := by
  unfold bitsL
  simp [List.getD_eq_getElem?_getD, hi]
theorem bitsL_succ (j : Nat) (ws : List Nat) : bitsL (j + 1) ws = bitsL j ws ++ [bitV ws j] := by
  unfold bitsL
  rw [List.range_succ, List.map_append]; rfl

theorem bits_raw {w : World} {base : Nat} {v : Value} {j : Nat} {ws : List Nat} (h : OwnB w base v (bitsL j ws)) : w.ownsRow base 4 1 v j (bvals (bitsL j ws)) := by
  unfold OwnB at h; rw [bitsL_length] at h; exact h
theorem bits_step {W1 wr w1 : World} {v v1 : Value} {j base : Nat} {ws : List Nat} (hO : wr.ownsRow base 4 1 v j (bvals (bitsL j ws))) (hB : Below base W1 wr) (hbs : base ≤ wr.heap.size) (ho : w1.ownsRow base 4 1 v1 (j + 1) (bvals (bitsL j ws) ++ [.bool (bitV ws j)])) (hg : (wr.alloc (.cells #[.bool (bitV ws j)] 4)).grownBy w1 v.ownBlock) :
    OwnB w1 base v1 (bitsL (j + 1) ws) ∧ Below base W1 w1 := by
  refine ⟨?_, (hB.alloc hbs _).grown hg (by simp; omega) fun k hk => (World.ownsRow.lt hO k hk).1⟩
  unfold OwnB
  rw [bitsL_length, bitsL_succ]
  unfold bvals
  rw [List.map_append]
  exact ho

set_option maxHeartbeats 1000000 in
theorem tbits_any (v : Value) (n : Nat) (ws : List Nat) (w : World) (h : TreeAt w v n ws) :
    Calls Try.prog 27 #[v] w fun e w' => ∃ g cap, e = .returned (.slice (some ⟨g, 0, none⟩) n cap) ∧ OwnB w' w.heap.size (.slice (some ⟨g, 0, none⟩) n cap) (bitsL n ws) ∧ Fresh w w' := by
  obtain ⟨n1, n2, hlev, a, cap, rfl, hlv⟩ := h
  obtain ⟨i0, hi, hz0, hz1, hz2⟩ := infoOf infoBool
  have q1 : (1 : Int) ≤ (n : Int) := by omega
  have q2 : (n : Int) ≤ 65536 := by omega
  have hh := nLev_in n
  obtain ⟨b, o, rfl⟩ := hlv.len hh.1
  obtain ⟨x, c, hcell, hwd⟩ := hlv.row 0 (by omega)
  rw [Nat.add_zero] at hcell
  have l1 : (1 : Int) ≤ (nLev n : Int) := by omega
  have l2 : (nLev n : Int) ≤ 3 := by omega
  obtain ⟨W1, hW1⟩ : ∃ W1, W1 = w.alloc (.cells #[.int .i64 (n : Int), .slice (some ⟨b, o, none⟩) (nLev n) cap] 45) := ⟨_, rfl⟩
  have FW : Fresh w W1 := by subst hW1; exact fresh_box w _ _
  have BX : W1.heap[w.heap.size]? = some (.cells #[.int .i64 (n : Int), .slice (some ⟨b, o, none⟩) (nLev n) cap] 45 (0, 0)) := by subst hW1; exact heap_alloc_new w _
  have SW : W1.heap.size = w.heap.size + 1 := by subst hW1; simp
  have FWH := hide FW
  have HW := hide hW1
  have WD := hide (hwd.fresh FW)
  have HC := hide ((FW.cell (World.block_lt_of_cell? _ _ hcell)).trans hcell)
  have BXH := hide BX
  have EB := hide (fun (wr : World) (k : Below W1.heap.size W1 wr) => show wr.heap[w.heap.size]? = _ from (k.block w.heap.size (by omega)).trans BX)
  clear hlv hlev hwd hcell hW1 FW BX
  generalize nLev n = N at *
  go_enter Try.func27, Try.ntmps27
  go_wp2
  rw [← HW.out]
  go_loopw [3, 4] (fun v i wr => ∃ j : Nat, j ≤ n ∧ i = .int .i64 (j : Int) ∧ OwnB wr W1.heap.size v (bitsL j ws) ∧ Below W1.heap.size W1 wr) (fun _ i _ => (n - intOf i).toNat)
  case atStart => exact ⟨0, Nat.zero_le _, rfl, World.ownsRow_nil _ _ _ _, Below.refl _ _⟩
  case round =>
    obtain ⟨j, hj, rfl, hO, hB⟩ := hrel
    have BB := hide hB
    have hbx := EB.out wr hB
    have c0 := cell_block hbx 0 _ rfl
    have c1 := cell_block hbx 1 _ rfl
    have hs := hB.size
    clear hbx
    rcases Nat.lt_or_ge j n with hjn | hjn
    · have j1 : (j : Int) < (n : Int) := by omega
      have cl : wr.cell? ⟨b, o, none⟩ = some (.slice x (lvV ws 0).length c) := (hB.cell (World.block_lt_of_cell? _ _ HC.out)).trans HC.out
      have RH := hide (rhas_nat _ (lvV ws 0) j wr (WD.out.below hB (Nat.le_refl _)) (by omega))
      have hO' := bits_raw hO
      have OO := hide hO'
      have m1 : j + 1 ≤ maxLen := by unfold maxLen; omega
      have m2 : (j + 1) * 1 ≤ 140737488355328 := by omega
      have m3 : ∀ o, W1.heap.size ≤ (wr.alloc o).heap.size := fun o => by simp; omega
      have FIN := hide (fun v1 w1 ho hg => bits_step (v1 := v1) (w1 := w1) hO' hB hs ho hg)
      have BE : lvV ws 0 = ws := rfl
      clear hB hO
      go_wp2_with fail
      refine RH.out.mono ?_
      rintro e w' ⟨rfl, rfl⟩
      rw [BE]
      go_wp2_with (at_builtin; refine wpList_append_own _ rfl _ _ 52 rfl W1.heap.size 4 i0 (.bool false) 1 1 Try.underlying52 hi hz0 hz1 hz2 rfl (by decide) _ _ _ rfl (World.ownsRow.alloc OO.out _) ⟨w'.heap.size, 0, none⟩ 1 1 [.bool (bitV ws j)] rfl rfl (news_one' _ _ _) (one_bool _) m1 m2 (m3 _) ?_; intro v1 w1 hown hgrow _; have FF := hide (FIN.out _ _ hown hgrow); clear hown hgrow)
      go_roundw
      case rel => exact ⟨j + 1, by omega, by go_num, FF.out.1, FF.out.2⟩
      case measure => simp [intOf]; omega
    · obtain rfl : j = n := by omega
      have hO' := bits_raw hO
      obtain ⟨g, cp, hv⟩ := own_shape hO' n1
      subst hv
      have O2 := hide (ownsRow_mono hO FWH.out.size)
      have F2 := hide (show Fresh w wr from FWH.out.trans hB)
      clear hO hO' hB
      go_wp2
      go_ret
      exact ⟨g, cp, rfl, O2.out, F2.out⟩

/-! First -/
theorem rtfirst_any (v : Value) (n : Nat) (ws : List Nat) (f : Int) (w : World) (h : TreeAt w v n ws) (hf : -9223372036854775808 ≤ f) (hf' : f ≤ 9223372036854775807) :
    Calls Try.prog 21 #[v, .int .i64 f] w fun e w' => e = foundE (firstT n ws f) ∧ Fresh w w' := by
  have T := hide h
  obtain ⟨n1, n2, hlev, a, cap, rfl, hlv⟩ := h
  have q1 : (1 : Int) ≤ (n : Int) := by omega
  have q2 : (n : Int) ≤ 65536 := by omega
  have FB := hide (fresh_box w #[.int .i64 (n : Int), .slice a (nLev n) cap] 45)
  have BT := hide (tbits_any _ n ws _ (T.out.fresh FB.out))
  clear hlv hlev T
  generalize nLev n = N at *
  go_enter Try.func21, Try.ntmps21
  go_wp2_with fail
  refine BT.out.mono ?_
  rintro e w1 ⟨g, c, rfl, ho, hf1⟩
  have OB := hide ho
  have F1 := hide (FB.out.trans hf1)
  clear ho hf1 BT
  go_wp2
  go_loop [7] (fun i => ∃ j : Nat, j ≤ n ∧ i = .int .i64 (j : Int) ∧ (0 ≤ f → ∀ t, f.toNat ≤ t → t < j → bitV ws t = true)) (fun i => (n - intOf i).toNat)
  case atStart => exact ⟨0, Nat.zero_le _, rfl, fun _ t _ ht => by omega⟩
  case round =>
    obtain ⟨j, hj, rfl, hall⟩ := hrel
    have A := hide hall
    clear hall
    rcases Nat.lt_or_ge j n with hjn | hjn
    · have j1 : (j : Int) < (n : Int) := by omega
      have cl := OB.out.cell (by rw [bitsL_length]) j hjn
      rw [bitsL_get n ws j hjn] at cl
      by_cases h1 : f ≤ (j : Int)
      · by_cases h2 : 0 ≤ f
        · cases hb : bitV ws j with
          | true =>
            have B := hide hb
            rw [hb] at cl
            clear hb
            go_wp2
            go_round
            case rel => exact ⟨j + 1, by omega, by go_num, fun h t h3 h4 => by
              rcases Nat.lt_or_ge t j with h | h'
              · exact A.out h2 t h3 h
              · rw [show t = j by omega]; exact B.out⟩
            case measure => simp [intOf]; omega
          | false =>
            have F := hide (show firstT n ws f = some j by unfold firstT; rw [if_neg (by omega)]; exact first_some (by omega) hjn hb (A.out h2))
            rw [hb] at cl
            clear hb
            go_wp2
            go_ret2
            exact ⟨by rw [F.out]; rfl, F1.out⟩
        · have h3 : f < 0 := by omega
          generalize bitV ws j = bb at *
          go_wp2
          go_round
          case rel => exact ⟨j + 1, by omega, by go_num, fun h => by omega⟩
          case measure => simp [intOf]; omega
      · have h3 : (j : Int) < f := by omega
        generalize bitV ws j = bb at *
        go_wp2
        go_round
        case rel => exact ⟨j + 1, by omega, by go_num, fun h t h3 h4 => by omega⟩
        case measure => simp [intOf]; omega
    · obtain rfl : j = n := by omega
      have F := hide (show firstT j ws f = none by
        unfold firstT
        split
        · rfl
        · exact first_none (A.out (by omega)))
      go_wp2
      go_ret2
      exact ⟨by rw [F.out]; rfl, F1.out⟩

/-! SameTree -/
theorem tsame_true (v u : Value) (n h : Nat) (f : Nat → List Nat) (w : World) (hv : TreeV w v n h f) (hu : TreeV w u n h f) (hh : h ≤ 64) :
    Calls Try.prog 22 #[v, u] w fun e w' => e = .returned (.bool true) ∧ Fresh w w' := by
  obtain ⟨a, ca, rfl, la⟩ := hv
  obtain ⟨b, cb, rfl, lb⟩ := hu
  obtain ⟨W1, hW1⟩ : ∃ W1, W1 = (w.alloc (.cells #[.int .i64 (n : Int), .slice a h ca] 45)).alloc (.cells #[.int .i64 (n : Int), .slice b h cb] 45) := ⟨_, rfl⟩
  have FW : Fresh w W1 := by subst hW1; exact fresh_more (fresh_box w _ _) _ _
  have SW : W1.heap.size = w.heap.size + 2 := by subst hW1; simp
  have BA : W1.heap[w.heap.size]? = some (.cells #[.int .i64 (n : Int), .slice a h ca] 45 (0, 0)) := by
    subst hW1
    rw [(fresh_box (w.alloc (.cells #[.int .i64 (n : Int), .slice a h ca] 45)) #[.int .i64 (n : Int), .slice b h cb] 45).block w.heap.size (by simp)]
    exact heap_alloc_new w _
  have BB : W1.heap[w.heap.size + 1]? = some (.cells #[.int .i64 (n : Int), .slice b h cb] 45 (0, 0)) := by
    subst hW1
    have := heap_alloc_new (w.alloc (.cells #[.int .i64 (n : Int), .slice a h ca] 45)) (.cells #[.int .i64 (n : Int), .slice b h cb] 45 (0, 0))
    rw [show (w.alloc (.cells #[.int .i64 (n : Int), .slice a h ca] 45)).heap.size = w.heap.size + 1 by simp] at this
    exact this
  have LA := hide (la.fresh FW)
  have LB := hide (lb.fresh FW)
  have a0 := cell_block BA 0 _ rfl
  have a1 := cell_block BA 1 _ rfl
  have b0 := cell_block BB 0 _ rfl
  have b1 := cell_block BB 1 _ rfl
  have HW := hide hW1
  have FWH := hide FW
  have h64 : (h : Int) ≤ 64 := by omega
  clear la lb hW1 FW BA BB
  go_enter Try.func22, Try.ntmps22
  go_wp2
  rw [← HW.out]
  go_loopw [5] (fun i wr => ∃ j m : Nat, j ≤ h ∧ i = .int .i64 (j : Int) ∧ wr = W1.drewN m) (fun i _ => (h - intOf i).toNat)
  case atStart => exact ⟨0, 0, Nat.zero_le _, rfl, rfl⟩
  case round =>
    obtain ⟨j, m, hj, rfl, rfl⟩ := hrel
    rcases Nat.lt_or_ge j h with hjh | hjh
    · have j1 : (j : Int) < (h : Int) := by omega
      obtain ⟨xb, xo, xu, rfl, hxc, hxw⟩ := LA.out j hjh
      obtain ⟨yb, yo, yu, rfl, hyc, hyw⟩ := LB.out j hjh
      have SM := hide (fun k => rsame_to xu yu (f j) (f j) true (by simp) (W1.drewN k) (hxw.drewN k) (hyw.drewN k))
      clear hxw hyw
      go_wp2_with fail
      go_quiet ((go_at_call 35; exact quiet_more (SM.out _)))
      go_wp2
      go_roundw
      case rel => exact ⟨j + 1, _, by omega, by go_num, rfl⟩
      case measure => simp [intOf]; omega
    · obtain rfl : j = h := by omega
      go_wp2
      go_ret
      exact ⟨rfl, fresh_drewN FWH.out _⟩
end Go.Proofs.Ytpkcihfldmgehaa
