/- slices.Grow of nil and slices.Concat of slices of marks, as contracts. -/
import Derived.Test.YtkcmhdedabcabaaMarkMem
import Derived.Test.YtkcmhdedabcabaaParts
import Derived.Lib.AppendZeros
namespace Go.Proofs.Ytkcmhdedabcabaa
open Go.RowKit

theorem mgrow_nil (n : Nat) (w : World) (hn : n ≤ 4194304) :
    Calls Try.prog 19 #[.slice none 0 0, .int .i64 (n : Int)] w fun e w' => ∃ u, e = .returned u ∧ OwnM w' w.heap.size u [] ∧ Fresh w w' := by
  obtain ⟨i0, hi, hz0, hz1, hz2⟩ := infoOf infoMark
  have n0 : (0 : Int) ≤ (n : Int) := by omega
  have n1 : (n : Int) ≤ 4194304 := by omega
  rcases Nat.eq_zero_or_pos n with rfl | hp
  · go_enter Try.func19, Try.ntmps19
    go_wp2
    go_ret
    exact ⟨_, rfl, OwnM.nil _ _, Fresh.refl _⟩
  · have happ := Lib.run_append_nil_zeros (P := Try.prog) w 26 3 26 24 i0 (.agg #[.int .i64 0, .int .i64 0]) .i64 .i64 Try.underlying26 Try.underlying3 hi hz0 n hp (by omega) (by omega) (by rw [hz2]; omega)
    have hcl : grownCap w n 0 24 ≤ maxLen := grownCap_le_maxLen w _ 0 24 (by unfold maxLen; omega)
    have hcg : n ≤ grownCap w n 0 24 := grownCap_ge w _ 0 24
    generalize grownCap w n 0 24 = cap at *
    generalize hZ : (Builtin.zeroCells (Value.agg #[.int .i64 0, .int .i64 0]).cells n ++ Builtin.zeroCells (Value.agg #[.int .i64 0, .int .i64 0]).cells (cap - n)) = Z at happ
    have hZs : Z.size = cap * 2 := by rw [← hZ]; simp [size_zeroCells, Value.cells]; omega
    have FIN := hide (show OwnM (w.drew.alloc (.cells Z 24)) w.heap.size (.slice (some ⟨w.heap.size, 0, none⟩) 0 cap) [] from
      ⟨rfl, .inr ⟨w.heap.size, cap, Z, rfl, Nat.le_refl _, heap_alloc_new w.drew _, Nat.zero_le _, hcl, hZs, by simp [svals]⟩⟩)
    have FF := hide (show Fresh w (w.drew.alloc (.cells Z 24)) from fresh_more (Fresh.refl w).drew _ _)
    have p1 : (1 : Int) ≤ (n : Int) := by omega
    have c0 : (0 : Int) ≤ (cap : Int) := by omega
    clear hZ hZs hcl hcg
    go_enter Try.func19, Try.ntmps19
    go_wp2_with (at_builtin; refine Lib.wpList_append_run _ rfl _ _ _ _ rfl _ _ rfl rfl _ _ happ ?_)
    go_ret
    exact ⟨_, rfl, FIN.out, FF.out⟩

theorem ownM_joined {w' : World} {base : Nat} {v' : Value} {ps qs : List Pc} (hown : w'.ownsRow base 24 2 v' (ps.length + qs.length) (svals ps ++ svals qs)) : OwnM w' base v' (ps ++ qs) := by
  unfold OwnM
  rw [svals_append, List.length_append]
  exact hown

set_option maxHeartbeats 1000000 in
theorem mconcat_any (b o k c : Nat) (V : Nat → Value) (f : Nat → List Pc) (w : World) (hk : k ≤ 3) (h : PartsAt w b o k V f) :
    Calls Try.prog 17 #[.slice (some ⟨b, o, none⟩) k c] w fun e w' => ∃ u, e = .returned u ∧ OwnM w' w.heap.size u (flat f k) ∧ Fresh w w' := by
  obtain ⟨i0, hi, hz0, hz1, hz2⟩ := infoOf infoMark
  have P := hide h
  have k0 : (0 : Int) ≤ (k : Int) := by omega
  have k1 : (k : Int) ≤ 3 := by omega
  have FL := hide (show ∀ j, j ≤ k → (flat f j).length ≤ 3145728 from by
    intro j hj
    have : ∀ j, j ≤ k → (flat f j).length ≤ j * 1048576 := by
      intro j
      induction j with
      | zero => intro _; simp [flat]
      | succ j ih =>
        intro hj
        have h1 := ih (by omega)
        obtain ⟨⟨_, _, _, h2, _⟩, _⟩ := (h j (by omega)).2
        simp [flat]; omega
    have := this j hj
    omega)
  have HK := hide hk
  clear h hk
  go_enter Try.func17, Try.ntmps17
  go_wp2
  go_loop [3, 11] (fun sz i => ∃ j : Nat, j ≤ k ∧ i = .int .i64 (j : Int) ∧ sz = .int .i64 ((flat f j).length : Nat)) (fun _ i => (k - intOf i).toNat)
  case atStart => exact ⟨0, Nat.zero_le _, rfl, rfl⟩
  case round =>
    obtain ⟨j, hj, rfl, rfl⟩ := hrel
    have s1 : (((flat f j).length : Nat) : Int) ≤ 3145728 := by have := FL.out j hj; omega
    have s0 : (0 : Int) ≤ (((flat f j).length : Nat) : Int) := by omega
    by_cases g : j < k
    · have g' : (j : Int) < (k : Int) := by omega
      obtain ⟨c0, ⟨a, cap, e, h1, _⟩, _⟩ := P.out j g
      rw [e] at c0
      have t1 : (((f j).length : Nat) : Int) ≤ 1048576 := by omega
      have t0 : (0 : Int) ≤ (((f j).length : Nat) : Int) := by omega
      have E := hide (show (((flat f (j + 1)).length : Nat) : Int) = (((flat f j).length : Nat) : Int) + (((f j).length : Nat) : Int) by simp [flat])
      clear e h1
      generalize (((flat f j).length : Nat) : Int) = x at *
      go_wp2
      go_round
      case rel => exact ⟨j + 1, by omega, by go_num, by rw [E.out]⟩
      case measure => simp [intOf]; omega
    · obtain rfl : j = k := by omega
      have L := hide (FL.out j hj)
      generalize (flat f j).length = N at *
      go_wp2_with fail
      refine (mgrow_nil N w (by have := L.out; omega)).mono ?_
      rintro e w1 ⟨u, rfl, o1, f1⟩
      have O1 := hide o1
      have F1 := hide f1
      clear o1 f1 s0 s1 L
      go_wp2
      go_loopw [6, 27] (fun out i wr => ∃ t : Nat, t ≤ j ∧ i = .int .i64 (t : Int) ∧ OwnM wr w.heap.size out (flat f t) ∧ Fresh w wr) (fun _ i _ => (j - intOf i).toNat)
      case atStart => exact ⟨0, Nat.zero_le _, rfl, O1.out, F1.out⟩
      case round =>
        obtain ⟨t, ht, rfl, ho, hf⟩ := hrel
        have O := hide ho
        have F := hide hf
        clear ho hf
        by_cases g2 : t < j
        · have g2' : (t : Int) < (j : Int) := by omega
          obtain ⟨c0, hv⟩ := (P.out.fresh F.out) t g2
          have LT := hide (FL.out t ht)
          have LU := hide (FL.out (t + 1) (by omega))
          have HV := hide hv
          rcases hv.cases with ⟨e, ef⟩ | ⟨x, y, cap, e, _, _, _, _, _⟩
          · rw [e] at c0
            have E := hide (show flat f (t + 1) = flat f t by simp [flat, ef])
            clear hv e ef
            go_wp2_with (at_builtin; refine wpList_append_own_none rfl _ _ 26 rfl w.heap.size 24 i0 2 Try.underlying26 hi _ _ _ rfl O.out rfl ?_)
            go_roundw
            case rel => exact ⟨t + 1, by omega, by go_num, by rw [E.out]; exact O.out, F.out⟩
            case measure => simp [intOf]; omega
          · rw [e] at c0 HV
            have NW := hide HV.out.news
            have WL := hide (svals_length (f t))
            have W1 := hide (svals_one (f t))
            have m1 : (flat f t).length + (f t).length ≤ maxLen := by have := LU.out; unfold maxLen; simp [flat] at this; omega
            have m2 : ((flat f t).length + (f t).length) * 16 ≤ 140737488355328 := by have := LU.out; simp [flat] at this; omega
            have m3 : w.heap.size ≤ wr.heap.size := F.out.size
            clear hv e
            go_wp2_with (at_builtin; refine wpList_append_own _ rfl _ _ 26 rfl w.heap.size 24 i0 (.agg #[.int .i64 0, .int .i64 0]) 2 16 Try.underlying26 hi hz0 hz1 hz2 rfl (by decide) _ _ _ rfl O.out ⟨x, y, none⟩ (f t).length cap (svals (f t)) rfl WL.out NW.out W1.out m1 m2 m3 ?_; intro v1 w1 hown hgrow _)
            have O2 := hide (show OwnM w1 w.heap.size v1 (flat f (t + 1)) from ownM_joined hown)
            have F2 := hide (show Fresh w w1 from F.out.grown hgrow F.out.size fun i hi => O.out.block i hi)
            clear hown hgrow
            go_roundw
            case rel => exact ⟨t + 1, by omega, by go_num, O2.out, F2.out⟩
            case measure => simp [intOf]; omega
        · obtain rfl : t = j := by omega
          go_wp2
          go_ret
          exact ⟨_, rfl, O.out, F.out⟩
end Go.Proofs.Ytkcmhdedabcabaa
