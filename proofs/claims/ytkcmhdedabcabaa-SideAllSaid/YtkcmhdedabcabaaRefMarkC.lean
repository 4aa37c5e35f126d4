/- What the document's own TakeMark and ClassOf answer (hodmanref8), as contracts. -/
import Derived.Test.YtkcmhdedabcabaaMarkMem
import Derived.Test.YtkcmhdedabcabaaMarkMath
import Derived.Test.YtkcmhdedabcabaaHeld
import Derived.Deep.QuietTactic
import Derived.BigQuiet
import Derived.Handy
namespace Go.Proofs.Ytkcmhdedabcabaa
open Go.RowKit

theorem empty_mark (w : World) (t : TypeId) {p : World → Prop} (h : ∀ w5, w5.ownsRow w.heap.size t 2 (.slice (some ⟨w.heap.size, 0, none⟩) 0 0) 0 [] → Fresh w w5 → p w5) : p (w.alloc (.cells #[] t)) :=
  h _ (World.ownsRow_lit w #[] 0 (Nat.le_refl _) (Nat.zero_le _) rfl) (fresh_box _ _ _)
theorem ownM_first {w' : World} {base : Nat} {v' : Value} {ps : List Pc} {m : Nat} (hm : m = ps.length) (hown : w'.ownsRow base 24 2 v' (0 + m) ([] ++ svals ps)) : OwnM w' base v' ps := by
  subst hm
  rw [Nat.zero_add, List.nil_append] at hown
  exact hown
theorem ownM_then {w' : World} {base : Nat} {v' : Value} {ps qs : List Pc} {m : Nat} (hm : m = qs.length) (hown : w'.ownsRow base 24 2 v' (ps.length + m) (svals ps ++ svals qs)) : OwnM w' base v' (ps ++ qs) := by
  subst hm
  unfold OwnM
  rw [svals_append, List.length_append]
  exact hown
theorem wrapN {i : Nat} (h : i ≤ 2000000) : IntKind.i64.wrap ((i : Int) + 1) = ((i + 1 : Nat) : Int) := by rw [IntKind.wrap_i64]; omega
/-- a mark that is read -/
def HeldK (W : World) (b o : Nat) (p2 : Int) (w : World) : Prop := w.cell? ⟨b, o + 1, none⟩ = some (.int .i64 p2) ∧ Fresh W w
theorem HeldK.fresh {W : World} {b o : Nat} {p2 : Int} {w w' : World} (h : HeldK W b o p2 w) (k : Fresh w w') : HeldK W b o p2 w' := ⟨(k.cell (World.block_lt_of_cell? _ _ h.1)).trans h.1, h.2.trans k⟩
theorem take_hit {ps : List Pc} (h : Rise ps) {x : Int} {i : Nat} (hi : i < ps.length) (hx : (nth ps i).1 = x) : aheadN ps x = i ∧ hitM ps x = true ∧ nxM ps x = i + 1 := by
  have ea : aheadN ps x = i := ahead_eq (Nat.le_of_lt hi) (fun t ht => by have := rise_nth h ht hi; omega) (fun _ => by omega)
  have hh : hitM ps x = true := hit_iff.2 ⟨by rw [ea]; exact hi, by rw [ea]; exact hx⟩
  exact ⟨ea, hh, by unfold nxM; rw [hh, if_pos rfl, ea]⟩
theorem take_miss {ps : List Pc} {x : Int} (h : ∀ t, t < ps.length → (nth ps t).1 ≠ x) : hitM ps x = false ∧ takM ps x = ps := by
  have hh : hitM ps x = false := by
    rw [Bool.eq_false_iff]
    intro e
    obtain ⟨h1, h2⟩ := hit_iff.1 e
    exact h _ h1 h2
  exact ⟨hh, by unfold takM nxM; rw [hh]; exact List.take_append_drop _ _⟩
theorem tak_in {ps : List Pc} (h : ∀ p ∈ ps, In64 p) (x : Int) : ∀ p ∈ takM ps x, In64 p := fun p hp => by
  unfold takM at hp
  rcases List.mem_append.1 hp with hp | hp
  · exact h p (List.mem_of_mem_take hp)
  · exact h p (List.mem_of_mem_drop hp)

set_option maxHeartbeats 1000000 in
theorem rtake_any (v : Value) (ps : List Pc) (x : Int) (w : World) (h : SpansIn w v ps) (hr : Rise ps) (hl : ps.length ≤ 1000000) :
    Calls Try.prog 9 #[v, .int .i64 x] w fun e w' => ∃ u, e = .returned (.tuple #[u, .int .i64 (clsM ps x), .bool (hitM ps x)]) ∧ SpansIn w' u (takM ps x) ∧ Fresh w w' ∧ (hitM ps x = true → OwnM w' w.heap.size u (takM ps x)) := by
  obtain ⟨i0, hi, hz0, hz1, hz2⟩ := infoOf infoMark
  have H1 := hide h
  have I64 := hide h.1.in64
  have LE := hide hl
  have RI := hide hr
  obtain ⟨a, cap, rfl, _, hl2, hl3, h4, hn0, hc⟩ := h.1
  have l0 : (0 : Int) ≤ (ps.length : Int) := by omega
  have l1 : (ps.length : Int) ≤ 1000000 := by omega
  clear h hl2 hl3 h4 hn0 hc hl hr
  go_enter Try.func9, Try.ntmps9
  go_wp2
  go_loop [7] (fun i => ∃ j : Nat, j ≤ ps.length ∧ i = .int .i64 (j : Int) ∧ ∀ t, t < j → (nth ps t).1 ≠ x) (fun i => (ps.length - intOf i).toNat)
  case atStart => exact ⟨0, Nat.zero_le _, rfl, fun t ht => by omega⟩
  case round =>
    obtain ⟨i, hj, rfl, hall⟩ := hrel
    have A := hide hall
    clear hall
    by_cases g : i < ps.length
    · have i2 : (i : Int) < (ps.length : Int) := by omega
      have i1 : (0 : Int) ≤ (i : Int) := by omega
      rcases H1.out.cases with ⟨_, rfl⟩ | ⟨b, o, cap', e, h1, h2, h3, h4, hc⟩
      · simp at g
      cases e
      obtain ⟨c0, c1⟩ := hc i g
      have b1 : b < w.heap.size := World.block_lt_of_cell? _ _ c0
      by_cases hx : (nth ps i).1 = x
      · obtain ⟨ea, hh, en⟩ := take_hit RI.out g hx
        have CB := hide hh
        have CP := hide (show clsM ps x = (nth ps i).2 by unfold clsM; rw [hh, if_pos rfl, ea])
        have CL := hide (show takM ps x = ps.take i ++ ps.drop (i + 1) by unfold takM; rw [ea, en])
        have PT0 := hide (H1.out.take (k := i) (Nat.le_of_lt g))
        have PT1 := hide (H1.out.dropIf (k := i + 1) g)
        have T0 := hide (show i = (ps.take i).length by rw [List.length_take]; omega)
        have T1 := hide (show ps.length - (i + 1) = (ps.drop (i + 1)).length by rw [List.length_drop])
        obtain ⟨o', hA⟩ : ∃ o', (if cap = i + 1 then some (⟨b, o, none⟩ : Addr) else some ⟨b, o + (i + 1) * 2, none⟩) = some ⟨b, o', none⟩ := by split <;> exact ⟨_, rfl⟩
        rw [hA] at PT1
        have LL := hide (show (takM ps x).length ≤ 1048576 by rw [CL.out]; have := LE.out; simp; omega)
        have IL := hide (tak_in I64.out x)
        generalize nth ps i = p at *
        obtain ⟨p1, p2⟩ := p
        simp only at c0 c1 hx CP
        have d1 : (p1 == x) = true := by simp [hx]
        have i3 : (ps.length : Int) ≤ (cap : Int) := by omega
        have i4 : (cap : Int) ≤ 9223372036854775807 := by omega
        have i6 : i ≤ cap := by omega
        have i7 : i + 1 ≤ ps.length := by omega
        have i8 : IntKind.i64.wrap ((i : Int) + 1) = ((i + 1 : Nat) : Int) := wrapN (by omega)
        have i9 : (0 : Int) ≤ (i : Int) + 1 := by omega
        have i10 : (i : Int) + 1 ≤ (ps.length : Int) := by omega
        have C0 := hide (show HeldK w b (o + i * 2) p2 w from ⟨c1, Fresh.refl _⟩)
        have HS : Hid (HeldK w b (o + i * 2) p2 w.drew) := C0.out.fresh (Fresh.refl _).drew
        have FD : Hid (Fresh w w.drew) := (Fresh.refl _).drew
        clear hc h1 h2 h3 h4 hh ea en hx
        go_wp2_with fail
        refine wp_region_held (S := HeldK w b (o + i * 2) p2) (by kernel_rfl) ?_
        change wpAnyH _ _ _ _ _ _ _ _ (World.drew _)
        generalize World.drew w = wd at HS FD ⊢
        refine held_take (i := 1) (d := 22) (v := ?_) rfl rfl (by kernel_rfl) (by kernel_rfl) (by kernel_rfl) (fun _ _ _ h => h) (by kernel_rfl) ?_ HS.out ?_
        rotate_left
        · intro wz hz
          obtain ⟨z1, -⟩ := hz
          go_simp
          first | done | with_reducible rfl
        refine held_take (i := 2) (d := 23) (v := ?_) rfl rfl (by kernel_rfl) (by kernel_rfl) (by kernel_rfl) (fun _ _ _ h => h) (by kernel_rfl) ?_ HS.out ?_
        rotate_left
        · intro wz hz
          obtain ⟨z1, -⟩ := hz
          go_simp
          first | done | with_reducible rfl
        refine held_take (i := 3) (d := 24) (v := ?_) rfl rfl (by kernel_rfl) (by kernel_rfl) (by kernel_rfl) (fun _ _ _ h => h) (by kernel_rfl) ?_ HS.out ?_
        rotate_left
        · intro wz hz
          obtain ⟨z1, -⟩ := hz
          go_simp
          first | done | with_reducible rfl
        refine held_take (i := 5) (d := 26) (v := ?_) rfl rfl (by kernel_rfl) (by kernel_rfl) (by kernel_rfl) (fun _ _ _ h => h) (by kernel_rfl) ?_ HS.out ?_
        rotate_left
        · intro wz hz
          obtain ⟨z1, -⟩ := hz
          go_simp
          first | done | with_reducible rfl
        refine held_take (i := 6) (d := 27) (v := ?_) rfl rfl (by kernel_rfl) (by kernel_rfl) (by kernel_rfl) (fun _ _ _ h => h) (by kernel_rfl) ?_ HS.out ?_
        rotate_left
        · intro wz hz
          obtain ⟨z1, -⟩ := hz
          go_simp
          first | done | with_reducible rfl
        refine held_take (i := 7) (d := 28) (v := ?_) rfl rfl (by kernel_rfl) (by kernel_rfl) (by kernel_rfl) (fun _ _ _ h => h) (by kernel_rfl) ?_ HS.out ?_
        rotate_left
        · intro wz hz
          obtain ⟨z1, -⟩ := hz
          go_simp
          first | done | with_reducible rfl
        refine held_take (i := 8) (d := 29) (v := ?_) rfl rfl (by kernel_rfl) (by kernel_rfl) (by kernel_rfl) (fun _ _ _ h => h) (by kernel_rfl) ?_ HS.out ?_
        rotate_left
        · intro wz hz
          obtain ⟨z1, -⟩ := hz
          go_simp
          first | done | with_reducible rfl
        refine held_take (i := 10) (d := 31) (v := ?_) rfl rfl (by kernel_rfl) (by kernel_rfl) (by kernel_rfl) (fun _ _ _ h => h) (by kernel_rfl) ?_ HS.out ?_
        rotate_left
        · intro wz hz
          obtain ⟨z1, -⟩ := hz
          go_simp
          first | done | with_reducible rfl
        refine held_take (i := 11) (d := 32) (v := ?_) rfl rfl (by kernel_rfl) (by kernel_rfl) (by kernel_rfl) (fun _ _ _ h => h) (by kernel_rfl) ?_ HS.out ?_
        rotate_left
        · intro wz hz
          obtain ⟨z1, -⟩ := hz
          go_simp
          first | done | with_reducible rfl
        refine held_take (i := 12) (d := 33) (v := ?_) rfl rfl (by kernel_rfl) (by kernel_rfl) (by kernel_rfl) (fun _ _ _ h => h) (by kernel_rfl) ?_ HS.out ?_
        rotate_left
        · intro wz hz
          obtain ⟨z1, -⟩ := hz
          go_simp
          first | done | with_reducible rfl
        refine held_take (i := 13) (d := 34) (v := ?_) rfl rfl (by kernel_rfl) (by kernel_rfl) (by kernel_rfl) (fun _ _ _ h => h) (by kernel_rfl) ?_ HS.out ?_
        rotate_left
        · intro wz hz
          obtain ⟨z1, -⟩ := hz
          go_simp
          first | done | with_reducible rfl
        refine held_take (i := 14) (d := 35) (v := ?_) rfl rfl (by kernel_rfl) (by kernel_rfl) (by kernel_rfl) (fun _ _ _ h => h) (by kernel_rfl) ?_ HS.out ?_
        rotate_left
        · intro wz hz
          obtain ⟨z1, -⟩ := hz
          go_simp
          first | done | with_reducible rfl
        have HD := HS
        refine wpAnyH_ready (rs := [0]) (by kernel_rfl) (by simp) ?_
        refine AllReadyH.cons rfl (fun K hK => ?_) AllReadyH.nil
        go_simp
        refine empty_mark _ _ ?_; intro w5 ho5 k5; have O5 := hide ho5; have K5 := hide k5; have HS' := hide (HD.out.fresh k5); clear HS k5 ho5; have HS := HS'; clear HS'
        refine hK.out _ _ HS.out (fun _ => ?_)
        clear hK K
        refine wpAnyH_ready (rs := [4]) (by kernel_rfl) (by simp) ?_
        refine AllReadyH.cons rfl (fun K hK => ?_) AllReadyH.nil
        rw [if_pos (by rfl)]
        refine wp_append_own _ _ _ 26 rfl wd.heap.size 24 i0 (.agg #[.int .i64 0, .int .i64 0]) 2 16 Try.underlying26 hi hz0 hz1 hz2 rfl (by decide) _ _ _ rfl O5.out ⟨b, o, none⟩ i cap (svals (ps.take i)) rfl (by rw [svals_length, ← T0.out]) (PT0.out.fresh (FD.out.trans K5.out)).news (svals_one _) (by have := LE.out; unfold maxLen; omega) (by have := LE.out; omega) K5.out.size ?_; intro v6 w6 hown hgrow _; have O6 := hide (ownM_first T0.out hown); have K6 := hide (show Fresh wd w6 from K5.out.grown hgrow K5.out.size (fun q hq => by cases hq; exact Nat.le_refl _)); have HS' := hide (HD.out.fresh K6.out); clear HS hown hgrow; have HS := HS'; clear HS'
        refine hK.out _ _ HS.out (fun _ => ?_)
        clear hK K
        refine wpAnyH_ready (rs := [9]) (by kernel_rfl) (by simp) ?_
        refine AllReadyH.cons rfl (fun K hK => ?_) AllReadyH.nil
        rw [if_pos (by rfl)]
        refine wp_append_own _ _ _ 26 rfl wd.heap.size 24 i0 (.agg #[.int .i64 0, .int .i64 0]) 2 16 Try.underlying26 hi hz0 hz1 hz2 rfl (by decide) _ _ _ rfl O6.out ⟨b, o', none⟩ (ps.length - (i + 1)) (cap - (i + 1)) (svals (ps.drop (i + 1))) rfl (by rw [svals_length, ← T1.out]) (PT1.out.fresh (FD.out.trans K6.out)).news (svals_one _) (by have := LE.out; rw [← T0.out]; unfold maxLen; omega) (by have := LE.out; rw [← T0.out]; omega) K6.out.size ?_; intro v7 w7 hown hgrow _; have O7 := hide (ownM_then T1.out hown); have K7 := hide (show Fresh wd w7 from K6.out.grown hgrow K6.out.size (fun q hq => O6.out.block q hq)); have HS' := hide (HD.out.fresh K7.out); clear HS hown hgrow; have HS := HS'; clear HS'
        refine hK.out _ _ HS.out (fun _ => ?_)
        clear hK K
        simp only [List.getElem_toArray, List.getElem_cons_succ, List.getElem_cons_zero, Act.put, List.setIfInBounds_toArray, List.set_cons_succ, List.set_cons_zero]
        refine held_take (i := 15) (d := 4) (v := ?_) rfl rfl (by kernel_rfl) (by kernel_rfl) (by kernel_rfl) (fun _ _ _ h => h) (by kernel_rfl) ?_ HS.out ?_
        rotate_left
        · intro wz hz
          obtain ⟨z1, -⟩ := hz
          go_simp
          first | done | with_reducible rfl
        refine held_take (i := 16) (d := 5) (v := ?_) rfl rfl (by kernel_rfl) (by kernel_rfl) (by kernel_rfl) (fun _ _ _ h => h) (by kernel_rfl) ?_ HS.out ?_
        rotate_left
        · intro wz hz
          obtain ⟨z1, -⟩ := hz
          go_simp
          first | done | with_reducible rfl
        refine held_take (i := 17) (d := 6) (v := ?_) rfl rfl (by kernel_rfl) (by kernel_rfl) (by kernel_rfl) (fun _ _ _ h => h) (by kernel_rfl) ?_ HS.out ?_
        rotate_left
        · intro wz hz
          obtain ⟨z1, -⟩ := hz
          go_simp
          first | done | with_reducible rfl
        refine wpAnyH_done (by kernel_rfl) ?_ _
        try simp only [Act.put, List.setIfInBounds_toArray, List.set_cons_succ, List.set_cons_zero]
        go_wp2
        go_returns
        exact ⟨v7, by rw [CB.out, CP.out]; rfl, by rw [CL.out] at *; exact O7.out.at (by rw [← CL.out]; exact LL.out) (by rw [← CL.out]; exact IL.out), FD.out.trans K7.out, fun _ => by rw [CL.out]; exact O7.out.mono FD.out.size⟩
      · have A2 := hide (show ∀ t, t < i + 1 → (nth ps t).1 ≠ x from fun t ht => by
          rcases Nat.lt_or_ge t i with h | h
          · exact A.out t h
          · rw [show t = i by omega]; exact hx)
        have d1 : ((nth ps i).1 == x) = false := by rw [beq_eq_false_iff_ne]; exact hx
        clear hx hc h1 h2 h3 h4
        generalize nth ps i = p at *
        go_wp2
        go_round
        case rel => exact ⟨i + 1, by omega, by go_num, A2.out⟩
        case measure => simp [intOf]; omega
    · obtain rfl : i = ps.length := by omega
      obtain ⟨m1, m2⟩ := take_miss A.out
      have CB := hide m1
      have CL := hide m2
      have CP := hide (show clsM ps x = 0 by unfold clsM; rw [m1]; rfl)
      clear m1 m2
      go_wp2
      go_returns
      exact ⟨_, by rw [CB.out, CP.out]; rfl, by rw [CL.out]; exact H1.out, Fresh.refl _, fun h => by rw [CB.out] at h; cases h⟩
theorem rclass_any (v : Value) (ps : List Pc) (x : Int) (w : World) (h : SpansIn w v ps) (hr : Rise ps) (hl : ps.length ≤ 1000000) :
    Calls Try.prog 11 #[v, .int .i64 x] w fun e w' => e = .returned (.tuple #[.int .i64 (clsM ps x), .bool (hitM ps x)]) ∧ Fresh w w' := by
  have RT := hide (rtake_any v ps x w h hr hl)
  clear h hr hl
  generalize clsM ps x = c at *
  generalize hitM ps x = b at *
  go_enter Try.func11, Try.ntmps11
  go_wp2_with fail
  refine RT.out.mono ?_
  rintro e w2 ⟨u, rfl, _, f2, _⟩
  have F2 := hide f2
  clear f2
  go_wp2
  go_ret2
  exact ⟨rfl, F2.out⟩
end Go.Proofs.Ytkcmhdedabcabaa
