/- What the document's own MaySpans answers (hodmanref8.MaySpans), as a contract. -/
import Derived.Test.YtcakghafjmdkoaaSpanF
import Derived.Test.YtcakghafjmdkoaaRefSpanA
namespace Go.Proofs.Ytcakghafjmdkoaa
open Go.RowKit

/-- a piece, and the one ahead of it -/
def HeldE (W : World) (b o o2 : Nat) (p1 p2 q1 q2 : Int) (w : World) : Prop := w.cell? ⟨b, o, none⟩ = some (.int .i64 p1) ∧ w.cell? ⟨b, o + 1, none⟩ = some (.int .i64 p2) ∧ w.cell? ⟨b, o2, none⟩ = some (.int .i64 q1) ∧ w.cell? ⟨b, o2 + 1, none⟩ = some (.int .i64 q2) ∧ Fresh W w
theorem HeldE.fresh {W : World} {b o o2 : Nat} {p1 p2 q1 q2 : Int} {w w' : World} (h : HeldE W b o o2 p1 p2 q1 q2 w) (k : Fresh w w') : HeldE W b o o2 p1 p2 q1 q2 w' := by
  obtain ⟨a, b, c, d, e⟩ := h
  exact ⟨(k.cell (World.block_lt_of_cell? _ _ a)).trans a, (k.cell (World.block_lt_of_cell? _ _ b)).trans b, (k.cell (World.block_lt_of_cell? _ _ c)).trans c, (k.cell (World.block_lt_of_cell? _ _ d)).trans d, e.trans k⟩
theorem wrap_in {a : Int} (h1 : -9223372036854775808 ≤ a) (h2 : a ≤ 9223372036854775807) : IntKind.i64.wrap a = a := by rw [IntKind.wrap_i64]; omega
theorem wrap_nat {k : Nat} (h : (k : Int) ≤ 9223372036854775807) : IntKind.i64.wrap (k : Int) = (k : Int) := wrap_in (by omega) h
/-- where the one ahead ends -/
def enV (ps : List Pc) : Nat → Int
  | 0 => 0
  | k + 1 => (nth ps k).1 + (nth ps k).2

set_option maxHeartbeats 2000000 in
theorem rmays_any (v : Value) (ps : List Pc) (w : World) (h : SpansAt w v ps) :
    Calls Try.prog 15 #[v] w fun e w' => e = .returned (.bool (mayB 0 ps)) ∧ Fresh w w' := by
  have H := hide h
  obtain ⟨a, cap, rfl, hl, hl2, hl3, h4, hn0, hc⟩ := h
  have I := hide (in64_nth h4)
  have l0 : (0 : Int) ≤ (ps.length : Int) := by omega
  have l1 : (ps.length : Int) ≤ 1048576 := by omega
  clear hl hl2 hl3 h4 hn0 hc
  go_enter Try.func15, Try.ntmps15
  go_wp2
  go_loopw [3] (fun i wr => ∃ j : Nat, j ≤ ps.length ∧ i = .int .i64 (j : Int) ∧ mayB 0 ps = mayB (enV ps j) (ps.drop j) ∧ (∀ k, j = k + 1 → aloneB (nth ps k) = true) ∧ Fresh w wr) (fun i _ => (ps.length - intOf i).toNat)
  case atStart => exact ⟨0, Nat.zero_le _, rfl, rfl, fun k hk => by omega, Fresh.refl _⟩
  case round =>
    obtain ⟨j, hj, rfl, he, hpv, hf⟩ := hrel
    have F := hide hf
    have E := hide he
    have PV := hide hpv
    clear he hf hpv
    by_cases g : j < ps.length
    · have g' : (j : Int) < (ps.length : Int) := by omega
      have j0 : (0 : Int) ≤ (j : Int) := by omega
      have HI := hide (I.out j)
      obtain ⟨a', cap', e, _, _, _, _, _, hc⟩ := H.out.fresh F.out
      cases e
      have HC := hide hc
      obtain ⟨b, o, rfl, c0, c1⟩ := hc j g
      clear hc
      have MG := hide (fun e => may_go (e := e) (ps := ps) g)
      have MN := hide (fun e => may_no (e := e) (ps := ps) g)
      have EN := hide (show enV ps (j + 1) = (nth ps j).1 + (nth ps j).2 from rfl)
      have AJ := hide (show aloneB (nth ps j) = true → ∀ k, j + 1 = k + 1 → aloneB (nth ps k) = true from fun h k hk => by rw [show k = j by omega]; exact h)
      have AI := hide (alone_iff (nth ps j))
      generalize nth ps j = p at *
      obtain ⟨p1, p2⟩ := p
      simp only at c0 c1 EN MG MN AI
      have HS : Hid (HeldC w b (o + j * 2) p1 p2 wr.drew) := ⟨c0, c1, F.out.drew⟩
      cases ha : aloneB (p1, p2) with
      | false =>
        have HA := hide (fun w => rmay_to (p1, p2) false ha w HI.out)
        have N := hide (MN.out (enV ps j) (.inl ha))
        clear ha c0 c1
        go_wp2_with fail
        refine wp_region_held (S := HeldC w b (o + j * 2) p1 p2) (by kernel_rfl) ?_
        change wpAnyH _ _ _ _ _ _ _ _ (World.drew _)
        refine held_take (i := 0) (d := 10) (v := ?_) rfl rfl (by kernel_rfl) (by kernel_rfl) (by kernel_rfl) (fun _ _ _ h => h) (by kernel_rfl) ?_ HS.out ?_
        rotate_left
        · intro wz hz
          obtain ⟨z0, z1, -⟩ := hz
          go_simp
          first | done | with_reducible rfl
        refine held_take (i := 1) (d := 11) (v := ?_) rfl rfl (by kernel_rfl) (by kernel_rfl) (by kernel_rfl) (fun _ _ _ h => h) (by kernel_rfl) ?_ HS.out ?_
        rotate_left
        · intro wz hz
          obtain ⟨z0, z1, -⟩ := hz
          go_simp
          first | done | with_reducible rfl
        refine held_take (i := 2) (d := 12) (v := ?_) rfl rfl (by kernel_rfl) (by kernel_rfl) (by kernel_rfl) (fun _ _ _ h => h) (by kernel_rfl) ?_ HS.out ?_
        rotate_left
        · intro wz hz
          obtain ⟨z0, z1, -⟩ := hz
          go_simp
          first | done | with_reducible rfl
        refine held_take (i := 3) (d := 13) (v := ?_) rfl rfl (by kernel_rfl) (by kernel_rfl) (by kernel_rfl) (fun _ _ _ h => h) (by kernel_rfl) ?_ HS.out ?_
        rotate_left
        · intro wz hz
          obtain ⟨z0, z1, -⟩ := hz
          go_simp
          first | done | with_reducible rfl
        refine wpAnyH_ready (rs := [4]) (by kernel_rfl) (by simp) ?_
        refine AllReadyH.cons rfl (fun K hK => ?_) AllReadyH.nil
        go_simp
        go_wp2_with fail
        refine (HA.out _).mono ?_; rintro e w2 ⟨rfl, hw2⟩; have k2 : Fresh wr.drew w2 := (by rw [hw2]; exact fresh_box wr.drew _ _); have HS' := hide (HS.out.fresh k2); clear HS k2 hw2; have HS := HS'; clear HS'
        refine hK.out _ _ HS.out (fun _ => ?_)
        clear hK K
        refine held_take (i := 5) (d := 15) (v := ?_) rfl rfl (by kernel_rfl) (by kernel_rfl) (by kernel_rfl) (fun _ _ _ h => h) (by kernel_rfl) ?_ HS.out ?_
        rotate_left
        · intro wz hz
          obtain ⟨z0, z1, -⟩ := hz
          go_simp
          first | done | with_reducible rfl
        refine held_take (i := 6) (d := 16) (v := ?_) rfl rfl (by kernel_rfl) (by kernel_rfl) (by kernel_rfl) (fun _ _ _ h => h) (by kernel_rfl) ?_ HS.out ?_
        rotate_left
        · intro wz hz
          obtain ⟨z0, z1, -⟩ := hz
          go_simp
          first | done | with_reducible rfl
        refine held_off (i := 7) (d := 17) rfl rfl (by kernel_rfl) (by kernel_rfl) (by kernel_rfl) (fun _ _ _ h => h) (by kernel_rfl) HS.out ?_
        refine held_off (i := 8) (d := 18) rfl rfl (by kernel_rfl) (by kernel_rfl) (by kernel_rfl) (fun _ _ _ h => h) (by kernel_rfl) HS.out ?_
        refine held_off (i := 9) (d := 19) rfl rfl (by kernel_rfl) (by kernel_rfl) (by kernel_rfl) (fun _ _ _ h => h) (by kernel_rfl) HS.out ?_
        refine held_off (i := 10) (d := 20) rfl rfl (by kernel_rfl) (by kernel_rfl) (by kernel_rfl) (fun _ _ _ h => h) (by kernel_rfl) HS.out ?_
        refine held_off (i := 11) (d := 21) rfl rfl (by kernel_rfl) (by kernel_rfl) (by kernel_rfl) (fun _ _ _ h => h) (by kernel_rfl) HS.out ?_
        refine held_off (i := 12) (d := 22) rfl rfl (by kernel_rfl) (by kernel_rfl) (by kernel_rfl) (fun _ _ _ h => h) (by kernel_rfl) HS.out ?_
        refine held_off (i := 13) (d := 23) rfl rfl (by kernel_rfl) (by kernel_rfl) (by kernel_rfl) (fun _ _ _ h => h) (by kernel_rfl) HS.out ?_
        refine held_off (i := 14) (d := 24) rfl rfl (by kernel_rfl) (by kernel_rfl) (by kernel_rfl) (fun _ _ _ h => h) (by kernel_rfl) HS.out ?_
        refine held_off (i := 15) (d := 25) rfl rfl (by kernel_rfl) (by kernel_rfl) (by kernel_rfl) (fun _ _ _ h => h) (by kernel_rfl) HS.out ?_
        refine held_off (i := 16) (d := 26) rfl rfl (by kernel_rfl) (by kernel_rfl) (by kernel_rfl) (fun _ _ _ h => h) (by kernel_rfl) HS.out ?_
        refine held_off (i := 17) (d := 27) rfl rfl (by kernel_rfl) (by kernel_rfl) (by kernel_rfl) (fun _ _ _ h => h) (by kernel_rfl) HS.out ?_
        refine held_off (i := 18) (d := 28) rfl rfl (by kernel_rfl) (by kernel_rfl) (by kernel_rfl) (fun _ _ _ h => h) (by kernel_rfl) HS.out ?_
        refine held_off (i := 19) (d := 29) rfl rfl (by kernel_rfl) (by kernel_rfl) (by kernel_rfl) (fun _ _ _ h => h) (by kernel_rfl) HS.out ?_
        refine held_off (i := 20) (d := 30) rfl rfl (by kernel_rfl) (by kernel_rfl) (by kernel_rfl) (fun _ _ _ h => h) (by kernel_rfl) HS.out ?_
        refine held_off (i := 21) (d := 31) rfl rfl (by kernel_rfl) (by kernel_rfl) (by kernel_rfl) (fun _ _ _ h => h) (by kernel_rfl) HS.out ?_
        refine held_off (i := 22) (d := 32) rfl rfl (by kernel_rfl) (by kernel_rfl) (by kernel_rfl) (fun _ _ _ h => h) (by kernel_rfl) HS.out ?_
        refine held_off (i := 23) (d := 33) rfl rfl (by kernel_rfl) (by kernel_rfl) (by kernel_rfl) (fun _ _ _ h => h) (by kernel_rfl) HS.out ?_
        refine held_off (i := 24) (d := 34) rfl rfl (by kernel_rfl) (by kernel_rfl) (by kernel_rfl) (fun _ _ _ h => h) (by kernel_rfl) HS.out ?_
        refine held_off (i := 25) (d := 35) rfl rfl (by kernel_rfl) (by kernel_rfl) (by kernel_rfl) (fun _ _ _ h => h) (by kernel_rfl) HS.out ?_
        refine held_off (i := 26) (d := 36) rfl rfl (by kernel_rfl) (by kernel_rfl) (by kernel_rfl) (fun _ _ _ h => h) (by kernel_rfl) HS.out ?_
        refine held_off (i := 27) (d := 37) rfl rfl (by kernel_rfl) (by kernel_rfl) (by kernel_rfl) (fun _ _ _ h => h) (by kernel_rfl) HS.out ?_
        refine held_off (i := 28) (d := 38) rfl rfl (by kernel_rfl) (by kernel_rfl) (by kernel_rfl) (fun _ _ _ h => h) (by kernel_rfl) HS.out ?_
        refine held_off (i := 29) (d := 39) rfl rfl (by kernel_rfl) (by kernel_rfl) (by kernel_rfl) (fun _ _ _ h => h) (by kernel_rfl) HS.out ?_
        refine held_take (i := 30) (d := 40) (v := ?_) rfl rfl (by kernel_rfl) (by kernel_rfl) (by kernel_rfl) (fun _ _ _ h => h) (by kernel_rfl) ?_ HS.out ?_
        rotate_left
        · intro wz hz
          obtain ⟨z0, z1, -⟩ := hz
          go_simp
          first | done | with_reducible rfl
        refine wpAnyH_done (by kernel_rfl) ?_ _
        try simp only [Act.put, List.setIfInBounds_toArray, List.set_cons_succ, List.set_cons_zero]
        go_wp2
        go_ret
        exact ⟨retB (by rw [E.out, N.out]), HS.out.2.2⟩
      | true =>
        have HA := hide (fun w => rmay_to (p1, p2) true ha w HI.out)
        have HT := hide ha
        cases j with
        | zero =>
          have N := hide (MG.out (enV ps 0) ha (show (0 : Int) ≤ p1 from (AI.out.1 ha).2.1))
          clear ha c0 c1
          simp only [Nat.zero_mul, Nat.add_zero] at HS
          go_wp2_with fail
          refine wp_region_held (S := HeldC w b o p1 p2) (by kernel_rfl) ?_
          change wpAnyH _ _ _ _ _ _ _ _ (World.drew _)
          refine held_take (i := 0) (d := 10) (v := ?_) rfl rfl (by kernel_rfl) (by kernel_rfl) (by kernel_rfl) (fun _ _ _ h => h) (by kernel_rfl) ?_ HS.out ?_
          rotate_left
          · intro wz hz
            obtain ⟨z0, z1, -⟩ := hz
            go_simp
            first | done | with_reducible rfl
          refine held_take (i := 1) (d := 11) (v := ?_) rfl rfl (by kernel_rfl) (by kernel_rfl) (by kernel_rfl) (fun _ _ _ h => h) (by kernel_rfl) ?_ HS.out ?_
          rotate_left
          · intro wz hz
            obtain ⟨z0, z1, -⟩ := hz
            go_simp
            first | done | with_reducible rfl
          refine held_take (i := 2) (d := 12) (v := ?_) rfl rfl (by kernel_rfl) (by kernel_rfl) (by kernel_rfl) (fun _ _ _ h => h) (by kernel_rfl) ?_ HS.out ?_
          rotate_left
          · intro wz hz
            obtain ⟨z0, z1, -⟩ := hz
            go_simp
            first | done | with_reducible rfl
          refine held_take (i := 3) (d := 13) (v := ?_) rfl rfl (by kernel_rfl) (by kernel_rfl) (by kernel_rfl) (fun _ _ _ h => h) (by kernel_rfl) ?_ HS.out ?_
          rotate_left
          · intro wz hz
            obtain ⟨z0, z1, -⟩ := hz
            go_simp
            first | done | with_reducible rfl
          refine wpAnyH_ready (rs := [4]) (by kernel_rfl) (by simp) ?_
          refine AllReadyH.cons rfl (fun K hK => ?_) AllReadyH.nil
          go_simp
          go_wp2_with fail
          refine (HA.out _).mono ?_; rintro e w2 ⟨rfl, hw2⟩; have k2 : Fresh wr.drew w2 := (by rw [hw2]; exact fresh_box wr.drew _ _); have HS' := hide (HS.out.fresh k2); clear HS k2 hw2; have HS := HS'; clear HS'
          refine hK.out _ _ HS.out (fun _ => ?_)
          clear hK K
          refine held_take (i := 5) (d := 15) (v := ?_) rfl rfl (by kernel_rfl) (by kernel_rfl) (by kernel_rfl) (fun _ _ _ h => h) (by kernel_rfl) ?_ HS.out ?_
          rotate_left
          · intro wz hz
            obtain ⟨z0, z1, -⟩ := hz
            go_simp
            first | done | with_reducible rfl
          refine held_take (i := 6) (d := 16) (v := ?_) rfl rfl (by kernel_rfl) (by kernel_rfl) (by kernel_rfl) (fun _ _ _ h => h) (by kernel_rfl) ?_ HS.out ?_
          rotate_left
          · intro wz hz
            obtain ⟨z0, z1, -⟩ := hz
            go_simp
            first | done | with_reducible rfl
          refine held_take (i := 7) (d := 17) (v := ?_) rfl rfl (by kernel_rfl) (by kernel_rfl) (by kernel_rfl) (fun _ _ _ h => h) (by kernel_rfl) ?_ HS.out ?_
          rotate_left
          · intro wz hz
            obtain ⟨z0, z1, -⟩ := hz
            go_simp
            first | done | with_reducible rfl
          refine held_take (i := 8) (d := 18) (v := ?_) rfl rfl (by kernel_rfl) (by kernel_rfl) (by kernel_rfl) (fun _ _ _ h => h) (by kernel_rfl) ?_ HS.out ?_
          rotate_left
          · intro wz hz
            obtain ⟨z0, z1, -⟩ := hz
            go_simp
            first | done | with_reducible rfl
          refine held_take (i := 9) (d := 19) (v := ?_) rfl rfl (by kernel_rfl) (by kernel_rfl) (by kernel_rfl) (fun _ _ _ h => h) (by kernel_rfl) ?_ HS.out ?_
          rotate_left
          · intro wz hz
            obtain ⟨z0, z1, -⟩ := hz
            go_simp
            first | done | with_reducible rfl
          refine held_off (i := 10) (d := 20) rfl rfl (by kernel_rfl) (by kernel_rfl) (by kernel_rfl) (fun _ _ _ h => h) (by kernel_rfl) HS.out ?_
          refine held_off (i := 11) (d := 21) rfl rfl (by kernel_rfl) (by kernel_rfl) (by kernel_rfl) (fun _ _ _ h => h) (by kernel_rfl) HS.out ?_
          refine held_off (i := 12) (d := 22) rfl rfl (by kernel_rfl) (by kernel_rfl) (by kernel_rfl) (fun _ _ _ h => h) (by kernel_rfl) HS.out ?_
          refine held_off (i := 13) (d := 23) rfl rfl (by kernel_rfl) (by kernel_rfl) (by kernel_rfl) (fun _ _ _ h => h) (by kernel_rfl) HS.out ?_
          refine held_off (i := 14) (d := 24) rfl rfl (by kernel_rfl) (by kernel_rfl) (by kernel_rfl) (fun _ _ _ h => h) (by kernel_rfl) HS.out ?_
          refine held_off (i := 15) (d := 25) rfl rfl (by kernel_rfl) (by kernel_rfl) (by kernel_rfl) (fun _ _ _ h => h) (by kernel_rfl) HS.out ?_
          refine held_off (i := 16) (d := 26) rfl rfl (by kernel_rfl) (by kernel_rfl) (by kernel_rfl) (fun _ _ _ h => h) (by kernel_rfl) HS.out ?_
          refine held_off (i := 17) (d := 27) rfl rfl (by kernel_rfl) (by kernel_rfl) (by kernel_rfl) (fun _ _ _ h => h) (by kernel_rfl) HS.out ?_
          refine held_off (i := 18) (d := 28) rfl rfl (by kernel_rfl) (by kernel_rfl) (by kernel_rfl) (fun _ _ _ h => h) (by kernel_rfl) HS.out ?_
          refine held_off (i := 19) (d := 29) rfl rfl (by kernel_rfl) (by kernel_rfl) (by kernel_rfl) (fun _ _ _ h => h) (by kernel_rfl) HS.out ?_
          refine held_off (i := 20) (d := 30) rfl rfl (by kernel_rfl) (by kernel_rfl) (by kernel_rfl) (fun _ _ _ h => h) (by kernel_rfl) HS.out ?_
          refine held_off (i := 21) (d := 31) rfl rfl (by kernel_rfl) (by kernel_rfl) (by kernel_rfl) (fun _ _ _ h => h) (by kernel_rfl) HS.out ?_
          refine held_off (i := 22) (d := 32) rfl rfl (by kernel_rfl) (by kernel_rfl) (by kernel_rfl) (fun _ _ _ h => h) (by kernel_rfl) HS.out ?_
          refine held_off (i := 23) (d := 33) rfl rfl (by kernel_rfl) (by kernel_rfl) (by kernel_rfl) (fun _ _ _ h => h) (by kernel_rfl) HS.out ?_
          refine held_off (i := 24) (d := 34) rfl rfl (by kernel_rfl) (by kernel_rfl) (by kernel_rfl) (fun _ _ _ h => h) (by kernel_rfl) HS.out ?_
          refine held_off (i := 25) (d := 35) rfl rfl (by kernel_rfl) (by kernel_rfl) (by kernel_rfl) (fun _ _ _ h => h) (by kernel_rfl) HS.out ?_
          refine held_off (i := 26) (d := 36) rfl rfl (by kernel_rfl) (by kernel_rfl) (by kernel_rfl) (fun _ _ _ h => h) (by kernel_rfl) HS.out ?_
          refine held_off (i := 27) (d := 37) rfl rfl (by kernel_rfl) (by kernel_rfl) (by kernel_rfl) (fun _ _ _ h => h) (by kernel_rfl) HS.out ?_
          refine held_off (i := 28) (d := 38) rfl rfl (by kernel_rfl) (by kernel_rfl) (by kernel_rfl) (fun _ _ _ h => h) (by kernel_rfl) HS.out ?_
          refine held_take (i := 29) (d := 39) (v := ?_) rfl rfl (by kernel_rfl) (by kernel_rfl) (by kernel_rfl) (fun _ _ _ h => h) (by kernel_rfl) ?_ HS.out ?_
          rotate_left
          · intro wz hz
            obtain ⟨z0, z1, -⟩ := hz
            go_simp
            first | done | with_reducible rfl
          refine held_take (i := 30) (d := 40) (v := ?_) rfl rfl (by kernel_rfl) (by kernel_rfl) (by kernel_rfl) (fun _ _ _ h => h) (by kernel_rfl) ?_ HS.out ?_
          rotate_left
          · intro wz hz
            obtain ⟨z0, z1, -⟩ := hz
            go_simp
            first | done | with_reducible rfl
          refine wpAnyH_done (by kernel_rfl) ?_ _
          try simp only [Act.put, List.setIfInBounds_toArray, List.set_cons_succ, List.set_cons_zero]
          go_wp2
          go_roundw
          case rel => exact ⟨0 + 1, by omega, by go_num, by rw [E.out, N.out, EN.out], AJ.out HT.out, HS.out.2.2⟩
          case measure => simp [intOf]; omega
        | succ k =>
          have hk : k < ps.length := by omega
          obtain ⟨b', o', e', x0, x1⟩ := HC.out k hk
          cases e'
          have PA := hide ((alone_iff _).1 (PV.out k rfl))
          have EK := hide (show enV ps (k + 1) = (nth ps k).1 + (nth ps k).2 from rfl)
          generalize nth ps k = q at *
          obtain ⟨q1, q2⟩ := q
          simp only at x0 x1 PA EK
          have q0 : 0 ≤ q1 := by have := PA.out; omega
          have q3 : 0 ≤ q2 := by have := PA.out; omega
          have q4 : q1 + q2 ≤ 1099511627776 := by have := PA.out; omega
          have kw : IntKind.i64.wrap (k : Int) = (k : Int) := wrap_nat (by omega)
          have qw : IntKind.i64.wrap (q1 + q2) = q1 + q2 := wrap_in (by omega) (by omega)
          have kp : (0 : Int) < (k : Int) + 1 := by omega
          have kq : (0 : Int) ≤ (k : Int) + 1 := by omega
          have kr : (k : Int) + 1 < (ps.length : Int) := by omega
          have kl' : (k : Int) < (ps.length : Int) := by omega
          have k0 : (0 : Int) ≤ (k : Int) := by omega
          have HS' : Hid (HeldE w b (o + (k + 1) * 2) (o + k * 2) p1 p2 q1 q2 wr.drew) := ⟨c0, c1, x0, x1, F.out.drew⟩
          clear HS
          have HS := HS'
          clear HS' c0 c1 x0 x1
          by_cases gt : p1 < q1 + q2
          · have N := hide (MN.out (enV ps (k + 1)) (.inr (by rw [EK.out]; exact gt)))
            clear ha
            go_wp2_with fail
            refine wp_region_held (S := HeldE w b (o + (k + 1) * 2) (o + k * 2) p1 p2 q1 q2) (by kernel_rfl) ?_
            change wpAnyH _ _ _ _ _ _ _ _ (World.drew _)
            refine held_take (i := 0) (d := 10) (v := ?_) rfl rfl (by kernel_rfl) (by kernel_rfl) (by kernel_rfl) (fun _ _ _ h => h) (by kernel_rfl) ?_ HS.out ?_
            rotate_left
            · intro wz hz
              obtain ⟨z0, z1, z2, z3, -⟩ := hz
              go_simp
              first | done | with_reducible rfl
            refine held_take (i := 1) (d := 11) (v := ?_) rfl rfl (by kernel_rfl) (by kernel_rfl) (by kernel_rfl) (fun _ _ _ h => h) (by kernel_rfl) ?_ HS.out ?_
            rotate_left
            · intro wz hz
              obtain ⟨z0, z1, z2, z3, -⟩ := hz
              go_simp
              first | done | with_reducible rfl
            refine held_take (i := 2) (d := 12) (v := ?_) rfl rfl (by kernel_rfl) (by kernel_rfl) (by kernel_rfl) (fun _ _ _ h => h) (by kernel_rfl) ?_ HS.out ?_
            rotate_left
            · intro wz hz
              obtain ⟨z0, z1, z2, z3, -⟩ := hz
              go_simp
              first | done | with_reducible rfl
            refine held_take (i := 3) (d := 13) (v := ?_) rfl rfl (by kernel_rfl) (by kernel_rfl) (by kernel_rfl) (fun _ _ _ h => h) (by kernel_rfl) ?_ HS.out ?_
            rotate_left
            · intro wz hz
              obtain ⟨z0, z1, z2, z3, -⟩ := hz
              go_simp
              first | done | with_reducible rfl
            refine wpAnyH_ready (rs := [4]) (by kernel_rfl) (by simp) ?_
            refine AllReadyH.cons rfl (fun K hK => ?_) AllReadyH.nil
            go_simp
            go_wp2_with fail
            refine (HA.out _).mono ?_; rintro e w2 ⟨rfl, hw2⟩; have k2 : Fresh wr.drew w2 := (by rw [hw2]; exact fresh_box wr.drew _ _); have HS' := hide (HS.out.fresh k2); clear HS k2 hw2; have HS := HS'; clear HS'
            refine hK.out _ _ HS.out (fun _ => ?_)
            clear hK K
            refine held_take (i := 5) (d := 15) (v := ?_) rfl rfl (by kernel_rfl) (by kernel_rfl) (by kernel_rfl) (fun _ _ _ h => h) (by kernel_rfl) ?_ HS.out ?_
            rotate_left
            · intro wz hz
              obtain ⟨z0, z1, z2, z3, -⟩ := hz
              go_simp
              first | done | with_reducible rfl
            refine held_take (i := 6) (d := 16) (v := ?_) rfl rfl (by kernel_rfl) (by kernel_rfl) (by kernel_rfl) (fun _ _ _ h => h) (by kernel_rfl) ?_ HS.out ?_
            rotate_left
            · intro wz hz
              obtain ⟨z0, z1, z2, z3, -⟩ := hz
              go_simp
              first | done | with_reducible rfl
            refine held_take (i := 7) (d := 17) (v := ?_) rfl rfl (by kernel_rfl) (by kernel_rfl) (by kernel_rfl) (fun _ _ _ h => h) (by kernel_rfl) ?_ HS.out ?_
            rotate_left
            · intro wz hz
              obtain ⟨z0, z1, z2, z3, -⟩ := hz
              go_simp
              first | done | with_reducible rfl
            refine held_take (i := 8) (d := 18) (v := ?_) rfl rfl (by kernel_rfl) (by kernel_rfl) (by kernel_rfl) (fun _ _ _ h => h) (by kernel_rfl) ?_ HS.out ?_
            rotate_left
            · intro wz hz
              obtain ⟨z0, z1, z2, z3, -⟩ := hz
              go_simp
              first | done | with_reducible rfl
            refine held_take (i := 9) (d := 19) (v := ?_) rfl rfl (by kernel_rfl) (by kernel_rfl) (by kernel_rfl) (fun _ _ _ h => h) (by kernel_rfl) ?_ HS.out ?_
            rotate_left
            · intro wz hz
              obtain ⟨z0, z1, z2, z3, -⟩ := hz
              go_simp
              first | done | with_reducible rfl
            refine held_take (i := 10) (d := 20) (v := ?_) rfl rfl (by kernel_rfl) (by kernel_rfl) (by kernel_rfl) (fun _ _ _ h => h) (by kernel_rfl) ?_ HS.out ?_
            rotate_left
            · intro wz hz
              obtain ⟨z0, z1, z2, z3, -⟩ := hz
              go_simp
              first | done | with_reducible rfl
            refine held_take (i := 11) (d := 21) (v := ?_) rfl rfl (by kernel_rfl) (by kernel_rfl) (by kernel_rfl) (fun _ _ _ h => h) (by kernel_rfl) ?_ HS.out ?_
            rotate_left
            · intro wz hz
              obtain ⟨z0, z1, z2, z3, -⟩ := hz
              go_simp
              first | done | with_reducible rfl
            refine held_take (i := 12) (d := 22) (v := ?_) rfl rfl (by kernel_rfl) (by kernel_rfl) (by kernel_rfl) (fun _ _ _ h => h) (by kernel_rfl) ?_ HS.out ?_
            rotate_left
            · intro wz hz
              obtain ⟨z0, z1, z2, z3, -⟩ := hz
              go_simp
              first | done | with_reducible rfl
            refine held_take (i := 13) (d := 23) (v := ?_) rfl rfl (by kernel_rfl) (by kernel_rfl) (by kernel_rfl) (fun _ _ _ h => h) (by kernel_rfl) ?_ HS.out ?_
            rotate_left
            · intro wz hz
              obtain ⟨z0, z1, z2, z3, -⟩ := hz
              go_simp
              first | done | with_reducible rfl
            refine held_take (i := 14) (d := 24) (v := ?_) rfl rfl (by kernel_rfl) (by kernel_rfl) (by kernel_rfl) (fun _ _ _ h => h) (by kernel_rfl) ?_ HS.out ?_
            rotate_left
            · intro wz hz
              obtain ⟨z0, z1, z2, z3, -⟩ := hz
              go_simp
              first | done | with_reducible rfl
            refine held_take (i := 15) (d := 25) (v := ?_) rfl rfl (by kernel_rfl) (by kernel_rfl) (by kernel_rfl) (fun _ _ _ h => h) (by kernel_rfl) ?_ HS.out ?_
            rotate_left
            · intro wz hz
              obtain ⟨z0, z1, z2, z3, -⟩ := hz
              go_simp
              first | done | with_reducible rfl
            refine held_take (i := 16) (d := 26) (v := ?_) rfl rfl (by kernel_rfl) (by kernel_rfl) (by kernel_rfl) (fun _ _ _ h => h) (by kernel_rfl) ?_ HS.out ?_
            rotate_left
            · intro wz hz
              obtain ⟨z0, z1, z2, z3, -⟩ := hz
              go_simp
              first | done | with_reducible rfl
            refine held_take (i := 17) (d := 27) (v := ?_) rfl rfl (by kernel_rfl) (by kernel_rfl) (by kernel_rfl) (fun _ _ _ h => h) (by kernel_rfl) ?_ HS.out ?_
            rotate_left
            · intro wz hz
              obtain ⟨z0, z1, z2, z3, -⟩ := hz
              go_simp
              first | done | with_reducible rfl
            refine held_take (i := 18) (d := 28) (v := ?_) rfl rfl (by kernel_rfl) (by kernel_rfl) (by kernel_rfl) (fun _ _ _ h => h) (by kernel_rfl) ?_ HS.out ?_
            rotate_left
            · intro wz hz
              obtain ⟨z0, z1, z2, z3, -⟩ := hz
              go_simp
              first | done | with_reducible rfl
            refine held_take (i := 19) (d := 29) (v := ?_) rfl rfl (by kernel_rfl) (by kernel_rfl) (by kernel_rfl) (fun _ _ _ h => h) (by kernel_rfl) ?_ HS.out ?_
            rotate_left
            · intro wz hz
              obtain ⟨z0, z1, z2, z3, -⟩ := hz
              go_simp
              first | done | with_reducible rfl
            refine held_take (i := 20) (d := 30) (v := ?_) rfl rfl (by kernel_rfl) (by kernel_rfl) (by kernel_rfl) (fun _ _ _ h => h) (by kernel_rfl) ?_ HS.out ?_
            rotate_left
            · intro wz hz
              obtain ⟨z0, z1, z2, z3, -⟩ := hz
              go_simp
              first | done | with_reducible rfl
            refine held_take (i := 21) (d := 31) (v := ?_) rfl rfl (by kernel_rfl) (by kernel_rfl) (by kernel_rfl) (fun _ _ _ h => h) (by kernel_rfl) ?_ HS.out ?_
            rotate_left
            · intro wz hz
              obtain ⟨z0, z1, z2, z3, -⟩ := hz
              go_simp
              first | done | with_reducible rfl
            refine held_take (i := 22) (d := 32) (v := ?_) rfl rfl (by kernel_rfl) (by kernel_rfl) (by kernel_rfl) (fun _ _ _ h => h) (by kernel_rfl) ?_ HS.out ?_
            rotate_left
            · intro wz hz
              obtain ⟨z0, z1, z2, z3, -⟩ := hz
              go_simp
              first | done | with_reducible rfl
            refine held_take (i := 23) (d := 33) (v := ?_) rfl rfl (by kernel_rfl) (by kernel_rfl) (by kernel_rfl) (fun _ _ _ h => h) (by kernel_rfl) ?_ HS.out ?_
            rotate_left
            · intro wz hz
              obtain ⟨z0, z1, z2, z3, -⟩ := hz
              go_simp
              first | done | with_reducible rfl
            refine held_take (i := 24) (d := 34) (v := ?_) rfl rfl (by kernel_rfl) (by kernel_rfl) (by kernel_rfl) (fun _ _ _ h => h) (by kernel_rfl) ?_ HS.out ?_
            rotate_left
            · intro wz hz
              obtain ⟨z0, z1, z2, z3, -⟩ := hz
              go_simp
              first | done | with_reducible rfl
            refine held_take (i := 25) (d := 35) (v := ?_) rfl rfl (by kernel_rfl) (by kernel_rfl) (by kernel_rfl) (fun _ _ _ h => h) (by kernel_rfl) ?_ HS.out ?_
            rotate_left
            · intro wz hz
              obtain ⟨z0, z1, z2, z3, -⟩ := hz
              go_simp
              first | done | with_reducible rfl
            refine held_take (i := 26) (d := 36) (v := ?_) rfl rfl (by kernel_rfl) (by kernel_rfl) (by kernel_rfl) (fun _ _ _ h => h) (by kernel_rfl) ?_ HS.out ?_
            rotate_left
            · intro wz hz
              obtain ⟨z0, z1, z2, z3, -⟩ := hz
              go_simp
              first | done | with_reducible rfl
            refine held_take (i := 27) (d := 37) (v := ?_) rfl rfl (by kernel_rfl) (by kernel_rfl) (by kernel_rfl) (fun _ _ _ h => h) (by kernel_rfl) ?_ HS.out ?_
            rotate_left
            · intro wz hz
              obtain ⟨z0, z1, z2, z3, -⟩ := hz
              go_simp
              first | done | with_reducible rfl
            refine held_take (i := 28) (d := 38) (v := ?_) rfl rfl (by kernel_rfl) (by kernel_rfl) (by kernel_rfl) (fun _ _ _ h => h) (by kernel_rfl) ?_ HS.out ?_
            rotate_left
            · intro wz hz
              obtain ⟨z0, z1, z2, z3, -⟩ := hz
              go_simp
              first | done | with_reducible rfl
            refine held_take (i := 29) (d := 39) (v := ?_) rfl rfl (by kernel_rfl) (by kernel_rfl) (by kernel_rfl) (fun _ _ _ h => h) (by kernel_rfl) ?_ HS.out ?_
            rotate_left
            · intro wz hz
              obtain ⟨z0, z1, z2, z3, -⟩ := hz
              go_simp
              first | done | with_reducible rfl
            refine held_take (i := 30) (d := 40) (v := ?_) rfl rfl (by kernel_rfl) (by kernel_rfl) (by kernel_rfl) (fun _ _ _ h => h) (by kernel_rfl) ?_ HS.out ?_
            rotate_left
            · intro wz hz
              obtain ⟨z0, z1, z2, z3, -⟩ := hz
              go_simp
              first | done | with_reducible rfl
            refine wpAnyH_done (by kernel_rfl) ?_ _
            try simp only [Act.put, List.setIfInBounds_toArray, List.set_cons_succ, List.set_cons_zero]
            go_wp2
            go_ret
            exact ⟨retB (by rw [E.out, N.out]), HS.out.2.2.2.2⟩
          · have N := hide (MG.out (enV ps (k + 1)) ha (by rw [EK.out]; show q1 + q2 ≤ p1; omega))
            have le : q1 + q2 ≤ p1 := by omega
            have d1 : decide (p1 < q1 + q2) = false := decide_eq_false gt
            clear ha gt
            go_wp2_with fail
            refine wp_region_held (S := HeldE w b (o + (k + 1) * 2) (o + k * 2) p1 p2 q1 q2) (by kernel_rfl) ?_
            change wpAnyH _ _ _ _ _ _ _ _ (World.drew _)
            refine held_take (i := 0) (d := 10) (v := ?_) rfl rfl (by kernel_rfl) (by kernel_rfl) (by kernel_rfl) (fun _ _ _ h => h) (by kernel_rfl) ?_ HS.out ?_
            rotate_left
            · intro wz hz
              obtain ⟨z0, z1, z2, z3, -⟩ := hz
              go_simp
              first | done | with_reducible rfl
            refine held_take (i := 1) (d := 11) (v := ?_) rfl rfl (by kernel_rfl) (by kernel_rfl) (by kernel_rfl) (fun _ _ _ h => h) (by kernel_rfl) ?_ HS.out ?_
            rotate_left
            · intro wz hz
              obtain ⟨z0, z1, z2, z3, -⟩ := hz
              go_simp
              first | done | with_reducible rfl
            refine held_take (i := 2) (d := 12) (v := ?_) rfl rfl (by kernel_rfl) (by kernel_rfl) (by kernel_rfl) (fun _ _ _ h => h) (by kernel_rfl) ?_ HS.out ?_
            rotate_left
            · intro wz hz
              obtain ⟨z0, z1, z2, z3, -⟩ := hz
              go_simp
              first | done | with_reducible rfl
            refine held_take (i := 3) (d := 13) (v := ?_) rfl rfl (by kernel_rfl) (by kernel_rfl) (by kernel_rfl) (fun _ _ _ h => h) (by kernel_rfl) ?_ HS.out ?_
            rotate_left
            · intro wz hz
              obtain ⟨z0, z1, z2, z3, -⟩ := hz
              go_simp
              first | done | with_reducible rfl
            refine wpAnyH_ready (rs := [4]) (by kernel_rfl) (by simp) ?_
            refine AllReadyH.cons rfl (fun K hK => ?_) AllReadyH.nil
            go_simp
            go_wp2_with fail
            refine (HA.out _).mono ?_; rintro e w2 ⟨rfl, hw2⟩; have k2 : Fresh wr.drew w2 := (by rw [hw2]; exact fresh_box wr.drew _ _); have HS' := hide (HS.out.fresh k2); clear HS k2 hw2; have HS := HS'; clear HS'
            refine hK.out _ _ HS.out (fun _ => ?_)
            clear hK K
            refine held_take (i := 5) (d := 15) (v := ?_) rfl rfl (by kernel_rfl) (by kernel_rfl) (by kernel_rfl) (fun _ _ _ h => h) (by kernel_rfl) ?_ HS.out ?_
            rotate_left
            · intro wz hz
              obtain ⟨z0, z1, z2, z3, -⟩ := hz
              go_simp
              first | done | with_reducible rfl
            refine held_take (i := 6) (d := 16) (v := ?_) rfl rfl (by kernel_rfl) (by kernel_rfl) (by kernel_rfl) (fun _ _ _ h => h) (by kernel_rfl) ?_ HS.out ?_
            rotate_left
            · intro wz hz
              obtain ⟨z0, z1, z2, z3, -⟩ := hz
              go_simp
              first | done | with_reducible rfl
            refine held_take (i := 7) (d := 17) (v := ?_) rfl rfl (by kernel_rfl) (by kernel_rfl) (by kernel_rfl) (fun _ _ _ h => h) (by kernel_rfl) ?_ HS.out ?_
            rotate_left
            · intro wz hz
              obtain ⟨z0, z1, z2, z3, -⟩ := hz
              go_simp
              first | done | with_reducible rfl
            refine held_take (i := 8) (d := 18) (v := ?_) rfl rfl (by kernel_rfl) (by kernel_rfl) (by kernel_rfl) (fun _ _ _ h => h) (by kernel_rfl) ?_ HS.out ?_
            rotate_left
            · intro wz hz
              obtain ⟨z0, z1, z2, z3, -⟩ := hz
              go_simp
              first | done | with_reducible rfl
            refine held_take (i := 9) (d := 19) (v := ?_) rfl rfl (by kernel_rfl) (by kernel_rfl) (by kernel_rfl) (fun _ _ _ h => h) (by kernel_rfl) ?_ HS.out ?_
            rotate_left
            · intro wz hz
              obtain ⟨z0, z1, z2, z3, -⟩ := hz
              go_simp
              first | done | with_reducible rfl
            refine held_take (i := 10) (d := 20) (v := ?_) rfl rfl (by kernel_rfl) (by kernel_rfl) (by kernel_rfl) (fun _ _ _ h => h) (by kernel_rfl) ?_ HS.out ?_
            rotate_left
            · intro wz hz
              obtain ⟨z0, z1, z2, z3, -⟩ := hz
              go_simp
              first | done | with_reducible rfl
            refine held_take (i := 11) (d := 21) (v := ?_) rfl rfl (by kernel_rfl) (by kernel_rfl) (by kernel_rfl) (fun _ _ _ h => h) (by kernel_rfl) ?_ HS.out ?_
            rotate_left
            · intro wz hz
              obtain ⟨z0, z1, z2, z3, -⟩ := hz
              go_simp
              first | done | with_reducible rfl
            refine held_take (i := 12) (d := 22) (v := ?_) rfl rfl (by kernel_rfl) (by kernel_rfl) (by kernel_rfl) (fun _ _ _ h => h) (by kernel_rfl) ?_ HS.out ?_
            rotate_left
            · intro wz hz
              obtain ⟨z0, z1, z2, z3, -⟩ := hz
              go_simp
              first | done | with_reducible rfl
            refine held_take (i := 13) (d := 23) (v := ?_) rfl rfl (by kernel_rfl) (by kernel_rfl) (by kernel_rfl) (fun _ _ _ h => h) (by kernel_rfl) ?_ HS.out ?_
            rotate_left
            · intro wz hz
              obtain ⟨z0, z1, z2, z3, -⟩ := hz
              go_simp
              first | done | with_reducible rfl
            refine held_take (i := 14) (d := 24) (v := ?_) rfl rfl (by kernel_rfl) (by kernel_rfl) (by kernel_rfl) (fun _ _ _ h => h) (by kernel_rfl) ?_ HS.out ?_
            rotate_left
            · intro wz hz
              obtain ⟨z0, z1, z2, z3, -⟩ := hz
              go_simp
              first | done | with_reducible rfl
            refine held_take (i := 15) (d := 25) (v := ?_) rfl rfl (by kernel_rfl) (by kernel_rfl) (by kernel_rfl) (fun _ _ _ h => h) (by kernel_rfl) ?_ HS.out ?_
            rotate_left
            · intro wz hz
              obtain ⟨z0, z1, z2, z3, -⟩ := hz
              go_simp
              first | done | with_reducible rfl
            refine held_take (i := 16) (d := 26) (v := ?_) rfl rfl (by kernel_rfl) (by kernel_rfl) (by kernel_rfl) (fun _ _ _ h => h) (by kernel_rfl) ?_ HS.out ?_
            rotate_left
            · intro wz hz
              obtain ⟨z0, z1, z2, z3, -⟩ := hz
              go_simp
              first | done | with_reducible rfl
            refine held_take (i := 17) (d := 27) (v := ?_) rfl rfl (by kernel_rfl) (by kernel_rfl) (by kernel_rfl) (fun _ _ _ h => h) (by kernel_rfl) ?_ HS.out ?_
            rotate_left
            · intro wz hz
              obtain ⟨z0, z1, z2, z3, -⟩ := hz
              go_simp
              first | done | with_reducible rfl
            refine held_take (i := 18) (d := 28) (v := ?_) rfl rfl (by kernel_rfl) (by kernel_rfl) (by kernel_rfl) (fun _ _ _ h => h) (by kernel_rfl) ?_ HS.out ?_
            rotate_left
            · intro wz hz
              obtain ⟨z0, z1, z2, z3, -⟩ := hz
              go_simp
              first | done | with_reducible rfl
            refine held_take (i := 19) (d := 29) (v := ?_) rfl rfl (by kernel_rfl) (by kernel_rfl) (by kernel_rfl) (fun _ _ _ h => h) (by kernel_rfl) ?_ HS.out ?_
            rotate_left
            · intro wz hz
              obtain ⟨z0, z1, z2, z3, -⟩ := hz
              go_simp
              first | done | with_reducible rfl
            refine held_take (i := 20) (d := 30) (v := ?_) rfl rfl (by kernel_rfl) (by kernel_rfl) (by kernel_rfl) (fun _ _ _ h => h) (by kernel_rfl) ?_ HS.out ?_
            rotate_left
            · intro wz hz
              obtain ⟨z0, z1, z2, z3, -⟩ := hz
              go_simp
              first | done | with_reducible rfl
            refine held_take (i := 21) (d := 31) (v := ?_) rfl rfl (by kernel_rfl) (by kernel_rfl) (by kernel_rfl) (fun _ _ _ h => h) (by kernel_rfl) ?_ HS.out ?_
            rotate_left
            · intro wz hz
              obtain ⟨z0, z1, z2, z3, -⟩ := hz
              go_simp
              first | done | with_reducible rfl
            refine held_take (i := 22) (d := 32) (v := ?_) rfl rfl (by kernel_rfl) (by kernel_rfl) (by kernel_rfl) (fun _ _ _ h => h) (by kernel_rfl) ?_ HS.out ?_
            rotate_left
            · intro wz hz
              obtain ⟨z0, z1, z2, z3, -⟩ := hz
              go_simp
              first | done | with_reducible rfl
            refine held_take (i := 23) (d := 33) (v := ?_) rfl rfl (by kernel_rfl) (by kernel_rfl) (by kernel_rfl) (fun _ _ _ h => h) (by kernel_rfl) ?_ HS.out ?_
            rotate_left
            · intro wz hz
              obtain ⟨z0, z1, z2, z3, -⟩ := hz
              go_simp
              first | done | with_reducible rfl
            refine held_take (i := 24) (d := 34) (v := ?_) rfl rfl (by kernel_rfl) (by kernel_rfl) (by kernel_rfl) (fun _ _ _ h => h) (by kernel_rfl) ?_ HS.out ?_
            rotate_left
            · intro wz hz
              obtain ⟨z0, z1, z2, z3, -⟩ := hz
              go_simp
              first | done | with_reducible rfl
            refine held_take (i := 25) (d := 35) (v := ?_) rfl rfl (by kernel_rfl) (by kernel_rfl) (by kernel_rfl) (fun _ _ _ h => h) (by kernel_rfl) ?_ HS.out ?_
            rotate_left
            · intro wz hz
              obtain ⟨z0, z1, z2, z3, -⟩ := hz
              go_simp
              first | done | with_reducible rfl
            refine held_take (i := 26) (d := 36) (v := ?_) rfl rfl (by kernel_rfl) (by kernel_rfl) (by kernel_rfl) (fun _ _ _ h => h) (by kernel_rfl) ?_ HS.out ?_
            rotate_left
            · intro wz hz
              obtain ⟨z0, z1, z2, z3, -⟩ := hz
              go_simp
              first | done | with_reducible rfl
            refine held_take (i := 27) (d := 37) (v := ?_) rfl rfl (by kernel_rfl) (by kernel_rfl) (by kernel_rfl) (fun _ _ _ h => h) (by kernel_rfl) ?_ HS.out ?_
            rotate_left
            · intro wz hz
              obtain ⟨z0, z1, z2, z3, -⟩ := hz
              go_simp
              first | done | with_reducible rfl
            refine held_take (i := 28) (d := 38) (v := ?_) rfl rfl (by kernel_rfl) (by kernel_rfl) (by kernel_rfl) (fun _ _ _ h => h) (by kernel_rfl) ?_ HS.out ?_
            rotate_left
            · intro wz hz
              obtain ⟨z0, z1, z2, z3, -⟩ := hz
              go_simp
              first | done | with_reducible rfl
            refine held_take (i := 29) (d := 39) (v := ?_) rfl rfl (by kernel_rfl) (by kernel_rfl) (by kernel_rfl) (fun _ _ _ h => h) (by kernel_rfl) ?_ HS.out ?_
            rotate_left
            · intro wz hz
              obtain ⟨z0, z1, z2, z3, -⟩ := hz
              go_simp
              first | done | with_reducible rfl
            refine held_take (i := 30) (d := 40) (v := ?_) rfl rfl (by kernel_rfl) (by kernel_rfl) (by kernel_rfl) (fun _ _ _ h => h) (by kernel_rfl) ?_ HS.out ?_
            rotate_left
            · intro wz hz
              obtain ⟨z0, z1, z2, z3, -⟩ := hz
              go_simp
              first | done | with_reducible rfl
            refine wpAnyH_done (by kernel_rfl) ?_ _
            try simp only [Act.put, List.setIfInBounds_toArray, List.set_cons_succ, List.set_cons_zero]
            go_wp2
            go_roundw
            case rel => exact ⟨k + 1 + 1, by omega, by go_num, by rw [E.out, N.out, EN.out], AJ.out HT.out, HS.out.2.2.2.2⟩
            case measure => simp [intOf]; omega
    · obtain rfl : j = ps.length := by omega
      have N := hide (may_end (enV ps ps.length) ps)
      go_wp2
      go_ret
      exact ⟨retB (by rw [E.out, N.out]), F.out⟩
end Go.Proofs.Ytcakghafjmdkoaa
