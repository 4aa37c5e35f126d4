/- Pieces that are made of numbers (hodmanlaw8.Spans): some that lie apart. -/
import Derived.Test.YtcakghafjmdkoaaRefSpanB
import Derived.Test.YtcakghafjmdkoaaPlayFresh
namespace Go.Proofs.Ytcakghafjmdkoaa
open Go.RowKit

theorem over_any (b : Nat) (zs : List Int) (j : Nat) (r : Bool) (hr : decide (zs.length ≤ j) = r) (w : World) (h : PicksAt w b zs j) :
    Calls Try.prog 19 #[.pointer (some ⟨b, 0, none⟩)] w fun e w' => e = .returned (.bool r) ∧ ∃ n, w' = w.drewN n := by
  obtain ⟨⟨a, cap, hr0, hz⟩, hp, hle, hfr⟩ := h
  have hlen := hz.1
  have D := hide hr
  clear hz hfr hr
  go_enter Try.func19, Try.ntmps19
  go_wp2_with fail
  go_quiet (fail)
  go_wp2
  go_ret
  exact ⟨retB D.out, _, rfl⟩

theorem fresh_else {W w w' : World} {b : Nat} (h : Fresh W w) (hb : W.heap.size ≤ b) (k : Else b w w') : Fresh W w' :=
  ⟨k.os.trans h.os, k.tape.trans h.tape, k.output.trans h.output, Nat.le_trans h.size k.size, fun i hi => (k.block i (Nat.lt_of_lt_of_le hi h.size) (by omega)).trans (h.block i hi)⟩
theorem PicksAt.fresh {w w' : World} {b : Nat} {zs : List Int} {j : Nat} (h : PicksAt w b zs j) (k : Fresh w w') : PicksAt w' b zs j := by
  obtain ⟨⟨a, cap, hr, hz⟩, hp, hle, hfr⟩ := h
  have hb : b < w.heap.size := World.block_lt_of_cell? _ _ hr
  refine ⟨⟨a, cap, (k.cell hb).trans hr, hz.1, hz.2.1, fun i hi => ?_⟩, (k.cell hb).trans hp, hle, fun o => ?_⟩
  · obtain ⟨x, o, e, hx, hc⟩ := hz.2.2 i hi
    exact ⟨x, o, e, hx, (k.cell (World.block_lt_of_cell? _ _ hc)).trans hc⟩
  · have := hfr o
    unfold World.frozen? at this ⊢
    rw [k.block b hb]
    exact this
/-- pieces that lie in other blocks than P -/
def SpansOff (P : Nat) (w : World) (v : Value) (ps : List Pc) : Prop := ∀ w' : World, (∀ k, k ≠ P → k < w.heap.size → w'.heap[k]? = w.heap[k]?) → SpansIn w' v ps
theorem SpansOff.in {P : Nat} {w : World} {v : Value} {ps : List Pc} (h : SpansOff P w v ps) : SpansIn w v ps := h w fun _ _ _ => rfl
theorem SpansOff.fresh {P : Nat} {w w1 : World} {v : Value} {ps : List Pc} (h : SpansOff P w v ps) (k : Fresh w w1) : SpansOff P w1 v ps :=
  fun w' hw => h w' fun i hi hl => (hw i hi (Nat.lt_of_lt_of_le hl k.size)).trans (k.block i hl)
theorem SpansOff.else {P : Nat} {w w1 : World} {v : Value} {ps : List Pc} (h : SpansOff P w v ps) (k : Else P w w1) : SpansOff P w1 v ps :=
  fun w' hw => h w' fun i hi hl => (hw i hi (Nat.lt_of_lt_of_le hl k.size)).trans (k.block i hl hi)
theorem OwnS.agree {w w' : World} {base : Nat} {v : Value} {ps : List Pc} (h : OwnS w base v ps) (k : ∀ i, base ≤ i → i < w.heap.size → w'.heap[i]? = w.heap[i]?) : OwnS w' base v ps := by
  refine ⟨h.1, ?_⟩
  rcases h.2 with hn | ⟨g, cap, cur, rfl, hb, hg, rest⟩
  · exact .inl hn
  · exact .inr ⟨g, cap, cur, rfl, hb, (k g hb (Array.getElem?_eq_some_iff.1 hg).1).trans hg, rest⟩
theorem OwnS.off {w : World} {base : Nat} {v : Value} {ps : List Pc} (h : OwnS w base v ps) {P : Nat} (hP : P < base) (hl : ps.length ≤ 1048576) (hi : ∀ p ∈ ps, In64 p) : SpansOff P w v ps :=
  fun _ hw => (h.agree fun i hb hl => hw i (by omega) hl).at hl hi
theorem spansOff_nil (P : Nat) (w : World) : SpansOff P w (.slice none 0 0) [] := fun w' _ => spansIn_nil w'

/-- where a run of Spans stands -/
structure Stands (W : World) (P : Nat) (zs : List Int) (k : Nat) (lv : Value) (w : World) : Prop where
  pk : ∃ j, PicksAt w P zs j
  sp : ∃ ps, SpansOff P w lv ps ∧ Val ps ∧ ps.length ≤ k
  el : Fresh W w
  ge : W.heap.size ≤ P
theorem Stands.drewN {W : World} {P : Nat} {zs : List Int} {k : Nat} {lv : Value} {w : World} (h : Stands W P zs k lv w) (n : Nat) : Stands W P zs k lv (w.drewN n) := by
  obtain ⟨⟨j, hj⟩, ⟨ps, h1, h2, h3⟩, h4, h5⟩ := h
  exact ⟨⟨j, hj.drewN n⟩, ⟨ps, h1.fresh (Fresh.drewN w n), h2, h3⟩, fresh_drewN h4 n, h5⟩

set_option maxHeartbeats 1000000 in
theorem spans_any (a : Option Addr) (len cap : Nat) (zs : List Int) (w : World) (h : ∃ W, IsRow .u8 W a len cap zs ∧ Fresh W w) :
    Calls Try.prog 8 #[.slice a len cap] w fun e w' => ∃ v ps, e = .returned v ∧ SpansIn w' v ps ∧ Val ps ∧ ps.length ≤ 10 ∧ Fresh w w' := by
  obtain ⟨W0, hrow, hfr⟩ := h
  have P0 := hide (picks_fresh hrow hfr 58)
  obtain ⟨W1, hW1⟩ : ∃ W1, W1 = w.alloc (.cells #[.slice a len cap, .int .i64 0] 58) := ⟨_, rfl⟩
  obtain ⟨P, hP⟩ : ∃ P, P = w.heap.size := ⟨_, rfl⟩
  rw [← hW1, ← hP] at P0
  have FW := hide (show Fresh w W1 by subst hW1; exact fresh_box _ _ _)
  have S0 := hide (show Stands w P (zs.take len) 0 (.slice none 0 0) W1 from ⟨⟨0, P0.out⟩, ⟨[], spansOff_nil _ _, val_nil, Nat.le_refl _⟩, FW.out, by rw [hP]; exact Nat.le_refl _⟩)
  have HW := hide hW1
  have HP := hide hP
  generalize zs.take len = zs at *
  clear hW1 hP hrow hfr P0
  go_enter Try.func8, Try.ntmps8
  go_wp2_with fail
  refine (made_any a len cap w).mono ?_
  rintro e w1 ⟨rfl, hw1⟩
  rw [← HW.out] at hw1
  subst hw1
  rw [← HP.out]
  go_wp2
  go_loopw [4, 5] (fun lv i wr => ∃ k : Nat, k ≤ 10 ∧ i = .int .i64 (k : Int) ∧ Stands w P zs k lv wr) (fun _ i _ => (10 - intOf i).toNat)
  case atStart => exact ⟨0, Nat.zero_le _, rfl, S0.out⟩
  case round =>
    obtain ⟨k, hk, rfl, hst⟩ := hrel
    have ST := hide hst
    have k0 : (0 : Int) ≤ (k : Int) := by omega
    clear hst
    by_cases g : k < 10
    · have g' : (k : Int) < 10 := by omega
      obtain ⟨j, hj⟩ := ST.out.pk
      obtain ⟨ps, hsp, hv, hl⟩ := ST.out.sp
      have J := hide hj
      have SP := hide hsp
      have V := hide hv
      have L := hide hl
      have EL := hide ST.out.el
      have GE := hide ST.out.ge
      clear hj hsp hv hl ST
      cases hov : decide (zs.length ≤ j) with
      | true =>
        go_wp2_with fail
        refine (over_any P zs j true hov _ J.out).mono ?_
        rintro e w2 ⟨rfl, n, rfl⟩
        go_wp2
        go_ret
        exact ⟨_, ps, rfl, (SP.out.fresh (Fresh.drewN _ n)).in, V.out, by have := L.out; omega, fresh_drewN EL.out n⟩
      | false =>
        go_wp2_with fail
        refine (over_any P zs j false hov _ J.out).mono ?_
        rintro e w2 ⟨rfl, n, rfl⟩
        have P1 := hide (J.out.drewN n)
        have S1 := hide (SP.out.fresh (Fresh.drewN _ n))
        have E1 := hide (fresh_drewN EL.out n)
        generalize World.drewN _ n = w2 at *
        clear J SP EL hov
        go_wp2_with fail
        refine (num_any P zs j 100 w2 P1.out (by decide) (by decide)).mono ?_
        rintro e w3 ⟨rfl, p3, e3, _⟩
        have P3 := hide p3
        have S3 := hide (S1.out.else e3)
        have E3 := hide (fresh_else E1.out GE.out e3)
        have B3 := hide (pk_in zs j 100 (by decide))
        clear p3 e3 P1 S1 E1
        generalize nx zs j = j3 at *
        generalize pk zs j 100 = x at *
        go_wp2_with fail
        refine (num_any P zs j3 12 w3 P3.out (by decide) (by decide)).mono ?_
        rintro e w4 ⟨rfl, p4, e4, _⟩
        have P4 := hide p4
        have S4 := hide (S3.out.else e4)
        have E4 := hide (fresh_else E3.out GE.out e4)
        have B4 := hide (pk_in zs j3 12 (by decide))
        clear p4 e4 P3 S3 E3
        generalize nx zs j3 = j4 at *
        generalize pk zs j3 12 = y at *
        have y0 : 0 ≤ y := B4.out.1
        have y1 : y ≤ 11 := by have := B4.out.2; omega
        go_wp2_with fail
        refine (rput_any _ ps x (1 + y) w4 S4.out.in V.out (by have := L.out; omega) (by have := B3.out; unfold In64; simp only; omega)).mono ?_
        rintro e w5 ⟨u, rfl, s5, f5, o5⟩
        have P5 := hide (P4.out.fresh f5)
        have E5 := hide (E4.out.trans f5)
        have V5 := hide (val_put V.out (x, 1 + y))
        have L5 := hide (put_length ps (x, 1 + y))
        have PL := hide (World.block_lt_of_cell? _ _ P4.out.pos)
        cases hb : putB ps (x, 1 + y) with
        | true =>
          rw [hb] at o5
          have S5 := hide (show SpansOff P w5 u (putL ps (x, 1 + y)) by
            rcases o5 with ⟨h, _⟩ | h
            · cases h
            · exact h.off PL.out (by have := L.out; have := L5.out; omega) V5.out.1.in64)
          clear s5 o5 hb f5
          go_wp2
          go_roundw
          case rel => exact ⟨k + 1, by omega, by go_num, ⟨_, P5.out⟩, ⟨_, S5.out, V5.out, by have := L.out; have := L5.out; omega⟩, E5.out, GE.out⟩
          case measure => simp [intOf]; omega
        | false =>
          have S5 := hide (S4.out.fresh f5)
          clear s5 o5 hb f5
          go_wp2
          go_roundw
          case rel => exact ⟨k + 1, by omega, by go_num, ⟨_, P5.out⟩, ⟨_, S5.out, V.out, by have := L.out; omega⟩, E5.out, GE.out⟩
          case measure => simp [intOf]; omega
    · obtain rfl : k = 10 := by omega
      obtain ⟨ps, hsp, hv, hl⟩ := ST.out.sp
      have SP := hide hsp
      have EL := hide ST.out.el
      go_wp2
      go_ret
      exact ⟨_, ps, rfl, SP.out.in, hv, hl, EL.out⟩
end Go.Proofs.Ytcakghafjmdkoaa
