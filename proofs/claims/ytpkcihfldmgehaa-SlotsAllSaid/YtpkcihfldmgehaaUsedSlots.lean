/- Slots that are made of numbers (hodmanlaw9.Used): some that may be. -/
import Derived.Test.YtpkcihfldmgehaaRefSlotsE
import Derived.Test.YtpkcihfldmgehaaRefSlotsD
import Derived.Test.YtpkcihfldmgehaaPlayFresh
namespace Go.Proofs.Ytpkcihfldmgehaa
open Go.RowKit

theorem over_slots (b : Nat) (zs : List Int) (j : Nat) (r : Bool) (hr : decide (zs.length ≤ j) = r) (w : World) (h : PicksAt w b zs j) :
    Calls Try.prog 18 #[.pointer (some ⟨b, 0, none⟩)] w fun e w' => e = .returned (.bool r) ∧ ∃ n, w' = w.drewN n := by
  obtain ⟨⟨a, cap, hr0, hz⟩, hp, hle, hfr⟩ := h
  have hlen := hz.1
  have D := hide hr
  clear hz hfr hr
  go_enter Try.func18, Try.ntmps18
  go_wp2_with fail
  go_quiet (fail)
  go_wp2
  go_ret
  exact ⟨retB D.out, _, rfl⟩
theorem picks_grown {w w' : World} {b : Nat} {zs : List Int} {j : Nat} (h : PicksAt w b zs j) (k : Fresh w w') : PicksAt w' b zs j := by
  obtain ⟨⟨a, cap, hr, hz⟩, hp, hle, hfr⟩ := h
  have hb : b < w.heap.size := World.block_lt_of_cell? _ _ hr
  refine ⟨⟨a, cap, (k.cell hb).trans hr, hz.1, hz.2.1, fun i hi => ?_⟩, (k.cell hb).trans hp, hle, fun o => ?_⟩
  · obtain ⟨x, o, e, hx, hc⟩ := hz.2.2 i hi
    exact ⟨x, o, e, hx, (k.cell (World.block_lt_of_cell? _ _ hc)).trans hc⟩
  · have := hfr o
    unfold World.frozen? at this ⊢
    rw [k.block b hb]
    exact this
/-- slots that lie in blocks above P, and not in V -/
def SlotsOff (P V : Nat) (w : World) (v : Value) (N c : Nat) (p : Nat → Bool) : Prop := ∀ w' : World, (∀ k, P < k → k ≠ V → k < w.heap.size → w'.heap[k]? = w.heap[k]?) → SlotsAt w' v N c p
theorem SlotsOff.at {P V : Nat} {w : World} {v : Value} {N c : Nat} {p : Nat → Bool} (h : SlotsOff P V w v N c p) : SlotsAt w v N c p := h w fun _ _ _ _ => rfl
theorem SlotsOff.fresh {P V : Nat} {w w1 : World} {v : Value} {N c : Nat} {p : Nat → Bool} (h : SlotsOff P V w v N c p) (k : Fresh w w1) : SlotsOff P V w1 v N c p :=
  fun w' hw => h w' fun i h1 h2 hl => (hw i h1 h2 (Nat.lt_of_lt_of_le hl k.size)).trans (k.block i hl)
theorem SlotsNew.off {base P V : Nat} {w : World} {v : Value} {N c : Nat} {p : Nat → Bool} (h : SlotsNew base w v N c p) (hP : P < base) (hV : V < base) : SlotsOff P V w v N c p := fun w' hw => h w' fun k hk hl => hw k (by omega) (by omega) hl
/-- where a run of Used stands -/
structure Us (W : World) (R P V : Nat) (zs : List Int) (a : Option Addr) (c cap N : Nat) (p : Nat → Bool) (w : World) : Prop where
  pk : ∃ j, PicksAt w P zs j
  var : w.heap[V]? = some (.cells #[.slice a c cap] 26 (0, 0))
  res : w.heap[R]? = some (.cells #[.slice none 0 0] 26 (0, 0))
  sl : SlotsOff P V w (.agg #[.slice a c cap]) N c p
  el : Fresh W w
  ge : W.heap.size ≤ R ∧ R < P ∧ P < V
theorem Us.cell {W : World} {R P V : Nat} {zs : List Int} {a : Option Addr} {c cap N : Nat} {p : Nat → Bool} {w : World} (h : Us W R P V zs a c cap N p w) : w.cell? ⟨V, 0, none⟩ = some (.slice a c cap) ∧ w.frozen? ⟨V, 0, none⟩ = false ∧ w.cell? ⟨R, 0, none⟩ = some (.slice none 0 0) ∧ w.frozen? ⟨R, 0, none⟩ = false :=
  ⟨cell_block h.var 0 _ rfl, free_block h.var 0, cell_block h.res 0 _ rfl, free_block h.res 0⟩
theorem Us.fresh {W : World} {R P V : Nat} {zs : List Int} {a : Option Addr} {c cap N : Nat} {p : Nat → Bool} {w w' : World} (h : Us W R P V zs a c cap N p w) (k : Fresh w w') : Us W R P V zs a c cap N p w' :=
  ⟨(let ⟨j, hj⟩ := h.pk; ⟨j, picks_grown hj k⟩), by rw [k.block V (Array.getElem?_eq_some_iff.1 h.var).1]; exact h.var, by rw [k.block R (Array.getElem?_eq_some_iff.1 h.res).1]; exact h.res, h.sl.fresh k, h.el.trans k, h.ge⟩
theorem Us.else {W : World} {R P V : Nat} {zs : List Int} {a : Option Addr} {c cap N : Nat} {p : Nat → Bool} {w w' : World} {j : Nat} (h : Us W R P V zs a c cap N p w) (k : Else P w w') (hp : PicksAt w' P zs j) : Us W R P V zs a c cap N p w' :=
  ⟨⟨j, hp⟩, by rw [k.block V (Array.getElem?_eq_some_iff.1 h.var).1 (by have := h.ge; omega)]; exact h.var, by rw [k.block R (Array.getElem?_eq_some_iff.1 h.res).1 (by have := h.ge; omega)]; exact h.res,
   fun u hu => h.sl u fun i h1 h2 hl => (hu i h1 h2 (Nat.lt_of_lt_of_le hl k.size)).trans (k.block i hl (by omega)),
   ⟨k.os.trans h.el.os, k.tape.trans h.el.tape, k.output.trans h.el.output, Nat.le_trans h.el.size k.size, fun i hi => (k.block i (Nat.lt_of_lt_of_le hi h.el.size) (by have := h.ge; omega)).trans (h.el.block i hi)⟩, h.ge⟩
theorem Us.store {W : World} {R P V : Nat} {zs : List Int} {a a' : Option Addr} {c cap cap' N : Nat} {p p' : Nat → Bool} {w w1 : World} (h : Us W R P V zs a c cap N p w) (k : Fresh w w1) (s : SlotsNew w.heap.size w1 (.agg #[.slice a' c cap']) N c p') :
    Us W R P V zs a' c cap' N p' (w1.setCell ⟨V, 0, none⟩ (.slice a' c cap')) := by
  have h1 := h.fresh k
  have hV : V < w.heap.size := (Array.getElem?_eq_some_iff.1 h.var).1
  have hP : P < w.heap.size := by have := h.ge; omega
  have e : Else V w1 (w1.setCell ⟨V, 0, none⟩ (.slice a' c cap')) := (Else.refl V w1).setCell _ rfl _
  refine ⟨(let ⟨j, hj⟩ := h1.pk; ⟨j, hj.far e (by have := h.ge; omega)⟩), heap_set_same h1.var _, heap_set_other h1.res (by have := h.ge; omega) _, ?_, fresh_set h1.el (by have := h.ge; omega) 0 _, h.ge⟩
  intro u hu
  refine s u fun i hi hl => ?_
  rw [hu i (by omega) (by omega) (by simpa [World.setCell] using hl), heap_setCell_other w1 ⟨V, 0, none⟩ i _ (by show i ≠ V; omega)]
set_option maxHeartbeats 4000000 in
theorem used_any (a : Option Addr) (len cap : Nat) (zs : List Int) (N c : Nat) (hc : Cls N c) (w : World) (h : ∃ W, IsRow .u8 W a len cap zs ∧ Fresh W w) :
    Calls Try.prog 8 #[.slice a len cap, .int .i64 (N : Int), .int .i64 (c : Int)] w fun e w' => ∃ v p, e = .returned v ∧ SlotsAt w' v N c p ∧ Fresh w w' := by
  obtain ⟨W0, hrow, hfr⟩ := h
  obtain ⟨R, hR⟩ : ∃ R, R = w.heap.size := ⟨_, rfl⟩
  obtain ⟨W1, hW1⟩ : ∃ W1, W1 = w.alloc (.cells #[.slice none 0 0] 26) := ⟨_, rfl⟩
  have F1 : Fresh w W1 := by rw [hW1]; exact fresh_box _ _ _
  have P0 := picks_fresh hrow (hfr.trans F1) 58
  obtain ⟨P, hP⟩ : ∃ P, P = W1.heap.size := ⟨_, rfl⟩
  obtain ⟨W2, hW2⟩ : ∃ W2, W2 = W1.alloc (.cells #[.slice a len cap, .int .i64 0] 58) := ⟨_, rfl⟩
  rw [← hW2, ← hP] at P0
  have F2 : Fresh W1 W2 := by rw [hW2]; exact fresh_box _ _ _
  have bR : W1.heap[R]? = some (.cells #[.slice none 0 0] 26 (0, 0)) := by rw [hR, hW1]; exact heap_alloc_new w _
  have bR2 : W2.heap[R]? = some (.cells #[.slice none 0 0] 26 (0, 0)) := by rw [F2.block R (Array.getElem?_eq_some_iff.1 bR).1]; exact bR
  have PK := hide P0
  have BR := hide bR2
  have FF := hide (F1.trans F2)
  have OR := hide (show w.heap.size ≤ R ∧ R < P ∧ P < W2.heap.size by rw [hR, hP, hW2, hW1]; simp)
  have HR := hide hR
  have HW1 := hide hW1
  have HP := hide hP
  have HW2 := hide hW2
  have NW := hide (rnews_ok N c hc)
  clear hR hW1 F1 P0 hP hW2 F2 bR bR2 hrow hfr hc
  generalize zs.take len = zs at *
  go_enter Try.func8, Try.ntmps8
  go_wp2_with fail
  rw [← HW1.out, ← HR.out]
  refine (made_any a len cap W1).mono ?_
  rintro e w1 ⟨rfl, hw1⟩
  rw [← HW2.out] at hw1
  subst hw1
  rw [← HP.out]
  go_wp2_with fail
  refine (NW.out _).mono ?_
  rintro e w3 ⟨u, rfl, s3, f3⟩
  obtain ⟨_, ua, uc, rfl, _⟩ := s3.at
  obtain ⟨V, hV⟩ : ∃ V, V = w3.heap.size := ⟨_, rfl⟩
  obtain ⟨w4, hw4⟩ : ∃ w4, w4 = w3.alloc (.cells #[.slice ua c uc] 26) := ⟨_, rfl⟩
  have f4 : Fresh w3 w4 := by rw [hw4]; exact fresh_box _ _ _
  have U0 := hide (show Us w R P V zs ua c uc N (fun _ => false) w4 from
    ⟨⟨0, picks_grown PK.out (f3.trans f4)⟩, by rw [hV, hw4]; exact heap_alloc_new w3 _, by rw [(f3.trans f4).block R (Array.getElem?_eq_some_iff.1 BR.out).1]; exact BR.out,
     fun w' hw => s3 w' fun k hk hl => by rw [hw k (by have := OR.out; omega) (by omega) (Nat.lt_of_lt_of_le hl f4.size), f4.block k hl],
     FF.out.trans (f3.trans f4), OR.out.1, OR.out.2.1, by have := OR.out; have := f3.size; omega⟩)
  have HV := hide hV
  have HW4 := hide hw4
  clear s3 f3 hV hw4 f4 PK BR FF OR NW
  go_wp2
  rw [← HW4.out, ← HV.out]
  go_loopw [9] (fun i wr => ∃ (k : Nat) (a : Option Addr) (cap : Nat) (p : Nat → Bool), k ≤ 6 ∧ i = .int .i64 (k : Int) ∧ Us w R P V zs a c cap N p wr) (fun i _ => (6 - intOf i).toNat)
  case atStart => exact ⟨0, _, _, _, Nat.zero_le _, rfl, U0.out⟩
  case round =>
    obtain ⟨k, va, vc, p, hk, rfl, hu⟩ := hrel
    have UU := hide hu
    have k0 : (0 : Int) ≤ (k : Int) := by omega
    clear hu U0
    by_cases g : k < 6
    · have g' : (k : Int) < 6 := by omega
      obtain ⟨j, hj⟩ := UU.out.pk
      cases hov : decide (zs.length ≤ j) with
      | true =>
        go_wp2_with fail
        refine (over_slots P zs j true hov _ hj).mono ?_
        rintro e w5 ⟨rfl, n, rfl⟩
        have U5 := hide (UU.out.fresh (Fresh.drewN _ n))
        generalize World.drewN _ n = w5 at *
        clear hj hov UU
        have SV := hide (show SlotsAt (w5.setCell ⟨R, 0, none⟩ (.slice va c vc)) (.agg #[.slice va c vc]) N c p from U5.out.sl _ fun i h1 _ _ => heap_setCell_other w5 ⟨R, 0, none⟩ i _ (by show i ≠ R; have := U5.out.ge; omega))
        have SF := hide (show Fresh w (w5.setCell ⟨R, 0, none⟩ (.slice va c vc)) from fresh_set U5.out.el U5.out.ge.1 0 _)
        have SR := hide (show (w5.setCell ⟨R, 0, none⟩ (.slice va c vc)).heap[R]? = some (.cells #[.slice va c vc] 26 (0, 0)) from heap_set_same U5.out.res _)
        obtain ⟨x0, x1, x2, x3⟩ := U5.out.cell
        go_wp2
        clear x0 x1 x2 x3
        generalize w5.setCell ⟨R, 0, none⟩ (.slice va c vc) = W9 at SV SF SR ⊢
        have h0 : W9.cell? ⟨R, 0, none⟩ = some (.slice va c vc) := cell_block SR.out 0 _ rfl
        refine bodyPost_ret (by simp [results, Try.results8, go_sem, h0]; try rfl) rfl ?_
        exact ⟨_, p, rfl, SV.out, SF.out⟩
      | false =>
        go_wp2_with fail
        refine (over_slots P zs j false hov _ hj).mono ?_
        rintro e w5 ⟨rfl, n, rfl⟩
        have PJ := hide (show PicksAt (World.drew (World.drewN wr n)) P zs j from (hj.drewN n).drew)
        have U := hide (UU.out.fresh ((Fresh.drewN wr n).trans (Fresh.refl _).drew))
        have sc := U.out.cell.1
        clear hj hov UU
        go_wp2_with fail
        refine wp_region_any (by kernel_rfl) ?_
        change wpAny _ _ _ _ _ _ _ (World.drew _)
        generalize World.drew (World.drewN wr n) = wd at PJ U sc ⊢
        refine wpAny_take (i := 1) (v := ?_) rfl (by kernel_rfl) (by kernel_rfl) (by kernel_rfl) (fun _ _ _ h => h) (Or.inl ⟨by kernel_rfl, ?_⟩) ?_
        rotate_left
        · intro wz; go_simp; first | done | with_reducible rfl
        refine wpAny_take (i := 3) (v := ?_) rfl (by kernel_rfl) (by kernel_rfl) (by kernel_rfl) (fun _ _ _ h => h) (Or.inl ⟨by kernel_rfl, ?_⟩) ?_
        rotate_left
        · intro wz; go_simp; first | done | with_reducible rfl
        refine wpAny_take (i := 5) (v := ?_) rfl (by kernel_rfl) (by kernel_rfl) (by kernel_rfl) (fun _ _ _ h => h) (Or.inl ⟨by kernel_rfl, ?_⟩) ?_
        rotate_left
        · intro wz; go_simp; first | done | with_reducible rfl
        refine wpAny_ready (rs := [0, 2]) (by kernel_rfl) (by simp) ?_
        refine AllReady.cons rfl (fun K hK => ?_) ?_
        · go_simp
          refine hK _ _ ?_
          clear hK K
          refine wpAny_ready (rs := [2]) (by kernel_rfl) (by simp) ?_
          refine AllReady.cons rfl (fun K hK => ?_) AllReady.nil
          go_simp
          go_wp2_with fail
          refine (num_any P zs _ 250 _ PJ.out (by decide) (by decide)).mono ?_
          rintro e wn ⟨rfl, pn, en, _⟩
          have U' := hide (U.out.else en pn)
          have PJ' := hide pn
          clear U PJ pn en sc
          have U := U'
          have PJ := PJ'
          clear U' PJ'
          have sc := U.out.cell.1
          refine hK _ _ ?_
          clear hK K
          have B1 := hide (pk_in zs j 250 (by decide))
          generalize pk zs j 250 = x1 at *
          generalize nx zs j = j1 at *
          refine wpAny_ready (rs := [4]) (by kernel_rfl) (by simp) ?_
          refine AllReady.cons rfl (fun K hK => ?_) AllReady.nil
          go_simp
          go_wp2_with fail
          refine (num_any P zs _ 40 _ PJ.out (by decide) (by decide)).mono ?_
          rintro e wn ⟨rfl, pn, en, _⟩
          have U' := hide (U.out.else en pn)
          have PJ' := hide pn
          clear U PJ pn en sc
          have U := U'
          have PJ := PJ'
          clear U' PJ'
          have sc := U.out.cell.1
          refine hK _ _ ?_
          clear hK K
          have B2 := hide (pk_in zs j1 40 (by decide))
          generalize pk zs j1 40 = x2 at *
          generalize nx zs j1 = j2 at *
          refine wpAny_ready (rs := [6]) (by kernel_rfl) (by simp) ?_
          refine AllReady.cons rfl (fun K hK => ?_) AllReady.nil
          go_simp
          go_wp2_with fail
          refine (num_any P zs _ 3 _ PJ.out (by decide) (by decide)).mono ?_
          rintro e wn ⟨rfl, pn, en, _⟩
          have U' := hide (U.out.else en pn)
          have PJ' := hide pn
          clear U PJ pn en sc
          have U := U'
          have PJ := PJ'
          clear U' PJ'
          have sc := U.out.cell.1
          refine hK _ _ ?_
          clear hK K
          generalize pk zs j2 3 = x3 at *
          generalize nx zs j2 = j3 at *
          refine wpAny_take (i := 7) (v := ?_) rfl (by kernel_rfl) (by kernel_rfl) (by kernel_rfl) (fun _ _ _ h => h) (Or.inl ⟨by kernel_rfl, ?_⟩) ?_
          rotate_left
          · intro wz; go_simp; first | done | with_reducible rfl
          refine wpAny_ready (rs := [8]) (by kernel_rfl) (by simp) ?_
          refine AllReady.cons rfl (fun K hK => ?_) AllReady.nil
          go_simp
          go_wp2_with fail
          refine (ruse_any _ N c p _ _ _ _ U.out.sl.at (by have := B1.out; omega) (by have := B2.out; omega)).mono ?_
          rintro e wu ⟨vu, rfl, su, fu⟩
          obtain ⟨_, ua, uc, rfl, _⟩ := su.at
          have UN := hide (U.out.store fu su)
          have UF := hide (U.out.fresh fu)
          clear su fu sc
          have sc := UF.out.cell.1
          have sf := UF.out.cell.2.1
          refine hK _ _ ?_
          clear hK K
          refine wpAny_ready (rs := [9]) (by kernel_rfl) (by simp) ?_
          refine AllReady.cons rfl (fun K hK => ?_) AllReady.nil
          go_simp
          refine hK _ _ ?_
          clear hK K
          refine wpAny_done (by kernel_rfl) ?_ _
          try simp only [Act.put, List.setIfInBounds_toArray, List.set_cons_succ, List.set_cons_zero]
          clear sc sf UF U PJ
          go_wp2
          go_roundw
          case rel => exact ⟨k + 1, _, _, _, by omega, by go_num, UN.out⟩
          case measure => simp [intOf]; omega
        · refine AllReady.cons rfl (fun K hK => ?_) AllReady.nil
          go_simp
          go_wp2_with fail
          refine (num_any P zs _ 250 _ PJ.out (by decide) (by decide)).mono ?_
          rintro e wn ⟨rfl, pn, en, _⟩
          have U' := hide (U.out.else en pn)
          have PJ' := hide pn
          clear U PJ pn en sc
          have U := U'
          have PJ := PJ'
          clear U' PJ'
          have sc := U.out.cell.1
          refine hK _ _ ?_
          clear hK K
          have B1 := hide (pk_in zs j 250 (by decide))
          generalize pk zs j 250 = x1 at *
          generalize nx zs j = j1 at *
          refine wpAny_ready (rs := [0, 4]) (by kernel_rfl) (by simp) ?_
          refine AllReady.cons rfl (fun K hK => ?_) ?_
          · go_simp
            refine hK _ _ ?_
            clear hK K
            refine wpAny_ready (rs := [4]) (by kernel_rfl) (by simp) ?_
            refine AllReady.cons rfl (fun K hK => ?_) AllReady.nil
            go_simp
            go_wp2_with fail
            refine (num_any P zs _ 40 _ PJ.out (by decide) (by decide)).mono ?_
            rintro e wn ⟨rfl, pn, en, _⟩
            have U' := hide (U.out.else en pn)
            have PJ' := hide pn
            clear U PJ pn en sc
            have U := U'
            have PJ := PJ'
            clear U' PJ'
            have sc := U.out.cell.1
            refine hK _ _ ?_
            clear hK K
            have B2 := hide (pk_in zs j1 40 (by decide))
            generalize pk zs j1 40 = x2 at *
            generalize nx zs j1 = j2 at *
            refine wpAny_ready (rs := [6]) (by kernel_rfl) (by simp) ?_
            refine AllReady.cons rfl (fun K hK => ?_) AllReady.nil
            go_simp
            go_wp2_with fail
            refine (num_any P zs _ 3 _ PJ.out (by decide) (by decide)).mono ?_
            rintro e wn ⟨rfl, pn, en, _⟩
            have U' := hide (U.out.else en pn)
            have PJ' := hide pn
            clear U PJ pn en sc
            have U := U'
            have PJ := PJ'
            clear U' PJ'
            have sc := U.out.cell.1
            refine hK _ _ ?_
            clear hK K
            generalize pk zs j2 3 = x3 at *
            generalize nx zs j2 = j3 at *
            refine wpAny_take (i := 7) (v := ?_) rfl (by kernel_rfl) (by kernel_rfl) (by kernel_rfl) (fun _ _ _ h => h) (Or.inl ⟨by kernel_rfl, ?_⟩) ?_
            rotate_left
            · intro wz; go_simp; first | done | with_reducible rfl
            refine wpAny_ready (rs := [8]) (by kernel_rfl) (by simp) ?_
            refine AllReady.cons rfl (fun K hK => ?_) AllReady.nil
            go_simp
            go_wp2_with fail
            refine (ruse_any _ N c p _ _ _ _ U.out.sl.at (by have := B1.out; omega) (by have := B2.out; omega)).mono ?_
            rintro e wu ⟨vu, rfl, su, fu⟩
            obtain ⟨_, ua, uc, rfl, _⟩ := su.at
            have UN := hide (U.out.store fu su)
            have UF := hide (U.out.fresh fu)
            clear su fu sc
            have sc := UF.out.cell.1
            have sf := UF.out.cell.2.1
            refine hK _ _ ?_
            clear hK K
            refine wpAny_ready (rs := [9]) (by kernel_rfl) (by simp) ?_
            refine AllReady.cons rfl (fun K hK => ?_) AllReady.nil
            go_simp
            refine hK _ _ ?_
            clear hK K
            refine wpAny_done (by kernel_rfl) ?_ _
            try simp only [Act.put, List.setIfInBounds_toArray, List.set_cons_succ, List.set_cons_zero]
            clear sc sf UF U PJ
            go_wp2
            go_roundw
            case rel => exact ⟨k + 1, _, _, _, by omega, by go_num, UN.out⟩
            case measure => simp [intOf]; omega
          · refine AllReady.cons rfl (fun K hK => ?_) AllReady.nil
            go_simp
            go_wp2_with fail
            refine (num_any P zs _ 40 _ PJ.out (by decide) (by decide)).mono ?_
            rintro e wn ⟨rfl, pn, en, _⟩
            have U' := hide (U.out.else en pn)
            have PJ' := hide pn
            clear U PJ pn en sc
            have U := U'
            have PJ := PJ'
            clear U' PJ'
            have sc := U.out.cell.1
            refine hK _ _ ?_
            clear hK K
            have B2 := hide (pk_in zs j1 40 (by decide))
            generalize pk zs j1 40 = x2 at *
            generalize nx zs j1 = j2 at *
            refine wpAny_ready (rs := [0, 6]) (by kernel_rfl) (by simp) ?_
            refine AllReady.cons rfl (fun K hK => ?_) ?_
            · go_simp
              refine hK _ _ ?_
              clear hK K
              refine wpAny_ready (rs := [6]) (by kernel_rfl) (by simp) ?_
              refine AllReady.cons rfl (fun K hK => ?_) AllReady.nil
              go_simp
              go_wp2_with fail
              refine (num_any P zs _ 3 _ PJ.out (by decide) (by decide)).mono ?_
              rintro e wn ⟨rfl, pn, en, _⟩
              have U' := hide (U.out.else en pn)
              have PJ' := hide pn
              clear U PJ pn en sc
              have U := U'
              have PJ := PJ'
              clear U' PJ'
              have sc := U.out.cell.1
              refine hK _ _ ?_
              clear hK K
              generalize pk zs j2 3 = x3 at *
              generalize nx zs j2 = j3 at *
              refine wpAny_take (i := 7) (v := ?_) rfl (by kernel_rfl) (by kernel_rfl) (by kernel_rfl) (fun _ _ _ h => h) (Or.inl ⟨by kernel_rfl, ?_⟩) ?_
              rotate_left
              · intro wz; go_simp; first | done | with_reducible rfl
              refine wpAny_ready (rs := [8]) (by kernel_rfl) (by simp) ?_
              refine AllReady.cons rfl (fun K hK => ?_) AllReady.nil
              go_simp
              go_wp2_with fail
              refine (ruse_any _ N c p _ _ _ _ U.out.sl.at (by have := B1.out; omega) (by have := B2.out; omega)).mono ?_
              rintro e wu ⟨vu, rfl, su, fu⟩
              obtain ⟨_, ua, uc, rfl, _⟩ := su.at
              have UN := hide (U.out.store fu su)
              have UF := hide (U.out.fresh fu)
              clear su fu sc
              have sc := UF.out.cell.1
              have sf := UF.out.cell.2.1
              refine hK _ _ ?_
              clear hK K
              refine wpAny_ready (rs := [9]) (by kernel_rfl) (by simp) ?_
              refine AllReady.cons rfl (fun K hK => ?_) AllReady.nil
              go_simp
              refine hK _ _ ?_
              clear hK K
              refine wpAny_done (by kernel_rfl) ?_ _
              try simp only [Act.put, List.setIfInBounds_toArray, List.set_cons_succ, List.set_cons_zero]
              clear sc sf UF U PJ
              go_wp2
              go_roundw
              case rel => exact ⟨k + 1, _, _, _, by omega, by go_num, UN.out⟩
              case measure => simp [intOf]; omega
            · refine AllReady.cons rfl (fun K hK => ?_) AllReady.nil
              go_simp
              go_wp2_with fail
              refine (num_any P zs _ 3 _ PJ.out (by decide) (by decide)).mono ?_
              rintro e wn ⟨rfl, pn, en, _⟩
              have U' := hide (U.out.else en pn)
              have PJ' := hide pn
              clear U PJ pn en sc
              have U := U'
              have PJ := PJ'
              clear U' PJ'
              have sc := U.out.cell.1
              refine hK _ _ ?_
              clear hK K
              generalize pk zs j2 3 = x3 at *
              generalize nx zs j2 = j3 at *
              refine wpAny_take (i := 7) (v := ?_) rfl (by kernel_rfl) (by kernel_rfl) (by kernel_rfl) (fun _ _ _ h => h) (Or.inl ⟨by kernel_rfl, ?_⟩) ?_
              rotate_left
              · intro wz; go_simp; first | done | with_reducible rfl
              refine wpAny_ready (rs := [0]) (by kernel_rfl) (by simp) ?_
              refine AllReady.cons rfl (fun K hK => ?_) AllReady.nil
              go_simp
              refine hK _ _ ?_
              clear hK K
              refine wpAny_ready (rs := [8]) (by kernel_rfl) (by simp) ?_
              refine AllReady.cons rfl (fun K hK => ?_) AllReady.nil
              go_simp
              go_wp2_with fail
              refine (ruse_any _ N c p _ _ _ _ U.out.sl.at (by have := B1.out; omega) (by have := B2.out; omega)).mono ?_
              rintro e wu ⟨vu, rfl, su, fu⟩
              obtain ⟨_, ua, uc, rfl, _⟩ := su.at
              have UN := hide (U.out.store fu su)
              have UF := hide (U.out.fresh fu)
              clear su fu sc
              have sc := UF.out.cell.1
              have sf := UF.out.cell.2.1
              refine hK _ _ ?_
              clear hK K
              refine wpAny_ready (rs := [9]) (by kernel_rfl) (by simp) ?_
              refine AllReady.cons rfl (fun K hK => ?_) AllReady.nil
              go_simp
              refine hK _ _ ?_
              clear hK K
              refine wpAny_done (by kernel_rfl) ?_ _
              try simp only [Act.put, List.setIfInBounds_toArray, List.set_cons_succ, List.set_cons_zero]
              clear sc sf UF U PJ
              go_wp2
              go_roundw
              case rel => exact ⟨k + 1, _, _, _, by omega, by go_num, UN.out⟩
              case measure => simp [intOf]; omega
    · obtain rfl : k = 6 := by omega
      have U5 := UU
      have SV := hide (show SlotsAt (wr.setCell ⟨R, 0, none⟩ (.slice va c vc)) (.agg #[.slice va c vc]) N c p from U5.out.sl _ fun i h1 _ _ => heap_setCell_other wr ⟨R, 0, none⟩ i _ (by show i ≠ R; have := U5.out.ge; omega))
      have SF := hide (show Fresh w (wr.setCell ⟨R, 0, none⟩ (.slice va c vc)) from fresh_set U5.out.el U5.out.ge.1 0 _)
      have SR := hide (show (wr.setCell ⟨R, 0, none⟩ (.slice va c vc)).heap[R]? = some (.cells #[.slice va c vc] 26 (0, 0)) from heap_set_same U5.out.res _)
      obtain ⟨x0, x1, x2, x3⟩ := U5.out.cell
      go_wp2
      clear x0 x1 x2 x3
      generalize wr.setCell ⟨R, 0, none⟩ (.slice va c vc) = W9 at SV SF SR ⊢
      have h0 : W9.cell? ⟨R, 0, none⟩ = some (.slice va c vc) := cell_block SR.out 0 _ rfl
      refine bodyPost_ret (by simp [results, Try.results8, go_sem, h0]; try rfl) rfl ?_
      exact ⟨_, p, rfl, SV.out, SF.out⟩
end Go.Proofs.Ytpkcihfldmgehaa
