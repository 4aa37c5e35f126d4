/- What hodmanplay makes of numbers as a tree (Picks.Tree), as a contract: some tree that may be, of so many bits. -/
import Derived.Test.YtlbkicohmbdlhaaRefTreeD
import Derived.Test.YtlbkicohmbdlhaaPlayIn
import Derived.Deep.RegionHeld3
namespace Go.Proofs.Ytlbkicohmbdlhaa
open Go.RowKit

/-- nothing but block b turns, besides new memory -/
structure Elb (b : Nat) (w w' : World) : Prop where
  os : w'.os = w.os
  tape : w'.tape = w.tape
  output : w'.output = w.output
  size : w.heap.size ≤ w'.heap.size
  block : ∀ k, k < w.heap.size → k ≠ b → w'.heap[k]? = w.heap[k]?
theorem Elb.refl (b : Nat) (w : World) : Elb b w w := ⟨rfl, rfl, rfl, Nat.le_refl _, fun _ _ _ => rfl⟩
theorem Elb.trans {b : Nat} {x y z : World} (h : Elb b x y) (k : Elb b y z) : Elb b x z :=
  ⟨k.os.trans h.os, k.tape.trans h.tape, k.output.trans h.output, Nat.le_trans h.size k.size, fun i hi hb => (k.block i (Nat.lt_of_lt_of_le hi h.size) hb).trans (h.block i hi hb)⟩
theorem Elb.fresh (b : Nat) {w w' : World} (h : Fresh w w') : Elb b w w' := ⟨h.os, h.tape, h.output, h.size, fun k hk _ => h.block k hk⟩
theorem Elb.of (b : Nat) {w w' : World} (h : Else b w w') : Elb b w w' := ⟨h.os, h.tape, h.output, h.size, h.block⟩
theorem Elb.setNew {b : Nat} {a w : World} (h : Elb b a w) (p : Addr) (hp : a.heap.size ≤ p.block) (v : Value) : Elb b a (w.setCell p v) :=
  ⟨h.os, h.tape, h.output, by simpa [World.setCell] using h.size, fun k hk hb => (Below.heap_setCell w p v k (by omega)).trans (h.block k hk hb)⟩
/-- where b is new itself -/
theorem Elb.below {b : Nat} {a w w' : World} (h : Fresh a w) (hb : a.heap.size ≤ b) (k : Elb b w w') : Fresh a w' :=
  ⟨k.os.trans h.os, k.tape.trans h.tape, k.output.trans h.output, Nat.le_trans h.size k.size, fun i hi => (k.block i (Nat.lt_of_lt_of_le hi h.size) (by omega)).trans (h.block i hi)⟩
theorem PicksAt.fresh {w w' : World} {b : Nat} {zs : List Int} {j : Nat} (h : PicksAt w b zs j) (k : Fresh w w') : PicksAt w' b zs j := by
  obtain ⟨a, cap, hr, hz⟩ := h.row
  have hb : b < w.heap.size := World.block_lt_of_cell? _ _ h.pos
  refine ⟨⟨a, cap, (k.cell hb).trans hr, hz.1, hz.2.1, fun i hi => ?_⟩, (k.cell hb).trans h.pos, h.le, fun o => (World.frozen?_of_block (k.block b hb)).trans (h.fr o)⟩
  obtain ⟨x, o, e, hx, hc⟩ := hz.2.2 i hi
  exact ⟨x, o, e, hx, (k.cell (World.block_lt_of_cell? _ _ hc)).trans hc⟩
theorem PicksAt.far' {w w' : World} {b T : Nat} {zs : List Int} {j : Nat} (h : PicksAt w b zs j) (hT : b < T) (hk : ∀ k, k < T → w'.heap[k]? = w.heap[k]?) : PicksAt w' b zs j := by
  obtain ⟨a, cap, hr, hz⟩ := h.row
  refine ⟨⟨a, cap, (World.cell?_of_block (hk b hT)).trans hr, hz.1, hz.2.1, fun i hi => ?_⟩, (World.cell?_of_block (hk b hT)).trans h.pos, h.le, fun o => (World.frozen?_of_block (hk b hT)).trans (h.fr o)⟩
  obtain ⟨x, o, e, hx, hc⟩ := hz.2.2 i hi
  exact ⟨x, o, e, hx, (World.cell?_of_block (hk x (by omega))).trans hc⟩

/-- what is known while the tree is made: the reader b, the variable T, the tree in it -/
structure St (W0 : World) (b R T n : Nat) (zs : List Int) (lv : Value) (ws : List Nat) (w : World) : Prop where
  pk : ∃ j, PicksAt w b zs j
  var : w.heap[T]? = some (.cells #[.int .i64 (n : Int), lv] 27 (0, 0))
  res : w.heap[R]? = some (.cells #[.int .i64 0, .slice none 0 0] 27 (0, 0))
  tr : TreeNew (R + 1) w (.agg #[.int .i64 (n : Int), lv]) n ws
  el : Elb b W0 w
  lt : b < R ∧ R < T ∧ W0.heap.size ≤ R
theorem St.fresh {W0 : World} {b R T n : Nat} {zs : List Int} {lv : Value} {ws : List Nat} {w w' : World} (h : St W0 b R T n zs lv ws w) (k : Fresh w w') : St W0 b R T n zs lv ws w' := by
  obtain ⟨j, hj⟩ := h.pk
  exact ⟨⟨j, hj.fresh k⟩, by rw [k.block T (Array.getElem?_eq_some_iff.1 h.var).1]; exact h.var, by rw [k.block R (Array.getElem?_eq_some_iff.1 h.res).1]; exact h.res, h.tr.fresh k, h.el.trans (Elb.fresh b k), h.lt⟩
theorem St.drew {W0 : World} {b R T n : Nat} {zs : List Int} {lv : Value} {ws : List Nat} {w : World} (h : St W0 b R T n zs lv ws w) : St W0 b R T n zs lv ws w.drew := h.fresh (Fresh.drewN w 1)
theorem num_st {W0 : World} {b R T n : Nat} {zs : List Int} {lv : Value} {ws : List Nat} (m : Int) (w : World) (h : St W0 b R T n zs lv ws w) (hm : 1 ≤ m) (hm2 : m ≤ 9223372036854775807) :
    Calls Try.prog 19 #[.pointer (some ⟨b, 0, none⟩), .int .i64 m] w fun e w' => ∃ r, e = .returned (.int .i64 r) ∧ 0 ≤ r ∧ r ≤ m - 1 ∧ St W0 b R T n zs lv ws w' ∧ w'.cell? ⟨T, 0, none⟩ = some (.int .i64 (n : Int)) ∧ w'.cell? ⟨T, 1, none⟩ = some lv := by
  obtain ⟨j, hj⟩ := h.pk
  refine (num_any b zs j m w hj hm hm2).mono ?_
  rintro e w' ⟨rfl, hp, he, -⟩
  have hi := pk_in zs j m hm
  have hlt := h.lt
  have hT := (Array.getElem?_eq_some_iff.1 h.var).1
  have hR := (Array.getElem?_eq_some_iff.1 h.res).1
  have hv : w'.heap[T]? = some (.cells #[.int .i64 (n : Int), lv] 27 (0, 0)) := by rw [he.block T hT (by omega)]; exact h.var
  exact ⟨_, rfl, hi.1, hi.2, ⟨⟨_, hp⟩, hv, by rw [he.block R hR (by omega)]; exact h.res, h.tr.beside he.size fun k hk hl => he.block k hl (by omega), h.el.trans (Elb.of b he), h.lt⟩, cell_block hv 0 _ rfl, cell_block hv 1 _ rfl⟩
/-- a new tree is stored into the variable -/
theorem St.store {W0 : World} {b R T n : Nat} {zs : List Int} {lv lv' : Value} {ws us : List Nat} {w w1 : World} (h : St W0 b R T n zs lv ws w) (t : TreeNew w.heap.size w1 (.agg #[.int .i64 (n : Int), lv']) n us) (k : Fresh w w1) :
    St W0 b R T n zs lv' us ((w1.setCell ⟨T, 0, none⟩ (.int .i64 (n : Int))).setCell ⟨T, 1, none⟩ lv') := by
  have h1 := h.fresh k
  obtain ⟨j, hj⟩ := h1.pk
  have hT := (Array.getElem?_eq_some_iff.1 h.var).1
  have hlt := h.lt
  have hoth : ∀ i, i ≠ T → ((w1.setCell ⟨T, 0, none⟩ (.int .i64 (n : Int))).setCell ⟨T, 1, none⟩ lv').heap[i]? = w1.heap[i]? := fun i hi => by
    rw [heap_setCell_other _ ⟨T, 1, none⟩ i _ (fun e => hi e), heap_setCell_other _ ⟨T, 0, none⟩ i _ (fun e => hi e)]
  refine ⟨⟨j, hj.far' (show b < T by omega) fun i hi => hoth i (by omega)⟩, two_cells h1.var _ _, by rw [hoth R (by omega)]; exact h1.res, (t.store hT _ _).mono (by omega), (h1.el.setNew _ (show W0.heap.size ≤ T by omega) _).setNew _ (show W0.heap.size ≤ T by omega) _, h.lt⟩
theorem St.tree {W0 : World} {b R T n : Nat} {zs : List Int} {lv : Value} {ws : List Nat} {w : World} (h : St W0 b R T n zs lv ws w) : TreeAt w (.agg #[.int .i64 (n : Int), lv]) n ws := h.tr.at
theorem st_cells {W0 : World} {b R T n : Nat} {zs : List Int} {lv : Value} {ws : List Nat} {w w1 : World} (h : St W0 b R T n zs lv ws w) (k : Fresh w w1) : w1.cell? ⟨T, 0, none⟩ = some (.int .i64 (n : Int)) ∧ w1.cell? ⟨T, 1, none⟩ = some lv ∧ w1.frozen? ⟨T, 0, none⟩ = false ∧ w1.frozen? ⟨T, 1, none⟩ = false := by
  have h1 := (h.fresh k).var
  exact ⟨cell_block h1 0 _ rfl, cell_block h1 1 _ rfl, free_block h1 0, free_block h1 1⟩
theorem zeros_none (n : Nat) : packV n (fun i => (List.replicate n false).getD i false) = noneV n := by
  unfold noneV
  refine pack_congr fun i hi => ?_
  rw [List.getD_eq_getElem?_getD, List.getElem?_eq_getElem (by rw [List.length_replicate]; exact hi), List.getElem_replicate]; rfl

theorem wrap_le (x : Int) : IntKind.i64.wrap x ≤ 9223372036854775807 := by rw [IntKind.wrap_i64]; omega

set_option maxHeartbeats 8000000 in
theorem ptree_any (b : Nat) (zs : List Int) (n : Nat) (w : World) (h : PicksAt w b zs 0) (n1 : 1 ≤ n) (n2 : n ≤ 65536) :
    Calls Try.prog 9 #[.pointer (some ⟨b, 0, none⟩), .int .i64 (n : Int)] w fun e w' => ∃ v ws, e = .returned v ∧ TreeAt w' v n ws ∧ Elb b w w' := by
  obtain ⟨i0, hi, hz0, hz1, hz2⟩ := infoOf infoBool
  have q1 : (1 : Int) ≤ (n : Int) := by omega
  have q2 : (n : Int) ≤ 65536 := by omega
  have hb : b < w.heap.size := World.block_lt_of_cell? _ _ h.pos
  obtain ⟨W1, hW1⟩ : ∃ W1, W1 = w.alloc (.cells #[.int .i64 0, .slice none 0 0] 27) := ⟨_, rfl⟩
  have FW : Fresh w W1 := by subst hW1; exact fresh_box w _ _
  have SW : W1.heap.size = w.heap.size + 1 := by subst hW1; simp
  have RX : W1.heap[w.heap.size]? = some (.cells #[.int .i64 0, .slice none 0 0] 27 (0, 0)) := by subst hW1; exact heap_alloc_new w _
  have HW := hide hW1
  have FWH := hide FW
  have RXH := hide RX
  have PH := hide h
  have hb1 : i0.bytes * n ≤ 281474976710656 := by rw [hz2]; omega
  have hmx : n ≤ maxLen := by unfold maxLen; omega
  have hmax : max (n : Int) 0 = (n : Int) := Int.max_eq_left (by omega)
  have hbase : W1.heap.size ≤ W1.heap.size := Nat.le_refl _
  have MK := hide (fun (w5 : World) hown hgrow => bools_made (w0 := W1) (wr := W1) (w1 := w5) (ln := n) (v := .slice (some ⟨W1.heap.size, 0, none⟩) n n) hown hgrow)
  clear hW1 FW RX h
  go_enter Try.func9, Try.ntmps9
  go_wp2_with (at_make; rw [← HW.out]; refine wpList_make_full _ rfl _ _ 43 rfl W1.heap.size 4 i0 (.bool false) 1 Try.underlying43 hi hz0 hz1 _ _ _ _ n rfl rfl (by first | rfl | exact hmax) (by first | rfl | exact hmax) hb1 hmx hbase ?_; intro w1 hown hgrow; have MM := hide (MK.out w1 hown hgrow); clear hown hgrow)
  have BM := hide (show BoolsAt w1 (.slice (some ⟨w.heap.size + 1, 0, none⟩) n n) (List.replicate n false) by have := MM.out.1.at; rw [SW] at this; exact this)
  have F1 := hide (show Fresh w w1 from FWH.out.trans MM.out.2)
  have RX1 := hide (show w1.heap[w.heap.size]? = some (.cells #[.int .i64 0, .slice none 0 0] 27 (0, 0)) by rw [MM.out.2.block w.heap.size (by omega)]; exact RXH.out)
  clear MM MK
  refine (made_nat n _ (List.replicate n false) w1 BM.out List.length_replicate n1 n2).mono ?_
  rintro e w2 ⟨v2, rfl, t2, f2⟩
  obtain ⟨_, _, _, a2, c2, rfl, _⟩ := t2.at
  have S0 := hide (show St w b w.heap.size w2.heap.size n zs (.slice a2 (nLev n) c2) _ (w2.alloc (.cells #[.int .i64 (n : Int), .slice a2 (nLev n) c2] 27)) from
    ⟨⟨0, PH.out.fresh ((F1.out.trans f2).trans (fresh_box w2 _ _))⟩, heap_alloc_new w2 _, by rw [(f2.trans (fresh_box w2 _ _)).block w.heap.size (Array.getElem?_eq_some_iff.1 RX1.out).1]; exact RX1.out, (t2.mono (by have := (Array.getElem?_eq_some_iff.1 RX1.out).1; omega)).fresh (fresh_box w2 _ _), Elb.fresh b ((F1.out.trans f2).trans (fresh_box w2 _ _)), by have h1 := (Array.getElem?_eq_some_iff.1 RX1.out).1; have h2 := f2.size; omega⟩)
  have lt2 : w.heap.size < w2.heap.size := by have h1 := (Array.getElem?_eq_some_iff.1 RX1.out).1; have h2 := f2.size; omega
  clear t2 f2 F1 RX1 BM PH RXH FWH hb1 hmx hmax
  go_wp2_with fail
  refine (num_st 5 _ S0.out (by decide) (by decide)).mono ?_
  rintro e w3 ⟨r0, rfl, hr0, hr1, hs, c0, c1⟩
  have S1 := hide hs
  clear hs c0 c1 S0
  generalize hTT : w2.heap.size = T at *
  clear hTT
  go_wp2
  go_loopw [6] (fun i wr => ∃ (k : Nat) (lv : Value) (ws : List Nat), i = .int .i64 (k : Int) ∧ k ≤ 4 ∧ St w b w.heap.size T n zs lv ws wr) (fun i _ => (intOf i).toNat)
  case atStart => exact ⟨r0.toNat, _, _, by congr 1; omega, by omega, S1.out⟩
  case round =>
    obtain ⟨k, lv, ws, rfl, hk, hs⟩ := hrel
    have SS := hide hs
    clear S1
    have kk : (k : Int) ≤ 4 := by omega
    rcases Nat.eq_zero_or_pos k with rfl | hk0
    · have v0 := cell_block hs.var 0 _ rfl
      have v1 := cell_block hs.var 1 _ rfl
      have r0' := cell_block hs.res 0 _ rfl
      have r1' := cell_block hs.res 1 _ rfl
      have f0 := free_block hs.res 0
      have f1 := free_block hs.res 1
      have TS := hide (fun x y => (SS.out.tr.store (T := w.heap.size) (Nat.lt_succ_self _) x y).at)
      have ES := hide (fun x y => (SS.out.el.setNew ⟨w.heap.size, 0, none⟩ (Nat.le_refl _) x).setNew ⟨w.heap.size, 1, none⟩ (Nat.le_refl _) y)
      have W2 := hide (fun x y => two_cells SS.out.res x y)
      obtain ⟨_, _, _, a5, c5, hlv, _⟩ := SS.out.tree
      obtain rfl : lv = .slice a5 (nLev n) c5 := by simpa using hlv
      clear hs hlv
      go_wp2
      have W3 := hide (W2.out (.int .i64 (n : Int)) (.slice a5 (nLev n) c5))
      have T3 := hide (TS.out (.int .i64 (n : Int)) (.slice a5 (nLev n) c5))
      have E3 := hide (ES.out (.int .i64 (n : Int)) (.slice a5 (nLev n) c5))
      clear W2 TS ES r0' r1' f0 f1 v0 v1
      generalize World.setCell _ ⟨w.heap.size, 1, none⟩ _ = W at W3 T3 E3 ⊢
      have h0 := cell_block W3.out 0 _ rfl
      have h1 := cell_block W3.out 1 _ rfl
      refine bodyPost_ret (by simp [results, Try.results9, go_sem, h0, h1]; try rfl) rfl ?_
      exact ⟨_, ws, rfl, T3.out, E3.out⟩
    · have k1 : (0 : Int) < (k : Int) := by omega
      have hs0 := hs.drew
      have v0 := cell_block hs.var 0 _ rfl
      have v1 := cell_block hs.var 1 _ rfl
      clear hs SS hi hz0 hz1 hz2 HW hbase SW hr0 hr1 lt2 hb
      go_wp2_with fail
      refine wp_region_any (by kernel_rfl) ?_
      change wpAny _ _ _ _ _ _ _ (World.drew _)
      refine wpAny_take (i := 1) (v := ?_) rfl (by kernel_rfl) (by kernel_rfl) (by kernel_rfl) (fun _ _ _ h => h) (Or.inl ⟨by rfl, ?_⟩) ?_
      rotate_left
      · intro wz; go_simp; first | done | with_reducible rfl
      refine wpAny_take (i := 3) (v := ?_) rfl (by kernel_rfl) (by kernel_rfl) (by kernel_rfl) (fun _ _ _ h => h) (Or.inl ⟨by rfl, ?_⟩) ?_
      rotate_left
      · intro wz; go_simp; first | done | with_reducible rfl
      refine wpAny_take (i := 4) (v := ?_) rfl (by kernel_rfl) (by kernel_rfl) (by kernel_rfl) (fun _ _ _ h => h) (Or.inl ⟨by rfl, ?_⟩) ?_
      rotate_left
      · intro wz; go_simp; first | done | with_reducible rfl
      refine wpAny_take (i := 5) (v := ?_) rfl (by kernel_rfl) (by kernel_rfl) (by kernel_rfl) (fun _ _ _ h => h) (Or.inl ⟨by rfl, ?_⟩) ?_
      rotate_left
      · intro wz; go_simp; first | done | with_reducible rfl
      refine wpAny_take (i := 7) (v := ?_) rfl (by kernel_rfl) (by kernel_rfl) (by kernel_rfl) (fun _ _ _ h => h) (Or.inl ⟨by rfl, ?_⟩) ?_
      rotate_left
      · intro wz; go_simp; first | done | with_reducible rfl
      refine wpAny_take (i := 9) (v := ?_) rfl (by kernel_rfl) (by kernel_rfl) (by kernel_rfl) (fun _ _ _ h => h) (Or.inl ⟨by rfl, ?_⟩) ?_
      rotate_left
      · intro wz; go_simp; first | done | with_reducible rfl
      refine wpAny_take (i := 13) (v := ?_) rfl (by kernel_rfl) (by kernel_rfl) (by kernel_rfl) (fun _ _ _ h => h) (Or.inl ⟨by rfl, ?_⟩) ?_
      rotate_left
      · intro wz; go_simp; first | done | with_reducible rfl
      refine wpAny_ready (rs := [0, 2]) (by kernel_rfl) (by simp) ?_
      refine AllReady.cons rfl (fun K hK => ?_) ?_
      · go_simp
        refine hK _ _ ?_; clear hK K
        refine wpAny_ready (rs := [2]) (by kernel_rfl) (by simp) ?_
        refine AllReady.cons rfl (fun K hK => ?_) ?_
        · go_simp
          go_wp2_with (go_at_call 19; refine (num_st _ _ (by assumption) (by decide) (by decide)).mono ?_; rintro e w4 ⟨r, rfl, -, -, hs4, c0, c1⟩)
          refine wpAny_take (i := 6) (v := ?_) rfl (by kernel_rfl) (by kernel_rfl) (by kernel_rfl) (fun _ _ _ h => h) (Or.inl ⟨by rfl, ?_⟩) ?_
          rotate_left
          · intro wz; go_simp; first | done | with_reducible rfl
          refine wpAny_ready (rs := [8]) (by kernel_rfl) (by simp) ?_
          refine AllReady.cons rfl (fun K hK => ?_) ?_
          · go_simp
            go_wp2_with (go_at_call 19; refine (num_st _ _ (by assumption) (by decide) (by decide)).mono ?_; rintro e w4 ⟨r, rfl, -, -, hs4, c0, c1⟩)
            refine wpAny_ready (rs := [10]) (by kernel_rfl) (by simp) ?_
            refine AllReady.cons rfl (fun K hK => ?_) ?_
            · go_simp
              go_wp2_with (go_at_call 19; refine (num_st _ _ (by assumption) (by decide) (by decide)).mono ?_; rintro e w4 ⟨r, rfl, -, -, hs4, c0, c1⟩)
              refine wpAny_take (i := 11) (v := ?_) rfl (by kernel_rfl) (by kernel_rfl) (by kernel_rfl) (fun _ _ _ h => h) (Or.inl ⟨by rfl, ?_⟩) ?_
              rotate_left
              · intro wz; go_simp; first | done | with_reducible rfl
              refine wpAny_take (i := 12) (v := ?_) rfl (by kernel_rfl) (by kernel_rfl) (by kernel_rfl) (fun _ _ _ h => h) (Or.inl ⟨by rfl, ?_⟩) ?_
              rotate_left
              · intro wz; go_simp; first | done | with_reducible rfl
              refine wpAny_ready (rs := [14]) (by kernel_rfl) (by simp) ?_
              refine AllReady.cons rfl (fun K hK => ?_) ?_
              · go_simp
                go_wp2_with (go_at_call 19; refine (num_st _ _ (by assumption) (by decide) (by decide)).mono ?_; rintro e w4 ⟨r, rfl, -, -, hs4, c0, c1⟩)
                refine wpAny_take (i := 15) (v := ?_) rfl (by kernel_rfl) (by kernel_rfl) (by kernel_rfl) (fun _ _ _ h => h) (Or.inl ⟨by rfl, ?_⟩) ?_
                rotate_left
                · intro wz; go_simp; first | done | with_reducible rfl
                refine wpAny_ready (rs := [16]) (by kernel_rfl) (by simp) ?_
                refine AllReady.cons rfl (fun K hK => ?_) ?_
                · go_simp
                  go_wp2_with (go_at_call 17; refine (rtset_any _ n ws _ _ _ _ (St.tree (by assumption)) (wrap_le _) (wrap_le _)).mono ?_; rintro e w5 ⟨v5, rfl, t5, f5⟩; obtain ⟨_, _, _, a5, c5, rfl, _⟩ := t5.at; have hn := hide (St.store (by assumption) t5 f5); obtain ⟨d0, d1, e0, e1⟩ := st_cells (by assumption) f5; clear t5 f5)
                  refine wpAny_ready (rs := [17]) (by kernel_rfl) (by simp) ?_
                  refine AllReady.cons rfl (fun K hK => ?_) ?_
                  · go_simp
                    refine hK _ _ ?_; clear hK K
                    refine wpAny_done (by kernel_rfl) ?_ _
                    go_wp2
                    go_roundw
                    case rel => exact ⟨k - 1, _, _, by congr 1; omega, by omega, hn.out⟩
                    case measure => simp [intOf]; omega
                  exact AllReady.nil
                exact AllReady.nil
              exact AllReady.nil
            exact AllReady.nil
          exact AllReady.nil
        exact AllReady.nil
      refine AllReady.cons rfl (fun K hK => ?_) ?_
      · go_simp
        go_wp2_with (go_at_call 19; refine (num_st _ _ (by assumption) (by decide) (by decide)).mono ?_; rintro e w4 ⟨r, rfl, -, -, hs4, c0, c1⟩)
        refine wpAny_take (i := 6) (v := ?_) rfl (by kernel_rfl) (by kernel_rfl) (by kernel_rfl) (fun _ _ _ h => h) (Or.inl ⟨by rfl, ?_⟩) ?_
        rotate_left
        · intro wz; go_simp; first | done | with_reducible rfl
        refine wpAny_ready (rs := [0, 8]) (by kernel_rfl) (by simp) ?_
        refine AllReady.cons rfl (fun K hK => ?_) ?_
        · go_simp
          refine hK _ _ ?_; clear hK K
          refine wpAny_ready (rs := [8]) (by kernel_rfl) (by simp) ?_
          refine AllReady.cons rfl (fun K hK => ?_) ?_
          · go_simp
            go_wp2_with (go_at_call 19; refine (num_st _ _ (by assumption) (by decide) (by decide)).mono ?_; rintro e w4 ⟨r, rfl, -, -, hs4, c0, c1⟩)
            refine wpAny_ready (rs := [10]) (by kernel_rfl) (by simp) ?_
            refine AllReady.cons rfl (fun K hK => ?_) ?_
            · go_simp
              go_wp2_with (go_at_call 19; refine (num_st _ _ (by assumption) (by decide) (by decide)).mono ?_; rintro e w4 ⟨r, rfl, -, -, hs4, c0, c1⟩)
              refine wpAny_take (i := 11) (v := ?_) rfl (by kernel_rfl) (by kernel_rfl) (by kernel_rfl) (fun _ _ _ h => h) (Or.inl ⟨by rfl, ?_⟩) ?_
              rotate_left
              · intro wz; go_simp; first | done | with_reducible rfl
              refine wpAny_take (i := 12) (v := ?_) rfl (by kernel_rfl) (by kernel_rfl) (by kernel_rfl) (fun _ _ _ h => h) (Or.inl ⟨by rfl, ?_⟩) ?_
              rotate_left
              · intro wz; go_simp; first | done | with_reducible rfl
              refine wpAny_ready (rs := [14]) (by kernel_rfl) (by simp) ?_
              refine AllReady.cons rfl (fun K hK => ?_) ?_
              · go_simp
                go_wp2_with (go_at_call 19; refine (num_st _ _ (by assumption) (by decide) (by decide)).mono ?_; rintro e w4 ⟨r, rfl, -, -, hs4, c0, c1⟩)
                refine wpAny_take (i := 15) (v := ?_) rfl (by kernel_rfl) (by kernel_rfl) (by kernel_rfl) (fun _ _ _ h => h) (Or.inl ⟨by rfl, ?_⟩) ?_
                rotate_left
                · intro wz; go_simp; first | done | with_reducible rfl
                refine wpAny_ready (rs := [16]) (by kernel_rfl) (by simp) ?_
                refine AllReady.cons rfl (fun K hK => ?_) ?_
                · go_simp
                  go_wp2_with (go_at_call 17; refine (rtset_any _ n ws _ _ _ _ (St.tree (by assumption)) (wrap_le _) (wrap_le _)).mono ?_; rintro e w5 ⟨v5, rfl, t5, f5⟩; obtain ⟨_, _, _, a5, c5, rfl, _⟩ := t5.at; have hn := hide (St.store (by assumption) t5 f5); obtain ⟨d0, d1, e0, e1⟩ := st_cells (by assumption) f5; clear t5 f5)
                  refine wpAny_ready (rs := [17]) (by kernel_rfl) (by simp) ?_
                  refine AllReady.cons rfl (fun K hK => ?_) ?_
                  · go_simp
                    refine hK _ _ ?_; clear hK K
                    refine wpAny_done (by kernel_rfl) ?_ _
                    go_wp2
                    go_roundw
                    case rel => exact ⟨k - 1, _, _, by congr 1; omega, by omega, hn.out⟩
                    case measure => simp [intOf]; omega
                  exact AllReady.nil
                exact AllReady.nil
              exact AllReady.nil
            exact AllReady.nil
          exact AllReady.nil
        refine AllReady.cons rfl (fun K hK => ?_) ?_
        · go_simp
          go_wp2_with (go_at_call 19; refine (num_st _ _ (by assumption) (by decide) (by decide)).mono ?_; rintro e w4 ⟨r, rfl, -, -, hs4, c0, c1⟩)
          refine wpAny_ready (rs := [0, 10]) (by kernel_rfl) (by simp) ?_
          refine AllReady.cons rfl (fun K hK => ?_) ?_
          · go_simp
            refine hK _ _ ?_; clear hK K
            refine wpAny_ready (rs := [10]) (by kernel_rfl) (by simp) ?_
            refine AllReady.cons rfl (fun K hK => ?_) ?_
            · go_simp
              go_wp2_with (go_at_call 19; refine (num_st _ _ (by assumption) (by decide) (by decide)).mono ?_; rintro e w4 ⟨r, rfl, -, -, hs4, c0, c1⟩)
              refine wpAny_take (i := 11) (v := ?_) rfl (by kernel_rfl) (by kernel_rfl) (by kernel_rfl) (fun _ _ _ h => h) (Or.inl ⟨by rfl, ?_⟩) ?_
              rotate_left
              · intro wz; go_simp; first | done | with_reducible rfl
              refine wpAny_take (i := 12) (v := ?_) rfl (by kernel_rfl) (by kernel_rfl) (by kernel_rfl) (fun _ _ _ h => h) (Or.inl ⟨by rfl, ?_⟩) ?_
              rotate_left
              · intro wz; go_simp; first | done | with_reducible rfl
              refine wpAny_ready (rs := [14]) (by kernel_rfl) (by simp) ?_
              refine AllReady.cons rfl (fun K hK => ?_) ?_
              · go_simp
                go_wp2_with (go_at_call 19; refine (num_st _ _ (by assumption) (by decide) (by decide)).mono ?_; rintro e w4 ⟨r, rfl, -, -, hs4, c0, c1⟩)
                refine wpAny_take (i := 15) (v := ?_) rfl (by kernel_rfl) (by kernel_rfl) (by kernel_rfl) (fun _ _ _ h => h) (Or.inl ⟨by rfl, ?_⟩) ?_
                rotate_left
                · intro wz; go_simp; first | done | with_reducible rfl
                refine wpAny_ready (rs := [16]) (by kernel_rfl) (by simp) ?_
                refine AllReady.cons rfl (fun K hK => ?_) ?_
                · go_simp
                  go_wp2_with (go_at_call 17; refine (rtset_any _ n ws _ _ _ _ (St.tree (by assumption)) (wrap_le _) (wrap_le _)).mono ?_; rintro e w5 ⟨v5, rfl, t5, f5⟩; obtain ⟨_, _, _, a5, c5, rfl, _⟩ := t5.at; have hn := hide (St.store (by assumption) t5 f5); obtain ⟨d0, d1, e0, e1⟩ := st_cells (by assumption) f5; clear t5 f5)
                  refine wpAny_ready (rs := [17]) (by kernel_rfl) (by simp) ?_
                  refine AllReady.cons rfl (fun K hK => ?_) ?_
                  · go_simp
                    refine hK _ _ ?_; clear hK K
                    refine wpAny_done (by kernel_rfl) ?_ _
                    go_wp2
                    go_roundw
                    case rel => exact ⟨k - 1, _, _, by congr 1; omega, by omega, hn.out⟩
                    case measure => simp [intOf]; omega
                  exact AllReady.nil
                exact AllReady.nil
              exact AllReady.nil
            exact AllReady.nil
          refine AllReady.cons rfl (fun K hK => ?_) ?_
          · go_simp
            go_wp2_with (go_at_call 19; refine (num_st _ _ (by assumption) (by decide) (by decide)).mono ?_; rintro e w4 ⟨r, rfl, -, -, hs4, c0, c1⟩)
            refine wpAny_take (i := 11) (v := ?_) rfl (by kernel_rfl) (by kernel_rfl) (by kernel_rfl) (fun _ _ _ h => h) (Or.inl ⟨by rfl, ?_⟩) ?_
            rotate_left
            · intro wz; go_simp; first | done | with_reducible rfl
            refine wpAny_take (i := 12) (v := ?_) rfl (by kernel_rfl) (by kernel_rfl) (by kernel_rfl) (fun _ _ _ h => h) (Or.inl ⟨by rfl, ?_⟩) ?_
            rotate_left
            · intro wz; go_simp; first | done | with_reducible rfl
            refine wpAny_ready (rs := [0, 14]) (by kernel_rfl) (by simp) ?_
            refine AllReady.cons rfl (fun K hK => ?_) ?_
            · go_simp
              refine hK _ _ ?_; clear hK K
              refine wpAny_ready (rs := [14]) (by kernel_rfl) (by simp) ?_
              refine AllReady.cons rfl (fun K hK => ?_) ?_
              · go_simp
                go_wp2_with (go_at_call 19; refine (num_st _ _ (by assumption) (by decide) (by decide)).mono ?_; rintro e w4 ⟨r, rfl, -, -, hs4, c0, c1⟩)
                refine wpAny_take (i := 15) (v := ?_) rfl (by kernel_rfl) (by kernel_rfl) (by kernel_rfl) (fun _ _ _ h => h) (Or.inl ⟨by rfl, ?_⟩) ?_
                rotate_left
                · intro wz; go_simp; first | done | with_reducible rfl
                refine wpAny_ready (rs := [16]) (by kernel_rfl) (by simp) ?_
                refine AllReady.cons rfl (fun K hK => ?_) ?_
                · go_simp
                  go_wp2_with (go_at_call 17; refine (rtset_any _ n ws _ _ _ _ (St.tree (by assumption)) (wrap_le _) (wrap_le _)).mono ?_; rintro e w5 ⟨v5, rfl, t5, f5⟩; obtain ⟨_, _, _, a5, c5, rfl, _⟩ := t5.at; have hn := hide (St.store (by assumption) t5 f5); obtain ⟨d0, d1, e0, e1⟩ := st_cells (by assumption) f5; clear t5 f5)
                  refine wpAny_ready (rs := [17]) (by kernel_rfl) (by simp) ?_
                  refine AllReady.cons rfl (fun K hK => ?_) ?_
                  · go_simp
                    refine hK _ _ ?_; clear hK K
                    refine wpAny_done (by kernel_rfl) ?_ _
                    go_wp2
                    go_roundw
                    case rel => exact ⟨k - 1, _, _, by congr 1; omega, by omega, hn.out⟩
                    case measure => simp [intOf]; omega
                  exact AllReady.nil
                exact AllReady.nil
              exact AllReady.nil
            refine AllReady.cons rfl (fun K hK => ?_) ?_
            · go_simp
              go_wp2_with (go_at_call 19; refine (num_st _ _ (by assumption) (by decide) (by decide)).mono ?_; rintro e w4 ⟨r, rfl, -, -, hs4, c0, c1⟩)
              refine wpAny_take (i := 15) (v := ?_) rfl (by kernel_rfl) (by kernel_rfl) (by kernel_rfl) (fun _ _ _ h => h) (Or.inl ⟨by rfl, ?_⟩) ?_
              rotate_left
              · intro wz; go_simp; first | done | with_reducible rfl
              refine wpAny_ready (rs := [0]) (by kernel_rfl) (by simp) ?_
              refine AllReady.cons rfl (fun K hK => ?_) ?_
              · go_simp
                refine hK _ _ ?_; clear hK K
                refine wpAny_ready (rs := [16]) (by kernel_rfl) (by simp) ?_
                refine AllReady.cons rfl (fun K hK => ?_) ?_
                · go_simp
                  go_wp2_with (go_at_call 17; refine (rtset_any _ n ws _ _ _ _ (St.tree (by assumption)) (wrap_le _) (wrap_le _)).mono ?_; rintro e w5 ⟨v5, rfl, t5, f5⟩; obtain ⟨_, _, _, a5, c5, rfl, _⟩ := t5.at; have hn := hide (St.store (by assumption) t5 f5); obtain ⟨d0, d1, e0, e1⟩ := st_cells (by assumption) f5; clear t5 f5)
                  refine wpAny_ready (rs := [17]) (by kernel_rfl) (by simp) ?_
                  refine AllReady.cons rfl (fun K hK => ?_) ?_
                  · go_simp
                    refine hK _ _ ?_; clear hK K
                    refine wpAny_done (by kernel_rfl) ?_ _
                    go_wp2
                    go_roundw
                    case rel => exact ⟨k - 1, _, _, by congr 1; omega, by omega, hn.out⟩
                    case measure => simp [intOf]; omega
                  exact AllReady.nil
                exact AllReady.nil
              exact AllReady.nil
            exact AllReady.nil
          exact AllReady.nil
        exact AllReady.nil
      exact AllReady.nil
end Go.Proofs.Ytlbkicohmbdlhaa
