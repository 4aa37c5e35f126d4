/- commit as the laws use it: contracts with their answers written out, rows that are the same, and that it has begun (hodmanlaw13.begun). Condition: the library's table lies in its variable. -/
import Derived.Test.YtcnfmkhjhffebaaDoorComE
import Derived.Test.YtcnfmkhjhffebaaDoorOpen
namespace Go.Proofs.YtcnfmkhjhffebaaDoor
open Go.RowKit

theorem commit_to (v1 v2 : Value) (on met : List Bool) (f t most : Int) (F T N n : Nat) (X : List Bool) (R : List Nat) (w : World) (h1 : BoolsIn w v1 on) (h2 : BoolsIn w v2 met) (hT : Tab w) (hf : f = F) (ht : t = T) (hN : on.length = N) (hl : N ≤ 65536) (hyes : comB on met f t most = true)
    (hX : comX on met F T most = X) (hR : frL on F T = R) (hn : R.length = n) :
    Calls Tryd.prog 10 #[v1, v2, .int .i64 f, .int .i64 t, .int .i64 most] w fun e w' => ∃ g a c, e = .returned (.tuple #[.slice (some ⟨g, 0, none⟩) N N, .slice a n c, .bool true]) ∧ OwnB w' w.heap.size (.slice (some ⟨g, 0, none⟩) N N) X ∧ OwnI w' w.heap.size (.slice a n c) R ∧ Fresh w w' := by
  subst hf ht hN hX hR hn
  refine (commit_yes v1 v2 on met F T most w h1 h2 hT hl hyes).mono ?_
  rintro e w' ⟨g, v, rfl, o1, o2, k⟩
  obtain ⟨a, c, rfl⟩ := o2.shape
  exact ⟨g, a, c, rfl, o1, o2, k⟩
theorem trim_to (v1 v2 : Value) (on met : List Bool) (N n : Nat) (X : List Bool) (w : World) (h1 : BoolsIn w v1 on) (h2 : BoolsIn w v2 met) (hN : on.length = N) (hl : N ≤ 65536) (hX : trL on met = X) (hn : cntL on - cntL X = n) :
    Calls Tryd.prog 14 #[v1, v2] w fun e w' => ∃ g, e = .returned (.tuple #[.slice (some ⟨g, 0, none⟩) N N, .int .i64 (n : Int)]) ∧ OwnB w' w.heap.size (.slice (some ⟨g, 0, none⟩) N N) X ∧ Fresh w w' := by
  subst hN hX hn
  exact trim_any v1 v2 on met w h1 h2 hl
/-- bools laid out in a block of memory -/
theorem boolsIn_lit {w : World} {B : Nat} {cs : Array Value} {t : TypeId} {bs : List Bool} {n : Nat} (hb : w.heap[B]? = some (.cells cs t (0, 0))) (hcs : cs.toList = bvals bs) (hn : bs.length = n) (hl : bs.length ≤ 1048576) : BoolsIn w (.slice (some ⟨B, 0, none⟩) n n) bs := by
  subst hn
  refine ⟨hl, .inr ⟨B, 0, bs.length, rfl, Nat.le_refl _, by omega, fun i hi => ?_⟩⟩
  rw [Nat.zero_add]
  have h := bvals_get bs i hi
  rw [← hcs] at h
  exact cell_block hb i _ (by simpa using h)
/-- a block of bools, made -/
theorem lit_made (w : World) (cs : Array Value) (t : TypeId) (bs : List Bool) (n : Nat) (hcs : cs.toList = bvals bs) (hn : bs.length = n) (hl : bs.length ≤ 1048576) {p : World → Prop} (h : ∀ w', BoolsIn w' (.slice (some ⟨w.heap.size, 0, none⟩) n n) bs → Fresh w w' → p w') : p (w.alloc (.cells cs t)) :=
  h _ (boolsIn_lit (heap_alloc_new w _) hcs hn hl) (fresh_box _ _ _)
theorem OwnI.one {w : World} {base : Nat} {a : Option Addr} {n c x : Nat} {l : List Nat} (h : OwnI w base (.slice a n c) l) (i : Nat) (hi : i < l.length) (hx : l.getD i 0 = x) : ∃ g, a = some ⟨g, 0, none⟩ ∧ w.cell? ⟨g, i, none⟩ = some (.int .i64 (x : Int)) := by
  obtain ⟨g, e, c⟩ := h.cell i hi
  rw [hx] at c
  exact ⟨g, e, c⟩

set_option maxHeartbeats 400000 in
theorem sameb_true (v1 v2 : Value) (l : List Bool) (w : World) (h1 : BoolsAt w v1 l) (h2 : BoolsAt w v2 l) (hl : l.length ≤ 1048576) :
    Calls Tryd.prog 12 #[v1, v2] w fun e w' => e = .returned (.bool true) ∧ Fresh w w' := by
  obtain ⟨a1, c1, rfl, hc1⟩ := h1
  obtain ⟨a2, c2, rfl, hc2⟩ := h2
  have H1 := hide hc1
  have H2 := hide hc2
  have l0 : (0 : Int) ≤ (l.length : Int) := by omega
  have l1 : (l.length : Int) ≤ 1048576 := by omega
  clear hc1 hc2 hl
  generalize l.length = N at *
  go_enter Tryd.func12, Tryd.ntmps12
  go_wp2
  go_loopw [5] (fun i wr => ∃ j : Nat, j ≤ N ∧ i = .int .i64 (j : Int) ∧ Fresh w wr) (fun i _ => (N - intOf i).toNat)
  case atStart => exact ⟨0, Nat.zero_le _, rfl, Fresh.refl _⟩
  case round =>
    obtain ⟨j, hj, rfl, hk⟩ := hrel
    have K := hide hk
    have j0 : (0 : Int) ≤ (j : Int) := by omega
    by_cases g : j < N
    · have g' : (j : Int) < (N : Int) := by omega
      obtain ⟨b, o, rfl, d1⟩ := H1.out j g
      obtain ⟨b', o', rfl, d2⟩ := H2.out j g
      have e1 := (hk.cell (World.block_lt_of_cell? _ _ d1)).trans d1
      have e2 := (hk.cell (World.block_lt_of_cell? _ _ d2)).trans d2
      generalize l.getD j false = x at *
      clear hk d1 d2
      cases x
      · go_wp2_with fail
        go_quiet (fail)
        go_wp2
        go_roundw
        case rel => exact ⟨j + 1, by omega, by go_num, fresh_drewN K.out _⟩
        case measure => simp [intOf]; omega
      · go_wp2_with fail
        go_quiet (fail)
        go_wp2
        go_roundw
        case rel => exact ⟨j + 1, by omega, by go_num, fresh_drewN K.out _⟩
        case measure => simp [intOf]; omega
    · obtain rfl : N = j := by omega
      clear hk
      go_wp2
      go_ret
      exact ⟨rfl, K.out⟩
set_option maxHeartbeats 400000 in
theorem samei_true (a1 a2 : Option Addr) (n c1 c2 b1 b2 : Nat) (l : List Nat) (w : World) (h1 : OwnI w b1 (.slice a1 n c1) l) (h2 : OwnI w b2 (.slice a2 n c2) l) (hn : l.length = n) (hl : n ≤ 1048576) :
    Calls Tryd.prog 13 #[.slice a1 n c1, .slice a2 n c2] w fun e w' => e = .returned (.bool true) ∧ Fresh w w' := by
  have H1 := hide h1
  have H2 := hide h2
  have l0 : (0 : Int) ≤ (n : Int) := by omega
  have l1 : (n : Int) ≤ 1048576 := by omega
  have HN := hide hn
  clear h1 h2 hl hn
  go_enter Tryd.func13, Tryd.ntmps13
  go_wp2
  go_loopw [5] (fun i wr => ∃ j : Nat, j ≤ n ∧ i = .int .i64 (j : Int) ∧ Fresh w wr) (fun i _ => (n - intOf i).toNat)
  case atStart => exact ⟨0, Nat.zero_le _, rfl, Fresh.refl _⟩
  case round =>
    obtain ⟨j, hj, rfl, hk⟩ := hrel
    have K := hide hk
    have j0 : (0 : Int) ≤ (j : Int) := by omega
    by_cases g : j < n
    · have g' : (j : Int) < (n : Int) := by omega
      obtain ⟨b, rfl, e1⟩ := (H1.out.fresh hk).cell j (by rw [HN.out]; exact g)
      obtain ⟨b', rfl, e2⟩ := (H2.out.fresh hk).cell j (by rw [HN.out]; exact g)
      generalize l.getD j 0 = x at *
      have ee : ((x : Int) == (x : Int)) = true := by rw [beq_iff_eq]
      clear hk
      go_wp2_with fail
      go_quiet (fail)
      go_wp2
      go_roundw
      case rel => exact ⟨j + 1, by omega, by go_num, fresh_drewN K.out _⟩
      case measure => simp [intOf]; omega
    · obtain rfl : n = j := by omega
      clear hk
      go_wp2
      go_ret
      exact ⟨rfl, K.out⟩
/-- two blocks of bools, made one behind the other -/
theorem lits_made (w : World) (c1 c2 : Array Value) (t : TypeId) (x1 x2 : List Bool) (n1 n2 : Nat) (e1 : c1.toList = bvals x1) (e2 : c2.toList = bvals x2) (h1 : x1.length = n1) (h2 : x2.length = n2) (l1 : x1.length ≤ 1048576) (l2 : x2.length ≤ 1048576) :
    BoolsIn ((w.alloc (.cells c1 t)).alloc (.cells c2 t)) (.slice (some ⟨w.heap.size, 0, none⟩) n1 n1) x1 ∧ BoolsIn ((w.alloc (.cells c1 t)).alloc (.cells c2 t)) (.slice (some ⟨w.heap.size + 1, 0, none⟩) n2 n2) x2 ∧ Fresh w ((w.alloc (.cells c1 t)).alloc (.cells c2 t)) := by
  refine ⟨(boolsIn_lit (heap_alloc_new w _) e1 h1 l1).fresh (fresh_box _ _ _), ?_, fresh_more (fresh_box _ _ _) _ _⟩
  have := boolsIn_lit (heap_alloc_new (w.alloc (.cells c1 t)) (.cells c2 t)) e2 h2 l2
  rwa [show (w.alloc (.cells c1 t)).heap.size = w.heap.size + 1 by simp] at this

set_option maxRecDepth 100000 in
set_option maxHeartbeats 2000000 in
theorem begun13_true (w : World) (hT : Tab w) : Calls Tryd.prog 8 #[] w fun e w' => e = .returned (.bool true) ∧ Fresh w w' := by
  have HT := hide hT
  clear hT
  have L2 := fun w => lits_made w #[.bool true, .bool false, .bool false] #[.bool true, .bool false, .bool false] 4 [true, false, false] [true, false, false] 3 3 rfl rfl rfl rfl (by decide) (by decide)
  have HL := hide L2
  clear L2
  go_enter Tryd.func8, Tryd.ntmps8
  go_wp2_with fail
  obtain ⟨b1, b2, k2⟩ := HL.out w
  refine (commit_to _ _ [true, false, false] [true, false, false] 1 2 2 1 2 3 1 [true, true, false] [1] _ b1 b2 (HT.out.below k2) rfl rfl rfl (by decide) (by decide +kernel) (by decide +kernel) (by decide +kernel) rfl).mono ?_
  rintro e w3 ⟨g, a, c, rfl, o1, o2, k3⟩
  have K3 := hide (k2.trans k3)
  have X3 := hide (o1.inn (by decide))
  have Y3 := hide o2
  have O3 := hide o1
  clear b1 b2 k2 o1 o2 k3
  go_wp2_with fail
  obtain ⟨b1, b2, k2⟩ := HL.out w3
  refine (commit_no _ _ [true, false, false] [true, false, false] 1 3 2 _ b1 b2 (by decide) (by decide) (by decide) (by decide) (by decide +kernel)).mono ?_
  rintro e w4 ⟨rfl, k4⟩
  have K4 := hide (k2.trans k4)
  clear b1 b2 k2 k4
  unfold noE
  go_wp2_with fail
  have B5 := hide (boolsIn_lit (heap_alloc_new w4 (.cells #[.bool true, .bool false, .bool false] 4)) (bs := [true, false, false]) (n := 3) rfl rfl (by decide))
  have F5 := hide (fresh_box w4 #[.bool true, .bool false, .bool false] 4)
  refine (trim_to _ _ [true, true, false] [true, false, false] 3 1 [true, false, false] _ (X3.out.fresh (K4.out.trans F5.out)) B5.out rfl (by decide) (by decide +kernel) (by decide +kernel)).mono ?_
  rintro e w6 ⟨gy, rfl, o6, k6⟩
  have K6 := hide (F5.out.trans k6)
  have KK := hide (K3.out.trans (K4.out.trans K6.out))
  have K36 := K4.out.trans K6.out
  obtain ⟨gf, rfl, d2⟩ := (Y3.out.fresh K36).one 0 (by decide) (x := 1) rfl
  have d1 := (O3.out.fresh K36).bit rfl 1 true rfl (by decide)
  have d3 := o6.bit rfl 1 false rfl (by decide)
  clear o6 k6 K36 B5 F5
  go_wp2
  go_ret
  exact ⟨rfl, KK.out⟩
theorem OwnB.shape {w : World} {base : Nat} {v : Value} {bs : List Bool} {n : Nat} (h : OwnB w base v bs) (hn : bs.length = n) : ∃ a c, v = .slice a n c := by
  subst hn
  rcases h.2 with ⟨rfl, hn⟩ | ⟨g, cap, cur, rfl, _⟩
  · exact ⟨none, 0, by rw [hn]⟩
  · exact ⟨_, cap, rfl⟩
theorem OwnB.cellOf {w : World} {base : Nat} {a : Option Addr} {n c : Nat} {bs : List Bool} (h : OwnB w base (.slice a n c) bs) (i : Nat) (hi : i < bs.length) : ∃ g, a = some ⟨g, 0, none⟩ ∧ w.cell? ⟨g, i, none⟩ = some (.bool (bs.getD i false)) := by
  have h0 := h
  rcases h.2 with ⟨e, hn⟩ | ⟨g, cap', cur, e, hb, hg, hc⟩
  · omega
  · cases e
    exact ⟨g, rfl, by rw [World.ownsRow.cellAt h0 i (by omega), bvals_get bs i hi]⟩
theorem IsRow_le {k : IntKind} {w : World} {a : Option Addr} {len cap : Nat} {zs : List Int} (h : Go.Proofs.YtcnfmkhjhffebaaDoor.IsRow k w a len cap zs) : (len : Int) ≤ 9223372036854775807 := by
  rcases h with ⟨_, rfl, _, _⟩ | ⟨x, _, hl, hm, _⟩
  · decide
  · unfold maxLen at hm; omega
end Go.Proofs.YtcnfmkhjhffebaaDoor
