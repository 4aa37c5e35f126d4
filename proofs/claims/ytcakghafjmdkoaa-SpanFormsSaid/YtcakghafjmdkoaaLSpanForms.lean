/- Proved here: hodmanlaw8.SpanForms, called in any memory, returns true: which pieces may be, and lie apart, of those that the statement names, is what promise P8.1 asks. No condition. -/
import Derived.Test.YtcakghafjmdkoaaSpanLaw
import Derived.Test.YtcakghafjmdkoaaRefSpanA
import Derived.Test.YtcakghafjmdkoaaInts
import Derived.Test.YtcakghafjmdkoaaOpen
namespace Go.Proofs.Ytcakghafjmdkoaa
open Go.ChangeShapes Go.WideShapes Go.ChangeAt Go.RowKit

theorem spansIn_lit (w : World) (cs : Array Value) (ps : List Pc) (n : Nat) (hn : ps.length = n) (hcs : cs.toList = svals ps) (hl : ps.length ≤ 1048576) (hi : ∀ p ∈ ps, In64 p) : SpansIn (w.alloc (.cells cs 25)) (.slice (some ⟨w.heap.size, 0, none⟩) n n) ps := by
  subst hn
  have hs : cs.size = ps.length * 2 := by rw [← Array.length_toList, hcs, svals_length]
  have h := World.ownsRow_lit (base := w.heap.size) (e := 25) (size := 2) w cs ps.length (Nat.le_refl _) (by unfold maxLen; omega) hs
  rw [hcs] at h
  exact OwnS.at h hl hi

def lS : List Pc := [(0, 2), (5, 3), (8, 1)]
def atL : List Int := [2, 3, 2, 4, 9, 8, -1, 0, 3, 1099511627776, 1099511627775, 3]
def nL : List Int := [3, 1, 4, 1, 5, 1, 1, 1, 0, 1, 1, -1]
def wL : List Bool := [true, true, false, true, true, false, false, false, false, false, true, false]
theorem lS_val : Val lS := (val_of lS 0 (by decide)).1
theorem putted : ∀ k, k < 12 → putB lS (atL.getD k 0, nL.getD k 0) = wL.getD k false ∧ (-9223372036854775808 ≤ atL.getD k 0 ∧ atL.getD k 0 ≤ 9223372036854775807 ∧ -9223372036854775808 ≤ nL.getD k 0 ∧ nL.getD k 0 ≤ 9223372036854775807) := by decide +kernel

abbrev lO : Obj := .cells #[.int .i64 0, .int .i64 2, .int .i64 5, .int .i64 3, .int .i64 8, .int .i64 1] 25
abbrev aO : Obj := .cells #[.int .i64 2, .int .i64 3, .int .i64 2, .int .i64 4, .int .i64 9, .int .i64 8, .int .i64 (-1), .int .i64 0, .int .i64 3, .int .i64 1099511627776, .int .i64 1099511627775, .int .i64 3] 3
abbrev nO : Obj := .cells #[.int .i64 3, .int .i64 1, .int .i64 4, .int .i64 1, .int .i64 5, .int .i64 1, .int .i64 1, .int .i64 1, .int .i64 0, .int .i64 1, .int .i64 1, .int .i64 (-1)] 3
abbrev wO : Obj := .cells #[.bool true, .bool true, .bool false, .bool true, .bool true, .bool false, .bool false, .bool false, .bool false, .bool false, .bool true, .bool false] 4
def HasW (w : World) (n : Nat) : Prop := ∀ k, k < 12 → w.cell? ⟨n, k, none⟩ = some (.bool (wL.getD k false))
theorem HasW.made (w : World) : HasW (w.alloc wO) w.heap.size := by
  intro k hk
  have hb := heap_alloc_new w wO
  refine cell_block hb k _ ?_
  match k, hk with
  | 0, _ => rfl
  | 1, _ => rfl
  | 2, _ => rfl
  | 3, _ => rfl
  | 4, _ => rfl
  | 5, _ => rfl
  | 6, _ => rfl
  | 7, _ => rfl
  | 8, _ => rfl
  | 9, _ => rfl
  | 10, _ => rfl
  | 11, _ => rfl
theorem fresh_i {w w' : World} {n : Nat} {L : List Int} (h : HasI w n L) (k : Fresh w w') : HasI w' n L := fun i hi => (k.cell (World.block_lt_of_cell? _ _ (h i hi))).trans (h i hi)
/-- what lies in the call's own blocks -/
structure Four (W w : World) (n : Nat) : Prop where
  l : SpansIn w (.slice (some ⟨n, 0, none⟩) 3 3) lS
  a : HasI w (n + 1) atL
  b : HasI w (n + 1 + 1) nL
  c : HasW w (n + 1 + 1 + 1)
  el : Fresh W w
theorem Four.fresh {W w w' : World} {n : Nat} (h : Four W w n) (k : Fresh w w') : Four W w' n :=
  ⟨h.l.fresh k, fresh_i h.a k, fresh_i h.b k, fun i hi => (k.cell (World.block_lt_of_cell? _ _ (h.c i hi))).trans (h.c i hi), h.el.trans k⟩
theorem four_made (W w : World) (h : Fresh W w) : Four W ((((w.alloc lO).alloc aO).alloc nO).alloc wO) w.heap.size := by
  have z : ∀ (w : World) o, (w.alloc o).heap.size = w.heap.size + 1 := fun w o => by simp
  refine ⟨?_, ?_, ?_, ?_, ?_⟩
  · exact (spansIn_lit w _ lS 3 rfl rfl (by decide) lS_val.1.in64).fresh (fresh_more (fresh_more (fresh_box _ _ _) _ _) _ _)
  · rw [← z w lO]
    exact fresh_i (HasI.made (w.alloc lO) atL 3) (fresh_more (fresh_box _ _ _) _ _)
  · rw [← z w lO, ← z (w.alloc lO) aO]
    exact fresh_i (HasI.made ((w.alloc lO).alloc aO) nL 3) (fresh_box _ _ _)
  · rw [← z w lO, ← z (w.alloc lO) aO, ← z ((w.alloc lO).alloc aO) nO]
    exact HasW.made _
  · exact fresh_more (fresh_more (fresh_more (fresh_more h _ _) _ _) _ _) _ _

def bads : List (List Pc) := [[(0, 0)], [(-1, 1)], [(5, 1), (0, 1)], [(0, 2), (1, 1)], [(1099511627776, 1)], [(1, 4611686018427387904)]]
theorem bads_no : ∀ k, k < 6 → mayB 0 (bads.getD k []) = false := by decide +kernel
abbrev cO (c : Array Value) : Obj := .cells c 25
abbrev sixV (m : Nat) : List Value := [.slice (some ⟨m, 0, none⟩) 1 1, .slice (some ⟨m + 1, 0, none⟩) 1 1, .slice (some ⟨m + 1 + 1, 0, none⟩) 2 2, .slice (some ⟨m + 1 + 1 + 1, 0, none⟩) 2 2, .slice (some ⟨m + 1 + 1 + 1 + 1, 0, none⟩) 1 1, .slice (some ⟨m + 1 + 1 + 1 + 1 + 1, 0, none⟩) 1 1]
structure Six (W w : World) (m : Nat) : Prop where
  c : ∀ k, k < 6 → w.cell? ⟨m + 1 + 1 + 1 + 1 + 1 + 1, k, none⟩ = some ((sixV m).getD k undef)
  s : ∀ k, k < 6 → SpansAt w ((sixV m).getD k undef) (bads.getD k [])
  el : Fresh W w
theorem Six.fresh {W w w' : World} {m : Nat} (h : Six W w m) (k : Fresh w w') : Six W w' m :=
  ⟨fun i hi => (k.cell (World.block_lt_of_cell? _ _ (h.c i hi))).trans (h.c i hi), fun i hi => (h.s i hi).fresh k, h.el.trans k⟩
abbrev six0 (w : World) : World := w.alloc (cO #[.int .i64 0, .int .i64 0])
abbrev six1 (w : World) : World := (six0 w).alloc (cO #[.int .i64 (-1), .int .i64 1])
abbrev six2 (w : World) : World := (six1 w).alloc (cO #[.int .i64 5, .int .i64 1, .int .i64 0, .int .i64 1])
abbrev six3 (w : World) : World := (six2 w).alloc (cO #[.int .i64 0, .int .i64 2, .int .i64 1, .int .i64 1])
abbrev six4 (w : World) : World := (six3 w).alloc (cO #[.int .i64 1099511627776, .int .i64 1])
abbrev six5 (w : World) : World := (six4 w).alloc (cO #[.int .i64 1, .int .i64 4611686018427387904])
theorem in64_of {ps : List Pc} (h : (ps.all fun p => decide (-9223372036854775808 ≤ p.1) && decide (p.1 ≤ 9223372036854775807) && decide (-9223372036854775808 ≤ p.2) && decide (p.2 ≤ 9223372036854775807)) = true) : ∀ p ∈ ps, In64 p := by
  intro p hp
  have := List.all_eq_true.1 h p hp
  simp only [Bool.and_eq_true, decide_eq_true_eq] at this
  exact ⟨this.1.1.1, this.1.1.2, this.1.2, this.2⟩
theorem six_made (W w : World) (h : Fresh W w) : Six W ((six5 w).alloc (.cells (sixV w.heap.size).toArray 23)) w.heap.size := by
  have z : ∀ (w : World) o, (w.alloc o).heap.size = w.heap.size + 1 := fun w o => by simp
  have f5 : Fresh (six5 w) ((six5 w).alloc (.cells (sixV w.heap.size).toArray 23)) := fresh_box _ _ _
  have f4 : Fresh (six4 w) _ := (fresh_box (six4 w) _ _).trans f5
  have f3 : Fresh (six3 w) _ := (fresh_box (six3 w) _ _).trans f4
  have f2 : Fresh (six2 w) _ := (fresh_box (six2 w) _ _).trans f3
  have f1 : Fresh (six1 w) _ := (fresh_box (six1 w) _ _).trans f2
  have f0 : Fresh (six0 w) _ := (fresh_box (six0 w) _ _).trans f1
  have e0 := spansIn_lit w #[.int .i64 0, .int .i64 0] [(0, 0)] 1 rfl rfl (by decide) (in64_of (by decide))
  have e1 := spansIn_lit (six0 w) #[.int .i64 (-1), .int .i64 1] [(-1, 1)] 1 rfl rfl (by decide) (in64_of (by decide))
  have e2 := spansIn_lit (six1 w) #[.int .i64 5, .int .i64 1, .int .i64 0, .int .i64 1] [(5, 1), (0, 1)] 2 rfl rfl (by decide) (in64_of (by decide))
  have e3 := spansIn_lit (six2 w) #[.int .i64 0, .int .i64 2, .int .i64 1, .int .i64 1] [(0, 2), (1, 1)] 2 rfl rfl (by decide) (in64_of (by decide))
  have e4 := spansIn_lit (six3 w) #[.int .i64 1099511627776, .int .i64 1] [(1099511627776, 1)] 1 rfl rfl (by decide) (in64_of (by decide))
  have e5 := spansIn_lit (six4 w) #[.int .i64 1, .int .i64 4611686018427387904] [(1, 4611686018427387904)] 1 rfl rfl (by decide) (in64_of (by decide))
  simp only [z] at e0 e1 e2 e3 e4 e5
  have hb := heap_alloc_new (six5 w) (.cells (sixV w.heap.size).toArray 23 (0, 0))
  simp only [z] at hb
  refine ⟨fun k hk => cell_block hb k _ ?_, fun k hk => ?_, ?_⟩
  · match k, hk with
    | 0, _ => rfl
    | 1, _ => rfl
    | 2, _ => rfl
    | 3, _ => rfl
    | 4, _ => rfl
    | 5, _ => rfl
  · match k, hk with
    | 0, _ => exact (e0.fresh f0).1
    | 1, _ => exact (e1.fresh f1).1
    | 2, _ => exact (e2.fresh f2).1
    | 3, _ => exact (e3.fresh f3).1
    | 4, _ => exact (e4.fresh f4).1
    | 5, _ => exact (e5.fresh f5).1
  · exact h.trans ((fresh_box w _ _).trans f0)
/-- what is held over the region: two numbers -/
def HeldF (W : World) (n k : Nat) (a b : Int) (w : World) : Prop := w.cell? ⟨n + 1, k, none⟩ = some (.int .i64 a) ∧ w.cell? ⟨n + 1 + 1, k, none⟩ = some (.int .i64 b) ∧ Four W w n
theorem HeldF.fresh {W : World} {n k : Nat} {a b : Int} {w w' : World} (h : HeldF W n k a b w) (f : Fresh w w') : HeldF W n k a b w' :=
  ⟨(f.cell (World.block_lt_of_cell? _ _ h.1)).trans h.1, (f.cell (World.block_lt_of_cell? _ _ h.2.1)).trans h.2.1, h.2.2.fresh f⟩

set_option maxRecDepth 100000 in
set_option maxHeartbeats 2000000 in
theorem spanForms_walk0 (w : World) : Calls Try.prog 6 #[] w fun e w' => e = .returned (.bool true) ∧ Fresh w w' := by
  have p1 := hide (fun w => may_to (.slice none 0 0) [] true rfl w (spansIn_nil w).1)
  have p2 := hide (fun w => total_to (.slice none 0 0) [] 0 rfl w (spansIn_nil w).1 val_nil.1)
  have p3 := hide (fun w => end_to (.slice none 0 0) [] 0 rfl w (spansIn_nil w).1 val_nil.1)
  have p4 := hide (fun v w h => total_to v lS 6 (by decide) w h lS_val.1)
  have p5 := hide (fun v w h => end_to v lS 9 (by decide) w h lS_val.1)
  go_enter Try.func6, Try.ntmps6
  go_wp2_with fail
  refine (begun8_true _).mono ?_
  rintro e w1 ⟨rfl, k1⟩
  have K1 := hide k1
  clear k1
  go_wp2
  have F4 := hide (four_made w w1 K1.out)
  generalize (((w1.alloc lO).alloc aO).alloc nO).alloc wO = W at *
  generalize w1.heap.size = n at *
  clear K1
  go_loopw [5] (fun i wr => ∃ k : Nat, k ≤ 12 ∧ i = .int .i64 k ∧ Four w wr n) (fun i _ => (12 - intOf i).toNat)
  case atStart => exact ⟨0, Nat.zero_le _, rfl, F4.out⟩
  case round =>
    obtain ⟨k, hk, rfl, hF⟩ := hrel
    have F := hide hF
    have k0 : (0 : Int) ≤ (k : Int) := by omega
    clear hF F4
    by_cases hlt : k < 12
    · have k1 : (k : Int) < 12 := by omega
      obtain ⟨q1, q2⟩ := putted k hlt
      have f1 := F.out.a k hlt
      have f2 := F.out.b k hlt
      have f3 := F.out.c k hlt
      have HC := hide (fun (w' : World) (h : Four w w' n) => h.c k hlt)
      generalize atL.getD k 0 = x at *
      generalize nL.getD k 0 = y at *
      generalize wL.getD k false = r at *
      have HS : Hid (HeldF w n k x y wr.drew) := ⟨f1, f2, F.out.fresh (Fresh.refl _).drew⟩
      have I := hide (show In64 (x, y) from q2)
      have Q := hide q1
      clear f1 f2 f3 q1 q2
      cases r with
      | true =>
        have PT := hide (fun v w h => put_to v lS x y true (insV lS (x, y)) 4 Q.out (putL_yes Q.out) (ins_length lS (x, y)) w h lS_val.1 (by decide) I.out)
        go_wp2_with fail
        refine wp_region_held (S := HeldF w n k x y) (by kernel_rfl) ?_
        change wpAnyH _ _ _ _ _ _ _ _ (World.drew _)
        refine held_take (i := 0) (d := 26) (v := ?_) rfl rfl (by kernel_rfl) (by kernel_rfl) (by kernel_rfl) (fun _ _ _ h => h) (by kernel_rfl) ?_ HS.out ?_
        rotate_left
        · intro wz hz
          obtain ⟨z0, z1, -⟩ := hz
          go_simp
          first | done | with_reducible rfl
        refine held_take (i := 1) (d := 27) (v := ?_) rfl rfl (by kernel_rfl) (by kernel_rfl) (by kernel_rfl) (fun _ _ _ h => h) (by kernel_rfl) ?_ HS.out ?_
        rotate_left
        · intro wz hz
          obtain ⟨z0, z1, -⟩ := hz
          go_simp
          first | done | with_reducible rfl
        refine held_take (i := 2) (d := 28) (v := ?_) rfl rfl (by kernel_rfl) (by kernel_rfl) (by kernel_rfl) (fun _ _ _ h => h) (by kernel_rfl) ?_ HS.out ?_
        rotate_left
        · intro wz hz
          obtain ⟨z0, z1, -⟩ := hz
          go_simp
          first | done | with_reducible rfl
        refine held_take (i := 3) (d := 29) (v := ?_) rfl rfl (by kernel_rfl) (by kernel_rfl) (by kernel_rfl) (fun _ _ _ h => h) (by kernel_rfl) ?_ HS.out ?_
        rotate_left
        · intro wz hz
          obtain ⟨z0, z1, -⟩ := hz
          go_simp
          first | done | with_reducible rfl
        refine held_take (i := 4) (d := 30) (v := ?_) rfl rfl (by kernel_rfl) (by kernel_rfl) (by kernel_rfl) (fun _ _ _ h => h) (by kernel_rfl) ?_ HS.out ?_
        rotate_left
        · intro wz hz
          obtain ⟨z0, z1, -⟩ := hz
          go_simp
          first | done | with_reducible rfl
        refine held_take (i := 5) (d := 31) (v := ?_) rfl rfl (by kernel_rfl) (by kernel_rfl) (by kernel_rfl) (fun _ _ _ h => h) (by kernel_rfl) ?_ HS.out ?_
        rotate_left
        · intro wz hz
          obtain ⟨z0, z1, -⟩ := hz
          go_simp
          first | done | with_reducible rfl
        refine held_take (i := 6) (d := 32) (v := ?_) rfl rfl (by kernel_rfl) (by kernel_rfl) (by kernel_rfl) (fun _ _ _ h => h) (by kernel_rfl) ?_ HS.out ?_
        rotate_left
        · intro wz hz
          obtain ⟨z0, z1, -⟩ := hz
          go_simp
          first | done | with_reducible rfl
        refine held_take (i := 7) (d := 33) (v := ?_) rfl rfl (by kernel_rfl) (by kernel_rfl) (by kernel_rfl) (fun _ _ _ h => h) (by kernel_rfl) ?_ HS.out ?_
        rotate_left
        · intro wz hz
          obtain ⟨z0, z1, -⟩ := hz
          go_simp
          first | done | with_reducible rfl
        refine held_take (i := 8) (d := 34) (v := ?_) rfl rfl (by kernel_rfl) (by kernel_rfl) (by kernel_rfl) (fun _ _ _ h => h) (by kernel_rfl) ?_ HS.out ?_
        rotate_left
        · intro wz hz
          obtain ⟨z0, z1, -⟩ := hz
          go_simp
          first | done | with_reducible rfl
        refine held_take (i := 9) (d := 35) (v := ?_) rfl rfl (by kernel_rfl) (by kernel_rfl) (by kernel_rfl) (fun _ _ _ h => h) (by kernel_rfl) ?_ HS.out ?_
        rotate_left
        · intro wz hz
          obtain ⟨z0, z1, -⟩ := hz
          go_simp
          first | done | with_reducible rfl
        refine wpAnyH_ready (rs := [10]) (by kernel_rfl) (by simp) ?_
        refine AllReadyH.cons rfl (fun K hK => ?_) AllReadyH.nil
        go_simp
        go_wp2_with fail
        refine (PT.out _ _ HS.out.2.2.l).mono ?_; rintro e w2 ⟨a2, c2, rfl, o2, f2⟩; have HS' := hide (HS.out.fresh f2); clear HS o2 f2; have HS := HS'; clear HS'
        refine hK.out _ _ HS.out (fun _ => ?_)
        clear hK K
        refine held_take (i := 11) (d := 25) (v := ?_) rfl rfl (by kernel_rfl) (by kernel_rfl) (by kernel_rfl) (fun _ _ _ h => h) (by kernel_rfl) ?_ HS.out ?_
        rotate_left
        · intro wz hz
          obtain ⟨z0, z1, -⟩ := hz
          go_simp
          first | done | with_reducible rfl
        refine held_take (i := 12) (d := 37) (v := ?_) rfl rfl (by kernel_rfl) (by kernel_rfl) (by kernel_rfl) (fun _ _ _ h => h) (by kernel_rfl) ?_ HS.out ?_
        rotate_left
        · intro wz hz
          obtain ⟨z0, z1, -⟩ := hz
          go_simp
          first | done | with_reducible rfl
        refine held_take (i := 13) (d := 38) (v := ?_) rfl rfl (by kernel_rfl) (by kernel_rfl) (by kernel_rfl) (fun _ _ _ h => h) (by kernel_rfl) ?_ HS.out ?_
        rotate_left
        · intro wz hz
          obtain ⟨z0, z1, -⟩ := hz
          go_simp
          first | done | with_reducible rfl
        refine held_take (i := 14) (d := 6) (v := ?_) rfl rfl (by kernel_rfl) (by kernel_rfl) (by kernel_rfl) (fun _ _ _ h => h) (by kernel_rfl) ?_ HS.out ?_
        rotate_left
        · intro wz hz
          obtain ⟨z0, z1, -⟩ := hz
          go_simp
          first | done | with_reducible rfl
        refine held_take (i := 15) (d := 7) (v := ?_) rfl rfl (by kernel_rfl) (by kernel_rfl) (by kernel_rfl) (fun _ _ _ h => h) (by kernel_rfl) ?_ HS.out ?_
        rotate_left
        · intro wz hz
          obtain ⟨z0, z1, -⟩ := hz
          go_simp
          first | done | with_reducible rfl
        refine wpAnyH_done (by kernel_rfl) ?_ _
        try simp only [Act.put, List.setIfInBounds_toArray, List.set_cons_succ, List.set_cons_zero]
        have f3 := HC.out _ HS.out.2.2
        go_wp2
        go_roundw
        case rel => exact ⟨k + 1, by omega, by go_num, HS.out.2.2⟩
        case measure => simp [intOf]; omega
      | false =>
        have PT := hide (fun v w h => put_to v lS x y false lS 3 Q.out (putL_no Q.out) rfl w h lS_val.1 (by decide) I.out)
        go_wp2_with fail
        refine wp_region_held (S := HeldF w n k x y) (by kernel_rfl) ?_
        change wpAnyH _ _ _ _ _ _ _ _ (World.drew _)
        refine held_take (i := 0) (d := 26) (v := ?_) rfl rfl (by kernel_rfl) (by kernel_rfl) (by kernel_rfl) (fun _ _ _ h => h) (by kernel_rfl) ?_ HS.out ?_
        rotate_left
        · intro wz hz
          obtain ⟨z0, z1, -⟩ := hz
          go_simp
          first | done | with_reducible rfl
        refine held_take (i := 1) (d := 27) (v := ?_) rfl rfl (by kernel_rfl) (by kernel_rfl) (by kernel_rfl) (fun _ _ _ h => h) (by kernel_rfl) ?_ HS.out ?_
        rotate_left
        · intro wz hz
          obtain ⟨z0, z1, -⟩ := hz
          go_simp
          first | done | with_reducible rfl
        refine held_take (i := 2) (d := 28) (v := ?_) rfl rfl (by kernel_rfl) (by kernel_rfl) (by kernel_rfl) (fun _ _ _ h => h) (by kernel_rfl) ?_ HS.out ?_
        rotate_left
        · intro wz hz
          obtain ⟨z0, z1, -⟩ := hz
          go_simp
          first | done | with_reducible rfl
        refine held_take (i := 3) (d := 29) (v := ?_) rfl rfl (by kernel_rfl) (by kernel_rfl) (by kernel_rfl) (fun _ _ _ h => h) (by kernel_rfl) ?_ HS.out ?_
        rotate_left
        · intro wz hz
          obtain ⟨z0, z1, -⟩ := hz
          go_simp
          first | done | with_reducible rfl
        refine held_take (i := 4) (d := 30) (v := ?_) rfl rfl (by kernel_rfl) (by kernel_rfl) (by kernel_rfl) (fun _ _ _ h => h) (by kernel_rfl) ?_ HS.out ?_
        rotate_left
        · intro wz hz
          obtain ⟨z0, z1, -⟩ := hz
          go_simp
          first | done | with_reducible rfl
        refine held_take (i := 5) (d := 31) (v := ?_) rfl rfl (by kernel_rfl) (by kernel_rfl) (by kernel_rfl) (fun _ _ _ h => h) (by kernel_rfl) ?_ HS.out ?_
        rotate_left
        · intro wz hz
          obtain ⟨z0, z1, -⟩ := hz
          go_simp
          first | done | with_reducible rfl
        refine held_take (i := 6) (d := 32) (v := ?_) rfl rfl (by kernel_rfl) (by kernel_rfl) (by kernel_rfl) (fun _ _ _ h => h) (by kernel_rfl) ?_ HS.out ?_
        rotate_left
        · intro wz hz
          obtain ⟨z0, z1, -⟩ := hz
          go_simp
          first | done | with_reducible rfl
        refine held_take (i := 7) (d := 33) (v := ?_) rfl rfl (by kernel_rfl) (by kernel_rfl) (by kernel_rfl) (fun _ _ _ h => h) (by kernel_rfl) ?_ HS.out ?_
        rotate_left
        · intro wz hz
          obtain ⟨z0, z1, -⟩ := hz
          go_simp
          first | done | with_reducible rfl
        refine held_take (i := 8) (d := 34) (v := ?_) rfl rfl (by kernel_rfl) (by kernel_rfl) (by kernel_rfl) (fun _ _ _ h => h) (by kernel_rfl) ?_ HS.out ?_
        rotate_left
        · intro wz hz
          obtain ⟨z0, z1, -⟩ := hz
          go_simp
          first | done | with_reducible rfl
        refine held_take (i := 9) (d := 35) (v := ?_) rfl rfl (by kernel_rfl) (by kernel_rfl) (by kernel_rfl) (fun _ _ _ h => h) (by kernel_rfl) ?_ HS.out ?_
        rotate_left
        · intro wz hz
          obtain ⟨z0, z1, -⟩ := hz
          go_simp
          first | done | with_reducible rfl
        refine wpAnyH_ready (rs := [10]) (by kernel_rfl) (by simp) ?_
        refine AllReadyH.cons rfl (fun K hK => ?_) AllReadyH.nil
        go_simp
        go_wp2_with fail
        refine (PT.out _ _ HS.out.2.2.l).mono ?_; rintro e w2 ⟨a2, c2, rfl, o2, f2⟩; have O2 := hide (o2.at (by decide) lS_val.1.in64); have HS' := hide (HS.out.fresh f2); clear HS o2 f2; have HS := HS'; clear HS'
        refine hK.out _ _ HS.out (fun _ => ?_)
        clear hK K
        refine held_take (i := 11) (d := 25) (v := ?_) rfl rfl (by kernel_rfl) (by kernel_rfl) (by kernel_rfl) (fun _ _ _ h => h) (by kernel_rfl) ?_ HS.out ?_
        rotate_left
        · intro wz hz
          obtain ⟨z0, z1, -⟩ := hz
          go_simp
          first | done | with_reducible rfl
        refine held_take (i := 12) (d := 37) (v := ?_) rfl rfl (by kernel_rfl) (by kernel_rfl) (by kernel_rfl) (fun _ _ _ h => h) (by kernel_rfl) ?_ HS.out ?_
        rotate_left
        · intro wz hz
          obtain ⟨z0, z1, -⟩ := hz
          go_simp
          first | done | with_reducible rfl
        refine held_take (i := 13) (d := 38) (v := ?_) rfl rfl (by kernel_rfl) (by kernel_rfl) (by kernel_rfl) (fun _ _ _ h => h) (by kernel_rfl) ?_ HS.out ?_
        rotate_left
        · intro wz hz
          obtain ⟨z0, z1, -⟩ := hz
          go_simp
          first | done | with_reducible rfl
        refine held_take (i := 14) (d := 6) (v := ?_) rfl rfl (by kernel_rfl) (by kernel_rfl) (by kernel_rfl) (fun _ _ _ h => h) (by kernel_rfl) ?_ HS.out ?_
        rotate_left
        · intro wz hz
          obtain ⟨z0, z1, -⟩ := hz
          go_simp
          first | done | with_reducible rfl
        refine held_take (i := 15) (d := 7) (v := ?_) rfl rfl (by kernel_rfl) (by kernel_rfl) (by kernel_rfl) (fun _ _ _ h => h) (by kernel_rfl) ?_ HS.out ?_
        rotate_left
        · intro wz hz
          obtain ⟨z0, z1, -⟩ := hz
          go_simp
          first | done | with_reducible rfl
        refine wpAnyH_done (by kernel_rfl) ?_ _
        try simp only [Act.put, List.setIfInBounds_toArray, List.set_cons_succ, List.set_cons_zero]
        have f3 := HC.out _ HS.out.2.2
        go_wp2_with fail
        refine (same_to _ _ lS lS true (by simp) _ O2.out.1 HS.out.2.2.l.1).mono ?_
        rintro e w3 ⟨rfl, m, rfl⟩
        go_wp2
        go_roundw
        case rel => exact ⟨k + 1, by omega, by go_num, HS.out.2.2.fresh (Fresh.drewN _ _)⟩
        case measure => simp [intOf]; omega
    · obtain rfl : k = 12 := by omega
      go_wp2
      have G := hide (six_made wr wr (Fresh.refl _))
      generalize (six5 wr).alloc (.cells (sixV wr.heap.size).toArray 23) = W2 at G ⊢
      have F2 := hide (F.out.fresh G.out.el)
      have G2 := hide (show ∀ w', Fresh W2 w' → Six wr w' wr.heap.size from fun w' h => G.out.fresh h)
      generalize wr.heap.size = m at *
      clear F G
      rw [show ((12 : Nat) : Int) = 12 from rfl]
      go_loopw [9] (fun i ws => ∃ k : Nat, k ≤ 6 ∧ i = .int .i64 k ∧ Fresh W2 ws) (fun i _ => (6 - intOf i).toNat)
      case atStart => exact ⟨0, Nat.zero_le _, rfl, Fresh.refl _⟩
      case round =>
        obtain ⟨k, hk, rfl, hF⟩ := hrel
        have F := hide hF
        have k0 : (0 : Int) ≤ (k : Int) := by omega
        clear hF
        by_cases hlt : k < 6
        · have k1 : (k : Int) < 6 := by omega
          have SX := hide (G2.out _ F.out)
          have f1 := SX.out.c k hlt
          have MY := hide (fun w h => may_to ((sixV m).getD k undef) (bads.getD k []) false (bads_no k hlt) w h)
          have SS := hide (SX.out.s k hlt)
          generalize (sixV m).getD k undef = vk at *
          generalize bads.getD k [] = bk at *
          clear SX
          go_wp2_with fail
          refine (MY.out _ SS.out).mono ?_
          rintro e w3 ⟨rfl, k3⟩
          have F3 := hide (F.out.trans k3)
          clear k3
          go_wp2
          go_roundw
          case rel => exact ⟨k + 1, by omega, by go_num, F3.out⟩
          case measure => simp [intOf]; omega
        · obtain rfl : k = 6 := by omega
          have L := hide (F2.out.fresh F.out)
          clear F F2 G2
          go_wp2_with fail
          refine (p1.out _).mono ?_
          rintro e w3 ⟨rfl, k3⟩
          have L3 := hide (L.out.fresh k3)
          clear k3 L
          go_wp2_with fail
          refine (p2.out _).mono ?_
          rintro e w4 ⟨rfl, k4⟩
          have L4 := hide (L3.out.fresh k4)
          clear k4 L3
          go_wp2_with fail
          refine (p3.out _).mono ?_
          rintro e w5 ⟨rfl, k5⟩
          have L5 := hide (L4.out.fresh k5)
          clear k5 L4
          go_wp2_with fail
          refine (p4.out _ _ L5.out.l.1).mono ?_
          rintro e w6 ⟨rfl, k6⟩
          have L6 := hide (L5.out.fresh k6)
          clear k6 L5
          go_wp2_with fail
          refine (p5.out _ _ L6.out.l.1).mono ?_
          rintro e w7 ⟨rfl, k7⟩
          have L7 := hide (L6.out.fresh k7)
          clear k7 L6
          go_wp2
          go_ret
          exact ⟨rfl, L7.out.el⟩

set_option linter.unusedVariables false
set_option maxRecDepth 100000 in
theorem spanForms_lifted (os : Os) (started : os.Started) (H : Type) (enc : TypeId × Value → H) :
    ReturnsInHanded {} Try.checked os 6 .any (Rows.spanFormsSpec.pre6 enc Try.prog Try.f6 Rows.spanFormsRow.domain false) (Rows.spanFormsSpec.post enc Try.prog Try.f6 false true false false) := by
  refine returnsInHanded_of_change (C := Try.checked) own started (by kernel_rfl) Try.func6
    (ChangeSpec.witness6 (enc := enc) (C := Try.checked) false ⟨#[], #[], []⟩ 8 (by kernel_rfl) (by kernel_rfl) (by kernel_rfl) (by kernel_rfl)) ?_
  intro W base args ds gs before hval0 hW hcnd _
  have hval : ∀ (j : Nat) t v, Try.f6.params[j]? = some t → args[j]? = some v → Value.okWide Try.prog W .any base t v := hval0
  have hW' := hW
  obtain ⟨p, q, hA0, hV, rfl, hfz, hnd⟩ := hW
  have hA : DataW.TrodAll enc Try.prog W 0 (fun _ => true) true Try.f6.params.toList args.toList ds p := hA0
  rw [Try.params6] at hA hval
  obtain ⟨rfl, rfl, rfl⟩ := trodAll_none hA
  obtain ⟨rfl, rfl⟩ := trodVars_none hV
  clear hA0 hval0
  refine (spanForms_walk0  W).mono fun e W' ⟨he, hg⟩ => ?_
  subst he
  exact ⟨_, rfl, _, _, _, [], _, [], hW', trodAll_mk1 (shut_bool Try.underlying4 _), trodAll_mk0, rfl, hg.frame _, fun h => by cases h⟩

theorem spanForms_row : Rows.SpanFormsSaid :=
  OpenClaim.holds_of_wide 6 Try.f6 rfl rfl rfl rfl rfl rfl rfl ⟨rfl, rfl, rfl, rfl, rfl⟩ rfl rfl rfl rfl rfl (by kernel_rfl) Try.func6 (by kernel_rfl)
    (of_decide_eq_true (by kernel_rfl)) (by unfold Func.isWrapper; first | (rw [if_pos (by decide +kernel)]; kernel_rfl) | (rw [if_neg (by decide +kernel)]; exact ⟨rfl, rfl⟩))
    (fun os started H enc _ => spanForms_lifted os started H enc)

theorem spanForms_holds : Rows.SpanFormsSaid := spanForms_row
#print axioms spanForms_holds
end Go.Proofs.Ytcakghafjmdkoaa
