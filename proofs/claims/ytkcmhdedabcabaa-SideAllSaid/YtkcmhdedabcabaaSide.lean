/- What the program's side.Put, Take and Class answer (side_says). -/
import Derived.Test.YtkcmhdedabcabaaSideA
import Derived.Test.YtkcmhdedabcabaaSideC
import Derived.Test.YtkcmhdedabcabaaSideLaw
import Derived.OwnWalk
namespace Go.Proofs.Ytkcmhdedabcabaa
open Go.RowKit Go.Maps

theorem rise_one {ps : List Pc} (h : Rise ps) : ∀ i j, i < ps.length → j < ps.length → (nth ps i).1 = (nth ps j).1 → i = j := by
  intro i j hi hj e
  rcases Nat.lt_trichotomy i j with g | g | g
  · have := rise_nth h g hj; omega
  · exact g
  · have := rise_nth h g hi; omega
/-- where a mark is, if it is there -/
theorem hit_place {ps : List Pc} {x : Int} (h : hitM ps x = true) : ∃ i, i < ps.length ∧ (nth ps i).1 = x ∧ aheadN ps x = i ∧ nxM ps x = i + 1 ∧ clsM ps x = (nth ps i).2 := by
  obtain ⟨h1, h2⟩ := hit_iff.1 h
  exact ⟨_, h1, h2, rfl, by unfold nxM; rw [h]; rfl, by unfold clsM; rw [h]; rfl⟩
theorem hit_not {ps : List Pc} (hr : Rise ps) {x : Int} (h : hitM ps x = false) : (∀ t, t < ps.length → (nth ps t).1 ≠ x) ∧ nxM ps x = aheadN ps x ∧ clsM ps x = 0 := by
  have e : nxM ps x = aheadN ps x := by unfold nxM; rw [h]; rfl
  refine ⟨fun t ht e1 => ?_, e, by unfold clsM; rw [h]; rfl⟩
  rcases Nat.lt_or_ge t (aheadN ps x) with g | g
  · have := ahead_lt ps x t g; omega
  · have := nx_lt hr (x := x) (i := t) (by omega) ht; omega
/-- what the map tells, where it is there and where it is not -/
theorem look_hit {w : World} {B : Nat} {ps : List Pc} (h : w.ownsMap Try.prog 44 (plainElem Try.prog 3) B ps.length (Dm ps ps.length)) (hin : ∀ p ∈ ps, In64 p) (hr : Rise ps) {i : Nat} (hi : i < ps.length) {x : Int} (hx : (nth ps i).1 = x) :
    (Instr.lookup 41 (.map (some B)) (.agg #[.int .i64 x]) true).run Try.prog w = .ok (.tuple #[.int .i64 (i : Int), .bool true]) w := by
  have hb := in64_nth hin i
  unfold In64 at hb
  rw [hx] at hb
  obtain ⟨c, hc, hrun⟩ := look_int begKey.law Try.underlying41 Try.underlying3 (begZero w) h (begKey.of x hb.1 hb.2.1)
  obtain ⟨d1, d2⟩ := Dm_some begKey ps hin (rise_one hr) i hi ps.length hi (Nat.le_refl _)
  rw [hx] at d1 d2
  rw [d2] at hc
  have : (i : Int) = c := by simpa using hc
  rw [hrun, d1, this]
theorem look_miss {w : World} {B : Nat} {ps : List Pc} (h : w.ownsMap Try.prog 44 (plainElem Try.prog 3) B ps.length (Dm ps ps.length)) (hin : ∀ p ∈ ps, In64 p) {x : Int} (h1 : -9223372036854775808 ≤ x) (h2 : x ≤ 9223372036854775807) (hx : ∀ t, t < ps.length → (nth ps t).1 ≠ x) :
    ∃ c : Int, (Instr.lookup 41 (.map (some B)) (.agg #[.int .i64 x]) true).run Try.prog w = .ok (.tuple #[.int .i64 c, .bool false]) w := by
  obtain ⟨c, hc, hrun⟩ := look_int begKey.law Try.underlying41 Try.underlying3 (begZero w) h (begKey.of x h1 h2)
  rw [Dm_none begKey ps hin x h1 h2 ps.length hx] at hrun
  exact ⟨c, hrun⟩
theorem wpList_lookup_run {P : Program} (w : World) {ops : Array Oper} {rest : List Oper} {o : Oper} {a : Act} {Q : Exit → Act → World → Prop} (hg : o.guard = none) (m x : Operand) (t : TypeId) (hop : o.op = Op.lookup t m x true) (mv key v : Value) (hm : a.eval m = mv) (hx : a.eval x = key)
    (hrun : (Instr.lookup t mv key true).run P w = .ok v w) (h : wpList P ops Q rest (a.put o.dst v) w) : wpList P ops Q (o :: rest) a w :=
  wpList_plain hg fun _ hK' => wp_lookup_run m x t hop mv key v hm hx hrun (hK' _ _ h)

/-- a new block with one pair in it -/
theorem alloc_one {w : World} {t : TypeId} {s1 s2 : Int} {p : World → Prop} (hin : In64 (s1, s2)) (h : ∀ w4, SpansIn w4 (.slice (some ⟨w.heap.size, 0, none⟩) 1 1) [(s1, s2)] → Fresh w w4 → p w4) : p (w.alloc (.cells #[.int .i64 s1, .int .i64 s2] t)) :=
  h _ (pairIn_one w t s1 s2 hin) (fresh_box _ _ _)

set_option maxHeartbeats 1000000 in
theorem mclass_any (v : Value) (ps : List Pc) (x : Int) (w : World) (h : SpansIn w v ps) (hr : Rise ps) (hl : ps.length ≤ 1000000) (x1 : -9223372036854775808 ≤ x) (x2 : x ≤ 9223372036854775807) :
    Calls Try.prog 10 #[v, .int .i64 x] w fun e w' => e = .returned (.tuple #[.int .i64 (clsM ps x), .bool (hitM ps x)]) ∧ Fresh w w' := by
  have HH := hide h
  have HI := hide h.1.in64
  cases hx : hitM ps x with
  | true =>
    obtain ⟨i, hi, hxi, _, _, hcl⟩ := hit_place hx
    have LK := hide (fun w B ho => look_hit (w := w) (B := B) ho HI.out hr hi hxi)
    have CL := hide hcl
    rcases h.cases with ⟨_, rfl⟩ | ⟨b, o, cap, rfl, h1, h2, h3, h4, hc⟩
    · simp at hi
    · have C := hide (hc i hi)
      have i1 : (0 : Int) ≤ (i : Int) := by omega
      have i2 : (i : Int) < (ps.length : Int) := by omega
      generalize nth ps i = p at *
      clear hc h1 h2 h3 h4 hxi hx hcl h hr
      go_enter Try.func10, Try.ntmps10
      go_wp2_with fail
      refine (mplaces_any _ ps w HH.out.1).mono ?_
      rintro e w1 ⟨rfl, o1, f1⟩
      have L1 := hide (LK.out _ _ o1)
      have F1 := hide f1
      have c0 := (f1.cell (World.block_lt_of_cell? _ _ C.out.1)).trans C.out.1
      have c1 := (f1.cell (World.block_lt_of_cell? _ _ C.out.2)).trans C.out.2
      clear o1 f1
      go_wp2_with (first | (at_lookup; refine wpList_lookup_run _ rfl _ _ 41 rfl _ _ _ rfl rfl L1.out ?_) | go_in)
      go_ret2
      exact ⟨by rw [CL.out]; rfl, F1.out⟩
  | false =>
    obtain ⟨hno, _, hcl⟩ := hit_not hr hx
    have LK := hide (fun w B ho => look_miss (w := w) (B := B) ho HI.out x1 x2 hno)
    have CL := hide hcl
    clear hno hcl h hr hx
    go_enter Try.func10, Try.ntmps10
    go_wp2_with fail
    refine (mplaces_any _ ps w HH.out.1).mono ?_
    rintro e w1 ⟨rfl, o1, f1⟩
    obtain ⟨c, l1⟩ := LK.out _ _ o1
    have L1 := hide l1
    have F1 := hide f1
    clear o1 f1 l1
    go_wp2_with (first | (at_lookup; refine wpList_lookup_run _ rfl _ _ 41 rfl _ _ _ rfl rfl L1.out ?_) | go_in)
    go_ret2
    exact ⟨by rw [CL.out]; rfl, F1.out⟩

set_option maxHeartbeats 1000000 in
theorem mtake_any (v : Value) (ps : List Pc) (x : Int) (w : World) (h : SpansIn w v ps) (hr : Rise ps) (hl : ps.length ≤ 1000000) (x1 : -9223372036854775808 ≤ x) (x2 : x ≤ 9223372036854775807) :
    Calls Try.prog 8 #[v, .int .i64 x] w fun e w' => ∃ u, e = .returned (.tuple #[u, .int .i64 (clsM ps x), .bool (hitM ps x)]) ∧ OwnM w' w.heap.size u (takM ps x) ∧ Fresh w w' := by
  have HH := hide h
  have HI := hide h.1.in64
  cases hx : hitM ps x with
  | true =>
    obtain ⟨i, hi, hxi, ha, hnx, hcl⟩ := hit_place hx
    have LK := hide (fun w B ho => look_hit (w := w) (B := B) ho HI.out hr hi hxi)
    have CL := hide hcl
    have TL := hide (show takM ps x = ps.take i ++ ps.drop (i + 1) by unfold takM; rw [ha, hnx])
    rcases h.cases with ⟨_, rfl⟩ | ⟨b, o, cap, rfl, h1, h2, h3, h4, hc⟩
    · simp at hi
    · obtain ⟨c0, c1⟩ := hc i hi
      have PT0 := hide (HH.out.take (k := i) (Nat.le_of_lt hi))
      have PT1 := hide (HH.out.dropIf (k := i + 1) hi)
      obtain ⟨A, hA⟩ : ∃ A, (if cap = i + 1 then some (⟨b, o, none⟩ : Addr) else some ⟨b, o + (i + 1) * 2, none⟩) = A := ⟨_, rfl⟩
      rw [hA] at PT1
      generalize nth ps i = p at *
      obtain ⟨p1, p2⟩ := p
      simp only at c0 c1 CL
      have C0 := hide (show PairC w b (o + i * 2) p1 p2 w from ⟨c0, c1, Fresh.refl _⟩)
      have i1 : (0 : Int) ≤ (i : Int) := by omega
      have i2 : (i : Int) < (ps.length : Int) := by omega
      have i3 : (ps.length : Int) ≤ (cap : Int) := by omega
      have i4 : (cap : Int) ≤ 9223372036854775807 := by omega
      have i5 : (ps.length : Int) ≤ 1000000 := by omega
      have i6 : i ≤ cap := by omega
      have i7 : i + 1 ≤ ps.length := by omega
      have i9 : (0 : Int) ≤ (i : Int) + 1 := by omega
      have i10 : (i : Int) + 1 ≤ (ps.length : Int) := by omega
      have i8 : IntKind.i64.wrap ((i : Int) + 1) = ((i + 1 : Nat) : Int) := wrap_next (by omega)
      clear hc c0 c1 h1 h2 h3 h4 hxi hx hcl h hr ha hnx
      go_enter Try.func8, Try.ntmps8
      go_wp2_with fail
      refine (mplaces_any _ ps w HH.out.1).mono ?_
      rintro e w1 ⟨rfl, o1, f1⟩
      have L1 := hide (LK.out _ _ o1)
      have F1 := hide f1
      clear o1 f1
      go_wp2_with (first | (at_lookup; refine wpList_lookup_run _ rfl _ _ 41 rfl _ _ _ rfl rfl L1.out ?_) | fail)
      have HS : Hid (PairC w b (o + i * 2) p1 p2 w1.drew) := C0.out.fresh F1.out.drew
      refine wp_region_held (S := PairC w b (o + i * 2) p1 p2) (by kernel_rfl) ?_
      change wpAnyH _ _ _ _ _ _ _ _ (World.drew _)
      generalize World.drew w1 = wd at HS ⊢
      clear F1 L1
      refine held_take (i := 0) (d := 21) (v := ?_) rfl rfl (by kernel_rfl) (by kernel_rfl) (by kernel_rfl) (fun _ _ _ h => h) (by kernel_rfl) ?_ HS.out ?_
      rotate_left
      · intro wz hz
        obtain ⟨z0, z1, -⟩ := hz
        go_simp
        first | done | with_reducible rfl
      refine held_take (i := 1) (d := 22) (v := ?_) rfl rfl (by kernel_rfl) (by kernel_rfl) (by kernel_rfl) (fun _ _ _ h => h) (by kernel_rfl) ?_ HS.out ?_
      rotate_left
      · intro wz hz
        obtain ⟨z0, z1, -⟩ := hz
        go_simp
        first | done | with_reducible rfl
      refine held_take (i := 2) (d := 23) (v := ?_) rfl rfl (by kernel_rfl) (by kernel_rfl) (by kernel_rfl) (fun _ _ _ h => h) (by kernel_rfl) ?_ HS.out ?_
      rotate_left
      · intro wz hz
        obtain ⟨z0, z1, -⟩ := hz
        go_simp
        first | done | with_reducible rfl
      refine held_take (i := 3) (d := 24) (v := ?_) rfl rfl (by kernel_rfl) (by kernel_rfl) (by kernel_rfl) (fun _ _ _ h => h) (by kernel_rfl) ?_ HS.out ?_
      rotate_left
      · intro wz hz
        obtain ⟨z0, z1, -⟩ := hz
        go_simp
        first | done | with_reducible rfl
      refine held_take (i := 4) (d := 25) (v := ?_) rfl rfl (by kernel_rfl) (by kernel_rfl) (by kernel_rfl) (fun _ _ _ h => h) (by kernel_rfl) ?_ HS.out ?_
      rotate_left
      · intro wz hz
        obtain ⟨z0, z1, -⟩ := hz
        go_simp
        first | done | with_reducible rfl
      refine held_take (i := 5) (d := 26) (v := ?_) rfl rfl (by kernel_rfl) (by kernel_rfl) (by kernel_rfl) (fun _ _ _ h => h) (by kernel_rfl) ?_ HS.out ?_
      rotate_left
      · intro wz hz
        obtain ⟨z0, z1, -⟩ := hz
        go_simp
        first | done | with_reducible rfl
      refine held_take (i := 6) (d := 27) (v := ?_) rfl rfl (by kernel_rfl) (by kernel_rfl) (by kernel_rfl) (fun _ _ _ h => h) (by kernel_rfl) ?_ HS.out ?_
      rotate_left
      · intro wz hz
        obtain ⟨z0, z1, -⟩ := hz
        go_simp
        first | done | with_reducible rfl
      refine held_take (i := 9) (d := 30) (v := ?_) rfl rfl (by kernel_rfl) (by kernel_rfl) (by kernel_rfl) (fun _ _ _ h => h) (by kernel_rfl) ?_ HS.out ?_
      rotate_left
      · intro wz hz
        obtain ⟨z0, z1, -⟩ := hz
        go_simp
        first | done | with_reducible rfl
      refine held_take (i := 10) (d := 31) (v := ?_) rfl rfl (by kernel_rfl) (by kernel_rfl) (by kernel_rfl) (fun _ _ _ h => h) (by kernel_rfl) ?_ HS.out ?_
      rotate_left
      · intro wz hz
        obtain ⟨z0, z1, -⟩ := hz
        go_simp
        first | done | with_reducible rfl
      refine held_take (i := 11) (d := 32) (v := ?_) rfl rfl (by kernel_rfl) (by kernel_rfl) (by kernel_rfl) (fun _ _ _ h => h) (by kernel_rfl) ?_ HS.out ?_
      rotate_left
      · intro wz hz
        obtain ⟨z0, z1, -⟩ := hz
        go_simp
        first | done | with_reducible rfl
      refine held_take (i := 12) (d := 33) (v := ?_) rfl rfl (by kernel_rfl) (by kernel_rfl) (by kernel_rfl) (fun _ _ _ h => h) (by kernel_rfl) ?_ HS.out ?_
      rotate_left
      · intro wz hz
        obtain ⟨z0, z1, -⟩ := hz
        go_simp
        first | done | with_reducible rfl
      refine held_take (i := 13) (d := 34) (v := ?_) rfl rfl (by kernel_rfl) (by kernel_rfl) (by kernel_rfl) (fun _ _ _ h => h) (by kernel_rfl) ?_ HS.out ?_
      rotate_left
      · intro wz hz
        obtain ⟨z0, z1, -⟩ := hz
        go_simp
        first | done | with_reducible rfl
      refine wpAnyH_ready (rs := [7]) (by kernel_rfl) (by simp) ?_
      refine AllReadyH.cons rfl (fun K hK => ?_) AllReadyH.nil
      go_simp
      refine parts_next _ _ _ ?_; intro w5 hb5 k5; have PA := hide (parts2 hb5 (PT0.out.fresh (HS.out.2.2.trans k5)) (PT1.out.fresh (HS.out.2.2.trans k5))); have HS' := hide (HS.out.fresh k5); clear HS k5 hb5; have HS := HS'; clear HS'
      refine hK.out _ _ HS.out (fun _ => ?_)
      clear hK K
      refine wpAnyH_ready (rs := [8]) (by kernel_rfl) (by simp) ?_
      refine AllReadyH.cons rfl (fun K hK => ?_) AllReadyH.nil
      go_simp
      go_wp2_with fail
      refine (mconcat_any _ 0 2 2 _ _ w5 (by decide) PA.out).mono ?_; rintro e w6 ⟨u, rfl, o6, f6⟩; have O6 := hide (o6.mono HS.out.2.2.size); have HS' := hide (HS.out.fresh f6); clear HS o6 f6; have HS := HS'; clear HS'
      refine hK.out _ _ HS.out (fun _ => ?_)
      clear hK K
      refine held_take (i := 14) (d := 4) (v := ?_) rfl rfl (by kernel_rfl) (by kernel_rfl) (by kernel_rfl) (fun _ _ _ h => h) (by kernel_rfl) ?_ HS.out ?_
      rotate_left
      · intro wz hz
        obtain ⟨z0, z1, -⟩ := hz
        go_simp
        first | done | with_reducible rfl
      refine held_take (i := 15) (d := 5) (v := ?_) rfl rfl (by kernel_rfl) (by kernel_rfl) (by kernel_rfl) (fun _ _ _ h => h) (by kernel_rfl) ?_ HS.out ?_
      rotate_left
      · intro wz hz
        obtain ⟨z0, z1, -⟩ := hz
        go_simp
        first | done | with_reducible rfl
      refine held_take (i := 16) (d := 6) (v := ?_) rfl rfl (by kernel_rfl) (by kernel_rfl) (by kernel_rfl) (fun _ _ _ h => h) (by kernel_rfl) ?_ HS.out ?_
      rotate_left
      · intro wz hz
        obtain ⟨z0, z1, -⟩ := hz
        go_simp
        first | done | with_reducible rfl
      refine wpAnyH_done (by kernel_rfl) ?_ _
      try simp only [Act.put, List.setIfInBounds_toArray, List.set_cons_succ, List.set_cons_zero]
      go_wp2
      go_ret3
      exact ⟨u, by rw [CL.out]; rfl, by rw [TL.out, ← flat2]; exact O6.out, HS.out.2.2⟩
  | false =>
    obtain ⟨hno, hnx, hcl⟩ := hit_not hr hx
    have LK := hide (fun w B ho => look_miss (w := w) (B := B) ho HI.out x1 x2 hno)
    have CL := hide hcl
    have TL := hide (show takM ps x = ps by unfold takM; rw [hnx]; exact List.take_append_drop _ _)
    clear hno hcl h hr hx hnx
    go_enter Try.func8, Try.ntmps8
    go_wp2_with fail
    refine (mplaces_any _ ps w HH.out.1).mono ?_
    rintro e w1 ⟨rfl, o1, f1⟩
    obtain ⟨c, l1⟩ := LK.out _ _ o1
    have L1 := hide l1
    have F1 := hide f1
    clear o1 f1 l1
    go_wp2_with (first | (at_lookup; refine wpList_lookup_run _ rfl _ _ 41 rfl _ _ _ rfl rfl L1.out ?_) | fail)
    refine (mcopied_any v ps w1 (HH.out.fresh F1.out)).mono ?_
    rintro e w2 ⟨u, rfl, o2, f2⟩
    have O2 := hide (o2.mono F1.out.size)
    have F2 := hide (F1.out.trans f2)
    clear o2 f2
    go_wp2
    go_ret3
    exact ⟨u, by rw [CL.out]; rfl, by rw [TL.out]; exact O2.out, F2.out⟩

set_option maxHeartbeats 1000000 in
theorem mput_any (v : Value) (ps : List Pc) (s1 s2 : Int) (w : World) (h : SpansIn w v ps) (hr : Rise ps) (hl : ps.length ≤ 1000000) (hin : In64 (s1, s2)) :
    Calls Try.prog 13 #[v, .agg #[.int .i64 s1, .int .i64 s2]] w fun e w' => ∃ u, e = .returned u ∧ OwnM w' w.heap.size u (putM ps (s1, s2)) ∧ Fresh w w' := by
  obtain ⟨n, hn⟩ : ∃ n, n = w.heap.size := ⟨_, rfl⟩
  obtain ⟨W1, hW1⟩ : ∃ W1, W1 = w.alloc (.cells #[.int .i64 s1, .int .i64 s2] 24) := ⟨_, rfl⟩
  have FW := hide (show Fresh w W1 by subst hW1; exact fresh_box _ _ _)
  have BB : W1.heap[n]? = some (.cells #[.int .i64 s1, .int .i64 s2] 24 (0, 0)) := by subst hW1; rw [hn]; exact heap_alloc_new w _
  have H0 := hide (show PairB W1 n s1 s2 W1 from ⟨cell_block BB 0 _ rfl, cell_block BB 1 _ rfl, Fresh.refl _⟩)
  have H1 := hide (h.fresh FW.out)
  have HN := hide hn
  have HW := hide hW1
  have HI := hide h.1.in64
  clear BB hn hW1
  cases hx : hitM ps s1 with
  | true =>
    obtain ⟨i, hi, hxi, ha, hnx, _⟩ := hit_place hx
    have LK := hide (fun w B ho => look_hit (w := w) (B := B) ho HI.out hr hi hxi)
    have PL := hide (show putM ps (s1, s2) = ps.take i ++ [(s1, s2)] ++ ps.drop (i + 1) by unfold putM; simp only [ha, hnx]; simp)
    rcases H1.out.cases with ⟨_, rfl⟩ | ⟨b, o, cap, rfl, h1, h2, h3, h4, hc⟩
    · simp at hi
    · have PT0 := hide (H1.out.take (k := i) (Nat.le_of_lt hi))
      have PT2 := hide (H1.out.dropIf (k := i + 1) hi)
      obtain ⟨A, hA⟩ : ∃ A, (if cap = i + 1 then some (⟨b, o, none⟩ : Addr) else some ⟨b, o + (i + 1) * 2, none⟩) = A := ⟨_, rfl⟩
      rw [hA] at PT2
      have i1 : (0 : Int) ≤ (i : Int) := by omega
      have i2 : (i : Int) < (ps.length : Int) := by omega
      have i3 : (ps.length : Int) ≤ (cap : Int) := by omega
      have i4 : (cap : Int) ≤ 9223372036854775807 := by omega
      have i5 : (ps.length : Int) ≤ 1000000 := by omega
      have i6 : i ≤ cap := by omega
      have i7 : i + 1 ≤ ps.length := by omega
      have i9 : (0 : Int) ≤ (i : Int) + 1 := by omega
      have i10 : (i : Int) + 1 ≤ (ps.length : Int) := by omega
      have i8 : IntKind.i64.wrap ((i : Int) + 1) = ((i + 1 : Nat) : Int) := wrap_next (by omega)
      clear hc h1 h2 h3 h4 hxi hx h hr ha hnx
      go_enter Try.func13, Try.ntmps13
      go_wp2_with fail
      rw [← HW.out, ← HN.out]
      have HS : Hid (PairB W1 n s1 s2 W1.drew) := H0.out.fresh (Fresh.refl _).drew
      refine wp_region_held (S := PairB W1 n s1 s2) (by kernel_rfl) ?_
      change wpAnyH _ _ _ _ _ _ _ _ (World.drew _)
      refine held_take (i := 0) (d := 9) (v := ?_) rfl rfl (by kernel_rfl) (by kernel_rfl) (by kernel_rfl) (fun _ _ _ h => h) (by kernel_rfl) ?_ HS.out ?_
      rotate_left
      · intro wz hz
        obtain ⟨z0, z1, -⟩ := hz
        go_simp
        first | done | with_reducible rfl
      refine held_take (i := 2) (d := 11) (v := ?_) rfl rfl (by kernel_rfl) (by kernel_rfl) (by kernel_rfl) (fun _ _ _ h => h) (by kernel_rfl) ?_ HS.out ?_
      rotate_left
      · intro wz hz
        obtain ⟨z0, z1, -⟩ := hz
        go_simp
        first | done | with_reducible rfl
      refine held_take (i := 3) (d := 12) (v := ?_) rfl rfl (by kernel_rfl) (by kernel_rfl) (by kernel_rfl) (fun _ _ _ h => h) (by kernel_rfl) ?_ HS.out ?_
      rotate_left
      · intro wz hz
        obtain ⟨z0, z1, -⟩ := hz
        go_simp
        first | done | with_reducible rfl
      refine held_take (i := 4) (d := 13) (v := ?_) rfl rfl (by kernel_rfl) (by kernel_rfl) (by kernel_rfl) (fun _ _ _ h => h) (by kernel_rfl) ?_ HS.out ?_
      rotate_left
      · intro wz hz
        obtain ⟨z0, z1, -⟩ := hz
        go_simp
        first | done | with_reducible rfl
      refine wpAnyH_ready (rs := [1]) (by kernel_rfl) (by simp) ?_
      refine AllReadyH.cons rfl (fun K hK => ?_) AllReadyH.nil
      go_simp
      go_wp2_with fail
      refine (mplaces_any _ ps _ (H1.out.fresh HS.out.2.2).1).mono ?_; rintro e w1 ⟨rfl, o1, f1⟩; have L1 := hide (LK.out _ _ o1); have HS' := hide (HS.out.fresh f1); clear HS o1 f1; have HS := HS'; clear HS'
      refine hK.out _ _ HS.out (fun _ => ?_)
      clear hK K
      refine wpAnyH_ready (rs := [5]) (by kernel_rfl) (by simp) ?_
      refine AllReadyH.cons rfl (fun K hK => ?_) AllReadyH.nil
      rw [if_pos (by rfl)]
      refine wp_lookup_run _ _ 41 rfl _ _ _ rfl rfl L1.out ?_
      refine hK.out _ _ HS.out (fun _ => ?_)
      clear hK K
      simp only [List.getElem_toArray, List.getElem_cons_succ, List.getElem_cons_zero, Act.put, List.setIfInBounds_toArray, List.set_cons_succ, List.set_cons_zero]
      refine held_take (i := 6) (d := 8) (v := ?_) rfl rfl (by kernel_rfl) (by kernel_rfl) (by kernel_rfl) (fun _ _ _ h => h) (by kernel_rfl) ?_ HS.out ?_
      rotate_left
      · intro wz hz
        obtain ⟨z0, z1, -⟩ := hz
        go_simp
        first | done | with_reducible rfl
      refine held_take (i := 7) (d := 15) (v := ?_) rfl rfl (by kernel_rfl) (by kernel_rfl) (by kernel_rfl) (fun _ _ _ h => h) (by kernel_rfl) ?_ HS.out ?_
      rotate_left
      · intro wz hz
        obtain ⟨z0, z1, -⟩ := hz
        go_simp
        first | done | with_reducible rfl
      refine held_take (i := 8) (d := 16) (v := ?_) rfl rfl (by kernel_rfl) (by kernel_rfl) (by kernel_rfl) (fun _ _ _ h => h) (by kernel_rfl) ?_ HS.out ?_
      rotate_left
      · intro wz hz
        obtain ⟨z0, z1, -⟩ := hz
        go_simp
        first | done | with_reducible rfl
      refine held_take (i := 9) (d := 5) (v := ?_) rfl rfl (by kernel_rfl) (by kernel_rfl) (by kernel_rfl) (fun _ _ _ h => h) (by kernel_rfl) ?_ HS.out ?_
      rotate_left
      · intro wz hz
        obtain ⟨z0, z1, -⟩ := hz
        go_simp
        first | done | with_reducible rfl
      refine held_take (i := 10) (d := 6) (v := ?_) rfl rfl (by kernel_rfl) (by kernel_rfl) (by kernel_rfl) (fun _ _ _ h => h) (by kernel_rfl) ?_ HS.out ?_
      rotate_left
      · intro wz hz
        obtain ⟨z0, z1, -⟩ := hz
        go_simp
        first | done | with_reducible rfl
      refine wpAnyH_done (by kernel_rfl) ?_ _
      try simp only [Act.put, List.setIfInBounds_toArray, List.set_cons_succ, List.set_cons_zero]
      go_wp2_with fail
      have HS' := hide (HS.out.fresh (Fresh.refl _).drew)
      clear HS
      have HS := HS'
      clear HS'
      refine wp_region_held (S := PairB W1 n s1 s2) (by kernel_rfl) ?_
      change wpAnyH _ _ _ _ _ _ _ _ (World.drew _)
      generalize World.drew w1 = wd at HS ⊢
      refine held_take (i := 0) (d := 18) (v := ?_) rfl rfl (by kernel_rfl) (by kernel_rfl) (by kernel_rfl) (fun _ _ _ h => h) (by kernel_rfl) ?_ HS.out ?_
      rotate_left
      · intro wz hz
        obtain ⟨z0, z1, -⟩ := hz
        go_simp
        first | done | with_reducible rfl
      refine held_take (i := 1) (d := 19) (v := ?_) rfl rfl (by kernel_rfl) (by kernel_rfl) (by kernel_rfl) (fun _ _ _ h => h) (by kernel_rfl) ?_ HS.out ?_
      rotate_left
      · intro wz hz
        obtain ⟨z0, z1, -⟩ := hz
        go_simp
        first | done | with_reducible rfl
      refine held_take (i := 2) (d := 20) (v := ?_) rfl rfl (by kernel_rfl) (by kernel_rfl) (by kernel_rfl) (fun _ _ _ h => h) (by kernel_rfl) ?_ HS.out ?_
      rotate_left
      · intro wz hz
        obtain ⟨z0, z1, -⟩ := hz
        go_simp
        first | done | with_reducible rfl
      refine held_take (i := 3) (d := 21) (v := ?_) rfl rfl (by kernel_rfl) (by kernel_rfl) (by kernel_rfl) (fun _ _ _ h => h) (by kernel_rfl) ?_ HS.out ?_
      rotate_left
      · intro wz hz
        obtain ⟨z0, z1, -⟩ := hz
        go_simp
        first | done | with_reducible rfl
      refine held_take (i := 5) (d := 23) (v := ?_) rfl rfl (by kernel_rfl) (by kernel_rfl) (by kernel_rfl) (fun _ _ _ h => h) (by kernel_rfl) ?_ HS.out ?_
      rotate_left
      · intro wz hz
        obtain ⟨z0, z1, -⟩ := hz
        go_simp
        first | done | with_reducible rfl
      refine held_take (i := 6) (d := 24) (v := ?_) rfl rfl (by kernel_rfl) (by kernel_rfl) (by kernel_rfl) (fun _ _ _ h => h) (by kernel_rfl) ?_ HS.out ?_
      rotate_left
      · intro wz hz
        obtain ⟨z0, z1, -⟩ := hz
        go_simp
        first | done | with_reducible rfl
      refine held_take (i := 7) (d := 25) (v := ?_) rfl rfl (by kernel_rfl) (by kernel_rfl) (by kernel_rfl) (fun _ _ _ h => h) (by kernel_rfl) ?_ HS.out ?_
      rotate_left
      · intro wz hz
        obtain ⟨z0, z1, -⟩ := hz
        go_simp
        first | done | with_reducible rfl
      refine held_take (i := 8) (d := 26) (v := ?_) rfl rfl (by kernel_rfl) (by kernel_rfl) (by kernel_rfl) (fun _ _ _ h => h) (by kernel_rfl) ?_ HS.out ?_
      rotate_left
      · intro wz hz
        obtain ⟨z0, z1, -⟩ := hz
        go_simp
        first | done | with_reducible rfl
      refine wpAnyH_ready (rs := [4]) (by kernel_rfl) (by simp) ?_
      refine AllReadyH.cons rfl (fun K hK => ?_) AllReadyH.nil
      go_simp
      refine alloc_one hin (fun w4 p4 k4 => ?_); have P1 := hide p4; have HS' := hide (HS.out.fresh k4); clear HS p4 k4; have HS := HS'; clear HS'
      refine hK.out _ _ HS.out (fun _ => ?_)
      clear hK K
      refine wpAnyH_ready (rs := [9]) (by kernel_rfl) (by simp) ?_
      refine AllReadyH.cons rfl (fun K hK => ?_) AllReadyH.nil
      go_simp
      refine parts_next _ _ _ ?_; intro w5 hb5 k5'; have PA := hide (parts3 hb5 ((PT0.out.fresh HS.out.2.2).fresh k5') (P1.out.fresh k5') ((PT2.out.fresh HS.out.2.2).fresh k5')); have HS' := hide (HS.out.fresh k5'); clear HS k5' hb5 P1; have HS := HS'; clear HS'
      refine hK.out _ _ HS.out (fun _ => ?_)
      clear hK K
      refine wpAnyH_ready (rs := [10]) (by kernel_rfl) (by simp) ?_
      refine AllReadyH.cons rfl (fun K hK => ?_) AllReadyH.nil
      go_simp
      go_wp2_with fail
      refine (mconcat_any _ 0 3 3 _ _ w5 (by decide) PA.out).mono ?_; rintro e w6 ⟨u, rfl, o6, f6⟩; have O6 := hide (o6.mono (Nat.le_trans FW.out.size HS.out.2.2.size)); have HS' := hide (HS.out.fresh f6); clear HS o6 f6; have HS := HS'; clear HS'
      refine hK.out _ _ HS.out (fun _ => ?_)
      clear hK K
      refine held_take (i := 11) (d := 4) (v := ?_) rfl rfl (by kernel_rfl) (by kernel_rfl) (by kernel_rfl) (fun _ _ _ h => h) (by kernel_rfl) ?_ HS.out ?_
      rotate_left
      · intro wz hz
        obtain ⟨z0, z1, -⟩ := hz
        go_simp
        first | done | with_reducible rfl
      refine wpAnyH_done (by kernel_rfl) ?_ _
      try simp only [Act.put, List.setIfInBounds_toArray, List.set_cons_succ, List.set_cons_zero]
      go_wp2
      go_ret
      exact ⟨u, rfl, by rw [PL.out, ← flat3]; exact O6.out, FW.out.trans HS.out.2.2⟩
  | false =>
    obtain ⟨hno, hnx, _⟩ := hit_not hr hx
    have LK := hide (fun w B ho => look_miss (w := w) (B := B) ho HI.out hin.1 hin.2.1 hno)
    have HK := hide (ahead_le ps s1)
    rcases H1.out.cases with ⟨rfl, rfl⟩ | ⟨b, o, cap, rfl, h1, h2, h3, h4, hc⟩
    · have AA := hide (fun w (h : SpansAt w (.slice none 0 0) []) => mahead_any _ [] s1 w h)
      have PT0 := hide (spansIn_nil W1)
      have PT2 := hide (spansIn_nil W1)
      have PL := hide (show putM [] (s1, s2) = [] ++ [(s1, s2)] ++ [] from rfl)
      have HKE := hide (show aheadN [] s1 = 0 from rfl)
      obtain ⟨ps, hps⟩ : ∃ ps : List Pc, ps = [] := ⟨_, rfl⟩
      clear hx h hr hnx hno
      go_enter Try.func13, Try.ntmps13
      go_wp2_with fail
      rw [← HW.out, ← HN.out]
      have HS : Hid (PairB W1 n s1 s2 W1.drew) := H0.out.fresh (Fresh.refl _).drew
      refine wp_region_held (S := PairB W1 n s1 s2) (by kernel_rfl) ?_
      change wpAnyH _ _ _ _ _ _ _ _ (World.drew _)
      refine held_take (i := 0) (d := 9) (v := ?_) rfl rfl (by kernel_rfl) (by kernel_rfl) (by kernel_rfl) (fun _ _ _ h => h) (by kernel_rfl) ?_ HS.out ?_
      rotate_left
      · intro wz hz
        obtain ⟨z0, z1, -⟩ := hz
        go_simp
        first | done | with_reducible rfl
      refine held_take (i := 2) (d := 11) (v := ?_) rfl rfl (by kernel_rfl) (by kernel_rfl) (by kernel_rfl) (fun _ _ _ h => h) (by kernel_rfl) ?_ HS.out ?_
      rotate_left
      · intro wz hz
        obtain ⟨z0, z1, -⟩ := hz
        go_simp
        first | done | with_reducible rfl
      refine held_take (i := 3) (d := 12) (v := ?_) rfl rfl (by kernel_rfl) (by kernel_rfl) (by kernel_rfl) (fun _ _ _ h => h) (by kernel_rfl) ?_ HS.out ?_
      rotate_left
      · intro wz hz
        obtain ⟨z0, z1, -⟩ := hz
        go_simp
        first | done | with_reducible rfl
      refine held_take (i := 4) (d := 13) (v := ?_) rfl rfl (by kernel_rfl) (by kernel_rfl) (by kernel_rfl) (fun _ _ _ h => h) (by kernel_rfl) ?_ HS.out ?_
      rotate_left
      · intro wz hz
        obtain ⟨z0, z1, -⟩ := hz
        go_simp
        first | done | with_reducible rfl
      refine wpAnyH_ready (rs := [1]) (by kernel_rfl) (by simp) ?_
      refine AllReadyH.cons rfl (fun K hK => ?_) AllReadyH.nil
      go_simp
      go_wp2_with fail
      refine (mplaces_any _ _ _ (H1.out.fresh HS.out.2.2).1).mono ?_; rintro e w1 ⟨rfl, o1, f1⟩; obtain ⟨c, l1⟩ := LK.out _ _ o1; have L1 := hide l1; have HS' := hide (HS.out.fresh f1); clear HS o1 f1 l1; have HS := HS'; clear HS'
      refine hK.out _ _ HS.out (fun _ => ?_)
      clear hK K
      refine wpAnyH_ready (rs := [5]) (by kernel_rfl) (by simp) ?_
      refine AllReadyH.cons rfl (fun K hK => ?_) AllReadyH.nil
      rw [if_pos (by rfl)]
      refine wp_lookup_run _ _ 41 rfl _ _ _ rfl rfl L1.out ?_
      refine hK.out _ _ HS.out (fun _ => ?_)
      clear hK K
      simp only [List.getElem_toArray, List.getElem_cons_succ, List.getElem_cons_zero, Act.put, List.setIfInBounds_toArray, List.set_cons_succ, List.set_cons_zero]
      refine held_take (i := 6) (d := 8) (v := ?_) rfl rfl (by kernel_rfl) (by kernel_rfl) (by kernel_rfl) (fun _ _ _ h => h) (by kernel_rfl) ?_ HS.out ?_
      rotate_left
      · intro wz hz
        obtain ⟨z0, z1, -⟩ := hz
        go_simp
        first | done | with_reducible rfl
      refine held_take (i := 7) (d := 15) (v := ?_) rfl rfl (by kernel_rfl) (by kernel_rfl) (by kernel_rfl) (fun _ _ _ h => h) (by kernel_rfl) ?_ HS.out ?_
      rotate_left
      · intro wz hz
        obtain ⟨z0, z1, -⟩ := hz
        go_simp
        first | done | with_reducible rfl
      refine held_take (i := 8) (d := 16) (v := ?_) rfl rfl (by kernel_rfl) (by kernel_rfl) (by kernel_rfl) (fun _ _ _ h => h) (by kernel_rfl) ?_ HS.out ?_
      rotate_left
      · intro wz hz
        obtain ⟨z0, z1, -⟩ := hz
        go_simp
        first | done | with_reducible rfl
      refine held_take (i := 9) (d := 5) (v := ?_) rfl rfl (by kernel_rfl) (by kernel_rfl) (by kernel_rfl) (fun _ _ _ h => h) (by kernel_rfl) ?_ HS.out ?_
      rotate_left
      · intro wz hz
        obtain ⟨z0, z1, -⟩ := hz
        go_simp
        first | done | with_reducible rfl
      refine held_take (i := 10) (d := 6) (v := ?_) rfl rfl (by kernel_rfl) (by kernel_rfl) (by kernel_rfl) (fun _ _ _ h => h) (by kernel_rfl) ?_ HS.out ?_
      rotate_left
      · intro wz hz
        obtain ⟨z0, z1, -⟩ := hz
        go_simp
        first | done | with_reducible rfl
      refine wpAnyH_done (by kernel_rfl) ?_ _
      try simp only [Act.put, List.setIfInBounds_toArray, List.set_cons_succ, List.set_cons_zero]
      obtain ⟨y0, y1, -⟩ := HS.out
      go_wp2_with fail
      refine (AA.out w1 (H1.out.fresh HS.out.2.2).1).mono ?_
      rintro e w3 ⟨rfl, rfl⟩
      clear y0 y1 L1
      rw [HKE.out]
      go_wp2_with fail
      have HS' := hide (HS.out.fresh (Fresh.refl _).drew)
      clear HS
      have HS := HS'
      clear HS'
      refine wp_region_held (S := PairB W1 n s1 s2) (by kernel_rfl) ?_
      change wpAnyH _ _ _ _ _ _ _ _ (World.drew _)
      generalize World.drew w3 = wd at HS ⊢
      refine held_take (i := 0) (d := 33) (v := ?_) rfl rfl (by kernel_rfl) (by kernel_rfl) (by kernel_rfl) (fun _ _ _ h => h) (by kernel_rfl) ?_ HS.out ?_
      rotate_left
      · intro wz hz
        obtain ⟨z0, z1, -⟩ := hz
        go_simp
        first | done | with_reducible rfl
      refine held_take (i := 1) (d := 34) (v := ?_) rfl rfl (by kernel_rfl) (by kernel_rfl) (by kernel_rfl) (fun _ _ _ h => h) (by kernel_rfl) ?_ HS.out ?_
      rotate_left
      · intro wz hz
        obtain ⟨z0, z1, -⟩ := hz
        go_simp
        first | done | with_reducible rfl
      refine held_take (i := 2) (d := 35) (v := ?_) rfl rfl (by kernel_rfl) (by kernel_rfl) (by kernel_rfl) (fun _ _ _ h => h) (by kernel_rfl) ?_ HS.out ?_
      rotate_left
      · intro wz hz
        obtain ⟨z0, z1, -⟩ := hz
        go_simp
        first | done | with_reducible rfl
      refine held_take (i := 3) (d := 36) (v := ?_) rfl rfl (by kernel_rfl) (by kernel_rfl) (by kernel_rfl) (fun _ _ _ h => h) (by kernel_rfl) ?_ HS.out ?_
      rotate_left
      · intro wz hz
        obtain ⟨z0, z1, -⟩ := hz
        go_simp
        first | done | with_reducible rfl
      refine held_take (i := 5) (d := 38) (v := ?_) rfl rfl (by kernel_rfl) (by kernel_rfl) (by kernel_rfl) (fun _ _ _ h => h) (by kernel_rfl) ?_ HS.out ?_
      rotate_left
      · intro wz hz
        obtain ⟨z0, z1, -⟩ := hz
        go_simp
        first | done | with_reducible rfl
      refine held_take (i := 6) (d := 39) (v := ?_) rfl rfl (by kernel_rfl) (by kernel_rfl) (by kernel_rfl) (fun _ _ _ h => h) (by kernel_rfl) ?_ HS.out ?_
      rotate_left
      · intro wz hz
        obtain ⟨z0, z1, -⟩ := hz
        go_simp
        first | done | with_reducible rfl
      refine held_take (i := 7) (d := 40) (v := ?_) rfl rfl (by kernel_rfl) (by kernel_rfl) (by kernel_rfl) (fun _ _ _ h => h) (by kernel_rfl) ?_ HS.out ?_
      rotate_left
      · intro wz hz
        obtain ⟨z0, z1, -⟩ := hz
        go_simp
        first | done | with_reducible rfl
      refine wpAnyH_ready (rs := [4]) (by kernel_rfl) (by simp) ?_
      refine AllReadyH.cons rfl (fun K hK => ?_) AllReadyH.nil
      go_simp
      refine alloc_one hin (fun w4 p4 k4 => ?_); have P1 := hide p4; have HS' := hide (HS.out.fresh k4); clear HS p4 k4; have HS := HS'; clear HS'
      refine hK.out _ _ HS.out (fun _ => ?_)
      clear hK K
      refine wpAnyH_ready (rs := [8]) (by kernel_rfl) (by simp) ?_
      refine AllReadyH.cons rfl (fun K hK => ?_) AllReadyH.nil
      go_simp
      refine parts_next _ _ _ ?_; intro w5 hb5 k5'; have PA := hide (parts3 hb5 ((PT0.out.fresh HS.out.2.2).fresh k5') (P1.out.fresh k5') ((PT2.out.fresh HS.out.2.2).fresh k5')); have HS' := hide (HS.out.fresh k5'); clear HS k5' hb5 P1; have HS := HS'; clear HS'
      refine hK.out _ _ HS.out (fun _ => ?_)
      clear hK K
      refine wpAnyH_ready (rs := [9]) (by kernel_rfl) (by simp) ?_
      refine AllReadyH.cons rfl (fun K hK => ?_) AllReadyH.nil
      go_simp
      go_wp2_with fail
      refine (mconcat_any _ 0 3 3 _ _ w5 (by decide) PA.out).mono ?_; rintro e w6 ⟨u, rfl, o6, f6⟩; have O6 := hide (o6.mono (Nat.le_trans FW.out.size HS.out.2.2.size)); have HS' := hide (HS.out.fresh f6); clear HS o6 f6; have HS := HS'; clear HS'
      refine hK.out _ _ HS.out (fun _ => ?_)
      clear hK K
      refine held_take (i := 10) (d := 4) (v := ?_) rfl rfl (by kernel_rfl) (by kernel_rfl) (by kernel_rfl) (fun _ _ _ h => h) (by kernel_rfl) ?_ HS.out ?_
      rotate_left
      · intro wz hz
        obtain ⟨z0, z1, -⟩ := hz
        go_simp
        first | done | with_reducible rfl
      refine wpAnyH_done (by kernel_rfl) ?_ _
      try simp only [Act.put, List.setIfInBounds_toArray, List.set_cons_succ, List.set_cons_zero]
      go_wp2
      go_ret
      exact ⟨u, rfl, by rw [PL.out, ← flat3]; exact O6.out, FW.out.trans HS.out.2.2⟩
    · obtain ⟨k, hk⟩ : ∃ k, k = aheadN ps s1 := ⟨_, rfl⟩
      have HKE := hide hk.symm
      have AA := hide (fun w (h : SpansAt w (.slice (some ⟨b, o, none⟩) ps.length cap) ps) => mahead_any _ ps s1 w h)
      have k2 : k ≤ ps.length := by rw [hk]; exact HK.out
      have k3 : (0 : Int) ≤ (k : Int) := by omega
      have k4 : (k : Int) ≤ (ps.length : Int) := by omega
      have k5 : (ps.length : Int) ≤ (cap : Int) := by omega
      have k8 : k ≤ cap := by omega
      have PT0 := hide (H1.out.take k2)
      obtain ⟨A, hA⟩ : ∃ A, (if cap = k then some (⟨b, o, none⟩ : Addr) else some ⟨b, o + k * 2, none⟩) = A := ⟨_, rfl⟩
      have PT2 := hide (H1.out.dropIf k2)
      rw [hA] at PT2
      have PL := hide (show putM ps (s1, s2) = ps.take k ++ [(s1, s2)] ++ ps.drop k by unfold putM; simp only [hnx, ← hk]; simp)
      have k6 : (cap : Int) ≤ 9223372036854775807 := by omega
      have k7 : (ps.length : Int) ≤ 1000000 := by omega
      clear hc h1 h2 h3 h4 hk hx h hr hnx hno
      go_enter Try.func13, Try.ntmps13
      go_wp2_with fail
      rw [← HW.out, ← HN.out]
      have HS : Hid (PairB W1 n s1 s2 W1.drew) := H0.out.fresh (Fresh.refl _).drew
      refine wp_region_held (S := PairB W1 n s1 s2) (by kernel_rfl) ?_
      change wpAnyH _ _ _ _ _ _ _ _ (World.drew _)
      refine held_take (i := 0) (d := 9) (v := ?_) rfl rfl (by kernel_rfl) (by kernel_rfl) (by kernel_rfl) (fun _ _ _ h => h) (by kernel_rfl) ?_ HS.out ?_
      rotate_left
      · intro wz hz
        obtain ⟨z0, z1, -⟩ := hz
        go_simp
        first | done | with_reducible rfl
      refine held_take (i := 2) (d := 11) (v := ?_) rfl rfl (by kernel_rfl) (by kernel_rfl) (by kernel_rfl) (fun _ _ _ h => h) (by kernel_rfl) ?_ HS.out ?_
      rotate_left
      · intro wz hz
        obtain ⟨z0, z1, -⟩ := hz
        go_simp
        first | done | with_reducible rfl
      refine held_take (i := 3) (d := 12) (v := ?_) rfl rfl (by kernel_rfl) (by kernel_rfl) (by kernel_rfl) (fun _ _ _ h => h) (by kernel_rfl) ?_ HS.out ?_
      rotate_left
      · intro wz hz
        obtain ⟨z0, z1, -⟩ := hz
        go_simp
        first | done | with_reducible rfl
      refine held_take (i := 4) (d := 13) (v := ?_) rfl rfl (by kernel_rfl) (by kernel_rfl) (by kernel_rfl) (fun _ _ _ h => h) (by kernel_rfl) ?_ HS.out ?_
      rotate_left
      · intro wz hz
        obtain ⟨z0, z1, -⟩ := hz
        go_simp
        first | done | with_reducible rfl
      refine wpAnyH_ready (rs := [1]) (by kernel_rfl) (by simp) ?_
      refine AllReadyH.cons rfl (fun K hK => ?_) AllReadyH.nil
      go_simp
      go_wp2_with fail
      refine (mplaces_any _ _ _ (H1.out.fresh HS.out.2.2).1).mono ?_; rintro e w1 ⟨rfl, o1, f1⟩; obtain ⟨c, l1⟩ := LK.out _ _ o1; have L1 := hide l1; have HS' := hide (HS.out.fresh f1); clear HS o1 f1 l1; have HS := HS'; clear HS'
      refine hK.out _ _ HS.out (fun _ => ?_)
      clear hK K
      refine wpAnyH_ready (rs := [5]) (by kernel_rfl) (by simp) ?_
      refine AllReadyH.cons rfl (fun K hK => ?_) AllReadyH.nil
      rw [if_pos (by rfl)]
      refine wp_lookup_run _ _ 41 rfl _ _ _ rfl rfl L1.out ?_
      refine hK.out _ _ HS.out (fun _ => ?_)
      clear hK K
      simp only [List.getElem_toArray, List.getElem_cons_succ, List.getElem_cons_zero, Act.put, List.setIfInBounds_toArray, List.set_cons_succ, List.set_cons_zero]
      refine held_take (i := 6) (d := 8) (v := ?_) rfl rfl (by kernel_rfl) (by kernel_rfl) (by kernel_rfl) (fun _ _ _ h => h) (by kernel_rfl) ?_ HS.out ?_
      rotate_left
      · intro wz hz
        obtain ⟨z0, z1, -⟩ := hz
        go_simp
        first | done | with_reducible rfl
      refine held_take (i := 7) (d := 15) (v := ?_) rfl rfl (by kernel_rfl) (by kernel_rfl) (by kernel_rfl) (fun _ _ _ h => h) (by kernel_rfl) ?_ HS.out ?_
      rotate_left
      · intro wz hz
        obtain ⟨z0, z1, -⟩ := hz
        go_simp
        first | done | with_reducible rfl
      refine held_take (i := 8) (d := 16) (v := ?_) rfl rfl (by kernel_rfl) (by kernel_rfl) (by kernel_rfl) (fun _ _ _ h => h) (by kernel_rfl) ?_ HS.out ?_
      rotate_left
      · intro wz hz
        obtain ⟨z0, z1, -⟩ := hz
        go_simp
        first | done | with_reducible rfl
      refine held_take (i := 9) (d := 5) (v := ?_) rfl rfl (by kernel_rfl) (by kernel_rfl) (by kernel_rfl) (fun _ _ _ h => h) (by kernel_rfl) ?_ HS.out ?_
      rotate_left
      · intro wz hz
        obtain ⟨z0, z1, -⟩ := hz
        go_simp
        first | done | with_reducible rfl
      refine held_take (i := 10) (d := 6) (v := ?_) rfl rfl (by kernel_rfl) (by kernel_rfl) (by kernel_rfl) (fun _ _ _ h => h) (by kernel_rfl) ?_ HS.out ?_
      rotate_left
      · intro wz hz
        obtain ⟨z0, z1, -⟩ := hz
        go_simp
        first | done | with_reducible rfl
      refine wpAnyH_done (by kernel_rfl) ?_ _
      try simp only [Act.put, List.setIfInBounds_toArray, List.set_cons_succ, List.set_cons_zero]
      obtain ⟨y0, y1, -⟩ := HS.out
      go_wp2_with fail
      refine (AA.out w1 (H1.out.fresh HS.out.2.2).1).mono ?_
      rintro e w3 ⟨rfl, rfl⟩
      clear y0 y1 L1
      rw [HKE.out]
      go_wp2_with fail
      have HS' := hide (HS.out.fresh (Fresh.refl _).drew)
      clear HS
      have HS := HS'
      clear HS'
      refine wp_region_held (S := PairB W1 n s1 s2) (by kernel_rfl) ?_
      change wpAnyH _ _ _ _ _ _ _ _ (World.drew _)
      generalize World.drew w3 = wd at HS ⊢
      refine held_take (i := 0) (d := 33) (v := ?_) rfl rfl (by kernel_rfl) (by kernel_rfl) (by kernel_rfl) (fun _ _ _ h => h) (by kernel_rfl) ?_ HS.out ?_
      rotate_left
      · intro wz hz
        obtain ⟨z0, z1, -⟩ := hz
        go_simp
        first | done | with_reducible rfl
      refine held_take (i := 1) (d := 34) (v := ?_) rfl rfl (by kernel_rfl) (by kernel_rfl) (by kernel_rfl) (fun _ _ _ h => h) (by kernel_rfl) ?_ HS.out ?_
      rotate_left
      · intro wz hz
        obtain ⟨z0, z1, -⟩ := hz
        go_simp
        first | done | with_reducible rfl
      refine held_take (i := 2) (d := 35) (v := ?_) rfl rfl (by kernel_rfl) (by kernel_rfl) (by kernel_rfl) (fun _ _ _ h => h) (by kernel_rfl) ?_ HS.out ?_
      rotate_left
      · intro wz hz
        obtain ⟨z0, z1, -⟩ := hz
        go_simp
        first | done | with_reducible rfl
      refine held_take (i := 3) (d := 36) (v := ?_) rfl rfl (by kernel_rfl) (by kernel_rfl) (by kernel_rfl) (fun _ _ _ h => h) (by kernel_rfl) ?_ HS.out ?_
      rotate_left
      · intro wz hz
        obtain ⟨z0, z1, -⟩ := hz
        go_simp
        first | done | with_reducible rfl
      refine held_take (i := 5) (d := 38) (v := ?_) rfl rfl (by kernel_rfl) (by kernel_rfl) (by kernel_rfl) (fun _ _ _ h => h) (by kernel_rfl) ?_ HS.out ?_
      rotate_left
      · intro wz hz
        obtain ⟨z0, z1, -⟩ := hz
        go_simp
        first | done | with_reducible rfl
      refine held_take (i := 6) (d := 39) (v := ?_) rfl rfl (by kernel_rfl) (by kernel_rfl) (by kernel_rfl) (fun _ _ _ h => h) (by kernel_rfl) ?_ HS.out ?_
      rotate_left
      · intro wz hz
        obtain ⟨z0, z1, -⟩ := hz
        go_simp
        first | done | with_reducible rfl
      refine held_take (i := 7) (d := 40) (v := ?_) rfl rfl (by kernel_rfl) (by kernel_rfl) (by kernel_rfl) (fun _ _ _ h => h) (by kernel_rfl) ?_ HS.out ?_
      rotate_left
      · intro wz hz
        obtain ⟨z0, z1, -⟩ := hz
        go_simp
        first | done | with_reducible rfl
      refine wpAnyH_ready (rs := [4]) (by kernel_rfl) (by simp) ?_
      refine AllReadyH.cons rfl (fun K hK => ?_) AllReadyH.nil
      go_simp
      refine alloc_one hin (fun w4 p4 k4 => ?_); have P1 := hide p4; have HS' := hide (HS.out.fresh k4); clear HS p4 k4; have HS := HS'; clear HS'
      refine hK.out _ _ HS.out (fun _ => ?_)
      clear hK K
      refine wpAnyH_ready (rs := [8]) (by kernel_rfl) (by simp) ?_
      refine AllReadyH.cons rfl (fun K hK => ?_) AllReadyH.nil
      go_simp
      refine parts_next _ _ _ ?_; intro w5 hb5 k5'; have PA := hide (parts3 hb5 ((PT0.out.fresh HS.out.2.2).fresh k5') (P1.out.fresh k5') ((PT2.out.fresh HS.out.2.2).fresh k5')); have HS' := hide (HS.out.fresh k5'); clear HS k5' hb5 P1; have HS := HS'; clear HS'
      refine hK.out _ _ HS.out (fun _ => ?_)
      clear hK K
      refine wpAnyH_ready (rs := [9]) (by kernel_rfl) (by simp) ?_
      refine AllReadyH.cons rfl (fun K hK => ?_) AllReadyH.nil
      go_simp
      go_wp2_with fail
      refine (mconcat_any _ 0 3 3 _ _ w5 (by decide) PA.out).mono ?_; rintro e w6 ⟨u, rfl, o6, f6⟩; have O6 := hide (o6.mono (Nat.le_trans FW.out.size HS.out.2.2.size)); have HS' := hide (HS.out.fresh f6); clear HS o6 f6; have HS := HS'; clear HS'
      refine hK.out _ _ HS.out (fun _ => ?_)
      clear hK K
      refine held_take (i := 10) (d := 4) (v := ?_) rfl rfl (by kernel_rfl) (by kernel_rfl) (by kernel_rfl) (fun _ _ _ h => h) (by kernel_rfl) ?_ HS.out ?_
      rotate_left
      · intro wz hz
        obtain ⟨z0, z1, -⟩ := hz
        go_simp
        first | done | with_reducible rfl
      refine wpAnyH_done (by kernel_rfl) ?_ _
      try simp only [Act.put, List.setIfInBounds_toArray, List.set_cons_succ, List.set_cons_zero]
      go_wp2
      go_ret
      exact ⟨u, rfl, by rw [PL.out, ← flat3]; exact O6.out, FW.out.trans HS.out.2.2⟩

theorem side_says : SideSays where
  put v ps s1 s2 w h hr hl hi := by
    refine (mput_any v ps s1 s2 w h hr (by omega) hi).mono ?_
    rintro e w' ⟨u, rfl, o, f⟩
    exact ⟨u, rfl, o.at (by rw [putM_length]; split <;> omega) (fun p hp => by
      rcases (mem_put hr).1 hp with rfl | ⟨g, _⟩
      · exact hi
      · exact h.1.in64 p g), f⟩
  take v ps x w h hr hl x1 x2 := by
    refine (mtake_any v ps x w h hr (by omega) x1 x2).mono ?_
    rintro e w' ⟨u, rfl, o, f⟩
    exact ⟨u, rfl, o.at (by have := takM_length ps x; split at this <;> omega) (fun p hp => h.1.in64 p ((mem_tak hr).1 hp).1), f⟩
  cls v ps x w h hr hl x1 x2 := mclass_any v ps x w h hr (by omega) x1 x2
end Go.Proofs.Ytkcmhdedabcabaa
