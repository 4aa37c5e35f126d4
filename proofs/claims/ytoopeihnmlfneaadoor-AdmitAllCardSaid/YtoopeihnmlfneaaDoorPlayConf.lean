/- What hodmanplay makes of numbers (Conf), as a contract: what there is of the request that Raw reads; nothing but the reader's own count turns. -/
import Derived.Test.YtoopeihnmlfneaaDoorPlay
import Derived.Test.YtoopeihnmlfneaaDoorRef1Conf
import Derived.Deep.RegionHeld3
import Derived.Deep.MidRow
namespace Go.Proofs.YtoopeihnmlfneaaDoor
open Go.RowKit

theorem HasC.else {b n o : Nat} {w w' : World} {c : Cf} (h : HasC w n o c) (k : Else b w w') (hn : n ≠ b) : HasC w' n o c := by
  obtain ⟨h0, h1, h2, h3, h4, h5, h6, h7⟩ := h
  exact ⟨k.cell h0 hn, k.cell h1 hn, k.cell h2 hn, k.cell h3 hn, k.cell h4 hn, k.cell h5 hn, k.cell h6 hn, k.cell h7 hn⟩
theorem HasR.else {b n o : Nat} {w w' : World} {r : Rw} (h : HasR w n o r) (k : Else b w w') (hn : n ≠ b) : HasR w' n o r := by
  obtain ⟨h0, h1, h2, h3, h4, h5⟩ := h
  exact ⟨k.cell h0 hn, k.cell h1 hn, k.cell h2 hn, k.cell h3 hn, k.cell h4 hn, k.cell h5 hn⟩

abbrev Cf.cells (c : Cf) : List Value := [.int .i64 c.g, .int .i64 c.n, .int .i64 c.m, .int .i64 c.l, .int .i64 c.pg, .int .i64 c.p, .int .i64 c.h, .int .i64 c.se]
abbrev Rw.cells (r : Rw) : List Value := [.int .i64 r.g, .int .i64 r.la, .int .i64 r.li, .int .i64 r.pg, .int .i64 r.bu, .int .i64 r.se]
theorem HasC.range {w : World} {n : Nat} {c : Cf} (h : HasC w n 0 c) : w.rangeAt n 0 c.cells := by
  obtain ⟨h0, h1, h2, h3, h4, h5, h6, h7⟩ := h
  intro j v hv
  match j, hv with
  | 0, hv | 1, hv | 2, hv | 3, hv | 4, hv | 5, hv | 6, hv | 7, hv => cases hv; assumption
theorem HasR.range {w : World} {n : Nat} {r : Rw} (h : HasR w n 0 r) : w.rangeAt n 0 r.cells := by
  obtain ⟨h0, h1, h2, h3, h4, h5⟩ := h
  intro j v hv
  match j, hv with
  | 0, hv | 1, hv | 2, hv | 3, hv | 4, hv | 5, hv => cases hv; assumption
theorem rangeC {w : World} {n : Nat} {c : Cf} (h : w.rangeAt n 0 c.cells) : HasC w n 0 c :=
  ⟨h 0 _ rfl, h 1 _ rfl, h 2 _ rfl, h 3 _ rfl, h 4 _ rfl, h 5 _ rfl, h 6 _ rfl, h 7 _ rfl⟩
theorem rangeR {w : World} {n : Nat} {r : Rw} (h : w.rangeAt n 0 r.cells) : HasR w n 0 r :=
  ⟨h 0 _ rfl, h 1 _ rfl, h 2 _ rfl, h 3 _ rfl, h 4 _ rfl, h 5 _ rfl⟩
theorem there_of {w : World} {n : Nat} {cs : List Value} (h : w.rangeAt n 0 cs) (hf : ∀ o, w.frozen? ⟨n, o, none⟩ = false) : w.there n 0 cs.length := fun j hj => by
  refine ⟨?_, hf _⟩
  rw [h j cs[j] (List.getElem?_eq_getElem hj)]; rfl

theorem wpOp_store {P : Program} {ops : Array Oper} {Q : Exit → Act → World → Prop} {i : Nat} {o : Oper} {K : Act → World → Prop} {a : Act} {w : World} (hi : ops[i]? = some o) (hw : Region.wanted o (yielded ops a.tmps) = true) (h : o.wp P a w K Q) : wpOp P ops Q i K a w := by
  unfold wpOp
  simp only [hi, hw, if_true]
  exact .inl h

theorem wp_store_list {P : Program} {op : Oper} {a : Act} {w : World} {K : Act → World → Prop} {Q : Exit → Act → World → Prop} (ty : TypeId) (x y : Operand) (ho : op.op = .store ty x y)
    (b o : Nat) (cs : List Value) (hx : a.eval x = .pointer (some ⟨b, o, none⟩)) (hy : a.eval y = .agg cs.toArray)
    (ht : w.there b o cs.length) (hi : (P.info? ty).map (·.size) = some cs.length) (h1 : ∀ v ∈ cs, v.oneCell' = true)
    (h : K (a.put op.dst undef) (w.setCells b o cs)) : op.wp P a w K Q :=
  wp_store_mid ty x y ho b o cs.toArray hx hy (by simpa using ht) (by simpa using hi) (all_oneCell_toArray h1) (by simpa using h)

/-- stores into a block that is new turn nothing else -/
theorem setCells_else {b : Nat} {w0 : World} (k : Nat) : ∀ (vs : List Value) (o : Nat) {w : World}, w0.heap.size ≤ k → Else b w0 w → Else b w0 (w.setCells k o vs)
  | [], _, _, _, h => h
  | v :: r, o, w, hk, h => by
    rw [World.setCells]
    exact setCells_else k r (o + 1) hk (h.setNew ⟨k, o, none⟩ hk v)
theorem picks_set {w : World} {b k o : Nat} {zs : List Int} {j : Nat} (h : PicksAt w b zs j) (hk : b < k) (v : Value) : PicksAt (w.setCell ⟨k, o, none⟩ v) b zs j :=
  h.far ((Else.refl k w).setCell ⟨k, o, none⟩ rfl v) hk
theorem setCells_picks {b : Nat} {zs : List Int} {j : Nat} (k : Nat) : ∀ (vs : List Value) (o : Nat) {w : World}, b < k → PicksAt w b zs j → PicksAt (w.setCells k o vs) b zs j
  | [], _, _, _, h => h
  | v :: r, o, w, hk, h => by
    rw [World.setCells]
    exact setCells_picks k r (o + 1) hk (picks_set h hk v)

set_option maxRecDepth 100000 in
set_option maxHeartbeats 1000000 in
theorem conf_any (b : Nat) (zs : List Int) (j : Nat) (bud : Bool) (w : World) (h : PicksAt w b zs (min j zs.length)) :
    Calls Tryd.prog 8 #[.pointer (some ⟨b, 0, none⟩), .bool bud] w fun e w' => e = .returned (.tuple #[(ofC (rawOf zs j bud)).val, (rawOf zs j bud).val]) ∧ PicksAt w' b zs (min (j + 6) zs.length) ∧ Else b w w' := by
  have P0 := hide (show ∀ o1 o2, PicksAt ((w.alloc (.cells o1 26)).alloc (.cells o2 28)) b zs (min j zs.length) from fun o1 o2 => h.kept (((Kept.refl w).alloc _ _).alloc _ _))
  have hb := hide (World.block_lt_of_cell? _ _ h.pos)
  have RW := hide (fun w h => raw_any b zs j bud w h)
  have RF := hide (fun w => rof_any (rawOf zs j bud) w)
  have hfr : Hid (∀ o1 o2 k, w.heap.size ≤ k → ∀ o, ((w.alloc (.cells o1 26)).alloc (.cells o2 28)).frozen? ⟨k, o, none⟩ = false) := fun o1 o2 k hk o => by
    rw [frozen?_alloc_cells, frozen?_alloc_cells]; simp [World.frozen?, Array.getElem?_eq_none hk]
  clear h
  generalize rawOf zs j bud = r at *
  generalize ofC r = c at *
  generalize ofE r = er at *
  obtain ⟨g, la, li, pg, bu, se⟩ := r
  obtain ⟨cg, cn, cm, cl, cp, cb, ch, cs⟩ := c
  go_enter Tryd.func8, Tryd.ntmps8
  go_wp2_with fail
  refine (RW.out _ (P0.out _ _)).mono ?_
  rintro e w1 ⟨rfl, P1, E1⟩
  have C1 := hide ((((HasC.made w ⟨0, 0, 0, 0, 0, 0, 0, 0⟩ 26).kept ((Kept.refl _).alloc _ _)).else E1 (by have := hb.out; omega) : HasC w1 w.heap.size 0 ⟨0, 0, 0, 0, 0, 0, 0, 0⟩))
  have R1 := hide ((HasR.made (w.alloc (Cf.obj ⟨0, 0, 0, 0, 0, 0, 0, 0⟩ 26)) ⟨0, 0, 0, 0, 0, 0⟩ 28).else E1 (by have := hb.out; simp; omega))
  have R1 : Hid (HasR w1 (w.heap.size + 1) 0 ⟨0, 0, 0, 0, 0, 0⟩) := by have h := R1.out; simp only [World.alloc, Array.size_push] at h; exact h
  have SZ : Hid (w.heap.size + 2 ≤ w1.heap.size) := hide (by have h := E1.size; simp at h; omega)
  have R2 := hide (HasR.made w1 ⟨g, la, li, pg, bu, se⟩ 28)
  have F1 : Hid (∀ k, w.heap.size ≤ k → ∀ o, w1.frozen? ⟨k, o, none⟩ = false) := fun k hk o => (E1.frozen _).trans (hfr.out _ _ k hk o)
  have P1 := hide P1
  have E1 := hide (((((Else.refl b w).alloc _ _).alloc _ _).trans E1 : Else b w w1))
  clear P0 hfr RW
  go_wp2_with fail
  refine (RF.out _).mono ?_
  rintro e w3 ⟨rfl, k3⟩
  have k13 := hide (((Kept.refl w1).alloc _ _).trans k3)
  have C3 := hide (C1.out.kept k13.out)
  have R3 := hide (R1.out.kept k13.out)
  have S3 := hide (R2.out.kept k3)
  have sz : Hid (w.heap.size + 2 ≤ w1.heap.size) := SZ.out
  have sz3 : Hid (w1.heap.size + 1 ≤ w3.heap.size) := hide (by have := k3.1.size; simpa using this)
  have F3 : Hid (∀ k, w.heap.size ≤ k → ∀ o, w3.frozen? ⟨k, o, none⟩ = false) := fun k hk o => (k13.out.2 _).trans (F1.out k hk o)
  clear k3 C1 R1 R2 RF SZ F1
  have hlt : Hid (w.heap.size < w3.heap.size ∧ w.heap.size + 1 < w3.heap.size ∧ w1.heap.size < w3.heap.size) := by have := sz.out; have := sz3.out; refine hide ⟨?_, ?_, ?_⟩ <;> omega
  go_wp2_with fail
  have kA : Hid (Kept w3 (w3.alloc (Cf.obj ⟨cg, cn, cm, cl, cp, cb, ch, cs⟩ 26))) := (Kept.refl w3).alloc _ _
  have S0 : (w3.alloc (Cf.obj ⟨cg, cn, cm, cl, cp, cb, ch, cs⟩ 26)).rangeAt w3.heap.size 0 (Cf.cells ⟨cg, cn, cm, cl, cp, cb, ch, cs⟩) := (HasC.made w3 _ _).range
  have S1 : (w3.alloc (Cf.obj ⟨cg, cn, cm, cl, cp, cb, ch, cs⟩ 26)).rangeAt w1.heap.size 0 (Rw.cells ⟨g, la, li, pg, bu, se⟩) := (S3.out.kept kA.out).range
  have S2 : (w3.alloc (Cf.obj ⟨cg, cn, cm, cl, cp, cb, ch, cs⟩ 26)).there w.heap.size 0 8 := there_of (C3.out.kept kA.out).range (fun o => (kA.out.2 _).trans (F3.out _ (Nat.le_refl _) o))
  have S4 : (w3.alloc (Cf.obj ⟨cg, cn, cm, cl, cp, cb, ch, cs⟩ 26)).there (w.heap.size + 1) 0 6 := there_of (R3.out.kept kA.out).range (fun o => (kA.out.2 _).trans (F3.out _ (by omega) o))
  have kB := hide (k13.out.trans kA.out)
  clear kA C3 R3 S3 F3 k13
  generalize w3.alloc (Cf.obj ⟨cg, cn, cm, cl, cp, cb, ch, cs⟩ 26) = W at *
  have h1 : w.heap.size ≠ w1.heap.size := by have := sz.out; omega
  have h2 : w.heap.size + 1 ≠ w1.heap.size := by have := sz.out; omega
  have h3 : w.heap.size ≠ w3.heap.size := by have := hlt.out; omega
  have h4 : w.heap.size + 1 ≠ w3.heap.size := by have := hlt.out; omega
  generalize hn3 : w3.heap.size = n3 at *
  generalize hn1 : w1.heap.size = n1 at *
  generalize hn0 : w.heap.size = n0 at *
  have hi1 : Hid ((Tryd.prog.info? 26).map (·.size) = some 8) := hide (by kernel_rfl)
  have hi2 : Hid ((Tryd.prog.info? 28).map (·.size) = some 6) := hide (by kernel_rfl)
  have one : Hid (∀ c : Cf, c.cells.length = 8 ∧ ∀ v ∈ c.cells, v.oneCell' = true) := fun c => ⟨rfl, by simp [Value.oneCell']⟩
  have one2 : Hid (∀ r : Rw, r.cells.length = 6 ∧ ∀ v ∈ r.cells, v.oneCell' = true) := fun c => ⟨rfl, by simp [Value.oneCell']⟩
  have oc := hide (one.out ⟨cg, cn, cm, cl, cp, cb, ch, cs⟩)
  have or := hide (one2.out ⟨g, la, li, pg, bu, se⟩)
  have CL0 := hide (show ∀ l, l = Cf.cells ⟨cg, cn, cm, cl, cp, cb, ch, cs⟩ → l = Cf.cells ⟨cg, cn, cm, cl, cp, cb, ch, cs⟩ from fun _ h => h)
  generalize hCL : Cf.cells ⟨cg, cn, cm, cl, cp, cb, ch, cs⟩ = CL at S0 oc
  generalize hRL : Rw.cells ⟨g, la, li, pg, bu, se⟩ = RL at S1 or
  have hCL := hide hCL
  have hRL := hide hRL
  clear one one2 CL0
  have S2 : W.there n0 0 CL.length := by rw [oc.out.1]; exact S2
  have S4 : W.there (n0 + 1) 0 RL.length := by rw [or.out.1]; exact S4
  rw [← oc.out.1] at hi1
  rw [← or.out.1] at hi2
  have D0 := (World.rangeAt_drew _ _ _ _).2 S0
  have D1 := (World.rangeAt_drew _ _ _ _).2 S1
  have D2 := (World.there_drew _ _ _ _).2 S2
  have D4 := (World.there_drew _ _ _ _).2 S4
  have X1 := World.rangeAt_setCells_same W.drew n0 0 CL D2
  have X4 := World.there_setCells D4 n0 0 CL
  have X2 := World.rangeAt_setCells_same (W.drew.setCells n0 0 CL) (n0 + 1) 0 RL X4
  have X3 := World.rangeAt_setCells_apart X1 (n0 + 1) 0 RL (.inl (by omega))
  have Y0 := World.rangeAt_setCells_apart D0 n0 0 CL (.inl (Ne.symm h3))
  have Y1 := World.rangeAt_setCells_apart D1 n0 0 CL (.inl (Ne.symm h1))
  have Z0 := World.rangeAt_setCells_apart Y0 (n0 + 1) 0 RL (.inl (Ne.symm h4))
  have Z1 := World.rangeAt_setCells_apart Y1 (n0 + 1) 0 RL (.inl (Ne.symm h2))
  refine wp_region_held (S := fun w' => w'.rangeAt n3 0 CL ∧ w'.rangeAt n1 0 RL) (by kernel_rfl) ?_
  change wpAnyH _ _ _ _ _ _ _ _ (World.drew _)
  refine wpAnyH_take (i := 0) (v := .agg CL.toArray) rfl (by kernel_rfl) (by kernel_rfl) (by kernel_rfl) (fun _ _ _ h => h) (yieldsIf_load_mid (by rfl) 26 _ rfl n3 0 rfl _ _ (fun _ h => h.1) Tryd.underlying26 rfl hi1.out) ⟨D0, D1⟩ ?_
  refine wpAnyH_take (i := 1) (v := .agg RL.toArray) rfl (by kernel_rfl) (by kernel_rfl) (by kernel_rfl) (fun _ _ _ h => h) (yieldsIf_load_mid (by rfl) 28 _ rfl n1 0 rfl _ _ (fun _ h => h.2) Tryd.underlying28 rfl hi2.out) ⟨D0, D1⟩ ?_
  refine wpAnyH_all (rs := [2]) (by kernel_rfl) (by simp) fun i hi => ?_
  obtain rfl := List.mem_singleton.1 hi
  clear hi
  refine wpOp_store rfl (by rfl) (wp_store_list 26 _ _ rfl n0 0 CL rfl rfl D2 hi1.out oc.out.2 ⟨⟨Y0, Y1⟩, ?_⟩)
  refine wpAnyH_all (rs := [3]) (by kernel_rfl) (by simp) fun i hi => ?_
  obtain rfl := List.mem_singleton.1 hi
  clear hi
  refine wpOp_store rfl (by rfl) (wp_store_list 28 _ _ rfl (n0 + 1) 0 RL rfl rfl X4 hi2.out or.out.2 ⟨⟨Z0, Z1⟩, ?_⟩)
  refine wpAnyH_done (by kernel_rfl) ?_ _
  have EZ := hide (Else.trans E1.out (Else.of_kept b kB.out))
  have PZ := hide (P1.out.kept kB.out)
  have hbn : Hid (b < n0) := hb
  have KZ := hide (setCells_else (b := b) (w0 := w) (n0 + 1) RL 0 (by rw [hn0]; omega) (setCells_else n0 CL 0 (by rw [hn0]; omega) EZ.out.drew))
  have QZ := hide (setCells_picks (n0 + 1) RL 0 (by have := hbn.out; omega) (setCells_picks n0 CL 0 hbn.out PZ.out.drew))
  have X2 := hide (rangeR (r := ⟨g, la, li, pg, bu, se⟩) (by rw [hRL.out]; exact X2))
  have X3 := hide (rangeC (c := ⟨cg, cn, cm, cl, cp, cb, ch, cs⟩) (by rw [hCL.out]; exact X3))
  clear X1 X4 Y0 Y1 Z0 Z1 D0 D1 D2 D4 S0 S1 S2 S4
  generalize World.setCells _ (n0 + 1) 0 _ = Z at X2 X3 KZ QZ ⊢
  obtain ⟨r0, r1, r2, r3, r4, r5⟩ := X2.out
  obtain ⟨c0, c1, c2, c3, c4, c5, c6, c7⟩ := X3.out
  simp only [Nat.zero_add] at c0 c1 c2 c3 c4 c5 c6 c7 r0 r1 r2 r3 r4 r5
  go_wp2
  refine bodyPost_ret (by simp [results, Tryd.results8, go_sem, c0, c1, c2, c3, c4, c5, c6, c7, r0, r1, r2, r3, r4, r5]; try rfl) rfl ?_
  exact ⟨rfl, QZ.out, KZ.out⟩
end Go.Proofs.YtoopeihnmlfneaaDoor
