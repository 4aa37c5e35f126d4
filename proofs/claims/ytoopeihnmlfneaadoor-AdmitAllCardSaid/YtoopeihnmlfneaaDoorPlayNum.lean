/- What hodmanplay reads of numbers (Made, Num), as contracts: the numbers that are read, and that nothing but the reader's own count turns. -/
import Derived.Test.YtoopeihnmlfneaaDoorOpen
import Derived.Deep.RegionWith
import Derived.Handy
import Derived.Deep.CutRange
import Derived.Deep.QuietTactic
import Derived.BigQuiet
namespace Go.Proofs.YtoopeihnmlfneaaDoor
open Go.RowKit

/-- nothing but block b turns, besides new memory -/
structure Else (b : Nat) (w w' : World) : Prop where
  os : w'.os = w.os
  tape : w'.tape = w.tape
  output : w'.output = w.output
  size : w.heap.size ≤ w'.heap.size
  block : ∀ k, k < w.heap.size → k ≠ b → w'.heap[k]? = w.heap[k]?
  frozen : ∀ a, w'.frozen? a = w.frozen? a
theorem Else.refl (b : Nat) (w : World) : Else b w w := ⟨rfl, rfl, rfl, Nat.le_refl _, fun _ _ _ => rfl, fun _ => rfl⟩
theorem Else.trans {b : Nat} {x y z : World} (h : Else b x y) (k : Else b y z) : Else b x z :=
  ⟨k.os.trans h.os, k.tape.trans h.tape, k.output.trans h.output, Nat.le_trans h.size k.size, fun i hi hb => (k.block i (Nat.lt_of_lt_of_le hi h.size) hb).trans (h.block i hi hb), fun a => (k.frozen a).trans (h.frozen a)⟩
theorem Else.of_kept (b : Nat) {w w' : World} (h : Kept w w') : Else b w w' := ⟨h.1.os, h.1.tape, h.1.output, h.1.size, fun k hk _ => h.1.block k hk, h.2⟩
theorem Else.kept {b : Nat} {a w w' : World} (h : Kept a w) (hb : a.heap.size ≤ b) (k : Else b w w') : Kept a w' :=
  ⟨⟨k.os.trans h.1.os, k.tape.trans h.1.tape, k.output.trans h.1.output, Nat.le_trans h.1.size k.size, fun i hi => (k.block i (Nat.lt_of_lt_of_le hi h.1.size) (by omega)).trans (h.1.block i hi)⟩, fun x => (k.frozen x).trans (h.2 x)⟩
theorem Else.setCell {b : Nat} {a w : World} (h : Else b a w) (p : Addr) (hp : p.block = b) (v : Value) : Else b a (w.setCell p v) :=
  ⟨h.os, h.tape, h.output, by simpa [World.setCell] using h.size, fun k hk hb => (Below.heap_setCell w p v k (by omega)).trans (h.block k hk hb), fun x => (World.frozen?_setCell _ _ _ _).trans (h.frozen x)⟩
theorem Else.setNew {b : Nat} {a w : World} (h : Else b a w) (p : Addr) (hp : a.heap.size ≤ p.block) (v : Value) : Else b a (w.setCell p v) :=
  ⟨h.os, h.tape, h.output, by simpa [World.setCell] using h.size, fun k hk hb => (Below.heap_setCell w p v k (by omega)).trans (h.block k hk hb), fun x => (World.frozen?_setCell _ _ _ _).trans (h.frozen x)⟩
theorem Else.alloc {b : Nat} {a w : World} (h : Else b a w) (c : Array Value) (t : TypeId) : Else b a (w.alloc (.cells c t)) := h.trans (Else.of_kept b ((Kept.refl w).alloc c t))
theorem Else.drew {b : Nat} {a w : World} (h : Else b a w) : Else b a w.drew := ⟨h.os, h.tape, h.output, h.size, h.block, h.frozen⟩
theorem Else.drewN {b : Nat} {a w : World} (h : Else b a w) (n : Nat) : Else b a (w.drewN n) := ⟨h.os, h.tape, h.output, h.size, h.block, h.frozen⟩
theorem Else.cell {b : Nat} {a w : World} (h : Else b a w) {p : Addr} {v : Value} (hc : a.cell? p = some v) (hp : p.block ≠ b) : w.cell? p = some v :=
  (World.cell?_of_block (w := a) (h.block p.block (World.block_lt_of_cell? _ _ hc) hp)).trans hc

/-- where the numbers lie -/
def Zs (w : World) (b : Nat) (a : Option Addr) (zs : List Int) : Prop :=
  zs.length ≤ 9223372036854775807 ∧ (∀ z ∈ zs, 0 ≤ z ∧ z ≤ 255) ∧ ∀ i, i < zs.length → ∃ x o, a = some ⟨x, o, none⟩ ∧ x < b ∧ w.cell? ⟨x, o + i, none⟩ = some (.int .u8 (zs.getD i 0))
theorem Zs.else {w w' : World} {b : Nat} {a : Option Addr} {zs : List Int} (h : Zs w b a zs) (k : Else b w w') : Zs w' b a zs :=
  ⟨h.1, h.2.1, fun i hi => by obtain ⟨x, o, e, hx, hc⟩ := h.2.2 i hi; exact ⟨x, o, e, hx, k.cell hc (Nat.ne_of_lt hx)⟩⟩
/-- a reader of numbers: block b, its numbers, how many were read -/
structure PicksAt (w : World) (b : Nat) (zs : List Int) (j : Nat) : Prop where
  row : ∃ a cap, w.cell? ⟨b, 0, none⟩ = some (.slice a zs.length cap) ∧ Zs w b a zs
  pos : w.cell? ⟨b, 1, none⟩ = some (.int .i64 j)
  le : j ≤ zs.length
  fr : ∀ o, w.frozen? ⟨b, o, none⟩ = false
theorem PicksAt.drew {w : World} {b : Nat} {zs : List Int} {j : Nat} (h : PicksAt w b zs j) : PicksAt w.drew b zs j := ⟨h.row, h.pos, h.le, h.fr⟩
theorem PicksAt.drewN {w : World} {b : Nat} {zs : List Int} {j : Nat} (h : PicksAt w b zs j) (n : Nat) : PicksAt (w.drewN n) b zs j := ⟨h.row, h.pos, h.le, h.fr⟩
theorem PicksAt.kept {w w' : World} {b : Nat} {zs : List Int} {j : Nat} (h : PicksAt w b zs j) (k : Kept w w') : PicksAt w' b zs j := by
  obtain ⟨a, cap, hr, hz⟩ := h.row
  exact ⟨⟨a, cap, k.cell hr, hz.else (Else.of_kept b k)⟩, k.cell h.pos, h.le, fun o => (k.2 _).trans (h.fr o)⟩

theorem PicksAt.far {w w' : World} {b n : Nat} {zs : List Int} {j : Nat} (h : PicksAt w b zs j) (k : Else n w w') (hn : b < n) : PicksAt w' b zs j := by
  obtain ⟨a, cap, hr, hz⟩ := h.row
  refine ⟨⟨a, cap, k.cell hr (Nat.ne_of_lt hn), hz.1, hz.2.1, fun i hi => ?_⟩, k.cell h.pos (Nat.ne_of_lt hn), h.le, fun o => (k.frozen _).trans (h.fr o)⟩
  obtain ⟨x, o, e, hx, hc⟩ := hz.2.2 i hi
  exact ⟨x, o, e, hx, k.cell hc (by show x ≠ n; omega)⟩
theorem PicksAt.step {w : World} {b : Nat} {zs : List Int} {j : Nat} (h : PicksAt w b zs j) (hj : j < zs.length) : PicksAt (w.setCell ⟨b, 1, none⟩ (.int .i64 ((j : Int) + 1))) b zs (j + 1) := by
  obtain ⟨⟨a, cap, hr, hz⟩, hp, hle, hfr⟩ := h
  have k : Else b w (w.setCell ⟨b, 1, none⟩ (.int .i64 ((j : Int) + 1))) := (Else.refl b w).setCell _ rfl _
  refine ⟨⟨a, cap, ?_, hz.else k⟩, ?_, hj, fun o => (k.frozen _).trans (hfr o)⟩
  · exact (World.cell?_setCell_other _ _ _ _ (by simp)).trans hr
  · exact World.cell?_setCell_same _ _ _ hp

/-- the i-th number, below m -/
def pk (zs : List Int) (i : Nat) (m : Int) : Int := if i < zs.length then zs.getD i 0 % m else 0
def nx (zs : List Int) (j : Nat) : Nat := min (j + 1) zs.length
theorem pk_in (zs : List Int) (i : Nat) (m : Int) (h : 1 ≤ m) : 0 ≤ pk zs i m ∧ pk zs i m ≤ m - 1 := by
  unfold pk
  split
  · have := Int.emod_nonneg (zs.getD i 0) (show m ≠ 0 by omega)
    have := Int.emod_lt_of_pos (zs.getD i 0) (show 0 < m by omega)
    omega
  · omega
theorem pk_min (zs : List Int) (i : Nat) (m : Int) : pk zs (min i zs.length) m = pk zs i m := by
  unfold pk
  by_cases h : i < zs.length
  · rw [Nat.min_eq_left (by omega)]
  · rw [if_neg (by omega), if_neg h]
theorem nx_min (zs : List Int) (j : Nat) : nx zs (min j zs.length) = min (j + 1) zs.length := by unfold nx; omega

set_option maxRecDepth 100000 in
theorem num_any (b : Nat) (zs : List Int) (j : Nat) (m : Int) (w : World) (h : PicksAt w b zs j) (hm : 1 ≤ m) (hm2 : m ≤ 9223372036854775807) :
    Calls Tryd.prog 24 #[.pointer (some ⟨b, 0, none⟩), .int .i64 m] w fun e w' => e = .returned (.int .i64 (pk zs j m)) ∧ PicksAt w' b zs (nx zs j) ∧ Else b w w' ∧ ∃ n, w' = w.drewN n ∨ ∃ v, w' = (w.setCell ⟨b, 1, none⟩ v).drewN n := by
  obtain ⟨⟨a, cap, hr, hz⟩, hp, hle, hfr⟩ := h
  have HF := hide hfr
  have hfr1 := hfr 1
  clear hfr
  have hlen := hz.1
  by_cases hj : j < zs.length
  · obtain ⟨x, o, rfl, hxb, hc⟩ := hz.2.2 j hj
    have hzj := hz.2.1 (zs.getD j 0) (by rw [List.getD_eq_getElem?_getD, List.getElem?_eq_getElem hj]; exact List.getElem_mem hj)
    have HV := hide (show pk zs j m = zs.getD j 0 % m by unfold pk; rw [if_pos hj])
    have HN := hide (show nx zs j = j + 1 by unfold nx; omega)
    have HZ := hide hz
    have HP := hide hp
    have HR := hide hr
    generalize zs.getD j 0 = z at *
    have d1 : decide ((zs.length : Int) ≤ (j : Int)) = false := decide_eq_false (by omega)
    have d2 : decide (m < 1) = false := decide_eq_false (by omega)
    have hjl : (j : Int) < (zs.length : Int) := by omega
    have hxb' : x ≠ b := by omega
    clear hz
    go_enter Tryd.func24, Tryd.ntmps24
    go_wp2_with fail
    go_quiet (fail)
    go_wp2_with fail
    go_quiet (fail)
    go_wp2
    go_ret
    rw [HV.out, HN.out]
    have P := (show PicksAt w b zs j from ⟨⟨_, cap, HR.out, HZ.out⟩, HP.out, hle, HF.out⟩)
    exact ⟨rfl, ((P.drewN _).step hj).drewN _, (((Else.refl b w).drewN _).setCell _ rfl _).drewN _, _, .inr ⟨_, World.drewN_drewN (w.setCell ⟨b, 1, none⟩ (.int .i64 ((j : Int) + 1))) _ _⟩⟩
  · have hjl : j = zs.length := by omega
    have HV := hide (show pk zs j m = 0 by unfold pk; rw [if_neg hj])
    have HN := hide (show nx zs j = j by unfold nx; omega)
    have P := hide (show PicksAt w b zs j from ⟨⟨a, cap, hr, hz⟩, hp, hle, HF.out⟩)
    have d1 : decide ((zs.length : Int) ≤ (j : Int)) = true := decide_eq_true (by omega)
    have hjl' : (zs.length : Int) ≤ (j : Int) := by omega
    clear hz hjl
    go_enter Tryd.func24, Tryd.ntmps24
    go_wp2_with fail
    go_quiet (fail)
    go_wp2
    go_ret
    rw [HV.out, HN.out]
    exact ⟨rfl, P.out.drewN _, (Else.refl b w).drewN _, _, .inl rfl⟩

theorem PicksAt.unalloc {u : World} {c : Array Value} {t : TypeId} {n b : Nat} {zs : List Int} {j : Nat} (h : PicksAt ((u.alloc (.cells c t)).drewN n) b zs j) (hb : b < u.heap.size) : PicksAt u b zs j := by
  obtain ⟨⟨a, cap, hr, hz⟩, hp, hle, hfr⟩ := h
  refine ⟨⟨a, cap, (World.cell?_alloc_lt u _ _ hb).symm.trans hr, hz.1, hz.2.1, fun i hi => ?_⟩, (World.cell?_alloc_lt u _ _ hb).symm.trans hp, hle, fun o => (frozen?_alloc_cells u c t _).symm.trans (hfr o)⟩
  obtain ⟨x, o, e, hx, hc⟩ := hz.2.2 i hi
  exact ⟨x, o, e, hx, (World.cell?_alloc_lt u _ _ (show x < u.heap.size by omega)).symm.trans hc⟩

/-- the same where the caller has a block of its own on top -/
theorem num_in (b : Nat) (zs : List Int) (j : Nat) (m : Int) (u : World) (c : Array Value) (t : TypeId) (n : Nat) (h : PicksAt u b zs (min j zs.length)) (hm : 1 ≤ m) (hm2 : m ≤ 9223372036854775807) :
    Calls Tryd.prog 24 #[.pointer (some ⟨b, 0, none⟩), .int .i64 m] ((u.alloc (.cells c t)).drewN n) fun e w' => e = .returned (.int .i64 (pk zs j m)) ∧ ∃ u' n', w' = (u'.alloc (.cells c t)).drewN n' ∧ PicksAt u' b zs (min (j + 1) zs.length) ∧ Else b u u' ∧ u'.heap.size = u.heap.size := by
  have hb : b < u.heap.size := World.block_lt_of_cell? _ _ h.pos
  refine (num_any b zs (min j zs.length) m _ ((h.kept ((Kept.refl u).alloc _ _)).drewN n) hm hm2).mono ?_
  rintro e w' ⟨rfl, P, E, k, hw⟩
  rw [pk_min]
  rw [nx_min] at P
  refine ⟨rfl, ?_⟩
  rcases hw with rfl | ⟨v, rfl⟩
  · exact ⟨u, n + k, World.drewN_drewN _ _ _, PicksAt.unalloc (n := n + k) (World.drewN_drewN (u.alloc (.cells c t)) n k ▸ P) hb, Else.refl b u, rfl⟩
  · have e : (((u.alloc (.cells c t)).drewN n).setCell ⟨b, 1, none⟩ v).drewN k = ((u.setCell ⟨b, 1, none⟩ v).alloc (.cells c t)).drewN (n + k) := by
      rw [← World.setCell_alloc_past _ _ _ _ hb]
      exact World.drewN_drewN ((u.alloc (.cells c t)).setCell ⟨b, 1, none⟩ v) n k
    rw [e] at P ⊢
    have hs : (u.setCell ⟨b, 1, none⟩ v).heap.size = u.heap.size := by simp [World.setCell]
    exact ⟨_, _, rfl, P.unalloc (by omega), (Else.refl b u).setCell _ rfl v, hs⟩

theorem made_any (a : Option Addr) (len cap : Nat) (w : World) :
    Calls Tryd.prog 7 #[.slice a len cap] w fun e w' => e = .returned (.pointer (some ⟨w.heap.size, 0, none⟩)) ∧ w' = w.alloc (.cells #[.slice a len cap, .int .i64 0] 43) := by
  go_enter Tryd.func7, Tryd.ntmps7
  go_wp2
  go_ret
  exact ⟨rfl, rfl⟩
end Go.Proofs.YtoopeihnmlfneaaDoor
