/- hodmanlaw2's own helper begun, as a contract: it answers true, and makes new memory alone. Condition: the library's table lies in its variable. -/
import Derived.Test.YtekffikkbiohnaaDoorConfB
import Derived.Test.YtekffikkbiohnaaDoorTab
namespace Go.Proofs.YtekffikkbiohnaaDoor
open Go.RowKit

/-- the cells of a block that holds what there is -/
def HasC (w : World) (n o : Nat) (c : Cf) : Prop :=
  w.cell? ⟨n, o, none⟩ = some (.int .i64 c.g) ∧ w.cell? ⟨n, o + 1, none⟩ = some (.int .i64 c.n) ∧ w.cell? ⟨n, o + 2, none⟩ = some (.int .i64 c.m) ∧ w.cell? ⟨n, o + 3, none⟩ = some (.int .i64 c.l) ∧ w.cell? ⟨n, o + 4, none⟩ = some (.int .i64 c.pg) ∧ w.cell? ⟨n, o + 5, none⟩ = some (.int .i64 c.p) ∧ w.cell? ⟨n, o + 6, none⟩ = some (.int .i64 c.h) ∧ w.cell? ⟨n, o + 7, none⟩ = some (.int .i64 c.se)
theorem HasC.kept {w w' : World} {n o : Nat} {c : Cf} (h : HasC w n o c) (k : Kept w w') : HasC w' n o c := by
  obtain ⟨h0, h1, h2, h3, h4, h5, h6, h7⟩ := h
  exact ⟨k.cell h0, k.cell h1, k.cell h2, k.cell h3, k.cell h4, k.cell h5, k.cell h6, k.cell h7⟩
theorem HasC.made (w : World) (c : Cf) (t : TypeId) : HasC (w.alloc (c.obj t)) w.heap.size 0 c := by
  unfold HasC
  simp [Cf.obj]

/-- and of one that holds what is asked for -/
def HasR (w : World) (n o : Nat) (r : Rw) : Prop :=
  w.cell? ⟨n, o, none⟩ = some (.int .i64 r.g) ∧ w.cell? ⟨n, o + 1, none⟩ = some (.int .i64 r.la) ∧ w.cell? ⟨n, o + 2, none⟩ = some (.int .i64 r.li) ∧ w.cell? ⟨n, o + 3, none⟩ = some (.int .i64 r.pg) ∧ w.cell? ⟨n, o + 4, none⟩ = some (.int .i64 r.bu) ∧ w.cell? ⟨n, o + 5, none⟩ = some (.int .i64 r.se)
theorem HasR.kept {w w' : World} {n o : Nat} {r : Rw} (h : HasR w n o r) (k : Kept w w') : HasR w' n o r := by
  obtain ⟨h0, h1, h2, h3, h4, h5⟩ := h
  exact ⟨k.cell h0, k.cell h1, k.cell h2, k.cell h3, k.cell h4, k.cell h5⟩
theorem HasR.made (w : World) (r : Rw) (t : TypeId) : HasR (w.alloc (r.obj t)) w.heap.size 0 r := by
  unfold HasR
  simp [Rw.obj]

set_option maxRecDepth 100000 in
theorem begun_true (w : World) (hT : Tab w) : Calls Tryd.prog 7 #[] w fun e w' => e = .returned (.bool true) ∧ Kept w w' := by
  have o1 := hide (fun w hT => of_to ⟨1, 4, 8, 4, 6, 0⟩ ⟨1, 4, 8, 2, 4, 6, 16, 0⟩ 0 (by kernel_rfl) (by kernel_rfl) w hT)
  have o2 := hide (fun w hT => of_to ⟨0, 0, 0, 0, 0, 0⟩ ⟨0, 0, 0, 0, 0, 0, 0, 0⟩ 1 (by kernel_rfl) (by kernel_rfl) w hT)
  have s1 := hide (fun w hT => shift_yes ⟨1, 4, 8, 2, 4, 6, 16, 0⟩ 0 2 2 w (by decide) (by decide) (by decide) rfl rfl hT)
  have c1 := hide (fun w => ceil_to ⟨1, 4, 8, 2, 4, 6, 16, 0⟩ 1 12 (by decide) w (by decide) (by decide) (by decide))
  go_enter Tryd.func7, Tryd.ntmps7
  go_wp2_with fail
  refine (o1.out _ hT).mono ?_
  rintro e w1 ⟨rfl, k1⟩
  have H1 := HasC.made w1 ⟨1, 4, 8, 2, 4, 6, 16, 0⟩ 31
  go_wp2_with fail
  refine (o2.out _ (hT.kept (k1.alloc _ _))).mono ?_
  rintro e w2 ⟨rfl, k2⟩
  have hn : w1.heap.size < w2.heap.size := by have := k2.1.size; simp at this; omega
  have H2 := H1.kept k2
  have K2 := hide (k1.trans (((Kept.refl w1).alloc _ _).trans k2))
  clear H1 k2
  generalize w1.heap.size = n at *
  obtain ⟨f0, f1, f2, f3, f4, f5, f6, f7⟩ := H2
  dsimp only at f0 f1 f2 f3 f4 f5 f6 f7
  go_wp2_with fail
  refine (s1.out _ (hT.kept (K2.out.alloc _ _))).mono ?_
  rintro e w3 ⟨rfl, rfl⟩
  go_wp2_with fail
  refine (c1.out _).mono ?_
  rintro e w3 ⟨rfl, rfl⟩
  go_wp2
  go_ret
  exact ⟨rfl, ((K2.out.alloc _ _).alloc _ _).alloc _ _⟩
end Go.Proofs.YtekffikkbiohnaaDoor
