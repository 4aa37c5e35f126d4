/- What package rank answers (Below, Nth, Zeros), as contracts. -/
import Derived.Test.YtlbkicohmbdlhaaRankMath
import Derived.Test.YtlbkicohmbdlhaaTreeB
namespace Go.Proofs.Ytlbkicohmbdlhaa
open Go.RowKit

/-- Go's min of three -/
theorem run_min3 (P : Program) (w : World) (ts : Array TypeId) (t : TypeId) (x y z : Int) : (Builtin.min_ ts t #[.int .i64 x, .int .i64 y, .int .i64 z]).run P w = .ok (.int .i64 (min (min x y) z)) w := by
  have e : (if y < x then y else x) = min x y := by
    rw [Int.min_def]
    split <;> split <;> omega
  have e2 : ∀ m : Int, (if z < m then z else m) = min m z := fun m => by
    rw [Int.min_def]
    split <;> split <;> omega
  simp [Builtin.min_, Builtin.min2, e, e2]

theorem endOf_any (v : Value) (n : Nat) (ws : List Nat) (i : Int) (w : World) (h : TreeAt w v n ws) (hi : -9223372036854775808 ≤ i) (hi' : i ≤ 9223372036854775807) :
    Calls Try.prog 20 #[v, .int .i64 i] w fun e w' => e = .returned (.int .i64 ((min i.toNat n : Nat) : Int)) ∧ Fresh w w' := by
  obtain ⟨n1, n2, hlev, a, cap, rfl, hlv⟩ := h
  have q1 : (1 : Int) ≤ (n : Int) := by omega
  have q2 : (n : Int) ≤ 65536 := by omega
  have hh := nLev_in n
  obtain ⟨b, o, rfl⟩ := hlv.len hh.1
  obtain ⟨x, c, hcell, hwd⟩ := hlv.row 0 (by omega)
  rw [Nat.add_zero] at hcell
  have hb : b < w.heap.size := World.block_lt_of_cell? _ _ hcell
  have hl : (lvV ws 0).length = (n + 63) / 64 := hlev.2.1
  have FB := hide (fresh_box w #[.int .i64 (n : Int), .slice (some ⟨b, o, none⟩) (nLev n) cap] 27)
  have hc2 : (w.alloc (.cells #[.int .i64 (n : Int), .slice (some ⟨b, o, none⟩) (nLev n) cap] 27)).cell? ⟨b, o, none⟩ = some (.slice x (lvV ws 0).length c) := (World.cell?_alloc_lt w _ _ hb).trans hcell
  have l1 : (1 : Int) ≤ (nLev n : Int) := by omega
  have l2 : (nLev n : Int) ≤ 3 := by omega
  have m1 : (n : Int) ≤ 64 * ((lvV ws 0).length : Int) := by omega
  have m2 : ((lvV ws 0).length : Int) ≤ 1024 := by omega
  have z : ((nLev n : Int) == 0) = false := by rw [beq_eq_false_iff_ne]; omega
  clear hlv hlev hwd hcell hl
  generalize (lvV ws 0).length = ln at *
  generalize nLev n = L at *
  have E := hide (show max 0 (min i (min (n : Int) ((ln : Int) * 64))) = ((min i.toNat n : Nat) : Int) by omega)
  have hm3 := fun (w : World) (ts : Array TypeId) (t : TypeId) => run_min3 Try.prog w ts t i (n : Int) ((ln : Int) * 64)
  go_enter Try.func20, Try.ntmps20
  go_wp2_with fail
  go_region
  go_wp2
  go_ret
  exact ⟨ret_int E.out, fresh_drewN FB.out 1⟩

theorem setB_nat (v : Value) (n : Nat) (ws : List Nat) (k e : Nat) (w : World) (h : TreeAt w v n ws) (hk : 64 * k < e) (he : e ≤ n) :
    Calls Try.prog 21 #[v, .int .i64 (k : Int), .int .i64 (e : Int)] w fun r w' => r = .returned (.int .u64 ((ws.getD k 0 &&& maskN 0 (e - 64 * k) : Nat) : Int)) ∧ Fresh w w' := by
  obtain ⟨n1, n2, hlev, a, cap, rfl, hlv⟩ := h
  have q2 : (n : Int) ≤ 65536 := by omega
  have hh := nLev_in n
  obtain ⟨b, o, rfl⟩ := hlv.len hh.1
  obtain ⟨x, c, hcell, hwd⟩ := hlv.row 0 (by omega)
  rw [Nat.add_zero] at hcell
  have hb : b < w.heap.size := World.block_lt_of_cell? _ _ hcell
  have hl : ws.length = (n + 63) / 64 := hlev.2.1
  change WordsAt w (.slice x ws.length c) ws at hwd
  obtain ⟨_, _, e0, _, h64, _, hcw⟩ := hwd
  cases e0
  obtain ⟨b', o', rfl, hcell'⟩ := hcw k (by omega)
  have FB := hide (fresh_box w #[.int .i64 (n : Int), .slice (some ⟨b, o, none⟩) (nLev n) cap] 27)
  have hc2 : (w.alloc (.cells #[.int .i64 (n : Int), .slice (some ⟨b, o, none⟩) (nLev n) cap] 27)).cell? ⟨b, o, none⟩ = some (.slice (some ⟨b', o', none⟩) ws.length c) := (World.cell?_alloc_lt w _ _ hb).trans hcell
  have hc3 : (w.alloc (.cells #[.int .i64 (n : Int), .slice (some ⟨b, o, none⟩) (nLev n) cap] 27)).cell? ⟨b', o' + k, none⟩ = some (.int .u64 ((ws.getD k 0 : Nat) : Int)) := (World.cell?_alloc_lt w _ _ (World.block_lt_of_cell? _ _ hcell')).trans hcell'
  have l1 : (1 : Int) ≤ (nLev n : Int) := by omega
  have l2 : (nLev n : Int) ≤ 3 := by omega
  have k1 : (k : Int) < (ws.length : Int) := by omega
  have k2 : (ws.length : Int) ≤ 1024 := by omega
  have hand := and_spelt (ws.getD k 0) (maskN 0 (e - 64 * k)) (h64.getD k) (maskN_lt _ _)
  have e1 : (e : Int) ≤ 65536 := by omega
  have M := hide (show maskV 0 ((e : Int) - (k : Int) * 64) = maskN 0 (e - 64 * k) by rw [show (e : Int) - (k : Int) * 64 = ((e - 64 * k : Nat) : Int) by omega]; exact maskV_nat 0 _)
  have h1 : (k : Int) * 64 < (e : Int) := by omega
  clear hlv hlev hcell hcell' hcw h64 hl
  generalize ws.getD k 0 = u at *
  generalize ws.length = ln at *
  generalize nLev n = L at *
  go_enter Try.func21, Try.ntmps21
  go_wp2_with fail
  go_quiet ((go_at_call 29; exact Calls.quiet_of_same (mask_to _ _ (maskN 0 (e - 64 * k)) (by exact M.out) _ (by omega) (by omega) (by omega) (by omega))))
  go_wp2
  go_ret
  exact ⟨rfl, fresh_drewN FB.out _⟩
end Go.Proofs.Ytlbkicohmbdlhaa
