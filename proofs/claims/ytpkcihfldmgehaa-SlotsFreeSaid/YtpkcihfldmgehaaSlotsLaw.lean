/- What package slots answers, the answers spelt by the caller; slots in a variable (SV); hodmanlaw9's own helper begun answers true. -/
import Derived.Test.YtpkcihfldmgehaaSlotsU
import Derived.Test.YtpkcihfldmgehaaSlotsY
namespace Go.Proofs.Ytpkcihfldmgehaa
open Go.RowKit

/-- slots in a variable -/
def SV (w : World) (b : Nat) (a : Option Addr) (cap N c : Nat) (p : Nat → Bool) : Prop := w.heap[b]? = some (.cells #[.slice a c cap] 26 (0, 0)) ∧ SlotsAt w (.agg #[.slice a c cap]) N c p
theorem SV.fresh {w w' : World} {b : Nat} {a : Option Addr} {cap N c : Nat} {p : Nat → Bool} (h : SV w b a cap N c p) (k : Fresh w w') : SV w' b a cap N c p := ⟨by rw [k.block b (Array.getElem?_eq_some_iff.1 h.1).1]; exact h.1, h.2.fresh k⟩
theorem SV.cell {w : World} {b : Nat} {a : Option Addr} {cap N c : Nat} {p : Nat → Bool} (h : SV w b a cap N c p) : w.cell? ⟨b, 0, none⟩ = some (.slice a c cap) := cell_block h.1 0 _ rfl
theorem SV.lt {w : World} {b : Nat} {a : Option Addr} {cap N c : Nat} {p : Nat → Bool} (h : SV w b a cap N c p) : b < w.heap.size := (Array.getElem?_eq_some_iff.1 h.1).1
/-- what a call tells is laid in a variable -/
theorem sv_new {w : World} {a : Option Addr} {cap N c : Nat} {p : Nat → Bool} (h : SlotsAt w (.agg #[.slice a c cap]) N c p) : ∃ w' b, w' = w.alloc (.cells #[.slice a c cap] 26) ∧ b = w.heap.size ∧ SV w' b a cap N c p ∧ Fresh w w' :=
  ⟨_, _, rfl, rfl, ⟨heap_alloc_new w _, h.fresh (fresh_box _ _ _)⟩, fresh_box _ _ _⟩
theorem snew_to (x y : Int) (N c : Nat) (hx : x = N) (hy : y = c) (hc : Cls N c) (w : World) : Calls Try.prog 15 #[.int .i64 x, .int .i64 y] w fun e w' => ∃ a cap, e = .returned (.agg #[.slice a c cap]) ∧ SlotsAt w' (.agg #[.slice a c cap]) N c (fun _ => false) ∧ Fresh w w' := by
  subst hx hy
  refine (snew_ok N c hc w).mono ?_
  rintro e w' ⟨u, rfl, s, f⟩
  obtain ⟨_, a, cap, rfl, _⟩ := s.at
  exact ⟨a, cap, rfl, s.at, f⟩
theorem suse_to (v : Value) (N c : Nat) (p q : Nat → Bool) (f m : Int) (on : Bool) (hq : useB p f m on = q) (w : World) (h : SlotsAt w v N c p) (hm : m ≤ 9223372036854775807) : Calls Try.prog 12 #[v, .int .i64 f, .int .i64 m, .bool on] w fun e w' => ∃ a cap, e = .returned (.agg #[.slice a c cap]) ∧ SlotsAt w' (.agg #[.slice a c cap]) N c q ∧ Fresh w w' := by
  subst hq
  refine (suse_any v N c p f m on w h hm).mono ?_
  rintro e w' ⟨u, rfl, s, f⟩
  obtain ⟨_, a, cap, rfl, _⟩ := s.at
  exact ⟨a, cap, rfl, s.at, f⟩
theorem low_some (v : Value) (N c : Nat) (p : Nat → Bool) (x r : Int) (i : Nat) (hl : lowS N c p x = some i) (hr : (i : Int) = r) (w : World) (h : SlotsAt w v N c p) : Calls Try.prog 9 #[v, .int .i64 x] w fun e w' => e = .returned (.tuple #[.int .i64 r, .bool true]) ∧ Fresh w w' := by
  subst hr
  have := low_any v N c p x w h
  rw [hl] at this
  exact this
theorem low_no (v : Value) (N c : Nat) (p : Nat → Bool) (x : Int) (hl : lowS N c p x = none) (w : World) (h : SlotsAt w v N c p) : Calls Try.prog 9 #[v, .int .i64 x] w fun e w' => e = .returned (.tuple #[.int .i64 0, .bool false]) ∧ Fresh w w' := by
  have := low_any v N c p x w h
  rw [hl] at this
  exact this
set_option maxRecDepth 100000 in
set_option maxHeartbeats 1000000 in
theorem begun9_true (w : World) : Calls Try.prog 7 #[] w fun e w' => e = .returned (.bool true) ∧ Fresh w w' := by
  have CC := hide (show Cls 8 3 by unfold Cls; decide)
  obtain ⟨q, hq⟩ : ∃ q, q = useB (fun _ => false) 2 1 true := ⟨_, rfl⟩
  have L1 := hide (show lowS 8 3 q 1 = some 0 by rw [hq]; decide +kernel)
  have L2 := hide (show lowS 8 3 q 2 = some 1 by rw [hq]; decide +kernel)
  have L3 := hide (show lowS 8 3 q 3 = none by rw [hq]; decide +kernel)
  have HQ := hide hq
  clear hq
  go_enter Try.func7, Try.ntmps7
  go_wp2_with fail
  refine (snew_to 8 3 8 3 rfl rfl CC.out _).mono ?_
  rintro e w1 ⟨a1, c1, rfl, s1, f1⟩
  obtain ⟨w2, S, hw2, hS, v2, f2⟩ := sv_new s1
  have V2 := hide v2
  have F2 := hide (f1.trans f2)
  have HW2 := hide hw2
  have HS := hide hS
  clear s1 f1 v2 f2 hw2 hS
  go_wp2_with fail
  rw [← HW2.out, ← HS.out]
  refine (suse_to _ 8 3 _ q 2 1 true HQ.out.symm _ V2.out.2 (by decide)).mono ?_
  rintro e w3 ⟨a3, c3, rfl, s3, f3⟩
  obtain ⟨w4, T, hw4, hT, v4, f4⟩ := sv_new s3
  have V4 := hide v4
  have F4 := hide (F2.out.trans (f3.trans f4))
  have X4 := hide (V2.out.fresh (f3.trans f4))
  have HW4 := hide hw4
  have HT := hide hT
  clear s3 f3 v4 f4 hw4 hT HW2 HS V2 F2
  go_wp2_with fail
  rw [← HW4.out, ← HT.out]
  refine (low_some _ 8 3 q 1 0 0 L1.out rfl _ V4.out.2).mono ?_
  rintro e w5 ⟨rfl, f5⟩
  have V5 := hide (V4.out.fresh f5)
  have X5 := hide (X4.out.fresh f5)
  have F5 := hide (F4.out.trans f5)
  have t5 := V5.out.cell
  clear V4 X4 F4 f5 HW4 HT
  go_wp2_with fail
  refine (low_some _ 8 3 q 2 1 1 L2.out rfl _ V5.out.2).mono ?_
  rintro e w6 ⟨rfl, f6⟩
  have V6 := hide (V5.out.fresh f6)
  have X6 := hide (X5.out.fresh f6)
  have F6 := hide (F5.out.trans f6)
  clear V5 X5 F5 f6 t5
  have t6 := V6.out.cell
  go_wp2_with fail
  refine (low_no _ 8 3 q 3 L3.out _ V6.out.2).mono ?_
  rintro e w7 ⟨rfl, f7⟩
  have V7 := hide (V6.out.fresh f7)
  have X7 := hide (X6.out.fresh f7)
  have F7 := hide (F6.out.trans f7)
  clear V6 X6 F6 f7 t6
  have t7 := V7.out.cell
  have s7 := X7.out.cell
  go_wp2_with fail
  refine (smay_true _ 8 3 q _ V7.out.2).mono ?_
  rintro e w8 ⟨rfl, f8⟩
  have F8 := hide (F7.out.trans f8)
  clear V7 X7 F7 f8 t7 s7
  go_wp2_with fail
  refine (smay_none _).mono ?_
  rintro e w9 ⟨rfl, f9⟩
  have F9 := hide (F8.out.trans f9)
  clear F8 f9
  go_wp2
  go_ret
  exact ⟨rfl, F9.out⟩
end Go.Proofs.Ytpkcihfldmgehaa
