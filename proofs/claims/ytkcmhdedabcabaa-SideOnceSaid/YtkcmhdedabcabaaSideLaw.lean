/- What is asked of package side (SideSays), the answers spelt by the caller; hodmanlaw10's own helper begun answers true, given that. -/
import Derived.Test.YtkcmhdedabcabaaMarkMem
import Derived.Test.YtkcmhdedabcabaaMarkMath
import Derived.Test.YtkcmhdedabcabaaHeld
import Derived.Deep.QuietTactic
import Derived.BigQuiet
import Derived.Handy
namespace Go.Proofs.Ytkcmhdedabcabaa
open Go.RowKit

structure SideSays : Prop where
  put : ∀ (v : Value) (ps : List Pc) (s1 s2 : Int) (w : World), SpansIn w v ps → Rise ps → ps.length ≤ 1000 → In64 (s1, s2) →
    Calls Try.prog 13 #[v, .agg #[.int .i64 s1, .int .i64 s2]] w fun e w' => ∃ u, e = .returned u ∧ SpansIn w' u (putM ps (s1, s2)) ∧ Fresh w w'
  take : ∀ (v : Value) (ps : List Pc) (x : Int) (w : World), SpansIn w v ps → Rise ps → ps.length ≤ 1000 → -9223372036854775808 ≤ x → x ≤ 9223372036854775807 →
    Calls Try.prog 8 #[v, .int .i64 x] w fun e w' => ∃ u, e = .returned (.tuple #[u, .int .i64 (clsM ps x), .bool (hitM ps x)]) ∧ SpansIn w' u (takM ps x) ∧ Fresh w w'
  cls : ∀ (v : Value) (ps : List Pc) (x : Int) (w : World), SpansIn w v ps → Rise ps → ps.length ≤ 1000 → -9223372036854775808 ≤ x → x ≤ 9223372036854775807 →
    Calls Try.prog 10 #[v, .int .i64 x] w fun e w' => e = .returned (.tuple #[.int .i64 (clsM ps x), .bool (hitM ps x)]) ∧ Fresh w w'
theorem SpansIn.shape {w : World} {v : Value} {ps : List Pc} (h : SpansIn w v ps) : ∃ a cap, v = .slice a ps.length cap := by
  obtain ⟨a, cap, e, _⟩ := h.1
  exact ⟨a, cap, e⟩
theorem mput_to (S : SideSays) (v : Value) (ps : List Pc) (s1 s2 : Int) (qs : List Pc) (n : Nat) (hq : putM ps (s1, s2) = qs) (hn : qs.length = n) (w : World) (h : SpansIn w v ps) (hr : Rise ps) (hl : ps.length ≤ 1000) (hi : In64 (s1, s2)) :
    Calls Try.prog 13 #[v, .agg #[.int .i64 s1, .int .i64 s2]] w fun e w' => ∃ a cap, e = .returned (.slice a n cap) ∧ SpansIn w' (.slice a n cap) qs ∧ Fresh w w' := by
  subst hq hn
  refine (S.put v ps s1 s2 w h hr hl hi).mono ?_
  rintro e w' ⟨u, rfl, s, f⟩
  obtain ⟨a, cap, rfl⟩ := s.shape
  exact ⟨a, cap, rfl, s, f⟩
theorem mtake_to (S : SideSays) (v : Value) (ps : List Pc) (x c : Int) (b : Bool) (qs : List Pc) (n : Nat) (hc : clsM ps x = c) (hb : hitM ps x = b) (hq : takM ps x = qs) (hn : qs.length = n) (w : World) (h : SpansIn w v ps) (hr : Rise ps) (hl : ps.length ≤ 1000) (x1 : -9223372036854775808 ≤ x) (x2 : x ≤ 9223372036854775807) :
    Calls Try.prog 8 #[v, .int .i64 x] w fun e w' => ∃ a cap, e = .returned (.tuple #[.slice a n cap, .int .i64 c, .bool b]) ∧ SpansIn w' (.slice a n cap) qs ∧ Fresh w w' := by
  subst hq hn hc hb
  refine (S.take v ps x w h hr hl x1 x2).mono ?_
  rintro e w' ⟨u, rfl, s, f⟩
  obtain ⟨a, cap, rfl⟩ := s.shape
  exact ⟨a, cap, rfl, s, f⟩
theorem mcls_to (S : SideSays) (v : Value) (ps : List Pc) (x c : Int) (b : Bool) (hc : clsM ps x = c) (hb : hitM ps x = b) (w : World) (h : SpansIn w v ps) (hr : Rise ps) (hl : ps.length ≤ 1000) (x1 : -9223372036854775808 ≤ x) (x2 : x ≤ 9223372036854775807) :
    Calls Try.prog 10 #[v, .int .i64 x] w fun e w' => e = .returned (.tuple #[.int .i64 c, .bool b]) ∧ Fresh w w' := by
  subst hc hb
  exact S.cls v ps x w h hr hl x1 x2
/-- the cells of a mark -/
theorem SpansIn.cell {w : World} {a : Option Addr} {n cap : Nat} {ps : List Pc} (h : SpansIn w (.slice a n cap) ps) (i : Nat) (hi : i < ps.length) : ∃ b o, a = some ⟨b, o, none⟩ ∧ w.cell? ⟨b, o + i * 2, none⟩ = some (.int .i64 (nth ps i).1) ∧ w.cell? ⟨b, o + i * 2 + 1, none⟩ = some (.int .i64 (nth ps i).2) := by
  rcases h.cases with ⟨_, rfl⟩ | ⟨b, o, c, e, _, _, _, _, hc⟩
  · simp at hi
  · cases e
    exact ⟨b, o, rfl, hc i hi⟩
theorem riseD {ps : List Pc} (h : (ps.map (·.1)).Pairwise (· < ·)) : Rise ps := List.pairwise_map.1 h
set_option maxRecDepth 100000 in
set_option maxHeartbeats 1000000 in
theorem begun10_true (S : SideSays) (w : World) : Calls Try.prog 6 #[] w fun e w' => e = .returned (.bool true) ∧ Fresh w w' := by
  have R1 := hide (riseD (ps := [(8, 1)]) (by decide))
  have R2 := hide (riseD (ps := [(0, 2), (8, 1)]) (by decide))
  have P1 := hide (fun w h => mput_to S (.slice none 0 0) [] 8 1 [(8, 1)] 1 (by decide) rfl w h rise_nil (by decide) (by unfold In64; decide))
  have P2 := hide (fun v w h => mput_to S v [(8, 1)] 0 2 [(0, 2), (8, 1)] 2 (by decide) rfl w h R1.out (by decide) (by unfold In64; decide))
  have C1 := hide (fun v w h => mcls_to S v [(0, 2), (8, 1)] 8 1 true (by decide) (by decide) w h R2.out (by decide) (by decide) (by decide))
  have T1 := hide (fun v w h => mtake_to S v [(0, 2), (8, 1)] 0 2 true [(8, 1)] 1 (by decide) (by decide) (by decide) rfl w h R2.out (by decide) (by decide) (by decide))
  have C2 := hide (fun v w h => mcls_to S v [(0, 2), (8, 1)] 1 0 false (by decide) (by decide) w h R2.out (by decide) (by decide) (by decide))
  go_enter Try.func6, Try.ntmps6
  go_wp2_with fail
  refine (P1.out _ (spansIn_nil _)).mono ?_
  rintro e w1 ⟨a1, c1, rfl, s1, f1⟩
  have S1 := hide s1
  have F1 := hide f1
  clear s1 f1
  go_wp2_with fail
  refine (P2.out _ _ S1.out).mono ?_
  rintro e w2 ⟨a2, c2, rfl, s2, f2⟩
  have S2 := hide s2
  have F2 := hide (F1.out.trans f2)
  clear s2 f2 S1 F1
  go_wp2_with fail
  refine (C1.out _ _ S2.out).mono ?_
  rintro e w3 ⟨rfl, f3⟩
  have S3 := hide (S2.out.fresh f3)
  have F3 := hide (F2.out.trans f3)
  clear f3 S2 F2
  go_wp2_with fail
  refine (T1.out _ _ S3.out).mono ?_
  rintro e w4 ⟨a4, c4, rfl, _, f4⟩
  have S4 := hide (S3.out.fresh f4)
  have F4 := hide (F3.out.trans f4)
  clear f4 S3 F3
  go_wp2_with fail
  refine (C2.out _ _ S4.out).mono ?_
  rintro e w5 ⟨rfl, f5⟩
  have S5 := hide (S4.out.fresh f5)
  have F5 := hide (F4.out.trans f5)
  clear f5 S4 F4
  obtain ⟨b, o, rfl, h0, h1⟩ := S5.out.cell 0 (by decide)
  change w5.cell? ⟨b, o, none⟩ = some (.int .i64 0) at h0
  go_wp2
  go_ret
  exact ⟨rfl, F5.out⟩
end Go.Proofs.Ytkcmhdedabcabaa
