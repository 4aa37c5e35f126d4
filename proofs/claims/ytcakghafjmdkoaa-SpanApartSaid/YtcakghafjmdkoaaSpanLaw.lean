/- span's answers as the laws meet them; and hodmanlaw8.begun. -/
import Derived.Test.YtcakghafjmdkoaaSpanF
namespace Go.Proofs.Ytcakghafjmdkoaa
open Go.RowKit

theorem OwnS.shape {w : World} {base : Nat} {v : Value} {ps : List Pc} (h : OwnS w base v ps) : ∃ a cap, v = .slice a ps.length cap := by
  rcases h.2 with ⟨rfl, hn⟩ | ⟨g, cap, cur, rfl, _⟩
  · exact ⟨none, 0, by rw [hn]⟩
  · exact ⟨_, cap, rfl⟩
theorem put_to (v : Value) (ps : List Pc) (s1 s2 : Int) (r : Bool) (qs : List Pc) (n : Nat) (hr : putB ps (s1, s2) = r) (hq : putL ps (s1, s2) = qs) (hn : qs.length = n) (w : World) (h : SpansIn w v ps) (hg : Good ps) (hl : ps.length ≤ 1000000) (hin : In64 (s1, s2)) :
    Calls Try.prog 9 #[v, .agg #[.int .i64 s1, .int .i64 s2]] w fun e w' => ∃ a cap, e = .returned (.tuple #[.slice a n cap, .bool r]) ∧ OwnS w' w.heap.size (.slice a n cap) qs ∧ Fresh w w' := by
  subst hr hq hn
  refine (put_any v ps s1 s2 w h hg hl hin).mono ?_
  rintro e w' ⟨u, rfl, o, f⟩
  obtain ⟨a, cap, rfl⟩ := o.shape
  exact ⟨a, cap, rfl, o, f⟩
theorem cut_to (v : Value) (ps : List Pc) (x : Int) (r : Bool) (p1 p2 : Int) (qs : List Pc) (n : Nat) (hr : cutB ps x = r) (hp : cutP ps x = (p1, p2)) (hq : cutL ps x = qs) (hn : qs.length = n) (w : World) (h : SpansIn w v ps) (hv : Val ps) (hl : ps.length ≤ 1000000) (x1 : -9223372036854775808 ≤ x) (x2 : x ≤ 9223372036854775807) :
    Calls Try.prog 11 #[v, .int .i64 x] w fun e w' => ∃ a cap, e = .returned (.tuple #[.slice a n cap, .agg #[.int .i64 p1, .int .i64 p2], .bool r]) ∧ OwnS w' w.heap.size (.slice a n cap) qs ∧ Fresh w w' := by
  subst hr hq hn
  refine (cut_any v ps x w h hv hl x1 x2).mono ?_
  rintro e w' ⟨u, rfl, o, f⟩
  obtain ⟨a, cap, rfl⟩ := o.shape
  refine ⟨a, cap, ?_, o, f⟩
  unfold cutE
  rw [hp]
theorem may_to (v : Value) (ps : List Pc) (r : Bool) (hr : mayB 0 ps = r) (w : World) (h : SpansAt w v ps) : Calls Try.prog 14 #[v] w fun e w' => e = .returned (.bool r) ∧ Fresh w w' := by
  subst hr
  exact may_any v ps w h
theorem total_to (v : Value) (ps : List Pc) (r : Int) (hr : tot ps = r) (w : World) (h : SpansAt w v ps) (hg : Good ps) : Calls Try.prog 16 #[v] w fun e w' => e = .returned (.int .i64 r) ∧ Fresh w w' := by
  subst hr
  exact total_any v ps w h hg
theorem end_to (v : Value) (ps : List Pc) (r : Int) (hr : endV ps = r) (w : World) (h : SpansAt w v ps) (hg : Good ps) : Calls Try.prog 17 #[v] w fun e w' => e = .returned (.int .i64 r) ∧ Fresh w w' := by
  subst hr
  exact end_any v ps w h hg
/-- a list that is written out -/
def valB : Int → List Pc → Bool
  | _, [] => true
  | e, p :: r => aloneB p && decide (e ≤ p.1) && valB (p.1 + p.2) r
theorem val_of : ∀ (ps : List Pc) (e : Int), valB e ps = true → Val ps ∧ ∀ p ∈ ps, e ≤ p.1
  | [], _, _ => ⟨val_nil, fun p hp => by simp at hp⟩
  | p :: r, e, h => by
    unfold valB at h
    simp only [Bool.and_eq_true, decide_eq_true_eq] at h
    obtain ⟨hv, hb⟩ := val_of r _ h.2
    have hp := (alone_iff p).1 h.1.1
    refine ⟨⟨fun q hq => ?_, List.pairwise_cons.2 ⟨hb, hv.2⟩⟩, fun q hq => ?_⟩
    · rcases List.mem_cons.1 hq with rfl | hq
      · exact h.1.1
      · exact hv.1 q hq
    · rcases List.mem_cons.1 hq with rfl | hq
      · exact h.1.2
      · have := hb q hq; have := h.1.2; omega

set_option maxRecDepth 100000 in
set_option maxHeartbeats 1000000 in
theorem begun8_true (w : World) : Calls Try.prog 7 #[] w fun e w' => e = .returned (.bool true) ∧ Fresh w w' := by
  have V := hide (val_of [(4, 2)] 0 (by decide)).1
  have p1 := hide (fun w => put_to (.slice none 0 0) [] 4 2 true [(4, 2)] 1 (by decide) (by decide) rfl w (spansIn_nil w) val_nil.1 (by decide) (by unfold In64; decide))
  have p2 := hide (fun v w h => put_to v [(4, 2)] 3 2 false [(4, 2)] 1 (by decide) (by decide) rfl w h V.out.1 (by decide) (by unfold In64; decide))
  have p3 := hide (fun v w h => cut_to v [(4, 2)] 4 true 4 2 [] 0 (by decide) (by decide) (by decide) rfl w h V.out (by decide) (by decide) (by decide))
  have p4 := hide (fun v w h => total_to v [(4, 2)] 2 (by decide) w h V.out.1)
  have p5 := hide (fun v w h => end_to v [(4, 2)] 6 (by decide) w h V.out.1)
  have p6 := hide (fun v w h => may_to v [(4, 2)] true (by decide) w h)
  have p7 := hide (fun v w h => may_to v [(0, 0)] false (by decide) w h)
  go_enter Try.func7, Try.ntmps7
  go_wp2_with fail
  refine (p1.out _).mono ?_
  rintro e w1 ⟨a1, c1, rfl, o1, f1⟩
  have O1 := hide (o1.at (by decide) V.out.1.in64)
  have F1 := hide f1
  clear o1 f1
  go_wp2_with fail
  refine (p2.out _ _ O1.out).mono ?_
  rintro e w2 ⟨a2, c2, rfl, o2, f2⟩
  have O2 := hide (O1.out.fresh f2)
  have F2 := hide (F1.out.trans f2)
  clear o2 f2 O1 F1
  go_wp2_with fail
  refine (p3.out _ _ O2.out).mono ?_
  rintro e w3 ⟨a3, c3, rfl, o3, f3⟩
  have O3 := hide (O2.out.fresh (f3.trans (fresh_box w3 #[.int .i64 4, .int .i64 2] 25)))
  have F3 := hide (F2.out.trans (f3.trans (fresh_box w3 #[.int .i64 4, .int .i64 2] 25)))
  clear o3 f3 O2 F2
  go_wp2_with fail
  refine (p4.out _ _ O3.out.1).mono ?_
  rintro e w4 ⟨rfl, f4⟩
  have O4 := hide (O3.out.fresh f4)
  have F4 := hide (F3.out.trans f4)
  clear f4 O3 F3
  go_wp2_with fail
  refine (p5.out _ _ O4.out.1).mono ?_
  rintro e w5 ⟨rfl, f5⟩
  have O5 := hide (O4.out.fresh f5)
  have F5 := hide (F4.out.trans f5)
  clear f5 O4 F4
  go_wp2_with fail
  refine (p6.out _ _ O5.out.1).mono ?_
  rintro e w6 ⟨rfl, f6⟩
  have F6 := hide (F5.out.trans f6)
  clear f6 O5 F5
  go_wp2_with fail
  refine (p7.out _ _ (spansIn_one w6 0 0 in64_zero).1).mono ?_
  rintro e w7 ⟨rfl, f7⟩
  have F7 := hide ((fresh_more F6.out _ _).trans f7)
  clear f7 F6
  go_wp2
  go_ret
  exact ⟨rfl, F7.out⟩
end Go.Proofs.Ytcakghafjmdkoaa
