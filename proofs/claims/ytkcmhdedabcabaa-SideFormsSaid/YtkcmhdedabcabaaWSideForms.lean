/- The walk of hodmanlaw10.SideForms, given what is asked of package side. -/
import Derived.Test.YtkcmhdedabcabaaSideLaw
import Derived.Test.YtkcmhdedabcabaaRefMarkA
namespace Go.Proofs.Ytkcmhdedabcabaa
open Go.RowKit

set_option maxRecDepth 100000 in
set_option maxHeartbeats 1000000 in
theorem sideForms_walk0 (S : SideSays) (w : World) : Calls Try.prog 5 #[] w fun e w' => e = .returned (.bool true) ∧ Fresh w w' := by
  have R1 := hide (riseD (ps := [(16, 2)]) (by decide))
  have R2 := hide (riseD (ps := [(0, 1), (16, 2)]) (by decide))
  have R3 := hide (riseD (ps := [(0, 1), (16, 3)]) (by decide))
  have R4 := hide (riseD (ps := [(0, 1)]) (by decide))
  have P1 := hide (fun w h => mput_to S (.slice none 0 0) [] 16 2 [(16, 2)] 1 (by decide) rfl w h rise_nil (by decide) (by unfold In64; decide))
  have P2 := hide (fun v w h => mput_to S v [(16, 2)] 0 1 [(0, 1), (16, 2)] 2 (by decide) rfl w h R1.out (by decide) (by unfold In64; decide))
  have P3 := hide (fun v w h => mput_to S v [(0, 1), (16, 2)] 16 3 [(0, 1), (16, 3)] 2 (by decide) rfl w h R2.out (by decide) (by unfold In64; decide))
  have T1 := hide (fun v w h => mtake_to S v [(0, 1), (16, 3)] 16 3 true [(0, 1)] 1 (by decide) (by decide) (by decide) rfl w h R3.out (by decide) (by decide) (by decide))
  have T2 := hide (fun v w h => mtake_to S v [(0, 1)] 16 0 false [(0, 1)] 1 (by decide) (by decide) (by decide) rfl w h R4.out (by decide) (by decide) (by decide))
  have BG := hide (begun10_true S)
  go_enter Try.func5, Try.ntmps5
  go_wp2_with fail
  refine (BG.out _).mono ?_
  rintro e w0 ⟨rfl, f0⟩
  have F0 := hide f0
  clear f0
  go_wp2_with fail
  refine (P1.out _ (spansIn_nil _)).mono ?_
  rintro e w1 ⟨a1, c1, rfl, s1, f1⟩
  have S1 := hide s1
  have F1 := hide (F0.out.trans f1)
  clear s1 f1 F0
  go_wp2_with fail
  refine (P2.out _ _ S1.out).mono ?_
  rintro e w2 ⟨a2, c2, rfl, s2, f2⟩
  have S2 := hide s2
  have F2 := hide (F1.out.trans f2)
  clear s2 f2 S1 F1
  go_wp2_with fail
  refine (P3.out _ _ S2.out).mono ?_
  rintro e w3 ⟨a3, c3, rfl, s3, f3⟩
  have S3 := hide s3
  have F3 := hide (F2.out.trans f3)
  clear s3 f3 S2 F2
  go_wp2_with fail
  refine (T1.out _ _ S3.out).mono ?_
  rintro e w4 ⟨a4, c4, rfl, s4, f4⟩
  have S4 := hide (S3.out.fresh f4)
  have M4 := hide s4
  have F4 := hide (F3.out.trans f4)
  clear f4 S3 F3 s4
  go_wp2_with fail
  refine (T2.out _ _ M4.out).mono ?_
  rintro e w5 ⟨a5, c5, rfl, s5, f5⟩
  have S5 := hide (S4.out.fresh f5)
  have M5 := hide (M4.out.fresh f5)
  have N5 := hide s5
  have F5 := hide (F4.out.trans f5)
  clear f5 S4 F4 s5 M4
  obtain ⟨b, o, rfl, h0, h1⟩ := S5.out.cell 0 (by decide)
  obtain ⟨b', o', e, h2, h3⟩ := S5.out.cell 1 (by decide)
  cases e
  change w5.cell? ⟨b, o, none⟩ = some (.int .i64 0) at h0
  change w5.cell? ⟨b, o + 1, none⟩ = some (.int .i64 1) at h1
  change w5.cell? ⟨b, o + 2, none⟩ = some (.int .i64 16) at h2
  change w5.cell? ⟨b, o + 2 + 1, none⟩ = some (.int .i64 3) at h3
  go_wp2_with fail
  refine (msame_to _ _ [(0, 1)] [(0, 1)] true (by decide) _ N5.out.1 M5.out.1).mono ?_
  rintro e w6 ⟨rfl, n, rfl⟩
  have F6 := hide (F5.out.trans (Fresh.drewN w5 n))
  clear h0 h1 h2 h3
  go_wp2
  go_ret
  exact ⟨rfl, F6.out⟩
end Go.Proofs.Ytkcmhdedabcabaa
