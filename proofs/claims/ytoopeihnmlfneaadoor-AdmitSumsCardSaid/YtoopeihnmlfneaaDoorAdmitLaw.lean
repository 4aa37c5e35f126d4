/- What is asked of package admit, as a structure; and that it has begun (hodmanlaw16.begun). -/
import Derived.Test.YtoopeihnmlfneaaDoorAdmitMath
import Derived.Test.YtoopeihnmlfneaaDoorRef1Conf
import Derived.Test.YtoopeihnmlfneaaDoorHas
import Derived.Test.YtoopeihnmlfneaaDoorTab
namespace Go.Proofs.YtoopeihnmlfneaaDoor
open Go.RowKit

/-- eight cells -/
def C8 (w : World) (n : Nat) (x0 x1 x2 x3 x4 x5 x6 x7 : Int) : Prop :=
  w.cell? ⟨n, 0, none⟩ = some (.int .i64 x0) ∧ w.cell? ⟨n, 1, none⟩ = some (.int .i64 x1) ∧ w.cell? ⟨n, 2, none⟩ = some (.int .i64 x2) ∧ w.cell? ⟨n, 3, none⟩ = some (.int .i64 x3) ∧ w.cell? ⟨n, 4, none⟩ = some (.int .i64 x4) ∧ w.cell? ⟨n, 5, none⟩ = some (.int .i64 x5) ∧ w.cell? ⟨n, 6, none⟩ = some (.int .i64 x6) ∧ w.cell? ⟨n, 7, none⟩ = some (.int .i64 x7)
theorem C8.kept {w w' : World} {n : Nat} {x0 x1 x2 x3 x4 x5 x6 x7 : Int} (h : C8 w n x0 x1 x2 x3 x4 x5 x6 x7) (k : Kept w w') : C8 w' n x0 x1 x2 x3 x4 x5 x6 x7 := by
  obtain ⟨h0, h1, h2, h3, h4, h5, h6, h7⟩ := h
  exact ⟨k.cell h0, k.cell h1, k.cell h2, k.cell h3, k.cell h4, k.cell h5, k.cell h6, k.cell h7⟩
theorem HasC.c8 {w : World} {n : Nat} {c : Cf} (h : HasC w n 0 c) : C8 w n c.g c.n c.m c.l c.pg c.p c.h c.se := by
  obtain ⟨h0, h1, h2, h3, h4, h5, h6, h7⟩ := h
  simp only [Nat.zero_add] at h0 h1 h2 h3 h4 h5 h6 h7
  exact ⟨h0, h1, h2, h3, h4, h5, h6, h7⟩
/-- what is asked of package admit -/
structure AdmitSays : Prop where
  new : ∀ (c : Cf) (live s a : Int) (w : World), 1 ≤ c.g → c.g ≤ c.n → c.n ≤ 65536 → 0 ≤ c.m → c.m ≤ 4611686018427387904 → 0 ≤ live → live ≤ 4611686018427387904 → -9223372036854775808 ≤ s → s ≤ 9223372036854775807 → -9223372036854775808 ≤ a → a ≤ 9223372036854775807 → Tab w →
    Calls Tryd.prog 9 #[c.val, .int .i64 live, .int .i64 s, .int .i64 a] w fun e w' => e = .returned (.tuple #[.int .i64 (adV c.g c.n c.m live s a), .int .i64 (adE c.g c.n c.m live s a)]) ∧ Kept w w'
  many : ∀ (c : Cf) (live x s : Int) (w : World), 1 ≤ c.g → c.g ≤ c.n → c.n ≤ 65536 → 0 ≤ c.m → c.m ≤ 4611686018427387904 → 0 ≤ live → live ≤ 4611686018427387904 → -9223372036854775808 ≤ x → x ≤ 9223372036854775807 → -9223372036854775808 ≤ s → s ≤ 9223372036854775807 → Tab w →
    Calls Tryd.prog 11 #[c.val, .int .i64 live, .int .i64 x, .int .i64 s] w fun e w' => e = .returned (.tuple #[.int .i64 (maV c.g c.n c.m live x s), .int .i64 (maE c.g c.n c.m live x s)]) ∧ Kept w w'
  anew : ∀ (c : Cf) (live old s : Int) (w : World), 1 ≤ c.g → c.g ≤ c.n → c.n ≤ 65536 → 0 ≤ c.m → c.m ≤ 4611686018427387904 → old ≤ live → live ≤ 4611686018427387904 → 0 ≤ old → -9223372036854775808 ≤ s → s ≤ 9223372036854775807 → Tab w →
    Calls Tryd.prog 13 #[c.val, .int .i64 live, .int .i64 old, .int .i64 s] w fun e w' => e = .returned (.tuple #[.int .i64 (adV c.g c.n c.m (live - old) s 1), .int .i64 (adE c.g c.n c.m (live - old) s 1)]) ∧ Kept w w'
section
variable (A : AdmitSays)
include A
theorem anew_c (c : Cf) (live s a v e0 : Int) (w : World) (hv : adV c.g c.n c.m live s a = v) (he : adE c.g c.n c.m live s a = e0) (h1 : 1 ≤ c.g) (h2 : c.g ≤ c.n) (h3 : c.n ≤ 65536) (h4 : 0 ≤ c.m) (h5 : c.m ≤ 4611686018427387904) (h6 : 0 ≤ live) (h7 : live ≤ 4611686018427387904) (h8 : -9223372036854775808 ≤ s) (h9 : s ≤ 9223372036854775807) (ha : -9223372036854775808 ≤ a) (ha' : a ≤ 9223372036854775807) (hT : Tab w) :
    Calls Tryd.prog 9 #[c.val, .int .i64 live, .int .i64 s, .int .i64 a] w fun e w' => e = .returned (.tuple #[.int .i64 v, .int .i64 e0]) ∧ Kept w w' := hv ▸ he ▸ A.new c live s a w h1 h2 h3 h4 h5 h6 h7 h8 h9 ha ha' hT
theorem amany_c (c : Cf) (live x s v e0 : Int) (w : World) (hv : maV c.g c.n c.m live x s = v) (he : maE c.g c.n c.m live x s = e0) (h1 : 1 ≤ c.g) (h2 : c.g ≤ c.n) (h3 : c.n ≤ 65536) (h4 : 0 ≤ c.m) (h5 : c.m ≤ 4611686018427387904) (h6 : 0 ≤ live) (h7 : live ≤ 4611686018427387904) (hx : -9223372036854775808 ≤ x) (hx' : x ≤ 9223372036854775807) (h8 : -9223372036854775808 ≤ s) (h9 : s ≤ 9223372036854775807) (hT : Tab w) :
    Calls Tryd.prog 11 #[c.val, .int .i64 live, .int .i64 x, .int .i64 s] w fun e w' => e = .returned (.tuple #[.int .i64 v, .int .i64 e0]) ∧ Kept w w' := hv ▸ he ▸ A.many c live x s w h1 h2 h3 h4 h5 h6 h7 hx hx' h8 h9 hT
theorem aanew_c (c : Cf) (live old s k v e0 : Int) (w : World) (hk : live - old = k) (hv : adV c.g c.n c.m k s 1 = v) (he : adE c.g c.n c.m k s 1 = e0) (h1 : 1 ≤ c.g) (h2 : c.g ≤ c.n) (h3 : c.n ≤ 65536) (h4 : 0 ≤ c.m) (h5 : c.m ≤ 4611686018427387904) (h6 : old ≤ live) (h7 : live ≤ 4611686018427387904) (ho : 0 ≤ old) (h8 : -9223372036854775808 ≤ s) (h9 : s ≤ 9223372036854775807) (hT : Tab w) :
    Calls Tryd.prog 13 #[c.val, .int .i64 live, .int .i64 old, .int .i64 s] w fun e w' => e = .returned (.tuple #[.int .i64 v, .int .i64 e0]) ∧ Kept w w' := by
  subst hk
  exact hv ▸ he ▸ A.anew c live old s w h1 h2 h3 h4 h5 h6 h7 ho h8 h9 hT
end
theorem rof_c (r : Rw) (c : Cf) (e0 : Int) (hc : ofC r = c) (he : ofE r = e0) (w : World) :
    Calls Tryd.prog 15 #[r.val] w fun e w' => e = .returned (.tuple #[c.val, .int .i64 e0]) ∧ Kept w w' := by
  subst hc; subst he; exact rof_any r w

set_option maxRecDepth 100000 in
theorem begun16_true (A : AdmitSays) (w : World) (hT : Tab w) : Calls Tryd.prog 6 #[] w fun e w' => e = .returned (.bool true) ∧ Kept w w' := by
  have o1 := hide (fun w => rof_c ⟨1, 4, 8, 1, 0, 0⟩ ⟨1, 4, 8, 2, 1, 0, 16, 0⟩ 0 (by kernel_rfl) (by kernel_rfl) w)
  have c1 := hide (fun w hT => anew_c A ⟨1, 4, 8, 2, 1, 0, 16, 0⟩ 5 3 1 0 5 w (by kernel_rfl) (by kernel_rfl) (by decide) (by decide) (by decide) (by decide) (by decide) (by decide) (by decide) (by decide) (by decide) (by decide) (by decide) hT)
  have c2 := hide (fun w hT => anew_c A ⟨1, 4, 8, 2, 1, 0, 16, 0⟩ 4 3 1 4 0 w (by kernel_rfl) (by kernel_rfl) (by decide) (by decide) (by decide) (by decide) (by decide) (by decide) (by decide) (by decide) (by decide) (by decide) (by decide) hT)
  have c3 := hide (fun w hT => amany_c A ⟨1, 4, 8, 2, 1, 0, 16, 0⟩ 0 2 3 0 4 w (by kernel_rfl) (by kernel_rfl) (by decide) (by decide) (by decide) (by decide) (by decide) (by decide) (by decide) (by decide) (by decide) (by decide) (by decide) hT)
  have c4 := hide (fun w hT => aanew_c A ⟨1, 4, 8, 2, 1, 0, 16, 0⟩ 8 4 4 4 4 0 w (by decide) (by kernel_rfl) (by kernel_rfl) (by decide) (by decide) (by decide) (by decide) (by decide) (by decide) (by decide) (by decide) (by decide) (by decide) hT)
  have TK := hide (show ∀ w', Kept w w' → Tab w' from fun w' k => hT.kept k)
  clear hT
  go_enter Tryd.func6, Tryd.ntmps6
  go_wp2_with fail
  refine (o1.out _).mono ?_
  rintro e w1 ⟨rfl, k1⟩
  have K1 := hide (show ∀ o, Kept w (w1.alloc (.cells o 26)) from fun o => k1.alloc _ _)
  have D1 := hide (HasC.made w1 ⟨1, 4, 8, 2, 1, 0, 16, 0⟩ 26)
  clear k1
  go_wp2_with fail
  refine (c1.out _ (TK.out _ (K1.out _))).mono ?_
  rintro e w2 ⟨rfl, k2⟩
  have K2 := hide ((K1.out _).trans k2)
  have D2 := hide (D1.out.kept k2)
  clear k2 K1 D1
  obtain ⟨y0, y1, y2, y3, y4, y5, y6, y7⟩ := D2.out
  simp only [Nat.zero_add] at y0 y1 y2 y3 y4 y5 y6 y7
  go_wp2_with fail
  clear y0 y1 y2 y3 y4 y5 y6 y7
  refine (c2.out _ (TK.out _ K2.out)).mono ?_
  rintro e w3 ⟨rfl, k3⟩
  have K3 := hide (K2.out.trans k3)
  have D3 := hide (D2.out.kept k3)
  clear k3 K2 D2
  obtain ⟨y0, y1, y2, y3, y4, y5, y6, y7⟩ := D3.out
  simp only [Nat.zero_add] at y0 y1 y2 y3 y4 y5 y6 y7
  go_wp2_with fail
  clear y0 y1 y2 y3 y4 y5 y6 y7
  refine (c3.out _ (TK.out _ K3.out)).mono ?_
  rintro e w4 ⟨rfl, k4⟩
  have K4 := hide (K3.out.trans k4)
  have D4 := hide (D3.out.kept k4)
  clear k4 K3 D3
  obtain ⟨y0, y1, y2, y3, y4, y5, y6, y7⟩ := D4.out
  simp only [Nat.zero_add] at y0 y1 y2 y3 y4 y5 y6 y7
  go_wp2_with fail
  clear y0 y1 y2 y3 y4 y5 y6 y7
  refine (c4.out _ (TK.out _ K4.out)).mono ?_
  rintro e w5 ⟨rfl, k5⟩
  have K5 := hide (K4.out.trans k5)
  have D5 := hide (D4.out.kept k5)
  clear k5 K4 D4
  go_wp2
  go_ret
  exact ⟨rfl, K5.out⟩
end Go.Proofs.YtoopeihnmlfneaaDoor
