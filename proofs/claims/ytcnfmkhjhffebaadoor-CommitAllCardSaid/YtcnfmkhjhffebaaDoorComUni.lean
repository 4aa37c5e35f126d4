/- Commit and the document's own, both by one answer: yes or no, the rows beside it. Condition: the library's table lies in its variable. -/
import Derived.Test.YtcnfmkhjhffebaaDoorComLaw
import Derived.Test.YtcnfmkhjhffebaaDoorRefComB
namespace Go.Proofs.YtcnfmkhjhffebaaDoor
open Go.RowKit

def comXV (on met : List Bool) (f t most : Int) : List Bool := if comB on met f t most = true then comX on met f.toNat t.toNat most else []
def comRV (on met : List Bool) (f t most : Int) : List Nat := if comB on met f t most = true then frL on f.toNat t.toNat else []
/-- what is told -/
def ComTold (w0 : World) (X : List Bool) (R : List Nat) (ok : Bool) (nX nR : Nat) (e : Ending) (w' : World) : Prop :=
  ∃ xa xc fa fc, e = .returned (.tuple #[.slice xa nX xc, .slice fa nR fc, .bool ok]) ∧ BoolsAt w' (.slice xa nX xc) X ∧ OwnI w' w0.heap.size (.slice fa nR fc) R ∧ Fresh w0 w'
theorem told_no {w w' : World} (k : Fresh w w') : ComTold w [] [] false 0 0 (.returned (.tuple #[.slice none 0 0, .slice none 0 0, .bool false])) w' :=
  ⟨none, 0, none, 0, rfl, (boolsIn_nil w').at, OwnI.nil _ _, k⟩
theorem commit_uni (v1 v2 : Value) (on met : List Bool) (f t most : Int) (X : List Bool) (R : List Nat) (ok : Bool) (nX nR : Nat) (hX : comXV on met f t most = X) (hR : comRV on met f t most = R) (hok : comB on met f t most = ok) (hnX : X.length = nX) (hnR : R.length = nR)
    (w : World) (h1 : BoolsIn w v1 on) (h2 : BoolsIn w v2 met) (hT : Tab w) (hl : on.length ≤ 65536) (f1 : -9223372036854775808 ≤ f) (f2 : f ≤ 9223372036854775807) (t1 : -9223372036854775808 ≤ t) (t2 : t ≤ 9223372036854775807) :
    Calls Tryd.prog 10 #[v1, v2, .int .i64 f, .int .i64 t, .int .i64 most] w fun e w' => ComTold w X R ok nX nR e w' := by
  unfold comXV at hX
  unfold comRV at hR
  cases ok with
  | false =>
    rw [if_neg (by rw [hok]; decide)] at hX hR
    subst hX hR hnX hnR
    refine (commit_no v1 v2 on met f t most w h1 h2 f1 f2 t1 t2 hok).mono ?_
    rintro e w' ⟨rfl, k⟩
    exact told_no k
  | true =>
    rw [if_pos hok] at hX hR
    have h := hok
    unfold comB at h
    simp only [decide_eq_true_eq] at h
    refine (commit_to v1 v2 on met f t most f.toNat t.toNat on.length nR X R w h1 h2 hT (by omega) (by omega) rfl hl hok hX hR hnR).mono ?_
    rintro e w' ⟨g, a, c, rfl, o1, o2, k⟩
    have e1 : on.length = nX := by rw [← hnX, ← hX, comX_length]
    rw [e1] at o1 ⊢
    exact ⟨_, _, a, c, rfl, o1.at, o2, k⟩
theorem rcommit_uni (v1 v2 : Value) (on met : List Bool) (f t most : Int) (X : List Bool) (R : List Nat) (ok : Bool) (nX nR : Nat) (hX : comXV on met f t most = X) (hR : comRV on met f t most = R) (hok : comB on met f t most = ok) (hnX : X.length = nX) (hnR : R.length = nR)
    (w : World) (h1 : BoolsIn w v1 on) (h2 : BoolsIn w v2 met) (hl : on.length ≤ 65536) (f1 : -9223372036854775808 ≤ f) (f2 : f ≤ 9223372036854775807) :
    Calls Tryd.prog 11 #[v1, v2, .int .i64 f, .int .i64 t, .int .i64 most] w fun e w' => ComTold w X R ok nX nR e w' := by
  unfold comXV at hX
  unfold comRV at hR
  by_cases g : on.length = met.length ∧ 0 ≤ f ∧ f ≤ t ∧ t ≤ (on.length : Int)
  · obtain ⟨F, rfl⟩ := Int.eq_ofNat_of_zero_le g.2.1
    obtain ⟨T, rfl⟩ := Int.eq_ofNat_of_zero_le (show 0 ≤ t by omega)
    simp only [Int.toNat_natCast] at hX hR
    refine (rcommit_right v1 v2 on met F T on.length (frL on F T).length most (comX on met F T most) (frL on F T) w h1 h2 rfl g.1.symm hl (by omega) (by omega) rfl rfl rfl).mono ?_
    intro e w' h
    rcases h with ⟨hc, rfl, k⟩ | ⟨hc, g1, a, c, rfl, o1, o2, k⟩
    · have hb : comB on met (F : Int) (T : Int) most = false := by
        unfold comB
        rw [decide_eq_false_iff_not]
        simp only [Int.toNat_natCast]
        omega
      rw [hb] at hok hX hR
      rw [if_neg (by decide)] at hX hR
      subst hok hX hR hnX hnR
      exact told_no k
    · have hb : comB on met (F : Int) (T : Int) most = true := by
        unfold comB
        rw [decide_eq_true_eq]
        simp only [Int.toNat_natCast]
        exact ⟨g.1, g.2.1, g.2.2.1, g.2.2.2, hc⟩
      rw [hb] at hok hX hR
      rw [if_pos rfl] at hX hR
      have e1 : on.length = nX := by rw [← hnX, ← hX, comX_length]
      subst hok hX hR hnR
      rw [e1] at o1 ⊢
      exact ⟨_, _, a, c, rfl, o1.at, o2, k⟩
  · have hb : comB on met f t most = false := by
      unfold comB
      rw [decide_eq_false_iff_not]
      intro h
      exact g ⟨h.1, h.2.1, h.2.2.1, h.2.2.2.1⟩
    rw [hb] at hok hX hR
    rw [if_neg (by decide)] at hX hR
    subst hok hX hR hnX hnR
    refine (rcommit_wrong v1 v2 on met f t most w h1 h2 f1 f2 g).mono ?_
    rintro e w' ⟨rfl, k⟩
    exact told_no k
end Go.Proofs.YtcnfmkhjhffebaaDoor
