/- Plain arithmetic, of no program: what follows of a request that is within its bounds: sizes are powers of two, ceilings whole numbers of pages and blocks; who asks for more has no less. -/
import Derived.Test.YtoopeihnmlfneaaDoorConfMath
namespace Go.Proofs.YtoopeihnmlfneaaDoor
open Go.RowKit

theorem least_dbl {v k : Nat} (h : Least v k) (h1 : 1 ≤ v) : 2 ^ k < 2 * v := by
  cases k with
  | zero => omega
  | succ j => have := h.2 j (by omega); rw [Nat.pow_succ]; omega
theorem and_pow (k : Nat) (hk : k ≤ 62) : bits .and .i64 ((2 ^ k : Nat) : Int) (((2 ^ k : Nat) : Int) - 1) = 0 := by
  have hp := pow_62 hk
  rw [andPred _ (by omega) (by omega), Int.toNat_natCast, (and_pred_zero _ (by omega)).2 ⟨k, rfl⟩]; rfl

/-- what follows of a request that fits -/
structure Whole (r : Rw) (G N M P : Int) (l : Nat) : Prop where
  g : wkG r = G
  n : wkN r = N
  m : wkM r = M
  p : wkP r = P
  el : wkL r = l
  g1 : 1 ≤ G
  gg : r.g ≤ G
  gt : G < 2 * r.g
  nl : r.la ≤ N
  gn : G ≤ N
  nt : N < 2 * max r.la G
  pl : r.pg ≤ P
  gp : G ≤ P
  pt : P < 2 * max r.pg G
  ml : r.li ≤ M
  mt : M - r.li < 2 * max N P
  l16 : l ≤ 16
  n16 : N ≤ 65536
  p16 : P ≤ 65536
  m16 : M ≤ 200000
  ga : bits .and .i64 G (G - 1) = 0
  na : bits .and .i64 N (N - 1) = 0
  pa : bits .and .i64 P (P - 1) = 0
  sh : G * 2 ^ l = N
  mp : ∀ k : Int, (M + k * (M / 2)) % P = 0
  mn : ∀ k : Int, (M + k * (M / 2)) % N = 0
  m2 : M = 2 * (M / 2)
  pow : ∃ a : Nat, a ≤ 16 ∧ G = ((2 ^ a : Nat) : Int)

theorem pow_dvd {a b : Nat} (h : a ≤ b) : ((2 ^ a : Nat) : Int) ∣ ((2 ^ b : Nat) : Int) := Int.natCast_dvd_natCast.2 (Nat.pow_dvd_pow 2 h)
theorem whole_of {r : Rw} (h : bdd r = true) : ∃ G N M P l, Whole r G N M P l := by
  obtain ⟨a, b, c, k⟩ := wk_of h
  obtain ⟨⟨g1, g2⟩, ⟨l1, l2⟩, ⟨m1, m2⟩, ⟨p1, p2⟩, ⟨b1, b2⟩, s1, s2⟩ := (bdd_iff r).1 h
  have h1 := pow16 (show a ≤ 16 by have := k.a16; have := k.b16; omega)
  have h2 := pow16 k.b16
  have h3 := pow16 k.c16
  have h4 := pow_le_pow k.a16
  have h5 := pow_le_pow k.ac
  have hm := max_pow b c
  have hp : 2 ^ (max b c + 1) ≤ 131072 := by have := pow_le_pow (show max b c + 1 ≤ 17 by have := k.b16; have := k.c16; omega); omega
  have hp1 : 1 ≤ 2 ^ (max b c + 1) := Nat.one_le_two_pow
  have hu := upTo_spec r.li ((2 ^ (max b c + 1) : Nat) : Int) (by omega)
  have gd := least_dbl k.gl (by omega)
  have nd := least_dbl k.nl (by omega)
  have pd := least_dbl k.pl (by omega)
  have gl := k.gl.1
  have nl := k.nl.1
  have pl := k.pl.1
  have kg := k.g
  have hM2 : ((2 ^ (max b c + 1) : Nat) : Int) ∣ wkM r := by rw [k.m]; exact Int.dvd_of_emod_eq_zero hu.2.2
  have hhalf : ((2 ^ max b c : Nat) : Int) ∣ wkM r / 2 := by
    obtain ⟨q, hq⟩ := hM2
    refine ⟨q, ?_⟩
    rw [hq, Nat.pow_succ, Int.natCast_mul, Int.mul_assoc, Int.mul_comm ((2 : Nat) : Int) q, ← Int.mul_assoc]
    exact Int.mul_ediv_cancel _ (by decide)
  have heven : wkM r = 2 * (wkM r / 2) := by
    obtain ⟨q, hq⟩ := hM2
    have e : wkM r = 2 * (((2 ^ max b c : Nat) : Int) * q) := by rw [hq, Nat.pow_succ, Int.natCast_mul, Int.mul_assoc, Int.mul_left_comm]; rfl
    omega
  have hall : ∀ j, j ≤ max b c → ∀ q : Int, (wkM r + q * (wkM r / 2)) % ((2 ^ j : Nat) : Int) = 0 := by
    intro j hj q
    have d1 := Int.dvd_trans (pow_dvd hj) hhalf
    have d2 : ((2 ^ j : Nat) : Int) ∣ wkM r := by rw [heven]; exact Int.dvd_mul_of_dvd_right d1
    exact Int.emod_eq_zero_of_dvd (Int.dvd_add d2 (Int.dvd_mul_of_dvd_right d1))
  refine ⟨wkG r, wkN r, wkM r, wkP r, b - a, rfl, rfl, rfl, rfl, k.l, ?_, ?_, ?_, ?_, ?_, ?_, ?_, ?_, ?_, ?_, ?_, ?_, ?_, ?_, ?_, ?_, ?_, ?_, ?_, ?_, ?_, heven, ?_⟩
  · rw [k.g]; omega
  · rw [k.g]; omega
  · rw [k.g]; omega
  · rw [k.n]; omega
  · rw [k.g, k.n]; omega
  · rw [k.n]; omega
  · rw [k.p]; omega
  · rw [k.g, k.p]; omega
  · rw [k.p]; omega
  · rw [k.m]; exact hu.1
  · rw [k.m, k.n, k.p, Int.mul_comm, hm]; omega
  · have := k.b16; omega
  · rw [k.n]; omega
  · rw [k.p]; omega
  · rw [k.m]; omega
  · rw [k.g]; exact and_pow a (by have := k.a16; have := k.b16; omega)
  · rw [k.n]; exact and_pow b (by have := k.b16; omega)
  · rw [k.p]; exact and_pow c (by have := k.c16; omega)
  · rw [k.g, k.n, ← pow_cast, ← Int.natCast_mul, ← Nat.pow_add, show a + (b - a) = b by have := k.a16; omega]
  · rw [k.p]; exact hall c (Nat.le_max_right _ _)
  · rw [k.n]; exact hall b (Nat.le_max_left _ _)
  · exact ⟨a, by have := k.a16; have := k.b16; omega, k.g⟩

theorem upTo_mono (v d to : Int) (h : 1 ≤ to) (hd : 0 ≤ d) : upTo v to ≤ upTo (v + d) to ∧ (upTo (v + d) to - upTo v to) % to = 0 := by
  have h1 := upTo_spec v to h
  have h2 := upTo_spec (v + d) to h
  have hm : (upTo (v + d) to - upTo v to) % to = 0 := Int.emod_eq_zero_of_dvd (Int.dvd_sub (Int.dvd_of_emod_eq_zero h2.2.2) (Int.dvd_of_emod_eq_zero h1.2.2))
  refine ⟨?_, hm⟩
  obtain ⟨q, hq⟩ := Int.dvd_of_emod_eq_zero hm
  rcases (show q < 0 ∨ 0 ≤ q by omega) with hn | hn
  · have : to * q ≤ to * (-1) := Int.mul_le_mul_of_nonneg_left (by omega) (by omega)
    omega
  · have := Int.mul_nonneg (show 0 ≤ to by omega) hn
    omega

/-- a request as hodmanplay makes it, and one that asks for more to be live -/
theorem more_of {g la li pg bu se d : Int} (hg : 1 ≤ g ∧ g ≤ 9) (hla : 1 ≤ la ∧ la ≤ 108) (hli : 1 ≤ li ∧ li ≤ 150) (hpg : 1 ≤ pg ∧ pg ≤ 30) (hbu : 0 ≤ bu ∧ bu ≤ 65536) (hse : 0 ≤ se ∧ se ≤ 255) (hd : 0 ≤ d ∧ d ≤ 255) :
    ∃ G N M P M2 : Int, ∃ l : Nat, Whole ⟨g, la, li, pg, bu, se⟩ G N M P l ∧ l ≤ 16 ∧
      (∀ bu se : Int, 0 ≤ bu ∧ bu ≤ 65536 → 0 ≤ se ∧ se ≤ 255 → ofC ⟨g, la, li, pg, bu, se⟩ = ⟨G, N, M, l, P, bu, M + l * (M / 2), se⟩ ∧ ofE ⟨g, la, li, pg, bu, se⟩ = 0) ∧
      (ofC ⟨g, la, li + d, pg, bu, se⟩ = ⟨G, N, M2, l, P, bu, M2 + l * (M2 / 2), se⟩ ∧ ofE ⟨g, la, li + d, pg, bu, se⟩ = 0) ∧
      M ≤ M2 ∧ M + l * (M / 2) ≤ M2 + l * (M2 / 2) ∧ (M2 - M) % (2 * max N P) = 0 ∧ 1 ≤ max N P ∧ max N P ≤ 65536 ∧ 0 ≤ M ∧ M2 ≤ 200000 := by
  have hb : bdd ⟨g, la, li, pg, bu, se⟩ = true := (bdd_iff _).2 (by dsimp only; omega)
  obtain ⟨G, N, M, P, l, W⟩ := whole_of hb
  have w1 := W.gt; have w2 := W.nt; have w3 := W.pt; have w4 := W.mt; have w5 := W.ml; have w6 := W.l16; have w7 := W.n16; have w8 := W.p16; have w9 := W.g1; have w10 := W.gn
  dsimp only at w1 w2 w3 w4 w5
  have eM : wkM ⟨g, la, li, pg, bu, se⟩ = upTo li (max N P * 2) := by
    obtain ⟨a, b, c, k⟩ := wk_of hb
    rw [k.m, ← max_pow, ← k.n, ← k.p, W.n, W.p]
  have h1 : 1 ≤ max N P * 2 := by omega
  have mono := upTo_mono li d (max N P * 2) h1 hd.1
  have sp := upTo_spec (li + d) (max N P * 2) h1
  have hM2 : wkM ⟨g, la, li + d, pg, bu, se⟩ = upTo (li + d) (max N P * 2) := by
    have e : wkM ⟨g, la, li + d, pg, bu, se⟩ = roundV (li + d) (max (wkN ⟨g, la, li, pg, bu, se⟩) (wkP ⟨g, la, li, pg, bu, se⟩) * 2) := rfl
    rw [e, W.n, W.p]
    exact (round_fits (by omega) h1 (by omega)).2
  rw [← eM, W.m] at mono
  have half : ∀ m : Int, 0 ≤ m → m ≤ 2000 → 0 ≤ (l : Int) * (m / 2) ∧ (l : Int) * (m / 2) ≤ 16000 := fun m h0 h2 => by
    have a := Int.mul_nonneg (show (0 : Int) ≤ l by omega) (show 0 ≤ m / 2 by omega)
    have b := Int.mul_le_mul (show (l : Int) ≤ 16 by omega) (show m / 2 ≤ 1000 by omega) (by omega) (by decide)
    omega
  have tell : ∀ (li m bu se : Int), wkM ⟨g, la, li, pg, bu, se⟩ = m → 1 ≤ li ∧ li ≤ 65536 → 0 ≤ m → m ≤ 2000 → 0 ≤ bu ∧ bu ≤ 65536 → 0 ≤ se ∧ se ≤ 255 → ofC ⟨g, la, li, pg, bu, se⟩ = ⟨G, N, m, l, P, bu, m + l * (m / 2), se⟩ ∧ ofE ⟨g, la, li, pg, bu, se⟩ = 0 := by
    intro li' m bu' se' hm hl h0 h2 hbu' hse'
    have ec : wk ⟨g, la, li', pg, bu', se'⟩ = ⟨G, N, m, l, P, bu', m + l * (m / 2), se'⟩ := by
      have e : wk ⟨g, la, li', pg, bu', se'⟩ = ⟨wkG ⟨g, la, li, pg, bu, se⟩, wkN ⟨g, la, li, pg, bu, se⟩, wkM ⟨g, la, li', pg, bu', se'⟩, wkL ⟨g, la, li, pg, bu, se⟩, wkP ⟨g, la, li, pg, bu, se⟩, bu', ceilV (wkM ⟨g, la, li', pg, bu', se'⟩) (wkL ⟨g, la, li, pg, bu, se⟩), se'⟩ := rfl
      rw [e, hm, W.g, W.n, W.el, W.p]; rfl
    have hb' : bdd ⟨g, la, li', pg, bu', se'⟩ = true := (bdd_iff _).2 (by dsimp only; omega)
    have hf : fits ⟨g, la, li', pg, bu', se'⟩ = true := by
      have hh := half m h0 h2
      unfold fits
      rw [hb', ec]
      simp only [Bool.true_and, decide_eq_true_eq]
      omega
    exact ⟨by unfold ofC; rw [hf]; exact ec, by unfold ofE; rw [hf]; rfl⟩
  refine ⟨G, N, M, P, upTo (li + d) (max N P * 2), l, W, w6, fun bu' se' h1' h2' => tell li M bu' se' ?_ (by omega) (by omega) (by omega) h1' h2', tell (li + d) _ bu se hM2 (by omega) (by omega) (by omega) hbu hse, mono.1, ?_, ?_, by omega, by omega, by omega, by omega⟩
  · exact W.m
  · have := Int.mul_le_mul_of_nonneg_left (show M / 2 ≤ upTo (li + d) (max N P * 2) / 2 by omega) (show (0 : Int) ≤ l by omega)
    omega
  · rw [show (2 : Int) * max N P = max N P * 2 by omega]; exact mono.2
end Go.Proofs.YtoopeihnmlfneaaDoor
