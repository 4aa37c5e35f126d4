/- What follows of pieces that lie apart, of no program: what is cut may be put again, and is as it was. -/
import Derived.Test.YtcakghafjmdkoaaSpanMath
namespace Go.Proofs.Ytcakghafjmdkoaa

theorem parts_at {ps : List Pc} {i : Nat} (h : i < ps.length) : ps = ps.take i ++ nth ps i :: ps.drop (i + 1) := by
  rw [← drop_nth h, List.take_append_drop]
theorem val_parts {A B : List Pc} {s : Pc} (h : Val (A ++ s :: B)) : (∀ p ∈ A, 1 ≤ p.2 ∧ p.1 + p.2 ≤ s.1) ∧ (∀ p ∈ B, 1 ≤ p.2 ∧ s.1 + s.2 ≤ p.1) ∧ aloneB s = true := by
  obtain ⟨hg, hp⟩ := h
  obtain ⟨_, h2, h3⟩ := List.pairwise_append.1 hp
  obtain ⟨h4, _⟩ := List.pairwise_cons.1 h2
  refine ⟨fun p hp => ⟨((alone_iff p).1 (hg p (by simp [hp]))).1, h3 p hp s (by simp)⟩, fun p hp => ⟨((alone_iff p).1 (hg p (by simp [hp]))).1, h4 p hp⟩, hg s (by simp)⟩
theorem ahead_parts : ∀ (A B : List Pc) (a : Int), (∀ p ∈ A, p.1 < a) → (∀ p ∈ B, a ≤ p.1) → aheadN (A ++ B) a = A.length
  | [], [], _, _, _ => rfl
  | [], p :: r, a, _, h => by
    show aheadN (p :: r) a = 0
    unfold aheadN
    rw [if_neg (by have := h p (by simp); omega)]
  | p :: r, B, a, h, h' => by
    show aheadN (p :: (r ++ B)) a = r.length + 1
    unfold aheadN
    rw [if_pos (h p (by simp)), ahead_parts r B a (fun q hq => h q (by simp [hq])) h']
theorem put_back {A B : List Pc} {s : Pc} (h : Val (A ++ s :: B)) : putB (A ++ B) s = true ∧ insV (A ++ B) s = A ++ s :: B := by
  obtain ⟨ha, hb, hs⟩ := val_parts h
  have hs' := (alone_iff s).1 hs
  refine ⟨(put_iff _ _).2 ⟨hs, ?_⟩, ?_⟩
  · rw [Bool.eq_false_iff]
    intro hc
    obtain ⟨p, hp, ho⟩ := List.any_eq_true.1 hc
    have ho' := (over_iff p s).1 ho
    rcases List.mem_append.1 hp with hp | hp
    · have := ha p hp; omega
    · have := hb p hp; omega
  · unfold insV
    rw [ahead_parts A B s.1 (fun p hp => by have := ha p hp; omega) (fun p hp => by have := hb p hp; omega)]
    simp
theorem cut_gone {A B : List Pc} {s : Pc} (h : Val (A ++ s :: B)) : cutK (A ++ B) s.1 = (A ++ B).length := by
  obtain ⟨ha, hb, hs⟩ := val_parts h
  have hs' := (alone_iff s).1 hs
  refine cut_none fun t ht e => ?_
  rcases List.mem_append.1 (nth_mem ht) with hp | hp
  · have := ha _ hp; omega
  · have := hb _ hp; omega
/-- all of it, of the i-th -/
structure CutBack (ps : List Pc) (i : Nat) : Prop where
  b : cutB ps (nth ps i).1 = true
  p : cutP ps (nth ps i).1 = nth ps i
  l : cutL ps (nth ps i).1 = ps.eraseIdx i
  len : (ps.eraseIdx i).length = ps.length - 1
  tot : tot (ps.eraseIdx i) = tot ps - (nth ps i).2
  b2 : cutB (ps.eraseIdx i) (nth ps i).1 = false
  p2 : cutP (ps.eraseIdx i) (nth ps i).1 = (0, 0)
  l2 : cutL (ps.eraseIdx i) (nth ps i).1 = ps.eraseIdx i
  pb : putB (ps.eraseIdx i) (nth ps i) = true
  pl : putL (ps.eraseIdx i) (nth ps i) = ps
theorem cut_back {ps : List Pc} (hv : Val ps) {i : Nat} (hi : i < ps.length) : CutBack ps i := by
  have hk := cut_val hv hi rfl
  have e := parts_at hi
  have hv' : Val (ps.take i ++ nth ps i :: ps.drop (i + 1)) := e ▸ hv
  have hg := cut_gone hv'
  have hp := put_back hv'
  rw [← erase_eq] at hg hp
  refine ⟨by unfold cutB; rw [hk]; simpa using hi, by unfold cutP; rw [hk], by unfold cutL; rw [hk], List.length_eraseIdx_of_lt hi, ?_, by unfold cutB; rw [hg]; simp, ?_, by unfold cutL; rw [hg]; exact erase_all, hp.1, ?_⟩
  · have h1 : tot ps = tot (ps.take i) + ((nth ps i).2 + tot (ps.drop (i + 1))) := by
      have : tot ps = tot (ps.take i ++ nth ps i :: ps.drop (i + 1)) := congrArg tot e
      rw [this, tot_append]
      congr 1
    rw [erase_eq, tot_append]
    omega
  · unfold cutP; rw [hg]
    show (ps.eraseIdx i).getD (ps.eraseIdx i).length (0, 0) = _
    simp
  · rw [putL_yes hp.1, hp.2, ← e]
end Go.Proofs.Ytcakghafjmdkoaa
