/- What the document's own SetRow is, as a contract: a piece of a row set or not, in new memory. -/
import Derived.Test.YtniagepoddhlnaaRefRow
import Derived.Deep.RegionHeld3
namespace Go.Proofs.Ytniagepoddhlnaa
open Go.RowKit

/-- the copy that the walk goes on with -/
theorem xor_bit_spelt (u k : Nat) (hu : u < 18446744073709551616) (hk : k < 64) : bits .xor .u64 (u : Int) (IntKind.u64.wrap (2 ^ k)) = ((u ^^^ 2 ^ k : Nat) : Int) := by
  have hp : (2 : Nat) ^ k < 18446744073709551616 := by
    have := Nat.pow_le_pow_right (show 0 < 2 by decide) (show k ≤ 63 by omega)
    omega
  have e : IntKind.u64.wrap (2 ^ k) = ((2 ^ k : Nat) : Int) := by
    rw [cast_pow2, IntKind.wrap_u64]; exact Int.emod_eq_of_lt (Int.natCast_nonneg _) (by omega)
  rw [e, u64_xor_nat u _ hu hp]

theorem setW_nil (f n : Int) (on : Bool) : setW [] f n on = [] := by unfold setW; split <;> rfl
theorem rset_empty (cap : Nat) (hcap : cap = 0) (f n : Int) (on : Bool) (w : World) (hf : -9223372036854775808 ≤ f) (hf' : f ≤ 9223372036854775807) :
    Calls Try.prog 16 #[.slice none 0 cap, .int .i64 f, .int .i64 n, .bool on] w fun e w' => ∃ v', e = .returned v' ∧ OwnW w' w.heap.size v' [] ∧ Below w.heap.size w w' := by
  subst hcap
  obtain ⟨i0, hi, hz0, hz1, hz2⟩ := info_parts infoU64
  have own0 : (w.alloc (.cells #[] 39)).ownsRow w.heap.size 39 1 (.slice (some ⟨w.heap.size, 0, none⟩) 0 0) 0 [] := World.ownsRow_lit w #[] 0 (Nat.le_refl _) (by decide) rfl
  have bel : Below w.heap.size w (w.alloc (.cells #[] 39)) := (Below.refl _ w).alloc (Nat.le_refl _) _
  have O := hide own0
  have B := hide bel
  clear bel
  by_cases h0 : f < 0
  · go_enter Try.func16, Try.ntmps16
    go_wp2_with (at_builtin; refine wpList_append_own_none rfl _ _ 24 rfl w.heap.size 39 i0 1 Try.underlying24 hi _ 0 [] rfl own0 rfl ?_)
    go_ret
    exact ⟨_, rfl, O.out, B.out⟩
  by_cases h1 : n < 0
  · go_enter Try.func16, Try.ntmps16
    go_wp2_with (at_builtin; refine wpList_append_own_none rfl _ _ 24 rfl w.heap.size 39 i0 1 Try.underlying24 hi _ 0 [] rfl own0 rfl ?_)
    go_ret
    exact ⟨_, rfl, O.out, B.out⟩
  have g0 : 0 ≤ f := by omega
  have g1 : 0 ≤ n := by omega
  clear h0 h1
  go_enter Try.func16, Try.ntmps16
  go_wp2_with (at_builtin; refine wpList_append_own_none rfl _ _ 24 rfl w.heap.size 39 i0 1 Try.underlying24 hi _ 0 [] rfl own0 rfl ?_)
  refine wp_loop_rounds 1 ?_
  rw [rounds_succ]
  go_wp2
  go_ret
  exact ⟨_, rfl, O.out, B.out⟩

theorem own_form {w : World} {base : Nat} {v : Value} {n : Nat} {xs : List Value} {e : TypeId} {size : Nat} (h : w.ownsRow base e size v n xs) (hv : v ≠ .slice none 0 0) : ∃ g cap, v = .slice (some ⟨g, 0, none⟩) n cap ∧ base ≤ g := by
  rcases h.2 with ⟨rfl, _⟩ | ⟨g, cap, cur, rfl, hb, _⟩
  · exact absurd rfl hv
  · exact ⟨g, cap, rfl, hb⟩

/-- the loop's end of a round in which a bit is turned -/
theorem OwnW.flip {w : World} {base g cap : Nat} {ws : List Nat} {N : Nat} (h : OwnW w base (.slice (some ⟨g, 0, none⟩) N cap) ws) (hN : N = ws.length) (k x : Nat) :
    OwnW (w.setCell ⟨g, k, none⟩ (.int .u64 ((x : Nat) : Int))) base (.slice (some ⟨g, 0, none⟩) N cap) (ws.set k x) := by
  subst hN
  have := (World.ownsRow.stored h k (.int .u64 ((x : Nat) : Int))).1
  rw [wvals_set] at this
  unfold OwnW
  rw [List.length_set]
  exact this

set_option maxHeartbeats 1000000 in
theorem rset_some (ad : Addr) (cap : Nat) (ws : List Nat) (f n : Int) (on : Bool) (w : World) (h : WordsAt w (.slice (some ad) ws.length cap) ws) (hf : -9223372036854775808 ≤ f) (hf' : f ≤ 9223372036854775807) (hn : -9223372036854775808 ≤ n) (hn' : n ≤ 9223372036854775807) :
    Calls Try.prog 16 #[.slice (some ad) ws.length cap, .int .i64 f, .int .i64 n, .bool on] w fun e w' => ∃ v', e = .returned v' ∧ OwnW w' w.heap.size v' (setW ws f n on) ∧ Below w.heap.size w w' := by
  obtain ⟨a', cap', e', hl, h64, hn0, hc⟩ := h
  obtain ⟨rfl, rfl⟩ : a' = some ad ∧ cap' = cap := by cases e'; exact ⟨rfl, rfl⟩
  obtain ⟨i0, hi, hz0, hz1, hz2⟩ := info_parts infoU64
  have own0 : (w.alloc (.cells #[] 39)).ownsRow w.heap.size 39 1 (.slice (some ⟨w.heap.size, 0, none⟩) 0 0) 0 [] := World.ownsRow_lit w #[] 0 (Nat.le_refl _) (by decide) rfl
  have BA := hide (show Below w.heap.size w (w.alloc (.cells #[] 39)) from (Below.refl _ w).alloc (Nat.le_refl _) _)
  have news : ∀ j u, (wvals ws)[j]? = some u → (w.alloc (.cells #[] 39)).cell? (ad.add j) = some u := by
    intro j u hu
    have hj : j < ws.length := by
      rcases Nat.lt_or_ge j ws.length with h | h
      · exact h
      · rw [List.getElem?_eq_none (by rw [wvals_length]; exact h)] at hu; cases hu
    obtain ⟨b, o, e, hcell⟩ := hc j hj
    obtain rfl : ad = ⟨b, o, none⟩ := Option.some.inj e
    rw [wvals_get ws j hj] at hu
    rw [← Option.some.inj hu, Go.WideShapes.add_plain b o j]
    exact (BA.out.cell (World.block_lt_of_cell? _ _ hcell)).trans hcell
  have m1 : 0 + ws.length ≤ maxLen := by unfold maxLen; omega
  have m2 : (0 + ws.length) * 8 ≤ 140737488355328 := by omega
  have hsz : w.heap.size ≤ (w.alloc (.cells #[] 39)).heap.size := by simp
  have hl0 : (0 : Int) ≤ (ws.length : Int) := by omega
  have hl1 : (ws.length : Int) ≤ 1099511627776 := by omega
  have fin : ∀ v1 w1, w1.ownsRow w.heap.size 39 1 v1 (0 + ws.length) ([] ++ wvals ws) → (w.alloc (.cells #[] 39)).grownBy w1 (Value.slice (some ⟨w.heap.size, 0, none⟩) 0 0).ownBlock → OwnW w1 w.heap.size v1 ws ∧ Below w.heap.size w w1 := by
    intro v1 w1 hown hgrow
    rw [Nat.zero_add, List.nil_append] at hown
    exact ⟨hown, BA.out.grown hgrow hsz (fun k hk => by simp [Value.ownBlock] at hk; omega)⟩
  have FIN := hide fin
  clear hn0 hc fin e'
  by_cases h0 : f < 0 ∨ n < 0
  · have e : setW ws f n on = ws := by unfold setW; rw [if_pos h0]
    rw [e]
    clear e
    by_cases h1 : f < 0
    · clear h0
      go_enter Try.func16, Try.ntmps16
      go_wp2_with (at_builtin; refine wpList_append_own _ rfl _ _ 24 rfl w.heap.size 39 i0 (.int .u64 0) 1 8 Try.underlying24 hi hz0 hz1 hz2 rfl (by decide) _ 0 [] rfl own0 ad ws.length _ (wvals ws) rfl (by rw [wvals_length, Nat.mul_one]) news (wvals_one ws) m1 m2 hsz ?_; intro v1 w1 hown hgrow hnil)
      go_ret
      exact ⟨_, rfl, FIN.out _ _ hown hgrow⟩
    · have h2 : n < 0 := by omega
      clear h0
      go_enter Try.func16, Try.ntmps16
      go_wp2_with (at_builtin; refine wpList_append_own _ rfl _ _ 24 rfl w.heap.size 39 i0 (.int .u64 0) 1 8 Try.underlying24 hi hz0 hz1 hz2 rfl (by decide) _ 0 [] rfl own0 ad ws.length _ (wvals ws) rfl (by rw [wvals_length, Nat.mul_one]) news (wvals_one ws) m1 m2 hsz ?_; intro v1 w1 hown hgrow hnil)
      go_ret
      exact ⟨_, rfl, FIN.out _ _ hown hgrow⟩
  · obtain ⟨F, rfl⟩ : ∃ F : Nat, f = F := ⟨f.toNat, by omega⟩
    obtain ⟨N, rfl⟩ : ∃ N : Nat, n = N := ⟨n.toNat, by omega⟩
    have e : setW ws F N on = setV ws F N on := by unfold setW; rw [if_neg h0, Int.toNat_natCast, Int.toNat_natCast]
    rw [e]
    have f0 : (0 : Int) ≤ (F : Int) := by omega
    have n0 : (0 : Int) ≤ (N : Int) := by omega
    clear e h0
    go_enter Try.func16, Try.ntmps16
    go_wp2_with (at_builtin; refine wpList_append_own _ rfl _ _ 24 rfl w.heap.size 39 i0 (.int .u64 0) 1 8 Try.underlying24 hi hz0 hz1 hz2 rfl (by decide) _ 0 [] rfl own0 ad ws.length _ (wvals ws) rfl (by rw [wvals_length, Nat.mul_one]) news (wvals_one ws) m1 m2 hsz ?_; intro v1 w1 hown hgrow hnil)
    obtain ⟨o1, b1⟩ := FIN.out _ _ hown hgrow
    obtain ⟨g, cap1, rfl, hg⟩ := own_form o1 (fun e => by cases (hnil.1 e).1)
    have O1 := hide o1
    have B1 := hide b1
    have A64 := hide h64
    clear hown hgrow hnil o1 b1 own0 news hz0 hz1 hz2 hi FIN h64 hsz m1 m2 BA
    go_loopw [10] (fun i w2 => ∃ j : Nat, F ≤ j ∧ i = .int .i64 (j : Int) ∧ (j = F ∨ j ≤ min (F + N) (64 * ws.length)) ∧ OwnW w2 w.heap.size (.slice (some ⟨g, 0, none⟩) ws.length cap1) (setV ws F (j - F) on) ∧ Below w.heap.size w w2) (fun i _ => (64 * ws.length - intOf i).toNat)
    case atStart => exact ⟨F, Nat.le_refl _, rfl, .inl rfl, by rw [Nat.sub_self, set_none A64.out]; exact O1.out, B1.out⟩
    case round =>
      obtain ⟨j, hfj, rfl, hj, hO, hB⟩ := hrel
      have J := hide hj
      have O2 := hide hO
      have B2 := hide hB
      have hjm : (j : Int) ≤ 9223372036854775807 := by omega
      have W2 := hide (hO.at (setV_64 A64.out _ _ _) (by rw [setV_length]; exact hl))
      clear hj hO hB
      by_cases h1 : j < 64 * ws.length ∧ j - F < N
      · obtain ⟨g1, g2⟩ := h1
        have k1 : (j : Int) < 64 * (ws.length : Int) := by omega
        have k2 : (j : Int) - (F : Int) < (N : Int) := by omega
        by_cases hb : bitV (setV ws F (j - F) on) j = on
        · have S := hide (set_skip A64.out F j on hfj hb)
          have BB := hide hb
          clear hb g2
          go_wp2_with fail
          refine (rhas_nat _ _ j _ W2.out hjm).mono ?_
          rintro e w' ⟨rfl, rfl⟩
          rw [BB.out]
          go_wp2
          go_roundw
          case rel => exact ⟨j + 1, by omega, by go_num, .inr (by omega), by rw [← S.out]; exact O2.out, B2.out⟩
          case measure => simp [intOf]; omega
        · have hb' : bitV (setV ws F (j - F) on) j = !on := by cases on <;> simpa using hb
          have S := hide (set_step A64.out F j on hfj g1 hb')
          have U := hide ((setV_64 A64.out F (j - F) on).getD (j / 64))
          have hc : wr.cell? ⟨g, j / 64, none⟩ = some (.int .u64 (((setV ws F (j - F) on).getD (j / 64) 0 : Nat) : Int)) := by
            have := World.ownsRow.cellAt (show wr.ownsRow w.heap.size 39 1 (.slice (some ⟨g, 0, none⟩) (setV ws F (j - F) on).length cap1) (setV ws F (j - F) on).length (wvals (setV ws F (j - F) on)) by have := O2.out; unfold OwnW at this; rw [setV_length] at this ⊢; exact this) (j / 64) (by rw [setV_length]; omega)
            rw [this, wvals_get _ _ (by rw [setV_length]; omega)]
          have hfz : wr.frozen? ⟨g, j / 64, none⟩ = false := World.ownsRow.frozenAt (show wr.ownsRow w.heap.size 39 1 (.slice (some ⟨g, 0, none⟩) (setV ws F (j - F) on).length cap1) (setV ws F (j - F) on).length (wvals (setV ws F (j - F) on)) by have := O2.out; unfold OwnW at this; rw [setV_length] at this ⊢; exact this) (j / 64)
          have BB := hide hb'
          have hx := xor_bit_spelt ((setV ws F (j - F) on).getD (j / 64) 0) (j % 64) U.out (by omega)
          have FL := hide (fun x => O2.out.flip (by rw [setV_length]) (j / 64) x)
          clear hb hb' g2
          generalize (setV ws F (j - F) on).getD (j / 64) 0 = u at *
          go_wp2_with fail
          refine (rhas_nat _ _ j _ W2.out hjm).mono ?_
          rintro e w' ⟨rfl, rfl⟩
          rw [BB.out]
          cases on <;> (go_wp2_with fail; go_region; go_wp2; go_roundw; (case rel => exact ⟨j + 1, by omega, by go_num, .inr (by omega), by rw [← S.out]; exact FL.out _, (B2.out.setCell hg _).drew⟩); (case measure => simp [intOf]; omega))
      · have E := hide (set_end A64.out F N j on J.out hfj h1)
        by_cases g1 : 64 * (ws.length : Int) ≤ (j : Int)
        · clear h1
          go_wp2
          go_ret
          exact ⟨_, rfl, by rw [← E.out]; exact O2.out, B2.out⟩
        · have g2 : (N : Int) ≤ (j : Int) - (F : Int) := by omega
          have g3 : (j : Int) < 64 * (ws.length : Int) := by omega
          clear h1 g1
          go_wp2
          go_ret
          exact ⟨_, rfl, by rw [← E.out]; exact O2.out, B2.out⟩
theorem rset_any (v : Value) (ws : List Nat) (f n : Int) (on : Bool) (w : World) (h : WordsAt w v ws) (hf : -9223372036854775808 ≤ f) (hf' : f ≤ 9223372036854775807) (hn : -9223372036854775808 ≤ n) (hn' : n ≤ 9223372036854775807) :
    Calls Try.prog 16 #[v, .int .i64 f, .int .i64 n, .bool on] w fun e w' => ∃ v', e = .returned v' ∧ OwnW w' w.heap.size v' (setW ws f n on) ∧ Below w.heap.size w w' := by
  have H := h
  obtain ⟨a, cap, rfl, hl, h64, hn0, hc⟩ := h
  cases a with
  | none =>
    have e : ws = [] := by
      cases ws with
      | nil => rfl
      | cons u l => obtain ⟨b, o, e, _⟩ := hc 0 (by simp); cases e
    subst e
    rw [setW_nil]
    exact rset_empty cap (hn0 rfl) f n on w hf hf'
  | some ad => exact rset_some ad cap ws f n on w H hf hf' hn hn'
end Go.Proofs.Ytniagepoddhlnaa
