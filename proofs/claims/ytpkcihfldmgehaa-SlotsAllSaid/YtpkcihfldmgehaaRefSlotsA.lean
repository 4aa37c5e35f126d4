/- What the document's own slots are (hodmanref8's Of, Lowest), as contracts. -/
import Derived.Test.YtpkcihfldmgehaaSlotsMem
import Derived.Test.YtpkcihfldmgehaaRefTreeC
import Derived.Test.YtpkcihfldmgehaaRefTreeA
import Derived.Test.YtpkcihfldmgehaaHeld
import Derived.Maps.AppendAt
namespace Go.Proofs.Ytpkcihfldmgehaa
open Go.RowKit

/-- an append as one operation of a drawn region: where the row lies then -/
theorem wp_append_at {P : Program} (w : World) {o : Oper} {a : Act} {K : Act → World → Prop} {Q : Exit → Act → World → Prop} (s x : Operand) (t : TypeId)
    (ho : o.op = .call { callee := .builtin .append, args := #[s, x], argTypes := #[t, t] })
    (base : Nat) (e : TypeId) (i : TypeInfo) (z : Value) (size bytes : Nat) (ht : P.underlying t = some (.slice e)) (hi : P.info? e = some i) (hz : i.zero = some z)
    (hsize : i.size = size) (hby : i.bytes = bytes) (hzs : z.cells.size = size) (hsz : 0 < size)
    (v : Value) (n : Nat) (xs : List Value) (hs : a.eval s = v) (hown : w.ownsRow base e size v n xs)
    (ad : Addr) (m c : Nat) (news : List Value) (hx : a.eval x = .slice (some ad) m c) (hl : news.length = m * size) (hnews : ∀ j u, news[j]? = some u → w.cell? (ad.add j) = some u) (h1 : ∀ u ∈ news, u.oneCell' = true)
    (h63 : n + m ≤ maxLen) (hbytes : (n + m) * bytes ≤ 140737488355328) (hbase : base ≤ w.heap.size)
    (h : ∀ v' w', w'.ownsRow base e size v' (n + m) (xs ++ news) → w.grownBy w' v.ownBlock → (v'.ownBlock = v.ownBlock ∨ v'.ownBlock = some w.heap.size) → K (a.put o.dst v') w') : o.wp P a w K Q := by
  obtain ⟨v', w', hr, h2, h3, h4, h5⟩ := run_append_own_at (P := P) w base t o.type e i z size bytes ht hi hz hsize hby hzs hsz v n xs hown ad m c news hl hnews h1 h63 hbytes hbase
  unfold Oper.wp execOp
  simp only [ho, resolve, invoke, builtin, Sem.run_bind, Sem.run_pure, Result.andThen_ok, List.map_toArray, List.map_cons, List.map_nil, hs, hx, hr]
  exact h _ _ h2 h3 h5


theorem rlow_any (v : Value) (N c : Nat) (p : Nat → Bool) (x : Int) (w : World) (h : SlotsAt w v N c p) :
    Calls Try.prog 10 #[v, .int .i64 x] w fun e w' => e = foundE (lowS N c p x) ∧ Fresh w w' := by
  obtain ⟨hc, a, cap, rfl, h1, h2, ht⟩ := h
  have c0 : (0 : Int) ≤ (c : Int) := by omega
  have c1 : (c : Int) ≤ 17 := by have := hc.2.1; omega
  by_cases g1 : x < 0
  · have e : lowS N c p x = none := by unfold lowS; rw [if_neg (by omega)]
    rw [e]
    clear e ht
    go_enter Try.func10, Try.ntmps10
    go_wp2
    go_ret2
    exact ⟨rfl, fresh_box _ _ _⟩
  · by_cases g2 : x < (c : Int)
    · obtain ⟨k, rfl⟩ : ∃ k : Nat, x = k := ⟨x.toNat, by omega⟩
      have e : lowS N c p (k : Int) = firstT (N / 2 ^ k) (trW N p k) 0 := by unfold lowS; rw [if_pos (by omega), Int.toNat_natCast]
      rw [e]
      obtain ⟨b, o, lv, rfl, d0, d1, t⟩ := ht k (by omega)
      have FT := hide (fun (w' : World) (f : Fresh w w') => rtfirst_any _ _ _ 0 w' (t.fresh f) (by decide) (by decide))
      have k0 : (0 : Int) ≤ (k : Int) := by omega
      have bl : b < w.heap.size := World.block_lt_of_cell? _ _ d0
      clear e ht t g1
      unfold foundE at FT ⊢
      generalize firstT (N / 2 ^ k) (trW N p k) 0 = r at *
      generalize ((N / 2 ^ k : Nat) : Int) = nn at *
      go_enter Try.func10, Try.ntmps10
      go_wp2_with fail
      refine (FT.out _ (fresh_box _ _ _)).mono ?_
      rintro e w2 ⟨rfl, f2⟩
      have F2 := hide ((fresh_box w _ _).trans f2)
      clear f2
      go_wp2
      go_ret2
      exact ⟨rfl, F2.out⟩
    · have e : lowS N c p x = none := by unfold lowS; rw [if_neg (by omega)]
      rw [e]
      have g3 : (c : Int) ≤ x := by omega
      clear e ht g1 g2
      go_enter Try.func10, Try.ntmps10
      go_wp2
      go_ret2
      exact ⟨rfl, fresh_box _ _ _⟩
end Go.Proofs.Ytpkcihfldmgehaa
