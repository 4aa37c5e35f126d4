/- What hodmanplay.Words makes of bytes, as a contract: some words, no more than there are bytes, in new memory. -/
import Derived.Test.YtniagepoddhlnaaRowMem
import Derived.Test.YtniagepoddhlnaaOpen
namespace Go.Proofs.Ytniagepoddhlnaa
open Go.RowKit

/-- where bytes lie -/
def BytesAt (w : World) (a : Option Addr) (zs : List Int) : Prop :=
  (∀ z ∈ zs, 0 ≤ z ∧ z ≤ 255) ∧ ∀ i, i < zs.length → ∃ b o, a = some ⟨b, o, none⟩ ∧ b < w.heap.size ∧ w.cell? ⟨b, o + i, none⟩ = some (.int .u8 (zs.getD i 0))
theorem BytesAt.fresh {w w' : World} {a : Option Addr} {zs : List Int} (h : BytesAt w a zs) (k : Below w.heap.size w w') : BytesAt w' a zs :=
  ⟨h.1, fun i hi => by obtain ⟨b, o, e, hb, hc⟩ := h.2 i hi; exact ⟨b, o, e, Nat.lt_of_lt_of_le hb k.size, (k.cell hb).trans hc⟩⟩
theorem bytes_in {w : World} {a : Option Addr} {len cap : Nat} {zs : List Int} (h : IsRow .u8 w a len cap zs) : BytesAt w a (zs.take len) ∧ (zs.take len).length = len ∧ len ≤ 9223372036854775807 := by
  rcases h with ⟨rfl, rfl, rfl, rfl⟩ | ⟨x, rfl, hl, hm, hz, hc, hw⟩
  · exact ⟨⟨fun z hz => by simp at hz, fun i hi => by simp at hi⟩, rfl, by omega⟩
  · have hlen : (zs.take len).length = len := by rw [List.length_take]; omega
    refine ⟨⟨fun z hz' => bounds_u8 (hw z (List.mem_of_mem_take hz')), fun i hi => ?_⟩, hlen, by have e : maxLen = 9223372036854775807 := rfl; omega⟩
    rw [hlen] at hi
    obtain ⟨b, o, s⟩ := x
    have hs : s = none := by simpa [Addr.add] using World.cell?_spot (hc 0 (by omega))
    subst hs
    have ea : (⟨b, o, none⟩ : Addr).add i = ⟨b, o + i, none⟩ := Go.WideShapes.add_plain b o i
    have c' : w.cell? ⟨b, o + i, none⟩ = some (.int .u8 (zs.getD i 0)) := by rw [← ea]; exact hc i (by omega)
    have e : (zs.take len).getD i 0 = zs.getD i 0 := by simp [List.getD_eq_getElem?_getD, hi]
    rw [e]
    exact ⟨b, o, rfl, World.block_lt_of_cell? _ _ c', c'⟩

theorem news_one (w : World) (v : Value) (e : TypeId) : ∀ j u, [v][j]? = some u → (w.alloc (.cells #[v] e)).cell? ((⟨w.heap.size, 0, none⟩ : Addr).add j) = some u := by
  intro j u hj
  match j, hj with
  | 0, hj => simp at hj; subst hj; simp [Addr.add]
theorem one_one (k : IntKind) (x : Int) : ∀ u ∈ [Value.int k x], u.oneCell' = true := by
  intro u hu; simp at hu; subst hu; rfl
theorem wrap_nat (z : Int) : ∃ v : Nat, IntKind.u64.wrap z = (v : Int) ∧ v < 18446744073709551616 :=
  ⟨(IntKind.u64.wrap z).toNat, by rw [IntKind.wrap_u64]; omega, by rw [IntKind.wrap_u64]; omega⟩
theorem own_more {w2 : World} {B : Nat} {v : Value} {ws : List Nat} {x : Nat} (h : w2.ownsRow B 39 1 v (ws.length + 1) (wvals ws ++ [.int .u64 ((x : Nat) : Int)])) : OwnW w2 B v (ws ++ [x]) := by
  unfold OwnW
  have e : wvals (ws ++ [x]) = wvals ws ++ [.int .u64 ((x : Nat) : Int)] := by unfold wvals; simp
  rw [e, List.length_append]
  exact h
theorem w64_more {ws : List Nat} (h : W64 ws) {x : Nat} (hx : x < 18446744073709551616) : W64 (ws ++ [x]) := by
  intro u hu
  rcases List.mem_append.1 hu with h' | h'
  · exact h u h'
  · simp at h'; rw [h']; exact hx

set_option maxHeartbeats 2000000 in
theorem words_any (a : Option Addr) (len cap : Nat) (zs : List Int) (w : World) (h : BytesAt w a zs) (hlen : zs.length = len) (hb : len ≤ 1000000) :
    Calls Try.prog 9 #[.slice a len cap] w fun e w' => ∃ v ws, e = .returned v ∧ OwnW w' w.heap.size v ws ∧ W64 ws ∧ ws.length ≤ len ∧ Below w.heap.size w w' := by
  obtain ⟨i0, hi, hz0, hz1, hz2⟩ := info_parts infoU64
  have HB := hide h
  have HL := hide hlen
  have l0 : (0 : Int) ≤ (len : Int) := by omega
  have l1 : (len : Int) ≤ 1000000 := by omega
  clear h hlen
  go_enter Try.func9, Try.ntmps9
  go_wp2
  go_loopw [3, 4] (fun v i w2 => ∃ (j : Nat) (ws : List Nat), i = .int .i64 (j : Int) ∧ j ≤ len ∧ ws.length ≤ j ∧ W64 ws ∧ OwnW w2 w.heap.size v ws ∧ Below w.heap.size w w2) (fun _ i _ => (len - intOf i).toNat)
  case atStart => exact ⟨0, [], rfl, Nat.zero_le _, Nat.zero_le _, fun u hu => by simp at hu, World.ownsRow_nil _ _ _ _, Below.refl _ _⟩
  case round =>
    obtain ⟨j, ws, rfl, hj, hws, h64, hO, hB⟩ := hrel
    have W := hide hws
    have A64 := hide h64
    have BL := hide hB
    clear h64 hB
    by_cases hgo : j + 8 ≤ len
    · have g1 : (j : Int) + 8 ≤ (len : Int) := by omega
      obtain ⟨x, o, rfl, hx, _⟩ := HB.out.2 j (by have := HL.out; omega)
      have hcells : ∀ k, k < 8 → ∃ z : Int, 0 ≤ z ∧ z ≤ 255 ∧ wr.cell? ⟨x, o + (j + k), none⟩ = some (.int .u8 z) := by
        intro k hk
        obtain ⟨x', o', e, hx', hc'⟩ := HB.out.2 (j + k) (by have := HL.out; omega)
        cases e
        have hz := HB.out.1 (zs.getD (j + k) 0) (by rw [List.getD_eq_getElem?_getD, List.getElem?_eq_getElem (by have := HL.out; omega)]; exact List.getElem_mem _)
        exact ⟨_, hz.1, hz.2, (BL.out.cell hx').trans hc'⟩
      have C := hide hcells
      obtain ⟨z0, z1, z2, hc0⟩ := hcells 0 (by omega)
      rw [Nat.add_zero] at hc0
      clear hcells hgo
      go_wp2
      go_loop [5, 6] (fun u k => ∃ q y : Nat, q ≤ 8 ∧ k = .int .i64 (q : Int) ∧ u = .int .u64 (y : Int) ∧ y < 18446744073709551616) (fun _ k => (8 - intOf k).toNat)
      case atStart => exact ⟨0, 0, by omega, rfl, rfl, by decide⟩
      case round =>
        obtain ⟨q, y, hq, rfl, rfl, hy⟩ := hrel
        by_cases hq8 : q < 8
        · obtain ⟨z, zl, zu, hc⟩ := C.out q hq8
          have g2 : (j : Int) + (q : Int) < (len : Int) := by omega
          obtain ⟨y2, hy2, hy3⟩ := wrap_nat (IntKind.u64.wrap ((y : Int) * 256) + z)
          have Y2 := hide hy2
          clear hy2
          go_wp2
          go_round
          case rel => exact ⟨q + 1, y2, by omega, by go_num, by rw [Y2.out], hy3⟩
          case measure => simp [intOf]; omega
        · have hq2 : q = 8 := by omega
          subst hq2
          have hO' : wr.ownsRow w.heap.size 39 1 _ ws.length (wvals ws) := hO
          have m1 : ws.length + 1 ≤ maxLen := by unfold maxLen; omega
          have m2 : (ws.length + 1) * 8 ≤ 140737488355328 := by omega
          have m3 : ∀ o, w.heap.size ≤ (wr.alloc o).heap.size := fun o => by have := BL.out.size; simp; omega
          have O2 := hide hO'
          have Y := hide hy
          clear hO hy
          by_cases hm0 : z0 % 5 = 0
          · have t0 : (z0 % 5 == 0) = true := by rw [hm0]; rfl
            go_wp2_with (at_builtin; refine wpList_append_own _ rfl _ _ 24 rfl w.heap.size 39 i0 (.int .u64 0) 1 8 Try.underlying24 hi hz0 hz1 hz2 rfl (by decide) _ _ _ rfl (World.ownsRow.alloc hO' _) ⟨wr.heap.size, 0, none⟩ 1 1 [.int .u64 ((18446744073709551615 : Nat) : Int)] rfl rfl (news_one _ _ _) (one_one _ _) m1 m2 (m3 _) ?_; intro v1 w1 hown hgrow _)
            go_roundw
            case rel => exact ⟨j + 8, ws ++ [18446744073709551615], by go_num, by omega, by rw [List.length_append]; have := W.out; simp; omega, w64_more A64.out (by decide), own_more hown, (BL.out.alloc BL.out.size _).grown hgrow (m3 _) (fun k hk => (World.ownsRow.lt O2.out k hk).1)⟩
            case measure => simp [intOf]; omega
          · by_cases hm1 : z0 % 5 = 1
            · have t0 : (z0 % 5 == 0) = false := by rw [hm1]; rfl
              have t1 : (z0 % 5 == 1) = true := by rw [hm1]; rfl
              clear hm0
              go_wp2_with (at_builtin; refine wpList_append_own _ rfl _ _ 24 rfl w.heap.size 39 i0 (.int .u64 0) 1 8 Try.underlying24 hi hz0 hz1 hz2 rfl (by decide) _ _ _ rfl (World.ownsRow.alloc hO' _) ⟨wr.heap.size, 0, none⟩ 1 1 [.int .u64 ((0 : Nat) : Int)] rfl rfl (news_one _ _ _) (one_one _ _) m1 m2 (m3 _) ?_; intro v1 w1 hown hgrow _)
              go_roundw
              case rel => exact ⟨j + 8, ws ++ [0], by go_num, by omega, by rw [List.length_append]; have := W.out; simp; omega, w64_more A64.out (by decide), own_more hown, (BL.out.alloc BL.out.size _).grown hgrow (m3 _) (fun k hk => (World.ownsRow.lt O2.out k hk).1)⟩
              case measure => simp [intOf]; omega
            · have t0 : (z0 % 5 == 0) = false := by rw [beq_eq_false_iff_ne]; exact hm0
              have t1 : (z0 % 5 == 1) = false := by rw [beq_eq_false_iff_ne]; exact hm1
              clear hm0 hm1
              go_wp2_with (at_builtin; refine wpList_append_own _ rfl _ _ 24 rfl w.heap.size 39 i0 (.int .u64 0) 1 8 Try.underlying24 hi hz0 hz1 hz2 rfl (by decide) _ _ _ rfl (World.ownsRow.alloc hO' _) ⟨wr.heap.size, 0, none⟩ 1 1 [.int .u64 ((y : Nat) : Int)] rfl rfl (news_one _ _ _) (one_one _ _) m1 m2 (m3 _) ?_; intro v1 w1 hown hgrow _)
              go_roundw
              case rel => exact ⟨j + 8, ws ++ [y], by go_num, by omega, by rw [List.length_append]; have := W.out; simp; omega, w64_more A64.out Y.out, own_more hown, (BL.out.alloc BL.out.size _).grown hgrow (m3 _) (fun k hk => (World.ownsRow.lt O2.out k hk).1)⟩
              case measure => simp [intOf]; omega
    · have g1 : (len : Int) < (j : Int) + 8 := by omega
      have O2 := hide hO
      clear hgo hO
      go_wp2
      go_ret
      exact ⟨_, ws, rfl, O2.out, A64.out, by have := W.out; omega, BL.out⟩
end Go.Proofs.Ytniagepoddhlnaa
