/- Proved here: hodmanlaw9.SlotsFree returns true at every bytes and every class, in any memory: the lowest place has nothing live in it, and each one below has something. No condition. -/
import Derived.Test.YtpkcihfldmgehaaSlotsLaw
import Derived.Test.YtpkcihfldmgehaaSlotsMore
import Derived.Test.YtpkcihfldmgehaaRowAt
import Derived.Test.YtpkcihfldmgehaaOpen
namespace Go.Proofs.Ytpkcihfldmgehaa
open Go.ChangeShapes Go.WideShapes Go.ChangeAt Go.RowKit

/-- slots that lie in neither of two blocks -/
def SlotsBut (S L : Nat) (w : World) (v : Value) (N c : Nat) (p : Nat → Bool) : Prop := ∀ w' : World, (∀ k, k ≠ S → k ≠ L → k < w.heap.size → w'.heap[k]? = w.heap[k]?) → SlotsAt w' v N c p
theorem SlotsBut.at {S L : Nat} {w : World} {v : Value} {N c : Nat} {p : Nat → Bool} (h : SlotsBut S L w v N c p) : SlotsAt w v N c p := h w fun _ _ _ _ => rfl
theorem SlotsBut.fresh {S L : Nat} {w w1 : World} {v : Value} {N c : Nat} {p : Nat → Bool} (h : SlotsBut S L w v N c p) (k : Fresh w w1) : SlotsBut S L w1 v N c p :=
  fun w' hw => h w' fun i h1 h2 hl => (hw i h1 h2 (Nat.lt_of_lt_of_le hl k.size)).trans (k.block i hl)
theorem SlotsBut.set {S L : Nat} {w : World} {v : Value} {N c : Nat} {p : Nat → Bool} (h : SlotsBut S L w v N c p) (b j : Nat) (hb : b = S ∨ b = L) (u : Value) : SlotsBut S L (w.setCell ⟨b, j, none⟩ u) v N c p := by
  intro w' hw
  refine h w' fun i h1 h2 hl => ?_
  rw [hw i h1 h2 (by simpa [World.setCell] using hl), heap_setCell_other w ⟨b, j, none⟩ i u (fun e => by simp at e; omega)]
theorem SlotsBut.congr {S L : Nat} {w : World} {v : Value} {N c : Nat} {p q : Nat → Bool} (h : SlotsBut S L w v N c p) (e : ∀ i, i < N → p i = q i) : SlotsBut S L w v N c q := fun w' hw => (h w' hw).congr e
/-- the slots in their variable S, which granules are live in their array L -/
structure Fr (W0 : World) (S L : Nat) (ua : Option Addr) (uc : Nat) (p r : Nat → Bool) (w : World) : Prop where
  var : w.heap[S]? = some (.cells #[.slice ua 5 uc] 26 (0, 0))
  sl : SlotsBut S L w (.agg #[.slice ua 5 uc]) 64 5 p
  arr : ∃ (cur : Array Value) (bt : TypeId), w.heap[L]? = some (.cells cur bt (0, 0)) ∧ cur.size = 64 ∧ ∀ k, k < 64 → cur[k]? = some (.bool (r k))
  el : Fresh W0 w
  le : W0.heap.size ≤ S ∧ W0.heap.size ≤ L ∧ S ≠ L
theorem Fr.fresh {W0 : World} {S L : Nat} {ua : Option Addr} {uc : Nat} {p r : Nat → Bool} {w w' : World} (h : Fr W0 S L ua uc p r w) (k : Fresh w w') : Fr W0 S L ua uc p r w' := by
  obtain ⟨cur, bt, h1, h2, h3⟩ := h.arr
  exact ⟨by rw [k.block S (Array.getElem?_eq_some_iff.1 h.var).1]; exact h.var, h.sl.fresh k, ⟨cur, bt, by rw [k.block L (Array.getElem?_eq_some_iff.1 h1).1]; exact h1, h2, h3⟩, h.el.trans k, h.le⟩
theorem Fr.store {W0 : World} {S L : Nat} {ua ub : Option Addr} {uc ud : Nat} {p q r : Nat → Bool} {w w1 : World} (h : Fr W0 S L ua uc p r w) (t : SlotsNew w.heap.size w1 (.agg #[.slice ub 5 ud]) 64 5 q) (k : Fresh w w1) :
    Fr W0 S L ub ud q r (w1.setCell ⟨S, 0, none⟩ (.slice ub 5 ud)) := by
  have h1 := h.fresh k
  obtain ⟨cur, bt, a1, a2, a3⟩ := h1.arr
  obtain ⟨_, _, a0, _, _⟩ := h.arr
  have hS := (Array.getElem?_eq_some_iff.1 h.var).1
  have hL := (Array.getElem?_eq_some_iff.1 a0).1
  exact ⟨heap_set_same h1.var _, SlotsBut.set (fun w' hw => t w' fun i hi hl => hw i (by omega) (by omega) hl) S 0 (.inl rfl) _, ⟨cur, bt, heap_set_other a1 (fun e => h.le.2.2 e.symm) _, a2, a3⟩, fresh_set h1.el h.le.1 0 _, h.le⟩
theorem Fr.put {W0 : World} {S L : Nat} {ua : Option Addr} {uc : Nat} {p r : Nat → Bool} {w : World} (h : Fr W0 S L ua uc p r w) (k : Nat) (hk : k < 64) (b : Bool) (hp : ∀ i, i < 64 → p i = if i = k then b else r i) : Fr W0 S L ua uc p p (w.setCell ⟨L, k, none⟩ (.bool b)) := by
  obtain ⟨cur, bt, a1, a2, a3⟩ := h.arr
  refine ⟨heap_set_other h.var h.le.2.2 _, h.sl.set L k (.inr rfl) _, ⟨_, bt, heap_set_same a1 _, by simpa using a2, fun i hi => ?_⟩, fresh_set h.el h.le.2.1 k _, h.le⟩
  rw [hp i hi]
  by_cases e : i = k
  · subst e
    rw [if_pos rfl, Array.getElem?_setIfInBounds, if_pos rfl, if_pos (by omega)]
  · rw [if_neg e, Array.getElem?_setIfInBounds, if_neg (fun e' => e e'.symm)]
    exact a3 i hi
theorem Fr.cell {W0 : World} {S L : Nat} {ua : Option Addr} {uc : Nat} {p r : Nat → Bool} {w : World} (h : Fr W0 S L ua uc p r w) : w.cell? ⟨S, 0, none⟩ = some (.slice ua 5 uc) ∧ w.frozen? ⟨S, 0, none⟩ = false := ⟨cell_block h.var 0 _ rfl, free_block h.var 0⟩
theorem Fr.bit {W0 : World} {S L : Nat} {ua : Option Addr} {uc : Nat} {p r : Nat → Bool} {w : World} (h : Fr W0 S L ua uc p r w) (k : Nat) (hk : k < 64) : w.cell? ⟨L, k, none⟩ = some (.bool (r k)) ∧ w.frozen? ⟨L, k, none⟩ = false := by
  obtain ⟨cur, bt, a1, a2, a3⟩ := h.arr
  exact ⟨cell_block a1 k _ (a3 k hk), free_block a1 k⟩
theorem wrapW (x : Int) (h1 : 0 ≤ x) (h2 : x ≤ 65536) : wrap64 x = x := by unfold wrap64; omega
theorem zeros64 (k : Nat) (hk : k < 64) : (Array.replicate 64 (Value.bool false))[k]? = some (.bool false) := by simp [hk]
theorem suse_new (v : Value) (N c : Nat) (p : Nat → Bool) (f m : Int) (on : Bool) (w : World) (h : SlotsAt w v N c p) (hm : m ≤ 9223372036854775807) : Calls Try.prog 12 #[v, .int .i64 f, .int .i64 m, .bool on] w fun e w' => ∃ a cap, e = .returned (.agg #[.slice a c cap]) ∧ SlotsNew w.heap.size w' (.agg #[.slice a c cap]) N c (useB p f m on) ∧ Fresh w w' := by
  refine (suse_any v N c p f m on w h hm).mono ?_
  rintro e w' ⟨u, rfl, s, f⟩
  obtain ⟨_, a, cap, rfl, _⟩ := s.at
  exact ⟨a, cap, rfl, s, f⟩
theorem snew_new (x y : Int) (N c : Nat) (hx : x = N) (hy : y = c) (hc : Cls N c) (w : World) : Calls Try.prog 15 #[.int .i64 x, .int .i64 y] w fun e w' => ∃ a cap, e = .returned (.agg #[.slice a c cap]) ∧ SlotsNew w.heap.size w' (.agg #[.slice a c cap]) N c (fun _ => false) ∧ Fresh w w' := by
  subst hx hy
  refine (snew_ok N c hc w).mono ?_
  rintro e w' ⟨u, rfl, s, f⟩
  obtain ⟨_, a, cap, rfl, _⟩ := s.at
  exact ⟨a, cap, rfl, s, f⟩
theorem use_one (p : Nat → Bool) (A : Nat) (on : Bool) (i : Nat) : useB p (A : Int) 1 on i = if i = A then on else p i := by
  unfold useB
  by_cases e : i = A
  · rw [if_pos e, if_pos (by omega)]
  · rw [if_neg e, if_neg (by omega)]

set_option maxRecDepth 100000 in
set_option maxHeartbeats 4000000 in
theorem slotsFree_walk0 (a : Option Addr) (len cap : Nat) (zs : List Int) (cl : Int) (cl0 : 0 ≤ cl) (cl1 : cl ≤ 255) (w : World) (hrow : IsRow .u8 w a len cap zs) :
    Calls Try.prog 4 #[.slice a len cap, .int .u8 cl] w fun e w' => e = .returned (.bool true) ∧ Fresh w w' := by
  by_cases h40 : len ≤ 40
  · have l0 : (len : Int) ≤ 40 := by omega
    have CC := hide (show Cls 64 5 by unfold Cls; decide)
    have RW := hide hrow.at
    clear hrow h40
    go_enter Try.func4, Try.ntmps4
    go_wp2_with fail
    refine (begun9_true _).mono ?_
    rintro e w1 ⟨rfl, k1⟩
    have K1 := hide k1
    clear k1
    go_wp2_with fail
    refine (snew_new 64 5 64 5 rfl rfl CC.out _).mono ?_
    rintro e w2 ⟨ua, uc, rfl, s2, f2⟩
    obtain ⟨Z, hZ, hZs, hZk⟩ : ∃ Z : Array Value, (∀ w : World, (zeroValue 36).run Try.prog w = .ok (.agg Z) w) ∧ Z.size = 64 ∧ ∀ k, k < 64 → Z[k]? = some (.bool false) := ⟨Array.replicate 64 (.bool false), fun _ => by kernel_rfl, by simp, zeros64⟩
    obtain ⟨S, hS⟩ : ∃ S, S = w2.heap.size := ⟨_, rfl⟩
    obtain ⟨L, hL⟩ : ∃ L, L = w2.heap.size + 1 := ⟨_, rfl⟩
    obtain ⟨W, hW⟩ : ∃ W, W = (w2.alloc (.cells #[.slice ua 5 uc] 26)).alloc (.cells Z 36) := ⟨_, rfl⟩
    have FW2 : Fresh w2 W := by rw [hW]; exact fresh_more (fresh_box w2 _ _) _ _
    have sw : W.heap.size = w2.heap.size + 2 := by rw [hW]; simp
    have R0 := hide (show Fr w2 S L ua uc (fun _ => false) (fun _ => false) W from by
      refine ⟨?_, ?_, ⟨Z, 36, ?_, hZs, hZk⟩, FW2, ⟨by omega, by omega, by omega⟩⟩
      · rw [hS, hW, (fresh_box (w2.alloc (.cells #[.slice ua 5 uc] 26)) Z 36).block w2.heap.size (by simp)]
        exact heap_alloc_new w2 _
      · exact fun w' hw => s2 w' fun k _ hl => by rw [hw k (by omega) (by omega) (by omega), FW2.block k hl]
      · rw [hL, hW]
        have := heap_alloc_new (w2.alloc (.cells #[.slice ua 5 uc] 26)) (.cells Z 36 (0, 0))
        rw [show (w2.alloc (.cells #[.slice ua 5 uc] 26)).heap.size = w2.heap.size + 1 by simp] at this
        exact this)
    have F2 := hide (K1.out.trans f2)
    have RW2 := hide (RW.out.fresh F2.out)
    have HS := hide hS
    have HL := hide hL
    have HW := hide hW
    clear hS hL hW FW2 sw s2 f2 K1 RW hZs hZk
    go_wp2
    rw [← HW.out, ← HL.out, ← HS.out]
    clear hZ
    go_loopw [7] (fun x wr => ∃ (j : Nat) (ub : Option Addr) (ud : Nat) (p : Nat → Bool), j ≤ len ∧ x = .int .i64 (j : Int) ∧ Fr w2 S L ub ud p p wr) (fun x _ => (len - intOf x).toNat)
    case atStart => exact ⟨0, _, _, _, Nat.zero_le _, rfl, R0.out⟩
    case round =>
      obtain ⟨j, ub, ud, p, hj, rfl, hR⟩ := hrel
      have RR := hide hR
      have j0 : (0 : Int) ≤ (j : Int) := by omega
      clear R0
      by_cases g : j < len
      · have g' : (j : Int) < (len : Int) := by omega
        obtain ⟨b, o, z, rfl, hz, z0, z1⟩ := (RW2.out.fresh hR.el) j g
        obtain ⟨A, hA⟩ : ∃ A : Nat, z % 64 = (A : Int) := ⟨(z % 64).toNat, by omega⟩
        obtain ⟨on, hon⟩ : ∃ on : Bool, decide (z < 192) = on := ⟨_, rfl⟩
        have A64 : A < 64 := by omega
        have A1 : (A : Int) < 64 := by omega
        have A0 : (0 : Int) ≤ (A : Int) := by omega
        clear hR
        go_wp2_with fail
        go_quiet (fail)
        obtain ⟨c0, c1⟩ := RR.out.cell
        have RD := hide (fun m => RR.out.fresh (Fresh.drewN wr m))
        clear hz
        go_wp2_with fail
        refine (suse_new _ 64 5 p (A : Int) 1 on _ (RD.out _).sl.at (by decide)).mono ?_
        rintro e w4 ⟨uv, ue, rfl, s4, f4⟩
        have R4 := hide ((RD.out _).store s4 f4)
        have c2 := ((RD.out _).fresh f4).cell
        obtain ⟨c2, c3⟩ := c2
        clear s4 f4 c0 c1 RD RR
        have R5 := hide (R4.out.put A A64 on (fun i _ => use_one p A on i))
        obtain ⟨c4, c5⟩ := R4.out.bit A A64
        clear R4
        generalize p A = old at c4
        go_wp2
        go_roundw
        case rel => exact ⟨j + 1, _, _, _, by omega, by go_num, R5.out⟩
        case measure => simp [intOf]; omega
      · have g' : (len : Int) ≤ (j : Int) := by omega
        obtain ⟨K, hK⟩ : ∃ K : Nat, cl % 5 = (K : Int) := ⟨(cl % 5).toNat, by omega⟩
        have K5 : K < 5 := by omega
        have K0 : (0 : Int) ≤ (K : Int) := by omega
        have K4 : (K : Int) < 5 := by omega
        obtain ⟨M, hM⟩ : ∃ M, M = 2 ^ K := ⟨_, rfl⟩
        obtain ⟨Q, hQ⟩ : ∃ Q, Q = 64 / 2 ^ K := ⟨_, rfl⟩
        have MQ : M * Q = 64 := by
          rw [hM, hQ]
          rcases (show K = 0 ∨ K = 1 ∨ K = 2 ∨ K = 3 ∨ K = 4 by omega) with rfl | rfl | rfl | rfl | rfl <;> rfl
        have hw : (2 : Int) ^ K = (M : Int) := by rw [hM]; simp
        have M0 : 1 ≤ M := by rw [hM]; exact Nat.pow_pos (by decide)
        have Q0 : 1 ≤ Q := by
          rcases Nat.eq_zero_or_pos Q with h | h
          · rw [h, Nat.mul_zero] at MQ; cases MQ
          · exact h
        have M64 : M ≤ 64 := by rw [← MQ]; exact Nat.le_mul_of_pos_right M Q0
        have Q64 : Q ≤ 64 := by rw [← MQ]; exact Nat.le_mul_of_pos_left Q M0
        have hq1 : (64 : Int) / (M : Int) = (Q : Int) := by
          rw [show (64 : Int) = ((M * Q : Nat) : Int) by rw [MQ]; rfl, ← Int.natCast_ediv, Nat.mul_div_cancel_left Q (by omega)]
        have hq2 : Int.tdiv 64 (M : Int) = (Q : Int) := by rw [Int.tdiv_eq_ediv_of_nonneg (by decide)]; exact hq1
        have m1 : (1 : Int) ≤ (M : Int) := by omega
        have m2 : (M : Int) ≤ 64 := by omega
        have m3 : ((M : Int) == 0) = false := by rw [beq_eq_false_iff_ne]; omega
        have q1 : (1 : Int) ≤ (Q : Int) := by omega
        have q2 : (Q : Int) ≤ 64 := by omega
        have HWK := hide (show wrap64 (2 ^ K) = (M : Int) by rw [hw]; unfold wrap64; omega)
        have HM := hide hM
        have HMQ := hide MQ
        have HQ1 := hide hq1
        have HQ2 := hide hq2
        have s0 := hR.cell.1
        have LC := low_cases (N := 64) p K5
        rw [← hQ] at LC
        have LL := hide (low_any _ 64 5 p (K : Int) wr hR.sl.at)
        clear hR hw hM hQ MQ hq1 hq2
        rcases LC with ⟨i, e1, i1, i2, i3⟩ | ⟨e1, i3⟩
        · rw [e1] at LL
          have LS := hide (show Calls Try.prog 9 #[.agg #[.slice ub 5 ud], .int .i64 (K : Int)] wr fun e w' => e = .returned (.tuple #[.int .i64 (i : Int), .bool true]) ∧ Fresh wr w' from LL.out)
          clear LL e1
          go_wp2_with fail
          refine LS.out.mono ?_
          rintro e w5 ⟨rfl, f5⟩
          have ia : (i : Int) < (Q : Int) := by omega
          have ib : ((i : Int) == (Q : Int)) = false := by rw [beq_eq_false_iff_ne]; omega
          have ic : (0 : Int) ≤ (i : Int) := by omega
          have R5 := hide (RR.out.fresh f5)
          clear s0 f5 RR
          have s0 := R5.out.cell.1
          have hq1 := HQ1.out
          have hq2 := HQ2.out
          rw [HWK.out]
          have IB := hide i3
          have IE := hide (fun (_ : i < Q) => i2)
          obtain ⟨I, hI⟩ : ∃ I, I = i := ⟨_, rfl⟩
          have IQ : I ≤ Q := by omega
          have IQ' : (I : Int) ≤ (Q : Int) := by omega
          rw [← hI] at IB IE
          clear i2 i3 hK K5 M0 Q0 M64 Q64 hj cl0 cl1 K0 K4 g g' j0
          go_wp2_with fail
          rw [← hI]
          clear ia ib ic hI i1
          refine (smay_true _ 64 5 p _ R5.out.sl.at).mono ?_
          rintro e w6 ⟨rfl, f6⟩
          have R6 := hide (R5.out.fresh f6)
          clear s0 f6 R5
          go_wp2
          go_loopw [14] (fun x wr => ∃ P : Nat, P ≤ I + 1 ∧ P ≤ Q ∧ x = .int .i64 (P : Int) ∧ wr = w6) (fun x _ => (Q - intOf x).toNat)
          case atStart => exact ⟨0, Nat.zero_le _, Nat.zero_le _, rfl, rfl⟩
          case round =>
            obtain ⟨P, P1, P2, rfl, rfl⟩ := hrel
            have P0 : (0 : Int) ≤ (P : Int) := by omega
            by_cases hin : P ≤ I ∧ P < Q
            · obtain ⟨h1, h2⟩ := hin
              have h1' : (P : Int) ≤ (I : Int) := by omega
              have h2' : (P : Int) < (Q : Int) := by omega
              obtain ⟨B, hB⟩ : ∃ B, B = P * M := ⟨_, rfl⟩
              obtain ⟨E, hE⟩ : ∃ E, E = (P + 1) * M := ⟨_, rfl⟩
              have BE : E = B + M := by rw [hB, hE, Nat.succ_mul]
              have E64 : E ≤ 64 := by rw [hE, ← HMQ.out, Nat.mul_comm M Q]; exact Nat.mul_le_mul_right M (by omega)
              have AC := hide (show anyV p B M = clsB p K P by rw [hB, HM.out]; exact any_cls p K P)
              have AE := hide (show ∀ G, B ≤ G → anyV p B (G + 1 - B) = (anyV p B (G - B) || p G) from fun G hG => by
                rw [show G + 1 - B = (G - B) + 1 by omega, any_succ, Nat.add_sub_cancel' hG])
              have BEH := hide BE
              have E64H := hide E64
              have b1 : wrap64 ((P : Int) * (M : Int)) = (B : Int) := by rw [show (P : Int) * (M : Int) = ((B : Nat) : Int) by rw [hB]; simp]; exact wrapW _ (by omega) (by omega)
              have b2 : wrap64 (((P : Int) + 1) * (M : Int)) = (E : Int) := by
                have e : ((P : Int) + 1) * (M : Int) = ((E : Nat) : Int) := by rw [hE]; simp
                rw [e]; exact wrapW _ (by omega) (by omega)
              clear hB hE BE E64
              go_wp2
              try rw [b1]
              go_loopw [15, 16] (fun sv x wq => ∃ G : Nat, B ≤ G ∧ G ≤ E ∧ sv = .bool (anyV p B (G - B)) ∧ x = .int .i64 (G : Int) ∧ wq = wr) (fun _ x _ => (E - intOf x).toNat)
              case atStart => exact ⟨B, Nat.le_refl _, by have := BEH.out; omega, by rw [Nat.sub_self]; rfl, rfl, rfl⟩
              case round =>
                obtain ⟨G, G1, G2, rfl, rfl, rfl⟩ := hrel
                have G0 : (0 : Int) ≤ (G : Int) := by omega
                by_cases hg : G < E
                · have hg' : (G : Int) < (E : Int) := by omega
                  have G64 : G < 64 := by have := E64H.out; omega
                  have G64' : (G : Int) < 64 := by omega
                  have cg := (R6.out.bit G G64).1
                  have AG := hide (AE.out G G1)
                  cases hs : anyV p B (G - B) with
                  | true =>
                    rw [hs, Bool.true_or] at AG
                    clear hs
                    go_wp2
                    go_roundw
                    case rel => exact ⟨G + 1, by omega, by omega, by rw [AG.out], by go_num, trivial⟩
                    case measure => simp [intOf]; omega
                  | false =>
                    rw [hs, Bool.false_or] at AG
                    clear hs
                    generalize p G = pg at cg AG
                    go_wp2
                    go_roundw
                    case rel => exact ⟨G + 1, by omega, by omega, by rw [AG.out], by go_num, trivial⟩
                    case measure => simp [intOf]; omega
                · have hg' : (E : Int) ≤ (G : Int) := by omega
                  have eg : G - B = M := by have := BEH.out; omega
                  rw [eg, AC.out]
                  by_cases hlt : P < I
                  · have hl' : (P : Int) < (I : Int) := by omega
                    rw [IB.out P hlt]
                    clear eg
                    go_wp2
                    go_roundw
                    case rel => exact ⟨P + 1, by omega, by omega, by go_num, trivial⟩
                    case measure => simp [intOf]; omega
                  · have hl' : (I : Int) ≤ (P : Int) := by omega
                    have ec : clsB p K P = false := by rw [show P = I by omega]; exact IE.out (by omega)
                    rw [ec]
                    clear eg ec
                    go_wp2
                    go_roundw
                    case rel => exact ⟨P + 1, by omega, by omega, by go_num, trivial⟩
                    case measure => simp [intOf]; omega
            · have FF := hide (F2.out.trans R6.out.el)
              rcases (show I < P ∨ (P ≤ I ∧ Q ≤ P) by omega) with h1 | ⟨h1, h2⟩
              · have h1' : (I : Int) < (P : Int) := by omega
                clear hin
                go_wp2
                go_ret
                exact ⟨rfl, FF.out⟩
              · have h1' : (P : Int) ≤ (I : Int) := by omega
                have h2' : (Q : Int) ≤ (P : Int) := by omega
                clear hin
                go_wp2
                go_ret
                exact ⟨rfl, FF.out⟩
        · rw [e1] at LL
          have LS := hide (show Calls Try.prog 9 #[.agg #[.slice ub 5 ud], .int .i64 (K : Int)] wr fun e w' => e = .returned (.tuple #[.int .i64 0, .bool false]) ∧ Fresh wr w' from LL.out)
          clear LL e1
          go_wp2_with fail
          refine LS.out.mono ?_
          rintro e w5 ⟨rfl, f5⟩
          have R5 := hide (RR.out.fresh f5)
          clear s0 f5 RR
          have s0 := R5.out.cell.1
          have hq1 := HQ1.out
          have hq2 := HQ2.out
          have IB := hide i3
          have IE := hide (show Q < Q → clsB p K Q = false from fun h => by omega)
          rw [HWK.out]
          clear i3 hK K5 M0 Q0 M64 Q64 hj cl0 cl1 K0 K4 g g' j0
          go_wp2_with fail
          refine (smay_true _ 64 5 p _ R5.out.sl.at).mono ?_
          rintro e w6 ⟨rfl, f6⟩
          have R6 := hide (R5.out.fresh f6)
          clear s0 f6 R5
          go_wp2
          go_loopw [14] (fun x wr => ∃ P : Nat, P ≤ Q + 1 ∧ P ≤ Q ∧ x = .int .i64 (P : Int) ∧ wr = w6) (fun x _ => (Q - intOf x).toNat)
          case atStart => exact ⟨0, Nat.zero_le _, Nat.zero_le _, rfl, rfl⟩
          case round =>
            obtain ⟨P, P1, P2, rfl, rfl⟩ := hrel
            have P0 : (0 : Int) ≤ (P : Int) := by omega
            by_cases hin : P ≤ Q ∧ P < Q
            · obtain ⟨h1, h2⟩ := hin
              have h1' : (P : Int) ≤ (Q : Int) := by omega
              have h2' : (P : Int) < (Q : Int) := by omega
              obtain ⟨B, hB⟩ : ∃ B, B = P * M := ⟨_, rfl⟩
              obtain ⟨E, hE⟩ : ∃ E, E = (P + 1) * M := ⟨_, rfl⟩
              have BE : E = B + M := by rw [hB, hE, Nat.succ_mul]
              have E64 : E ≤ 64 := by rw [hE, ← HMQ.out, Nat.mul_comm M Q]; exact Nat.mul_le_mul_right M (by omega)
              have AC := hide (show anyV p B M = clsB p K P by rw [hB, HM.out]; exact any_cls p K P)
              have AE := hide (show ∀ G, B ≤ G → anyV p B (G + 1 - B) = (anyV p B (G - B) || p G) from fun G hG => by
                rw [show G + 1 - B = (G - B) + 1 by omega, any_succ, Nat.add_sub_cancel' hG])
              have BEH := hide BE
              have E64H := hide E64
              have b1 : wrap64 ((P : Int) * (M : Int)) = (B : Int) := by rw [show (P : Int) * (M : Int) = ((B : Nat) : Int) by rw [hB]; simp]; exact wrapW _ (by omega) (by omega)
              have b2 : wrap64 (((P : Int) + 1) * (M : Int)) = (E : Int) := by
                have e : ((P : Int) + 1) * (M : Int) = ((E : Nat) : Int) := by rw [hE]; simp
                rw [e]; exact wrapW _ (by omega) (by omega)
              clear hB hE BE E64
              go_wp2
              try rw [b1]
              go_loopw [15, 16] (fun sv x wq => ∃ G : Nat, B ≤ G ∧ G ≤ E ∧ sv = .bool (anyV p B (G - B)) ∧ x = .int .i64 (G : Int) ∧ wq = wr) (fun _ x _ => (E - intOf x).toNat)
              case atStart => exact ⟨B, Nat.le_refl _, by have := BEH.out; omega, by rw [Nat.sub_self]; rfl, rfl, rfl⟩
              case round =>
                obtain ⟨G, G1, G2, rfl, rfl, rfl⟩ := hrel
                have G0 : (0 : Int) ≤ (G : Int) := by omega
                by_cases hg : G < E
                · have hg' : (G : Int) < (E : Int) := by omega
                  have G64 : G < 64 := by have := E64H.out; omega
                  have G64' : (G : Int) < 64 := by omega
                  have cg := (R6.out.bit G G64).1
                  have AG := hide (AE.out G G1)
                  cases hs : anyV p B (G - B) with
                  | true =>
                    rw [hs, Bool.true_or] at AG
                    clear hs
                    go_wp2
                    go_roundw
                    case rel => exact ⟨G + 1, by omega, by omega, by rw [AG.out], by go_num, trivial⟩
                    case measure => simp [intOf]; omega
                  | false =>
                    rw [hs, Bool.false_or] at AG
                    clear hs
                    generalize p G = pg at cg AG
                    go_wp2
                    go_roundw
                    case rel => exact ⟨G + 1, by omega, by omega, by rw [AG.out], by go_num, trivial⟩
                    case measure => simp [intOf]; omega
                · have hg' : (E : Int) ≤ (G : Int) := by omega
                  have eg : G - B = M := by have := BEH.out; omega
                  rw [eg, AC.out]
                  by_cases hlt : P < Q
                  · have hl' : (P : Int) < (Q : Int) := by omega
                    rw [IB.out P hlt]
                    clear eg
                    go_wp2
                    go_roundw
                    case rel => exact ⟨P + 1, by omega, by omega, by go_num, trivial⟩
                    case measure => simp [intOf]; omega
                  · exact absurd h2 hlt
            · have FF := hide (F2.out.trans R6.out.el)
              rcases (show Q < P ∨ (P ≤ Q ∧ Q ≤ P) by omega) with h1 | ⟨h1, h2⟩
              · omega
              · have h1' : (P : Int) ≤ (Q : Int) := by omega
                have h2' : (Q : Int) ≤ (P : Int) := by omega
                clear hin
                go_wp2
                go_ret
                exact ⟨rfl, FF.out⟩
  · have l0 : (40 : Int) < (len : Int) := by omega
    clear hrow h40
    go_enter Try.func4, Try.ntmps4
    go_wp2_with fail
    refine (begun9_true _).mono ?_
    rintro e w1 ⟨rfl, k1⟩
    have K1 := hide k1
    clear k1
    go_wp2
    go_ret
    exact ⟨rfl, K1.out⟩
set_option linter.unusedVariables false
set_option maxRecDepth 100000 in
theorem slotsFree_lifted (os : Os) (started : os.Started) (H : Type) (enc : TypeId × Value → H) :
    ReturnsInHanded {} Try.checked os 4 .any (Rows.slotsFreeSpec.pre6 enc Try.prog Try.f4 Rows.slotsFreeRow.domain false) (Rows.slotsFreeSpec.post enc Try.prog Try.f4 false true false false) := by
  refine returnsInHanded_of_change (C := Try.checked) own started (by kernel_rfl) Try.func4
    (ChangeSpec.witness6 (enc := enc) (C := Try.checked) false ⟨#[], #[.slice none 0 0, .int .u8 0], []⟩ 8 (by kernel_rfl) (by kernel_rfl) (by kernel_rfl) (by kernel_rfl)) ?_
  intro W base args ds gs before hval0 hW hcnd _
  have hval : ∀ (j : Nat) t v, Try.f4.params[j]? = some t → args[j]? = some v → Value.okWide Try.prog W .any base t v := hval0
  have hW' := hW
  obtain ⟨p, q, hA0, hV, rfl, hfz, hnd⟩ := hW
  have hA : DataW.TrodAll enc Try.prog W 0 (fun _ => true) true Try.f4.params.toList args.toList ds p := hA0
  rw [Try.params4] at hA hval
  obtain ⟨v0, vs0, d0, ds0, p0, q0, hargs, rfl, rfl, h0, r0⟩ := trodAll_cons hA
  obtain ⟨v1, vs1, d1, ds1, p1, q1, rfl, rfl, rfl, h1, r1⟩ := trodAll_cons r0
  obtain ⟨rfl, rfl, rfl⟩ := trodAll_nil r1
  obtain rfl : args = #[v0, v1] := by cases args; simp_all
  obtain ⟨rfl, rfl⟩ := trodVars_none hV
  have lt0 : ∀ x ∈ p0, x.block < W.heap.size := by obtain ⟨m, hm⟩ := h0; exact DataW.trod_lt m _ _ _ hm
  have lt1 : ∀ x ∈ p1, x.block < W.heap.size := by obtain ⟨m, hm⟩ := h1; exact DataW.trod_lt m _ _ _ hm
  obtain ⟨a0, len0, cap0, rfl⟩ := okWide_slice Try.underlying22 (hval 0 22 v0 rfl rfl)
  obtain ⟨z0, w0⟩ := isRow_of Try.underlying22 Try.underlying5 (by kernel_rfl) h0
  obtain ⟨a1, rfl, rfl, rfl, w1⟩ := open_int Try.underlying5 (hval 1 5 v1 rfl rfl) h1
  clear hA0 hval0
  refine (slotsFree_walk0 a0 len0 cap0 z0 a1 (bounds_u8 w1).1 (bounds_u8 w1).2 W w0).mono fun e W' ⟨he, hg⟩ => ?_
  subst he
  exact ⟨_, rfl, _, _, _, [], _, [], hW', trodAll_mk1 (shut_bool Try.underlying4 _), (trodAll_cons_mk (Below.trod laidOut (by kernel_rfl) (of_decide_eq_true (by kernel_rfl)) h0 hg lt0) (trodAll_cons_mk (Below.trod laidOut (by kernel_rfl) (of_decide_eq_true (by kernel_rfl)) h1 hg lt1) trodAll_mk0)), rfl, hg.frame _, fun h => by cases h⟩

theorem slotsFree_row : Rows.SlotsFreeSaid :=
  OpenClaim.holds_of_wide 4 Try.f4 rfl rfl rfl rfl rfl rfl rfl ⟨rfl, rfl, rfl, rfl, rfl⟩ rfl rfl rfl rfl rfl (by kernel_rfl) Try.func4 (by kernel_rfl)
    (of_decide_eq_true (by kernel_rfl)) (by unfold Func.isWrapper; first | (rw [if_pos (by decide +kernel)]; kernel_rfl) | (rw [if_neg (by decide +kernel)]; exact ⟨rfl, rfl⟩))
    (fun os started H enc _ => slotsFree_lifted os started H enc)

theorem slotsFree_holds : Rows.SlotsFreeSaid := slotsFree_row
#print axioms slotsFree_holds
end Go.Proofs.Ytpkcihfldmgehaa
