/- Several texts as one: EngMem, RefEngA, RefEngB, RefEngC, RefEngD, EngMath, RefEngE, SlotsMore, EngLaw, EngVar, EngPair. -/
import Derived.Test.YtegolecdmpikhaaPackE
import Derived.Test.YtegolecdmpikhaaPackF
import Derived.Test.YtegolecdmpikhaaPackA
/- Engines in memory: a value of type api.Engine whose slots and marks are read (EngAt); what holds of each (Inv). -/
namespace Go.Proofs.Ytegolecdmpikhaa
open Go.RowKit

def EngAt (w : World) (v : Value) (G N c : Nat) (p : Nat → Bool) (ps : List Pc) : Prop :=
  ∃ sa sc ma mc, v = .agg #[.int .i64 (G : Int), .slice sa c sc, .slice ma ps.length mc] ∧ SlotsAt w (.agg #[.slice sa c sc]) N c p ∧ SpansIn w (.slice ma ps.length mc) ps
theorem EngAt.fresh {w w' : World} {v : Value} {G N c : Nat} {p : Nat → Bool} {ps : List Pc} (h : EngAt w v G N c p ps) (k : Fresh w w') : EngAt w' v G N c p ps := by
  obtain ⟨sa, sc, ma, mc, e, h1, h2⟩ := h
  exact ⟨sa, sc, ma, mc, e, h1.fresh k, h2.fresh k⟩
/-- what holds of each engine -/
structure Inv (G N c : Nat) (ps : List Pc) : Prop where
  g : 1 ≤ G
  fits : G * N ≤ 65536
  cls : Cls N c
  rise : Rise ps
  marks : ∀ q ∈ ps, ∃ k i : Nat, q = (((i * 2 ^ k * G : Nat) : Int), (k : Int)) ∧ k < c ∧ (i + 1) * 2 ^ k ≤ N
/-- an engine, plainly -/
structure Eng where
  G : Nat
  N : Nat
  c : Nat
  p : Nat → Bool
  ps : List Pc
def EngIs (w : World) (v : Value) (E : Eng) : Prop := EngAt w v E.G E.N E.c E.p E.ps
/-- it lies in blocks from base on -/
def EngNew (base : Nat) (w : World) (v : Value) (E : Eng) : Prop := ∀ w' : World, (∀ k, base ≤ k → k < w.heap.size → w'.heap[k]? = w.heap[k]?) → EngIs w' v E
/-- it lies in no block of X -/
def EngOff (X : Nat → Prop) (w : World) (v : Value) (E : Eng) : Prop := ∀ w' : World, (∀ k, ¬ X k → k < w.heap.size → w'.heap[k]? = w.heap[k]?) → EngIs w' v E
theorem EngNew.at {base : Nat} {w : World} {v : Value} {E : Eng} (h : EngNew base w v E) : EngIs w v E := h w fun _ _ _ => rfl
theorem EngOff.at {X : Nat → Prop} {w : World} {v : Value} {E : Eng} (h : EngOff X w v E) : EngIs w v E := h w fun _ _ _ => rfl
theorem EngNew.mono {base base' : Nat} {w : World} {v : Value} {E : Eng} (h : EngNew base w v E) (hb : base' ≤ base) : EngNew base' w v E := fun w' hw => h w' fun k hk => hw k (Nat.le_trans hb hk)
theorem EngOff.fresh {X : Nat → Prop} {w w1 : World} {v : Value} {E : Eng} (h : EngOff X w v E) (f : Fresh w w1) : EngOff X w1 v E :=
  fun w' hw => h w' fun k hk hl => (hw k hk (Nat.lt_of_lt_of_le hl f.size)).trans (f.block k hl)
/-- what is new lies off what is elder, and off what is newer -/
theorem EngNew.off {base : Nat} {w w1 : World} {v : Value} {E : Eng} (h : EngNew base w v E) (f : Fresh w w1) {X : Nat → Prop} (hX : ∀ k, X k → k < base ∨ w.heap.size ≤ k) : EngOff X w1 v E :=
  fun w' hw => h w' fun k hk hl => (hw k (fun hx => by rcases hX k hx with g | g <;> omega) (Nat.lt_of_lt_of_le hl f.size)).trans (f.block k hl)
/-- blocks of X may turn -/
theorem EngOff.turn {X : Nat → Prop} {w w1 : World} {v : Value} {E : Eng} (h : EngOff X w v E) (hs : w.heap.size ≤ w1.heap.size) (f : ∀ k, ¬ X k → k < w.heap.size → w1.heap[k]? = w.heap[k]?) : EngOff X w1 v E :=
  fun w' hw => h w' fun k hk hl => (hw k hk (Nat.lt_of_lt_of_le hl hs)).trans (f k hk hl)
theorem EngOff.setCell {X : Nat → Prop} {w : World} {v : Value} {E : Eng} (h : EngOff X w v E) {b : Nat} (hb : X b) (j : Nat) (x : Value) : EngOff X (w.setCell ⟨b, j, none⟩ x) v E :=
  h.turn (by simp [World.setCell]) fun k hk _ => heap_setCell_other w ⟨b, j, none⟩ k x (fun e => hk (by have : k = b := e; rw [this]; exact hb))
theorem EngOff.less {X Y : Nat → Prop} {w : World} {v : Value} {E : Eng} (h : EngOff X w v E) (hY : ∀ k, Y k → k < w.heap.size → X k) : EngOff Y w v E :=
  fun w' hw => h w' fun k hk hl => hw k (fun hy => hk (hY k hy hl)) hl
theorem EngIs.fresh {w w' : World} {v : Value} {E : Eng} (h : EngIs w v E) (k : Fresh w w') : EngIs w' v E := EngAt.fresh h k
theorem EngIs.shape {w : World} {v : Value} {E : Eng} (h : EngIs w v E) : ∃ sa sc ma mc, v = .agg #[.int .i64 (E.G : Int), .slice sa E.c sc, .slice ma E.ps.length mc] := by
  obtain ⟨sa, sc, ma, mc, e, _⟩ := h
  exact ⟨sa, sc, ma, mc, e⟩
/-- placed, released -/
def Eng.put (E : Eng) (k i : Nat) : Eng := ⟨E.G, E.N, E.c, useB E.p ((i * 2 ^ k : Nat) : Int) ((2 ^ k : Nat) : Int) true, putM E.ps (((i * 2 ^ k * E.G : Nat) : Int), (k : Int))⟩
def Eng.tak (E : Eng) (k i : Nat) : Eng := ⟨E.G, E.N, E.c, useB E.p ((i * 2 ^ k : Nat) : Int) ((2 ^ k : Nat) : Int) false, takM E.ps ((i * 2 ^ k * E.G : Nat) : Int)⟩
/-- nothing is placed -/
def Eng.none (G N c : Nat) : Eng := ⟨G, N, c, fun _ => false, []⟩
/-- engines that say the same -/
structure Eng.Like (E F : Eng) : Prop where
  g : E.G = F.G
  n : E.N = F.N
  c : E.c = F.c
  p : ∀ i, i < E.N → E.p i = F.p i
  ps : E.ps = F.ps
theorem EngIs.like {w : World} {v : Value} {E F : Eng} (h : EngIs w v E) (e : E.Like F) : EngIs w v F := by
  obtain ⟨G, N, c, p, ps⟩ := E
  obtain ⟨G', N', c', p', ps'⟩ := F
  obtain ⟨h1, h2, h3, h4, h5⟩ := e
  simp only at h1 h2 h3 h4 h5
  subst h1 h2 h3 h5
  obtain ⟨sa, sc, ma, mc, e, h6, h7⟩ := h
  exact ⟨sa, sc, ma, mc, e, h6.congr h4, h7⟩
/-- none -/
def noEng : Value := .agg #[.int .i64 0, .slice none 0 0, .slice none 0 0]
theorem Inv.nil {G N c : Nat} (h1 : 1 ≤ G) (h2 : G * N ≤ 65536) (h3 : Cls N c) : Inv G N c [] := ⟨h1, h2, h3, rise_nil, fun q hq => by simp at hq⟩
theorem Inv.tak {G N c : Nat} {ps : List Pc} (h : Inv G N c ps) (x : Int) : Inv G N c (takM ps x) := ⟨h.g, h.fits, h.cls, rise_tak h.rise x, fun q hq => h.marks q ((mem_tak h.rise).1 hq).1⟩
theorem Inv.put {G N c : Nat} {ps : List Pc} (h : Inv G N c ps) {k i : Nat} (hk : k < c) (hi : (i + 1) * 2 ^ k ≤ N) : Inv G N c (putM ps (((i * 2 ^ k * G : Nat) : Int), (k : Int))) :=
  ⟨h.g, h.fits, h.cls, rise_put h.rise _, fun q hq => by
    rcases (mem_put h.rise).1 hq with rfl | ⟨hq, _⟩
    · exact ⟨k, i, rfl, hk, hi⟩
    · exact h.marks q hq⟩
/-- what lies where fits -/
theorem Inv.low {G N c : Nat} {ps : List Pc} (h : Inv G N c ps) {k i : Nat} (hi : (i + 1) * 2 ^ k ≤ N) : i * 2 ^ k ≤ 65536 ∧ 2 ^ k ≤ 65536 ∧ i * 2 ^ k * G ≤ 65536 ∧ i ≤ 65536 := by
  have hN : N ≤ 65536 := h.cls.2.2.2.1
  have h2 := h.fits
  rw [Nat.mul_comm] at h2
  have h0 : 1 ≤ 2 ^ k := Nat.pow_pos (by decide)
  generalize 2 ^ k = M at *
  rw [Nat.succ_mul] at hi
  have h1 : i * M * G ≤ N * G := Nat.mul_le_mul_right G (by omega)
  have h3 : i ≤ i * M := Nat.le_mul_of_pos_right i h0
  exact ⟨by omega, by omega, Nat.le_trans h1 h2, by omega⟩
theorem Inv.in64 {G N c : Nat} {ps : List Pc} (h : Inv G N c ps) : ∀ q ∈ ps, In64 q := fun q hq => by
  obtain ⟨k, i, rfl, hk, hi⟩ := h.marks q hq
  have := h.low hi
  have := h.cls.2.1
  unfold In64
  simp only
  omega
theorem infoEngine : (Try.prog.info? 29).map (fun i => (i.zero, i.size)) = some (some noEng, 3) := by kernel_rfl
end Go.Proofs.Ytegolecdmpikhaa
/- What the document's own size and SameEngine answer (hodmanref8), as contracts. -/
namespace Go.Proofs.Ytegolecdmpikhaa
open Go.RowKit

theorem rsizeE_any (k : Nat) (hk : k ≤ 16) (w : World) : Calls Try.prog 26 #[.int .i64 (k : Int)] w fun e w' => e = .returned (.int .i64 ((2 ^ k : Nat) : Int)) ∧ w' = w := by
  have k0 : (0 : Int) ≤ (k : Int) := by omega
  have k1 : (k : Int) ≤ 16 := by omega
  go_enter Try.func26, Try.ntmps26
  go_wp2
  go_loop [3, 4] (fun p n => ∃ j q : Nat, j ≤ k ∧ n = .int .i64 (j : Int) ∧ p = .int .i64 (q : Int) ∧ q = 2 ^ j) (fun _ n => (k - intOf n).toNat)
  case atStart => exact ⟨0, 1, Nat.zero_le _, rfl, rfl, rfl⟩
  case round =>
    obtain ⟨j, q, hj, rfl, rfl, hq⟩ := hrel
    have HQ := hide hq
    have j0 : (0 : Int) ≤ (j : Int) := by omega
    have q0 : (1 : Int) ≤ (q : Int) := by have : 1 ≤ q := by rw [hq]; exact Nat.pow_pos (by decide)
                                          omega
    have q1 : (q : Int) ≤ 65536 := by have : q ≤ 2 ^ 16 := by rw [hq]; exact Nat.pow_le_pow_right (by decide) (by omega)
                                      omega
    clear hq
    by_cases g : j < k
    · have g' : (j : Int) < (k : Int) := by omega
      have HN := hide (show q * 2 = 2 ^ (j + 1) by rw [HQ.out, Nat.pow_succ])
      have wq : wrap64 ((q : Int) * 2) = ((q * 2 : Nat) : Int) := by unfold wrap64; omega
      go_wp2
      go_round
      case rel => exact ⟨j + 1, q * 2, by omega, by go_num, by first | rfl | rw [wq] | go_num, HN.out⟩
      case measure => simp [intOf]; omega
    · obtain rfl : k = j := by omega
      go_wp2
      go_ret
      exact ⟨ret_int (by rw [HQ.out]; simp), rfl⟩
/-- two boxes of engines -/
def HeldEE (W : World) (n m : Nat) (G : Int) (s t u v : Value) (w : World) : Prop := w.heap[n]? = some (.cells #[.int .i64 G, s, t] 29 (0, 0)) ∧ w.heap[m]? = some (.cells #[.int .i64 G, u, v] 29 (0, 0)) ∧ Fresh W w
theorem HeldEE.fresh {W : World} {n m : Nat} {G : Int} {s t u v : Value} {w w' : World} (h : HeldEE W n m G s t u v w) (k : Fresh w w') : HeldEE W n m G s t u v w' :=
  ⟨by rw [k.block n (Array.getElem?_eq_some_iff.1 h.1).1]; exact h.1, by rw [k.block m (Array.getElem?_eq_some_iff.1 h.2.1).1]; exact h.2.1, h.2.2.trans k⟩
set_option maxRecDepth 100000 in
set_option maxHeartbeats 1000000 in
theorem rsamee_true (v u : Value) (G N c : Nat) (p : Nat → Bool) (ps : List Pc) (w : World) (h : EngAt w v G N c p ps) (h' : EngAt w u G N c p ps) :
    Calls Try.prog 10 #[v, u] w fun e w' => e = .returned (.bool true) ∧ Fresh w w' := by
  obtain ⟨sa, sc, ma, mc, rfl, h1, h2⟩ := h
  obtain ⟨sb, sd, mb, md, rfl, k1, k2⟩ := h'
  obtain ⟨n, hn⟩ : ∃ n, n = w.heap.size := ⟨_, rfl⟩
  obtain ⟨m, hm⟩ : ∃ m, m = w.heap.size + 1 := ⟨_, rfl⟩
  obtain ⟨W1, hW1⟩ : ∃ W1, W1 = (w.alloc (.cells #[.int .i64 (G : Int), .slice sa c sc, .slice ma ps.length mc] 29)).alloc (.cells #[.int .i64 (G : Int), .slice sb c sd, .slice mb ps.length md] 29) := ⟨_, rfl⟩
  have FW : Fresh w W1 := by rw [hW1]; exact fresh_more (fresh_box _ _ _) _ _
  have bm : W1.heap[m]? = some (.cells #[.int .i64 (G : Int), .slice sb c sd, .slice mb ps.length md] 29 (0, 0)) := by
    rw [hm, hW1]
    have := heap_alloc_new (w.alloc (.cells #[.int .i64 (G : Int), .slice sa c sc, .slice ma ps.length mc] 29)) (.cells #[.int .i64 (G : Int), .slice sb c sd, .slice mb ps.length md] 29 (0, 0))
    rwa [show (w.alloc (.cells #[.int .i64 (G : Int), .slice sa c sc, .slice ma ps.length mc] 29)).heap.size = w.heap.size + 1 by simp] at this
  have bn : W1.heap[n]? = some (.cells #[.int .i64 (G : Int), .slice sa c sc, .slice ma ps.length mc] 29 (0, 0)) := by
    rw [hn, hW1, (fresh_box (w.alloc (.cells #[.int .i64 (G : Int), .slice sa c sc, .slice ma ps.length mc] 29)) #[.int .i64 (G : Int), .slice sb c sd, .slice mb ps.length md] 29).block w.heap.size (by simp)]
    exact heap_alloc_new w _
  have H1 := hide (show HeldEE w n m (G : Int) (.slice sa c sc) (.slice ma ps.length mc) (.slice sb c sd) (.slice mb ps.length md) W1 from ⟨bn, bm, FW⟩)
  have S1 := hide h1
  have S2 := hide k1
  have M1 := hide h2
  have M2 := hide k2
  have HN := hide hn
  have HM := hide hm
  have HW := hide hW1
  clear hn hm hW1 FW bm bn h1 h2 k1 k2
  generalize hpl : ps.length = pl at *
  clear hpl
  generalize (G : Int) = gg at *
  go_enter Try.func10, Try.ntmps10
  go_wp2_with fail
  rw [← HW.out, ← HM.out, ← HN.out]
  refine (ssame_true _ _ N c p _ (S1.out.fresh H1.out.2.2) (S2.out.fresh H1.out.2.2)).mono ?_
  rintro e w2 ⟨rfl, f2⟩
  have H2 := hide (H1.out.fresh f2)
  clear f2 H1
  obtain ⟨b1, b2, _⟩ := H2.out
  have c2 : w2.cell? ⟨n, 2, none⟩ = some (.slice ma pl mc) := cell_block b1 2 _ rfl
  have d2 : w2.cell? ⟨m, 2, none⟩ = some (.slice mb pl md) := cell_block b2 2 _ rfl
  clear b1 b2
  go_wp2_with fail
  refine (msame_to _ _ ps ps true (decide_eq_true rfl) _ (M1.out.fresh H2.out.2.2).1 (M2.out.fresh H2.out.2.2).1).mono ?_
  rintro e w3 ⟨rfl, nn, rfl⟩
  have F3 := hide (H2.out.2.2.trans (Fresh.drewN w2 nn))
  clear c2 d2
  go_wp2
  go_ret
  exact ⟨rfl, F3.out⟩
end Go.Proofs.Ytegolecdmpikhaa
/- What the document's own Place answers (hodmanref8), as a contract. -/
namespace Go.Proofs.Ytegolecdmpikhaa
open Go.RowKit

/-- the engine that was handed over, in its box n; the result's block R -/
structure HeldG (W : World) (n R : Nat) (G : Int) (s t : Value) (w : World) : Prop where
  box : w.heap[n]? = some (.cells #[.int .i64 G, s, t] 29 (0, 0))
  el : Fresh W w
  res : ∃ x y z, w.heap[R]? = some (.cells #[x, y, z] 29 (0, 0))
  le : W.heap.size ≤ R ∧ n ≠ R
theorem HeldG.fresh {W : World} {n R : Nat} {G : Int} {s t : Value} {w w' : World} (h : HeldG W n R G s t w) (k : Fresh w w') : HeldG W n R G s t w' := by
  obtain ⟨x, y, z, hr⟩ := h.res
  exact ⟨by rw [k.block n (Array.getElem?_eq_some_iff.1 h.box).1]; exact h.box, h.el.trans k, ⟨x, y, z, by rw [k.block R (Array.getElem?_eq_some_iff.1 hr).1]; exact hr⟩, h.le⟩
theorem wrapT (x : Int) (h1 : 0 ≤ x) (h2 : x ≤ 65536) : IntKind.i64.wrap x = x := by rw [IntKind.wrap_i64]; omega
theorem wrapQ (x : Int) (h1 : 0 ≤ x) (h2 : x ≤ 65536) : wrap64 x = x := by unfold wrap64; omega
theorem three_cells {w : World} {R : Nat} {u0 u1 u2 : Value} {t : TypeId} (h : w.heap[R]? = some (.cells #[u0, u1, u2] t (0, 0))) (x y z : Value) :
    (((w.setCell ⟨R, 0, none⟩ x).setCell ⟨R, 1, none⟩ y).setCell ⟨R, 2, none⟩ z).heap[R]? = some (.cells #[x, y, z] t (0, 0)) := by
  have := heap_set_same (j := 2) (heap_set_same (j := 1) (heap_set_same (j := 0) h x) y) z
  exact this
theorem HeldG.set {W : World} {n R : Nat} {G : Int} {s t : Value} {w : World} (h : HeldG W n R G s t w) (x y z : Value) : HeldG W n R G s t (((w.setCell ⟨R, 0, none⟩ x).setCell ⟨R, 1, none⟩ y).setCell ⟨R, 2, none⟩ z) := by
  obtain ⟨a, b, c, hr⟩ := h.res
  exact ⟨heap_set_other (heap_set_other (heap_set_other h.box h.le.2 _) h.le.2 _) h.le.2 _, fresh_set (fresh_set (fresh_set h.el h.le.1 _ _) h.le.1 _ _) h.le.1 _ _, ⟨x, y, z, three_cells hr x y z⟩, h.le⟩
theorem HeldG.cells {W : World} {n R : Nat} {G : Int} {s t : Value} {w : World} (h : HeldG W n R G s t w) : w.cell? ⟨n, 0, none⟩ = some (.int .i64 G) ∧ w.cell? ⟨n, 1, none⟩ = some s ∧ w.cell? ⟨n, 2, none⟩ = some t :=
  ⟨cell_block h.box 0 _ rfl, cell_block h.box 1 _ rfl, cell_block h.box 2 _ rfl⟩
theorem HeldG.free {W : World} {n R : Nat} {G : Int} {s t : Value} {w : World} (h : HeldG W n R G s t w) : ∃ x y z, w.cell? ⟨R, 0, none⟩ = some x ∧ w.cell? ⟨R, 1, none⟩ = some y ∧ w.cell? ⟨R, 2, none⟩ = some z ∧ w.frozen? ⟨R, 0, none⟩ = false ∧ w.frozen? ⟨R, 1, none⟩ = false ∧ w.frozen? ⟨R, 2, none⟩ = false := by
  obtain ⟨x, y, z, hr⟩ := h.res
  exact ⟨x, y, z, cell_block hr 0 _ rfl, cell_block hr 1 _ rfl, cell_block hr 2 _ rfl, free_block hr 0, free_block hr 1, free_block hr 2⟩
/-- .. with its cells written out -/
def HeldH (W : World) (n R : Nat) (G : Int) (s t : Value) (w : World) : Prop := w.cell? ⟨n, 0, none⟩ = some (.int .i64 G) ∧ w.cell? ⟨n, 1, none⟩ = some s ∧ w.cell? ⟨n, 2, none⟩ = some t ∧ HeldG W n R G s t w
theorem HeldG.h {W : World} {n R : Nat} {G : Int} {s t : Value} {w : World} (h : HeldG W n R G s t w) : HeldH W n R G s t w := ⟨h.cells.1, h.cells.2.1, h.cells.2.2, h⟩
/-- the worlds ahead of all: the box, and the result's block -/
theorem eng_start (w : World) (G : Int) (s t : Value) : ∃ W1 n R, W1 = (w.alloc (.cells #[.int .i64 G, s, t] 29)).alloc (.cells #[.int .i64 0, .slice none 0 0, .slice none 0 0] 29) ∧ n = w.heap.size ∧ R = w.heap.size + 1 ∧ HeldG w n R G s t W1 := by
  refine ⟨_, _, _, rfl, rfl, rfl, ?_, fresh_more (fresh_box _ _ _) _ _, ⟨.int .i64 0, .slice none 0 0, .slice none 0 0, ?_⟩, by omega, by omega⟩
  · rw [(fresh_box (w.alloc (.cells #[.int .i64 G, s, t] 29)) #[.int .i64 0, .slice none 0 0, .slice none 0 0] 29).block w.heap.size (by simp)]
    exact heap_alloc_new w _
  · have := heap_alloc_new (w.alloc (.cells #[.int .i64 G, s, t] 29)) (.cells #[.int .i64 0, .slice none 0 0, .slice none 0 0] 29 (0, 0))
    rwa [show (w.alloc (.cells #[.int .i64 G, s, t] 29)).heap.size = w.heap.size + 1 by simp] at this
/-- slots and marks that lie beside R -/
theorem eng_stored {W w : World} {n R : Nat} {g : Int} {G N c : Nat} {p : Nat → Bool} {ps : List Pc} {s t x y z : Value} {sa ma : Option Addr} {sc mc b1 b2 : Nat} (hx : g = (G : Int)) (h : HeldG W n R g s t w) (hs : SlotsNew b1 w (.agg #[.slice sa c sc]) N c p) (h1 : R < b1) (hm : OwnM w b2 (.slice ma ps.length mc) ps) (h2 : R < b2) (hl : ps.length ≤ 1048576) (hi : ∀ q ∈ ps, In64 q) :
    EngNew (R + 1) (((w.setCell ⟨R, 0, none⟩ x).setCell ⟨R, 1, none⟩ y).setCell ⟨R, 2, none⟩ z) (.agg #[.int .i64 g, .slice sa c sc, .slice ma ps.length mc]) ⟨G, N, c, p, ps⟩ := by
  subst hx
  intro w' hw
  have key : ∀ k, R + 1 ≤ k → k < w.heap.size → w'.heap[k]? = w.heap[k]? := fun k hk hl => by
    rw [hw k hk (by simpa [World.setCell] using hl), heap_setCell_other _ ⟨R, 2, none⟩ k z (by show k ≠ R; omega), heap_setCell_other _ ⟨R, 1, none⟩ k y (by show k ≠ R; omega), heap_setCell_other _ ⟨R, 0, none⟩ k x (by show k ≠ R; omega)]
  exact ⟨sa, sc, ma, mc, rfl, hs _ fun k hk hl => key k (by omega) hl, (hm.turn fun k hk hl => key k (by omega) hl).at hl hi⟩

set_option maxRecDepth 100000 in
set_option maxHeartbeats 1000000 in
theorem rplace_no (v : Value) (G N c : Nat) (p : Nat → Bool) (ps : List Pc) (x : Int) (w : World) (h : EngAt w v G N c p ps) (hl : lowS N c p x = none) :
    Calls Try.prog 12 #[v, .int .i64 x] w fun e w' => e = .returned (.tuple #[v, .int .i64 0, .bool false]) ∧ Fresh w w' := by
  obtain ⟨sa, sc, ma, mc, rfl, h1, h2⟩ := h
  obtain ⟨W1, n, R, hW, hn, hR, hg⟩ := eng_start w (G : Int) (.slice sa c sc) (.slice ma ps.length mc)
  have RL := hide (rlow_any _ N c p x W1 (h1.fresh hg.el))
  rw [hl] at RL
  have HG := hide hg
  have HW := hide hW
  have HN := hide hn
  have HR := hide hR
  clear h1 h2 hl hW hn hR hg
  generalize (G : Int) = gg at *
  generalize ps.length = pl at *
  unfold foundE at RL
  go_enter Try.func12, Try.ntmps12
  go_wp2_with fail
  rw [← HW.out, ← HR.out, ← HN.out]
  refine RL.out.mono ?_
  rintro e w2 ⟨rfl, f2⟩
  have H2 := hide (HG.out.fresh f2)
  have H3 := hide ((HG.out.fresh f2).set (.int .i64 gg) (.slice sa c sc) (.slice ma pl mc))
  have B3 := hide (three_cells (H2.out.res.choose_spec.choose_spec.choose_spec) (.int .i64 gg) (.slice sa c sc) (.slice ma pl mc))
  clear f2 RL
  obtain ⟨c0, c1, c2⟩ := H2.out.cells
  obtain ⟨_, _, _, r0, r1, r2, q0, q1, q2⟩ := H2.out.free
  go_wp2
  clear c0 c1 c2 r0 r1 r2 q0 q1 q2 H2
  generalize ((w2.setCell ⟨R, 0, none⟩ (.int .i64 gg)).setCell ⟨R, 1, none⟩ (.slice sa c sc)).setCell ⟨R, 2, none⟩ (.slice ma pl mc) = W9 at H3 B3 ⊢
  have h0 : W9.cell? ⟨R, 0, none⟩ = some (.int .i64 gg) := cell_block B3.out 0 _ rfl
  have h1 : W9.cell? ⟨R, 1, none⟩ = some (.slice sa c sc) := cell_block B3.out 1 _ rfl
  have h2 : W9.cell? ⟨R, 2, none⟩ = some (.slice ma pl mc) := cell_block B3.out 2 _ rfl
  refine bodyPost_ret (by simp [results, Try.results12, go_sem, h0, h1, h2]; try rfl) rfl ?_
  exact ⟨rfl, H3.out.el⟩

set_option maxRecDepth 100000 in
set_option maxHeartbeats 1000000 in
theorem rplace_yes (v : Value) (G N c : Nat) (p : Nat → Bool) (ps : List Pc) (k i : Nat) (w : World) (h : EngAt w v G N c p ps) (hv : Inv G N c ps) (hlen : ps.length ≤ 1000) (hk : k < c) (hl : lowS N c p (k : Int) = some i) (hi : (i + 1) * 2 ^ k ≤ N) :
    Calls Try.prog 12 #[v, .int .i64 (k : Int)] w fun e w' => ∃ u, e = .returned (.tuple #[u, .int .i64 ((i * 2 ^ k * G : Nat) : Int), .bool true]) ∧ EngNew w.heap.size w' u (Eng.put ⟨G, N, c, p, ps⟩ k i) ∧ Fresh w w' := by
  obtain ⟨sa, sc, ma, mc, rfl, h1, h2⟩ := h
  obtain ⟨W1, n, R, hW, hn, hR, hg⟩ := eng_start w (G : Int) (.slice sa c sc) (.slice ma ps.length mc)
  have RL := hide (rlow_any _ N c p (k : Int) W1 (h1.fresh hg.el))
  rw [hl] at RL
  obtain ⟨b1, b2, b3, b4⟩ := hv.low hi
  have hN := hv.cls.2.1
  obtain ⟨M, hM⟩ : ∃ M, M = 2 ^ k := ⟨_, rfl⟩
  obtain ⟨IM, hIM⟩ : ∃ IM, IM = i * 2 ^ k := ⟨_, rfl⟩
  obtain ⟨AT, hAT⟩ : ∃ AT, AT = i * 2 ^ k * G := ⟨_, rfl⟩
  have RZ := hide (fun w => rsizeE_any k (by omega) w)
  rw [← hM] at RZ b2
  rw [← hIM] at b1
  rw [← hAT] at b3
  have PV := hide (hv.put hk hi)
  rw [← hAT] at PV
  have PL := hide (show (putM ps ((AT : Int), (k : Int))).length ≤ 1048576 by have := putM_length ps ((AT : Int), (k : Int)); split at this <;> omega)
  have US := hide (fun w' (j : Fresh w w') => ruse_any _ N c p (IM : Int) (M : Int) true w' (h1.fresh j) (by omega) (by omega))
  have PT := hide (fun w' (j : Fresh w w') => rputm_any _ ps (AT : Int) (k : Int) w' (h2.fresh j) hv.rise (by omega))
  have z1 : (0 : Int) ≤ (IM : Int) := by omega
  have z2 : (IM : Int) ≤ 65536 := by omega
  have z3 : (0 : Int) ≤ (AT : Int) := by omega
  have z4 : (AT : Int) ≤ 65536 := by omega
  have p1 : (i : Int) * (M : Int) = ((IM : Nat) : Int) := by rw [hIM, hM]; simp
  have p2 : (IM : Int) * (G : Int) = ((AT : Nat) : Int) := by rw [hIM, hAT]; simp
  have e3 : IntKind.i64.wrap ((i : Int) * (M : Int)) = (IM : Int) := by rw [p1]; exact wrapT _ z1 z2
  have e1 : wrap64 ((i : Int) * (M : Int)) = (IM : Int) := by rw [p1]; exact wrapQ _ z1 z2
  have e2 : wrap64 ((IM : Int) * (G : Int)) = (AT : Int) := by rw [p2]; exact wrapQ _ z3 z4
  clear p1 p2
  have HG := hide hg
  have HW := hide hW
  have HN := hide hn
  have HR := hide hR
  have RW := hide (show R < W1.heap.size by obtain ⟨x, y, z, hr⟩ := hg.res; exact (Array.getElem?_eq_some_iff.1 hr).1)
  unfold Eng.put
  simp only
  rw [← hAT, ← hIM, ← hM]
  clear h1 h2 hl hW hn hR hg hi hv hlen hk hM hIM hAT b1 b2 b3 b4 hN
  obtain ⟨gg, hgg⟩ : ∃ gg, gg = (G : Int) := ⟨_, rfl⟩
  have GG := hide hgg
  rw [← hgg] at e2 HG HW
  rw [← hgg]
  clear hgg
  generalize hpl : ps.length = pl at *
  unfold foundE at RL
  go_enter Try.func12, Try.ntmps12
  go_wp2_with fail
  rw [← HW.out, ← HR.out, ← HN.out]
  refine RL.out.mono ?_
  rintro e w2 ⟨rfl, f2⟩
  have H2 := hide (HG.out.fresh f2)
  have B2 := hide (Nat.lt_of_lt_of_le RW.out f2.size)
  clear f2 RL HG
  obtain ⟨c0, c1, c2⟩ := H2.out.cells
  go_wp2_with fail
  refine (RZ.out _).mono ?_
  rintro e w3 ⟨rfl, rfl⟩
  have HS : Hid (HeldH w n R gg (.slice sa c sc) (.slice ma pl mc) w3.drew) := (H2.out.fresh (Fresh.refl _).drew).h
  have BD := hide (show R < w3.drew.heap.size from B2.out)
  go_wp2_with fail
  clear c0 c1 c2
  refine wp_region_held (S := HeldH w n R gg (.slice sa c sc) (.slice ma pl mc)) (by kernel_rfl) ?_
  change wpAnyH _ _ _ _ _ _ _ _ (World.drew _)
  generalize World.drew w3 = wd at HS BD ⊢
  refine held_take (i := 0) (d := 29) (v := ?_) rfl rfl (by kernel_rfl) (by kernel_rfl) (by kernel_rfl) (fun _ _ _ h => h) (by kernel_rfl) ?_ HS.out ?_
  rotate_left
  · intro wz hz
    obtain ⟨y0, y1, y2, -⟩ := hz
    go_simp
    first | done | with_reducible rfl
  refine held_take (i := 1) (d := 30) (v := ?_) rfl rfl (by kernel_rfl) (by kernel_rfl) (by kernel_rfl) (fun _ _ _ h => h) (by kernel_rfl) ?_ HS.out ?_
  rotate_left
  · intro wz hz
    obtain ⟨y0, y1, y2, -⟩ := hz
    go_simp
    first | done | with_reducible rfl
  refine held_take (i := 2) (d := 31) (v := ?_) rfl rfl (by kernel_rfl) (by kernel_rfl) (by kernel_rfl) (fun _ _ _ h => h) (by kernel_rfl) ?_ HS.out ?_
  rotate_left
  · intro wz hz
    obtain ⟨y0, y1, y2, -⟩ := hz
    go_simp
    first | done | with_reducible rfl
  refine held_take (i := 3) (d := 32) (v := ?_) rfl rfl (by kernel_rfl) (by kernel_rfl) (by kernel_rfl) (fun _ _ _ h => h) (by kernel_rfl) ?_ HS.out ?_
  rotate_left
  · intro wz hz
    obtain ⟨y0, y1, y2, -⟩ := hz
    go_simp
    first | done | with_reducible rfl
  refine held_take (i := 4) (d := 33) (v := ?_) rfl rfl (by kernel_rfl) (by kernel_rfl) (by kernel_rfl) (fun _ _ _ h => h) (by kernel_rfl) ?_ HS.out ?_
  rotate_left
  · intro wz hz
    obtain ⟨y0, y1, y2, -⟩ := hz
    go_simp
    first | done | with_reducible rfl
  refine held_take (i := 5) (d := 34) (v := ?_) rfl rfl (by kernel_rfl) (by kernel_rfl) (by kernel_rfl) (fun _ _ _ h => h) (by kernel_rfl) ?_ HS.out ?_
  rotate_left
  · intro wz hz
    obtain ⟨y0, y1, y2, -⟩ := hz
    go_simp
    first | done | with_reducible rfl
  refine held_take (i := 6) (d := 35) (v := ?_) rfl rfl (by kernel_rfl) (by kernel_rfl) (by kernel_rfl) (fun _ _ _ h => h) (by kernel_rfl) ?_ HS.out ?_
  rotate_left
  · intro wz hz
    obtain ⟨y0, y1, y2, -⟩ := hz
    go_simp
    first | done | with_reducible rfl
  refine held_take (i := 7) (d := 36) (v := ?_) rfl rfl (by kernel_rfl) (by kernel_rfl) (by kernel_rfl) (fun _ _ _ h => h) (by kernel_rfl) ?_ HS.out ?_
  rotate_left
  · intro wz hz
    obtain ⟨y0, y1, y2, -⟩ := hz
    go_simp
    first | done | with_reducible rfl
  refine held_take (i := 9) (d := 38) (v := ?_) rfl rfl (by kernel_rfl) (by kernel_rfl) (by kernel_rfl) (fun _ _ _ h => h) (by kernel_rfl) ?_ HS.out ?_
  rotate_left
  · intro wz hz
    obtain ⟨y0, y1, y2, -⟩ := hz
    go_simp
    first | done | with_reducible rfl
  refine held_take (i := 10) (d := 39) (v := ?_) rfl rfl (by kernel_rfl) (by kernel_rfl) (by kernel_rfl) (fun _ _ _ h => h) (by kernel_rfl) ?_ HS.out ?_
  rotate_left
  · intro wz hz
    obtain ⟨y0, y1, y2, -⟩ := hz
    go_simp
    first | done | with_reducible rfl
  refine held_take (i := 11) (d := 40) (v := ?_) rfl rfl (by kernel_rfl) (by kernel_rfl) (by kernel_rfl) (fun _ _ _ h => h) (by kernel_rfl) ?_ HS.out ?_
  rotate_left
  · intro wz hz
    obtain ⟨y0, y1, y2, -⟩ := hz
    go_simp
    first | done | with_reducible rfl
  refine held_take (i := 12) (d := 41) (v := ?_) rfl rfl (by kernel_rfl) (by kernel_rfl) (by kernel_rfl) (fun _ _ _ h => h) (by kernel_rfl) ?_ HS.out ?_
  rotate_left
  · intro wz hz
    obtain ⟨y0, y1, y2, -⟩ := hz
    go_simp
    first | done | with_reducible rfl
  refine held_take (i := 13) (d := 42) (v := ?_) rfl rfl (by kernel_rfl) (by kernel_rfl) (by kernel_rfl) (fun _ _ _ h => h) (by kernel_rfl) ?_ HS.out ?_
  rotate_left
  · intro wz hz
    obtain ⟨y0, y1, y2, -⟩ := hz
    go_simp
    first | done | with_reducible rfl
  refine held_take (i := 16) (d := 45) (v := ?_) rfl rfl (by kernel_rfl) (by kernel_rfl) (by kernel_rfl) (fun _ _ _ h => h) (by kernel_rfl) ?_ HS.out ?_
  rotate_left
  · intro wz hz
    obtain ⟨y0, y1, y2, -⟩ := hz
    go_simp
    first | done | with_reducible rfl
  refine wpAnyH_ready (rs := [8]) (by kernel_rfl) (by simp) ?_
  refine AllReadyH.cons rfl (fun K hK => ?_) AllReadyH.nil
  go_simp
  go_wp2_with fail
  refine (US.out _ HS.out.2.2.2.el).mono ?_; rintro e w4 ⟨u4, rfl, s4, f4⟩; obtain ⟨_, ua, uc, rfl, _⟩ := s4.at; have S4 := hide s4; have BF := hide (Nat.lt_of_lt_of_le BD.out f4.size); have HS' := hide ((HS.out.2.2.2.fresh f4).h); clear HS s4 f4; have HS := HS'; clear HS'
  refine hK.out _ _ HS.out (fun _ => ?_)
  clear hK K
  refine wpAnyH_ready (rs := [14]) (by kernel_rfl) (by simp) ?_
  refine AllReadyH.cons rfl (fun K hK => ?_) AllReadyH.nil
  go_simp
  go_wp2_with fail
  refine (PT.out _ HS.out.2.2.2.el).mono ?_; rintro e w5 ⟨u5, rfl, o5, f5⟩; obtain ⟨pa, pc, rfl⟩ := o5.shape; have O5 := hide o5; have S5 := hide (S4.out.fresh f5); have HS' := hide ((HS.out.2.2.2.fresh f5).h); clear HS o5 f5 S4; have HS := HS'; clear HS'
  refine hK.out _ _ HS.out (fun _ => ?_)
  clear hK K
  refine held_take (i := 15) (d := 44) (v := ?_) rfl rfl (by kernel_rfl) (by kernel_rfl) (by kernel_rfl) (fun _ _ _ h => h) (by kernel_rfl) ?_ HS.out ?_
  rotate_left
  · intro wz hz
    obtain ⟨y0, y1, y2, -⟩ := hz
    go_simp
    first | done | with_reducible rfl
  have EN := hide (eng_stored (x := .int .i64 gg) (y := .slice ua c uc) (z := .slice pa (putM ps ((AT : Int), (k : Int))).length pc) GG.out HS.out.2.2.2 S5.out BD.out O5.out BF.out PL.out PV.out.in64)
  have B3 := hide (three_cells (HS.out.2.2.2.res.choose_spec.choose_spec.choose_spec) (.int .i64 gg) (.slice ua c uc) (.slice pa (putM ps ((AT : Int), (k : Int))).length pc))
  obtain ⟨_, _, _, r0, r1, r2, q0, q1, q2⟩ := HS.out.2.2.2.free
  refine wpAnyH_ready (rs := [17]) (by kernel_rfl) (by simp) ?_
  refine AllReadyH.cons rfl (fun K hK => ?_) AllReadyH.nil
  go_simp
  have HS' := hide ((HS.out.2.2.2.set (.int .i64 gg) (.slice ua c uc) (.slice pa (putM ps ((AT : Int), (k : Int))).length pc)).h); clear HS r0 r1 r2 q0 q1 q2 S5 O5; generalize World.setCell _ ⟨R, 2, none⟩ _ = W9 at EN B3 HS' ⊢; have HS := HS'; clear HS'
  refine hK.out _ _ HS.out (fun _ => ?_)
  clear hK K
  refine held_take (i := 18) (d := 5) (v := ?_) rfl rfl (by kernel_rfl) (by kernel_rfl) (by kernel_rfl) (fun _ _ _ h => h) (by kernel_rfl) ?_ HS.out ?_
  rotate_left
  · intro wz hz
    obtain ⟨y0, y1, y2, -⟩ := hz
    go_simp
    first | done | with_reducible rfl
  refine held_take (i := 19) (d := 6) (v := ?_) rfl rfl (by kernel_rfl) (by kernel_rfl) (by kernel_rfl) (fun _ _ _ h => h) (by kernel_rfl) ?_ HS.out ?_
  rotate_left
  · intro wz hz
    obtain ⟨y0, y1, y2, -⟩ := hz
    go_simp
    first | done | with_reducible rfl
  refine wpAnyH_done (by kernel_rfl) ?_ _
  try simp only [Act.put, List.setIfInBounds_toArray, List.set_cons_succ, List.set_cons_zero]
  go_wp2
  have h0 : W9.cell? ⟨R, 0, none⟩ = some (.int .i64 gg) := cell_block B3.out 0 _ rfl
  have h1 : W9.cell? ⟨R, 1, none⟩ = some (.slice ua c uc) := cell_block B3.out 1 _ rfl
  have h2 : W9.cell? ⟨R, 2, none⟩ = some (.slice pa (putM ps ((AT : Int), (k : Int))).length pc) := cell_block B3.out 2 _ rfl
  refine bodyPost_ret (by simp [results, Try.results12, go_sem, h0, h1, h2]; try rfl) rfl ?_
  exact ⟨_, rfl, EN.out.mono (Nat.le_trans HS.out.2.2.2.le.1 (Nat.le_succ _)), HS.out.2.2.2.el⟩
end Go.Proofs.Ytegolecdmpikhaa
/- What the document's own NewEngine answers (hodmanref8), as a contract. -/
namespace Go.Proofs.Ytegolecdmpikhaa
open Go.RowKit

def EngOk (g n m : Int) (K N c : Nat) : Prop := g = ((2 ^ K : Nat) : Int) ∧ 2 ^ K * N ≤ 65536 ∧ n = (N : Int) ∧ m = (c : Int) ∧ Cls N c
/-- the result's block -/
def ResE (W : World) (R : Nat) (w : World) : Prop := w.heap[R]? = some (.cells #[.int .i64 0, .slice none 0 0, .slice none 0 0] 29 (0, 0)) ∧ Fresh W w ∧ W.heap.size ≤ R
theorem ResE.fresh {W : World} {R : Nat} {w w' : World} (h : ResE W R w) (k : Fresh w w') : ResE W R w' := ⟨by rw [k.block R (Array.getElem?_eq_some_iff.1 h.1).1]; exact h.1, h.2.1.trans k, h.2.2⟩
theorem ResE.cells {W : World} {R : Nat} {w : World} (h : ResE W R w) : w.cell? ⟨R, 0, none⟩ = some (.int .i64 0) ∧ w.cell? ⟨R, 1, none⟩ = some (.slice none 0 0) ∧ w.cell? ⟨R, 2, none⟩ = some (.slice none 0 0) ∧ w.frozen? ⟨R, 0, none⟩ = false ∧ w.frozen? ⟨R, 1, none⟩ = false ∧ w.frozen? ⟨R, 2, none⟩ = false :=
  ⟨cell_block h.1 0 _ rfl, cell_block h.1 1 _ rfl, cell_block h.1 2 _ rfl, free_block h.1 0, free_block h.1 1, free_block h.1 2⟩

set_option maxRecDepth 100000 in
set_option maxHeartbeats 1000000 in
theorem rnewe_yes (g n m : Int) (K N c : Nat) (h : EngOk g n m K N c) (w : World) :
    Calls Try.prog 9 #[.int .i64 g, .int .i64 n, .int .i64 m] w fun e w' => ∃ u, e = .returned (.tuple #[u, .bool true]) ∧ EngNew w.heap.size w' u (Eng.none (2 ^ K) N c) ∧ Fresh w w' := by
  obtain ⟨h1, h2, rfl, rfl, hc⟩ := h
  obtain ⟨R, hR⟩ : ∃ R, R = w.heap.size := ⟨_, rfl⟩
  obtain ⟨W1, hW⟩ : ∃ W1, W1 = w.alloc (.cells #[.int .i64 0, .slice none 0 0, .slice none 0 0] 29) := ⟨_, rfl⟩
  have RE := hide (show ResE w R W1 from ⟨by rw [hR, hW]; exact heap_alloc_new w _, by rw [hW]; exact fresh_box _ _ _, by rw [hR]; exact Nat.le_refl _⟩)
  have hN := hc.2.2.1
  obtain ⟨G, hG⟩ : ∃ G, G = 2 ^ K := ⟨_, rfl⟩
  have G1 : 1 ≤ G := by rw [hG]; exact Nat.pow_pos (by decide)
  rw [← hG] at h1 h2
  have GN : G ≤ 65536 := Nat.le_trans (Nat.le_mul_of_pos_right G hN) h2
  have K62 : K ≤ 62 := by
    rcases Nat.lt_or_ge K 17 with h | h
    · omega
    · have : 2 ^ 17 ≤ 2 ^ K := Nat.pow_le_pow_right (by decide) h
      rw [← hG] at this; omega
  have LG := hide (fun w => rlog_any g w (by omega))
  have LF := log_fits (v := g) K62 (by rw [h1, hG])
  rw [LF.1, LF.2] at LG
  have NS := hide (rnews_ok N c hc)
  have dq : N ≤ 65536 / G := (Nat.le_div_iff_mul_le (by omega)).2 (by rw [Nat.mul_comm]; exact h2)
  obtain ⟨Q, hQ⟩ : ∃ Q, Q = 65536 / G := ⟨_, rfl⟩
  have q1 : (65536 : Int) / g = (Q : Int) := by rw [h1, hQ]; simp
  have q2 : Int.tdiv 65536 g = (Q : Int) := by rw [Int.tdiv_eq_ediv_of_nonneg (by decide)]; exact q1
  have q3 : (N : Int) ≤ (Q : Int) := by omega
  have q4 : (Q : Int) ≤ 65536 := by have : Q ≤ 65536 := by rw [hQ]; exact Nat.div_le_self _ _
                                    omega
  have g1 : 1 ≤ g := by omega
  have g2 : g ≤ 65536 := by omega
  have g3 : (g == 0) = false := by rw [beq_eq_false_iff_ne]; omega
  have c1 : (1 : Int) ≤ (c : Int) := by have := hc.1; omega
  have c2 : ((c : Int) == 0) = false := by rw [beq_eq_false_iff_ne]; omega
  have HR := hide hR
  have HW := hide hW
  have HG := hide h1
  have RW := hide (show R < W1.heap.size from (Array.getElem?_eq_some_iff.1 RE.out.1).1)
  have F1 := hide (show Fresh w W1 from RE.out.2.1)
  rw [← hG]
  clear hR hW LF hc dq hQ G1 GN K62 h2 hG h1
  go_enter Try.func9, Try.ntmps9
  go_wp2_with fail
  rw [← HW.out, ← HR.out]
  refine (LG.out _).mono ?_
  rintro e w2 ⟨rfl, hw2⟩
  subst hw2
  go_wp2_with fail
  refine (NS.out _).mono ?_
  rintro e w3 ⟨u, rfl, s3, f3⟩
  obtain ⟨_, ua, uc, rfl, _⟩ := s3.at
  obtain ⟨V, hV⟩ : ∃ V, V = w3.heap.size := ⟨_, rfl⟩
  obtain ⟨w4, hw4⟩ : ∃ w4, w4 = w3.alloc (.cells #[.slice ua c uc] 26) := ⟨_, rfl⟩
  have f4 : Fresh w3 w4 := by rw [hw4]; exact fresh_box _ _ _
  have R4 := hide ((RE.out.fresh f3).fresh f4)
  have S4 := hide (s3.fresh f4)
  have VC : w4.heap[V]? = some (.cells #[.slice ua c uc] 26 (0, 0)) := by rw [hV, hw4]; exact heap_alloc_new w3 _
  have v0 : w4.cell? ⟨V, 0, none⟩ = some (.slice ua c uc) := cell_block VC 0 _ rfl
  have HV := hide hV
  have HW4 := hide hw4
  obtain ⟨r0, r1, r2, y0, y1, y2⟩ := R4.out.cells
  have R5 := hide (three_cells R4.out.1 (.int .i64 g) (.slice ua c uc) (.slice none 0 0))
  have F5 := hide (fresh_set (fresh_set (fresh_set R4.out.2.1 R4.out.2.2 0 (.int .i64 g)) R4.out.2.2 1 (.slice ua c uc)) R4.out.2.2 2 (.slice none 0 0))
  have S5 := hide (show SlotsNew w2.heap.size (((w4.setCell ⟨R, 0, none⟩ (.int .i64 g)).setCell ⟨R, 1, none⟩ (.slice ua c uc)).setCell ⟨R, 2, none⟩ (.slice none 0 0)) (.agg #[.slice ua c uc]) N c (fun _ => false) from fun w' hw => S4.out _ fun k hk hl => by
    have := RW.out
    rw [hw k hk (by simpa [World.setCell] using hl), heap_setCell_other _ ⟨R, 2, none⟩ k _ (by show k ≠ R; omega), heap_setCell_other _ ⟨R, 1, none⟩ k _ (by show k ≠ R; omega), heap_setCell_other _ ⟨R, 0, none⟩ k _ (by show k ≠ R; omega)])
  rw [HW4.out] at r0 r1 r2 y0 y1 y2 v0 R5 F5 S5
  rw [HV.out] at v0
  clear s3 f3 hV hw4 f4 VC S4 R4
  go_wp2
  clear r0 r1 r2 y0 y1 y2 v0
  generalize World.setCell _ ⟨R, 2, none⟩ _ = W9 at R5 F5 S5 ⊢
  have h0 : W9.cell? ⟨R, 0, none⟩ = some (.int .i64 g) := cell_block R5.out 0 _ rfl
  have h1 : W9.cell? ⟨R, 1, none⟩ = some (.slice ua c uc) := cell_block R5.out 1 _ rfl
  have h2 : W9.cell? ⟨R, 2, none⟩ = some (.slice none 0 0) := cell_block R5.out 2 _ rfl
  refine bodyPost_ret (by simp [results, Try.results9, go_sem, h0, h1, h2]; try rfl) rfl ?_
  exact ⟨_, rfl, fun w' hw => ⟨ua, uc, none, 0, by rw [HG.out]; rfl, S5.out w' fun k hk hl => hw k (Nat.le_trans F1.out.size hk) hl, spansIn_nil _⟩, F5.out⟩
set_option maxRecDepth 100000 in
set_option maxHeartbeats 1000000 in
theorem rnewe_no (g n m : Int) (hg : g ≤ 9223372036854775807) (h : ∀ K N c : Nat, ¬ EngOk g n m K N c) (w : World) :
    Calls Try.prog 9 #[.int .i64 g, .int .i64 n, .int .i64 m] w fun e w' => e = .returned (.tuple #[noEng, .bool false]) ∧ Fresh w w' := by
  unfold noEng
  obtain ⟨R, hR⟩ : ∃ R, R = w.heap.size := ⟨_, rfl⟩
  obtain ⟨W1, hW⟩ : ∃ W1, W1 = w.alloc (.cells #[.int .i64 0, .slice none 0 0, .slice none 0 0] 29) := ⟨_, rfl⟩
  have RE := hide (show ResE w R W1 from ⟨by rw [hR, hW]; exact heap_alloc_new w _, by rw [hW]; exact fresh_box _ _ _, by rw [hR]; exact Nat.le_refl _⟩)
  have HR := hide hR
  have HW := hide hW
  have LG := hide (fun w => rlog_any g w hg)
  clear hR hW
  have NS := hide (show ∀ w, Calls Try.prog 18 #[.int .i64 n, .int .i64 m] w fun e w' => ∃ ua c uc, e = .returned (.agg #[.slice ua c uc]) ∧ (c = 0 ∨ ∃ N : Nat, n = (N : Int) ∧ m = (c : Int) ∧ Cls N c) ∧ Fresh w w' from fun w => by
    by_cases hc : ∃ N c : Nat, n = N ∧ m = c ∧ Cls N c
    · obtain ⟨N, c, rfl, rfl, hc⟩ := hc
      refine (rnews_ok N c hc w).mono ?_
      rintro e w' ⟨u, rfl, s, f⟩
      obtain ⟨_, a, k, rfl, _⟩ := s.at
      exact ⟨a, c, k, rfl, .inr ⟨N, rfl, rfl, hc⟩, f⟩
    · refine (rnews_no n m (fun N c h1 h2 h3 => hc ⟨N, c, h1, h2, h3⟩) w).mono ?_
      rintro e w' ⟨rfl, f⟩
      exact ⟨none, 0, 0, rfl, .inl rfl, f⟩)
  have HH := hide h
  clear h
  rcases log_cases g hg with ⟨K, hK, hgk, lb, lv⟩ | ⟨lb, lv, _⟩
  · rw [lb, lv] at LG
    have GK := hide hgk
    have g1 : 1 ≤ g := by have : 1 ≤ 2 ^ K := Nat.pow_pos (by decide)
                          omega
    have g3 : (g == 0) = false := by rw [beq_eq_false_iff_ne]; omega
    clear lb lv hgk
    by_cases hbig : 65536 < g
    · go_enter Try.func9, Try.ntmps9
      go_wp2_with fail
      rw [← HW.out, ← HR.out]
      refine (LG.out _).mono ?_
      rintro e w2 ⟨rfl, hw2⟩
      subst hw2
      go_wp2_with fail
      refine (NS.out _).mono ?_
      rintro e w3 ⟨ua, c, uc, rfl, _, f3⟩
      have RF := hide ((RE.out.fresh f3).fresh (fresh_box w3 #[.slice ua c uc] 26))
      clear f3
      have R5 := hide (three_cells RF.out.1 (.int .i64 0) (.slice none 0 0) (.slice none 0 0))
      have F5 := hide (fresh_set (fresh_set (fresh_set RF.out.2.1 RF.out.2.2 0 (.int .i64 0)) RF.out.2.2 1 (.slice none 0 0)) RF.out.2.2 2 (.slice none 0 0))
      obtain ⟨r0, r1, r2, y0, y1, y2⟩ := RF.out.cells
      go_wp2
      clear r0 r1 r2 y0 y1 y2
      generalize World.setCell _ ⟨R, 2, none⟩ _ = W9 at R5 F5 ⊢
      have h0 : W9.cell? ⟨R, 0, none⟩ = some (.int .i64 0) := cell_block R5.out 0 _ rfl
      have h1 : W9.cell? ⟨R, 1, none⟩ = some (.slice none 0 0) := cell_block R5.out 1 _ rfl
      have h2 : W9.cell? ⟨R, 2, none⟩ = some (.slice none 0 0) := cell_block R5.out 2 _ rfl
      refine bodyPost_ret (by simp [results, Try.results9, go_sem, h0, h1, h2]; try rfl) rfl ?_
      exact ⟨rfl, F5.out⟩
    · have hsm : g ≤ 65536 := by omega
      obtain ⟨Q, hQ⟩ : ∃ Q : Int, Q = 65536 / g := ⟨_, rfl⟩
      have q1 : (65536 : Int) / g = Q := hQ.symm
      have q2 : Int.tdiv 65536 g = Q := by rw [Int.tdiv_eq_ediv_of_nonneg (by decide)]; exact q1
      have QQ := hide (show ∀ N : Nat, Q < (N : Int) ∨ 2 ^ K * N ≤ 65536 from fun N => by
        rcases Int.lt_or_le Q (N : Int) with h | h
        · exact .inl h
        · refine .inr ?_
          rw [hQ, Int.le_ediv_iff_mul_le (by omega)] at h
          have e : ((2 ^ K * N : Nat) : Int) = (N : Int) * g := by rw [GK.out, Int.mul_comm]; simp
          have : ((2 ^ K * N : Nat) : Int) ≤ 65536 := by rw [e]; exact h
          omega)
      have q5 : 0 ≤ Q := by rw [hQ]; exact Int.ediv_nonneg (by decide) (by omega)
      have q6 : Q ≤ 65536 := by rw [hQ]; exact Int.ediv_le_self _ (by decide)
      clear hQ hbig
      go_enter Try.func9, Try.ntmps9
      go_wp2_with fail
      rw [← HW.out, ← HR.out]
      refine (LG.out _).mono ?_
      rintro e w2 ⟨rfl, hw2⟩
      subst hw2
      go_wp2_with fail
      refine (NS.out _).mono ?_
      rintro e w3 ⟨ua, c, uc, rfl, hc, f3⟩
      have RF := hide ((RE.out.fresh f3).fresh (fresh_box w3 #[.slice ua c uc] 26))
      clear f3
      rcases hc with rfl | ⟨N, hn, hm, hcl⟩
      ·
        have R5 := hide (three_cells RF.out.1 (.int .i64 0) (.slice none 0 0) (.slice none 0 0))
        have F5 := hide (fresh_set (fresh_set (fresh_set RF.out.2.1 RF.out.2.2 0 (.int .i64 0)) RF.out.2.2 1 (.slice none 0 0)) RF.out.2.2 2 (.slice none 0 0))
        obtain ⟨r0, r1, r2, y0, y1, y2⟩ := RF.out.cells
        go_wp2
        clear r0 r1 r2 y0 y1 y2
        generalize World.setCell _ ⟨R, 2, none⟩ _ = W9 at R5 F5 ⊢
        have h0 : W9.cell? ⟨R, 0, none⟩ = some (.int .i64 0) := cell_block R5.out 0 _ rfl
        have h1 : W9.cell? ⟨R, 1, none⟩ = some (.slice none 0 0) := cell_block R5.out 1 _ rfl
        have h2 : W9.cell? ⟨R, 2, none⟩ = some (.slice none 0 0) := cell_block R5.out 2 _ rfl
        refine bodyPost_ret (by simp [results, Try.results9, go_sem, h0, h1, h2]; try rfl) rfl ?_
        exact ⟨rfl, F5.out⟩
      · have c1 : ((c : Int) == 0) = false := by rw [beq_eq_false_iff_ne]; have := hcl.1; omega
        have hlt : Q < n := by
          rcases QQ.out N with h | h
          · omega
          · exact absurd ⟨GK.out, h, hn, hm, hcl⟩ (HH.out K N c)
        clear hn hm hcl
        have R5 := hide (three_cells RF.out.1 (.int .i64 0) (.slice none 0 0) (.slice none 0 0))
        have F5 := hide (fresh_set (fresh_set (fresh_set RF.out.2.1 RF.out.2.2 0 (.int .i64 0)) RF.out.2.2 1 (.slice none 0 0)) RF.out.2.2 2 (.slice none 0 0))
        obtain ⟨r0, r1, r2, y0, y1, y2⟩ := RF.out.cells
        go_wp2
        clear r0 r1 r2 y0 y1 y2
        generalize World.setCell _ ⟨R, 2, none⟩ _ = W9 at R5 F5 ⊢
        have h0 : W9.cell? ⟨R, 0, none⟩ = some (.int .i64 0) := cell_block R5.out 0 _ rfl
        have h1 : W9.cell? ⟨R, 1, none⟩ = some (.slice none 0 0) := cell_block R5.out 1 _ rfl
        have h2 : W9.cell? ⟨R, 2, none⟩ = some (.slice none 0 0) := cell_block R5.out 2 _ rfl
        refine bodyPost_ret (by simp [results, Try.results9, go_sem, h0, h1, h2]; try rfl) rfl ?_
        exact ⟨rfl, F5.out⟩
  · rw [lb, lv] at LG
    clear lb lv
    go_enter Try.func9, Try.ntmps9
    go_wp2_with fail
    rw [← HW.out, ← HR.out]
    refine (LG.out _).mono ?_
    rintro e w2 ⟨rfl, hw2⟩
    subst hw2
    go_wp2_with fail
    refine (NS.out _).mono ?_
    rintro e w3 ⟨ua, c, uc, rfl, _, f3⟩
    have RF := hide ((RE.out.fresh f3).fresh (fresh_box w3 #[.slice ua c uc] 26))
    clear f3
    have R5 := hide (three_cells RF.out.1 (.int .i64 0) (.slice none 0 0) (.slice none 0 0))
    have F5 := hide (fresh_set (fresh_set (fresh_set RF.out.2.1 RF.out.2.2 0 (.int .i64 0)) RF.out.2.2 1 (.slice none 0 0)) RF.out.2.2 2 (.slice none 0 0))
    obtain ⟨r0, r1, r2, y0, y1, y2⟩ := RF.out.cells
    go_wp2
    clear r0 r1 r2 y0 y1 y2
    generalize World.setCell _ ⟨R, 2, none⟩ _ = W9 at R5 F5 ⊢
    have h0 : W9.cell? ⟨R, 0, none⟩ = some (.int .i64 0) := cell_block R5.out 0 _ rfl
    have h1 : W9.cell? ⟨R, 1, none⟩ = some (.slice none 0 0) := cell_block R5.out 1 _ rfl
    have h2 : W9.cell? ⟨R, 2, none⟩ = some (.slice none 0 0) := cell_block R5.out 2 _ rfl
    refine bodyPost_ret (by simp [results, Try.results9, go_sem, h0, h1, h2]; try rfl) rfl ?_
    exact ⟨rfl, F5.out⟩
end Go.Proofs.Ytegolecdmpikhaa
/- What the document's own Release answers (hodmanref8), as a contract. -/
namespace Go.Proofs.Ytegolecdmpikhaa
open Go.RowKit

set_option maxRecDepth 100000 in
set_option maxHeartbeats 1000000 in
theorem rrel_no (v : Value) (G N c : Nat) (p : Nat → Bool) (ps : List Pc) (x : Int) (w : World) (h : EngAt w v G N c p ps) (hv : Inv G N c ps) (hlen : ps.length ≤ 1000) (hl : hitM ps x = false) :
    Calls Try.prog 14 #[v, .int .i64 x] w fun e w' => e = .returned (.tuple #[v, .int .i64 0, .bool false]) ∧ Fresh w w' := by
  obtain ⟨sa, sc, ma, mc, rfl, h1, h2⟩ := h
  obtain ⟨W1, n, R, hW, hn, hR, hg⟩ := eng_start w (G : Int) (.slice sa c sc) (.slice ma ps.length mc)
  have RT := hide (rtake_any _ ps x W1 (h2.fresh hg.el) hv.rise (by omega))
  rw [hl] at RT
  have HG := hide hg
  have HW := hide hW
  have HN := hide hn
  have HR := hide hR
  clear h1 h2 hl hW hn hR hg hv hlen
  generalize (G : Int) = gg at *
  generalize ps.length = pl at *
  go_enter Try.func14, Try.ntmps14
  go_wp2_with fail
  rw [← HW.out, ← HR.out, ← HN.out]
  refine RT.out.mono ?_
  rintro e w2 ⟨u, rfl, _, f2, _⟩
  have H2 := hide (HG.out.fresh f2)
  have H3 := hide ((HG.out.fresh f2).set (.int .i64 gg) (.slice sa c sc) (.slice ma pl mc))
  have B3 := hide (three_cells (H2.out.res.choose_spec.choose_spec.choose_spec) (.int .i64 gg) (.slice sa c sc) (.slice ma pl mc))
  clear f2 RT
  obtain ⟨c0, c1, c2⟩ := H2.out.cells
  obtain ⟨_, _, _, r0, r1, r2, q0, q1, q2⟩ := H2.out.free
  go_wp2
  clear c0 c1 c2 r0 r1 r2 q0 q1 q2 H2
  generalize ((w2.setCell ⟨R, 0, none⟩ (.int .i64 gg)).setCell ⟨R, 1, none⟩ (.slice sa c sc)).setCell ⟨R, 2, none⟩ (.slice ma pl mc) = W9 at H3 B3 ⊢
  have h0 : W9.cell? ⟨R, 0, none⟩ = some (.int .i64 gg) := cell_block B3.out 0 _ rfl
  have h1 : W9.cell? ⟨R, 1, none⟩ = some (.slice sa c sc) := cell_block B3.out 1 _ rfl
  have h2 : W9.cell? ⟨R, 2, none⟩ = some (.slice ma pl mc) := cell_block B3.out 2 _ rfl
  refine bodyPost_ret (by simp [results, Try.results14, go_sem, h0, h1, h2]; try rfl) rfl ?_
  exact ⟨rfl, H3.out.el⟩

set_option maxRecDepth 100000 in
set_option maxHeartbeats 1000000 in
theorem rrel_yes (v : Value) (G N c : Nat) (p : Nat → Bool) (ps : List Pc) (x : Int) (k i : Nat) (w : World) (h : EngAt w v G N c p ps) (hv : Inv G N c ps) (hlen : ps.length ≤ 1000) (hh : hitM ps x = true) (hx : x = ((i * 2 ^ k * G : Nat) : Int)) (hc : clsM ps x = (k : Int)) (hk : k < c) (hi : (i + 1) * 2 ^ k ≤ N) :
    Calls Try.prog 14 #[v, .int .i64 x] w fun e w' => ∃ u, e = .returned (.tuple #[u, .int .i64 (k : Int), .bool true]) ∧ EngNew w.heap.size w' u (Eng.tak ⟨G, N, c, p, ps⟩ k i) ∧ Fresh w w' := by
  obtain ⟨sa, sc, ma, mc, rfl, h1, h2⟩ := h
  obtain ⟨W1, n, R, hW, hn, hR, hg⟩ := eng_start w (G : Int) (.slice sa c sc) (.slice ma ps.length mc)
  have RT := hide (rtake_any _ ps x W1 (h2.fresh hg.el) hv.rise (by omega))
  rw [hh, hc] at RT
  obtain ⟨b1, b2, b3, b4⟩ := hv.low hi
  have hN := hv.cls.2.1
  have hG := hv.g
  obtain ⟨M, hM⟩ : ∃ M, M = 2 ^ k := ⟨_, rfl⟩
  obtain ⟨IM, hIM⟩ : ∃ IM, IM = i * 2 ^ k := ⟨_, rfl⟩
  have RZ := hide (fun w => rsizeE_any k (by omega) w)
  rw [← hM] at RZ b2
  rw [← hIM] at b1 b3 hx
  have PV := hide (hv.tak x)
  have PL := hide (show (takM ps x).length ≤ 1048576 by have := takM_length ps x; omega)
  have US := hide (fun w' (j : Fresh w w') => ruse_any _ N c p (IM : Int) (M : Int) false w' (h1.fresh j) (by omega) (by omega))
  have z1 : (0 : Int) ≤ (IM : Int) := by omega
  have z2 : (IM : Int) ≤ 65536 := by omega
  have z3 : (0 : Int) ≤ x := by omega
  have z4 : x ≤ 65536 := by omega
  have d0 : x.tdiv (G : Int) = (IM : Int) := by
    rw [hx, Int.tdiv_eq_ediv_of_nonneg (by omega)]
    have : ((IM * G : Nat) : Int) / (G : Int) = ((IM * G / G : Nat) : Int) := by simp
    rw [this, Nat.mul_div_cancel _ (by omega)]
  have d1 : IntKind.i64.wrap (x.tdiv (G : Int)) = (IM : Int) := by rw [d0]; exact wrapT _ z1 z2
  have d2 : IntKind.i64.wrap (IM : Int) = (IM : Int) := wrapT _ z1 z2
  have g1 : ((G : Int) == 0) = false := by rw [beq_eq_false_iff_ne]; omega
  have g2 : (1 : Int) ≤ (G : Int) := by omega
  have g3 : ¬ ((G : Int) = 0) := by omega
  have HG := hide hg
  have HW := hide hW
  have HN := hide hn
  have HR := hide hR
  have RW := hide (show R < W1.heap.size by obtain ⟨x, y, z, hr⟩ := hg.res; exact (Array.getElem?_eq_some_iff.1 hr).1)
  unfold Eng.tak
  simp only
  rw [← hIM, ← hM, ← hx]
  clear h1 h2 hW hn hR hg hi hv hlen hk hM hIM b1 b2 b3 b4 hN hG hh hc hx
  obtain ⟨gg, hgg⟩ : ∃ gg, gg = (G : Int) := ⟨_, rfl⟩
  have GG := hide hgg
  rw [← hgg] at d0 d1 g1 g2 g3 HG HW
  rw [← hgg]
  clear hgg
  generalize hpl : ps.length = pl at *
  go_enter Try.func14, Try.ntmps14
  go_wp2_with fail
  rw [← HW.out, ← HR.out, ← HN.out]
  refine RT.out.mono ?_
  rintro e w2 ⟨u2, rfl, _, f2, o2⟩
  have O2 := hide (o2 (by trivial))
  obtain ⟨pa, pc, rfl⟩ := O2.out.shape
  have H2 := hide (HG.out.fresh f2)
  have B2 := hide (Nat.lt_of_lt_of_le RW.out f2.size)
  clear f2 o2 RT HG
  obtain ⟨c0, c1, c2⟩ := H2.out.cells
  have HS : Hid (HeldH w n R gg (.slice sa c sc) (.slice ma pl mc) w2.drew) := (H2.out.fresh (Fresh.refl _).drew).h
  have OD : Hid (OwnM w2.drew W1.heap.size (.slice pa (takM ps x).length pc) (takM ps x)) := O2.out.fresh (Fresh.refl _).drew
  have BD := hide (show R < w2.drew.heap.size from B2.out)
  go_wp2_with fail
  clear c0 c1 c2
  refine wp_region_held (S := HeldH w n R gg (.slice sa c sc) (.slice ma pl mc)) (by kernel_rfl) ?_
  change wpAnyH _ _ _ _ _ _ _ _ (World.drew _)
  generalize World.drew w2 = wd at HS BD OD ⊢
  refine held_take (i := 0) (d := 21) (v := ?_) rfl rfl (by kernel_rfl) (by kernel_rfl) (by kernel_rfl) (fun _ _ _ h => h) (by kernel_rfl) ?_ HS.out ?_
  rotate_left
  · intro wz hz
    obtain ⟨y0, y1, y2, -⟩ := hz
    go_simp
    first | done | with_reducible rfl
  refine held_take (i := 1) (d := 22) (v := ?_) rfl rfl (by kernel_rfl) (by kernel_rfl) (by kernel_rfl) (fun _ _ _ h => h) (by kernel_rfl) ?_ HS.out ?_
  rotate_left
  · intro wz hz
    obtain ⟨y0, y1, y2, -⟩ := hz
    go_simp
    first | done | with_reducible rfl
  refine held_take (i := 2) (d := 23) (v := ?_) rfl rfl (by kernel_rfl) (by kernel_rfl) (by kernel_rfl) (fun _ _ _ h => h) (by kernel_rfl) ?_ HS.out ?_
  rotate_left
  · intro wz hz
    obtain ⟨y0, y1, y2, -⟩ := hz
    go_simp
    first | done | with_reducible rfl
  refine held_take (i := 3) (d := 24) (v := ?_) rfl rfl (by kernel_rfl) (by kernel_rfl) (by kernel_rfl) (fun _ _ _ h => h) (by kernel_rfl) ?_ HS.out ?_
  rotate_left
  · intro wz hz
    obtain ⟨y0, y1, y2, -⟩ := hz
    go_simp
    first | done | with_reducible rfl
  refine held_take (i := 4) (d := 25) (v := ?_) rfl rfl (by kernel_rfl) (by kernel_rfl) (by kernel_rfl) (fun _ _ _ h => h) (by kernel_rfl) ?_ HS.out ?_
  rotate_left
  · intro wz hz
    obtain ⟨y0, y1, y2, -⟩ := hz
    go_simp
    first | done | with_reducible rfl
  refine held_take (i := 5) (d := 26) (v := ?_) rfl rfl (by kernel_rfl) (by kernel_rfl) (by kernel_rfl) (fun _ _ _ h => h) (by kernel_rfl) ?_ HS.out ?_
  rotate_left
  · intro wz hz
    obtain ⟨y0, y1, y2, -⟩ := hz
    go_simp
    first | done | with_reducible rfl
  refine held_take (i := 6) (d := 27) (v := ?_) rfl rfl (by kernel_rfl) (by kernel_rfl) (by kernel_rfl) (fun _ _ _ h => h) (by kernel_rfl) ?_ HS.out ?_
  rotate_left
  · intro wz hz
    obtain ⟨y0, y1, y2, -⟩ := hz
    go_simp
    first | done | with_reducible rfl
  refine held_take (i := 7) (d := 28) (v := ?_) rfl rfl (by kernel_rfl) (by kernel_rfl) (by kernel_rfl) (fun _ _ _ h => h) (by kernel_rfl) ?_ HS.out ?_
  rotate_left
  · intro wz hz
    obtain ⟨y0, y1, y2, -⟩ := hz
    go_simp
    first | done | with_reducible rfl
  refine held_take (i := 8) (d := 29) (v := ?_) rfl rfl (by kernel_rfl) (by kernel_rfl) (by kernel_rfl) (fun _ _ _ h => h) (by kernel_rfl) ?_ HS.out ?_
  rotate_left
  · intro wz hz
    obtain ⟨y0, y1, y2, -⟩ := hz
    go_simp
    first | done | with_reducible rfl
  refine held_take (i := 11) (d := 32) (v := ?_) rfl rfl (by kernel_rfl) (by kernel_rfl) (by kernel_rfl) (fun _ _ _ h => h) (by kernel_rfl) ?_ HS.out ?_
  rotate_left
  · intro wz hz
    obtain ⟨y0, y1, y2, -⟩ := hz
    go_simp
    first | done | with_reducible rfl
  refine held_take (i := 13) (d := 34) (v := ?_) rfl rfl (by kernel_rfl) (by kernel_rfl) (by kernel_rfl) (fun _ _ _ h => h) (by kernel_rfl) ?_ HS.out ?_
  rotate_left
  · intro wz hz
    obtain ⟨y0, y1, y2, -⟩ := hz
    go_simp
    first | done | with_reducible rfl
  refine wpAnyH_ready (rs := [9]) (by kernel_rfl) (by simp) ?_
  refine AllReadyH.cons rfl (fun K hK => ?_) AllReadyH.nil
  go_simp
  go_wp2_with fail
  refine (RZ.out _).mono ?_; rintro e w3 ⟨rfl, hw3⟩; subst hw3
  refine hK.out _ _ HS.out (fun _ => ?_)
  clear hK K
  refine wpAnyH_ready (rs := [10]) (by kernel_rfl) (by simp) ?_
  refine AllReadyH.cons rfl (fun K hK => ?_) AllReadyH.nil
  go_simp
  go_wp2_with fail
  refine (US.out _ HS.out.2.2.2.el).mono ?_; rintro e w4 ⟨u4, rfl, s4, f4⟩; obtain ⟨_, ua, uc, rfl, _⟩ := s4.at; have S4 := hide s4; have O4 := hide (OD.out.fresh f4); have HS' := hide ((HS.out.2.2.2.fresh f4).h); clear HS s4 f4; have HS := HS'; clear HS'
  refine hK.out _ _ HS.out (fun _ => ?_)
  clear hK K
  refine held_take (i := 12) (d := 33) (v := ?_) rfl rfl (by kernel_rfl) (by kernel_rfl) (by kernel_rfl) (fun _ _ _ h => h) (by kernel_rfl) ?_ HS.out ?_
  rotate_left
  · intro wz hz
    obtain ⟨y0, y1, y2, -⟩ := hz
    go_simp
    first | done | with_reducible rfl
  have EN := hide (eng_stored (x := .int .i64 gg) (y := .slice ua c uc) (z := .slice pa (takM ps x).length pc) GG.out HS.out.2.2.2 S4.out BD.out O4.out RW.out PL.out PV.out.in64)
  have B3 := hide (three_cells (HS.out.2.2.2.res.choose_spec.choose_spec.choose_spec) (.int .i64 gg) (.slice ua c uc) (.slice pa (takM ps x).length pc))
  obtain ⟨_, _, _, r0, r1, r2, q0, q1, q2⟩ := HS.out.2.2.2.free
  refine wpAnyH_ready (rs := [14]) (by kernel_rfl) (by simp) ?_
  refine AllReadyH.cons rfl (fun K hK => ?_) AllReadyH.nil
  go_simp
  have HS' := hide ((HS.out.2.2.2.set (.int .i64 gg) (.slice ua c uc) (.slice pa (takM ps x).length pc)).h); clear HS r0 r1 r2 q0 q1 q2 S4 O4; generalize World.setCell _ ⟨R, 2, none⟩ _ = W9 at EN B3 HS' ⊢; have HS := HS'; clear HS'
  refine hK.out _ _ HS.out (fun _ => ?_)
  clear hK K
  refine held_take (i := 15) (d := 5) (v := ?_) rfl rfl (by kernel_rfl) (by kernel_rfl) (by kernel_rfl) (fun _ _ _ h => h) (by kernel_rfl) ?_ HS.out ?_
  rotate_left
  · intro wz hz
    obtain ⟨y0, y1, y2, -⟩ := hz
    go_simp
    first | done | with_reducible rfl
  refine held_take (i := 16) (d := 6) (v := ?_) rfl rfl (by kernel_rfl) (by kernel_rfl) (by kernel_rfl) (fun _ _ _ h => h) (by kernel_rfl) ?_ HS.out ?_
  rotate_left
  · intro wz hz
    obtain ⟨y0, y1, y2, -⟩ := hz
    go_simp
    first | done | with_reducible rfl
  refine wpAnyH_done (by kernel_rfl) ?_ _
  try simp only [Act.put, List.setIfInBounds_toArray, List.set_cons_succ, List.set_cons_zero]
  go_wp2
  have h0 : W9.cell? ⟨R, 0, none⟩ = some (.int .i64 gg) := cell_block B3.out 0 _ rfl
  have h1 : W9.cell? ⟨R, 1, none⟩ = some (.slice ua c uc) := cell_block B3.out 1 _ rfl
  have h2 : W9.cell? ⟨R, 2, none⟩ = some (.slice pa (takM ps x).length pc) := cell_block B3.out 2 _ rfl
  refine bodyPost_ret (by simp [results, Try.results14, go_sem, h0, h1, h2]; try rfl) rfl ?_
  exact ⟨_, rfl, EN.out.mono (Nat.le_trans HS.out.2.2.2.le.1 (Nat.le_succ _)), HS.out.2.2.2.el⟩
end Go.Proofs.Ytegolecdmpikhaa
/- Blocks that are placed and released, of no program's text: which granules are live is which marks say (Cov); it stays so. -/
namespace Go.Proofs.Ytegolecdmpikhaa

/-- granule g is the block's whose mark is q -/
def Covers (G : Nat) (q : Pc) (g : Nat) : Prop := ∃ k i : Nat, q = (((i * 2 ^ k * G : Nat) : Int), (k : Int)) ∧ i * 2 ^ k ≤ g ∧ g < i * 2 ^ k + 2 ^ k
/-- live is what a block has, each granule one's -/
structure Cov (G N : Nat) (p : Nat → Bool) (ps : List Pc) : Prop where
  live : ∀ g, g < N → (p g = true ↔ ∃ q ∈ ps, Covers G q g)
  one : ∀ g q r, q ∈ ps → r ∈ ps → Covers G q g → Covers G r g → q = r
theorem cov_nil (G N : Nat) : Cov G N (fun _ => false) [] := ⟨fun g _ => ⟨fun h => (by cases h), fun ⟨q, hq, _⟩ => (by simp at hq)⟩, fun g q r hq => by simp at hq⟩
theorem covers_at {G k i : Nat} (hG : 1 ≤ G) {g : Nat} (h : Covers G (((i * 2 ^ k * G : Nat) : Int), (k : Int)) g) : i * 2 ^ k ≤ g ∧ g < i * 2 ^ k + 2 ^ k := by
  obtain ⟨k', i', e, h1, h2⟩ := h
  have e1 : ((i * 2 ^ k * G : Nat) : Int) = ((i' * 2 ^ k' * G : Nat) : Int) := congrArg Prod.fst e
  have e2 : (k : Int) = (k' : Int) := congrArg Prod.snd e
  obtain rfl : k = k' := by omega
  have e3 : i * 2 ^ k * G = i' * 2 ^ k * G := by exact_mod_cast e1
  have e4 : i * 2 ^ k = i' * 2 ^ k := Nat.eq_of_mul_eq_mul_right (by omega) e3
  omega
theorem covers_mk {G k i g : Nat} (h1 : i * 2 ^ k ≤ g) (h2 : g < i * 2 ^ k + 2 ^ k) : Covers G (((i * 2 ^ k * G : Nat) : Int), (k : Int)) g := ⟨k, i, rfl, h1, h2⟩
/-- where a place is free no mark begins -/
theorem free_miss {G N c : Nat} {p : Nat → Bool} {ps : List Pc} (hv : Inv G N c ps) (hc : Cov G N p ps) {k i : Nat} (hi : (i + 1) * 2 ^ k ≤ N) (hf : clsB p k i = false) : ∀ q ∈ ps, q.1 ≠ ((i * 2 ^ k * G : Nat) : Int) := by
  intro q hq e
  obtain ⟨k', i', rfl, hk', hi'⟩ := hv.marks q hq
  have e1 : ((i' * 2 ^ k' * G : Nat) : Int) = ((i * 2 ^ k * G : Nat) : Int) := e
  have e3 : i' * 2 ^ k' * G = i * 2 ^ k * G := by exact_mod_cast e1
  have e4 : i' * 2 ^ k' = i * 2 ^ k := Nat.eq_of_mul_eq_mul_right (by have := hv.g; omega) e3
  have p1 : 1 ≤ 2 ^ k := Nat.pow_pos (by decide)
  have p2 : 1 ≤ 2 ^ k' := Nat.pow_pos (by decide)
  have hN : i * 2 ^ k < N := by rw [Nat.succ_mul] at hi; omega
  have hl := (hc.live (i * 2 ^ k) hN).2 ⟨_, hq, covers_mk (by omega) (by omega)⟩
  have : clsB p k i = true := (cls_iff p k i).2 ⟨0, by omega, by rw [Nat.add_zero]; exact hl⟩
  rw [hf] at this; cases this
theorem free_none {p : Nat → Bool} {k i g : Nat} (hf : clsB p k i = false) (h1 : i * 2 ^ k ≤ g) (h2 : g < i * 2 ^ k + 2 ^ k) : p g = false := by
  rw [Bool.eq_false_iff]
  intro h
  have : clsB p k i = true := (cls_iff p k i).2 ⟨g - i * 2 ^ k, by omega, by rw [Nat.add_sub_cancel' h1]; exact h⟩
  rw [hf] at this; cases this
theorem use_in {p : Nat → Bool} {a n : Nat} {on : Bool} {g : Nat} : useB p (a : Int) (n : Int) on g = if a ≤ g ∧ g < a + n then on else p g := by
  unfold useB
  by_cases h : a ≤ g ∧ g < a + n
  · rw [if_pos h, if_pos (by omega)]
  · rw [if_neg h, if_neg (by omega)]
theorem Cov.put {G N c : Nat} {p : Nat → Bool} {ps : List Pc} (hv : Inv G N c ps) (hc : Cov G N p ps) {k i : Nat} (hi : (i + 1) * 2 ^ k ≤ N) (hf : clsB p k i = false) :
    Cov G N (useB p ((i * 2 ^ k : Nat) : Int) ((2 ^ k : Nat) : Int) true) (putM ps (((i * 2 ^ k * G : Nat) : Int), (k : Int))) := by
  have hm := free_miss hv hc hi hf
  refine ⟨fun g hg => ?_, fun g q r hq hr cq cr => ?_⟩
  · rw [use_in]
    by_cases h : i * 2 ^ k ≤ g ∧ g < i * 2 ^ k + 2 ^ k
    · rw [if_pos h]
      exact ⟨fun _ => ⟨_, (mem_put hv.rise).2 (.inl rfl), covers_mk h.1 h.2⟩, fun _ => rfl⟩
    · rw [if_neg h, hc.live g hg]
      constructor
      · rintro ⟨q, hq, cq⟩
        exact ⟨q, (mem_put hv.rise).2 (.inr ⟨hq, hm q hq⟩), cq⟩
      · rintro ⟨q, hq, cq⟩
        rcases (mem_put hv.rise).1 hq with rfl | ⟨hq, _⟩
        · exact absurd (covers_at hv.g cq) h
        · exact ⟨q, hq, cq⟩
  · have key : ∀ q ∈ ps, Covers G q g → ¬ (i * 2 ^ k ≤ g ∧ g < i * 2 ^ k + 2 ^ k) := fun q hq cq hin => by
      have hg : g < N := by rw [Nat.succ_mul] at hi; omega
      have := (hc.live g hg).2 ⟨q, hq, cq⟩
      rw [free_none hf hin.1 hin.2] at this; cases this
    rcases (mem_put hv.rise).1 hq with rfl | ⟨hq, _⟩
    · rcases (mem_put hv.rise).1 hr with rfl | ⟨hr, _⟩
      · rfl
      · exact absurd (covers_at hv.g cq) (key r hr cr)
    · rcases (mem_put hv.rise).1 hr with rfl | ⟨hr, _⟩
      · exact absurd (covers_at hv.g cr) (key q hq cq)
      · exact hc.one g q r hq hr cq cr
/-- marks that begin at one place are one -/
theorem rise_one {ps : List Pc} (h : Rise ps) {q r : Pc} (hq : q ∈ ps) (hr : r ∈ ps) (e : q.1 = r.1) : q = r := by
  obtain ⟨a, b⟩ := q
  obtain ⟨c, d⟩ := r
  simp only at e
  subst e
  have h1 := (find_some h).2 hq
  have h2 := (find_some h).2 hr
  rw [h1] at h2
  cases h2; rfl
theorem Cov.tak {G N c : Nat} {p : Nat → Bool} {ps : List Pc} (hv : Inv G N c ps) (hc : Cov G N p ps) {k i : Nat} (hq : ((((i * 2 ^ k * G : Nat) : Int), (k : Int)) : Pc) ∈ ps) :
    Cov G N (useB p ((i * 2 ^ k : Nat) : Int) ((2 ^ k : Nat) : Int) false) (takM ps ((i * 2 ^ k * G : Nat) : Int)) := by
  refine ⟨fun g hg => ?_, fun g q r hq hr cq cr => hc.one g q r ((mem_tak hv.rise).1 hq).1 ((mem_tak hv.rise).1 hr).1 cq cr⟩
  rw [use_in]
  by_cases h : i * 2 ^ k ≤ g ∧ g < i * 2 ^ k + 2 ^ k
  · rw [if_pos h]
    refine ⟨fun h => (by cases h), fun ⟨r, hr, cr⟩ => ?_⟩
    obtain ⟨hr1, hr2⟩ := (mem_tak hv.rise).1 hr
    have := hc.one g _ r hq hr1 (covers_mk h.1 h.2) cr
    rw [← this] at hr2
    exact absurd rfl hr2
  · rw [if_neg h, hc.live g hg]
    constructor
    · rintro ⟨r, hr, cr⟩
      refine ⟨r, (mem_tak hv.rise).2 ⟨hr, fun e => ?_⟩, cr⟩
      have := rise_one hv.rise hr hq e
      rw [this] at cr
      exact h (covers_at hv.g cr)
    · rintro ⟨r, hr, cr⟩
      exact ⟨r, ((mem_tak hv.rise).1 hr).1, cr⟩
/-- who releases what was placed has what was -/
theorem use_back {p : Nat → Bool} {k i g : Nat} (hf : clsB p k i = false) : useB (useB p ((i * 2 ^ k : Nat) : Int) ((2 ^ k : Nat) : Int) true) ((i * 2 ^ k : Nat) : Int) ((2 ^ k : Nat) : Int) false g = p g := by
  rw [use_in]
  by_cases h : i * 2 ^ k ≤ g ∧ g < i * 2 ^ k + 2 ^ k
  · rw [if_pos h, free_none hf h.1 h.2]
  · rw [if_neg h, use_in, if_neg h]
theorem rise_ext : ∀ (a b : List Pc), Rise a → Rise b → (∀ q, q ∈ a ↔ q ∈ b) → a = b
  | [], [], _, _, _ => rfl
  | [], y :: t, _, _, h => absurd ((h y).2 (List.mem_cons_self)) (by simp)
  | x :: s, [], _, _, h => absurd ((h x).1 (List.mem_cons_self)) (by simp)
  | x :: s, y :: t, ha, hb, h => by
    obtain ⟨a1, a2⟩ := List.pairwise_cons.1 ha
    obtain ⟨b1, b2⟩ := List.pairwise_cons.1 hb
    have e : x = y := by
      rcases List.mem_cons.1 ((h x).1 List.mem_cons_self) with e | hx
      · exact e
      · rcases List.mem_cons.1 ((h y).2 List.mem_cons_self) with e | hy
        · exact e.symm
        · have := b1 x hx; have := a1 y hy; omega
    subst e
    rw [rise_ext s t a2 b2 fun q => ?_]
    constructor
    · intro hq
      rcases List.mem_cons.1 ((h q).1 (List.mem_cons_of_mem _ hq)) with e | hq'
      · subst e; have := a1 q hq; omega
      · exact hq'
    · intro hq
      rcases List.mem_cons.1 ((h q).2 (List.mem_cons_of_mem _ hq)) with e | hq'
      · subst e; have := b1 q hq; omega
      · exact hq'
theorem tak_put {ps : List Pc} (hr : Rise ps) {m : Pc} (h : ∀ q ∈ ps, q.1 ≠ m.1) : takM (putM ps m) m.1 = ps := by
  refine rise_ext _ _ (rise_tak (rise_put hr m) m.1) hr fun q => ?_
  rw [mem_tak (rise_put hr m), mem_put hr]
  constructor
  · rintro ⟨h1 | h1, h2⟩
    · rw [h1] at h2; exact absurd rfl h2
    · exact h1.1
  · intro hq
    exact ⟨.inr ⟨hq, h q hq⟩, h q hq⟩
end Go.Proofs.Ytegolecdmpikhaa
/- What the document's own SameEngine answers of none (hodmanref8), as a contract. -/
namespace Go.Proofs.Ytegolecdmpikhaa
open Go.RowKit

set_option maxRecDepth 100000 in
set_option maxHeartbeats 1000000 in
theorem rsamee_none (w : World) : Calls Try.prog 10 #[noEng, noEng] w fun e w' => e = .returned (.bool true) ∧ Fresh w w' := by
  unfold noEng
  have SN := hide (fun w => ssame_none w)
  unfold noSlots at SN
  obtain ⟨n, hn⟩ : ∃ n, n = w.heap.size := ⟨_, rfl⟩
  obtain ⟨m, hm⟩ : ∃ m, m = w.heap.size + 1 := ⟨_, rfl⟩
  obtain ⟨W1, hW1⟩ : ∃ W1, W1 = (w.alloc (.cells #[.int .i64 0, .slice none 0 0, .slice none 0 0] 29)).alloc (.cells #[.int .i64 0, .slice none 0 0, .slice none 0 0] 29) := ⟨_, rfl⟩
  have FW : Fresh w W1 := by rw [hW1]; exact fresh_more (fresh_box _ _ _) _ _
  have bm : W1.heap[m]? = some (.cells #[.int .i64 0, .slice none 0 0, .slice none 0 0] 29 (0, 0)) := by
    rw [hm, hW1]
    have := heap_alloc_new (w.alloc (.cells #[.int .i64 0, .slice none 0 0, .slice none 0 0] 29)) (.cells #[.int .i64 0, .slice none 0 0, .slice none 0 0] 29 (0, 0))
    rwa [show (w.alloc (.cells #[.int .i64 0, .slice none 0 0, .slice none 0 0] 29)).heap.size = w.heap.size + 1 by simp] at this
  have bn : W1.heap[n]? = some (.cells #[.int .i64 0, .slice none 0 0, .slice none 0 0] 29 (0, 0)) := by
    rw [hn, hW1, (fresh_box (w.alloc (.cells #[.int .i64 0, .slice none 0 0, .slice none 0 0] 29)) #[.int .i64 0, .slice none 0 0, .slice none 0 0] 29).block w.heap.size (by simp)]
    exact heap_alloc_new w _
  have H1 := hide (show HeldEE w n m 0 (.slice none 0 0) (.slice none 0 0) (.slice none 0 0) (.slice none 0 0) W1 from ⟨bn, bm, FW⟩)
  have HN := hide hn
  have HM := hide hm
  have HW := hide hW1
  clear hn hm hW1 FW bm bn
  go_enter Try.func10, Try.ntmps10
  go_wp2_with fail
  rw [← HW.out, ← HM.out, ← HN.out]
  refine (SN.out _).mono ?_
  rintro e w2 ⟨rfl, f2⟩
  have H2 := hide (H1.out.fresh f2)
  clear f2 H1
  obtain ⟨b1, b2, _⟩ := H2.out
  have c2 : w2.cell? ⟨n, 2, none⟩ = some (.slice none 0 0) := cell_block b1 2 _ rfl
  have d2 : w2.cell? ⟨m, 2, none⟩ = some (.slice none 0 0) := cell_block b2 2 _ rfl
  clear b1 b2
  go_wp2_with fail
  refine (msame_to _ _ [] [] true (by decide) _ (spansIn_nil _).1 (spansIn_nil _).1).mono ?_
  rintro e w3 ⟨rfl, nn, rfl⟩
  have F3 := hide (H2.out.2.2.trans (Fresh.drewN w2 nn))
  clear c2 d2
  go_wp2
  go_ret
  exact ⟨rfl, F3.out⟩
end Go.Proofs.Ytegolecdmpikhaa
/- What follows of the lowest place of a class: of no program's text. -/
namespace Go.Proofs.Ytegolecdmpikhaa

theorem low_cases {N c : Nat} (p : Nat → Bool) {k : Nat} (hk : k < c) :
    (∃ i, lowS N c p (k : Int) = some i ∧ i < N / 2 ^ k ∧ clsB p k i = false ∧ ∀ j, j < i → clsB p k j = true) ∨ (lowS N c p (k : Int) = none ∧ ∀ j, j < N / 2 ^ k → clsB p k j = true) := by
  have e : lowS N c p (k : Int) = first (bitV (trW N p k)) 0 (N / 2 ^ k) := by
    unfold lowS firstT
    rw [if_pos (by omega), Int.toNat_natCast, if_neg (by decide)]; rfl
  rw [e]
  rcases first_cases (bitV (trW N p k)) 0 (N / 2 ^ k) with ⟨i, e1, _, h2, h3, h4⟩ | ⟨e1, h⟩
  · refine .inl ⟨i, e1, h2, by rw [← tr_bit h2]; exact h3, fun j hj => ?_⟩
    rw [← tr_bit (show j < N / 2 ^ k by omega)]
    exact h4 j (Nat.zero_le _) hj
  · exact .inr ⟨e1, fun j hj => by rw [← tr_bit hj]; exact h j (Nat.zero_le _) hj⟩
/-- where a great place is free, a small one is, at or ahead of it -/
theorem low_less {N c : Nat} {p : Nat → Bool} {k i : Nat} (hc : Cls N c) (hk : k + 1 < c) (h : lowS N c p ((k + 1 : Nat) : Int) = some i) : ∃ j, lowS N c p (k : Int) = some j ∧ j ≤ 2 * i ∧ i ≤ 65536 := by
  have hh := hc.half hk
  have hp := (hc.pos (show k + 1 < c from hk)).2
  rcases low_cases (N := N) p hk with ⟨i', e1, h2, h3, _⟩ | ⟨e1, _⟩
  · rw [e1] at h
    cases h
    have hf := (free_below h3).1
    rcases low_cases (N := N) p (show k < c by omega) with ⟨j, e2, _, _, h6⟩ | ⟨e2, h6⟩
    · refine ⟨j, e2, ?_, by omega⟩
      rcases Nat.lt_or_ge (2 * i) j with g | g
      · have := h6 _ g; rw [hf] at this; cases this
      · exact g
    · have := h6 (2 * i) (by omega); rw [hf] at this; cases this
  · rw [e1] at h; cases h
end Go.Proofs.Ytegolecdmpikhaa
/- What is asked of package place (PlaceSays), the answers spelt by the caller; engines in variables (EV); hodmanlaw11's own helper begun answers true, given that. -/
namespace Go.Proofs.Ytegolecdmpikhaa
open Go.RowKit

def Low (X : Nat → Prop) (w : World) : Prop := ∀ k, X k → k < w.heap.size
structure Eng.Ok (E : Eng) : Prop where
  inv : Inv E.G E.N E.c E.ps
  cov : Cov E.G E.N E.p E.ps
  few : E.ps.length ≤ 1000
  pow : ∃ K, E.G = 2 ^ K
structure PlaceSays : Prop where
  new_yes : ∀ (g n m : Int) (K N c : Nat) (w : World), EngOk g n m K N c →
    Calls Try.prog 8 #[.int .i64 g, .int .i64 n, .int .i64 m] w fun e w' => ∃ u, e = .returned (.tuple #[u, .bool true]) ∧ EngNew w.heap.size w' u (Eng.none (2 ^ K) N c) ∧ Fresh w w'
  new_no : ∀ (g n m : Int) (w : World), In64 (g, n) → In64 (m, m) → (∀ K N c : Nat, ¬ EngOk g n m K N c) →
    Calls Try.prog 8 #[.int .i64 g, .int .i64 n, .int .i64 m] w fun e w' => e = .returned (.tuple #[noEng, .bool false]) ∧ Fresh w w'
  place_no : ∀ (v : Value) (E : Eng) (X : Nat → Prop) (x : Int) (w : World), EngOff X w v E → Low X w → E.Ok → In64 (x, x) → lowS E.N E.c E.p x = none →
    Calls Try.prog 11 #[v, .int .i64 x] w fun e w' => ∃ u, e = .returned (.tuple #[u, .int .i64 0, .bool false]) ∧ EngOff X w' u E ∧ Fresh w w'
  place_yes : ∀ (v : Value) (E : Eng) (X : Nat → Prop) (k i : Nat) (w : World), EngOff X w v E → Low X w → E.Ok → k < E.c → lowS E.N E.c E.p (k : Int) = some i → (i + 1) * 2 ^ k ≤ E.N →
    Calls Try.prog 11 #[v, .int .i64 (k : Int)] w fun e w' => ∃ u, e = .returned (.tuple #[u, .int .i64 ((i * 2 ^ k * E.G : Nat) : Int), .bool true]) ∧ EngOff X w' u (E.put k i) ∧ Fresh w w'
  rel_no : ∀ (v : Value) (E : Eng) (X : Nat → Prop) (x : Int) (w : World), EngOff X w v E → Low X w → E.Ok → In64 (x, x) → hitM E.ps x = false →
    Calls Try.prog 13 #[v, .int .i64 x] w fun e w' => ∃ u, e = .returned (.tuple #[u, .int .i64 0, .bool false]) ∧ EngOff X w' u E ∧ Fresh w w'
  rel_yes : ∀ (v : Value) (E : Eng) (X : Nat → Prop) (k i : Nat) (w : World), EngOff X w v E → Low X w → E.Ok → ((((i * 2 ^ k * E.G : Nat) : Int), (k : Int)) : Pc) ∈ E.ps → k < E.c → (i + 1) * 2 ^ k ≤ E.N →
    Calls Try.prog 13 #[v, .int .i64 ((i * 2 ^ k * E.G : Nat) : Int)] w fun e w' => ∃ u, e = .returned (.tuple #[u, .int .i64 (k : Int), .bool true]) ∧ EngOff X w' u (E.tak k i) ∧ Fresh w w'

/-- an engine's value, by letters -/
abbrev ev3 (g : Int) (sa : Option Addr) (c sc : Nat) (ma : Option Addr) (n mc : Nat) : Value := .agg #[.int .i64 g, .slice sa c sc, .slice ma n mc]
theorem EngIs.open {w : World} {v : Value} {E : Eng} (h : EngIs w v E) : ∃ g sa c sc ma n mc, v = .agg #[.int .i64 g, .slice sa c sc, .slice ma n mc] ∧ n = E.ps.length := by
  obtain ⟨sa, sc, ma, mc, e, _⟩ := h
  exact ⟨_, sa, _, sc, ma, _, mc, e, rfl⟩
theorem EngIs.len {w : World} {g : Int} {sa : Option Addr} {c sc : Nat} {ma : Option Addr} {n mc : Nat} {E : Eng} (h : EngIs w (ev3 g sa c sc ma n mc) E) : n = E.ps.length := by
  obtain ⟨sa', sc', ma', mc', e, _⟩ := h
  simp [ev3] at e
  exact e.2.2.2.1
/-- where marks lie -/
theorem EngIs.marks {w : World} {g : Int} {sa : Option Addr} {c sc : Nat} {ma : Option Addr} {n mc : Nat} {E : Eng} (h : EngIs w (ev3 g sa c sc ma n mc) E) : SpansIn w (.slice ma n mc) E.ps := by
  obtain ⟨sa', sc', ma', mc', e, _, h2⟩ := h
  simp [ev3] at e
  obtain ⟨_, _, rfl, rfl, rfl⟩ := e
  exact h2
/-- an engine in a variable -/
structure EV (X : Nat → Prop) (w : World) (b : Nat) (g : Int) (sa : Option Addr) (c sc : Nat) (ma : Option Addr) (n mc : Nat) (E : Eng) : Prop where
  blk : w.heap[b]? = some (.cells #[.int .i64 g, .slice sa c sc, .slice ma n mc] 29 (0, 0))
  off : EngOff X w (ev3 g sa c sc ma n mc) E
section
variable {X : Nat → Prop} {w w' : World} {b : Nat} {g : Int} {sa : Option Addr} {c sc : Nat} {ma : Option Addr} {n mc : Nat} {E : Eng}
theorem EV.lt (h : EV X w b g sa c sc ma n mc E) : b < w.heap.size := (Array.getElem?_eq_some_iff.1 h.blk).1
theorem EV.fresh (h : EV X w b g sa c sc ma n mc E) (k : Fresh w w') : EV X w' b g sa c sc ma n mc E := ⟨by rw [k.block b h.lt]; exact h.blk, h.off.fresh k⟩
theorem EV.cells (h : EV X w b g sa c sc ma n mc E) : w.cell? ⟨b, 0, none⟩ = some (.int .i64 g) ∧ w.cell? ⟨b, 1, none⟩ = some (.slice sa c sc) ∧ w.cell? ⟨b, 2, none⟩ = some (.slice ma n mc) :=
  ⟨cell_block h.blk 0 _ rfl, cell_block h.blk 1 _ rfl, cell_block h.blk 2 _ rfl⟩
theorem EV.free (h : EV X w b g sa c sc ma n mc E) : w.frozen? ⟨b, 0, none⟩ = false ∧ w.frozen? ⟨b, 1, none⟩ = false ∧ w.frozen? ⟨b, 2, none⟩ = false := ⟨free_block h.blk 0, free_block h.blk 1, free_block h.blk 2⟩
/-- what a call tells is laid in a variable -/
theorem ev_new (h : EngOff X w (ev3 g sa c sc ma n mc) E) : ∃ w' b, w' = w.alloc (.cells #[.int .i64 g, .slice sa c sc, .slice ma n mc] 29) ∧ b = w.heap.size ∧ EV X w' b g sa c sc ma n mc E ∧ Fresh w w' :=
  ⟨_, _, rfl, rfl, ⟨heap_alloc_new w _, h.fresh (fresh_box _ _ _)⟩, fresh_box _ _ _⟩
/-- .. which may turn from then on -/
theorem ev_first {base : Nat} (h : EngNew base w (ev3 g sa c sc ma n mc) E) : ∃ w' b, w' = w.alloc (.cells #[.int .i64 g, .slice sa c sc, .slice ma n mc] 29) ∧ b = w.heap.size ∧ EV (· = b) w' b g sa c sc ma n mc E ∧ Fresh w w' :=
  ⟨_, _, rfl, rfl, ⟨heap_alloc_new w _, h.off (fresh_box _ _ _) fun k hk => by have : k = w.heap.size := hk; omega⟩, fresh_box _ _ _⟩
/-- three stores into b -/
def sto (w : World) (b : Nat) (g : Int) (sa : Option Addr) (c sc : Nat) (ma : Option Addr) (n mc : Nat) : World := ((w.setCell ⟨b, 0, none⟩ (.int .i64 g)).setCell ⟨b, 1, none⟩ (.slice sa c sc)).setCell ⟨b, 2, none⟩ (.slice ma n mc)
theorem EngOff.sto {v : Value} (h : EngOff X w v E) (hb : X b) : EngOff X (sto w b g sa c sc ma n mc) v E := ((h.setCell hb _ _).setCell hb _ _).setCell hb _ _
theorem sto_blk {x y z : Value} (h : w.heap[b]? = some (.cells #[x, y, z] 29 (0, 0))) : (sto w b g sa c sc ma n mc).heap[b]? = some (.cells #[.int .i64 g, .slice sa c sc, .slice ma n mc] 29 (0, 0)) := three_cells h _ _ _
theorem sto_fresh {W : World} (f : Fresh W w) (hb : W.heap.size ≤ b) : Fresh W (sto w b g sa c sc ma n mc) := fresh_set (fresh_set (fresh_set f hb _ _) hb _ _) hb _ _
theorem sto_size : (sto w b g sa c sc ma n mc).heap.size = w.heap.size := by simp [sto, World.setCell]
theorem sto_other {k : Nat} (h : k ≠ b) : (sto w b g sa c sc ma n mc).heap[k]? = w.heap[k]? := by
  unfold sto
  rw [heap_setCell_other _ ⟨b, 2, none⟩ k _ h, heap_setCell_other _ ⟨b, 1, none⟩ k _ h, heap_setCell_other _ ⟨b, 0, none⟩ k _ h]
/-- the variable is turned -/
theorem EV.put {g' : Int} {sa' : Option Addr} {c' sc' : Nat} {ma' : Option Addr} {n' mc' : Nat} {F : Eng} (h : EV X w b g sa c sc ma n mc E) (hb : X b) (k : EngOff X w (ev3 g' sa' c' sc' ma' n' mc') F) : EV X (sto w b g' sa' c' sc' ma' n' mc') b g' sa' c' sc' ma' n' mc' F :=
  ⟨sto_blk h.blk, k.sto hb⟩
theorem EV.other {b' : Nat} {g' : Int} {sa' : Option Addr} {c' sc' : Nat} {ma' : Option Addr} {n' mc' : Nat} (h : EV X w b g sa c sc ma n mc E) (hb : X b') (hne : b ≠ b') : EV X (sto w b' g' sa' c' sc' ma' n' mc') b g sa c sc ma n mc E :=
  ⟨(sto_other hne).trans h.blk, h.off.sto hb⟩
end
/-- the same, by hand -/
theorem hit_mem {ps : List Pc} (h : Rise ps) {x y : Int} (hm : (x, y) ∈ ps) : hitM ps x = true ∧ clsM ps x = y := by
  have := (find_some h).2 hm
  unfold findM at this
  cases hh : hitM ps x with
  | true => rw [hh] at this; exact ⟨rfl, by unfold clsM; rw [hh]; simpa using this⟩
  | false => rw [hh] at this; cases this
theorem hit_is {G N c : Nat} {ps : List Pc} (h : Inv G N c ps) {x : Int} (hh : hitM ps x = true) : ∃ k i : Nat, x = ((i * 2 ^ k * G : Nat) : Int) ∧ k < c ∧ (i + 1) * 2 ^ k ≤ N ∧ clsM ps x = (k : Int) ∧ ((((i * 2 ^ k * G : Nat) : Int), (k : Int)) : Pc) ∈ ps := by
  have hf : findM ps x = some (clsM ps x) := by unfold findM clsM; rw [hh]; rfl
  have hm := (find_some h.rise).1 hf
  obtain ⟨k, i, e, hk, hi⟩ := h.marks _ hm
  have e1 : x = ((i * 2 ^ k * G : Nat) : Int) := congrArg Prod.fst e
  have e2 : clsM ps x = (k : Int) := congrArg Prod.snd e
  exact ⟨k, i, e1, hk, hi, e2, by rw [← e1, ← e2]; exact hm⟩
/-- what is placed and released stays so -/
theorem Eng.Ok.put {E : Eng} (h : E.Ok) {k i : Nat} (hk : k < E.c) (hi : (i + 1) * 2 ^ k ≤ E.N) (hf : clsB E.p k i = false) (hl : E.ps.length < 1000) : (E.put k i).Ok := by
  refine ⟨h.inv.put hk hi, h.cov.put h.inv hi hf, ?_, h.pow⟩
  show (putM E.ps _).length ≤ 1000
  rw [putM_length]; split <;> omega
theorem Eng.Ok.tak {E : Eng} (h : E.Ok) {k i : Nat} (hm : ((((i * 2 ^ k * E.G : Nat) : Int), (k : Int)) : Pc) ∈ E.ps) : (E.tak k i).Ok := by
  refine ⟨h.inv.tak _, h.cov.tak h.inv hm, ?_, h.pow⟩
  show (takM E.ps _).length ≤ 1000
  have := takM_length E.ps ((i * 2 ^ k * E.G : Nat) : Int)
  have := h.few
  split at * <;> omega
theorem Eng.Ok.none {G N c : Nat} (h1 : 1 ≤ G) (h2 : G * N ≤ 65536) (h3 : Cls N c) (h4 : ∃ K, G = 2 ^ K := by first | exact ⟨0, by decide⟩ | exact ⟨1, by decide⟩ | exact ⟨2, by decide⟩ | exact ⟨3, by decide⟩) : (Eng.none G N c).Ok := ⟨Inv.nil h1 h2 h3, cov_nil G N, Nat.zero_le _, h4⟩
theorem put_len (E : Eng) (k i : Nat) : (E.put k i).ps.length ≤ E.ps.length + 1 := by
  show (putM E.ps _).length ≤ _
  rw [putM_length]; split <;> omega
theorem tak_len (E : Eng) (k i : Nat) : (E.tak k i).ps.length ≤ E.ps.length := by
  show (takM E.ps _).length ≤ _
  have := takM_length E.ps ((i * 2 ^ k * E.G : Nat) : Int)
  split at this <;> omega
/-- the lowest place is one -/
theorem low_place {E : Eng} {k i : Nat} (hk : k < E.c) (hl : lowS E.N E.c E.p (k : Int) = some i) : (i + 1) * 2 ^ k ≤ E.N ∧ clsB E.p k i = false := by
  rcases low_cases (N := E.N) E.p hk with ⟨j, e, h2, h3, _⟩ | ⟨e, _⟩
  · rw [hl] at e
    cases e
    refine ⟨?_, h3⟩
    exact (Nat.le_div_iff_mul_le (Nat.pow_pos (by decide))).1 h2
  · rw [hl] at e; cases e
theorem Eng.Like.rfl' (E : Eng) : E.Like E := ⟨rfl, rfl, rfl, fun _ _ => rfl, rfl⟩
/-- who releases what was placed has what was -/
theorem put_tak {E : Eng} (h : E.Ok) {k i : Nat} (hi : (i + 1) * 2 ^ k ≤ E.N) (hf : clsB E.p k i = false) : ((E.put k i).tak k i).Like E :=
  ⟨rfl, rfl, rfl, fun _ _ => use_back hf, tak_put h.inv.rise (m := (((i * 2 ^ k * E.G : Nat) : Int), (k : Int))) (free_miss h.inv h.cov hi hf)⟩
theorem low_like {E F : Eng} (h : E.Like F) (x : Int) : lowS E.N E.c E.p x = lowS F.N F.c F.p x := by
  unfold lowS
  rw [h.n, h.c, tr_congr (fun i hi => h.p i (by rw [h.n]; exact hi)) x.toNat]
theorem Eng.Like.put {E F : Eng} (h : E.Like F) (k i : Nat) : (E.put k i).Like (F.put k i) := by
  refine ⟨h.g, h.n, h.c, fun g hg => ?_, ?_⟩
  · show useB E.p _ _ true g = useB F.p _ _ true g
    unfold useB
    split
    · rfl
    · exact h.p g hg
  · show putM E.ps _ = putM F.ps _
    rw [h.ps, h.g]
theorem same_like {w : World} {v u : Value} {E F : Eng} (h : EngIs w v E) (k : EngIs w u F) (e : E.Like F) : Calls Try.prog 10 #[v, u] w fun e w' => e = .returned (.bool true) ∧ Fresh w w' :=
  rsamee_true v u F.G F.N F.c F.p F.ps w (h.like e) k

/-! ### the answers spelt by the caller -/
section
variable (S : PlaceSays)
include S
theorem pnew_to (g n m : Int) (K N c : Nat) (E : Eng) (w : World) (h : EngOk g n m K N c) (hE : Eng.none (2 ^ K) N c = E) :
    Calls Try.prog 8 #[.int .i64 g, .int .i64 n, .int .i64 m] w fun e w' => ∃ g sa c sc ma n mc, e = .returned (.tuple #[ev3 g sa c sc ma n mc, .bool true]) ∧ EngNew w.heap.size w' (ev3 g sa c sc ma n mc) E ∧ Fresh w w' := by
  subst hE
  refine (S.new_yes g n m K N c w h).mono ?_
  rintro e w' ⟨u, rfl, s, f⟩
  obtain ⟨g, sa, c, sc, ma, n, mc, rfl, _⟩ := s.at.open
  exact ⟨g, sa, c, sc, ma, n, mc, rfl, s, f⟩
theorem pplace_no (v : Value) (E : Eng) (X : Nat → Prop) (x : Int) (w : World) (h : EngOff X w v E) (hX : Low X w) (ho : E.Ok) (hx : In64 (x, x)) (hl : lowS E.N E.c E.p x = none) :
    Calls Try.prog 11 #[v, .int .i64 x] w fun e w' => ∃ g sa c sc ma n mc, e = .returned (.tuple #[ev3 g sa c sc ma n mc, .int .i64 0, .bool false]) ∧ EngOff X w' (ev3 g sa c sc ma n mc) E ∧ Fresh w w' := by
  refine (S.place_no v E X x w h hX ho hx hl).mono ?_
  rintro e w' ⟨u, rfl, s, f⟩
  obtain ⟨g, sa, c, sc, ma, n, mc, rfl, _⟩ := s.at.open
  exact ⟨g, sa, c, sc, ma, n, mc, rfl, s, f⟩
theorem pplace_yes (v : Value) (E F : Eng) (X : Nat → Prop) (x r : Int) (k i : Nat) (w : World) (h : EngOff X w v E) (hX : Low X w) (ho : E.Ok) (hx : x = (k : Int)) (hk : k < E.c) (hl : lowS E.N E.c E.p (k : Int) = some i) (hr : ((i * 2 ^ k * E.G : Nat) : Int) = r) (hF : E.put k i = F) :
    Calls Try.prog 11 #[v, .int .i64 x] w fun e w' => ∃ g sa c sc ma n mc, e = .returned (.tuple #[ev3 g sa c sc ma n mc, .int .i64 r, .bool true]) ∧ EngOff X w' (ev3 g sa c sc ma n mc) F ∧ Fresh w w' := by
  subst hx hr hF
  refine (S.place_yes v E X k i w h hX ho hk hl (low_place hk hl).1).mono ?_
  rintro e w' ⟨u, rfl, s, f⟩
  obtain ⟨g, sa, c, sc, ma, n, mc, rfl, _⟩ := s.at.open
  exact ⟨g, sa, c, sc, ma, n, mc, rfl, s, f⟩
theorem prel_no (v : Value) (E : Eng) (X : Nat → Prop) (x : Int) (w : World) (h : EngOff X w v E) (hX : Low X w) (ho : E.Ok) (hx : In64 (x, x)) (hl : hitM E.ps x = false) :
    Calls Try.prog 13 #[v, .int .i64 x] w fun e w' => ∃ g sa c sc ma n mc, e = .returned (.tuple #[ev3 g sa c sc ma n mc, .int .i64 0, .bool false]) ∧ EngOff X w' (ev3 g sa c sc ma n mc) E ∧ Fresh w w' := by
  refine (S.rel_no v E X x w h hX ho hx hl).mono ?_
  rintro e w' ⟨u, rfl, s, f⟩
  obtain ⟨g, sa, c, sc, ma, n, mc, rfl, _⟩ := s.at.open
  exact ⟨g, sa, c, sc, ma, n, mc, rfl, s, f⟩
theorem prel_yes (v : Value) (E F : Eng) (X : Nat → Prop) (x r : Int) (k i : Nat) (w : World) (h : EngOff X w v E) (hX : Low X w) (ho : E.Ok) (hx : x = ((i * 2 ^ k * E.G : Nat) : Int)) (hr : (k : Int) = r) (hm : ((((i * 2 ^ k * E.G : Nat) : Int), (k : Int)) : Pc) ∈ E.ps) (hk : k < E.c) (hi : (i + 1) * 2 ^ k ≤ E.N) (hF : E.tak k i = F) :
    Calls Try.prog 13 #[v, .int .i64 x] w fun e w' => ∃ g sa c sc ma n mc, e = .returned (.tuple #[ev3 g sa c sc ma n mc, .int .i64 r, .bool true]) ∧ EngOff X w' (ev3 g sa c sc ma n mc) F ∧ Fresh w w' := by
  subst hx hr hF
  refine (S.rel_yes v E X k i w h hX ho hm hk hi).mono ?_
  rintro e w' ⟨u, rfl, s, f⟩
  obtain ⟨g, sa, c, sc, ma, n, mc, rfl, _⟩ := s.at.open
  exact ⟨g, sa, c, sc, ma, n, mc, rfl, s, f⟩
end
/-- no block -/
def noX : Nat → Prop := fun _ => False
theorem low_noX (w : World) : Low noX w := fun _ h => h.elim
/-- no request for an engine: g is no power of two -/
theorem not_pow3 (n m : Int) (K N c : Nat) : ¬ EngOk 3 n m K N c := by
  rintro ⟨h, _⟩
  have h' : 2 ^ K = 3 := by exact_mod_cast h.symm
  match K, h' with
  | 0, h => simp at h
  | 1, h => simp at h
  | K + 2, h =>
    rw [Nat.pow_succ, Nat.pow_succ] at h
    have : 1 ≤ 2 ^ K := Nat.pow_pos (by decide)
    omega
set_option maxRecDepth 100000 in
set_option maxHeartbeats 1000000 in
theorem begun11_true (S : PlaceSays) (w : World) : Calls Try.prog 7 #[] w fun e w' => e = .returned (.bool true) ∧ Fresh w w' := by
  have CC : Cls 8 3 := by unfold Cls; decide
  have EK := hide (show EngOk 2 8 3 1 8 3 from ⟨rfl, by decide, rfl, rfl, CC⟩)
  obtain ⟨E, hE⟩ : ∃ E, Eng.none (2 ^ 1) 8 3 = E := ⟨_, rfl⟩
  have O0 := hide (show E.Ok by rw [← hE]; exact Eng.Ok.none (by decide) (by decide) CC)
  have L1 := hide (show lowS E.N E.c E.p ((1 : Nat) : Int) = some 0 by rw [← hE]; decide +kernel)
  have K1 := hide (show 1 < E.c by rw [← hE]; decide)
  have R1 := hide (show ((0 * 2 ^ 1 * E.G : Nat) : Int) = 0 by simp)
  have LP := hide (low_place K1.out L1.out)
  obtain ⟨F, hF⟩ : ∃ F, E.put 1 0 = F := ⟨_, rfl⟩
  have FO := hide (show F.Ok by rw [← hF]; exact O0.out.put K1.out LP.out.1 LP.out.2 (by rw [← hE]; decide))
  have FL := hide (show F.ps.length = 1 by rw [← hF, ← hE]; decide +kernel)
  have FM := hide (show ((((0 * 2 ^ 1 * F.G : Nat) : Int), ((1 : Nat) : Int)) : Pc) ∈ F.ps by rw [← hF]; exact (mem_put O0.out.inv.rise).2 (.inl rfl))
  have FX := hide (show (0 : Int) = ((0 * 2 ^ 1 * F.G : Nat) : Int) by simp)
  have FK := hide (show 1 < F.c ∧ (0 + 1) * 2 ^ 1 ≤ F.N by rw [← hF]; exact ⟨K1.out, LP.out.1⟩)
  have LK := hide (show E.Like ((F.tak 1 0)) by
    have := put_tak O0.out LP.out.1 LP.out.2
    rw [hF] at this
    exact ⟨this.g.symm, this.n.symm, this.c.symm, fun i hi => (this.p i (by rw [this.n]; exact hi)).symm, this.ps.symm⟩)
  have EM := hide (show hitM E.ps 0 = false by rw [← hE]; decide)
  have HE := hide hE
  have HF := hide hF
  clear hE hF CC
  go_enter Try.func7, Try.ntmps7
  go_wp2_with fail
  refine (pnew_to S 2 8 3 1 8 3 E _ EK.out HE.out).mono ?_
  rintro e w1 ⟨g1, sa1, c1, sc1, ma1, n1, mc1, rfl, s1, f1⟩
  obtain ⟨w2, B1, hw2, hB1, v2, f2⟩ := ev_new (s1.off (X := noX) (Fresh.refl _) (fun _ h => h.elim))
  have V2 := hide v2
  have F2 := hide (f1.trans f2)
  have HW2 := hide hw2
  have HB1 := hide hB1
  clear s1 f1 v2 f2 hw2 hB1
  go_wp2_with fail
  rw [← HW2.out, ← HB1.out]
  refine (pplace_yes S _ E F noX 1 0 1 0 _ V2.out.off (low_noX _) O0.out rfl K1.out L1.out R1.out HF.out).mono ?_
  rintro e w3 ⟨g3, sa3, c3, sc3, ma3, n3, mc3, rfl, s3, f3⟩
  obtain ⟨w4, B3, hw4, hB3, v4, f4⟩ := ev_new s3
  have V4 := hide v4
  have X4 := hide (V2.out.fresh (f3.trans f4))
  have F4 := hide (F2.out.trans (f3.trans f4))
  have HW4 := hide hw4
  have HB3 := hide hB3
  clear s3 f3 v4 f4 hw4 hB3 V2 F2 HW2 HB1
  go_wp2_with fail
  rw [← HW4.out, ← HB3.out]
  refine (prel_yes S _ F _ noX 0 1 1 0 _ V4.out.off (low_noX _) FO.out FX.out rfl FM.out FK.out.1 FK.out.2 rfl).mono ?_
  rintro e w5 ⟨g5, sa5, c5, sc5, ma5, n5, mc5, rfl, s5, f5⟩
  obtain ⟨w6, B5, hw6, hB5, v6, f6⟩ := ev_new s5
  have V6 := hide v6
  have X6 := hide (X4.out.fresh (f5.trans f6))
  have Y6 := hide (V4.out.fresh (f5.trans f6))
  have F6 := hide (F4.out.trans (f5.trans f6))
  have HW6 := hide hw6
  have HB5 := hide hB5
  clear s5 f5 v6 f6 hw6 hB5 V4 X4 F4 HW4 HB3
  obtain ⟨x0, x1, x2⟩ := X6.out.cells
  rw [HW6.out] at x0 x1 x2
  go_wp2_with fail
  rw [← HW6.out, ← HB5.out]
  rw [← HW6.out] at x0 x1 x2
  clear x0 x1 x2
  refine (prel_no S _ E noX 0 _ X6.out.off (low_noX _) O0.out (by unfold In64; decide) EM.out).mono ?_
  rintro e w7 ⟨g7, sa7, c7, sc7, ma7, n7, mc7, rfl, _, f7⟩
  obtain ⟨w8, hw8⟩ : ∃ w8, w8 = w7.alloc (.cells #[.int .i64 g7, .slice sa7 c7 sc7, .slice ma7 n7 mc7] 29) := ⟨_, rfl⟩
  have f8 : Fresh w7 w8 := by rw [hw8]; exact fresh_box _ _ _
  have X8 := hide (X6.out.fresh (f7.trans f8))
  have Y8 := hide (Y6.out.fresh (f7.trans f8))
  have V8 := hide (V6.out.fresh (f7.trans f8))
  have F8 := hide (F6.out.trans (f7.trans f8))
  have HW8 := hide hw8
  clear f7 f8 hw8 X6 Y6 V6 F6 HW6 HB5
  go_wp2_with fail
  rw [← HW8.out]
  refine (S.new_no 3 8 3 _ (by unfold In64; decide) (by unfold In64; decide) (not_pow3 8 3)).mono ?_
  rintro e w9 ⟨rfl, f9⟩
  unfold noEng
  obtain ⟨wa, hwa⟩ : ∃ wa, wa = w9.alloc (.cells #[.int .i64 0, .slice none 0 0, .slice none 0 0] 29) := ⟨_, rfl⟩
  have fa : Fresh w9 wa := by rw [hwa]; exact fresh_box _ _ _
  have XA := hide (X8.out.fresh (f9.trans fa))
  have YA := hide (Y8.out.fresh (f9.trans fa))
  have VA := hide (V8.out.fresh (f9.trans fa))
  have FA := hide (F8.out.trans (f9.trans fa))
  have HWA := hide hwa
  clear f9 fa hwa X8 Y8 V8 F8 HW8
  obtain ⟨x0, x1, x2⟩ := XA.out.cells
  obtain ⟨y0, y1, y2⟩ := YA.out.cells
  obtain ⟨v0, v1, v2⟩ := VA.out.cells
  have yn : n3 = 1 := by rw [YA.out.off.at.len]; exact FL.out
  subst yn
  rw [HWA.out] at x0 x1 x2 y0 y1 y2 v0 v1 v2
  go_wp2_with fail
  rw [← HWA.out]
  refine (same_like XA.out.off.at VA.out.off.at LK.out).mono ?_
  rintro e wb ⟨rfl, fb⟩
  have FB := hide (FA.out.trans fb)
  clear x0 x1 x2 y0 y1 y2 v0 v1 v2 fb
  go_wp2
  go_ret
  exact ⟨rfl, FB.out⟩
end Go.Proofs.Ytegolecdmpikhaa
/- Engines in variables, more: a block that is made ahead of a call, or behind it. -/
namespace Go.Proofs.Ytegolecdmpikhaa
open Go.RowKit

/-- an engine's cells in block n, over a region -/
def HeldE (W : World) (n : Nat) (g : Int) (s t : Value) (w : World) : Prop := w.cell? ⟨n, 0, none⟩ = some (.int .i64 g) ∧ w.cell? ⟨n, 1, none⟩ = some s ∧ w.cell? ⟨n, 2, none⟩ = some t ∧ Fresh W w
theorem HeldE.fresh {W : World} {n : Nat} {g : Int} {s t : Value} {w w' : World} (h : HeldE W n g s t w) (k : Fresh w w') : HeldE W n g s t w' := by
  obtain ⟨a, b, c, e⟩ := h
  exact ⟨(k.cell (World.block_lt_of_cell? _ _ a)).trans a, (k.cell (World.block_lt_of_cell? _ _ b)).trans b, (k.cell (World.block_lt_of_cell? _ _ c)).trans c, e.trans k⟩
theorem cell_turn {w w' : World} {A : Nat} (h : w'.heap[A]? = w.heap[A]?) {i : Nat} : w'.cell? ⟨A, i, none⟩ = w.cell? ⟨A, i, none⟩ := by
  unfold World.cell?
  simp only [h]
/-- one block more that may turn -/
theorem EngOff.more {X : Nat → Prop} {w w1 : World} {v : Value} {E : Eng} (h : EngOff X w v E) (f : Fresh w w1) {B : Nat} (hB : w.heap.size ≤ B) : EngOff (fun k => X k ∨ k = B) w1 v E :=
  fun w' hw => h w' fun k hk hl => (hw k (fun hx => by rcases hx with g | g; exact hk g; omega) (Nat.lt_of_lt_of_le hl f.size)).trans (f.block k hl)
/-- a block of none -/
theorem zero_block (w : World) {p : World → Prop} (h : ∀ w5, w5.heap[w.heap.size]? = some (.cells #[.int .i64 0, .slice none 0 0, .slice none 0 0] 29 (0, 0)) → Fresh w w5 → w5.heap.size = w.heap.size + 1 → p w5) : p (w.alloc (.cells #[.int .i64 0, .slice none 0 0, .slice none 0 0] 29)) :=
  h _ (heap_alloc_new w _) (fresh_box _ _ _) (by simp)
theorem zero_cells {w : World} {B : Nat} {x y z : Value} {t : TypeId} (h : w.heap[B]? = some (.cells #[x, y, z] t (0, 0))) : w.cell? ⟨B, 0, none⟩ = some x ∧ w.cell? ⟨B, 1, none⟩ = some y ∧ w.cell? ⟨B, 2, none⟩ = some z ∧ w.frozen? ⟨B, 0, none⟩ = false ∧ w.frozen? ⟨B, 1, none⟩ = false ∧ w.frozen? ⟨B, 2, none⟩ = false :=
  ⟨cell_block h 0 _ rfl, cell_block h 1 _ rfl, cell_block h 2 _ rfl, free_block h 0, free_block h 1, free_block h 2⟩
end Go.Proofs.Ytegolecdmpikhaa
/- What the program and the document answer of one engine, side by side: whatever the answer is, it is one. -/
namespace Go.Proofs.Ytegolecdmpikhaa
open Go.RowKit

/-- what becomes of it, and what is told -/
def PlaceIs (E : Eng) (x : Int) (F : Eng) (r : Int) (t : Bool) : Prop :=
  (lowS E.N E.c E.p x = none ∧ F = E ∧ r = 0 ∧ t = false) ∨ ∃ k i : Nat, x = (k : Int) ∧ k < E.c ∧ lowS E.N E.c E.p (k : Int) = some i ∧ ((i * 2 ^ k * E.G : Nat) : Int) = r ∧ E.put k i = F ∧ t = true
def RelIs (E : Eng) (x : Int) (F : Eng) (r : Int) (t : Bool) : Prop :=
  (hitM E.ps x = false ∧ F = E ∧ r = 0 ∧ t = false) ∨ ∃ k i : Nat, x = ((i * 2 ^ k * E.G : Nat) : Int) ∧ (k : Int) = r ∧ k < E.c ∧ (i + 1) * 2 ^ k ≤ E.N ∧ ((((i * 2 ^ k * E.G : Nat) : Int), (k : Int)) : Pc) ∈ E.ps ∧ E.tak k i = F ∧ t = true
theorem place_is (E : Eng) (x : Int) : ∃ F r t, PlaceIs E x F r t := by
  cases h : lowS E.N E.c E.p x with
  | none => exact ⟨E, 0, false, .inl ⟨h, rfl, rfl, rfl⟩⟩
  | some i =>
    have hx : 0 ≤ x ∧ x < (E.c : Int) := by
      rcases Classical.em (0 ≤ x ∧ x < (E.c : Int)) with g | g
      · exact g
      · unfold lowS at h; rw [if_neg g] at h; cases h
    obtain ⟨k, rfl⟩ : ∃ k : Nat, x = (k : Int) := ⟨x.toNat, by omega⟩
    exact ⟨_, _, true, .inr ⟨k, i, rfl, by omega, h, rfl, rfl, rfl⟩⟩
theorem rel_is {E : Eng} (h : E.Ok) (x : Int) : ∃ F r t, RelIs E x F r t := by
  cases hh : hitM E.ps x with
  | false => exact ⟨E, 0, false, .inl ⟨hh, rfl, rfl, rfl⟩⟩
  | true =>
    obtain ⟨k, i, h1, h2, h3, _, h5⟩ := hit_is h.inv hh
    exact ⟨_, _, true, .inr ⟨k, i, h1, rfl, h2, h3, h5, rfl, rfl⟩⟩
theorem PlaceIs.ok {E F : Eng} {x r : Int} {t : Bool} (h : PlaceIs E x F r t) (ho : E.Ok) (hl : E.ps.length < 1000) : F.Ok ∧ F.ps.length ≤ E.ps.length + 1 := by
  rcases h with ⟨_, rfl, _, _⟩ | ⟨k, i, _, hk, hi, _, rfl, _⟩
  · exact ⟨ho, Nat.le_succ _⟩
  · exact ⟨ho.put hk (low_place hk hi).1 (low_place hk hi).2 hl, put_len E k i⟩
theorem RelIs.ok {E F : Eng} {x r : Int} {t : Bool} (h : RelIs E x F r t) (ho : E.Ok) : F.Ok ∧ F.ps.length ≤ E.ps.length := by
  rcases h with ⟨_, rfl, _, _⟩ | ⟨k, i, _, _, _, _, hm, rfl, _⟩
  · exact ⟨ho, Nat.le_refl _⟩
  · exact ⟨ho.tak hm, tak_len E k i⟩
section
variable {E F : Eng} {x r : Int} {t : Bool} {X : Nat → Prop} {v : Value} {w : World}
theorem place_any (S : PlaceSays) (h : PlaceIs E x F r t) (ho : E.Ok) (hx : In64 (x, x)) (hv : EngOff X w v E) (hX : Low X w) :
    Calls Try.prog 11 #[v, .int .i64 x] w fun e w' => ∃ g sa c sc ma n mc, e = .returned (.tuple #[ev3 g sa c sc ma n mc, .int .i64 r, .bool t]) ∧ EngOff X w' (ev3 g sa c sc ma n mc) F ∧ Fresh w w' := by
  rcases h with ⟨h1, rfl, rfl, rfl⟩ | ⟨k, i, h1, h2, h3, h4, h5, rfl⟩
  · exact pplace_no S v F X x w hv hX ho hx h1
  · exact pplace_yes S v E F X x r k i w hv hX ho h1 h2 h3 h4 h5
theorem rel_any (S : PlaceSays) (h : RelIs E x F r t) (ho : E.Ok) (hx : In64 (x, x)) (hv : EngOff X w v E) (hX : Low X w) :
    Calls Try.prog 13 #[v, .int .i64 x] w fun e w' => ∃ g sa c sc ma n mc, e = .returned (.tuple #[ev3 g sa c sc ma n mc, .int .i64 r, .bool t]) ∧ EngOff X w' (ev3 g sa c sc ma n mc) F ∧ Fresh w w' := by
  rcases h with ⟨h1, rfl, rfl, rfl⟩ | ⟨k, i, h1, h2, h3, h4, h5, h6, rfl⟩
  · exact prel_no S v F X x w hv hX ho hx h1
  · exact prel_yes S v E F X x r k i w hv hX ho h1 h2 h5 h3 h4 h6
theorem rplace_any (h : PlaceIs E x F r t) (ho : E.Ok) (hv : EngOff X w v E) (hX : Low X w) :
    Calls Try.prog 12 #[v, .int .i64 x] w fun e w' => ∃ g sa c sc ma n mc, e = .returned (.tuple #[ev3 g sa c sc ma n mc, .int .i64 r, .bool t]) ∧ EngOff X w' (ev3 g sa c sc ma n mc) F ∧ Fresh w w' := by
  rcases h with ⟨h1, rfl, rfl, rfl⟩ | ⟨k, i, rfl, h2, h3, rfl, rfl, rfl⟩
  · refine (rplace_no v F.G F.N F.c F.p F.ps x w hv.at h1).mono ?_
    rintro e w' ⟨rfl, f⟩
    obtain ⟨g, sa, c, sc, ma, n, mc, rfl, _⟩ := hv.at.open
    exact ⟨g, sa, c, sc, ma, n, mc, rfl, hv.fresh f, f⟩
  · refine (rplace_yes v E.G E.N E.c E.p E.ps k i w hv.at ho.inv ho.few h2 h3 (low_place h2 h3).1).mono ?_
    rintro e w' ⟨u, rfl, s, f⟩
    obtain ⟨g, sa, c, sc, ma, n, mc, rfl, _⟩ := s.at.open
    exact ⟨g, sa, c, sc, ma, n, mc, rfl, s.off (Fresh.refl _) (fun q hq => .inl (hX q hq)), f⟩
theorem rrel_any (h : RelIs E x F r t) (ho : E.Ok) (hv : EngOff X w v E) (hX : Low X w) :
    Calls Try.prog 14 #[v, .int .i64 x] w fun e w' => ∃ g sa c sc ma n mc, e = .returned (.tuple #[ev3 g sa c sc ma n mc, .int .i64 r, .bool t]) ∧ EngOff X w' (ev3 g sa c sc ma n mc) F ∧ Fresh w w' := by
  rcases h with ⟨h1, rfl, rfl, rfl⟩ | ⟨k, i, rfl, rfl, h3, h4, h5, rfl, rfl⟩
  · refine (rrel_no v F.G F.N F.c F.p F.ps x w hv.at ho.inv ho.few h1).mono ?_
    rintro e w' ⟨rfl, f⟩
    obtain ⟨g, sa, c, sc, ma, n, mc, rfl, _⟩ := hv.at.open
    exact ⟨g, sa, c, sc, ma, n, mc, rfl, hv.fresh f, f⟩
  · refine (rrel_yes v E.G E.N E.c E.p E.ps _ k i w hv.at ho.inv ho.few (hit_mem ho.inv.rise h5).1 rfl (hit_mem ho.inv.rise h5).2 h3 h4).mono ?_
    rintro e w' ⟨u, rfl, s, f⟩
    obtain ⟨g, sa, c, sc, ma, n, mc, rfl, _⟩ := s.at.open
    exact ⟨g, sa, c, sc, ma, n, mc, rfl, s.off (Fresh.refl _) (fun q hq => .inl (hX q hq)), f⟩
end
/-- a new one, or none -/
def NewIs (ok : Bool) (E : Eng) (base : Nat) (w : World) (v : Value) : Prop := (ok = true ∧ EngNew base w v E) ∨ (ok = false ∧ v = noEng)
def AskIs (ok : Bool) (E : Eng) (g n m : Int) : Prop := (ok = true ∧ ∃ K N c : Nat, EngOk g n m K N c ∧ E = Eng.none (2 ^ K) N c) ∨ (ok = false ∧ ∀ K N c : Nat, ¬ EngOk g n m K N c)
theorem ask_is (g n m : Int) : ∃ ok E, AskIs ok E g n m := by
  rcases Classical.em (∃ K N c : Nat, EngOk g n m K N c) with ⟨K, N, c, h⟩ | h
  · exact ⟨true, _, .inl ⟨rfl, K, N, c, h, rfl⟩⟩
  · exact ⟨false, Eng.none 0 0 0, .inr ⟨rfl, fun K N c hk => h ⟨K, N, c, hk⟩⟩⟩
theorem NewIs.open {ok : Bool} {E : Eng} {base : Nat} {w : World} {v : Value} (h : NewIs ok E base w v) : ∃ g sa c sc ma n mc, v = .agg #[.int .i64 g, .slice sa c sc, .slice ma n mc] := by
  rcases h with ⟨_, h⟩ | ⟨_, rfl⟩
  · obtain ⟨g, sa, c, sc, ma, n, mc, e, _⟩ := h.at.open
    exact ⟨g, sa, c, sc, ma, n, mc, e⟩
  · exact ⟨0, none, 0, 0, none, 0, 0, rfl⟩
theorem new_any (S : PlaceSays) {ok : Bool} {E : Eng} {g n m : Int} (h : AskIs ok E g n m) (h1 : In64 (g, n)) (h2 : In64 (m, m)) (w : World) :
    Calls Try.prog 8 #[.int .i64 g, .int .i64 n, .int .i64 m] w fun e w' => ∃ g sa c sc ma n mc, e = .returned (.tuple #[ev3 g sa c sc ma n mc, .bool ok]) ∧ NewIs ok E w.heap.size w' (ev3 g sa c sc ma n mc) ∧ Fresh w w' := by
  rcases h with ⟨rfl, K, N, c, hk, rfl⟩ | ⟨rfl, hk⟩
  · refine (pnew_to S g n m K N c _ w hk rfl).mono ?_
    rintro e w' ⟨g, sa, c, sc, ma, n, mc, rfl, s, f⟩
    exact ⟨g, sa, c, sc, ma, n, mc, rfl, .inl ⟨rfl, s⟩, f⟩
  · refine (S.new_no g n m w h1 h2 hk).mono ?_
    rintro e w' ⟨rfl, f⟩
    exact ⟨0, none, 0, 0, none, 0, 0, rfl, .inr ⟨rfl, rfl⟩, f⟩
theorem rnew_anyE {ok : Bool} {E : Eng} {g n m : Int} (h : AskIs ok E g n m) (h1 : g ≤ 9223372036854775807) (w : World) :
    Calls Try.prog 9 #[.int .i64 g, .int .i64 n, .int .i64 m] w fun e w' => ∃ g sa c sc ma n mc, e = .returned (.tuple #[ev3 g sa c sc ma n mc, .bool ok]) ∧ NewIs ok E w.heap.size w' (ev3 g sa c sc ma n mc) ∧ Fresh w w' := by
  rcases h with ⟨rfl, K, N, c, hk, rfl⟩ | ⟨rfl, hk⟩
  · refine (rnewe_yes g n m K N c hk w).mono ?_
    rintro e w' ⟨u, rfl, s, f⟩
    obtain ⟨g, sa, c, sc, ma, n, mc, rfl, _⟩ := s.at.open
    exact ⟨g, sa, c, sc, ma, n, mc, rfl, .inl ⟨rfl, s⟩, f⟩
  · refine (rnewe_no g n m h1 hk w).mono ?_
    rintro e w' ⟨rfl, f⟩
    exact ⟨0, none, 0, 0, none, 0, 0, rfl, .inr ⟨rfl, rfl⟩, f⟩
theorem same_new {ok : Bool} {E : Eng} {b1 b2 : Nat} {w1 w2 w : World} {v u : Value} (h1 : NewIs ok E b1 w1 v) (h2 : NewIs ok E b2 w2 u) (f1 : Fresh w1 w) (f2 : Fresh w2 w) :
    Calls Try.prog 10 #[v, u] w fun e w' => e = .returned (.bool true) ∧ Fresh w w' := by
  rcases h1 with ⟨rfl, h1⟩ | ⟨rfl, rfl⟩
  · rcases h2 with ⟨_, h2⟩ | ⟨h2, _⟩
    · exact same_like (h1.at.fresh f1) (h2.at.fresh f2) (Eng.Like.rfl' E)
    · cases h2
  · rcases h2 with ⟨h2, _⟩ | ⟨_, rfl⟩
    · cases h2
    · exact rsamee_none w
/-- two engines in two variables -/
def Two (ba bb : Nat) : Nat → Prop := fun k => k = ba ∨ k = bb
theorem low_two {ba bb : Nat} {w : World} (h1 : ba < w.heap.size) (h2 : bb < w.heap.size) : Low (Two ba bb) w := fun k hk => by rcases hk with e | e <;> rw [e] <;> assumption
end Go.Proofs.Ytegolecdmpikhaa
