/- Several texts as one: SlotsMath, SlotsMem, Held, RefSlotsA, RefSlotsB, RefSlotsC, RefSlotsD, RefSlotsE, RefSlotsF, RefSlotsG. -/
import Derived.Test.YtegolecdmpikhaaPackB
import Derived.Test.YtegolecdmpikhaaPackA
import Derived.Deep.RegionHeld
import Derived.Test.YtegolecdmpikhaaPackD
import Derived.Maps.AppendAt
/- Which places are free, of no program: a place of class k has something live in it (clsB); the words of its tree (trW). -/
namespace Go.Proofs.Ytegolecdmpikhaa

def halfB (p : Nat → Bool) (j : Nat) : Bool := p (2 * j) || p (2 * j + 1)
/-- has place j of class k something live in it? -/
def clsB (p : Nat → Bool) : Nat → Nat → Bool
  | 0 => p
  | k + 1 => halfB (clsB p k)
theorem cls_iff (p : Nat → Bool) : ∀ (k j : Nat), clsB p k j = true ↔ ∃ t, t < 2 ^ k ∧ p (j * 2 ^ k + t) = true
  | 0, j => by
    constructor
    · intro h; exact ⟨0, by decide, by simpa [clsB] using h⟩
    · rintro ⟨t, ht, h⟩
      have : t = 0 := by simpa using ht
      subst this
      simpa [clsB] using h
  | k + 1, j => by
    show (clsB p k (2 * j) || clsB p k (2 * j + 1)) = true ↔ _
    rw [Bool.or_eq_true, cls_iff p k, cls_iff p k]
    have e : 2 ^ (k + 1) = 2 * 2 ^ k := by rw [Nat.pow_succ, Nat.mul_comm]
    constructor
    · rintro (⟨t, ht, h⟩ | ⟨t, ht, h⟩)
      · refine ⟨t, by omega, ?_⟩
        rw [e, show j * (2 * 2 ^ k) = 2 * j * 2 ^ k by rw [Nat.mul_left_comm, Nat.mul_assoc]]
        exact h
      · refine ⟨2 ^ k + t, by omega, ?_⟩
        rw [e, show j * (2 * 2 ^ k) = 2 * j * 2 ^ k by rw [Nat.mul_left_comm, Nat.mul_assoc], ← Nat.add_assoc, ← Nat.succ_mul]
        exact h
    · rintro ⟨t, ht, h⟩
      rw [e, show j * (2 * 2 ^ k) = 2 * j * 2 ^ k by rw [Nat.mul_left_comm, Nat.mul_assoc]] at h
      rcases Nat.lt_or_ge t (2 ^ k) with h1 | h1
      · exact .inl ⟨t, h1, h⟩
      · refine .inr ⟨t - 2 ^ k, by omega, ?_⟩
        rw [Nat.succ_mul, Nat.add_assoc, Nat.add_sub_cancel' h1]
        exact h
theorem cls_congr {p q : Nat → Bool} {N : Nat} (h : ∀ i, i < N → p i = q i) : ∀ (k j : Nat), j < N / 2 ^ k → clsB p k j = clsB q k j
  | 0, j, hj => h j (by simpa using hj)
  | k + 1, j, hj => by
    have e : N / 2 ^ (k + 1) = N / 2 ^ k / 2 := by rw [Nat.pow_succ, Nat.div_div_eq_div_mul]
    rw [e] at hj
    show (clsB p k (2 * j) || clsB p k (2 * j + 1)) = (clsB q k (2 * j) || clsB q k (2 * j + 1))
    rw [cls_congr h k (2 * j) (by omega), cls_congr h k (2 * j + 1) (by omega)]
/-- the words of class k's tree -/
def trW (N : Nat) (p : Nat → Bool) (k : Nat) : List Nat := packV (N / 2 ^ k) (clsB p k)
theorem tr_lev (N : Nat) (p : Nat → Bool) (k : Nat) : Lev (N / 2 ^ k) (trW N p k) := lev_pack _ _
theorem tr_bit {N : Nat} {p : Nat → Bool} {k j : Nat} (h : j < N / 2 ^ k) : bitV (trW N p k) j = clsB p k j := by
  unfold trW
  rw [bitV_packV _ _ _ (by omega), decide_eq_false (by omega)]; rfl
theorem tr_congr {N : Nat} {p q : Nat → Bool} (h : ∀ i, i < N → p i = q i) (k : Nat) : trW N p k = trW N q k := pack_congr fun i hi => cls_congr h k i hi
/-- may there be so many classes? -/
def Cls (N c : Nat) : Prop := 1 ≤ c ∧ c ≤ 17 ∧ 1 ≤ N ∧ N ≤ 65536 ∧ N % 2 ^ (c - 1) = 0
theorem Cls.pos {N c : Nat} (h : Cls N c) {k : Nat} (hk : k < c) : 1 ≤ N / 2 ^ k ∧ N / 2 ^ k ≤ 65536 := by
  obtain ⟨h1, h2, h3, h4, h5⟩ := h
  have hd : 2 ^ k ∣ N := Nat.dvd_trans (Nat.pow_dvd_pow 2 (show k ≤ c - 1 by omega)) (Nat.dvd_of_mod_eq_zero h5)
  exact ⟨Nat.div_pos (Nat.le_of_dvd (by omega) hd) (Nat.pow_pos (by decide)), Nat.le_trans (Nat.div_le_self _ _) h4⟩
theorem Cls.half {N c : Nat} (h : Cls N c) {k : Nat} (hk : k + 1 < c) : 2 * (N / 2 ^ (k + 1)) = N / 2 ^ k := by
  obtain ⟨h1, h2, h3, h4, h5⟩ := h
  have hd : 2 ^ (k + 1) ∣ N := Nat.dvd_trans (Nat.pow_dvd_pow 2 (show k + 1 ≤ c - 1 by omega)) (Nat.dvd_of_mod_eq_zero h5)
  obtain ⟨m, rfl⟩ := hd
  rw [Nat.mul_div_cancel_left _ (Nat.pow_pos (by decide)), Nat.pow_succ, Nat.mul_assoc, Nat.mul_div_cancel_left _ (Nat.pow_pos (by decide))]
theorem half_div (N k : Nat) : N / 2 ^ (k + 1) = N / 2 ^ k / 2 := by rw [Nat.pow_succ, Nat.div_div_eq_div_mul]
/-- granules that are turned -/
def useB (p : Nat → Bool) (f m : Int) (on : Bool) (i : Nat) : Bool := if 0 ≤ f ∧ 0 ≤ m ∧ f ≤ (i : Int) ∧ (i : Int) - f < m then on else p i
/-- a great place that is free has small ones in it that are -/
theorem free_below {p : Nat → Bool} {k j : Nat} (h : clsB p (k + 1) j = false) : clsB p k (2 * j) = false ∧ clsB p k (2 * j + 1) = false := by
  have h' : (clsB p k (2 * j) || clsB p k (2 * j + 1)) = false := h
  rw [Bool.or_eq_false_iff] at h'
  exact h'
end Go.Proofs.Ytegolecdmpikhaa
/- Slots in memory: a value of type api.Slots whose trees are read (SlotsAt); trees that lie in blocks from lo to hi (TreeIn); slots that lie in blocks from base on (SlotsNew). -/
namespace Go.Proofs.Ytegolecdmpikhaa
open Go.RowKit

/-- a tree that lies in blocks from lo to hi -/
def TreeIn (lo hi : Nat) (w : World) (v : Value) (n : Nat) (ws : List Nat) : Prop := ∀ w' : World, (∀ k, lo ≤ k → k < hi → w'.heap[k]? = w.heap[k]?) → TreeAt w' v n ws
theorem TreeIn.at {lo hi : Nat} {w : World} {v : Value} {n : Nat} {ws : List Nat} (h : TreeIn lo hi w v n ws) : TreeAt w v n ws := h w fun _ _ _ => rfl
theorem TreeNew.in {base : Nat} {w : World} {v : Value} {n : Nat} {ws : List Nat} (h : TreeNew base w v n ws) : TreeIn base w.heap.size w v n ws := fun w' hw => h w' hw
theorem TreeIn.beside {lo hi : Nat} {w w1 : World} {v : Value} {n : Nat} {ws : List Nat} (h : TreeIn lo hi w v n ws) (hk : ∀ k, lo ≤ k → k < hi → w1.heap[k]? = w.heap[k]?) : TreeIn lo hi w1 v n ws :=
  fun w' hw => h w' fun i h1 h2 => (hw i h1 h2).trans (hk i h1 h2)
theorem TreeIn.fresh {lo hi : Nat} {w w1 : World} {v : Value} {n : Nat} {ws : List Nat} (h : TreeIn lo hi w v n ws) (hs : hi ≤ w.heap.size) (k : Fresh w w1) : TreeIn lo hi w1 v n ws :=
  h.beside fun i _ h2 => k.block i (Nat.lt_of_lt_of_le h2 hs)

/-- trees in a row -/
def TreesAt (w : World) (a : Option Addr) (c : Nat) (ns : Nat → Nat) (f : Nat → List Nat) : Prop :=
  ∀ i, i < c → ∃ b o lv, a = some ⟨b, o, none⟩ ∧ w.cell? ⟨b, o + i * 2, none⟩ = some (.int .i64 ((ns i : Nat) : Int)) ∧ w.cell? ⟨b, o + i * 2 + 1, none⟩ = some lv ∧ TreeAt w (.agg #[.int .i64 ((ns i : Nat) : Int), lv]) (ns i) (f i)
theorem TreesAt.fresh {w w' : World} {a : Option Addr} {c : Nat} {ns : Nat → Nat} {f : Nat → List Nat} (h : TreesAt w a c ns f) (k : Fresh w w') : TreesAt w' a c ns f := by
  intro i hi
  obtain ⟨b, o, lv, e, c0, c1, t⟩ := h i hi
  exact ⟨b, o, lv, e, (k.cell (World.block_lt_of_cell? _ _ c0)).trans c0, (k.cell (World.block_lt_of_cell? _ _ c1)).trans c1, t.fresh k⟩
/-- slots: so many granules, so many classes, which granules are live -/
def SlotsAt (w : World) (v : Value) (N c : Nat) (p : Nat → Bool) : Prop := Cls N c ∧ ∃ a cap, v = .agg #[.slice a c cap] ∧ c ≤ cap ∧ cap ≤ 9223372036854775807 ∧ TreesAt w a c (fun k => N / 2 ^ k) (trW N p)
theorem SlotsAt.fresh {w w' : World} {v : Value} {N c : Nat} {p : Nat → Bool} (h : SlotsAt w v N c p) (k : Fresh w w') : SlotsAt w' v N c p := by
  obtain ⟨hc, a, cap, e, h1, h2, ht⟩ := h
  exact ⟨hc, a, cap, e, h1, h2, ht.fresh k⟩
theorem SlotsAt.congr {w : World} {v : Value} {N c : Nat} {p q : Nat → Bool} (h : SlotsAt w v N c p) (e : ∀ i, i < N → p i = q i) : SlotsAt w v N c q := by
  obtain ⟨hc, a, cap, e1, h1, h2, ht⟩ := h
  refine ⟨hc, a, cap, e1, h1, h2, fun i hi => ?_⟩
  have := ht i hi
  rw [tr_congr e i] at this
  exact this
/-- slots that lie in blocks from base on -/
def SlotsNew (base : Nat) (w : World) (v : Value) (N c : Nat) (p : Nat → Bool) : Prop := ∀ w' : World, (∀ k, base ≤ k → k < w.heap.size → w'.heap[k]? = w.heap[k]?) → SlotsAt w' v N c p
theorem SlotsNew.at {base : Nat} {w : World} {v : Value} {N c : Nat} {p : Nat → Bool} (h : SlotsNew base w v N c p) : SlotsAt w v N c p := h w fun _ _ _ => rfl
theorem SlotsNew.mono {base base' : Nat} {w : World} {v : Value} {N c : Nat} {p : Nat → Bool} (h : SlotsNew base w v N c p) (hb : base' ≤ base) : SlotsNew base' w v N c p := fun w' hw => h w' fun k hk => hw k (Nat.le_trans hb hk)
theorem SlotsNew.fresh {base : Nat} {w w1 : World} {v : Value} {N c : Nat} {p : Nat → Bool} (h : SlotsNew base w v N c p) (k : Fresh w w1) : SlotsNew base w1 v N c p :=
  fun w' hw => h w' fun i hi hl => (hw i hi (Nat.lt_of_lt_of_le hl k.size)).trans (k.block i hl)
theorem SlotsNew.congr {base : Nat} {w : World} {v : Value} {N c : Nat} {p q : Nat → Bool} (h : SlotsNew base w v N c p) (e : ∀ i, i < N → p i = q i) : SlotsNew base w v N c q := fun w' hw => (h w' hw).congr e
theorem SlotsNew.store {base : Nat} {w : World} {v : Value} {N c : Nat} {p : Nat → Bool} (h : SlotsNew base w v N c p) {T : Nat} (hT : T < base) (x : Value) : SlotsNew base (w.setCell ⟨T, 0, none⟩ x) v N c p :=
  fun w' hw => h w' fun k hk hl => by rw [hw k hk (by simpa [World.setCell] using hl), heap_setCell_other w ⟨T, 0, none⟩ k x (by show k ≠ T; omega)]
theorem infoTree : (Try.prog.info? 61).map (fun i => (i.zero, i.size, i.bytes)) = some (some (.agg #[.int .i64 0, .slice none 0 0]), 2, 32) := by kernel_rfl
/-- the lowest place of a class -/
def lowS (N c : Nat) (p : Nat → Bool) (x : Int) : Option Nat := if 0 ≤ x ∧ x < (c : Int) then firstT (N / 2 ^ x.toNat) (trW N p x.toNat) 0 else none
/-- none -/
def noSlots : Value := .agg #[.slice none 0 0]

/-- a row of trees in the making: k of them; S: the block that holds the row -/
structure GrowS (W : World) (B S k : Nat) (ns : Nat → Nat) (f : Nat → List Nat) (lv : Value) (w : World) : Prop where
  var : w.heap[S]? = some (.cells #[lv] 26 (0, 0))
  own : ∃ us : List Value, w.ownsRow B 61 2 lv k us ∧ ∀ i, i < k → ∃ x lo hi, us[i * 2]? = some (.int .i64 ((ns i : Nat) : Int)) ∧ us[i * 2 + 1]? = some x ∧ TreeIn lo hi w (.agg #[.int .i64 ((ns i : Nat) : Int), x]) (ns i) (f i) ∧ B ≤ lo ∧ hi ≤ w.heap.size ∧ ∀ g, lv.ownBlock = some g → g < lo ∨ hi ≤ g
  el : Fresh W w
  lt : W.heap.size ≤ S ∧ S < B ∧ B ≤ w.heap.size
theorem GrowS.fresh {W : World} {B S k : Nat} {ns : Nat → Nat} {f : Nat → List Nat} {lv : Value} {w w' : World} (h : GrowS W B S k ns f lv w) (j : Fresh w w') : GrowS W B S k ns f lv w' := by
  obtain ⟨us, h1, h2⟩ := h.own
  refine ⟨by rw [j.block S (Array.getElem?_eq_some_iff.1 h.var).1]; exact h.var, ⟨us, ownsRow_fresh h1 j, fun i hi => ?_⟩, h.el.trans j, h.lt.1, h.lt.2.1, Nat.le_trans h.lt.2.2 j.size⟩
  obtain ⟨x, lo, hi', c0, c1, t, l1, l2, l3⟩ := h2 i hi
  exact ⟨x, lo, hi', c0, c1, t.fresh l2 j, l1, Nat.le_trans l2 j.size, l3⟩
/-- the row, once it is made -/
theorem GrowS.done {W : World} {B S c N : Nat} {p : Nat → Bool} {lv : Value} {w : World} (h : GrowS W B S c (fun k => N / 2 ^ k) (trW N p) lv w) (hc : Cls N c) : SlotsNew B w (.agg #[lv]) N c p := by
  obtain ⟨us, h1, h2⟩ := h.own
  intro w' hw
  rcases h1.2 with ⟨rfl, h0⟩ | ⟨g, cap, cur, rfl, hb, hg, hcap, hm, hsz, htk⟩
  · have := hc.1; omega
  · refine ⟨hc, _, cap, rfl, hcap, hm, fun i hi => ?_⟩
    obtain ⟨x, lo, hi', c0, c1, t, l1, l2, _⟩ := h2 i hi
    have hg' : w'.heap[g]? = some (.cells cur 61 (0, 0)) := by rw [hw g hb (Array.getElem?_eq_some_iff.1 hg).1]; exact hg
    have hgl := World.ownsRow.cellAt h1 (i * 2) (by omega)
    have hgl1 := World.ownsRow.cellAt h1 (i * 2 + 1) (by omega)
    have e : ∀ j, w'.cell? ⟨g, j, none⟩ = w.cell? ⟨g, j, none⟩ := fun j => by rw [cell_of_row w' g j cur 61 (0, 0) hg', cell_of_row w g j cur 61 (0, 0) hg]
    refine ⟨g, 0, x, rfl, ?_, ?_, t w' fun k k1 k2 => hw k (Nat.le_trans l1 k1) (Nat.lt_of_lt_of_le k2 l2)⟩
    · rw [Nat.zero_add, e, hgl]; exact c0
    · rw [Nat.zero_add, e, hgl1]; exact c1
/-- one more tree: w1: behind the call that made it; w2: behind the append -/
theorem GrowS.push {W : World} {B S k : Nat} {ns : Nat → Nat} {f : Nat → List Nat} {lv lv' x : Value} {w w1 w2 : World} {us : List Value}
    (h : GrowS W B S k ns f lv w) (hus : w1.ownsRow B 61 2 lv k us)
    (hold : ∀ i, i < k → ∃ x lo hi, us[i * 2]? = some (.int .i64 ((ns i : Nat) : Int)) ∧ us[i * 2 + 1]? = some x ∧ TreeIn lo hi w1 (.agg #[.int .i64 ((ns i : Nat) : Int), x]) (ns i) (f i) ∧ B ≤ lo ∧ hi ≤ w1.heap.size ∧ ∀ g, lv.ownBlock = some g → g < lo ∨ hi ≤ g)
    {lo hi : Nat} (ht : TreeIn lo hi w1 (.agg #[.int .i64 ((ns k : Nat) : Int), x]) (ns k) (f k)) (hlo : B ≤ lo) (hhi : hi ≤ w1.heap.size) (hnew : ∀ g, lv.ownBlock = some g → g < lo ∨ hi ≤ g)
    (hf : Fresh w w1) (hown : w2.ownsRow B 61 2 lv' (k + 1) (us ++ [.int .i64 ((ns k : Nat) : Int), x])) (hgrow : w1.grownBy w2 lv.ownBlock) (hloc : lv'.ownBlock = lv.ownBlock ∨ lv'.ownBlock = some w1.heap.size) :
    GrowS W B S (k + 1) ns f lv' (w2.setCell ⟨S, 0, none⟩ lv') := by
  have hul : us.length = k * 2 := hus.1
  have hb : ∀ g, lv.ownBlock = some g → B ≤ g := fun g hg => by
    rcases hus.2 with ⟨rfl, _⟩ | ⟨g', cap, cur, rfl, hb, _⟩
    · cases hg
    · have : g' = g := by simpa [Value.ownBlock] using hg
      omega
  have hvar1 : w1.heap[S]? = some (.cells #[lv] 26 (0, 0)) := by rw [hf.block S (Array.getElem?_eq_some_iff.1 h.var).1]; exact h.var
  have hvar2 : w2.heap[S]? = some (.cells #[lv] 26 (0, 0)) := by
    rw [hgrow.block S (Array.getElem?_eq_some_iff.1 hvar1).1 (fun e => by have := hb S e.symm; have := h.lt.2.1; omega)]; exact hvar1
  have hS : S < B := h.lt.2.1
  have keep : ∀ lo hi, B ≤ lo → hi ≤ w1.heap.size → (∀ g, lv.ownBlock = some g → g < lo ∨ hi ≤ g) → ∀ i, lo ≤ i → i < hi → (w2.setCell ⟨S, 0, none⟩ lv').heap[i]? = w1.heap[i]? := fun lo hi a1 a2 a3 i i1 i2 => by
    rw [heap_setCell_other w2 ⟨S, 0, none⟩ i lv' (by show i ≠ S; omega)]
    exact hgrow.block i (by omega) (fun e => by rcases a3 i e.symm with h | h <;> omega)
  have loc : ∀ lo hi, hi ≤ w1.heap.size → (∀ g, lv.ownBlock = some g → g < lo ∨ hi ≤ g) → ∀ g, lv'.ownBlock = some g → g < lo ∨ hi ≤ g := fun lo hi a2 a3 g hg => by
    rcases hloc with e | e
    · rw [e] at hg; exact a3 g hg
    · rw [e] at hg; cases hg; exact .inr a2
  have hsz : (w2.setCell ⟨S, 0, none⟩ lv').heap.size = w2.heap.size := by simp [World.setCell]
  refine ⟨heap_set_same hvar2 _, ⟨us ++ [.int .i64 ((ns k : Nat) : Int), x], ownsRow_setCell_other hown ?_ _, fun i hi' => ?_⟩, ?_, h.lt.1, h.lt.2.1, by rw [hsz]; exact Nat.le_trans (Nat.le_trans h.lt.2.2 hf.size) hgrow.size⟩
  · intro e
    rcases hloc with e2 | e2
    · rw [e2] at e; have := hb _ e; simp at this; omega
    · rw [e2] at e; simp at e
      have := (Array.getElem?_eq_some_iff.1 hvar1).1
      omega
  · by_cases e : i = k
    · subst e
      refine ⟨x, lo, hi, ?_, ?_, ht.beside (keep lo hi hlo hhi hnew), hlo, by rw [hsz]; exact Nat.le_trans hhi hgrow.size, loc lo hi hhi hnew⟩
      · rw [List.getElem?_append_right (by omega), hul]; simp
      · rw [List.getElem?_append_right (by omega), hul]
        have : i * 2 + 1 - i * 2 = 1 := by omega
        rw [this]; rfl
    · obtain ⟨y, lo', hi2, c0, c1, t, l1, l2, l3⟩ := hold i (by omega)
      refine ⟨y, lo', hi2, ?_, ?_, t.beside (keep lo' hi2 l1 l2 l3), l1, by rw [hsz]; exact Nat.le_trans l2 hgrow.size, loc lo' hi2 l2 l3⟩
      · rw [List.getElem?_append_left (by omega)]; exact c0
      · rw [List.getElem?_append_left (by omega)]; exact c1
  · exact fresh_set ((h.el.trans hf).grown hgrow (h.el.trans hf).size fun i hi => by have := hb i hi; have := h.lt; omega) h.lt.1 0 _
end Go.Proofs.Ytegolecdmpikhaa
/- A drawn region by hand: what yields under a condition on the world is taken first, with its slot written out (gen.py's '!held', '!take', '!off', '!at', '!done'). Of no program. -/
namespace Go.Proofs.Ytegolecdmpikhaa
open Go.RowKit

section
variable {P : Program} {ops : Array Oper} {Q : Exit → Act → World → Prop} {md : Region.Mode} {S : World → Prop}
theorem held_take {i d : Nat} {oi : Oper} {v : Value} {fuel : Nat} {listed : Array Bool} {a : Act} {w : World} (hi : ops[i]? = some oi) (hd : oi.dst = some d)
    (hs : Region.noSelect ops = true) (hf : Region.free md ops listed i = true) (hr : (Region.ready md ops listed).contains i = true)
    (hQ : ∀ c a w, Q (.panic c) (a.put (some d) v) w → Q (.panic c) a w) (hw : Region.wanted oi (yielded ops a.tmps) = true) (hy : ∀ w, S w → (execOp a.eval oi).run P w = .ok (.value v) w) (hS : S w)
    (h : wpAnyH P md ops Q S fuel (listed.setIfInBounds i true) (a.put (some d) v) w) : wpAnyH P md ops Q S (fuel + 1) listed a w := by
  rw [← hd] at hQ h
  exact wpAnyH_take hi hs hf hr hQ (.inl ⟨hw, hy⟩) hS h
theorem held_off {i d : Nat} {oi : Oper} {fuel : Nat} {listed : Array Bool} {a : Act} {w : World} (hi : ops[i]? = some oi) (hd : oi.dst = some d)
    (hs : Region.noSelect ops = true) (hf : Region.free md ops listed i = true) (hr : (Region.ready md ops listed).contains i = true)
    (hQ : ∀ c a w, Q (.panic c) (a.put (some d) undef) w → Q (.panic c) a w) (hw : Region.wanted oi (yielded ops a.tmps) = false) (hS : S w)
    (h : wpAnyH P md ops Q S fuel (listed.setIfInBounds i true) (a.put (some d) undef) w) : wpAnyH P md ops Q S (fuel + 1) listed a w := by
  rw [← hd] at hQ h
  exact wpAnyH_take hi hs hf hr hQ (.inr ⟨hw, rfl⟩) hS h
end
end Go.Proofs.Ytegolecdmpikhaa
/- What the document's own slots are (hodmanref8's Of, Lowest), as contracts. -/
namespace Go.Proofs.Ytegolecdmpikhaa
open Go.RowKit

/-- an append as one operation of a drawn region: where the row lies then -/
theorem wp_append_at {P : Program} (w : World) {o : Oper} {a : Act} {K : Act → World → Prop} {Q : Exit → Act → World → Prop} (s x : Operand) (t : TypeId)
    (ho : o.op = .call { callee := .builtin .append, args := #[s, x], argTypes := #[t, t] })
    (base : Nat) (e : TypeId) (i : TypeInfo) (z : Value) (size bytes : Nat) (ht : P.underlying t = some (.slice e)) (hi : P.info? e = some i) (hz : i.zero = some z)
    (hsize : i.size = size) (hby : i.bytes = bytes) (hzs : z.cells.size = size) (hsz : 0 < size)
    (v : Value) (n : Nat) (xs : List Value) (hs : a.eval s = v) (hown : w.ownsRow base e size v n xs)
    (ad : Addr) (m c : Nat) (news : List Value) (hx : a.eval x = .slice (some ad) m c) (hl : news.length = m * size) (hnews : ∀ j u, news[j]? = some u → w.cell? (ad.add j) = some u) (h1 : ∀ u ∈ news, u.oneCell' = true)
    (h63 : n + m ≤ maxLen) (hbytes : (n + m) * bytes ≤ 140737488355328) (hbase : base ≤ w.heap.size)
    (h : ∀ v' w', w'.ownsRow base e size v' (n + m) (xs ++ news) → w.grownBy w' v.ownBlock → (v'.ownBlock = v.ownBlock ∨ v'.ownBlock = some w.heap.size) → K (a.put o.dst v') w') : o.wp P a w K Q := by
  obtain ⟨v', w', hr, h2, h3, h4, h5⟩ := run_append_own_at (P := P) w base t o.type e i z size bytes ht hi hz hsize hby hzs hsz v n xs hown ad m c news hl hnews h1 h63 hbytes hbase
  unfold Oper.wp execOp
  simp only [ho, resolve, invoke, builtin, Sem.run_bind, Sem.run_pure, Result.andThen_ok, List.map_toArray, List.map_cons, List.map_nil, hs, hx, hr]
  exact h _ _ h2 h3 h5


theorem rlow_any (v : Value) (N c : Nat) (p : Nat → Bool) (x : Int) (w : World) (h : SlotsAt w v N c p) :
    Calls Try.prog 25 #[v, .int .i64 x] w fun e w' => e = foundE (lowS N c p x) ∧ Fresh w w' := by
  obtain ⟨hc, a, cap, rfl, h1, h2, ht⟩ := h
  have c0 : (0 : Int) ≤ (c : Int) := by omega
  have c1 : (c : Int) ≤ 17 := by have := hc.2.1; omega
  by_cases g1 : x < 0
  · have e : lowS N c p x = none := by unfold lowS; rw [if_neg (by omega)]
    rw [e]
    clear e ht
    go_enter Try.func25, Try.ntmps25
    go_wp2
    go_ret2
    exact ⟨rfl, fresh_box _ _ _⟩
  · by_cases g2 : x < (c : Int)
    · obtain ⟨k, rfl⟩ : ∃ k : Nat, x = k := ⟨x.toNat, by omega⟩
      have e : lowS N c p (k : Int) = firstT (N / 2 ^ k) (trW N p k) 0 := by unfold lowS; rw [if_pos (by omega), Int.toNat_natCast]
      rw [e]
      obtain ⟨b, o, lv, rfl, d0, d1, t⟩ := ht k (by omega)
      have FT := hide (fun (w' : World) (f : Fresh w w') => rtfirst_any _ _ _ 0 w' (t.fresh f) (by decide) (by decide))
      have k0 : (0 : Int) ≤ (k : Int) := by omega
      have bl : b < w.heap.size := World.block_lt_of_cell? _ _ d0
      clear e ht t g1
      unfold foundE at FT ⊢
      generalize firstT (N / 2 ^ k) (trW N p k) 0 = r at *
      generalize ((N / 2 ^ k : Nat) : Int) = nn at *
      go_enter Try.func25, Try.ntmps25
      go_wp2_with fail
      refine (FT.out _ (fresh_box _ _ _)).mono ?_
      rintro e w2 ⟨rfl, f2⟩
      have F2 := hide ((fresh_box w _ _).trans f2)
      clear f2
      go_wp2
      go_ret2
      exact ⟨rfl, F2.out⟩
    · have e : lowS N c p x = none := by unfold lowS; rw [if_neg (by omega)]
      rw [e]
      have g3 : (c : Int) ≤ x := by omega
      clear e ht g1 g2
      go_enter Try.func25, Try.ntmps25
      go_wp2
      go_ret2
      exact ⟨rfl, fresh_box _ _ _⟩
end Go.Proofs.Ytegolecdmpikhaa
/- What the document's own Of makes (hodmanref8.Of): slots of granules that are live, as a contract. -/
namespace Go.Proofs.Ytegolecdmpikhaa
open Go.RowKit

/-- bits that lie in blocks from lo to hi -/
def BitsIn (lo hi : Nat) (w : World) (v : Value) (bs : List Bool) : Prop := ∀ w' : World, (∀ k, lo ≤ k → k < hi → w'.heap[k]? = w.heap[k]?) → BoolsAt w' v bs
theorem BitsIn.at {lo hi : Nat} {w : World} {v : Value} {bs : List Bool} (h : BitsIn lo hi w v bs) : BoolsAt w v bs := h w fun _ _ _ => rfl
theorem BitsIn.beside {lo hi : Nat} {w w1 : World} {v : Value} {bs : List Bool} (h : BitsIn lo hi w v bs) (hk : ∀ k, lo ≤ k → k < hi → w1.heap[k]? = w.heap[k]?) : BitsIn lo hi w1 v bs :=
  fun w' hw => h w' fun i h1 h2 => (hw i h1 h2).trans (hk i h1 h2)
theorem BitsIn.fresh {lo hi : Nat} {w w1 : World} {v : Value} {bs : List Bool} (h : BitsIn lo hi w v bs) (hs : hi ≤ w.heap.size) (k : Fresh w w1) : BitsIn lo hi w1 v bs :=
  h.beside fun i _ h2 => k.block i (Nat.lt_of_lt_of_le h2 hs)
theorem BoolsAt.in {w : World} {v : Value} {bs : List Bool} (h : BoolsAt w v bs) : BitsIn 0 w.heap.size w v bs := by
  intro w' hw
  obtain ⟨a, cap, rfl, hc⟩ := h
  refine ⟨a, cap, rfl, fun i hi => ?_⟩
  obtain ⟨b, o, e, hcell⟩ := hc i hi
  have hb : b < w.heap.size := World.block_lt_of_cell? _ _ hcell
  exact ⟨b, o, e, (World.cell?_of_block (w := w) (hw b (Nat.zero_le _) hb)).trans hcell⟩
theorem OwnB.in {w : World} {base : Nat} {v : Value} {bs : List Bool} (h : OwnB w base v bs) : BitsIn base w.heap.size w v bs := by
  intro w' hw
  refine OwnB.at (base := base) ⟨h.1, ?_⟩
  rcases h.2 with hn | ⟨g, cap, cur, rfl, hb, hg, rest⟩
  · exact .inl hn
  · exact .inr ⟨g, cap, cur, rfl, hb, by rw [hw g hb (Array.getElem?_eq_some_iff.1 hg).1]; exact hg, rest⟩
theorem box_next (w : World) (c : Array Value) (t : TypeId) {p : World → Prop} (h : ∀ w5, w5 = w.alloc (.cells c t) → p w5) : p (w.alloc (.cells c t)) := h _ rfl
theorem two_news (w : World) (x y : Value) (t : TypeId) : ∀ j u, [x, y][j]? = some u → (w.alloc (.cells #[x, y] t)).cell? ((⟨w.heap.size, 0, none⟩ : Addr).add j) = some u := by
  intro j u hu
  have hb := heap_alloc_new w (.cells #[x, y] t (0, 0))
  rw [Go.WideShapes.add_plain, Nat.zero_add]
  match j, hu with
  | 0, hu => exact cell_block hb 0 _ hu
  | 1, hu => exact cell_block hb 1 _ hu
  | j + 2, hu => simp at hu
/-- halves, told so far -/
def Halves (p : Nat → Bool) (k m j : Nat) (hs : List Bool) : Prop := hs.length = m ∧ ∀ t, t < j → hs.getD t false = clsB p (k + 1) t
theorem halves_step {p : Nat → Bool} {k m j : Nat} {hs : List Bool} (h : Halves p k m j hs) (hj : j < m) (b : Bool) (hb : clsB p (k + 1) j = b) : Halves p k m (j + 1) (hs.set j b) := by
  refine ⟨by rw [List.length_set]; exact h.1, fun t ht => ?_⟩
  by_cases e : t = j
  · subst e
    rw [hb]
    simp [List.getD_eq_getElem?_getD, show t < hs.length by rw [h.1]; exact hj]
  · have := h.2 t (by omega)
    rw [← this]
    simp [List.getD_eq_getElem?_getD, List.getElem?_set_ne (fun e' => e e'.symm)]
/-- where Of stands behind k classes -/
structure Stage (w : World) (R S B N : Nat) (p : Nat → Bool) (k : Nat) (bv lv : Value) (cs : List Bool) (wr : World) : Prop where
  bits : ∃ lo hi, BitsIn lo hi wr bv cs ∧ hi ≤ wr.heap.size ∧ (S < lo ∨ hi ≤ S) ∧ ∀ g, lv.ownBlock = some g → g < lo ∨ hi ≤ g
  len : cs.length = N / 2 ^ k
  are : ∀ j, j < N / 2 ^ k → cs.getD j false = clsB p k j
  grow : GrowS w B S k (fun k => N / 2 ^ k) (trW N p) lv wr
  res : wr.heap[R]? = some (.cells #[.slice none 0 0] 26 (0, 0))
theorem Stage.fresh {w : World} {R S B N : Nat} {p : Nat → Bool} {k : Nat} {bv lv : Value} {cs : List Bool} {wr w' : World} (h : Stage w R S B N p k bv lv cs wr) (f : Fresh wr w') : Stage w R S B N p k bv lv cs w' :=
  ⟨(let ⟨lo, hi, h1, h2, h3, h4⟩ := h.bits; ⟨lo, hi, h1.fresh h2 f, Nat.le_trans h2 f.size, h3, h4⟩), h.len, h.are, h.grow.fresh f, by rw [f.block R (Array.getElem?_eq_some_iff.1 h.res).1]; exact h.res⟩
theorem Stage.cell {w : World} {R S B N : Nat} {p : Nat → Bool} {k : Nat} {bv lv : Value} {cs : List Bool} {wr : World} (h : Stage w R S B N p k bv lv cs wr) : wr.cell? ⟨S, 0, none⟩ = some lv ∧ wr.frozen? ⟨S, 0, none⟩ = false ∧ wr.cell? ⟨R, 0, none⟩ = some (.slice none 0 0) ∧ wr.frozen? ⟨R, 0, none⟩ = false :=
  ⟨cell_block h.grow.var 0 _ rfl, free_block h.grow.var 0, cell_block h.res 0 _ rfl, free_block h.res 0⟩
/-- one class more: w3: the tree is made; w4: it lies in a block; w5: it is appended -/
theorem Stage.push {w : World} {R S B N : Nat} {p : Nat → Bool} {k : Nat} {bv lv lv' x : Value} {cs : List Bool} {wd w3 w5 : World} {us : List Value} (hRS : R ≠ S) (hR : R < B)
    (h : Stage w R S B N p k bv lv cs wd) (ht : TreeNew wd.heap.size w3 (.agg #[.int .i64 ((N / 2 ^ k : Nat) : Int), x]) (N / 2 ^ k) (trW N p k)) (hf : Fresh wd w3)
    (hus : wd.ownsRow B 61 2 lv k us) (hold : ∀ i, i < k → ∃ x lo hi, us[i * 2]? = some (.int .i64 ((N / 2 ^ i : Nat) : Int)) ∧ us[i * 2 + 1]? = some x ∧ TreeIn lo hi wd (.agg #[.int .i64 ((N / 2 ^ i : Nat) : Int), x]) (N / 2 ^ i) (trW N p i) ∧ B ≤ lo ∧ hi ≤ wd.heap.size ∧ ∀ g, lv.ownBlock = some g → g < lo ∨ hi ≤ g)
    (hown : w5.ownsRow B 61 2 lv' (k + 1) (us ++ [.int .i64 ((N / 2 ^ k : Nat) : Int), x])) (hgrow : (w3.alloc (.cells #[.int .i64 ((N / 2 ^ k : Nat) : Int), x] 61)).grownBy w5 lv.ownBlock) (hloc : lv'.ownBlock = lv.ownBlock ∨ lv'.ownBlock = some (w3.alloc (.cells #[.int .i64 ((N / 2 ^ k : Nat) : Int), x] 61)).heap.size) :
    GrowS w B S (k + 1) (fun k => N / 2 ^ k) (trW N p) lv' (w5.setCell ⟨S, 0, none⟩ lv') ∧ (w5.setCell ⟨S, 0, none⟩ lv').heap[R]? = some (.cells #[.slice none 0 0] 26 (0, 0)) ∧ BoolsAt (w5.setCell ⟨S, 0, none⟩ lv') bv cs ∧ w5.cell? ⟨S, 0, none⟩ = some lv ∧ w5.frozen? ⟨S, 0, none⟩ = false := by
  have f4 : Fresh wd (w3.alloc (.cells #[.int .i64 ((N / 2 ^ k : Nat) : Int), x] 61)) := fresh_more hf _ _
  have hb : ∀ g, lv.ownBlock = some g → B ≤ g ∧ g < wd.heap.size := fun g hg => by
    rcases hus.2 with ⟨rfl, _⟩ | ⟨g', cap, cur, rfl, hb, hgg, _⟩
    · cases hg
    · have : g' = g := by simpa [Value.ownBlock] using hg
      subst this
      exact ⟨hb, (Array.getElem?_eq_some_iff.1 hgg).1⟩
  have hSB : S < B := h.grow.lt.2.1
  have kept : ∀ i, i < wd.heap.size → (∀ g, lv.ownBlock = some g → i ≠ g) → w5.heap[i]? = wd.heap[i]? := fun i hi hne => by
    rw [hgrow.block i (Nat.lt_of_lt_of_le hi f4.size) (fun e => hne i e.symm rfl), f4.block i hi]
  have hsv : w5.heap[S]? = some (.cells #[lv] 26 (0, 0)) := by
    rw [kept S (Array.getElem?_eq_some_iff.1 h.grow.var).1 (fun g hg e => by have := hb g hg; omega)]; exact h.grow.var
  refine ⟨?_, ?_, ?_, cell_block hsv 0 _ rfl, free_block hsv 0⟩
  · refine h.grow.push (ownsRow_fresh hus f4) (fun i hi => ?_) (lo := wd.heap.size) (hi := w3.heap.size) (ht.in.beside fun j _ j2 => (fresh_box w3 _ _).block j j2) h.grow.lt.2.2 (by simp) (fun g hg => .inl (hb g hg).2) f4 hown hgrow hloc
    obtain ⟨y, lo, hi', c0, c1, t, l1, l2, l3⟩ := hold i hi
    exact ⟨y, lo, hi', c0, c1, t.fresh l2 f4, l1, Nat.le_trans l2 f4.size, l3⟩
  · rw [heap_setCell_other w5 ⟨S, 0, none⟩ R lv' hRS, kept R (Array.getElem?_eq_some_iff.1 h.res).1 (fun g hg e => by have := hb g hg; omega)]
    exact h.res
  · obtain ⟨lo, hi, h1, h2, h3, h4⟩ := h.bits
    refine h1 _ fun i i1 i2 => ?_
    rw [heap_setCell_other w5 ⟨S, 0, none⟩ i lv' (by show i ≠ S; omega)]
    exact kept i (by omega) fun g hg e => by rcases h4 g hg with h | h <;> omega
end Go.Proofs.Ytegolecdmpikhaa
/- What the document's own Of makes (hodmanref8.Of): slots of granules that are live, as a contract. -/
namespace Go.Proofs.Ytegolecdmpikhaa
open Go.RowKit

theorem one_two (x : Int) (a : Option Addr) (l c : Nat) : ∀ u ∈ [Value.int .i64 x, .slice a l c], u.oneCell' = true := by
  intro u hu
  simp at hu
  rcases hu with rfl | rfl <;> rfl
theorem made_cls (N k : Nat) (p : Nat → Bool) (a : Option Addr) (cap : Nat) (cs : List Bool) (w : World) (hb : BoolsAt w (.slice a cs.length cap) cs) (hl : cs.length = N / 2 ^ k) (hp : ∀ j, j < N / 2 ^ k → cs.getD j false = clsB p k j) (n1 : 1 ≤ N / 2 ^ k) (n2 : N / 2 ^ k ≤ 65536) :
    Calls Try.prog 50 #[.int .i64 (cs.length : Int), .slice a cs.length cap] w fun e w' => ∃ xa xl xc, e = .returned (.agg #[.int .i64 ((N / 2 ^ k : Nat) : Int), .slice xa xl xc]) ∧ TreeNew w.heap.size w' (.agg #[.int .i64 ((N / 2 ^ k : Nat) : Int), .slice xa xl xc]) (N / 2 ^ k) (trW N p k) ∧ Fresh w w' := by
  refine (made_nat cs.length _ cs w hb rfl (by omega) (by omega)).mono ?_
  rintro e w' ⟨v', rfl, t, f⟩
  have e1 : packV cs.length (fun i => cs.getD i false) = trW N p k := by
    rw [hl]; exact pack_congr fun i hi => hp i hi
  rw [e1, hl] at t
  obtain ⟨_, _, _, xa, xc, rfl, _⟩ := t.at
  exact ⟨xa, _, xc, rfl, t, f⟩

set_option maxRecDepth 100000 in
set_option maxHeartbeats 2000000 in
theorem rofs_any (v : Value) (bs : List Bool) (N c : Nat) (w : World) (hb : BoolsAt w v bs) (hl : bs.length = N) (hc : Cls N c) :
    Calls Try.prog 34 #[v, .int .i64 (c : Int)] w fun e w' => ∃ u, e = .returned u ∧ SlotsNew w.heap.size w' u N c (fun i => bs.getD i false) ∧ Fresh w w' := by
  obtain ⟨i0, hi, hz0, hz1, hz2⟩ := infoOf infoTree
  obtain ⟨i1, hi1, hy0, hy1, hy2⟩ := infoOf infoBool
  obtain ⟨R, hR⟩ : ∃ R, R = w.heap.size := ⟨_, rfl⟩
  obtain ⟨S, hS⟩ : ∃ S, S = w.heap.size + 1 := ⟨_, rfl⟩
  obtain ⟨B, hB⟩ : ∃ B, B = w.heap.size + 1 + 1 := ⟨_, rfl⟩
  obtain ⟨W1, hW1⟩ : ∃ W1, W1 = (w.alloc (.cells #[.slice none 0 0] 26)).alloc (.cells #[.slice none 0 0] 26) := ⟨_, rfl⟩
  have FW : Fresh w W1 := by rw [hW1]; exact fresh_more (fresh_box _ _ _) _ _
  have sz : W1.heap.size = w.heap.size + 1 + 1 := by rw [hW1]; simp
  have bS : W1.heap[S]? = some (.cells #[.slice none 0 0] 26 (0, 0)) := by
    rw [hS, hW1]
    have := heap_alloc_new (w.alloc (.cells #[.slice none 0 0] 26)) (.cells #[.slice none 0 0] 26 (0, 0))
    rwa [show (w.alloc (.cells #[.slice none 0 0] 26)).heap.size = w.heap.size + 1 by simp] at this
  have bR : W1.heap[R]? = some (.cells #[.slice none 0 0] 26 (0, 0)) := by
    rw [hR, hW1, (fresh_box (w.alloc (.cells #[.slice none 0 0] 26)) #[.slice none 0 0] 26).block w.heap.size (by simp)]
    exact heap_alloc_new w _
  obtain ⟨p, hp⟩ : ∃ p : Nat → Bool, p = fun i => bs.getD i false := ⟨_, rfl⟩
  have S0 := hide (show Stage w R S B N p 0 v (.slice none 0 0) bs W1 from
    ⟨⟨0, w.heap.size, hb.in.fresh (Nat.le_refl _) FW, FW.size, .inr (by omega), fun g hg => by cases hg⟩, by simpa using hl, fun j _ => by rw [hp]; rfl,
     ⟨bS, ⟨[], World.ownsRow_nil _ _ _ _, fun i hi => by omega⟩, FW, by omega, by omega, by omega⟩, bR⟩)
  have RS := hide (show R ≠ S by omega)
  have RB := hide (show R < B by omega)
  have WB := hide (show w.heap.size ≤ B ∧ w.heap.size ≤ R by omega)
  have HC := hide hc
  have c0 : (0 : Int) ≤ (c : Int) := by omega
  have c1 : (c : Int) ≤ 17 := by have := hc.2.1; omega
  have HR := hide hR
  have HSS := hide hS
  have HW := hide hW1
  rw [← hp]
  clear hR hS hB hW1 FW sz bS bR hp hb hl hc
  go_enter Try.func34, Try.ntmps34
  go_wp2
  rw [← HW.out, ← HSS.out, ← HR.out]
  go_loopw [0, 6] (fun bv i wr => ∃ (k : Nat) (lv : Value) (cs : List Bool), k ≤ c ∧ i = .int .i64 (k : Int) ∧ Stage w R S B N p k bv lv cs wr) (fun _ i _ => (c - intOf i).toNat)
  case atStart => exact ⟨0, _, bs, Nat.zero_le _, rfl, S0.out⟩
  case round =>
    obtain ⟨k, lv, cs, hk, rfl, hst⟩ := hrel
    have k0 : (0 : Int) ≤ (k : Int) := by omega
    by_cases g : k < c
    · have g' : (k : Int) < (c : Int) := by omega
      have KC := hide (show k < 17 by have := HC.out.2.1; omega)
      have ST := hide (hst.fresh (Fresh.refl _).drew)
      have NP := hide (HC.out.pos g)
      have LN := hide hst.len
      obtain ⟨lo, hi', hbits, _⟩ := hst.bits
      obtain ⟨a, cap, rfl, _⟩ := hbits.at
      obtain ⟨us, hus, hold⟩ := ST.out.grow.own
      have US := hide hus
      have HO := hide hold
      have s0 := ST.out.cell.1
      have MD := hide (made_cls N k p a cap cs wr.drew (let ⟨_, _, h, _⟩ := ST.out.bits; h.at) ST.out.len ST.out.are NP.out.1 NP.out.2)
      have ln : (cs.length : Int) ≤ 65536 := by have := NP.out; have := LN.out; omega
      have l0 : (0 : Int) ≤ (cs.length : Int) := by omega
      clear hst hbits hus hold S0
      go_wp2_with fail
      refine wp_region_any (by kernel_rfl) ?_
      change wpAny _ _ _ _ _ _ _ (World.drew _)
      generalize World.drew wr = wd at ST US HO s0 MD ⊢
      refine wpAny_take (i := 0) (v := ?_) rfl (by kernel_rfl) (by kernel_rfl) (by kernel_rfl) (fun _ _ _ h => h) (Or.inl ⟨by kernel_rfl, ?_⟩) ?_
      rotate_left
      · intro wz; go_simp; first | done | with_reducible rfl
      refine wpAny_take (i := 2) (v := ?_) rfl (by kernel_rfl) (by kernel_rfl) (by kernel_rfl) (fun _ _ _ h => h) (Or.inl ⟨by kernel_rfl, ?_⟩) ?_
      rotate_left
      · intro wz; go_simp; first | done | with_reducible rfl
      refine wpAny_take (i := 3) (v := ?_) rfl (by kernel_rfl) (by kernel_rfl) (by kernel_rfl) (fun _ _ _ h => h) (Or.inl ⟨by kernel_rfl, ?_⟩) ?_
      rotate_left
      · intro wz; go_simp; first | done | with_reducible rfl
      refine wpAny_take (i := 4) (v := ?_) rfl (by kernel_rfl) (by kernel_rfl) (by kernel_rfl) (fun _ _ _ h => h) (Or.inl ⟨by kernel_rfl, ?_⟩) ?_
      rotate_left
      · intro wz; go_simp; first | done | with_reducible rfl
      refine wpAny_ready (rs := [1, 5]) (by kernel_rfl) (by simp) ?_
      refine AllReady.cons rfl (fun K hK => ?_) ?_
      · go_simp
        refine hK _ _ ?_
        clear hK K
        refine wpAny_ready (rs := [5]) (by kernel_rfl) (by simp) ?_
        refine AllReady.cons rfl (fun K hK => ?_) AllReady.nil
        go_simp
        go_wp2_with fail
        refine MD.out.mono ?_
        rintro e w3 ⟨xa, xl, xc, rfl, t3, f3⟩
        have T3 := hide t3
        have F3 := hide f3
        clear t3 f3
        refine hK _ _ ?_
        clear hK K
        refine wpAny_ready (rs := [6]) (by kernel_rfl) (by simp) ?_
        refine AllReady.cons rfl (fun K hK => ?_) AllReady.nil
        go_simp
        refine hK _ _ ?_
        clear hK K
        refine wpAny_ready (rs := [7]) (by kernel_rfl) (by simp) ?_
        refine AllReady.cons rfl (fun K hK => ?_) AllReady.nil
        rw [if_pos (by rfl)]
        refine wp_append_at _ _ _ 24 rfl B 61 i0 (.agg #[.int .i64 0, .slice none 0 0]) 2 32 Try.underlying24 hi hz0 hz1 hz2 rfl (by decide) lv k us rfl (ownsRow_fresh US.out (fresh_more F3.out _ _)) ⟨w3.heap.size, 0, none⟩ 1 1 [.int .i64 ((N / 2 ^ k : Nat) : Int), .slice xa xl xc] rfl rfl (two_news w3 _ _ _) (one_two _ _ _ _) (by have := KC.out; unfold maxLen; omega) (by have := KC.out; omega) (by have := ST.out.grow.lt; have := F3.out.size; simp; omega) ?_
        intro lv' w5 hown hgrow hloc
        obtain ⟨g5, c5, rfl⟩ := own_shape hown (Nat.le_add_left 1 k)
        have PS := hide (ST.out.push RS.out RB.out T3.out F3.out US.out HO.out hown hgrow hloc)
        clear hown hgrow hloc
        obtain ⟨cS, fS⟩ := PS.out.2.2.2
        refine hK _ _ ?_
        clear hK K
        refine wpAny_take (i := 8) (v := ?_) rfl (by kernel_rfl) (by kernel_rfl) (by kernel_rfl) (fun _ _ _ h => h) (Or.inl ⟨by kernel_rfl, ?_⟩) ?_
        rotate_left
        · intro wz; go_simp; first | done | with_reducible rfl
        refine wpAny_ready (rs := [9]) (by kernel_rfl) (by simp) ?_
        refine AllReady.cons rfl (fun K hK => ?_) AllReady.nil
        go_simp
        refine hK _ _ ?_
        clear hK K
        refine wpAny_done (by kernel_rfl) ?_ _
        try simp only [Act.put, List.setIfInBounds_toArray, List.set_cons_succ, List.set_cons_zero]
        generalize w5.setCell ⟨S, 0, none⟩ (.slice (some ⟨g5, 0, none⟩) (k + 1) c5) = w6 at PS ⊢
        clear cS fS T3 F3
        have G6 := hide PS.out.1
        have R6 := hide PS.out.2.1
        have B6 := hide PS.out.2.2.1
        clear PS
        have HM := hide (show cs.length / 2 = N / 2 ^ (k + 1) by rw [half_div, LN.out])
        have HA := hide (show ∀ j, j < cs.length → cs.getD j false = clsB p k j from fun j hj => ST.out.are j (by rw [← LN.out]; exact hj))
        generalize hm : N / 2 ^ (k + 1) = m at HM
        have HMM := hide hm
        have hdv : (cs.length : Int) / 2 = (m : Int) := by have := HM.out; omega
        have ml : (m : Int) ≤ 65536 := by have := HM.out; omega
        have m0 : (0 : Int) ≤ (m : Int) := by omega
        clear hm ST US HO MD s0
        go_wp2_with (at_make; refine wpList_make_full _ rfl _ _ 64 rfl w6.heap.size 4 i1 (.bool false) 1 Try.underlying64 hi1 hy0 hy1 _ _ _ _ m rfl rfl (by first | exact hdv | rfl) (by first | exact hdv | rfl) (by rw [hy2]; omega) (by unfold maxLen; omega) (Nat.le_refl _) ?_; intro w7 hown hgrow)
        obtain ⟨ob, fb⟩ := bools_made (w0 := w6) (wr := w6) (w1 := w7) (ln := m) (v := .slice (some ⟨w6.heap.size, 0, none⟩) m m) hown hgrow
        have O7 := hide ob
        have F7 := hide fb
        clear hown hgrow ob fb
        obtain ⟨H, hH⟩ : ∃ H, H = w6.heap.size := ⟨_, rfl⟩
        have HH := hide hH
        rw [← hH]
        rw [← hH] at O7
        clear hH
        go_loopw [8] (fun i ws => ∃ (j : Nat) (hs : List Bool), j ≤ m ∧ i = .int .i64 (j : Int) ∧ Halves p k m j hs ∧ OwnB ws H (.slice (some ⟨H, 0, none⟩) m m) hs ∧ Fresh w6 ws) (fun i _ => (m - intOf i).toNat)
        case atStart => exact ⟨0, _, Nat.zero_le _, rfl, ⟨List.length_replicate, fun t ht => by omega⟩, O7.out, F7.out⟩
        case round =>
          obtain ⟨j, hs, hj, rfl, hh, ho, hf⟩ := hrel
          have HL := hide hh
          have OJ := hide ho
          have FJ := hide hf
          have j0 : (0 : Int) ≤ (j : Int) := by omega
          clear hh ho hf
          by_cases gj : j < m
          · have j1 : (j : Int) < (m : Int) := by omega
            have l2 : 2 * j + 1 < cs.length := by have := HM.out; omega
            have e0 : IntKind.i64.wrap (2 * (j : Int)) = ((2 * j : Nat) : Int) := by rw [IntKind.wrap_i64]; omega
            have e1 : IntKind.i64.wrap (2 * (j : Int) + 1) = ((2 * j + 1 : Nat) : Int) := by rw [IntKind.wrap_i64]; omega
            have e2 : (2 : Int) * (j : Int) < (cs.length : Int) := by omega
            have e3 : (2 : Int) * (j : Int) + 1 < (cs.length : Int) := by omega
            have e4 : (0 : Int) ≤ 2 * (j : Int) := by omega
            have e5 : (0 : Int) ≤ 2 * (j : Int) + 1 := by omega
            obtain ⟨a', cap', e', hcc⟩ := B6.out.fresh FJ.out
            cases e'
            obtain ⟨b, o, rfl, d0⟩ := hcc (2 * j) (by omega)
            obtain ⟨b', o', e', d1⟩ := hcc (2 * j + 1) (by omega)
            cases e'
            have q0 := HA.out (2 * j) (by omega)
            have q1 := HA.out (2 * j + 1) (by omega)
            have CJ := hide (show clsB p (k + 1) j = (cs.getD (2 * j) false || cs.getD (2 * j + 1) false) by rw [q0, q1]; rfl)
            have hc := OJ.out.cell HL.out.1.symm j gj
            have hfz := OJ.out.free HL.out.1.symm j
            generalize cs.getD (2 * j) false = x0 at *
            generalize cs.getD (2 * j + 1) false = x1 at *
            generalize hs.getD j false = y at *
            clear hcc q0 q1
            cases x0 with
            | true =>
              have HN := hide (halves_step HL.out gj true (by rw [CJ.out]; rfl))
              have ON := hide (OJ.out.put HL.out.1.symm j true)
              go_wp2
              go_roundw
              case rel => exact ⟨j + 1, _, by omega, by go_num, HN.out, ON.out, fresh_set FJ.out (by rw [HH.out]; exact Nat.le_refl _) j _⟩
              case measure => simp [intOf]; omega
            | false =>
              have HN := hide (halves_step HL.out gj x1 (by rw [CJ.out]; rfl))
              have ON := hide (OJ.out.put HL.out.1.symm j x1)
              go_wp2
              go_roundw
              case rel => exact ⟨j + 1, _, by omega, by go_num, HN.out, ON.out, fresh_set FJ.out (by rw [HH.out]; exact Nat.le_refl _) j _⟩
              case measure => simp [intOf]; omega
          · obtain rfl : m = j := by omega
            have GN := hide (G6.out.fresh FJ.out)
            have SN := hide (show Stage w R S B N p (k + 1) (.slice (some ⟨H, 0, none⟩) m m) (.slice (some ⟨g5, 0, none⟩) (k + 1) c5) hs wr from
              ⟨⟨H, wr.heap.size, OJ.out.in, Nat.le_refl _, .inl (by have := G6.out.lt; have := HH.out; omega), fun g hg => .inl (by
                  have : g = g5 := by simpa [Value.ownBlock] using hg.symm
                  subst this
                  obtain ⟨us, h1, _⟩ := G6.out.own
                  obtain ⟨cc, hcc⟩ := own_type h1 g rfl
                  rw [HH.out]
                  exact (Array.getElem?_eq_some_iff.1 hcc).1)⟩,
                by rw [HL.out.1, HMM.out], fun j hj => HL.out.2 j (by rw [← HMM.out]; exact hj), GN.out, by rw [FJ.out.block R (Array.getElem?_eq_some_iff.1 R6.out).1]; exact R6.out⟩)
            clear GN
            go_wp2
            go_roundw
            case rel => exact ⟨k + 1, _, hs, by omega, by go_num, SN.out⟩
            case measure => simp [intOf]; omega
      · refine AllReady.cons rfl (fun K hK => ?_) AllReady.nil
        go_simp
        go_wp2_with fail
        refine MD.out.mono ?_
        rintro e w3 ⟨xa, xl, xc, rfl, t3, f3⟩
        have T3 := hide t3
        have F3 := hide f3
        have s3 := (f3.cell (World.block_lt_of_cell? _ _ s0)).trans s0
        have s4 := World.block_lt_of_cell? _ _ s3
        clear t3 f3
        refine hK _ _ ?_
        clear hK K
        refine wpAny_ready (rs := [1, 6]) (by kernel_rfl) (by simp) ?_
        refine AllReady.cons rfl (fun K hK => ?_) ?_
        · go_simp
          refine hK _ _ ?_
          clear hK K
          refine wpAny_ready (rs := [6]) (by kernel_rfl) (by simp) ?_
          refine AllReady.cons rfl (fun K hK => ?_) AllReady.nil
          go_simp
          refine hK _ _ ?_
          clear hK K
          refine wpAny_ready (rs := [7]) (by kernel_rfl) (by simp) ?_
          refine AllReady.cons rfl (fun K hK => ?_) AllReady.nil
          rw [if_pos (by rfl)]
          refine wp_append_at _ _ _ 24 rfl B 61 i0 (.agg #[.int .i64 0, .slice none 0 0]) 2 32 Try.underlying24 hi hz0 hz1 hz2 rfl (by decide) lv k us rfl (ownsRow_fresh US.out (fresh_more F3.out _ _)) ⟨w3.heap.size, 0, none⟩ 1 1 [.int .i64 ((N / 2 ^ k : Nat) : Int), .slice xa xl xc] rfl rfl (two_news w3 _ _ _) (one_two _ _ _ _) (by have := KC.out; unfold maxLen; omega) (by have := KC.out; omega) (by have := ST.out.grow.lt; have := F3.out.size; simp; omega) ?_
          intro lv' w5 hown hgrow hloc
          obtain ⟨g5, c5, rfl⟩ := own_shape hown (Nat.le_add_left 1 k)
          have PS := hide (ST.out.push RS.out RB.out T3.out F3.out US.out HO.out hown hgrow hloc)
          clear hown hgrow hloc
          obtain ⟨cS, fS⟩ := PS.out.2.2.2
          refine hK _ _ ?_
          clear hK K
          refine wpAny_take (i := 8) (v := ?_) rfl (by kernel_rfl) (by kernel_rfl) (by kernel_rfl) (fun _ _ _ h => h) (Or.inl ⟨by kernel_rfl, ?_⟩) ?_
          rotate_left
          · intro wz; go_simp; first | done | with_reducible rfl
          refine wpAny_ready (rs := [9]) (by kernel_rfl) (by simp) ?_
          refine AllReady.cons rfl (fun K hK => ?_) AllReady.nil
          go_simp
          refine hK _ _ ?_
          clear hK K
          refine wpAny_done (by kernel_rfl) ?_ _
          try simp only [Act.put, List.setIfInBounds_toArray, List.set_cons_succ, List.set_cons_zero]
          generalize w5.setCell ⟨S, 0, none⟩ (.slice (some ⟨g5, 0, none⟩) (k + 1) c5) = w6 at PS ⊢
          clear cS fS T3 F3
          have G6 := hide PS.out.1
          have R6 := hide PS.out.2.1
          have B6 := hide PS.out.2.2.1
          clear PS
          have HM := hide (show cs.length / 2 = N / 2 ^ (k + 1) by rw [half_div, LN.out])
          have HA := hide (show ∀ j, j < cs.length → cs.getD j false = clsB p k j from fun j hj => ST.out.are j (by rw [← LN.out]; exact hj))
          generalize hm : N / 2 ^ (k + 1) = m at HM
          have HMM := hide hm
          have hdv : (cs.length : Int) / 2 = (m : Int) := by have := HM.out; omega
          have ml : (m : Int) ≤ 65536 := by have := HM.out; omega
          have m0 : (0 : Int) ≤ (m : Int) := by omega
          clear hm ST US HO MD s0
          go_wp2_with (at_make; refine wpList_make_full _ rfl _ _ 64 rfl w6.heap.size 4 i1 (.bool false) 1 Try.underlying64 hi1 hy0 hy1 _ _ _ _ m rfl rfl (by first | exact hdv | rfl) (by first | exact hdv | rfl) (by rw [hy2]; omega) (by unfold maxLen; omega) (Nat.le_refl _) ?_; intro w7 hown hgrow)
          obtain ⟨ob, fb⟩ := bools_made (w0 := w6) (wr := w6) (w1 := w7) (ln := m) (v := .slice (some ⟨w6.heap.size, 0, none⟩) m m) hown hgrow
          have O7 := hide ob
          have F7 := hide fb
          clear hown hgrow ob fb
          obtain ⟨H, hH⟩ : ∃ H, H = w6.heap.size := ⟨_, rfl⟩
          have HH := hide hH
          rw [← hH]
          rw [← hH] at O7
          clear hH
          go_loopw [8] (fun i ws => ∃ (j : Nat) (hs : List Bool), j ≤ m ∧ i = .int .i64 (j : Int) ∧ Halves p k m j hs ∧ OwnB ws H (.slice (some ⟨H, 0, none⟩) m m) hs ∧ Fresh w6 ws) (fun i _ => (m - intOf i).toNat)
          case atStart => exact ⟨0, _, Nat.zero_le _, rfl, ⟨List.length_replicate, fun t ht => by omega⟩, O7.out, F7.out⟩
          case round =>
            obtain ⟨j, hs, hj, rfl, hh, ho, hf⟩ := hrel
            have HL := hide hh
            have OJ := hide ho
            have FJ := hide hf
            have j0 : (0 : Int) ≤ (j : Int) := by omega
            clear hh ho hf
            by_cases gj : j < m
            · have j1 : (j : Int) < (m : Int) := by omega
              have l2 : 2 * j + 1 < cs.length := by have := HM.out; omega
              have e0 : IntKind.i64.wrap (2 * (j : Int)) = ((2 * j : Nat) : Int) := by rw [IntKind.wrap_i64]; omega
              have e1 : IntKind.i64.wrap (2 * (j : Int) + 1) = ((2 * j + 1 : Nat) : Int) := by rw [IntKind.wrap_i64]; omega
              have e2 : (2 : Int) * (j : Int) < (cs.length : Int) := by omega
              have e3 : (2 : Int) * (j : Int) + 1 < (cs.length : Int) := by omega
              have e4 : (0 : Int) ≤ 2 * (j : Int) := by omega
              have e5 : (0 : Int) ≤ 2 * (j : Int) + 1 := by omega
              obtain ⟨a', cap', e', hcc⟩ := B6.out.fresh FJ.out
              cases e'
              obtain ⟨b, o, rfl, d0⟩ := hcc (2 * j) (by omega)
              obtain ⟨b', o', e', d1⟩ := hcc (2 * j + 1) (by omega)
              cases e'
              have q0 := HA.out (2 * j) (by omega)
              have q1 := HA.out (2 * j + 1) (by omega)
              have CJ := hide (show clsB p (k + 1) j = (cs.getD (2 * j) false || cs.getD (2 * j + 1) false) by rw [q0, q1]; rfl)
              have hc := OJ.out.cell HL.out.1.symm j gj
              have hfz := OJ.out.free HL.out.1.symm j
              generalize cs.getD (2 * j) false = x0 at *
              generalize cs.getD (2 * j + 1) false = x1 at *
              generalize hs.getD j false = y at *
              clear hcc q0 q1
              cases x0 with
              | true =>
                have HN := hide (halves_step HL.out gj true (by rw [CJ.out]; rfl))
                have ON := hide (OJ.out.put HL.out.1.symm j true)
                go_wp2
                go_roundw
                case rel => exact ⟨j + 1, _, by omega, by go_num, HN.out, ON.out, fresh_set FJ.out (by rw [HH.out]; exact Nat.le_refl _) j _⟩
                case measure => simp [intOf]; omega
              | false =>
                have HN := hide (halves_step HL.out gj x1 (by rw [CJ.out]; rfl))
                have ON := hide (OJ.out.put HL.out.1.symm j x1)
                go_wp2
                go_roundw
                case rel => exact ⟨j + 1, _, by omega, by go_num, HN.out, ON.out, fresh_set FJ.out (by rw [HH.out]; exact Nat.le_refl _) j _⟩
                case measure => simp [intOf]; omega
            · obtain rfl : m = j := by omega
              have GN := hide (G6.out.fresh FJ.out)
              have SN := hide (show Stage w R S B N p (k + 1) (.slice (some ⟨H, 0, none⟩) m m) (.slice (some ⟨g5, 0, none⟩) (k + 1) c5) hs wr from
                ⟨⟨H, wr.heap.size, OJ.out.in, Nat.le_refl _, .inl (by have := G6.out.lt; have := HH.out; omega), fun g hg => .inl (by
                    have : g = g5 := by simpa [Value.ownBlock] using hg.symm
                    subst this
                    obtain ⟨us, h1, _⟩ := G6.out.own
                    obtain ⟨cc, hcc⟩ := own_type h1 g rfl
                    rw [HH.out]
                    exact (Array.getElem?_eq_some_iff.1 hcc).1)⟩,
                  by rw [HL.out.1, HMM.out], fun j hj => HL.out.2 j (by rw [← HMM.out]; exact hj), GN.out, by rw [FJ.out.block R (Array.getElem?_eq_some_iff.1 R6.out).1]; exact R6.out⟩)
              clear GN
              go_wp2
              go_roundw
              case rel => exact ⟨k + 1, _, hs, by omega, by go_num, SN.out⟩
              case measure => simp [intOf]; omega
        · refine AllReady.cons rfl (fun K hK => ?_) AllReady.nil
          go_simp
          refine hK _ _ ?_
          clear hK K
          refine wpAny_ready (rs := [1]) (by kernel_rfl) (by simp) ?_
          refine AllReady.cons rfl (fun K hK => ?_) AllReady.nil
          go_simp
          refine hK _ _ ?_
          clear hK K
          refine wpAny_ready (rs := [7]) (by kernel_rfl) (by simp) ?_
          refine AllReady.cons rfl (fun K hK => ?_) AllReady.nil
          rw [if_pos (by rfl)]
          refine wp_append_at _ _ _ 24 rfl B 61 i0 (.agg #[.int .i64 0, .slice none 0 0]) 2 32 Try.underlying24 hi hz0 hz1 hz2 rfl (by decide) lv k us rfl (ownsRow_fresh US.out (fresh_more F3.out _ _)) ⟨w3.heap.size, 0, none⟩ 1 1 [.int .i64 ((N / 2 ^ k : Nat) : Int), .slice xa xl xc] rfl rfl (two_news w3 _ _ _) (one_two _ _ _ _) (by have := KC.out; unfold maxLen; omega) (by have := KC.out; omega) (by have := ST.out.grow.lt; have := F3.out.size; simp; omega) ?_
          intro lv' w5 hown hgrow hloc
          obtain ⟨g5, c5, rfl⟩ := own_shape hown (Nat.le_add_left 1 k)
          have PS := hide (ST.out.push RS.out RB.out T3.out F3.out US.out HO.out hown hgrow hloc)
          clear hown hgrow hloc
          obtain ⟨cS, fS⟩ := PS.out.2.2.2
          refine hK _ _ ?_
          clear hK K
          refine wpAny_take (i := 8) (v := ?_) rfl (by kernel_rfl) (by kernel_rfl) (by kernel_rfl) (fun _ _ _ h => h) (Or.inl ⟨by kernel_rfl, ?_⟩) ?_
          rotate_left
          · intro wz; go_simp; first | done | with_reducible rfl
          refine wpAny_ready (rs := [9]) (by kernel_rfl) (by simp) ?_
          refine AllReady.cons rfl (fun K hK => ?_) AllReady.nil
          go_simp
          refine hK _ _ ?_
          clear hK K
          refine wpAny_done (by kernel_rfl) ?_ _
          try simp only [Act.put, List.setIfInBounds_toArray, List.set_cons_succ, List.set_cons_zero]
          generalize w5.setCell ⟨S, 0, none⟩ (.slice (some ⟨g5, 0, none⟩) (k + 1) c5) = w6 at PS ⊢
          clear cS fS T3 F3
          have G6 := hide PS.out.1
          have R6 := hide PS.out.2.1
          have B6 := hide PS.out.2.2.1
          clear PS
          have HM := hide (show cs.length / 2 = N / 2 ^ (k + 1) by rw [half_div, LN.out])
          have HA := hide (show ∀ j, j < cs.length → cs.getD j false = clsB p k j from fun j hj => ST.out.are j (by rw [← LN.out]; exact hj))
          generalize hm : N / 2 ^ (k + 1) = m at HM
          have HMM := hide hm
          have hdv : (cs.length : Int) / 2 = (m : Int) := by have := HM.out; omega
          have ml : (m : Int) ≤ 65536 := by have := HM.out; omega
          have m0 : (0 : Int) ≤ (m : Int) := by omega
          clear hm ST US HO MD s0
          go_wp2_with (at_make; refine wpList_make_full _ rfl _ _ 64 rfl w6.heap.size 4 i1 (.bool false) 1 Try.underlying64 hi1 hy0 hy1 _ _ _ _ m rfl rfl (by first | exact hdv | rfl) (by first | exact hdv | rfl) (by rw [hy2]; omega) (by unfold maxLen; omega) (Nat.le_refl _) ?_; intro w7 hown hgrow)
          obtain ⟨ob, fb⟩ := bools_made (w0 := w6) (wr := w6) (w1 := w7) (ln := m) (v := .slice (some ⟨w6.heap.size, 0, none⟩) m m) hown hgrow
          have O7 := hide ob
          have F7 := hide fb
          clear hown hgrow ob fb
          obtain ⟨H, hH⟩ : ∃ H, H = w6.heap.size := ⟨_, rfl⟩
          have HH := hide hH
          rw [← hH]
          rw [← hH] at O7
          clear hH
          go_loopw [8] (fun i ws => ∃ (j : Nat) (hs : List Bool), j ≤ m ∧ i = .int .i64 (j : Int) ∧ Halves p k m j hs ∧ OwnB ws H (.slice (some ⟨H, 0, none⟩) m m) hs ∧ Fresh w6 ws) (fun i _ => (m - intOf i).toNat)
          case atStart => exact ⟨0, _, Nat.zero_le _, rfl, ⟨List.length_replicate, fun t ht => by omega⟩, O7.out, F7.out⟩
          case round =>
            obtain ⟨j, hs, hj, rfl, hh, ho, hf⟩ := hrel
            have HL := hide hh
            have OJ := hide ho
            have FJ := hide hf
            have j0 : (0 : Int) ≤ (j : Int) := by omega
            clear hh ho hf
            by_cases gj : j < m
            · have j1 : (j : Int) < (m : Int) := by omega
              have l2 : 2 * j + 1 < cs.length := by have := HM.out; omega
              have e0 : IntKind.i64.wrap (2 * (j : Int)) = ((2 * j : Nat) : Int) := by rw [IntKind.wrap_i64]; omega
              have e1 : IntKind.i64.wrap (2 * (j : Int) + 1) = ((2 * j + 1 : Nat) : Int) := by rw [IntKind.wrap_i64]; omega
              have e2 : (2 : Int) * (j : Int) < (cs.length : Int) := by omega
              have e3 : (2 : Int) * (j : Int) + 1 < (cs.length : Int) := by omega
              have e4 : (0 : Int) ≤ 2 * (j : Int) := by omega
              have e5 : (0 : Int) ≤ 2 * (j : Int) + 1 := by omega
              obtain ⟨a', cap', e', hcc⟩ := B6.out.fresh FJ.out
              cases e'
              obtain ⟨b, o, rfl, d0⟩ := hcc (2 * j) (by omega)
              obtain ⟨b', o', e', d1⟩ := hcc (2 * j + 1) (by omega)
              cases e'
              have q0 := HA.out (2 * j) (by omega)
              have q1 := HA.out (2 * j + 1) (by omega)
              have CJ := hide (show clsB p (k + 1) j = (cs.getD (2 * j) false || cs.getD (2 * j + 1) false) by rw [q0, q1]; rfl)
              have hc := OJ.out.cell HL.out.1.symm j gj
              have hfz := OJ.out.free HL.out.1.symm j
              generalize cs.getD (2 * j) false = x0 at *
              generalize cs.getD (2 * j + 1) false = x1 at *
              generalize hs.getD j false = y at *
              clear hcc q0 q1
              cases x0 with
              | true =>
                have HN := hide (halves_step HL.out gj true (by rw [CJ.out]; rfl))
                have ON := hide (OJ.out.put HL.out.1.symm j true)
                go_wp2
                go_roundw
                case rel => exact ⟨j + 1, _, by omega, by go_num, HN.out, ON.out, fresh_set FJ.out (by rw [HH.out]; exact Nat.le_refl _) j _⟩
                case measure => simp [intOf]; omega
              | false =>
                have HN := hide (halves_step HL.out gj x1 (by rw [CJ.out]; rfl))
                have ON := hide (OJ.out.put HL.out.1.symm j x1)
                go_wp2
                go_roundw
                case rel => exact ⟨j + 1, _, by omega, by go_num, HN.out, ON.out, fresh_set FJ.out (by rw [HH.out]; exact Nat.le_refl _) j _⟩
                case measure => simp [intOf]; omega
            · obtain rfl : m = j := by omega
              have GN := hide (G6.out.fresh FJ.out)
              have SN := hide (show Stage w R S B N p (k + 1) (.slice (some ⟨H, 0, none⟩) m m) (.slice (some ⟨g5, 0, none⟩) (k + 1) c5) hs wr from
                ⟨⟨H, wr.heap.size, OJ.out.in, Nat.le_refl _, .inl (by have := G6.out.lt; have := HH.out; omega), fun g hg => .inl (by
                    have : g = g5 := by simpa [Value.ownBlock] using hg.symm
                    subst this
                    obtain ⟨us, h1, _⟩ := G6.out.own
                    obtain ⟨cc, hcc⟩ := own_type h1 g rfl
                    rw [HH.out]
                    exact (Array.getElem?_eq_some_iff.1 hcc).1)⟩,
                  by rw [HL.out.1, HMM.out], fun j hj => HL.out.2 j (by rw [← HMM.out]; exact hj), GN.out, by rw [FJ.out.block R (Array.getElem?_eq_some_iff.1 R6.out).1]; exact R6.out⟩)
              clear GN
              go_wp2
              go_roundw
              case rel => exact ⟨k + 1, _, hs, by omega, by go_num, SN.out⟩
              case measure => simp [intOf]; omega
    · obtain rfl : c = k := by omega
      obtain ⟨us, hus, _⟩ := hst.grow.own
      obtain ⟨g9, c9, rfl⟩ := own_shape hus HC.out.1
      have SL := hide ((hst.grow.done HC.out).store RB.out (.slice (some ⟨g9, 0, none⟩) c c9))
      have FR := hide (show Fresh w (wr.setCell ⟨R, 0, none⟩ (.slice (some ⟨g9, 0, none⟩) c c9)) from fresh_set hst.grow.el WB.out.2 0 _)
      have BR := hide (show (wr.setCell ⟨R, 0, none⟩ (.slice (some ⟨g9, 0, none⟩) c c9)).heap[R]? = some (.cells #[.slice (some ⟨g9, 0, none⟩) c c9] 26 (0, 0)) from heap_set_same hst.res _)
      obtain ⟨s0, s1, r0, r1⟩ := hst.cell
      clear hst S0 hus
      go_wp2
      clear s0 s1 r0 r1
      generalize wr.setCell ⟨R, 0, none⟩ (.slice (some ⟨g9, 0, none⟩) c c9) = W9 at SL FR BR ⊢
      have h0 : W9.cell? ⟨R, 0, none⟩ = some (.slice (some ⟨g9, 0, none⟩) c c9) := cell_block BR.out 0 _ rfl
      refine bodyPost_ret (by simp [results, Try.results34, go_sem, h0]; try rfl) rfl ?_
      exact ⟨_, rfl, SL.out.mono WB.out.1, FR.out⟩
end Go.Proofs.Ytegolecdmpikhaa
/- What the document's own Use and SameSlots answer (hodmanref8), as contracts. -/
namespace Go.Proofs.Ytegolecdmpikhaa
open Go.RowKit

/-- the first tree, through its box -/
def HeldU (W : World) (n b o : Nat) (c cap : Nat) (nn : Int) (lv : Value) (w : World) : Prop := w.cell? ⟨n, 0, none⟩ = some (.slice (some ⟨b, o, none⟩) c cap) ∧ w.cell? ⟨b, o, none⟩ = some (.int .i64 nn) ∧ w.cell? ⟨b, o + 1, none⟩ = some lv ∧ Fresh W w
theorem HeldU.fresh {W : World} {n b o c cap : Nat} {nn : Int} {lv : Value} {w w' : World} (h : HeldU W n b o c cap nn lv w) (k : Fresh w w') : HeldU W n b o c cap nn lv w' := by
  obtain ⟨a, d, e, f⟩ := h
  exact ⟨(k.cell (World.block_lt_of_cell? _ _ a)).trans a, (k.cell (World.block_lt_of_cell? _ _ d)).trans d, (k.cell (World.block_lt_of_cell? _ _ e)).trans e, f.trans k⟩
theorem HeldU.set {W : World} {n b o c cap : Nat} {nn : Int} {lv : Value} {w : World} (h : HeldU W n b o c cap nn lv w) {R : Nat} (hR : W.heap.size ≤ R) (hn : R ≠ n) (hb : R ≠ b) (x : Value) : HeldU W n b o c cap nn lv (w.setCell ⟨R, 0, none⟩ x) :=
  ⟨(World.cell?_setCell_far w ⟨R, 0, none⟩ _ x hn).trans h.1, (World.cell?_setCell_far w ⟨R, 0, none⟩ _ x hb).trans h.2.1, (World.cell?_setCell_far w ⟨R, 0, none⟩ _ x hb).trans h.2.2.1, fresh_set h.2.2.2 hR 0 x⟩
theorem use_bits {N : Nat} {p : Nat → Bool} (f m : Int) (on : Bool) (i : Nat) (hi : i < N) : (bitsL N (setT N (trW N p 0) f m on)).getD i false = useB p f m on i := by
  have hl : Lev N (trW N p 0) := by have := tr_lev N p 0; simpa using this
  rw [bitsL_get N _ i hi, setT_bit hl f m on i hi]
  unfold useB
  have : bitV (trW N p 0) i = p i := tr_bit (k := 0) (by simpa using hi)
  rw [this]

set_option maxRecDepth 100000 in
set_option maxHeartbeats 2000000 in
theorem ruse_any (v : Value) (N c : Nat) (p : Nat → Bool) (f m : Int) (on : Bool) (w : World) (h : SlotsAt w v N c p) (hf : f ≤ 9223372036854775807) (hm : m ≤ 9223372036854775807) :
    Calls Try.prog 27 #[v, .int .i64 f, .int .i64 m, .bool on] w fun e w' => ∃ u, e = .returned u ∧ SlotsNew w.heap.size w' u N c (useB p f m on) ∧ Fresh w w' := by
  obtain ⟨hc, a, cap, rfl, h1, h2, ht⟩ := h
  obtain ⟨b, o, lv, rfl, d0, d1, t⟩ := ht 0 hc.1
  simp only [Nat.zero_mul, Nat.add_zero, Nat.pow_zero, Nat.div_one] at d0 d1 t
  obtain ⟨n, hn⟩ : ∃ n, n = w.heap.size := ⟨_, rfl⟩
  obtain ⟨R, hR⟩ : ∃ R, R = w.heap.size + 1 := ⟨_, rfl⟩
  obtain ⟨W1, hW1⟩ : ∃ W1, W1 = (w.alloc (.cells #[.slice (some ⟨b, o, none⟩) c cap] 26)).alloc (.cells #[.slice none 0 0] 26) := ⟨_, rfl⟩
  have FW : Fresh w W1 := by rw [hW1]; exact fresh_more (fresh_box _ _ _) _ _
  have sz : W1.heap.size = w.heap.size + 1 + 1 := by rw [hW1]; simp
  have bR : W1.heap[R]? = some (.cells #[.slice none 0 0] 26 (0, 0)) := by
    rw [hR, hW1]
    have := heap_alloc_new (w.alloc (.cells #[.slice (some ⟨b, o, none⟩) c cap] 26)) (.cells #[.slice none 0 0] 26 (0, 0))
    rwa [show (w.alloc (.cells #[.slice (some ⟨b, o, none⟩) c cap] 26)).heap.size = w.heap.size + 1 by simp] at this
  have bn : W1.heap[n]? = some (.cells #[.slice (some ⟨b, o, none⟩) c cap] 26 (0, 0)) := by
    rw [hn, hW1, (fresh_box (w.alloc (.cells #[.slice (some ⟨b, o, none⟩) c cap] 26)) #[.slice none 0 0] 26).block w.heap.size (by simp)]
    exact heap_alloc_new w _
  have H1 := hide (show HeldU w n b o c cap (N : Int) lv W1 from ⟨cell_block bn 0 _ rfl, (FW.cell (World.block_lt_of_cell? _ _ d0)).trans d0, (FW.cell (World.block_lt_of_cell? _ _ d1)).trans d1, FW⟩)
  have HS : Hid (HeldU w n b o c cap (N : Int) lv W1.drew) := H1.out.fresh (Fresh.refl _).drew
  have BR := hide bR
  have SE := hide (fun w' (k : Fresh w w') => rtset_any _ N (trW N p 0) f m on w' (t.fresh k) hf hm)
  have UB := hide (use_bits (N := N) (p := p) f m on)
  have HC := hide hc
  have WR := hide (show w.heap.size ≤ R ∧ w.heap.size ≤ W1.heap.size ∧ R < W1.heap.size by omega)
  have bw : b < w.heap.size := World.block_lt_of_cell? _ _ d0
  have NR := hide (show R ≠ n ∧ R ≠ b by omega)
  have HN := hide hn
  have HR := hide hR
  have HW := hide hW1
  have c1 : (1 : Int) ≤ (c : Int) := by have := hc.1; omega
  have c2 : (c : Int) ≤ 17 := by have := hc.2.1; omega
  have c3 : ((c : Int) == 0) = false := by rw [beq_eq_false_iff_ne]; omega
  have c4 : (0 : Int) < (c : Int) := by omega
  have c5 : 0 < c := by have := hc.1; omega
  obtain ⟨x0, -⟩ := H1.out
  clear hn hR hW1 FW sz bR bn d0 d1 t ht h1 h2 hc hf hm bw
  go_enter Try.func27, Try.ntmps27
  go_wp2_with fail
  rw [← HW.out, ← HR.out, ← HN.out]
  have FD : Hid (Fresh W1 W1.drew) := (Fresh.refl _).drew
  refine wp_region_held (S := HeldU w n b o c cap (N : Int) lv) (by kernel_rfl) ?_
  change wpAnyH _ _ _ _ _ _ _ _ (World.drew _)
  generalize World.drew W1 = wd at HS FD ⊢
  refine held_take (i := 0) (d := 14) (v := ?_) rfl rfl (by kernel_rfl) (by kernel_rfl) (by kernel_rfl) (fun _ _ _ h => h) (by kernel_rfl) ?_ HS.out ?_
  rotate_left
  · intro wz hz
    obtain ⟨z0, z1, z2, -⟩ := hz
    go_simp
    first | done | with_reducible rfl
  refine held_take (i := 1) (d := 15) (v := ?_) rfl rfl (by kernel_rfl) (by kernel_rfl) (by kernel_rfl) (fun _ _ _ h => h) (by kernel_rfl) ?_ HS.out ?_
  rotate_left
  · intro wz hz
    obtain ⟨z0, z1, z2, -⟩ := hz
    go_simp
    first | done | with_reducible rfl
  refine held_take (i := 2) (d := 16) (v := ?_) rfl rfl (by kernel_rfl) (by kernel_rfl) (by kernel_rfl) (fun _ _ _ h => h) (by kernel_rfl) ?_ HS.out ?_
  rotate_left
  · intro wz hz
    obtain ⟨z0, z1, z2, -⟩ := hz
    go_simp
    first | done | with_reducible rfl
  refine held_take (i := 3) (d := 17) (v := ?_) rfl rfl (by kernel_rfl) (by kernel_rfl) (by kernel_rfl) (fun _ _ _ h => h) (by kernel_rfl) ?_ HS.out ?_
  rotate_left
  · intro wz hz
    obtain ⟨z0, z1, z2, -⟩ := hz
    go_simp
    first | done | with_reducible rfl
  refine held_take (i := 4) (d := 18) (v := ?_) rfl rfl (by kernel_rfl) (by kernel_rfl) (by kernel_rfl) (fun _ _ _ h => h) (by kernel_rfl) ?_ HS.out ?_
  rotate_left
  · intro wz hz
    obtain ⟨z0, z1, z2, -⟩ := hz
    go_simp
    first | done | with_reducible rfl
  refine held_take (i := 5) (d := 19) (v := ?_) rfl rfl (by kernel_rfl) (by kernel_rfl) (by kernel_rfl) (fun _ _ _ h => h) (by kernel_rfl) ?_ HS.out ?_
  rotate_left
  · intro wz hz
    obtain ⟨z0, z1, z2, -⟩ := hz
    go_simp
    first | done | with_reducible rfl
  refine held_take (i := 6) (d := 20) (v := ?_) rfl rfl (by kernel_rfl) (by kernel_rfl) (by kernel_rfl) (fun _ _ _ h => h) (by kernel_rfl) ?_ HS.out ?_
  rotate_left
  · intro wz hz
    obtain ⟨z0, z1, z2, -⟩ := hz
    go_simp
    first | done | with_reducible rfl
  refine held_take (i := 9) (d := 23) (v := ?_) rfl rfl (by kernel_rfl) (by kernel_rfl) (by kernel_rfl) (fun _ _ _ h => h) (by kernel_rfl) ?_ HS.out ?_
  rotate_left
  · intro wz hz
    obtain ⟨z0, z1, z2, -⟩ := hz
    go_simp
    first | done | with_reducible rfl
  refine held_take (i := 10) (d := 24) (v := ?_) rfl rfl (by kernel_rfl) (by kernel_rfl) (by kernel_rfl) (fun _ _ _ h => h) (by kernel_rfl) ?_ HS.out ?_
  rotate_left
  · intro wz hz
    obtain ⟨z0, z1, z2, -⟩ := hz
    go_simp
    first | done | with_reducible rfl
  refine held_take (i := 11) (d := 25) (v := ?_) rfl rfl (by kernel_rfl) (by kernel_rfl) (by kernel_rfl) (fun _ _ _ h => h) (by kernel_rfl) ?_ HS.out ?_
  rotate_left
  · intro wz hz
    obtain ⟨z0, z1, z2, -⟩ := hz
    go_simp
    first | done | with_reducible rfl
  refine wpAnyH_ready (rs := [7]) (by kernel_rfl) (by simp) ?_
  refine AllReadyH.cons rfl (fun K hK => ?_) AllReadyH.nil
  go_simp
  go_wp2_with fail
  refine (SE.out _ HS.out.2.2.2).mono ?_; rintro e w2 ⟨v2, rfl, t2, f2⟩; have T2 := hide t2.at; have K2 := hide (FD.out.trans f2); have HS' := hide (HS.out.fresh f2); clear HS t2 f2; have HS := HS'; clear HS'
  refine hK.out _ _ HS.out (fun _ => ?_)
  clear hK K
  refine wpAnyH_ready (rs := [8]) (by kernel_rfl) (by simp) ?_
  refine AllReadyH.cons rfl (fun K hK => ?_) AllReadyH.nil
  go_simp
  go_wp2_with fail
  refine (tbits_any _ N _ _ T2.out).mono ?_; rintro e w3 ⟨g3, c3', rfl, o3, f3⟩; have O3 := hide o3.at; have K3 := hide (K2.out.trans f3); have HS' := hide (HS.out.fresh f3); clear HS o3 f3; have HS := HS'; clear HS'
  refine hK.out _ _ HS.out (fun _ => ?_)
  clear hK K
  refine wpAnyH_ready (rs := [12]) (by kernel_rfl) (by simp) ?_
  refine AllReadyH.cons rfl (fun K hK => ?_) AllReadyH.nil
  go_simp
  go_wp2_with fail
  refine (rofs_any _ _ N c _ O3.out (bitsL_length _ _) HC.out).mono ?_; rintro e w4 ⟨u, rfl, s4, f4⟩; have S4 := hide s4; have B4 := hide (show W1.heap.size ≤ w3.heap.size from K3.out.size); have K4 := hide (K3.out.trans f4); obtain ⟨_, ua, uc, rfl, _⟩ := s4.at; have HS' := hide (HS.out.fresh f4); clear HS s4 f4; have HS := HS'; clear HS'
  refine hK.out _ _ HS.out (fun _ => ?_)
  clear hK K
  have bR4 := BR.out
  rw [← K4.out.block R WR.out.2.2] at bR4
  have r0 := cell_block bR4 0 _ rfl
  have r1 := free_block bR4 0
  refine wpAnyH_ready (rs := [13]) (by kernel_rfl) (by simp) ?_
  refine AllReadyH.cons rfl (fun K hK => ?_) AllReadyH.nil
  go_simp
  have S5 := hide ((S4.out.store (Nat.lt_of_lt_of_le WR.out.2.2 B4.out) (.slice ua c uc)).congr UB.out); have FR := hide (show Fresh w (w4.setCell ⟨R, 0, none⟩ (.slice ua c uc)) from fresh_set HS.out.2.2.2 WR.out.1 0 _); have bR5 := hide (show (w4.setCell ⟨R, 0, none⟩ (.slice ua c uc)).heap[R]? = some (.cells #[.slice ua c uc] 26 (0, 0)) from heap_set_same bR4 _); have HS' := hide (show HeldU w n b o c cap (N : Int) lv (w4.setCell ⟨R, 0, none⟩ (.slice ua c uc)) from HS.out.set WR.out.1 NR.out.1 NR.out.2 _); clear HS r0 r1; generalize w4.setCell ⟨R, 0, none⟩ (.slice ua c uc) = W9 at S5 FR bR5 HS' ⊢; have HS := HS'; clear HS'
  refine hK.out _ _ HS.out (fun _ => ?_)
  clear hK K
  refine wpAnyH_done (by kernel_rfl) ?_ _
  try simp only [Act.put, List.setIfInBounds_toArray, List.set_cons_succ, List.set_cons_zero]
  go_wp2
  have h0 : W9.cell? ⟨R, 0, none⟩ = some (.slice ua c uc) := cell_block bR5.out 0 _ rfl
  refine bodyPost_ret (by simp [results, Try.results27, go_sem, h0]; try rfl) rfl ?_
  exact ⟨_, rfl, S5.out.mono (Nat.le_trans WR.out.2.1 B4.out), FR.out⟩
/-- two boxes, and a tree of each -/
def HeldW (W : World) (n m b o c cap b' o' cap' q : Nat) (nn : Int) (lv lv' : Value) (w : World) : Prop := w.cell? ⟨n, 0, none⟩ = some (.slice (some ⟨b, o, none⟩) c cap) ∧ w.cell? ⟨m, 0, none⟩ = some (.slice (some ⟨b', o', none⟩) c cap') ∧ w.cell? ⟨b, o + q, none⟩ = some (.int .i64 nn) ∧ w.cell? ⟨b, o + q + 1, none⟩ = some lv ∧ w.cell? ⟨b', o' + q, none⟩ = some (.int .i64 nn) ∧ w.cell? ⟨b', o' + q + 1, none⟩ = some lv' ∧ Fresh W w
theorem HeldW.fresh {W : World} {n m b o c cap b' o' cap' q : Nat} {nn : Int} {lv lv' : Value} {w w' : World} (h : HeldW W n m b o c cap b' o' cap' q nn lv lv' w) (k : Fresh w w') : HeldW W n m b o c cap b' o' cap' q nn lv lv' w' := by
  obtain ⟨a1, a2, a3, a4, a5, a6, a7⟩ := h
  exact ⟨(k.cell (World.block_lt_of_cell? _ _ a1)).trans a1, (k.cell (World.block_lt_of_cell? _ _ a2)).trans a2, (k.cell (World.block_lt_of_cell? _ _ a3)).trans a3, (k.cell (World.block_lt_of_cell? _ _ a4)).trans a4, (k.cell (World.block_lt_of_cell? _ _ a5)).trans a5, (k.cell (World.block_lt_of_cell? _ _ a6)).trans a6, a7.trans k⟩
set_option maxRecDepth 100000 in
set_option maxHeartbeats 2000000 in
theorem ssame_true (v u : Value) (N c : Nat) (p : Nat → Bool) (w : World) (h : SlotsAt w v N c p) (h' : SlotsAt w u N c p) :
    Calls Try.prog 19 #[v, u] w fun e w' => e = .returned (.bool true) ∧ Fresh w w' := by
  obtain ⟨hc, a, cap, rfl, _, _, ht⟩ := h
  obtain ⟨_, a', cap', rfl, _, _, ht'⟩ := h'
  obtain ⟨n, hn⟩ : ∃ n, n = w.heap.size := ⟨_, rfl⟩
  obtain ⟨m, hm⟩ : ∃ m, m = w.heap.size + 1 := ⟨_, rfl⟩
  obtain ⟨W1, hW1⟩ : ∃ W1, W1 = (w.alloc (.cells #[.slice a c cap] 26)).alloc (.cells #[.slice a' c cap'] 26) := ⟨_, rfl⟩
  have FW : Fresh w W1 := by rw [hW1]; exact fresh_more (fresh_box _ _ _) _ _
  have bm : W1.heap[m]? = some (.cells #[.slice a' c cap'] 26 (0, 0)) := by
    rw [hm, hW1]
    have := heap_alloc_new (w.alloc (.cells #[.slice a c cap] 26)) (.cells #[.slice a' c cap'] 26 (0, 0))
    rwa [show (w.alloc (.cells #[.slice a c cap] 26)).heap.size = w.heap.size + 1 by simp] at this
  have bn : W1.heap[n]? = some (.cells #[.slice a c cap] 26 (0, 0)) := by
    rw [hn, hW1, (fresh_box (w.alloc (.cells #[.slice a c cap] 26)) #[.slice a' c cap'] 26).block w.heap.size (by simp)]
    exact heap_alloc_new w _
  have x0 : W1.cell? ⟨n, 0, none⟩ = some (.slice a c cap) := cell_block bn 0 _ rfl
  have y0 : W1.cell? ⟨m, 0, none⟩ = some (.slice a' c cap') := cell_block bm 0 _ rfl
  have X0 := hide x0
  have Y0 := hide y0
  have HT := hide (ht.fresh FW)
  have HT' := hide (ht'.fresh FW)
  have HF := hide FW
  have HC := hide hc
  have HN := hide hn
  have HM := hide hm
  have HW := hide hW1
  have c1 : (0 : Int) ≤ (c : Int) := by omega
  have c2 : (c : Int) ≤ 17 := by have := hc.2.1; omega
  clear hn hm hW1 FW bm bn ht ht' hc
  go_enter Try.func19, Try.ntmps19
  go_wp2
  rw [← HW.out, ← HM.out, ← HN.out]
  go_loopw [5] (fun i wr => ∃ j : Nat, j ≤ c ∧ i = .int .i64 (j : Int) ∧ Fresh W1 wr) (fun i _ => (c - intOf i).toNat)
  case atStart => exact ⟨0, Nat.zero_le _, rfl, Fresh.refl _⟩
  case round =>
    obtain ⟨j, hj, rfl, hf⟩ := hrel
    have F := hide hf
    have j0 : (0 : Int) ≤ (j : Int) := by omega
    have x1 := (hf.cell (World.block_lt_of_cell? _ _ X0.out)).trans X0.out
    have y1 := (hf.cell (World.block_lt_of_cell? _ _ Y0.out)).trans Y0.out
    clear hf
    by_cases g : j < c
    · have g' : (j : Int) < (c : Int) := by omega
      obtain ⟨b, o, lv, rfl, d0, d1, t⟩ := (HT.out.fresh F.out) j g
      obtain ⟨b', o', lv', rfl, d0', d1', t'⟩ := (HT'.out.fresh F.out) j g
      have SM := hide (fun w' (k : Fresh wr w') => tsame_true _ _ (N / 2 ^ j) (nLev (N / 2 ^ j)) (lvV (trW N p j)) w' (t.fresh k).2.2.2 (t'.fresh k).2.2.2 (by have := nLev_in (N / 2 ^ j); omega))
      generalize ((N / 2 ^ j : Nat) : Int) = nn at *
      have HS : Hid (HeldW wr n m b o c cap b' o' cap' (j * 2) nn lv lv' wr.drew) := ⟨x1, y1, d0, d1, d0', d1', (Fresh.refl _).drew⟩
      clear d0 d1 d0' d1' t t'
      go_wp2_with fail
      refine wp_region_held (S := HeldW wr n m b o c cap b' o' cap' (j * 2) nn lv lv') (by kernel_rfl) ?_
      change wpAnyH _ _ _ _ _ _ _ _ (World.drew _)
      refine held_take (i := 0) (d := 20) (v := ?_) rfl rfl (by kernel_rfl) (by kernel_rfl) (by kernel_rfl) (fun _ _ _ h => h) (by kernel_rfl) ?_ HS.out ?_
      rotate_left
      · intro wz hz
        obtain ⟨z0, z1, z2, z3, z4, z5, -⟩ := hz
        go_simp
        first | done | with_reducible rfl
      refine held_take (i := 1) (d := 21) (v := ?_) rfl rfl (by kernel_rfl) (by kernel_rfl) (by kernel_rfl) (fun _ _ _ h => h) (by kernel_rfl) ?_ HS.out ?_
      rotate_left
      · intro wz hz
        obtain ⟨z0, z1, z2, z3, z4, z5, -⟩ := hz
        go_simp
        first | done | with_reducible rfl
      refine held_take (i := 2) (d := 22) (v := ?_) rfl rfl (by kernel_rfl) (by kernel_rfl) (by kernel_rfl) (fun _ _ _ h => h) (by kernel_rfl) ?_ HS.out ?_
      rotate_left
      · intro wz hz
        obtain ⟨z0, z1, z2, z3, z4, z5, -⟩ := hz
        go_simp
        first | done | with_reducible rfl
      refine held_take (i := 3) (d := 23) (v := ?_) rfl rfl (by kernel_rfl) (by kernel_rfl) (by kernel_rfl) (fun _ _ _ h => h) (by kernel_rfl) ?_ HS.out ?_
      rotate_left
      · intro wz hz
        obtain ⟨z0, z1, z2, z3, z4, z5, -⟩ := hz
        go_simp
        first | done | with_reducible rfl
      refine held_take (i := 4) (d := 24) (v := ?_) rfl rfl (by kernel_rfl) (by kernel_rfl) (by kernel_rfl) (fun _ _ _ h => h) (by kernel_rfl) ?_ HS.out ?_
      rotate_left
      · intro wz hz
        obtain ⟨z0, z1, z2, z3, z4, z5, -⟩ := hz
        go_simp
        first | done | with_reducible rfl
      refine held_take (i := 5) (d := 25) (v := ?_) rfl rfl (by kernel_rfl) (by kernel_rfl) (by kernel_rfl) (fun _ _ _ h => h) (by kernel_rfl) ?_ HS.out ?_
      rotate_left
      · intro wz hz
        obtain ⟨z0, z1, z2, z3, z4, z5, -⟩ := hz
        go_simp
        first | done | with_reducible rfl
      refine held_take (i := 6) (d := 26) (v := ?_) rfl rfl (by kernel_rfl) (by kernel_rfl) (by kernel_rfl) (fun _ _ _ h => h) (by kernel_rfl) ?_ HS.out ?_
      rotate_left
      · intro wz hz
        obtain ⟨z0, z1, z2, z3, z4, z5, -⟩ := hz
        go_simp
        first | done | with_reducible rfl
      refine held_take (i := 7) (d := 27) (v := ?_) rfl rfl (by kernel_rfl) (by kernel_rfl) (by kernel_rfl) (fun _ _ _ h => h) (by kernel_rfl) ?_ HS.out ?_
      rotate_left
      · intro wz hz
        obtain ⟨z0, z1, z2, z3, z4, z5, -⟩ := hz
        go_simp
        first | done | with_reducible rfl
      refine held_take (i := 8) (d := 28) (v := ?_) rfl rfl (by kernel_rfl) (by kernel_rfl) (by kernel_rfl) (fun _ _ _ h => h) (by kernel_rfl) ?_ HS.out ?_
      rotate_left
      · intro wz hz
        obtain ⟨z0, z1, z2, z3, z4, z5, -⟩ := hz
        go_simp
        first | done | with_reducible rfl
      refine held_take (i := 9) (d := 29) (v := ?_) rfl rfl (by kernel_rfl) (by kernel_rfl) (by kernel_rfl) (fun _ _ _ h => h) (by kernel_rfl) ?_ HS.out ?_
      rotate_left
      · intro wz hz
        obtain ⟨z0, z1, z2, z3, z4, z5, -⟩ := hz
        go_simp
        first | done | with_reducible rfl
      refine wpAnyH_ready (rs := [10]) (by kernel_rfl) (by simp) ?_
      refine AllReadyH.cons rfl (fun K hK => ?_) AllReadyH.nil
      go_simp
      go_wp2_with fail
      refine (SM.out _ HS.out.2.2.2.2.2.2).mono ?_; rintro e w2 ⟨rfl, f2⟩; have HS' := hide (HS.out.fresh f2); clear HS f2; have HS := HS'; clear HS'
      refine hK.out _ _ HS.out (fun _ => ?_)
      clear hK K
      refine held_take (i := 11) (d := 31) (v := ?_) rfl rfl (by kernel_rfl) (by kernel_rfl) (by kernel_rfl) (fun _ _ _ h => h) (by kernel_rfl) ?_ HS.out ?_
      rotate_left
      · intro wz hz
        obtain ⟨z0, z1, z2, z3, z4, z5, -⟩ := hz
        go_simp
        first | done | with_reducible rfl
      refine wpAnyH_done (by kernel_rfl) ?_ _
      try simp only [Act.put, List.setIfInBounds_toArray, List.set_cons_succ, List.set_cons_zero]
      go_wp2
      go_roundw
      case rel => exact ⟨j + 1, by omega, by go_num, F.out.trans HS.out.2.2.2.2.2.2⟩
      case measure => simp [intOf]; omega
    · obtain rfl : c = j := by omega
      go_wp2
      go_ret
      exact ⟨rfl, HF.out.trans F.out⟩
end Go.Proofs.Ytegolecdmpikhaa
/- What the document's own NewSlots answers (hodmanref8), as contracts. -/
namespace Go.Proofs.Ytegolecdmpikhaa
open Go.RowKit

theorem pow_small {j : Nat} (h : j ≤ 17) : 2 ^ (j - 1) ≤ 65536 ∧ 1 ≤ 2 ^ (j - 1) := by
  have : 2 ^ (j - 1) ≤ 2 ^ 16 := Nat.pow_le_pow_right (by decide) (by omega)
  exact ⟨by simpa using this, Nat.pow_pos (by decide)⟩
theorem pow_next {j : Nat} (h : 1 ≤ j) : 2 ^ (j + 1 - 1) = 2 ^ (j - 1) * 2 := by
  rw [show j + 1 - 1 = (j - 1) + 1 by omega, Nat.pow_succ]
set_option maxRecDepth 100000 in
set_option maxHeartbeats 2000000 in
theorem rnews_ok (N c : Nat) (hc : Cls N c) (w : World) :
    Calls Try.prog 18 #[.int .i64 (N : Int), .int .i64 (c : Int)] w fun e w' => ∃ u, e = .returned u ∧ SlotsNew w.heap.size w' u N c (fun _ => false) ∧ Fresh w w' := by
  obtain ⟨i1, hi1, hy0, hy1, hy2⟩ := infoOf infoBool
  obtain ⟨R, hR⟩ : ∃ R, R = w.heap.size := ⟨_, rfl⟩
  obtain ⟨W1, hW1⟩ : ∃ W1, W1 = w.alloc (.cells #[.slice none 0 0] 26) := ⟨_, rfl⟩
  have FW := hide (show Fresh w W1 by rw [hW1]; exact fresh_box _ _ _)
  have BR := hide (show W1.heap[R]? = some (.cells #[.slice none 0 0] 26 (0, 0)) by rw [hR, hW1]; exact heap_alloc_new w _)
  have WR := hide (show w.heap.size ≤ R ∧ R < W1.heap.size by rw [hR, hW1]; simp)
  have HC := hide hc
  have HC1 := hide hc.1
  have HR := hide hR
  have HW := hide hW1
  have n1 : (1 : Int) ≤ (N : Int) := by have := hc.2.2.1; omega
  have n2 : (N : Int) ≤ 65536 := by have := hc.2.2.2.1; omega
  have c1 : (1 : Int) ≤ (c : Int) := by have := hc.1; omega
  have c2 : (c : Int) ≤ 17 := by have := hc.2.1; omega
  clear hc hR hW1
  go_enter Try.func18, Try.ntmps18
  go_wp2
  rw [← HW.out, ← HR.out]
  go_loop [5, 6] (fun z i => ∃ (j s : Nat), 1 ≤ j ∧ j ≤ c ∧ i = .int .i64 (j : Int) ∧ z = .int .i64 (s : Int) ∧ s = 2 ^ (j - 1)) (fun _ i => (c - intOf i).toNat)
  case atStart => exact ⟨1, 1, Nat.le_refl _, HC1.out, rfl, rfl, rfl⟩
  case round =>
    obtain ⟨j, s, hj1, hj, rfl, rfl, hs⟩ := hrel
    have HSS := hide hs
    have sb := pow_small (j := j) (by omega)
    have s1 : (s : Int) ≤ 65536 := by omega
    have s0 : (1 : Int) ≤ (s : Int) := by omega
    have j0 : (1 : Int) ≤ (j : Int) := by omega
    clear hs sb
    by_cases g : j < c
    · have g' : (j : Int) < (c : Int) := by omega
      go_wp2
      go_round
      case rel => exact ⟨j + 1, s * 2, by omega, by omega, by go_num, by go_num, by rw [pow_next hj1, HSS.out]⟩
      case measure => simp [intOf]; omega
    · obtain rfl : c = j := by omega
      have hmod : (N : Int) % (s : Int) = 0 := by
        have h5 := HC.out.2.2.2.2
        rw [← HSS.out] at h5
        omega
      have hne : (s : Int) ≠ 0 := by omega
      go_wp2_with (at_make; refine wpList_make_full _ rfl _ _ 64 rfl W1.heap.size 4 i1 (.bool false) 1 Try.underlying64 hi1 hy0 hy1 _ _ _ _ N rfl rfl rfl rfl (by rw [hy2]; omega) (by unfold maxLen; omega) (Nat.le_refl _) ?_; intro w2 hown hgrow; have MB := hide (bools_made (w0 := W1) (wr := W1) (w1 := w2) (ln := N) (v := .slice (some ⟨W1.heap.size, 0, none⟩) N N) hown hgrow); clear hown hgrow)
      refine (rofs_any _ (List.replicate N false) N c _ MB.out.1.at List.length_replicate HC.out).mono ?_
      rintro e w3 ⟨u, rfl, s3, f3⟩
      obtain ⟨_, ua, uc, rfl, _⟩ := s3.at
      have K3 := hide (MB.out.2.trans f3)
      have S3 := hide ((s3.store (Nat.lt_of_lt_of_le WR.out.2 MB.out.2.size) (.slice ua c uc)).congr (q := fun _ => false) (fun i hi => by simp [List.getD_eq_getElem?_getD, hi]))
      have B3 := hide (Nat.le_trans FW.out.size MB.out.2.size)
      have bR3 := BR.out
      rw [← K3.out.block R WR.out.2] at bR3
      have r0 := cell_block bR3 0 _ rfl
      have r1 := free_block bR3 0
      have BR4 := hide (show (w3.setCell ⟨R, 0, none⟩ (.slice ua c uc)).heap[R]? = some (.cells #[.slice ua c uc] 26 (0, 0)) from heap_set_same bR3 _)
      have FR := hide (show Fresh w (w3.setCell ⟨R, 0, none⟩ (.slice ua c uc)) from fresh_set (FW.out.trans K3.out) WR.out.1 0 _)
      clear s3 f3 bR3
      go_wp2
      clear r0 r1
      generalize w3.setCell ⟨R, 0, none⟩ (.slice ua c uc) = W9 at S3 BR4 FR ⊢
      have h0 : W9.cell? ⟨R, 0, none⟩ = some (.slice ua c uc) := cell_block BR4.out 0 _ rfl
      refine bodyPost_ret (by simp [results, Try.results18, go_sem, h0]; try rfl) rfl ?_
      exact ⟨_, rfl, S3.out.mono B3.out, FR.out⟩
end Go.Proofs.Ytegolecdmpikhaa
/- What the document's own NewSlots answers (hodmanref8), as contracts. -/
namespace Go.Proofs.Ytegolecdmpikhaa
open Go.RowKit

set_option maxRecDepth 100000 in
set_option maxHeartbeats 2000000 in
theorem rnews_no (g x : Int) (hno : ∀ N c : Nat, g = N → x = c → ¬ Cls N c) (w : World) :
    Calls Try.prog 18 #[.int .i64 g, .int .i64 x] w fun e w' => e = .returned noSlots ∧ Fresh w w' := by
  obtain ⟨R, hR⟩ : ∃ R, R = w.heap.size := ⟨_, rfl⟩
  obtain ⟨W1, hW1⟩ : ∃ W1, W1 = w.alloc (.cells #[.slice none 0 0] 26) := ⟨_, rfl⟩
  have FW := hide (show Fresh w W1 by rw [hW1]; exact fresh_box _ _ _)
  have bR : W1.heap[R]? = some (.cells #[.slice none 0 0] 26 (0, 0)) := by rw [hR, hW1]; exact heap_alloc_new w _
  have BR4 := hide (show (W1.setCell ⟨R, 0, none⟩ (.slice none 0 0)).heap[R]? = some (.cells #[.slice none 0 0] 26 (0, 0)) from heap_set_same bR _)
  have FR := hide (show Fresh w (W1.setCell ⟨R, 0, none⟩ (.slice none 0 0)) from fresh_set FW.out (by rw [hR]; exact Nat.le_refl _) 0 _)
  have r0 : W1.cell? ⟨R, 0, none⟩ = some (.slice none 0 0) := cell_block bR 0 _ rfl
  have r1 := free_block bR 0
  have HR := hide hR
  have HW := hide hW1
  have NO := hide hno
  clear hno bR hR hW1
  by_cases g1 : x < 1
  · have g0 : x ≤ 0 := by omega
    clear g0
    go_enter Try.func18, Try.ntmps18
    go_wp2
    rw [← HW.out, ← HR.out]
    refine bodyPost_ret (by simp [results, Try.results18, go_sem, r0]; try rfl) rfl ?_
    exact ⟨rfl, FW.out⟩
  by_cases g2 : 17 < x
  · have g3 : 1 ≤ x := by omega
    clear g1
    go_enter Try.func18, Try.ntmps18
    go_wp2
    rw [← HW.out, ← HR.out]
    refine bodyPost_ret (by simp [results, Try.results18, go_sem, r0]; try rfl) rfl ?_
    exact ⟨rfl, FW.out⟩
  by_cases g3 : g < 1
  · have g4 : 1 ≤ x := by omega
    have g5 : x ≤ 17 := by omega
    clear g1 g2
    go_enter Try.func18, Try.ntmps18
    go_wp2
    rw [← HW.out, ← HR.out]
    refine bodyPost_ret (by simp [results, Try.results18, go_sem, r0]; try rfl) rfl ?_
    exact ⟨rfl, FW.out⟩
  by_cases g4 : 65536 < g
  · have g5 : 1 ≤ x := by omega
    have g6 : x ≤ 17 := by omega
    have g7 : 1 ≤ g := by omega
    clear g1 g2 g3
    go_enter Try.func18, Try.ntmps18
    go_wp2
    rw [← HW.out, ← HR.out]
    refine bodyPost_ret (by simp [results, Try.results18, go_sem, r0]; try rfl) rfl ?_
    exact ⟨rfl, FW.out⟩
  obtain ⟨N, rfl⟩ : ∃ N : Nat, g = N := ⟨g.toNat, by omega⟩
  obtain ⟨c, rfl⟩ : ∃ c : Nat, x = c := ⟨x.toNat, by omega⟩
  have HC1 := hide (show 1 ≤ c by omega)
  have HM := hide (show N % 2 ^ (c - 1) ≠ 0 from fun e => NO.out N c rfl rfl ⟨by omega, by omega, by omega, by omega, e⟩)
  have n1 : (1 : Int) ≤ (N : Int) := by omega
  have n2 : (N : Int) ≤ 65536 := by omega
  have c1 : (1 : Int) ≤ (c : Int) := by omega
  have c2 : (c : Int) ≤ 17 := by omega
  clear g1 g2 g3 g4 NO
  go_enter Try.func18, Try.ntmps18
  go_wp2
  rw [← HW.out, ← HR.out]
  go_loop [5, 6] (fun z i => ∃ (j s : Nat), 1 ≤ j ∧ j ≤ c ∧ i = .int .i64 (j : Int) ∧ z = .int .i64 (s : Int) ∧ s = 2 ^ (j - 1)) (fun _ i => (c - intOf i).toNat)
  case atStart => exact ⟨1, 1, Nat.le_refl _, HC1.out, rfl, rfl, rfl⟩
  case round =>
    obtain ⟨j, s, hj1, hj, rfl, rfl, hs⟩ := hrel
    have HSS := hide hs
    have sb := pow_small (j := j) (by omega)
    have s1 : (s : Int) ≤ 65536 := by omega
    have s0 : (1 : Int) ≤ (s : Int) := by omega
    have j0 : (1 : Int) ≤ (j : Int) := by omega
    clear hs sb
    by_cases g : j < c
    · have g' : (j : Int) < (c : Int) := by omega
      go_wp2
      go_round
      case rel => exact ⟨j + 1, s * 2, by omega, by omega, by go_num, by go_num, by rw [pow_next hj1, HSS.out]⟩
      case measure => simp [intOf]; omega
    · obtain rfl : c = j := by omega
      have hmod : ((N : Int) % (s : Int) == 0) = false := by
        rw [beq_eq_false_iff_ne]
        have h5 := HM.out
        rw [← HSS.out] at h5
        omega
      have hne : (s : Int) ≠ 0 := by omega
      go_wp2
      clear r0 r1
      generalize W1.setCell ⟨R, 0, none⟩ (.slice none 0 0) = W9 at BR4 FR ⊢
      have h0 : W9.cell? ⟨R, 0, none⟩ = some (.slice none 0 0) := cell_block BR4.out 0 _ rfl
      refine bodyPost_ret (by simp [results, Try.results18, go_sem, h0]; try rfl) rfl ?_
      exact ⟨rfl, FR.out⟩
end Go.Proofs.Ytegolecdmpikhaa
/- What the document's own SameSlots and Use answer of slots that are none (hodmanref8), as contracts. -/
namespace Go.Proofs.Ytegolecdmpikhaa
open Go.RowKit

theorem ssame_none (w : World) : Calls Try.prog 19 #[noSlots, noSlots] w fun e w' => e = .returned (.bool true) ∧ Fresh w w' := by
  unfold noSlots
  have F := hide (fresh_more (fresh_box w #[.slice none 0 0] 26) #[.slice none 0 0] 26)
  go_enter Try.func19, Try.ntmps19
  go_wp2
  refine wp_loop_rounds 1 ?_
  rw [rounds_succ]
  go_wp2
  go_ret
  exact ⟨rfl, F.out⟩
end Go.Proofs.Ytegolecdmpikhaa
