/- Slots in memory: a value of type api.Slots whose trees are read (SlotsAt); trees that lie in blocks from lo to hi (TreeIn); slots that lie in blocks from base on (SlotsNew). -/
import Derived.Test.YtpkcihfldmgehaaSlotsMath
import Derived.Test.YtpkcihfldmgehaaTreeMem
namespace Go.Proofs.Ytpkcihfldmgehaa
open Go.RowKit

/-- a tree that lies in blocks from lo to hi -/
def TreeIn (lo hi : Nat) (w : World) (v : Value) (n : Nat) (ws : List Nat) : Prop := ∀ w' : World, (∀ k, lo ≤ k → k < hi → w'.heap[k]? = w.heap[k]?) → TreeAt w' v n ws
theorem TreeIn.at {lo hi : Nat} {w : World} {v : Value} {n : Nat} {ws : List Nat} (h : TreeIn lo hi w v n ws) : TreeAt w v n ws := h w fun _ _ _ => rfl
theorem TreeNew.in {base : Nat} {w : World} {v : Value} {n : Nat} {ws : List Nat} (h : TreeNew base w v n ws) : TreeIn base w.heap.size w v n ws := fun w' hw => h w' hw
theorem TreeIn.beside {lo hi : Nat} {w w1 : World} {v : Value} {n : Nat} {ws : List Nat} (h : TreeIn lo hi w v n ws) (hk : ∀ k, lo ≤ k → k < hi → w1.heap[k]? = w.heap[k]?) : TreeIn lo hi w1 v n ws :=
  fun w' hw => h w' fun i h1 h2 => (hw i h1 h2).trans (hk i h1 h2)
theorem TreeIn.fresh {lo hi : Nat} {w w1 : World} {v : Value} {n : Nat} {ws : List Nat} (h : TreeIn lo hi w v n ws) (hs : hi ≤ w.heap.size) (k : Fresh w w1) : TreeIn lo hi w1 v n ws :=
  h.beside fun i _ h2 => k.block i (Nat.lt_of_lt_of_le h2 hs)

/-- trees in a row -/
def TreesAt (w : World) (a : Option Addr) (c : Nat) (ns : Nat → Nat) (f : Nat → List Nat) : Prop :=
  ∀ i, i < c → ∃ b o lv, a = some ⟨b, o, none⟩ ∧ w.cell? ⟨b, o + i * 2, none⟩ = some (.int .i64 ((ns i : Nat) : Int)) ∧ w.cell? ⟨b, o + i * 2 + 1, none⟩ = some lv ∧ TreeAt w (.agg #[.int .i64 ((ns i : Nat) : Int), lv]) (ns i) (f i)
theorem TreesAt.fresh {w w' : World} {a : Option Addr} {c : Nat} {ns : Nat → Nat} {f : Nat → List Nat} (h : TreesAt w a c ns f) (k : Fresh w w') : TreesAt w' a c ns f := by
  intro i hi
  obtain ⟨b, o, lv, e, c0, c1, t⟩ := h i hi
  exact ⟨b, o, lv, e, (k.cell (World.block_lt_of_cell? _ _ c0)).trans c0, (k.cell (World.block_lt_of_cell? _ _ c1)).trans c1, t.fresh k⟩
/-- slots: so many granules, so many classes, which granules are live -/
def SlotsAt (w : World) (v : Value) (N c : Nat) (p : Nat → Bool) : Prop := Cls N c ∧ ∃ a cap, v = .agg #[.slice a c cap] ∧ c ≤ cap ∧ cap ≤ 9223372036854775807 ∧ TreesAt w a c (fun k => N / 2 ^ k) (trW N p)
theorem SlotsAt.fresh {w w' : World} {v : Value} {N c : Nat} {p : Nat → Bool} (h : SlotsAt w v N c p) (k : Fresh w w') : SlotsAt w' v N c p := by
  obtain ⟨hc, a, cap, e, h1, h2, ht⟩ := h
  exact ⟨hc, a, cap, e, h1, h2, ht.fresh k⟩
theorem SlotsAt.congr {w : World} {v : Value} {N c : Nat} {p q : Nat → Bool} (h : SlotsAt w v N c p) (e : ∀ i, i < N → p i = q i) : SlotsAt w v N c q := by
  obtain ⟨hc, a, cap, e1, h1, h2, ht⟩ := h
  refine ⟨hc, a, cap, e1, h1, h2, fun i hi => ?_⟩
  have := ht i hi
  rw [tr_congr e i] at this
  exact this
/-- slots that lie in blocks from base on -/
def SlotsNew (base : Nat) (w : World) (v : Value) (N c : Nat) (p : Nat → Bool) : Prop := ∀ w' : World, (∀ k, base ≤ k → k < w.heap.size → w'.heap[k]? = w.heap[k]?) → SlotsAt w' v N c p
theorem SlotsNew.at {base : Nat} {w : World} {v : Value} {N c : Nat} {p : Nat → Bool} (h : SlotsNew base w v N c p) : SlotsAt w v N c p := h w fun _ _ _ => rfl
theorem SlotsNew.mono {base base' : Nat} {w : World} {v : Value} {N c : Nat} {p : Nat → Bool} (h : SlotsNew base w v N c p) (hb : base' ≤ base) : SlotsNew base' w v N c p := fun w' hw => h w' fun k hk => hw k (Nat.le_trans hb hk)
theorem SlotsNew.fresh {base : Nat} {w w1 : World} {v : Value} {N c : Nat} {p : Nat → Bool} (h : SlotsNew base w v N c p) (k : Fresh w w1) : SlotsNew base w1 v N c p :=
  fun w' hw => h w' fun i hi hl => (hw i hi (Nat.lt_of_lt_of_le hl k.size)).trans (k.block i hl)
theorem SlotsNew.congr {base : Nat} {w : World} {v : Value} {N c : Nat} {p q : Nat → Bool} (h : SlotsNew base w v N c p) (e : ∀ i, i < N → p i = q i) : SlotsNew base w v N c q := fun w' hw => (h w' hw).congr e
theorem SlotsNew.store {base : Nat} {w : World} {v : Value} {N c : Nat} {p : Nat → Bool} (h : SlotsNew base w v N c p) {T : Nat} (hT : T < base) (x : Value) : SlotsNew base (w.setCell ⟨T, 0, none⟩ x) v N c p :=
  fun w' hw => h w' fun k hk hl => by rw [hw k hk (by simpa [World.setCell] using hl), heap_setCell_other w ⟨T, 0, none⟩ k x (by show k ≠ T; omega)]
theorem infoTree : (Try.prog.info? 45).map (fun i => (i.zero, i.size, i.bytes)) = some (some (.agg #[.int .i64 0, .slice none 0 0]), 2, 32) := by kernel_rfl
/-- the lowest place of a class -/
def lowS (N c : Nat) (p : Nat → Bool) (x : Int) : Option Nat := if 0 ≤ x ∧ x < (c : Int) then firstT (N / 2 ^ x.toNat) (trW N p x.toNat) 0 else none
/-- none -/
def noSlots : Value := .agg #[.slice none 0 0]

/-- a row of trees in the making: k of them; S: the block that holds the row -/
structure GrowS (W : World) (B S k : Nat) (ns : Nat → Nat) (f : Nat → List Nat) (lv : Value) (w : World) : Prop where
  var : w.heap[S]? = some (.cells #[lv] 26 (0, 0))
  own : ∃ us : List Value, w.ownsRow B 45 2 lv k us ∧ ∀ i, i < k → ∃ x lo hi, us[i * 2]? = some (.int .i64 ((ns i : Nat) : Int)) ∧ us[i * 2 + 1]? = some x ∧ TreeIn lo hi w (.agg #[.int .i64 ((ns i : Nat) : Int), x]) (ns i) (f i) ∧ B ≤ lo ∧ hi ≤ w.heap.size ∧ ∀ g, lv.ownBlock = some g → g < lo ∨ hi ≤ g
  el : Fresh W w
  lt : W.heap.size ≤ S ∧ S < B ∧ B ≤ w.heap.size
theorem GrowS.fresh {W : World} {B S k : Nat} {ns : Nat → Nat} {f : Nat → List Nat} {lv : Value} {w w' : World} (h : GrowS W B S k ns f lv w) (j : Fresh w w') : GrowS W B S k ns f lv w' := by
  obtain ⟨us, h1, h2⟩ := h.own
  refine ⟨by rw [j.block S (Array.getElem?_eq_some_iff.1 h.var).1]; exact h.var, ⟨us, ownsRow_fresh h1 j, fun i hi => ?_⟩, h.el.trans j, h.lt.1, h.lt.2.1, Nat.le_trans h.lt.2.2 j.size⟩
  obtain ⟨x, lo, hi', c0, c1, t, l1, l2, l3⟩ := h2 i hi
  exact ⟨x, lo, hi', c0, c1, t.fresh l2 j, l1, Nat.le_trans l2 j.size, l3⟩
/-- the row, once it is made -/
theorem GrowS.done {W : World} {B S c N : Nat} {p : Nat → Bool} {lv : Value} {w : World} (h : GrowS W B S c (fun k => N / 2 ^ k) (trW N p) lv w) (hc : Cls N c) : SlotsNew B w (.agg #[lv]) N c p := by
  obtain ⟨us, h1, h2⟩ := h.own
  intro w' hw
  rcases h1.2 with ⟨rfl, h0⟩ | ⟨g, cap, cur, rfl, hb, hg, hcap, hm, hsz, htk⟩
  · have := hc.1; omega
  · refine ⟨hc, _, cap, rfl, hcap, hm, fun i hi => ?_⟩
    obtain ⟨x, lo, hi', c0, c1, t, l1, l2, _⟩ := h2 i hi
    have hg' : w'.heap[g]? = some (.cells cur 45 (0, 0)) := by rw [hw g hb (Array.getElem?_eq_some_iff.1 hg).1]; exact hg
    have hgl := World.ownsRow.cellAt h1 (i * 2) (by omega)
    have hgl1 := World.ownsRow.cellAt h1 (i * 2 + 1) (by omega)
    have e : ∀ j, w'.cell? ⟨g, j, none⟩ = w.cell? ⟨g, j, none⟩ := fun j => by rw [cell_of_row w' g j cur 45 (0, 0) hg', cell_of_row w g j cur 45 (0, 0) hg]
    refine ⟨g, 0, x, rfl, ?_, ?_, t w' fun k k1 k2 => hw k (Nat.le_trans l1 k1) (Nat.lt_of_lt_of_le k2 l2)⟩
    · rw [Nat.zero_add, e, hgl]; exact c0
    · rw [Nat.zero_add, e, hgl1]; exact c1
/-- one more tree: w1: behind the call that made it; w2: behind the append -/
theorem GrowS.push {W : World} {B S k : Nat} {ns : Nat → Nat} {f : Nat → List Nat} {lv lv' x : Value} {w w1 w2 : World} {us : List Value}
    (h : GrowS W B S k ns f lv w) (hus : w1.ownsRow B 45 2 lv k us)
    (hold : ∀ i, i < k → ∃ x lo hi, us[i * 2]? = some (.int .i64 ((ns i : Nat) : Int)) ∧ us[i * 2 + 1]? = some x ∧ TreeIn lo hi w1 (.agg #[.int .i64 ((ns i : Nat) : Int), x]) (ns i) (f i) ∧ B ≤ lo ∧ hi ≤ w1.heap.size ∧ ∀ g, lv.ownBlock = some g → g < lo ∨ hi ≤ g)
    {lo hi : Nat} (ht : TreeIn lo hi w1 (.agg #[.int .i64 ((ns k : Nat) : Int), x]) (ns k) (f k)) (hlo : B ≤ lo) (hhi : hi ≤ w1.heap.size) (hnew : ∀ g, lv.ownBlock = some g → g < lo ∨ hi ≤ g)
    (hf : Fresh w w1) (hown : w2.ownsRow B 45 2 lv' (k + 1) (us ++ [.int .i64 ((ns k : Nat) : Int), x])) (hgrow : w1.grownBy w2 lv.ownBlock) (hloc : lv'.ownBlock = lv.ownBlock ∨ lv'.ownBlock = some w1.heap.size) :
    GrowS W B S (k + 1) ns f lv' (w2.setCell ⟨S, 0, none⟩ lv') := by
  have hul : us.length = k * 2 := hus.1
  have hb : ∀ g, lv.ownBlock = some g → B ≤ g := fun g hg => by
    rcases hus.2 with ⟨rfl, _⟩ | ⟨g', cap, cur, rfl, hb, _⟩
    · cases hg
    · have : g' = g := by simpa [Value.ownBlock] using hg
      omega
  have hvar1 : w1.heap[S]? = some (.cells #[lv] 26 (0, 0)) := by rw [hf.block S (Array.getElem?_eq_some_iff.1 h.var).1]; exact h.var
  have hvar2 : w2.heap[S]? = some (.cells #[lv] 26 (0, 0)) := by
    rw [hgrow.block S (Array.getElem?_eq_some_iff.1 hvar1).1 (fun e => by have := hb S e.symm; have := h.lt.2.1; omega)]; exact hvar1
  have hS : S < B := h.lt.2.1
  have keep : ∀ lo hi, B ≤ lo → hi ≤ w1.heap.size → (∀ g, lv.ownBlock = some g → g < lo ∨ hi ≤ g) → ∀ i, lo ≤ i → i < hi → (w2.setCell ⟨S, 0, none⟩ lv').heap[i]? = w1.heap[i]? := fun lo hi a1 a2 a3 i i1 i2 => by
    rw [heap_setCell_other w2 ⟨S, 0, none⟩ i lv' (by show i ≠ S; omega)]
    exact hgrow.block i (by omega) (fun e => by rcases a3 i e.symm with h | h <;> omega)
  have loc : ∀ lo hi, hi ≤ w1.heap.size → (∀ g, lv.ownBlock = some g → g < lo ∨ hi ≤ g) → ∀ g, lv'.ownBlock = some g → g < lo ∨ hi ≤ g := fun lo hi a2 a3 g hg => by
    rcases hloc with e | e
    · rw [e] at hg; exact a3 g hg
    · rw [e] at hg; cases hg; exact .inr a2
  have hsz : (w2.setCell ⟨S, 0, none⟩ lv').heap.size = w2.heap.size := by simp [World.setCell]
  refine ⟨heap_set_same hvar2 _, ⟨us ++ [.int .i64 ((ns k : Nat) : Int), x], ownsRow_setCell_other hown ?_ _, fun i hi' => ?_⟩, ?_, h.lt.1, h.lt.2.1, by rw [hsz]; exact Nat.le_trans (Nat.le_trans h.lt.2.2 hf.size) hgrow.size⟩
  · intro e
    rcases hloc with e2 | e2
    · rw [e2] at e; have := hb _ e; simp at this; omega
    · rw [e2] at e; simp at e
      have := (Array.getElem?_eq_some_iff.1 hvar1).1
      omega
  · by_cases e : i = k
    · subst e
      refine ⟨x, lo, hi, ?_, ?_, ht.beside (keep lo hi hlo hhi hnew), hlo, by rw [hsz]; exact Nat.le_trans hhi hgrow.size, loc lo hi hhi hnew⟩
      · rw [List.getElem?_append_right (by omega), hul]; simp
      · rw [List.getElem?_append_right (by omega), hul]
        have : i * 2 + 1 - i * 2 = 1 := by omega
        rw [this]; rfl
    · obtain ⟨y, lo', hi2, c0, c1, t, l1, l2, l3⟩ := hold i (by omega)
      refine ⟨y, lo', hi2, ?_, ?_, t.beside (keep lo' hi2 l1 l2 l3), l1, by rw [hsz]; exact Nat.le_trans l2 hgrow.size, loc lo' hi2 l2 l3⟩
      · rw [List.getElem?_append_left (by omega)]; exact c0
      · rw [List.getElem?_append_left (by omega)]; exact c1
  · exact fresh_set ((h.el.trans hf).grown hgrow (h.el.trans hf).size fun i hi => by have := hb i hi; have := h.lt; omega) h.lt.1 0 _
end Go.Proofs.Ytpkcihfldmgehaa
