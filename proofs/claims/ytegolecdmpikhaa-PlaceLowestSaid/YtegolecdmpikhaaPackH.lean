/- Several texts as one: SlotsTurn, SlotsFill, SlotsA, SlotsB, SlotsN, SlotsU. -/
import Derived.Test.YtegolecdmpikhaaPackE
import Derived.Test.YtegolecdmpikhaaPackB
import Derived.Test.YtegolecdmpikhaaPackC
/- How Use goes from class to class: of the bits of a class those from F on, ahead of E, are turned, the others as they were (Rng). Of no program. -/
namespace Go.Proofs.Ytegolecdmpikhaa

def Rng (M : Nat) (p q : Nat → Bool) (F E : Nat) (on : Bool) : Prop := F ≤ E ∧ E ≤ M ∧ ∀ j, j < M → q j = if F ≤ j ∧ j < E then on else p j
/-- where the turned bits of the next class begin, and end: x0, x1: what the outer places have live in them -/
def tF (x0 : Bool) (F : Nat) (on : Bool) : Nat := if !on && x0 then F / 2 + 1 else F / 2
def tE (x0 x1 : Bool) (F E : Nat) (on : Bool) : Nat := if !on && (decide (tF x0 F on < (E - 1) / 2 + 1) && x1) then (E - 1) / 2 else (E - 1) / 2 + 1
def turnF (x0 : Bool) (F E : Nat) (on : Bool) : Nat := if E ≤ F then 0 else tF x0 F on
def turnE (x0 x1 : Bool) (F E : Nat) (on : Bool) : Nat := if E ≤ F then 0 else tE x0 x1 F E on
theorem turn_rng {M M' : Nat} {p q : Nat → Bool} {F E : Nat} {on : Bool} (h : Rng M p q F E on) (hM : M = 2 * M') :
    Rng M' (halfB p) (halfB q) (turnF (halfB q (F / 2)) F E on) (turnE (halfB q (F / 2)) (halfB q ((E - 1) / 2)) F E on) on := by
  obtain ⟨h1, h2, h3⟩ := h
  unfold turnF turnE
  by_cases hE : E ≤ F
  · rw [if_pos hE, if_pos hE]
    refine ⟨Nat.le_refl _, Nat.zero_le _, fun j hj => ?_⟩
    rw [if_neg (by omega)]
    unfold halfB
    rw [h3 (2 * j) (by omega), h3 (2 * j + 1) (by omega), if_neg (by omega), if_neg (by omega)]
  · rw [if_neg hE, if_neg hE]
    cases on with
    | true =>
      have e1 : tF (halfB q (F / 2)) F true = F / 2 := rfl
      have e2 : tE (halfB q (F / 2)) (halfB q ((E - 1) / 2)) F E true = (E - 1) / 2 + 1 := rfl
      rw [e1, e2]
      refine ⟨by omega, by omega, fun j hj => ?_⟩
      unfold halfB
      rw [h3 (2 * j) (by omega), h3 (2 * j + 1) (by omega)]
      by_cases hin : F / 2 ≤ j ∧ j < (E - 1) / 2 + 1
      · rw [if_pos hin]
        by_cases g : F ≤ 2 * j
        · rw [if_pos ⟨g, by omega⟩]; rfl
        · rw [if_pos (⟨by omega, by omega⟩ : F ≤ 2 * j + 1 ∧ 2 * j + 1 < E), Bool.or_true]
      · rw [if_neg hin, if_neg (by omega), if_neg (by omega)]
    | false =>
      have out : ∀ j, j < M' → (j < F / 2 ∨ (E - 1) / 2 < j) → halfB q j = halfB p j := fun j hj ho => by
        unfold halfB
        rw [h3 (2 * j) (by omega), h3 (2 * j + 1) (by omega), if_neg (by omega), if_neg (by omega)]
      have ins : ∀ j, j < M' → F / 2 < j → j < (E - 1) / 2 → halfB q j = false := fun j hj a b => by
        unfold halfB
        rw [h3 (2 * j) (by omega), h3 (2 * j + 1) (by omega), if_pos (by omega), if_pos (by omega)]; rfl
      have up : ∀ j, j < M' → halfB q j = true → halfB q j = halfB p j := fun j hj ht => by
        rw [ht]
        unfold halfB at ht ⊢
        rw [h3 (2 * j) (by omega), h3 (2 * j + 1) (by omega)] at ht
        split at ht <;> split at ht <;> simp_all
      have q0 : F / 2 < M' := by omega
      have q1 : (E - 1) / 2 < M' := by omega
      have q2 : F / 2 ≤ (E - 1) / 2 := by omega
      have u0 := up (F / 2) q0
      have u1 := up ((E - 1) / 2) q1
      generalize hx0 : halfB q (F / 2) = x0 at *
      generalize hx1 : halfB q ((E - 1) / 2) = x1 at *
      generalize hL : (E - 1) / 2 = L at *
      generalize hK : F / 2 = K at *
      have key : ∀ j, j < M' → halfB q j = halfB p j ∨ (K ≤ j ∧ j ≤ L ∧ halfB q j = false) := fun j hj => by
        by_cases g : j < K ∨ L < j
        · exact .inl (out j hj g)
        · cases hq : halfB q j with
          | true => exact .inl (by rw [← up j hj hq]; exact hq.symm)
          | false => exact .inr ⟨by omega, by omega, rfl⟩
      have eF : tF x0 F false = if x0 then K + 1 else K := by unfold tF; rw [hK]; rfl
      have eE : tE x0 x1 F E false = if decide (tF x0 F false < L + 1) && x1 then L else L + 1 := by unfold tE; rw [hL]; rfl
      rw [eE, eF]
      have fin : ∀ F' E', F' ≤ E' → E' ≤ M' → K ≤ F' → E' ≤ L + 1 → (∀ j, j < M' → F' ≤ j → j < E' → halfB q j = false) → (∀ j, j < M' → K ≤ j → j ≤ L → (j < F' ∨ E' ≤ j) → halfB q j = true) → Rng M' (halfB p) (halfB q) F' E' false := fun F' E' a b ca cb d e => by
        refine ⟨a, b, fun j hj => ?_⟩
        by_cases g : F' ≤ j ∧ j < E'
        · rw [if_pos g]; exact d j hj g.1 g.2
        · rw [if_neg g]
          rcases key j hj with hk | ⟨k1, k2, k3⟩
          · exact hk
          · have := e j hj k1 k2 (by omega)
            rw [this] at k3; cases k3
      have inx : ∀ j, j < M' → K ≤ j → j ≤ L → (j = K → x0 = false) → (j = L → x1 = false) → halfB q j = false := fun j hj a b c d => by
        by_cases g0 : j = K
        · subst g0; rw [hx0]; exact c rfl
        · by_cases g1 : j = L
          · subst g1; rw [hx1]; exact d rfl
          · exact ins j hj (by omega) (by omega)
      cases x0 with
      | true =>
        by_cases hKL : K + 1 < L + 1
        · cases x1 with
          | true =>
            simp only [if_pos, decide_eq_true hKL, Bool.true_and]
            exact fin _ _ (by omega) (by omega) (by omega) (by omega) (fun j hj a b => inx j hj (by omega) (by omega) (by omega) (by omega)) (fun j hj a b c => by rcases (show j = K ∨ j = L by omega) with e | e <;> rw [e] <;> assumption)
          | false =>
            simp only [if_pos, Bool.and_false, Bool.false_eq_true, if_false]
            exact fin _ _ (by omega) (by omega) (by omega) (by omega) (fun j hj a b => inx j hj (by omega) (by omega) (by omega) (fun _ => rfl)) (fun j hj a b c => by rw [show j = K by omega]; assumption)
        · have e : L = K := by omega
          simp only [if_pos, decide_eq_false hKL, Bool.false_and, Bool.false_eq_true, if_false]
          exact fin _ _ (by omega) (by omega) (by omega) (by omega) (fun j hj a b => by omega) (fun j hj a b c => by rw [show j = K by omega]; assumption)
      | false =>
        cases x1 with
        | true =>
          have hlt : K < L + 1 := by omega
          simp only [Bool.false_eq_true, if_false, decide_eq_true hlt, Bool.true_and, if_pos]
          have hne : K ≠ L := by rintro rfl; rw [hx0] at hx1; cases hx1
          exact fin _ _ (by omega) (by omega) (by omega) (by omega) (fun j hj a b => inx j hj (by omega) (by omega) (fun _ => rfl) (by omega)) (fun j hj a b c => by rw [show j = L by omega]; assumption)
        | false =>
          simp only [Bool.and_false, Bool.false_eq_true, if_false]
          exact fin _ _ (by omega) (by omega) (by omega) (by omega) (fun j hj a b => inx j hj (by omega) (by omega) (fun _ => rfl) (fun _ => rfl)) (fun j hj a b c => by omega)
/-- the granules that are there -/
def thF (N : Nat) (f m : Int) : Nat := if f < 0 ∨ m < 1 ∨ (N : Int) ≤ f then 0 else f.toNat
def thE (N : Nat) (f m : Int) : Nat := if f < 0 ∨ m < 1 ∨ (N : Int) ≤ f then 0 else f.toNat + min m.toNat (N - f.toNat)
theorem there_rng (N : Nat) (p : Nat → Bool) (f m : Int) (on : Bool) : Rng N p (useB p f m on) (thF N f m) (thE N f m) on := by
  unfold thF thE useB
  by_cases h : f < 0 ∨ m < 1 ∨ (N : Int) ≤ f
  · rw [if_pos h, if_pos h]
    refine ⟨Nat.le_refl _, Nat.zero_le _, fun j hj => ?_⟩
    dsimp only
    rw [if_neg (by omega), if_neg (by omega)]
  · rw [if_neg h, if_neg h]
    refine ⟨by omega, by omega, fun j hj => ?_⟩
    dsimp only
    by_cases g : f.toNat ≤ j ∧ j < f.toNat + min m.toNat (N - f.toNat)
    · rw [if_pos (by omega), if_pos g]
    · rw [if_neg (by omega), if_neg g]
/-- a class's tree, turned -/
theorem set_rng {N k : Nat} {p q : Nat → Bool} {F E : Nat} {on : Bool} (h : Rng (N / 2 ^ k) (clsB p k) (clsB q k) F E on) : setT (N / 2 ^ k) (trW N p k) (F : Int) ((E : Int) - (F : Int)) on = trW N q k := by
  obtain ⟨h1, h2, h3⟩ := h
  have e : (E : Int) - (F : Int) = ((E - F : Nat) : Int) := by omega
  rw [e]
  refine lev_ext (lev_setT (tr_lev N p k) _ _ _) (tr_lev N q k) fun i hi => ?_
  rw [bit_setT (tr_lev N p k) F (E - F) on i hi, tr_bit hi, tr_bit hi, h3 i hi]
  by_cases g : F ≤ i ∧ i < E
  · rw [if_pos (by omega), if_pos g]
  · rw [if_neg (by omega), if_neg g]
end Go.Proofs.Ytegolecdmpikhaa
/- A row of trees that is filled, one after the other (FillS): the landed code's New and Use make one. -/
namespace Go.Proofs.Ytegolecdmpikhaa
open Go.RowKit

/-- V: the block that holds the row; g: the row's block; k trees of c are there -/
structure FillS (W : World) (V g c k : Nat) (ns : Nat → Nat) (f : Nat → List Nat) (w : World) : Prop where
  var : w.heap[V]? = some (.cells #[.slice (some ⟨g, 0, none⟩) c c] 26 (0, 0))
  own : ∃ us : List Value, w.ownsRow W.heap.size 61 2 (.slice (some ⟨g, 0, none⟩) c c) c us ∧ ∀ i, i < k → ∃ x lo hi, us[i * 2]? = some (.int .i64 ((ns i : Nat) : Int)) ∧ us[i * 2 + 1]? = some x ∧ TreeIn lo hi w (.agg #[.int .i64 ((ns i : Nat) : Int), x]) (ns i) (f i) ∧ V < lo ∧ hi ≤ w.heap.size
  el : Fresh W w
  lt : W.heap.size ≤ g ∧ g < V
theorem FillS.fresh {W : World} {V g c k : Nat} {ns : Nat → Nat} {f : Nat → List Nat} {w w' : World} (h : FillS W V g c k ns f w) (j : Fresh w w') : FillS W V g c k ns f w' := by
  obtain ⟨us, h1, h2⟩ := h.own
  refine ⟨by rw [j.block V (Array.getElem?_eq_some_iff.1 h.var).1]; exact h.var, ⟨us, ownsRow_fresh h1 j, fun i hi => ?_⟩, h.el.trans j, h.lt⟩
  obtain ⟨x, lo, hi', c0, c1, t, l1, l2⟩ := h2 i hi
  exact ⟨x, lo, hi', c0, c1, t.fresh l2 j, l1, Nat.le_trans l2 j.size⟩
theorem FillS.cell {W : World} {V g c k : Nat} {ns : Nat → Nat} {f : Nat → List Nat} {w : World} (h : FillS W V g c k ns f w) : w.cell? ⟨V, 0, none⟩ = some (.slice (some ⟨g, 0, none⟩) c c) := cell_block h.var 0 _ rfl
/-- a place of the row: there, and free to be stored into -/
theorem FillS.place {W : World} {V g c k : Nat} {ns : Nat → Nat} {f : Nat → List Nat} {w : World} (h : FillS W V g c k ns f w) (i : Nat) (hi : i < c) : (∃ x y, w.cell? ⟨g, i * 2, none⟩ = some x ∧ w.cell? ⟨g, i * 2 + 1, none⟩ = some y) ∧ (∀ j, w.frozen? ⟨g, j, none⟩ = false) := by
  obtain ⟨us, h1, h2⟩ := h.own
  have hl : us.length = c * 2 := h1.1
  refine ⟨⟨us[i * 2]'(by omega), us[i * 2 + 1]'(by omega), ?_, ?_⟩, World.ownsRow.frozenAt h1⟩
  · rw [World.ownsRow.cellAt h1 (i * 2) (by omega)]; exact List.getElem?_eq_getElem _
  · rw [World.ownsRow.cellAt h1 (i * 2 + 1) (by omega)]; exact List.getElem?_eq_getElem _
/-- a tree of the row -/
theorem FillS.tree {W : World} {V g c k : Nat} {ns : Nat → Nat} {f : Nat → List Nat} {w : World} (h : FillS W V g c k ns f w) (hk : k ≤ c) (i : Nat) (hi : i < k) : ∃ x, w.cell? ⟨g, i * 2, none⟩ = some (.int .i64 ((ns i : Nat) : Int)) ∧ w.cell? ⟨g, i * 2 + 1, none⟩ = some x ∧ TreeAt w (.agg #[.int .i64 ((ns i : Nat) : Int), x]) (ns i) (f i) := by
  obtain ⟨us, h1, h2⟩ := h.own
  obtain ⟨x, lo, hi', c0, c1, t, l1, l2⟩ := h2 i hi
  exact ⟨x, by rw [World.ownsRow.cellAt h1 (i * 2) (by omega)]; exact c0, by rw [World.ownsRow.cellAt h1 (i * 2 + 1) (by omega)]; exact c1, t.at⟩
/-- one more tree: w: ahead of the call that made it; w1: behind it -/
theorem FillS.put {W : World} {V g c k : Nat} {ns : Nat → Nat} {f : Nat → List Nat} {w w1 : World} {x : Value} (h : FillS W V g c k ns f w) (hk : k < c) (hf : Fresh w w1)
    (ht : TreeNew w.heap.size w1 (.agg #[.int .i64 ((ns k : Nat) : Int), x]) (ns k) (f k)) :
    FillS W V g c (k + 1) ns f ((w1.setCell ⟨g, k * 2, none⟩ (.int .i64 ((ns k : Nat) : Int))).setCell ⟨g, k * 2 + 1, none⟩ x) := by
  have h1 := h.fresh hf
  obtain ⟨us, o1, o2⟩ := h1.own
  have hul : us.length = c * 2 := o1.1
  have hV : V < w.heap.size := (Array.getElem?_eq_some_iff.1 h.var).1
  have hVg : V ≠ g := by have := h.lt; omega
  have o3 := (World.ownsRow.stored (World.ownsRow.stored o1 (k * 2) (.int .i64 ((ns k : Nat) : Int))).1 (k * 2 + 1) x).1
  have keep : ∀ i, i ≠ g → ((w1.setCell ⟨g, k * 2, none⟩ (.int .i64 ((ns k : Nat) : Int))).setCell ⟨g, k * 2 + 1, none⟩ x).heap[i]? = w1.heap[i]? := fun i hi => by
    rw [heap_setCell_other _ ⟨g, k * 2 + 1, none⟩ i x hi, heap_setCell_other _ ⟨g, k * 2, none⟩ i _ hi]
  have hsz : ((w1.setCell ⟨g, k * 2, none⟩ (.int .i64 ((ns k : Nat) : Int))).setCell ⟨g, k * 2 + 1, none⟩ x).heap.size = w1.heap.size := by simp [World.setCell]
  refine ⟨by rw [keep V hVg]; exact h1.var, ⟨_, o3, fun i hi => ?_⟩, fresh_set (fresh_set h1.el h.lt.1 _ _) h.lt.1 _ _, h.lt⟩
  by_cases e : i = k
  · subst e
    refine ⟨x, w.heap.size, w1.heap.size, ?_, ?_, ht.in.beside (fun j j1 _ => keep j (by have := h.lt; omega)), hV, by rw [hsz]; exact Nat.le_refl _⟩
    · rw [List.getElem?_set_ne (by omega), List.getElem?_set_self (by omega)]
    · rw [List.getElem?_set_self (by simp; omega)]
  · obtain ⟨y, lo, hi', c0, c1, t, l1, l2⟩ := o2 i (by omega)
    refine ⟨y, lo, hi', ?_, ?_, t.beside (fun j j1 _ => keep j (by have := h.lt; omega)), l1, by rw [hsz]; exact l2⟩
    · rw [List.getElem?_set_ne (by omega), List.getElem?_set_ne (by omega)]; exact c0
    · rw [List.getElem?_set_ne (by omega), List.getElem?_set_ne (by omega)]; exact c1
/-- the row, once it is filled -/
theorem FillS.done {W : World} {V g c N : Nat} {p : Nat → Bool} {w : World} (h : FillS W V g c c (fun k => N / 2 ^ k) (trW N p) w) (hc : Cls N c) : SlotsNew W.heap.size w (.agg #[.slice (some ⟨g, 0, none⟩) c c]) N c p := by
  obtain ⟨us, h1, h2⟩ := h.own
  intro w' hw
  refine ⟨hc, _, c, rfl, Nat.le_refl _, by have := hc.2.1; omega, fun i hi => ?_⟩
  obtain ⟨x, lo, hi', c0, c1, t, l1, l2⟩ := h2 i hi
  obtain ⟨cur, hg⟩ := own_type h1 g rfl
  have hg' : w'.heap[g]? = some (.cells cur 61 (0, 0)) := by rw [hw g h.lt.1 (Array.getElem?_eq_some_iff.1 hg).1]; exact hg
  have hgl := World.ownsRow.cellAt h1 (i * 2) (by omega)
  have hgl1 := World.ownsRow.cellAt h1 (i * 2 + 1) (by omega)
  have e : ∀ j, w'.cell? ⟨g, j, none⟩ = w.cell? ⟨g, j, none⟩ := fun j => by rw [cell_of_row w' g j cur 61 (0, 0) hg', cell_of_row w g j cur 61 (0, 0) hg]
  refine ⟨g, 0, x, rfl, ?_, ?_, t w' fun k k1 k2 => hw k (by have := h.lt; omega) (Nat.lt_of_lt_of_le k2 l2)⟩
  · rw [Nat.zero_add, e, hgl]; exact c0
  · rw [Nat.zero_add, e, hgl1]; exact c1
/-- the start: a row that was made, and a block for it -/
theorem fill_start {W w w1 : World} {c : Nat} {us : List Value} {ns : Nat → Nat} {f : Nat → List Nat} (hf : Fresh W w) (hown : w1.ownsRow w.heap.size 61 2 (.slice (some ⟨w.heap.size, 0, none⟩) c c) c us) (hgrow : w.grownBy w1 none) :
    FillS W w1.heap.size w.heap.size c 0 ns f (w1.alloc (.cells #[.slice (some ⟨w.heap.size, 0, none⟩) c c] 26)) := by
  have f1 : Fresh w w1 := (Below.refl _ _).grown hgrow (Nat.le_refl _) (fun k hk => by cases hk)
  obtain ⟨cur, hg⟩ := own_type hown w.heap.size rfl
  exact ⟨heap_alloc_new w1 _, ⟨us, ownsRow_fresh (ownsRow_mono hown hf.size) (fresh_box _ _ _), fun i hi => by omega⟩, fresh_more (hf.trans f1) _ _, hf.size, (Array.getElem?_eq_some_iff.1 hg).1⟩
end Go.Proofs.Ytegolecdmpikhaa
/- The small helpers of package slots (live, turned, there, shapeMay), and Lowest, as contracts. -/
namespace Go.Proofs.Ytegolecdmpikhaa
open Go.RowKit

theorem or_one (p : Nat) (h : p ≤ 65536) : bits .or .i64 ((p : Int) * 2) 1 = (p : Int) * 2 + 1 := by
  show IntKind.i64.wrap ((BitVec.ofInt 64 ((p : Int) * 2) ||| BitVec.ofInt 64 ((1 : Nat) : Int)).toNat : Int) = _
  have e : (p : Int) * 2 = ((2 * p : Nat) : Int) := by omega
  rw [e, BitVec.toNat_or, ofInt_u64 (2 * p) (by omega), ofInt_u64 1 (by omega)]
  have := Nat.two_pow_add_eq_or_of_lt (i := 1) (b := 1) (by decide) p
  rw [Nat.pow_one] at this
  rw [← this, IntKind.wrap_i64]
  omega
theorem has_nat {n : Nat} {ws : List Nat} {i : Nat} (h : i < n) : hasT n ws (i : Int) = bitV ws i := by
  unfold hasT; rw [decide_eq_true (by omega), decide_eq_true (by omega), Int.toNat_natCast]; rfl
theorem live_any (v : Value) (n : Nat) (ws : List Nat) (p : Nat) (w : World) (h : TreeAt w v n ws) (hp : 2 * p + 1 < n) :
    Calls Try.prog 54 #[v, .int .i64 (p : Int)] w fun e w' => e = .returned (.bool (halfB (bitV ws) p)) ∧ Fresh w w' := by
  obtain ⟨q1, q2, _, a, cap, rfl, _⟩ := id h
  have T := hide h
  have p0 : (0 : Int) ≤ (p : Int) := by omega
  have p1 : (p : Int) ≤ 65536 := by omega
  have or1 := or_one p (by omega)
  have e0 : hasT n ws ((p : Int) * 2) = bitV ws (2 * p) := by rw [show (p : Int) * 2 = ((2 * p : Nat) : Int) by omega]; exact has_nat (by omega)
  have e1 : hasT n ws ((p : Int) * 2 + 1) = bitV ws (2 * p + 1) := by rw [show (p : Int) * 2 + 1 = ((2 * p + 1 : Nat) : Int) by omega]; exact has_nat hp
  have H0 := hide (fun w' (k : Fresh w w') => thas_any _ n ws ((p : Int) * 2) w' (T.out.fresh k) (by omega) (by omega))
  have H1 := hide (fun w' (k : Fresh w w') => thas_any _ n ws ((p : Int) * 2 + 1) w' (T.out.fresh k) (by omega) (by omega))
  rw [e0] at H0
  rw [e1] at H1
  obtain ⟨W1, hW1⟩ : ∃ W1, W1 = w.alloc (.cells #[.int .i64 (n : Int), .slice a (nLev n) cap] 61) := ⟨_, rfl⟩
  have F1 := hide (show Fresh w W1 by rw [hW1]; exact fresh_box _ _ _)
  have B1 := hide (show W1.heap[w.heap.size]? = some (.cells #[.int .i64 (n : Int), .slice a (nLev n) cap] 61 (0, 0)) by rw [hW1]; exact heap_alloc_new w _)
  have HW := hide hW1
  unfold halfB
  clear e0 e1 h hW1 T hp q1 q2
  generalize (n : Int) = N at *
  generalize nLev n = L at *
  cases h0 : bitV ws (2 * p) with
  | true =>
    rw [h0] at H0
    go_enter Try.func54, Try.ntmps54
    go_wp2_with fail
    rw [← HW.out]
    refine (H0.out _ F1.out).mono ?_
    rintro e w2 ⟨rfl, f2⟩
    have F2 := hide (F1.out.trans f2)
    clear f2
    go_wp2
    go_ret
    exact ⟨rfl, F2.out⟩
  | false =>
    rw [h0] at H0
    generalize bitV ws (2 * p + 1) = y at *
    go_enter Try.func54, Try.ntmps54
    go_wp2_with fail
    rw [← HW.out]
    refine (H0.out _ F1.out).mono ?_
    rintro e w2 ⟨rfl, f2⟩
    have F2 := hide (F1.out.trans f2)
    have B2 : w2.heap[w.heap.size]? = some (.cells #[.int .i64 N, .slice a L cap] 61 (0, 0)) := by rw [f2.block w.heap.size (Array.getElem?_eq_some_iff.1 B1.out).1]; exact B1.out
    have c0 := cell_block B2 0 _ rfl
    have c1 := cell_block B2 1 _ rfl
    clear f2 B2
    go_wp2_with fail
    refine (H1.out _ F2.out).mono ?_
    rintro e w3 ⟨rfl, f3⟩
    have F3 := hide (F2.out.trans f3)
    clear f3 c0 c1
    go_wp2
    go_ret
    exact ⟨rfl, F3.out⟩

theorem wrap_in (x : Int) (h1 : -1 ≤ x) (h2 : x ≤ 65536) : wrap64 x = x := by unfold wrap64; omega
theorem and_low (N k : Nat) (hN : N ≤ 65536) (hk : k ≤ 16) : bits .and .i64 (N : Int) (wrap64 (wrap64 (2 ^ k) - 1)) = ((N % 2 ^ k : Nat) : Int) := by
  have h1 : 2 ^ k ≤ 2 ^ 16 := Nat.pow_le_pow_right (by decide) hk
  have h2 : 1 ≤ 2 ^ k := Nat.pow_pos (by decide)
  have e : ((2 : Int) ^ k) = ((2 ^ k : Nat) : Int) := by simp
  rw [e, wrap_in ((2 ^ k : Nat) : Int) (by omega) (by omega), wrap_in (((2 ^ k : Nat) : Int) - 1) (by omega) (by omega), show ((2 ^ k : Nat) : Int) - 1 = ((2 ^ k - 1 : Nat) : Int) by omega]
  show IntKind.i64.wrap ((BitVec.ofInt 64 (N : Int) &&& BitVec.ofInt 64 ((2 ^ k - 1 : Nat) : Int)).toNat : Int) = _
  rw [BitVec.toNat_and, ofInt_u64 N (by omega), ofInt_u64 (2 ^ k - 1) (by omega), Nat.and_two_pow_sub_one_eq_mod, IntKind.wrap_i64]
  have := Nat.mod_le N (2 ^ k)
  omega
theorem shape_in (N c : Nat) (w : World) (h1 : 1 ≤ c) (h2 : c ≤ 17) (h3 : 1 ≤ N) (h4 : N ≤ 65536) :
    Calls Try.prog 32 #[.int .i64 (N : Int), .int .i64 (c : Int)] w fun e w' => e = .returned (.bool (decide (N % 2 ^ (c - 1) = 0))) ∧ w' = w := by
  have c1 : (1 : Int) ≤ (c : Int) := by omega
  have c2 : (c : Int) ≤ 17 := by omega
  have n1 : (1 : Int) ≤ (N : Int) := by omega
  have n2 : (N : Int) ≤ 65536 := by omega
  have E := hide (and_low N (c - 1) h4 (by omega))
  clear h1 h2 h3 h4
  go_enter Try.func32, Try.ntmps32
  go_wp2
  go_ret
  refine ⟨retB ?_, rfl⟩
  rw [E.out]
  by_cases h : N % 2 ^ (c - 1) = 0
  · rw [h]; rfl
  · rw [decide_eq_false h, beq_eq_false_iff_ne]; omega
theorem shape_yes (N c : Nat) (w : World) (h : Cls N c) : Calls Try.prog 32 #[.int .i64 (N : Int), .int .i64 (c : Int)] w fun e w' => e = .returned (.bool true) ∧ w' = w := by
  have := shape_in N c w h.1 h.2.1 h.2.2.1 h.2.2.2.1
  rwa [decide_eq_true h.2.2.2.2] at this
theorem shape_no (x y : Int) (hno : ∀ N c : Nat, x = N → y = c → ¬ Cls N c) (w : World) : Calls Try.prog 32 #[.int .i64 x, .int .i64 y] w fun e w' => e = .returned (.bool false) ∧ w' = w := by
  by_cases h1 : 1 ≤ y
  · by_cases h2 : y ≤ 17
    · by_cases h3 : 1 ≤ x
      · by_cases h4 : x ≤ 65536
        · obtain ⟨N, rfl⟩ : ∃ N : Nat, x = N := ⟨x.toNat, by omega⟩
          obtain ⟨c, rfl⟩ : ∃ c : Nat, y = c := ⟨y.toNat, by omega⟩
          have := shape_in N c w (by omega) (by omega) (by omega) (by omega)
          rwa [decide_eq_false (fun h => hno N c rfl rfl ⟨by omega, by omega, by omega, by omega, h⟩)] at this
        · clear hno
          go_enter Try.func32, Try.ntmps32
          go_wp2
          go_ret
          exact ⟨rfl, rfl⟩
      · clear hno
        go_enter Try.func32, Try.ntmps32
        go_wp2
        go_ret
        exact ⟨rfl, rfl⟩
    · clear hno
      go_enter Try.func32, Try.ntmps32
      go_wp2
      go_ret
      exact ⟨rfl, rfl⟩
  · clear hno
    go_enter Try.func32, Try.ntmps32
    go_wp2
    go_ret
    exact ⟨rfl, rfl⟩
theorem low_any (v : Value) (N c : Nat) (p : Nat → Bool) (x : Int) (w : World) (h : SlotsAt w v N c p) :
    Calls Try.prog 21 #[v, .int .i64 x] w fun e w' => e = foundE (lowS N c p x) ∧ Fresh w w' := by
  obtain ⟨hc, a, cap, rfl, h1, h2, ht⟩ := h
  have c0 : (0 : Int) ≤ (c : Int) := by omega
  have c1 : (c : Int) ≤ 17 := by have := hc.2.1; omega
  by_cases g1 : x < 0
  · have e : lowS N c p x = none := by unfold lowS; rw [if_neg (by omega)]
    rw [e]
    clear e ht
    go_enter Try.func21, Try.ntmps21
    go_wp2
    go_ret2
    exact ⟨rfl, fresh_box _ _ _⟩
  · by_cases g2 : x < (c : Int)
    · obtain ⟨k, rfl⟩ : ∃ k : Nat, x = k := ⟨x.toNat, by omega⟩
      have e : lowS N c p (k : Int) = firstT (N / 2 ^ k) (trW N p k) 0 := by unfold lowS; rw [if_pos (by omega), Int.toNat_natCast]
      rw [e]
      obtain ⟨b, o, lv, rfl, d0, d1, t⟩ := ht k (by omega)
      have FT := hide (fun (w' : World) (f : Fresh w w') => tfirst_any _ _ _ 0 w' (t.fresh f) (by decide) (by decide))
      have k0 : (0 : Int) ≤ (k : Int) := by omega
      have bl : b < w.heap.size := World.block_lt_of_cell? _ _ d0
      clear e ht t g1
      unfold foundE at FT ⊢
      generalize firstT (N / 2 ^ k) (trW N p k) 0 = r at *
      generalize ((N / 2 ^ k : Nat) : Int) = nn at *
      go_enter Try.func21, Try.ntmps21
      go_wp2_with fail
      refine (FT.out _ (fresh_box _ _ _)).mono ?_
      rintro e w2 ⟨rfl, f2⟩
      have F2 := hide ((fresh_box w _ _).trans f2)
      clear f2
      go_wp2
      go_ret2
      exact ⟨rfl, F2.out⟩
    · have e : lowS N c p x = none := by unfold lowS; rw [if_neg (by omega)]
      rw [e]
      have g3 : (c : Int) ≤ x := by omega
      clear e ht g1 g2
      go_enter Try.func21, Try.ntmps21
      go_wp2
      go_ret2
      exact ⟨rfl, fresh_box _ _ _⟩
/-- no slots -/
theorem slow_none (x : Int) (w : World) : Calls Try.prog 21 #[noSlots, .int .i64 x] w fun e w' => e = foundE none ∧ Fresh w w' := by
  unfold noSlots
  by_cases g1 : x < 0
  · go_enter Try.func21, Try.ntmps21
    go_wp2
    go_ret2
    exact ⟨rfl, fresh_box _ _ _⟩
  · have g3 : (0 : Int) ≤ x := by omega
    clear g1
    go_enter Try.func21, Try.ntmps21
    go_wp2
    go_ret2
    exact ⟨rfl, fresh_box _ _ _⟩
end Go.Proofs.Ytegolecdmpikhaa
/- Which bits of a class turn (turned), which granules are there (there), of package slots, as contracts. -/
namespace Go.Proofs.Ytegolecdmpikhaa
open Go.RowKit

theorem ret_two {a b c d : Int} (h : a = c) (g : b = d) : Ending.returned (.tuple #[.int .i64 a, .int .i64 b]) = .returned (.tuple #[.int .i64 c, .int .i64 d]) := by rw [h, g]
set_option maxRecDepth 100000 in
set_option maxHeartbeats 1000000 in
theorem turned_any (v : Value) (n m : Nat) (ws : List Nat) (F E : Nat) (on x0 x1 : Bool) (w : World) (h : TreeAt w v n ws) (hn : n = 2 * m) (hE : E ≤ n) (h0 : F < E → halfB (bitV ws) (F / 2) = x0) (h1 : F < E → halfB (bitV ws) ((E - 1) / 2) = x1) :
    Calls Try.prog 38 #[v, .int .i64 (F : Int), .int .i64 (E : Int), .bool on] w fun e w' => e = .returned (.tuple #[.int .i64 ((turnF x0 F E on : Nat) : Int), .int .i64 ((turnE x0 x1 F E on : Nat) : Int)]) ∧ Fresh w w' := by
  obtain ⟨q1, q2, _, a, cap, rfl, _⟩ := id h
  obtain ⟨W1, hW1⟩ : ∃ W1, W1 = w.alloc (.cells #[.int .i64 (n : Int), .slice a (nLev n) cap] 61) := ⟨_, rfl⟩
  have F1 := hide (show Fresh w W1 by rw [hW1]; exact fresh_box _ _ _)
  have B1 := hide (show W1.heap[w.heap.size]? = some (.cells #[.int .i64 (n : Int), .slice a (nLev n) cap] 61 (0, 0)) by rw [hW1]; exact heap_alloc_new w _)
  have HW := hide hW1
  have LV := hide (fun (p : Nat) (hp : p < m) w' (k : Fresh w w') => live_any _ n ws p w' (h.fresh k) (by omega))
  have e0 : (0 : Int) ≤ (F : Int) := by omega
  have e1 : (0 : Int) ≤ (E : Int) := by omega
  have e2 : (E : Int) ≤ 65536 := by omega
  by_cases g : E ≤ F
  · have g' : (E : Int) ≤ (F : Int) := by omega
    unfold turnF turnE
    rw [if_pos g, if_pos g]
    clear hW1 h h0 h1 LV B1 g hn hE q1 q2
    go_enter Try.func38, Try.ntmps38
    go_wp2
    rw [← HW.out]
    go_ret2
    exact ⟨rfl, F1.out⟩
  · have g' : (F : Int) < (E : Int) := by omega
    have L0 := hide (fun w' (k : Fresh w w') => LV.out (F / 2) (by omega) w' k)
    have L1 := hide (fun w' (k : Fresh w w') => LV.out ((E - 1) / 2) (by omega) w' k)
    rw [h0 (by omega)] at L0
    rw [h1 (by omega)] at L1
    have K := hide (show F / 2 ≤ (E - 1) / 2 by omega)
    unfold turnF turnE
    rw [if_neg g, if_neg g]
    have eA : (F : Int) / 2 = ((F / 2 : Nat) : Int) := by omega
    have eB : ((E : Int) - 1) / 2 = (((E - 1) / 2 : Nat) : Int) := by omega
    have HT := hide (show ∀ x0 x1, tF x0 F on = (if !on && x0 then F / 2 + 1 else F / 2) ∧ tE x0 x1 F E on = (if !on && (decide (tF x0 F on < (E - 1) / 2 + 1) && x1) then (E - 1) / 2 else (E - 1) / 2 + 1) from fun _ _ => ⟨rfl, rfl⟩)
    obtain ⟨u1, u2⟩ := HT.out x0 x1
    rw [u2, u1]
    have ks : (((E - 1) / 2 : Nat) : Int) ≤ 65536 := by omega
    generalize F / 2 = A at *
    generalize (E - 1) / 2 = B at *
    clear hW1 h h0 h1 LV g hn hE q1 q2 HT u1 u2
    generalize (n : Int) = N at *
    generalize nLev n = L at *
    cases on with
    | true =>
      clear L0 L1
      go_enter Try.func38, Try.ntmps38
      go_wp2
      rw [← HW.out]
      go_ret2
      exact ⟨ret_two (by simp) (by simp), F1.out⟩
    | false =>
      have a1 : (A : Int) ≤ 65536 := by have := K.out; omega
      have a0 : (0 : Int) ≤ (A : Int) := by omega
      have b0 : (0 : Int) ≤ (B : Int) := by omega
      cases x0 with
      | true =>
        by_cases gg : A + 1 < B + 1
        · have g1 : (A : Int) + 1 < (B : Int) + 1 := by omega
          simp only [Bool.not_false, Bool.and_true, if_true, decide_eq_true gg, Bool.true_and]
          cases x1 with
          | true =>
            go_enter Try.func38, Try.ntmps38
            go_wp2_with fail
            rw [← HW.out]
            refine (L0.out _ F1.out).mono ?_
            rintro e w2 ⟨rfl, f2⟩
            have F2 := hide (F1.out.trans f2)
            have B2 : w2.heap[w.heap.size]? = some (.cells #[.int .i64 N, .slice a L cap] 61 (0, 0)) := by rw [f2.block w.heap.size (Array.getElem?_eq_some_iff.1 B1.out).1]; exact B1.out
            have c0 := cell_block B2 0 _ rfl
            have c1 := cell_block B2 1 _ rfl
            clear f2 B2
            go_wp2_with fail
            refine (L1.out _ F2.out).mono ?_
            rintro e w3 ⟨rfl, f3⟩
            have F3 := hide (F2.out.trans f3)
            clear f3 c0 c1
            go_wp2
            go_ret2
            exact ⟨ret_two (by simp) (by simp), F3.out⟩
          | false =>
            go_enter Try.func38, Try.ntmps38
            go_wp2_with fail
            rw [← HW.out]
            refine (L0.out _ F1.out).mono ?_
            rintro e w2 ⟨rfl, f2⟩
            have F2 := hide (F1.out.trans f2)
            have B2 : w2.heap[w.heap.size]? = some (.cells #[.int .i64 N, .slice a L cap] 61 (0, 0)) := by rw [f2.block w.heap.size (Array.getElem?_eq_some_iff.1 B1.out).1]; exact B1.out
            have c0 := cell_block B2 0 _ rfl
            have c1 := cell_block B2 1 _ rfl
            clear f2 B2
            go_wp2_with fail
            refine (L1.out _ F2.out).mono ?_
            rintro e w3 ⟨rfl, f3⟩
            have F3 := hide (F2.out.trans f3)
            clear f3 c0 c1
            go_wp2
            go_ret2
            exact ⟨ret_two (by simp) (by simp), F3.out⟩
        · have g1 : (B : Int) + 1 ≤ (A : Int) + 1 := by omega
          simp only [Bool.not_false, Bool.and_true, if_true, decide_eq_false gg, Bool.false_and, Bool.true_and, Bool.false_eq_true, if_false]
          clear L1
          go_enter Try.func38, Try.ntmps38
          go_wp2_with fail
          rw [← HW.out]
          refine (L0.out _ F1.out).mono ?_
          rintro e w2 ⟨rfl, f2⟩
          have F2 := hide (F1.out.trans f2)
          have B2 : w2.heap[w.heap.size]? = some (.cells #[.int .i64 N, .slice a L cap] 61 (0, 0)) := by rw [f2.block w.heap.size (Array.getElem?_eq_some_iff.1 B1.out).1]; exact B1.out
          have c0 := cell_block B2 0 _ rfl
          have c1 := cell_block B2 1 _ rfl
          clear f2 B2
          clear c0 c1
          go_wp2
          go_ret2
          exact ⟨ret_two (by simp) (by simp), F2.out⟩
      | false =>
        have gg : A < B + 1 := by have := K.out; omega
        have g1 : (A : Int) < (B : Int) + 1 := by omega
        simp only [Bool.not_false, Bool.and_false, decide_eq_true gg, Bool.true_and, Bool.false_eq_true, if_false]
        cases x1 with
        | true =>
          go_enter Try.func38, Try.ntmps38
          go_wp2_with fail
          rw [← HW.out]
          refine (L0.out _ F1.out).mono ?_
          rintro e w2 ⟨rfl, f2⟩
          have F2 := hide (F1.out.trans f2)
          have B2 : w2.heap[w.heap.size]? = some (.cells #[.int .i64 N, .slice a L cap] 61 (0, 0)) := by rw [f2.block w.heap.size (Array.getElem?_eq_some_iff.1 B1.out).1]; exact B1.out
          have c0 := cell_block B2 0 _ rfl
          have c1 := cell_block B2 1 _ rfl
          clear f2 B2
          go_wp2_with fail
          refine (L1.out _ F2.out).mono ?_
          rintro e w3 ⟨rfl, f3⟩
          have F3 := hide (F2.out.trans f3)
          clear f3 c0 c1
          go_wp2
          go_ret2
          exact ⟨ret_two (by simp) (by simp), F3.out⟩
        | false =>
          go_enter Try.func38, Try.ntmps38
          go_wp2_with fail
          rw [← HW.out]
          refine (L0.out _ F1.out).mono ?_
          rintro e w2 ⟨rfl, f2⟩
          have F2 := hide (F1.out.trans f2)
          have B2 : w2.heap[w.heap.size]? = some (.cells #[.int .i64 N, .slice a L cap] 61 (0, 0)) := by rw [f2.block w.heap.size (Array.getElem?_eq_some_iff.1 B1.out).1]; exact B1.out
          have c0 := cell_block B2 0 _ rfl
          have c1 := cell_block B2 1 _ rfl
          clear f2 B2
          go_wp2_with fail
          refine (L1.out _ F2.out).mono ?_
          rintro e w3 ⟨rfl, f3⟩
          have F3 := hide (F2.out.trans f3)
          clear f3 c0 c1
          go_wp2
          go_ret2
          exact ⟨ret_two (by simp) (by simp), F3.out⟩
theorem there_any (v : Value) (N c : Nat) (p : Nat → Bool) (f m : Int) (w : World) (h : SlotsAt w v N c p) (hm : m ≤ 9223372036854775807) :
    Calls Try.prog 37 #[v, .int .i64 f, .int .i64 m] w fun e w' => e = .returned (.tuple #[.int .i64 ((thF N f m : Nat) : Int), .int .i64 ((thE N f m : Nat) : Int)]) ∧ Fresh w w' := by
  obtain ⟨hc, a, cap, rfl, h1, h2, ht⟩ := h
  obtain ⟨b, o, lv, rfl, d0, d1, t⟩ := ht 0 hc.1
  simp only [Nat.zero_mul, Nat.add_zero, Nat.pow_zero, Nat.div_one] at d0
  have bl : b < w.heap.size := World.block_lt_of_cell? _ _ d0
  have c1 : (1 : Int) ≤ (c : Int) := by have := hc.1; omega
  have c2 : (c : Int) ≤ 17 := by have := hc.2.1; omega
  have c3 : ((c : Int) == 0) = false := by rw [beq_eq_false_iff_ne]; omega
  have c4 : (0 : Int) < (c : Int) := by omega
  have c5 : 0 < c := by have := hc.1; omega
  have n1 : (1 : Int) ≤ (N : Int) := by have := hc.2.2.1; omega
  have n2 : (N : Int) ≤ 65536 := by have := hc.2.2.2.1; omega
  have FB := hide (fresh_box w #[.slice (some ⟨b, o, none⟩) c cap] 26)
  unfold thF thE
  by_cases g1 : f < 0
  · rw [if_pos (.inl g1), if_pos (.inl g1)]
    clear d1 t ht hc h1 h2
    go_enter Try.func37, Try.ntmps37
    go_wp2
    go_ret2
    exact ⟨rfl, FB.out⟩
  · by_cases g2 : m < 1
    · rw [if_pos (.inr (.inl g2)), if_pos (.inr (.inl g2))]
      have g1' : 0 ≤ f := by omega
      clear d1 t ht hc h1 h2 g1
      go_enter Try.func37, Try.ntmps37
      go_wp2
      go_ret2
      exact ⟨rfl, FB.out⟩
    · by_cases g3 : (N : Int) ≤ f
      · rw [if_pos (.inr (.inr g3)), if_pos (.inr (.inr g3))]
        have g1' : 0 ≤ f := by omega
        have g2' : 1 ≤ m := by omega
        clear d1 t ht hc h1 h2 g1 g2
        go_enter Try.func37, Try.ntmps37
        go_wp2
        go_ret2
        exact ⟨rfl, FB.out⟩
      · rw [if_neg (by omega), if_neg (by omega)]
        have g1' : 0 ≤ f := by omega
        have g2' : 1 ≤ m := by omega
        have g3' : f < (N : Int) := by omega
        have E1 := hide (show f = ((f.toNat : Nat) : Int) by omega)
        have E2 := hide (show f + min m ((N : Int) - f) = ((f.toNat + min m.toNat (N - f.toNat) : Nat) : Int) by omega)
        have m1 : min m ((N : Int) - f) ≤ (N : Int) - f := Int.min_le_right _ _
        have m2 : 1 ≤ min m ((N : Int) - f) := by omega
        clear d1 t ht hc h1 h2 g1 g2 g3
        generalize f.toNat + min m.toNat (N - f.toNat) = R at *
        generalize ((f.toNat : Nat) : Int) = R0 at *
        go_enter Try.func37, Try.ntmps37
        go_wp2_with fail
        go_region
        go_wp2
        go_ret2
        exact ⟨ret_two E1.out E2.out, FB.out.drew⟩
end Go.Proofs.Ytegolecdmpikhaa
/- New of package slots, as a contract. -/
namespace Go.Proofs.Ytegolecdmpikhaa
open Go.RowKit

theorem cls_none : ∀ (k j : Nat), clsB (fun _ => false) k j = false
  | 0, _ => rfl
  | k + 1, j => by show (clsB _ k (2 * j) || clsB _ k (2 * j + 1)) = false; rw [cls_none k, cls_none k]; rfl
theorem tr_none (N k : Nat) : trW N (fun _ => false) k = noneV (N / 2 ^ k) := pack_congr fun i _ => cls_none k i
/-- a row's block, through the variable that holds it -/
def HeldV (W : World) (V g c : Nat) (w : World) : Prop := w.cell? ⟨V, 0, none⟩ = some (.slice (some ⟨g, 0, none⟩) c c) ∧ Fresh W w
theorem HeldV.fresh {W : World} {V g c : Nat} {w w' : World} (h : HeldV W V g c w) (k : Fresh w w') : HeldV W V g c w' := ⟨(k.cell (World.block_lt_of_cell? _ _ h.1)).trans h.1, h.2.trans k⟩
theorem tnew_cls (N k : Nat) (x : Int) (hx : x = ((N / 2 ^ k : Nat) : Int)) (w : World) (n1 : 1 ≤ N / 2 ^ k) (n2 : N / 2 ^ k ≤ 65536) : Calls Try.prog 33 #[.int .i64 x] w fun e w' => ∃ xa xl xc, e = .returned (.agg #[.int .i64 x, .slice xa xl xc]) ∧ TreeNew w.heap.size w' (.agg #[.int .i64 ((N / 2 ^ k : Nat) : Int), .slice xa xl xc]) (N / 2 ^ k) (trW N (fun _ => false) k) ∧ Fresh w w' := by
  subst hx
  refine (tnew_nat _ w n1 n2).mono ?_
  rintro e w' ⟨v, rfl, t, f⟩
  rw [← tr_none] at t
  obtain ⟨_, _, _, xa, xc, rfl, _⟩ := t.at
  exact ⟨xa, _, xc, rfl, t, f⟩

set_option maxRecDepth 100000 in
set_option maxHeartbeats 1000000 in
theorem snew_ok (N c : Nat) (hc : Cls N c) (w : World) :
    Calls Try.prog 15 #[.int .i64 (N : Int), .int .i64 (c : Int)] w fun e w' => ∃ u, e = .returned u ∧ SlotsNew w.heap.size w' u N c (fun _ => false) ∧ Fresh w w' := by
  obtain ⟨i0, hi, hz0, hz1, hz2⟩ := infoOf infoTree
  obtain ⟨R, hR⟩ : ∃ R, R = w.heap.size := ⟨_, rfl⟩
  obtain ⟨W1, hW1⟩ : ∃ W1, W1 = w.alloc (.cells #[.slice none 0 0] 26) := ⟨_, rfl⟩
  have FW := hide (show Fresh w W1 by rw [hW1]; exact fresh_box _ _ _)
  have BR := hide (show W1.heap[R]? = some (.cells #[.slice none 0 0] 26 (0, 0)) by rw [hR, hW1]; exact heap_alloc_new w _)
  have HC := hide hc
  have HR := hide hR
  have HW := hide hW1
  have c0 : (1 : Int) ≤ (c : Int) := by have := hc.1; omega
  have c1 : (c : Int) ≤ 17 := by have := hc.2.1; omega
  clear hR hW1 hc
  go_enter Try.func15, Try.ntmps15
  go_wp2_with fail
  rw [← HW.out, ← HR.out]
  refine (shape_yes N c _ HC.out).mono ?_
  rintro e w' ⟨rfl, rfl⟩
  go_wp2_with (at_make; refine wpList_make_full _ rfl _ _ 24 rfl w'.heap.size 61 i0 (.agg #[.int .i64 0, .slice none 0 0]) 2 Try.underlying24 hi hz0 hz1 _ _ _ _ c rfl rfl rfl rfl (by rw [hz2]; omega) (by unfold maxLen; omega) (Nat.le_refl _) ?_; intro w2 hown hgrow)
  have FI := hide (fill_start (ns := fun k => N / 2 ^ k) (f := trW N (fun _ => false)) (Fresh.refl w') hown hgrow)
  have f12 : Fresh w' w2 := (Below.refl _ _).grown hgrow (Nat.le_refl _) (fun k hk => by cases hk)
  obtain ⟨g, hg⟩ : ∃ g, g = w'.heap.size := ⟨_, rfl⟩
  obtain ⟨V, hV⟩ : ∃ V, V = w2.heap.size := ⟨_, rfl⟩
  have RG := hide (show R < w'.heap.size ∧ w.heap.size ≤ R by rw [HR.out]; exact ⟨by rw [← HR.out]; exact (Array.getElem?_eq_some_iff.1 BR.out).1, Nat.le_refl _⟩)
  have BW := hide (show (w2.alloc (.cells #[.slice (some ⟨w'.heap.size, 0, none⟩) c c] 26)).heap[R]? = some (.cells #[.slice none 0 0] 26 (0, 0)) by rw [(fresh_more f12 _ _).block R (Array.getElem?_eq_some_iff.1 BR.out).1]; exact BR.out)
  rw [← hg, ← hV]
  rw [← hg, ← hV] at FI
  rw [← hg] at BW
  generalize w2.alloc (.cells #[.slice (some ⟨g, 0, none⟩) c c] 26) = w3 at FI BW ⊢
  clear hown hgrow f12 hg hV BR
  go_loopw [18] (fun i wr => ∃ k : Nat, k ≤ c ∧ i = .int .i64 (k : Int) ∧ FillS w' V g c k (fun k => N / 2 ^ k) (trW N (fun _ => false)) wr ∧ wr.heap[R]? = some (.cells #[.slice none 0 0] 26 (0, 0))) (fun i _ => (c - intOf i).toNat)
  case atStart => exact ⟨0, Nat.zero_le _, rfl, FI.out, BW.out⟩
  case round =>
    obtain ⟨k, hk, rfl, hf, hr⟩ := hrel
    have k0 : (0 : Int) ≤ (k : Int) := by omega
    by_cases gk : k < c
    · have k1 : (k : Int) < (c : Int) := by omega
      have FK := hide (hf.fresh (Fresh.refl wr).drew)
      have RK := hide (show wr.drew.heap[R]? = some (.cells #[.slice none 0 0] 26 (0, 0)) from hr)
      have HS : Hid (HeldV w' V g c wr.drew) := ⟨FK.out.cell, FK.out.el⟩
      have GW := hide hf.lt.1
      have NP := hide (HC.out.pos gk)
      have GK := hide gk
      clear hf hr FI BW
      go_wp2_with fail
      refine wp_region_held (S := HeldV w' V g c) (by kernel_rfl) ?_
      change wpAnyH _ _ _ _ _ _ _ _ (World.drew _)
      generalize World.drew wr = wd at FK RK HS ⊢
      refine held_take (i := 0) (d := 21) (v := ?_) rfl rfl (by kernel_rfl) (by kernel_rfl) (by kernel_rfl) (fun _ _ _ h => h) (by kernel_rfl) ?_ HS.out ?_
      rotate_left
      · intro wz hz
        obtain ⟨z0, -⟩ := hz
        go_simp
        first | done | with_reducible rfl
      refine held_take (i := 1) (d := 22) (v := ?_) rfl rfl (by kernel_rfl) (by kernel_rfl) (by kernel_rfl) (fun _ _ _ h => h) (by kernel_rfl) ?_ HS.out ?_
      rotate_left
      · intro wz hz
        obtain ⟨z0, -⟩ := hz
        go_simp
        first | done | with_reducible rfl
      refine held_take (i := 2) (d := 23) (v := ?_) rfl rfl (by kernel_rfl) (by kernel_rfl) (by kernel_rfl) (fun _ _ _ h => h) (by kernel_rfl) ?_ HS.out ?_
      rotate_left
      · intro wz hz
        obtain ⟨z0, -⟩ := hz
        go_simp
        first | done | with_reducible rfl
      refine held_take (i := 3) (d := 24) (v := ?_) rfl rfl (by kernel_rfl) (by kernel_rfl) (by kernel_rfl) (fun _ _ _ h => h) (by kernel_rfl) ?_ HS.out ?_
      rotate_left
      · intro wz hz
        obtain ⟨z0, -⟩ := hz
        go_simp
        first | done | with_reducible rfl
      refine held_take (i := 4) (d := 25) (v := ?_) rfl rfl (by kernel_rfl) (by kernel_rfl) (by kernel_rfl) (fun _ _ _ h => h) (by kernel_rfl) ?_ HS.out ?_
      rotate_left
      · intro wz hz
        obtain ⟨z0, -⟩ := hz
        go_simp
        first | done | with_reducible rfl
      refine held_take (i := 5) (d := 26) (v := ?_) rfl rfl (by kernel_rfl) (by kernel_rfl) (by kernel_rfl) (fun _ _ _ h => h) (by kernel_rfl) ?_ HS.out ?_
      rotate_left
      · intro wz hz
        obtain ⟨z0, -⟩ := hz
        go_simp
        first | done | with_reducible rfl
      have HX := hide (show (N : Int) / 2 ^ k = ((N / 2 ^ k : Nat) : Int) by simp)
      generalize (N : Int) / 2 ^ k = nn at HX ⊢
      refine wpAnyH_ready (rs := [6]) (by kernel_rfl) (by simp) ?_
      refine AllReadyH.cons rfl (fun K hK => ?_) AllReadyH.nil
      go_simp
      go_wp2_with fail
      refine (tnew_cls N k nn HX.out _ NP.out.1 NP.out.2).mono ?_; rintro e w4 ⟨xa, xl, xc, rfl, t4, f4⟩; have F4 := hide (FK.out.put GK.out f4 t4); rw [← HX.out] at F4; have P4 := hide ((FK.out.fresh f4).place k GK.out); have R4 := hide (show w4.heap[R]? = some (.cells #[.slice none 0 0] 26 (0, 0)) by rw [f4.block R (Array.getElem?_eq_some_iff.1 RK.out).1]; exact RK.out); have HS' := hide (HS.out.fresh f4); clear HS t4 f4 FK RK; have HS := HS'; clear HS'
      refine hK.out _ _ HS.out (fun _ => ?_)
      clear hK K
      obtain ⟨⟨x0, x1, y0, y1⟩, yf⟩ := P4.out
      have yf0 := yf (k * 2)
      have yf1 := yf (k * 2 + 1)
      clear yf P4
      refine held_take (i := 7) (d := 28) (v := ?_) rfl rfl (by kernel_rfl) (by kernel_rfl) (by kernel_rfl) (fun _ _ _ h => h) (by kernel_rfl) ?_ HS.out ?_
      rotate_left
      · intro wz hz
        obtain ⟨z0, -⟩ := hz
        go_simp
        first | done | with_reducible rfl
      refine wpAnyH_ready (rs := [8]) (by kernel_rfl) (by simp) ?_
      refine AllReadyH.cons rfl (fun K hK => ?_) AllReadyH.nil
      go_simp
      have R5 := hide (heap_set_other (b' := g) (j := k * 2 + 1) (heap_set_other (b' := g) (j := k * 2) R4.out (by have := RG.out.1; have := GW.out; omega) (.int .i64 nn)) (by have := RG.out.1; have := GW.out; omega) (.slice xa xl xc)); have HS' := hide (show HeldV w' V g c ((w4.setCell ⟨g, k * 2, none⟩ (.int .i64 nn)).setCell ⟨g, k * 2 + 1, none⟩ (.slice xa xl xc)) from ⟨F4.out.cell, fresh_set (fresh_set HS.out.2 GW.out _ _) GW.out _ _⟩); clear HS y0 y1 yf0 yf1; generalize (w4.setCell ⟨g, k * 2, none⟩ (.int .i64 nn)).setCell ⟨g, k * 2 + 1, none⟩ (.slice xa xl xc) = w5 at F4 R5 HS' ⊢; have HS := HS'; clear HS'
      refine hK.out _ _ HS.out (fun _ => ?_)
      clear hK K
      refine wpAnyH_done (by kernel_rfl) ?_ _
      try simp only [Act.put, List.setIfInBounds_toArray, List.set_cons_succ, List.set_cons_zero]
      go_wp2
      go_roundw
      case rel => exact ⟨k + 1, by omega, by go_num, F4.out, R5.out⟩
      case measure => simp [intOf]; omega
    · obtain rfl : c = k := by omega
      have SL := hide ((hf.done HC.out).store (show R < w'.heap.size by have := RG.out; omega) (.slice (some ⟨g, 0, none⟩) c c))
      have FR := hide (show Fresh w (wr.setCell ⟨R, 0, none⟩ (.slice (some ⟨g, 0, none⟩) c c)) from fresh_set (FW.out.trans hf.el) RG.out.2 0 _)
      have BE := hide (show (wr.setCell ⟨R, 0, none⟩ (.slice (some ⟨g, 0, none⟩) c c)).heap[R]? = some (.cells #[.slice (some ⟨g, 0, none⟩) c c] 26 (0, 0)) from heap_set_same hr _)
      have v0 := hf.cell
      have r0 := cell_block hr 0 _ rfl
      have r1 := free_block hr 0
      clear hf hr FI BW
      go_wp2
      clear v0 r0 r1
      generalize wr.setCell ⟨R, 0, none⟩ (.slice (some ⟨g, 0, none⟩) c c) = W9 at SL FR BE ⊢
      have h0 : W9.cell? ⟨R, 0, none⟩ = some (.slice (some ⟨g, 0, none⟩) c c) := cell_block BE.out 0 _ rfl
      refine bodyPost_ret (by simp [results, Try.results15, go_sem, h0]; try rfl) rfl ?_
      exact ⟨_, rfl, SL.out.mono FW.out.size, FR.out⟩
theorem snew_no (x y : Int) (hno : ∀ N c : Nat, x = N → y = c → ¬ Cls N c) (w : World) :
    Calls Try.prog 15 #[.int .i64 x, .int .i64 y] w fun e w' => e = .returned noSlots ∧ Fresh w w' := by
  unfold noSlots
  have FB := hide (fresh_box w #[.slice none 0 0] 26)
  have SN := hide (shape_no x y hno)
  clear hno
  go_enter Try.func15, Try.ntmps15
  go_wp2_with fail
  refine (SN.out _).mono ?_
  rintro e w' ⟨rfl, rfl⟩
  go_wp2
  go_returns
  exact ⟨rfl, FB.out⟩
end Go.Proofs.Ytegolecdmpikhaa
/- Use of package slots, as a contract. -/
namespace Go.Proofs.Ytegolecdmpikhaa
open Go.RowKit

theorem tset_cls (nn : Int) (lv : Value) (n : Nat) (ws us : List Nat) (f m : Int) (on : Bool) (hn : nn = (n : Int)) (hu : setT n ws f m on = us) (w : World) (h : TreeAt w (.agg #[.int .i64 nn, lv]) n ws) (hm : m ≤ 9223372036854775807) :
    Calls Try.prog 39 #[.agg #[.int .i64 nn, lv], .int .i64 f, .int .i64 m, .bool on] w fun e w' => ∃ xa xl xc, e = .returned (.agg #[.int .i64 nn, .slice xa xl xc]) ∧ TreeNew w.heap.size w' (.agg #[.int .i64 (n : Int), .slice xa xl xc]) n us ∧ Fresh w w' := by
  subst hn
  subst hu
  refine (tset_any _ n ws f m on w h hm).mono ?_
  rintro e w' ⟨v', rfl, t, k⟩
  obtain ⟨_, _, _, xa, xc, rfl, _⟩ := t.at
  exact ⟨xa, _, xc, rfl, t, k⟩
/-- the row's variable, and the tree that is turned next -/
def HeldT (V g T c : Nat) (nn : Int) (lv : Value) (w : World) : Prop := w.cell? ⟨V, 0, none⟩ = some (.slice (some ⟨g, 0, none⟩) c c) ∧ w.cell? ⟨T, 0, none⟩ = some (.int .i64 nn) ∧ w.cell? ⟨T, 1, none⟩ = some lv
theorem HeldT.fresh {V g T c : Nat} {nn : Int} {lv : Value} {w w' : World} (h : HeldT V g T c nn lv w) (k : Fresh w w') : HeldT V g T c nn lv w' :=
  ⟨(k.cell (World.block_lt_of_cell? _ _ h.1)).trans h.1, (k.cell (World.block_lt_of_cell? _ _ h.2.1)).trans h.2.1, (k.cell (World.block_lt_of_cell? _ _ h.2.2)).trans h.2.2⟩
theorem HeldT.set {V g T c : Nat} {nn : Int} {lv : Value} {w : World} (h : HeldT V g T c nn lv w) (hV : g ≠ V) (hT : g ≠ T) (j : Nat) (x : Value) : HeldT V g T c nn lv (w.setCell ⟨g, j, none⟩ x) :=
  ⟨(World.cell?_setCell_far w ⟨g, j, none⟩ _ x hV).trans h.1, (World.cell?_setCell_far w ⟨g, j, none⟩ _ x hT).trans h.2.1, (World.cell?_setCell_far w ⟨g, j, none⟩ _ x hT).trans h.2.2⟩
structure UseS (W1 : World) (V g R T c k N : Nat) (p q : Nat → Bool) (nn : Int) (lv : Value) (w : World) : Prop where
  fill : FillS W1 V g c k (fun k => N / 2 ^ k) (trW N q) w
  res : w.heap[R]? = some (.cells #[.slice none 0 0] 26 (0, 0))
  tv : w.heap[T]? = some (.cells #[.int .i64 nn, lv] 61 (0, 0))
  tr : TreeAt w (.agg #[.int .i64 nn, lv]) (N / 2 ^ k) (trW N p k)
theorem UseS.fresh {W1 : World} {V g R T c k N : Nat} {p q : Nat → Bool} {nn : Int} {lv : Value} {w w' : World} (h : UseS W1 V g R T c k N p q nn lv w) (j : Fresh w w') : UseS W1 V g R T c k N p q nn lv w' :=
  ⟨h.fill.fresh j, by rw [j.block R (Array.getElem?_eq_some_iff.1 h.res).1]; exact h.res, by rw [j.block T (Array.getElem?_eq_some_iff.1 h.tv).1]; exact h.tv, h.tr.fresh j⟩
theorem TreeAt.lv {w : World} {x y : Value} {n : Nat} {ws : List Nat} (h : TreeAt w (.agg #[x, y]) n ws) : ∃ a l c, y = .slice a l c := by
  obtain ⟨_, _, _, a, c, e, _⟩ := h
  simp at e
  exact ⟨a, _, c, e.2⟩
theorem half_bits {N k : Nat} {q : Nat → Bool} {i : Nat} (h : 2 * i + 1 < N / 2 ^ k) : halfB (bitV (trW N q k)) i = halfB (clsB q k) i := by unfold halfB; rw [tr_bit (by omega), tr_bit h]

theorem grown_block {w w2 : World} (h : w.grownBy w2 none) {b : Nat} {ob : Obj} (hb : w.heap[b]? = some ob) : w2.heap[b]? = some ob := by rw [h.block b (Array.getElem?_eq_some_iff.1 hb).1 (fun e => by cases e)]; exact hb
set_option maxRecDepth 100000 in
set_option maxHeartbeats 2000000 in
theorem suse_any (v : Value) (N c : Nat) (p : Nat → Bool) (f m : Int) (on : Bool) (w : World) (h : SlotsAt w v N c p) (hm : m ≤ 9223372036854775807) :
    Calls Try.prog 23 #[v, .int .i64 f, .int .i64 m, .bool on] w fun e w' => ∃ u, e = .returned u ∧ SlotsNew w.heap.size w' u N c (useB p f m on) ∧ Fresh w w' := by
  obtain ⟨hc, a, cap, rfl, h1, h2, ht⟩ := id h
  obtain ⟨i0, hi, hz0, hz1, hz2⟩ := infoOf infoTree
  obtain ⟨b, o, _, rfl, _, _, _⟩ := ht 0 hc.1
  obtain ⟨R, hR⟩ : ∃ R, R = w.heap.size + 1 := ⟨_, rfl⟩
  obtain ⟨W1, hW1⟩ : ∃ W1, W1 = (w.alloc (.cells #[.slice (some ⟨b, o, none⟩) c cap] 26)).alloc (.cells #[.slice none 0 0] 26) := ⟨_, rfl⟩
  have FW := hide (show Fresh w W1 by rw [hW1]; exact fresh_more (fresh_box _ _ _) _ _)
  have sz : W1.heap.size = w.heap.size + 1 + 1 := by rw [hW1]; simp
  have bR : W1.heap[R]? = some (.cells #[.slice none 0 0] 26 (0, 0)) := by
    rw [hR, hW1]
    have := heap_alloc_new (w.alloc (.cells #[.slice (some ⟨b, o, none⟩) c cap] 26)) (.cells #[.slice none 0 0] 26 (0, 0))
    rwa [show (w.alloc (.cells #[.slice (some ⟨b, o, none⟩) c cap] 26)).heap.size = w.heap.size + 1 by simp] at this
  have bn : W1.heap[w.heap.size]? = some (.cells #[.slice (some ⟨b, o, none⟩) c cap] 26 (0, 0)) := by
    rw [hW1, (fresh_box (w.alloc (.cells #[.slice (some ⟨b, o, none⟩) c cap] 26)) #[.slice none 0 0] 26).block w.heap.size (by simp)]
    exact heap_alloc_new w _
  have BR := hide bR
  have BN := hide bn
  have HC := hide hc
  have HA := hide h
  have HR := hide hR
  have HW := hide hW1
  have RL := hide (show R < W1.heap.size ∧ w.heap.size ≤ R by omega)
  have HT := hide ht
  have n0 := cell_block bn 0 _ rfl
  have c0 : (1 : Int) ≤ (c : Int) := by have := hc.1; omega
  have c1 : (c : Int) ≤ 17 := by have := hc.2.1; omega
  have c2 : c ≤ cap := h1
  clear hR hW1 hc h h1 h2 ht sz bR bn
  go_enter Try.func23, Try.ntmps23
  go_wp2_with (rw [← HW.out]; at_make; refine wpList_make_full _ rfl _ _ 24 rfl W1.heap.size 61 i0 (.agg #[.int .i64 0, .slice none 0 0]) 2 Try.underlying24 hi hz0 hz1 _ _ _ _ c rfl rfl rfl rfl (by rw [hz2]; omega) (by unfold maxLen; omega) (Nat.le_refl _) ?_; intro w2 hown hgrow; have n1 := cell_block (grown_block hgrow BN.out) 0 _ rfl; have n2 := World.block_lt_of_cell? _ _ n1)
  have FI := hide (fill_start (ns := fun k => N / 2 ^ k) (f := trW N (useB p f m on)) (Fresh.refl W1) hown hgrow)
  have f12 : Fresh W1 w2 := (Below.refl _ _).grown hgrow (Nat.le_refl _) (fun k hk => by cases hk)
  obtain ⟨g, hg⟩ : ∃ g, g = W1.heap.size := ⟨_, rfl⟩
  obtain ⟨V, hV⟩ : ∃ V, V = w2.heap.size := ⟨_, rfl⟩
  have f13 := fresh_more f12 #[.slice (some ⟨W1.heap.size, 0, none⟩) c c] 26
  have BW := hide (show (w2.alloc (.cells #[.slice (some ⟨W1.heap.size, 0, none⟩) c c] 26)).heap[R]? = some (.cells #[.slice none 0 0] 26 (0, 0)) by rw [f13.block R (Array.getElem?_eq_some_iff.1 BR.out).1]; exact BR.out)
  have BX := hide (show (w2.alloc (.cells #[.slice (some ⟨W1.heap.size, 0, none⟩) c c] 26)).heap[w.heap.size]? = some (.cells #[.slice (some ⟨b, o, none⟩) c cap] 26 (0, 0)) by rw [f13.block _ (Array.getElem?_eq_some_iff.1 BN.out).1]; exact BN.out)
  have F3 := hide (FW.out.trans f13)
  rw [← hg, ← hV]
  rw [← hg, ← hV] at FI
  rw [← hg] at BW BX F3
  generalize w2.alloc (.cells #[.slice (some ⟨g, 0, none⟩) c c] 26) = w3 at FI BW BX F3 ⊢
  clear hown hgrow f12 f13 hg hV BR BN n0 n1 n2
  refine (there_any _ N c p f m _ (HA.out.fresh F3.out) hm).mono ?_
  rintro e w4 ⟨rfl, f4⟩
  have FI4 := hide (FI.out.fresh f4)
  have BW4 := hide (show w4.heap[R]? = some (.cells #[.slice none 0 0] 26 (0, 0)) by rw [f4.block R (Array.getElem?_eq_some_iff.1 BW.out).1]; exact BW.out)
  have n0 := cell_block (show w4.heap[w.heap.size]? = some (.cells #[.slice (some ⟨b, o, none⟩) c cap] 26 (0, 0)) by rw [f4.block _ (Array.getElem?_eq_some_iff.1 BX.out).1]; exact BX.out) 0 _ rfl
  have RN0 := hide (there_rng N p f m on)
  clear FI BW BX F3 f4 HA
  generalize thF N f m = F0 at *
  generalize thE N f m = E0 at *
  generalize hq : useB p f m on = q at *
  have HQ := hide hq
  clear hq
  rw [← HR.out]
  go_wp2
  clear n0
  go_loopw [10, 11, 29] (fun x y i wr => ∃ k F E : Nat, k ≤ c ∧ x = .int .i64 (F : Int) ∧ y = .int .i64 (E : Int) ∧ i = .int .i64 (k : Int) ∧ Rng (N / 2 ^ (k - 1)) (clsB p (k - 1)) (clsB q (k - 1)) F E on ∧ FillS W1 V g c k (fun k => N / 2 ^ k) (trW N q) wr ∧ wr.heap[R]? = some (.cells #[.slice none 0 0] 26 (0, 0))) (fun _ _ i _ => (c - intOf i).toNat)
  case atStart => exact ⟨0, F0, E0, Nat.zero_le _, rfl, rfl, rfl, by show Rng (N / 2 ^ 0) p q F0 E0 on; rw [Nat.pow_zero, Nat.div_one]; exact RN0.out, FI4.out, BW4.out⟩
  case round =>
    obtain ⟨k, F, E, hk, rfl, rfl, rfl, hr, hf, hres⟩ := hrel
    have k0 : (0 : Int) ≤ (k : Int) := by omega
    clear FI4 BW4 RN0
    by_cases gk : k < c
    · have k1 : (k : Int) < (c : Int) := by omega
      have GK := hide gk
      have GW := hide hf.lt.1
      have FWR := FW.out.trans hf.el
      obtain ⟨b', o', lv, e', d0, d1, t⟩ := HT.out.fresh FWR k gk
      cases e'
      obtain ⟨la, ll, lc, rfl⟩ := t.lv
      have RN' := hide hr
      obtain ⟨T, hT⟩ : ∃ T, T = wr.heap.size := ⟨_, rfl⟩
      have U0 := hide (show UseS W1 V g R T c k N p q ((N / 2 ^ k : Nat) : Int) (.slice la ll lc) (wr.alloc (.cells #[.int .i64 ((N / 2 ^ k : Nat) : Int), .slice la ll lc] 61)) from ⟨hf.fresh (fresh_box _ _ _), by rw [(fresh_box wr _ _).block R (Array.getElem?_eq_some_iff.1 hres).1]; exact hres, by rw [hT]; exact heap_alloc_new wr _, t.fresh (fresh_box _ _ _)⟩)
      generalize hnn : ((N / 2 ^ k : Nat) : Int) = nn at U0 d0
      have NN := hide hnn.symm
      have HTT := hide hT
      have TL := hide (show V < T by rw [hT]; exact (Array.getElem?_eq_some_iff.1 hf.var).1)
      have B1 := hide (HC.out.pos gk).2
      have HF := hide hf
      clear hf hres FWR t hr hnn hT
      by_cases hk0 : k = 0
      · rw [show k - 1 = k by omega] at RN'
        have kz : (k : Int) ≤ 0 := by omega
        have RN := RN'
        obtain ⟨l1, l2, _⟩ := RN.out
        have e0 : (0 : Int) ≤ (F : Int) := by omega
        have e1 : (F : Int) ≤ (E : Int) := by omega
        have e2 : (E : Int) ≤ 65536 := by have := B1.out; omega
        clear hk0 RN' l1 l2
        go_wp2_with fail
        rw [← HTT.out]
        generalize wr.alloc (.cells #[.int .i64 nn, .slice la ll lc] 61) = wz at U0 ⊢
        obtain ⟨F', hF⟩ : ∃ F', F' = F := ⟨_, rfl⟩
        obtain ⟨E', hE⟩ : ∃ E', E' = E := ⟨_, rfl⟩
        rw [← hF, ← hE]
        rw [← hF, ← hE] at RN e1
        rw [← hF] at e0
        rw [← hE] at e2
        have US := U0
        clear hF hE U0
        have w0 : IntKind.i64.wrap ((E' : Int) - (F' : Int)) = (E' : Int) - (F' : Int) := by rw [IntKind.wrap_i64]; omega
        have TS := hide (fun w' (k2 : Fresh wz w') => tset_cls nn (.slice la ll lc) (N / 2 ^ k) (trW N p k) (trW N q k) (F' : Int) ((E' : Int) - (F' : Int)) on NN.out (set_rng RN.out) w' (US.out.tr.fresh k2) (by omega))
        have HS : Hid (HeldT V g T c nn (.slice la ll lc) wz.drew) := ⟨US.out.fill.cell, cell_block US.out.tv 0 _ rfl, cell_block US.out.tv 1 _ rfl⟩
        have FD : Hid (Fresh wz wz.drew) := (Fresh.refl _).drew
        have TV := hide (show g ≠ T ∧ g ≠ V ∧ R ≠ g by have h1 := US.out.fill.lt; have h2 := RL.out; have h3 := TL.out; omega)
        refine wp_region_held (S := HeldT V g T c nn (.slice la ll lc)) (by kernel_rfl) ?_
        change wpAnyH _ _ _ _ _ _ _ _ (World.drew _)
        generalize World.drew wz = wd at HS FD ⊢
        refine held_take (i := 0) (d := 49) (v := ?_) rfl rfl (by kernel_rfl) (by kernel_rfl) (by kernel_rfl) (fun _ _ _ h => h) (by kernel_rfl) ?_ HS.out ?_
        rotate_left
        · intro wz hz
          obtain ⟨z0, z1, z2⟩ := hz
          go_simp
          first | done | with_reducible rfl
        refine held_take (i := 1) (d := 50) (v := ?_) rfl rfl (by kernel_rfl) (by kernel_rfl) (by kernel_rfl) (fun _ _ _ h => h) (by kernel_rfl) ?_ HS.out ?_
        rotate_left
        · intro wz hz
          obtain ⟨z0, z1, z2⟩ := hz
          go_simp
          first | done | with_reducible rfl
        refine held_take (i := 2) (d := 51) (v := ?_) rfl rfl (by kernel_rfl) (by kernel_rfl) (by kernel_rfl) (fun _ _ _ h => h) (by kernel_rfl) ?_ HS.out ?_
        rotate_left
        · intro wz hz
          obtain ⟨z0, z1, z2⟩ := hz
          go_simp
          first | done | with_reducible rfl
        refine held_take (i := 3) (d := 52) (v := ?_) rfl rfl (by kernel_rfl) (by kernel_rfl) (by kernel_rfl) (fun _ _ _ h => h) (by kernel_rfl) ?_ HS.out ?_
        rotate_left
        · intro wz hz
          obtain ⟨z0, z1, z2⟩ := hz
          go_simp
          first | done | with_reducible rfl
        refine held_take (i := 4) (d := 53) (v := ?_) rfl rfl (by kernel_rfl) (by kernel_rfl) (by kernel_rfl) (fun _ _ _ h => h) (by kernel_rfl) ?_ HS.out ?_
        rotate_left
        · intro wz hz
          obtain ⟨z0, z1, z2⟩ := hz
          go_simp
          first | done | with_reducible rfl
        refine held_take (i := 5) (d := 54) (v := ?_) rfl rfl (by kernel_rfl) (by kernel_rfl) (by kernel_rfl) (fun _ _ _ h => h) (by kernel_rfl) ?_ HS.out ?_
        rotate_left
        · intro wz hz
          obtain ⟨z0, z1, z2⟩ := hz
          go_simp
          first | done | with_reducible rfl
        refine held_take (i := 6) (d := 55) (v := ?_) rfl rfl (by kernel_rfl) (by kernel_rfl) (by kernel_rfl) (fun _ _ _ h => h) (by kernel_rfl) ?_ HS.out ?_
        rotate_left
        · intro wz hz
          obtain ⟨z0, z1, z2⟩ := hz
          go_simp
          first | done | with_reducible rfl
        refine held_take (i := 7) (d := 56) (v := ?_) rfl rfl (by kernel_rfl) (by kernel_rfl) (by kernel_rfl) (fun _ _ _ h => h) (by kernel_rfl) ?_ HS.out ?_
        rotate_left
        · intro wz hz
          obtain ⟨z0, z1, z2⟩ := hz
          go_simp
          first | done | with_reducible rfl
        refine held_take (i := 8) (d := 57) (v := ?_) rfl rfl (by kernel_rfl) (by kernel_rfl) (by kernel_rfl) (fun _ _ _ h => h) (by kernel_rfl) ?_ HS.out ?_
        rotate_left
        · intro wz hz
          obtain ⟨z0, z1, z2⟩ := hz
          go_simp
          first | done | with_reducible rfl
        refine wpAnyH_ready (rs := [9]) (by kernel_rfl) (by simp) ?_
        refine AllReadyH.cons rfl (fun K hK => ?_) AllReadyH.nil
        go_simp
        go_wp2_with fail
        refine (TS.out _ FD.out).mono ?_; rintro e w5 ⟨xa, xl, xc, rfl, t5, f5⟩; have UF := hide (US.out.fresh FD.out); have F5 := hide (UF.out.fill.put GK.out f5 t5); rw [← NN.out] at F5; have P5 := hide ((UF.out.fill.fresh f5).place k GK.out); have R5 := hide (UF.out.fresh f5).res; have HS' := hide (HS.out.fresh f5); clear HS t5 f5 UF US TS FD; have HS := HS'; clear HS'
        refine hK.out _ _ HS.out (fun _ => ?_)
        clear hK K
        obtain ⟨⟨x0, x1, y0, y1⟩, yf⟩ := P5.out
        have yf0 := yf (k * 2)
        have yf1 := yf (k * 2 + 1)
        clear yf P5
        refine held_take (i := 10) (d := 59) (v := ?_) rfl rfl (by kernel_rfl) (by kernel_rfl) (by kernel_rfl) (fun _ _ _ h => h) (by kernel_rfl) ?_ HS.out ?_
        rotate_left
        · intro wz hz
          obtain ⟨z0, z1, z2⟩ := hz
          go_simp
          first | done | with_reducible rfl
        refine wpAnyH_ready (rs := [11]) (by kernel_rfl) (by simp) ?_
        refine AllReadyH.cons rfl (fun K hK => ?_) AllReadyH.nil
        go_simp
        have R6 := hide (heap_set_other (b' := g) (j := k * 2 + 1) (heap_set_other (b' := g) (j := k * 2) R5.out TV.out.2.2 (.int .i64 nn)) TV.out.2.2 (.slice xa xl xc)); have HS' := hide ((HS.out.set TV.out.2.1 TV.out.1 (k * 2) (.int .i64 nn)).set TV.out.2.1 TV.out.1 (k * 2 + 1) (.slice xa xl xc)); clear HS y0 y1 yf0 yf1 R5; generalize (w5.setCell ⟨g, k * 2, none⟩ (.int .i64 nn)).setCell ⟨g, k * 2 + 1, none⟩ (.slice xa xl xc) = w6 at F5 R6 HS' ⊢; have HS := HS'; clear HS'
        refine hK.out _ _ HS.out (fun _ => ?_)
        clear hK K
        refine wpAnyH_done (by kernel_rfl) ?_ _
        try simp only [Act.put, List.setIfInBounds_toArray, List.set_cons_succ, List.set_cons_zero]
        go_wp2
        go_roundw
        case rel => exact ⟨k + 1, F', E', by omega, rfl, rfl, by go_num, RN.out, F5.out, R6.out⟩
        case measure => simp [intOf]; omega
      · obtain ⟨j, hj⟩ : ∃ j, k = j + 1 := ⟨k - 1, by omega⟩
        rw [show k - 1 = j by omega] at RN'
        obtain ⟨y, g0, g1, gt⟩ := HF.out.tree (by omega) j (by omega)
        obtain ⟨ya, yl, yc, rfl⟩ := gt.lv
        have HH : 2 * (N / 2 ^ (j + 1)) = N / 2 ^ j := HC.out.half (by omega)
        have SR := hide (turn_rng RN'.out HH.symm)
        rw [← hj] at HH SR
        have E2 := RN'.out.2.1
        have TU := hide (turned_any _ (N / 2 ^ j) (N / 2 ^ k) (trW N q j) F E on (halfB (clsB q j) (F / 2)) (halfB (clsB q j) ((E - 1) / 2)) _ (gt.fresh (fresh_box wr #[.int .i64 nn, .slice la ll lc] 61)) HH.symm E2 (fun h => half_bits (by omega)) (fun h => half_bits (by omega)))
        have SRN := hide (show Rng (N / 2 ^ k) (clsB p k) (clsB q k) (turnF (halfB (clsB q j) (F / 2)) F E on) (turnE (halfB (clsB q j) (F / 2)) (halfB (clsB q j) ((E - 1) / 2)) F E on) on by rw [hj]; rw [hj] at SR; exact SR.out)
        have i1 : (0 : Int) < (k : Int) := by omega
        have i3 : (k : Int) - 1 = (j : Int) := by omega
        have i4 : (j : Int) < (c : Int) := by omega
        have i5 : (0 : Int) ≤ (j : Int) := by omega
        have v0 := HF.out.cell
        have v1 := World.block_lt_of_cell? _ _ v0
        have g2 := World.block_lt_of_cell? _ _ g0
        generalize ((N / 2 ^ j : Nat) : Int) = mm at *
        clear gt E2 hk0 RN' HH SR hj
        generalize turnF (halfB (clsB q j) (F / 2)) F E on = F' at *
        generalize turnE (halfB (clsB q j) (F / 2)) (halfB (clsB q j) ((E - 1) / 2)) F E on = E' at *
        go_wp2_with fail
        rw [← HTT.out]
        refine TU.out.mono ?_
        rintro e wz ⟨rfl, fz⟩
        have US := hide (U0.out.fresh fz)
        have RN := SRN
        obtain ⟨l1, l2, _⟩ := RN.out
        have e0 : (0 : Int) ≤ (F' : Int) := by omega
        have e1 : (F' : Int) ≤ (E' : Int) := by omega
        have e2 : (E' : Int) ≤ 65536 := by have := B1.out; omega
        clear v0 v1 g0 g1 g2 l1 l2 U0 TU SRN fz d0 d1
        go_wp2_with fail
        have w0 : IntKind.i64.wrap ((E' : Int) - (F' : Int)) = (E' : Int) - (F' : Int) := by rw [IntKind.wrap_i64]; omega
        have TS := hide (fun w' (k2 : Fresh wz w') => tset_cls nn (.slice la ll lc) (N / 2 ^ k) (trW N p k) (trW N q k) (F' : Int) ((E' : Int) - (F' : Int)) on NN.out (set_rng RN.out) w' (US.out.tr.fresh k2) (by omega))
        have HS : Hid (HeldT V g T c nn (.slice la ll lc) wz.drew) := ⟨US.out.fill.cell, cell_block US.out.tv 0 _ rfl, cell_block US.out.tv 1 _ rfl⟩
        have FD : Hid (Fresh wz wz.drew) := (Fresh.refl _).drew
        have TV := hide (show g ≠ T ∧ g ≠ V ∧ R ≠ g by have h1 := US.out.fill.lt; have h2 := RL.out; have h3 := TL.out; omega)
        refine wp_region_held (S := HeldT V g T c nn (.slice la ll lc)) (by kernel_rfl) ?_
        change wpAnyH _ _ _ _ _ _ _ _ (World.drew _)
        generalize World.drew wz = wd at HS FD ⊢
        refine held_take (i := 0) (d := 49) (v := ?_) rfl rfl (by kernel_rfl) (by kernel_rfl) (by kernel_rfl) (fun _ _ _ h => h) (by kernel_rfl) ?_ HS.out ?_
        rotate_left
        · intro wz hz
          obtain ⟨z0, z1, z2⟩ := hz
          go_simp
          first | done | with_reducible rfl
        refine held_take (i := 1) (d := 50) (v := ?_) rfl rfl (by kernel_rfl) (by kernel_rfl) (by kernel_rfl) (fun _ _ _ h => h) (by kernel_rfl) ?_ HS.out ?_
        rotate_left
        · intro wz hz
          obtain ⟨z0, z1, z2⟩ := hz
          go_simp
          first | done | with_reducible rfl
        refine held_take (i := 2) (d := 51) (v := ?_) rfl rfl (by kernel_rfl) (by kernel_rfl) (by kernel_rfl) (fun _ _ _ h => h) (by kernel_rfl) ?_ HS.out ?_
        rotate_left
        · intro wz hz
          obtain ⟨z0, z1, z2⟩ := hz
          go_simp
          first | done | with_reducible rfl
        refine held_take (i := 3) (d := 52) (v := ?_) rfl rfl (by kernel_rfl) (by kernel_rfl) (by kernel_rfl) (fun _ _ _ h => h) (by kernel_rfl) ?_ HS.out ?_
        rotate_left
        · intro wz hz
          obtain ⟨z0, z1, z2⟩ := hz
          go_simp
          first | done | with_reducible rfl
        refine held_take (i := 4) (d := 53) (v := ?_) rfl rfl (by kernel_rfl) (by kernel_rfl) (by kernel_rfl) (fun _ _ _ h => h) (by kernel_rfl) ?_ HS.out ?_
        rotate_left
        · intro wz hz
          obtain ⟨z0, z1, z2⟩ := hz
          go_simp
          first | done | with_reducible rfl
        refine held_take (i := 5) (d := 54) (v := ?_) rfl rfl (by kernel_rfl) (by kernel_rfl) (by kernel_rfl) (fun _ _ _ h => h) (by kernel_rfl) ?_ HS.out ?_
        rotate_left
        · intro wz hz
          obtain ⟨z0, z1, z2⟩ := hz
          go_simp
          first | done | with_reducible rfl
        refine held_take (i := 6) (d := 55) (v := ?_) rfl rfl (by kernel_rfl) (by kernel_rfl) (by kernel_rfl) (fun _ _ _ h => h) (by kernel_rfl) ?_ HS.out ?_
        rotate_left
        · intro wz hz
          obtain ⟨z0, z1, z2⟩ := hz
          go_simp
          first | done | with_reducible rfl
        refine held_take (i := 7) (d := 56) (v := ?_) rfl rfl (by kernel_rfl) (by kernel_rfl) (by kernel_rfl) (fun _ _ _ h => h) (by kernel_rfl) ?_ HS.out ?_
        rotate_left
        · intro wz hz
          obtain ⟨z0, z1, z2⟩ := hz
          go_simp
          first | done | with_reducible rfl
        refine held_take (i := 8) (d := 57) (v := ?_) rfl rfl (by kernel_rfl) (by kernel_rfl) (by kernel_rfl) (fun _ _ _ h => h) (by kernel_rfl) ?_ HS.out ?_
        rotate_left
        · intro wz hz
          obtain ⟨z0, z1, z2⟩ := hz
          go_simp
          first | done | with_reducible rfl
        refine wpAnyH_ready (rs := [9]) (by kernel_rfl) (by simp) ?_
        refine AllReadyH.cons rfl (fun K hK => ?_) AllReadyH.nil
        go_simp
        go_wp2_with fail
        refine (TS.out _ FD.out).mono ?_; rintro e w5 ⟨xa, xl, xc, rfl, t5, f5⟩; have UF := hide (US.out.fresh FD.out); have F5 := hide (UF.out.fill.put GK.out f5 t5); rw [← NN.out] at F5; have P5 := hide ((UF.out.fill.fresh f5).place k GK.out); have R5 := hide (UF.out.fresh f5).res; have HS' := hide (HS.out.fresh f5); clear HS t5 f5 UF US TS FD; have HS := HS'; clear HS'
        refine hK.out _ _ HS.out (fun _ => ?_)
        clear hK K
        obtain ⟨⟨x0, x1, y0, y1⟩, yf⟩ := P5.out
        have yf0 := yf (k * 2)
        have yf1 := yf (k * 2 + 1)
        clear yf P5
        refine held_take (i := 10) (d := 59) (v := ?_) rfl rfl (by kernel_rfl) (by kernel_rfl) (by kernel_rfl) (fun _ _ _ h => h) (by kernel_rfl) ?_ HS.out ?_
        rotate_left
        · intro wz hz
          obtain ⟨z0, z1, z2⟩ := hz
          go_simp
          first | done | with_reducible rfl
        refine wpAnyH_ready (rs := [11]) (by kernel_rfl) (by simp) ?_
        refine AllReadyH.cons rfl (fun K hK => ?_) AllReadyH.nil
        go_simp
        have R6 := hide (heap_set_other (b' := g) (j := k * 2 + 1) (heap_set_other (b' := g) (j := k * 2) R5.out TV.out.2.2 (.int .i64 nn)) TV.out.2.2 (.slice xa xl xc)); have HS' := hide ((HS.out.set TV.out.2.1 TV.out.1 (k * 2) (.int .i64 nn)).set TV.out.2.1 TV.out.1 (k * 2 + 1) (.slice xa xl xc)); clear HS y0 y1 yf0 yf1 R5; generalize (w5.setCell ⟨g, k * 2, none⟩ (.int .i64 nn)).setCell ⟨g, k * 2 + 1, none⟩ (.slice xa xl xc) = w6 at F5 R6 HS' ⊢; have HS := HS'; clear HS'
        refine hK.out _ _ HS.out (fun _ => ?_)
        clear hK K
        refine wpAnyH_done (by kernel_rfl) ?_ _
        try simp only [Act.put, List.setIfInBounds_toArray, List.set_cons_succ, List.set_cons_zero]
        go_wp2
        go_roundw
        case rel => exact ⟨k + 1, F', E', by omega, rfl, rfl, by go_num, RN.out, F5.out, R6.out⟩
        case measure => simp [intOf]; omega
    · obtain rfl : c = k := by omega
      have SL := hide ((hf.done HC.out).store RL.out.1 (.slice (some ⟨g, 0, none⟩) c c))
      have FR := hide (show Fresh w (wr.setCell ⟨R, 0, none⟩ (.slice (some ⟨g, 0, none⟩) c c)) from fresh_set (FW.out.trans hf.el) RL.out.2 0 _)
      have BE := hide (show (wr.setCell ⟨R, 0, none⟩ (.slice (some ⟨g, 0, none⟩) c c)).heap[R]? = some (.cells #[.slice (some ⟨g, 0, none⟩) c c] 26 (0, 0)) from heap_set_same hres _)
      have v0 := hf.cell
      have r0 := cell_block hres 0 _ rfl
      have r1 := free_block hres 0
      clear hf hres
      go_wp2
      clear v0 r0 r1
      generalize wr.setCell ⟨R, 0, none⟩ (.slice (some ⟨g, 0, none⟩) c c) = W9 at SL FR BE ⊢
      have h0 : W9.cell? ⟨R, 0, none⟩ = some (.slice (some ⟨g, 0, none⟩) c c) := cell_block BE.out 0 _ rfl
      refine bodyPost_ret (by simp [results, Try.results23, go_sem, h0]; try rfl) rfl ?_
      exact ⟨_, rfl, by rw [HQ.out]; exact SL.out.mono FW.out.size, FR.out⟩
end Go.Proofs.Ytegolecdmpikhaa
