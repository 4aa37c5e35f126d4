/- Rows of words in memory, and what rows are told: a slice of words that is read; bits, pieces, counts at any ints. -/
import Derived.Test.YtpkcihfldmgehaaBase
import Derived.Test.YtpkcihfldmgehaaMem
import Derived.Test.YtpkcihfldmgehaaRowMath
import Derived.OwnWalk
import Derived.Laws.OwnMore
import Derived.Laws.AppendOwnNone
namespace Go.Proofs.Ytpkcihfldmgehaa
open Go.RowKit


/-- a slice of words: where they lie -/
def WordsAt (w : World) (v : Value) (ws : List Nat) : Prop :=
  ∃ a cap, v = .slice a ws.length cap ∧ ws.length ≤ 1099511627776 ∧ W64 ws ∧ (a = none → cap = 0) ∧ ∀ i, i < ws.length → ∃ b o, a = some ⟨b, o, none⟩ ∧ w.cell? ⟨b, o + i, none⟩ = some (.int .u64 ((ws.getD i 0 : Nat) : Int))
theorem WordsAt.below {w w' : World} {v : Value} {ws : List Nat} (h : WordsAt w v ws) {n : Nat} (k : Below n w w') (hn : w.heap.size ≤ n) : WordsAt w' v ws := by
  obtain ⟨a, cap, rfl, hl, h64, hn0, hc⟩ := h
  refine ⟨a, cap, rfl, hl, h64, hn0, fun i hi => ?_⟩
  obtain ⟨b, o, e, hcell⟩ := hc i hi
  exact ⟨b, o, e, (k.cell (Nat.lt_of_lt_of_le (World.block_lt_of_cell? _ _ hcell) hn)).trans hcell⟩

theorem WordsAt.drewN {w : World} {v : Value} {ws : List Nat} (h : WordsAt w v ws) (n : Nat) : WordsAt (w.drewN n) v ws := h

/-- words as values -/
def wvals (ws : List Nat) : List Value := ws.map fun u => .int .u64 ((u : Nat) : Int)
theorem wvals_length (ws : List Nat) : (wvals ws).length = ws.length := by unfold wvals; rw [List.length_map]
theorem wvals_get (ws : List Nat) (i : Nat) (hi : i < ws.length) : (wvals ws)[i]? = some (.int .u64 ((ws.getD i 0 : Nat) : Int)) := by
  unfold wvals
  simp [List.getElem?_eq_getElem hi, List.getD_eq_getElem?_getD]
theorem wvals_one (ws : List Nat) : ∀ u ∈ wvals ws, u.oneCell' = true := by
  intro u hu
  unfold wvals at hu
  obtain ⟨x, _, rfl⟩ := List.mem_map.1 hu
  rfl
/-- words in new memory of a call -/
def OwnW (w : World) (base : Nat) (v : Value) (ws : List Nat) : Prop := w.ownsRow base 67 1 v ws.length (wvals ws)
theorem OwnW.at {w : World} {base : Nat} {v : Value} {ws : List Nat} (h : OwnW w base v ws) (h64 : W64 ws) (hl : ws.length ≤ 1099511627776) : WordsAt w v ws := by
  have h0 := h
  rcases h.2 with ⟨rfl, hn⟩ | ⟨g, cap, cur, rfl, hb, hg, hc⟩
  · have : ws = [] := List.eq_nil_of_length_eq_zero hn
    subst this
    exact ⟨none, 0, rfl, hl, h64, fun _ => rfl, fun i hi => by simp at hi⟩
  · refine ⟨_, cap, rfl, hl, h64, fun h => by simp at h, fun i hi => ⟨g, 0, rfl, ?_⟩⟩
    have := World.ownsRow.cellAt h0 i (by omega)
    rw [Nat.zero_add, this, wvals_get ws i hi]
theorem OwnW.lt {w : World} {base : Nat} {v : Value} {ws : List Nat} (h : OwnW w base v ws) {w' : World} {n : Nat} (k : Below n w w') (hn : w.heap.size ≤ n) : OwnW w' base v ws := by
  refine ⟨h.1, ?_⟩
  rcases h.2 with hn' | ⟨g, cap, cur, rfl, hb, hg, rest⟩
  · exact .inl hn'
  · refine .inr ⟨g, cap, cur, rfl, hb, ?_, rest⟩
    rw [k.block g (Nat.lt_of_lt_of_le (Array.getElem?_eq_some_iff.1 hg).1 hn)]
    exact hg

theorem infoU64 : (Try.prog.info? 67).map (fun i => (i.zero, i.size, i.bytes)) = some (some (.int .u64 0), 1, 8) := by kernel_rfl

theorem bitV_set (ws : List Nat) (k x i : Nat) (hk : k < ws.length) : bitV (ws.set k x) i = if i / 64 = k then x.testBit (i % 64) else bitV ws i := by
  unfold bitV
  by_cases h : i / 64 = k
  · rw [if_pos h, h]
    simp [List.getD_eq_getElem?_getD, hk]
  · rw [if_neg h]
    simp [List.getD_eq_getElem?_getD, List.getElem?_set_ne (fun e => h e.symm)]
theorem set_64 {ws : List Nat} (h : W64 ws) (k x : Nat) (hx : x < 18446744073709551616) : W64 (ws.set k x) := by
  intro u hu
  rcases List.mem_or_eq_of_mem_set hu with h' | rfl
  · exact h u h'
  · exact hx
theorem wvals_set (ws : List Nat) (k x : Nat) : (wvals ws).set k (.int .u64 ((x : Nat) : Int)) = wvals (ws.set k x) := by
  unfold wvals; rw [List.map_set]
/-- a bit that is turned -/
theorem flip_bit (u k j : Nat) (hk : k < 64) : (u ^^^ 2 ^ k).testBit j = if j = k then !u.testBit j else u.testBit j := by
  rw [Nat.testBit_xor, Nat.testBit_two_pow]
  by_cases h : j = k
  · subst h; simp
  · have : ¬ k = j := fun e => h e.symm
    simp [h, this]
/-- one bit more of a piece, bit by bit -/
theorem set_step {ws : List Nat} (h : W64 ws) (f j : Nat) (on : Bool) (hf : f ≤ j) (hj : j < 64 * ws.length) (hb : bitV (setV ws f (j - f) on) j = !on) :
    (setV ws f (j - f) on).set (j / 64) ((setV ws f (j - f) on).getD (j / 64) 0 ^^^ 2 ^ (j % 64)) = setV ws f (j + 1 - f) on := by
  have hl : (setV ws f (j - f) on).length = ws.length := setV_length _ _ _ _
  have hx : (setV ws f (j - f) on).getD (j / 64) 0 ^^^ 2 ^ (j % 64) < 18446744073709551616 :=
    Nat.xor_lt_two_pow (n := 64) ((setV_64 h f _ on).getD _) (Nat.pow_lt_pow_right (by decide) (by omega))
  refine row_ext (set_64 (setV_64 h _ _ _) _ _ hx) (setV_64 h _ _ _) (by rw [List.length_set, hl, setV_length]) fun i hi => ?_
  rw [List.length_set, hl] at hi
  rw [bitV_set _ _ _ _ (by rw [hl]; omega), flip_bit _ _ _ (by omega)]
  by_cases hij : i = j
  · subst hij
    rw [if_pos rfl, if_pos rfl, bitV_setV, if_pos (by omega)]
    have e : ((setV ws f (i - f) on).getD (i / 64) 0).testBit (i % 64) = !on := hb
    rw [e, Bool.not_not]
  · have e : ∀ c : Bool, (if i / 64 = j / 64 then (if i % 64 = j % 64 then c else bitV (setV ws f (j - f) on) i) else bitV (setV ws f (j - f) on) i) = bitV (setV ws f (j - f) on) i := by
      intro c
      by_cases h1 : i / 64 = j / 64
      · rw [if_pos h1, if_neg (by omega)]
      · rw [if_neg h1]
    have e2 : ((setV ws f (j - f) on).getD (j / 64) 0).testBit (i % 64) = if i / 64 = j / 64 then bitV (setV ws f (j - f) on) i else ((setV ws f (j - f) on).getD (j / 64) 0).testBit (i % 64) := by
      by_cases h1 : i / 64 = j / 64
      · rw [if_pos h1]; unfold bitV; rw [h1]
      · rw [if_neg h1]
    have goal1 : (if i / 64 = j / 64 then (if i % 64 = j % 64 then !((setV ws f (j - f) on).getD (j / 64) 0).testBit (i % 64) else ((setV ws f (j - f) on).getD (j / 64) 0).testBit (i % 64)) else bitV (setV ws f (j - f) on) i) = bitV (setV ws f (j - f) on) i := by
      by_cases h1 : i / 64 = j / 64
      · rw [if_pos h1, if_neg (by omega), e2, if_pos h1]
      · rw [if_neg h1]
    rw [goal1, bitV_setV, bitV_setV]
    by_cases h2 : f ≤ i ∧ i < f + (j - f) ∧ i < 64 * ws.length
    · rw [if_pos h2, if_pos (by omega)]
    · rw [if_neg h2, if_neg (by omega)]
theorem set_skip {ws : List Nat} (h : W64 ws) (f j : Nat) (on : Bool) (hf : f ≤ j) (hb : bitV (setV ws f (j - f) on) j = on) : setV ws f (j - f) on = setV ws f (j + 1 - f) on := by
  refine row_ext (setV_64 h _ _ _) (setV_64 h _ _ _) (by rw [setV_length, setV_length]) fun i hi => ?_
  by_cases hij : i = j
  · subst hij
    rw [setV_length] at hi
    rw [hb, bitV_setV, if_pos (by omega)]
  · rw [bitV_setV, bitV_setV]
    by_cases h2 : f ≤ i ∧ i < f + (j - f) ∧ i < 64 * ws.length
    · rw [if_pos h2, if_pos (by omega)]
    · rw [if_neg h2, if_neg (by omega)]
theorem set_end {ws : List Nat} (h : W64 ws) (f n j : Nat) (on : Bool) (h1 : j = f ∨ j ≤ min (f + n) (64 * ws.length)) (hf : f ≤ j) (h2 : ¬ (j < 64 * ws.length ∧ j - f < n)) : setV ws f (j - f) on = setV ws f n on := by
  refine row_ext (setV_64 h _ _ _) (setV_64 h _ _ _) (by rw [setV_length, setV_length]) fun i hi => ?_
  rw [setV_length] at hi
  rw [bitV_setV, bitV_setV]
  by_cases h3 : f ≤ i ∧ i < f + (j - f) ∧ i < 64 * ws.length
  · rw [if_pos h3, if_pos (by omega)]
  · rw [if_neg h3, if_neg (by omega)]
theorem set_none {ws : List Nat} (h : W64 ws) (f : Nat) (on : Bool) : setV ws f 0 on = ws := by
  refine row_ext (setV_64 h _ _ _) h (by rw [setV_length]) fun i hi => ?_
  rw [bitV_setV, if_neg (by omega)]

theorem setV_cap {ws : List Nat} (h : W64 ws) (f n m : Nat) (on : Bool) (hm : 64 * ws.length ≤ f + m) (hn : m ≤ n) : setV ws f n on = setV ws f m on := by
  refine row_ext (setV_64 h _ _ _) (setV_64 h _ _ _) (by rw [setV_length, setV_length]) fun i hi => ?_
  rw [setV_length] at hi
  rw [bitV_setV, bitV_setV]
  by_cases h3 : f ≤ i ∧ i < f + m ∧ i < 64 * ws.length
  · rw [if_pos (by omega), if_pos h3]
  · rw [if_neg (by omega), if_neg h3]

def hasW (ws : List Nat) (i : Int) : Bool := decide (0 ≤ i) && bitV ws i.toNat
def setW (ws : List Nat) (f n : Int) (on : Bool) : List Nat := if f < 0 ∨ n < 0 then ws else setV ws f.toNat n.toNat on
def cntW (ws : List Nat) (f n : Int) : Nat := if f < 0 ∨ n < 0 then 0 else cntV ws f.toNat n.toNat
def firstW (ws : List Nat) (size f : Int) : Option Nat := if f < 0 then none else first (bitV ws) f.toNat (min size.toNat (64 * ws.length))
def newW (size : Int) : List Nat := List.replicate ((size + 63) / 64).toNat 0
theorem setW_64 {ws : List Nat} (h : W64 ws) (f n : Int) (on : Bool) : W64 (setW ws f n on) := by
  unfold setW; split
  · exact h
  · exact setV_64 h _ _ _
theorem setW_length (ws : List Nat) (f n : Int) (on : Bool) : (setW ws f n on).length = ws.length := by
  unfold setW; split
  · rfl
  · exact setV_length _ _ _ _
theorem setW_pos (ws : List Nat) (f n : Nat) (on : Bool) : setW ws f n on = setV ws f n on := by unfold setW; rw [if_neg (by omega), Int.toNat_natCast, Int.toNat_natCast]
theorem cntW_pos (ws : List Nat) (f n : Nat) : cntW ws f n = cntV ws f n := by unfold cntW; rw [if_neg (by omega), Int.toNat_natCast, Int.toNat_natCast]
theorem hasW_pos (ws : List Nat) (i : Nat) : hasW ws i = bitV ws i := by unfold hasW; rw [decide_eq_true (by omega), Int.toNat_natCast]; rfl
theorem firstW_pos (ws : List Nat) (s f : Nat) : firstW ws s f = first (bitV ws) f (min s (64 * ws.length)) := by unfold firstW; rw [if_neg (by omega), Int.toNat_natCast, Int.toNat_natCast]
end Go.Proofs.Ytpkcihfldmgehaa
