/- What the program's package conf answers (Of, Ceil, Shift), as contracts in plain functions. Each makes new memory alone. -/
import Derived.Test.YtekffikkbiohnaaDoorConf
namespace Go.Proofs.YtekffikkbiohnaaDoor
open Go.RowKit

def cV (c : Cf) (k : Int) : Int := if am k 0 c.l then ceilV c.m k else 0

set_option maxRecDepth 100000 in
set_option maxHeartbeats 2000000 in
theorem of_any (r : Rw) (w : World) (hT : Tab w) :
    Calls Tryd.prog 10 #[r.val] w fun e w' => e = .returned (.tuple #[(ofC r).val, .int .i64 (ofE r)]) ∧ Kept w w' := by
  have hT' : Hid (∀ o1 o2 o3, Tab (((w.alloc (.cells o1 23)).alloc (.cells o2 31)).alloc (.cells o3 23))) := fun o1 o2 o3 => hT.kept ((((Kept.refl w).alloc _ _).alloc _ _).alloc _ _)
  by_cases hb : bdd r = true
  · have hh := hide (show (fits r = true ∧ (wk r).h ≤ 65536) ∨ (fits r = false ∧ 65536 < (wk r).h) by
      by_cases h : (wk r).h ≤ 65536
      · exact .inl ⟨by simp [fits, hb, h], h⟩
      · exact .inr ⟨by simp [fits, hb, h], by omega⟩)
    have hw := hide (fun w hT => worked_any r w hb hT)
    have hbn := hide (bounded_any r)
    rw [hb] at hbn
    rcases hh.out with ⟨h1, h2⟩ | ⟨h1, h2⟩
    · have e1 : ofC r = wk r := by unfold ofC; rw [h1]; rfl
      have e2 : ofE r = 0 := by unfold ofE; rw [h1]; rfl
      rw [e1, e2]
      clear hh e1 e2 h1 hb
      generalize wk r = W at *
      obtain ⟨g, la, li, pg, bu, se⟩ := r
      obtain ⟨cg, cn, cm, cl, cp, cb, ch, cs⟩ := W
      have h3 : ch ≤ 65536 := h2
      clear h2
      show Calls Tryd.prog 10 #[.agg #[.int .i64 g, .int .i64 la, .int .i64 li, .int .i64 pg, .int .i64 bu, .int .i64 se]] w _
      go_enter Tryd.func10, Tryd.ntmps10
      go_wp2_with fail
      refine (hbn.out _).mono ?_
      rintro e w' ⟨rfl, rfl⟩
      go_wp2_with fail
      refine (hw.out _ (hT'.out _ _ _)).mono ?_
      rintro e w' ⟨rfl, rfl⟩
      go_wp2
      go_returns
      exact ⟨rfl, (((((((Kept.refl w).alloc _ _).alloc _ _).alloc _ _).alloc _ _).alloc _ _).alloc _ _).drew⟩
    · have e1 : ofC r = ⟨0, 0, 0, 0, 0, 0, 0, 0⟩ := by unfold ofC; rw [h1]; rfl
      have e2 : ofE r = 1 := by unfold ofE; rw [h1]; rfl
      rw [e1, e2]
      clear hh e1 e2 h1 hb
      generalize wk r = W at *
      obtain ⟨g, la, li, pg, bu, se⟩ := r
      obtain ⟨cg, cn, cm, cl, cp, cb, ch, cs⟩ := W
      have h3 : 65536 < ch := h2
      clear h2
      show Calls Tryd.prog 10 #[.agg #[.int .i64 g, .int .i64 la, .int .i64 li, .int .i64 pg, .int .i64 bu, .int .i64 se]] w _
      go_enter Tryd.func10, Tryd.ntmps10
      go_wp2_with fail
      refine (hbn.out _).mono ?_
      rintro e w' ⟨rfl, rfl⟩
      go_wp2_with fail
      refine (hw.out _ (hT'.out _ _ _)).mono ?_
      rintro e w' ⟨rfl, rfl⟩
      go_wp2
      go_returns
      exact ⟨rfl, (((((((Kept.refl w).alloc _ _).alloc _ _).alloc _ _).alloc _ _).alloc _ _).alloc _ _).drew⟩
  · have hb' : bdd r = false := by simpa using hb
    have h1 : fits r = false := by simp [fits, hb']
    have e1 : ofC r = ⟨0, 0, 0, 0, 0, 0, 0, 0⟩ := by unfold ofC; rw [h1]; rfl
    have e2 : ofE r = 1 := by unfold ofE; rw [h1]; rfl
    have hbn := hide (bounded_any r)
    rw [hb'] at hbn
    rw [e1, e2]
    clear e1 e2 h1 hb hb'
    obtain ⟨g, la, li, pg, bu, se⟩ := r
    show Calls Tryd.prog 10 #[.agg #[.int .i64 g, .int .i64 la, .int .i64 li, .int .i64 pg, .int .i64 bu, .int .i64 se]] w _
    go_enter Tryd.func10, Tryd.ntmps10
    go_wp2_with fail
    refine (hbn.out _).mono ?_
    rintro e w' ⟨rfl, rfl⟩
    go_wp2
    go_returns
    exact ⟨rfl, (((Kept.refl w).alloc _ _).alloc _ _).alloc _ _⟩

theorem ceil_any (c : Cf) (k : Int) (w : World) (h1 : 0 ≤ c.m) (h2 : c.m ≤ 200000) (h3 : c.l ≤ 16) :
    Calls Tryd.prog 14 #[c.val, .int .i64 k] w fun e w' => e = .returned (.int .i64 (cV c k)) ∧ w' = w.alloc (c.obj 31) := by
  by_cases ha : am k 0 c.l = true
  · have e1 : cV c k = ceilV c.m k := by unfold cV; rw [ha]; rfl
    have hk : 0 ≤ k ∧ k ≤ c.l := by simpa [am] using ha
    have hm := hide (fun w => among_any k 0 c.l w)
    have hh := hide (fun w => height_any c.m k w h1 h2 (by omega) (by omega))
    rw [ha] at hm
    rw [e1]
    clear ha e1
    generalize ceilV c.m k = V at *
    obtain ⟨cg, cn, cm, cl, cp, cb, ch, cs⟩ := c
    show Calls Tryd.prog 14 #[.agg #[.int .i64 cg, .int .i64 cn, .int .i64 cm, .int .i64 cl, .int .i64 cp, .int .i64 cb, .int .i64 ch, .int .i64 cs], .int .i64 k] w _
    go_enter Tryd.func14, Tryd.ntmps14
    go_wp2_with fail
    refine (hm.out _).mono ?_
    rintro e w' ⟨rfl, rfl⟩
    go_wp2_with fail
    refine (hh.out _).mono ?_
    rintro e w' ⟨rfl, rfl⟩
    go_wp2
    go_ret
    exact ⟨rfl, rfl⟩
  · have ha' : am k 0 c.l = false := by simpa using ha
    have e1 : cV c k = 0 := by unfold cV; rw [ha']; rfl
    have hm := hide (fun w => among_any k 0 c.l w)
    rw [ha'] at hm
    rw [e1]
    clear ha ha' e1
    obtain ⟨cg, cn, cm, cl, cp, cb, ch, cs⟩ := c
    show Calls Tryd.prog 14 #[.agg #[.int .i64 cg, .int .i64 cn, .int .i64 cm, .int .i64 cl, .int .i64 cp, .int .i64 cb, .int .i64 ch, .int .i64 cs], .int .i64 k] w _
    go_enter Tryd.func14, Tryd.ntmps14
    go_wp2_with fail
    refine (hm.out _).mono ?_
    rintro e w' ⟨rfl, rfl⟩
    go_wp2
    go_ret
    exact ⟨rfl, rfl⟩

/-- which class has that charge -/
theorem class_unique {a j k : Nat} (h : 2 ^ a * 2 ^ j = 2 ^ a * 2 ^ k) : j = k := pow_inj (Nat.eq_of_mul_eq_mul_left (Nat.two_pow_pos a) h)
def shP (a : Nat) (x : Int) (k : Nat) : Bool := decide (x = ((2 ^ a * 2 ^ k : Nat) : Int))
def shB (a l : Nat) (x : Int) : Bool := (List.range (l + 1)).any (shP a x)
def shV (a l : Nat) (x : Int) : Int := (((List.range (l + 1)).find? (shP a x)).getD 0 : Nat)
theorem sh_fits (a l k : Nat) (hk : k ≤ l) : shB a l ((2 ^ a * 2 ^ k : Nat) : Int) = true ∧ shV a l ((2 ^ a * 2 ^ k : Nat) : Int) = k := by
  have hp : shP a ((2 ^ a * 2 ^ k : Nat) : Int) k = true := by simp [shP]
  have hm : k ∈ List.range (l + 1) := List.mem_range.2 (by omega)
  refine ⟨List.any_eq_true.2 ⟨k, hm, hp⟩, ?_⟩
  unfold shV
  cases h : (List.range (l + 1)).find? (shP a ((2 ^ a * 2 ^ k : Nat) : Int)) with
  | none => exact absurd hp (List.find?_eq_none.1 h k hm)
  | some j =>
    have e0 : shP a ((2 ^ a * 2 ^ k : Nat) : Int) j = true := List.find?_some h
    have e := of_decide_eq_true e0
    have e2 : k = j := class_unique (Int.ofNat.inj e)
    rw [Option.getD_some, ← e2]
theorem sh_not {a l : Nat} {x : Int} (h : ∀ k : Nat, k ≤ l → x ≠ ((2 ^ a * 2 ^ k : Nat) : Int)) : shB a l x = false ∧ shV a l x = 0 := by
  have h' : ∀ k ∈ List.range (l + 1), ¬ shP a x k = true := fun k hk e => h k (by have := List.mem_range.1 hk; omega) (of_decide_eq_true e)
  refine ⟨?_, ?_⟩
  · rw [← Bool.not_eq_true]
    intro e
    obtain ⟨k, hk, e⟩ := List.any_eq_true.1 e
    exact h' k hk e
  · unfold shV
    rw [List.find?_eq_none.2 h']
    rfl
theorem wrap64_in (n : Int) : -9223372036854775808 ≤ wrap64 n ∧ wrap64 n ≤ 9223372036854775807 := by unfold wrap64; omega

theorem shift_yes (c : Cf) (a k l : Nat) (w : World) (ha : a ≤ 16) (hl : l ≤ 16) (hk : k ≤ l) (hg : c.g = ((2 ^ a : Nat) : Int)) (hc : c.l = l) (hT : Tab w) :
    Calls Tryd.prog 12 #[c.val, .int .i64 ((2 ^ a * 2 ^ k : Nat) : Int)] w fun e w' => e = .returned (.tuple #[.int .i64 k, .bool true]) ∧ w' = w.alloc (c.obj 31) := by
  have g1 := pow16 ha
  have k1 := pow16 (show k ≤ 16 by omega)
  have p1 : 2 ^ a * 2 ^ k ≤ 65536 * 65536 := Nat.mul_le_mul g1.2 k1.2
  have hd : wrap64 ((((2 ^ a * 2 ^ k : Nat) : Int)).tdiv c.g) = ((2 ^ k : Nat) : Int) := by
    rw [hg, Int.tdiv_eq_ediv_of_nonneg (by omega), ← Int.natCast_ediv, Nat.mul_div_cancel_left _ (by omega)]
    unfold wrap64; omega
  have hlog := hide (fun w hT => log_yes k w (by omega) hT)
  have hT' : Hid (∀ o1, Tab (w.alloc (.cells o1 31))) := fun o1 => hT.kept ((Kept.refl w).alloc _ _)
  have hkl : (k : Int) ≤ c.l := by omega
  have hg1 : 1 ≤ c.g := by omega
  have hp : wrap64 (c.g * 2 ^ k) = ((2 ^ a * 2 ^ k : Nat) : Int) := by
    rw [hg, ← pow_cast, ← Int.natCast_mul]; unfold wrap64; omega
  clear hc hg g1 k1 p1
  generalize ((2 ^ a * 2 ^ k : Nat) : Int) = x at *
  obtain ⟨cg, cn, cm, cl, cp, cb, ch, cs⟩ := c
  dsimp only at hd hkl hg1 hp
  show Calls Tryd.prog 12 #[.agg #[.int .i64 cg, .int .i64 cn, .int .i64 cm, .int .i64 cl, .int .i64 cp, .int .i64 cb, .int .i64 ch, .int .i64 cs], .int .i64 x] w _
  go_enter Tryd.func12, Tryd.ntmps12
  go_wp2_with fail
  refine (hlog.out _ (hT'.out _)).mono ?_
  rintro e w' ⟨rfl, rfl⟩
  go_wp2
  go_ret2
  exact ⟨rfl, rfl⟩

theorem shift_no (c : Cf) (a l : Nat) (x : Int) (w : World) (ha : a ≤ 16) (hl : l ≤ 16) (hx : ∀ k : Nat, k ≤ l → x ≠ ((2 ^ a * 2 ^ k : Nat) : Int)) (hg : c.g = ((2 ^ a : Nat) : Int)) (hc : c.l = l) (hT : Tab w) :
    Calls Tryd.prog 12 #[c.val, .int .i64 x] w fun e w' => e = .returned (.tuple #[.int .i64 0, .bool false]) ∧ w' = w.alloc (c.obj 31) := by
  have g1 := pow16 ha
  have hg1 : 1 ≤ c.g := by omega
  have hT' : Hid (∀ o1, Tab (w.alloc (.cells o1 31))) := fun o1 => hT.kept ((Kept.refl w).alloc _ _)
  have hq := wrap64_in (x.tdiv c.g)
  generalize hQ : wrap64 (x.tdiv c.g) = q at *
  rcases log_cases q hq.2 with ⟨j, hj, e1, _, _⟩ | ⟨_, _, hno⟩
  · have hlog := hide (fun w hT => log_yes j w hj hT)
    rw [← e1] at hlog
    by_cases hjl : j ≤ l
    · have j1 := pow16 (show j ≤ 16 by omega)
      have p1 : 2 ^ a * 2 ^ j ≤ 65536 * 65536 := Nat.mul_le_mul g1.2 j1.2
      have hs : (wrap64 (c.g * 2 ^ j) != x) = true := by
        rw [bne_iff_ne, hg, ← pow_cast, ← Int.natCast_mul]
        have : wrap64 ((2 ^ a * 2 ^ j : Nat) : Int) = ((2 ^ a * 2 ^ j : Nat) : Int) := by unfold wrap64; omega
        rw [this]
        exact fun h => hx j hjl h.symm
      have hkl : (j : Int) ≤ c.l := by omega
      have hj0 : (j : Int) < 63 := by omega
      clear hc hg g1 j1 p1 hx e1
      obtain ⟨cg, cn, cm, cl, cp, cb, ch, cs⟩ := c
      dsimp only at hQ hkl hg1 hs
      show Calls Tryd.prog 12 #[.agg #[.int .i64 cg, .int .i64 cn, .int .i64 cm, .int .i64 cl, .int .i64 cp, .int .i64 cb, .int .i64 ch, .int .i64 cs], .int .i64 x] w _
      go_enter Tryd.func12, Tryd.ntmps12
      go_wp2_with fail
      refine (hlog.out _ (hT'.out _)).mono ?_
      rintro e w' ⟨rfl, rfl⟩
      go_wp2
      go_ret2
      exact ⟨rfl, rfl⟩
    · have hkl : c.l < (j : Int) := by omega
      clear hc hg g1 hx e1
      obtain ⟨cg, cn, cm, cl, cp, cb, ch, cs⟩ := c
      dsimp only at hQ hkl hg1
      show Calls Tryd.prog 12 #[.agg #[.int .i64 cg, .int .i64 cn, .int .i64 cm, .int .i64 cl, .int .i64 cp, .int .i64 cb, .int .i64 ch, .int .i64 cs], .int .i64 x] w _
      go_enter Tryd.func12, Tryd.ntmps12
      go_wp2_with fail
      refine (hlog.out _ (hT'.out _)).mono ?_
      rintro e w' ⟨rfl, rfl⟩
      go_wp2
      go_ret2
      exact ⟨rfl, rfl⟩
  · have hlog := hide (fun w => log_no q w hq.1 hq.2 hno)
    clear hc hg g1 hx hno
    obtain ⟨cg, cn, cm, cl, cp, cb, ch, cs⟩ := c
    dsimp only at hQ hg1
    show Calls Tryd.prog 12 #[.agg #[.int .i64 cg, .int .i64 cn, .int .i64 cm, .int .i64 cl, .int .i64 cp, .int .i64 cb, .int .i64 ch, .int .i64 cs], .int .i64 x] w _
    go_enter Tryd.func12, Tryd.ntmps12
    go_wp2_with fail
    refine (hlog.out _).mono ?_
    rintro e w' ⟨rfl, rfl⟩
    go_wp2
    go_ret2
    exact ⟨rfl, rfl⟩

theorem shift_any (c : Cf) (a l : Nat) (x : Int) (w : World) (ha : a ≤ 16) (hl : l ≤ 16) (hg : c.g = ((2 ^ a : Nat) : Int)) (hc : c.l = l) (hT : Tab w) :
    Calls Tryd.prog 12 #[c.val, .int .i64 x] w fun e w' => e = .returned (.tuple #[.int .i64 (shV a l x), .bool (shB a l x)]) ∧ w' = w.alloc (c.obj 31) := by
  by_cases h : ∃ k : Nat, k ≤ l ∧ x = ((2 ^ a * 2 ^ k : Nat) : Int)
  · obtain ⟨k, hk, rfl⟩ := h
    rw [(sh_fits a l k hk).1, (sh_fits a l k hk).2]
    exact shift_yes c a k l w ha hl hk hg hc hT
  · have h' : ∀ k : Nat, k ≤ l → x ≠ ((2 ^ a * 2 ^ k : Nat) : Int) := fun k hk e => h ⟨k, hk, e⟩
    rw [(sh_not h').1, (sh_not h').2]
    exact shift_no c a l x w ha hl h' hg hc hT

theorem of_to (r : Rw) (c : Cf) (e0 : Int) (hc : ofC r = c) (he : ofE r = e0) (w : World) (hT : Tab w) :
    Calls Tryd.prog 10 #[r.val] w fun e w' => e = .returned (.tuple #[c.val, .int .i64 e0]) ∧ Kept w w' := by
  subst hc; subst he; exact of_any r w hT
theorem ceil_to (c : Cf) (k v : Int) (hv : cV c k = v) (w : World) (h1 : 0 ≤ c.m) (h2 : c.m ≤ 200000) (h3 : c.l ≤ 16) :
    Calls Tryd.prog 14 #[c.val, .int .i64 k] w fun e w' => e = .returned (.int .i64 v) ∧ w' = w.alloc (c.obj 31) := by
  subst hv; exact ceil_any c k w h1 h2 h3
end Go.Proofs.YtekffikkbiohnaaDoor
