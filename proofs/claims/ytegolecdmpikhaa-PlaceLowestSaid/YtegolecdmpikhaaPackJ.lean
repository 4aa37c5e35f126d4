/- Several texts as one: Ints, Hold, Open2, Duo, SideMap, RowAt, LowMath. -/
import Derived.Test.YtegolecdmpikhaaPackA
import Derived.Deep.RegionHeld
import Derived.Test.YtegolecdmpikhaaPackD
import Derived.Deep.Slices
import Derived.Test.YtegolecdmpikhaaPackF
import Derived.Maps.OwnSet
import Derived.MapKept
import Derived.Test.YtegolecdmpikhaaPackE
import Derived.Test.YtegolecdmpikhaaPackG
/- The cells of a block that holds ints; carried into worlds that have grown. -/
namespace Go.Proofs.Ytegolecdmpikhaa
open Go.RowKit

abbrev intsO (l : List Int) (t : TypeId) : Obj := .cells (l.map (Value.int .i64)).toArray t
/-- the cells of a block that holds ints -/
def HasI (w : World) (n : Nat) (l : List Int) : Prop := ∀ k, k < l.length → w.cell? ⟨n, k, none⟩ = some (.int .i64 (l.getD k 0))
theorem HasI.made (w : World) (l : List Int) (t : TypeId) : HasI (w.alloc (intsO l t)) w.heap.size l := by
  intro k hk
  simp [intsO, hk, List.getD_eq_getElem?_getD]
theorem HasI.kept {w w' : World} {n : Nat} {l : List Int} (h : HasI w n l) (k : Kept w w') : HasI w' n l := fun i hi => k.cell (h i hi)
end Go.Proofs.Ytegolecdmpikhaa
/- A drawn region in which operation z writes what others have read: S holds till z has come up; whoever z waits for is taken first where S gives its value. (The library's own law, Derived/OrdersHeld, asks S behind z too.) gen.py's '!holdz', '!takez', '!atz', '!runz', '!endz'. Of no program. -/
namespace Go.Proofs.Ytegolecdmpikhaa
open Go.RowKit

section
variable {P : Program} {ops : Array Oper} {Q : Exit → Act → World → Prop} {md : Region.Mode} {S : World → Prop} {z : Nat}
def wpAnyZ (P : Program) (md : Region.Mode) (ops : Array Oper) (Q : Exit → Act → World → Prop) (S : World → Prop) (z : Nat) : Nat → Array Bool → Act → World → Prop
  | 0, listed, a, w => Region.ready md ops listed = [] ∧ Q .normal a w
  | fuel + 1, listed, a, w =>
    (Region.ready md ops listed = [] → Q .normal a w) ∧
    ∀ i ∈ Region.ready md ops listed, wpOp P ops Q i (fun a' w' => ((listed.setIfInBounds i true).getD z true = true ∨ S w') ∧ wpAnyZ P md ops Q S z fuel (listed.setIfInBounds i true) a' w') a w
theorem wpAny_of_z : ∀ (fuel : Nat) (listed : Array Bool) (a : Act) (w : World), wpAnyZ P md ops Q S z fuel listed a w → wpAny P md ops Q fuel listed a w
  | 0, _, _, _, h => h
  | fuel + 1, _, _, _, h => ⟨h.1, fun i hi => wpOp_mono (fun a' w' h' => wpAny_of_z fuel _ a' w' h'.2) (h.2 i hi)⟩
theorem getD_set_stay {listed : Array Bool} {i : Nat} (h : listed.getD z true = true) : (listed.setIfInBounds i true).getD z true = true := by
  by_cases hij : i = z
  · subst hij
    rcases Nat.lt_or_ge i listed.size with h' | h'
    · simp [h']
    · simp [h']
  · rw [getD_set_ne true hij]; exact h
theorem wpAnyZ_of_any : ∀ (fuel : Nat) (listed : Array Bool) (a : Act) (w : World), listed.getD z true = true → wpAny P md ops Q fuel listed a w → wpAnyZ P md ops Q S z fuel listed a w
  | 0, _, _, _, _, h => h
  | fuel + 1, _, _, _, hz, h => ⟨h.1, fun i hi => wpOp_mono (fun a' w' h' => ⟨.inl (getD_set_stay hz), wpAnyZ_of_any fuel _ a' w' (getD_set_stay hz) h'⟩) (h.2 i hi)⟩
/-- z waits for i -/
def waits (md : Region.Mode) (ops : Array Oper) (z i : Nat) : Bool := match ops[z]? with
  | some o => o.after.any fun e => Region.binds md e && e.on == i
  | none => false
theorem waits_spec {i : Nat} (h : waits md ops z i = true) {listed : Array Bool} (hr : z ∈ Region.ready md ops listed) : listed.getD i false = true := by
  obtain ⟨_, o, ho, hall⟩ := mem_ready.1 hr
  unfold waits at h
  rw [ho] at h
  obtain ⟨e, he, hb⟩ := Array.any_eq_true'.1 h
  rw [Bool.and_eq_true, beq_iff_eq] at hb
  have := hall e he hb.1
  rw [hb.2] at this
  exact this
theorem wpAnyZ_first {i : Nat} {oi : Oper} {v : Value} (hi : ops[i]? = some oi) (hsel : ∀ (j : Nat) (o : Oper) cs b, ops[j]? = some o → o.op ≠ .select cs b)
    (hQ : ∀ c a w, Q (.panic c) (a.put oi.dst v) w → Q (.panic c) a w) (hwt : waits md ops z i = true) :
    ∀ (fuel : Nat) (listed : Array Bool) (a : Act) (w : World),
      (∀ j oj, ops[j]? = some oj → j ≠ i → listed.getD j true = false → (∀ e ∈ oj.after, Region.binds md e = true → e.on ≠ i) → oi.apart ops oj = true) →
      i ∈ Region.ready md ops listed → YieldsIf P ops S oi v a → S w → listed.getD z true = false →
      wpAnyZ P md ops Q S z fuel (listed.setIfInBounds i true) (a.put oi.dst v) w → wpAnyZ P md ops Q S z (fuel + 1) listed a w := by
  intro fuel
  induction fuel with
  | zero =>
    intro listed a w _ hr hy hS hz H
    refine ⟨fun h => (by rw [h] at hr; cases hr), fun j hj => ?_⟩
    by_cases hji : j = i
    · subst hji; exact hy.wpOp hi hS ⟨.inr hS, H⟩
    · have := ready_mono hj hji
      rw [H.1] at this
      cases this
  | succ fuel ih =>
    intro listed a w hfree hr hy hS hz H
    refine ⟨fun h => (by rw [h] at hr; cases hr), fun j hj => ?_⟩
    by_cases hji : j = i
    · subst hji; exact hy.wpOp hi hS ⟨.inr hS, H⟩
    · have h1 := H.2 j (ready_mono hj hji)
      obtain ⟨hjun, oj, hoj, hall⟩ := mem_ready.1 hj
      have hin : listed.getD i false = false := by
        have h0 := (mem_ready.1 hr).1
        rcases Nat.lt_or_ge i listed.size with h' | h'
        · simp [h'] at h0 ⊢; exact h0
        · simp [h']
      have hnot : ∀ e ∈ oj.after, Region.binds md e = true → e.on ≠ i := fun e he hb heq => by
        have h1 := hall e he hb
        rw [heq, hin] at h1
        cases h1
      have hjz : j ≠ z := fun e => by
        have := waits_spec hwt (e ▸ hj)
        rw [hin] at this
        cases this
      have hz2 : (listed.setIfInBounds j true).getD z true = false := by rw [getD_set_ne true hjz]; exact hz
      have hiz : i ≠ z := fun e => by
        have := waits_spec hwt (e ▸ hr)
        rw [hin] at this
        cases this
      have hz3 : ((listed.setIfInBounds i true).setIfInBounds j true).getD z true = false := by rw [getD_set_ne true hjz, getD_set_ne true hiz]; exact hz
      have h2 := wpOp_putIf hoj (hfree j oj hoj hji hjun hnot) (fun cs b => hsel i oi cs b hi) (fun cs b => hsel j oj cs b hoj) hQ hy h1
      have hfree' : ∀ k ok, ops[k]? = some ok → k ≠ i → (listed.setIfInBounds j true).getD k true = false →
          (∀ e ∈ ok.after, Region.binds md e = true → e.on ≠ i) → oi.apart ops ok = true := fun k ok hk hki hun hno => by
        refine hfree k ok hk hki ?_ hno
        by_cases hjk : j = k
        · subst hjk; exact hjun
        · rw [getD_set_ne true hjk] at hun; exact hun
      refine wpOp_mono (fun a' w' h3 => ?_) h2
      have hS' : S w' := by
        rcases h3.2.1 with g | g
        · rw [hz3] at g; cases g
        · exact g
      refine ⟨.inr hS', ih (listed.setIfInBounds j true) a' w' hfree' (ready_mono hr (Ne.symm hji)) h3.1 hS' hz2 ?_⟩
      rw [Array.setIfInBounds_comm _ _ hji]
      exact h3.2.2
theorem holdz_take {i d : Nat} {oi : Oper} {v : Value} {fuel : Nat} {listed : Array Bool} {a : Act} {w : World} (hi : ops[i]? = some oi) (hd : oi.dst = some d)
    (hs : Region.noSelect ops = true) (hf : Region.free md ops listed i = true) (hr : (Region.ready md ops listed).contains i = true) (hwt : waits md ops z i = true) (hz : listed.getD z true = false)
    (hQ : ∀ c a w, Q (.panic c) (a.put (some d) v) w → Q (.panic c) a w) (hw : Region.wanted oi (yielded ops a.tmps) = true) (hy : ∀ w, S w → (execOp a.eval oi).run P w = .ok (.value v) w) (hS : S w)
    (h : wpAnyZ P md ops Q S z fuel (listed.setIfInBounds i true) (a.put (some d) v) w) : wpAnyZ P md ops Q S z (fuel + 1) listed a w := by
  rw [← hd] at hQ h
  exact wpAnyZ_first hi (Region.noSelect_spec hs) hQ hwt fuel listed a w (Region.free_spec hi hf) (by simpa using hr) (.inl ⟨hw, hy⟩) hS hz h
/-- what yields in whatever world may be taken first, whether z waits for it or not -/
theorem wpAnyZ_firstAny {i : Nat} {oi : Oper} {v : Value} (hi : ops[i]? = some oi) (hsel : ∀ (j : Nat) (o : Oper) cs b, ops[j]? = some o → o.op ≠ .select cs b)
    (hQ : ∀ c a w, Q (.panic c) (a.put oi.dst v) w → Q (.panic c) a w) (hiz : i ≠ z) :
    ∀ (fuel : Nat) (listed : Array Bool) (a : Act) (w : World),
      (∀ j oj, ops[j]? = some oj → j ≠ i → listed.getD j true = false → (∀ e ∈ oj.after, Region.binds md e = true → e.on ≠ i) → oi.apart ops oj = true) →
      i ∈ Region.ready md ops listed → YieldsIf P ops (fun _ => True) oi v a → (listed.getD z true = true ∨ S w) →
      wpAnyZ P md ops Q S z fuel (listed.setIfInBounds i true) (a.put oi.dst v) w → wpAnyZ P md ops Q S z (fuel + 1) listed a w := by
  intro fuel
  induction fuel with
  | zero =>
    intro listed a w _ hr hy hS H
    refine ⟨fun h => (by rw [h] at hr; cases hr), fun j hj => ?_⟩
    by_cases hji : j = i
    · subst hji; exact hy.wpOp hi trivial ⟨by rw [getD_set_ne true hiz]; exact hS, H⟩
    · have := ready_mono hj hji
      rw [H.1] at this
      cases this
  | succ fuel ih =>
    intro listed a w hfree hr hy hS H
    refine ⟨fun h => (by rw [h] at hr; cases hr), fun j hj => ?_⟩
    by_cases hji : j = i
    · subst hji; exact hy.wpOp hi trivial ⟨by rw [getD_set_ne true hiz]; exact hS, H⟩
    · have h1 := H.2 j (ready_mono hj hji)
      obtain ⟨hjun, oj, hoj, hall⟩ := mem_ready.1 hj
      have hin : listed.getD i false = false := by
        have h0 := (mem_ready.1 hr).1
        rcases Nat.lt_or_ge i listed.size with h' | h'
        · simp [h'] at h0 ⊢; exact h0
        · simp [h']
      have hnot : ∀ e ∈ oj.after, Region.binds md e = true → e.on ≠ i := fun e he hb heq => by
        have h1 := hall e he hb
        rw [heq, hin] at h1
        cases h1
      have h2 := wpOp_putIf hoj (hfree j oj hoj hji hjun hnot) (fun cs b => hsel i oi cs b hi) (fun cs b => hsel j oj cs b hoj) hQ hy h1
      have hfree' : ∀ k ok, ops[k]? = some ok → k ≠ i → (listed.setIfInBounds j true).getD k true = false →
          (∀ e ∈ ok.after, Region.binds md e = true → e.on ≠ i) → oi.apart ops ok = true := fun k ok hk hki hun hno => by
        refine hfree k ok hk hki ?_ hno
        by_cases hjk : j = k
        · subst hjk; exact hjun
        · rw [getD_set_ne true hjk] at hun; exact hun
      refine wpOp_mono (fun a' w' h3 => ?_) h2
      have hS' : (listed.setIfInBounds j true).getD z true = true ∨ S w' := by
        have := h3.2.1
        rw [Array.setIfInBounds_comm _ _ (Ne.symm hji), getD_set_ne true hiz] at this
        exact this
      refine ⟨hS', ih (listed.setIfInBounds j true) a' w' hfree' (ready_mono hr (Ne.symm hji)) h3.1 hS' ?_⟩
      rw [Array.setIfInBounds_comm _ _ hji]
      exact h3.2.2
theorem holdz_any {i d : Nat} {oi : Oper} {v : Value} {fuel : Nat} {listed : Array Bool} {a : Act} {w : World} (hi : ops[i]? = some oi) (hd : oi.dst = some d)
    (hs : Region.noSelect ops = true) (hf : Region.free md ops listed i = true) (hr : (Region.ready md ops listed).contains i = true) (hiz : (i == z) = false)
    (hQ : ∀ c a w, Q (.panic c) (a.put (some d) v) w → Q (.panic c) a w) (hw : Region.wanted oi (yielded ops a.tmps) = true) (hy : ∀ w, (execOp a.eval oi).run P w = .ok (.value v) w) (hS : S w)
    (h : wpAnyZ P md ops Q S z fuel (listed.setIfInBounds i true) (a.put (some d) v) w) : wpAnyZ P md ops Q S z (fuel + 1) listed a w := by
  rw [← hd] at hQ h
  exact wpAnyZ_firstAny hi (Region.noSelect_spec hs) hQ (by simpa using hiz) fuel listed a w (Region.free_spec hi hf) (by simpa using hr) (.inl ⟨hw, fun w _ => hy w⟩) (.inr hS) h
def AllReadyZ (P : Program) (md : Region.Mode) (ops : Array Oper) (Q : Exit → Act → World → Prop) (S : World → Prop) (z : Nat) (fuel : Nat) (listed : Array Bool) (a : Act) (w : World) (rs : List Nat) : Prop :=
  ∀ i ∈ rs, wpOp P ops Q i (fun a' w' => ((listed.setIfInBounds i true).getD z true = true ∨ S w') ∧ wpAnyZ P md ops Q S z fuel (listed.setIfInBounds i true) a' w') a w
theorem AllReadyZ.nil {fuel : Nat} {listed : Array Bool} {a : Act} {w : World} : AllReadyZ P md ops Q S z fuel listed a w [] := fun _ h => by cases h
theorem AllReadyZ.cons {fuel : Nat} {listed : Array Bool} {a : Act} {w : World} {i : Nat} {o : Oper} {rs : List Nat} (ho : ops[i]? = some o)
    (h : ∀ K' : Act → World → Prop, Shut (∀ a w, ((listed.setIfInBounds i true).getD z true = true ∨ S w) → wpAnyZ P md ops Q S z fuel (listed.setIfInBounds i true) a w → K' a w) → if Region.wanted o (yielded ops a.tmps) = true then Oper.wp P o a w K' Q else K' (a.put o.dst undef) w)
    (hs : AllReadyZ P md ops Q S z fuel listed a w rs) : AllReadyZ P md ops Q S z fuel listed a w (i :: rs) := fun j hj => by
  rcases List.mem_cons.1 hj with rfl | hj
  · exact wpOp_step ho (fun K' hK => h K' (fun a w hS hW => hK a w ⟨hS, hW⟩))
  · exact hs j hj
theorem wpAnyZ_ready {rs : List Nat} {fuel : Nat} {listed : Array Bool} {a : Act} {w : World} (hr : Region.ready md ops listed = rs) (hne : rs ≠ [])
    (h : AllReadyZ P md ops Q S z fuel listed a w rs) : wpAnyZ P md ops Q S z (fuel + 1) listed a w := ⟨fun h0 => absurd (hr ▸ h0) hne, hr ▸ h⟩
theorem wp_region_z {id : Nat} {a : Act} {w : World} (hm : P.follows .mixedOrders = true)
    (h : wpAnyZ P .any ops Q S z ops.size (Array.replicate ops.size false) a { w with drawn := w.drawn + 1 }) : (Code.region id ops true).wp P Q a w :=
  wp_region_any hm (wpAny_of_z _ _ _ _ h)
end
end Go.Proofs.Ytegolecdmpikhaa
/- How a slice of arrays of two bytes is told to a walk: by its cells. -/
namespace Go.Proofs.Ytegolecdmpikhaa
open Go.ChangeShapes Go.WideShapes Go.ChangeAt Go.RowKit

/-- where pairs of bytes lie -/
def IsDuo (w : World) (a : Option Addr) (len : Nat) : Prop :=
  ∀ i, i < len → ∃ b o z0 z1, a = some ⟨b, o, none⟩ ∧ (w.cell? ⟨b, o + i * 2, none⟩ = some (.int .u8 z0) ∧ 0 ≤ z0 ∧ z0 ≤ 255) ∧ (w.cell? ⟨b, o + i * 2 + 1, none⟩ = some (.int .u8 z1) ∧ 0 ≤ z1 ∧ z1 ≤ 255)
theorem isDuo_of {H : Type} {enc : TypeId × Value → H} {P : Program} {W : World} {held : Bool} {t e u : TypeId} {a : Option Addr} {len cap : Nat} {d : DataW H} {p : List MemPlace}
    (ht : P.underlying t = some (.slice e)) (he : P.underlying e = some (.array 2 u)) (hu : P.underlying u = some (.int .u8)) (hc : P.cellsOf e = 2) (hcu : P.cellsOf u = 1) (h : DataW.Trod enc P W 0 (fun _ => true) held t (.slice a len cap) d p) : IsDuo W a len ∧ len ≤ maxLen := by
  obtain ⟨fuel, hf⟩ := h
  rcases Go.Deep.open_slice ht hf with ⟨hcs, _⟩ | ⟨x, l, c, m, n, D, Pl, hcs, _, hl, hm, hmm, _, hel⟩
  · simp [Value.cells] at hcs
    obtain ⟨rfl, rfl, rfl⟩ := hcs
    exact ⟨fun i hi => by omega, by simp⟩
  · simp [Value.cells] at hcs
    obtain ⟨rfl, rfl, rfl⟩ := hcs
    have hmc : m = cap := by rw [hmm]; simp
    refine ⟨fun i hi => ?_, by omega⟩
    obtain ⟨cs', hcell, htr⟩ := hel i (by omega)
    rw [hc] at hcell
    obtain ⟨_, hlen, hget⟩ := World.cells?_some hcell
    obtain ⟨xs, m', _, _, _, hxl, hx⟩ := DataW.trod_array he htr
    rw [hcu] at hx
    have each : ∀ k, k < 2 → ∃ z, cs'[k]? = some (.int .u8 z) ∧ (Lit.int .u8 z).wf = true := by
      intro k hk
      have hxk := hx k hk
      rw [List.getElem?_eq_getElem (by omega)] at hxk
      obtain ⟨z, e1, _, hw⟩ := DataW.trod_int hu hxk
      refine ⟨z, ?_, hw⟩
      have e' : (cs'.drop (k * 1)).take 1 = [.int .u8 z] := by simpa [Value.cells] using e1
      have : ((cs'.drop (k * 1)).take 1)[0]? = some (.int .u8 z) := by rw [e']; rfl
      simpa using this
    obtain ⟨z0, e0, w0⟩ := each 0 (by decide)
    obtain ⟨z1, e1, w1⟩ := each 1 (by decide)
    have h0 := hget 0 (by decide)
    have h1 := hget 1 (by decide)
    rw [e0] at h0
    rw [e1] at h1
    obtain ⟨b, o, s⟩ := x
    have hs : s = none := by
      obtain ⟨cs0, hc0, ht0⟩ := hel 0 (by omega)
      rw [hc] at hc0
      obtain ⟨_, hl0, hg0⟩ := World.cells?_some hc0
      have := hg0 0 (by decide)
      rw [List.getElem?_eq_getElem (by omega)] at this
      simpa [Addr.add] using World.cell?_spot this
    subst hs
    rw [Go.WideShapes.add_plain b o (i * 2)] at h0 h1
    rw [Go.WideShapes.add_plain b (o + i * 2)] at h0 h1
    exact ⟨b, o, z0, z1, rfl, ⟨h0, bounds_u8 w0⟩, ⟨h1, bounds_u8 w1⟩⟩
end Go.Proofs.Ytegolecdmpikhaa
/- Pairs of bytes that came in stay where new memory alone is made. Of no program. -/
namespace Go.Proofs.Ytegolecdmpikhaa
open Go.RowKit

theorem duo_fresh {w w' : World} {a : Option Addr} {len : Nat} (h : IsDuo w a len) (k : Fresh w w') : IsDuo w' a len := by
  intro i hi
  obtain ⟨b, o, z0, z1, e, ⟨h0, b0⟩, ⟨h1, b1⟩⟩ := h i hi
  exact ⟨b, o, z0, z1, e, ⟨(k.cell (World.block_lt_of_cell? _ _ h0)).trans h0, b0⟩, ⟨(k.cell (World.block_lt_of_cell? _ _ h1)).trans h1, b1⟩⟩
end Go.Proofs.Ytegolecdmpikhaa
/- A map from beginnings to classes beside a row of marks: it has what the row has (Rel). -/
namespace Go.Proofs.Ytegolecdmpikhaa
open Go.RowKit Go.Maps

theorem intLaw : Keyed Try.prog 3 := int_keyed Try.underlying3
theorem zeroI (w : World) : (zeroValue 3).run Try.prog w = .ok (.int .i64 0) w := by kernel_rfl
theorem makeMap_none (w : World) : (Instr.makeMap 40 none).run Try.prog w = .ok (.map (some w.heap.size)) (w.alloc (.map #[] 0)) := by
  simp [Instr.makeMap]
/-- what a beginning reads as -/
def kI (a : Int) : Lit := .int .i64 a
theorem kI_of {a : Int} (h1 : 0 ≤ a) (h2 : a ≤ 65535) : keyOf Try.prog 3 (.int .i64 a) = some (kI a) := keyOf_int_mk Try.underlying3 (WalkArith.wf_i64 (by omega))
theorem kI_key {a : Int} (h1 : 0 ≤ a) (h2 : a ≤ 65535) : WideAt.IsKeyLit (kI a) := intLaw.key (kI_of h1 h2)
theorem kI_ne {a b : Int} (h : a ≠ b) : kI a ≠ kI b := fun e => h (by simpa [kI] using e)
/-- what stands at a key -/
def atF (o : Option Int) (z : DataW Unit) : DataW Unit := match o with
  | some c => .lit (.int .i64 c)
  | none => z
/-- the map has what the row has -/
structure Rel (ps : List Pc) (D : DataW Unit) : Prop where
  tidy : Tidy D
  has : ∀ k : Int, 0 ≤ k → k ≤ 65535 → Maps.has D (kI k) = (findM ps k).isSome
  look : ∀ k : Int, 0 ≤ k → k ≤ 65535 → ∀ z, D.atKey (kI k) z = atF (findM ps k) z
  size : Maps.size D = ps.length
theorem rel_nil : Rel [] (.map []) := ⟨tidy_empty, fun _ _ _ => rfl, fun _ _ _ _ => rfl, rfl⟩
theorem Rel.put {ps : List Pc} {D : DataW Unit} (h : Rel ps D) (hr : Rise ps) {x c : Int} (h1 : 0 ≤ x) (h2 : x ≤ 65535) : Rel (putM ps (x, c)) (D.put (kI x) (.lit (.int .i64 c))) := by
  refine ⟨h.tidy.put (kI_key h1 h2) _, fun k k1 k2 => ?_, fun k k1 k2 z => ?_, ?_⟩
  · rw [find_put hr]
    by_cases e : k = x
    · subst e
      rw [if_pos rfl, has_put_same h.tidy.isMap (kI_key h1 h2)]; rfl
    · rw [if_neg e, has_put_other (kI_ne e)]; exact h.has k k1 k2
  · rw [find_put hr]
    by_cases e : k = x
    · subst e
      rw [if_pos rfl, atKey_put_same h.tidy.isMap (kI_key h1 h2)]; rfl
    · rw [if_neg e, atKey_put_other (kI_ne e)]; exact h.look k k1 k2 z
  · rw [size_put h.tidy, putM_length, h.has x h1 h2, h.size, ← hit_find]
    cases hitM ps x <;> rfl
theorem Rel.del {ps : List Pc} {D : DataW Unit} (h : Rel ps D) (hr : Rise ps) {x : Int} (h1 : 0 ≤ x) (h2 : x ≤ 65535) : Rel (takM ps x) (D.del (kI x)) := by
  refine ⟨h.tidy.del _, fun k k1 k2 => ?_, fun k k1 k2 z => ?_, ?_⟩
  · rw [find_tak hr]
    by_cases e : k = x
    · subst e
      rw [if_pos rfl, has_del_same]; rfl
    · rw [if_neg e, has_del_other (kI_ne e)]; exact h.has k k1 k2
  · rw [find_tak hr]
    by_cases e : k = x
    · subst e
      rw [if_pos rfl, atKey_del_same]; rfl
    · rw [if_neg e, atKey_del_other (kI_ne e)]; exact h.look k k1 k2 z
  · have s1 := size_del (k := kI x) h.tidy
    have s2 := takM_length ps x
    rw [h.has x h1 h2, h.size, ← hit_find] at s1
    split at s1 <;> simp_all <;> omega
/-- a row of marks stays, whatever becomes of a map -/
theorem SpansIn.turned {w w' : World} {v : Value} {ps : List Pc} {B n : Nat} {D : DataW Unit} (h : SpansIn w v ps) (hm : w.ownsMap Try.prog 3 (plainElem Try.prog 3) B n D) (hg : w.grownBy w' (some B)) : SpansIn w' v ps := by
  obtain ⟨es, clock, hb, _⟩ := hm
  have keep : ∀ b o x, w.cell? ⟨b, o, none⟩ = some x → w'.cell? ⟨b, o, none⟩ = some x := fun b o x hc => by
    have hlt : b < w.heap.size := World.block_lt_of_cell? _ _ hc
    have hne : b ≠ B := by
      rintro rfl
      simp [World.cell?, hb] at hc
    exact (World.cell?_of_block (w := w) (hg.block b hlt (fun e => hne (by simpa using e)))).trans hc
  obtain ⟨⟨a, cap, rfl, h1, h2, h3, h4, h5, hc⟩, hp⟩ := h
  refine ⟨⟨a, cap, rfl, h1, h2, h3, h4, h5, fun i hi => ?_⟩, hp⟩
  obtain ⟨b, o, e, c0, c1⟩ := hc i hi
  exact ⟨b, o, e, keep _ _ _ c0, keep _ _ _ c1⟩
theorem ownsMap_fresh {w w' : World} {B n : Nat} {D : DataW Unit} (h : w.ownsMap Try.prog 3 (plainElem Try.prog 3) B n D) (k : Fresh w w') : w'.ownsMap Try.prog 3 (plainElem Try.prog 3) B n D := by
  obtain ⟨es, clock, hb, rest⟩ := h
  exact ⟨es, clock, by rw [k.block B (Array.getElem?_eq_some_iff.1 hb).1]; exact hb, rest⟩
end Go.Proofs.Ytegolecdmpikhaa
/- The bytes that came in, cell by cell; whether any of some bits is set (anyV). Of no program. -/
namespace Go.Proofs.Ytegolecdmpikhaa
open Go.ChangeShapes Go.WideShapes Go.ChangeAt Go.RowKit

/-- the bytes that came in -/
def RowAt (w : World) (a : Option Addr) (len : Nat) : Prop := ∀ i, i < len → ∃ b o z, a = some ⟨b, o, none⟩ ∧ w.cell? ⟨b, o + i, none⟩ = some (.int .u8 z) ∧ 0 ≤ z ∧ z ≤ 255
theorem IsRow.at {w : World} {a : Option Addr} {len cap : Nat} {zs : List Int} (h : IsRow .u8 w a len cap zs) : RowAt w a len := by
  intro i hi
  rcases h with ⟨rfl, rfl, rfl, rfl⟩ | ⟨x, rfl, hl, hm, hz, hc, hw⟩
  · omega
  · obtain ⟨b, o, s⟩ := x
    have hs : s = none := by simpa [Addr.add] using World.cell?_spot (hc 0 (by omega))
    subst hs
    have h1 := hc i (by omega)
    rw [Go.WideShapes.add_plain b o i] at h1
    have hb := bounds_u8 (hw (zs.getD i 0) (by rw [List.getD_eq_getElem?_getD, List.getElem?_eq_getElem (show i < zs.length by omega)]; exact List.getElem_mem _))
    exact ⟨b, o, zs.getD i 0, rfl, h1, hb.1, hb.2⟩
theorem RowAt.fresh {w w' : World} {a : Option Addr} {len : Nat} (h : RowAt w a len) (k : Fresh w w') : RowAt w' a len := by
  intro i hi
  obtain ⟨b, o, z, e, c, h1, h2⟩ := h i hi
  exact ⟨b, o, z, e, (k.cell (World.block_lt_of_cell? _ _ c)).trans c, h1, h2⟩
/-- is any of m bits from a on set? -/
def anyV (p : Nat → Bool) (a : Nat) : Nat → Bool
  | 0 => false
  | m + 1 => anyV p a m || p (a + m)
theorem any_succ (p : Nat → Bool) (a m : Nat) : anyV p a (m + 1) = (anyV p a m || p (a + m)) := rfl
theorem any_iff (p : Nat → Bool) (a : Nat) : ∀ m, anyV p a m = true ↔ ∃ t, t < m ∧ p (a + t) = true
  | 0 => ⟨fun h => (by cases h), fun ⟨t, h, _⟩ => (by omega)⟩
  | m + 1 => by
    show (anyV p a m || p (a + m)) = true ↔ _
    rw [Bool.or_eq_true, any_iff p a m]
    constructor
    · rintro (⟨t, h1, h2⟩ | h)
      · exact ⟨t, by omega, h2⟩
      · exact ⟨m, by omega, h⟩
    · rintro ⟨t, h1, h2⟩
      by_cases e : t = m
      · subst e; exact .inr h2
      · exact .inl ⟨t, by omega, h2⟩
theorem any_cls (p : Nat → Bool) (k j : Nat) : anyV p (j * 2 ^ k) (2 ^ k) = clsB p k j := by
  rw [Bool.eq_iff_iff, any_iff, cls_iff]
end Go.Proofs.Ytegolecdmpikhaa
/- Marks with sizes in the place of classes (sz); what lives on in PlaceLowest (Lw): an engine, an array of owners, a map of beginnings. -/
namespace Go.Proofs.Ytegolecdmpikhaa
open Go.RowKit Go.Maps

def szP (q : Pc) : Pc := (q.1, 2 ^ q.2.toNat)
def sz (ps : List Pc) : List Pc := ps.map szP
theorem sz_ahead : ∀ (ps : List Pc) (x : Int), aheadN (sz ps) x = aheadN ps x
  | [], _ => rfl
  | p :: r, x => by
    show (if (szP p).1 < x then aheadN (sz r) x + 1 else 0) = (if p.1 < x then aheadN r x + 1 else 0)
    rw [sz_ahead r x]; rfl
theorem sz_nth {ps : List Pc} {i : Nat} (h : i < ps.length) : nth (sz ps) i = szP (nth ps i) := by
  show (ps.map szP).getD i (0, 0) = szP (ps.getD i (0, 0))
  simp [List.getD_eq_getElem?_getD, h]
theorem sz_length (ps : List Pc) : (sz ps).length = ps.length := by simp [sz]
theorem sz_hit (ps : List Pc) (x : Int) : hitM (sz ps) x = hitM ps x := by
  unfold hitM
  rw [sz_ahead, sz_length]
  by_cases h : aheadN ps x < ps.length
  · rw [sz_nth h]; rfl
  · simp [h]
theorem sz_nx (ps : List Pc) (x : Int) : nxM (sz ps) x = nxM ps x := by unfold nxM; rw [sz_hit, sz_ahead]
theorem sz_put (ps : List Pc) (m : Pc) : putM (sz ps) (szP m) = sz (putM ps m) := by
  unfold putM
  show (sz ps).take (aheadN (sz ps) m.1) ++ szP m :: (sz ps).drop (nxM (sz ps) m.1) = _
  rw [sz_ahead, sz_nx]
  simp [sz, List.map_take, List.map_drop]
theorem sz_tak (ps : List Pc) (x : Int) : takM (sz ps) x = sz (takM ps x) := by
  unfold takM
  rw [sz_ahead, sz_nx]
  simp [sz, List.map_take, List.map_drop]
theorem sz_rise {ps : List Pc} (h : Rise ps) : Rise (sz ps) := List.pairwise_map.2 h
theorem sz_cls {ps : List Pc} {x : Int} (h : hitM ps x = true) : clsM (sz ps) x = 2 ^ (clsM ps x).toNat := by
  unfold clsM
  rw [sz_hit, h, sz_ahead, if_pos rfl, if_pos rfl, sz_nth (hit_iff.1 h).1]; rfl
theorem look_cS {ps : List Pc} {D : DataW Unit} (h : Rel ps D) {k : Int} (h1 : 0 ≤ k) (h2 : k ≤ 65535) : D.atKey (kI k) (.lit (.int .i64 0)) = .lit (.int .i64 (clsM ps k)) := by
  rw [h.look k h1 h2, cls_find]
  cases findM ps k <;> rfl
theorem look_hS {ps : List Pc} {D : DataW Unit} (h : Rel ps D) {k : Int} (h1 : 0 ≤ k) (h2 : k ≤ 65535) : Maps.has D (kI k) = hitM ps k := by
  rw [h.has k h1 h2, hit_find]
theorem ownsMap_block {w w' : World} {B n : Nat} {D : DataW Unit} (h : w.ownsMap Try.prog 3 (plainElem Try.prog 3) B n D) (k : w'.heap[B]? = w.heap[B]?) : w'.ownsMap Try.prog 3 (plainElem Try.prog 3) B n D := by
  obtain ⟨es, clock, hb, rest⟩ := h
  exact ⟨es, clock, by rw [k]; exact hb, rest⟩
/-- three blocks that may turn -/
def Three (be bo bm : Nat) : Nat → Prop := fun k => k = be ∨ k = bo ∨ k = bm
/-- owners in their array -/
def Arr (w : World) (bo : Nat) (os : Nat → Int) : Prop := ∃ (cur : Array Value) (bt : TypeId), w.heap[bo]? = some (.cells cur bt (0, 0)) ∧ cur.size = 64 ∧ ∀ k, k < 64 → cur[k]? = some (.int .i64 (os k))
theorem Arr.block {w w' : World} {bo : Nat} {os : Nat → Int} (h : Arr w bo os) (k : w'.heap[bo]? = w.heap[bo]?) : Arr w' bo os := by
  obtain ⟨cur, bt, h1, h2⟩ := h
  exact ⟨cur, bt, k.trans h1, h2⟩
theorem Arr.lt {w : World} {bo : Nat} {os : Nat → Int} (h : Arr w bo os) : bo < w.heap.size := by
  obtain ⟨cur, bt, h1, _⟩ := h
  exact (Array.getElem?_eq_some_iff.1 h1).1
theorem Arr.cell {w : World} {bo : Nat} {os : Nat → Int} (h : Arr w bo os) (k : Nat) (hk : k < 64) : w.cell? ⟨bo, k, none⟩ = some (.int .i64 (os k)) ∧ w.frozen? ⟨bo, k, none⟩ = false := by
  obtain ⟨cur, bt, h1, _, h3⟩ := h
  exact ⟨cell_block h1 k _ (h3 k hk), free_block h1 k⟩
theorem Arr.set {w : World} {bo : Nat} {os : Nat → Int} (h : Arr w bo os) (k : Nat) (hk : k < 64) (x : Int) : Arr (w.setCell ⟨bo, k, none⟩ (.int .i64 x)) bo (fun i => if i = k then x else os i) := by
  obtain ⟨cur, bt, h1, h2, h3⟩ := h
  refine ⟨_, bt, heap_set_same h1 _, by simpa using h2, fun i hi => ?_⟩
  show _ = some (Value.int .i64 (if i = k then x else os i))
  by_cases e : i = k
  · subst e
    rw [if_pos rfl, Array.getElem?_setIfInBounds, if_pos rfl, if_pos (by omega)]
  · rw [if_neg e, Array.getElem?_setIfInBounds, if_neg (fun e' => e e'.symm)]
    exact h3 i hi
theorem Arr.congr {w : World} {bo : Nat} {os ot : Nat → Int} (h : Arr w bo os) (e : ∀ k, k < 64 → os k = ot k) : Arr w bo ot := by
  obtain ⟨cur, bt, h1, h2, h3⟩ := h
  exact ⟨cur, bt, h1, h2, fun k hk => by rw [← e k hk]; exact h3 k hk⟩
/-- where the law stands behind j deeds: D: the map, which has had so many stores; os: the owners -/
structure Lw (W : World) (be bo bm : Nat) (E : Eng) (j : Nat) (D : DataW Unit) (os : Nat → Int) (w : World) : Prop where
  ev : ∃ g sa c sc ma n mc, EV (Three be bo bm) w be g sa c sc ma n mc E
  ok : E.Ok
  is : E.G = 1 ∧ E.N = 64 ∧ E.c = 5 ∧ E.ps.length ≤ j
  arr : Arr w bo os
  own : ∀ k, k < 64 → (os k = 0 ↔ E.p k = false)
  mp : w.ownsMap Try.prog 3 (plainElem Try.prog 3) bm j D
  rel : Rel (sz E.ps) D
  el : Fresh W w
  ge : W.heap.size ≤ be ∧ W.heap.size ≤ bo ∧ W.heap.size ≤ bm
  ne : be ≠ bo ∧ be ≠ bm ∧ bo ≠ bm
theorem ownsMap_lt {w : World} {B n : Nat} {D : DataW Unit} (h : w.ownsMap Try.prog 3 (plainElem Try.prog 3) B n D) : B < w.heap.size := by
  obtain ⟨es, clock, hb, _⟩ := h
  exact (Array.getElem?_eq_some_iff.1 hb).1
/-- two engines, owners and a map, in the midst of a round -/
structure MidL (W : World) (be bo bm bx : Nat) (g : Int) (sa : Option Addr) (c sc : Nat) (ma : Option Addr) (n mc : Nat) (g' : Int) (sa' : Option Addr) (c' sc' : Nat) (ma' : Option Addr) (n' mc' : Nat) (E F : Eng) (j : Nat) (D : DataW Unit) (os : Nat → Int) (w : World) : Prop where
  ve : EV (Three be bo bm) w be g sa c sc ma n mc E
  vx : EV (Three be bo bm) w bx g' sa' c' sc' ma' n' mc' F
  arr : Arr w bo os
  mp : w.ownsMap Try.prog 3 (plainElem Try.prog 3) bm j D
  el : Fresh W w
  ge : W.heap.size ≤ be ∧ W.heap.size ≤ bo ∧ W.heap.size ≤ bm
  ne : be ≠ bo ∧ be ≠ bm ∧ bo ≠ bm
  nx : bx ≠ be ∧ bx ≠ bo ∧ bx ≠ bm
section
variable {W w : World} {be bo bm bx : Nat} {g : Int} {sa : Option Addr} {c sc : Nat} {ma : Option Addr} {n mc : Nat} {g' : Int} {sa' : Option Addr} {c' sc' : Nat} {ma' : Option Addr} {n' mc' : Nat} {E F : Eng} {j : Nat} {D : DataW Unit} {os : Nat → Int}
theorem MidL.set (h : MidL W be bo bm bx g sa c sc ma n mc g' sa' c' sc' ma' n' mc' E F j D os w) (k : Nat) (hk : k < 64) (x : Int) : MidL W be bo bm bx g sa c sc ma n mc g' sa' c' sc' ma' n' mc' E F j D (fun i => if i = k then x else os i) (w.setCell ⟨bo, k, none⟩ (.int .i64 x)) :=
  ⟨⟨heap_set_other h.ve.blk h.ne.1 _, h.ve.off.setCell (.inr (.inl rfl)) _ _⟩, ⟨heap_set_other h.vx.blk h.nx.2.1 _, h.vx.off.setCell (.inr (.inl rfl)) _ _⟩, h.arr.set k hk x, h.mp.setCell (a := ⟨bo, k, none⟩) (fun e => h.ne.2.2 e.symm) _, fresh_set h.el h.ge.2.1 _ _, h.ge, h.ne, h.nx⟩
theorem MidL.congr {ot : Nat → Int} (h : MidL W be bo bm bx g sa c sc ma n mc g' sa' c' sc' ma' n' mc' E F j D os w) (e : ∀ k, k < 64 → os k = ot k) : MidL W be bo bm bx g sa c sc ma n mc g' sa' c' sc' ma' n' mc' E F j D ot w :=
  ⟨h.ve, h.vx, h.arr.congr e, h.mp, h.el, h.ge, h.ne, h.nx⟩
theorem MidL.map {w1 : World} {D1 : DataW Unit} {j1 : Nat} (h : MidL W be bo bm bx g sa c sc ma n mc g' sa' c' sc' ma' n' mc' E F j D os w) (ho : w1.ownsMap Try.prog 3 (plainElem Try.prog 3) bm j1 D1) (hg : w.grownBy w1 (some bm)) : MidL W be bo bm bx g sa c sc ma n mc g' sa' c' sc' ma' n' mc' E F j1 D1 os w1 := by
  have key : ∀ k, k ≠ bm → k < w.heap.size → w1.heap[k]? = w.heap[k]? := fun k hk hl => hg.block k hl (fun e => hk (by simpa using e))
  have off : ∀ v G, EngOff (Three be bo bm) w v G → EngOff (Three be bo bm) w1 v G := fun v G hv => hv.turn hg.size (fun k hk hl => key k (fun e => hk (.inr (.inr e))) hl)
  exact ⟨⟨(key be h.ne.2.1 h.ve.lt).trans h.ve.blk, off _ _ h.ve.off⟩, ⟨(key bx h.nx.2.2 h.vx.lt).trans h.vx.blk, off _ _ h.vx.off⟩, h.arr.block (key bo h.ne.2.2 h.arr.lt), ho, h.el.grown hg h.el.size (fun q hq => by cases hq; exact h.ge.2.2), h.ge, h.ne, h.nx⟩
/-- the engine is turned: a round is done -/
theorem MidL.done (h : MidL W be bo bm bx g sa c sc ma n mc g' sa' c' sc' ma' n' mc' E F j D os w) (ok : F.Ok) (is : F.G = 1 ∧ F.N = 64 ∧ F.c = 5 ∧ F.ps.length ≤ j) (own : ∀ k, k < 64 → (os k = 0 ↔ F.p k = false)) (rel : Rel (sz F.ps) D) : Lw W be bo bm F j D os (sto w be g' sa' c' sc' ma' n' mc') :=
  ⟨⟨_, _, _, _, _, _, _, h.ve.put (.inl rfl) h.vx.off⟩, ok, is, h.arr.block (sto_other (Ne.symm h.ne.1)), own, ownsMap_block h.mp (sto_other (Ne.symm h.ne.2.1)), rel, sto_fresh h.el h.ge.1, h.ge, h.ne⟩
end
end Go.Proofs.Ytegolecdmpikhaa
