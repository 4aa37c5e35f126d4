/- Several texts as one: Open, RefTreeA, RefTreeB, RefTreeC, RefTreeD. -/
import Derived.Test.YtegolecdmpikhaaPackA
import Derived.Carry
import Derived.Deep.Fields
import Derived.ChangeSlices
import Derived.Test.YtegolecdmpikhaaPackB
/- How arguments are told to the walks: a struct of ints by its numbers, a slice of integers by its cells. -/
namespace Go.Proofs.Ytegolecdmpikhaa
open Go.ChangeShapes Go.WideShapes Go.ChangeAt Go.RowKit

/-- all fields are ints of 64 bits -/
def intFields (P : Program) (fs : Array Field) : Bool := (List.range fs.size).all fun i => match fs[i]? with
  | some f => (match P.underlying f.type with | some (.int .i64) => true | _ => false)
  | none => false

theorem intFields_at {P : Program} {fs : Array Field} (h : intFields P fs = true) (i : Nat) (f : Field) (hf : fs[i]? = some f) : P.underlying f.type = some (.int .i64) := by
  have hi : i < fs.size := by
    rcases Nat.lt_or_ge i fs.size with h | h
    · exact h
    · rw [Array.getElem?_eq_none h] at hf; cases hf
  have := List.all_eq_true.1 h i (List.mem_range.2 hi)
  rw [hf] at this
  simp only at this
  split at this
  · assumption
  · cases this

theorem open_structInts {H : Type} {enc : TypeId × Value → H} {P : Program} {w : World} {base b0 : Nat} {r : Reach} {spare : Nat → Bool} {held : Bool} {t : TypeId} {fs : Array Field} {v : Value} {d : DataW H} {p : List MemPlace}
    (hs : P.underlying t = some (.struct fs)) (hone : Go.Deep.oneCellFields P fs = true) (hint : intFields P fs = true) (hC : (P.cellsOf t == fs.size) = true) (n : Nat) (hn : (fs.size == n) = true) (hv : Value.okWide P w r b0 t v) (h : DataW.Trod enc P w base spare held t v d p) :
    ∃ xs : List Int, xs.length = n ∧ v = .agg (xs.map (Value.int .i64)).toArray ∧ ∀ x ∈ xs, (Lit.int .i64 x).wf = true := by
  obtain ⟨cs, rfl, hsz⟩ := okWide_struct hs hv
  obtain ⟨fuel, hf⟩ := h
  have hn' : fs.size = n := by simpa using hn
  obtain ⟨ys, n', _, hx, hl, hlen, hff⟩ := DataW.trod_struct hs hf
  have hC' : P.cellsOf t = fs.size := by simpa using hC
  have each : ∀ i, i < cs.size → ∃ a, cs[i]? = some (.int .i64 a) ∧ (Lit.int .i64 a).wf = true := by
    intro i hi
    have hi' : i < fs.size := by omega
    have hfi : fs[i]? = some fs[i] := Array.getElem?_eq_getElem hi'
    obtain ⟨o, k⟩ := Go.Deep.hone_of hone i fs[i] hfi
    have ht := hff i fs[i] hfi
    rw [o, k, List.getElem?_eq_getElem (by omega)] at ht
    obtain ⟨a, e, _, hw⟩ := DataW.trod_int (intFields_at hint i fs[i] hfi) ht
    refine ⟨a, ?_, hw⟩
    have e' : (cs.toList.drop i).take 1 = [.int .i64 a] := by simpa [Value.cells] using e
    have : ((cs.toList.drop i).take 1)[0]? = some (.int .i64 a) := by rw [e']; rfl
    simpa using this
  refine ⟨cs.toList.map (fun v => intOf v), by simp; omega, ?_, ?_⟩
  · congr 1
    apply Array.ext_getElem?
    intro i
    by_cases hi : i < cs.size
    · obtain ⟨a, e, _⟩ := each i hi
      simp [e, intOf]
    · simp [Array.getElem?_eq_none (Nat.le_of_not_lt hi)]
  · intro x hx
    obtain ⟨v, hv, rfl⟩ := List.mem_map.1 hx
    obtain ⟨i, hi, e⟩ := List.getElem_of_mem hv
    obtain ⟨a, e2, hw⟩ := each i (by simpa using hi)
    have : v = .int .i64 a := by
      rw [← e]
      have := e2
      rw [Array.getElem?_eq_getElem (by simpa using hi)] at this
      simpa using this
    rw [this]
    simpa [intOf] using hw

theorem list1 {α : Type} {l : List α} (h : l.length = 1) : ∃ x0, l = [x0] := by
  match l, h with
  | [x0], _ => exact ⟨x0, rfl⟩
theorem list2 {α : Type} {l : List α} (h : l.length = 2) : ∃ x0 x1, l = [x0, x1] := by
  match l, h with
  | [x0, x1], _ => exact ⟨x0, x1, rfl⟩
theorem list3 {α : Type} {l : List α} (h : l.length = 3) : ∃ x0 x1 x2, l = [x0, x1, x2] := by
  match l, h with
  | [x0, x1, x2], _ => exact ⟨x0, x1, x2, rfl⟩
theorem list4 {α : Type} {l : List α} (h : l.length = 4) : ∃ x0 x1 x2 x3, l = [x0, x1, x2, x3] := by
  match l, h with
  | [x0, x1, x2, x3], _ => exact ⟨x0, x1, x2, x3, rfl⟩
theorem list5 {α : Type} {l : List α} (h : l.length = 5) : ∃ x0 x1 x2 x3 x4, l = [x0, x1, x2, x3, x4] := by
  match l, h with
  | [x0, x1, x2, x3, x4], _ => exact ⟨x0, x1, x2, x3, x4, rfl⟩
theorem list6 {α : Type} {l : List α} (h : l.length = 6) : ∃ x0 x1 x2 x3 x4 x5, l = [x0, x1, x2, x3, x4, x5] := by
  match l, h with
  | [x0, x1, x2, x3, x4, x5], _ => exact ⟨x0, x1, x2, x3, x4, x5, rfl⟩
theorem list7 {α : Type} {l : List α} (h : l.length = 7) : ∃ x0 x1 x2 x3 x4 x5 x6, l = [x0, x1, x2, x3, x4, x5, x6] := by
  match l, h with
  | [x0, x1, x2, x3, x4, x5, x6], _ => exact ⟨x0, x1, x2, x3, x4, x5, x6, rfl⟩
theorem list8 {α : Type} {l : List α} (h : l.length = 8) : ∃ x0 x1 x2 x3 x4 x5 x6 x7, l = [x0, x1, x2, x3, x4, x5, x6, x7] := by
  match l, h with
  | [x0, x1, x2, x3, x4, x5, x6, x7], _ => exact ⟨x0, x1, x2, x3, x4, x5, x6, x7, rfl⟩

/-- What the walk is told of a slice of integers that came in: it is nil; or it leads to a row of cells. -/
def IsRow (k : IntKind) (w : World) (a : Option Addr) (len cap : Nat) (zs : List Int) : Prop :=
  (a = none ∧ len = 0 ∧ cap = 0 ∧ zs = []) ∨
  ∃ x, a = some x ∧ len ≤ cap ∧ cap ≤ maxLen ∧ zs.length = cap ∧ (∀ i, i < zs.length → w.cell? (x.add i) = some (.int k (zs.getD i 0))) ∧ ∀ n ∈ zs, (Lit.int k n).wf = true

theorem isRow_of {H : Type} {enc : TypeId × Value → H} {P : Program} {W : World} {held : Bool} {t e : TypeId} {k : IntKind} {a : Option Addr} {len cap : Nat} {d : DataW H} {p : List MemPlace}
    (ht : P.underlying t = some (.slice e)) (he : P.underlying e = some (.int k)) (hc : P.cellsOf e = 1) (h : DataW.Trod enc P W 0 (fun _ => true) held t (.slice a len cap) d p) : ∃ zs, IsRow k W a len cap zs := by
  obtain ⟨fuel, hf⟩ := h
  rcases open_ints ht he hc hf with ⟨hcs, _⟩ | ⟨x, l, c, zs, hcs, _, hl, hm, hz, _, hcell, hwz⟩
  · simp [Value.cells] at hcs
    obtain ⟨rfl, rfl, rfl⟩ := hcs
    exact ⟨[], .inl ⟨rfl, rfl, rfl, rfl⟩⟩
  · simp [Value.cells] at hcs
    obtain ⟨rfl, rfl, rfl⟩ := hcs
    exact ⟨zs, .inr ⟨_, rfl, hl, hm, by simpa using hz, hcell, hwz⟩⟩
end Go.Proofs.Ytegolecdmpikhaa
/- The document's own answers to tree that read (hodmanref3's Bits, First, SameTree), as contracts; rows of bools in memory. -/
namespace Go.Proofs.Ytegolecdmpikhaa
open Go.RowKit

/-- bools as values -/
def bvals (bs : List Bool) : List Value := bs.map Value.bool
theorem bvals_length (bs : List Bool) : (bvals bs).length = bs.length := by unfold bvals; rw [List.length_map]
theorem bvals_get (bs : List Bool) (i : Nat) (hi : i < bs.length) : (bvals bs)[i]? = some (.bool (bs.getD i false)) := by
  unfold bvals
  simp [List.getElem?_eq_getElem hi, List.getD_eq_getElem?_getD]
/-- bools in new memory -/
def OwnB (w : World) (base : Nat) (v : Value) (bs : List Bool) : Prop := w.ownsRow base 4 1 v bs.length (bvals bs)
/-- bools that are read -/
def BoolsAt (w : World) (v : Value) (bs : List Bool) : Prop :=
  ∃ a cap, v = .slice a bs.length cap ∧ ∀ i, i < bs.length → ∃ b o, a = some ⟨b, o, none⟩ ∧ w.cell? ⟨b, o + i, none⟩ = some (.bool (bs.getD i false))
theorem BoolsAt.fresh {w w' : World} {v : Value} {bs : List Bool} (h : BoolsAt w v bs) (k : Fresh w w') : BoolsAt w' v bs := by
  obtain ⟨a, cap, rfl, hc⟩ := h
  refine ⟨a, cap, rfl, fun i hi => ?_⟩
  obtain ⟨b, o, e, hcell⟩ := hc i hi
  exact ⟨b, o, e, (k.cell (World.block_lt_of_cell? _ _ hcell)).trans hcell⟩
theorem OwnB.at {w : World} {base : Nat} {v : Value} {bs : List Bool} (h : OwnB w base v bs) : BoolsAt w v bs := by
  have h0 := h
  rcases h.2 with ⟨rfl, hn⟩ | ⟨g, cap, cur, rfl, hb, hg, hc⟩
  · exact ⟨none, 0, by rw [hn], fun i hi => by omega⟩
  · refine ⟨_, cap, rfl, fun i hi => ⟨g, 0, rfl, ?_⟩⟩
    rw [Nat.zero_add, World.ownsRow.cellAt h0 i (by omega), bvals_get bs i hi]
theorem OwnB.fresh {w w' : World} {base : Nat} {v : Value} {bs : List Bool} (h : OwnB w base v bs) (k : Fresh w w') : OwnB w' base v bs := ownsRow_fresh h k
theorem OwnB.put {w : World} {base g cap N : Nat} {bs : List Bool} (h : OwnB w base (.slice (some ⟨g, 0, none⟩) N cap) bs) (hN : N = bs.length) (k : Nat) (b : Bool) :
    OwnB (w.setCell ⟨g, k, none⟩ (.bool b)) base (.slice (some ⟨g, 0, none⟩) N cap) (bs.set k b) := by
  subst hN
  have := (World.ownsRow.stored h k (.bool b)).1
  unfold OwnB
  rw [List.length_set]
  have e : (bvals bs).set k (.bool b) = bvals (bs.set k b) := by unfold bvals; rw [List.map_set]
  rw [e] at this
  exact this
theorem OwnB.cell {w : World} {base g cap N : Nat} {bs : List Bool} (h : OwnB w base (.slice (some ⟨g, 0, none⟩) N cap) bs) (hN : N = bs.length) (k : Nat) (hk : k < N) : w.cell? ⟨g, k, none⟩ = some (.bool (bs.getD k false)) := by
  subst hN
  rw [World.ownsRow.cellAt h k (by omega), bvals_get bs k hk]
theorem OwnB.free {w : World} {base g cap N : Nat} {bs : List Bool} (h : OwnB w base (.slice (some ⟨g, 0, none⟩) N cap) bs) (hN : N = bs.length) (k : Nat) : w.frozen? ⟨g, k, none⟩ = false := by
  subst hN
  exact World.ownsRow.frozenAt h k
theorem infoBool : (Try.prog.info? 4).map (fun i => (i.zero, i.size, i.bytes)) = some (some (.bool false), 1, 1) := by kernel_rfl

theorem news_one' (w : World) (v : Value) (e : TypeId) : ∀ j u, [v][j]? = some u → (w.alloc (.cells #[v] e)).cell? ((⟨w.heap.size, 0, none⟩ : Addr).add j) = some u := by
  intro j u hj
  match j, hj with
  | 0, hj => simp at hj; subst hj; simp [Addr.add]
theorem one_bool (b : Bool) : ∀ u ∈ [Value.bool b], u.oneCell' = true := by
  intro u hu; simp at hu; subst hu; rfl

/-- the bits of a tree -/
def bitsL (n : Nat) (ws : List Nat) : List Bool := (List.range n).map (bitV ws)
theorem bitsL_length (n : Nat) (ws : List Nat) : (bitsL n ws).length = n := by unfold bitsL; simp
theorem bitsL_get (n : Nat) (ws : List Nat) (i : Nat) (hi : i < n) : (bitsL n ws).getD i false = bitV ws i := by
  unfold bitsL
  simp [List.getD_eq_getElem?_getD, hi]
theorem bitsL_succ (j : Nat) (ws : List Nat) : bitsL (j + 1) ws = bitsL j ws ++ [bitV ws j] := by
  unfold bitsL
  rw [List.range_succ, List.map_append]; rfl

theorem bits_raw {w : World} {base : Nat} {v : Value} {j : Nat} {ws : List Nat} (h : OwnB w base v (bitsL j ws)) : w.ownsRow base 4 1 v j (bvals (bitsL j ws)) := by
  unfold OwnB at h; rw [bitsL_length] at h; exact h
theorem bits_step {W1 wr w1 : World} {v v1 : Value} {j base : Nat} {ws : List Nat} (hO : wr.ownsRow base 4 1 v j (bvals (bitsL j ws))) (hB : Below base W1 wr) (hbs : base ≤ wr.heap.size) (ho : w1.ownsRow base 4 1 v1 (j + 1) (bvals (bitsL j ws) ++ [.bool (bitV ws j)])) (hg : (wr.alloc (.cells #[.bool (bitV ws j)] 4)).grownBy w1 v.ownBlock) :
    OwnB w1 base v1 (bitsL (j + 1) ws) ∧ Below base W1 w1 := by
  refine ⟨?_, (hB.alloc hbs _).grown hg (by simp; omega) fun k hk => (World.ownsRow.lt hO k hk).1⟩
  unfold OwnB
  rw [bitsL_length, bitsL_succ]
  unfold bvals
  rw [List.map_append]
  exact ho

set_option maxRecDepth 100000 in
set_option maxHeartbeats 1000000 in
theorem tbits_any (v : Value) (n : Nat) (ws : List Nat) (w : World) (h : TreeAt w v n ws) :
    Calls Try.prog 44 #[v] w fun e w' => ∃ g cap, e = .returned (.slice (some ⟨g, 0, none⟩) n cap) ∧ OwnB w' w.heap.size (.slice (some ⟨g, 0, none⟩) n cap) (bitsL n ws) ∧ Fresh w w' := by
  obtain ⟨n1, n2, hlev, a, cap, rfl, hlv⟩ := h
  obtain ⟨i0, hi, hz0, hz1, hz2⟩ := infoOf infoBool
  have q1 : (1 : Int) ≤ (n : Int) := by omega
  have q2 : (n : Int) ≤ 65536 := by omega
  have hh := nLev_in n
  obtain ⟨b, o, rfl⟩ := hlv.len hh.1
  obtain ⟨x, c, hcell, hwd⟩ := hlv.row 0 (by omega)
  rw [Nat.add_zero] at hcell
  have l1 : (1 : Int) ≤ (nLev n : Int) := by omega
  have l2 : (nLev n : Int) ≤ 3 := by omega
  obtain ⟨W1, hW1⟩ : ∃ W1, W1 = w.alloc (.cells #[.int .i64 (n : Int), .slice (some ⟨b, o, none⟩) (nLev n) cap] 61) := ⟨_, rfl⟩
  have FW : Fresh w W1 := by subst hW1; exact fresh_box w _ _
  have BX : W1.heap[w.heap.size]? = some (.cells #[.int .i64 (n : Int), .slice (some ⟨b, o, none⟩) (nLev n) cap] 61 (0, 0)) := by subst hW1; exact heap_alloc_new w _
  have SW : W1.heap.size = w.heap.size + 1 := by subst hW1; simp
  have FWH := hide FW
  have HW := hide hW1
  have WD := hide (hwd.fresh FW)
  have HC := hide ((FW.cell (World.block_lt_of_cell? _ _ hcell)).trans hcell)
  have BXH := hide BX
  have EB := hide (fun (wr : World) (k : Below W1.heap.size W1 wr) => show wr.heap[w.heap.size]? = _ from (k.block w.heap.size (by omega)).trans BX)
  clear hlv hlev hwd hcell hW1 FW BX
  generalize nLev n = N at *
  go_enter Try.func44, Try.ntmps44
  go_wp2
  rw [← HW.out]
  go_loopw [3, 4] (fun v i wr => ∃ j : Nat, j ≤ n ∧ i = .int .i64 (j : Int) ∧ OwnB wr W1.heap.size v (bitsL j ws) ∧ Below W1.heap.size W1 wr) (fun _ i _ => (n - intOf i).toNat)
  case atStart => exact ⟨0, Nat.zero_le _, rfl, World.ownsRow_nil _ _ _ _, Below.refl _ _⟩
  case round =>
    obtain ⟨j, hj, rfl, hO, hB⟩ := hrel
    have BB := hide hB
    have hbx := EB.out wr hB
    have c0 := cell_block hbx 0 _ rfl
    have c1 := cell_block hbx 1 _ rfl
    have hs := hB.size
    clear hbx
    rcases Nat.lt_or_ge j n with hjn | hjn
    · have j1 : (j : Int) < (n : Int) := by omega
      have cl : wr.cell? ⟨b, o, none⟩ = some (.slice x (lvV ws 0).length c) := (hB.cell (World.block_lt_of_cell? _ _ HC.out)).trans HC.out
      have RH := hide (rhas_nat _ (lvV ws 0) j wr (WD.out.below hB (Nat.le_refl _)) (by omega))
      have hO' := bits_raw hO
      have OO := hide hO'
      have m1 : j + 1 ≤ maxLen := by unfold maxLen; omega
      have m2 : (j + 1) * 1 ≤ 140737488355328 := by omega
      have m3 : ∀ o, W1.heap.size ≤ (wr.alloc o).heap.size := fun o => by simp; omega
      have FIN := hide (fun v1 w1 ho hg => bits_step (v1 := v1) (w1 := w1) hO' hB hs ho hg)
      have BE : lvV ws 0 = ws := rfl
      clear hB hO
      go_wp2_with fail
      refine RH.out.mono ?_
      rintro e w' ⟨rfl, rfl⟩
      rw [BE]
      go_wp2_with (at_builtin; refine wpList_append_own _ rfl _ _ 64 rfl W1.heap.size 4 i0 (.bool false) 1 1 Try.underlying64 hi hz0 hz1 hz2 rfl (by decide) _ _ _ rfl (World.ownsRow.alloc OO.out _) ⟨w'.heap.size, 0, none⟩ 1 1 [.bool (bitV ws j)] rfl rfl (news_one' _ _ _) (one_bool _) m1 m2 (m3 _) ?_; intro v1 w1 hown hgrow _; have FF := hide (FIN.out _ _ hown hgrow); clear hown hgrow)
      go_roundw
      case rel => exact ⟨j + 1, by omega, by go_num, FF.out.1, FF.out.2⟩
      case measure => simp [intOf]; omega
    · obtain rfl : j = n := by omega
      have hO' := bits_raw hO
      obtain ⟨g, cp, hv⟩ := own_shape hO' n1
      subst hv
      have O2 := hide (ownsRow_mono hO FWH.out.size)
      have F2 := hide (show Fresh w wr from FWH.out.trans hB)
      clear hO hO' hB
      go_wp2
      go_ret
      exact ⟨g, cp, rfl, O2.out, F2.out⟩

/-! First -/
theorem rtfirst_any (v : Value) (n : Nat) (ws : List Nat) (f : Int) (w : World) (h : TreeAt w v n ws) (hf : -9223372036854775808 ≤ f) (hf' : f ≤ 9223372036854775807) :
    Calls Try.prog 43 #[v, .int .i64 f] w fun e w' => e = foundE (firstT n ws f) ∧ Fresh w w' := by
  have T := hide h
  obtain ⟨n1, n2, hlev, a, cap, rfl, hlv⟩ := h
  have q1 : (1 : Int) ≤ (n : Int) := by omega
  have q2 : (n : Int) ≤ 65536 := by omega
  have FB := hide (fresh_box w #[.int .i64 (n : Int), .slice a (nLev n) cap] 61)
  have BT := hide (tbits_any _ n ws _ (T.out.fresh FB.out))
  clear hlv hlev T
  generalize nLev n = N at *
  go_enter Try.func43, Try.ntmps43
  go_wp2_with fail
  refine BT.out.mono ?_
  rintro e w1 ⟨g, c, rfl, ho, hf1⟩
  have OB := hide ho
  have F1 := hide (FB.out.trans hf1)
  clear ho hf1 BT
  go_wp2
  go_loop [7] (fun i => ∃ j : Nat, j ≤ n ∧ i = .int .i64 (j : Int) ∧ (0 ≤ f → ∀ t, f.toNat ≤ t → t < j → bitV ws t = true)) (fun i => (n - intOf i).toNat)
  case atStart => exact ⟨0, Nat.zero_le _, rfl, fun _ t _ ht => by omega⟩
  case round =>
    obtain ⟨j, hj, rfl, hall⟩ := hrel
    have A := hide hall
    clear hall
    rcases Nat.lt_or_ge j n with hjn | hjn
    · have j1 : (j : Int) < (n : Int) := by omega
      have cl := OB.out.cell (by rw [bitsL_length]) j hjn
      rw [bitsL_get n ws j hjn] at cl
      by_cases h1 : f ≤ (j : Int)
      · by_cases h2 : 0 ≤ f
        · cases hb : bitV ws j with
          | true =>
            have B := hide hb
            rw [hb] at cl
            clear hb
            go_wp2
            go_round
            case rel => exact ⟨j + 1, by omega, by go_num, fun h t h3 h4 => by
              rcases Nat.lt_or_ge t j with h | h'
              · exact A.out h2 t h3 h
              · rw [show t = j by omega]; exact B.out⟩
            case measure => simp [intOf]; omega
          | false =>
            have F := hide (show firstT n ws f = some j by unfold firstT; rw [if_neg (by omega)]; exact first_some (by omega) hjn hb (A.out h2))
            rw [hb] at cl
            clear hb
            go_wp2
            go_ret2
            exact ⟨by rw [F.out]; rfl, F1.out⟩
        · have h3 : f < 0 := by omega
          generalize bitV ws j = bb at *
          go_wp2
          go_round
          case rel => exact ⟨j + 1, by omega, by go_num, fun h => by omega⟩
          case measure => simp [intOf]; omega
      · have h3 : (j : Int) < f := by omega
        generalize bitV ws j = bb at *
        go_wp2
        go_round
        case rel => exact ⟨j + 1, by omega, by go_num, fun h t h3 h4 => by omega⟩
        case measure => simp [intOf]; omega
    · obtain rfl : j = n := by omega
      have F := hide (show firstT j ws f = none by
        unfold firstT
        split
        · rfl
        · exact first_none (A.out (by omega)))
      go_wp2
      go_ret2
      exact ⟨by rw [F.out]; rfl, F1.out⟩

/-! SameTree -/
theorem tsame_true (v u : Value) (n h : Nat) (f : Nat → List Nat) (w : World) (hv : TreeV w v n h f) (hu : TreeV w u n h f) (hh : h ≤ 64) :
    Calls Try.prog 35 #[v, u] w fun e w' => e = .returned (.bool true) ∧ Fresh w w' := by
  obtain ⟨a, ca, rfl, la⟩ := hv
  obtain ⟨b, cb, rfl, lb⟩ := hu
  obtain ⟨W1, hW1⟩ : ∃ W1, W1 = (w.alloc (.cells #[.int .i64 (n : Int), .slice a h ca] 61)).alloc (.cells #[.int .i64 (n : Int), .slice b h cb] 61) := ⟨_, rfl⟩
  have FW : Fresh w W1 := by subst hW1; exact fresh_more (fresh_box w _ _) _ _
  have SW : W1.heap.size = w.heap.size + 2 := by subst hW1; simp
  have BA : W1.heap[w.heap.size]? = some (.cells #[.int .i64 (n : Int), .slice a h ca] 61 (0, 0)) := by
    subst hW1
    rw [(fresh_box (w.alloc (.cells #[.int .i64 (n : Int), .slice a h ca] 61)) #[.int .i64 (n : Int), .slice b h cb] 61).block w.heap.size (by simp)]
    exact heap_alloc_new w _
  have BB : W1.heap[w.heap.size + 1]? = some (.cells #[.int .i64 (n : Int), .slice b h cb] 61 (0, 0)) := by
    subst hW1
    have := heap_alloc_new (w.alloc (.cells #[.int .i64 (n : Int), .slice a h ca] 61)) (.cells #[.int .i64 (n : Int), .slice b h cb] 61 (0, 0))
    rw [show (w.alloc (.cells #[.int .i64 (n : Int), .slice a h ca] 61)).heap.size = w.heap.size + 1 by simp] at this
    exact this
  have LA := hide (la.fresh FW)
  have LB := hide (lb.fresh FW)
  have a0 := cell_block BA 0 _ rfl
  have a1 := cell_block BA 1 _ rfl
  have b0 := cell_block BB 0 _ rfl
  have b1 := cell_block BB 1 _ rfl
  have HW := hide hW1
  have FWH := hide FW
  have h64 : (h : Int) ≤ 64 := by omega
  clear la lb hW1 FW BA BB
  go_enter Try.func35, Try.ntmps35
  go_wp2
  rw [← HW.out]
  go_loopw [5] (fun i wr => ∃ j m : Nat, j ≤ h ∧ i = .int .i64 (j : Int) ∧ wr = W1.drewN m) (fun i _ => (h - intOf i).toNat)
  case atStart => exact ⟨0, 0, Nat.zero_le _, rfl, rfl⟩
  case round =>
    obtain ⟨j, m, hj, rfl, rfl⟩ := hrel
    rcases Nat.lt_or_ge j h with hjh | hjh
    · have j1 : (j : Int) < (h : Int) := by omega
      obtain ⟨xb, xo, xu, rfl, hxc, hxw⟩ := LA.out j hjh
      obtain ⟨yb, yo, yu, rfl, hyc, hyw⟩ := LB.out j hjh
      have SM := hide (fun k => rsame_to xu yu (f j) (f j) true (by simp) (W1.drewN k) (hxw.drewN k) (hyw.drewN k))
      clear hxw hyw
      go_wp2_with fail
      go_quiet ((go_at_call 51; exact quiet_more (SM.out _)))
      go_wp2
      go_roundw
      case rel => exact ⟨j + 1, _, by omega, by go_num, rfl⟩
      case measure => simp [intOf]; omega
    · obtain rfl : j = h := by omega
      go_wp2
      go_ret
      exact ⟨rfl, fresh_drewN FWH.out _⟩
end Go.Proofs.Ytegolecdmpikhaa
/- The document's own tree of a row of bits (hodmanref3's Made), as a contract. -/
namespace Go.Proofs.Ytegolecdmpikhaa
open Go.RowKit

theorem or_bit_spelt (u k : Nat) (hu : u < 18446744073709551616) (hk : k < 64) : bits .or .u64 (u : Int) (IntKind.u64.wrap (2 ^ k)) = ((u ||| 2 ^ k : Nat) : Int) := by
  have hp : (2 : Nat) ^ k < 18446744073709551616 := by
    have := Nat.pow_le_pow_right (show 0 < 2 by decide) (show k ≤ 63 by omega)
    omega
  have e : IntKind.u64.wrap (2 ^ k) = ((2 ^ k : Nat) : Int) := by
    rw [cast_pow2, IntKind.wrap_u64]; exact Int.emod_eq_of_lt (Int.natCast_nonneg _) (by omega)
  rw [e, u64_or_nat u _ hu hp]
theorem made_none (s : Int) (v : Value) (w : World) (h : s < 1 ∨ 65536 < s) : Calls Try.prog 50 #[.int .i64 s, v] w fun e w' => e = .returned noTree ∧ Fresh w w' := by
  have FB := hide (fresh_more (fresh_box w #[.int .i64 0, .slice none 0 0] 61) #[.int .i64 s, .slice none 0 0] 61)
  by_cases h1 : s < 1
  · clear h
    go_enter Try.func50, Try.ntmps50
    go_wp2
    go_returns
    exact ⟨rfl, FB.out⟩
  · have h2 : 65536 < s := by omega
    clear h h1
    go_enter Try.func50, Try.ntmps50
    go_wp2
    go_returns
    exact ⟨rfl, FB.out⟩

/-- bits that are set one by one -/
def Sets (b ln : Nat) (p : Nat → Bool) (j : Nat) (xs : List Nat) : Prop := W64 xs ∧ xs.length = ln ∧ ∀ t, t < 64 * ln → bitV xs t = (decide (t < j) && (decide (b ≤ t) || p t))
theorem sets_start (b ln : Nat) (p : Nat → Bool) : Sets b ln p 0 (List.replicate ln 0) := by
  refine ⟨zero_row ln, List.length_replicate, fun t ht => ?_⟩
  unfold bitV
  rw [List.getD_eq_getElem?_getD, List.getElem?_eq_getElem (by rw [List.length_replicate]; omega), List.getElem_replicate]
  exact Nat.zero_testBit _
theorem sets_on {b ln j : Nat} {p : Nat → Bool} {xs : List Nat} (h : Sets b ln p j xs) (hj : j < 64 * ln) (hb : (decide (b ≤ j) || p j) = true) : Sets b ln p (j + 1) (xs.set (j / 64) (xs.getD (j / 64) 0 ||| 2 ^ (j % 64))) := by
  have hp : (2 : Nat) ^ (j % 64) < 18446744073709551616 := Nat.pow_lt_pow_right (by decide) (show j % 64 < 64 by omega)
  have hx : xs.getD (j / 64) 0 ||| 2 ^ (j % 64) < 18446744073709551616 := Nat.or_lt_two_pow (n := 64) (h.1.getD _) hp
  refine ⟨set_64 h.1 _ _ hx, by rw [List.length_set]; exact h.2.1, fun t ht => ?_⟩
  rw [bitV_set _ _ _ _ (by rw [h.2.1]; omega), Nat.testBit_or, Nat.testBit_two_pow]
  by_cases e : t = j
  · subst e
    rw [if_pos rfl, decide_eq_true (show t % 64 = t % 64 from rfl), Bool.or_true, decide_eq_true (by omega), hb]; rfl
  · by_cases e2 : t / 64 = j / 64
    · rw [if_pos e2, decide_eq_false (by omega), Bool.or_false]
      have := h.2.2 t ht
      unfold bitV at this
      rw [e2] at this
      rw [this]
      congr 1
      exact decide_eq_decide.2 (by omega)
    · rw [if_neg e2, h.2.2 t ht]
      congr 1
      exact decide_eq_decide.2 (by omega)
theorem sets_off {b ln j : Nat} {p : Nat → Bool} {xs : List Nat} (h : Sets b ln p j xs) (hb : (decide (b ≤ j) || p j) = false) : Sets b ln p (j + 1) xs := by
  refine ⟨h.1, h.2.1, fun t ht => ?_⟩
  rw [h.2.2 t ht]
  by_cases e : t = j
  · subst e
    rw [hb, Bool.and_false, Bool.and_false]
  · congr 1
    exact decide_eq_decide.2 (by omega)
theorem sets_end {b : Nat} {p : Nat → Bool} {xs : List Nat} (h : Sets b ((b + 63) / 64) p (64 * ((b + 63) / 64)) xs) : xs = packV b p := by
  refine row_ext h.1 (packV_64 _ _) (by rw [h.2.1, packV_length]) fun t ht => ?_
  rw [h.2.1] at ht
  rw [h.2.2 t ht, bitV_packV b p t ht, decide_eq_true ht, Bool.true_and]
/-- the length of a slice -/
def lenOf : Value → Nat
  | .slice _ n _ => n
  | _ => 0
theorem bools_made {w0 wr w1 : World} {ln : Nat} {v : Value} (hown : w1.ownsRow w0.heap.size 4 1 v ln (madeCells (Value.bool false).cells (ln * 1)).toList) (hgrow : wr.grownBy w1 none) : OwnB w1 w0.heap.size v (List.replicate ln false) ∧ Fresh wr w1 := by
  refine ⟨?_, (Below.refl _ _).grown hgrow (Nat.le_refl _) (fun k hk => by cases hk)⟩
  unfold OwnB
  rw [List.length_replicate]
  have e : (madeCells (Value.bool false).cells (ln * 1)).toList = bvals (List.replicate ln false) := by
    unfold bvals
    rw [Nat.mul_one, List.map_replicate]
    exact toList_madeCells_one _ _
  rw [e] at hown
  exact hown
/-- bools that are told one by one -/
def Tells (row : List Nat) (ln j : Nat) (bs : List Bool) : Prop := bs.length = ln ∧ ∀ t, t < j → bs.getD t false = isFull row t
theorem tells_step {row : List Nat} {ln j : Nat} {bs : List Bool} (h : Tells row ln j bs) (hj : j < ln) : Tells row ln (j + 1) (bs.set j (isFull row j)) := by
  refine ⟨by rw [List.length_set]; exact h.1, fun t ht => ?_⟩
  by_cases e : t = j
  · subst e
    rw [List.getD_eq_getElem?_getD, List.getElem?_set_self (by rw [h.1]; exact hj)]; rfl
  · rw [List.getD_eq_getElem?_getD, List.getElem?_set_ne (fun e' => e e'.symm), ← List.getD_eq_getElem?_getD, h.2 t (by omega)]
end Go.Proofs.Ytegolecdmpikhaa
/- The document's own tree of a row of bits (hodmanref3's Made), as a contract: the walk. -/
namespace Go.Proofs.Ytegolecdmpikhaa
open Go.RowKit

theorem newW_nat (b : Nat) : newW (b : Int) = List.replicate ((b + 63) / 64) 0 := by
  unfold newW
  congr 1
theorem ofIs {row : List Nat} {ln : Nat} {bs : List Bool} (h : Tells row ln ln bs) (hr : row.length = ln) : packV ln (fun i => bs.getD i false) = upLv row := by
  unfold upLv
  rw [hr]
  exact pack_congr fun i hi => h.2 i hi

set_option maxRecDepth 100000 in
set_option maxHeartbeats 8000000 in
theorem made_nat (n : Nat) (v : Value) (bs : List Bool) (w : World) (hb : BoolsAt w v bs) (hbl : bs.length = n) (n1 : 1 ≤ n) (n2 : n ≤ 65536) :
    Calls Try.prog 50 #[.int .i64 (n : Int), v] w fun e w' => ∃ v', e = .returned v' ∧ TreeNew w.heap.size w' v' n (packV n (fun i => bs.getD i false)) ∧ Fresh w w' := by
  obtain ⟨i0, hi, hz0, hz1, hz2⟩ := infoOf infoBool
  obtain ⟨i1, hi1, hy0, hy1, hy2⟩ := infoOf infoSL
  have q1 : (1 : Int) ≤ (n : Int) := by omega
  have q2 : (n : Int) ≤ 65536 := by omega
  have G0 := hide (grows_start w n (lvV (packV n (fun i => bs.getD i false))))
  have B0 := hide (hb.fresh G0.out.bel)
  have BL := hide hbl
  have BD := hide (fun k => nb_le n n2 k)
  have BP := hide (fun k => nb_pos n n1 k)
  have TOP := hide (fun k (hk : k < nLev n) => nb_top n k n1 n2 hk)
  have LEV := hide (lev_pack n (fun i => bs.getD i false))
  have hh := nLev_in n
  obtain ⟨a0, cap0, rfl, -⟩ := hb
  have LV0 := hide (show packV (nb n 0) (fun i => bs.getD i false) = lvV (packV n (fun i => bs.getD i false)) 0 from rfl)
  generalize hPW : packV n (fun i => bs.getD i false) = PW at *
  clear hPW hbl
  go_enter Try.func50, Try.ntmps50
  go_wp2
  go_loopw [1] (fun bv wr => ∃ (k : Nat) (lv : Value) (cs : List Bool), k < nLev n ∧ BoolsAt wr bv cs ∧ cs.length = nb n k ∧ packV (nb n k) (fun i => cs.getD i false) = lvV PW k ∧ Grows w w.heap.size (w.heap.size + 1) n k (lvV PW) lv wr) (fun bv _ => lenOf bv)
  case atStart => exact ⟨0, _, bs, by omega, B0.out, BL.out, LV0.out, G0.out⟩
  case round =>
    obtain ⟨k, lv, cs, hk, hC, hcl, hpk, hG⟩ := hrel
    have CS := hide hC
    obtain ⟨a, cap, rfl, hcc⟩ := hC
    have HCC := hide hcc
    have PK := hide hpk
    have CLN := hide hcl
    have GG := hide hG
    have b1 := BP.out k
    have b2 := BD.out k
    have TP := hide (TOP.out k hk)
    have hnb : nb n (k + 1) = (nb n k + 63) / 64 := rfl
    have HNB := hide hnb
    have NW := hide (rnew_any ((nb n k : Nat) : Int) wr (by omega) (by omega))
    clear hcc hpk hG G0 B0 LV0
    rw [hcl]
    clear hcl hnb
    generalize hB : nb n k = b at *
    have B1 : (b : Int) ≤ 65536 := by omega
    have B2 : (1 : Int) ≤ (b : Int) := by omega
    obtain ⟨WO, rfl⟩ : ∃ WO, WO = wr := ⟨_, rfl⟩
    go_wp2_with fail
    refine NW.out.mono ?_
    rintro e w1 ⟨v1, rfl, ho, hf⟩
    rw [newW_nat] at ho
    obtain ⟨g, cp, hv1, hg1, _⟩ := ho.lies (by rw [List.length_replicate]; omega)
    rw [List.length_replicate] at hv1
    subst hv1
    have S0 := hide (sets_start b ((b + 63) / 64) (fun i => cs.getD i false))
    have O1 := hide ho
    have F1 := hide (show Fresh WO w1 from hf)
    have G1 := hide hg1
    have ln1 : (b + 63) / 64 ≤ 1024 := by omega
    have ln0 : 1 ≤ (b + 63) / 64 := by omega
    have lnb : b ≤ 64 * ((b + 63) / 64) := by omega
    have MEAS := hide (show (b + 63) / 64 ≠ 1 → (b + 63) / 64 < b by omega)
    have SE := hide (fun xs (h : Sets b ((b + 63) / 64) (fun i => cs.getD i false) (64 * ((b + 63) / 64)) xs) => (sets_end h).trans PK.out)
    clear ho hf hg1 NW
    generalize hLN : (b + 63) / 64 = ln at *
    have L1 : (ln : Int) ≤ 1024 := by omega
    have L0 : (1 : Int) ≤ (ln : Int) := by omega
    clear hLN
    go_wp2
    go_loopw [7] (fun i w2 => ∃ (j : Nat) (xs : List Nat), j ≤ 64 * ln ∧ i = .int .i64 (j : Int) ∧ OwnW w2 WO.heap.size (.slice (some ⟨g, 0, none⟩) ln cp) xs ∧ Sets b ln (fun i => cs.getD i false) j xs ∧ Fresh WO w2) (fun i _ => (64 * ln - intOf i).toNat)
    case atStart => exact ⟨0, _, Nat.zero_le _, rfl, O1.out, S0.out, F1.out⟩
    case round =>
      obtain ⟨j, xs, hj, rfl, hO, hS, hF⟩ := hrel
      have SS := hide hS
      have FF := hide hF
      have OO := hide hO
      have xl := hS.2.1
      have xl2 := hide xl
      clear hF
      rcases Nat.lt_or_ge j (64 * ln) with hjl | hjl
      · have j1 : (j : Int) < 64 * (ln : Int) := by omega
        have gb := G1.out
        have U := hide (hS.1.getD (j / 64))
        have hO' : OwnW wr WO.heap.size (.slice (some ⟨g, 0, none⟩) xs.length cp) xs := by rw [xl]; exact hO
        have cl := hO'.cell (j / 64) (by omega)
        have fz := hO'.free (j / 64)
        have jl : (j : Int) / 64 < (ln : Int) := by omega
        have hor := or_bit_spelt (xs.getD (j / 64) 0) (j % 64) U.out (by omega)
        have ON := hide (fun (h : (decide (b ≤ j) || cs.getD j false) = true) => sets_on SS.out hjl h)
        have PUT := hide (fun x => OO.out.put xl2.out.symm (j / 64) x)
        have FP := hide (fun x => (FF.out.setCell (p := ⟨g, j / 64, none⟩) gb (.int .u64 ((x : Nat) : Int))).drew)
        clear hO hO' hS
        by_cases hjb : b ≤ j
        · have j2 : (b : Int) ≤ (j : Int) := by omega
          have NX := hide (ON.out (by rw [decide_eq_true hjb]; rfl))
          clear hjb ON xl
          generalize xs.getD (j / 64) 0 = u at *
          go_wp2_with fail
          go_region
          go_wp2
          go_roundw
          case rel => exact ⟨j + 1, _, by omega, by go_num, PUT.out _, NX.out, FP.out _⟩
          case measure => simp [intOf]; omega
        · have j2 : (j : Int) < (b : Int) := by omega
          obtain ⟨ab, ao, rfl, hcb⟩ := HCC.out j (by rw [CLN.out]; omega)
          have hcb2 : wr.cell? ⟨ab, ao + j, none⟩ = some (.bool (cs.getD j false)) := (FF.out.cell (World.block_lt_of_cell? _ _ hcb)).trans hcb
          clear hcb
          cases hcj : cs.getD j false with
          | true =>
            have NX := hide (ON.out (by rw [hcj, Bool.or_true]))
            rw [hcj] at hcb2
            clear hcj ON xl hjb
            generalize xs.getD (j / 64) 0 = u at *
            go_wp2_with fail
            go_region
            go_wp2
            go_roundw
            case rel => exact ⟨j + 1, _, by omega, by go_num, PUT.out _, NX.out, FP.out _⟩
            case measure => simp [intOf]; omega
          | false =>
            have NX := hide (sets_off SS.out (show (decide (b ≤ j) || cs.getD j false) = false by rw [hcj, decide_eq_false hjb]; rfl))
            rw [hcj] at hcb2
            clear hcj ON xl hjb
            go_wp2
            go_roundw
            case rel => exact ⟨j + 1, xs, by omega, by go_num, OO.out, NX.out, FF.out⟩
            case measure => simp [intOf]; omega
      · have hj64 : 64 * (ln : Int) ≤ (j : Int) := by omega
        have EX := hide (show xs = lvV PW k by
          obtain rfl : j = 64 * ln := by omega
          exact SE.out xs SS.out)
        have G3 := hide (GG.out.fresh FF.out)
        have O3 := hide (show OwnW wr w.heap.size (.slice (some ⟨g, 0, none⟩) ln cp) (lvV PW k) by rw [← EX.out]; exact OO.out.mono GG.out.bel.size)
        obtain ⟨us, hus, hlv, hrows⟩ := G3.out.own
        have US := hide hus
        have LV3 := hide hlv
        have RW3 := hide hrows
        have c4 := G3.out.cellT
        have T1 : w.heap.size + 1 < wr.heap.size := G3.out.ltT
        have m1 : k + 1 ≤ maxLen := by unfold maxLen; omega
        have m2 : (k + 1) * 24 ≤ 140737488355328 := by omega
        have m3 : ∀ o, w.heap.size ≤ (wr.alloc o).heap.size := fun o => by simp; omega
        have AP := hide (show ∀ v1 w3, w3.ownsRow w.heap.size 79 1 v1 (k + 1) (us ++ [.slice (some ⟨g, 0, none⟩) ln cp]) → (wr.alloc (.cells #[.slice (some ⟨g, 0, none⟩) ln cp] 79)).grownBy w3 lv.ownBlock → _ from fun v1 w3 ho hg => Grows.append (lv' := v1) (G3.out.fresh (fresh_box _ _ _)) US.out (fun i hi => (RW3.out i hi).fresh (fresh_box _ _ _)) (ownsRow_fresh LV3.out (fresh_box _ _ _)) (O3.out.fresh (fresh_box _ _ _)) ho hg)
        have XK := hide xl
        clear hus hlv hrows hO hS xl hj64 SE S0 O1 F1 CS HCC PK CLN SS OO FF
        have hj64 : 64 * (ln : Int) ≤ (j : Int) := by omega
        by_cases hone : ln = 1
        · have HK := hide (TP.out.1 (by rw [HNB.out, hone]))
          have z : ((ln : Int) == 1) = true := by rw [hone]; rfl
          clear hone
          go_wp2_with (at_builtin; refine wpList_append_own _ rfl _ _ 59 rfl w.heap.size 79 i1 (.slice none 0 0) 1 24 Try.underlying59 hi1 hy0 hy1 hy2 rfl (by decide) _ _ _ rfl (World.ownsRow.alloc LV3.out _) ⟨wr.heap.size, 0, none⟩ 1 1 [.slice (some ⟨g, 0, none⟩) ln cp] rfl rfl (news_one' _ _ _) (one_slice _ _ _) m1 m2 (m3 _) ?_; intro v1 w3 hown hgrow _; obtain ⟨g3, cap3, rfl⟩ := own_shape hown (Nat.le_add_left 1 k); have A := hide (AP.out _ w3 hown hgrow); have OW := hide hown; clear hown hgrow; have d1 := cell_block A.out.2.1 1 _ rfl; have d0 := cell_block A.out.2.1 0 _ rfl; have e1 := free_block A.out.2.1 1; have r0 := cell_block A.out.1 0 _ rfl; have r1 := cell_block A.out.1 1 _ rfl; have f0 := free_block A.out.1 0; have f1 := free_block A.out.1 1)
          have GS := hide (Grows.store (f := lvV PW) (by omega) (by omega) (show (us ++ [Value.slice (some ⟨g, 0, none⟩) ln cp]).length = k + 1 by rw [List.length_append, US.out]; rfl) A.out.1 A.out.2.1 OW.out A.out.2.2.1 A.out.2.2.2)
          have DN := hide (fun x y => Grows.done (by have := GS.out; rw [HK.out] at this; exact this) n1 n2 LEV.out (Nat.le_refl _) x y)
          have RS := hide (fun x y => result_cells GS.out x y)
          rw [HK.out] at RS ⊢
          obtain ⟨h0, h1⟩ := RS.out (.int .i64 (n : Int)) (.slice (some ⟨g3, 0, none⟩) (nLev n) cap3)
          have DN1 := hide (DN.out (.int .i64 (n : Int)) (.slice (some ⟨g3, 0, none⟩) (nLev n) cap3))
          clear DN RS d0 d1 e1 r0 r1 f0 f1
          generalize World.setCell _ ⟨w.heap.size, 1, none⟩ _ = W at h0 h1 DN1 ⊢
          refine bodyPost_ret (by simp [results, Try.results50, go_sem, h0, h1]; try rfl) rfl ?_
          exact ⟨_, rfl, DN1.out⟩
        · have z : ((ln : Int) == 1) = false := by rw [beq_eq_false_iff_ne]; omega
          have hb1 : i0.bytes * ln ≤ 281474976710656 := by rw [hz2]; omega
          have hmx : ln ≤ maxLen := by unfold maxLen; omega
          have SZ3 := hide (fun (w3 : World) (hf : Fresh w w3) => show w.heap.size ≤ w3.heap.size from hf.size)
          have MK := hide (fun (W4 w5 : World) hown hgrow => bools_made (w0 := w) (wr := W4) (w1 := w5) (ln := ln) (v := .slice (some ⟨W4.heap.size, 0, none⟩) ln ln) hown hgrow)
          go_wp2_with (first | (at_builtin; refine wpList_append_own _ rfl _ _ 59 rfl w.heap.size 79 i1 (.slice none 0 0) 1 24 Try.underlying59 hi1 hy0 hy1 hy2 rfl (by decide) _ _ _ rfl (World.ownsRow.alloc LV3.out _) ⟨wr.heap.size, 0, none⟩ 1 1 [.slice (some ⟨g, 0, none⟩) ln cp] rfl rfl (news_one' _ _ _) (one_slice _ _ _) m1 m2 (m3 _) ?_; intro v1 w3 hown hgrow _; obtain ⟨g3, cap3, rfl⟩ := own_shape hown (Nat.le_add_left 1 k); have A := hide (AP.out _ w3 hown hgrow); have OW := hide hown; clear hown hgrow; have d1 := cell_block A.out.2.1 1 _ rfl; have d0 := cell_block A.out.2.1 0 _ rfl; have e1 := free_block A.out.2.1 1; have r0 := cell_block A.out.1 0 _ rfl; have r1 := cell_block A.out.1 1 _ rfl; have f0 := free_block A.out.1 0; have f1 := free_block A.out.1 1) | (at_make; refine wpList_make_full _ rfl _ _ 64 rfl w.heap.size 4 i0 (.bool false) 1 Try.underlying64 hi hz0 hz1 _ _ _ _ ln rfl rfl rfl rfl hb1 hmx (by simp; exact SZ3.out _ A.out.2.2.2) ?_; intro w5 hown5 hgrow5; have MM := hide (MK.out _ w5 hown5 hgrow5); clear hown5 hgrow5))
          have GS := hide (Grows.store (f := lvV PW) (by omega) (by omega) (show (us ++ [Value.slice (some ⟨g, 0, none⟩) ln cp]).length = k + 1 by rw [List.length_append, US.out]; rfl) A.out.1 A.out.2.1 OW.out A.out.2.2.1 A.out.2.2.2)
          have RK := hide (show OwnW (w3.setCell ⟨w.heap.size + 1, 1, none⟩ (.slice (some ⟨g3, 0, none⟩) (k + 1) cap3)) w.heap.size (.slice (some ⟨g, 0, none⟩) ln cp) (lvV PW k) by
            have h1 := A.out.2.2.1 k (by omega)
            have e : (us ++ [Value.slice (some ⟨g, 0, none⟩) ln cp]).getD k (.slice none 0 0) = .slice (some ⟨g, 0, none⟩) ln cp := by
              rw [List.getD_eq_getElem?_getD, List.getElem?_append_right (by rw [US.out]; omega), US.out, Nat.sub_self]; rfl
            rw [e] at h1
            exact h1.stays (Stays.setCell A.out.2.1 (by decide) 1 _))
          have sz : (w3.setCell ⟨w.heap.size + 1, 1, none⟩ (.slice (some ⟨g3, 0, none⟩) (k + 1) cap3)).heap.size = w3.heap.size := by simp [World.setCell]
          have MM2 := MM.out
          rw [sz] at MM2
          have LK := hide (show (lvV PW k).length = ln by rw [lv_length LEV.out k, HNB.out])
          have SZ := hide sz
          have KLT := hide (show nb n (k + 1) ≠ 1 by rw [HNB.out]; exact hone)
          have ME := hide (MEAS.out hone)
          clear sz MM d0 d1 e1 r0 r1 f0 f1 A OW AP LV3 RW3 O3 G3 US c4 T1 m1 m2 m3 MK SZ3 z hone MEAS
          obtain ⟨W4, hW4⟩ : ∃ W4, W4 = w3.setCell ⟨w.heap.size + 1, 1, none⟩ (.slice (some ⟨g3, 0, none⟩) (k + 1) cap3) := ⟨_, rfl⟩
          rw [← hW4] at GS RK SZ MM2
          clear hW4
          have OB := hide MM2.1
          have FB := hide MM2.2
          have T0 := hide (show Tells (lvV PW k) ln 0 (List.replicate ln false) from ⟨List.length_replicate, fun t ht => by omega⟩)
          clear MM2
          go_loopw [8] (fun i w6 => ∃ (j : Nat) (ds : List Bool), j ≤ ln ∧ i = .int .i64 (j : Int) ∧ OwnB w6 w.heap.size (.slice (some ⟨w3.heap.size, 0, none⟩) ln ln) ds ∧ Tells (lvV PW k) ln j ds ∧ Fresh W4 w6) (fun i _ => (ln - intOf i).toNat)
          case atStart => exact ⟨0, _, Nat.zero_le _, rfl, OB.out, T0.out, FB.out⟩
          case round =>
            obtain ⟨j2, ds, hj2, rfl, hO2, hT2, hF2⟩ := hrel
            have TT := hide hT2
            have FF2 := hide hF2
            have OO2 := hide hO2
            clear hO2 hF2 OB FB T0
            rcases Nat.lt_or_ge j2 ln with hjl | hjl
            · have j3 : (j2 : Int) < (ln : Int) := by omega
              have rk : OwnW wr w.heap.size (.slice (some ⟨g, 0, none⟩) (lvV PW k).length cp) (lvV PW k) := by rw [LK.out]; exact RK.out.fresh FF2.out
              have cw := rk.cell j2 (by rw [LK.out]; exact hjl)
              have cb := OO2.out.cell TT.out.1.symm j2 hjl
              have fb := OO2.out.free TT.out.1.symm j2
              have PB := hide (fun b => OO2.out.put TT.out.1.symm j2 b)
              have FP := hide (fun b => FF2.out.setCell (p := ⟨w3.heap.size, j2, none⟩) (by rw [SZ.out]; exact Nat.le_refl _) (.bool b))
              have NX := hide (tells_step TT.out hjl)
              have FULL := hide (show isFull (lvV PW k) j2 = decide ((lvV PW k).getD j2 0 = 18446744073709551615) from rfl)
              clear rk hT2
              generalize (lvV PW k).getD j2 0 = u at *
              obtain ⟨bb, z⟩ : ∃ bb, ((u : Int) == 18446744073709551615) = bb := ⟨_, rfl⟩
              have FBB := hide (show isFull (lvV PW k) j2 = bb by
                rw [FULL.out, ← z]
                by_cases hu : u = 18446744073709551615
                · rw [decide_eq_true hu, hu]; rfl
                · rw [decide_eq_false hu]; exact (beq_eq_false_iff_ne.2 (by omega)).symm)
              go_wp2
              go_roundw
              case rel => exact ⟨j2 + 1, ds.set j2 bb, by omega, by go_num, PB.out _, by have := NX.out; rw [FBB.out] at this; exact this, FP.out _⟩
              case measure => simp [intOf]; omega
            · obtain rfl : j2 = ln := by omega
              have PKN := hide (ofIs TT.out LK.out)
              have BN := hide OO2.out.at
              have GN := hide (GS.out.fresh FF2.out)
              have LTN := hide (show k + 1 < nLev n by have h1 := KLT.out; have h2 := TP.out; omega)
              have TL1 := hide TT.out.1
              clear hT2
              go_wp2
              go_roundw
              case rel => exact ⟨k + 1, _, ds, LTN.out, BN.out, by rw [TL1.out, HNB.out], by rw [HNB.out]; exact PKN.out, GN.out⟩
              case measure =>
                have := ME.out
                simp [lenOf]; omega
end Go.Proofs.Ytegolecdmpikhaa
/- The document's own Set of a tree (hodmanref3's SetTree), as a contract. -/
namespace Go.Proofs.Ytegolecdmpikhaa
open Go.RowKit

/-- the worlds ahead of a call: the tree's own block, the result's -/
theorem set_start' (w : World) (c : Array Value) : ∃ W1, W1 = (w.alloc (.cells c 61)).alloc (.cells #[.int .i64 0, .slice none 0 0] 61) ∧ Fresh w W1 ∧ W1.heap.size = w.heap.size + 2 ∧ W1.heap[w.heap.size]? = some (.cells c 61 (0, 0)) ∧ W1.heap[w.heap.size + 1]? = some (.cells #[.int .i64 0, .slice none 0 0] 61 (0, 0)) := by
  refine ⟨_, rfl, fresh_more (fresh_box w _ _) _ _, by simp, ?_, ?_⟩
  · rw [(fresh_box (w.alloc (.cells c 61)) #[.int .i64 0, .slice none 0 0] 61).block w.heap.size (by simp)]
    exact heap_alloc_new w _
  · have := heap_alloc_new (w.alloc (.cells c 61)) (.cells #[.int .i64 0, .slice none 0 0] 61 (0, 0))
    rw [show (w.alloc (.cells c 61)).heap.size = w.heap.size + 1 by simp] at this
    exact this
/-- bits, set as far as j -/
def Puts (n : Nat) (ws us : List Nat) (j : Nat) (bs : List Bool) : Prop := bs.length = n ∧ ∀ t, t < n → bs.getD t false = if t < j then bitV us t else bitV ws t
theorem puts_start (n : Nat) (ws us : List Nat) : Puts n ws us 0 (bitsL n ws) := ⟨bitsL_length n ws, fun t ht => by rw [if_neg (by omega), bitsL_get n ws t ht]⟩
theorem puts_on {n : Nat} {ws us : List Nat} {j : Nat} {bs : List Bool} (h : Puts n ws us j bs) (b : Bool) (hb : bitV us j = b) : Puts n ws us (j + 1) (bs.set j b) := by
  refine ⟨by rw [List.length_set]; exact h.1, fun t ht => ?_⟩
  by_cases e : t = j
  · subst e
    rw [if_pos (by omega), List.getD_eq_getElem?_getD, List.getElem?_set_self (by rw [h.1]; exact ht), hb]; rfl
  · rw [List.getD_eq_getElem?_getD, List.getElem?_set_ne (fun e' => e e'.symm), ← List.getD_eq_getElem?_getD, h.2 t ht]
    by_cases h2 : t < j
    · rw [if_pos h2, if_pos (by omega)]
    · rw [if_neg h2, if_neg (by omega)]
theorem puts_off {n : Nat} {ws us : List Nat} {j : Nat} {bs : List Bool} (h : Puts n ws us j bs) (hb : bitV us j = bitV ws j) : Puts n ws us (j + 1) bs := by
  refine ⟨h.1, fun t ht => ?_⟩
  rw [h.2 t ht]
  by_cases h2 : t < j
  · rw [if_pos h2, if_pos (by omega)]
  · rw [if_neg h2]
    by_cases e : t = j
    · subst e; rw [if_pos (by omega), hb]
    · rw [if_neg (by omega)]
theorem puts_end {n : Nat} {ws us : List Nat} {bs : List Bool} (h : Puts n ws us n bs) (hl : Lev n us) : packV n (fun i => bs.getD i false) = us :=
  lev_pack_eq hl fun i hi => by rw [h.2 i hi, if_pos hi]
theorem setT_bit {n : Nat} {ws : List Nat} (h : Lev n ws) (f m : Int) (on : Bool) (i : Nat) (hi : i < n) : bitV (setT n ws f m on) i = if 0 ≤ f ∧ 0 ≤ m ∧ f ≤ (i : Int) ∧ (i : Int) - f < m then on else bitV ws i := by
  by_cases hc : f < 0 ∨ m < 0
  · rw [if_neg (by omega)]
    unfold setT
    rw [if_pos hc]
  · obtain ⟨F, rfl⟩ : ∃ F : Nat, f = F := ⟨f.toNat, by omega⟩
    obtain ⟨M, rfl⟩ : ∃ M : Nat, m = M := ⟨m.toNat, by omega⟩
    rw [bit_setT h F M on i hi]
    by_cases h2 : F ≤ i ∧ i < F + M
    · rw [if_pos h2, if_pos (by omega)]
    · rw [if_neg h2, if_neg (by omega)]

set_option maxRecDepth 100000 in
set_option maxHeartbeats 2000000 in
theorem rtset_any (v : Value) (n : Nat) (ws : List Nat) (f m : Int) (on : Bool) (w : World) (h : TreeAt w v n ws) (hf' : f ≤ 9223372036854775807) (hm' : m ≤ 9223372036854775807) :
    Calls Try.prog 45 #[v, .int .i64 f, .int .i64 m, .bool on] w fun e w' => ∃ v', e = .returned v' ∧ TreeNew w.heap.size w' v' n (setT n ws f m on) ∧ Fresh w w' := by
  have T := hide h
  obtain ⟨n1, n2, hlev, a, cap, rfl, hlv⟩ := h
  have q1 : (1 : Int) ≤ (n : Int) := by omega
  have q2 : (n : Int) ≤ 65536 := by omega
  obtain ⟨W1, hW1, FW, SW, BX, RX⟩ := set_start' w #[.int .i64 (n : Int), .slice a (nLev n) cap]
  have BT := hide (tbits_any _ n ws W1 (T.out.fresh FW))
  have HW := hide hW1
  have FWH := hide FW
  have bx0 := cell_block BX 0 _ rfl
  have bx1 := cell_block BX 1 _ rfl
  have BXH := hide BX
  have RXH := hide RX
  have SB := hide (fun i hi => setT_bit hlev f m on i hi)
  have LU := hide (lev_setT hlev f m on)
  generalize hUS : setT n ws f m on = us at *
  clear hlv hlev hW1 FW BX RX T hUS
  generalize nLev n = N at *
  go_enter Try.func45, Try.ntmps45
  go_wp2_with fail
  rw [← HW.out]
  refine BT.out.mono ?_
  rintro e w1 ⟨g, c, rfl, ho, hf1⟩
  have OB := hide ho
  have F1 := hide hf1
  have GB := hide (show W1.heap.size ≤ g from (World.ownsRow.lt ho g (by simp [Value.ownBlock])).1)
  clear ho hf1 BT
  go_wp2
  go_loopw [10] (fun i wr => ∃ (j : Nat) (bs : List Bool), j ≤ n ∧ i = .int .i64 (j : Int) ∧ OwnB wr W1.heap.size (.slice (some ⟨g, 0, none⟩) n c) bs ∧ Puts n ws us j bs ∧ Fresh W1 wr) (fun i _ => (n - intOf i).toNat)
  case atStart => exact ⟨0, _, Nat.zero_le _, rfl, OB.out, puts_start n ws us, F1.out⟩
  case round =>
    obtain ⟨j, bs, hj, rfl, hO, hP, hF⟩ := hrel
    have OO := hide hO
    have PP := hide hP
    have FF := hide hF
    have bl := hide hP.1
    clear OB F1
    rcases Nat.lt_or_ge j n with hjn | hjn
    · have j1 : (j : Int) < (n : Int) := by omega
      have cb := hO.cell hP.1.symm j hjn
      have fb := hO.free hP.1.symm j
      have PB := hide (fun b => OO.out.put bl.out.symm j b)
      have FP := hide (fun b => FF.out.setCell (p := ⟨g, j, none⟩) GB.out (.bool b))
      have B := hide (SB.out j hjn)
      clear hO hP hF
      generalize bs.getD j false = old at *
      by_cases c1 : 0 ≤ f
      · by_cases c2 : 0 ≤ m
        · by_cases c3 : f ≤ (j : Int)
          · by_cases c4 : (j : Int) - f < m
            · have NX := hide (puts_on PP.out on (by rw [B.out, if_pos ⟨c1, c2, c3, c4⟩]))
              go_wp2
              go_roundw
              case rel => exact ⟨j + 1, _, by omega, by go_num, PB.out _, NX.out, FP.out _⟩
              case measure => simp [intOf]; omega
            · have NX := hide (puts_off PP.out (by rw [B.out, if_neg (by omega)]))
              have c4' : m ≤ (j : Int) - f := by omega
              clear c4
              go_wp2
              go_roundw
              case rel => exact ⟨j + 1, bs, by omega, by go_num, OO.out, NX.out, FF.out⟩
              case measure => simp [intOf]; omega
          · have NX := hide (puts_off PP.out (by rw [B.out, if_neg (by omega)]))
            have c3' : (j : Int) < f := by omega
            clear c3
            go_wp2
            go_roundw
            case rel => exact ⟨j + 1, bs, by omega, by go_num, OO.out, NX.out, FF.out⟩
            case measure => simp [intOf]; omega
        · have NX := hide (puts_off PP.out (by rw [B.out, if_neg (by omega)]))
          have c2' : m < 0 := by omega
          clear c2
          go_wp2
          go_roundw
          case rel => exact ⟨j + 1, bs, by omega, by go_num, OO.out, NX.out, FF.out⟩
          case measure => simp [intOf]; omega
      · have NX := hide (puts_off PP.out (by rw [B.out, if_neg (by omega)]))
        have c1' : f < 0 := by omega
        clear c1
        go_wp2
        go_roundw
        case rel => exact ⟨j + 1, bs, by omega, by go_num, OO.out, NX.out, FF.out⟩
        case measure => simp [intOf]; omega
    · obtain rfl : j = n := by omega
      have MD := hide (made_nat j (.slice (some ⟨g, 0, none⟩) j c) bs wr (by have := hO.at; exact this) hP.1 n1 n2)
      have EQ := hide (puts_end hP LU.out)
      have hbx : wr.heap[w.heap.size]? = some (.cells #[.int .i64 (j : Int), .slice a N cap] 61 (0, 0)) := by rw [hF.block w.heap.size (by omega)]; exact BXH.out
      have hrx : wr.heap[w.heap.size + 1]? = some (.cells #[.int .i64 0, .slice none 0 0] 61 (0, 0)) := by rw [hF.block (w.heap.size + 1) (by omega)]; exact RXH.out
      have b0 := cell_block hbx 0 _ rfl
      have HRX := hide hrx
      have SZ := hide hF.size
      have FWR := hide (show Fresh w wr from FWH.out.trans hF)
      clear hO hP hF hbx hrx
      go_wp2_with fail
      refine MD.out.mono ?_
      rintro e w2 ⟨v2, rfl, t2, f2⟩
      rw [EQ.out] at t2
      obtain ⟨_, _, _, a2, c2, rfl, _⟩ := t2.at
      have rx2 : w2.heap[w.heap.size + 1]? = some (.cells #[.int .i64 0, .slice none 0 0] 61 (0, 0)) := by rw [f2.block (w.heap.size + 1) (by have := SZ.out; omega)]; exact HRX.out
      have r0 := cell_block rx2 0 _ rfl
      have r1 := cell_block rx2 1 _ rfl
      have f0 := free_block rx2 0
      have f1 := free_block rx2 1
      have TS := hide (fun x y => (t2.store (T := w.heap.size + 1) (by have := SZ.out; omega) x y).mono FWR.out.size)
      have FS := hide (fun x y => ((FWR.out.trans f2).setCell (p := ⟨w.heap.size + 1, 0, none⟩) (show w.heap.size ≤ w.heap.size + 1 by omega) x).setCell (p := ⟨w.heap.size + 1, 1, none⟩) (show w.heap.size ≤ w.heap.size + 1 by omega) y)
      have W2 := hide (fun x y => two_cells rx2 x y)
      clear rx2 t2 f2
      go_wp2
      have W3 := hide (W2.out (.int .i64 (j : Int)) (.slice a2 (nLev j) c2))
      have T3 := hide (TS.out (.int .i64 (j : Int)) (.slice a2 (nLev j) c2))
      have F3 := hide (FS.out (.int .i64 (j : Int)) (.slice a2 (nLev j) c2))
      clear W2 TS FS r0 r1 f0 f1
      generalize World.setCell _ ⟨w.heap.size + 1, 1, none⟩ _ = W at W3 T3 F3 ⊢
      have h0 := cell_block W3.out 0 _ rfl
      have h1 := cell_block W3.out 1 _ rfl
      refine bodyPost_ret (by simp [results, Try.results45, go_sem, h0, h1]; try rfl) rfl ?_
      exact ⟨_, rfl, T3.out, F3.out⟩
end Go.Proofs.Ytegolecdmpikhaa
